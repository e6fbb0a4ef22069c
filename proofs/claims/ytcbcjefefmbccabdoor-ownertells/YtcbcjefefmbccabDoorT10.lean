/-
  OwnerTells returns true whatever the nodes, the ID and the node: the tied card OwnerTellsCardSaid. Conditions: those of the card itself (the listed sentinels and tables lie as the program's text lays them).
-/
import Derived.Test.YtcbcjefefmbccabDoorCards
import Derived.Test.YtcbcjefefmbccabDoorTie
import Derived.Test.YtcbcjefefmbccabDoorT02
import Derived.Test.YtcbcjefefmbccabDoorT09
import Derived.WalkKit
import Derived.ProofKit
import Derived.OpenShut
import Derived.Carry
import Derived.Lib.SmallJoins
import Derived.LaidMore
import Derived.LaidSub
import Derived.Lib.LaidTab
import Derived.Deep.DeepHandedRow
import Derived.Deep.DeepWitnessRowRef
import Derived.Deep.Strs
namespace Go.Proofs.YtcbcjefefmbccabDoor.ownerTellsCard
open Go.ChangeShapes Go.WideShapes Go.ChangeAt Go.RowKit Go.Joins
open Go.Deep (open_slice choose_lt add_add)

theorem own : ownKnob Tryd.prog.godebug = none := by kernel_rfl
theorem gTabType : (Tryd.prog.globals[ 13 ]?).map (·.type) = some 116 := by kernel_rfl
theorem cellsTab : Tryd.prog.cellsOf 116 = 20 := by kernel_rfl
theorem cells64 : Tryd.prog.cellsOf 109 = 1 := by kernel_rfl
theorem wfI (n : Int) : (Lit.int .i64 n).wf = true ↔ -9223372036854775808 ≤ n ∧ n ≤ 9223372036854775807 := by
  show (decide (IntKind.i64.min ≤ n) && decide (n ≤ IntKind.i64.max)) = true ↔ _
  rw [show IntKind.i64.min = -9223372036854775808 from rfl, show IntKind.i64.max = 9223372036854775807 from rfl, Bool.and_eq_true, decide_eq_true_eq, decide_eq_true_eq]
theorem laidOutO : laidOutB Tryd.prog = true := by kernel_rfl
theorem cellsInt : Tryd.prog.cellsOf 3 = 1 := by kernel_rfl
theorem cellsID : Tryd.prog.cellsOf 25 = 2 := by kernel_rfl
theorem errs {W : World} (h : laidMetH Tryd.prog Rows.ownerTellsRow.laid W) : ∃ a, ErrW W a :=
  errW_of_laid (show laidMetH Tryd.prog errLaid W from laidMetH.filter (fun x => x.1 == "errors.errorType" || errSents.any (fun y => y.1 == x.1)) h)
theorem table {W : World} (h : laidMetH Tryd.prog Rows.ownerTellsRow.laid W) : Pow10 W :=
  Lib.tabIs_of_head (P := Tryd.prog) (rest := []) gPow10 gTabType Tryd.underlying116 Tryd.underlying109 cells64 cellsTab
    (show laidMetH Tryd.prog [("internal/strconv.uint64pow10", Rows.laid_internal_strconv_uint64pow10)] W from laidMetH.filter (fun x => x.1 == "internal/strconv.uint64pow10") h)
set_option maxRecDepth 100000 in
theorem ints_open {H : Type} {enc : TypeId × Value → H} {W : World} {a0 : Option Addr} {len cap : Nat} {d : DataW H} {ps : List MemPlace} (h : DataW.Trod enc Tryd.prog W 0 (fun _ => true) true 22 (.slice a0 len cap) d ps) :
    ∃ l : List Int, IntsC W (.slice a0 len cap) l ∧ IntsE W (.slice a0 len cap) l := by
  obtain ⟨fuel, hf⟩ := h
  rcases open_slice Tryd.underlying22 hf with ⟨hcs, _⟩ | ⟨a, len', cap', m, n, D, Pl, hcs, _, hl, hm, hmm, _, hel⟩
  · simp [Value.cells] at hcs
    obtain ⟨rfl, rfl, rfl⟩ := hcs
    exact ⟨[], ⟨none, 0, rfl, fun i hi => by simp at hi⟩, .inl (.inl ⟨rfl, rfl⟩)⟩
  · simp [Value.cells] at hcs
    obtain ⟨rfl, rfl, rfl⟩ := hcs
    have hlm : len ≤ m := by rw [hmm]; simpa using hl
    rw [cellsInt] at hel
    have each : ∀ i, i < len → ∃ q : Int, W.cell? (a.add (i * 1)) = some (.int .i64 q) := by
      intro i hi
      obtain ⟨cs', h1, h2⟩ := hel i (by omega)
      obtain ⟨_, hlen, hcell⟩ := World.cells?_some h1
      match cs', hlen with
      | [v0], _ =>
        obtain ⟨p, e0, _, w0⟩ := DataW.trod_int Tryd.underlying3 h2
        simp at e0
        subst e0
        have c0 := hcell 0 (by omega)
        rw [add_add] at c0
        exact ⟨p, by simpa using c0⟩
    obtain ⟨f, hf'⟩ := choose_lt each
    refine ⟨(List.range len).map f, ⟨some a, cap, by simp, fun i hi => ?_⟩, ?_⟩
    · have hi' : i < len := by simpa using hi
      obtain ⟨b, off, spot⟩ := a
      have hspot : spot = none := by simpa [Addr.add] using World.cell?_spot (hf' 0 (by omega))
      subst hspot
      have c0 := hf' i hi'
      have ha : ∀ j, (⟨b, off, none⟩ : Addr).add j = ⟨b, off + j, none⟩ := fun j => by unfold Addr.add; split <;> simp_all
      rw [ha, Nat.mul_one] at c0
      simp only [List.getElem_map, List.getElem_range]
      exact ⟨b, off, rfl, ⟨lt_of_cell c0, by simp; omega⟩, c0⟩
    · by_cases h0 : len = 0
      · subst h0
        exact .inr ⟨rfl, a, cap, rfl⟩
      · refine (.inl (IntsS.of_c ⟨some a, cap, by simp, fun i hi => ?_⟩ (fun e => h0 (by simpa using e))))
        have hi' : i < len := by simpa using hi
        obtain ⟨b, off, spot⟩ := a
        have hspot : spot = none := by simpa [Addr.add] using World.cell?_spot (hf' 0 (by omega))
        subst hspot
        have c0 := hf' i hi'
        have ha : ∀ j, (⟨b, off, none⟩ : Addr).add j = ⟨b, off + j, none⟩ := fun j => by unfold Addr.add; split <;> simp_all
        rw [ha, Nat.mul_one] at c0
        simp only [List.getElem_map, List.getElem_range]
        exact ⟨b, off, rfl, ⟨lt_of_cell c0, by simp; omega⟩, c0⟩
set_option maxRecDepth 100000 in
theorem contract (H : Type) (enc : TypeId × Value → H) (W : World) (base : Nat) (args : Array Value) (ds gs : List (DataW H)) (before : List MemPlace)
    (hval : ∀ (j : Nat) t v, Tryd.f4.params[j]? = some t → args[j]? = some v → Value.okWide Tryd.prog W .any base t v)
    (hW : DataW.Whole enc Tryd.prog Tryd.f4.params.toList Rows.ownerTellsSpec.vars false W args.toList ds gs before) (hL : laidMetH Tryd.prog Rows.ownerTellsRow.laid W) :
    Calls Tryd.prog 4 args W fun e W' => ∃ v, e = .returned v ∧ Rows.ownerTellsSpec.post enc Tryd.prog Tryd.f4 false true false false W args v W' := by
  have hW' := hW
  obtain ⟨p, q, hA0, hV, rfl, hfz, hnd⟩ := hW
  have hA : DataW.TrodAll enc Tryd.prog W 0 (fun _ => true) true Tryd.f4.params.toList args.toList ds p := hA0
  rw [Tryd.params4] at hA hval
  obtain ⟨v0, vs0, d0, ds0, p0, q0, hargs, rfl, rfl, h0, r0⟩ := trodAll_cons hA
  obtain ⟨v1, vs1, d1, ds1, p1, q1, rfl, rfl, rfl, h1, r1⟩ := trodAll_cons r0
  obtain ⟨v2, vs2, d2, ds2, p2, q2, rfl, rfl, rfl, h2, r2⟩ := trodAll_cons r1
  obtain ⟨rfl, rfl, rfl⟩ := trodAll_nil r2
  obtain rfl : args = #[v0, v1, v2] := Array.toList_inj.1 hargs
  obtain ⟨rfl, rfl⟩ := trodVars_none hV
  obtain ⟨a0, len, cap, rfl⟩ := okWide_slice Tryd.underlying22 (hval 0 22 v0 rfl rfl)
  obtain ⟨c0, c1, y0, y1, m, rfl, rfl, rfl, hy0, hy1⟩ := open_agg2 Tryd.underlying25 (by kernel_rfl) cellsID (hval 1 25 v1 rfl rfl) h1
  obtain ⟨n, e0, rfl, wn⟩ := DataW.trod_int Tryd.underlying23 hy0
  obtain ⟨l, e1, rfl, wl⟩ := DataW.trod_int Tryd.underlying3 hy1
  simp at e0 e1
  subst e0 e1
  obtain ⟨nd, rfl, rfl, rfl, wnd⟩ := open_int Tryd.underlying3 (hval 2 3 v2 rfl rfl) h2
  clear hA0
  simp only [List.append_nil] at hW'
  have hlt : ∀ x ∈ p0, x.block < W.heap.size := fun x hx => hW'.lt x (by simp [hx])
  obtain ⟨xs, hxs, hxs2⟩ := ints_open h0
  have hnb := bounds_u32 wn
  have hwl := wl
  rw [wfI] at hwl
  have hwn := wnd
  rw [wfI] at hwn
  obtain ⟨n', rfl⟩ := Int.eq_ofNat_of_zero_le hnb.1
  obtain ⟨aE, hE⟩ := errs hL
  refine (ownerTells_any aE (n', l) (by show n' < 4294967296; omega) (by show l ≤ _; omega) _ xs nd (by omega) W hxs2 hE (table hL)).mono fun e W' ⟨he, hg⟩ => ?_
  subst he
  refine ⟨_, rfl, _, _, _, [], p0 ++ ([] ++ ([] ++ [])), [], hW', ?_, ?_, ?_, hg.frame _, fun h => by cases h⟩
  · exact trodAll_cons_mk (shut_bool Tryd.underlying4 _) trodAll_mk0
  · exact trodAll_cons_mk (Below.trod laidOutO (by kernel_rfl) (of_decide_eq_true (by kernel_rfl)) h0 hg hlt)
      (trodAll_cons_mk (v := .agg #[.int .u32 (n' : Nat), .int .i64 l]) (shut_agg2 (v0 := .int .u32 (n' : Nat)) (v1 := .int .i64 l) (y0 := (.lit (.int .u32 (n' : Int)), [])) (y1 := (.lit (.int .i64 l), [])) Tryd.underlying25 (by kernel_rfl) cellsID ⟨1, by simp [DataW.trod, Tryd.underlying23, wn]⟩ ⟨1, by simp [DataW.trod, Tryd.underlying3, wl]⟩)
        (trodAll_cons_mk (shut_int Tryd.underlying3 wnd) trodAll_mk0))
  · rfl
theorem laid_met (os : Os) : laidMetH Tryd.prog Rows.ownerTellsRow.laid ((World.doorLaid Tryd.prog 259 os).forCall (fun _ _ => 0) ⟨#[], #[.slice none 0 0, idV 0 0, .int .i64 0], []⟩).memory :=
  laidMetH_of_parts3 (fuel := 8) (laidMet_of_run' 8 (by kernel_rfl) (by kernel_rfl)) (by kernel_rfl) (by kernel_rfl)
theorem reads (os : Os) {H : Type} (enc : TypeId × Value → H) : ∃ places, DataW.whole enc Tryd.prog ((World.doorLaid Tryd.prog 259 os).forCall (fun _ _ => 0) ⟨#[], #[.slice none 0 0, idV 0 0, .int .i64 0], []⟩).memory Tryd.f4.params.toList Rows.ownerTellsSpec.vars false (#[.slice none 0 0, idV 0 0, .int .i64 0] : Array Value).toList 8 = some ([.nil, .agg [.lit (.int .u32 0), .lit (.int .i64 0)], .lit (.int .i64 0)], [], places) :=
  ⟨[], by kernel_rfl⟩
set_option maxRecDepth 100000 in
theorem lifted (os : Os) (started : os.Started) (H : Type) (enc : TypeId × Value → H) (F : Stop.Interp) :
    ReturnsInHanded {} Tryd.checked os 4 .any ((OpenSpec.ofChange Rows.ownerTellsSpec).preRow enc Tryd.prog Tryd.f4 Rows.ownerTellsRow.domain false Rows.ownerTellsRow.laid) (((OpenSpec.ofChange Rows.ownerTellsSpec).at F).post enc Tryd.prog Tryd.f4 false true false false) := by
  obtain ⟨places, hx⟩ := reads os enc
  refine returnsInHanded_of_row (C := Tryd.checked) (s := OpenSpec.ofChange Rows.ownerTellsSpec) own started (by kernel_rfl) Tryd.func4
    (witness_row_atRef (enc := enc) (C := Tryd.checked) false (World.doorLaid Tryd.prog 259 os) #[.slice none 0 0, idV 0 0, .int .i64 0] rfl (by kernel_rfl) (by kernel_rfl) (by kernel_rfl)
      (OpenSpec.preRow_of_cond 8 hx (by kernel_rfl) (fun k hk => by cases hk) (by kernel_rfl) (laid_met os))) ?_
  intro W base args ds gs before hval hW _ _ _ hL _ _
  exact contract H enc W base args ds gs before hval hW hL
theorem said : Rows.OwnerTellsSaid :=
  OpenClaim.holds_of_cond 4 Tryd.f4 rfl rfl rfl rfl rfl rfl rfl ⟨rfl, rfl, rfl, rfl, rfl⟩ rfl rfl rfl rfl rfl (by kernel_rfl) Tryd.func4 (by kernel_rfl)
    (of_decide_eq_true (by kernel_rfl)) (by unfold Func.isWrapper; first | (rw [if_pos (by decide +kernel)]; kernel_rfl) | (rw [if_neg (by decide +kernel)]; exact ⟨rfl, rfl⟩))
    (fun os started H enc _ F => by rw [OpenClaim.pre_eq_preRow]; exact lifted os started H enc F)
theorem stand (t : TypeId) (h : t = 22 ∨ t = 25 ∨ t = 3) : Tryd.prog.wantsStandIn t = false := by
  rcases h with rfl | rfl | rfl <;> kernel_rfl
theorem plain (f : FuncId) (fn : Func) (hf : Tryd.pinned.checked.prog.funcNamed "cornbin/cornbinlaw2.OwnerTells" = some f) (hfn : Tryd.pinned.checked.prog.funcs[f]? = some fn) :
    true = Tryd.pinned.checked.prog.looks [] ∧ ∀ (j : Nat) t, fn.params[j]? = some t → Tryd.pinned.checked.prog.wantsStandIn t = false := by
  obtain rfl : f = 4 := Option.some.inj ((show Tryd.prog.funcNamed "cornbin/cornbinlaw2.OwnerTells" = some 4 by kernel_rfl).symm.trans hf) |>.symm
  obtain rfl : fn = Tryd.f4 := (Option.some.inj (Tryd.func4.symm.trans hfn)).symm
  refine ⟨by kernel_rfl, fun j t ht => ?_⟩
  rw [Tryd.params4] at ht
  have hm := Array.mem_of_getElem? ht
  exact stand t (by simp at hm; omega)
theorem card : Rows.OwnerTellsCardSaid :=
  Claim7.holds_tied_plain_at .later [] _ _ _ _ said (fun _ h => by cases h) (by kernel_rfl) (fun _ h => by cases h) ownerTells_row_tie rfl ⟨rfl, rfl⟩ (by kernel_rfl) rfl plain (by kernel_rfl)
end Go.Proofs.YtcbcjefefmbccabDoor.ownerTellsCard
namespace Go.Proofs.YtcbcjefefmbccabDoor
theorem ownerTells_card : Rows.OwnerTellsCardSaid := ownerTellsCard.card
end Go.Proofs.YtcbcjefefmbccabDoor
