/-
  BinUses returns true whatever the acts: the tied card BinUsesCardSaid. Conditions: those of the card itself (the library's tables and eight sentinels lie as the program's text lays them).
-/
import Derived.Test.YtmjdgakokldliaaDoorCards
import Derived.Test.YtmjdgakokldliaaDoorTie
import Derived.Test.YtmjdgakokldliaaDoorLaid
import Derived.Test.YtmjdgakokldliaaDoorUsesLaw
import Derived.Test.YtmjdgakokldliaaDoorPTextB
import Derived.Test.YtmjdgakokldliaaDoorPReadB
import Derived.Test.YtmjdgakokldliaaDoorLaidG
import Derived.Test.YtmjdgakokldliaaDoorPBinSpec
import Derived.WalkKit
import Derived.ProofKit
import Derived.OpenShut
import Derived.LaidMore
import Derived.LaidSub
import Derived.Lib.LaidTab
import Derived.Deep.DeepHandedRow
import Derived.Deep.DeepWitnessRowRef
import Derived.Deep.Strs
import Derived.Lay
import Derived.Shelf.Vars
namespace Go.Proofs.YtmjdgakokldliaaDoor.usesCard
open Go.ChangeShapes Go.WideShapes Go.ChangeAt Go.RowKit
open Go.Deep (open_slice choose_lt add_add trod_struct3)

theorem own : ownKnob Tryd.prog.godebug = none := by kernel_rfl
theorem cellsAct : Tryd.prog.cellsOf 57 = 4 := by kernel_rfl
theorem cellsStr : Tryd.prog.cellsOf 9 = 1 := by kernel_rfl
theorem gTabType : (Tryd.prog.globals[ 13 ]?).map (·.type) = some 226 := by kernel_rfl
theorem cellsTab : Tryd.prog.cellsOf 226 = 20 := by kernel_rfl
theorem cells64 : Tryd.prog.cellsOf 196 = 1 := by kernel_rfl
theorem table {W : World} (h : laidMetH Tryd.prog Rows.binUsesRow.laid W) : Pow10 W :=
  Lib.tabIs_of_head (P := Tryd.prog) (rest := []) gPow10 gTabType Tryd.underlying226 Tryd.underlying196 cells64 cellsTab
    (show laidMetH Tryd.prog [("internal/strconv.uint64pow10", Rows.laid_internal_strconv_uint64pow10)] W from laidMetH.filter (fun x => x.1 == "internal/strconv.uint64pow10") h)
theorem errs {W : World} (h : laidMetH Tryd.prog Rows.binUsesRow.laid W) : ∃ a, ErrG W a :=
  errG_of_laid (show laidMetH Tryd.prog (errSents8.map sentD) W from laidMetH.filter (fun x => errSents8.any (fun y => y.1 == x.1)) h)
theorem maxLenCell {W : World} (h : W.ShapedOpen Tryd.prog) : ∃ m, W.cell? ⟨14, 0, none⟩ = some (.int .i64 m) :=
  cell_of_shapedOpen_int (P := Tryd.prog) (t := 3) (zero := #[.int .i64 0]) h (of_decide_eq_true (by kernel_rfl)) (by kernel_rfl) rfl (by kernel_rfl) (by kernel_rfl) Tryd.underlying3
structure UsesEnv (a : Nat → Addr) (w : World) : Prop where
  err : ErrG w a
  pow : Pow10 w
  max : ∃ m, w.cell? ⟨14, 0, none⟩ = some (.int .i64 m)
theorem UsesEnv.below {a : Nat → Addr} {w w' : World} (h : UsesEnv a w) (hb : Below w.heap.size w w') : UsesEnv a w' where
  err := h.err.below hb (Nat.le_refl _)
  pow := h.pow.below hb (Nat.le_refl _)
  max := by obtain ⟨m, hm⟩ := h.max; exact ⟨m, (hb.cell (lt_of_cell hm)).trans hm⟩
theorem textSpec (a : Nat → Addr) : TextSpec (UsesEnv a) where
  back v l w hok hE hv := (pText_any v l w hok.text hE.pow hv).mono fun e w' ⟨he, hb⟩ => ⟨_, he, hb, fun W hEW => by
    obtain ⟨m, hm⟩ := hEW.max
    exact pRead_any l m _ W hok hm (hEW.err.glob 0 rfl)⟩
theorem id_open {H : Type} {enc : TypeId × Value → H} {W : World} {n : Nat} {v2 v3 : Value} {x : DataW H × List MemPlace} (h : DataW.trod enc Tryd.prog W 0 (fun _ => true) true n 37 [v2, v3] = some x) :
    ∃ y : Nat × Int, v2 = .int .u32 (y.1 : Nat) ∧ v3 = .int .i64 y.2 ∧ WfID y := by
  obtain ⟨xs, k, hk, hxy, _, hxl, hf⟩ := DataW.trod_struct Tryd.underlying37 h
  have g0 := hf 0 _ rfl
  have g1 := hf 1 _ rfl
  match xs, hxl with
  | [y0, y1], _ =>
    simp [u32Cells, intCells] at g0 g1
    obtain ⟨p, e0, _, w0⟩ := DataW.trod_int Tryd.underlying35 g0
    obtain ⟨q, e1, _, w1⟩ := DataW.trod_int Tryd.underlying3 g1
    simp at e0 e1
    subst e0 e1
    rw [wf_u32] at w0
    rw [wf_i64'] at w1
    exact ⟨(p.toNat, q), by congr 1; omega, rfl, ⟨by show p.toNat < _; omega, w1⟩⟩
set_option maxRecDepth 100000 in
theorem acts_open {H : Type} {enc : TypeId × Value → H} {W : World} {a0 : Option Addr} {len cap : Nat} {d : DataW H} {ps : List MemPlace} (h : DataW.Trod enc Tryd.prog W 0 (fun _ => true) true 50 (.slice a0 len cap) d ps) :
    ∃ l : List Act4, ActsAt W (.slice a0 len cap) l ∧ ∀ i (h : i < l.length), WfID l[i].2.2 := by
  obtain ⟨fuel, hf⟩ := h
  rcases open_slice Tryd.underlying50 hf with ⟨hcs, _⟩ | ⟨a, len', cap', m, n, D, Pl, hcs, _, hl, hm, hmm, _, hel⟩
  · simp [Value.cells] at hcs
    obtain ⟨rfl, rfl, rfl⟩ := hcs
    exact ⟨[], ⟨none, 0, rfl, fun i hi => by simp at hi⟩, fun i hi => by simp at hi⟩
  · simp [Value.cells] at hcs
    obtain ⟨rfl, rfl, rfl⟩ := hcs
    have hlm : len ≤ m := by rw [hmm]; simpa using hl
    rw [cellsAct] at hel
    have each : ∀ i, i < len → ∃ q : Act4, W.cell? (a.add (i * 4)) = some (.string q.1) ∧ W.cell? (a.add (i * 4 + 1)) = some (.string q.2.1) ∧ W.cell? (a.add (i * 4 + 2)) = some (.int .u32 (q.2.2.1 : Nat)) ∧ W.cell? (a.add (i * 4 + 3)) = some (.int .i64 q.2.2.2) ∧ WfID q.2.2 := by
      intro i hi
      obtain ⟨cs', h1, h2⟩ := hel i (by omega)
      obtain ⟨_, hlen, hcell⟩ := World.cells?_some h1
      obtain ⟨y0, y1, y2, k, _, _, g0, g1, g2⟩ := trod_struct3 Tryd.underlying57 h2
      match cs', hlen with
      | [v0, v1, v2, v3], _ =>
        simp [cellsStr, idCells] at g0 g1 g2
        obtain ⟨s0, e0, _, _⟩ := DataW.trod_string Tryd.underlying9 g0
        obtain ⟨s1, e1, _, _⟩ := DataW.trod_string Tryd.underlying9 g1
        obtain ⟨y, rfl, rfl, hw⟩ := id_open g2
        simp at e0 e1
        subst e0 e1
        have c0 := hcell 0 (by omega)
        have c1 := hcell 1 (by omega)
        have c2 := hcell 2 (by omega)
        have c3 := hcell 3 (by omega)
        rw [add_add] at c0 c1 c2 c3
        exact ⟨(s0, s1, y), by simpa using c0, by simpa using c1, by simpa using c2, by simpa using c3, hw⟩
    obtain ⟨f, hf'⟩ := choose_lt each
    refine ⟨(List.range len).map f, ⟨some a, cap, by simp, fun i hi => ?_⟩, fun i hi => ?_⟩
    · have hi' : i < len := by simpa using hi
      obtain ⟨b, off, spot⟩ := a
      have hspot : spot = none := by simpa [Addr.add] using World.cell?_spot (hf' 0 (by omega)).1
      subst hspot
      obtain ⟨c0, c1, c2, c3, _⟩ := hf' i hi'
      have ha : ∀ j, (⟨b, off, none⟩ : Addr).add j = ⟨b, off + j, none⟩ := fun j => by unfold Addr.add; split <;> simp_all
      rw [ha] at c0 c1 c2 c3
      rw [← Nat.add_assoc] at c1 c2 c3
      simp only [List.getElem_map, List.getElem_range]
      exact ⟨b, off, rfl, lt_of_cell c0, c0, c1, c2, c3⟩
    · have hi' : i < len := by simpa using hi
      simp only [List.getElem_map, List.getElem_range]
      exact (hf' i hi').2.2.2.2

set_option maxRecDepth 100000 in
theorem contract (H : Type) (enc : TypeId × Value → H) (W : World) (base : Nat) (args : Array Value) (ds gs : List (DataW H)) (before : List MemPlace)
    (hval : ∀ (j : Nat) t v, Tryd.f6.params[j]? = some t → args[j]? = some v → Value.okWide Tryd.prog W .any base t v)
    (hW : DataW.Whole enc Tryd.prog Tryd.f6.params.toList Rows.binUsesSpec.vars false W args.toList ds gs before) (hL : laidMetH Tryd.prog Rows.binUsesRow.laid W) (hS : W.ShapedOpen Tryd.prog) :
    Calls Tryd.prog 6 args W fun e W' => ∃ v, e = .returned v ∧ Rows.binUsesSpec.post enc Tryd.prog Tryd.f6 false true false false W args v W' := by
  have hW' := hW
  obtain ⟨p, q, hA0, hV, rfl, hfz, hnd⟩ := hW
  have hA : DataW.TrodAll enc Tryd.prog W 0 (fun _ => true) true Tryd.f6.params.toList args.toList ds p := hA0
  rw [Tryd.params6] at hA hval
  obtain ⟨v0, vs0, d0, ds0, p0, q0, hargs, rfl, rfl, h0, r0⟩ := trodAll_cons hA
  obtain ⟨rfl, rfl, rfl⟩ := trodAll_nil r0
  obtain rfl : args = #[v0] := Array.toList_inj.1 hargs
  obtain ⟨rfl, rfl⟩ := trodVars_none hV
  obtain ⟨a0, len, cap, rfl⟩ := okWide_slice Tryd.underlying50 (hval 0 50 v0 rfl rfl)
  clear hA0
  simp only [List.append_nil] at hW'
  have hlt : ∀ x ∈ p0, x.block < W.heap.size := fun x hx => by simpa using hW'.lt x hx
  obtain ⟨l, hl, hwf⟩ := acts_open h0
  obtain ⟨aE, hE⟩ := errs hL
  refine (binUses_any (pBinSpec (Env := UsesEnv aE) aE (fun h hb => h.below hb) (fun h => h.err)) (textSpec aE) _ l W ⟨hE, table hL, maxLenCell hS⟩ hl hwf).mono fun e W' ⟨he, hg⟩ => ?_
  subst he
  refine ⟨_, rfl, _, _, _, [], p0, [], hW', ?_, ?_, ?_, hg.frame _, fun h => by cases h⟩
  · exact trodAll_cons_mk (shut_bool Tryd.underlying4 _) trodAll_mk0
  · exact trodAll_mk1 (Below.trod Tryd.laidOut (by kernel_rfl) (of_decide_eq_true (by kernel_rfl)) h0 hg hlt)
  · rfl

theorem laid_met (os : Os) : laidMetH Tryd.prog Rows.binUsesRow.laid ((World.doorLaid Tryd.prog 259 os).forCall (fun _ _ => 0) ⟨#[], #[.slice none 0 0], []⟩).memory :=
  laidMetH_of_parts3 (fuel := 8) (laidMet_of_run' 8 (by kernel_rfl) (by kernel_rfl)) (by kernel_rfl) (by kernel_rfl)
theorem reads (os : Os) {H : Type} (enc : TypeId × Value → H) : ∃ places, DataW.whole enc Tryd.prog ((World.doorLaid Tryd.prog 259 os).forCall (fun _ _ => 0) ⟨#[], #[.slice none 0 0], []⟩).memory Tryd.f6.params.toList Rows.binUsesSpec.vars false (#[.slice none 0 0] : Array Value).toList 8 = some ([.nil], [], places) :=
  ⟨[], by kernel_rfl⟩

set_option maxRecDepth 100000 in
theorem lifted (os : Os) (started : os.Started) (H : Type) (enc : TypeId × Value → H) (F : Stop.Interp) :
    ReturnsInHanded {} Tryd.checked os 6 .any ((OpenSpec.ofChange Rows.binUsesSpec).preRow enc Tryd.prog Tryd.f6 Rows.binUsesRow.domain false Rows.binUsesRow.laid) (((OpenSpec.ofChange Rows.binUsesSpec).at F).post enc Tryd.prog Tryd.f6 false true false false) := by
  obtain ⟨places, hx⟩ := reads os enc
  refine returnsInHanded_of_row (C := Tryd.checked) (s := OpenSpec.ofChange Rows.binUsesSpec) own started (by kernel_rfl) Tryd.func6
    (witness_row_atRef (enc := enc) (C := Tryd.checked) false (World.doorLaid Tryd.prog 259 os) #[.slice none 0 0] rfl (by kernel_rfl) (by kernel_rfl) (by kernel_rfl)
      (OpenSpec.preRow_of_cond 8 hx (by kernel_rfl) (fun k hk => by cases hk) (by kernel_rfl) (laid_met os))) ?_
  intro W base args ds gs before hval hW _ _ _ hL hS _
  exact contract H enc W base args ds gs before hval hW hL hS

theorem said : Rows.BinUsesSaid :=
  OpenClaim.holds_of_cond 6 Tryd.f6 rfl rfl rfl rfl rfl rfl rfl ⟨rfl, rfl, rfl, rfl, rfl⟩ rfl rfl rfl rfl rfl (by kernel_rfl) Tryd.func6 (by kernel_rfl)
    (of_decide_eq_true (by kernel_rfl)) (by unfold Func.isWrapper; first | (rw [if_pos (by decide +kernel)]; kernel_rfl) | (rw [if_neg (by decide +kernel)]; exact ⟨rfl, rfl⟩))
    (fun os started H enc _ F => by rw [OpenClaim.pre_eq_preRow]; exact lifted os started H enc F)

theorem stand : Tryd.prog.wantsStandIn 50 = false := by kernel_rfl
theorem plain (f : FuncId) (fn : Func) (hf : Tryd.pinned.checked.prog.funcNamed "cornbin/cornbinlaw1.BinUses" = some f) (hfn : Tryd.pinned.checked.prog.funcs[f]? = some fn) :
    true = Tryd.pinned.checked.prog.looks [] ∧ ∀ (j : Nat) t, fn.params[j]? = some t → Tryd.pinned.checked.prog.wantsStandIn t = false := by
  obtain rfl : f = 6 := Option.some.inj ((show Tryd.prog.funcNamed "cornbin/cornbinlaw1.BinUses" = some 6 by kernel_rfl).symm.trans hf) |>.symm
  obtain rfl : fn = Tryd.f6 := (Option.some.inj (Tryd.func6.symm.trans hfn)).symm
  refine ⟨by kernel_rfl, fun j t ht => ?_⟩
  rw [Tryd.params6] at ht
  have hm := Array.mem_of_getElem? ht
  obtain rfl : t = 50 := by simpa using hm
  exact stand

theorem card : Rows.BinUsesCardSaid :=
  Claim7.holds_tied_plain_at .later [] _ _ _ _ said (fun _ h => by cases h) (by kernel_rfl) (fun _ h => by cases h) binUses_row_tie rfl ⟨rfl, rfl⟩ (by kernel_rfl) rfl plain (by kernel_rfl)
end Go.Proofs.YtmjdgakokldliaaDoor.usesCard
namespace Go.Proofs.YtmjdgakokldliaaDoor
theorem binUses_card : Rows.BinUsesCardSaid := usesCard.card
end Go.Proofs.YtmjdgakokldliaaDoor
