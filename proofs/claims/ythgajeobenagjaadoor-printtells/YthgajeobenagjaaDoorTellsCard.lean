/-
  PrintTells returns true for all texts s, t, every number and all IDs a, b: the tied card PrintTellsCardSaid. Conditions: those of the card itself (the library's tables, the twelve sentinels and errors' own type handle lie as the program's text lays them).
-/
import Derived.Test.YthgajeobenagjaaDoorCards
import Derived.Test.YthgajeobenagjaaDoorTie
import Derived.Test.YthgajeobenagjaaDoorLaid
import Derived.Test.YthgajeobenagjaaDoorTells
import Derived.WalkKit
import Derived.ProofKit
import Derived.OpenShut
import Derived.LaidMore
import Derived.LaidSub
import Derived.Lib.LaidTab
import Derived.Deep.DeepHandedRow
import Derived.Deep.DeepWitnessRowRef
namespace Go.Proofs.YthgajeobenagjaaDoor.tellsCard
open Go.ChangeShapes Go.WideShapes Go.ChangeAt Go.RowKit Go.Joins
open Go.ChangeMaps (open_string shut_string)

theorem own : ownKnob Tryd.prog.godebug = none := by kernel_rfl
theorem gTabType : (Tryd.prog.globals[ 13 ]?).map (·.type) = some 105 := by kernel_rfl
theorem cellsTab : Tryd.prog.cellsOf 105 = 20 := by kernel_rfl
theorem cells64 : Tryd.prog.cellsOf 98 = 1 := by kernel_rfl
theorem cellsID : Tryd.prog.cellsOf 37 = 2 := by kernel_rfl
/- What the row's list gives: the table of powers of ten, and api.ErrText's cell. -/
theorem table {W : World} (h : laidMetH Tryd.prog Rows.printTellsRow.laid W) : Pow10 W :=
  Lib.tabIs_of_head (P := Tryd.prog) (rest := []) gPow10 gTabType Tryd.underlying105 Tryd.underlying98 cells64 cellsTab
    (show laidMetH Tryd.prog [("internal/strconv.uint64pow10", Rows.laid_internal_strconv_uint64pow10)] W from laidMetH.filter (fun x => x.1 == "internal/strconv.uint64pow10") h)
theorem errs {W : World} (h : laidMetH Tryd.prog Rows.printTellsRow.laid W) : ∃ a, ErrW W a :=
  errW_of_laid (show laidMetH Tryd.prog errLaid W from laidMetH.filter (fun x => x.1 == "errors.errorType" || errSents.any (fun y => y.1 == x.1)) h)

theorem walk (s t : ByteArray) (n a1 : Nat) (hn : n < 4294967296) (ha1 : a1 < 4294967296) (l1 : Int) (hl1 : l1 ≤ 9223372036854775807) (a2 l2 : Int) (aE : Nat → Addr) (w : World) (hE : ErrW w aE) (ht : Pow10 w) :
    Calls Tryd.prog 5 #[.string s, .int .u32 n, idV a1 l1, idV a2 l2, .string t] w fun e w' => e = .returned (.bool true) ∧ Below w.heap.size w w' := by
  have hv := hE.glob 0 (by omega)
  simp only [errG] at hv
  by_cases h1 : s.size ≤ 500
  · by_cases h2 : t.size ≤ 40
    · exact tells_walk s t h1 h2 n a1 hn ha1 l1 hl1 a2 l2 aE w hE ht
    · exact tells_long s t n a1 l1 a2 l2 _ w hv ht (Or.inr ⟨h1, by omega⟩)
  · exact tells_long s t n a1 l1 a2 l2 _ w hv ht (Or.inl (by omega))

set_option maxRecDepth 100000 in
theorem contract (H : Type) (enc : TypeId × Value → H) (W : World) (base : Nat) (args : Array Value) (ds gs : List (DataW H)) (before : List MemPlace)
    (hval : ∀ (j : Nat) t v, Tryd.f5.params[j]? = some t → args[j]? = some v → Value.okWide Tryd.prog W .any base t v)
    (hW : DataW.Whole enc Tryd.prog Tryd.f5.params.toList Rows.printTellsSpec.vars false W args.toList ds gs before) (hL : laidMetH Tryd.prog Rows.printTellsRow.laid W) :
    Calls Tryd.prog 5 args W fun e W' => ∃ v, e = .returned v ∧ Rows.printTellsSpec.post enc Tryd.prog Tryd.f5 false true false false W args v W' := by
  have hW' := hW
  obtain ⟨p, q, hA0, hV, rfl, hfz, hnd⟩ := hW
  have hA : DataW.TrodAll enc Tryd.prog W 0 (fun _ => true) true Tryd.f5.params.toList args.toList ds p := hA0
  rw [Tryd.params5] at hA hval
  obtain ⟨v0, vs0, d0, ds0, p0, q0, hargs, rfl, rfl, h0, r0⟩ := trodAll_cons hA
  obtain ⟨v1, vs1, d1, ds1, p1, q1, rfl, rfl, rfl, h1, r1⟩ := trodAll_cons r0
  obtain ⟨v2, vs2, d2, ds2, p2, q2, rfl, rfl, rfl, h2, r2⟩ := trodAll_cons r1
  obtain ⟨v3, vs3, d3, ds3, p3, q3, rfl, rfl, rfl, h3, r3⟩ := trodAll_cons r2
  obtain ⟨v4, vs4, d4, ds4, p4, q4, rfl, rfl, rfl, h4, r4⟩ := trodAll_cons r3
  obtain ⟨rfl, rfl, rfl⟩ := trodAll_nil r4
  obtain rfl : args = #[v0, v1, v2, v3, v4] := Array.toList_inj.1 hargs
  obtain ⟨rfl, rfl⟩ := trodVars_none hV
  obtain ⟨s, rfl, rfl, rfl, hzs⟩ := open_string Tryd.underlying9 (hval 0 9 v0 rfl rfl) h0
  obtain ⟨n, rfl, rfl, rfl, wn⟩ := open_int Tryd.underlying35 (hval 1 35 v1 rfl rfl) h1
  obtain ⟨c0, c1, y0, y1, m, rfl, rfl, rfl, hy0, hy1⟩ := open_agg2 Tryd.underlying37 (by kernel_rfl) cellsID (hval 2 37 v2 rfl rfl) h2
  obtain ⟨a1, e0, rfl, wa1⟩ := DataW.trod_int Tryd.underlying35 hy0
  obtain ⟨l1, e1, rfl, wl1⟩ := DataW.trod_int Tryd.underlying3 hy1
  simp at e0 e1
  subst e0 e1
  obtain ⟨c2, c3, y2, y3, m', rfl, rfl, rfl, hy2, hy3⟩ := open_agg2 Tryd.underlying37 (by kernel_rfl) cellsID (hval 3 37 v3 rfl rfl) h3
  obtain ⟨a2, e0, rfl, wa2⟩ := DataW.trod_int Tryd.underlying35 hy2
  obtain ⟨l2, e1, rfl, wl2⟩ := DataW.trod_int Tryd.underlying3 hy3
  simp at e0 e1
  subst e0 e1
  obtain ⟨t, rfl, rfl, rfl, hzt⟩ := open_string Tryd.underlying9 (hval 4 9 v4 rfl rfl) h4
  clear hA0
  simp only [List.append_nil] at hW'
  have hnb := bounds_u32 wn
  have hab := bounds_u32 wa1
  have hlb := bounds_i64 wl1
  obtain ⟨n', rfl⟩ := Int.eq_ofNat_of_zero_le hnb.1
  obtain ⟨a1', rfl⟩ := Int.eq_ofNat_of_zero_le hab.1
  obtain ⟨aE, hE⟩ := errs hL
  refine (walk s t n' a1' (by omega) (by omega) l1 hlb.2 a2 l2 aE W hE (table hL)).mono fun e W' ⟨he, hg⟩ => ?_
  subst he
  refine ⟨_, rfl, _, _, _, [], [], [], hW', ?_, ?_, ?_, hg.frame _, fun h => by cases h⟩
  · exact trodAll_cons_mk (shut_bool Tryd.underlying4 _) trodAll_mk0
  · exact trodAll_cons_mk (shut_string Tryd.underlying9 hzs) (trodAll_cons_mk (shut_int Tryd.underlying35 wn)
      (trodAll_cons_mk (shut_agg2 (y0 := (.lit (.int .u32 (a1' : Int)), [])) (y1 := (.lit (.int .i64 l1), [])) Tryd.underlying37 (by kernel_rfl) cellsID ⟨1, by simp [DataW.trod, Tryd.underlying35, wa1]⟩ ⟨1, by simp [DataW.trod, Tryd.underlying3, wl1]⟩)
        (trodAll_cons_mk (shut_agg2 (y0 := (.lit (.int .u32 a2), [])) (y1 := (.lit (.int .i64 l2), [])) Tryd.underlying37 (by kernel_rfl) cellsID ⟨1, by simp [DataW.trod, Tryd.underlying35, wa2]⟩ ⟨1, by simp [DataW.trod, Tryd.underlying3, wl2]⟩)
          (trodAll_cons_mk (shut_string Tryd.underlying9 hzt) trodAll_mk0))))
  · rfl

theorem laid_met (os : Os) : laidMetH Tryd.prog Rows.printTellsRow.laid ((World.doorLaid Tryd.prog 259 os).forCall (fun _ _ => 0) ⟨#[], #[.string ⟨#[]⟩, .int .u32 0, idV 0 0, idV 0 0, .string ⟨#[]⟩], []⟩).memory :=
  laidMetH_of_parts3 (fuel := 8) (laidMet_of_run' 8 (by kernel_rfl) (by kernel_rfl)) (by kernel_rfl) (by kernel_rfl)
theorem reads (os : Os) {H : Type} (enc : TypeId × Value → H) : ∃ places, DataW.whole enc Tryd.prog ((World.doorLaid Tryd.prog 259 os).forCall (fun _ _ => 0) ⟨#[], #[.string ⟨#[]⟩, .int .u32 0, idV 0 0, idV 0 0, .string ⟨#[]⟩], []⟩).memory Tryd.f5.params.toList Rows.printTellsSpec.vars false (#[.string ⟨#[]⟩, .int .u32 0, idV 0 0, idV 0 0, .string ⟨#[]⟩] : Array Value).toList 8 = some ([.lit (.string []), .lit (.int .u32 0), .agg [.lit (.int .u32 0), .lit (.int .i64 0)], .agg [.lit (.int .u32 0), .lit (.int .i64 0)], .lit (.string [])], [], places) :=
  ⟨[], by kernel_rfl⟩

set_option maxRecDepth 100000 in
theorem lifted (os : Os) (started : os.Started) (H : Type) (enc : TypeId × Value → H) (F : Stop.Interp) :
    ReturnsInHanded {} Tryd.checked os 5 .any ((OpenSpec.ofChange Rows.printTellsSpec).preRow enc Tryd.prog Tryd.f5 Rows.printTellsRow.domain false Rows.printTellsRow.laid) (((OpenSpec.ofChange Rows.printTellsSpec).at F).post enc Tryd.prog Tryd.f5 false true false false) := by
  obtain ⟨places, hx⟩ := reads os enc
  refine returnsInHanded_of_row (C := Tryd.checked) (s := OpenSpec.ofChange Rows.printTellsSpec) own started (by kernel_rfl) Tryd.func5
    (witness_row_atRef (enc := enc) (C := Tryd.checked) false (World.doorLaid Tryd.prog 259 os) #[.string ⟨#[]⟩, .int .u32 0, idV 0 0, idV 0 0, .string ⟨#[]⟩] rfl (by kernel_rfl) (by kernel_rfl) (by kernel_rfl)
      (OpenSpec.preRow_of_cond 8 hx (by kernel_rfl) (fun k hk => by cases hk) (by kernel_rfl) (laid_met os))) ?_
  intro W base args ds gs before hval hW _ _ _ hL _ _
  exact contract H enc W base args ds gs before hval hW hL

theorem said : Rows.PrintTellsSaid :=
  OpenClaim.holds_of_cond 5 Tryd.f5 rfl rfl rfl rfl rfl rfl rfl ⟨rfl, rfl, rfl, rfl, rfl⟩ rfl rfl rfl rfl rfl (by kernel_rfl) Tryd.func5 (by kernel_rfl)
    (of_decide_eq_true (by kernel_rfl)) (by unfold Func.isWrapper; first | (rw [if_pos (by decide +kernel)]; kernel_rfl) | (rw [if_neg (by decide +kernel)]; exact ⟨rfl, rfl⟩))
    (fun os started H enc _ F => by rw [OpenClaim.pre_eq_preRow]; exact lifted os started H enc F)

theorem stand (t : TypeId) (h : t = 9 ∨ t = 35 ∨ t = 37) : Tryd.prog.wantsStandIn t = false := by
  rcases h with rfl | rfl | rfl <;> kernel_rfl
theorem plain (f : FuncId) (fn : Func) (hf : Tryd.pinned.checked.prog.funcNamed "cornbin/cornbinlaw1.PrintTells" = some f) (hfn : Tryd.pinned.checked.prog.funcs[f]? = some fn) :
    true = Tryd.pinned.checked.prog.looks [] ∧ ∀ (j : Nat) t, fn.params[j]? = some t → Tryd.pinned.checked.prog.wantsStandIn t = false := by
  obtain rfl : f = 5 := Option.some.inj ((show Tryd.prog.funcNamed "cornbin/cornbinlaw1.PrintTells" = some 5 by kernel_rfl).symm.trans hf) |>.symm
  obtain rfl : fn = Tryd.f5 := (Option.some.inj (Tryd.func5.symm.trans hfn)).symm
  refine ⟨by kernel_rfl, fun j t ht => ?_⟩
  rw [Tryd.params5] at ht
  have hm := Array.mem_of_getElem? ht
  exact stand t (by simp at hm; rcases hm with h | h | h | h <;> simp [h])

theorem card : Rows.PrintTellsCardSaid :=
  Claim7.holds_tied_plain_at .later [] _ _ _ _ said (fun _ h => by cases h) (by kernel_rfl) (fun _ h => by cases h) printTells_row_tie rfl ⟨rfl, rfl⟩ (by kernel_rfl) rfl plain (by kernel_rfl)
end Go.Proofs.YthgajeobenagjaaDoor.tellsCard
namespace Go.Proofs.YthgajeobenagjaaDoor
theorem printTells_card : Rows.PrintTellsCardSaid := tellsCard.card
end Go.Proofs.YthgajeobenagjaaDoor
