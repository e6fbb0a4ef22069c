/-
  PrintParts returns true for all texts a, b, every place, byte and ID: the tied card PrintPartsCardSaid. Conditions: those of the card itself (the library's tables and api.ErrText lie as the program's text lays them).
-/
import Derived.Test.YthgajeobenagjaaDoorCards
import Derived.Test.YthgajeobenagjaaDoorTie
import Derived.Test.YthgajeobenagjaaDoorParts
import Derived.Test.YthgajeobenagjaaDoorPartsIn
import Derived.WalkKit
import Derived.ProofKit
import Derived.OpenShut
import Derived.LaidMore
import Derived.LaidSub
import Derived.Lib.LaidTab
import Derived.Stop.LaidErr
import Derived.Deep.DeepHandedRow
import Derived.Deep.DeepWitnessRowRef
namespace Go.Proofs.YthgajeobenagjaaDoor.partsCard
open Go.ChangeShapes Go.WideShapes Go.ChangeAt Go.RowKit Go.Joins
open Go.ChangeMaps (open_string shut_string)

theorem own : ownKnob Tryd.prog.godebug = none := by kernel_rfl
theorem gTabType : (Tryd.prog.globals[ 13 ]?).map (·.type) = some 105 := by kernel_rfl
theorem cellsTab : Tryd.prog.cellsOf 105 = 20 := by kernel_rfl
theorem cells64 : Tryd.prog.cellsOf 98 = 1 := by kernel_rfl
theorem cellsID : Tryd.prog.cellsOf 37 = 2 := by kernel_rfl
theorem gErrText : Tryd.prog.globalNamed "cornbin/api.ErrText" = some 0 := by kernel_rfl
theorem tErrText : (Tryd.prog.globals[ 0 ]?).map (·.type) = some 25 := by kernel_rfl
theorem rowE : ∀ u, Tryd.prog.typeName? 3 u = some "*errors.errorString" → u = 53 := typeName_ptr_named (nm := "errors.errorString") (by kernel_rfl) (by kernel_rfl) (by decide)
theorem cellsE : Tryd.prog.cellsOf 55 = 1 := by kernel_rfl
theorem cellsS : Tryd.prog.cellsOf 9 = 1 := by kernel_rfl

/- What the row's list gives: the table of powers of ten, and api.ErrText's cell. -/
theorem table {W : World} (h : laidMetH Tryd.prog Rows.printPartsRow.laid W) : Pow10 W :=
  Lib.tabIs_of_head (P := Tryd.prog) (rest := []) gPow10 gTabType Tryd.underlying105 Tryd.underlying98 cells64 cellsTab
    (show laidMetH Tryd.prog [("internal/strconv.uint64pow10", Rows.laid_internal_strconv_uint64pow10)] W from laidMetH.filter (fun x => x.1 == "internal/strconv.uint64pow10") h)
theorem errText {W : World} (h : laidMetH Tryd.prog Rows.printPartsRow.laid W) : ∃ v, W.cell? ⟨0, 0, none⟩ = some v := by
  have h1 : laidMetH Tryd.prog [("cornbin/api.ErrText", Rows.laid_cornbin_api_ErrText)] W := laidMetH.filter (fun x => x.1 == "cornbin/api.ErrText") h
  obtain ⟨a, s, hv, _, _, _⟩ := laid_sentinel (P := Tryd.prog) (r := []) (show laidMet Tryd.prog [("cornbin/api.ErrText", Rows.laid_cornbin_api_ErrText)] W from h1) gErrText tErrText Tryd.underlying25 rowE Tryd.underlying53 Tryd.underlying55 rfl rfl Tryd.underlying9 cellsE cellsS
  exact ⟨_, by simpa using World.var?_cell gErrText hv 0⟩

theorem walk (a b : ByteArray) (at0 : Int) (x : UInt8) (n : Nat) (hn : n < 4294967296) (l : Int) (v : Value) (w : World) (hv : w.cell? ⟨0, 0, none⟩ = some v) (ht : Pow10 w) :
    Calls Tryd.prog 4 #[.string a, .string b, .int .i64 at0, .int .u8 x.toNat, idV n l] w fun e w' => e = .returned (.bool true) ∧ Below w.heap.size w w' := by
  by_cases ha : a.size ≤ 300
  · by_cases hb : b.size ≤ 300
    · by_cases h1 : 0 ≤ l
      · by_cases h2 : l < 1000000
        · exact parts_in a b ha hb at0 x n hn l v w hv ht h1 h2
        · exact parts_out a b ha hb at0 x n l v w hv ht (Or.inr (by omega))
      · exact parts_out a b ha hb at0 x n l v w hv ht (Or.inl (by omega))
    · exact parts_long a b at0 _ n l v w hv ht (Or.inr ⟨ha, by omega⟩)
  · exact parts_long a b at0 _ n l v w hv ht (Or.inl (by omega))

set_option maxRecDepth 100000 in
theorem contract (H : Type) (enc : TypeId × Value → H) (W : World) (base : Nat) (args : Array Value) (ds gs : List (DataW H)) (before : List MemPlace)
    (hval : ∀ (j : Nat) t v, Tryd.f4.params[j]? = some t → args[j]? = some v → Value.okWide Tryd.prog W .any base t v)
    (hW : DataW.Whole enc Tryd.prog Tryd.f4.params.toList Rows.printPartsSpec.vars false W args.toList ds gs before) (hL : laidMetH Tryd.prog Rows.printPartsRow.laid W) :
    Calls Tryd.prog 4 args W fun e W' => ∃ v, e = .returned v ∧ Rows.printPartsSpec.post enc Tryd.prog Tryd.f4 false true false false W args v W' := by
  have hW' := hW
  obtain ⟨p, q, hA0, hV, rfl, hfz, hnd⟩ := hW
  have hA : DataW.TrodAll enc Tryd.prog W 0 (fun _ => true) true Tryd.f4.params.toList args.toList ds p := hA0
  rw [Tryd.params4] at hA hval
  obtain ⟨v0, vs0, d0, ds0, p0, q0, hargs, rfl, rfl, h0, r0⟩ := trodAll_cons hA
  obtain ⟨v1, vs1, d1, ds1, p1, q1, rfl, rfl, rfl, h1, r1⟩ := trodAll_cons r0
  obtain ⟨v2, vs2, d2, ds2, p2, q2, rfl, rfl, rfl, h2, r2⟩ := trodAll_cons r1
  obtain ⟨v3, vs3, d3, ds3, p3, q3, rfl, rfl, rfl, h3, r3⟩ := trodAll_cons r2
  obtain ⟨v4, vs4, d4, ds4, p4, q4, rfl, rfl, rfl, h4, r4⟩ := trodAll_cons r3
  obtain ⟨rfl, rfl, rfl⟩ := trodAll_nil r4
  obtain rfl : args = #[v0, v1, v2, v3, v4] := Array.toList_inj.1 hargs
  obtain ⟨rfl, rfl⟩ := trodVars_none hV
  obtain ⟨a, rfl, rfl, rfl, hza⟩ := open_string Tryd.underlying9 (hval 0 9 v0 rfl rfl) h0
  obtain ⟨b, rfl, rfl, rfl, hzb⟩ := open_string Tryd.underlying9 (hval 1 9 v1 rfl rfl) h1
  obtain ⟨at0, rfl, rfl, rfl, wat⟩ := open_int Tryd.underlying3 (hval 2 3 v2 rfl rfl) h2
  obtain ⟨x, rfl, rfl, rfl, wx⟩ := open_int Tryd.underlying5 (hval 3 5 v3 rfl rfl) h3
  obtain ⟨c0, c1, y0, y1, m, rfl, rfl, rfl, hy0, hy1⟩ := open_agg2 Tryd.underlying37 (by kernel_rfl) cellsID (hval 4 37 v4 rfl rfl) h4
  obtain ⟨n, e0, rfl, wn⟩ := DataW.trod_int Tryd.underlying35 hy0
  obtain ⟨l, e1, rfl, wl⟩ := DataW.trod_int Tryd.underlying3 hy1
  simp at e0 e1
  subst e0 e1
  clear hA0
  simp only [List.append_nil] at hW'
  have hxb := bounds_u8 wx
  have hnb := bounds_u32 wn
  obtain ⟨n', rfl⟩ := Int.eq_ofNat_of_zero_le hnb.1
  obtain ⟨x', rfl⟩ := Int.eq_ofNat_of_zero_le hxb.1
  obtain ⟨v, hv⟩ := errText hL
  have hx' : ((UInt8.ofNat x').toNat : Int) = (x' : Int) := by
    have : (UInt8.ofNat x').toNat = x' % 256 := UInt8.toNat_ofNat'
    omega
  have hwalk := walk a b at0 (UInt8.ofNat x') n' (by omega) l v W hv (table hL)
  rw [hx'] at hwalk
  refine hwalk.mono fun e W' ⟨he, hg⟩ => ?_
  subst he
  refine ⟨_, rfl, _, _, _, [], [], [], hW', ?_, ?_, ?_, hg.frame _, fun h => by cases h⟩
  · exact trodAll_cons_mk (shut_bool Tryd.underlying4 _) trodAll_mk0
  · exact trodAll_cons_mk (shut_string Tryd.underlying9 hza) (trodAll_cons_mk (shut_string Tryd.underlying9 hzb) (trodAll_cons_mk (shut_int Tryd.underlying3 wat) (trodAll_cons_mk (shut_int Tryd.underlying5 wx)
      (trodAll_cons_mk (shut_agg2 (y0 := (.lit (.int .u32 (n' : Int)), [])) (y1 := (.lit (.int .i64 l), [])) Tryd.underlying37 (by kernel_rfl) cellsID ⟨1, by simp [DataW.trod, Tryd.underlying35, wn]⟩ ⟨1, by simp [DataW.trod, Tryd.underlying3, wl]⟩) trodAll_mk0))))
  · rfl

theorem laid_met (os : Os) : laidMetH Tryd.prog Rows.printPartsRow.laid ((World.doorLaid Tryd.prog 259 os).forCall (fun _ _ => 0) ⟨#[], #[.string ⟨#[]⟩, .string ⟨#[]⟩, .int .i64 0, .int .u8 0, idV 0 0], []⟩).memory :=
  laidMetH_of_parts3 (fuel := 8) (laidMet_of_run' 8 (by kernel_rfl) (by kernel_rfl)) (by kernel_rfl) (by kernel_rfl)
theorem reads (os : Os) {H : Type} (enc : TypeId × Value → H) : ∃ places, DataW.whole enc Tryd.prog ((World.doorLaid Tryd.prog 259 os).forCall (fun _ _ => 0) ⟨#[], #[.string ⟨#[]⟩, .string ⟨#[]⟩, .int .i64 0, .int .u8 0, idV 0 0], []⟩).memory Tryd.f4.params.toList Rows.printPartsSpec.vars false (#[.string ⟨#[]⟩, .string ⟨#[]⟩, .int .i64 0, .int .u8 0, idV 0 0] : Array Value).toList 8 = some ([.lit (.string []), .lit (.string []), .lit (.int .i64 0), .lit (.int .u8 0), .agg [.lit (.int .u32 0), .lit (.int .i64 0)]], [], places) :=
  ⟨[], by kernel_rfl⟩

set_option maxRecDepth 100000 in
theorem lifted (os : Os) (started : os.Started) (H : Type) (enc : TypeId × Value → H) (F : Stop.Interp) :
    ReturnsInHanded {} Tryd.checked os 4 .any ((OpenSpec.ofChange Rows.printPartsSpec).preRow enc Tryd.prog Tryd.f4 Rows.printPartsRow.domain false Rows.printPartsRow.laid) (((OpenSpec.ofChange Rows.printPartsSpec).at F).post enc Tryd.prog Tryd.f4 false true false false) := by
  obtain ⟨places, hx⟩ := reads os enc
  refine returnsInHanded_of_row (C := Tryd.checked) (s := OpenSpec.ofChange Rows.printPartsSpec) own started (by kernel_rfl) Tryd.func4
    (witness_row_atRef (enc := enc) (C := Tryd.checked) false (World.doorLaid Tryd.prog 259 os) #[.string ⟨#[]⟩, .string ⟨#[]⟩, .int .i64 0, .int .u8 0, idV 0 0] rfl (by kernel_rfl) (by kernel_rfl) (by kernel_rfl)
      (OpenSpec.preRow_of_cond 8 hx (by kernel_rfl) (fun k hk => by cases hk) (by kernel_rfl) (laid_met os))) ?_
  intro W base args ds gs before hval hW _ _ _ hL _ _
  exact contract H enc W base args ds gs before hval hW hL

theorem said : Rows.PrintPartsSaid :=
  OpenClaim.holds_of_cond 4 Tryd.f4 rfl rfl rfl rfl rfl rfl rfl ⟨rfl, rfl, rfl, rfl, rfl⟩ rfl rfl rfl rfl rfl (by kernel_rfl) Tryd.func4 (by kernel_rfl)
    (of_decide_eq_true (by kernel_rfl)) (by unfold Func.isWrapper; first | (rw [if_pos (by decide +kernel)]; kernel_rfl) | (rw [if_neg (by decide +kernel)]; exact ⟨rfl, rfl⟩))
    (fun os started H enc _ F => by rw [OpenClaim.pre_eq_preRow]; exact lifted os started H enc F)

theorem stand (t : TypeId) (h : t = 9 ∨ t = 3 ∨ t = 5 ∨ t = 37) : Tryd.prog.wantsStandIn t = false := by
  rcases h with rfl | rfl | rfl | rfl <;> kernel_rfl
theorem plain (f : FuncId) (fn : Func) (hf : Tryd.pinned.checked.prog.funcNamed "cornbin/cornbinlaw1.PrintParts" = some f) (hfn : Tryd.pinned.checked.prog.funcs[f]? = some fn) :
    true = Tryd.pinned.checked.prog.looks [] ∧ ∀ (j : Nat) t, fn.params[j]? = some t → Tryd.pinned.checked.prog.wantsStandIn t = false := by
  obtain rfl : f = 4 := Option.some.inj ((show Tryd.prog.funcNamed "cornbin/cornbinlaw1.PrintParts" = some 4 by kernel_rfl).symm.trans hf) |>.symm
  obtain rfl : fn = Tryd.f4 := (Option.some.inj (Tryd.func4.symm.trans hfn)).symm
  refine ⟨by kernel_rfl, fun j t ht => ?_⟩
  rw [Tryd.params4] at ht
  have hm := Array.mem_of_getElem? ht
  exact stand t (by simp at hm; omega)

theorem card : Rows.PrintPartsCardSaid :=
  Claim7.holds_tied_plain_at .later [] _ _ _ _ said (fun _ h => by cases h) (by kernel_rfl) (fun _ h => by cases h) printParts_row_tie rfl ⟨rfl, rfl⟩ (by kernel_rfl) rfl plain (by kernel_rfl)
end Go.Proofs.YthgajeobenagjaaDoor.partsCard
namespace Go.Proofs.YthgajeobenagjaaDoor
theorem printParts_card : Rows.PrintPartsCardSaid := partsCard.card
end Go.Proofs.YthgajeobenagjaaDoor
