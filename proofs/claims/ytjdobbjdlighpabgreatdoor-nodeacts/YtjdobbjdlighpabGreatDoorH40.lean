/-
  NodeActs returns true whatever the acts, the name and the rep: the tied card NodeActsCardSaid. Conditions: those of the card itself (the twelve sentinels and errors' own type handle lie as the program's text lays them).
-/
import Derived.Test.YtjdobbjdlighpabGreatDoorCards
import Derived.Test.YtjdobbjdlighpabGreatDoorTie
import Derived.Test.YtjdobbjdlighpabGreatDoorH02
import Derived.Test.YtjdobbjdlighpabGreatDoorH39
import Derived.WalkKit
import Derived.ProofKit
import Derived.OpenShut
import Derived.LaidMore
import Derived.LaidSub
import Derived.Lib.LaidTab
import Derived.Deep.DeepHandedRow
import Derived.Deep.DeepWitnessRowRef
import Derived.Deep.Strs
namespace Go.Proofs.YtjdobbjdlighpabGreatDoor.naCard
open Go.ChangeShapes Go.WideShapes Go.ChangeAt Go.RowKit
open Go.ChangeMaps (open_string shut_string)
open Go.Joins
open Go.Deep (open_slice choose_lt add_add trod_struct3)

theorem own : ownKnob Tryz.prog.godebug = none := by kernel_rfl
theorem cellsAct : Tryz.prog.cellsOf 37 = 3 := by kernel_rfl
theorem cellsID : Tryz.prog.cellsOf 25 = 2 := by kernel_rfl
theorem cellsStr : Tryz.prog.cellsOf 9 = 1 := by kernel_rfl
theorem errs {W : World} (h : laidMetH Tryz.prog Rows.nodeActsRow.laid W) : ∃ a, ErrW W a :=
  errW_of_laid (show laidMetH Tryz.prog errLaid W from laidMetH.filter (fun x => x.1 == "errors.errorType" || errSents.any (fun y => y.1 == x.1)) h)

set_option maxRecDepth 100000 in
theorem acts_open {H : Type} {enc : TypeId × Value → H} {W : World} {a0 : Option Addr} {len cap : Nat} {d : DataW H} {ps : List MemPlace} (h : DataW.Trod enc Tryz.prog W 0 (fun _ => true) true 22 (.slice a0 len cap) d ps) :
    ∃ l : List Act3, Acts3At W (.slice a0 len cap) l := by
  obtain ⟨fuel, hf⟩ := h
  rcases open_slice Tryz.underlying22 hf with ⟨hcs, _⟩ | ⟨a, len', cap', m, n, D, Pl, hcs, _, hl, hm, hmm, _, hel⟩
  · simp [Value.cells] at hcs
    obtain ⟨rfl, rfl, rfl⟩ := hcs
    exact ⟨[], none, 0, rfl, fun i hi => by simp at hi⟩
  · simp [Value.cells] at hcs
    obtain ⟨rfl, rfl, rfl⟩ := hcs
    have hlm : len ≤ m := by rw [hmm]; simpa using hl
    rw [cellsAct] at hel
    have each : ∀ i, i < len → ∃ q : Act3, W.cell? (a.add (i * 3)) = some (.string q.1) ∧ W.cell? (a.add (i * 3 + 1)) = some (.string q.2.1) ∧ W.cell? (a.add (i * 3 + 2)) = some (.string q.2.2) := by
      intro i hi
      obtain ⟨cs', h1, h2⟩ := hel i (by omega)
      obtain ⟨_, hlen, hcell⟩ := World.cells?_some h1
      obtain ⟨y0, y1, y2, k, _, _, g0, g1, g2⟩ := trod_struct3 Tryz.underlying37 h2
      match cs', hlen with
      | [v0, v1, v2], _ =>
        simp [cellsStr] at g0 g1 g2
        obtain ⟨s0, e0, _, _⟩ := DataW.trod_string Tryz.underlying9 g0
        obtain ⟨s1, e1, _, _⟩ := DataW.trod_string Tryz.underlying9 g1
        obtain ⟨s2, e2, _, _⟩ := DataW.trod_string Tryz.underlying9 g2
        simp at e0 e1 e2
        subst e0 e1 e2
        have c0 := hcell 0 (by omega)
        have c1 := hcell 1 (by omega)
        have c2 := hcell 2 (by omega)
        rw [add_add] at c0 c1 c2
        exact ⟨(s0, s1, s2), by simpa using c0, by simpa using c1, by simpa using c2⟩
    obtain ⟨f, hf'⟩ := choose_lt each
    refine ⟨(List.range len).map f, some a, cap, by simp, fun i hi => ?_⟩
    have hi' : i < len := by simpa using hi
    obtain ⟨b, off, spot⟩ := a
    have hspot : spot = none := by simpa [Addr.add] using World.cell?_spot (hf' 0 (by omega)).1
    subst hspot
    obtain ⟨c0, c1, c2⟩ := hf' i hi'
    have ha : ∀ j, (⟨b, off, none⟩ : Addr).add j = ⟨b, off + j, none⟩ := fun j => by unfold Addr.add; split <;> simp_all
    rw [ha] at c0 c1 c2
    rw [← Nat.add_assoc] at c1 c2
    simp only [List.getElem_map, List.getElem_range]
    exact ⟨b, off, rfl, lt_of_cell c0, c0, c1, c2⟩

set_option maxRecDepth 100000 in
theorem contract (H : Type) (enc : TypeId × Value → H) (W : World) (base : Nat) (args : Array Value) (ds gs : List (DataW H)) (before : List MemPlace)
    (hval : ∀ (j : Nat) t v, Tryz.f3.params[j]? = some t → args[j]? = some v → Value.okWide Tryz.prog W .any base t v)
    (hW : DataW.Whole enc Tryz.prog Tryz.f3.params.toList Rows.nodeActsSpec.vars false W args.toList ds gs before) (hL : laidMetH Tryz.prog Rows.nodeActsRow.laid W) :
    Calls Tryz.prog 3 args W fun e W' => ∃ v, e = .returned v ∧ Rows.nodeActsSpec.post enc Tryz.prog Tryz.f3 false true false false W args v W' := by
  have hW' := hW
  obtain ⟨p, q, hA0, hV, rfl, hfz, hnd⟩ := hW
  have hA : DataW.TrodAll enc Tryz.prog W 0 (fun _ => true) true Tryz.f3.params.toList args.toList ds p := hA0
  rw [Tryz.params3] at hA hval
  obtain ⟨v0, vs0, d0, ds0, p0, q0, hargs, rfl, rfl, h0, r0⟩ := trodAll_cons hA
  obtain ⟨v1, vs1, d1, ds1, p1, q1, rfl, rfl, rfl, h1, r1⟩ := trodAll_cons r0
  obtain ⟨v2, vs2, d2, ds2, p2, q2, rfl, rfl, rfl, h2, r2⟩ := trodAll_cons r1
  obtain ⟨rfl, rfl, rfl⟩ := trodAll_nil r2
  obtain rfl : args = #[v0, v1, v2] := Array.toList_inj.1 hargs
  obtain ⟨rfl, rfl⟩ := trodVars_none hV
  obtain ⟨a0, len, cap, rfl⟩ := okWide_slice Tryz.underlying22 (hval 0 22 v0 rfl rfl)
  obtain ⟨s, rfl, rfl, rfl, hzs⟩ := open_string Tryz.underlying9 (hval 1 9 v1 rfl rfl) h1
  obtain ⟨c0, c1, y0, y1, m, rfl, rfl, rfl, hy0, hy1⟩ := open_agg2 Tryz.underlying25 (by kernel_rfl) cellsID (hval 2 25 v2 rfl rfl) h2
  obtain ⟨n, e0, rfl, wn⟩ := DataW.trod_int Tryz.underlying23 hy0
  obtain ⟨l1, e1, rfl, wl⟩ := DataW.trod_int Tryz.underlying3 hy1
  simp at e0 e1
  subst e0 e1
  clear hA0
  simp only [List.append_nil] at hW'
  have hlt : ∀ x ∈ p0, x.block < W.heap.size := fun x hx => by simpa using hW'.lt x hx
  obtain ⟨l, hl⟩ := acts_open h0
  obtain ⟨aE, hE⟩ := errs hL
  have hnb := bounds_u32 wn
  obtain ⟨n', rfl⟩ := Int.eq_ofNat_of_zero_le hnb.1
  refine (nodeActs_any aE _ l s (n', l1) W ⟨by omega, (wf_i64' _).1 wl⟩ hE hl).mono fun e W' ⟨he, hg⟩ => ?_
  subst he
  refine ⟨_, rfl, _, _, _, [], p0, [], hW', ?_, ?_, ?_, hg.frame _, fun h => by cases h⟩
  · exact trodAll_cons_mk (shut_bool Tryz.underlying4 _) trodAll_mk0
  · have h2 := trodAll_cons_mk (Below.trod Tryz.laidOut (by kernel_rfl) (of_decide_eq_true (by kernel_rfl)) h0 hg hlt) (trodAll_cons_mk (shut_string Tryz.underlying9 hzs) (trodAll_cons_mk (shut_agg2 (v0 := .int .u32 (n' : Int)) (v1 := .int .i64 l1) (y0 := (.lit (.int .u32 (n' : Int)), [])) (y1 := (.lit (.int .i64 l1), [])) Tryz.underlying25 (by kernel_rfl) cellsID ⟨1, by simp [DataW.trod, Tryz.underlying23, wn]⟩ ⟨1, by simp [DataW.trod, Tryz.underlying3, wl]⟩) trodAll_mk0))
    simp only [List.append_nil] at h2
    exact h2
  · rfl

theorem laid_met (os : Os) : laidMetH Tryz.prog Rows.nodeActsRow.laid ((World.doorLaid Tryz.prog 269 os).forCall (fun _ _ => 0) ⟨#[], #[.slice none 0 0, .string ⟨#[]⟩, idV 0 0], []⟩).memory :=
  laidMetH_of_parts3 (fuel := 8) (laidMet_of_run' 8 (by kernel_rfl) (by kernel_rfl)) (by kernel_rfl) (by kernel_rfl)
theorem reads (os : Os) {H : Type} (enc : TypeId × Value → H) : ∃ places, DataW.whole enc Tryz.prog ((World.doorLaid Tryz.prog 269 os).forCall (fun _ _ => 0) ⟨#[], #[.slice none 0 0, .string ⟨#[]⟩, idV 0 0], []⟩).memory Tryz.f3.params.toList Rows.nodeActsSpec.vars false (#[.slice none 0 0, .string ⟨#[]⟩, idV 0 0] : Array Value).toList 8 = some ([.nil, .lit (.string []), .agg [.lit (.int .u32 0), .lit (.int .i64 0)]], [], places) :=
  ⟨[], by kernel_rfl⟩

set_option maxRecDepth 100000 in
theorem lifted (os : Os) (started : os.Started) (H : Type) (enc : TypeId × Value → H) (F : Stop.Interp) :
    ReturnsInHanded {} Tryz.checked os 3 .any ((OpenSpec.ofChange Rows.nodeActsSpec).preRow enc Tryz.prog Tryz.f3 Rows.nodeActsRow.domain false Rows.nodeActsRow.laid) (((OpenSpec.ofChange Rows.nodeActsSpec).at F).post enc Tryz.prog Tryz.f3 false true false false) := by
  obtain ⟨places, hx⟩ := reads os enc
  refine returnsInHanded_of_row (C := Tryz.checked) (s := OpenSpec.ofChange Rows.nodeActsSpec) own started (by kernel_rfl) Tryz.func3
    (witness_row_atRef (enc := enc) (C := Tryz.checked) false (World.doorLaid Tryz.prog 269 os) #[.slice none 0 0, .string ⟨#[]⟩, idV 0 0] rfl (by kernel_rfl) (by kernel_rfl) (by kernel_rfl)
      (OpenSpec.preRow_of_cond 8 hx (by kernel_rfl) (fun k hk => by cases hk) (by kernel_rfl) (laid_met os))) ?_
  intro W base args ds gs before hval hW _ _ _ hL _ _
  exact contract H enc W base args ds gs before hval hW hL

end Go.Proofs.YtjdobbjdlighpabGreatDoor.naCard
