/-
  Own text. ScrubTells returns true whatever the files and the bins: the row's contract and its lift. Conditions: those of the card (the twelve sentinels and errors' own type handle lie as the program's text lays them).
-/
import Derived.Test.YtcbcjefefmbccabGreatDoorCards
import Derived.Test.YtcbcjefefmbccabGreatDoorTie
import Derived.Test.YtcbcjefefmbccabGreatDoorS01
import Derived.Test.YtcbcjefefmbccabGreatDoorS32
import Derived.WalkKit
import Derived.ProofKit
import Derived.OpenShut
import Derived.LaidMore
import Derived.LaidSub
import Derived.Lib.LaidTab
import Derived.Lib.SmallJoins
import Derived.Deep.DeepHandedRow
import Derived.Deep.DeepWitnessRowRef
import Derived.Deep.Strs
namespace Go.Proofs.YtcbcjefefmbccabGreatDoor.scCard
open Go.ChangeShapes Go.WideShapes Go.ChangeAt Go.RowKit
open Go.ChangeMaps (open_string shut_string)
open Go.Deep (open_slice choose_lt add_add trod_struct3)

theorem own : ownKnob Tryz.prog.godebug = none := by kernel_rfl
theorem cellsHeld : Tryz.prog.cellsOf 78 = 4 := by kernel_rfl
theorem cellsRcp : Tryz.prog.cellsOf 40 = 4 := by kernel_rfl
theorem cellsBin : Tryz.prog.cellsOf 58 = 3 := by kernel_rfl
theorem cellsID : Tryz.prog.cellsOf 25 = 2 := by kernel_rfl
theorem cellsStr : Tryz.prog.cellsOf 9 = 1 := by kernel_rfl
theorem cellsInt : Tryz.prog.cellsOf 3 = 1 := by kernel_rfl
theorem cellsU32 : Tryz.prog.cellsOf 23 = 1 := by kernel_rfl
theorem cellsIDs : Tryz.prog.cellsOf 38 = 1 := by kernel_rfl
theorem cellsHelds : Tryz.prog.cellsOf 56 = 1 := by kernel_rfl
theorem errs {W : World} (h : laidMetH Tryz.prog Rows.scrubTellsRow.laid W) : ∃ a, ErrW W a :=
  errW_of_laid (show laidMetH Tryz.prog errLaid W from laidMetH.filter (fun x => x.1 == "errors.errorType" || errSents.any (fun y => y.1 == x.1)) h)
theorem repOf_wf : ∀ (ids : List (Nat × Int)), (∀ i ∈ ids, WfID i) → WfID (repOf ids)
  | [], _ => ⟨by decide, by decide, by decide⟩
  | x :: r, h => by
    have hf : ∀ (r : List (Nat × Int)) (m : Nat × Int), WfID m → (∀ i ∈ r, WfID i) → WfID (r.foldl lesser m) := by
      intro r
      induction r with
      | nil => exact fun m hm _ => hm
      | cons y r ih =>
        intro m hm hr
        refine ih (lesser m y) ?_ fun i hi => hr i (List.mem_cons_of_mem _ hi)
        unfold lesser
        split
        · exact hr y (List.mem_cons_self ..)
        · exact hm
    exact hf r x (h x (List.mem_cons_self ..)) fun i hi => h i (List.mem_cons_of_mem _ hi)
theorem id_open {H : Type} {enc : TypeId × Value → H} {W : World} {n : Nat} {v2 v3 : Value} {x : DataW H × List MemPlace} (h : DataW.trod enc Tryz.prog W 0 (fun _ => true) true n 25 [v2, v3] = some x) :
    ∃ y : Nat × Int, v2 = .int .u32 (y.1 : Nat) ∧ v3 = .int .i64 y.2 ∧ WfID y := by
  obtain ⟨xs, k, hk, hxy, _, hxl, hf⟩ := DataW.trod_struct Tryz.underlying25 h
  have g0 := hf 0 _ rfl
  have g1 := hf 1 _ rfl
  match xs, hxl with
  | [y0, y1], _ =>
    simp [u32Cells, intCells] at g0 g1
    obtain ⟨p, e0, _, w0⟩ := DataW.trod_int Tryz.underlying23 g0
    obtain ⟨q, e1, _, w1⟩ := DataW.trod_int Tryz.underlying3 g1
    simp at e0 e1
    subst e0 e1
    rw [wf_u32] at w0
    rw [wf_i64'] at w1
    exact ⟨(p.toNat, q), by congr 1; omega, rfl, ⟨by show p.toNat < _; omega, w1⟩⟩
set_option maxRecDepth 100000 in
theorem ids_openC {H : Type} {enc : TypeId × Value → H} {W : World} {n0 : Nat} {v : Value} {x : DataW H × List MemPlace} (h : DataW.trod enc Tryz.prog W 0 (fun _ => true) true n0 38 [v] = some x) :
    ∃ l : List (Nat × Int), IdsAt W v l ∧ ∀ i ∈ l, WfID i := by
  rcases open_slice Tryz.underlying38 h with ⟨hcs, _⟩ | ⟨a, len, cap, m, n, D, Pl, hcs, _, hl, hm, hmm, _, hel⟩
  · obtain rfl : v = .slice none 0 0 := by simpa using hcs
    exact ⟨[], ⟨none, 0, rfl, fun i hi => by simp at hi⟩, fun i hi => by simp at hi⟩
  · obtain rfl : v = .slice (some a) len cap := by simpa using hcs
    have hlm : len ≤ m := by rw [hmm]; simpa using hl
    rw [cellsID] at hel
    have each : ∀ i, i < len → ∃ q : Nat × Int, W.cell? (a.add (i * 2)) = some (.int .u32 (q.1 : Nat)) ∧ W.cell? (a.add (i * 2 + 1)) = some (.int .i64 q.2) ∧ WfID q := by
      intro i hi
      obtain ⟨cs', h1, h2⟩ := hel i (by omega)
      obtain ⟨_, hlen, hcell⟩ := World.cells?_some h1
      match cs', hlen with
      | [v0, v1], _ =>
        obtain ⟨y, rfl, rfl, hw⟩ := id_open h2
        have c0 := hcell 0 (by omega)
        have c1 := hcell 1 (by omega)
        rw [add_add] at c0 c1
        exact ⟨y, by simpa using c0, by simpa using c1, hw⟩
    obtain ⟨f, hf'⟩ := choose_lt each
    refine ⟨(List.range len).map f, ⟨some a, cap, by simp, fun i hi => ?_⟩, fun i hi => ?_⟩
    · have hi' : i < len := by simpa using hi
      obtain ⟨b, off, spot⟩ := a
      have hspot : spot = none := by simpa [Addr.add] using World.cell?_spot (hf' 0 (by omega)).1
      subst hspot
      obtain ⟨c0, c1, _⟩ := hf' i hi'
      have ha : ∀ j, (⟨b, off, none⟩ : Addr).add j = ⟨b, off + j, none⟩ := fun j => by unfold Addr.add; split <;> simp_all
      rw [ha] at c0 c1
      rw [← Nat.add_assoc] at c1
      simp only [List.getElem_map, List.getElem_range]
      exact ⟨b, off, rfl, lt_of_cell c0, c0, c1⟩
    · obtain ⟨k, hk, rfl⟩ := List.mem_map.1 hi
      exact (hf' k (List.mem_range.1 hk)).2.2
set_option maxRecDepth 100000 in
theorem helds_openC {H : Type} {enc : TypeId × Value → H} {W : World} {n0 : Nat} {v : Value} {x : DataW H × List MemPlace} (h : DataW.trod enc Tryz.prog W 0 (fun _ => true) true n0 56 [v] = some x) :
    ∃ l : List Hd, HeldsAt W v l ∧ ∀ h ∈ l, WfID h.1 := by
  rcases open_slice Tryz.underlying56 h with ⟨hcs, _⟩ | ⟨a, len, cap, m, n, D, Pl, hcs, _, hl, hm, hmm, _, hel⟩
  · obtain rfl : v = .slice none 0 0 := by simpa using hcs
    exact ⟨[], ⟨none, 0, rfl, fun i hi => by simp at hi⟩, fun h hh => by simp at hh⟩
  · obtain rfl : v = .slice (some a) len cap := by simpa using hcs
    have hlm : len ≤ m := by rw [hmm]; simpa using hl
    have hlc : len ≤ cap := by simpa using hl
    rw [cellsHeld] at hel
    have each : ∀ i, i < len → ∃ q : Hd, W.cell? (a.add (i * 4)) = some (.int .u32 (q.1.1 : Nat)) ∧ W.cell? (a.add (i * 4 + 1)) = some (.int .i64 q.1.2) ∧ W.cell? (a.add (i * 4 + 2)) = some (.int .i64 q.2.1) ∧ W.cell? (a.add (i * 4 + 3)) = some (.string ⟨q.2.2.toArray⟩) ∧ WfID q.1 := by
      intro i hi
      obtain ⟨cs', h1, h2⟩ := hel i (by omega)
      obtain ⟨_, hlen, hcell⟩ := World.cells?_some h1
      obtain ⟨y0, y1, y2, k, _, _, g0, g1, g2⟩ := trod_struct3 Tryz.underlying78 h2
      match cs', hlen with
      | [v0, v1, v2, v3], _ =>
        simp [cellsStr, cellsID, cellsInt] at g0 g1 g2
        obtain ⟨y, rfl, rfl, hw⟩ := id_open g0
        obtain ⟨q, e1, _, w1⟩ := DataW.trod_int Tryz.underlying3 g1
        obtain ⟨s0, e0, _, _⟩ := DataW.trod_string Tryz.underlying9 g2
        simp at e0 e1
        subst e0 e1
        have c0 := hcell 0 (by omega)
        have c1 := hcell 1 (by omega)
        have c2 := hcell 2 (by omega)
        have c3 := hcell 3 (by omega)
        rw [add_add] at c0 c1 c2 c3
        exact ⟨(y, q, s0.data.toList), by simpa using c0, by simpa using c1, by simpa using c2, by simpa using c3, hw⟩
    obtain ⟨f, hf'⟩ := choose_lt each
    refine ⟨(List.range len).map f, ⟨some a, cap, by simp, fun i hi => ?_⟩, fun h hh => ?_⟩
    · have hi' : i < len := by simpa using hi
      obtain ⟨b, off, spot⟩ := a
      have hspot : spot = none := by simpa [Addr.add] using World.cell?_spot (hf' 0 (by omega)).1
      subst hspot
      obtain ⟨c0, c1, c2, c3, _⟩ := hf' i hi'
      have ha : ∀ j, (⟨b, off, none⟩ : Addr).add j = ⟨b, off + j, none⟩ := fun j => by unfold Addr.add; split <;> simp_all
      rw [ha] at c0 c1 c2 c3
      rw [← Nat.add_assoc] at c1 c2 c3
      simp only [List.getElem_map, List.getElem_range]
      exact ⟨b, off, rfl, ⟨lt_of_cell c0, by simpa using hlc⟩, c0, c1, c2, c3⟩
    · obtain ⟨i, hi, rfl⟩ := List.mem_map.1 hh
      exact (hf' i (List.mem_range.1 hi)).2.2.2.2
set_option maxRecDepth 100000 in
theorem rcps_open {H : Type} {enc : TypeId × Value → H} {W : World} {a0 : Option Addr} {len cap : Nat} {d : DataW H} {ps : List MemPlace} (h : DataW.Trod enc Tryz.prog W 0 (fun _ => true) true 31 (.slice a0 len cap) d ps) :
    ∃ l : List Rcp, RcpsAt W (.slice a0 len cap) l ∧ (∀ r ∈ l, 0 ≤ r.2.2.1) ∧ ∀ r ∈ l, ∀ i ∈ r.2.2.2, WfID i := by
  obtain ⟨fuel, hf⟩ := h
  rcases open_slice Tryz.underlying31 hf with ⟨hcs, _⟩ | ⟨a, len', cap', m, n, D, Pl, hcs, _, hl, hm, hmm, _, hel⟩
  · simp [Value.cells] at hcs
    obtain ⟨rfl, rfl, rfl⟩ := hcs
    exact ⟨[], ⟨none, 0, rfl, fun i hi => by simp at hi⟩, fun r hr => by simp at hr, fun r hr => by simp at hr⟩
  · simp [Value.cells] at hcs
    obtain ⟨rfl, rfl, rfl⟩ := hcs
    have hlm : len ≤ m := by rw [hmm]; simpa using hl
    rw [cellsRcp] at hel
    have each : ∀ i, i < len → ∃ q : Rcp × Value, W.cell? (a.add (i * 4)) = some (.string ⟨q.1.1.toArray⟩) ∧ W.cell? (a.add (i * 4 + 1)) = some (.int .i64 q.1.2.1) ∧ W.cell? (a.add (i * 4 + 2)) = some (.int .u32 q.1.2.2.1) ∧ W.cell? (a.add (i * 4 + 3)) = some q.2 ∧ IdsAt W q.2 q.1.2.2.2 ∧ 0 ≤ q.1.2.2.1 ∧ ∀ i ∈ q.1.2.2.2, WfID i := by
      intro i hi
      obtain ⟨cs', h1, h2⟩ := hel i (by omega)
      obtain ⟨_, hlen, hcell⟩ := World.cells?_some h1
      obtain ⟨xs, k, hk, hxy, _, hxl, hf⟩ := DataW.trod_struct Tryz.underlying40 h2
      have g0 := hf 0 _ rfl
      have g1 := hf 1 _ rfl
      have g2 := hf 2 _ rfl
      have g3 := hf 3 _ rfl
      match cs', hlen, xs, hxl with
      | [v0, v1, v2, v3], _, [y0, y1, y2, y3], _ =>
        simp [cellsStr, cellsInt, cellsU32, cellsIDs] at g0 g1 g2 g3
        obtain ⟨s0, e0, _, _⟩ := DataW.trod_string Tryz.underlying9 g0
        obtain ⟨q1, e1, _, _⟩ := DataW.trod_int Tryz.underlying3 g1
        obtain ⟨q2, e2, _, w2⟩ := DataW.trod_int Tryz.underlying23 g2
        simp at e0 e1 e2
        subst e0 e1 e2
        rw [wf_u32] at w2
        obtain ⟨ids, hids, hwf⟩ := ids_openC g3
        have c0 := hcell 0 (by omega)
        have c1 := hcell 1 (by omega)
        have c2 := hcell 2 (by omega)
        have c3 := hcell 3 (by omega)
        rw [add_add] at c0 c1 c2 c3
        exact ⟨((s0.data.toList, q1, q2, ids), v3), by simpa using c0, by simpa using c1, by simpa using c2, by simpa using c3, hids, w2.1, hwf⟩
    obtain ⟨f, hf'⟩ := choose_lt each
    refine ⟨(List.range len).map fun i => (f i).1, ⟨some a, cap, by simp, fun i hi => ?_⟩, fun r hr => ?_, fun r hr => ?_⟩
    · have hi' : i < len := by simpa using hi
      obtain ⟨b, off, spot⟩ := a
      have hspot : spot = none := by simpa [Addr.add] using World.cell?_spot (hf' 0 (by omega)).1
      subst hspot
      obtain ⟨c0, c1, c2, c3, hids, _⟩ := hf' i hi'
      have ha : ∀ j, (⟨b, off, none⟩ : Addr).add j = ⟨b, off + j, none⟩ := fun j => by unfold Addr.add; split <;> simp_all
      rw [ha] at c0 c1 c2 c3
      rw [← Nat.add_assoc] at c1 c2 c3
      simp only [List.getElem_map, List.getElem_range]
      exact ⟨b, off, (f i).2, rfl, lt_of_cell c0, c0, c1, c2, c3, hids⟩
    · obtain ⟨i, hi, rfl⟩ := List.mem_map.1 hr
      exact (hf' i (List.mem_range.1 hi)).2.2.2.2.2.1
    · obtain ⟨i, hi, rfl⟩ := List.mem_map.1 hr
      exact (hf' i (List.mem_range.1 hi)).2.2.2.2.2.2
set_option maxRecDepth 100000 in
theorem bins_open {H : Type} {enc : TypeId × Value → H} {W : World} {a0 : Option Addr} {len cap : Nat} {d : DataW H} {ps : List MemPlace} (h : DataW.Trod enc Tryz.prog W 0 (fun _ => true) true 51 (.slice a0 len cap) d ps) :
    ∃ l : List NBin, LoadsAt W (.slice a0 len cap) l ∧ ∀ b ∈ l, WfID b.1 ∧ ∀ h ∈ b.2, WfID h.1 := by
  obtain ⟨fuel, hf⟩ := h
  rcases open_slice Tryz.underlying51 hf with ⟨hcs, _⟩ | ⟨a, len', cap', m, n, D, Pl, hcs, _, hl, hm, hmm, _, hel⟩
  · simp [Value.cells] at hcs
    obtain ⟨rfl, rfl, rfl⟩ := hcs
    exact ⟨[], ⟨none, 0, rfl, fun i hi => by simp at hi⟩, fun r hr => by simp at hr⟩
  · simp [Value.cells] at hcs
    obtain ⟨rfl, rfl, rfl⟩ := hcs
    have hlm : len ≤ m := by rw [hmm]; simpa using hl
    rw [cellsBin] at hel
    have each : ∀ i, i < len → ∃ q : NBin × Value, W.cell? (a.add (i * 3)) = some (.int .u32 (q.1.1.1 : Nat)) ∧ W.cell? (a.add (i * 3 + 1)) = some (.int .i64 q.1.1.2) ∧ W.cell? (a.add (i * 3 + 2)) = some q.2 ∧ HeldsAt W q.2 q.1.2 ∧ WfID q.1.1 ∧ ∀ h ∈ q.1.2, WfID h.1 := by
      intro i hi
      obtain ⟨cs', h1, h2⟩ := hel i (by omega)
      obtain ⟨_, hlen, hcell⟩ := World.cells?_some h1
      obtain ⟨xs, k, hk, hxy, _, hxl, hf⟩ := DataW.trod_struct Tryz.underlying58 h2
      have g0 := hf 0 _ rfl
      have g1 := hf 1 _ rfl
      match cs', hlen, xs, hxl with
      | [v0, v1, v2], _, [y0, y1], _ =>
        simp [cellsID, cellsHelds] at g0 g1
        obtain ⟨y, rfl, rfl, hw⟩ := id_open g0
        obtain ⟨hs, hhs, hwf⟩ := helds_openC g1
        have c0 := hcell 0 (by omega)
        have c1 := hcell 1 (by omega)
        have c2 := hcell 2 (by omega)
        rw [add_add] at c0 c1 c2
        exact ⟨((y, hs), v2), by simpa using c0, by simpa using c1, by simpa using c2, hhs, hw, hwf⟩
    obtain ⟨f, hf'⟩ := choose_lt each
    refine ⟨(List.range len).map fun i => (f i).1, ⟨some a, cap, by simp, fun i hi => ?_⟩, fun r hr => ?_⟩
    · have hi' : i < len := by simpa using hi
      obtain ⟨b, off, spot⟩ := a
      have hspot : spot = none := by simpa [Addr.add] using World.cell?_spot (hf' 0 (by omega)).1
      subst hspot
      obtain ⟨c0, c1, c2, hh, _⟩ := hf' i hi'
      have ha : ∀ j, (⟨b, off, none⟩ : Addr).add j = ⟨b, off + j, none⟩ := fun j => by unfold Addr.add; split <;> simp_all
      rw [ha] at c0 c1 c2
      rw [← Nat.add_assoc] at c1 c2
      simp only [List.getElem_map, List.getElem_range]
      exact ⟨b, off, (f i).2, rfl, lt_of_cell c0, c0, c1, c2, hh⟩
    · obtain ⟨i, hi, rfl⟩ := List.mem_map.1 hr
      exact (hf' i (List.mem_range.1 hi)).2.2.2.2
set_option maxRecDepth 100000 in
theorem contract (H : Type) (enc : TypeId × Value → H) (W : World) (base : Nat) (args : Array Value) (ds gs : List (DataW H)) (before : List MemPlace)
    (hval : ∀ (j : Nat) t v, Tryz.f4.params[j]? = some t → args[j]? = some v → Value.okWide Tryz.prog W .any base t v)
    (hW : DataW.Whole enc Tryz.prog Tryz.f4.params.toList Rows.scrubTellsSpec.vars false W args.toList ds gs before) (hL : laidMetH Tryz.prog Rows.scrubTellsRow.laid W) :
    Calls Tryz.prog 4 args W fun e W' => ∃ v, e = .returned v ∧ Rows.scrubTellsSpec.post enc Tryz.prog Tryz.f4 false true false false W args v W' := by
  have hW' := hW
  obtain ⟨p, q, hA0, hV, rfl, hfz, hnd⟩ := hW
  have hA : DataW.TrodAll enc Tryz.prog W 0 (fun _ => true) true Tryz.f4.params.toList args.toList ds p := hA0
  rw [Tryz.params4] at hA hval
  obtain ⟨v0, vs0, d0, ds0, p0, q0, hargs, rfl, rfl, h0, r0⟩ := trodAll_cons hA
  obtain ⟨v1, vs1, d1, ds1, p1, q1, rfl, rfl, rfl, h1, r1⟩ := trodAll_cons r0
  obtain ⟨rfl, rfl, rfl⟩ := trodAll_nil r1
  obtain rfl : args = #[v0, v1] := Array.toList_inj.1 hargs
  obtain ⟨rfl, rfl⟩ := trodVars_none hV
  obtain ⟨a0, len, cap, rfl⟩ := okWide_slice Tryz.underlying31 (hval 0 31 v0 rfl rfl)
  obtain ⟨a1, len1, cap1, rfl⟩ := okWide_slice Tryz.underlying51 (hval 1 51 v1 rfl rfl)
  clear hA0
  have hlt0 : ∀ x ∈ p0, x.block < W.heap.size := fun x hx => hW'.lt x (by simp [hx])
  have hlt1 : ∀ x ∈ p1, x.block < W.heap.size := fun x hx => hW'.lt x (by simp [hx])
  obtain ⟨fs, hfs, hpr, hwf⟩ := rcps_open h0
  obtain ⟨bs, hbs, hbw⟩ := bins_open h1
  obtain ⟨aE, hE⟩ := errs hL
  refine (scrubTells_any aE _ _ fs bs W hfs hbs hpr (fun r hr => ⟨hwf r hr, repOf_wf _ (hwf r hr)⟩) hbw hE).mono fun e W' ⟨he, hg⟩ => ?_
  subst he
  refine ⟨_, rfl, _, _, _, [], p0 ++ (p1 ++ []), [], hW', ?_, ?_, ?_, hg.frame _, fun h => by cases h⟩
  · exact trodAll_cons_mk (shut_bool Tryz.underlying4 _) trodAll_mk0
  · exact trodAll_cons_mk (Below.trod Tryz.laidOut (by kernel_rfl) (of_decide_eq_true (by kernel_rfl)) h0 hg hlt0) (trodAll_cons_mk (Below.trod Tryz.laidOut (by kernel_rfl) (of_decide_eq_true (by kernel_rfl)) h1 hg hlt1) trodAll_mk0)
  · rfl
theorem laid_met (os : Os) : laidMetH Tryz.prog Rows.scrubTellsRow.laid ((World.doorLaid Tryz.prog 269 os).forCall (fun _ _ => 0) ⟨#[], #[.slice none 0 0, .slice none 0 0], []⟩).memory :=
  laidMetH_of_parts3 (fuel := 8) (laidMet_of_run' 8 (by kernel_rfl) (by kernel_rfl)) (by kernel_rfl) (by kernel_rfl)
theorem reads (os : Os) {H : Type} (enc : TypeId × Value → H) : ∃ places, DataW.whole enc Tryz.prog ((World.doorLaid Tryz.prog 269 os).forCall (fun _ _ => 0) ⟨#[], #[.slice none 0 0, .slice none 0 0], []⟩).memory Tryz.f4.params.toList Rows.scrubTellsSpec.vars false (#[.slice none 0 0, .slice none 0 0] : Array Value).toList 8 = some ([.nil, .nil], [], places) :=
  ⟨[], by kernel_rfl⟩
set_option maxRecDepth 100000 in
theorem lifted (os : Os) (started : os.Started) (H : Type) (enc : TypeId × Value → H) (F : Stop.Interp) :
    ReturnsInHanded {} Tryz.checked os 4 .any ((OpenSpec.ofChange Rows.scrubTellsSpec).preRow enc Tryz.prog Tryz.f4 Rows.scrubTellsRow.domain false Rows.scrubTellsRow.laid) (((OpenSpec.ofChange Rows.scrubTellsSpec).at F).post enc Tryz.prog Tryz.f4 false true false false) := by
  obtain ⟨places, hx⟩ := reads os enc
  refine returnsInHanded_of_row (C := Tryz.checked) (s := OpenSpec.ofChange Rows.scrubTellsSpec) own started (by kernel_rfl) Tryz.func4
    (witness_row_atRef (enc := enc) (C := Tryz.checked) false (World.doorLaid Tryz.prog 269 os) #[.slice none 0 0, .slice none 0 0] rfl (by kernel_rfl) (by kernel_rfl) (by kernel_rfl)
      (OpenSpec.preRow_of_cond 8 hx (by kernel_rfl) (fun k hk => by cases hk) (by kernel_rfl) (laid_met os))) ?_
  intro W base args ds gs before hval hW _ _ _ hL _ _
  exact contract H enc W base args ds gs before hval hW hL
end Go.Proofs.YtcbcjefefmbccabGreatDoor.scCard
