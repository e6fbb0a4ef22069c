/-
  Own text. OwnRecipe by a contract: the same recipe, its IDs in new memory.
-/
import Derived.Test.YthgajeobenagjaaGreatDoorRecOf
namespace Go.Proofs.YthgajeobenagjaaGreatDoor
open Go.RowKit

theorem idCells_cells {W : World} {b o : Nat} {ids : List (Nat × Int)} (h : ∀ i (h : i < ids.length), W.cell? ⟨b, o + i * 2, none⟩ = some (.int .u32 (ids[i].1 : Nat)) ∧ W.cell? ⟨b, o + i * 2 + 1, none⟩ = some (.int .i64 ids[i].2)) :
    ∀ j u, (idCells ids)[j]? = some u → W.cell? ((⟨b, o, none⟩ : Addr).add j) = some u := by
  intro j u hj
  have hjl : j < (idCells ids).length := (List.getElem?_eq_some_iff.1 hj).1
  rw [idCells_length] at hjl
  have hi : j / 2 < ids.length := by omega
  have ha : (⟨b, o, none⟩ : Addr).add j = ⟨b, o + j, none⟩ := by unfold Addr.add; split <;> simp_all
  rw [ha]
  have e := idCells_at ids (j / 2) hi
  rcases Nat.mod_two_eq_zero_or_one j with h0 | h0
  · have hj2 : j / 2 * 2 = j := by omega
    rw [hj2] at e
    have h1 := (h (j / 2) hi).1
    rw [hj2] at h1
    rw [h1, ← hj, e.1]
  · have hj2 : j / 2 * 2 + 1 = j := by omega
    rw [hj2] at e
    have h1 := (h (j / 2) hi).2
    rw [Nat.add_assoc, hj2] at h1
    rw [h1, ← hj, e.2]
theorem idCells_one (ids : List (Nat × Int)) : ∀ u ∈ idCells ids, u.oneCell' = true := by
  induction ids with
  | nil => simp [idCells]
  | cons x r ih =>
    intro u hu
    simp only [idCells, List.mem_cons] at hu
    rcases hu with rfl | rfl | hu
    · rfl
    · rfl
    · exact ih u hu

/- A recipe in a box, and an empty one behind it. -/
structure OwnW (w W : World) (nm : ByteArray) (len p : Int) (v : Value) : Prop where
  below : Below w.heap.size w W
  size : w.heap.size + 1 < W.heap.size
  b0 : W.cell? ⟨w.heap.size, 0, none⟩ = some (.string nm)
  b1 : W.cell? ⟨w.heap.size, 1, none⟩ = some (.int .i64 len)
  b2 : W.cell? ⟨w.heap.size, 2, none⟩ = some (.int .u32 p)
  b3 : W.cell? ⟨w.heap.size, 3, none⟩ = some v
  r0 : W.cell? ⟨w.heap.size + 1, 0, none⟩ = some (.string ⟨#[]⟩)
  r1 : W.cell? ⟨w.heap.size + 1, 1, none⟩ = some (.int .i64 0)
  r2 : W.cell? ⟨w.heap.size + 1, 2, none⟩ = some (.int .u32 0)
  r3 : W.cell? ⟨w.heap.size + 1, 3, none⟩ = some (.slice none 0 0)
  g : ∀ i, W.frozen? ⟨w.heap.size, i, none⟩ = false
  f : ∀ i, W.frozen? ⟨w.heap.size + 1, i, none⟩ = false
theorem OwnW.of {w W : World} (nm : ByteArray) (len p : Int) (v : Value) (t : TypeId)
    (hb : Below ((w.alloc (.cells #[.string nm, .int .i64 len, .int .u32 p, v] t)).alloc (.cells #[.string ⟨#[]⟩, .int .i64 0, .int .u32 0, .slice none 0 0] t)).heap.size ((w.alloc (.cells #[.string nm, .int .i64 len, .int .u32 p, v] t)).alloc (.cells #[.string ⟨#[]⟩, .int .i64 0, .int .u32 0, .slice none 0 0] t)) W) : OwnW w W nm len p v := by
  have hs := hb.size
  simp only [World.size_alloc] at hs
  have c : ∀ i u, (#[.string nm, .int .i64 len, .int .u32 p, v] : Array Value)[i]? = some u → W.cell? ⟨w.heap.size, i, none⟩ = some u := fun i u h =>
    (hb.cell (p := ⟨w.heap.size, i, none⟩) (by simp; omega)).trans ((World.cell?_alloc_lt _ _ ⟨w.heap.size, i, none⟩ (by simp)).trans (new_cell w _ _ h rfl))
  have r : ∀ i u, (#[.string ⟨#[]⟩, .int .i64 0, .int .u32 0, .slice none 0 0] : Array Value)[i]? = some u → W.cell? ⟨w.heap.size + 1, i, none⟩ = some u := fun i u h =>
    (hb.cell (p := ⟨w.heap.size + 1, i, none⟩) (by simp)).trans (new_cell _ _ _ h (by simp))
  refine ⟨(((Below.refl _ w).alloc (Nat.le_refl _) _).alloc (by simp) _).trans (hb.mono (by simp; omega)), by omega, c 0 _ rfl, c 1 _ rfl, c 2 _ rfl, c 3 _ rfl, r 0 _ rfl, r 1 _ rfl, r 2 _ rfl, r 3 _ rfl, fun i => ?_, fun i => ?_⟩
  · rw [hb.frozen (p := ⟨w.heap.size, i, none⟩) (by simp; omega), frozen_alloc_lt' _ _ (by simp)]
    exact new_frozen w _ _ rfl
  · rw [hb.frozen (p := ⟨w.heap.size + 1, i, none⟩) (by simp)]
    exact new_frozen _ _ _ (by simp)
theorem below_of_grown {w w' : World} (h : w.grownBy w' none) : Below w.heap.size w w' := ⟨h.os, h.tape, h.output, h.size, fun k hk => h.block k hk (by simp)⟩

set_option maxRecDepth 100000 in
set_option maxHeartbeats 4000000 in
theorem ownRecipe_any (nm : ByteArray) (len : Int) (p : Nat) (v : Value) (ids : List (Nat × Int)) (w : World) (hv : IdsAt w v ids) (hlen : ids.length ≤ 50000) :
    Calls Tryz.prog 20 #[rcpV nm len (p : Nat) v] w fun e w' => ∃ v', e = .returned (rcpV nm len (p : Nat) v') ∧ IdsIn w.heap.size w' v' ids ∧ Below w.heap.size w w' := by
  obtain ⟨i0, hi, hz0, hz1, hz2⟩ := info_parts infoID
  obtain ⟨pa, c, rfl, hcell⟩ := hv
  have HL : Hid (ids.length ≤ 50000) := hlen
  clear hlen
  have hB0 : ∀ oo oo', Below w.heap.size w ((w.alloc oo).alloc oo') := fun oo oo' => ((Below.refl _ w).alloc (Nat.le_refl _) _).alloc (by simp) _
  cases pa with
  | none =>
    have h0 : ids.length = 0 := by
      rcases Nat.eq_zero_or_pos ids.length with h | h
      · exact h
      · obtain ⟨b, o, hp, _⟩ := hcell 0 h
        cases hp
    obtain rfl : ids = [] := List.eq_nil_of_length_eq_zero h0
    clear hcell h0
    go_enter Tryz.func20, Tryz.ntmps20
    go_wp2_with fail
    exact bodyPost_ret (v := rcpV nm len (p : Nat) (.slice none 0 0)) (by simp [results, Tryz.results20, go_sem]) rfl ⟨.slice none 0 0, rfl, IdsIn.nil _ _, hB0 _ _⟩
  | some ad =>
    by_cases hn : ids = []
    · subst hn
      clear hcell
      obtain ⟨b, o, sp⟩ := ad
      go_enter Tryz.func20, Tryz.ntmps20
      go_wp2_with fail
      exact bodyPost_ret (v := rcpV nm len (p : Nat) (.slice none 0 0)) (by simp [results, Tryz.results20, go_sem]) rfl ⟨.slice none 0 0, rfl, IdsIn.nil _ _, hB0 _ _⟩
    · have hn1 : 1 ≤ ids.length := by
        rcases Nat.eq_zero_or_pos ids.length with h | h
        · exact (hn (List.eq_nil_of_length_eq_zero h)).elim
        · exact h
      clear hn
      obtain ⟨b, o, hp, hbl, _⟩ := hcell 0 hn1
      cases hp
      have HC : Hid (∀ W', Below w.heap.size w W' → ∀ j u, (idCells ids)[j]? = some u → W'.cell? ((⟨b, o, none⟩ : Addr).add j) = some u) := fun W' hb => idCells_cells (fun i hi => by
        obtain ⟨b', o', hp, hl, h1, h2⟩ := hcell i hi
        cases hp
        exact ⟨(hb.cell (p := ⟨b, o + i * 2, none⟩) hl).trans h1, (hb.cell (p := ⟨b, o + i * 2 + 1, none⟩) hl).trans h2⟩)
      clear hcell hbl
      obtain ⟨m, hm⟩ : ∃ m, ids.length = m := ⟨_, rfl⟩
      have HM : Hid (ids.length = m) := hm
      have HNL : Hid ((idCells ids).length = m * 2) := by show _ = _; rw [idCells_length, hm]
      have HM5 : Hid (m ≤ 50000) := by show _ ≤ _; rw [← hm]; exact HL.out
      rw [hm] at hn1 ⊢
      clear hm HL
      go_enter Tryz.func20, Tryz.ntmps20
      go_wp2_with (at_builtin; refine wpList_append_own _ rfl (.tmp 4) (.tmp 6) 24 rfl (w.heap.size + 1 + 1) 40 i0 (idV 0 0) 2 16 Tryz.underlying24 hi hz0 hz1 hz2 rfl (by decide) (.slice none 0 0) 0 [] rfl (World.ownsRow_nil _ _ _ _) ⟨b, o, none⟩ m c (idCells ids) rfl HNL.out (HC.out _ (hB0 _ _)) (idCells_one ids) (by have := HM5.out; unfold maxLen; omega) (by have := HM5.out; omega) (by simp) ?_; intro v' w1 hown' hgrow _; rw [Nat.zero_add, List.nil_append] at hown'; have hO := OwnW.of nm len p _ _ (below_of_grown hgrow); obtain ⟨pp, cc, hu, _⟩ := IdsAt.of_row (ids := ids) (by rw [HM.out]; exact hown'); rw [HM.out] at hu; subst hu; clear hgrow; have b0 := hO.b0; have b1 := hO.b1; have b2 := hO.b2; have b3 := hO.b3; have r0 := hO.r0; have r1 := hO.r1; have r2 := hO.r2; have r3 := hO.r3; have g3 := hO.g 3; have f0 := hO.f 0; have f1 := hO.f 1; have f2 := hO.f 2; have f3 := hO.f 3)
      refine bodyPost_ret (v := rcpV nm len (p : Nat) (.slice pp m cc)) (by simp [results, Tryz.results20, go_sem, r0, r1, r2, r3]) rfl ⟨.slice pp m cc, rfl, ?_, ((((hO.below.setCell (p := ⟨w.heap.size, 3, none⟩) (Nat.le_refl _) _).setCell (p := ⟨w.heap.size + 1, 0, none⟩) (by simp) _).setCell (p := ⟨w.heap.size + 1, 1, none⟩) (by simp) _).setCell (p := ⟨w.heap.size + 1, 2, none⟩) (by simp) _).setCell (p := ⟨w.heap.size + 1, 3, none⟩) (by simp) _⟩
      refine (IdsIn.of_row (base := w.heap.size + 1 + 1) (e := 40) ?_).low (by omega)
      rw [HM.out]
      have h0 : w.heap.size < w.heap.size + 1 + 1 := by omega
      have h1 : w.heap.size + 1 < w.heap.size + 1 + 1 := by omega
      exact ownsRow_setCell_below (ownsRow_setCell_below (ownsRow_setCell_below (ownsRow_setCell_below (ownsRow_setCell_below hown' (a := ⟨w.heap.size, 3, none⟩) h0 _) (a := ⟨w.heap.size + 1, 0, none⟩) h1 _) (a := ⟨w.heap.size + 1, 1, none⟩) h1 _) (a := ⟨w.heap.size + 1, 2, none⟩) h1 _) (a := ⟨w.heap.size + 1, 3, none⟩) h1 _
end Go.Proofs.YthgajeobenagjaaGreatDoor
