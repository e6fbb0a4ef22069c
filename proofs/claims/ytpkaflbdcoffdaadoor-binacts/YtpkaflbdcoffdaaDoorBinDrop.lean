/-
  Own text. The document's bin by contracts: a use more or less in place; Drop.
-/
import Derived.Test.YtpkaflbdcoffdaaDoorBinFind
namespace Go.Proofs.YtpkaflbdcoffdaaDoor
open Go.RowKit

theorem heldCells_set : ∀ (l : List Hd) (k : Nat) (u : Int), k < l.length → (heldCells l).set (k * 4 + 2) (.int .i64 u) = heldCells (l.modify k (fun h => (h.1, u, h.2.2)))
  | [], _, _, h => by simp at h
  | x :: r, 0, u, _ => rfl
  | x :: r, k + 1, u, h => by
    have := heldCells_set r k u (by simpa using h)
    rw [show (k + 1) * 4 + 2 = k * 4 + 2 + 1 + 1 + 1 + 1 by omega]
    show _ :: _ :: _ :: _ :: _ = heldCells (x :: r.modify k _)
    rw [this]
    rfl
theorem RBin.open {w : World} {B : Nat} {v : Value} {l : List Hd} (h : RBin w B v l) (hn : 1 ≤ l.length) : ∃ g cap, v = .slice (some ⟨g, 0, none⟩) l.length cap ∧ (g ≠ B ∧ l.length ≤ cap ∧ cap ≤ maxLen) ∧ (∀ i, w.frozen? ⟨g, i, none⟩ = false) ∧ ∀ i (hi : i < l.length), w.cell? ⟨g, i * 4, none⟩ = some (.int .u32 (l[i].1.1 : Nat)) ∧ w.cell? ⟨g, i * 4 + 1, none⟩ = some (.int .i64 l[i].1.2) ∧ w.cell? ⟨g, i * 4 + 2, none⟩ = some (.int .i64 l[i].2.1) ∧ w.cell? ⟨g, i * 4 + 3, none⟩ = some (.string ⟨l[i].2.2.toArray⟩) := by
  have hap := h.apart
  obtain ⟨p, c, hv, hc⟩ := h.at
  obtain ⟨_, ho⟩ := h.row
  rcases ho with ⟨rfl, h0⟩ | ⟨g, cap, cur, rfl, _, hb, h1, h2, _⟩
  · omega
  · refine ⟨g, cap, rfl, ⟨fun e => hap (by simp [Value.ownBlock, e]), h1, h2⟩, fun i => ?_, fun i hi => ?_⟩
    · simp only [World.frozen?, hb]
      simp
    · obtain ⟨b, o, hp, _, a⟩ := hc i hi
      have hpp : p = some ⟨g, 0, none⟩ := (by simpa using hv.symm : p = some ⟨g, 0, none⟩ ∧ c = cap).1
      rw [hpp] at hp
      cases hp
      simpa using a
theorem RBin.setUses {w : World} {B g cap : Nat} {l : List Hd} (h : RBin w B (.slice (some ⟨g, 0, none⟩) l.length cap) l) (k : Nat) (hk : k < l.length) (u : Int) :
    RBin (w.setCell ⟨g, k * 4 + 2, none⟩ (.int .i64 u)) B (.slice (some ⟨g, 0, none⟩) l.length cap) (l.modify k (fun h => (h.1, u, h.2.2))) := by
  have hap : g ≠ B := fun e => h.apart (by simp [Value.ownBlock, e])
  refine ⟨h.blk.other (a := ⟨g, k * 4 + 2, none⟩) (fun e => hap e.symm) _, ?_⟩
  obtain ⟨hl, ho⟩ := h.row
  rcases ho with ⟨he, h0⟩ | ⟨g', cap', cur, he, hg, hb, h1, h2, h3, h4⟩
  · omega
  · obtain ⟨e1, e2⟩ : g' = g ∧ cap' = cap := by
      simp at he
      exact ⟨he.1.symm, he.2.symm⟩
    subst e1 e2
    rw [List.length_modify]
    refine ⟨by rw [heldCells_length, List.length_modify], .inr ⟨g', cap', cur.setIfInBounds (k * 4 + 2) (.int .i64 u), rfl, hg, ?_, h1, h2, by rw [Array.size_setIfInBounds]; exact h3, ?_⟩⟩
    · exact Blk.set (W := w) (B := g') (cs := cur) hb (k * 4 + 2) (.int .i64 u)
    · rw [Array.toList_setIfInBounds, List.take_set, h4, heldCells_set l k u hk]
theorem modify_use (l : List Hd) (k : Nat) (h : k < l.length) (d : Int) : l.modify k (fun h => (h.1, l[k].2.1 + d, h.2.2)) = l.modify k (hUse d) := by
  apply List.ext_getElem
  · simp
  · intro i h1 h2
    simp only [List.getElem_modify]
    split
    · rename_i e
      subst e
      rfl
    · rfl

set_option maxRecDepth 100000 in
set_option maxHeartbeats 4000000 in
theorem rDrop_any (B : Nat) (v : Value) (l : List Hd) (x : Nat × Int) (w : World) (hn : l.length ≤ maxLen) (hu : ∀ h ∈ l, 0 ≤ h.2.1 ∧ h.2.1 ≤ 9223372036854775807) (h : RBin w B v l) :
    Calls Tryd.prog 38 #[.pointer (some ⟨B, 0, none⟩), idV (x.1 : Nat) x.2] w fun e w' => e = .returned (.int .i64 (hDrop l x).1) ∧ RBin w' B v (hDrop l x).2 ∧ Off (RBin.Of B v) w w' := by
  have HR : Hid (RBin w B v l) := h
  have HN : Hid (l.length ≤ maxLen) := hn
  have hal : Below w.heap.size w (w.alloc (.cells #[.int .u32 (x.1 : Nat), .int .i64 x.2] 37)) := (Below.refl _ w).alloc (Nat.le_refl _) _
  have HR1 : Hid (RBin (w.alloc (.cells #[.int .u32 (x.1 : Nat), .int .i64 x.2] 37)) B v l) := h.below hal
  have HAL : Hid (Below w.heap.size w (w.alloc (.cells #[.int .u32 (x.1 : Nat), .int .i64 x.2] 37))) := hal
  clear h hn hal
  cases hf : hFind l x with
  | none =>
    have e1 : Hid (findI l x = -1) := by show _ = _; unfold findI; rw [hf]
    have e2 : Hid (hDrop l x = (5, l)) := by show _ = _; unfold hDrop; rw [hf]
    clear hf hu
    go_enter Tryd.func38, Tryd.ntmps38
    go_wp2_with fail
    refine (rFind_any B v l x _ HN.out HR1.out).mono ?_
    rintro e w1 ⟨rfl, hb1⟩
    rw [e1.out]
    have hB := HAL.out.trans (hb1.mono (by simp))
    go_wp2_with fail
    go_ret
    refine ⟨by rw [e2.out]; rfl, by rw [e2.out]; exact HR.out.below hB, Off.of_below hB⟩
  | some k =>
    obtain ⟨hk, _⟩ := hFind_some hf
    obtain ⟨hu0, hu1⟩ := hu _ (List.getElem_mem hk)
    have e1 : Hid (findI l x = (k : Int)) := by show _ = _; unfold findI; rw [hf]
    have hk0 : ¬ (k : Int) < 0 := by omega
    have hk' : (k : Int) < (l.length : Int) := by omega
    by_cases hz : l[k].2.1 = 0
    · have e2 : Hid (hDrop l x = (11, l)) := by
        show _ = _
        unfold hDrop
        rw [hf]
        simp only [List.getElem?_eq_getElem hk, Option.map_some, hz, if_true]
      clear hf hu
      go_enter Tryd.func38, Tryd.ntmps38
      go_wp2_with fail
      refine (rFind_any B v l x _ HN.out HR1.out).mono ?_
      rintro e w1 ⟨rfl, hb1⟩
      rw [e1.out]
      have hB := HAL.out.trans (hb1.mono (by simp))
      have hR := HR.out.below hB
      obtain ⟨g, cap, rfl, _, _, hc⟩ := hR.open (by omega)
      have q0 := hR.blk.cell (i := 0) rfl
      have q2 := (hc k hk).2.2.1
      rw [hz] at q2
      clear hc hb1
      go_wp2_with fail
      go_ret
      refine ⟨by rw [e2.out]; rfl, by rw [e2.out]; exact hR, Off.of_below hB⟩
    · have e2 : Hid (hDrop l x = (0, l.modify k (hUse (-1)))) := by
        show _ = _
        unfold hDrop
        rw [hf]
        simp only [List.getElem?_eq_getElem hk, Option.map_some]
        rw [if_neg (by intro e; exact hz (Option.some.inj e))]
      have HMU := modify_use l k hk (-1)
      have HM : Hid (l.modify k (fun h => (h.1, l[k].2.1 + -1, h.2.2)) = l.modify k (hUse (-1))) := HMU
      clear hf hu HMU
      go_enter Tryd.func38, Tryd.ntmps38
      go_wp2_with fail
      refine (rFind_any B v l x _ HN.out HR1.out).mono ?_
      rintro e w1 ⟨rfl, hb1⟩
      rw [e1.out]
      have hB := HAL.out.trans (hb1.mono (by simp))
      have hR := HR.out.below hB
      obtain ⟨g, cap, rfl, _, hfz, hc⟩ := hR.open (by omega)
      have q0 := hR.blk.cell (i := 0) rfl
      have q2 := (hc k hk).2.2.1
      have qf := hfz (k * 4 + 2)
      have HS := hR.setUses k hk (l[k].2.1 + -1)
      obtain ⟨u, hu⟩ : ∃ u, l[k].2.1 = u := ⟨_, rfl⟩
      rw [hu] at q2 hz hu0 hu1 HS HM
      have HSS : Hid (RBin (w1.setCell ⟨g, k * 4 + 2, none⟩ (.int .i64 (u + -1))) B (.slice (some ⟨g, 0, none⟩) l.length cap) (l.modify k (fun h => (h.1, u + -1, h.2.2)))) := HS
      have hz' : (u == 0) = false := beq_eq_false_iff_ne.2 hz
      have HW : IntKind.i64.wrap (u - 1) = u - 1 := by rw [IntKind.wrap_i64]; omega
      clear hc hb1 hu hfz HS
      go_wp2_with fail
      go_ret
      refine ⟨by rw [e2.out]; rfl, by rw [e2.out, ← HM.out]; exact HSS.out, (Off.of_below hB).setCell (p := ⟨g, k * 4 + 2, none⟩) (.inl (.inr rfl)) _⟩
end Go.Proofs.YtpkaflbdcoffdaaDoor
