/-
  Own text. The document's bin by contracts: SameHelds of pieces that are the same; Find; Size.
  Own text. The document's bin by contracts: a use more or less in place; Drop.
  Own text. The document's bin by contracts: Put.
  Own text. The document's bin by contracts: Put of a piece that is not there; Put.
-/
import Derived.Test.YteefjbdejcpepaaGreatDoorBinMem
import Derived.Deep.QuietTactic
import Derived.BigQuiet
import Derived.Deep.RegionHeld3
import Derived.OwnWalk
namespace Go.Proofs.YteefjbdejcpepaaGreatDoor
open Go.RowKit

set_option maxRecDepth 100000 in
set_option maxHeartbeats 4000000 in
theorem sameHelds_true (va vb : Value) (l : List Hd) (w : World) (hn : (l.length : Int) ≤ 9223372036854775807) (ha : HeldsAt w va l) (hb : HeldsAt w vb l) :
    Calls Tryz.prog 37 #[va, vb] w fun e w' => e = .returned (.bool true) ∧ Below w.heap.size w w' := by
  obtain ⟨pa, ca, rfl, ha⟩ := ha
  obtain ⟨pb, cb, rfl, hb⟩ := hb
  go_enter Tryz.func37, Tryz.ntmps37
  go_wp2_with fail
  go_loopw [5] (fun i wr => ∃ j m : Nat, j ≤ l.length ∧ i = .int .i64 j ∧ wr = w.drewN m) (fun i _ => l.length - (intOf i).toNat)
  case atStart => exact ⟨0, 0, Nat.zero_le _, rfl, rfl⟩
  case round =>
    obtain ⟨j, m, hj, rfl, rfl⟩ := hrel
    by_cases hlt : j < l.length
    · obtain ⟨ba, oa, rfl, _, a0, a1, a2, a3⟩ := ha j hlt
      obtain ⟨bb, ob, rfl, _, b0, b1, b2, b3⟩ := hb j hlt
      have hlt' : (j : Int) < (l.length : Int) := by omega
      obtain ⟨y, hy⟩ : ∃ y, l[j] = y := ⟨_, rfl⟩
      rw [hy] at a0 a1 a2 a3 b0 b1 b2 b3
      clear hy
      go_wp2_with fail
      go_quiet (fail)
      go_wp2_with fail
      go_roundw
      case rel => exact ⟨j + 1, _, by omega, by go_num, rfl⟩
      case measure => simp [intOf]; omega
    · have hge : (l.length : Int) ≤ (j : Int) := by omega
      go_wp2_with fail
      go_ret
      exact ⟨rfl, ⟨rfl, rfl, rfl, Nat.le_refl _, fun _ _ => rfl⟩⟩

end Go.Proofs.YteefjbdejcpepaaGreatDoor
namespace Go.Proofs.YteefjbdejcpepaaGreatDoor
open Go.RowKit

theorem heldCells_set : ∀ (l : List Hd) (k : Nat) (u : Int), k < l.length → (heldCells l).set (k * 4 + 2) (.int .i64 u) = heldCells (l.modify k (fun h => (h.1, u, h.2.2)))
  | [], _, _, h => by simp at h
  | x :: r, 0, u, _ => rfl
  | x :: r, k + 1, u, h => by
    have := heldCells_set r k u (by simpa using h)
    rw [show (k + 1) * 4 + 2 = k * 4 + 2 + 1 + 1 + 1 + 1 by omega]
    show _ :: _ :: _ :: _ :: _ = heldCells (x :: r.modify k _)
    rw [this]
    rfl
theorem modify_use (l : List Hd) (k : Nat) (h : k < l.length) (d : Int) : l.modify k (fun h => (h.1, l[k].2.1 + d, h.2.2)) = l.modify k (hUse d) := by
  apply List.ext_getElem
  · simp
  · intro i h1 h2
    simp only [List.getElem_modify]
    split
    · rename_i e
      subst e
      rfl
    · rfl

end Go.Proofs.YteefjbdejcpepaaGreatDoor
namespace Go.Proofs.YteefjbdejcpepaaGreatDoor
open Go.RowKit

theorem sl4_from (g n c i : Nat) (hi : i ≤ n) (hc : n ≤ c) : ∃ P4 c4, (∀ w : World, (Instr.slice 61 (.slice (some ⟨g, 0, none⟩) n c) (some (.int .i64 (i : Int))) none none).run Tryz.prog w = .ok (.slice (some P4) (n - i) c4) w) ∧ (i < n → P4 = ⟨g, i * 4, none⟩) := by
  have hj1 : (0 : Int) ≤ (i : Int) := by omega
  have hj2 : (i : Int) ≤ (n : Int) := by omega
  by_cases hcap : c = i
  · refine ⟨⟨g, 0, none⟩, c - i, fun w => ?_, fun h => by omega⟩
    go_simp
  · by_cases h0 : i = 0
    · subst h0
      refine ⟨⟨g, 0, none⟩, c - 0, fun w => ?_, fun h => by simp⟩
      go_simp
    · refine ⟨⟨g, i * 4, none⟩, c - i, fun w => ?_, fun h => rfl⟩
      go_simp
theorem sl4_upto (g n c i : Nat) (hi : i ≤ n) (hc : n ≤ c) : ∀ w : World, (Instr.slice 61 (.slice (some ⟨g, 0, none⟩) n c) none (some (.int .i64 (i : Int))) none).run Tryz.prog w = .ok (.slice (some ⟨g, 0, none⟩) i c) w := by
  have hj1 : (0 : Int) ≤ (i : Int) := by omega
  have hj3 : (i : Int) ≤ (c : Int) := by omega
  intro w
  go_simp
theorem four_new (W : World) (h : Hd) (t : TypeId) (B : Nat) (hB : B = W.heap.size) : ∀ j u, (heldCells [h])[j]? = some u → (W.alloc (.cells #[.int .u32 (h.1.1 : Nat), .int .i64 h.1.2, .int .i64 h.2.1, .string ⟨h.2.2.toArray⟩] t)).cell? ((⟨B, 0, none⟩ : Addr).add j) = some u := by
  intro j u hj
  have ha : (⟨B, 0, none⟩ : Addr).add j = ⟨B, j, none⟩ := by unfold Addr.add; split <;> simp_all
  rw [ha]
  refine new_cell W _ t ?_ hB
  rw [← hj]
  match j with
  | 0 => rfl
  | 1 => rfl
  | 2 => rfl
  | 3 => rfl
  | j + 4 => simp [heldCells]
theorem ownsRow_low {w : World} {base base' : Nat} {e : TypeId} {size : Nat} {v : Value} {n : Nat} {xs : List Value} (h : w.ownsRow base e size v n xs) (hb : base' ≤ base) : w.ownsRow base' e size v n xs := by
  obtain ⟨hl, ho⟩ := h
  refine ⟨hl, ?_⟩
  rcases ho with ho | ⟨g, cap, cur, hv, hg, r⟩
  · exact .inl ho
  · exact .inr ⟨g, cap, cur, hv, Nat.le_trans hb hg, r⟩
/- What Put leaves behind. -/
/- Behind Find: the result's block, the ID's block, the bin. -/
end Go.Proofs.YteefjbdejcpepaaGreatDoor
namespace Go.Proofs.YteefjbdejcpepaaGreatDoor
open Go.RowKit

/- The end of Put: the bin's new row, the bin's block written, the result written. -/
theorem ins_row (l : List Hd) (h : Hd) (j : Nat) (hj : j ≤ l.length) (hp : hPlace l h.1 = j) : (hIns l h).length = j + 1 + (l.length - j) ∧ heldCells (hIns l h) = heldCells (l.take j) ++ heldCells [h] ++ heldCells (l.drop j) := by
  unfold hIns
  rw [hp]
  refine ⟨by simp; omega, ?_⟩
  rw [heldCells_append, List.append_assoc, show h :: l.drop j = [h] ++ l.drop j from rfl, heldCells_append [h]]

theorem row_some {w : World} {base : Nat} {e : TypeId} {size : Nat} {v : Value} {n : Nat} {xs : List Value} (h : w.ownsRow base e size v n xs) (hn : 1 ≤ n) : ∃ g cap, v = .slice (some ⟨g, 0, none⟩) n cap ∧ n ≤ cap ∧ cap ≤ maxLen := by
  obtain ⟨_, ho⟩ := h
  rcases ho with ⟨_, h0⟩ | ⟨g, cap, _, hv, _, _, h1, h2, _⟩
  · omega
  · exact ⟨g, cap, hv, h1, h2⟩
theorem ins_own {w : World} {base : Nat} {e : TypeId} {v : Value} {l : List Hd} {h : Hd} {j : Nat} (hi : (hIns l h).length = j + 1 + (l.length - j) ∧ heldCells (hIns l h) = heldCells (l.take j) ++ heldCells [h] ++ heldCells (l.drop j))
    (ho : w.ownsRow base e 4 v (j + 1 + (l.length - j)) (heldCells (l.take j) ++ heldCells [h] ++ heldCells (l.drop j))) : w.ownsRow base e 4 v (hIns l h).length (heldCells (hIns l h)) := by
  rw [hi.1, hi.2]
  exact ho

end Go.Proofs.YteefjbdejcpepaaGreatDoor
