/-
  Own text. The window's two methods by contracts: take (the bytes move by one, the new one stands last) and ends (the low four bits of the bytes' sum are all 1).
-/
import Derived.Test.YthgajeobenagjaaGreatDoorChecked
import Derived.Test.YthgajeobenagjaaGreatDoorCutPure
import Derived.Deep.QuietTactic
import Derived.BigQuiet
import Derived.WalkKit
import Derived.Laws.CopyOwn
import Derived.Deep.RegionLaw
namespace Go.Proofs.YthgajeobenagjaaGreatDoor
open Go.RowKit

abbrev u8V (c : UInt8) : Value := .int .u8 c.toNat
/- Block b is a window that holds xs. -/
def WinAt (w : World) (b : Nat) (xs : List UInt8) : Prop := w.heap[b]? = some (.cells (xs.map u8V).toArray 113 (0, 0))
theorem WinAt.cell {w : World} {b : Nat} {xs : List UInt8} (h : WinAt w b xs) {i : Nat} (hi : i < xs.length) : w.cell? ⟨b, i, none⟩ = some (u8V xs[i]) := by
  simp [World.cell?, show w.heap[b]? = _ from h, hi]
theorem WinAt.frozen {w : World} {b : Nat} {xs : List UInt8} (h : WinAt w b xs) (i : Nat) : w.frozen? ⟨b, i, none⟩ = false := by
  simp [World.frozen?, show w.heap[b]? = _ from h]
theorem WinAt.set {w : World} {b : Nat} {xs : List UInt8} (h : WinAt w b xs) (i : Nat) (c : UInt8) : WinAt (w.setCell ⟨b, i, none⟩ (u8V c)) b (xs.set i c) := by
  obtain ⟨hlt, hk⟩ := Array.getElem?_eq_some_iff.1 h
  show (w.heap.modify b _)[b]? = _
  rw [Array.getElem?_eq_getElem (by rw [Array.size_modify]; exact hlt), Array.getElem_modify_self, hk]
  simp [List.map_set]
theorem set_last (l : List UInt8) (x c : UInt8) (h : l.length = 7) : (l ++ [x]).set 7 c = l ++ [c] := by
  rw [List.set_append_right _ _ (by omega), h]
  rfl
theorem infoByte : (Tryz.prog.info? 5).map (·.size) = some 1 := by kernel_rfl

set_option maxRecDepth 100000 in
set_option maxHeartbeats 2000000 in
theorem take_any (b : Nat) (c : UInt8) (xs : List UInt8) (hx : xs.length = 8) (w : World) (hw : WinAt w b xs) :
    Calls Tryz.prog 71 #[.pointer (some ⟨b, 0, none⟩), u8V c] w fun e w' => (∃ v, e = .returned v) ∧ WinAt w' b (xs.drop 1 ++ [c]) ∧ Below b w w' := by
  have H : Hid (w.drew.heap[b]? = some (.cells (xs.map u8V).toArray 113 (0, 0))) := hw
  have HX : Hid (xs.length = 8) := hx
  have HN : Hid (((xs.drop 1).map u8V).length = Nat.min 7 8) := by show _ = _; simp; omega
  have HS : Hid (∀ j v, ((xs.drop 1).map u8V)[j]? = some v → w.drew.cell? ((⟨b, 1, none⟩ : Addr).add j) = some v) := by
    intro j v h
    have hj : j + 1 < xs.length := by
      have := (List.getElem?_eq_some_iff.1 h).1
      simp at this
      omega
    have e1 := WinAt.cell (w := w.drew) hw hj
    rw [List.getElem?_map, List.getElem?_drop, Nat.add_comm 1 j, List.getElem?_eq_getElem hj] at h
    simp at h
    subst h
    have e2 : (⟨b, 1, none⟩ : Addr).add j = ⟨b, j + 1, none⟩ := by unfold Addr.add; split <;> simp_all [Nat.add_comm]
    rw [e2]
    exact e1
  have H1 : Hid (∀ v ∈ (xs.drop 1).map u8V, v.oneCell' = true) := by
    intro v h
    simp only [List.mem_map] at h
    obtain ⟨u, _, rfl⟩ := h
    rfl
  have HF : Hid (0 + ((xs.drop 1).map u8V).length ≤ (xs.map u8V).length) := by show _ ≤ _; simp
  clear hw hx
  go_enter Tryz.func71, Tryz.ntmps71
  go_wp2
  go_region_law (refine step_copy_splice rfl (.tmp 6) (.tmp 9) 94 94 rfl 5 Tryz.underlying94 infoByte (some ⟨b, 0, none⟩) (some ⟨b, 1, none⟩) 8 8 7 7 (by simp [Act.eval, Act.put]) (by simp [Act.eval, Act.put]) b 0 (xs.map u8V) 113 H.out ((xs.drop 1).map u8V) HN.out (fun _ => ⟨rfl, _, rfl, HS.out⟩) HF.out H1.out b w (Below.refl b w).drew (Nat.le_refl _) ?_; intro w4 hg4 hb4)
  obtain ⟨ys, hys, hw4, hset⟩ : ∃ ys : List UInt8, ys.length = 8 ∧ WinAt w4 b ys ∧ ys.set 7 c = xs.drop 1 ++ [c] := by
    have hx := HX.out
    refine ⟨xs.drop 1 ++ [xs[7]'(by omega)], by simp; omega, ?_, set_last _ _ _ (by simp; omega)⟩
    have := hg4.out
    show w4.heap[b]? = _
    rw [this]
    congr 3
    rw [splice]
    simp [hx]
    rw [List.drop_eq_getElem_cons (by simp; omega)]
    simp [hx]
  obtain ⟨U, hc4⟩ : ∃ U, w4.cell? ⟨b, 7, none⟩ = some (.int .u8 U) := ⟨_, hw4.cell (i := 7) (by omega)⟩
  have hf4 := hw4.frozen 7
  have HW : Hid (WinAt w4 b ys) := hw4
  have HT : Hid (ys.set 7 c = xs.drop 1 ++ [c]) := hset
  clear hw4 hg4 hset
  go_wp2
  go_end0
  refine ⟨⟨_, rfl⟩, ?_, hb4.setCell (p := ⟨b, 7, none⟩) (Nat.le_refl _) _⟩
  have := HW.out.set 7 c
  rwa [HT.out] at this

theorem sumB_snoc (xs : List UInt8) (j : Nat) (h : j < xs.length) : sumB (xs.take (j + 1)) = sumB (xs.take j) + xs[j].toNat := by
  rw [List.take_succ_eq_append_getElem h, sumB, List.map_append, List.sum_append]
  simp [sumB]
set_option maxRecDepth 100000 in
set_option maxHeartbeats 2000000 in
theorem ends_any (b : Nat) (xs : List UInt8) (hx : xs.length = 8) (w : World) (hw : WinAt w b xs) :
    Calls Tryz.prog 72 #[.pointer (some ⟨b, 0, none⟩)] w fun e w' => e = .returned (.bool (sumB xs % 16 == 15)) ∧ w' = w := by
  have HW : Hid (WinAt w b xs) := hw
  clear hw
  go_enter Tryz.func72, Tryz.ntmps72
  go_wp2
  go_loopw [3, 7] (fun v i wr => ∃ (j : Nat), j ≤ 8 ∧ i = .int .i64 j ∧ v = .int .u8 ((sumB (xs.take j) % 256 : Nat) : Int) ∧ wr = w) (fun _ i _ => 8 - (intOf i).toNat)
  case atStart => exact ⟨0, Nat.zero_le _, rfl, rfl, rfl⟩
  case round =>
    obtain ⟨j, hj, rfl, rfl, rfl⟩ := hrel
    by_cases hlt : j < 8
    · have hc := HW.out.cell (i := j) (by omega)
      go_wp2
      go_roundw
      case rel => exact ⟨j + 1, by omega, by go_num, by rw [sumB_snoc xs j (by omega)]; congr 1; omega, trivial⟩
      case measure => simp [intOf]; omega
    · go_wp2
      go_ret
      obtain rfl : j = 8 := by omega
      rw [List.take_of_length_le (by omega)]
      refine ⟨?_, rfl⟩
      show Ending.returned (.bool _) = _
      congr 2
      rw [Bool.eq_iff_iff]
      simp
      omega
end Go.Proofs.YthgajeobenagjaaGreatDoor
