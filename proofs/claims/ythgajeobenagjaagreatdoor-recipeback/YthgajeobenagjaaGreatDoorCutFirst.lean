/-
  Own text. cut.first by a contract: how many bytes the first piece of a text has; no old memory turns.
-/
import Derived.Test.YthgajeobenagjaaGreatDoorCutWin
import Derived.RangeFuncRecord
namespace Go.Proofs.YthgajeobenagjaaGreatDoor
open Go.RowKit

theorem WinAt.new (w : World) : WinAt (w.alloc (.cells #[.int .u8 0, .int .u8 0, .int .u8 0, .int .u8 0, .int .u8 0, .int .u8 0, .int .u8 0, .int .u8 0] 113)) w.heap.size zs8 := World.alloc_heap_new w _
theorem endsAt_64 (l : List UInt8) : endsAt l 64 = true := rfl
theorem endsAt_low (l : List UInt8) (n : Nat) (h : n < 16) : endsAt l n = false := by simp [endsAt]; omega
theorem endsAt_mid (l : List UInt8) (n : Nat) (h : 16 ≤ n) (h' : n ≠ 64) : endsAt l n = (sumB (win l n) % 16 == 15) := by simp [endsAt, h, h']
theorem firstNext {l : List UInt8} {k : Nat} (h : ∀ j, 0 < j → j ≤ k → endsAt l j = false) (h' : endsAt l (k + 1) = false) : ∀ j, 0 < j → j ≤ k + 1 → endsAt l j = false := fun j h1 h2 => by
  by_cases e : j = k + 1
  · rw [e]; exact h'
  · exact h j h1 (by omega)

set_option maxRecDepth 100000 in
set_option maxHeartbeats 4000000 in
theorem first_any (s : ByteArray) (w : World) (hs : s.size ≤ 50000) :
    Calls Tryz.prog 57 #[.string s] w fun e w' => e = .returned (.int .i64 (first s.data.toList : Nat)) ∧ Below w.heap.size w w' := by
  have hsl : s.data.toList.length = s.size := by rw [Array.length_toList]; rfl
  have HSL : Hid (s.data.toList.length = s.size) := hsl
  clear hsl
  go_enter Tryz.func57, Tryz.ntmps57
  go_wp2
  have hb0 : Below w.heap.size w (w.alloc (.cells #[.int .u8 0, .int .u8 0, .int .u8 0, .int .u8 0, .int .u8 0, .int .u8 0, .int .u8 0, .int .u8 0] 113)) := (Below.refl _ w).alloc (Nat.le_refl _) _
  have hw0 := WinAt.new w
  go_loopw [8] (fun i wr => ∃ (k : Nat), k ≤ s.size ∧ i = .int .i64 k ∧ (∀ j, 0 < j → j ≤ k → endsAt s.data.toList j = false) ∧ WinAt wr w.heap.size (win s.data.toList k) ∧ Below w.heap.size w wr) (fun i _ => s.size - (intOf i).toNat)
  case atStart => exact ⟨0, Nat.zero_le _, rfl, fun j h1 h2 => by omega, by rw [win_zero]; exact hw0, hb0⟩
  case round =>
    obtain ⟨k, hk, rfl, hno, hwin, hbw⟩ := hrel
    have HN : Hid (∀ j, 0 < j → j ≤ k → endsAt s.data.toList j = false) := hno
    have HW : Hid (WinAt wr w.heap.size (win s.data.toList k)) := hwin
    clear hno hwin hb0 hw0
    by_cases hlt : k < s.size
    · have HT : Hid (win s.data.toList (k + 1) = (win s.data.toList k).drop 1 ++ [s[k]]) := win_succ _ _ (by rw [HSL.out]; exact hlt)
      have HK : Hid ((win s.data.toList k).length = 8) := win_length _ _ (by rw [HSL.out]; omega)
      have HK1 : Hid ((win s.data.toList (k + 1)).length = 8) := win_length _ _ (by rw [HSL.out]; omega)
      go_wp2_with fail
      refine (take_any _ s[k] _ HK.out _ HW.out).mono ?_
      rintro e w1 ⟨⟨v, rfl⟩, hw1, hb1⟩
      rw [← HT.out] at hw1
      have hbw1 := hbw.trans hb1
      have HW1 : Hid (WinAt w1 w.heap.size (win s.data.toList (k + 1))) := hw1
      clear hw1 HW hbw hb1
      by_cases h64 : k = 63
      · subst h64
        go_wp2_with fail
        go_ret
        have hsl := HSL.out
        exact ⟨by rw [IsFirst.eq (n := 64) ⟨by omega, by omega, fun j h1 h2 => HN.out j h1 (by omega), .inl (endsAt_64 _)⟩]; rfl, hbw1⟩
      · by_cases h16 : k < 15
        · go_wp2_with fail
          go_roundw
          case rel => exact ⟨k + 1, by omega, by go_num, firstNext HN.out (endsAt_low _ _ (by omega)), HW1.out, hbw1⟩
          case measure => simp [intOf]; omega
        · by_cases he : (sumB (win s.data.toList (k + 1)) % 16 == 15) = true
          · go_wp2_with fail
            refine (ends_any _ _ HK1.out _ HW1.out).mono ?_
            rintro e w2 ⟨rfl, rfl⟩
            go_wp2_with fail
            go_ret
            have hsl := HSL.out
            exact ⟨by rw [IsFirst.eq (n := k + 1) ⟨by omega, by omega, fun j h1 h2 => HN.out j h1 (by omega), .inl ((endsAt_mid _ _ (by omega) (by omega)).trans he)⟩]; go_num, hbw1⟩
          · have he' : (sumB (win s.data.toList (k + 1)) % 16 == 15) = false := by simpa using he
            go_wp2_with fail
            refine (ends_any _ _ HK1.out _ HW1.out).mono ?_
            rintro e w2 ⟨rfl, rfl⟩
            go_wp2_with fail
            go_roundw
            case rel => exact ⟨k + 1, by omega, by go_num, firstNext HN.out ((endsAt_mid _ _ (by omega) (by omega)).trans he'), HW1.out, hbw1⟩
            case measure => simp [intOf]; omega
    · go_wp2_with fail
      go_ret
      have hsl := HSL.out
      refine ⟨?_, hbw⟩
      obtain rfl : k = s.size := by omega
      by_cases h0 : s.size = 0
      · rw [h0, show s.data.toList = [] from List.eq_nil_of_length_eq_zero (by omega), first_nil]
        rfl
      · rw [IsFirst.eq (n := s.size) ⟨by omega, by omega, fun j h1 h2 => HN.out j h1 (by omega), .inr hsl.symm⟩]
        rfl
end Go.Proofs.YthgajeobenagjaaGreatDoor
