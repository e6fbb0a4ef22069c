/-
  Own text. Hex digits read: digits.ReadHex and the document's Unhex by contracts.
-/
import Derived.Test.YtmjdgakokldliaaGreatDoorHex
namespace Go.Proofs.YtmjdgakokldliaaGreatDoor
open Go.RowKit

def hexRes : Option Nat → Value
  | some v => .tuple #[.int .u32 v, .bool true]
  | none => .tuple #[.int .u32 0, .bool false]

theorem unhex_stop (l : List UInt8) (k : Nat) (h : k < l.length) (hn : unhex1 l[k] = none) (n : Nat) : unhex n l = none := by
  induction l generalizing n k with
  | nil => simp at h
  | cons c l ih =>
    cases k with
    | zero => simp at hn; simp [unhex, hn]
    | succ k =>
      simp only [unhex]
      cases unhex1 c with
      | none => rfl
      | some d => exact ih k (by simpa using h) (by simpa using hn) _
theorem unhex_snoc {n m : Nat} {l : List UInt8} {c : UInt8} {d : Nat} (h : unhex n l = some m) (hd : unhex1 c = some d) : unhex n (l ++ [c]) = some (16 * m + d) := by
  rw [unhex_append, h]; simp [unhex, hd]

theorem unhex1_dig {c : UInt8} (h1 : (48 : Int) ≤ c.toNat) (h2 : (c.toNat : Int) ≤ 57) : unhex1 c = some (c.toNat - 48) := by unfold unhex1; rw [if_pos (by omega)]
theorem unhex1_let {c : UInt8} (h1 : (97 : Int) ≤ c.toNat) (h2 : (c.toNat : Int) ≤ 102) : unhex1 c = some (c.toNat - 87) := by unfold unhex1; rw [if_neg (by omega), if_pos (by omega)]
theorem unhex1_no {c : UInt8} (h1 : (c.toNat : Int) < 48 ∨ 57 < (c.toNat : Int)) (h2 : (c.toNat : Int) < 97 ∨ 102 < (c.toNat : Int)) : unhex1 c = none := by unfold unhex1; rw [if_neg (by omega), if_neg (by omega)]
theorem or16 (m d : Nat) (x : Int) (hx : x = d) (hm : m < 268435456) (hd : d < 16) : bits .or .u32 ((m : Int) * 16) x = ((16 * m + d : Nat) : Int) := by
  subst hx
  rw [bits_join .u32 32 (by decide) (fun n h0 h1 => by rw [IntKind.wrap_u32]; omega) 4 _ _ (by omega) (by omega) (by omega) (by omega) (by omega) (by omega)]
  omega
theorem unhex_fail (s : ByteArray) (k : Nat) (h : k < s.size) (hn : unhex1 s[k] = none) : hexRes (unhex 0 s.data.toList) = .tuple #[.int .u32 0, .bool false] := by
  rw [unhex_stop s.data.toList k (by simpa using h) hn]; rfl

def unhex8 (l : List UInt8) : Option Nat := if l.length = 8 then unhex 0 l else none
theorem unhex8_of (s : ByteArray) (h : s.size = 8) : unhex8 s.data.toList = unhex 0 s.data.toList := by
  unfold unhex8
  rw [if_pos (by rw [Array.length_toList]; exact h)]
theorem unhex8_no (s : ByteArray) (h : s.size ≠ 8) : unhex8 s.data.toList = none := by
  unfold unhex8
  rw [if_neg (by rw [Array.length_toList]; exact h)]
set_option maxHeartbeats 1000000 in
theorem readHex_any (s : ByteArray) (w : World) :
    Calls Tryz.prog 105 #[.string s] w fun e w' => e = .returned (hexRes (unhex8 s.data.toList)) ∧ w' = w := by
  by_cases hs8 : s.size = 8
  · have h8 : ((s.size : Int) != 8) = false := by simp; omega
    rw [unhex8_of s hs8]
    have HS : Hid (s.size = 8) := hs8
    have hs : s.size ≤ 8 := by omega
    clear hs8
    go_enter Tryz.func105, Tryz.ntmps105
    go_wp2
    go_loop [4, 12] (fun q i => ∃ k m : Nat, k ≤ s.size ∧ i = .int .i64 k ∧ q = .int .u32 m ∧ unhex 0 (s.data.toList.take k) = some m) (fun _ i => s.size - (intOf i).toNat)
    case atStart => exact ⟨0, 0, Nat.zero_le _, rfl, rfl, rfl⟩
    case round =>
      obtain ⟨k, m, hk, rfl, rfl, hu⟩ := hrel
      have HU : Hid (unhex 0 (s.data.toList.take k) = some m) := hu
      clear hu
      by_cases hlt : k < s.size
      · have hm : m < 268435456 := by
          have h1 := unhex_lt _ _ _ HU.out
          have h2 : (s.data.toList.take k).length ≤ 7 := by simp; omega
          have h3 : 16 ^ (s.data.toList.take k).length ≤ 16 ^ 7 := Nat.pow_le_pow_right (by decide) h2
          have h4 : (16 : Nat) ^ 7 = 268435456 := by decide
          omega
        have hts := take_snoc s k hlt
        have HT : Hid (s.data.toList.take (k + 1) = s.data.toList.take k ++ [s[k]]) := hts
        clear hts
        go_wp2
        · go_round
          case rel => exact ⟨k + 1, 16 * m + (s[k].toNat - 48), by omega, by go_num, val_int (or16 m _ _ (by omega) hm (by omega)), by rw [HT.out]; exact unhex_snoc HU.out (unhex1_dig ‹_› ‹_›)⟩
          case measure => simp [intOf]; omega
        · go_round
          case rel => exact ⟨k + 1, 16 * m + (s[k].toNat - 87), by omega, by go_num, val_int (or16 m _ _ (by omega) hm (by omega)), by rw [HT.out]; exact unhex_snoc HU.out (unhex1_let ‹_› ‹_›)⟩
          case measure => simp [intOf]; omega
        all_goals
          go_ret2
          exact ⟨by rw [unhex_fail s k hlt (unhex1_no (by omega) (by omega))]; rfl, rfl⟩
      · go_wp2
        go_ret2
        refine ⟨?_, rfl⟩
        have hu := HU.out
        rw [List.take_of_length_le (by simp; omega)] at hu
        rw [hu]; rfl
  · have h8 : ((s.size : Int) != 8) = true := by simp; omega
    rw [unhex8_no s hs8]
    clear hs8
    go_enter Tryz.func105, Tryz.ntmps105
    go_wp2
    go_ret2
    exact ⟨rfl, rfl⟩

set_option maxHeartbeats 1000000 in
theorem refUnhex_no (s : ByteArray) (hs : s.size ≠ 8) (w : World) :
    Calls Tryz.prog 76 #[.string s] w fun e w' => e = .returned (hexRes none) ∧ w' = w := by
  have h8 : ((s.size : Int) != 8) = true := by simp; omega
  go_enter Tryz.func76, Tryz.ntmps76
  go_wp2
  go_ret2
  exact ⟨rfl, rfl⟩

set_option maxHeartbeats 1000000 in
theorem refUnhex_any (s : ByteArray) (hs : s.size = 8) (w : World) :
    Calls Tryz.prog 76 #[.string s] w fun e w' => e = .returned (hexRes (unhex 0 s.data.toList)) ∧ w' = w := by
  have h8 : ((s.size : Int) != 8) = false := by simp; omega
  have HS : Hid (s.size = 8) := hs
  have hs1 : s.size ≤ 8 := by omega
  have hs2 : 8 ≤ s.size := by omega
  clear hs
  go_enter Tryz.func76, Tryz.ntmps76
  go_wp2
  go_loop [4, 5] (fun q i => ∃ k m : Nat, k ≤ 8 ∧ i = .int .i64 k ∧ q = .int .i64 m ∧ unhex 0 (s.data.toList.take k) = some m) (fun _ i => 8 - (intOf i).toNat)
  case atStart => exact ⟨0, 0, Nat.zero_le _, rfl, rfl, rfl⟩
  case round =>
    obtain ⟨k, m, hk, rfl, rfl, hu⟩ := hrel
    have HU : Hid (unhex 0 (s.data.toList.take k) = some m) := hu
    clear hu
    have hm16 : m < 4294967296 := by
      have h1 := unhex_lt _ _ _ HU.out
      have h2 : (s.data.toList.take k).length ≤ 8 := by simp; omega
      have h3 : 16 ^ (s.data.toList.take k).length ≤ 16 ^ 8 := Nat.pow_le_pow_right (by decide) h2
      have h4 : (16 : Nat) ^ 8 = 4294967296 := by decide
      omega
    by_cases hlt : k < s.size
    · have HT : Hid (s.data.toList.take (k + 1) = s.data.toList.take k ++ [s[k]]) := take_snoc s k hlt
      have hk8 : k < 8 := by omega
      go_wp2
      · go_round
        case rel => exact ⟨k + 1, 16 * m + (s[k].toNat - 48), by omega, by go_num, val_int (by omega), by rw [HT.out]; exact unhex_snoc HU.out (unhex1_dig ‹_› ‹_›)⟩
        case measure => simp [intOf]; omega
      · go_round
        case rel => exact ⟨k + 1, 16 * m + (s[k].toNat - 87), by omega, by go_num, val_int (by omega), by rw [HT.out]; exact unhex_snoc HU.out (unhex1_let ‹_› ‹_›)⟩
        case measure => simp [intOf]; omega
      all_goals
        go_ret2
        exact ⟨by rw [unhex_fail s k hlt (unhex1_no (by omega) (by omega))]; rfl, rfl⟩
    · have hk8 : ¬ k < 8 := by omega
      go_wp2
      go_ret2
      refine ⟨?_, rfl⟩
      have hu := HU.out
      rw [List.take_of_length_le (by simp; omega)] at hu
      rw [hu]; rfl

end Go.Proofs.YtmjdgakokldliaaGreatDoor
