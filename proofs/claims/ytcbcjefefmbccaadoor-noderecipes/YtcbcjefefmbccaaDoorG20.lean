/-
  Own text. Hex digits read: digits.ReadHex and the document's Unhex by contracts.
  Own text. Decimal digits read: digits.Are, digits.Read and the document's NumberOf by contracts.
  Own text. print.Read by contracts: an ID, or the zero ID and what api.ErrText holds.
-/
import Derived.Test.YtcbcjefefmbccaaDoorG06
import Derived.Test.YtcbcjefefmbccaaDoorG03
import Derived.RegionTactic
import Derived.Lib.Strings
namespace Go.Proofs.YtcbcjefefmbccaaDoor
open Go.RowKit

def hexRes : Option Nat → Value
  | some v => .tuple #[.int .u32 v, .bool true]
  | none => .tuple #[.int .u32 0, .bool false]

theorem unhex_stop (l : List UInt8) (k : Nat) (h : k < l.length) (hn : unhex1 l[k] = none) (n : Nat) : unhex n l = none := by
  induction l generalizing n k with
  | nil => simp at h
  | cons c l ih =>
    cases k with
    | zero => simp at hn; simp [unhex, hn]
    | succ k =>
      simp only [unhex]
      cases unhex1 c with
      | none => rfl
      | some d => exact ih k (by simpa using h) (by simpa using hn) _
theorem unhex_snoc {n m : Nat} {l : List UInt8} {c : UInt8} {d : Nat} (h : unhex n l = some m) (hd : unhex1 c = some d) : unhex n (l ++ [c]) = some (16 * m + d) := by
  rw [unhex_append, h]; simp [unhex, hd]

theorem unhex1_dig {c : UInt8} (h1 : (48 : Int) ≤ c.toNat) (h2 : (c.toNat : Int) ≤ 57) : unhex1 c = some (c.toNat - 48) := by unfold unhex1; rw [if_pos (by omega)]
theorem unhex1_let {c : UInt8} (h1 : (97 : Int) ≤ c.toNat) (h2 : (c.toNat : Int) ≤ 102) : unhex1 c = some (c.toNat - 87) := by unfold unhex1; rw [if_neg (by omega), if_pos (by omega)]
theorem unhex1_no {c : UInt8} (h1 : (c.toNat : Int) < 48 ∨ 57 < (c.toNat : Int)) (h2 : (c.toNat : Int) < 97 ∨ 102 < (c.toNat : Int)) : unhex1 c = none := by unfold unhex1; rw [if_neg (by omega), if_neg (by omega)]
theorem or16 (m d : Nat) (x : Int) (hx : x = d) (hm : m < 268435456) (hd : d < 16) : bits .or .u32 ((m : Int) * 16) x = ((16 * m + d : Nat) : Int) := by
  subst hx
  rw [bits_join .u32 32 (by decide) (fun n h0 h1 => by rw [IntKind.wrap_u32]; omega) 4 _ _ (by omega) (by omega) (by omega) (by omega) (by omega) (by omega)]
  omega
theorem unhex_fail (s : ByteArray) (k : Nat) (h : k < s.size) (hn : unhex1 s[k] = none) : hexRes (unhex 0 s.data.toList) = .tuple #[.int .u32 0, .bool false] := by
  rw [unhex_stop s.data.toList k (by simpa using h) hn]; rfl

def unhex8 (l : List UInt8) : Option Nat := if l.length = 8 then unhex 0 l else none
theorem unhex8_of (s : ByteArray) (h : s.size = 8) : unhex8 s.data.toList = unhex 0 s.data.toList := by
  unfold unhex8
  rw [if_pos (by rw [Array.length_toList]; exact h)]
theorem unhex8_no (s : ByteArray) (h : s.size ≠ 8) : unhex8 s.data.toList = none := by
  unfold unhex8
  rw [if_neg (by rw [Array.length_toList]; exact h)]
set_option maxHeartbeats 1000000 in
theorem readHex_any (s : ByteArray) (w : World) :
    Calls Tryd.prog 55 #[.string s] w fun e w' => e = .returned (hexRes (unhex8 s.data.toList)) ∧ w' = w := by
  by_cases hs8 : s.size = 8
  · have h8 : ((s.size : Int) != 8) = false := by simp; omega
    rw [unhex8_of s hs8]
    have HS : Hid (s.size = 8) := hs8
    have hs : s.size ≤ 8 := by omega
    clear hs8
    go_enter Tryd.func55, Tryd.ntmps55
    go_wp2
    go_loop [4, 12] (fun q i => ∃ k m : Nat, k ≤ s.size ∧ i = .int .i64 k ∧ q = .int .u32 m ∧ unhex 0 (s.data.toList.take k) = some m) (fun _ i => s.size - (intOf i).toNat)
    case atStart => exact ⟨0, 0, Nat.zero_le _, rfl, rfl, rfl⟩
    case round =>
      obtain ⟨k, m, hk, rfl, rfl, hu⟩ := hrel
      have HU : Hid (unhex 0 (s.data.toList.take k) = some m) := hu
      clear hu
      by_cases hlt : k < s.size
      · have hm : m < 268435456 := by
          have h1 := unhex_lt _ _ _ HU.out
          have h2 : (s.data.toList.take k).length ≤ 7 := by simp; omega
          have h3 : 16 ^ (s.data.toList.take k).length ≤ 16 ^ 7 := Nat.pow_le_pow_right (by decide) h2
          have h4 : (16 : Nat) ^ 7 = 268435456 := by decide
          omega
        have hts := take_snoc s k hlt
        have HT : Hid (s.data.toList.take (k + 1) = s.data.toList.take k ++ [s[k]]) := hts
        clear hts
        go_wp2
        · go_round
          case rel => exact ⟨k + 1, 16 * m + (s[k].toNat - 48), by omega, by go_num, val_int (or16 m _ _ (by omega) hm (by omega)), by rw [HT.out]; exact unhex_snoc HU.out (unhex1_dig ‹_› ‹_›)⟩
          case measure => simp [intOf]; omega
        · go_round
          case rel => exact ⟨k + 1, 16 * m + (s[k].toNat - 87), by omega, by go_num, val_int (or16 m _ _ (by omega) hm (by omega)), by rw [HT.out]; exact unhex_snoc HU.out (unhex1_let ‹_› ‹_›)⟩
          case measure => simp [intOf]; omega
        all_goals
          go_ret2
          exact ⟨by rw [unhex_fail s k hlt (unhex1_no (by omega) (by omega))]; rfl, rfl⟩
      · go_wp2
        go_ret2
        refine ⟨?_, rfl⟩
        have hu := HU.out
        rw [List.take_of_length_le (by simp; omega)] at hu
        rw [hu]; rfl
  · have h8 : ((s.size : Int) != 8) = true := by simp; omega
    rw [unhex8_no s hs8]
    clear hs8
    go_enter Tryd.func55, Tryd.ntmps55
    go_wp2
    go_ret2
    exact ⟨rfl, rfl⟩

set_option maxHeartbeats 1000000 in
theorem refUnhex_no (s : ByteArray) (hs : s.size ≠ 8) (w : World) :
    Calls Tryd.prog 62 #[.string s] w fun e w' => e = .returned (hexRes none) ∧ w' = w := by
  have h8 : ((s.size : Int) != 8) = true := by simp; omega
  go_enter Tryd.func62, Tryd.ntmps62
  go_wp2
  go_ret2
  exact ⟨rfl, rfl⟩

set_option maxHeartbeats 1000000 in
theorem refUnhex_any (s : ByteArray) (hs : s.size = 8) (w : World) :
    Calls Tryd.prog 62 #[.string s] w fun e w' => e = .returned (hexRes (unhex 0 s.data.toList)) ∧ w' = w := by
  have h8 : ((s.size : Int) != 8) = false := by simp; omega
  have HS : Hid (s.size = 8) := hs
  have hs1 : s.size ≤ 8 := by omega
  have hs2 : 8 ≤ s.size := by omega
  clear hs
  go_enter Tryd.func62, Tryd.ntmps62
  go_wp2
  go_loop [4, 5] (fun q i => ∃ k m : Nat, k ≤ 8 ∧ i = .int .i64 k ∧ q = .int .i64 m ∧ unhex 0 (s.data.toList.take k) = some m) (fun _ i => 8 - (intOf i).toNat)
  case atStart => exact ⟨0, 0, Nat.zero_le _, rfl, rfl, rfl⟩
  case round =>
    obtain ⟨k, m, hk, rfl, rfl, hu⟩ := hrel
    have HU : Hid (unhex 0 (s.data.toList.take k) = some m) := hu
    clear hu
    have hm16 : m < 4294967296 := by
      have h1 := unhex_lt _ _ _ HU.out
      have h2 : (s.data.toList.take k).length ≤ 8 := by simp; omega
      have h3 : 16 ^ (s.data.toList.take k).length ≤ 16 ^ 8 := Nat.pow_le_pow_right (by decide) h2
      have h4 : (16 : Nat) ^ 8 = 4294967296 := by decide
      omega
    by_cases hlt : k < s.size
    · have HT : Hid (s.data.toList.take (k + 1) = s.data.toList.take k ++ [s[k]]) := take_snoc s k hlt
      have hk8 : k < 8 := by omega
      go_wp2
      · go_round
        case rel => exact ⟨k + 1, 16 * m + (s[k].toNat - 48), by omega, by go_num, val_int (by omega), by rw [HT.out]; exact unhex_snoc HU.out (unhex1_dig ‹_› ‹_›)⟩
        case measure => simp [intOf]; omega
      · go_round
        case rel => exact ⟨k + 1, 16 * m + (s[k].toNat - 87), by omega, by go_num, val_int (by omega), by rw [HT.out]; exact unhex_snoc HU.out (unhex1_let ‹_› ‹_›)⟩
        case measure => simp [intOf]; omega
      all_goals
        go_ret2
        exact ⟨by rw [unhex_fail s k hlt (unhex1_no (by omega) (by omega))]; rfl, rfl⟩
    · have hk8 : ¬ k < 8 := by omega
      go_wp2
      go_ret2
      refine ⟨?_, rfl⟩
      have hu := HU.out
      rw [List.take_of_length_le (by simp; omega)] at hu
      rw [hu]; rfl

end Go.Proofs.YtcbcjefefmbccaaDoor
namespace Go.Proofs.YtcbcjefefmbccaaDoor
open Go.RowKit

/- Decimal. -/
def lenRes : Option Nat → Value
  | some v => .tuple #[.int .i64 v, .bool true]
  | none => .tuple #[.int .i64 0, .bool false]
def numRes : Option Nat → Int
  | some v => v
  | none => -1
theorem undec_stop (l : List UInt8) (k : Nat) (h : k < l.length) (hn : undec1 l[k] = none) (n : Nat) : undec n l = none := by
  induction l generalizing n k with
  | nil => simp at h
  | cons c l ih =>
    cases k with
    | zero => simp at hn; simp [undec, hn]
    | succ k =>
      simp only [undec]
      cases undec1 c with
      | none => rfl
      | some d => exact ih k (by simpa using h) (by simpa using hn) _
theorem undec_snoc {n m : Nat} {l : List UInt8} {c : UInt8} {d : Nat} (h : undec n l = some m) (hd : undec1 c = some d) : undec n (l ++ [c]) = some (10 * m + d) := by
  rw [undec_append, h]; simp [undec, hd]
theorem undec1_yes {c : UInt8} (h1 : (48 : Int) ≤ c.toNat) (h2 : (c.toNat : Int) ≤ 57) : undec1 c = some (c.toNat - 48) := by unfold undec1; rw [if_pos (by omega)]
theorem undec1_no {c : UInt8} (h1 : (c.toNat : Int) < 48 ∨ 57 < (c.toNat : Int)) : undec1 c = none := by unfold undec1; rw [if_neg (by omega)]
theorem len_toList (s : ByteArray) : s.data.toList.length = s.size := by rw [Array.length_toList]; rfl
theorem numOf_bad (s : ByteArray) (most : Nat) (h : s.size < 1 ∨ most < s.size) : numOf s.data.toList most = none := by
  unfold numOf
  rw [if_pos]
  rcases h with h | h
  · exact Or.inl (by simpa using h)
  · exact Or.inr (Or.inl (by simpa using h))
theorem numOf_zero (s : ByteArray) (most : Nat) (h : 1 < s.size) (h0 : s[0].toNat = 48) : numOf s.data.toList most = none := by
  unfold numOf
  rw [if_pos]
  refine Or.inr (Or.inr ⟨by simpa using h, ?_⟩)
  have e : s.data.toList.head? = some s[0] := by
    rw [List.head?_eq_getElem?, List.getElem?_eq_getElem (by simpa using (by omega : 0 < s.size))]; rfl
  rw [e, UInt8.toNat_inj.1 (h0.trans (by decide : (48 : Nat) = (48 : UInt8).toNat))]
theorem numOf_good (s : ByteArray) (most : Nat) (h1 : 1 ≤ s.size) (h2 : s.size ≤ most) (h3 : ∀ _ : 1 < s.size, s[0].toNat ≠ 48) : numOf s.data.toList most = undec 0 s.data.toList := by
  unfold numOf
  rw [if_neg]
  rintro (h | h | ⟨h, h4⟩)
  · rw [len_toList] at h; omega
  · rw [len_toList] at h; omega
  · have hs : 1 < s.size := by rw [len_toList] at h; exact h
    have e : s.data.toList.head? = some s[0] := by
      rw [List.head?_eq_getElem?, List.getElem?_eq_getElem (by simpa using (by omega : 0 < s.size))]; rfl
    rw [e] at h4
    exact h3 hs (by rw [Option.some.inj h4]; decide)
theorem undec_fail (s : ByteArray) (k : Nat) (h : k < s.size) (hn : undec1 s[k] = none) : undec 0 s.data.toList = none :=
  undec_stop s.data.toList k (by rw [len_toList]; exact h) hn 0
theorem undec_small (s : ByteArray) (k m d : Nat) (hs : s.size ≤ d) (h : undec 0 (s.data.toList.take k) = some m) : m < 10 ^ d := by
  have h1 := undec_lt _ _ _ h
  have h2 : (s.data.toList.take k).length ≤ d := by simp; omega
  have h3 : 10 ^ (s.data.toList.take k).length ≤ 10 ^ d := Nat.pow_le_pow_right (by decide) h2
  omega

theorem undec_small17 (s : ByteArray) (k m : Nat) (hk : k ≤ 17) (h : undec 0 (s.data.toList.take k) = some m) : m < 100000000000000000 := by
  have h1 := undec_lt _ _ _ h
  have h2 : (s.data.toList.take k).length ≤ 17 := by simp; omega
  have h3 : 10 ^ (s.data.toList.take k).length ≤ 10 ^ 17 := Nat.pow_le_pow_right (by decide) h2
  have h4 : (10 : Nat) ^ 17 = 100000000000000000 := by decide
  omega
theorem ne_empty {s : ByteArray} (h : 1 ≤ s.size) : s.toList.isEmpty = false := by
  rw [← decide_eq_emptyBytes, decide_eq_false_iff_not]
  rintro rfl
  simp at h

/- Is it a number of digits without needless zeros? -/
def areN (l : List UInt8) : Bool := (numOf l l.length).isSome
theorem numOf_areN (l : List UInt8) (most : Nat) (h : l.length ≤ most) : numOf l most = numOf l l.length := by
  unfold numOf
  by_cases hb : l.length < 1 ∨ (1 < l.length ∧ l.head? = some 48)
  · rw [if_pos (by rcases hb with h | h <;> simp [h]), if_pos (by rcases hb with h | h <;> simp [h])]
  · rw [if_neg (by rintro (h1 | h1 | h1) <;> simp_all <;> omega), if_neg (by rintro (h1 | h1 | h1) <;> simp_all)]
theorem areN_none {l : List UInt8} (h : areN l = false) (most : Nat) : numOf l most = none := by
  by_cases hl : l.length ≤ most
  · rw [numOf_areN l most hl]
    unfold areN at h
    simpa using h
  · unfold numOf
    rw [if_pos (by omega)]
theorem areN_some {l : List UInt8} (h : areN l = true) : ∃ n, undec 0 l = some n ∧ ∀ most, l.length ≤ most → numOf l most = some n := by
  unfold areN at h
  obtain ⟨n, hn⟩ := Option.isSome_iff_exists.1 h
  have h2 := hn
  unfold numOf at h2
  split at h2
  · cases h2
  · exact ⟨n, h2, fun most hm => by rw [numOf_areN l most hm]; exact hn⟩

set_option maxHeartbeats 1000000 in
theorem are_any (s : ByteArray) (hs : s.size ≤ maxLen) (w : World) :
    Calls Tryd.prog 90 #[.string s] w fun e w' => e = .returned (.bool (areN s.data.toList)) ∧ w' = w := by
  have hs2 : (s.size : Int) ≤ 9223372036854775807 := by unfold maxLen at hs; omega
  clear hs
  by_cases h1 : s.size < 1
  · have e : areN s.data.toList = false := by unfold areN; rw [numOf_bad s _ (.inl h1)]; rfl
    rw [e]
    obtain rfl : s = ⟨#[]⟩ := by
      apply ByteArray.ext; apply Array.eq_empty_of_size_eq_zero; have : s.data.size = s.size := rfl; omega
    clear h1 e
    go_enter Tryd.func90, Tryd.ntmps90
    go_wp2
    go_ret
    exact ⟨rfl, rfl⟩
  have h1 : 1 ≤ s.size := by omega
  have he := ne_empty h1
  have hlen : s.data.toList.length = s.size := len_toList s
  by_cases hz : ∃ h : 1 < s.size, s[0].toNat = 48
  · obtain ⟨h2, h0⟩ := hz
    have e : areN s.data.toList = false := by unfold areN; rw [numOf_zero s _ h2 h0]; rfl
    rw [e]
    have h0' : ((s[0].toNat : Int) == 48) = true := by simp; omega
    have h2' : (1 : Int) < (s.size : Int) := by omega
    clear h0 e hlen
    go_enter Tryd.func90, Tryd.ntmps90
    go_wp2
    all_goals (go_ret; exact ⟨rfl, rfl⟩)
  have h3 : ∀ _ : 1 < s.size, s[0].toNat ≠ 48 := fun h e => hz ⟨h, e⟩
  clear hz
  have hg : numOf s.data.toList s.data.toList.length = undec 0 s.data.toList := numOf_good s _ h1 (by omega) h3
  have HG : Hid (areN s.data.toList = (undec 0 s.data.toList).isSome) := by show _ = _; unfold areN; rw [hg]
  clear hg
  have hgo : (∃ _ : 1 < s.size, ((s[0].toNat : Int) == 48) = false) ∨ s.size ≤ 1 := by
    rcases Nat.lt_or_ge 1 s.size with h | h
    · exact Or.inl ⟨h, by have := h3 h; simp; omega⟩
    · exact Or.inr h
  have HL : Hid (s.data.toList.length = s.size) := hlen
  clear h3 hlen
  rcases hgo with ⟨h2, h0⟩ | h2
  all_goals
    go_enter Tryd.func90, Tryd.ntmps90
    go_wp2
    go_loop [18] (fun i => ∃ k : Nat, k ≤ s.size ∧ i = .int .i64 k ∧ ∃ m, undec 0 (s.data.toList.take k) = some m) (fun i => s.size - (intOf i).toNat)
    case atStart => exact ⟨0, Nat.zero_le _, rfl, 0, rfl⟩
    case round =>
      obtain ⟨k, hk, rfl, m, hu⟩ := hrel
      have HU : Hid (undec 0 (s.data.toList.take k) = some m) := hu
      clear hu
      by_cases hlt : k < s.size
      · have HT : Hid (s.data.toList.take (k + 1) = s.data.toList.take k ++ [s[k]]) := take_snoc s k hlt
        go_wp2
        · go_ret
          exact ⟨by rw [HG.out, undec_fail s k hlt (undec1_no (by omega))]; rfl, rfl⟩
        · go_round
          case rel => exact ⟨k + 1, by omega, by go_num, 10 * m + (s[k].toNat - 48), by rw [HT.out]; exact undec_snoc HU.out (undec1_yes (by omega) (by omega))⟩
          case measure => simp [intOf]; omega
        · go_ret
          exact ⟨by rw [HG.out, undec_fail s k hlt (undec1_no (by omega))]; rfl, rfl⟩
      · go_wp2
        go_ret
        refine ⟨?_, rfl⟩
        have hu := HU.out
        rw [List.take_of_length_le (by rw [HL.out]; omega)] at hu
        rw [HG.out, hu]; rfl

set_option maxHeartbeats 1000000 in
theorem digRead_any (s : ByteArray) (hs : s.size ≤ maxLen) (most : Nat) (hmost : most ≤ 18) (w : World) :
    Calls Tryd.prog 56 #[.string s, .int .i64 most] w fun e w' => e = .returned (lenRes (numOf s.data.toList most)) ∧ w' = w := by
  have HS : Hid (s.size ≤ maxLen) := hs
  have hs2 : (s.size : Int) ≤ 9223372036854775807 := by unfold maxLen at hs; omega
  clear hs
  by_cases hbad : most < s.size
  · rw [numOf_bad s most (.inr hbad)]
    have hb : (most : Int) < (s.size : Int) := by omega
    clear hbad
    go_enter Tryd.func56, Tryd.ntmps56
    go_wp2_with fail
    go_ret2
    exact ⟨rfl, rfl⟩
  have hb : ¬ (most : Int) < (s.size : Int) := by omega
  have hb' : decide ((most : Int) < (s.size : Int)) = false := by simpa using hb
  have h6 : s.size ≤ most := by omega
  clear hbad
  by_cases hare : areN s.data.toList = false
  · rw [areN_none hare]
    have HA : Hid (areN s.data.toList = false) := hare
    clear hare
    go_enter Tryd.func56, Tryd.ntmps56
    go_wp2_with fail
    refine (are_any s HS.out _).mono ?_
    rintro e w1 ⟨rfl, rfl⟩
    rw [HA.out]
    go_wp2_with fail
    go_ret2
    exact ⟨rfl, rfl⟩
  have hare : areN s.data.toList = true := by simpa using hare
  obtain ⟨n, hn, hno⟩ := areN_some hare
  have e := hno most (by rw [len_toList]; exact h6)
  rw [e]
  have HA : Hid (areN s.data.toList = true) := hare
  have HN : Hid (undec 0 s.data.toList = some n) := hn
  clear hare hn hno e
  go_enter Tryd.func56, Tryd.ntmps56
  go_wp2_with fail
  refine (are_any s HS.out _).mono ?_
  rintro e w1 ⟨rfl, rfl⟩
  rw [HA.out]
  go_wp2_with fail
  go_loop [6, 19] (fun q i => ∃ k m : Nat, k ≤ s.size ∧ i = .int .i64 k ∧ q = .int .i64 m ∧ undec 0 (s.data.toList.take k) = some m) (fun _ i => s.size - (intOf i).toNat)
  case atStart => exact ⟨0, 0, Nat.zero_le _, rfl, rfl, rfl⟩
  case round =>
    obtain ⟨k, m, hk, rfl, rfl, hu⟩ := hrel
    have HU : Hid (undec 0 (s.data.toList.take k) = some m) := hu
    clear hu
    by_cases hlt : k < s.size
    · have HT : Hid (s.data.toList.take (k + 1) = s.data.toList.take k ++ [s[k]]) := take_snoc s k hlt
      have hm : m < 100000000000000000 := undec_small17 s k m (by omega) HU.out
      have hd : ∃ d, undec1 s[k] = some d := by
        cases hd : undec1 s[k] with
        | none => have := undec_fail s k hlt hd; rw [HN.out] at this; cases this
        | some d => exact ⟨d, rfl⟩
      obtain ⟨hd1, hd2⟩ : (48 : Int) ≤ s[k].toNat ∧ (s[k].toNat : Int) ≤ 57 := by
        obtain ⟨d, hd⟩ := hd
        unfold undec1 at hd
        split at hd
        · omega
        · cases hd
      clear hd
      go_wp2_with fail
      go_round
      case rel => exact ⟨k + 1, 10 * m + (s[k].toNat - 48), by omega, by go_num, val_int (by omega), by rw [HT.out]; exact undec_snoc HU.out (undec1_yes (by omega) (by omega))⟩
      case measure => simp [intOf]; omega
    · go_wp2_with fail
      go_ret2
      refine ⟨?_, rfl⟩
      have hu := HU.out
      rw [List.take_of_length_le (by rw [len_toList]; omega), HN.out] at hu
      cases hu
      rfl

theorem digRead6 (s : ByteArray) (hs : s.size ≤ maxLen) (w : World) :
    Calls Tryd.prog 56 #[.string s, .int .i64 6] w fun e w' => e = .returned (lenRes (numOf s.data.toList 6)) ∧ w' = w := digRead_any s hs 6 (by decide) w
theorem digRead9 (s : ByteArray) (hs : s.size ≤ maxLen) (w : World) :
    Calls Tryd.prog 56 #[.string s, .int .i64 9] w fun e w' => e = .returned (lenRes (numOf s.data.toList 9)) ∧ w' = w := digRead_any s hs 9 (by decide) w

set_option maxHeartbeats 1000000 in
theorem numberOf_any (s : ByteArray) (hs : s.size ≤ maxLen) (most : Nat) (hmost : most ≤ 18) (w : World) :
    Calls Tryd.prog 63 #[.string s, .int .i64 most] w fun e w' => e = .returned (.int .i64 (numRes (numOf s.data.toList most))) ∧ w' = w := by
  unfold maxLen at hs
  by_cases hbad : s.size < 1 ∨ most < s.size
  · rw [numOf_bad s most hbad]
    rcases hbad with h | h
    · go_enter Tryd.func63, Tryd.ntmps63
      go_wp2
      all_goals (go_ret; exact ⟨rfl, rfl⟩)
    · go_enter Tryd.func63, Tryd.ntmps63
      go_wp2
      all_goals (go_ret; exact ⟨rfl, rfl⟩)
  have h1 : 1 ≤ s.size := by omega
  have h6 : s.size ≤ most := by omega
  clear hbad
  by_cases hz : ∃ h : 1 < s.size, s[0].toNat = 48
  · obtain ⟨h2, h0⟩ := hz
    rw [numOf_zero s most h2 h0]
    have h0' : ((s[0].toNat : Int) == 48) = true := by simp; omega
    clear h0
    go_enter Tryd.func63, Tryd.ntmps63
    go_wp2
    all_goals (go_ret; exact ⟨rfl, rfl⟩)
  have h3 : ∀ _ : 1 < s.size, s[0].toNat ≠ 48 := fun h e => hz ⟨h, e⟩
  clear hz
  have hg := numOf_good s most h1 h6 h3
  rw [hg]
  clear hg
  have hgo : (∃ _ : 1 < s.size, ((s[0].toNat : Int) == 48) = false) ∨ s.size ≤ 1 := by
    rcases Nat.lt_or_ge 1 s.size with h | h
    · exact Or.inl ⟨h, by have := h3 h; simp; omega⟩
    · exact Or.inr h
  clear h3
  have b1 : ¬ (s.size : Int) < 1 := by omega
  have b2 : ¬ (most : Int) < (s.size : Int) := by omega
  have b1' : decide ((s.size : Int) < 1) = false := by simpa using b1
  have b2' : decide ((most : Int) < (s.size : Int)) = false := by simpa using b2
  rcases hgo with ⟨h2, h0⟩ | h2
  all_goals
    go_enter Tryd.func63, Tryd.ntmps63
    go_wp2
    go_loop [5, 6] (fun q i => ∃ k m : Nat, k ≤ s.size ∧ i = .int .i64 k ∧ q = .int .i64 m ∧ undec 0 (s.data.toList.take k) = some m) (fun _ i => s.size - (intOf i).toNat)
    case atStart => exact ⟨0, 0, Nat.zero_le _, rfl, rfl, rfl⟩
    case round =>
      obtain ⟨k, m, hk, rfl, rfl, hu⟩ := hrel
      have HU : Hid (undec 0 (s.data.toList.take k) = some m) := hu
      clear hu
      by_cases hlt : k < s.size
      · have HT : Hid (s.data.toList.take (k + 1) = s.data.toList.take k ++ [s[k]]) := take_snoc s k hlt
        have hm : m < 100000000000000000 := undec_small17 s k m (by omega) HU.out
        go_wp2
        · go_ret
          exact ⟨by rw [undec_fail s k hlt (undec1_no (by omega))]; rfl, rfl⟩
        · go_round
          case rel => exact ⟨k + 1, 10 * m + (s[k].toNat - 48), by omega, by go_num, val_int (by omega), by rw [HT.out]; exact undec_snoc HU.out (undec1_yes (by omega) (by omega))⟩
          case measure => simp [intOf]; omega
        · go_ret
          exact ⟨by rw [undec_fail s k hlt (undec1_no (by omega))]; rfl, rfl⟩
      · go_wp2
        go_ret
        refine ⟨?_, rfl⟩
        have hu := HU.out
        rw [List.take_of_length_le (by rw [len_toList]; omega)] at hu
        rw [hu]; rfl
end Go.Proofs.YtcbcjefefmbccaaDoor
namespace Go.Proofs.YtcbcjefefmbccaaDoor
open Go.RowKit

def readRes (v : Value) : Option (Nat × Nat) → Value
  | some x => .tuple #[idV x.1 x.2, .nilIface]
  | none => .tuple #[idV 0 0, v]
theorem readRes_none (v : Value) : readRes v none = .tuple #[idV 0 0, v] := rfl
theorem idRead_short (s : ByteArray) (h : s.size ≤ 8) : idRead s.data.toList = none := by
  unfold idRead
  rw [if_pos (Or.inl (by rw [len_toList]; exact h))]
theorem idRead_dash (s : ByteArray) (h : 8 < s.size) (h8 : s[8].toNat ≠ 45) : idRead s.data.toList = none := by
  unfold idRead
  rw [if_pos (Or.inr ?_)]
  rw [List.getElem?_eq_getElem (by rw [len_toList]; exact h)]
  intro e
  have e2 : s[8] = 45 := Option.some.inj e
  rw [e2] at h8
  exact h8 rfl
theorem idRead_parts (s : ByteArray) (h : 8 < s.size) (h8 : s[8].toNat = 45) :
    idRead s.data.toList = (match unhex 0 (s.extract 0 8).data.toList, numOf (s.extract 9 s.size).data.toList 6 with | some n, some l => some (n, l) | _, _ => none) := by
  unfold idRead
  rw [if_neg, Lib.extract_data, Lib.extract_data]
  · have h9 : (s.data.toList.drop 9).take (s.size - 9) = s.data.toList.drop 9 := List.take_of_length_le (by rw [List.length_drop, len_toList]; exact Nat.le_refl _)
    rw [h9, List.drop_zero, Nat.sub_zero]
    cases unhex 0 (List.take 8 s.data.toList) <;> cases numOf (List.drop 9 s.data.toList) 6 <;> rfl
  · rintro (e | e)
    · rw [len_toList] at e; omega
    · apply e
      rw [List.getElem?_eq_getElem (by rw [len_toList]; exact h)]
      have : s.data.toList[8]'(by rw [len_toList]; exact h) = s[8] := rfl
      rw [this, UInt8.toNat_inj.1 (h8.trans (by decide : (45 : Nat) = (45 : UInt8).toNat))]

theorem errText_cell {v : Value} {w : World} (hv : w.cell? ⟨0, 0, none⟩ = some v) : ∀ o, (w.alloc o).cell? ⟨0, 0, none⟩ = some v := fun o => by
  have hlt : 0 < w.heap.size := by
    rcases Nat.lt_or_ge 0 w.heap.size with h' | h'
    · exact h'
    · simp [World.cell?, Array.getElem?_eq_none h'] at hv
  rw [World.cell?_alloc_lt _ _ ⟨0, 0, none⟩ hlt]; exact hv

set_option maxHeartbeats 2000000 in
theorem read_any (s : ByteArray) (hs : s.size ≤ maxLen) (v : Value) (w : World) (hv : w.cell? ⟨0, 0, none⟩ = some v) :
    Calls Tryd.prog 16 #[.string s] w fun e w' => e = .returned (readRes v (idRead s.data.toList)) ∧ Below w.heap.size w w' := by
  unfold maxLen at hs
  have hv' := errText_cell hv
  by_cases h : s.size ≤ 8
  · rw [idRead_short s h, readRes_none]
    have h' : (s.size : Int) ≤ 8 := by omega
    go_enter Tryd.func16, Tryd.ntmps16
    go_wp2
    go_region
    all_goals go_wp2
    all_goals exact bodyPost_ret (v := .tuple #[idV 0 0, v]) (by simp [results, Tryd.results16, go_sem]) rfl ⟨rfl, ((Below.refl _ _).alloc (Nat.le_refl _) _).drew⟩
  have h9 : 8 < s.size := by omega
  have h9' : ¬ (s.size : Int) ≤ 8 := by omega
  by_cases h8 : s[8].toNat = 45
  · rw [idRead_parts s h9 h8]
    have hd : ((s[8].toNat : Int) != 45) = false := by simp; omega
    have hx8 : (s.extract 0 8).size = 8 := by simp [ByteArray.size_extract]; omega
    have HX9 : Hid ((s.extract 9 s.size).size ≤ maxLen) := by show _ ≤ _; unfold maxLen; simp [ByteArray.size_extract]; omega
    clear h8
    clear h
    generalize hun : unhex 0 (s.extract 0 8).data.toList = oh
    generalize hnu : numOf (s.extract 9 s.size).data.toList 6 = ol
    have HUN : Hid (unhex8 (s.extract 0 8).data.toList = oh) := by show _ = _; rw [unhex8_of _ hx8]; exact hun
    have HNU : Hid (numOf (s.extract 9 s.size).data.toList 6 = ol) := hnu
    clear hun hnu hx8
    cases oh with
    | none =>
      show Calls _ _ _ _ fun e w' => e = .returned (.tuple #[idV 0 0, v]) ∧ _
      go_enter Tryd.func16, Tryd.ntmps16
      go_wp2_with fail
      refine (readHex_any (s.extract 0 8) _).mono ?_
      rintro e w1 ⟨rfl, rfl⟩
      rw [HUN.out]
      unfold hexRes
      go_wp2_with fail
      refine (digRead6 (s.extract 9 s.size) HX9.out _).mono ?_
      rintro e w1 ⟨rfl, rfl⟩
      rw [HNU.out]
      cases ol with
      | none =>
        unfold lenRes
        go_wp2_with fail
        go_region
        all_goals go_wp2
        all_goals exact bodyPost_ret (v := .tuple #[idV 0 0, v]) (by simp [results, Tryd.results16, go_sem]) rfl ⟨rfl, ((Below.refl _ _).alloc (Nat.le_refl _) _).drew⟩
      | some l =>
        unfold lenRes
        go_wp2_with fail
        go_region
        all_goals go_wp2
        all_goals exact bodyPost_ret (v := .tuple #[idV 0 0, v]) (by simp [results, Tryd.results16, go_sem]) rfl ⟨rfl, ((Below.refl _ _).alloc (Nat.le_refl _) _).drew⟩
    | some n =>
      cases ol with
      | none =>
        show Calls _ _ _ _ fun e w' => e = .returned (.tuple #[idV 0 0, v]) ∧ _
        go_enter Tryd.func16, Tryd.ntmps16
        go_wp2_with fail
        refine (readHex_any (s.extract 0 8) _).mono ?_
        rintro e w1 ⟨rfl, rfl⟩
        rw [HUN.out]
        unfold hexRes
        go_wp2_with fail
        refine (digRead6 (s.extract 9 s.size) HX9.out _).mono ?_
        rintro e w1 ⟨rfl, rfl⟩
        rw [HNU.out]
        unfold lenRes
        go_wp2_with fail
        go_region
        all_goals go_wp2
        all_goals exact bodyPost_ret (v := .tuple #[idV 0 0, v]) (by simp [results, Tryd.results16, go_sem]) rfl ⟨rfl, ((Below.refl _ _).alloc (Nat.le_refl _) _).drew⟩
      | some l =>
        show Calls _ _ _ _ fun e w' => e = .returned (.tuple #[idV n l, .nilIface]) ∧ _
        go_enter Tryd.func16, Tryd.ntmps16
        go_wp2_with fail
        refine (readHex_any (s.extract 0 8) _).mono ?_
        rintro e w1 ⟨rfl, rfl⟩
        rw [HUN.out]
        unfold hexRes
        go_wp2_with fail
        refine (digRead6 (s.extract 9 s.size) HX9.out _).mono ?_
        rintro e w1 ⟨rfl, rfl⟩
        rw [HNU.out]
        unfold lenRes
        go_wp2_with fail
        exact bodyPost_ret (v := .tuple #[idV n l, .nilIface]) (by simp [results, Tryd.results16, go_sem]) rfl ⟨rfl, (Below.refl _ _).alloc (Nat.le_refl _) _⟩
  · rw [idRead_dash s h9 h8, readRes_none]
    have hd : ((s[8].toNat : Int) != 45) = true := by simp; omega
    clear h8 h
    go_enter Tryd.func16, Tryd.ntmps16
    go_wp2
    go_region
    all_goals go_wp2
    all_goals exact bodyPost_ret (v := .tuple #[idV 0 0, v]) (by simp [results, Tryd.results16, go_sem]) rfl ⟨rfl, ((Below.refl _ _).alloc (Nat.le_refl _) _).drew⟩
end Go.Proofs.YtcbcjefefmbccaaDoor
