/-
  Own text. Decimal digits read: digits.Are, digits.Read and the document's NumberOf by contracts.
-/
import Derived.Test.YtmjdgakokldliaaGreatDoorPrint
namespace Go.Proofs.YtmjdgakokldliaaGreatDoor
open Go.RowKit

/- Decimal. -/
def lenRes : Option Nat → Value
  | some v => .tuple #[.int .i64 v, .bool true]
  | none => .tuple #[.int .i64 0, .bool false]
def numRes : Option Nat → Int
  | some v => v
  | none => -1
theorem undec_stop (l : List UInt8) (k : Nat) (h : k < l.length) (hn : undec1 l[k] = none) (n : Nat) : undec n l = none := by
  induction l generalizing n k with
  | nil => simp at h
  | cons c l ih =>
    cases k with
    | zero => simp at hn; simp [undec, hn]
    | succ k =>
      simp only [undec]
      cases undec1 c with
      | none => rfl
      | some d => exact ih k (by simpa using h) (by simpa using hn) _
theorem undec_snoc {n m : Nat} {l : List UInt8} {c : UInt8} {d : Nat} (h : undec n l = some m) (hd : undec1 c = some d) : undec n (l ++ [c]) = some (10 * m + d) := by
  rw [undec_append, h]; simp [undec, hd]
theorem undec1_yes {c : UInt8} (h1 : (48 : Int) ≤ c.toNat) (h2 : (c.toNat : Int) ≤ 57) : undec1 c = some (c.toNat - 48) := by unfold undec1; rw [if_pos (by omega)]
theorem undec1_no {c : UInt8} (h1 : (c.toNat : Int) < 48 ∨ 57 < (c.toNat : Int)) : undec1 c = none := by unfold undec1; rw [if_neg (by omega)]
theorem len_toList (s : ByteArray) : s.data.toList.length = s.size := by rw [Array.length_toList]; rfl
theorem numOf_bad (s : ByteArray) (most : Nat) (h : s.size < 1 ∨ most < s.size) : numOf s.data.toList most = none := by
  unfold numOf
  rw [if_pos]
  rcases h with h | h
  · exact Or.inl (by simpa using h)
  · exact Or.inr (Or.inl (by simpa using h))
theorem numOf_zero (s : ByteArray) (most : Nat) (h : 1 < s.size) (h0 : s[0].toNat = 48) : numOf s.data.toList most = none := by
  unfold numOf
  rw [if_pos]
  refine Or.inr (Or.inr ⟨by simpa using h, ?_⟩)
  have e : s.data.toList.head? = some s[0] := by
    rw [List.head?_eq_getElem?, List.getElem?_eq_getElem (by simpa using (by omega : 0 < s.size))]; rfl
  rw [e, UInt8.toNat_inj.1 (h0.trans (by decide : (48 : Nat) = (48 : UInt8).toNat))]
theorem numOf_good (s : ByteArray) (most : Nat) (h1 : 1 ≤ s.size) (h2 : s.size ≤ most) (h3 : ∀ _ : 1 < s.size, s[0].toNat ≠ 48) : numOf s.data.toList most = undec 0 s.data.toList := by
  unfold numOf
  rw [if_neg]
  rintro (h | h | ⟨h, h4⟩)
  · rw [len_toList] at h; omega
  · rw [len_toList] at h; omega
  · have hs : 1 < s.size := by rw [len_toList] at h; exact h
    have e : s.data.toList.head? = some s[0] := by
      rw [List.head?_eq_getElem?, List.getElem?_eq_getElem (by simpa using (by omega : 0 < s.size))]; rfl
    rw [e] at h4
    exact h3 hs (by rw [Option.some.inj h4]; decide)
theorem undec_fail (s : ByteArray) (k : Nat) (h : k < s.size) (hn : undec1 s[k] = none) : undec 0 s.data.toList = none :=
  undec_stop s.data.toList k (by rw [len_toList]; exact h) hn 0
theorem undec_small (s : ByteArray) (k m d : Nat) (hs : s.size ≤ d) (h : undec 0 (s.data.toList.take k) = some m) : m < 10 ^ d := by
  have h1 := undec_lt _ _ _ h
  have h2 : (s.data.toList.take k).length ≤ d := by simp; omega
  have h3 : 10 ^ (s.data.toList.take k).length ≤ 10 ^ d := Nat.pow_le_pow_right (by decide) h2
  omega

theorem undec_small17 (s : ByteArray) (k m : Nat) (hk : k ≤ 17) (h : undec 0 (s.data.toList.take k) = some m) : m < 100000000000000000 := by
  have h1 := undec_lt _ _ _ h
  have h2 : (s.data.toList.take k).length ≤ 17 := by simp; omega
  have h3 : 10 ^ (s.data.toList.take k).length ≤ 10 ^ 17 := Nat.pow_le_pow_right (by decide) h2
  have h4 : (10 : Nat) ^ 17 = 100000000000000000 := by decide
  omega
theorem ne_empty {s : ByteArray} (h : 1 ≤ s.size) : s.toList.isEmpty = false := by
  rw [← decide_eq_emptyBytes, decide_eq_false_iff_not]
  rintro rfl
  simp at h

/- Is it a number of digits without needless zeros? -/
def areN (l : List UInt8) : Bool := (numOf l l.length).isSome
theorem numOf_areN (l : List UInt8) (most : Nat) (h : l.length ≤ most) : numOf l most = numOf l l.length := by
  unfold numOf
  by_cases hb : l.length < 1 ∨ (1 < l.length ∧ l.head? = some 48)
  · rw [if_pos (by rcases hb with h | h <;> simp [h]), if_pos (by rcases hb with h | h <;> simp [h])]
  · rw [if_neg (by rintro (h1 | h1 | h1) <;> simp_all <;> omega), if_neg (by rintro (h1 | h1 | h1) <;> simp_all)]
theorem areN_none {l : List UInt8} (h : areN l = false) (most : Nat) : numOf l most = none := by
  by_cases hl : l.length ≤ most
  · rw [numOf_areN l most hl]
    unfold areN at h
    simpa using h
  · unfold numOf
    rw [if_pos (by omega)]
theorem areN_some {l : List UInt8} (h : areN l = true) : ∃ n, undec 0 l = some n ∧ ∀ most, l.length ≤ most → numOf l most = some n := by
  unfold areN at h
  obtain ⟨n, hn⟩ := Option.isSome_iff_exists.1 h
  have h2 := hn
  unfold numOf at h2
  split at h2
  · cases h2
  · exact ⟨n, h2, fun most hm => by rw [numOf_areN l most hm]; exact hn⟩

set_option maxHeartbeats 1000000 in
theorem are_any (s : ByteArray) (hs : s.size ≤ maxLen) (w : World) :
    Calls Tryz.prog 132 #[.string s] w fun e w' => e = .returned (.bool (areN s.data.toList)) ∧ w' = w := by
  have hs2 : (s.size : Int) ≤ 9223372036854775807 := by unfold maxLen at hs; omega
  clear hs
  by_cases h1 : s.size < 1
  · have e : areN s.data.toList = false := by unfold areN; rw [numOf_bad s _ (.inl h1)]; rfl
    rw [e]
    obtain rfl : s = ⟨#[]⟩ := by
      apply ByteArray.ext; apply Array.eq_empty_of_size_eq_zero; have : s.data.size = s.size := rfl; omega
    clear h1 e
    go_enter Tryz.func132, Tryz.ntmps132
    go_wp2
    go_ret
    exact ⟨rfl, rfl⟩
  have h1 : 1 ≤ s.size := by omega
  have he := ne_empty h1
  have hlen : s.data.toList.length = s.size := len_toList s
  by_cases hz : ∃ h : 1 < s.size, s[0].toNat = 48
  · obtain ⟨h2, h0⟩ := hz
    have e : areN s.data.toList = false := by unfold areN; rw [numOf_zero s _ h2 h0]; rfl
    rw [e]
    have h0' : ((s[0].toNat : Int) == 48) = true := by simp; omega
    have h2' : (1 : Int) < (s.size : Int) := by omega
    clear h0 e hlen
    go_enter Tryz.func132, Tryz.ntmps132
    go_wp2
    all_goals (go_ret; exact ⟨rfl, rfl⟩)
  have h3 : ∀ _ : 1 < s.size, s[0].toNat ≠ 48 := fun h e => hz ⟨h, e⟩
  clear hz
  have hg : numOf s.data.toList s.data.toList.length = undec 0 s.data.toList := numOf_good s _ h1 (by omega) h3
  have HG : Hid (areN s.data.toList = (undec 0 s.data.toList).isSome) := by show _ = _; unfold areN; rw [hg]
  clear hg
  have hgo : (∃ _ : 1 < s.size, ((s[0].toNat : Int) == 48) = false) ∨ s.size ≤ 1 := by
    rcases Nat.lt_or_ge 1 s.size with h | h
    · exact Or.inl ⟨h, by have := h3 h; simp; omega⟩
    · exact Or.inr h
  have HL : Hid (s.data.toList.length = s.size) := hlen
  clear h3 hlen
  rcases hgo with ⟨h2, h0⟩ | h2
  all_goals
    go_enter Tryz.func132, Tryz.ntmps132
    go_wp2
    go_loop [18] (fun i => ∃ k : Nat, k ≤ s.size ∧ i = .int .i64 k ∧ ∃ m, undec 0 (s.data.toList.take k) = some m) (fun i => s.size - (intOf i).toNat)
    case atStart => exact ⟨0, Nat.zero_le _, rfl, 0, rfl⟩
    case round =>
      obtain ⟨k, hk, rfl, m, hu⟩ := hrel
      have HU : Hid (undec 0 (s.data.toList.take k) = some m) := hu
      clear hu
      by_cases hlt : k < s.size
      · have HT : Hid (s.data.toList.take (k + 1) = s.data.toList.take k ++ [s[k]]) := take_snoc s k hlt
        go_wp2
        · go_ret
          exact ⟨by rw [HG.out, undec_fail s k hlt (undec1_no (by omega))]; rfl, rfl⟩
        · go_round
          case rel => exact ⟨k + 1, by omega, by go_num, 10 * m + (s[k].toNat - 48), by rw [HT.out]; exact undec_snoc HU.out (undec1_yes (by omega) (by omega))⟩
          case measure => simp [intOf]; omega
        · go_ret
          exact ⟨by rw [HG.out, undec_fail s k hlt (undec1_no (by omega))]; rfl, rfl⟩
      · go_wp2
        go_ret
        refine ⟨?_, rfl⟩
        have hu := HU.out
        rw [List.take_of_length_le (by rw [HL.out]; omega)] at hu
        rw [HG.out, hu]; rfl

set_option maxHeartbeats 1000000 in
theorem digRead_any (s : ByteArray) (hs : s.size ≤ maxLen) (most : Nat) (hmost : most ≤ 18) (w : World) :
    Calls Tryz.prog 115 #[.string s, .int .i64 most] w fun e w' => e = .returned (lenRes (numOf s.data.toList most)) ∧ w' = w := by
  have HS : Hid (s.size ≤ maxLen) := hs
  have hs2 : (s.size : Int) ≤ 9223372036854775807 := by unfold maxLen at hs; omega
  clear hs
  by_cases hbad : most < s.size
  · rw [numOf_bad s most (.inr hbad)]
    have hb : (most : Int) < (s.size : Int) := by omega
    clear hbad
    go_enter Tryz.func115, Tryz.ntmps115
    go_wp2_with fail
    go_ret2
    exact ⟨rfl, rfl⟩
  have hb : ¬ (most : Int) < (s.size : Int) := by omega
  have hb' : decide ((most : Int) < (s.size : Int)) = false := by simpa using hb
  have h6 : s.size ≤ most := by omega
  clear hbad
  by_cases hare : areN s.data.toList = false
  · rw [areN_none hare]
    have HA : Hid (areN s.data.toList = false) := hare
    clear hare
    go_enter Tryz.func115, Tryz.ntmps115
    go_wp2_with fail
    refine (are_any s HS.out _).mono ?_
    rintro e w1 ⟨rfl, rfl⟩
    rw [HA.out]
    go_wp2_with fail
    go_ret2
    exact ⟨rfl, rfl⟩
  have hare : areN s.data.toList = true := by simpa using hare
  obtain ⟨n, hn, hno⟩ := areN_some hare
  have e := hno most (by rw [len_toList]; exact h6)
  rw [e]
  have HA : Hid (areN s.data.toList = true) := hare
  have HN : Hid (undec 0 s.data.toList = some n) := hn
  clear hare hn hno e
  go_enter Tryz.func115, Tryz.ntmps115
  go_wp2_with fail
  refine (are_any s HS.out _).mono ?_
  rintro e w1 ⟨rfl, rfl⟩
  rw [HA.out]
  go_wp2_with fail
  go_loop [6, 19] (fun q i => ∃ k m : Nat, k ≤ s.size ∧ i = .int .i64 k ∧ q = .int .i64 m ∧ undec 0 (s.data.toList.take k) = some m) (fun _ i => s.size - (intOf i).toNat)
  case atStart => exact ⟨0, 0, Nat.zero_le _, rfl, rfl, rfl⟩
  case round =>
    obtain ⟨k, m, hk, rfl, rfl, hu⟩ := hrel
    have HU : Hid (undec 0 (s.data.toList.take k) = some m) := hu
    clear hu
    by_cases hlt : k < s.size
    · have HT : Hid (s.data.toList.take (k + 1) = s.data.toList.take k ++ [s[k]]) := take_snoc s k hlt
      have hm : m < 100000000000000000 := undec_small17 s k m (by omega) HU.out
      have hd : ∃ d, undec1 s[k] = some d := by
        cases hd : undec1 s[k] with
        | none => have := undec_fail s k hlt hd; rw [HN.out] at this; cases this
        | some d => exact ⟨d, rfl⟩
      obtain ⟨hd1, hd2⟩ : (48 : Int) ≤ s[k].toNat ∧ (s[k].toNat : Int) ≤ 57 := by
        obtain ⟨d, hd⟩ := hd
        unfold undec1 at hd
        split at hd
        · omega
        · cases hd
      clear hd
      go_wp2_with fail
      go_round
      case rel => exact ⟨k + 1, 10 * m + (s[k].toNat - 48), by omega, by go_num, val_int (by omega), by rw [HT.out]; exact undec_snoc HU.out (undec1_yes (by omega) (by omega))⟩
      case measure => simp [intOf]; omega
    · go_wp2_with fail
      go_ret2
      refine ⟨?_, rfl⟩
      have hu := HU.out
      rw [List.take_of_length_le (by rw [len_toList]; omega), HN.out] at hu
      cases hu
      rfl

theorem digRead6 (s : ByteArray) (hs : s.size ≤ maxLen) (w : World) :
    Calls Tryz.prog 115 #[.string s, .int .i64 6] w fun e w' => e = .returned (lenRes (numOf s.data.toList 6)) ∧ w' = w := digRead_any s hs 6 (by decide) w
theorem digRead9 (s : ByteArray) (hs : s.size ≤ maxLen) (w : World) :
    Calls Tryz.prog 115 #[.string s, .int .i64 9] w fun e w' => e = .returned (lenRes (numOf s.data.toList 9)) ∧ w' = w := digRead_any s hs 9 (by decide) w

set_option maxHeartbeats 1000000 in
theorem numberOf_any (s : ByteArray) (hs : s.size ≤ maxLen) (most : Nat) (hmost : most ≤ 18) (w : World) :
    Calls Tryz.prog 75 #[.string s, .int .i64 most] w fun e w' => e = .returned (.int .i64 (numRes (numOf s.data.toList most))) ∧ w' = w := by
  unfold maxLen at hs
  by_cases hbad : s.size < 1 ∨ most < s.size
  · rw [numOf_bad s most hbad]
    rcases hbad with h | h
    · go_enter Tryz.func75, Tryz.ntmps75
      go_wp2
      all_goals (go_ret; exact ⟨rfl, rfl⟩)
    · go_enter Tryz.func75, Tryz.ntmps75
      go_wp2
      all_goals (go_ret; exact ⟨rfl, rfl⟩)
  have h1 : 1 ≤ s.size := by omega
  have h6 : s.size ≤ most := by omega
  clear hbad
  by_cases hz : ∃ h : 1 < s.size, s[0].toNat = 48
  · obtain ⟨h2, h0⟩ := hz
    rw [numOf_zero s most h2 h0]
    have h0' : ((s[0].toNat : Int) == 48) = true := by simp; omega
    clear h0
    go_enter Tryz.func75, Tryz.ntmps75
    go_wp2
    all_goals (go_ret; exact ⟨rfl, rfl⟩)
  have h3 : ∀ _ : 1 < s.size, s[0].toNat ≠ 48 := fun h e => hz ⟨h, e⟩
  clear hz
  have hg := numOf_good s most h1 h6 h3
  rw [hg]
  clear hg
  have hgo : (∃ _ : 1 < s.size, ((s[0].toNat : Int) == 48) = false) ∨ s.size ≤ 1 := by
    rcases Nat.lt_or_ge 1 s.size with h | h
    · exact Or.inl ⟨h, by have := h3 h; simp; omega⟩
    · exact Or.inr h
  clear h3
  have b1 : ¬ (s.size : Int) < 1 := by omega
  have b2 : ¬ (most : Int) < (s.size : Int) := by omega
  have b1' : decide ((s.size : Int) < 1) = false := by simpa using b1
  have b2' : decide ((most : Int) < (s.size : Int)) = false := by simpa using b2
  rcases hgo with ⟨h2, h0⟩ | h2
  all_goals
    go_enter Tryz.func75, Tryz.ntmps75
    go_wp2
    go_loop [5, 6] (fun q i => ∃ k m : Nat, k ≤ s.size ∧ i = .int .i64 k ∧ q = .int .i64 m ∧ undec 0 (s.data.toList.take k) = some m) (fun _ i => s.size - (intOf i).toNat)
    case atStart => exact ⟨0, 0, Nat.zero_le _, rfl, rfl, rfl⟩
    case round =>
      obtain ⟨k, m, hk, rfl, rfl, hu⟩ := hrel
      have HU : Hid (undec 0 (s.data.toList.take k) = some m) := hu
      clear hu
      by_cases hlt : k < s.size
      · have HT : Hid (s.data.toList.take (k + 1) = s.data.toList.take k ++ [s[k]]) := take_snoc s k hlt
        have hm : m < 100000000000000000 := undec_small17 s k m (by omega) HU.out
        go_wp2
        · go_ret
          exact ⟨by rw [undec_fail s k hlt (undec1_no (by omega))]; rfl, rfl⟩
        · go_round
          case rel => exact ⟨k + 1, 10 * m + (s[k].toNat - 48), by omega, by go_num, val_int (by omega), by rw [HT.out]; exact undec_snoc HU.out (undec1_yes (by omega) (by omega))⟩
          case measure => simp [intOf]; omega
        · go_ret
          exact ⟨by rw [undec_fail s k hlt (undec1_no (by omega))]; rfl, rfl⟩
      · go_wp2
        go_ret
        refine ⟨?_, rfl⟩
        have hu := HU.out
        rw [List.take_of_length_le (by rw [len_toList]; omega)] at hu
        rw [hu]; rfl
end Go.Proofs.YtmjdgakokldliaaGreatDoor
