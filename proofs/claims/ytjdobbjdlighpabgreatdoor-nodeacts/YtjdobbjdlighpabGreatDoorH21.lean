/-
  Own text. Decimal digits read: digits.Are, digits.Read and the document's NumberOf by contracts.
  Own text. print.Read by contracts: an ID, or the zero ID and what api.ErrText holds.
  Own text. The document's ReadID by a contract: it reads just what print.Read reads.
-/
import Derived.Test.YtjdobbjdlighpabGreatDoorH03
import Derived.Test.YtjdobbjdlighpabGreatDoorH20
import Derived.RegionTactic
import Derived.Lib.Strings
namespace Go.Proofs.YtjdobbjdlighpabGreatDoor
open Go.RowKit

/- Decimal. -/
def lenRes : Option Nat → Value
  | some v => .tuple #[.int .i64 v, .bool true]
  | none => .tuple #[.int .i64 0, .bool false]
def numRes : Option Nat → Int
  | some v => v
  | none => -1
theorem undec_stop (l : List UInt8) (k : Nat) (h : k < l.length) (hn : undec1 l[k] = none) (n : Nat) : undec n l = none := by
  induction l generalizing n k with
  | nil => simp at h
  | cons c l ih =>
    cases k with
    | zero => simp at hn; simp [undec, hn]
    | succ k =>
      simp only [undec]
      cases undec1 c with
      | none => rfl
      | some d => exact ih k (by simpa using h) (by simpa using hn) _
theorem undec_snoc {n m : Nat} {l : List UInt8} {c : UInt8} {d : Nat} (h : undec n l = some m) (hd : undec1 c = some d) : undec n (l ++ [c]) = some (10 * m + d) := by
  rw [undec_append, h]; simp [undec, hd]
theorem undec1_yes {c : UInt8} (h1 : (48 : Int) ≤ c.toNat) (h2 : (c.toNat : Int) ≤ 57) : undec1 c = some (c.toNat - 48) := by unfold undec1; rw [if_pos (by omega)]
theorem undec1_no {c : UInt8} (h1 : (c.toNat : Int) < 48 ∨ 57 < (c.toNat : Int)) : undec1 c = none := by unfold undec1; rw [if_neg (by omega)]
theorem len_toList (s : ByteArray) : s.data.toList.length = s.size := by rw [Array.length_toList]; rfl
theorem numOf_bad (s : ByteArray) (most : Nat) (h : s.size < 1 ∨ most < s.size) : numOf s.data.toList most = none := by
  unfold numOf
  rw [if_pos]
  rcases h with h | h
  · exact Or.inl (by simpa using h)
  · exact Or.inr (Or.inl (by simpa using h))
theorem numOf_zero (s : ByteArray) (most : Nat) (h : 1 < s.size) (h0 : s[0].toNat = 48) : numOf s.data.toList most = none := by
  unfold numOf
  rw [if_pos]
  refine Or.inr (Or.inr ⟨by simpa using h, ?_⟩)
  have e : s.data.toList.head? = some s[0] := by
    rw [List.head?_eq_getElem?, List.getElem?_eq_getElem (by simpa using (by omega : 0 < s.size))]; rfl
  rw [e, UInt8.toNat_inj.1 (h0.trans (by decide : (48 : Nat) = (48 : UInt8).toNat))]
theorem numOf_good (s : ByteArray) (most : Nat) (h1 : 1 ≤ s.size) (h2 : s.size ≤ most) (h3 : ∀ _ : 1 < s.size, s[0].toNat ≠ 48) : numOf s.data.toList most = undec 0 s.data.toList := by
  unfold numOf
  rw [if_neg]
  rintro (h | h | ⟨h, h4⟩)
  · rw [len_toList] at h; omega
  · rw [len_toList] at h; omega
  · have hs : 1 < s.size := by rw [len_toList] at h; exact h
    have e : s.data.toList.head? = some s[0] := by
      rw [List.head?_eq_getElem?, List.getElem?_eq_getElem (by simpa using (by omega : 0 < s.size))]; rfl
    rw [e] at h4
    exact h3 hs (by rw [Option.some.inj h4]; decide)
theorem undec_fail (s : ByteArray) (k : Nat) (h : k < s.size) (hn : undec1 s[k] = none) : undec 0 s.data.toList = none :=
  undec_stop s.data.toList k (by rw [len_toList]; exact h) hn 0
theorem undec_small (s : ByteArray) (k m d : Nat) (hs : s.size ≤ d) (h : undec 0 (s.data.toList.take k) = some m) : m < 10 ^ d := by
  have h1 := undec_lt _ _ _ h
  have h2 : (s.data.toList.take k).length ≤ d := by simp; omega
  have h3 : 10 ^ (s.data.toList.take k).length ≤ 10 ^ d := Nat.pow_le_pow_right (by decide) h2
  omega

theorem undec_small17 (s : ByteArray) (k m : Nat) (hk : k ≤ 17) (h : undec 0 (s.data.toList.take k) = some m) : m < 100000000000000000 := by
  have h1 := undec_lt _ _ _ h
  have h2 : (s.data.toList.take k).length ≤ 17 := by simp; omega
  have h3 : 10 ^ (s.data.toList.take k).length ≤ 10 ^ 17 := Nat.pow_le_pow_right (by decide) h2
  have h4 : (10 : Nat) ^ 17 = 100000000000000000 := by decide
  omega
theorem ne_empty {s : ByteArray} (h : 1 ≤ s.size) : s.toList.isEmpty = false := by
  rw [← decide_eq_emptyBytes, decide_eq_false_iff_not]
  rintro rfl
  simp at h

/- Is it a number of digits without needless zeros? -/
def areN (l : List UInt8) : Bool := (numOf l l.length).isSome
theorem numOf_areN (l : List UInt8) (most : Nat) (h : l.length ≤ most) : numOf l most = numOf l l.length := by
  unfold numOf
  by_cases hb : l.length < 1 ∨ (1 < l.length ∧ l.head? = some 48)
  · rw [if_pos (by rcases hb with h | h <;> simp [h]), if_pos (by rcases hb with h | h <;> simp [h])]
  · rw [if_neg (by rintro (h1 | h1 | h1) <;> simp_all <;> omega), if_neg (by rintro (h1 | h1 | h1) <;> simp_all)]
theorem areN_none {l : List UInt8} (h : areN l = false) (most : Nat) : numOf l most = none := by
  by_cases hl : l.length ≤ most
  · rw [numOf_areN l most hl]
    unfold areN at h
    simpa using h
  · unfold numOf
    rw [if_pos (by omega)]
theorem areN_some {l : List UInt8} (h : areN l = true) : ∃ n, undec 0 l = some n ∧ ∀ most, l.length ≤ most → numOf l most = some n := by
  unfold areN at h
  obtain ⟨n, hn⟩ := Option.isSome_iff_exists.1 h
  have h2 := hn
  unfold numOf at h2
  split at h2
  · cases h2
  · exact ⟨n, h2, fun most hm => by rw [numOf_areN l most hm]; exact hn⟩

set_option maxHeartbeats 1000000 in
theorem are_any (s : ByteArray) (hs : s.size ≤ maxLen) (w : World) :
    Calls Tryz.prog 239 #[.string s] w fun e w' => e = .returned (.bool (areN s.data.toList)) ∧ w' = w := by
  have hs2 : (s.size : Int) ≤ 9223372036854775807 := by unfold maxLen at hs; omega
  clear hs
  by_cases h1 : s.size < 1
  · have e : areN s.data.toList = false := by unfold areN; rw [numOf_bad s _ (.inl h1)]; rfl
    rw [e]
    obtain rfl : s = ⟨#[]⟩ := by
      apply ByteArray.ext; apply Array.eq_empty_of_size_eq_zero; have : s.data.size = s.size := rfl; omega
    clear h1 e
    go_enter Tryz.func239, Tryz.ntmps239
    go_wp2
    go_ret
    exact ⟨rfl, rfl⟩
  have h1 : 1 ≤ s.size := by omega
  have he := ne_empty h1
  have hlen : s.data.toList.length = s.size := len_toList s
  by_cases hz : ∃ h : 1 < s.size, s[0].toNat = 48
  · obtain ⟨h2, h0⟩ := hz
    have e : areN s.data.toList = false := by unfold areN; rw [numOf_zero s _ h2 h0]; rfl
    rw [e]
    have h0' : ((s[0].toNat : Int) == 48) = true := by simp; omega
    have h2' : (1 : Int) < (s.size : Int) := by omega
    clear h0 e hlen
    go_enter Tryz.func239, Tryz.ntmps239
    go_wp2
    all_goals (go_ret; exact ⟨rfl, rfl⟩)
  have h3 : ∀ _ : 1 < s.size, s[0].toNat ≠ 48 := fun h e => hz ⟨h, e⟩
  clear hz
  have hg : numOf s.data.toList s.data.toList.length = undec 0 s.data.toList := numOf_good s _ h1 (by omega) h3
  have HG : Hid (areN s.data.toList = (undec 0 s.data.toList).isSome) := by show _ = _; unfold areN; rw [hg]
  clear hg
  have hgo : (∃ _ : 1 < s.size, ((s[0].toNat : Int) == 48) = false) ∨ s.size ≤ 1 := by
    rcases Nat.lt_or_ge 1 s.size with h | h
    · exact Or.inl ⟨h, by have := h3 h; simp; omega⟩
    · exact Or.inr h
  have HL : Hid (s.data.toList.length = s.size) := hlen
  clear h3 hlen
  rcases hgo with ⟨h2, h0⟩ | h2
  all_goals
    go_enter Tryz.func239, Tryz.ntmps239
    go_wp2
    go_loop [18] (fun i => ∃ k : Nat, k ≤ s.size ∧ i = .int .i64 k ∧ ∃ m, undec 0 (s.data.toList.take k) = some m) (fun i => s.size - (intOf i).toNat)
    case atStart => exact ⟨0, Nat.zero_le _, rfl, 0, rfl⟩
    case round =>
      obtain ⟨k, hk, rfl, m, hu⟩ := hrel
      have HU : Hid (undec 0 (s.data.toList.take k) = some m) := hu
      clear hu
      by_cases hlt : k < s.size
      · have HT : Hid (s.data.toList.take (k + 1) = s.data.toList.take k ++ [s[k]]) := take_snoc s k hlt
        go_wp2
        · go_ret
          exact ⟨by rw [HG.out, undec_fail s k hlt (undec1_no (by omega))]; rfl, rfl⟩
        · go_round
          case rel => exact ⟨k + 1, by omega, by go_num, 10 * m + (s[k].toNat - 48), by rw [HT.out]; exact undec_snoc HU.out (undec1_yes (by omega) (by omega))⟩
          case measure => simp [intOf]; omega
        · go_ret
          exact ⟨by rw [HG.out, undec_fail s k hlt (undec1_no (by omega))]; rfl, rfl⟩
      · go_wp2
        go_ret
        refine ⟨?_, rfl⟩
        have hu := HU.out
        rw [List.take_of_length_le (by rw [HL.out]; omega)] at hu
        rw [HG.out, hu]; rfl

set_option maxHeartbeats 1000000 in
theorem digRead_any (s : ByteArray) (hs : s.size ≤ maxLen) (most : Nat) (hmost : most ≤ 18) (w : World) :
    Calls Tryz.prog 208 #[.string s, .int .i64 most] w fun e w' => e = .returned (lenRes (numOf s.data.toList most)) ∧ w' = w := by
  have HS : Hid (s.size ≤ maxLen) := hs
  have hs2 : (s.size : Int) ≤ 9223372036854775807 := by unfold maxLen at hs; omega
  clear hs
  by_cases hbad : most < s.size
  · rw [numOf_bad s most (.inr hbad)]
    have hb : (most : Int) < (s.size : Int) := by omega
    clear hbad
    go_enter Tryz.func208, Tryz.ntmps208
    go_wp2_with fail
    go_ret2
    exact ⟨rfl, rfl⟩
  have hb : ¬ (most : Int) < (s.size : Int) := by omega
  have hb' : decide ((most : Int) < (s.size : Int)) = false := by simpa using hb
  have h6 : s.size ≤ most := by omega
  clear hbad
  by_cases hare : areN s.data.toList = false
  · rw [areN_none hare]
    have HA : Hid (areN s.data.toList = false) := hare
    clear hare
    go_enter Tryz.func208, Tryz.ntmps208
    go_wp2_with fail
    refine (are_any s HS.out _).mono ?_
    rintro e w1 ⟨rfl, rfl⟩
    rw [HA.out]
    go_wp2_with fail
    go_ret2
    exact ⟨rfl, rfl⟩
  have hare : areN s.data.toList = true := by simpa using hare
  obtain ⟨n, hn, hno⟩ := areN_some hare
  have e := hno most (by rw [len_toList]; exact h6)
  rw [e]
  have HA : Hid (areN s.data.toList = true) := hare
  have HN : Hid (undec 0 s.data.toList = some n) := hn
  clear hare hn hno e
  go_enter Tryz.func208, Tryz.ntmps208
  go_wp2_with fail
  refine (are_any s HS.out _).mono ?_
  rintro e w1 ⟨rfl, rfl⟩
  rw [HA.out]
  go_wp2_with fail
  go_loop [6, 19] (fun q i => ∃ k m : Nat, k ≤ s.size ∧ i = .int .i64 k ∧ q = .int .i64 m ∧ undec 0 (s.data.toList.take k) = some m) (fun _ i => s.size - (intOf i).toNat)
  case atStart => exact ⟨0, 0, Nat.zero_le _, rfl, rfl, rfl⟩
  case round =>
    obtain ⟨k, m, hk, rfl, rfl, hu⟩ := hrel
    have HU : Hid (undec 0 (s.data.toList.take k) = some m) := hu
    clear hu
    by_cases hlt : k < s.size
    · have HT : Hid (s.data.toList.take (k + 1) = s.data.toList.take k ++ [s[k]]) := take_snoc s k hlt
      have hm : m < 100000000000000000 := undec_small17 s k m (by omega) HU.out
      have hd : ∃ d, undec1 s[k] = some d := by
        cases hd : undec1 s[k] with
        | none => have := undec_fail s k hlt hd; rw [HN.out] at this; cases this
        | some d => exact ⟨d, rfl⟩
      obtain ⟨hd1, hd2⟩ : (48 : Int) ≤ s[k].toNat ∧ (s[k].toNat : Int) ≤ 57 := by
        obtain ⟨d, hd⟩ := hd
        unfold undec1 at hd
        split at hd
        · omega
        · cases hd
      clear hd
      go_wp2_with fail
      go_round
      case rel => exact ⟨k + 1, 10 * m + (s[k].toNat - 48), by omega, by go_num, val_int (by omega), by rw [HT.out]; exact undec_snoc HU.out (undec1_yes (by omega) (by omega))⟩
      case measure => simp [intOf]; omega
    · go_wp2_with fail
      go_ret2
      refine ⟨?_, rfl⟩
      have hu := HU.out
      rw [List.take_of_length_le (by rw [len_toList]; omega), HN.out] at hu
      cases hu
      rfl

theorem digRead6 (s : ByteArray) (hs : s.size ≤ maxLen) (w : World) :
    Calls Tryz.prog 208 #[.string s, .int .i64 6] w fun e w' => e = .returned (lenRes (numOf s.data.toList 6)) ∧ w' = w := digRead_any s hs 6 (by decide) w
theorem digRead9 (s : ByteArray) (hs : s.size ≤ maxLen) (w : World) :
    Calls Tryz.prog 208 #[.string s, .int .i64 9] w fun e w' => e = .returned (lenRes (numOf s.data.toList 9)) ∧ w' = w := digRead_any s hs 9 (by decide) w

set_option maxHeartbeats 1000000 in
theorem numberOf_any (s : ByteArray) (hs : s.size ≤ maxLen) (most : Nat) (hmost : most ≤ 18) (w : World) :
    Calls Tryz.prog 164 #[.string s, .int .i64 most] w fun e w' => e = .returned (.int .i64 (numRes (numOf s.data.toList most))) ∧ w' = w := by
  unfold maxLen at hs
  by_cases hbad : s.size < 1 ∨ most < s.size
  · rw [numOf_bad s most hbad]
    rcases hbad with h | h
    · go_enter Tryz.func164, Tryz.ntmps164
      go_wp2
      all_goals (go_ret; exact ⟨rfl, rfl⟩)
    · go_enter Tryz.func164, Tryz.ntmps164
      go_wp2
      all_goals (go_ret; exact ⟨rfl, rfl⟩)
  have h1 : 1 ≤ s.size := by omega
  have h6 : s.size ≤ most := by omega
  clear hbad
  by_cases hz : ∃ h : 1 < s.size, s[0].toNat = 48
  · obtain ⟨h2, h0⟩ := hz
    rw [numOf_zero s most h2 h0]
    have h0' : ((s[0].toNat : Int) == 48) = true := by simp; omega
    clear h0
    go_enter Tryz.func164, Tryz.ntmps164
    go_wp2
    all_goals (go_ret; exact ⟨rfl, rfl⟩)
  have h3 : ∀ _ : 1 < s.size, s[0].toNat ≠ 48 := fun h e => hz ⟨h, e⟩
  clear hz
  have hg := numOf_good s most h1 h6 h3
  rw [hg]
  clear hg
  have hgo : (∃ _ : 1 < s.size, ((s[0].toNat : Int) == 48) = false) ∨ s.size ≤ 1 := by
    rcases Nat.lt_or_ge 1 s.size with h | h
    · exact Or.inl ⟨h, by have := h3 h; simp; omega⟩
    · exact Or.inr h
  clear h3
  have b1 : ¬ (s.size : Int) < 1 := by omega
  have b2 : ¬ (most : Int) < (s.size : Int) := by omega
  have b1' : decide ((s.size : Int) < 1) = false := by simpa using b1
  have b2' : decide ((most : Int) < (s.size : Int)) = false := by simpa using b2
  rcases hgo with ⟨h2, h0⟩ | h2
  all_goals
    go_enter Tryz.func164, Tryz.ntmps164
    go_wp2
    go_loop [5, 6] (fun q i => ∃ k m : Nat, k ≤ s.size ∧ i = .int .i64 k ∧ q = .int .i64 m ∧ undec 0 (s.data.toList.take k) = some m) (fun _ i => s.size - (intOf i).toNat)
    case atStart => exact ⟨0, 0, Nat.zero_le _, rfl, rfl, rfl⟩
    case round =>
      obtain ⟨k, m, hk, rfl, rfl, hu⟩ := hrel
      have HU : Hid (undec 0 (s.data.toList.take k) = some m) := hu
      clear hu
      by_cases hlt : k < s.size
      · have HT : Hid (s.data.toList.take (k + 1) = s.data.toList.take k ++ [s[k]]) := take_snoc s k hlt
        have hm : m < 100000000000000000 := undec_small17 s k m (by omega) HU.out
        go_wp2
        · go_ret
          exact ⟨by rw [undec_fail s k hlt (undec1_no (by omega))]; rfl, rfl⟩
        · go_round
          case rel => exact ⟨k + 1, 10 * m + (s[k].toNat - 48), by omega, by go_num, val_int (by omega), by rw [HT.out]; exact undec_snoc HU.out (undec1_yes (by omega) (by omega))⟩
          case measure => simp [intOf]; omega
        · go_ret
          exact ⟨by rw [undec_fail s k hlt (undec1_no (by omega))]; rfl, rfl⟩
      · go_wp2
        go_ret
        refine ⟨?_, rfl⟩
        have hu := HU.out
        rw [List.take_of_length_le (by rw [len_toList]; omega)] at hu
        rw [hu]; rfl
end Go.Proofs.YtjdobbjdlighpabGreatDoor
namespace Go.Proofs.YtjdobbjdlighpabGreatDoor
open Go.RowKit

def readRes (v : Value) : Option (Nat × Nat) → Value
  | some x => .tuple #[idV x.1 x.2, .nilIface]
  | none => .tuple #[idV 0 0, v]
theorem readRes_none (v : Value) : readRes v none = .tuple #[idV 0 0, v] := rfl
theorem idRead_short (s : ByteArray) (h : s.size ≤ 8) : idRead s.data.toList = none := by
  unfold idRead
  rw [if_pos (Or.inl (by rw [len_toList]; exact h))]
theorem idRead_dash (s : ByteArray) (h : 8 < s.size) (h8 : s[8].toNat ≠ 45) : idRead s.data.toList = none := by
  unfold idRead
  rw [if_pos (Or.inr ?_)]
  rw [List.getElem?_eq_getElem (by rw [len_toList]; exact h)]
  intro e
  have e2 : s[8] = 45 := Option.some.inj e
  rw [e2] at h8
  exact h8 rfl
theorem idRead_parts (s : ByteArray) (h : 8 < s.size) (h8 : s[8].toNat = 45) :
    idRead s.data.toList = (match unhex 0 (s.extract 0 8).data.toList, numOf (s.extract 9 s.size).data.toList 6 with | some n, some l => some (n, l) | _, _ => none) := by
  unfold idRead
  rw [if_neg, Lib.extract_data, Lib.extract_data]
  · have h9 : (s.data.toList.drop 9).take (s.size - 9) = s.data.toList.drop 9 := List.take_of_length_le (by rw [List.length_drop, len_toList]; exact Nat.le_refl _)
    rw [h9, List.drop_zero, Nat.sub_zero]
    cases unhex 0 (List.take 8 s.data.toList) <;> cases numOf (List.drop 9 s.data.toList) 6 <;> rfl
  · rintro (e | e)
    · rw [len_toList] at e; omega
    · apply e
      rw [List.getElem?_eq_getElem (by rw [len_toList]; exact h)]
      have : s.data.toList[8]'(by rw [len_toList]; exact h) = s[8] := rfl
      rw [this, UInt8.toNat_inj.1 (h8.trans (by decide : (45 : Nat) = (45 : UInt8).toNat))]

theorem errText_cell {v : Value} {w : World} (hv : w.cell? ⟨4, 0, none⟩ = some v) : ∀ o, (w.alloc o).cell? ⟨4, 0, none⟩ = some v := fun o => by
  have hlt : 4 < w.heap.size := by
    rcases Nat.lt_or_ge 4 w.heap.size with h' | h'
    · exact h'
    · simp [World.cell?, Array.getElem?_eq_none h'] at hv
  rw [World.cell?_alloc_lt _ _ ⟨4, 0, none⟩ hlt]; exact hv

set_option maxHeartbeats 2000000 in
theorem read_any (s : ByteArray) (hs : s.size ≤ maxLen) (v : Value) (w : World) (hv : w.cell? ⟨4, 0, none⟩ = some v) :
    Calls Tryz.prog 258 #[.string s] w fun e w' => e = .returned (readRes v (idRead s.data.toList)) ∧ Below w.heap.size w w' := by
  unfold maxLen at hs
  have hv' := errText_cell hv
  by_cases h : s.size ≤ 8
  · rw [idRead_short s h, readRes_none]
    have h' : (s.size : Int) ≤ 8 := by omega
    go_enter Tryz.func258, Tryz.ntmps258
    go_wp2
    go_region
    all_goals go_wp2
    all_goals exact bodyPost_ret (v := .tuple #[idV 0 0, v]) (by simp [results, Tryz.results258, go_sem]) rfl ⟨rfl, ((Below.refl _ _).alloc (Nat.le_refl _) _).drew⟩
  have h9 : 8 < s.size := by omega
  have h9' : ¬ (s.size : Int) ≤ 8 := by omega
  by_cases h8 : s[8].toNat = 45
  · rw [idRead_parts s h9 h8]
    have hd : ((s[8].toNat : Int) != 45) = false := by simp; omega
    have hx8 : (s.extract 0 8).size = 8 := by simp [ByteArray.size_extract]; omega
    have HX9 : Hid ((s.extract 9 s.size).size ≤ maxLen) := by show _ ≤ _; unfold maxLen; simp [ByteArray.size_extract]; omega
    clear h8
    clear h
    generalize hun : unhex 0 (s.extract 0 8).data.toList = oh
    generalize hnu : numOf (s.extract 9 s.size).data.toList 6 = ol
    have HUN : Hid (unhex8 (s.extract 0 8).data.toList = oh) := by show _ = _; rw [unhex8_of _ hx8]; exact hun
    have HNU : Hid (numOf (s.extract 9 s.size).data.toList 6 = ol) := hnu
    clear hun hnu hx8
    cases oh with
    | none =>
      show Calls _ _ _ _ fun e w' => e = .returned (.tuple #[idV 0 0, v]) ∧ _
      go_enter Tryz.func258, Tryz.ntmps258
      go_wp2_with fail
      refine (readHex_any (s.extract 0 8) _).mono ?_
      rintro e w1 ⟨rfl, rfl⟩
      rw [HUN.out]
      unfold hexRes
      go_wp2_with fail
      refine (digRead6 (s.extract 9 s.size) HX9.out _).mono ?_
      rintro e w1 ⟨rfl, rfl⟩
      rw [HNU.out]
      cases ol with
      | none =>
        unfold lenRes
        go_wp2_with fail
        go_region
        all_goals go_wp2
        all_goals exact bodyPost_ret (v := .tuple #[idV 0 0, v]) (by simp [results, Tryz.results258, go_sem]) rfl ⟨rfl, ((Below.refl _ _).alloc (Nat.le_refl _) _).drew⟩
      | some l =>
        unfold lenRes
        go_wp2_with fail
        go_region
        all_goals go_wp2
        all_goals exact bodyPost_ret (v := .tuple #[idV 0 0, v]) (by simp [results, Tryz.results258, go_sem]) rfl ⟨rfl, ((Below.refl _ _).alloc (Nat.le_refl _) _).drew⟩
    | some n =>
      cases ol with
      | none =>
        show Calls _ _ _ _ fun e w' => e = .returned (.tuple #[idV 0 0, v]) ∧ _
        go_enter Tryz.func258, Tryz.ntmps258
        go_wp2_with fail
        refine (readHex_any (s.extract 0 8) _).mono ?_
        rintro e w1 ⟨rfl, rfl⟩
        rw [HUN.out]
        unfold hexRes
        go_wp2_with fail
        refine (digRead6 (s.extract 9 s.size) HX9.out _).mono ?_
        rintro e w1 ⟨rfl, rfl⟩
        rw [HNU.out]
        unfold lenRes
        go_wp2_with fail
        go_region
        all_goals go_wp2
        all_goals exact bodyPost_ret (v := .tuple #[idV 0 0, v]) (by simp [results, Tryz.results258, go_sem]) rfl ⟨rfl, ((Below.refl _ _).alloc (Nat.le_refl _) _).drew⟩
      | some l =>
        show Calls _ _ _ _ fun e w' => e = .returned (.tuple #[idV n l, .nilIface]) ∧ _
        go_enter Tryz.func258, Tryz.ntmps258
        go_wp2_with fail
        refine (readHex_any (s.extract 0 8) _).mono ?_
        rintro e w1 ⟨rfl, rfl⟩
        rw [HUN.out]
        unfold hexRes
        go_wp2_with fail
        refine (digRead6 (s.extract 9 s.size) HX9.out _).mono ?_
        rintro e w1 ⟨rfl, rfl⟩
        rw [HNU.out]
        unfold lenRes
        go_wp2_with fail
        exact bodyPost_ret (v := .tuple #[idV n l, .nilIface]) (by simp [results, Tryz.results258, go_sem]) rfl ⟨rfl, (Below.refl _ _).alloc (Nat.le_refl _) _⟩
  · rw [idRead_dash s h9 h8, readRes_none]
    have hd : ((s[8].toNat : Int) != 45) = true := by simp; omega
    clear h8 h
    go_enter Tryz.func258, Tryz.ntmps258
    go_wp2
    go_region
    all_goals go_wp2
    all_goals exact bodyPost_ret (v := .tuple #[idV 0 0, v]) (by simp [results, Tryz.results258, go_sem]) rfl ⟨rfl, ((Below.refl _ _).alloc (Nat.le_refl _) _).drew⟩
end Go.Proofs.YtjdobbjdlighpabGreatDoor
namespace Go.Proofs.YtjdobbjdlighpabGreatDoor
open Go.RowKit

theorem str_size (L : List UInt8) : (⟨L.toArray⟩ : ByteArray).size = L.length := by simp [ByteArray.size]
theorem str_list (L : List UInt8) : (⟨L.toArray⟩ : ByteArray).data.toList = L := by simp
def refRead (t : List UInt8) : Option (Nat × Nat) :=
  match cutBy 45 t with
  | [p, q] => if p.length = 8 then (match unhex 0 p, numOf q 6 with | some n, some l => some (n, l) | _, _ => none) else none
  | _ => none
theorem undec_no45 (q : List UInt8) : ∀ (n v : Nat), undec n q = some v → (45 : UInt8) ∉ q := by
  induction q with
  | nil => intro n v _; simp
  | cons c q ih =>
    intro n v h hm
    simp only [undec] at h
    rcases List.mem_cons.1 hm with e | e
    · subst e
      have : undec1 45 = none := by decide
      rw [this] at h
      cases h
    · cases hd : undec1 c with
      | none => rw [hd] at h; cases h
      | some d => rw [hd] at h; exact ih _ _ h e
theorem unhex_no45 (q : List UInt8) : ∀ (n v : Nat), unhex n q = some v → (45 : UInt8) ∉ q := by
  induction q with
  | nil => intro n v _; simp
  | cons c q ih =>
    intro n v h hm
    simp only [unhex] at h
    rcases List.mem_cons.1 hm with e | e
    · subst e
      have : unhex1 45 = none := by decide
      rw [this] at h
      cases h
    · cases hd : unhex1 c with
      | none => rw [hd] at h; cases h
      | some d => rw [hd] at h; exact ih _ _ h e
theorem numOf_no45 (q : List UInt8) (k v : Nat) (h : numOf q k = some v) : (45 : UInt8) ∉ q := by
  unfold numOf at h
  split at h
  · cases h
  · exact undec_no45 q 0 v h
theorem first_of (c : UInt8) (t : List UInt8) (h : c ∈ t) : ∃ a b, t = a ++ c :: b ∧ c ∉ a := by
  induction t with
  | nil => simp at h
  | cons x t ih =>
    by_cases hx : c = x
    · subst hx
      exact ⟨[], t, rfl, by simp⟩
    · rcases List.mem_cons.1 h with e | e
      · exact absurd e hx
      · obtain ⟨a, b, rfl, ha⟩ := ih e
        exact ⟨x :: a, b, rfl, by simp [hx, ha]⟩
theorem cutBy_pos (c : UInt8) (t : List UInt8) : 1 ≤ (cutBy c t).length := by
  cases t with
  | nil => simp [cutBy]
  | cons x t =>
    rw [cutBy]
    split
    · simp
    · split <;> simp
/- Where a text has no such byte it is one piece; where it has one, its pieces are those of what is ahead and behind. -/
theorem cutBy_two (t p q : List UInt8) (h : cutBy 45 t = [p, q]) : t = p ++ 45 :: q := by
  by_cases hm : (45 : UInt8) ∈ t
  · obtain ⟨a, b, rfl, ha⟩ := first_of (45 : UInt8) t hm
    rw [cutBy_split _ _ _ ha] at h
    simp only [List.cons.injEq] at h
    obtain ⟨rfl, h2⟩ := h
    by_cases hb : (45 : UInt8) ∈ b
    · obtain ⟨c, d, rfl, hc⟩ := first_of (45 : UInt8) b hb
      rw [cutBy_split _ _ _ hc] at h2
      have := congrArg List.length h2
      have h3 := cutBy_pos 45 d
      simp only [List.length_cons, List.length_nil] at this
      omega
    · rw [cutBy_noc _ _ hb] at h2
      simp at h2
      rw [h2]
  · rw [cutBy_noc _ _ hm] at h
    simp at h
theorem own_cell {w : World} {base : Nat} {e : TypeId} {v : Value} {n : Nat} {xs : List Value} (h : w.ownsRow base e 1 v n xs) (hn : 1 ≤ n) :
    ∃ g cap, v = .slice (some ⟨g, 0, none⟩) n cap ∧ base ≤ g ∧ g < w.heap.size ∧ ∀ j (hj : j < xs.length), w.cell? ⟨g, j, none⟩ = some xs[j] := by
  obtain ⟨hl, h⟩ := h
  rcases h with ⟨_, h0⟩ | ⟨g, cap, cur, rfl, hg, hb, h1, h2, h3, h4⟩
  · omega
  refine ⟨g, cap, rfl, hg, ?_, fun j hj => ?_⟩
  · rcases Nat.lt_or_ge g w.heap.size with h' | h'
    · exact h'
    · simp [Array.getElem?_eq_none h'] at hb
  · have e1 : cur.toList[j]? = xs[j]? := by
      rw [← h4, List.getElem?_take, if_pos (by omega)]
    simp only [World.cell?, hb]
    rw [← Array.getElem?_toList, e1, List.getElem?_eq_getElem hj]
    simp
theorem refRead_eq (t : List UInt8) : refRead t = idRead t := by
  by_cases hok : 8 < t.length ∧ t[8]? = some 45
  · obtain ⟨h1, h2⟩ := hok
    have hsp : t = t.take 8 ++ 45 :: t.drop 9 := by
      have h3 := List.take_append_drop 8 t
      rw [List.drop_eq_getElem_cons h1] at h3
      rw [List.getElem?_eq_getElem h1] at h2
      rw [Option.some.inj h2] at h3
      exact h3.symm
    have hl8 : (t.take 8).length = 8 := by rw [List.length_take]; omega
    have hid : idRead t = (match unhex 0 (t.take 8), numOf (t.drop 9) 6 with | some n, some l => some (n, l) | _, _ => none) := by
      have hneg : ¬ (t.length ≤ 8 ∨ t[8]? ≠ some 45) := by
        rintro (h | h)
        · omega
        · exact h h2
      unfold idRead
      rw [if_neg hneg]
      cases unhex 0 (t.take 8) <;> cases numOf (t.drop 9) 6 <;> rfl
    rw [hid]
    by_cases hA : (45 : UInt8) ∈ t.take 8
    · have hu : unhex 0 (t.take 8) = none := by
        cases hh : unhex 0 (t.take 8) with
        | none => rfl
        | some v => exact absurd hA (unhex_no45 _ _ _ hh)
      rw [hu]
      unfold refRead
      split
      · rename_i p q hpq
        have e := cutBy_two t p q hpq
        split
        · rename_i hp
          have : t.take 8 = p := by rw [e, List.take_append_of_le_length (by omega), List.take_of_length_le (by omega)]
          rw [← this, hu]
        · rfl
      · rfl
    · by_cases hB : (45 : UInt8) ∈ t.drop 9
      · have hu : numOf (t.drop 9) 6 = none := by
          cases hh : numOf (t.drop 9) 6 with
          | none => rfl
          | some v => exact absurd hB (numOf_no45 _ _ _ hh)
        rw [hu]
        have hc : cutBy 45 t = t.take 8 :: cutBy 45 (t.drop 9) := by
          conv => lhs; rw [hsp]
          exact cutBy_split _ _ _ hA
        unfold refRead
        rw [hc]
        obtain ⟨a, b, e, ha⟩ := first_of (45 : UInt8) _ hB
        rw [e, cutBy_split _ _ _ ha]
        have hp := cutBy_pos 45 b
        cases hcb : cutBy 45 b with
        | nil => rw [hcb] at hp; simp at hp
        | cons x r => cases unhex 0 (t.take 8) <;> rfl
      · have hc : cutBy 45 t = [t.take 8, t.drop 9] := by
          conv => lhs; rw [hsp]
          rw [cutBy_split _ _ _ hA, cutBy_noc _ _ hB]
        unfold refRead
        rw [hc]
        simp only [hl8, if_true]
  · have hid : idRead t = none := by
      unfold idRead
      rw [if_pos]
      by_cases h1 : t.length ≤ 8
      · exact Or.inl h1
      · exact Or.inr (fun h2 => hok ⟨by omega, h2⟩)
    rw [hid]
    unfold refRead
    split
    · rename_i p q hpq
      have e := cutBy_two t p q hpq
      split
      · rename_i hp
        exfalso
        apply hok
        rw [e]
        refine ⟨by simp; omega, ?_⟩
        rw [List.getElem?_append_right (by omega), hp]
        rfl
      · rfl
    · rfl

/- A result's block of two cells, behind a call that leaves it. -/
theorem res_keep {w w1 : World} {c0 c1 : Value} {t : TypeId} (hb : Below (w.alloc (.cells #[c0, c1] t)).heap.size (w.alloc (.cells #[c0, c1] t)) w1) :
    Below w.heap.size w w1 ∧ w.heap.size < w1.heap.size ∧ w1.cell? ⟨w.heap.size, 0, none⟩ = some c0 ∧ w1.cell? ⟨w.heap.size, 1, none⟩ = some c1 ∧ w1.frozen? ⟨w.heap.size, 0, none⟩ = false ∧ w1.frozen? ⟨w.heap.size, 1, none⟩ = false := by
  have hs := hb.size
  refine ⟨((Below.refl _ _).alloc (Nat.le_refl _) _).trans (hb.mono (by simp)), by simp at hs; omega, ?_, ?_, ?_, ?_⟩
  · rw [hb.cell (p := ⟨w.heap.size, 0, none⟩) (by simp)]; simp
  · rw [hb.cell (p := ⟨w.heap.size, 1, none⟩) (by simp)]; simp
  · rw [hb.frozen (p := ⟨w.heap.size, 0, none⟩) (by simp)]; simp
  · rw [hb.frozen (p := ⟨w.heap.size, 1, none⟩) (by simp)]; simp
def refRes : Option (Nat × Nat) → Value
  | some x => .tuple #[idV x.1 x.2, .int .i64 0]
  | none => .tuple #[idV 0 0, .int .i64 1]
theorem refRes_none : refRes none = .tuple #[idV 0 0, .int .i64 1] := rfl
theorem refRead_long (t : List UInt8) (h : (cutBy 45 t).length ≠ 2) : refRead t = none := by
  unfold refRead
  split
  · rename_i p q e; rw [e] at h; exact absurd rfl h
  · rfl

set_option maxHeartbeats 2000000 in
theorem readID_any (s : ByteArray) (hs : s.size ≤ 50000) (w : World) :
    Calls Tryz.prog 217 #[.string s] w fun e w' => e = .returned (refRes (refRead s.data.toList)) ∧ Below w.heap.size w w' := by
  have hpos := cutBy_pos 45 s.data.toList
  by_cases h2 : (cutBy 45 s.data.toList).length = 2
  · match hcs : cutBy 45 s.data.toList, h2 with
    | [p, q], _ =>
      have hcut := cut_any s 45
      have hrr : refRead s.data.toList = if p.length = 8 then (match unhex 0 p, numOf q 6 with | some n, some l => some (n, l) | _, _ => none) else none := by
        unfold refRead; rw [hcs]
      have hql : q.length ≤ 50000 := by
        have e := congrArg List.length (cutBy_two _ _ _ hcs)
        rw [len_toList, List.length_append, List.length_cons] at e
        omega
      rw [hrr]
      rw [hcs] at hcut
      clear hrr hcs h2 hpos
      have HC : Hid _ := hcut
      clear hcut
      have HS : Hid (s.size ≤ 50000) := hs
      clear hs
      have hun : ∀ W, Calls Tryz.prog 162 #[strV p] W fun e w' => e = .returned (hexRes (if p.length = 8 then unhex 0 p else none)) ∧ w' = W := by
        intro W
        by_cases h8 : p.length = 8
        · rw [if_pos h8]
          have := refUnhex_any ⟨p.toArray⟩ (by rw [str_size]; exact h8) W
          rw [str_list] at this
          exact this
        · rw [if_neg h8]
          exact refUnhex_no ⟨p.toArray⟩ (by rw [str_size]; exact h8) W
      have hnu : ∀ W, Calls Tryz.prog 164 #[strV q, .int .i64 6] W fun e w' => e = .returned (.int .i64 (numRes (numOf q 6))) ∧ w' = W := by
        intro W
        have := numberOf_any ⟨q.toArray⟩ (by rw [str_size]; unfold maxLen; omega) 6 (by decide) W
        rw [str_list] at this
        exact this
      have hgoal : (if p.length = 8 then (match unhex 0 p, numOf q 6 with | some n, some l => some (n, l) | _, _ => none) else none) = (match (if p.length = 8 then unhex 0 p else none), numOf q 6 with | some n, some l => some (n, l) | _, _ => none) := by
        by_cases h8 : p.length = 8
        · rw [if_pos h8, if_pos h8]
        · rw [if_neg h8, if_neg h8]
      rw [hgoal]
      clear hgoal hql
      generalize (if p.length = 8 then unhex 0 p else none) = oh at *
      generalize numOf q 6 = ol at *
      have HU : Hid _ := hun
      have HN : Hid _ := hnu
      clear hun hnu
      go_enter Tryz.func217, Tryz.ntmps217
      go_wp2_with fail
      refine (HC.out _ HS.out).mono ?_
      rintro e w1 ⟨v, rfl, hown, hb⟩
      obtain ⟨g, cap, rfl, hg, hgl, hcell⟩ := own_cell hown (by simp)
      obtain ⟨hbw, hsz, k0, k1, f0, f1⟩ := res_keep hb
      have hp := hcell 0 (by simp)
      have hq := hcell 1 (by simp)
      simp only [List.map_cons, List.getElem_cons_zero, List.getElem_cons_succ] at hp hq
      clear hcell hown hb HC HS
      go_wp2_with fail
      refine (HU.out _).mono ?_
      rintro e w2 ⟨rfl, hw2⟩
      subst hw2
      cases oh with
      | none =>
        unfold hexRes
        go_wp2_with fail
        refine (HN.out _).mono ?_
        rintro e w2 ⟨rfl, hw2⟩
        subst hw2
        go_wp2_with fail
        exact bodyPost_ret (v := .tuple #[idV 0 0, .int .i64 1]) (by simp [results, Tryz.results217, go_sem, k0, k1]) rfl ⟨rfl, (hbw.setCell (Nat.le_refl _) _).setCell (Nat.le_refl _) _⟩
      | some n =>
        unfold hexRes
        go_wp2_with fail
        refine (HN.out _).mono ?_
        rintro e w2 ⟨rfl, hw2⟩
        subst hw2
        cases ol with
        | none =>
          unfold numRes
          go_wp2_with fail
          exact bodyPost_ret (v := .tuple #[idV 0 0, .int .i64 1]) (by simp [results, Tryz.results217, go_sem, k0, k1]) rfl ⟨rfl, (hbw.setCell (Nat.le_refl _) _).setCell (Nat.le_refl _) _⟩
        | some l =>
          unfold numRes
          have hl0 : ¬ (l : Int) < 0 := by omega
          go_wp2_with fail
          exact bodyPost_ret (v := .tuple #[idV n l, .int .i64 0]) (by simp [results, Tryz.results217, go_sem, k0, k1]) rfl ⟨rfl, (hbw.setCell (Nat.le_refl _) _).setCell (Nat.le_refl _) _⟩
  · rw [refRead_long _ h2, refRes_none]
    have hcut := cut_any s 45
    generalize cutBy 45 s.data.toList = cs at *
    have hne : ((cs.length : Int) != 2) = true := by simp; omega
    have HC : Hid _ := hcut
    clear hcut
    go_enter Tryz.func217, Tryz.ntmps217
    go_wp2_with fail
    refine (HC.out _ hs).mono ?_
    rintro e w1 ⟨v, rfl, hown, hb⟩
    obtain ⟨g, cap, rfl, hg, hgl, hcell⟩ := own_cell hown (by omega)
    obtain ⟨hbw, hsz, k0, k1, f0, f1⟩ := res_keep hb
    clear hcell hown hb
    go_wp2_with fail
    exact bodyPost_ret (v := .tuple #[idV 0 0, .int .i64 1]) (by simp [results, Tryz.results217, go_sem, k0, k1]) rfl ⟨rfl, (hbw.setCell (Nat.le_refl _) _).setCell (Nat.le_refl _) _⟩
end Go.Proofs.YtjdobbjdlighpabGreatDoor
