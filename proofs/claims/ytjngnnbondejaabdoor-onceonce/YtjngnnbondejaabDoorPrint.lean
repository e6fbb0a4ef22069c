/-
  Own text. Sums and IDs by contracts: print.More, Of, ID, Less and the document's PrintFrom, PrintOf, IDOf, IsLess.
-/
import Derived.Test.YtjngnnbondejaabDoorChecked
import Derived.Test.YtjngnnbondejaabDoorPure
import Derived.WalkKit
import Derived.WalkSpells
import Derived.WalkLawsBesides
import Derived.Outline
import Derived.Laws.BitsAllLaws
import Derived.Deep.QuietTactic
import Derived.BigQuiet
namespace Go.Proofs.YtjngnnbondejaabDoor
open Go.RowKit

theorem take_snoc (s : ByteArray) (k : Nat) (h : k < s.size) : s.data.toList.take (k + 1) = s.data.toList.take k ++ [s[k]] := by
  rw [List.take_succ_eq_append_getElem (by simpa using h)]; rfl
theorem ret_int {k : IntKind} {a b : Int} (h : a = b) : Ending.returned (.int k a) = .returned (.int k b) := by rw [h]
theorem val_int {k : IntKind} {a b : Int} (h : a = b) : Value.int k a = .int k b := by rw [h]

/- One step as the walk writes it. -/
theorem step_walk (n : Nat) (c : UInt8) (hn : n < 4294967296) : bits .xor .u32 (n : Int) ((c.toNat : Int) % 4294967296) * 16777619 % 4294967296 = ((pstep n c : Nat) : Int) := by
  have hc := byte_lt32 c
  rw [show ((c.toNat : Int) % 4294967296) = ((c.toNat : Nat) : Int) by omega, u32_xor_nat n c.toNat hn hc]
  unfold pstep
  rw [Int.natCast_emod, Int.natCast_mul]
  rfl

theorem i64_xor_nat (a b : Nat) (ha : a < 4294967296) (hb : b < 4294967296) : bits .xor .i64 (a : Int) (b : Int) = ((a ^^^ b : Nat) : Int) := by
  have hx := xor_lt32 ha hb
  have e64 : IntKind.i64.bits = 64 := rfl
  have p64 : (2 : Nat) ^ 64 = 18446744073709551616 := by decide
  have ha' : a % 2 ^ IntKind.i64.bits = a := Nat.mod_eq_of_lt (by rw [e64, p64]; omega)
  have hb' : b % 2 ^ IntKind.i64.bits = b := Nat.mod_eq_of_lt (by rw [e64, p64]; omega)
  simp only [bits, BitVec.ofInt_natCast, BitVec.toNat_xor, BitVec.toNat_ofNat, ha', hb']
  rw [IntKind.wrap_i64]
  omega
theorem step_walk64 (n : Nat) (c : UInt8) (hn : n < 4294967296) : (wrap64 (bits .xor .i64 (n : Int) (wrap64 (c.toNat : Int)) * 16777619)).tmod 4294967296 = ((pstep n c : Nat) : Int) := by
  have hc := byte_lt32 c
  have hx := xor_lt32 hn hc
  rw [IntWalk.wrap64_in (c.toNat : Int) (by omega), i64_xor_nat n c.toNat hn hc, IntWalk.wrap64_in _ (by omega)]
  unfold pstep
  rw [Int.tmod_eq_emod_of_nonneg (by omega), Int.natCast_emod, Int.natCast_mul]
  rfl

theorem more_any (n : Nat) (hn : n < 4294967296) (s : ByteArray) (w : World) (hs : s.size ≤ maxLen) :
    Calls Tryd.prog 64 #[.int .u32 n, .string s] w fun e w' => e = .returned (.int .u32 (pmore n s.data.toList : Nat)) ∧ w' = w := by
  unfold maxLen at hs
  go_enter Tryd.func64, Tryd.ntmps64
  go_wp2
  go_loop [0, 8] (fun q i => ∃ k : Nat, k ≤ s.size ∧ i = .int .i64 k ∧ q = .int .u32 (pmore n (s.data.toList.take k) : Nat)) (fun _ i => s.size - (intOf i).toNat)
  case atStart => exact ⟨0, Nat.zero_le _, rfl, by simp [pmore_nil]⟩
  case round =>
    obtain ⟨k, hk, rfl, rfl⟩ := hrel
    by_cases hlt : k < s.size
    · have hst := step_walk (pmore n (s.data.toList.take k)) s[k] (pmore_lt n hn _)
      rw [← pmore_snoc, ← take_snoc s k hlt] at hst
      have HS := hst
      clear hst
      generalize pmore n (s.data.toList.take k) = m at *
      have HS' : Hid (bits .xor .u32 (m : Int) ((s[k].toNat : Int) % 4294967296) * 16777619 % 4294967296 = ((pmore n (s.data.toList.take (k + 1)) : Nat) : Int)) := HS
      clear HS
      go_wp2
      go_round
      case rel => exact ⟨k + 1, by omega, by go_num, by rw [HS'.out]⟩
      case measure => simp [intOf]; omega
    · go_wp2
      go_ret
      exact ⟨ret_int (by rw [List.take_of_length_le (by simp; omega)]), rfl⟩
theorem of_any (s : ByteArray) (w : World) (hs : s.size ≤ maxLen) :
    Calls Tryd.prog 45 #[.string s] w fun e w' => e = .returned (.int .u32 (pmore 2166136261 s.data.toList : Nat)) ∧ w' = w := by
  go_enter Tryd.func45, Tryd.ntmps45
  go_wp2_with fail
  refine (more_any 2166136261 (by decide) s _ hs).mono ?_
  rintro e w' ⟨rfl, rfl⟩
  go_wp2_with fail
  go_ret
  exact ⟨rfl, rfl⟩

/- An ID as a value. -/
abbrev idV (n l : Int) : Value := .agg #[.int .u32 n, .int .i64 l]

theorem printFrom_any (n : Nat) (hn : n < 4294967296) (s : ByteArray) (w : World) (hs : s.size ≤ maxLen) :
    Calls Tryd.prog 67 #[.int .u32 n, .string s] w fun e w' => e = .returned (.int .u32 (pmore n s.data.toList : Nat)) ∧ w' = w := by
  unfold maxLen at hs
  go_enter Tryd.func67, Tryd.ntmps67
  go_wp2
  go_loop [5, 6] (fun q i => ∃ k : Nat, k ≤ s.size ∧ i = .int .i64 k ∧ q = .int .i64 (pmore n (s.data.toList.take k) : Nat)) (fun _ i => s.size - (intOf i).toNat)
  case atStart => exact ⟨0, Nat.zero_le _, rfl, by simp [pmore_nil]⟩
  case round =>
    obtain ⟨k, hk, rfl, rfl⟩ := hrel
    have hml := pmore_lt n hn (s.data.toList.take k)
    by_cases hlt : k < s.size
    · have hst := step_walk64 (pmore n (s.data.toList.take k)) s[k] hml
      rw [← pmore_snoc, ← take_snoc s k hlt] at hst
      generalize pmore n (s.data.toList.take k) = m at *
      have HS : Hid ((wrap64 (bits .xor .i64 (m : Int) (wrap64 (s[k].toNat : Int)) * 16777619)).tmod 4294967296 = ((pmore n (s.data.toList.take (k + 1)) : Nat) : Int)) := hst
      clear hst
      go_wp2
      go_round
      case rel => exact ⟨k + 1, by omega, by go_num, by rw [HS.out]⟩
      case measure => simp [intOf]; omega
    · go_wp2
      go_ret
      exact ⟨ret_int (by rw [List.take_of_length_le (by simp; omega)]), rfl⟩
theorem printOf_any (s : ByteArray) (w : World) (hs : s.size ≤ maxLen) :
    Calls Tryd.prog 48 #[.string s] w fun e w' => e = .returned (.int .u32 (pmore 2166136261 s.data.toList : Nat)) ∧ w' = w := by
  go_enter Tryd.func48, Tryd.ntmps48
  go_wp2_with fail
  refine (printFrom_any 2166136261 (by decide) s _ hs).mono ?_
  rintro e w' ⟨rfl, rfl⟩
  go_wp2_with fail
  go_ret
  exact ⟨rfl, rfl⟩
theorem idOf_any (s : ByteArray) (w : World) (hs : s.size ≤ maxLen) :
    Calls Tryd.prog 33 #[.string s] w fun e w' => e = .returned (idV (pmore 2166136261 s.data.toList : Nat) s.size) ∧ Below w.heap.size w w' := by
  have hs' := hs
  unfold maxLen at hs'
  go_enter Tryd.func33, Tryd.ntmps33
  go_wp2_with fail
  refine (printOf_any s _ hs).mono ?_
  rintro e w' ⟨rfl, rfl⟩
  go_wp2_with fail
  exact bodyPost_ret (v := idV (pmore 2166136261 s.data.toList : Nat) s.size) (by simp [results, Tryd.results33, go_sem]) rfl ⟨rfl, (Below.refl _ _).alloc (Nat.le_refl _) _⟩
end Go.Proofs.YtjngnnbondejaabDoor
