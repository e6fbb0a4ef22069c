/-
  Own text. Hex digits written: digits.Hex and the document's HexOf by contracts.
  Own text. Decimal digits written: the document's Byte, below, Decimal by contracts.
  Own text. Hex digits read: digits.ReadHex and the document's Unhex by contracts.
  Own text. Decimal digits read: digits.Are, digits.Read and the document's NumberOf by contracts.
-/
import Derived.Test.YteefjbdejcpepaaDoorPrint
import Derived.Laws.BytesArg
import Derived.Lib.SlBytesConst
import Derived.Laws.IdiomStrings
namespace Go.Proofs.YteefjbdejcpepaaDoor
open Go.RowKit

/- Byte j of eight behind k rounds. -/
def hexAt (z : Nat) (n k j : Nat) : Nat := if 8 ≤ j + k then (hexDig (n / 16 ^ (7 - j) % 16)).toNat else z
theorem hexLast_get (n k j : Nat) (h : j < k) : (hexLast n k)[j]? = some (hexDig (n / 16 ^ (k - 1 - j) % 16)) := by
  induction k generalizing n with
  | zero => omega
  | succ k ih =>
    rw [hexLast]
    by_cases hj : j = k
    · subst hj
      rw [List.getElem?_append_right (by rw [hexLast_length]; omega), hexLast_length]
      simp
    · rw [List.getElem?_append_left (by rw [hexLast_length]; omega), ih _ (by omega), Nat.div_div_eq_div_mul, ← Nat.pow_succ', show (k - 1 - j).succ = k + 1 - 1 - j by omega]
theorem hexs_get : ∀ d : Fin 16, ((#[48, 49, 50, 51, 52, 53, 54, 55, 56, 57, 97, 98, 99, 100, 101, 102] : Array UInt8)[d.val]'d.isLt).toNat = (hexDig d.val).toNat := by decide
theorem hexs_at (d : Nat) (h : d < 16) (hq : d < (⟨#[48, 49, 50, 51, 52, 53, 54, 55, 56, 57, 97, 98, 99, 100, 101, 102]⟩ : ByteArray).size) : ((⟨#[48, 49, 50, 51, 52, 53, 54, 55, 56, 57, 97, 98, 99, 100, 101, 102]⟩ : ByteArray)[d]'hq).toNat = (hexDig d).toNat := hexs_get ⟨d, h⟩
structure HexW (z : Nat) (w : World) (B n k : Nat) (wr : World) : Prop where
  below : Below w.heap.size w wr
  size : B < wr.heap.size
  cell : ∀ j, j < 8 → wr.cell? ⟨B, j, none⟩ = some (.int .u8 (hexAt z n k j : Nat))
  free : ∀ j, j < 8 → wr.frozen? ⟨B, j, none⟩ = false

theorem HexW.next {z : Nat} {w : World} {B n k : Nat} {wr : World} (h : HexW z w B n k wr) (hB : w.heap.size ≤ B) (hk : k < 8) {o : Nat} (ho : o = 7 - k) {d : Nat} (hd : d = (hexDig (n / 16 ^ k % 16)).toNat) :
    HexW z w B n (k + 1) (wr.setCell ⟨B, o, none⟩ (.int .u8 (d : Int))) where
  below := h.below.setCell hB _
  size := by simpa [World.setCell] using h.size
  cell j hj := by
    subst ho hd
    by_cases hjk : j = 7 - k
    · subst hjk
      rw [World.cell?_setCell_same _ _ _ (h.cell _ hj)]
      unfold hexAt
      rw [if_pos (by omega), show 7 - (7 - k) = k by omega]
    · rw [World.cell?_setCell_other _ _ _ _ (fun e => hjk (by injection e; omega)), h.cell j hj]
      unfold hexAt
      by_cases h8 : 8 ≤ j + k
      · rw [if_pos h8, if_pos (by omega)]
      · rw [if_neg h8, if_neg (by omega)]
  free j hj := by
    rw [World.frozen?_setCell]
    exact h.free j hj
theorem HexW.string {z : Nat} {w : World} {B n : Nat} {wr : World} (h : HexW z w B n 8 wr) (c : Nat) :
    (convert 43 9 (.slice (some ⟨B, 0, none⟩) 8 c)).run Tryd.prog wr = .ok (.string ⟨(hexLast n 8).toArray⟩) wr := by
  have hl := hexLast_length n 8
  have := run_convert_bytes_back (P := Tryd.prog) wr 43 9 5 ⟨B, 0, none⟩ c (hexLast n 8) Tryd.underlying43 Tryd.underlying5 Tryd.underlying9 (fun j hj => by
    have hg := hexLast_get n 8 j (by omega)
    rw [List.getElem?_eq_getElem hj] at hg
    have hp : (⟨B, 0, none⟩ : Addr).add j = ⟨B, j, none⟩ := by unfold Addr.add; split <;> simp_all
    rw [Option.some.inj hg, hp, h.cell j (by omega)]
    unfold hexAt
    rw [if_pos (by omega)])
  rw [hl] at this
  exact this
theorem frozen_mark (w : World) (C : Array Value) (t : TypeId) (lo hi j : Nat) (h : j < lo) : (w.alloc (.cells C t (lo, hi))).frozen? ⟨w.heap.size, j, none⟩ = false := by
  have e : (w.alloc (.cells C t (lo, hi))).heap[w.heap.size]? = some (.cells C t (lo, hi)) := Array.getElem?_push_size
  unfold World.frozen?
  rw [e]
  simp
  omega
theorem and15 (m : Nat) (hm : m < 4294967296) : bits .and .u32 (m : Int) 15 = ((m % 16 : Nat) : Int) := by
  have := bits_mask .u32 32 (by decide) (fun n h0 h1 => by rw [IntKind.wrap_u32]; omega) 4 (by decide) (m : Int) (by omega) (by omega)
  simpa using this
theorem div_step (n k : Nat) : n / 16 ^ k / 16 = n / 16 ^ (k + 1) := by rw [Nat.div_div_eq_div_mul, Nat.pow_succ]

set_option maxHeartbeats 1000000 in
set_option maxRecDepth 100000 in
theorem hexText_any (n : Nat) (hn : n < 4294967296) (w : World) :
    Calls Tryd.prog 57 #[.int .u32 n] w fun e w' => e = .returned (.string ⟨(hexLast n 8).toArray⟩) ∧ Below w.heap.size w w' := by
  have hmk : ∀ w, (Instr.makeSlice 43 (.int .i64 8) (.int .i64 8)).run Tryd.prog w = .ok (.slice (some ⟨w.heap.size, 0, none⟩) 8 8) (w.alloc (.cells #[.int .u8 0, .int .u8 0, .int .u8 0, .int .u8 0, .int .u8 0, .int .u8 0, .int .u8 0, .int .u8 0] 5)) := fun _ => by kernel_rfl
  go_enter Tryd.func57, Tryd.ntmps57
  go_wp2
  go_loopw [0, 8] (fun q i wr => ∃ k : Nat, k ≤ 8 ∧ i = .int .i64 k ∧ q = .int .u32 (n / 16 ^ k : Nat) ∧ HexW 0 w w.heap.size n k wr) (fun _ i _ => 8 - (intOf i).toNat)
  case atStart =>
    refine ⟨0, Nat.zero_le _, rfl, by simp, (Below.refl _ _).alloc (Nat.le_refl _) _, by simp, ?_, ?_⟩
    · intro j hj
      have : j = 0 ∨ j = 1 ∨ j = 2 ∨ j = 3 ∨ j = 4 ∨ j = 5 ∨ j = 6 ∨ j = 7 := by omega
      rcases this with rfl | rfl | rfl | rfl | rfl | rfl | rfl | rfl <;> simp [hexAt]
    · intro j hj
      simp
  case round =>
    obtain ⟨k, hk, rfl, rfl, hH⟩ := hrel
    by_cases hlt : k < 8
    · have hc := hH.cell (7 - k) (by omega)
      have hf := hH.free (7 - k) (by omega)
      have hsz := hH.size
      have hlt' : (k : Int) < 8 := by omega
      have hm : n / 16 ^ k < 4294967296 := Nat.lt_of_le_of_lt (Nat.div_le_self _ _) hn
      have hnx : ∀ d : Nat, d = (hexDig (n / 16 ^ k % 16)).toNat → HexW 0 w w.heap.size n (k + 1) (wr.setCell ⟨w.heap.size, 7 - k, none⟩ (.int .u8 (d : Int))) := fun d hd => hH.next (Nat.le_refl _) hlt rfl hd
      have HD : Hid (n / 16 ^ k / 16 = n / 16 ^ (k + 1)) := div_step n k
      generalize n / 16 ^ k = m at *
      have hand := and15 m hm
      clear hH
      go_wp2
      go_roundw
      case rel => exact ⟨k + 1, by omega, by go_num, by rw [← HD.out]; rfl, hnx _ (hexs_at _ (by omega) _)⟩
      case measure => simp [intOf]; omega
    · obtain rfl : k = 8 := by omega
      have hcv := hH.string 8
      have hbl := hH.below
      clear hH
      go_wp2
      go_ret
      exact ⟨rfl, hbl⟩

set_option maxHeartbeats 1000000 in
set_option maxRecDepth 100000 in
theorem hexOf_any (n : Nat) (hn : n < 4294967296) (w : World) :
    Calls Tryd.prog 59 #[.int .u32 n] w fun e w' => e = .returned (.string ⟨(hexLast n 8).toArray⟩) ∧ Below w.heap.size w w' := by
  have kc := fun (w : World) (C : Array Value) (n c : Nat) => Lib.run_convert_bytes_const (P := Tryd.prog) w 43 5 C n c Tryd.underlying43 Tryd.underlying5
  go_enter Tryd.func59, Tryd.ntmps59
  go_wp2
  go_loopw [3, 5] (fun q i wr => ∃ k : Nat, k ≤ 8 ∧ i = .int .i64 (7 - (k : Int)) ∧ q = .int .i64 (n / 16 ^ k : Nat) ∧ HexW 48 w w.heap.size n k wr) (fun _ i _ => (intOf i + 1).toNat)
  case atStart =>
    refine ⟨0, Nat.zero_le _, rfl, by simp, (Below.refl _ _).alloc (Nat.le_refl _) _, by simp, ?_, ?_⟩
    · intro j hj
      rw [World.cell?_alloc_mark]
      have : j = 0 ∨ j = 1 ∨ j = 2 ∨ j = 3 ∨ j = 4 ∨ j = 5 ∨ j = 6 ∨ j = 7 := by omega
      rcases this with rfl | rfl | rfl | rfl | rfl | rfl | rfl | rfl <;> simp [hexAt]
    · intro j hj
      exact frozen_mark w _ _ _ _ j (by simpa using hj)
  case round =>
    obtain ⟨k, hk, rfl, rfl, hH⟩ := hrel
    by_cases hlt : k < 8
    · have hc := hH.cell (7 - k) (by omega)
      have hf := hH.free (7 - k) (by omega)
      have hsz := hH.size
      have hlt' : (0 : Int) ≤ 7 - (k : Int) := by omega
      have htn : (7 - (k : Int)).toNat = 7 - k := by omega
      have hm : n / 16 ^ k < 4294967296 := Nat.lt_of_le_of_lt (Nat.div_le_self _ _) hn
      have hnx : ∀ d : Nat, d = (hexDig (n / 16 ^ k % 16)).toNat → HexW 48 w w.heap.size n (k + 1) (wr.setCell ⟨w.heap.size, 7 - k, none⟩ (.int .u8 (d : Int))) := fun d hd => hH.next (Nat.le_refl _) hlt rfl hd
      have HD : Hid (n / 16 ^ k / 16 = n / 16 ^ (k + 1)) := div_step n k
      generalize n / 16 ^ k = m at *
      clear hH
      go_wp2
      go_roundw
      case rel => exact ⟨k + 1, by omega, val_int (by omega), by rw [← HD.out]; rfl, hnx _ (hexs_at _ (by omega) _)⟩
      case measure => simp [intOf]; omega
    · obtain rfl : k = 8 := by omega
      have hcv := hH.string 8
      have hbl := hH.below
      clear hH
      go_wp2
      go_ret
      exact ⟨rfl, hbl⟩
end Go.Proofs.YteefjbdejcpepaaDoor
namespace Go.Proofs.YteefjbdejcpepaaDoor
open Go.RowKit

set_option maxHeartbeats 1000000 in
theorem byte_any (c : UInt8) (x : Int) (hx : x = c.toNat) (w : World) :
    Calls Tryd.prog 110 #[.int .i64 x] w fun e w' => e = .returned (.string ⟨#[c]⟩) ∧ Below w.heap.size w w' := by
  subst hx
  have hcv : (convert 43 9 (.slice (some ⟨w.heap.size, 0, none⟩) 1 1)).run Tryd.prog (w.alloc (.cells #[.int .u8 (c.toNat : Int)] 5)) = .ok (.string ⟨#[c]⟩) (w.alloc (.cells #[.int .u8 (c.toNat : Int)] 5)) := by
    have := run_convert_bytes_back (P := Tryd.prog) (w.alloc (.cells #[.int .u8 (c.toNat : Int)] 5)) 43 9 5 ⟨w.heap.size, 0, none⟩ 1 [c] Tryd.underlying43 Tryd.underlying5 Tryd.underlying9 (fun j hj => by
      have hj0 : j = 0 := by simpa using hj
      subst hj0
      have hp : (⟨w.heap.size, 0, none⟩ : Addr).add 0 = ⟨w.heap.size, 0, none⟩ := by unfold Addr.add; split <;> simp_all
      rw [hp]
      simp)
    simpa using this
  have hn := c.toNat_lt
  have hn' : (c.toNat : Int) % 256 = c.toNat := by omega
  clear hn
  go_enter Tryd.func110, Tryd.ntmps110
  go_wp2
  go_ret
  exact ⟨rfl, (Below.refl _ _).alloc (Nat.le_refl _) _⟩

theorem str_append (a b : List UInt8) : (⟨a.toArray⟩ : ByteArray) ++ ⟨b.toArray⟩ = ⟨(a ++ b).toArray⟩ := by
  apply ByteArray.ext
  simp [ByteArray.data_append]
theorem decDigits_le19 (u : Nat) (h : u ≤ 9223372036854775807) : (Lib.decDigits u).length ≤ 19 := by
  have h4 : (10 : Nat) ^ 19 = 10000000000000000000 := by decide
  exact decDigits_len_le u 19 (by decide) (by rw [h4]; omega)
theorem dig_nat : ∀ d : Fin 10, (UInt8.ofNat (48 + d.val)).toNat = 48 + d.val := by decide

set_option maxHeartbeats 1000000 in
theorem below_any (f : Nat) : ∀ (u : Nat) (x : Int) (w : World), u < f → x = -(u : Int) → u ≤ 9223372036854775807 →
    Calls Tryd.prog 92 #[.int .i64 x] w fun e w' => e = .returned (.string ⟨(Lib.decDigits u).toArray⟩) ∧ Below w.heap.size w w' := by
  induction f with
  | zero => intro u x w h; omega
  | succ f ih =>
    intro u x w hu hx hmax
    by_cases h10 : u < 10
    · have hgt : -10 < x := by omega
      have hlo : x ≤ 0 := by omega
      have HX : Hid (x = -(u : Int)) := hx
      clear hx ih
      have hdg := dig_nat ⟨u, h10⟩
      have hdd : Lib.decDigits u = [UInt8.ofNat (48 + u)] := by rw [Lib.decDigits, dif_pos h10]
      simp only at hdg
      generalize UInt8.ofNat (48 + u) = c at *
      have HG : Hid (c.toNat = 48 + u) := hdg
      have HD : Hid (Lib.decDigits u = [c]) := hdd
      clear hdg hdd
      go_enter Tryd.func92, Tryd.ntmps92
      go_wp2_with fail
      refine (byte_any c _ (by have := HX.out; have := HG.out; omega) _).mono ?_
      rintro e w' ⟨rfl, hb⟩
      go_wp2_with fail
      go_ret
      exact ⟨by rw [HD.out]; rfl, hb⟩
    · have hgt : ¬ -10 < x := by omega
      have hlo : -9223372036854775807 ≤ x := by omega
      have hhi : x ≤ 0 := by omega
      have hdg := dig_nat ⟨u % 10, by omega⟩
      have hdd : Lib.decDigits u = Lib.decDigits (u / 10) ++ [UInt8.ofNat (48 + u % 10)] := by rw [Lib.decDigits, dif_neg h10]
      simp only at hdg
      generalize UInt8.ofNat (48 + u % 10) = c at *
      have HG : Hid (c.toNat = 48 + u % 10) := hdg
      have HD : Hid (Lib.decDigits u = Lib.decDigits (u / 10) ++ [c]) := hdd
      have HX : Hid (x = -(u : Int)) := hx
      have HI : Hid _ := ih
      have ht1 : x.tdiv 10 = -((u / 10 : Nat) : Int) := by rw [hx, Int.neg_tdiv]; simp
      have ht2 : x.tmod 10 = -((u % 10 : Nat) : Int) := by rw [hx, Int.neg_tmod, Int.tmod_eq_emod_of_nonneg (by omega)]; omega
      have hl := decDigits_le19 (u / 10) (by omega)
      have hr1 : -9 ≤ x.tmod 10 := by omega
      have hr2 : x.tmod 10 ≤ 0 := by omega
      have HT1 : Hid (x.tdiv 10 = -((u / 10 : Nat) : Int)) := ht1
      have HT2 : Hid (x.tmod 10 = -((u % 10 : Nat) : Int)) := ht2
      clear hx hdg hdd ih ht1 ht2
      go_enter Tryd.func92, Tryd.ntmps92
      go_wp2_with fail
      refine (HI.out (u / 10) _ _ (by omega) HT1.out (by omega)).mono ?_
      rintro e w1 ⟨rfl, hb1⟩
      go_wp2_with fail
      refine (byte_any c _ ?_ _).mono ?_
      · have h1 := HT2.out
        have h2 := HG.out
        omega
      rintro e w2 ⟨rfl, hb2⟩
      go_wp2_with fail
      go_ret
      refine ⟨?_, hb1.trans (hb2.mono hb1.size)⟩
      rw [HD.out, ← str_append]
      rfl

theorem decimal_any (u : Nat) (hu : u ≤ 9223372036854775807) (w : World) :
    Calls Tryd.prog 60 #[.int .i64 u] w fun e w' => e = .returned (.string ⟨(Lib.decDigits u).toArray⟩) ∧ Below w.heap.size w w' := by
  have h0 : ¬ (u : Int) < 0 := by omega
  go_enter Tryd.func60, Tryd.ntmps60
  go_wp2_with fail
  refine (below_any (u + 1) u _ _ (by omega) (by omega) hu).mono ?_
  rintro e w1 ⟨rfl, hb1⟩
  go_wp2_with fail
  go_ret
  exact ⟨rfl, hb1⟩
end Go.Proofs.YteefjbdejcpepaaDoor
namespace Go.Proofs.YteefjbdejcpepaaDoor
open Go.RowKit

def hexRes : Option Nat → Value
  | some v => .tuple #[.int .u32 v, .bool true]
  | none => .tuple #[.int .u32 0, .bool false]

theorem unhex_stop (l : List UInt8) (k : Nat) (h : k < l.length) (hn : unhex1 l[k] = none) (n : Nat) : unhex n l = none := by
  induction l generalizing n k with
  | nil => simp at h
  | cons c l ih =>
    cases k with
    | zero => simp at hn; simp [unhex, hn]
    | succ k =>
      simp only [unhex]
      cases unhex1 c with
      | none => rfl
      | some d => exact ih k (by simpa using h) (by simpa using hn) _
theorem unhex_snoc {n m : Nat} {l : List UInt8} {c : UInt8} {d : Nat} (h : unhex n l = some m) (hd : unhex1 c = some d) : unhex n (l ++ [c]) = some (16 * m + d) := by
  rw [unhex_append, h]; simp [unhex, hd]

theorem unhex1_dig {c : UInt8} (h1 : (48 : Int) ≤ c.toNat) (h2 : (c.toNat : Int) ≤ 57) : unhex1 c = some (c.toNat - 48) := by unfold unhex1; rw [if_pos (by omega)]
theorem unhex1_let {c : UInt8} (h1 : (97 : Int) ≤ c.toNat) (h2 : (c.toNat : Int) ≤ 102) : unhex1 c = some (c.toNat - 87) := by unfold unhex1; rw [if_neg (by omega), if_pos (by omega)]
theorem unhex1_no {c : UInt8} (h1 : (c.toNat : Int) < 48 ∨ 57 < (c.toNat : Int)) (h2 : (c.toNat : Int) < 97 ∨ 102 < (c.toNat : Int)) : unhex1 c = none := by unfold unhex1; rw [if_neg (by omega), if_neg (by omega)]
theorem or16 (m d : Nat) (x : Int) (hx : x = d) (hm : m < 268435456) (hd : d < 16) : bits .or .u32 ((m : Int) * 16) x = ((16 * m + d : Nat) : Int) := by
  subst hx
  rw [bits_join .u32 32 (by decide) (fun n h0 h1 => by rw [IntKind.wrap_u32]; omega) 4 _ _ (by omega) (by omega) (by omega) (by omega) (by omega) (by omega)]
  omega
theorem unhex_fail (s : ByteArray) (k : Nat) (h : k < s.size) (hn : unhex1 s[k] = none) : hexRes (unhex 0 s.data.toList) = .tuple #[.int .u32 0, .bool false] := by
  rw [unhex_stop s.data.toList k (by simpa using h) hn]; rfl

def unhex8 (l : List UInt8) : Option Nat := if l.length = 8 then unhex 0 l else none
theorem unhex8_of (s : ByteArray) (h : s.size = 8) : unhex8 s.data.toList = unhex 0 s.data.toList := by
  unfold unhex8
  rw [if_pos (by rw [Array.length_toList]; exact h)]
theorem unhex8_no (s : ByteArray) (h : s.size ≠ 8) : unhex8 s.data.toList = none := by
  unfold unhex8
  rw [if_neg (by rw [Array.length_toList]; exact h)]
set_option maxHeartbeats 1000000 in
theorem readHex_any (s : ByteArray) (w : World) :
    Calls Tryd.prog 55 #[.string s] w fun e w' => e = .returned (hexRes (unhex8 s.data.toList)) ∧ w' = w := by
  by_cases hs8 : s.size = 8
  · have h8 : ((s.size : Int) != 8) = false := by simp; omega
    rw [unhex8_of s hs8]
    have HS : Hid (s.size = 8) := hs8
    have hs : s.size ≤ 8 := by omega
    clear hs8
    go_enter Tryd.func55, Tryd.ntmps55
    go_wp2
    go_loop [4, 12] (fun q i => ∃ k m : Nat, k ≤ s.size ∧ i = .int .i64 k ∧ q = .int .u32 m ∧ unhex 0 (s.data.toList.take k) = some m) (fun _ i => s.size - (intOf i).toNat)
    case atStart => exact ⟨0, 0, Nat.zero_le _, rfl, rfl, rfl⟩
    case round =>
      obtain ⟨k, m, hk, rfl, rfl, hu⟩ := hrel
      have HU : Hid (unhex 0 (s.data.toList.take k) = some m) := hu
      clear hu
      by_cases hlt : k < s.size
      · have hm : m < 268435456 := by
          have h1 := unhex_lt _ _ _ HU.out
          have h2 : (s.data.toList.take k).length ≤ 7 := by simp; omega
          have h3 : 16 ^ (s.data.toList.take k).length ≤ 16 ^ 7 := Nat.pow_le_pow_right (by decide) h2
          have h4 : (16 : Nat) ^ 7 = 268435456 := by decide
          omega
        have hts := take_snoc s k hlt
        have HT : Hid (s.data.toList.take (k + 1) = s.data.toList.take k ++ [s[k]]) := hts
        clear hts
        go_wp2
        · go_round
          case rel => exact ⟨k + 1, 16 * m + (s[k].toNat - 48), by omega, by go_num, val_int (or16 m _ _ (by omega) hm (by omega)), by rw [HT.out]; exact unhex_snoc HU.out (unhex1_dig ‹_› ‹_›)⟩
          case measure => simp [intOf]; omega
        · go_round
          case rel => exact ⟨k + 1, 16 * m + (s[k].toNat - 87), by omega, by go_num, val_int (or16 m _ _ (by omega) hm (by omega)), by rw [HT.out]; exact unhex_snoc HU.out (unhex1_let ‹_› ‹_›)⟩
          case measure => simp [intOf]; omega
        all_goals
          go_ret2
          exact ⟨by rw [unhex_fail s k hlt (unhex1_no (by omega) (by omega))]; rfl, rfl⟩
      · go_wp2
        go_ret2
        refine ⟨?_, rfl⟩
        have hu := HU.out
        rw [List.take_of_length_le (by simp; omega)] at hu
        rw [hu]; rfl
  · have h8 : ((s.size : Int) != 8) = true := by simp; omega
    rw [unhex8_no s hs8]
    clear hs8
    go_enter Tryd.func55, Tryd.ntmps55
    go_wp2
    go_ret2
    exact ⟨rfl, rfl⟩

set_option maxHeartbeats 1000000 in
theorem refUnhex_no (s : ByteArray) (hs : s.size ≠ 8) (w : World) :
    Calls Tryd.prog 62 #[.string s] w fun e w' => e = .returned (hexRes none) ∧ w' = w := by
  have h8 : ((s.size : Int) != 8) = true := by simp; omega
  go_enter Tryd.func62, Tryd.ntmps62
  go_wp2
  go_ret2
  exact ⟨rfl, rfl⟩

set_option maxHeartbeats 1000000 in
theorem refUnhex_any (s : ByteArray) (hs : s.size = 8) (w : World) :
    Calls Tryd.prog 62 #[.string s] w fun e w' => e = .returned (hexRes (unhex 0 s.data.toList)) ∧ w' = w := by
  have h8 : ((s.size : Int) != 8) = false := by simp; omega
  have HS : Hid (s.size = 8) := hs
  have hs1 : s.size ≤ 8 := by omega
  have hs2 : 8 ≤ s.size := by omega
  clear hs
  go_enter Tryd.func62, Tryd.ntmps62
  go_wp2
  go_loop [4, 5] (fun q i => ∃ k m : Nat, k ≤ 8 ∧ i = .int .i64 k ∧ q = .int .i64 m ∧ unhex 0 (s.data.toList.take k) = some m) (fun _ i => 8 - (intOf i).toNat)
  case atStart => exact ⟨0, 0, Nat.zero_le _, rfl, rfl, rfl⟩
  case round =>
    obtain ⟨k, m, hk, rfl, rfl, hu⟩ := hrel
    have HU : Hid (unhex 0 (s.data.toList.take k) = some m) := hu
    clear hu
    have hm16 : m < 4294967296 := by
      have h1 := unhex_lt _ _ _ HU.out
      have h2 : (s.data.toList.take k).length ≤ 8 := by simp; omega
      have h3 : 16 ^ (s.data.toList.take k).length ≤ 16 ^ 8 := Nat.pow_le_pow_right (by decide) h2
      have h4 : (16 : Nat) ^ 8 = 4294967296 := by decide
      omega
    by_cases hlt : k < s.size
    · have HT : Hid (s.data.toList.take (k + 1) = s.data.toList.take k ++ [s[k]]) := take_snoc s k hlt
      have hk8 : k < 8 := by omega
      go_wp2
      · go_round
        case rel => exact ⟨k + 1, 16 * m + (s[k].toNat - 48), by omega, by go_num, val_int (by omega), by rw [HT.out]; exact unhex_snoc HU.out (unhex1_dig ‹_› ‹_›)⟩
        case measure => simp [intOf]; omega
      · go_round
        case rel => exact ⟨k + 1, 16 * m + (s[k].toNat - 87), by omega, by go_num, val_int (by omega), by rw [HT.out]; exact unhex_snoc HU.out (unhex1_let ‹_› ‹_›)⟩
        case measure => simp [intOf]; omega
      all_goals
        go_ret2
        exact ⟨by rw [unhex_fail s k hlt (unhex1_no (by omega) (by omega))]; rfl, rfl⟩
    · have hk8 : ¬ k < 8 := by omega
      go_wp2
      go_ret2
      refine ⟨?_, rfl⟩
      have hu := HU.out
      rw [List.take_of_length_le (by simp; omega)] at hu
      rw [hu]; rfl

end Go.Proofs.YteefjbdejcpepaaDoor
namespace Go.Proofs.YteefjbdejcpepaaDoor
open Go.RowKit

/- Decimal. -/
def lenRes : Option Nat → Value
  | some v => .tuple #[.int .i64 v, .bool true]
  | none => .tuple #[.int .i64 0, .bool false]
def numRes : Option Nat → Int
  | some v => v
  | none => -1
theorem undec_stop (l : List UInt8) (k : Nat) (h : k < l.length) (hn : undec1 l[k] = none) (n : Nat) : undec n l = none := by
  induction l generalizing n k with
  | nil => simp at h
  | cons c l ih =>
    cases k with
    | zero => simp at hn; simp [undec, hn]
    | succ k =>
      simp only [undec]
      cases undec1 c with
      | none => rfl
      | some d => exact ih k (by simpa using h) (by simpa using hn) _
theorem undec_snoc {n m : Nat} {l : List UInt8} {c : UInt8} {d : Nat} (h : undec n l = some m) (hd : undec1 c = some d) : undec n (l ++ [c]) = some (10 * m + d) := by
  rw [undec_append, h]; simp [undec, hd]
theorem undec1_yes {c : UInt8} (h1 : (48 : Int) ≤ c.toNat) (h2 : (c.toNat : Int) ≤ 57) : undec1 c = some (c.toNat - 48) := by unfold undec1; rw [if_pos (by omega)]
theorem undec1_no {c : UInt8} (h1 : (c.toNat : Int) < 48 ∨ 57 < (c.toNat : Int)) : undec1 c = none := by unfold undec1; rw [if_neg (by omega)]
theorem len_toList (s : ByteArray) : s.data.toList.length = s.size := by rw [Array.length_toList]; rfl
theorem numOf_bad (s : ByteArray) (most : Nat) (h : s.size < 1 ∨ most < s.size) : numOf s.data.toList most = none := by
  unfold numOf
  rw [if_pos]
  rcases h with h | h
  · exact Or.inl (by simpa using h)
  · exact Or.inr (Or.inl (by simpa using h))
theorem numOf_zero (s : ByteArray) (most : Nat) (h : 1 < s.size) (h0 : s[0].toNat = 48) : numOf s.data.toList most = none := by
  unfold numOf
  rw [if_pos]
  refine Or.inr (Or.inr ⟨by simpa using h, ?_⟩)
  have e : s.data.toList.head? = some s[0] := by
    rw [List.head?_eq_getElem?, List.getElem?_eq_getElem (by simpa using (by omega : 0 < s.size))]; rfl
  rw [e, UInt8.toNat_inj.1 (h0.trans (by decide : (48 : Nat) = (48 : UInt8).toNat))]
theorem numOf_good (s : ByteArray) (most : Nat) (h1 : 1 ≤ s.size) (h2 : s.size ≤ most) (h3 : ∀ _ : 1 < s.size, s[0].toNat ≠ 48) : numOf s.data.toList most = undec 0 s.data.toList := by
  unfold numOf
  rw [if_neg]
  rintro (h | h | ⟨h, h4⟩)
  · rw [len_toList] at h; omega
  · rw [len_toList] at h; omega
  · have hs : 1 < s.size := by rw [len_toList] at h; exact h
    have e : s.data.toList.head? = some s[0] := by
      rw [List.head?_eq_getElem?, List.getElem?_eq_getElem (by simpa using (by omega : 0 < s.size))]; rfl
    rw [e] at h4
    exact h3 hs (by rw [Option.some.inj h4]; decide)
theorem undec_fail (s : ByteArray) (k : Nat) (h : k < s.size) (hn : undec1 s[k] = none) : undec 0 s.data.toList = none :=
  undec_stop s.data.toList k (by rw [len_toList]; exact h) hn 0
theorem undec_small (s : ByteArray) (k m d : Nat) (hs : s.size ≤ d) (h : undec 0 (s.data.toList.take k) = some m) : m < 10 ^ d := by
  have h1 := undec_lt _ _ _ h
  have h2 : (s.data.toList.take k).length ≤ d := by simp; omega
  have h3 : 10 ^ (s.data.toList.take k).length ≤ 10 ^ d := Nat.pow_le_pow_right (by decide) h2
  omega

theorem undec_small17 (s : ByteArray) (k m : Nat) (hk : k ≤ 17) (h : undec 0 (s.data.toList.take k) = some m) : m < 100000000000000000 := by
  have h1 := undec_lt _ _ _ h
  have h2 : (s.data.toList.take k).length ≤ 17 := by simp; omega
  have h3 : 10 ^ (s.data.toList.take k).length ≤ 10 ^ 17 := Nat.pow_le_pow_right (by decide) h2
  have h4 : (10 : Nat) ^ 17 = 100000000000000000 := by decide
  omega
theorem ne_empty {s : ByteArray} (h : 1 ≤ s.size) : s.toList.isEmpty = false := by
  rw [← decide_eq_emptyBytes, decide_eq_false_iff_not]
  rintro rfl
  simp at h

/- Is it a number of digits without needless zeros? -/
def areN (l : List UInt8) : Bool := (numOf l l.length).isSome
theorem numOf_areN (l : List UInt8) (most : Nat) (h : l.length ≤ most) : numOf l most = numOf l l.length := by
  unfold numOf
  by_cases hb : l.length < 1 ∨ (1 < l.length ∧ l.head? = some 48)
  · rw [if_pos (by rcases hb with h | h <;> simp [h]), if_pos (by rcases hb with h | h <;> simp [h])]
  · rw [if_neg (by rintro (h1 | h1 | h1) <;> simp_all <;> omega), if_neg (by rintro (h1 | h1 | h1) <;> simp_all)]
theorem areN_none {l : List UInt8} (h : areN l = false) (most : Nat) : numOf l most = none := by
  by_cases hl : l.length ≤ most
  · rw [numOf_areN l most hl]
    unfold areN at h
    simpa using h
  · unfold numOf
    rw [if_pos (by omega)]
theorem areN_some {l : List UInt8} (h : areN l = true) : ∃ n, undec 0 l = some n ∧ ∀ most, l.length ≤ most → numOf l most = some n := by
  unfold areN at h
  obtain ⟨n, hn⟩ := Option.isSome_iff_exists.1 h
  have h2 := hn
  unfold numOf at h2
  split at h2
  · cases h2
  · exact ⟨n, h2, fun most hm => by rw [numOf_areN l most hm]; exact hn⟩

set_option maxHeartbeats 1000000 in
theorem are_any (s : ByteArray) (hs : s.size ≤ maxLen) (w : World) :
    Calls Tryd.prog 90 #[.string s] w fun e w' => e = .returned (.bool (areN s.data.toList)) ∧ w' = w := by
  have hs2 : (s.size : Int) ≤ 9223372036854775807 := by unfold maxLen at hs; omega
  clear hs
  by_cases h1 : s.size < 1
  · have e : areN s.data.toList = false := by unfold areN; rw [numOf_bad s _ (.inl h1)]; rfl
    rw [e]
    obtain rfl : s = ⟨#[]⟩ := by
      apply ByteArray.ext; apply Array.eq_empty_of_size_eq_zero; have : s.data.size = s.size := rfl; omega
    clear h1 e
    go_enter Tryd.func90, Tryd.ntmps90
    go_wp2
    go_ret
    exact ⟨rfl, rfl⟩
  have h1 : 1 ≤ s.size := by omega
  have he := ne_empty h1
  have hlen : s.data.toList.length = s.size := len_toList s
  by_cases hz : ∃ h : 1 < s.size, s[0].toNat = 48
  · obtain ⟨h2, h0⟩ := hz
    have e : areN s.data.toList = false := by unfold areN; rw [numOf_zero s _ h2 h0]; rfl
    rw [e]
    have h0' : ((s[0].toNat : Int) == 48) = true := by simp; omega
    have h2' : (1 : Int) < (s.size : Int) := by omega
    clear h0 e hlen
    go_enter Tryd.func90, Tryd.ntmps90
    go_wp2
    all_goals (go_ret; exact ⟨rfl, rfl⟩)
  have h3 : ∀ _ : 1 < s.size, s[0].toNat ≠ 48 := fun h e => hz ⟨h, e⟩
  clear hz
  have hg : numOf s.data.toList s.data.toList.length = undec 0 s.data.toList := numOf_good s _ h1 (by omega) h3
  have HG : Hid (areN s.data.toList = (undec 0 s.data.toList).isSome) := by show _ = _; unfold areN; rw [hg]
  clear hg
  have hgo : (∃ _ : 1 < s.size, ((s[0].toNat : Int) == 48) = false) ∨ s.size ≤ 1 := by
    rcases Nat.lt_or_ge 1 s.size with h | h
    · exact Or.inl ⟨h, by have := h3 h; simp; omega⟩
    · exact Or.inr h
  have HL : Hid (s.data.toList.length = s.size) := hlen
  clear h3 hlen
  rcases hgo with ⟨h2, h0⟩ | h2
  all_goals
    go_enter Tryd.func90, Tryd.ntmps90
    go_wp2
    go_loop [18] (fun i => ∃ k : Nat, k ≤ s.size ∧ i = .int .i64 k ∧ ∃ m, undec 0 (s.data.toList.take k) = some m) (fun i => s.size - (intOf i).toNat)
    case atStart => exact ⟨0, Nat.zero_le _, rfl, 0, rfl⟩
    case round =>
      obtain ⟨k, hk, rfl, m, hu⟩ := hrel
      have HU : Hid (undec 0 (s.data.toList.take k) = some m) := hu
      clear hu
      by_cases hlt : k < s.size
      · have HT : Hid (s.data.toList.take (k + 1) = s.data.toList.take k ++ [s[k]]) := take_snoc s k hlt
        go_wp2
        · go_ret
          exact ⟨by rw [HG.out, undec_fail s k hlt (undec1_no (by omega))]; rfl, rfl⟩
        · go_round
          case rel => exact ⟨k + 1, by omega, by go_num, 10 * m + (s[k].toNat - 48), by rw [HT.out]; exact undec_snoc HU.out (undec1_yes (by omega) (by omega))⟩
          case measure => simp [intOf]; omega
        · go_ret
          exact ⟨by rw [HG.out, undec_fail s k hlt (undec1_no (by omega))]; rfl, rfl⟩
      · go_wp2
        go_ret
        refine ⟨?_, rfl⟩
        have hu := HU.out
        rw [List.take_of_length_le (by rw [HL.out]; omega)] at hu
        rw [HG.out, hu]; rfl

set_option maxHeartbeats 1000000 in
theorem digRead_any (s : ByteArray) (hs : s.size ≤ maxLen) (most : Nat) (hmost : most ≤ 18) (w : World) :
    Calls Tryd.prog 56 #[.string s, .int .i64 most] w fun e w' => e = .returned (lenRes (numOf s.data.toList most)) ∧ w' = w := by
  have HS : Hid (s.size ≤ maxLen) := hs
  have hs2 : (s.size : Int) ≤ 9223372036854775807 := by unfold maxLen at hs; omega
  clear hs
  by_cases hbad : most < s.size
  · rw [numOf_bad s most (.inr hbad)]
    have hb : (most : Int) < (s.size : Int) := by omega
    clear hbad
    go_enter Tryd.func56, Tryd.ntmps56
    go_wp2_with fail
    go_ret2
    exact ⟨rfl, rfl⟩
  have hb : ¬ (most : Int) < (s.size : Int) := by omega
  have hb' : decide ((most : Int) < (s.size : Int)) = false := by simpa using hb
  have h6 : s.size ≤ most := by omega
  clear hbad
  by_cases hare : areN s.data.toList = false
  · rw [areN_none hare]
    have HA : Hid (areN s.data.toList = false) := hare
    clear hare
    go_enter Tryd.func56, Tryd.ntmps56
    go_wp2_with fail
    refine (are_any s HS.out _).mono ?_
    rintro e w1 ⟨rfl, rfl⟩
    rw [HA.out]
    go_wp2_with fail
    go_ret2
    exact ⟨rfl, rfl⟩
  have hare : areN s.data.toList = true := by simpa using hare
  obtain ⟨n, hn, hno⟩ := areN_some hare
  have e := hno most (by rw [len_toList]; exact h6)
  rw [e]
  have HA : Hid (areN s.data.toList = true) := hare
  have HN : Hid (undec 0 s.data.toList = some n) := hn
  clear hare hn hno e
  go_enter Tryd.func56, Tryd.ntmps56
  go_wp2_with fail
  refine (are_any s HS.out _).mono ?_
  rintro e w1 ⟨rfl, rfl⟩
  rw [HA.out]
  go_wp2_with fail
  go_loop [6, 19] (fun q i => ∃ k m : Nat, k ≤ s.size ∧ i = .int .i64 k ∧ q = .int .i64 m ∧ undec 0 (s.data.toList.take k) = some m) (fun _ i => s.size - (intOf i).toNat)
  case atStart => exact ⟨0, 0, Nat.zero_le _, rfl, rfl, rfl⟩
  case round =>
    obtain ⟨k, m, hk, rfl, rfl, hu⟩ := hrel
    have HU : Hid (undec 0 (s.data.toList.take k) = some m) := hu
    clear hu
    by_cases hlt : k < s.size
    · have HT : Hid (s.data.toList.take (k + 1) = s.data.toList.take k ++ [s[k]]) := take_snoc s k hlt
      have hm : m < 100000000000000000 := undec_small17 s k m (by omega) HU.out
      have hd : ∃ d, undec1 s[k] = some d := by
        cases hd : undec1 s[k] with
        | none => have := undec_fail s k hlt hd; rw [HN.out] at this; cases this
        | some d => exact ⟨d, rfl⟩
      obtain ⟨hd1, hd2⟩ : (48 : Int) ≤ s[k].toNat ∧ (s[k].toNat : Int) ≤ 57 := by
        obtain ⟨d, hd⟩ := hd
        unfold undec1 at hd
        split at hd
        · omega
        · cases hd
      clear hd
      go_wp2_with fail
      go_round
      case rel => exact ⟨k + 1, 10 * m + (s[k].toNat - 48), by omega, by go_num, val_int (by omega), by rw [HT.out]; exact undec_snoc HU.out (undec1_yes (by omega) (by omega))⟩
      case measure => simp [intOf]; omega
    · go_wp2_with fail
      go_ret2
      refine ⟨?_, rfl⟩
      have hu := HU.out
      rw [List.take_of_length_le (by rw [len_toList]; omega), HN.out] at hu
      cases hu
      rfl

theorem digRead6 (s : ByteArray) (hs : s.size ≤ maxLen) (w : World) :
    Calls Tryd.prog 56 #[.string s, .int .i64 6] w fun e w' => e = .returned (lenRes (numOf s.data.toList 6)) ∧ w' = w := digRead_any s hs 6 (by decide) w
theorem digRead9 (s : ByteArray) (hs : s.size ≤ maxLen) (w : World) :
    Calls Tryd.prog 56 #[.string s, .int .i64 9] w fun e w' => e = .returned (lenRes (numOf s.data.toList 9)) ∧ w' = w := digRead_any s hs 9 (by decide) w

set_option maxHeartbeats 1000000 in
theorem numberOf_any (s : ByteArray) (hs : s.size ≤ maxLen) (most : Nat) (hmost : most ≤ 18) (w : World) :
    Calls Tryd.prog 63 #[.string s, .int .i64 most] w fun e w' => e = .returned (.int .i64 (numRes (numOf s.data.toList most))) ∧ w' = w := by
  unfold maxLen at hs
  by_cases hbad : s.size < 1 ∨ most < s.size
  · rw [numOf_bad s most hbad]
    rcases hbad with h | h
    · go_enter Tryd.func63, Tryd.ntmps63
      go_wp2
      all_goals (go_ret; exact ⟨rfl, rfl⟩)
    · go_enter Tryd.func63, Tryd.ntmps63
      go_wp2
      all_goals (go_ret; exact ⟨rfl, rfl⟩)
  have h1 : 1 ≤ s.size := by omega
  have h6 : s.size ≤ most := by omega
  clear hbad
  by_cases hz : ∃ h : 1 < s.size, s[0].toNat = 48
  · obtain ⟨h2, h0⟩ := hz
    rw [numOf_zero s most h2 h0]
    have h0' : ((s[0].toNat : Int) == 48) = true := by simp; omega
    clear h0
    go_enter Tryd.func63, Tryd.ntmps63
    go_wp2
    all_goals (go_ret; exact ⟨rfl, rfl⟩)
  have h3 : ∀ _ : 1 < s.size, s[0].toNat ≠ 48 := fun h e => hz ⟨h, e⟩
  clear hz
  have hg := numOf_good s most h1 h6 h3
  rw [hg]
  clear hg
  have hgo : (∃ _ : 1 < s.size, ((s[0].toNat : Int) == 48) = false) ∨ s.size ≤ 1 := by
    rcases Nat.lt_or_ge 1 s.size with h | h
    · exact Or.inl ⟨h, by have := h3 h; simp; omega⟩
    · exact Or.inr h
  clear h3
  have b1 : ¬ (s.size : Int) < 1 := by omega
  have b2 : ¬ (most : Int) < (s.size : Int) := by omega
  have b1' : decide ((s.size : Int) < 1) = false := by simpa using b1
  have b2' : decide ((most : Int) < (s.size : Int)) = false := by simpa using b2
  rcases hgo with ⟨h2, h0⟩ | h2
  all_goals
    go_enter Tryd.func63, Tryd.ntmps63
    go_wp2
    go_loop [5, 6] (fun q i => ∃ k m : Nat, k ≤ s.size ∧ i = .int .i64 k ∧ q = .int .i64 m ∧ undec 0 (s.data.toList.take k) = some m) (fun _ i => s.size - (intOf i).toNat)
    case atStart => exact ⟨0, 0, Nat.zero_le _, rfl, rfl, rfl⟩
    case round =>
      obtain ⟨k, m, hk, rfl, rfl, hu⟩ := hrel
      have HU : Hid (undec 0 (s.data.toList.take k) = some m) := hu
      clear hu
      by_cases hlt : k < s.size
      · have HT : Hid (s.data.toList.take (k + 1) = s.data.toList.take k ++ [s[k]]) := take_snoc s k hlt
        have hm : m < 100000000000000000 := undec_small17 s k m (by omega) HU.out
        go_wp2
        · go_ret
          exact ⟨by rw [undec_fail s k hlt (undec1_no (by omega))]; rfl, rfl⟩
        · go_round
          case rel => exact ⟨k + 1, 10 * m + (s[k].toNat - 48), by omega, by go_num, val_int (by omega), by rw [HT.out]; exact undec_snoc HU.out (undec1_yes (by omega) (by omega))⟩
          case measure => simp [intOf]; omega
        · go_ret
          exact ⟨by rw [undec_fail s k hlt (undec1_no (by omega))]; rfl, rfl⟩
      · go_wp2
        go_ret
        refine ⟨?_, rfl⟩
        have hu := HU.out
        rw [List.take_of_length_le (by rw [len_toList]; omega)] at hu
        rw [hu]; rfl
end Go.Proofs.YteefjbdejcpepaaDoor
