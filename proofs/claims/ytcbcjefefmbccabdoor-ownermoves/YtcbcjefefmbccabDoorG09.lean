/-
  Own text. Hex digits written: digits.Hex and the document's HexOf by contracts.
  Own text. Decimal digits written: the document's Byte, below, Decimal by contracts.
  Own text. Contracts of the library at this program's numbers, each one application of the shelf's own theorem: strconv_Itoa.
-/
import Derived.Test.YtcbcjefefmbccabDoorG08
import Derived.Laws.BytesArg
import Derived.Lib.SlBytesConst
import Derived.Laws.IdiomStrings
import Derived.Shelf.Strconv.Itoa0
import Derived.Shelf.Strconv.Itoa1
import Derived.Shelf.LaysM
import Derived.Shelf.Strconv.Itoa2
import Derived.Shelf.Strconv.Itoa3
import Derived.Test.YtcbcjefefmbccabDoorProg
namespace Go.Proofs.YtcbcjefefmbccabDoor
open Go.RowKit

/- Byte j of eight behind k rounds. -/
def hexAt (z : Nat) (n k j : Nat) : Nat := if 8 ≤ j + k then (hexDig (n / 16 ^ (7 - j) % 16)).toNat else z
theorem hexLast_get (n k j : Nat) (h : j < k) : (hexLast n k)[j]? = some (hexDig (n / 16 ^ (k - 1 - j) % 16)) := by
  induction k generalizing n with
  | zero => omega
  | succ k ih =>
    rw [hexLast]
    by_cases hj : j = k
    · subst hj
      rw [List.getElem?_append_right (by rw [hexLast_length]; omega), hexLast_length]
      simp
    · rw [List.getElem?_append_left (by rw [hexLast_length]; omega), ih _ (by omega), Nat.div_div_eq_div_mul, ← Nat.pow_succ', show (k - 1 - j).succ = k + 1 - 1 - j by omega]
theorem hexs_get : ∀ d : Fin 16, ((#[48, 49, 50, 51, 52, 53, 54, 55, 56, 57, 97, 98, 99, 100, 101, 102] : Array UInt8)[d.val]'d.isLt).toNat = (hexDig d.val).toNat := by decide
theorem hexs_at (d : Nat) (h : d < 16) (hq : d < (⟨#[48, 49, 50, 51, 52, 53, 54, 55, 56, 57, 97, 98, 99, 100, 101, 102]⟩ : ByteArray).size) : ((⟨#[48, 49, 50, 51, 52, 53, 54, 55, 56, 57, 97, 98, 99, 100, 101, 102]⟩ : ByteArray)[d]'hq).toNat = (hexDig d).toNat := hexs_get ⟨d, h⟩
structure HexW (z : Nat) (w : World) (B n k : Nat) (wr : World) : Prop where
  below : Below w.heap.size w wr
  size : B < wr.heap.size
  cell : ∀ j, j < 8 → wr.cell? ⟨B, j, none⟩ = some (.int .u8 (hexAt z n k j : Nat))
  free : ∀ j, j < 8 → wr.frozen? ⟨B, j, none⟩ = false

theorem HexW.next {z : Nat} {w : World} {B n k : Nat} {wr : World} (h : HexW z w B n k wr) (hB : w.heap.size ≤ B) (hk : k < 8) {o : Nat} (ho : o = 7 - k) {d : Nat} (hd : d = (hexDig (n / 16 ^ k % 16)).toNat) :
    HexW z w B n (k + 1) (wr.setCell ⟨B, o, none⟩ (.int .u8 (d : Int))) where
  below := h.below.setCell hB _
  size := by simpa [World.setCell] using h.size
  cell j hj := by
    subst ho hd
    by_cases hjk : j = 7 - k
    · subst hjk
      rw [World.cell?_setCell_same _ _ _ (h.cell _ hj)]
      unfold hexAt
      rw [if_pos (by omega), show 7 - (7 - k) = k by omega]
    · rw [World.cell?_setCell_other _ _ _ _ (fun e => hjk (by injection e; omega)), h.cell j hj]
      unfold hexAt
      by_cases h8 : 8 ≤ j + k
      · rw [if_pos h8, if_pos (by omega)]
      · rw [if_neg h8, if_neg (by omega)]
  free j hj := by
    rw [World.frozen?_setCell]
    exact h.free j hj
theorem HexW.string {z : Nat} {w : World} {B n : Nat} {wr : World} (h : HexW z w B n 8 wr) (c : Nat) :
    (convert 91 9 (.slice (some ⟨B, 0, none⟩) 8 c)).run Tryd.prog wr = .ok (.string ⟨(hexLast n 8).toArray⟩) wr := by
  have hl := hexLast_length n 8
  have := run_convert_bytes_back (P := Tryd.prog) wr 91 9 5 ⟨B, 0, none⟩ c (hexLast n 8) Tryd.underlying91 Tryd.underlying5 Tryd.underlying9 (fun j hj => by
    have hg := hexLast_get n 8 j (by omega)
    rw [List.getElem?_eq_getElem hj] at hg
    have hp : (⟨B, 0, none⟩ : Addr).add j = ⟨B, j, none⟩ := by unfold Addr.add; split <;> simp_all
    rw [Option.some.inj hg, hp, h.cell j (by omega)]
    unfold hexAt
    rw [if_pos (by omega)])
  rw [hl] at this
  exact this
theorem frozen_mark (w : World) (C : Array Value) (t : TypeId) (lo hi j : Nat) (h : j < lo) : (w.alloc (.cells C t (lo, hi))).frozen? ⟨w.heap.size, j, none⟩ = false := by
  have e : (w.alloc (.cells C t (lo, hi))).heap[w.heap.size]? = some (.cells C t (lo, hi)) := Array.getElem?_push_size
  unfold World.frozen?
  rw [e]
  simp
  omega
theorem and15 (m : Nat) (hm : m < 4294967296) : bits .and .u32 (m : Int) 15 = ((m % 16 : Nat) : Int) := by
  have := bits_mask .u32 32 (by decide) (fun n h0 h1 => by rw [IntKind.wrap_u32]; omega) 4 (by decide) (m : Int) (by omega) (by omega)
  simpa using this
theorem div_step (n k : Nat) : n / 16 ^ k / 16 = n / 16 ^ (k + 1) := by rw [Nat.div_div_eq_div_mul, Nat.pow_succ]

set_option maxHeartbeats 1000000 in
set_option maxRecDepth 100000 in
theorem hexText_any (n : Nat) (hn : n < 4294967296) (w : World) :
    Calls Tryd.prog 45 #[.int .u32 n] w fun e w' => e = .returned (.string ⟨(hexLast n 8).toArray⟩) ∧ Below w.heap.size w w' := by
  have hmk : ∀ w, (Instr.makeSlice 91 (.int .i64 8) (.int .i64 8)).run Tryd.prog w = .ok (.slice (some ⟨w.heap.size, 0, none⟩) 8 8) (w.alloc (.cells #[.int .u8 0, .int .u8 0, .int .u8 0, .int .u8 0, .int .u8 0, .int .u8 0, .int .u8 0, .int .u8 0] 5)) := fun _ => by kernel_rfl
  go_enter Tryd.func45, Tryd.ntmps45
  go_wp2
  go_loopw [0, 8] (fun q i wr => ∃ k : Nat, k ≤ 8 ∧ i = .int .i64 k ∧ q = .int .u32 (n / 16 ^ k : Nat) ∧ HexW 0 w w.heap.size n k wr) (fun _ i _ => 8 - (intOf i).toNat)
  case atStart =>
    refine ⟨0, Nat.zero_le _, rfl, by simp, (Below.refl _ _).alloc (Nat.le_refl _) _, by simp, ?_, ?_⟩
    · intro j hj
      have : j = 0 ∨ j = 1 ∨ j = 2 ∨ j = 3 ∨ j = 4 ∨ j = 5 ∨ j = 6 ∨ j = 7 := by omega
      rcases this with rfl | rfl | rfl | rfl | rfl | rfl | rfl | rfl <;> simp [hexAt]
    · intro j hj
      simp
  case round =>
    obtain ⟨k, hk, rfl, rfl, hH⟩ := hrel
    by_cases hlt : k < 8
    · have hc := hH.cell (7 - k) (by omega)
      have hf := hH.free (7 - k) (by omega)
      have hsz := hH.size
      have hlt' : (k : Int) < 8 := by omega
      have hm : n / 16 ^ k < 4294967296 := Nat.lt_of_le_of_lt (Nat.div_le_self _ _) hn
      have hnx : ∀ d : Nat, d = (hexDig (n / 16 ^ k % 16)).toNat → HexW 0 w w.heap.size n (k + 1) (wr.setCell ⟨w.heap.size, 7 - k, none⟩ (.int .u8 (d : Int))) := fun d hd => hH.next (Nat.le_refl _) hlt rfl hd
      have HD : Hid (n / 16 ^ k / 16 = n / 16 ^ (k + 1)) := div_step n k
      generalize n / 16 ^ k = m at *
      have hand := and15 m hm
      clear hH
      go_wp2
      go_roundw
      case rel => exact ⟨k + 1, by omega, by go_num, by rw [← HD.out]; rfl, hnx _ (hexs_at _ (by omega) _)⟩
      case measure => simp [intOf]; omega
    · obtain rfl : k = 8 := by omega
      have hcv := hH.string 8
      have hbl := hH.below
      clear hH
      go_wp2
      go_ret
      exact ⟨rfl, hbl⟩

set_option maxHeartbeats 1000000 in
set_option maxRecDepth 100000 in
theorem hexOf_any (n : Nat) (hn : n < 4294967296) (w : World) :
    Calls Tryd.prog 48 #[.int .u32 n] w fun e w' => e = .returned (.string ⟨(hexLast n 8).toArray⟩) ∧ Below w.heap.size w w' := by
  have kc := fun (w : World) (C : Array Value) (n c : Nat) => Lib.run_convert_bytes_const (P := Tryd.prog) w 91 5 C n c Tryd.underlying91 Tryd.underlying5
  go_enter Tryd.func48, Tryd.ntmps48
  go_wp2
  go_loopw [3, 5] (fun q i wr => ∃ k : Nat, k ≤ 8 ∧ i = .int .i64 (7 - (k : Int)) ∧ q = .int .i64 (n / 16 ^ k : Nat) ∧ HexW 48 w w.heap.size n k wr) (fun _ i _ => (intOf i + 1).toNat)
  case atStart =>
    refine ⟨0, Nat.zero_le _, rfl, by simp, (Below.refl _ _).alloc (Nat.le_refl _) _, by simp, ?_, ?_⟩
    · intro j hj
      rw [World.cell?_alloc_mark]
      have : j = 0 ∨ j = 1 ∨ j = 2 ∨ j = 3 ∨ j = 4 ∨ j = 5 ∨ j = 6 ∨ j = 7 := by omega
      rcases this with rfl | rfl | rfl | rfl | rfl | rfl | rfl | rfl <;> simp [hexAt]
    · intro j hj
      exact frozen_mark w _ _ _ _ j (by simpa using hj)
  case round =>
    obtain ⟨k, hk, rfl, rfl, hH⟩ := hrel
    by_cases hlt : k < 8
    · have hc := hH.cell (7 - k) (by omega)
      have hf := hH.free (7 - k) (by omega)
      have hsz := hH.size
      have hlt' : (0 : Int) ≤ 7 - (k : Int) := by omega
      have htn : (7 - (k : Int)).toNat = 7 - k := by omega
      have hm : n / 16 ^ k < 4294967296 := Nat.lt_of_le_of_lt (Nat.div_le_self _ _) hn
      have hnx : ∀ d : Nat, d = (hexDig (n / 16 ^ k % 16)).toNat → HexW 48 w w.heap.size n (k + 1) (wr.setCell ⟨w.heap.size, 7 - k, none⟩ (.int .u8 (d : Int))) := fun d hd => hH.next (Nat.le_refl _) hlt rfl hd
      have HD : Hid (n / 16 ^ k / 16 = n / 16 ^ (k + 1)) := div_step n k
      generalize n / 16 ^ k = m at *
      clear hH
      go_wp2
      go_roundw
      case rel => exact ⟨k + 1, by omega, val_int (by omega), by rw [← HD.out]; rfl, hnx _ (hexs_at _ (by omega) _)⟩
      case measure => simp [intOf]; omega
    · obtain rfl : k = 8 := by omega
      have hcv := hH.string 8
      have hbl := hH.below
      clear hH
      go_wp2
      go_ret
      exact ⟨rfl, hbl⟩
end Go.Proofs.YtcbcjefefmbccabDoor
namespace Go.Proofs.YtcbcjefefmbccabDoor
open Go.RowKit

set_option maxHeartbeats 1000000 in
theorem byte_any (c : UInt8) (x : Int) (hx : x = c.toNat) (w : World) :
    Calls Tryd.prog 57 #[.int .i64 x] w fun e w' => e = .returned (.string ⟨#[c]⟩) ∧ Below w.heap.size w w' := by
  subst hx
  have hcv : (convert 91 9 (.slice (some ⟨w.heap.size, 0, none⟩) 1 1)).run Tryd.prog (w.alloc (.cells #[.int .u8 (c.toNat : Int)] 5)) = .ok (.string ⟨#[c]⟩) (w.alloc (.cells #[.int .u8 (c.toNat : Int)] 5)) := by
    have := run_convert_bytes_back (P := Tryd.prog) (w.alloc (.cells #[.int .u8 (c.toNat : Int)] 5)) 91 9 5 ⟨w.heap.size, 0, none⟩ 1 [c] Tryd.underlying91 Tryd.underlying5 Tryd.underlying9 (fun j hj => by
      have hj0 : j = 0 := by simpa using hj
      subst hj0
      have hp : (⟨w.heap.size, 0, none⟩ : Addr).add 0 = ⟨w.heap.size, 0, none⟩ := by unfold Addr.add; split <;> simp_all
      rw [hp]
      simp)
    simpa using this
  have hn := c.toNat_lt
  have hn' : (c.toNat : Int) % 256 = c.toNat := by omega
  clear hn
  go_enter Tryd.func57, Tryd.ntmps57
  go_wp2
  go_ret
  exact ⟨rfl, (Below.refl _ _).alloc (Nat.le_refl _) _⟩

theorem str_append (a b : List UInt8) : (⟨a.toArray⟩ : ByteArray) ++ ⟨b.toArray⟩ = ⟨(a ++ b).toArray⟩ := by
  apply ByteArray.ext
  simp [ByteArray.data_append]
theorem decDigits_le19 (u : Nat) (h : u ≤ 9223372036854775807) : (Lib.decDigits u).length ≤ 19 := by
  have h4 : (10 : Nat) ^ 19 = 10000000000000000000 := by decide
  exact decDigits_len_le u 19 (by decide) (by rw [h4]; omega)
theorem dig_nat : ∀ d : Fin 10, (UInt8.ofNat (48 + d.val)).toNat = 48 + d.val := by decide

set_option maxHeartbeats 1000000 in
theorem below_any (f : Nat) : ∀ (u : Nat) (x : Int) (w : World), u < f → x = -(u : Int) → u ≤ 9223372036854775807 →
    Calls Tryd.prog 49 #[.int .i64 x] w fun e w' => e = .returned (.string ⟨(Lib.decDigits u).toArray⟩) ∧ Below w.heap.size w w' := by
  induction f with
  | zero => intro u x w h; omega
  | succ f ih =>
    intro u x w hu hx hmax
    by_cases h10 : u < 10
    · have hgt : -10 < x := by omega
      have hlo : x ≤ 0 := by omega
      have HX : Hid (x = -(u : Int)) := hx
      clear hx ih
      have hdg := dig_nat ⟨u, h10⟩
      have hdd : Lib.decDigits u = [UInt8.ofNat (48 + u)] := by rw [Lib.decDigits, dif_pos h10]
      simp only at hdg
      generalize UInt8.ofNat (48 + u) = c at *
      have HG : Hid (c.toNat = 48 + u) := hdg
      have HD : Hid (Lib.decDigits u = [c]) := hdd
      clear hdg hdd
      go_enter Tryd.func49, Tryd.ntmps49
      go_wp2_with fail
      refine (byte_any c _ (by have := HX.out; have := HG.out; omega) _).mono ?_
      rintro e w' ⟨rfl, hb⟩
      go_wp2_with fail
      go_ret
      exact ⟨by rw [HD.out]; rfl, hb⟩
    · have hgt : ¬ -10 < x := by omega
      have hlo : -9223372036854775807 ≤ x := by omega
      have hhi : x ≤ 0 := by omega
      have hdg := dig_nat ⟨u % 10, by omega⟩
      have hdd : Lib.decDigits u = Lib.decDigits (u / 10) ++ [UInt8.ofNat (48 + u % 10)] := by rw [Lib.decDigits, dif_neg h10]
      simp only at hdg
      generalize UInt8.ofNat (48 + u % 10) = c at *
      have HG : Hid (c.toNat = 48 + u % 10) := hdg
      have HD : Hid (Lib.decDigits u = Lib.decDigits (u / 10) ++ [c]) := hdd
      have HX : Hid (x = -(u : Int)) := hx
      have HI : Hid _ := ih
      have ht1 : x.tdiv 10 = -((u / 10 : Nat) : Int) := by rw [hx, Int.neg_tdiv]; simp
      have ht2 : x.tmod 10 = -((u % 10 : Nat) : Int) := by rw [hx, Int.neg_tmod, Int.tmod_eq_emod_of_nonneg (by omega)]; omega
      have hl := decDigits_le19 (u / 10) (by omega)
      have hr1 : -9 ≤ x.tmod 10 := by omega
      have hr2 : x.tmod 10 ≤ 0 := by omega
      have HT1 : Hid (x.tdiv 10 = -((u / 10 : Nat) : Int)) := ht1
      have HT2 : Hid (x.tmod 10 = -((u % 10 : Nat) : Int)) := ht2
      clear hx hdg hdd ih ht1 ht2
      go_enter Tryd.func49, Tryd.ntmps49
      go_wp2_with fail
      refine (HI.out (u / 10) _ _ (by omega) HT1.out (by omega)).mono ?_
      rintro e w1 ⟨rfl, hb1⟩
      go_wp2_with fail
      refine (byte_any c _ ?_ _).mono ?_
      · have h1 := HT2.out
        have h2 := HG.out
        omega
      rintro e w2 ⟨rfl, hb2⟩
      go_wp2_with fail
      go_ret
      refine ⟨?_, hb1.trans (hb2.mono hb1.size)⟩
      rw [HD.out, ← str_append]
      rfl

theorem decimal_any (u : Nat) (hu : u ≤ 9223372036854775807) (w : World) :
    Calls Tryd.prog 36 #[.int .i64 u] w fun e w' => e = .returned (.string ⟨(Lib.decDigits u).toArray⟩) ∧ Below w.heap.size w w' := by
  have h0 : ¬ (u : Int) < 0 := by omega
  go_enter Tryd.func36, Tryd.ntmps36
  go_wp2_with fail
  refine (below_any (u + 1) u _ _ (by omega) (by omega) hu).mono ?_
  rintro e w1 ⟨rfl, hb1⟩
  go_wp2_with fail
  go_ret
  exact ⟨rfl, hb1⟩
end Go.Proofs.YtcbcjefefmbccabDoor
namespace Go.Proofs
open Go.Shelf
def Tryd.laysM171_ren : Go.Shelf.Ren := ⟨fun | 171 => 33 | 243 => 46 | 246 => 56 | 283 => 60 | 284 => 61 | 285 => 62 | 286 => 63 | 129 => 65 | 317 => 64 | 318 => 66 | 319 => 67 | 320 => 68 | 337 => 69 | 338 => 70 | n => n, fun | 3 => 3 | 9 => 9 | 2 => 2 | 4 => 4 | 171 => 108 | 0 => 0 | 53 => 109 | 37 => 91 | 5 => 5 | 173 => 112 | 212 => 116 | 51 => 23 | 20 => 20 | 213 => 117 | 46 => 76 | 232 => 120 | 233 => 121 | n => n, fun | 17 => 13 | 18 => 14 | 19 => 15 | n => n⟩
theorem Tryd.laysM171 : Go.Proofs.LaysM.n171 Tryd.prog Tryd.laysM171_ren := {
  mixed := by kernel_rfl
  f129 := Tryd.func65.trans (congrArg some (by kernel_rfl))
  f171 := Tryd.func33.trans (congrArg some (by kernel_rfl))
  f243 := Tryd.func46.trans (congrArg some (by kernel_rfl))
  f246 := Tryd.func56.trans (congrArg some (by kernel_rfl))
  f283 := Tryd.func60.trans (congrArg some (by kernel_rfl))
  f284 := Tryd.func61.trans (congrArg some (by kernel_rfl))
  f285 := Tryd.func62.trans (congrArg some (by kernel_rfl))
  f286 := Tryd.func63.trans (congrArg some (by kernel_rfl))
  f317 := Tryd.func64.trans (congrArg some (by kernel_rfl))
  f318 := Tryd.func66.trans (congrArg some (by kernel_rfl))
  f319 := Tryd.func67.trans (congrArg some (by kernel_rfl))
  f320 := Tryd.func68.trans (congrArg some (by kernel_rfl))
  f337 := Tryd.func69.trans (congrArg some (by kernel_rfl))
  f338 := Tryd.func70.trans (congrArg some (by kernel_rfl))
  t0 := Tryd.underlying0
  a0 := Tryd.isAgg0
  z0 := Tryd.sizeOf0
  v0 := Tryd.zeroValue0
  t2 := Tryd.underlying2
  a2 := Tryd.isAgg2
  z2 := Tryd.sizeOf2
  v2 := Tryd.zeroValue2
  t3 := Tryd.underlying3
  a3 := Tryd.isAgg3
  z3 := Tryd.sizeOf3
  v3 := Tryd.zeroValue3
  t4 := Tryd.underlying4
  a4 := Tryd.isAgg4
  z4 := Tryd.sizeOf4
  v4 := Tryd.zeroValue4
  t5 := Tryd.underlying5
  a5 := Tryd.isAgg5
  z5 := Tryd.sizeOf5
  v5 := Tryd.zeroValue5
  t9 := Tryd.underlying9
  a9 := Tryd.isAgg9
  z9 := Tryd.sizeOf9
  v9 := Tryd.zeroValue9
  t20 := Tryd.underlying20
  a20 := Tryd.isAgg20
  z20 := Tryd.sizeOf20
  v20 := Tryd.zeroValue20
  t37 := Tryd.underlying91
  a37 := Tryd.isAgg91
  z37 := Tryd.sizeOf91
  v37 := Tryd.zeroValue91
  t46 := Tryd.underlying76
  a46 := Tryd.isAgg76
  z46 := Tryd.sizeOf76
  v46 := Tryd.zeroValue76
  t51 := Tryd.underlying23
  a51 := Tryd.isAgg23
  z51 := Tryd.sizeOf23
  v51 := Tryd.zeroValue23
  t53 := Tryd.underlying109
  a53 := Tryd.isAgg109
  z53 := Tryd.sizeOf109
  v53 := Tryd.zeroValue109
  t171 := Tryd.underlying108
  a171 := Tryd.isAgg108
  z171 := Tryd.sizeOf108
  v171 := Tryd.zeroValue108
  t173 := Tryd.underlying112
  a173 := Tryd.isAgg112
  z173 := Tryd.sizeOf112
  v173 := Tryd.zeroValue112
  t212 := Tryd.underlying116
  a212 := Tryd.isAgg116
  z212 := Tryd.sizeOf116
  v212 := Tryd.zeroValue116
  t213 := Tryd.underlying117
  a213 := Tryd.isAgg117
  z213 := Tryd.sizeOf117
  t232 := Tryd.underlying120
  a232 := Tryd.isAgg120
  z232 := Tryd.sizeOf120
  v232 := Tryd.zeroValue120
  t233 := Tryd.underlying121
  a233 := Tryd.isAgg121
  z233 := Tryd.sizeOf121
  v233 := Tryd.zeroValue121
  g17 := by kernel_rfl
  g18 := by kernel_rfl
  g19 := by kernel_rfl
  i0 := by kernel_rfl
  i2 := by kernel_rfl
  i3 := by kernel_rfl
  i4 := by kernel_rfl
  i5 := by kernel_rfl
  i9 := by kernel_rfl
  i20 := by kernel_rfl
  i37 := by kernel_rfl
  i46 := by kernel_rfl
  i51 := by kernel_rfl
  i53 := by kernel_rfl
  i171 := by kernel_rfl
  i173 := by kernel_rfl
  i212 := by kernel_rfl
  i232 := by kernel_rfl
  i233 := by kernel_rfl
  m17 := by kernel_rfl
  m18 := by kernel_rfl
  m19 := by kernel_rfl }
open Go.RowKit Go.Sort Go.Lib in
theorem Tryd.strconv_Itoa (n : Int) (h0 : -9223372036854775808 ≤ n) (h1 : n ≤ 9223372036854775807) (w : World) (htab : Lib.TabIs Tryd.prog w "internal/strconv.uint64pow10" .u64 Lib.pow10Tab) :
    Calls Tryd.prog 33 #[.int .i64 n] w fun e w' => e = .returned (.string ⟨(Lib.itoa n).toArray⟩) ∧ ∃ k os, w' = grow (w.drewN k) os := Any.strconv_Itoa Tryd.laysM171 n h0 h1 w htab
end Go.Proofs
