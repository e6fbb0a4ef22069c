/-
  Own text. Decimal digits written: the document's Byte, below, Decimal by contracts.
-/
import Derived.Test.YtmjdgakokldliaaGreatDoorPrint
import Derived.Laws.IdiomStrings
namespace Go.Proofs.YtmjdgakokldliaaGreatDoor
open Go.RowKit

set_option maxHeartbeats 1000000 in
theorem byte_any (c : UInt8) (x : Int) (hx : x = c.toNat) (w : World) :
    Calls Tryz.prog 141 #[.int .i64 x] w fun e w' => e = .returned (.string ⟨#[c]⟩) ∧ Below w.heap.size w w' := by
  subst hx
  have hcv : (convert 124 9 (.slice (some ⟨w.heap.size, 0, none⟩) 1 1)).run Tryz.prog (w.alloc (.cells #[.int .u8 (c.toNat : Int)] 5)) = .ok (.string ⟨#[c]⟩) (w.alloc (.cells #[.int .u8 (c.toNat : Int)] 5)) := by
    have := run_convert_bytes_back (P := Tryz.prog) (w.alloc (.cells #[.int .u8 (c.toNat : Int)] 5)) 124 9 5 ⟨w.heap.size, 0, none⟩ 1 [c] Tryz.underlying124 Tryz.underlying5 Tryz.underlying9 (fun j hj => by
      have hj0 : j = 0 := by simpa using hj
      subst hj0
      have hp : (⟨w.heap.size, 0, none⟩ : Addr).add 0 = ⟨w.heap.size, 0, none⟩ := by unfold Addr.add; split <;> simp_all
      rw [hp]
      simp)
    simpa using this
  have hn := c.toNat_lt
  have hn' : (c.toNat : Int) % 256 = c.toNat := by omega
  clear hn
  go_enter Tryz.func141, Tryz.ntmps141
  go_wp2
  go_ret
  exact ⟨rfl, (Below.refl _ _).alloc (Nat.le_refl _) _⟩

theorem str_append (a b : List UInt8) : (⟨a.toArray⟩ : ByteArray) ++ ⟨b.toArray⟩ = ⟨(a ++ b).toArray⟩ := by
  apply ByteArray.ext
  simp [ByteArray.data_append]
theorem decDigits_le19 (u : Nat) (h : u ≤ 9223372036854775807) : (Lib.decDigits u).length ≤ 19 := by
  have h4 : (10 : Nat) ^ 19 = 10000000000000000000 := by decide
  exact decDigits_len_le u 19 (by decide) (by rw [h4]; omega)
theorem dig_nat : ∀ d : Fin 10, (UInt8.ofNat (48 + d.val)).toNat = 48 + d.val := by decide

set_option maxHeartbeats 1000000 in
theorem below_any (f : Nat) : ∀ (u : Nat) (x : Int) (w : World), u < f → x = -(u : Int) → u ≤ 9223372036854775807 →
    Calls Tryz.prog 112 #[.int .i64 x] w fun e w' => e = .returned (.string ⟨(Lib.decDigits u).toArray⟩) ∧ Below w.heap.size w w' := by
  induction f with
  | zero => intro u x w h; omega
  | succ f ih =>
    intro u x w hu hx hmax
    by_cases h10 : u < 10
    · have hgt : -10 < x := by omega
      have hlo : x ≤ 0 := by omega
      have HX : Hid (x = -(u : Int)) := hx
      clear hx ih
      have hdg := dig_nat ⟨u, h10⟩
      have hdd : Lib.decDigits u = [UInt8.ofNat (48 + u)] := by rw [Lib.decDigits, dif_pos h10]
      simp only at hdg
      generalize UInt8.ofNat (48 + u) = c at *
      have HG : Hid (c.toNat = 48 + u) := hdg
      have HD : Hid (Lib.decDigits u = [c]) := hdd
      clear hdg hdd
      go_enter Tryz.func112, Tryz.ntmps112
      go_wp2_with fail
      refine (byte_any c _ (by have := HX.out; have := HG.out; omega) _).mono ?_
      rintro e w' ⟨rfl, hb⟩
      go_wp2_with fail
      go_ret
      exact ⟨by rw [HD.out]; rfl, hb⟩
    · have hgt : ¬ -10 < x := by omega
      have hlo : -9223372036854775807 ≤ x := by omega
      have hhi : x ≤ 0 := by omega
      have hdg := dig_nat ⟨u % 10, by omega⟩
      have hdd : Lib.decDigits u = Lib.decDigits (u / 10) ++ [UInt8.ofNat (48 + u % 10)] := by rw [Lib.decDigits, dif_neg h10]
      simp only at hdg
      generalize UInt8.ofNat (48 + u % 10) = c at *
      have HG : Hid (c.toNat = 48 + u % 10) := hdg
      have HD : Hid (Lib.decDigits u = Lib.decDigits (u / 10) ++ [c]) := hdd
      have HX : Hid (x = -(u : Int)) := hx
      have HI : Hid _ := ih
      have ht1 : x.tdiv 10 = -((u / 10 : Nat) : Int) := by rw [hx, Int.neg_tdiv]; simp
      have ht2 : x.tmod 10 = -((u % 10 : Nat) : Int) := by rw [hx, Int.neg_tmod, Int.tmod_eq_emod_of_nonneg (by omega)]; omega
      have hl := decDigits_le19 (u / 10) (by omega)
      have hr1 : -9 ≤ x.tmod 10 := by omega
      have hr2 : x.tmod 10 ≤ 0 := by omega
      have HT1 : Hid (x.tdiv 10 = -((u / 10 : Nat) : Int)) := ht1
      have HT2 : Hid (x.tmod 10 = -((u % 10 : Nat) : Int)) := ht2
      clear hx hdg hdd ih ht1 ht2
      go_enter Tryz.func112, Tryz.ntmps112
      go_wp2_with fail
      refine (HI.out (u / 10) _ _ (by omega) HT1.out (by omega)).mono ?_
      rintro e w1 ⟨rfl, hb1⟩
      go_wp2_with fail
      refine (byte_any c _ ?_ _).mono ?_
      · have h1 := HT2.out
        have h2 := HG.out
        omega
      rintro e w2 ⟨rfl, hb2⟩
      go_wp2_with fail
      go_ret
      refine ⟨?_, hb1.trans (hb2.mono hb1.size)⟩
      rw [HD.out, ← str_append]
      rfl

theorem decimal_any (u : Nat) (hu : u ≤ 9223372036854775807) (w : World) :
    Calls Tryz.prog 70 #[.int .i64 u] w fun e w' => e = .returned (.string ⟨(Lib.decDigits u).toArray⟩) ∧ Below w.heap.size w w' := by
  have h0 : ¬ (u : Int) < 0 := by omega
  go_enter Tryz.func70, Tryz.ntmps70
  go_wp2_with fail
  refine (below_any (u + 1) u _ _ (by omega) (by omega) hu).mono ?_
  rintro e w1 ⟨rfl, hb1⟩
  go_wp2_with fail
  go_ret
  exact ⟨rfl, hb1⟩
end Go.Proofs.YtmjdgakokldliaaGreatDoor
