/-
  Own text. The program's recipe.ofName and recipe.Name by contracts.
-/
import Derived.Test.YtjngnnbondejaabDoorRecName
namespace Go.Proofs.YtjngnnbondejaabDoor
open Go.RowKit

set_option maxRecDepth 100000 in
set_option maxHeartbeats 4000000 in
theorem ofName_any (c : UInt8) (w : World) :
    Calls Tryd.prog 70 #[.int .u8 (c.toNat : Int)] w fun e w' => e = .returned (.bool (nameByte c)) ∧ w' = w := by
  have HY0 : Hid (nameByte c = decide ((97 ≤ c.toNat ∧ c.toNat ≤ 122) ∨ (48 ≤ c.toNat ∧ c.toNat ≤ 57) ∨ c.toNat = 46 ∨ c.toNat = 45)) := rfl
  obtain ⟨x, hxx⟩ : ∃ x : Int, (c.toNat : Int) = x := ⟨_, rfl⟩
  have HX : Hid ((c.toNat : Int) = x) := hxx
  rw [hxx]
  clear hxx
  rcases cases8 x with hx | hx | hx | hx | hx | hx | hx | hx
  · -- x < 45
    have e1 : decide (97 ≤ x) = false := by simp; omega
    have e2 : decide (x ≤ 122) = true := by simp; omega
    have e3 : decide (48 ≤ x) = false := by simp; omega
    have e4 : decide (x ≤ 57) = true := by simp; omega
    have f1 : x < 97 := by omega
    have f2 : x ≤ 122 := by omega
    have f3 : x < 48 := by omega
    have f4 : x ≤ 57 := by omega
    have f5 : (x == 46) = false := by rw [beq_eq_false_iff_ne]; omega
    have f6 : (x == 45) = false := by rw [beq_eq_false_iff_ne]; omega
    have HY : Hid (nameByte c = false) := by show _ = _; rw [HY0.out]; have := HX.out; simp; omega
    clear hx
    go_enter Tryd.func70, Tryd.ntmps70
    go_wp2_with fail
    go_ret
    exact ⟨by rw [HY.out]; rfl, rfl⟩
  · -- x = 45
    have e1 : decide (97 ≤ x) = false := by simp; omega
    have e2 : decide (x ≤ 122) = true := by simp; omega
    have e3 : decide (48 ≤ x) = false := by simp; omega
    have e4 : decide (x ≤ 57) = true := by simp; omega
    have f1 : x < 97 := by omega
    have f2 : x ≤ 122 := by omega
    have f3 : x < 48 := by omega
    have f4 : x ≤ 57 := by omega
    have f5 : (x == 46) = false := by rw [beq_eq_false_iff_ne]; omega
    have f6 : (x == 45) = true := by rw [beq_iff_eq]; omega
    have HY : Hid (nameByte c = true) := by show _ = _; rw [HY0.out]; have := HX.out; simp; omega
    clear hx
    go_enter Tryd.func70, Tryd.ntmps70
    go_wp2_with fail
    go_ret
    exact ⟨by rw [HY.out]; rfl, rfl⟩
  · -- x = 46
    have e1 : decide (97 ≤ x) = false := by simp; omega
    have e2 : decide (x ≤ 122) = true := by simp; omega
    have e3 : decide (48 ≤ x) = false := by simp; omega
    have e4 : decide (x ≤ 57) = true := by simp; omega
    have f1 : x < 97 := by omega
    have f2 : x ≤ 122 := by omega
    have f3 : x < 48 := by omega
    have f4 : x ≤ 57 := by omega
    have f5 : (x == 46) = true := by rw [beq_iff_eq]; omega
    have f6 : (x == 45) = false := by rw [beq_eq_false_iff_ne]; omega
    have HY : Hid (nameByte c = true) := by show _ = _; rw [HY0.out]; have := HX.out; simp; omega
    clear hx
    go_enter Tryd.func70, Tryd.ntmps70
    go_wp2_with fail
    go_ret
    exact ⟨by rw [HY.out]; rfl, rfl⟩
  · -- x = 47
    have e1 : decide (97 ≤ x) = false := by simp; omega
    have e2 : decide (x ≤ 122) = true := by simp; omega
    have e3 : decide (48 ≤ x) = false := by simp; omega
    have e4 : decide (x ≤ 57) = true := by simp; omega
    have f1 : x < 97 := by omega
    have f2 : x ≤ 122 := by omega
    have f3 : x < 48 := by omega
    have f4 : x ≤ 57 := by omega
    have f5 : (x == 46) = false := by rw [beq_eq_false_iff_ne]; omega
    have f6 : (x == 45) = false := by rw [beq_eq_false_iff_ne]; omega
    have HY : Hid (nameByte c = false) := by show _ = _; rw [HY0.out]; have := HX.out; simp; omega
    clear hx
    go_enter Tryd.func70, Tryd.ntmps70
    go_wp2_with fail
    go_ret
    exact ⟨by rw [HY.out]; rfl, rfl⟩
  · -- 48..57
    have e1 : decide (97 ≤ x) = false := by simp; omega
    have e2 : decide (x ≤ 122) = true := by simp; omega
    have e3 : decide (48 ≤ x) = true := by simp; omega
    have e4 : decide (x ≤ 57) = true := by simp; omega
    have f1 : x < 97 := by omega
    have f2 : x ≤ 122 := by omega
    have f3 : 48 ≤ x := by omega
    have f4 : x ≤ 57 := by omega
    have f5 : (x == 46) = false := by rw [beq_eq_false_iff_ne]; omega
    have f6 : (x == 45) = false := by rw [beq_eq_false_iff_ne]; omega
    have HY : Hid (nameByte c = true) := by show _ = _; rw [HY0.out]; have := HX.out; simp; omega
    clear hx
    go_enter Tryd.func70, Tryd.ntmps70
    go_wp2_with fail
    go_ret
    exact ⟨by rw [HY.out]; rfl, rfl⟩
  · -- 58..96
    have e1 : decide (97 ≤ x) = false := by simp; omega
    have e2 : decide (x ≤ 122) = true := by simp; omega
    have e3 : decide (48 ≤ x) = true := by simp; omega
    have e4 : decide (x ≤ 57) = false := by simp; omega
    have f1 : x < 97 := by omega
    have f2 : x ≤ 122 := by omega
    have f3 : 48 ≤ x := by omega
    have f4 : 57 < x := by omega
    have f5 : (x == 46) = false := by rw [beq_eq_false_iff_ne]; omega
    have f6 : (x == 45) = false := by rw [beq_eq_false_iff_ne]; omega
    have HY : Hid (nameByte c = false) := by show _ = _; rw [HY0.out]; have := HX.out; simp; omega
    clear hx
    go_enter Tryd.func70, Tryd.ntmps70
    go_wp2_with fail
    go_ret
    exact ⟨by rw [HY.out]; rfl, rfl⟩
  · -- 97..122
    have e1 : decide (97 ≤ x) = true := by simp; omega
    have e2 : decide (x ≤ 122) = true := by simp; omega
    have e3 : decide (48 ≤ x) = true := by simp; omega
    have e4 : decide (x ≤ 57) = false := by simp; omega
    have f1 : 97 ≤ x := by omega
    have f2 : x ≤ 122 := by omega
    have f3 : 48 ≤ x := by omega
    have f4 : 57 < x := by omega
    have f5 : (x == 46) = false := by rw [beq_eq_false_iff_ne]; omega
    have f6 : (x == 45) = false := by rw [beq_eq_false_iff_ne]; omega
    have HY : Hid (nameByte c = true) := by show _ = _; rw [HY0.out]; have := HX.out; simp; omega
    clear hx
    go_enter Tryd.func70, Tryd.ntmps70
    go_wp2_with fail
    go_ret
    exact ⟨by rw [HY.out]; rfl, rfl⟩
  · -- 123..
    have e1 : decide (97 ≤ x) = true := by simp; omega
    have e2 : decide (x ≤ 122) = false := by simp; omega
    have e3 : decide (48 ≤ x) = true := by simp; omega
    have e4 : decide (x ≤ 57) = false := by simp; omega
    have f1 : 97 ≤ x := by omega
    have f2 : 122 < x := by omega
    have f3 : 48 ≤ x := by omega
    have f4 : 57 < x := by omega
    have f5 : (x == 46) = false := by rw [beq_eq_false_iff_ne]; omega
    have f6 : (x == 45) = false := by rw [beq_eq_false_iff_ne]; omega
    have HY : Hid (nameByte c = false) := by show _ = _; rw [HY0.out]; have := HX.out; simp; omega
    clear hx
    go_enter Tryd.func70, Tryd.ntmps70
    go_wp2_with fail
    go_ret
    exact ⟨by rw [HY.out]; rfl, rfl⟩

theorem nameEmpty (s : ByteArray) (h : s.size < 1) : s = ⟨#[]⟩ := by
  apply ByteArray.ext; apply Array.eq_empty_of_size_eq_zero; have : s.data.size = s.size := rfl; omega
theorem notEmpty {s : ByteArray} (h : 1 ≤ s.size) : s.toList.isEmpty = false := by
  rw [← decide_eq_emptyBytes, decide_eq_false_iff_not]
  rintro rfl
  simp at h
set_option maxRecDepth 100000 in
set_option maxHeartbeats 4000000 in
theorem name_any (s : ByteArray) (hs : s.size ≤ maxLen) (w : World) :
    Calls Tryd.prog 51 #[.string s] w fun e w' => e = .returned (.bool (isName s.data.toList)) ∧ w' = w := by
  have HSL : Hid (s.data.toList.length = s.size) := by show _ = _; rw [Array.length_toList]; rfl
  have hs2 : (s.size : Int) ≤ 9223372036854775807 := by unfold maxLen at hs; omega
  clear hs
  by_cases h1 : s.size < 1
  · have e := nameEmpty s h1
    subst e
    clear h1
    go_enter Tryd.func51, Tryd.ntmps51
    go_wp2_with fail
    go_ret
    exact ⟨rfl, rfl⟩
  have he := notEmpty (show 1 ≤ s.size by omega)
  by_cases h12 : 12 < s.size
  · have h12' : (12 : Int) < (s.size : Int) := by omega
    have HV : Hid (isName s.data.toList = false) := by show _ = _; unfold isName; rw [HSL.out]; simp; omega
    clear h1 h12
    go_enter Tryd.func51, Tryd.ntmps51
    go_wp2_with fail
    go_ret
    exact ⟨by rw [HV.out]; rfl, rfl⟩
  have h12' : ¬ (12 : Int) < (s.size : Int) := by omega
  have h12d : decide ((12 : Int) < (s.size : Int)) = false := by simp; omega
  have HLE : Hid (1 ≤ s.size ∧ s.size ≤ 12) := ⟨by omega, by omega⟩
  clear h1 h12
  go_enter Tryd.func51, Tryd.ntmps51
  go_wp2_with fail
  go_loopw [13] (fun i wr => ∃ (k : Nat), k ≤ s.size ∧ i = .int .i64 k ∧ (s.data.toList.take k).all nameByte = true ∧ wr = w) (fun i _ => s.size - (intOf i).toNat)
  case atStart => exact ⟨0, Nat.zero_le _, rfl, rfl, rfl⟩
  case round =>
    obtain ⟨k, hk, rfl, ht, rfl⟩ := hrel
    have HT : Hid ((s.data.toList.take k).all nameByte = true) := ht
    clear ht
    by_cases hlt : k < s.size
    · have HG : Hid (s.data.toList[k]? = some s[k]) := by show _ = _; rw [List.getElem?_eq_getElem (by rw [HSL.out]; exact hlt)]; rfl
      have hlt' : (k : Int) < (s.size : Int) := by omega
      obtain ⟨bv, hbv⟩ : ∃ b, nameByte s[k] = b := ⟨_, rfl⟩
      have HB : Hid (nameByte s[k] = bv) := hbv
      clear hbv
      go_wp2_with fail
      refine (ofName_any s[k] _).mono ?_
      rintro e w1 ⟨rfl, hw1⟩
      subst hw1
      rw [HB.out]
      cases bv with
      | true =>
        go_wp2_with fail
        go_roundw
        case rel => exact ⟨k + 1, by omega, by go_num, nameTo_next HT.out HG.out HB.out, trivial⟩
        case measure => simp [intOf]; omega
      | false =>
        go_wp2_with fail
        go_ret
        exact ⟨by rw [isName_bad (HG.out) HB.out]; rfl, rfl⟩
    · have hge : (s.size : Int) ≤ (k : Int) := by omega
      have HV : Hid (isName s.data.toList = true) := by
        show _ = _
        have hall := HT.out
        rw [List.take_of_length_le (by rw [HSL.out]; omega)] at hall
        unfold isName
        rw [hall, HSL.out]
        have := HLE.out
        simp
        omega
      go_wp2_with fail
      go_ret
      exact ⟨by rw [HV.out]; rfl, rfl⟩
end Go.Proofs.YtjngnnbondejaabDoor
