/-
  Own text. Recipes, pure: names, a recipe's fault; and the document's IsName, Bare, Fine by contracts.
-/
import Derived.Test.YtjngnnbondejaabDoorChecked
import Derived.WalkKit
import Derived.Lib.Strings
namespace Go.Proofs.YtjngnnbondejaabDoor
open Go.RowKit

def nameByte (c : UInt8) : Bool := decide ((97 ≤ c.toNat ∧ c.toNat ≤ 122) ∨ (48 ≤ c.toNat ∧ c.toNat ≤ 57) ∨ c.toNat = 46 ∨ c.toNat = 45)
def isName (l : List UInt8) : Bool := l.all nameByte && (decide (1 ≤ l.length) && decide (l.length ≤ 12))
theorem isName_bad {l : List UInt8} {k : Nat} {c : UInt8} (h : l[k]? = some c) (hc : nameByte c = false) : isName l = false := by
  unfold isName
  rw [Bool.and_eq_false_iff]
  left
  rw [List.all_eq_false]
  exact ⟨c, List.mem_of_getElem? h, by rw [hc]; simp⟩
theorem nameTo_next {l : List UInt8} {k : Nat} {c : UInt8} (h : (l.take k).all nameByte = true) (hg : l[k]? = some c) (hc : nameByte c = true) : (l.take (k + 1)).all nameByte = true := by
  obtain ⟨hk, rfl⟩ := List.getElem?_eq_some_iff.1 hg
  rw [List.take_succ_eq_append_getElem hk, List.all_append, h]
  simp [hc]
theorem cases8 (x : Int) : x < 45 ∨ x = 45 ∨ x = 46 ∨ x = 47 ∨ (48 ≤ x ∧ x ≤ 57) ∨ (58 ≤ x ∧ x ≤ 96) ∨ (97 ≤ x ∧ x ≤ 122) ∨ 123 ≤ x := by
  rcases Int.lt_or_le x 45 with h | h
  · exact .inl h
  · omega

set_option maxRecDepth 100000 in
set_option maxHeartbeats 4000000 in
theorem refIsName_any (s : ByteArray) (hs : s.size ≤ maxLen) (w : World) :
    Calls Tryd.prog 54 #[.string s] w fun e w' => e = .returned (.bool (isName s.data.toList)) ∧ w' = w := by
  have HSL : Hid (s.data.toList.length = s.size) := by show _ = _; rw [Array.length_toList]; rfl
  have hs2 : (s.size : Int) ≤ 9223372036854775807 := by unfold maxLen at hs; omega
  clear hs
  go_enter Tryd.func54, Tryd.ntmps54
  go_wp2_with fail
  go_loopw [3] (fun i wr => ∃ (k : Nat), k ≤ s.size ∧ i = .int .i64 k ∧ (s.data.toList.take k).all nameByte = true ∧ wr = w) (fun i _ => s.size - (intOf i).toNat)
  case atStart => exact ⟨0, Nat.zero_le _, rfl, rfl, rfl⟩
  case round =>
    obtain ⟨k, hk, rfl, ht, rfl⟩ := hrel
    have HT : Hid ((s.data.toList.take k).all nameByte = true) := ht
    clear ht
    by_cases hlt : k < s.size
    · have HG : Hid (s.data.toList[k]? = some s[k]) := by show _ = _; rw [List.getElem?_eq_getElem (by rw [HSL.out]; exact hlt)]; rfl
      have hlt' : (k : Int) < (s.size : Int) := by omega
      rcases cases8 (s[k].toNat : Int) with hx | hx | hx | hx | hx | hx | hx | hx
      · -- x < 45
        have f1 : (s[k].toNat : Int) < 97 := by omega
        have f2 : (s[k].toNat : Int) ≤ 122 := by omega
        have f3 : (s[k].toNat : Int) < 48 := by omega
        have f4 : (s[k].toNat : Int) ≤ 57 := by omega
        have f5 : ((s[k].toNat : Int) == 46) = false := by rw [beq_eq_false_iff_ne]; omega
        have f6 : ((s[k].toNat : Int) == 45) = false := by rw [beq_eq_false_iff_ne]; omega
        have e1 : decide (97 ≤ (s[k].toNat : Int)) = false := by simp; omega
        have e2 : decide ((s[k].toNat : Int) ≤ 122) = true := by simp; omega
        have e3 : decide (48 ≤ (s[k].toNat : Int)) = false := by simp; omega
        have e4 : decide ((s[k].toNat : Int) ≤ 57) = true := by simp; omega
        have g5 : ((s[k].toNat : Int) != 46) = true := by rw [bne, f5]; rfl
        have g6 : ((s[k].toNat : Int) != 45) = true := by rw [bne, f6]; rfl
        have HY : Hid (nameByte s[k] = false) := by show _ = _; unfold nameByte; simp only [decide_eq_false_iff_not]; omega
        clear hx
        go_wp2_with fail
        go_ret
        exact ⟨by rw [isName_bad (HG.out) HY.out]; rfl, rfl⟩
      · -- x = 45
        have f1 : (s[k].toNat : Int) < 97 := by omega
        have f2 : (s[k].toNat : Int) ≤ 122 := by omega
        have f3 : (s[k].toNat : Int) < 48 := by omega
        have f4 : (s[k].toNat : Int) ≤ 57 := by omega
        have f5 : ((s[k].toNat : Int) == 46) = false := by rw [beq_eq_false_iff_ne]; omega
        have f6 : ((s[k].toNat : Int) == 45) = true := by rw [beq_iff_eq]; omega
        have e1 : decide (97 ≤ (s[k].toNat : Int)) = false := by simp; omega
        have e2 : decide ((s[k].toNat : Int) ≤ 122) = true := by simp; omega
        have e3 : decide (48 ≤ (s[k].toNat : Int)) = false := by simp; omega
        have e4 : decide ((s[k].toNat : Int) ≤ 57) = true := by simp; omega
        have g5 : ((s[k].toNat : Int) != 46) = true := by rw [bne, f5]; rfl
        have g6 : ((s[k].toNat : Int) != 45) = false := by rw [bne, f6]; rfl
        have HY : Hid (nameByte s[k] = true) := by show _ = _; unfold nameByte; simp only [decide_eq_true_eq]; omega
        clear hx
        go_wp2_with fail
        go_roundw
        case rel => exact ⟨k + 1, by omega, by go_num, nameTo_next HT.out (HG.out) HY.out, trivial⟩
        case measure => simp [intOf]; omega
      · -- x = 46
        have f1 : (s[k].toNat : Int) < 97 := by omega
        have f2 : (s[k].toNat : Int) ≤ 122 := by omega
        have f3 : (s[k].toNat : Int) < 48 := by omega
        have f4 : (s[k].toNat : Int) ≤ 57 := by omega
        have f5 : ((s[k].toNat : Int) == 46) = true := by rw [beq_iff_eq]; omega
        have f6 : ((s[k].toNat : Int) == 45) = false := by rw [beq_eq_false_iff_ne]; omega
        have e1 : decide (97 ≤ (s[k].toNat : Int)) = false := by simp; omega
        have e2 : decide ((s[k].toNat : Int) ≤ 122) = true := by simp; omega
        have e3 : decide (48 ≤ (s[k].toNat : Int)) = false := by simp; omega
        have e4 : decide ((s[k].toNat : Int) ≤ 57) = true := by simp; omega
        have g5 : ((s[k].toNat : Int) != 46) = false := by rw [bne, f5]; rfl
        have g6 : ((s[k].toNat : Int) != 45) = true := by rw [bne, f6]; rfl
        have HY : Hid (nameByte s[k] = true) := by show _ = _; unfold nameByte; simp only [decide_eq_true_eq]; omega
        clear hx
        go_wp2_with fail
        go_roundw
        case rel => exact ⟨k + 1, by omega, by go_num, nameTo_next HT.out (HG.out) HY.out, trivial⟩
        case measure => simp [intOf]; omega
      · -- x = 47
        have f1 : (s[k].toNat : Int) < 97 := by omega
        have f2 : (s[k].toNat : Int) ≤ 122 := by omega
        have f3 : (s[k].toNat : Int) < 48 := by omega
        have f4 : (s[k].toNat : Int) ≤ 57 := by omega
        have f5 : ((s[k].toNat : Int) == 46) = false := by rw [beq_eq_false_iff_ne]; omega
        have f6 : ((s[k].toNat : Int) == 45) = false := by rw [beq_eq_false_iff_ne]; omega
        have e1 : decide (97 ≤ (s[k].toNat : Int)) = false := by simp; omega
        have e2 : decide ((s[k].toNat : Int) ≤ 122) = true := by simp; omega
        have e3 : decide (48 ≤ (s[k].toNat : Int)) = false := by simp; omega
        have e4 : decide ((s[k].toNat : Int) ≤ 57) = true := by simp; omega
        have g5 : ((s[k].toNat : Int) != 46) = true := by rw [bne, f5]; rfl
        have g6 : ((s[k].toNat : Int) != 45) = true := by rw [bne, f6]; rfl
        have HY : Hid (nameByte s[k] = false) := by show _ = _; unfold nameByte; simp only [decide_eq_false_iff_not]; omega
        clear hx
        go_wp2_with fail
        go_ret
        exact ⟨by rw [isName_bad (HG.out) HY.out]; rfl, rfl⟩
      · -- 48..57
        have f1 : (s[k].toNat : Int) < 97 := by omega
        have f2 : (s[k].toNat : Int) ≤ 122 := by omega
        have f3 : 48 ≤ (s[k].toNat : Int) := by omega
        have f4 : (s[k].toNat : Int) ≤ 57 := by omega
        have f5 : ((s[k].toNat : Int) == 46) = false := by rw [beq_eq_false_iff_ne]; omega
        have f6 : ((s[k].toNat : Int) == 45) = false := by rw [beq_eq_false_iff_ne]; omega
        have e1 : decide (97 ≤ (s[k].toNat : Int)) = false := by simp; omega
        have e2 : decide ((s[k].toNat : Int) ≤ 122) = true := by simp; omega
        have e3 : decide (48 ≤ (s[k].toNat : Int)) = true := by simp; omega
        have e4 : decide ((s[k].toNat : Int) ≤ 57) = true := by simp; omega
        have g5 : ((s[k].toNat : Int) != 46) = true := by rw [bne, f5]; rfl
        have g6 : ((s[k].toNat : Int) != 45) = true := by rw [bne, f6]; rfl
        have HY : Hid (nameByte s[k] = true) := by show _ = _; unfold nameByte; simp only [decide_eq_true_eq]; omega
        clear hx
        go_wp2_with fail
        go_roundw
        case rel => exact ⟨k + 1, by omega, by go_num, nameTo_next HT.out (HG.out) HY.out, trivial⟩
        case measure => simp [intOf]; omega
      · -- 58..96
        have f1 : (s[k].toNat : Int) < 97 := by omega
        have f2 : (s[k].toNat : Int) ≤ 122 := by omega
        have f3 : 48 ≤ (s[k].toNat : Int) := by omega
        have f4 : 57 < (s[k].toNat : Int) := by omega
        have f5 : ((s[k].toNat : Int) == 46) = false := by rw [beq_eq_false_iff_ne]; omega
        have f6 : ((s[k].toNat : Int) == 45) = false := by rw [beq_eq_false_iff_ne]; omega
        have e1 : decide (97 ≤ (s[k].toNat : Int)) = false := by simp; omega
        have e2 : decide ((s[k].toNat : Int) ≤ 122) = true := by simp; omega
        have e3 : decide (48 ≤ (s[k].toNat : Int)) = true := by simp; omega
        have e4 : decide ((s[k].toNat : Int) ≤ 57) = false := by simp; omega
        have g5 : ((s[k].toNat : Int) != 46) = true := by rw [bne, f5]; rfl
        have g6 : ((s[k].toNat : Int) != 45) = true := by rw [bne, f6]; rfl
        have HY : Hid (nameByte s[k] = false) := by show _ = _; unfold nameByte; simp only [decide_eq_false_iff_not]; omega
        clear hx
        go_wp2_with fail
        go_ret
        exact ⟨by rw [isName_bad (HG.out) HY.out]; rfl, rfl⟩
      · -- 97..122
        have f1 : 97 ≤ (s[k].toNat : Int) := by omega
        have f2 : (s[k].toNat : Int) ≤ 122 := by omega
        have f3 : 48 ≤ (s[k].toNat : Int) := by omega
        have f4 : 57 < (s[k].toNat : Int) := by omega
        have f5 : ((s[k].toNat : Int) == 46) = false := by rw [beq_eq_false_iff_ne]; omega
        have f6 : ((s[k].toNat : Int) == 45) = false := by rw [beq_eq_false_iff_ne]; omega
        have e1 : decide (97 ≤ (s[k].toNat : Int)) = true := by simp; omega
        have e2 : decide ((s[k].toNat : Int) ≤ 122) = true := by simp; omega
        have e3 : decide (48 ≤ (s[k].toNat : Int)) = true := by simp; omega
        have e4 : decide ((s[k].toNat : Int) ≤ 57) = false := by simp; omega
        have g5 : ((s[k].toNat : Int) != 46) = true := by rw [bne, f5]; rfl
        have g6 : ((s[k].toNat : Int) != 45) = true := by rw [bne, f6]; rfl
        have HY : Hid (nameByte s[k] = true) := by show _ = _; unfold nameByte; simp only [decide_eq_true_eq]; omega
        clear hx
        go_wp2_with fail
        go_roundw
        case rel => exact ⟨k + 1, by omega, by go_num, nameTo_next HT.out (HG.out) HY.out, trivial⟩
        case measure => simp [intOf]; omega
      · -- 123..
        have f1 : 97 ≤ (s[k].toNat : Int) := by omega
        have f2 : 122 < (s[k].toNat : Int) := by omega
        have f3 : 48 ≤ (s[k].toNat : Int) := by omega
        have f4 : 57 < (s[k].toNat : Int) := by omega
        have f5 : ((s[k].toNat : Int) == 46) = false := by rw [beq_eq_false_iff_ne]; omega
        have f6 : ((s[k].toNat : Int) == 45) = false := by rw [beq_eq_false_iff_ne]; omega
        have e1 : decide (97 ≤ (s[k].toNat : Int)) = true := by simp; omega
        have e2 : decide ((s[k].toNat : Int) ≤ 122) = false := by simp; omega
        have e3 : decide (48 ≤ (s[k].toNat : Int)) = true := by simp; omega
        have e4 : decide ((s[k].toNat : Int) ≤ 57) = false := by simp; omega
        have g5 : ((s[k].toNat : Int) != 46) = true := by rw [bne, f5]; rfl
        have g6 : ((s[k].toNat : Int) != 45) = true := by rw [bne, f6]; rfl
        have HY : Hid (nameByte s[k] = false) := by show _ = _; unfold nameByte; simp only [decide_eq_false_iff_not]; omega
        clear hx
        go_wp2_with fail
        go_ret
        exact ⟨by rw [isName_bad (HG.out) HY.out]; rfl, rfl⟩
    · have hge : (s.size : Int) ≤ (k : Int) := by omega
      have hall : s.data.toList.all nameByte = true := by
        have := HT.out
        rwa [List.take_of_length_le (by rw [HSL.out]; omega)] at this
      have HN : Hid (isName s.data.toList = (decide (1 ≤ s.size) && decide (s.size ≤ 12))) := by
        show _ = _
        unfold isName
        rw [hall, HSL.out, Bool.true_and]
      clear hall
      by_cases h1 : 1 ≤ s.size
      · have h1' : (1 : Int) ≤ (s.size : Int) := by omega
        by_cases h12 : s.size ≤ 12
        · have h12' : (s.size : Int) ≤ 12 := by omega
          have h12d : decide ((s.size : Int) ≤ 12) = true := by simp; omega
          have HV : Hid (isName s.data.toList = true) := by show _ = _; rw [HN.out]; simp [h1, h12]
          clear h1 h12
          go_wp2_with fail
          go_ret
          exact ⟨by rw [HV.out]; rfl, rfl⟩
        · have h12' : (12 : Int) < (s.size : Int) := by omega
          have h12d : decide ((s.size : Int) ≤ 12) = false := by simp; omega
          have HV : Hid (isName s.data.toList = false) := by show _ = _; rw [HN.out]; simp; omega
          clear h1 h12
          go_wp2_with fail
          go_ret
          exact ⟨by rw [HV.out]; rfl, rfl⟩
      · have h1' : (s.size : Int) < 1 := by omega
        have HV : Hid (isName s.data.toList = false) := by show _ = _; rw [HN.out]; simp; omega
        clear h1
        go_wp2_with fail
        go_ret
        exact ⟨by rw [HV.out]; rfl, rfl⟩

abbrev faultV (c a : Int) : Value := .agg #[.int .i64 c, .int .i64 a]
theorem bare_any (c : Int) (w : World) : Calls Tryd.prog 43 #[.int .i64 c] w fun e w' => e = .returned (faultV c (-1)) ∧ Below w.heap.size w w' := by
  go_enter Tryd.func43, Tryd.ntmps43
  go_wp2_with fail
  exact bodyPost_ret (v := faultV c (-1)) (by simp [results, Tryd.results43, go_sem]) rfl ⟨rfl, (Below.refl _ w).alloc (Nat.le_refl _) _⟩
theorem fine_any (w : World) : Calls Tryd.prog 63 #[] w fun e w' => e = .returned (faultV 0 (-1)) ∧ Below w.heap.size w w' := by
  go_enter Tryd.func63, Tryd.ntmps63
  go_wp2_with fail
  exact bodyPost_ret (v := faultV 0 (-1)) (by simp [results, Tryd.results63, go_sem]) rfl ⟨rfl, (Below.refl _ w).alloc (Nat.le_refl _) _⟩
end Go.Proofs.YtjngnnbondejaabDoor
