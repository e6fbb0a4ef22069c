/-
  Own text. print.Read by contracts: an ID, or the zero ID and what api.ErrText holds.
-/
import Derived.Test.YteefjbdejcpepaaDoorDigs
import Derived.Test.YteefjbdejcpepaaDoorDigs
import Derived.RegionTactic
import Derived.Lib.Strings
namespace Go.Proofs.YteefjbdejcpepaaDoor
open Go.RowKit

def readRes (v : Value) : Option (Nat × Nat) → Value
  | some x => .tuple #[idV x.1 x.2, .nilIface]
  | none => .tuple #[idV 0 0, v]
theorem readRes_none (v : Value) : readRes v none = .tuple #[idV 0 0, v] := rfl
theorem idRead_short (s : ByteArray) (h : s.size ≤ 8) : idRead s.data.toList = none := by
  unfold idRead
  rw [if_pos (Or.inl (by rw [len_toList]; exact h))]
theorem idRead_dash (s : ByteArray) (h : 8 < s.size) (h8 : s[8].toNat ≠ 45) : idRead s.data.toList = none := by
  unfold idRead
  rw [if_pos (Or.inr ?_)]
  rw [List.getElem?_eq_getElem (by rw [len_toList]; exact h)]
  intro e
  have e2 : s[8] = 45 := Option.some.inj e
  rw [e2] at h8
  exact h8 rfl
theorem idRead_parts (s : ByteArray) (h : 8 < s.size) (h8 : s[8].toNat = 45) :
    idRead s.data.toList = (match unhex 0 (s.extract 0 8).data.toList, numOf (s.extract 9 s.size).data.toList 6 with | some n, some l => some (n, l) | _, _ => none) := by
  unfold idRead
  rw [if_neg, Lib.extract_data, Lib.extract_data]
  · have h9 : (s.data.toList.drop 9).take (s.size - 9) = s.data.toList.drop 9 := List.take_of_length_le (by rw [List.length_drop, len_toList]; exact Nat.le_refl _)
    rw [h9, List.drop_zero, Nat.sub_zero]
    cases unhex 0 (List.take 8 s.data.toList) <;> cases numOf (List.drop 9 s.data.toList) 6 <;> rfl
  · rintro (e | e)
    · rw [len_toList] at e; omega
    · apply e
      rw [List.getElem?_eq_getElem (by rw [len_toList]; exact h)]
      have : s.data.toList[8]'(by rw [len_toList]; exact h) = s[8] := rfl
      rw [this, UInt8.toNat_inj.1 (h8.trans (by decide : (45 : Nat) = (45 : UInt8).toNat))]

theorem errText_cell {v : Value} {w : World} (hv : w.cell? ⟨0, 0, none⟩ = some v) : ∀ o, (w.alloc o).cell? ⟨0, 0, none⟩ = some v := fun o => by
  have hlt : 0 < w.heap.size := by
    rcases Nat.lt_or_ge 0 w.heap.size with h' | h'
    · exact h'
    · simp [World.cell?, Array.getElem?_eq_none h'] at hv
  rw [World.cell?_alloc_lt _ _ ⟨0, 0, none⟩ hlt]; exact hv

set_option maxHeartbeats 2000000 in
theorem read_any (s : ByteArray) (hs : s.size ≤ maxLen) (v : Value) (w : World) (hv : w.cell? ⟨0, 0, none⟩ = some v) :
    Calls Tryd.prog 16 #[.string s] w fun e w' => e = .returned (readRes v (idRead s.data.toList)) ∧ Below w.heap.size w w' := by
  unfold maxLen at hs
  have hv' := errText_cell hv
  by_cases h : s.size ≤ 8
  · rw [idRead_short s h, readRes_none]
    have h' : (s.size : Int) ≤ 8 := by omega
    go_enter Tryd.func16, Tryd.ntmps16
    go_wp2
    go_region
    all_goals go_wp2
    all_goals exact bodyPost_ret (v := .tuple #[idV 0 0, v]) (by simp [results, Tryd.results16, go_sem]) rfl ⟨rfl, ((Below.refl _ _).alloc (Nat.le_refl _) _).drew⟩
  have h9 : 8 < s.size := by omega
  have h9' : ¬ (s.size : Int) ≤ 8 := by omega
  by_cases h8 : s[8].toNat = 45
  · rw [idRead_parts s h9 h8]
    have hd : ((s[8].toNat : Int) != 45) = false := by simp; omega
    have hx8 : (s.extract 0 8).size = 8 := by simp [ByteArray.size_extract]; omega
    have HX9 : Hid ((s.extract 9 s.size).size ≤ maxLen) := by show _ ≤ _; unfold maxLen; simp [ByteArray.size_extract]; omega
    clear h8
    clear h
    generalize hun : unhex 0 (s.extract 0 8).data.toList = oh
    generalize hnu : numOf (s.extract 9 s.size).data.toList 6 = ol
    have HUN : Hid (unhex8 (s.extract 0 8).data.toList = oh) := by show _ = _; rw [unhex8_of _ hx8]; exact hun
    have HNU : Hid (numOf (s.extract 9 s.size).data.toList 6 = ol) := hnu
    clear hun hnu hx8
    cases oh with
    | none =>
      show Calls _ _ _ _ fun e w' => e = .returned (.tuple #[idV 0 0, v]) ∧ _
      go_enter Tryd.func16, Tryd.ntmps16
      go_wp2_with fail
      refine (readHex_any (s.extract 0 8) _).mono ?_
      rintro e w1 ⟨rfl, rfl⟩
      rw [HUN.out]
      unfold hexRes
      go_wp2_with fail
      refine (digRead6 (s.extract 9 s.size) HX9.out _).mono ?_
      rintro e w1 ⟨rfl, rfl⟩
      rw [HNU.out]
      cases ol with
      | none =>
        unfold lenRes
        go_wp2_with fail
        go_region
        all_goals go_wp2
        all_goals exact bodyPost_ret (v := .tuple #[idV 0 0, v]) (by simp [results, Tryd.results16, go_sem]) rfl ⟨rfl, ((Below.refl _ _).alloc (Nat.le_refl _) _).drew⟩
      | some l =>
        unfold lenRes
        go_wp2_with fail
        go_region
        all_goals go_wp2
        all_goals exact bodyPost_ret (v := .tuple #[idV 0 0, v]) (by simp [results, Tryd.results16, go_sem]) rfl ⟨rfl, ((Below.refl _ _).alloc (Nat.le_refl _) _).drew⟩
    | some n =>
      cases ol with
      | none =>
        show Calls _ _ _ _ fun e w' => e = .returned (.tuple #[idV 0 0, v]) ∧ _
        go_enter Tryd.func16, Tryd.ntmps16
        go_wp2_with fail
        refine (readHex_any (s.extract 0 8) _).mono ?_
        rintro e w1 ⟨rfl, rfl⟩
        rw [HUN.out]
        unfold hexRes
        go_wp2_with fail
        refine (digRead6 (s.extract 9 s.size) HX9.out _).mono ?_
        rintro e w1 ⟨rfl, rfl⟩
        rw [HNU.out]
        unfold lenRes
        go_wp2_with fail
        go_region
        all_goals go_wp2
        all_goals exact bodyPost_ret (v := .tuple #[idV 0 0, v]) (by simp [results, Tryd.results16, go_sem]) rfl ⟨rfl, ((Below.refl _ _).alloc (Nat.le_refl _) _).drew⟩
      | some l =>
        show Calls _ _ _ _ fun e w' => e = .returned (.tuple #[idV n l, .nilIface]) ∧ _
        go_enter Tryd.func16, Tryd.ntmps16
        go_wp2_with fail
        refine (readHex_any (s.extract 0 8) _).mono ?_
        rintro e w1 ⟨rfl, rfl⟩
        rw [HUN.out]
        unfold hexRes
        go_wp2_with fail
        refine (digRead6 (s.extract 9 s.size) HX9.out _).mono ?_
        rintro e w1 ⟨rfl, rfl⟩
        rw [HNU.out]
        unfold lenRes
        go_wp2_with fail
        exact bodyPost_ret (v := .tuple #[idV n l, .nilIface]) (by simp [results, Tryd.results16, go_sem]) rfl ⟨rfl, (Below.refl _ _).alloc (Nat.le_refl _) _⟩
  · rw [idRead_dash s h9 h8, readRes_none]
    have hd : ((s[8].toNat : Int) != 45) = true := by simp; omega
    clear h8 h
    go_enter Tryd.func16, Tryd.ntmps16
    go_wp2
    go_region
    all_goals go_wp2
    all_goals exact bodyPost_ret (v := .tuple #[idV 0 0, v]) (by simp [results, Tryd.results16, go_sem]) rfl ⟨rfl, ((Below.refl _ _).alloc (Nat.le_refl _) _).drew⟩
end Go.Proofs.YteefjbdejcpepaaDoor
