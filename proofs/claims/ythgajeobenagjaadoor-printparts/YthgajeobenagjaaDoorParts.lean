/-
  Own text. The walk of PrintParts where the ID is not one that is read back: it returns true, where strconv's table and api.ErrText lie as the program's text lays them.
-/
import Derived.Test.YthgajeobenagjaaDoorPartsAid
namespace Go.Proofs.YthgajeobenagjaaDoor
open Go.RowKit

set_option maxHeartbeats 4000000 in
set_option maxRecDepth 100000 in
theorem parts_out (a b : ByteArray) (ha : a.size ≤ 300) (hb : b.size ≤ 300) (at0 : Int) (x : UInt8) (n : Nat) (l : Int) (v : Value) (w : World) (hv : w.cell? ⟨0, 0, none⟩ = some v) (ht : Pow10 w) (hl : l < 0 ∨ 1000000 ≤ l) :
    Calls Tryd.prog 4 #[.string a, .string b, .int .i64 at0, .int .u8 x.toNat, idV n l] w fun e w' => e = .returned (.bool true) ∧ Below w.heap.size w w' := by
  have hv' := errText_cell hv
  have hml := pmore_lt 2166136261 (by decide) a.data.toList
  have hz1 : a.size ≤ maxLen := by unfold maxLen; omega
  have hz2 : b.size ≤ maxLen := by unfold maxLen; omega
  have hz3 : (a ++ b).size ≤ maxLen := by rw [ByteArray.size_append]; unfold maxLen; omega
  rcases partsAt a at0 x with hat | ⟨hat0, hat⟩ | ⟨k, hk, rfl, hx⟩ | ⟨k, hk, rfl, hx, hxx⟩
  · rcases hl with hl | hl
    all_goals
      go_enter Tryd.func4, Tryd.ntmps4
      go_wp2_with fail
      refine (printed_any v _ (hv' _) (ht.below ((Below.refl _ _).alloc (Nat.le_refl _) _) (Nat.le_refl _))).mono ?_
      rintro e w1 ⟨rfl, hb1⟩
      have hbw : Below w.heap.size w w1 := ((Below.refl _ _).alloc (Nat.le_refl _) _).trans (hb1.mono (by simp))
      have hcl : w1.cell? ⟨w.heap.size, 1, none⟩ = some (.int .i64 l) := by rw [hb1.cell (p := ⟨w.heap.size, 1, none⟩) (by simp)]; simp
      have hcn : w1.cell? ⟨w.heap.size, 0, none⟩ = some (.int .u32 n) := by rw [hb1.cell (p := ⟨w.heap.size, 0, none⟩) (by simp)]; simp
      have hsz1 : w.heap.size < w1.heap.size := by have := hb1.size; simp at this; omega
      clear hb1
      go_wp2_with fail
      refine (of_any a _ hz1).mono ?_
      rintro e w2 ⟨rfl, hw2⟩
      subst hw2
      go_wp2_with fail
      refine (more_any _ hml b _ hz2).mono ?_
      rintro e w2 ⟨rfl, hw2⟩
      subst hw2
      go_wp2_with fail
      refine (of_append a b _ hz3).mono ?_
      rintro e w2 ⟨rfl, hw2⟩
      subst hw2
      generalize pmore (pmore 2166136261 a.data.toList) b.data.toList = r1 at *
      generalize pmore 2166136261 a.data.toList = r0 at *
      go_wp2_with fail
      go_ret
      exact ⟨rfl, hbw⟩
  · rcases hl with hl | hl
    all_goals
      go_enter Tryd.func4, Tryd.ntmps4
      go_wp2_with fail
      refine (printed_any v _ (hv' _) (ht.below ((Below.refl _ _).alloc (Nat.le_refl _) _) (Nat.le_refl _))).mono ?_
      rintro e w1 ⟨rfl, hb1⟩
      have hbw : Below w.heap.size w w1 := ((Below.refl _ _).alloc (Nat.le_refl _) _).trans (hb1.mono (by simp))
      have hcl : w1.cell? ⟨w.heap.size, 1, none⟩ = some (.int .i64 l) := by rw [hb1.cell (p := ⟨w.heap.size, 1, none⟩) (by simp)]; simp
      have hcn : w1.cell? ⟨w.heap.size, 0, none⟩ = some (.int .u32 n) := by rw [hb1.cell (p := ⟨w.heap.size, 0, none⟩) (by simp)]; simp
      have hsz1 : w.heap.size < w1.heap.size := by have := hb1.size; simp at this; omega
      clear hb1
      go_wp2_with fail
      refine (of_any a _ hz1).mono ?_
      rintro e w2 ⟨rfl, hw2⟩
      subst hw2
      go_wp2_with fail
      refine (more_any _ hml b _ hz2).mono ?_
      rintro e w2 ⟨rfl, hw2⟩
      subst hw2
      go_wp2_with fail
      refine (of_append a b _ hz3).mono ?_
      rintro e w2 ⟨rfl, hw2⟩
      subst hw2
      generalize pmore (pmore 2166136261 a.data.toList) b.data.toList = r1 at *
      generalize pmore 2166136261 a.data.toList = r0 at *
      go_wp2_with fail
      go_ret
      exact ⟨rfl, hbw⟩
  · rcases hl with hl | hl
    all_goals
      go_enter Tryd.func4, Tryd.ntmps4
      go_wp2_with fail
      refine (printed_any v _ (hv' _) (ht.below ((Below.refl _ _).alloc (Nat.le_refl _) _) (Nat.le_refl _))).mono ?_
      rintro e w1 ⟨rfl, hb1⟩
      have hbw : Below w.heap.size w w1 := ((Below.refl _ _).alloc (Nat.le_refl _) _).trans (hb1.mono (by simp))
      have hcl : w1.cell? ⟨w.heap.size, 1, none⟩ = some (.int .i64 l) := by rw [hb1.cell (p := ⟨w.heap.size, 1, none⟩) (by simp)]; simp
      have hcn : w1.cell? ⟨w.heap.size, 0, none⟩ = some (.int .u32 n) := by rw [hb1.cell (p := ⟨w.heap.size, 0, none⟩) (by simp)]; simp
      have hsz1 : w.heap.size < w1.heap.size := by have := hb1.size; simp at this; omega
      clear hb1
      go_wp2_with fail
      refine (of_any a _ hz1).mono ?_
      rintro e w2 ⟨rfl, hw2⟩
      subst hw2
      go_wp2_with fail
      refine (more_any _ hml b _ hz2).mono ?_
      rintro e w2 ⟨rfl, hw2⟩
      subst hw2
      go_wp2_with fail
      refine (of_append a b _ hz3).mono ?_
      rintro e w2 ⟨rfl, hw2⟩
      subst hw2
      generalize pmore (pmore 2166136261 a.data.toList) b.data.toList = r1 at *
      generalize pmore 2166136261 a.data.toList = r0 at *
      go_wp2_with fail
      go_ret
      exact ⟨rfl, hbw⟩
  · have hne := other_print a b k hk x hxx
    have hLL : (a.data.toList.set k x).length ≤ 300 := by rw [List.length_set, len_toList]; exact ha
    have hcv := fun W => Lib.run_convert_string_bytes (P := Tryd.prog) W 9 43 5 a Tryd.underlying9 Tryd.underlying43 Tryd.underlying5
    have hcc := fun W => Lib.bytesWorld_cell W 5 a k hk
    have hcf := fun W => bytes_free W 5 a k hk
    have hcs := fun W => bytes_set W a k hk x
    rcases hl with hl | hl
    all_goals
      go_enter Tryd.func4, Tryd.ntmps4
      go_wp2_with fail
      refine (printed_any v _ (hv' _) (ht.below ((Below.refl _ _).alloc (Nat.le_refl _) _) (Nat.le_refl _))).mono ?_
      rintro e w1 ⟨rfl, hb1⟩
      have hbw : Below w.heap.size w w1 := ((Below.refl _ _).alloc (Nat.le_refl _) _).trans (hb1.mono (by simp))
      have hcl : w1.cell? ⟨w.heap.size, 1, none⟩ = some (.int .i64 l) := by rw [hb1.cell (p := ⟨w.heap.size, 1, none⟩) (by simp)]; simp
      have hcn : w1.cell? ⟨w.heap.size, 0, none⟩ = some (.int .u32 n) := by rw [hb1.cell (p := ⟨w.heap.size, 0, none⟩) (by simp)]; simp
      have hsz1 : w.heap.size < w1.heap.size := by have := hb1.size; simp at this; omega
      clear hb1
      go_wp2_with fail
      refine (of_any a _ hz1).mono ?_
      rintro e w2 ⟨rfl, hw2⟩
      subst hw2
      go_wp2_with fail
      refine (more_any _ hml b _ hz2).mono ?_
      rintro e w2 ⟨rfl, hw2⟩
      subst hw2
      go_wp2_with fail
      refine (of_append a b _ hz3).mono ?_
      rintro e w2 ⟨rfl, hw2⟩
      subst hw2
      generalize hr1 : pmore (pmore 2166136261 a.data.toList) b.data.toList = r1 at *
      have HR1 : Hid (pmore (pmore 2166136261 a.data.toList) b.data.toList = r1) := hr1
      clear hr1
      generalize a.data.toList.set k x = L at *
      have hzL := mk_append_le L b hLL hb
      go_wp2_with fail
      refine (of_append ⟨L.toArray⟩ b _ hzL).mono ?_
      rintro e w2 ⟨rfl, hw2⟩
      subst hw2
      rw [mk_list]
      generalize pmore (pmore 2166136261 L) b.data.toList = rL at *
      have hne' : ((rL : Int) != (r1 : Int)) = true := by simp; omega
      go_wp2_with fail
      refine (of_append a b _ hz3).mono ?_
      rintro e w2 ⟨rfl, hw2⟩
      subst hw2
      rw [HR1.out]
      go_wp2_with fail
      go_ret
      exact ⟨rfl, hbw.trans (((bytes_below _ _ _).setCell (Nat.le_refl _) _).mono hbw.size)⟩
end Go.Proofs.YthgajeobenagjaaDoor
