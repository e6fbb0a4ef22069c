/-
  Own text. The walk of PrintParts where the ID is one that is read back: it returns true, where strconv's table and api.ErrText lie as the program's text lays them.
-/
import Derived.Test.YthgajeobenagjaaDoorPartsAid
namespace Go.Proofs.YthgajeobenagjaaDoor
open Go.RowKit

theorem lt_cell {w : World} {b o : Nat} {v : Value} (h : w.cell? ⟨b, o, none⟩ = some v) : b < w.heap.size := by
  rcases Nat.lt_or_ge b w.heap.size with h' | h'
  · exact h'
  · simp [World.cell?, Array.getElem?_eq_none h'] at h

theorem text_int (n : Nat) (hn : n < 4294967296) (l : Int) (h1 : 0 ≤ l) (h2 : l < 1000000) (w : World) (ht : Pow10 w) :
    Calls Tryd.prog 14 #[idV n l] w fun e w' => e = .returned (.string ⟨(idText n l.toNat).toArray⟩) ∧ Below w.heap.size w w' := by
  have := text_any n l.toNat hn (by omega) w ht
  rw [Int.toNat_of_nonneg h1] at this
  exact this
theorem read_int (n : Nat) (hn : n < 4294967296) (l : Int) (h1 : 0 ≤ l) (h2 : l < 1000000) (v : Value) (w : World) (hv : w.cell? ⟨0, 0, none⟩ = some v) :
    Calls Tryd.prog 13 #[.string ⟨(idText n l.toNat).toArray⟩] w fun e w' => e = .returned (.tuple #[idV n l, .nilIface]) ∧ Below w.heap.size w w' := by
  have := read_text n l.toNat hn (by omega) v w hv
  rw [Int.toNat_of_nonneg h1] at this
  exact this

set_option maxHeartbeats 4000000 in
set_option maxRecDepth 100000 in
theorem parts_in (a b : ByteArray) (ha : a.size ≤ 300) (hb : b.size ≤ 300) (at0 : Int) (x : UInt8) (n : Nat) (hn : n < 4294967296) (l : Int) (v : Value) (w : World) (hv : w.cell? ⟨0, 0, none⟩ = some v) (ht : Pow10 w) (hl1 : 0 ≤ l) (hl2 : l < 1000000) :
    Calls Tryd.prog 4 #[.string a, .string b, .int .i64 at0, .int .u8 x.toNat, idV n l] w fun e w' => e = .returned (.bool true) ∧ Below w.heap.size w w' := by
  have hv' := errText_cell hv
  have hml := pmore_lt 2166136261 (by decide) a.data.toList
  have hz1 : a.size ≤ maxLen := by unfold maxLen; omega
  have hz2 : b.size ≤ maxLen := by unfold maxLen; omega
  have hz3 : (a ++ b).size ≤ maxLen := by rw [ByteArray.size_append]; unfold maxLen; omega
  rcases partsAt a at0 x with hat | ⟨hat0, hat⟩ | ⟨k, hk, rfl, hx⟩ | ⟨k, hk, rfl, hx, hxx⟩
  · have HN : Hid (n < 4294967296) := hn
    clear hn
    all_goals
      go_enter Tryd.func4, Tryd.ntmps4
      go_wp2_with fail
      refine (printed_any v _ (hv' _) (ht.below ((Below.refl _ _).alloc (Nat.le_refl _) _) (Nat.le_refl _))).mono ?_
      rintro e w1 ⟨rfl, hb1⟩
      have hbw : Below w.heap.size w w1 := ((Below.refl _ _).alloc (Nat.le_refl _) _).trans (hb1.mono (by simp))
      have hcl : w1.cell? ⟨w.heap.size, 1, none⟩ = some (.int .i64 l) := by rw [hb1.cell (p := ⟨w.heap.size, 1, none⟩) (by simp)]; simp
      have hcn : w1.cell? ⟨w.heap.size, 0, none⟩ = some (.int .u32 n) := by rw [hb1.cell (p := ⟨w.heap.size, 0, none⟩) (by simp)]; simp
      have hsz1 : w.heap.size < w1.heap.size := by have := hb1.size; simp at this; omega
      clear hb1
      go_wp2_with fail
      refine (of_any a _ hz1).mono ?_
      rintro e w2 ⟨rfl, hw2⟩
      subst hw2
      go_wp2_with fail
      refine (more_any _ hml b _ hz2).mono ?_
      rintro e w2 ⟨rfl, hw2⟩
      subst hw2
      go_wp2_with fail
      refine (of_append a b _ hz3).mono ?_
      rintro e w2 ⟨rfl, hw2⟩
      subst hw2
      generalize pmore (pmore 2166136261 a.data.toList) b.data.toList = r1 at *
      generalize pmore 2166136261 a.data.toList = r0 at *
      go_wp2_with fail
      refine (text_int n HN.out l hl1 hl2 _ (ht.below hbw (Nat.le_refl _))).mono ?_
      rintro e w3 ⟨rfl, hb3⟩
      have hbw3 := hbw.trans (hb3.mono hbw.size)
      have hv3 : w3.cell? ⟨0, 0, none⟩ = some v := by rw [hbw3.cell (p := ⟨0, 0, none⟩) (lt_cell hv)]; exact hv
      have hcl3 : w3.cell? ⟨w.heap.size, 1, none⟩ = some (.int .i64 l) := by rw [hb3.cell (p := ⟨w.heap.size, 1, none⟩) hsz1]; exact hcl
      have hcn3 : w3.cell? ⟨w.heap.size, 0, none⟩ = some (.int .u32 n) := by rw [hb3.cell (p := ⟨w.heap.size, 0, none⟩) hsz1]; exact hcn
      have hsz3 : w.heap.size < w3.heap.size := Nat.lt_of_lt_of_le hsz1 hb3.size
      clear hb3 hcl hcn hsz1 hbw
      go_wp2_with fail
      refine (read_int n HN.out l hl1 hl2 v _ hv3).mono ?_
      rintro e w4 ⟨rfl, hb4⟩
      have hbw := hbw3.trans (hb4.mono hbw3.size)
      have hcl4 : w4.cell? ⟨w.heap.size, 1, none⟩ = some (.int .i64 l) := by rw [hb4.cell (p := ⟨w.heap.size, 1, none⟩) hsz3]; exact hcl3
      have hcn4 : w4.cell? ⟨w.heap.size, 0, none⟩ = some (.int .u32 n) := by rw [hb4.cell (p := ⟨w.heap.size, 0, none⟩) hsz3]; exact hcn3
      have hsz4 : w.heap.size < w4.heap.size := Nat.lt_of_lt_of_le hsz3 hb4.size
      have hcl5 : ∀ o, (w4.alloc o).cell? ⟨w.heap.size, 1, none⟩ = some (.int .i64 l) := fun o => by rw [World.cell?_alloc_lt _ _ ⟨w.heap.size, 1, none⟩ hsz4]; exact hcl4
      have hcn5 : ∀ o, (w4.alloc o).cell? ⟨w.heap.size, 0, none⟩ = some (.int .u32 n) := fun o => by rw [World.cell?_alloc_lt _ _ ⟨w.heap.size, 0, none⟩ hsz4]; exact hcn4
      clear hb4 hcl3 hcn3 hsz3 hbw3
      go_wp2_with fail
      go_ret
      exact ⟨rfl, hbw.alloc hbw.size _⟩
  · have HN : Hid (n < 4294967296) := hn
    clear hn
    all_goals
      go_enter Tryd.func4, Tryd.ntmps4
      go_wp2_with fail
      refine (printed_any v _ (hv' _) (ht.below ((Below.refl _ _).alloc (Nat.le_refl _) _) (Nat.le_refl _))).mono ?_
      rintro e w1 ⟨rfl, hb1⟩
      have hbw : Below w.heap.size w w1 := ((Below.refl _ _).alloc (Nat.le_refl _) _).trans (hb1.mono (by simp))
      have hcl : w1.cell? ⟨w.heap.size, 1, none⟩ = some (.int .i64 l) := by rw [hb1.cell (p := ⟨w.heap.size, 1, none⟩) (by simp)]; simp
      have hcn : w1.cell? ⟨w.heap.size, 0, none⟩ = some (.int .u32 n) := by rw [hb1.cell (p := ⟨w.heap.size, 0, none⟩) (by simp)]; simp
      have hsz1 : w.heap.size < w1.heap.size := by have := hb1.size; simp at this; omega
      clear hb1
      go_wp2_with fail
      refine (of_any a _ hz1).mono ?_
      rintro e w2 ⟨rfl, hw2⟩
      subst hw2
      go_wp2_with fail
      refine (more_any _ hml b _ hz2).mono ?_
      rintro e w2 ⟨rfl, hw2⟩
      subst hw2
      go_wp2_with fail
      refine (of_append a b _ hz3).mono ?_
      rintro e w2 ⟨rfl, hw2⟩
      subst hw2
      generalize pmore (pmore 2166136261 a.data.toList) b.data.toList = r1 at *
      generalize pmore 2166136261 a.data.toList = r0 at *
      go_wp2_with fail
      refine (text_int n HN.out l hl1 hl2 _ (ht.below hbw (Nat.le_refl _))).mono ?_
      rintro e w3 ⟨rfl, hb3⟩
      have hbw3 := hbw.trans (hb3.mono hbw.size)
      have hv3 : w3.cell? ⟨0, 0, none⟩ = some v := by rw [hbw3.cell (p := ⟨0, 0, none⟩) (lt_cell hv)]; exact hv
      have hcl3 : w3.cell? ⟨w.heap.size, 1, none⟩ = some (.int .i64 l) := by rw [hb3.cell (p := ⟨w.heap.size, 1, none⟩) hsz1]; exact hcl
      have hcn3 : w3.cell? ⟨w.heap.size, 0, none⟩ = some (.int .u32 n) := by rw [hb3.cell (p := ⟨w.heap.size, 0, none⟩) hsz1]; exact hcn
      have hsz3 : w.heap.size < w3.heap.size := Nat.lt_of_lt_of_le hsz1 hb3.size
      clear hb3 hcl hcn hsz1 hbw
      go_wp2_with fail
      refine (read_int n HN.out l hl1 hl2 v _ hv3).mono ?_
      rintro e w4 ⟨rfl, hb4⟩
      have hbw := hbw3.trans (hb4.mono hbw3.size)
      have hcl4 : w4.cell? ⟨w.heap.size, 1, none⟩ = some (.int .i64 l) := by rw [hb4.cell (p := ⟨w.heap.size, 1, none⟩) hsz3]; exact hcl3
      have hcn4 : w4.cell? ⟨w.heap.size, 0, none⟩ = some (.int .u32 n) := by rw [hb4.cell (p := ⟨w.heap.size, 0, none⟩) hsz3]; exact hcn3
      have hsz4 : w.heap.size < w4.heap.size := Nat.lt_of_lt_of_le hsz3 hb4.size
      have hcl5 : ∀ o, (w4.alloc o).cell? ⟨w.heap.size, 1, none⟩ = some (.int .i64 l) := fun o => by rw [World.cell?_alloc_lt _ _ ⟨w.heap.size, 1, none⟩ hsz4]; exact hcl4
      have hcn5 : ∀ o, (w4.alloc o).cell? ⟨w.heap.size, 0, none⟩ = some (.int .u32 n) := fun o => by rw [World.cell?_alloc_lt _ _ ⟨w.heap.size, 0, none⟩ hsz4]; exact hcn4
      clear hb4 hcl3 hcn3 hsz3 hbw3
      go_wp2_with fail
      go_ret
      exact ⟨rfl, hbw.alloc hbw.size _⟩
  · have HN : Hid (n < 4294967296) := hn
    clear hn
    all_goals
      go_enter Tryd.func4, Tryd.ntmps4
      go_wp2_with fail
      refine (printed_any v _ (hv' _) (ht.below ((Below.refl _ _).alloc (Nat.le_refl _) _) (Nat.le_refl _))).mono ?_
      rintro e w1 ⟨rfl, hb1⟩
      have hbw : Below w.heap.size w w1 := ((Below.refl _ _).alloc (Nat.le_refl _) _).trans (hb1.mono (by simp))
      have hcl : w1.cell? ⟨w.heap.size, 1, none⟩ = some (.int .i64 l) := by rw [hb1.cell (p := ⟨w.heap.size, 1, none⟩) (by simp)]; simp
      have hcn : w1.cell? ⟨w.heap.size, 0, none⟩ = some (.int .u32 n) := by rw [hb1.cell (p := ⟨w.heap.size, 0, none⟩) (by simp)]; simp
      have hsz1 : w.heap.size < w1.heap.size := by have := hb1.size; simp at this; omega
      clear hb1
      go_wp2_with fail
      refine (of_any a _ hz1).mono ?_
      rintro e w2 ⟨rfl, hw2⟩
      subst hw2
      go_wp2_with fail
      refine (more_any _ hml b _ hz2).mono ?_
      rintro e w2 ⟨rfl, hw2⟩
      subst hw2
      go_wp2_with fail
      refine (of_append a b _ hz3).mono ?_
      rintro e w2 ⟨rfl, hw2⟩
      subst hw2
      generalize pmore (pmore 2166136261 a.data.toList) b.data.toList = r1 at *
      generalize pmore 2166136261 a.data.toList = r0 at *
      go_wp2_with fail
      refine (text_int n HN.out l hl1 hl2 _ (ht.below hbw (Nat.le_refl _))).mono ?_
      rintro e w3 ⟨rfl, hb3⟩
      have hbw3 := hbw.trans (hb3.mono hbw.size)
      have hv3 : w3.cell? ⟨0, 0, none⟩ = some v := by rw [hbw3.cell (p := ⟨0, 0, none⟩) (lt_cell hv)]; exact hv
      have hcl3 : w3.cell? ⟨w.heap.size, 1, none⟩ = some (.int .i64 l) := by rw [hb3.cell (p := ⟨w.heap.size, 1, none⟩) hsz1]; exact hcl
      have hcn3 : w3.cell? ⟨w.heap.size, 0, none⟩ = some (.int .u32 n) := by rw [hb3.cell (p := ⟨w.heap.size, 0, none⟩) hsz1]; exact hcn
      have hsz3 : w.heap.size < w3.heap.size := Nat.lt_of_lt_of_le hsz1 hb3.size
      clear hb3 hcl hcn hsz1 hbw
      go_wp2_with fail
      refine (read_int n HN.out l hl1 hl2 v _ hv3).mono ?_
      rintro e w4 ⟨rfl, hb4⟩
      have hbw := hbw3.trans (hb4.mono hbw3.size)
      have hcl4 : w4.cell? ⟨w.heap.size, 1, none⟩ = some (.int .i64 l) := by rw [hb4.cell (p := ⟨w.heap.size, 1, none⟩) hsz3]; exact hcl3
      have hcn4 : w4.cell? ⟨w.heap.size, 0, none⟩ = some (.int .u32 n) := by rw [hb4.cell (p := ⟨w.heap.size, 0, none⟩) hsz3]; exact hcn3
      have hsz4 : w.heap.size < w4.heap.size := Nat.lt_of_lt_of_le hsz3 hb4.size
      have hcl5 : ∀ o, (w4.alloc o).cell? ⟨w.heap.size, 1, none⟩ = some (.int .i64 l) := fun o => by rw [World.cell?_alloc_lt _ _ ⟨w.heap.size, 1, none⟩ hsz4]; exact hcl4
      have hcn5 : ∀ o, (w4.alloc o).cell? ⟨w.heap.size, 0, none⟩ = some (.int .u32 n) := fun o => by rw [World.cell?_alloc_lt _ _ ⟨w.heap.size, 0, none⟩ hsz4]; exact hcn4
      clear hb4 hcl3 hcn3 hsz3 hbw3
      go_wp2_with fail
      go_ret
      exact ⟨rfl, hbw.alloc hbw.size _⟩
  · have hne := other_print a b k hk x hxx
    have hLL : (a.data.toList.set k x).length ≤ 300 := by rw [List.length_set, len_toList]; exact ha
    have hcv := fun W => Lib.run_convert_string_bytes (P := Tryd.prog) W 9 43 5 a Tryd.underlying9 Tryd.underlying43 Tryd.underlying5
    have hcc := fun W => Lib.bytesWorld_cell W 5 a k hk
    have hcf := fun W => bytes_free W 5 a k hk
    have hcs := fun W => bytes_set W a k hk x
    have HN : Hid (n < 4294967296) := hn
    clear hn
    all_goals
      go_enter Tryd.func4, Tryd.ntmps4
      go_wp2_with fail
      refine (printed_any v _ (hv' _) (ht.below ((Below.refl _ _).alloc (Nat.le_refl _) _) (Nat.le_refl _))).mono ?_
      rintro e w1 ⟨rfl, hb1⟩
      have hbw : Below w.heap.size w w1 := ((Below.refl _ _).alloc (Nat.le_refl _) _).trans (hb1.mono (by simp))
      have hcl : w1.cell? ⟨w.heap.size, 1, none⟩ = some (.int .i64 l) := by rw [hb1.cell (p := ⟨w.heap.size, 1, none⟩) (by simp)]; simp
      have hcn : w1.cell? ⟨w.heap.size, 0, none⟩ = some (.int .u32 n) := by rw [hb1.cell (p := ⟨w.heap.size, 0, none⟩) (by simp)]; simp
      have hsz1 : w.heap.size < w1.heap.size := by have := hb1.size; simp at this; omega
      clear hb1
      go_wp2_with fail
      refine (of_any a _ hz1).mono ?_
      rintro e w2 ⟨rfl, hw2⟩
      subst hw2
      go_wp2_with fail
      refine (more_any _ hml b _ hz2).mono ?_
      rintro e w2 ⟨rfl, hw2⟩
      subst hw2
      go_wp2_with fail
      refine (of_append a b _ hz3).mono ?_
      rintro e w2 ⟨rfl, hw2⟩
      subst hw2
      generalize hr1 : pmore (pmore 2166136261 a.data.toList) b.data.toList = r1 at *
      have HR1 : Hid (pmore (pmore 2166136261 a.data.toList) b.data.toList = r1) := hr1
      clear hr1
      generalize a.data.toList.set k x = L at *
      have hzL := mk_append_le L b hLL hb
      go_wp2_with fail
      refine (text_int n HN.out l hl1 hl2 _ (ht.below hbw (Nat.le_refl _))).mono ?_
      rintro e w3 ⟨rfl, hb3⟩
      have hbw3 := hbw.trans (hb3.mono hbw.size)
      have hv3 : w3.cell? ⟨0, 0, none⟩ = some v := by rw [hbw3.cell (p := ⟨0, 0, none⟩) (lt_cell hv)]; exact hv
      have hcl3 : w3.cell? ⟨w.heap.size, 1, none⟩ = some (.int .i64 l) := by rw [hb3.cell (p := ⟨w.heap.size, 1, none⟩) hsz1]; exact hcl
      have hcn3 : w3.cell? ⟨w.heap.size, 0, none⟩ = some (.int .u32 n) := by rw [hb3.cell (p := ⟨w.heap.size, 0, none⟩) hsz1]; exact hcn
      have hsz3 : w.heap.size < w3.heap.size := Nat.lt_of_lt_of_le hsz1 hb3.size
      clear hb3 hcl hcn hsz1 hbw
      go_wp2_with fail
      refine (read_int n HN.out l hl1 hl2 v _ hv3).mono ?_
      rintro e w4 ⟨rfl, hb4⟩
      have hbw := hbw3.trans (hb4.mono hbw3.size)
      have hcl4 : w4.cell? ⟨w.heap.size, 1, none⟩ = some (.int .i64 l) := by rw [hb4.cell (p := ⟨w.heap.size, 1, none⟩) hsz3]; exact hcl3
      have hcn4 : w4.cell? ⟨w.heap.size, 0, none⟩ = some (.int .u32 n) := by rw [hb4.cell (p := ⟨w.heap.size, 0, none⟩) hsz3]; exact hcn3
      have hsz4 : w.heap.size < w4.heap.size := Nat.lt_of_lt_of_le hsz3 hb4.size
      have hcl5 : ∀ o, (w4.alloc o).cell? ⟨w.heap.size, 1, none⟩ = some (.int .i64 l) := fun o => by rw [World.cell?_alloc_lt _ _ ⟨w.heap.size, 1, none⟩ hsz4]; exact hcl4
      have hcn5 : ∀ o, (w4.alloc o).cell? ⟨w.heap.size, 0, none⟩ = some (.int .u32 n) := fun o => by rw [World.cell?_alloc_lt _ _ ⟨w.heap.size, 0, none⟩ hsz4]; exact hcn4
      clear hb4 hcl3 hcn3 hsz3 hbw3
      have hcc4 := fun o => hcc (w4.alloc o)
      have hcf4 := fun o => hcf (w4.alloc o)
      have hcs4 := fun o => hcs (w4.alloc o)
      simp only [World.size_alloc] at hcc4 hcf4 hcs4
      clear hcc hcf hcs
      go_wp2_with fail
      refine (of_append ⟨L.toArray⟩ b _ hzL).mono ?_
      rintro e w2 ⟨rfl, hw2⟩
      subst hw2
      rw [mk_list]
      generalize pmore (pmore 2166136261 L) b.data.toList = rL at *
      have hne' : ((rL : Int) != (r1 : Int)) = true := by simp; omega
      go_wp2_with fail
      refine (of_append a b _ hz3).mono ?_
      rintro e w2 ⟨rfl, hw2⟩
      subst hw2
      rw [HR1.out]
      go_wp2_with fail
      go_ret
      exact ⟨rfl, (hbw.alloc hbw.size _).trans (((bytes_below _ _ _).setCell (by simp) _).mono (by have := hbw.size; simp; omega))⟩
end Go.Proofs.YthgajeobenagjaaDoor
