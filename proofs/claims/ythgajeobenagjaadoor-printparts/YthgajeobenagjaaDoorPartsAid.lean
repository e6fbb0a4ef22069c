/-
  Own text. What the walk of PrintParts leans on: contracts at joined texts, the bytes of a text with one of them set, the cases of its arguments.
-/
import Derived.Test.YthgajeobenagjaaDoorPrinted
import Derived.Lib.ConvBytes
namespace Go.Proofs.YthgajeobenagjaaDoor
open Go.RowKit

theorem append_list (a b : ByteArray) : (a ++ b).data.toList = a.data.toList ++ b.data.toList := by simp [ByteArray.data_append]
theorem of_append (a b : ByteArray) (w : World) (hs : (a ++ b).size ≤ maxLen) :
    Calls Tryd.prog 12 #[.string (a ++ b)] w fun e w' => e = .returned (.int .u32 (pmore (pmore 2166136261 a.data.toList) b.data.toList : Nat)) ∧ w' = w := by
  refine (of_any (a ++ b) w hs).mono ?_
  rintro e w' ⟨rfl, rfl⟩
  rw [append_list, pmore_append]
  exact ⟨rfl, rfl⟩
theorem read_text (n l : Nat) (hn : n < 4294967296) (hl : l < 1000000) (v : Value) (w : World) (hv : w.cell? ⟨0, 0, none⟩ = some v) :
    Calls Tryd.prog 13 #[.string ⟨(idText n l).toArray⟩] w fun e w' => e = .returned (.tuple #[idV n l, .nilIface]) ∧ Below w.heap.size w w' := by
  have hz : (⟨(idText n l).toArray⟩ : ByteArray).size ≤ maxLen := by
    have h1 : (⟨(idText n l).toArray⟩ : ByteArray).size = (idText n l).length := by simp [ByteArray.size]
    have h2 := hexLast_length n 8
    have h3 := decDigits_le19 l (by omega)
    rw [h1]
    unfold idText maxLen
    simp
    omega
  refine (read_any ⟨(idText n l).toArray⟩ hz v w hv).mono ?_
  rintro e w' ⟨rfl, hb⟩
  have : idRead (⟨(idText n l).toArray⟩ : ByteArray).data.toList = some (n, l) := idRead_idText n l hn hl
  rw [this]
  exact ⟨rfl, hb⟩

set_option maxHeartbeats 2000000 in
theorem parts_long (a b : ByteArray) (at0 : Int) (x : Int) (n l : Int) (v : Value) (w : World) (hv : w.cell? ⟨0, 0, none⟩ = some v) (ht : Pow10 w) (h : 300 < a.size ∨ (a.size ≤ 300 ∧ 300 < b.size)) :
    Calls Tryd.prog 4 #[.string a, .string b, .int .i64 at0, .int .u8 x, idV n l] w fun e w' => e = .returned (.bool true) ∧ Below w.heap.size w w' := by
  have hv' := errText_cell hv
  rcases h with h | ⟨h1, h⟩
  all_goals
    go_enter Tryd.func4, Tryd.ntmps4
    go_wp2_with fail
    refine (printed_any v _ (hv' _) (ht.below ((Below.refl _ _).alloc (Nat.le_refl _) _) (Nat.le_refl _))).mono ?_
    rintro e w1 ⟨rfl, hb1⟩
    go_wp2_with fail
    go_ret
    exact ⟨rfl, ((Below.refl _ _).alloc (Nat.le_refl _) _).trans (hb1.mono (by simp))⟩

theorem setL (a : ByteArray) (k : Nat) (hk : k < a.size) (x : UInt8) : a.data.toList = a.data.toList.take k ++ a[k] :: a.data.toList.drop (k + 1) ∧ a.data.toList.set k x = a.data.toList.take k ++ x :: a.data.toList.drop (k + 1) := by
  have hk' : k < a.data.toList.length := by rw [len_toList]; exact hk
  constructor
  · have h1 := List.take_append_drop k a.data.toList
    have h2 : a.data.toList.drop k = a[k] :: a.data.toList.drop (k + 1) := List.drop_eq_getElem_cons hk'
    rw [h2] at h1
    exact h1.symm
  · exact List.set_eq_take_append_cons_drop.trans (by rw [if_pos hk'])
theorem other_print (a b : ByteArray) (k : Nat) (hk : k < a.size) (x : UInt8) (hx : a[k] ≠ x) :
    pmore (pmore 2166136261 (a.data.toList.set k x)) b.data.toList ≠ pmore (pmore 2166136261 a.data.toList) b.data.toList := by
  obtain ⟨h1, h2⟩ := setL a k hk x
  rw [h2, ← pmore_append]
  have h3 : pmore (pmore 2166136261 a.data.toList) b.data.toList = pmore 2166136261 (a.data.toList.take k ++ a[k] :: (a.data.toList.drop (k + 1) ++ b.data.toList)) := by
    rw [← pmore_append]
    conv => lhs; rw [h1]
    rw [List.append_assoc, List.cons_append]
  rw [h3, List.append_assoc, List.cons_append]
  exact pmore_ne 2166136261 (by decide) _ _ _ _ (fun e => hx e.symm)

/- The bytes of a in a new row, one of them set. -/
theorem bytes_free (W : World) (e : TypeId) (s : ByteArray) (j : Nat) (h : j < s.size) : (Lib.bytesWorld W e s).frozen? ⟨W.heap.size, j, none⟩ = false := by
  unfold World.frozen?
  rw [Lib.bytesWorld_at_new]
  have : s.size ≤ (Lib.bytesCells W e s).size := by unfold Lib.bytesCells; simp
  simp
  omega
theorem bytes_below (W : World) (e : TypeId) (s : ByteArray) : Below W.heap.size W (Lib.bytesWorld W e s) :=
  ⟨rfl, rfl, rfl, by rw [Lib.bytesWorld_size]; omega, fun j hj => Lib.bytesWorld_at_old W e s j hj⟩
theorem bytes_set (W : World) (a : ByteArray) (k : Nat) (hk : k < a.size) (x : UInt8) (c : Nat) :
    (convert 43 9 (.slice (some ⟨W.heap.size, 0, none⟩) a.size c)).run Tryd.prog ((Lib.bytesWorld W 5 a).setCell ⟨W.heap.size, k, none⟩ (.int .u8 (x.toNat : Int))) = .ok (.string ⟨(a.data.toList.set k x).toArray⟩) ((Lib.bytesWorld W 5 a).setCell ⟨W.heap.size, k, none⟩ (.int .u8 (x.toNat : Int))) := by
  have hl : (a.data.toList.set k x).length = a.size := by rw [List.length_set, len_toList]
  have := run_convert_bytes_back (P := Tryd.prog) ((Lib.bytesWorld W 5 a).setCell ⟨W.heap.size, k, none⟩ (.int .u8 (x.toNat : Int))) 43 9 5 ⟨W.heap.size, 0, none⟩ c (a.data.toList.set k x) Tryd.underlying43 Tryd.underlying5 Tryd.underlying9 (fun j hj => by
    have hp : (⟨W.heap.size, 0, none⟩ : Addr).add j = ⟨W.heap.size, j, none⟩ := by unfold Addr.add; split <;> simp_all
    rw [hp]
    by_cases hjk : j = k
    · subst hjk
      rw [World.cell?_setCell_same _ _ _ (Lib.bytesWorld_cell W 5 a j hk)]
      simp
    · rw [World.cell?_setCell_other _ _ _ _ (fun e => hjk (by injection e; omega)), Lib.bytesWorld_cell W 5 a j (by omega)]
      rw [List.getElem_set_ne (by omega)]
      simp [List.getD, List.getElem?_eq_getElem (show j < a.data.toList.length by rw [len_toList]; omega)])
  rw [hl] at this
  exact this

/- What at and x come to. -/
def PartsAt (a : ByteArray) (at0 : Int) (x : UInt8) : Prop :=
  at0 < 0 ∨ (0 ≤ at0 ∧ (a.size : Int) ≤ at0) ∨ (∃ (k : Nat) (hk : k < a.size), at0 = k ∧ ((a[k].toNat : Int) == (x.toNat : Int)) = true) ∨ (∃ (k : Nat) (hk : k < a.size), at0 = k ∧ ((a[k].toNat : Int) == (x.toNat : Int)) = false ∧ a[k] ≠ x)
theorem partsAt (a : ByteArray) (at0 : Int) (x : UInt8) : PartsAt a at0 x := by
  unfold PartsAt
  by_cases h0 : at0 < 0
  · exact Or.inl h0
  by_cases h1 : (a.size : Int) ≤ at0
  · exact Or.inr (Or.inl ⟨by omega, h1⟩)
  obtain ⟨k, rfl⟩ := Int.eq_ofNat_of_zero_le (by omega : 0 ≤ at0)
  have hk : k < a.size := by omega
  by_cases hx : a[k] = x
  · exact Or.inr (Or.inr (Or.inl ⟨k, hk, rfl, by rw [hx]; simp⟩))
  · refine Or.inr (Or.inr (Or.inr ⟨k, hk, rfl, ?_, hx⟩))
    simp
    intro e
    exact hx (UInt8.toNat_inj.1 (by omega))

theorem mk_size (L : List UInt8) : (⟨L.toArray⟩ : ByteArray).size = L.length := by simp [ByteArray.size]
theorem mk_list (L : List UInt8) : (⟨L.toArray⟩ : ByteArray).data.toList = L := by simp
theorem mk_append_le (L : List UInt8) (b : ByteArray) (h1 : L.length ≤ 300) (h2 : b.size ≤ 300) : ((⟨L.toArray⟩ : ByteArray) ++ b).size ≤ maxLen := by
  rw [ByteArray.size_append, mk_size]; unfold maxLen; omega
end Go.Proofs.YthgajeobenagjaaDoor
