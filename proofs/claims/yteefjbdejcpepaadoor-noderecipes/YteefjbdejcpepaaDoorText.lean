/-
  Own text. Texts of IDs: print.Text and the document's IDText by contracts. Condition of print.Text: strconv's table of powers of ten lies as the program's text lays it.
-/
import Derived.Test.YteefjbdejcpepaaDoorDigs
import Derived.Test.YteefjbdejcpepaaDoorDigs
import Derived.Test.YteefjbdejcpepaaDoorShelf
import Derived.Deep.RegionWith
import Derived.Lib.SmallJoins
import Derived.Lib.ItoaMem
namespace Go.Proofs.YteefjbdejcpepaaDoor
open Go.RowKit

theorem bcell {B : Nat} {W w1 : World} (hb : Below B W w1) : (∀ b o, b < B → w1.cell? ⟨b, o, none⟩ = W.cell? ⟨b, o, none⟩) ∧ (∀ b o, b < B → w1.frozen? ⟨b, o, none⟩ = W.frozen? ⟨b, o, none⟩) :=
  ⟨fun b o h => hb.cell (p := ⟨b, o, none⟩) h, fun b o h => hb.frozen (p := ⟨b, o, none⟩) h⟩

theorem idText_str (n l : Nat) : (⟨(hexLast n 8).toArray⟩ : ByteArray) ++ ⟨#[45]⟩ ++ ⟨(Lib.decDigits l).toArray⟩ = ⟨(idText n l).toArray⟩ := by
  have h : (⟨#[45]⟩ : ByteArray) = ⟨[45].toArray⟩ := rfl
  rw [h, str_append, str_append]
  simp [idText]
theorem idText_neg (n l : Int) (hl : l < 0) (w : World) :
    Calls Tryd.prog 22 #[idV n l] w fun e w' => e = .returned (.string ⟨#[]⟩) ∧ Below w.heap.size w w' := by
  go_enter Tryd.func22, Tryd.ntmps22
  go_wp2
  go_ret
  exact ⟨rfl, (Below.refl _ _).alloc (Nat.le_refl _) _⟩
theorem text_neg (n l : Int) (hl : l < 0) (w : World) :
    Calls Tryd.prog 17 #[idV n l] w fun e w' => e = .returned (.string ⟨#[]⟩) ∧ Below w.heap.size w w' := by
  go_enter Tryd.func17, Tryd.ntmps17
  go_wp2
  go_ret
  exact ⟨rfl, (Below.refl _ _).alloc (Nat.le_refl _) _⟩

set_option maxHeartbeats 2000000 in
theorem idText_any (n l : Nat) (hn : n < 4294967296) (hl : l ≤ 9223372036854775807) (w : World) :
    Calls Tryd.prog 22 #[idV n l] w fun e w' => e = .returned (.string ⟨(idText n l).toArray⟩) ∧ Below w.heap.size w w' := by
  have h0 : ¬ (l : Int) < 0 := by omega
  have hlx := hexLast_length n 8
  have hld := decDigits_le19 l hl
  go_enter Tryd.func22, Tryd.ntmps22
  go_wp2_with fail
  go_region_with (first
    | (go_at_call 59; refine (hexOf_any n hn _).mono ?_; rintro e w1 ⟨rfl, hb1⟩; obtain ⟨hc1, hf1⟩ := bcell hb1)
    | (go_at_call 60; refine (decimal_any l hl _).mono ?_; rintro e w2 ⟨rfl, hb2⟩; obtain ⟨hc2, hf2⟩ := bcell hb2))
  all_goals go_wp2
  all_goals go_ret
  all_goals refine ⟨?_, ?_⟩
  all_goals first
    | (rw [← idText_str]; rfl)
    | exact (((Below.refl _ _).alloc (Nat.le_refl _) _).trans ((Below.drew (Below.refl _ _)).trans (hb1.mono (by simp)))).trans (hb2.mono (by have := hb1.size; simp at this; omega))

theorem below_grow (w : World) (k : Nat) (os : Array Obj) : Below w.heap.size w (Go.Sort.grow (w.drewN k) os) :=
  ⟨rfl, rfl, rfl, by simp [Go.Sort.grow, World.drewN], fun j hj => by
    show ((w.drewN k).heap ++ os)[j]? = _
    have e : (w.drewN k).heap = w.heap := rfl
    rw [e, Array.getElem?_append_left hj]⟩
abbrev Pow10 (w : World) : Prop := Lib.TabIs Tryd.prog w "internal/strconv.uint64pow10" .u64 Lib.pow10Tab
theorem gPow10 : Tryd.prog.globalNamed "internal/strconv.uint64pow10" = some 13 := by kernel_rfl
theorem Pow10.below {B : Nat} {w w' : World} (h : Pow10 w) (hb : Below B w w') (hB : w.heap.size ≤ B) : Pow10 w' := Joins.tab_stays gPow10 h hb hB
theorem itoa_any (l : Nat) (hl : l ≤ 9223372036854775807) (w : World) (ht : Pow10 w) :
    Calls Tryd.prog 58 #[.int .i64 l] w fun e w' => e = .returned (.string ⟨(Lib.decDigits l).toArray⟩) ∧ Below w.heap.size w w' := by
  refine (Tryd.strconv_Itoa l (by omega) (by omega) w ht).mono ?_
  rintro e w' ⟨rfl, k, os, rfl⟩
  exact ⟨by rw [Lib.itoa_nonneg], below_grow w k os⟩

set_option maxHeartbeats 2000000 in
theorem text_any (n l : Nat) (hn : n < 4294967296) (hl : l ≤ 9223372036854775807) (w : World) (ht : Pow10 w) :
    Calls Tryd.prog 17 #[idV n l] w fun e w' => e = .returned (.string ⟨(idText n l).toArray⟩) ∧ Below w.heap.size w w' := by
  have h0 : ¬ (l : Int) < 0 := by omega
  have hlx := hexLast_length n 8
  have hld := decDigits_le19 l hl
  have HP : Hid (∀ w' B, Below B w w' → w.heap.size ≤ B → Pow10 w') := fun w' B hb hB => ht.below hb hB
  clear ht
  go_enter Tryd.func17, Tryd.ntmps17
  go_wp2_with fail
  go_region_with (first
    | (go_at_call 57; refine (hexText_any n hn _).mono ?_; rintro e w1 ⟨rfl, hb1⟩; obtain ⟨hc1, hf1⟩ := bcell hb1)
    | (go_at_call 58; refine (itoa_any l hl _ ?_).mono ?_; exact HP.out _ _ (((Below.refl _ _).alloc (Nat.le_refl _) _).trans ((Below.drew (Below.refl _ _)).trans (hb1.mono (by simp)))) (Nat.le_refl _); rintro e w2 ⟨rfl, hb2⟩; obtain ⟨hc2, hf2⟩ := bcell hb2))
  all_goals go_wp2
  all_goals go_ret
  all_goals refine ⟨?_, ?_⟩
  all_goals first
    | (rw [← idText_str]; rfl)
    | exact (((Below.refl _ _).alloc (Nat.le_refl _) _).trans ((Below.drew (Below.refl _ _)).trans (hb1.mono (by simp)))).trans (hb2.mono (by have := hb1.size; simp at this; omega))
end Go.Proofs.YteefjbdejcpepaaDoor
