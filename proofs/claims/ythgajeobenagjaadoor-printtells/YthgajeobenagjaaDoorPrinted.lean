/-
  Own text. printed, the closed fact of chapter 1, returns true: where strconv's table and api.ErrText lie as the program's text lays them.
-/
import Derived.Test.YthgajeobenagjaaDoorText
import Derived.Test.YthgajeobenagjaaDoorRead
namespace Go.Proofs.YthgajeobenagjaaDoor
open Go.RowKit

theorem read_0 (v : Value) (w : World) (hv : w.cell? ⟨0, 0, none⟩ = some v) :
    Calls Tryd.prog 13 #[.string ⟨#[56, 49, 49, 99, 57, 100, 99, 53, 45, 48]⟩] w fun e w' => e = .returned (.tuple #[idV 2166136261 0, .nilIface]) ∧ Below w.heap.size w w' := by
  refine (read_any ⟨#[56, 49, 49, 99, 57, 100, 99, 53, 45, 48]⟩ (by decide) v w hv).mono ?_
  rintro e w' ⟨rfl, hb⟩
  have : idRead (⟨#[56, 49, 49, 99, 57, 100, 99, 53, 45, 48]⟩ : ByteArray).data.toList = some (2166136261, 0) := by decide
  rw [this]
  exact ⟨rfl, hb⟩
theorem id_0 (w : World) : Calls Tryd.prog 17 #[.string ⟨#[]⟩] w fun e w' => e = .returned (idV 2166136261 0) ∧ Below w.heap.size w w' := by
  refine (id_any ⟨#[]⟩ w (by decide)).mono ?_
  rintro e w' ⟨rfl, hb⟩
  exact ⟨rfl, hb⟩
theorem of_0 (w : World) : Calls Tryd.prog 12 #[.string ⟨#[]⟩] w fun e w' => e = .returned (.int .u32 2166136261) ∧ w' = w := by
  refine (of_any ⟨#[]⟩ w (by decide)).mono ?_
  rintro e w' ⟨rfl, hb⟩
  exact ⟨rfl, hb⟩
theorem idText_0 : idText 2166136261 0 = [56, 49, 49, 99, 57, 100, 99, 53, 45, 48] := by
  have h : Lib.decDigits 0 = [48] := by rw [Lib.decDigits, dif_pos (by decide)]; rfl
  unfold idText
  rw [h]
  decide
theorem text_0 (w : World) (ht : Pow10 w) : Calls Tryd.prog 14 #[idV 2166136261 0] w fun e w' => e = .returned (.string ⟨#[56, 49, 49, 99, 57, 100, 99, 53, 45, 48]⟩) ∧ Below w.heap.size w w' := by
  refine (text_any 2166136261 0 (by decide) (by decide) w ht).mono ?_
  rintro e w' ⟨rfl, hb⟩
  rw [idText_0]
  exact ⟨rfl, hb⟩

set_option maxHeartbeats 2000000 in
theorem printed_any (v : Value) (w : World) (hv : w.cell? ⟨0, 0, none⟩ = some v) (ht : Pow10 w) :
    Calls Tryd.prog 10 #[] w fun e w' => e = .returned (.bool true) ∧ Below w.heap.size w w' := by
  have HP : Hid (∀ w' B, Below B w w' → w.heap.size ≤ B → Pow10 w') := fun w' B hb hB => ht.below hb hB
  clear ht
  go_enter Tryd.func10, Tryd.ntmps10
  go_wp2_with fail
  refine (read_0 v _ hv).mono ?_
  rintro e w0 ⟨rfl, hb0⟩
  obtain ⟨hc0, hf0⟩ := bcell hb0
  go_wp2_with fail
  go_region_with (first
    | (go_at_call 17; refine (id_0 _).mono ?_; rintro e w1 ⟨rfl, hb1⟩; obtain ⟨hc1, hf1⟩ := bcell hb1)
    | (go_at_call 14; refine (text_0 _ ?_).mono ?_; exact HP.out _ _ (hb0.trans (((Below.refl _ _).alloc (Nat.le_refl _) _).mono hb0.size |>.trans ((Below.drew (Below.refl _ _)).trans (hb1.mono (by have := hb0.size; simp; omega))))) (Nat.le_refl _); rintro e w2 ⟨rfl, hb2⟩; obtain ⟨hc2, hf2⟩ := bcell hb2)
    | (go_at_call 12; refine (of_0 _).mono ?_; rintro e w3 ⟨rfl, rfl⟩))
  all_goals go_wp2
  all_goals go_ret
  all_goals exact ⟨rfl, (hb0.trans (((Below.refl _ _).alloc (Nat.le_refl _) _).mono hb0.size |>.trans ((Below.drew (Below.refl _ _)).trans (hb1.mono (by have := hb0.size; simp; omega))))).trans (hb2.mono (by have := hb0.size; have := hb1.size; simp at this; omega))⟩
end Go.Proofs.YthgajeobenagjaaDoor
