/-
  Own text. Pieces as a text, pure: no byte of a head is a line end or (ahead of the number) a blank; how the text is cut, its length.
-/
import Derived.Test.YtmjdgakokldliaaGreatDoorBinOk
import Derived.Lib.IndexMore
namespace Go.Proofs.YtmjdgakokldliaaGreatDoor
open Go.RowKit

theorem index_one (a b : List UInt8) (c : UInt8) (h : c ∉ a) : Lib.index (a ++ c :: b) [c] = (a.length : Int) := by
  induction a with
  | nil => simp [Lib.index]
  | cons x r ih =>
    have hx : c ≠ x := fun e => h (by rw [e]; exact List.mem_cons_self ..)
    have hr := ih (fun e => h (List.mem_cons_of_mem _ e))
    rw [List.cons_append, Lib.index, hr]
    have h1 : ([c].isPrefixOf (x :: (r ++ c :: b))) = false := by simp [List.isPrefixOf, hx]
    have h2 : ((r.length : Int) == -1) = false := by rw [beq_eq_false_iff_ne]; omega
    rw [h1, h2]
    simp
theorem cut_one (a b : List UInt8) (c : UInt8) (h : c ∉ a) : Lib.cut (a ++ c :: b) [c] = (a, b, true) := by
  unfold Lib.cut
  rw [index_one a b c h, if_pos (by omega)]
  have e : ((a.length : Int)).toNat = a.length := by omega
  rw [e]
  simp
theorem hexDig_ok : ∀ d : Fin 16, hexDig d.val ≠ 10 ∧ hexDig d.val ≠ 32 := by decide
theorem hexLast_ok (n k : Nat) : ∀ c ∈ hexLast n k, c ≠ 10 ∧ c ≠ 32 := by
  induction k generalizing n with
  | zero => intro c hc; simp [hexLast] at hc
  | succ k ih =>
    intro c hc
    rw [hexLast] at hc
    rcases List.mem_append.1 hc with hc | hc
    · exact ih _ c hc
    · rw [List.mem_singleton.1 hc]
      exact hexDig_ok ⟨n % 16, Nat.mod_lt _ (by decide)⟩
theorem undec_ok : ∀ (l : List UInt8) (n m : Nat), undec n l = some m → ∀ c ∈ l, c ≠ 10 ∧ c ≠ 32
  | [], _, _, _ => fun c hc => by simp at hc
  | x :: r, n, m, h => fun c hc => by
    rw [undec] at h
    cases hx : undec1 x with
    | none => rw [hx] at h; simp at h
    | some d =>
      rw [hx] at h
      rcases List.mem_cons.1 hc with rfl | hc
      · refine ⟨fun e => ?_, fun e => ?_⟩ <;> (subst e; cases hx)
      · exact undec_ok r _ m h c hc
theorem dec_ok (u : Nat) : ∀ c ∈ Lib.decDigits u, c ≠ 10 ∧ c ≠ 32 := undec_ok _ _ _ (undec_decDigits u)
theorem idText_ok (n l : Nat) : ∀ c ∈ idText n l, c ≠ 10 ∧ c ≠ 32 := fun c hc => by
  rw [idText] at hc
  rcases List.mem_append.1 hc with hc | hc
  · exact hexLast_ok _ _ c hc
  · rcases List.mem_cons.1 hc with rfl | hc
    · decide
    · exact dec_ok _ c hc

def hHead (h : Hd) : List UInt8 := idText h.1.1 h.1.2.toNat ++ 32 :: Lib.decDigits h.2.1.toNat
def hText (h : Hd) : List UInt8 := hHead h ++ 10 :: (h.2.2 ++ [10])
def hsText (l : List Hd) : List UInt8 := (l.map hText).flatten
theorem hHead_ok (h : Hd) : (10 : UInt8) ∉ hHead h := fun hc => by
  rw [hHead] at hc
  rcases List.mem_append.1 hc with hc | hc
  · exact (idText_ok _ _ _ hc).1 rfl
  · rcases List.mem_cons.1 hc with e | hc
    · revert e; decide
    · exact (dec_ok _ _ hc).1 rfl
theorem cut_head (h : Hd) (r : List UInt8) : Lib.cut (hText h ++ r) [10] = (hHead h, h.2.2 ++ 10 :: r, true) := by
  have e : hText h ++ r = hHead h ++ 10 :: (h.2.2 ++ 10 :: r) := by simp [hText]
  rw [e]
  exact cut_one _ _ _ (hHead_ok h)
theorem cut_name (h : Hd) : Lib.cut (hHead h) [32] = (idText h.1.1 h.1.2.toNat, Lib.decDigits h.2.1.toNat, true) :=
  cut_one _ _ _ (fun hc => (idText_ok _ _ _ hc).2 rfl)
theorem hsText_snoc (l : List Hd) (k : Nat) (h : k < l.length) : hsText (l.take (k + 1)) = hsText (l.take k) ++ hText l[k] := by
  rw [List.take_succ_eq_append_getElem h, hsText, List.map_append, List.flatten_append]
  simp [hsText]
theorem hsText_drop (l : List Hd) (k : Nat) (h : k < l.length) : hsText (l.drop k) = hText l[k] ++ hsText (l.drop (k + 1)) := by
  rw [List.drop_eq_getElem_cons h, hsText, List.map_cons, List.flatten_cons]
  rfl
theorem hText_ne (h : Hd) : hText h ≠ [] := by simp [hText]
theorem hText_len {h : Hd} (h1 : h.2.2.length ≤ 64) (h2 : h.1.2.toNat < 1000000) (h3 : h.2.1.toNat < 1000000) : (hText h).length ≤ 88 := by
  have a := decDigits_len_le h.1.2.toNat 6 (by decide) h2
  have b := decDigits_len_le h.2.1.toNat 6 (by decide) h3
  simp [hText, hHead, idText, hexLast_length]
  omega
theorem hsText_len : ∀ (l : List Hd), (∀ h ∈ l, h.2.2.length ≤ 64 ∧ h.1.2.toNat < 1000000 ∧ h.2.1.toNat < 1000000) → (hsText l).length ≤ l.length * 88
  | [], _ => by simp [hsText]
  | x :: r, h => by
    obtain ⟨a, b, c⟩ := h x (List.mem_cons_self ..)
    have h1 := hText_len a b c
    have h2 := hsText_len r (fun y hy => h y (List.mem_cons_of_mem _ hy))
    have e : hsText (x :: r) = hText x ++ hsText r := by simp [hsText]
    rw [e, List.length_append, List.length_cons]
    omega
end Go.Proofs.YtmjdgakokldliaaGreatDoor
