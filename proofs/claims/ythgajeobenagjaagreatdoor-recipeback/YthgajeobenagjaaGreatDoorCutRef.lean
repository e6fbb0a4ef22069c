/-
  Own text. The document's PiecesOf by a contract: the pieces, in new memory.
-/
import Derived.Test.YthgajeobenagjaaGreatDoorCutPieces
import Derived.Test.YthgajeobenagjaaGreatDoorCutSame
namespace Go.Proofs.YthgajeobenagjaaGreatDoor
open Go.RowKit

theorem wrap_small (n : Int) (h : 0 ≤ n ∧ n ≤ 100000) : wrap64 n = n := by unfold wrap64; omega
theorem pieces_step (l : List UInt8) (f k : Nat) (ps : List (List UInt8)) (hf : f ≤ k) (hk : k < l.length) (hp : pieces l = ps ++ pieces (l.drop f)) (hno : ∀ j, 0 < j → j ≤ k - f → endsAt (l.drop f) j = false)
    (hy : endsAt (l.drop f) (k + 1 - f) = true ∨ k + 1 = l.length) : pieces l = (ps ++ [(l.drop f).take (k + 1 - f)]) ++ pieces (l.drop (k + 1)) := by
  have hne : l.drop f ≠ [] := fun e => by
    have := congrArg List.length e
    rw [List.length_drop, List.length_nil] at this
    omega
  have h1 : first (l.drop f) = k + 1 - f := by
    apply IsFirst.eq
    refine ⟨by omega, by rw [List.length_drop]; omega, fun j h1 h2 => hno j h1 (by omega), ?_⟩
    rcases hy with y | y
    · exact .inl y
    · right; rw [List.length_drop]; omega
  rw [hp, pieces_ne _ hne, h1, List.drop_drop, show f + (k + 1 - f) = k + 1 by omega]
  simp
theorem no_step {l : List UInt8} {f k : Nat} (hf : f ≤ k) (hno : ∀ j, 0 < j → j ≤ k - f → endsAt (l.drop f) j = false) (h : endsAt (l.drop f) (k + 1 - f) = false) : ∀ j, 0 < j → j ≤ k + 1 - f → endsAt (l.drop f) j = false := fun j h1 h2 => by
  by_cases e : j = k + 1 - f
  · rw [e]; exact h
  · exact hno j h1 (by omega)
theorem sumB_take_le (l : List UInt8) (j : Nat) (h : j ≤ 8) : sumB (l.take j) ≤ 2040 := by
  have : ∀ xs : List UInt8, sumB xs ≤ xs.length * 255 := by
    intro xs
    induction xs with
    | nil => simp [sumB]
    | cons x r ih =>
      have hx : x.toNat < 256 := x.toNat_lt
      simp only [sumB, List.map_cons, List.sum_cons, List.length_cons] at ih ⊢
      omega
  exact Nat.le_trans (this (l.take j)) (Nat.mul_le_mul_right 255 (m := 8) (by rw [List.length_take]; omega))
theorem win_back (l : List UInt8) (f k : Nat) (hf : f ≤ k) (h : 16 ≤ k + 1 - f) : win (l.drop f) (k + 1 - f) = (l.drop (k - 7)).take 8 := by
  rw [win_late _ _ (by omega), List.drop_drop]
  congr 2
  omega

set_option maxRecDepth 100000 in
set_option maxHeartbeats 8000000 in
theorem piecesOf_any (s : ByteArray) (hs : s.size ≤ 50000) (w : World) :
    Calls Tryz.prog 40 #[.string s] w fun e w' => ∃ v, e = .returned v ∧ w'.ownsRow w.heap.size 9 1 v (pieces s.data.toList).length ((pieces s.data.toList).map strW) ∧ Below w.heap.size w w' := by
  obtain ⟨i0, hi, hz0, hz1, hz2⟩ := info_parts infoText
  have HSL : Hid (s.data.toList.length = s.size) := by show _ = _; rw [Array.length_toList]; rfl
  go_enter Tryz.func40, Tryz.ntmps40
  go_wp2
  go_loopw [3, 4, 5] (fun v q i wr => ∃ (k f : Nat) (ps : List (List UInt8)), k ≤ s.size ∧ f ≤ k ∧ (k = s.size → f = k) ∧ i = .int .i64 k ∧ q = .int .i64 f ∧ pieces s.data.toList = ps ++ pieces (s.data.toList.drop f) ∧ (∀ j, 0 < j → j ≤ k - f → endsAt (s.data.toList.drop f) j = false) ∧ ps.length ≤ k ∧ wr.ownsRow w.heap.size 9 1 v ps.length (ps.map strW) ∧ Below w.heap.size w wr) (fun _ _ i _ => s.size - (intOf i).toNat)
  case atStart => exact ⟨0, 0, [], Nat.zero_le _, Nat.le_refl _, fun _ => rfl, rfl, rfl, by simp, fun j h1 h2 => by omega, Nat.le_refl _, World.ownsRow_nil _ _ _ _, Below.refl _ _⟩
  case round =>
    obtain ⟨k, f, ps, hk, hf, hkf, rfl, rfl, hcut, hno, hlen, hown, hbw⟩ := hrel
    have HC : Hid (pieces s.data.toList = ps ++ pieces (s.data.toList.drop f)) := hcut
    have HN : Hid (∀ j, 0 < j → j ≤ k - f → endsAt (s.data.toList.drop f) j = false) := hno
    have HKF : Hid (k = s.size → f = k) := hkf
    clear hcut hno hkf
    by_cases hlt : k < s.size
    · have hsf : (f : Int) ≤ (k : Int) + 1 := by omega
      have hsk : (k : Int) + 1 ≤ (s.size : Int) := by omega
      by_cases h16 : k + 1 - f < 16
      · have HLOW : Hid (endsAt (s.data.toList.drop f) (k + 1 - f) = false) := endsAt_low _ _ h16
        have hq64 : ((k : Int) + 1 - (f : Int) == 64) = false := by simp; omega
        have hq16 : (k : Int) + 1 - (f : Int) < 16 := by omega
        go_wp2_with fail
        go_loopw [7, 8] (fun t q wi => t = .int .i64 0 ∧ q = .int .i64 ((k : Int) - 8 + 1) ∧ wi = wr) (fun _ _ _ => 0)
        case atStart => exact ⟨rfl, rfl, rfl⟩
        case round =>
          obtain ⟨rfl, rfl, rfl⟩ := hrel
          by_cases hl : k + 1 = s.size
          · have hql : ((k : Int) == (s.size : Int) - 1) = true := by simp; omega
            have HL : Hid (k + 1 = s.size) := hl
            clear hl
            go_wp2_with (at_builtin; refine wpList_append_own _ rfl (.tmp 55) (.tmp 61) 31 rfl w.heap.size 9 i0 (.string ⟨#[]⟩) 1 16 Tryz.underlying31 hi hz0 hz1 hz2 rfl (by decide) _ _ _ rfl (hown.alloc _) ⟨wr.heap.size, 0, none⟩ 1 1 [.string (s.extract f (k + 1))] rfl rfl (cell_one_new _ _ _) (by simp [Value.oneCell']) (by unfold maxLen; omega) (by omega) (by have := hbw.size; simp; omega) ?_; intro v' w1 hown' hgrow _; obtain ⟨g', cap', rfl⟩ := ownsRow_succ hown')
            have hbw' : Below w.heap.size w w1 := (hbw.alloc hbw.size _).grown hgrow (by have := hbw.size; simp; omega) (fun j e => own_base hown e)
            clear hgrow hown
            rw [extract_strW] at hown'
            go_wp2_with fail
            go_roundw
            case rel => exact ⟨k + 1, k + 1, ps ++ [(s.data.toList.drop f).take (k + 1 - f)], by omega, Nat.le_refl _, fun _ => rfl, by go_num, by go_num, pieces_step _ _ _ _ hf (by rw [HSL.out]; omega) HC.out HN.out (.inr (by rw [HSL.out]; exact HL.out)), fun j h1 h2 => by omega, by simp; omega, by simpa using hown', hbw'⟩
            case measure => simp [intOf]; omega
          · have hql : ((k : Int) == (s.size : Int) - 1) = false := by simp; omega
            go_wp2_with fail
            go_roundw
            case rel => exact ⟨k + 1, f, ps, by omega, by omega, fun e => by omega, by go_num, rfl, HC.out, no_step hf HN.out (HLOW.out), by omega, hown, hbw⟩
            case measure => simp [intOf]; omega
      · have hq16 : 16 ≤ (k : Int) + 1 - (f : Int) := by omega
        go_wp2_with fail
        go_loopw [7, 8] (fun t q wi => ∃ j : Nat, j ≤ 8 ∧ t = .int .i64 (sumB ((s.data.toList.drop (k - 7)).take j) : Nat) ∧ q = .int .i64 ((k : Int) - 8 + 1 + (j : Int)) ∧ wi = wr) (fun _ q _ => 8 - (intOf q - ((k : Int) - 8 + 1)).toNat)
        case atStart => exact ⟨0, by omega, rfl, by simp, rfl⟩
        case round =>
          obtain ⟨j, hj, rfl, rfl, rfl⟩ := hrel
          by_cases hj8 : j < 8
          · have hxj : k - 8 + 1 + j < s.size := by omega
            have HX : Hid (sumB ((s.data.toList.drop (k - 7)).take (j + 1)) = sumB ((s.data.toList.drop (k - 7)).take j) + s[k - 8 + 1 + j].toNat) := by
              show _ = _
              have hlj : j < (s.data.toList.drop (k - 7)).length := by rw [List.length_drop, HSL.out]; omega
              rw [sumB_snoc _ _ hlj, List.getElem_drop]
              have e : k - 7 + j = k - 8 + 1 + j := by omega
              simp only [e, Array.getElem_toList]
              rfl
            have HB : Hid (sumB ((s.data.toList.drop (k - 7)).take j) ≤ 2040) := sumB_take_le _ _ hj
            obtain ⟨S, hS⟩ : ∃ S, sumB ((s.data.toList.drop (k - 7)).take j) = S := ⟨_, rfl⟩
            rw [hS] at HX HB ⊢
            have HSS : Hid (sumB ((s.data.toList.drop (k - 7)).take j) = S) := hS
            clear hS
            go_wp2_with fail
            go_roundw
            case rel =>
              have hb := HB.out
              have hu : s[k - 8 + 1 + j].toNat < 256 := s[k - 8 + 1 + j].toNat_lt
              refine ⟨j + 1, by omega, ?_, by simp; omega, trivial⟩
              rw [HX.out, wrap_small (s[k - 8 + 1 + j].toNat : Int) ⟨by omega, by omega⟩, wrap_small _ ⟨by omega, by omega⟩]
              congr 1
            case measure => simp [intOf]; omega
          · obtain rfl : j = 8 := by omega
            have HW : Hid (sumB (win (s.data.toList.drop f) (k + 1 - f)) = sumB ((s.data.toList.drop (k - 7)).take 8)) := by show _ = _; rw [win_back _ _ _ hf (by omega)]
            obtain ⟨S, hS⟩ : ∃ S, sumB ((s.data.toList.drop (k - 7)).take 8) = S := ⟨_, rfl⟩
            rw [hS] at HW ⊢
            clear hS
            by_cases h64 : k + 1 - f = 64
            · have hq64 : ((k : Int) + 1 - (f : Int) == 64) = true := by simp; omega
              have HY : Hid (endsAt (s.data.toList.drop f) (k + 1 - f) = true) := by show _ = _; rw [h64]; exact endsAt_64 _
              clear h64
              go_wp2_with (at_builtin; refine wpList_append_own _ rfl (.tmp 55) (.tmp 61) 31 rfl w.heap.size 9 i0 (.string ⟨#[]⟩) 1 16 Tryz.underlying31 hi hz0 hz1 hz2 rfl (by decide) _ _ _ rfl (hown.alloc _) ⟨wr.heap.size, 0, none⟩ 1 1 [.string (s.extract f (k + 1))] rfl rfl (cell_one_new _ _ _) (by simp [Value.oneCell']) (by unfold maxLen; omega) (by omega) (by have := hbw.size; simp; omega) ?_; intro v' w1 hown' hgrow _; obtain ⟨g', cap', rfl⟩ := ownsRow_succ hown')
              have hbw' : Below w.heap.size w w1 := (hbw.alloc hbw.size _).grown hgrow (by have := hbw.size; simp; omega) (fun j e => own_base hown e)
              clear hgrow hown
              rw [extract_strW] at hown'
              go_wp2_with fail
              go_roundw
              case rel => exact ⟨k + 1, k + 1, ps ++ [(s.data.toList.drop f).take (k + 1 - f)], by omega, Nat.le_refl _, fun _ => rfl, by go_num, by go_num, pieces_step _ _ _ _ hf (by rw [HSL.out]; omega) HC.out HN.out (.inl HY.out), fun j h1 h2 => by omega, by simp; omega, by simpa using hown', hbw'⟩
              case measure => simp [intOf]; omega
            · have hq64 : ((k : Int) + 1 - (f : Int) == 64) = false := by simp; omega
              have HE : Hid (endsAt (s.data.toList.drop f) (k + 1 - f) = (S % 16 == 15)) := by show _ = _; rw [endsAt_mid _ _ (by omega) h64, HW.out]
              by_cases h15 : S % 16 = 15
              · have hq15 : ((S : Int).tmod 16 == 15) = true := by
                  rw [Int.tmod_eq_emod_of_nonneg (by omega)]; simp; omega
                have HY : Hid (endsAt (s.data.toList.drop f) (k + 1 - f) = true) := by show _ = _; rw [HE.out, h15]; rfl
                go_wp2_with (at_builtin; refine wpList_append_own _ rfl (.tmp 55) (.tmp 61) 31 rfl w.heap.size 9 i0 (.string ⟨#[]⟩) 1 16 Tryz.underlying31 hi hz0 hz1 hz2 rfl (by decide) _ _ _ rfl (hown.alloc _) ⟨wr.heap.size, 0, none⟩ 1 1 [.string (s.extract f (k + 1))] rfl rfl (cell_one_new _ _ _) (by simp [Value.oneCell']) (by unfold maxLen; omega) (by omega) (by have := hbw.size; simp; omega) ?_; intro v' w1 hown' hgrow _; obtain ⟨g', cap', rfl⟩ := ownsRow_succ hown')
                have hbw' : Below w.heap.size w w1 := (hbw.alloc hbw.size _).grown hgrow (by have := hbw.size; simp; omega) (fun j e => own_base hown e)
                clear hgrow hown
                rw [extract_strW] at hown'
                go_wp2_with fail
                go_roundw
                case rel => exact ⟨k + 1, k + 1, ps ++ [(s.data.toList.drop f).take (k + 1 - f)], by omega, Nat.le_refl _, fun _ => rfl, by go_num, by go_num, pieces_step _ _ _ _ hf (by rw [HSL.out]; omega) HC.out HN.out (.inl HY.out), fun j h1 h2 => by omega, by simp; omega, by simpa using hown', hbw'⟩
                case measure => simp [intOf]; omega
              · have hq15 : ((S : Int).tmod 16 == 15) = false := by
                  rw [Int.tmod_eq_emod_of_nonneg (by omega)]; simp; omega
                have HY : Hid (endsAt (s.data.toList.drop f) (k + 1 - f) = false) := by show _ = _; rw [HE.out]; simp [h15]
                by_cases hl : k + 1 = s.size
                · have hql : ((k : Int) == (s.size : Int) - 1) = true := by simp; omega
                  have HL : Hid (k + 1 = s.size) := hl
                  clear hl
                  go_wp2_with (at_builtin; refine wpList_append_own _ rfl (.tmp 55) (.tmp 61) 31 rfl w.heap.size 9 i0 (.string ⟨#[]⟩) 1 16 Tryz.underlying31 hi hz0 hz1 hz2 rfl (by decide) _ _ _ rfl (hown.alloc _) ⟨wr.heap.size, 0, none⟩ 1 1 [.string (s.extract f (k + 1))] rfl rfl (cell_one_new _ _ _) (by simp [Value.oneCell']) (by unfold maxLen; omega) (by omega) (by have := hbw.size; simp; omega) ?_; intro v' w1 hown' hgrow _; obtain ⟨g', cap', rfl⟩ := ownsRow_succ hown')
                  have hbw' : Below w.heap.size w w1 := (hbw.alloc hbw.size _).grown hgrow (by have := hbw.size; simp; omega) (fun j e => own_base hown e)
                  clear hgrow hown
                  rw [extract_strW] at hown'
                  go_wp2_with fail
                  go_roundw
                  case rel => exact ⟨k + 1, k + 1, ps ++ [(s.data.toList.drop f).take (k + 1 - f)], by omega, Nat.le_refl _, fun _ => rfl, by go_num, by go_num, pieces_step _ _ _ _ hf (by rw [HSL.out]; omega) HC.out HN.out (.inr (by rw [HSL.out]; exact HL.out)), fun j h1 h2 => by omega, by simp; omega, by simpa using hown', hbw'⟩
                  case measure => simp [intOf]; omega
                · have hql : ((k : Int) == (s.size : Int) - 1) = false := by simp; omega
                  go_wp2_with fail
                  go_roundw
                  case rel => exact ⟨k + 1, f, ps, by omega, by omega, fun e => by omega, by go_num, rfl, HC.out, no_step hf HN.out (HY.out), by omega, hown, hbw⟩
                  case measure => simp [intOf]; omega
    · go_wp2_with fail
      go_ret
      refine ⟨_, rfl, ?_, hbw⟩
      have e1 : k = s.size := by omega
      have e2 := HKF.out e1
      have e3 := HC.out
      rw [List.drop_eq_nil_of_le (by rw [HSL.out]; omega), pieces_nil, List.append_nil] at e3
      rw [e3]
      exact hown
end Go.Proofs.YthgajeobenagjaaGreatDoor
