/-
  Own text. The document's PiecesOf by a contract: the pieces, in new memory.
  Own text. A text's recipe, pure, and the document's RecipeOf by a contract: the IDs in new memory.
  Own text. The program's bin by contracts: New, Copy, Size.
-/
import Derived.Test.YtjdobbjdlighpabGreatDoorH08
import Derived.Test.YtjdobbjdlighpabGreatDoorH07
import Derived.Test.YtjdobbjdlighpabGreatDoorH06
import Derived.Shelf.SlMaps.Clone
namespace Go.Proofs.YtjdobbjdlighpabGreatDoor
open Go.RowKit

theorem wrap_small (n : Int) (h : 0 ≤ n ∧ n ≤ 100000) : wrap64 n = n := by unfold wrap64; omega
theorem pieces_step (l : List UInt8) (f k : Nat) (ps : List (List UInt8)) (hf : f ≤ k) (hk : k < l.length) (hp : pieces l = ps ++ pieces (l.drop f)) (hno : ∀ j, 0 < j → j ≤ k - f → endsAt (l.drop f) j = false)
    (hy : endsAt (l.drop f) (k + 1 - f) = true ∨ k + 1 = l.length) : pieces l = (ps ++ [(l.drop f).take (k + 1 - f)]) ++ pieces (l.drop (k + 1)) := by
  have hne : l.drop f ≠ [] := fun e => by
    have := congrArg List.length e
    rw [List.length_drop, List.length_nil] at this
    omega
  have h1 : first (l.drop f) = k + 1 - f := by
    apply IsFirst.eq
    refine ⟨by omega, by rw [List.length_drop]; omega, fun j h1 h2 => hno j h1 (by omega), ?_⟩
    rcases hy with y | y
    · exact .inl y
    · right; rw [List.length_drop]; omega
  rw [hp, pieces_ne _ hne, h1, List.drop_drop, show f + (k + 1 - f) = k + 1 by omega]
  simp
theorem no_step {l : List UInt8} {f k : Nat} (hf : f ≤ k) (hno : ∀ j, 0 < j → j ≤ k - f → endsAt (l.drop f) j = false) (h : endsAt (l.drop f) (k + 1 - f) = false) : ∀ j, 0 < j → j ≤ k + 1 - f → endsAt (l.drop f) j = false := fun j h1 h2 => by
  by_cases e : j = k + 1 - f
  · rw [e]; exact h
  · exact hno j h1 (by omega)
theorem sumB_take_le (l : List UInt8) (j : Nat) (h : j ≤ 8) : sumB (l.take j) ≤ 2040 := by
  have : ∀ xs : List UInt8, sumB xs ≤ xs.length * 255 := by
    intro xs
    induction xs with
    | nil => simp [sumB]
    | cons x r ih =>
      have hx : x.toNat < 256 := x.toNat_lt
      simp only [sumB, List.map_cons, List.sum_cons, List.length_cons] at ih ⊢
      omega
  exact Nat.le_trans (this (l.take j)) (Nat.mul_le_mul_right 255 (m := 8) (by rw [List.length_take]; omega))
theorem win_back (l : List UInt8) (f k : Nat) (hf : f ≤ k) (h : 16 ≤ k + 1 - f) : win (l.drop f) (k + 1 - f) = (l.drop (k - 7)).take 8 := by
  rw [win_late _ _ (by omega), List.drop_drop]
  congr 2
  omega

set_option maxRecDepth 100000 in
set_option maxHeartbeats 8000000 in
theorem piecesOf_any (s : ByteArray) (hs : s.size ≤ 50000) (w : World) :
    Calls Tryz.prog 112 #[.string s] w fun e w' => ∃ v, e = .returned v ∧ w'.ownsRow w.heap.size 9 1 v (pieces s.data.toList).length ((pieces s.data.toList).map strW) ∧ Below w.heap.size w w' := by
  obtain ⟨i0, hi, hz0, hz1, hz2⟩ := info_parts infoText
  have HSL : Hid (s.data.toList.length = s.size) := by show _ = _; rw [Array.length_toList]; rfl
  go_enter Tryz.func112, Tryz.ntmps112
  go_wp2
  go_loopw [3, 4, 5] (fun v q i wr => ∃ (k f : Nat) (ps : List (List UInt8)), k ≤ s.size ∧ f ≤ k ∧ (k = s.size → f = k) ∧ i = .int .i64 k ∧ q = .int .i64 f ∧ pieces s.data.toList = ps ++ pieces (s.data.toList.drop f) ∧ (∀ j, 0 < j → j ≤ k - f → endsAt (s.data.toList.drop f) j = false) ∧ ps.length ≤ k ∧ wr.ownsRow w.heap.size 9 1 v ps.length (ps.map strW) ∧ Below w.heap.size w wr) (fun _ _ i _ => s.size - (intOf i).toNat)
  case atStart => exact ⟨0, 0, [], Nat.zero_le _, Nat.le_refl _, fun _ => rfl, rfl, rfl, by simp, fun j h1 h2 => by omega, Nat.le_refl _, World.ownsRow_nil _ _ _ _, Below.refl _ _⟩
  case round =>
    obtain ⟨k, f, ps, hk, hf, hkf, rfl, rfl, hcut, hno, hlen, hown, hbw⟩ := hrel
    have HC : Hid (pieces s.data.toList = ps ++ pieces (s.data.toList.drop f)) := hcut
    have HN : Hid (∀ j, 0 < j → j ≤ k - f → endsAt (s.data.toList.drop f) j = false) := hno
    have HKF : Hid (k = s.size → f = k) := hkf
    clear hcut hno hkf
    by_cases hlt : k < s.size
    · have hsf : (f : Int) ≤ (k : Int) + 1 := by omega
      have hsk : (k : Int) + 1 ≤ (s.size : Int) := by omega
      by_cases h16 : k + 1 - f < 16
      · have HLOW : Hid (endsAt (s.data.toList.drop f) (k + 1 - f) = false) := endsAt_low _ _ h16
        have hq64 : ((k : Int) + 1 - (f : Int) == 64) = false := by simp; omega
        have hq16 : (k : Int) + 1 - (f : Int) < 16 := by omega
        go_wp2_with fail
        go_loopw [7, 8] (fun t q wi => t = .int .i64 0 ∧ q = .int .i64 ((k : Int) - 8 + 1) ∧ wi = wr) (fun _ _ _ => 0)
        case atStart => exact ⟨rfl, rfl, rfl⟩
        case round =>
          obtain ⟨rfl, rfl, rfl⟩ := hrel
          by_cases hl : k + 1 = s.size
          · have hql : ((k : Int) == (s.size : Int) - 1) = true := by simp; omega
            have HL : Hid (k + 1 = s.size) := hl
            clear hl
            go_wp2_with (at_builtin; refine wpList_append_own _ rfl (.tmp 55) (.tmp 61) 73 rfl w.heap.size 9 i0 (.string ⟨#[]⟩) 1 16 Tryz.underlying73 hi hz0 hz1 hz2 rfl (by decide) _ _ _ rfl (hown.alloc _) ⟨wr.heap.size, 0, none⟩ 1 1 [.string (s.extract f (k + 1))] rfl rfl (cell_one_new _ _ _) (by simp [Value.oneCell']) (by unfold maxLen; omega) (by omega) (by have := hbw.size; simp; omega) ?_; intro v' w1 hown' hgrow _; obtain ⟨g', cap', rfl⟩ := ownsRow_succ hown')
            have hbw' : Below w.heap.size w w1 := (hbw.alloc hbw.size _).grown hgrow (by have := hbw.size; simp; omega) (fun j e => own_base hown e)
            clear hgrow hown
            rw [extract_strW] at hown'
            go_wp2_with fail
            go_roundw
            case rel => exact ⟨k + 1, k + 1, ps ++ [(s.data.toList.drop f).take (k + 1 - f)], by omega, Nat.le_refl _, fun _ => rfl, by go_num, by go_num, pieces_step _ _ _ _ hf (by rw [HSL.out]; omega) HC.out HN.out (.inr (by rw [HSL.out]; exact HL.out)), fun j h1 h2 => by omega, by simp; omega, by simpa using hown', hbw'⟩
            case measure => simp [intOf]; omega
          · have hql : ((k : Int) == (s.size : Int) - 1) = false := by simp; omega
            go_wp2_with fail
            go_roundw
            case rel => exact ⟨k + 1, f, ps, by omega, by omega, fun e => by omega, by go_num, rfl, HC.out, no_step hf HN.out (HLOW.out), by omega, hown, hbw⟩
            case measure => simp [intOf]; omega
      · have hq16 : 16 ≤ (k : Int) + 1 - (f : Int) := by omega
        go_wp2_with fail
        go_loopw [7, 8] (fun t q wi => ∃ j : Nat, j ≤ 8 ∧ t = .int .i64 (sumB ((s.data.toList.drop (k - 7)).take j) : Nat) ∧ q = .int .i64 ((k : Int) - 8 + 1 + (j : Int)) ∧ wi = wr) (fun _ q _ => 8 - (intOf q - ((k : Int) - 8 + 1)).toNat)
        case atStart => exact ⟨0, by omega, rfl, by simp, rfl⟩
        case round =>
          obtain ⟨j, hj, rfl, rfl, rfl⟩ := hrel
          by_cases hj8 : j < 8
          · have hxj : k - 8 + 1 + j < s.size := by omega
            have HX : Hid (sumB ((s.data.toList.drop (k - 7)).take (j + 1)) = sumB ((s.data.toList.drop (k - 7)).take j) + s[k - 8 + 1 + j].toNat) := by
              show _ = _
              have hlj : j < (s.data.toList.drop (k - 7)).length := by rw [List.length_drop, HSL.out]; omega
              rw [sumB_snoc _ _ hlj, List.getElem_drop]
              have e : k - 7 + j = k - 8 + 1 + j := by omega
              simp only [e, Array.getElem_toList]
              rfl
            have HB : Hid (sumB ((s.data.toList.drop (k - 7)).take j) ≤ 2040) := sumB_take_le _ _ hj
            obtain ⟨S, hS⟩ : ∃ S, sumB ((s.data.toList.drop (k - 7)).take j) = S := ⟨_, rfl⟩
            rw [hS] at HX HB ⊢
            have HSS : Hid (sumB ((s.data.toList.drop (k - 7)).take j) = S) := hS
            clear hS
            go_wp2_with fail
            go_roundw
            case rel =>
              have hb := HB.out
              have hu : s[k - 8 + 1 + j].toNat < 256 := s[k - 8 + 1 + j].toNat_lt
              refine ⟨j + 1, by omega, ?_, by simp; omega, trivial⟩
              rw [HX.out, wrap_small (s[k - 8 + 1 + j].toNat : Int) ⟨by omega, by omega⟩, wrap_small _ ⟨by omega, by omega⟩]
              congr 1
            case measure => simp [intOf]; omega
          · obtain rfl : j = 8 := by omega
            have HW : Hid (sumB (win (s.data.toList.drop f) (k + 1 - f)) = sumB ((s.data.toList.drop (k - 7)).take 8)) := by show _ = _; rw [win_back _ _ _ hf (by omega)]
            obtain ⟨S, hS⟩ : ∃ S, sumB ((s.data.toList.drop (k - 7)).take 8) = S := ⟨_, rfl⟩
            rw [hS] at HW ⊢
            clear hS
            by_cases h64 : k + 1 - f = 64
            · have hq64 : ((k : Int) + 1 - (f : Int) == 64) = true := by simp; omega
              have HY : Hid (endsAt (s.data.toList.drop f) (k + 1 - f) = true) := by show _ = _; rw [h64]; exact endsAt_64 _
              clear h64
              go_wp2_with (at_builtin; refine wpList_append_own _ rfl (.tmp 55) (.tmp 61) 73 rfl w.heap.size 9 i0 (.string ⟨#[]⟩) 1 16 Tryz.underlying73 hi hz0 hz1 hz2 rfl (by decide) _ _ _ rfl (hown.alloc _) ⟨wr.heap.size, 0, none⟩ 1 1 [.string (s.extract f (k + 1))] rfl rfl (cell_one_new _ _ _) (by simp [Value.oneCell']) (by unfold maxLen; omega) (by omega) (by have := hbw.size; simp; omega) ?_; intro v' w1 hown' hgrow _; obtain ⟨g', cap', rfl⟩ := ownsRow_succ hown')
              have hbw' : Below w.heap.size w w1 := (hbw.alloc hbw.size _).grown hgrow (by have := hbw.size; simp; omega) (fun j e => own_base hown e)
              clear hgrow hown
              rw [extract_strW] at hown'
              go_wp2_with fail
              go_roundw
              case rel => exact ⟨k + 1, k + 1, ps ++ [(s.data.toList.drop f).take (k + 1 - f)], by omega, Nat.le_refl _, fun _ => rfl, by go_num, by go_num, pieces_step _ _ _ _ hf (by rw [HSL.out]; omega) HC.out HN.out (.inl HY.out), fun j h1 h2 => by omega, by simp; omega, by simpa using hown', hbw'⟩
              case measure => simp [intOf]; omega
            · have hq64 : ((k : Int) + 1 - (f : Int) == 64) = false := by simp; omega
              have HE : Hid (endsAt (s.data.toList.drop f) (k + 1 - f) = (S % 16 == 15)) := by show _ = _; rw [endsAt_mid _ _ (by omega) h64, HW.out]
              by_cases h15 : S % 16 = 15
              · have hq15 : ((S : Int).tmod 16 == 15) = true := by
                  rw [Int.tmod_eq_emod_of_nonneg (by omega)]; simp; omega
                have HY : Hid (endsAt (s.data.toList.drop f) (k + 1 - f) = true) := by show _ = _; rw [HE.out, h15]; rfl
                go_wp2_with (at_builtin; refine wpList_append_own _ rfl (.tmp 55) (.tmp 61) 73 rfl w.heap.size 9 i0 (.string ⟨#[]⟩) 1 16 Tryz.underlying73 hi hz0 hz1 hz2 rfl (by decide) _ _ _ rfl (hown.alloc _) ⟨wr.heap.size, 0, none⟩ 1 1 [.string (s.extract f (k + 1))] rfl rfl (cell_one_new _ _ _) (by simp [Value.oneCell']) (by unfold maxLen; omega) (by omega) (by have := hbw.size; simp; omega) ?_; intro v' w1 hown' hgrow _; obtain ⟨g', cap', rfl⟩ := ownsRow_succ hown')
                have hbw' : Below w.heap.size w w1 := (hbw.alloc hbw.size _).grown hgrow (by have := hbw.size; simp; omega) (fun j e => own_base hown e)
                clear hgrow hown
                rw [extract_strW] at hown'
                go_wp2_with fail
                go_roundw
                case rel => exact ⟨k + 1, k + 1, ps ++ [(s.data.toList.drop f).take (k + 1 - f)], by omega, Nat.le_refl _, fun _ => rfl, by go_num, by go_num, pieces_step _ _ _ _ hf (by rw [HSL.out]; omega) HC.out HN.out (.inl HY.out), fun j h1 h2 => by omega, by simp; omega, by simpa using hown', hbw'⟩
                case measure => simp [intOf]; omega
              · have hq15 : ((S : Int).tmod 16 == 15) = false := by
                  rw [Int.tmod_eq_emod_of_nonneg (by omega)]; simp; omega
                have HY : Hid (endsAt (s.data.toList.drop f) (k + 1 - f) = false) := by show _ = _; rw [HE.out]; simp [h15]
                by_cases hl : k + 1 = s.size
                · have hql : ((k : Int) == (s.size : Int) - 1) = true := by simp; omega
                  have HL : Hid (k + 1 = s.size) := hl
                  clear hl
                  go_wp2_with (at_builtin; refine wpList_append_own _ rfl (.tmp 55) (.tmp 61) 73 rfl w.heap.size 9 i0 (.string ⟨#[]⟩) 1 16 Tryz.underlying73 hi hz0 hz1 hz2 rfl (by decide) _ _ _ rfl (hown.alloc _) ⟨wr.heap.size, 0, none⟩ 1 1 [.string (s.extract f (k + 1))] rfl rfl (cell_one_new _ _ _) (by simp [Value.oneCell']) (by unfold maxLen; omega) (by omega) (by have := hbw.size; simp; omega) ?_; intro v' w1 hown' hgrow _; obtain ⟨g', cap', rfl⟩ := ownsRow_succ hown')
                  have hbw' : Below w.heap.size w w1 := (hbw.alloc hbw.size _).grown hgrow (by have := hbw.size; simp; omega) (fun j e => own_base hown e)
                  clear hgrow hown
                  rw [extract_strW] at hown'
                  go_wp2_with fail
                  go_roundw
                  case rel => exact ⟨k + 1, k + 1, ps ++ [(s.data.toList.drop f).take (k + 1 - f)], by omega, Nat.le_refl _, fun _ => rfl, by go_num, by go_num, pieces_step _ _ _ _ hf (by rw [HSL.out]; omega) HC.out HN.out (.inr (by rw [HSL.out]; exact HL.out)), fun j h1 h2 => by omega, by simp; omega, by simpa using hown', hbw'⟩
                  case measure => simp [intOf]; omega
                · have hql : ((k : Int) == (s.size : Int) - 1) = false := by simp; omega
                  go_wp2_with fail
                  go_roundw
                  case rel => exact ⟨k + 1, f, ps, by omega, by omega, fun e => by omega, by go_num, rfl, HC.out, no_step hf HN.out (HY.out), by omega, hown, hbw⟩
                  case measure => simp [intOf]; omega
    · go_wp2_with fail
      go_ret
      refine ⟨_, rfl, ?_, hbw⟩
      have e1 : k = s.size := by omega
      have e2 := HKF.out e1
      have e3 := HC.out
      rw [List.drop_eq_nil_of_le (by rw [HSL.out]; omega), pieces_nil, List.append_nil] at e3
      rw [e3]
      exact hown
end Go.Proofs.YtjdobbjdlighpabGreatDoor
namespace Go.Proofs.YtjdobbjdlighpabGreatDoor
open Go.RowKit

def idsOf (l : List UInt8) : List (Nat × Int) := (pieces l).map fun p => (pmore 2166136261 p, (p.length : Int))
def idCells : List (Nat × Int) → List Value
  | [] => []
  | x :: r => .int .u32 (x.1 : Nat) :: .int .i64 x.2 :: idCells r
theorem idCells_append : ∀ (a b : List (Nat × Int)), idCells (a ++ b) = idCells a ++ idCells b
  | [], _ => rfl
  | x :: r, b => by rw [List.cons_append, idCells, idCells_append r b, idCells]; rfl
theorem idCells_length : ∀ (a : List (Nat × Int)), (idCells a).length = a.length * 2
  | [] => rfl
  | x :: r => by rw [idCells, List.length_cons, List.length_cons, idCells_length r, List.length_cons]; omega
theorem idCells_at : ∀ (a : List (Nat × Int)) (i : Nat) (h : i < a.length), (idCells a)[i * 2]? = some (.int .u32 (a[i].1 : Nat)) ∧ (idCells a)[i * 2 + 1]? = some (.int .i64 a[i].2)
  | x :: r, 0, _ => ⟨rfl, rfl⟩
  | x :: r, i + 1, h => by
    have := idCells_at r i (by simpa using h)
    rw [show (i + 1) * 2 = i * 2 + 1 + 1 by omega]
    exact this
/- The same, and the IDs lie from block 'base' on. -/
def IdsIn (base : Nat) (w : World) (v : Value) (ids : List (Nat × Int)) : Prop :=
  ∃ (p : Option Addr) (c : Nat), v = .slice p ids.length c ∧ ∀ i (h : i < ids.length), ∃ b o, p = some ⟨b, o, none⟩ ∧ base ≤ b ∧ b < w.heap.size ∧ w.cell? ⟨b, o + i * 2, none⟩ = some (.int .u32 (ids[i].1 : Nat)) ∧ w.cell? ⟨b, o + i * 2 + 1, none⟩ = some (.int .i64 ids[i].2)
theorem IdsIn.at {base : Nat} {w : World} {v : Value} {ids : List (Nat × Int)} (h : IdsIn base w v ids) : IdsAt w v ids := by
  obtain ⟨p, c, hv, h⟩ := h
  refine ⟨p, c, hv, fun i hi => ?_⟩
  obtain ⟨b, o, hp, _, hlt, h1, h2⟩ := h i hi
  exact ⟨b, o, hp, hlt, h1, h2⟩
theorem IdsIn.low {base base' : Nat} {w : World} {v : Value} {ids : List (Nat × Int)} (h : IdsIn base w v ids) (hb : base' ≤ base) : IdsIn base' w v ids := by
  obtain ⟨p, c, hv, h⟩ := h
  refine ⟨p, c, hv, fun i hi => ?_⟩
  obtain ⟨b, o, hp, hl, h⟩ := h i hi
  exact ⟨b, o, hp, Nat.le_trans hb hl, h⟩
theorem IdsIn.below {base : Nat} {w w' : World} {v : Value} {ids : List (Nat × Int)} (h : IdsIn base w v ids) (hb : Below w.heap.size w w') : IdsIn base w' v ids := by
  obtain ⟨p, c, hv, h⟩ := h
  refine ⟨p, c, hv, fun i hi => ?_⟩
  obtain ⟨b, o, hp, hl, hlt, h1, h2⟩ := h i hi
  exact ⟨b, o, hp, hl, Nat.lt_of_lt_of_le hlt hb.size, (hb.cell (p := ⟨b, o + i * 2, none⟩) hlt).trans h1, (hb.cell (p := ⟨b, o + i * 2 + 1, none⟩) hlt).trans h2⟩
theorem IdsIn.setCell {base : Nat} {w : World} {v : Value} {ids : List (Nat × Int)} (h : IdsIn base w v ids) {a : Addr} (ha : a.block < base) (u : Value) : IdsIn base (w.setCell a u) v ids := by
  obtain ⟨p, c, hv, h⟩ := h
  refine ⟨p, c, hv, fun i hi => ?_⟩
  obtain ⟨b, o, hp, hl, hlt, h1, h2⟩ := h i hi
  have hn : ∀ j, a ≠ ⟨b, j, none⟩ := fun j e => by rw [e] at ha; simp at ha; omega
  exact ⟨b, o, hp, hl, by simp [World.setCell]; exact hlt, by rw [World.cell?_setCell_other _ _ _ _ (hn _)]; exact h1, by rw [World.cell?_setCell_other _ _ _ _ (hn _)]; exact h2⟩
theorem IdsIn.nil (base : Nat) (w : World) : IdsIn base w (.slice none 0 0) [] := ⟨none, 0, rfl, fun i hi => by simp at hi⟩
theorem IdsIn.of_row {w : World} {base : Nat} {e : TypeId} {v : Value} {ids : List (Nat × Int)} (h : w.ownsRow base e 2 v ids.length (idCells ids)) : IdsIn base w v ids := by
  obtain ⟨hl, h⟩ := h
  rcases h with ⟨rfl, h0⟩ | ⟨g, cap, cur, rfl, hg, hb, h1, h2, h3, h4⟩
  · exact ⟨none, 0, by rw [h0], fun i hi => by omega⟩
  · have hgl : g < w.heap.size := by
      rcases Nat.lt_or_ge g w.heap.size with h' | h'
      · exact h'
      · simp [Array.getElem?_eq_none h'] at hb
    have hc : ∀ j u, (idCells ids)[j]? = some u → w.cell? ⟨g, 0 + j, none⟩ = some u := fun j u hj => by
      have hjl : j < (idCells ids).length := (List.getElem?_eq_some_iff.1 hj).1
      have e1 : cur.toList[j]? = some u := by
        rw [← hj, ← h4, List.getElem?_take, if_pos (by omega)]
      rw [Nat.zero_add]
      simp only [World.cell?, hb]
      rw [← Array.getElem?_toList, e1]
      simp
    exact ⟨some ⟨g, 0, none⟩, cap, rfl, fun i hi => ⟨g, 0, rfl, hg, hgl, hc _ _ (idCells_at ids i hi).1, hc _ _ (idCells_at ids i hi).2⟩⟩
theorem IdsAt.of_row {w : World} {base : Nat} {e : TypeId} {v : Value} {ids : List (Nat × Int)} (h : w.ownsRow base e 2 v ids.length (idCells ids)) : IdsAt w v ids := (IdsIn.of_row h).at
theorem IdsAt.nil (w : World) : IdsAt w (.slice none 0 0) [] := ⟨none, 0, rfl, fun i hi => by simp at hi⟩
theorem two_new (W : World) (a b : Value) (t : TypeId) (B : Nat) (hB : B = W.heap.size) : ∀ j u, [a, b][j]? = some u → (W.alloc (.cells #[a, b] t)).cell? ((⟨B, 0, none⟩ : Addr).add j) = some u := by
  intro j u hj
  match j, hj with
  | 0, hj =>
    have : (⟨B, 0, none⟩ : Addr).add 0 = ⟨B, 0, none⟩ := rfl
    rw [this]
    exact new_cell W #[a, b] t (by simpa using hj) hB
  | 1, hj =>
    have : (⟨B, 0, none⟩ : Addr).add 1 = ⟨B, 1, none⟩ := rfl
    rw [this]
    exact new_cell W #[a, b] t (by simpa using hj) hB
  | j + 2, hj => simp at hj
theorem infoID : (Tryz.prog.info? 25).map (fun i => (i.zero, i.size, i.bytes)) = some (some (idV 0 0), 2, 16) := by kernel_rfl

set_option maxRecDepth 100000 in
set_option maxHeartbeats 4000000 in
theorem recipeOf_name (nm s : ByteArray) (hnm : nm.size ≤ maxLen) (h : isName nm.data.toList = false) (w : World) :
    Calls Tryz.prog 110 #[.string nm, .string s] w fun e w' => e = .returned (.tuple #[rcpV ⟨#[]⟩ 0 0 (.slice none 0 0), .int .i64 4]) ∧ Below w.heap.size w w' := by
  have HN : Hid (nm.size ≤ maxLen) := hnm
  clear hnm
  go_enter Tryz.func110, Tryz.ntmps110
  go_wp2_with fail
  refine (refIsName_any nm HN.out _).mono ?_
  rintro e w1 ⟨rfl, rfl⟩
  rw [h]
  go_wp2_with fail
  exact bodyPost_ret (v := .tuple #[rcpV ⟨#[]⟩ 0 0 (.slice none 0 0), .int .i64 4]) (by simp [results, Tryz.results110, go_sem]) rfl ⟨rfl, (Below.refl _ w).alloc (Nat.le_refl _) _⟩

set_option maxRecDepth 100000 in
set_option maxHeartbeats 4000000 in
theorem recipeOf_bound (nm s : ByteArray) (hnm : nm.size ≤ maxLen) (h : isName nm.data.toList = true) (hs : 4000 < s.size) (w : World) :
    Calls Tryz.prog 110 #[.string nm, .string s] w fun e w' => e = .returned (.tuple #[rcpV ⟨#[]⟩ 0 0 (.slice none 0 0), .int .i64 2]) ∧ Below w.heap.size w w' := by
  have HN : Hid (nm.size ≤ maxLen) := hnm
  have hs' : (4000 : Int) < (s.size : Int) := by omega
  clear hnm hs
  go_enter Tryz.func110, Tryz.ntmps110
  go_wp2_with fail
  refine (refIsName_any nm HN.out _).mono ?_
  rintro e w1 ⟨rfl, rfl⟩
  rw [h]
  go_wp2_with fail
  exact bodyPost_ret (v := .tuple #[rcpV ⟨#[]⟩ 0 0 (.slice none 0 0), .int .i64 2]) (by simp [results, Tryz.results110, go_sem]) rfl ⟨rfl, (Below.refl _ w).alloc (Nat.le_refl _) _⟩

set_option maxRecDepth 100000 in
set_option maxHeartbeats 4000000 in
theorem recipeOf_fine (nm s : ByteArray) (hnm : nm.size ≤ maxLen) (h : isName nm.data.toList = true) (hs : s.size ≤ 4000) (w : World) :
    Calls Tryz.prog 110 #[.string nm, .string s] w fun e w' => ∃ v, e = .returned (.tuple #[rcpV nm s.size (pmore 2166136261 s.data.toList : Nat) v, .int .i64 0]) ∧ IdsIn w.heap.size w' v (idsOf s.data.toList) ∧ Below w.heap.size w w' := by
  obtain ⟨i0, hi, hz0, hz1, hz2⟩ := info_parts infoID
  have HN : Hid (nm.size ≤ maxLen) := hnm
  have hs' : ¬ (4000 : Int) < (s.size : Int) := by omega
  have HS : Hid (s.size ≤ 4000) := hs
  have HSM : Hid (s.size ≤ maxLen) := by show _ ≤ _; unfold maxLen; omega
  have HPL : Hid ((pieces s.data.toList).length ≤ 4000) := Nat.le_trans (pieces_len_le _) (by rw [Array.length_toList]; exact hs)
  have HPS : Hid (∀ i (h : i < (pieces s.data.toList).length), ((pieces s.data.toList)[i]).length ≤ 64) := fun i h => (pieces_at _ i h).2.1
  clear hnm hs
  have hP := piecesOf_any s (by have := HS.out; omega)
  have HIO : Hid (idsOf s.data.toList = (pieces s.data.toList).map fun p => (pmore 2166136261 p, (p.length : Int))) := rfl
  rw [HIO.out]
  clear HIO
  generalize pieces s.data.toList = qs at *
  have HP : Hid (∀ (w : World), Calls Tryz.prog 112 #[.string s] w fun e w' => ∃ v, e = .returned v ∧ w'.ownsRow w.heap.size 9 1 v qs.length (qs.map strW) ∧ Below w.heap.size w w') := hP
  clear hP
  go_enter Tryz.func110, Tryz.ntmps110
  go_wp2_with fail
  refine (refIsName_any nm HN.out _).mono ?_
  rintro e w1 ⟨rfl, rfl⟩
  rw [h]
  clear h
  go_wp2_with fail
  refine (HP.out _).mono ?_
  clear HP
  rintro e w0 ⟨v0, rfl, ho0, hb0⟩
  obtain ⟨p0, c0, rfl, hcell⟩ := CellsAt.of_row ho0
  simp only [List.length_map, List.getElem_map] at hcell ⊢
  have hs0 := hb0.size
  have r0 : w0.cell? ⟨w.heap.size, 0, none⟩ = some (.string ⟨#[]⟩) := (hb0.cell (p := ⟨w.heap.size, 0, none⟩) (by simp)).trans (by simp)
  have r1 : w0.cell? ⟨w.heap.size, 1, none⟩ = some (.int .i64 0) := (hb0.cell (p := ⟨w.heap.size, 1, none⟩) (by simp)).trans (by simp)
  have r2 : w0.cell? ⟨w.heap.size, 2, none⟩ = some (.int .u32 0) := (hb0.cell (p := ⟨w.heap.size, 2, none⟩) (by simp)).trans (by simp)
  have r3 : w0.cell? ⟨w.heap.size, 3, none⟩ = some (.slice none 0 0) := (hb0.cell (p := ⟨w.heap.size, 3, none⟩) (by simp)).trans (by simp)
  have g : ∀ i, w0.frozen? ⟨w.heap.size, i, none⟩ = false := fun i => (hb0.frozen (p := ⟨w.heap.size, i, none⟩) (by simp)).trans (new_frozen w _ _ rfl)
  have hlt0 : w.heap.size < w0.heap.size := by simp at hs0; omega
  have hbw0 : Below w.heap.size w w0 := ((Below.refl _ w).alloc (Nat.le_refl _) _).trans (hb0.mono (by simp))
  have HR : Hid (∀ W', Below w0.heap.size w0 W' → (W'.cell? ⟨w.heap.size, 0, none⟩ = some (.string ⟨#[]⟩) ∧ W'.cell? ⟨w.heap.size, 1, none⟩ = some (.int .i64 0) ∧ W'.cell? ⟨w.heap.size, 2, none⟩ = some (.int .u32 0) ∧ W'.cell? ⟨w.heap.size, 3, none⟩ = some (.slice none 0 0)) ∧ ∀ i, W'.frozen? ⟨w.heap.size, i, none⟩ = false) := fun W' hb =>
    ⟨⟨(hb.cell (p := ⟨w.heap.size, 0, none⟩) hlt0).trans r0, (hb.cell (p := ⟨w.heap.size, 1, none⟩) hlt0).trans r1, (hb.cell (p := ⟨w.heap.size, 2, none⟩) hlt0).trans r2, (hb.cell (p := ⟨w.heap.size, 3, none⟩) hlt0).trans r3⟩, fun i => (hb.frozen (p := ⟨w.heap.size, i, none⟩) hlt0).trans (g i)⟩
  have HCELL : Hid (∀ i (h : i < qs.length), ∃ b o, p0 = some ⟨b, o, none⟩ ∧ ∀ W', Below w0.heap.size w0 W' → W'.cell? ⟨b, o + i, none⟩ = some (strW qs[i])) := fun i hi => by
    obtain ⟨b, o, hp, hl, hc⟩ := hcell i hi
    exact ⟨b, o, hp, fun W' hb => (hb.cell (p := ⟨b, o + i, none⟩) hl.1).trans hc⟩
  have hql : (qs.length : Int) ≤ 4000 := by have := HPL.out; omega
  clear hcell ho0 hb0 hs0 r0 r1 r2 r3 g
  go_wp2_with fail
  go_loopw [7, 9] (fun v i wr => ∃ (k : Nat), k ≤ qs.length ∧ i = .int .i64 k ∧ wr.ownsRow w0.heap.size 25 2 v k (idCells ((qs.take k).map fun p => (pmore 2166136261 p, (p.length : Int)))) ∧ Below w0.heap.size w0 wr) (fun _ i _ => qs.length - (intOf i).toNat)
  case atStart => exact ⟨0, Nat.zero_le _, rfl, World.ownsRow_nil _ _ _ _, Below.refl _ _⟩
  case round =>
    obtain ⟨k, hk, rfl, hown, hbr⟩ := hrel
    by_cases hlt : k < qs.length
    · have hlt' : (k : Int) < (qs.length : Int) := by omega
      obtain ⟨b, o, rfl, hc⟩ := HCELL.out k hlt
      have hc' := hc wr hbr
      have HNX : Hid (idCells ((qs.take (k + 1)).map fun p => (pmore 2166136261 p, (p.length : Int))) = idCells ((qs.take k).map fun p => (pmore 2166136261 p, (p.length : Int))) ++ [.int .u32 (pmore 2166136261 qs[k] : Nat), .int .i64 (qs[k].length : Int)]) := by
        show _ = _
        rw [List.take_succ_eq_append_getElem hlt, List.map_append, idCells_append]
        rfl
      obtain ⟨q, hq⟩ : ∃ q : ByteArray, (⟨qs[k].toArray⟩ : ByteArray) = q := ⟨_, rfl⟩
      have hqd : q.data.toList = qs[k] := by rw [← hq]
      have hqs : (q.size : Int) = (qs[k].length : Int) := by rw [← hq]; rfl
      have HQM : Hid (q.size ≤ maxLen) := by
        show _ ≤ _
        have := HPS.out k hlt
        unfold maxLen
        omega
      rw [strW, hq] at hc'
      rw [← hqd] at HNX
      obtain ⟨P, hP⟩ : ∃ P, pmore 2166136261 q.data.toList = P := ⟨_, rfl⟩
      have HPP : Hid (pmore 2166136261 q.data.toList = P) := hP
      rw [hP] at HNX
      rw [hqd, ← hqs] at HNX
      obtain ⟨L, hL⟩ : ∃ L : Int, (q.size : Int) = L := ⟨_, rfl⟩
      have HLL : Hid ((q.size : Int) = L) := hL
      rw [hL] at HNX
      clear hc hqs hqd hq hP hL
      go_wp2_with fail
      refine (idOf_any q _ HQM.out).mono ?_
      rintro e w2 ⟨rfl, hb2⟩
      rw [HPP.out, HLL.out]
      have hown2 := row_below hown hb2
      have hbr2 : Below w0.heap.size w0 w2 := hbr.trans (hb2.mono hbr.size)
      clear hown hb2
      go_wp2_with (at_builtin; refine wpList_append_own _ rfl (.tmp 33) (.tmp 35) 38 rfl w0.heap.size 25 i0 (idV 0 0) 2 16 Tryz.underlying38 hi hz0 hz1 hz2 rfl (by decide) _ _ _ rfl ((hown2.alloc _).alloc _) ⟨w2.heap.size + 1, 0, none⟩ 1 1 [.int .u32 (P : Nat), .int .i64 L] rfl rfl (two_new _ _ _ _ _ (by simp)) (by simp [Value.oneCell']) (by unfold maxLen; omega) (by omega) (by have := hbr2.size; simp; omega) ?_; intro v' w3 hown' hgrow _; obtain ⟨g', cap', rfl⟩ := ownsRow_succ hown')
      have hbr3 : Below w0.heap.size w0 w3 := ((hbr2.alloc hbr2.size _).alloc (by have := hbr2.size; simp; omega) _).grown hgrow (by have := hbr2.size; simp; omega) (fun j e => own_base hown2 e)
      clear hgrow hown2
      go_wp2_with fail
      go_roundw
      case rel => exact ⟨k + 1, by omega, by go_num, by rw [HNX.out]; exact hown', hbr3⟩
      case measure => simp [intOf]; omega
    · have hge : (qs.length : Int) ≤ (k : Int) := by omega
      rw [List.take_of_length_le (by omega)] at hown
      obtain rfl : k = qs.length := by omega
      have HI : Hid (IdsAt wr u7 (qs.map fun p => (pmore 2166136261 p, (p.length : Int)))) := IdsAt.of_row (by rw [List.length_map]; exact hown)
      obtain ⟨⟨r0, r1, r2, r3⟩, g⟩ := HR.out wr hbr
      have g0 := g 0
      have g1 := g 1
      have g2 := g 2
      have g3 := g 3
      have hbw : Below w.heap.size w wr := hbw0.trans (hbr.mono hbw0.size)
      have hltr : w.heap.size < wr.heap.size := Nat.lt_of_lt_of_le hlt0 hbr.size
      have HIX := HI.out
      obtain ⟨pp, cc, hu, _⟩ := HIX
      rw [List.length_map] at hu
      subst hu
      have HROW : Hid (wr.ownsRow w0.heap.size 25 2 (.slice pp qs.length cc) qs.length (idCells (qs.map fun p => (pmore 2166136261 p, (p.length : Int))))) := hown
      clear g hown HI
      go_wp2_with fail
      refine (printOf_any s _ HSM.out).mono ?_
      rintro e w3 ⟨rfl, hw3⟩
      subst hw3
      obtain ⟨P, hP⟩ : ∃ P, pmore 2166136261 s.data.toList = P := ⟨_, rfl⟩
      have HPP : Hid (pmore 2166136261 s.data.toList = P) := hP
      rw [hP]
      clear hP
      go_wp2_with fail
      refine bodyPost_ret (v := .tuple #[rcpV nm s.size (P : Nat) (.slice pp qs.length cc), .int .i64 0]) (by simp [results, Tryz.results110, go_sem, r0, r1, r2, r3]) rfl ⟨.slice pp qs.length cc, by rw [HPP.out], ?_, (((hbw.setCell (p := ⟨w.heap.size, 0, none⟩) (Nat.le_refl _) _).setCell (p := ⟨w.heap.size, 1, none⟩) (Nat.le_refl _) _).setCell (p := ⟨w.heap.size, 2, none⟩) (Nat.le_refl _) _).setCell (p := ⟨w.heap.size, 3, none⟩) (Nat.le_refl _) _⟩
      refine (IdsIn.of_row (base := w0.heap.size) (e := 25) ?_).low (Nat.le_of_lt hlt0)
      rw [List.length_map]
      exact ownsRow_setCell_below (ownsRow_setCell_below (ownsRow_setCell_below (ownsRow_setCell_below HROW.out (a := ⟨w.heap.size, 0, none⟩) hlt0 _) (a := ⟨w.heap.size, 1, none⟩) hlt0 _) (a := ⟨w.heap.size, 2, none⟩) hlt0 _) (a := ⟨w.heap.size, 3, none⟩) hlt0 _
end Go.Proofs.YtjdobbjdlighpabGreatDoor
namespace Go.Proofs.YtjdobbjdlighpabGreatDoor
open Go.RowKit Go.Maps

set_option maxRecDepth 100000 in
set_option maxHeartbeats 4000000 in
theorem pNew_any (w : World) : Calls Tryz.prog 74 #[] w fun e w' => ∃ p F, e = .returned (.pointer (some p)) ∧ PBin0 w' p F [] ∧ (∀ k, F k → w.heap.size ≤ k) ∧ Below w.heap.size w w' := by
  have hmm := @run_makeMap Tryz.prog
  have hb1 := (Below.refl w.heap.size w).alloc (Nat.le_refl _) (.map #[] 0)
  have hM := MapKit.Of.made idPieces w
  have hb2 := (Below.refl _ (w.alloc (.map #[] 0))).alloc (Nat.le_refl _) (.cells #[.map (some w.heap.size)] 151)
  have hB := Blk.new (w.alloc (.map #[] 0)) #[.map (some w.heap.size)] 151
  have hs : (w.alloc (.map #[] 0)).heap.size = w.heap.size + 1 := by simp
  rw [hs] at hB
  go_enter Tryz.func74, Tryz.ntmps74
  go_wp2_with fail
  go_ret
  exact ⟨⟨w.heap.size + 1, 0, none⟩, _, rfl, ⟨w.heap.size + 1, w.heap.size, rfl, hB, of_below hM hb2, by omega, rfl⟩, fun k hk => by rcases hk with rfl | rfl <;> omega, hb1.trans (hb2.mono hb1.size)⟩

set_option maxRecDepth 100000 in
set_option maxHeartbeats 4000000 in
theorem clone_any (b : Nat) (l : List Hd) (w : World) (h : idPieces.Of w b l) :
    Calls Tryz.prog 120 #[.map (some b)] w fun e w' => e = .returned (.map (some w.heap.size)) ∧ idPieces.Of w' w.heap.size l ∧ Below w.heap.size w w' := by
  obtain ⟨es, clock, hb⟩ := h.isMap
  have hq := fun w => run_eql_map_nil_sl (P := Tryz.prog) w 149 _ _ (some b) Tryz.underlying149
  go_enter Tryz.func120, Tryz.ntmps120
  go_wp2_with fail
  rw [run_callFunc_extern Tryz.func119 (by kernel_rfl) (by kernel_rfl) (by kernel_rfl) (e := Extern.MapsClone.clone) (by kernel_rfl), run_maps_clone_sl w 149 hb]
  simp only [Result.andThen]
  rw [Oper.upon_value]
  go_wp2_with fail
  rw [run_typeAssert_map_sl _ 149 20 _ _ _ Tryz.underlying149]
  simp only [Result.andThen]
  rw [Oper.upon_value]
  go_wp2_with fail
  go_ret
  exact ⟨rfl, h.moved ((World.alloc_heap_new w _).trans hb.symm), (Below.refl _ w).alloc (Nat.le_refl _) _⟩

set_option maxRecDepth 100000 in
set_option maxHeartbeats 4000000 in
theorem pCopy_any (p : Addr) (F : Nat → Prop) (l : List Hd) (w : World) (hP : PBin0 w p F l) :
    Calls Tryz.prog 57 #[.pointer (some p)] w fun e w' => ∃ p' F', e = .returned (.pointer (some p')) ∧ PBin0 w' p' F' l ∧ (∀ k, F' k → w.heap.size ≤ k) ∧ Below w.heap.size w w' := by
  obtain ⟨B, b, rfl, hB, hM, hne, rfl⟩ := hP
  have q0 := hB.cell (i := 0) rfl
  have hc := clone_any b l w hM
  go_enter Tryz.func57, Tryz.ntmps57
  go_wp2_with fail
  refine hc.mono ?_
  rintro e w1 ⟨rfl, hM1, hb1⟩
  have hb2 := (Below.refl _ w1).alloc (Nat.le_refl _) (.cells #[.map (some w.heap.size)] 151)
  have hB2 := Blk.new w1 #[.map (some w.heap.size)] 151
  have hM2 := of_below hM1 hb2
  have hl := hM1.lt
  go_wp2_with fail
  go_ret
  exact ⟨⟨w1.heap.size, 0, none⟩, _, rfl, ⟨w1.heap.size, w.heap.size, rfl, hB2, hM2, by omega, rfl⟩, fun k hk => by rcases hk with rfl | rfl <;> omega, hb1.trans (hb2.mono hb1.size)⟩

theorem hSize_cons (h : Hd) (l : List Hd) : hSize (h :: l) = h.1.2 + hSize l := by simp [hSize]
theorem hSize_perm {a b : List Hd} (h : a.Perm b) : hSize a = hSize b := by
  induction h with
  | nil => rfl
  | cons x _ ih => rw [hSize_cons, hSize_cons, ih]
  | swap x y l => rw [hSize_cons, hSize_cons, hSize_cons, hSize_cons]; omega
  | trans _ _ h1 h2 => rw [h1, h2]
theorem hSize_filter_bound {U : Int} {l : List Hd} (h : BinOk U l) (p : Hd → Bool) : 0 ≤ hSize (l.filter p) ∧ hSize (l.filter p) ≤ 16000 := by
  have h1 := hSize_bound (l.filter p) 64 (by decide) (fun x hx => h.lens x (List.mem_filter.1 hx).1)
  have h2 := List.length_filter_le p l
  have h3 := h.many
  omega

set_option maxRecDepth 100000 in
set_option maxHeartbeats 4000000 in
theorem pSize_any (p : Addr) (F : Nat → Prop) (l : List Hd) (w : World) (hok : BinOk 1000000 l) (hP : PBin0 w p F l) :
    Calls Tryz.prog 109 #[.pointer (some p)] w fun e w' => e = .returned (.int .i64 (hSize l)) ∧ Below w.heap.size w w' := by
  obtain ⟨B, b, rfl, hB, hM, hne, rfl⟩ := hP
  have q0 := hB.cell (i := 0) rfl
  have hap := hM.apart
  have hbl := hM.lt
  have HOK : Hid (BinOk 1000000 l) := hok
  clear hok
  go_enter Tryz.func109, Tryz.ntmps109
  go_wp2_with (first
    | (at_range; refine wp_range_kit idPieces _ rfl _ 149 rfl 153 Tryz.underlying149 b l rfl hM ?_; intro w0 hr0 hg0 hs0)
    | go_in)
  go_frame
  go_loopw [3, 10] (fun n _ wr => ∃ (left : Nat × Int → Bool) (cnt : Nat), n = .int .i64 (hSize (l.filter (fun h => !left h.1))) ∧ idPieces.Rng wr b w.heap.size l left cnt ∧ w.grownBy wr none) (fun _ _ wr => wr.rangeLeft b w.heap.size)
  case atStart =>
    refine ⟨_, _, ?_, hr0, hg0⟩
    rw [List.filter_eq_nil_iff.2 (fun h hm => by simp only [Bool.not_eq_true', Bool.not_eq_false, decide_eq_true_eq]; simp; exact ⟨_, _, hm⟩)]
    rfl
  case round =>
    obtain ⟨left, cnt, rfl, hrg, hgw⟩ := hrel
    obtain ⟨n1, n2⟩ := hSize_filter_bound HOK.out (fun h => !left h.1)
    obtain ⟨N, hN⟩ : ∃ N, hSize (l.filter (fun h => !left h.1)) = N := ⟨_, rfl⟩
    have HN : Hid (hSize (l.filter (fun h => !left h.1)) = N) := hN
    rw [hN] at n1 n2 ⊢
    clear hN
    go_wp2_with (first
      | (at_next; refine wp_next_kit idPieces _ rfl _ rfl b w.heap.size l left cnt rfl hrg ?_ ?_)
      | go_in)
    · intro h0
      go_wp2_with fail
      go_ret
      refine ⟨?_, below_of_grown hgw⟩
      rw [← HN.out, List.filter_eq_self.2 (fun h hm => by have := h0 h.1.1 h.1.2 h.2.1 h.2.2 hm; simp [this])]
      rfl
    · intro xp xl u t w1 cnt1 hm hlx hrg1 hlt hg1 hs1 hen
      change (Instr.entry (.pointer (some ⟨w.heap.size, 0, none⟩))).run Tryz.prog w1 = .ok (.tuple #[idV (xp : Nat) xl, pieceV (u, t)]) w1 at hen
      have hfl := filter_flip hap (p := left) hm hlx
      have HS : Hid (hSize (l.filter (fun y => !(left y.1 && !decide (y.1 = (xp, xl))))) = xl + N) := by
        show _ = _
        rw [hSize_perm hfl, hSize_cons, HN.out]
      obtain ⟨m1, m2⟩ := hSize_filter_bound HOK.out (fun y => !(left y.1 && !decide (y.1 = (xp, xl))))
      rw [HS.out] at m1 m2
      have hw : IntKind.i64.wrap (N + xl) = N + xl := by rw [IntKind.wrap_i64]; omega
      have hgw1 := hgw.andThen hg1 (fun j hj => by cases hj; exact .inl (Nat.le_refl _))
      have hal := World.grownBy_alloc w1 (.cells #[.int .u32 (xp : Nat), .int .i64 xl] 25) none
      have hrg2 := hrg1.kept hal (by simp) (by simp)
      have i1 := (Blk.new w1 #[.int .u32 (xp : Nat), .int .i64 xl] 25).cell (i := 1) rfl
      have hgw2 := hgw1.andThen hal (fun j hj => by cases hj)
      clear hfl hM hB hr0 hg0
      go_wp2_with fail
      go_roundw
      case rel => exact ⟨_, cnt1, by rw [HS.out, Int.add_comm], hrg2, hgw2⟩
      case measure => rw [hrg2.left_eq, hrg.left_eq]; exact hlt
end Go.Proofs.YtjdobbjdlighpabGreatDoor
