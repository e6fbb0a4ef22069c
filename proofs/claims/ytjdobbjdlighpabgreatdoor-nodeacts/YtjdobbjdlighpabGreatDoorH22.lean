/-
  Own text. A recipe out of a text, pure, and the document's ReadRecipe by a contract.
  Own text. Recipes, pure: a text's recipe has no fault; what is joined of it and its pieces is the text, with another piece none; it is read as it was written; its rep is one of its IDs, and none is less.
  Own text. The document's SameIDs and SameRecipe of two that hold the same, by contracts: true; no old memory turns.
-/
import Derived.Test.YtjdobbjdlighpabGreatDoorH20
import Derived.Test.YtjdobbjdlighpabGreatDoorH21
import Derived.Test.YtjdobbjdlighpabGreatDoorH04
import Derived.Test.YtjdobbjdlighpabGreatDoorH03
import Derived.Deep.QuietTactic
import Derived.BigQuiet
namespace Go.Proofs.YtjdobbjdlighpabGreatDoor
open Go.RowKit

def readIds : List (List UInt8) → Option (List (Nat × Int))
  | [] => some []
  | t :: r => match idRead t, readIds r with
    | some x, some ids => some ((x.1, (x.2 : Int)) :: ids)
    | _, _ => none
abbrev RcpD := List UInt8 × Int × Nat × List (Nat × Int)
def rcpRead (t : List UInt8) : RcpD × (Int × Int) :=
  match cutBy 32 t with
  | nm :: ln :: pr :: r => match numOf ln 6, unhex8 pr, readIds r with
    | some n, some p, some ids => if recFault nm n ids = (0, -1) then ((nm, (n : Int), p, ids), (0, -1)) else (([], 0, 0, []), recFault nm n ids)
    | _, _, _ => (([], 0, 0, []), (1, -1))
  | _ => (([], 0, 0, []), (1, -1))
theorem readIds_snoc : ∀ (l : List (List UInt8)) (t : List UInt8) (ids : List (Nat × Int)) (x : Nat × Nat), readIds l = some ids → idRead t = some x → readIds (l ++ [t]) = some (ids ++ [(x.1, (x.2 : Int))])
  | [], t, ids, x, h, hx => by
    cases h
    simp [readIds, hx]
  | u :: r, t, ids, x, h, hx => by
    rw [readIds] at h
    rw [List.cons_append, readIds]
    split at h
    · rename_i y js hy hj
      cases h
      rw [hy, readIds_snoc r t js x hj hx]
      rfl
    · cases h
theorem readIds_none : ∀ (l : List (List UInt8)) (k : Nat) (h : k < l.length), idRead l[k] = none → readIds l = none
  | u :: r, 0, _, hx => by
    have hx' : idRead u = none := hx
    rw [readIds, hx']
  | u :: r, k + 1, h, hx => by
    rw [readIds, readIds_none r k (by simpa using h) (by simpa using hx)]
    cases idRead u <;> rfl
theorem cutBy_len (c : UInt8) : ∀ (l : List UInt8), (cutBy c l).length ≤ l.length + 1 ∧ ∀ p ∈ cutBy c l, p.length ≤ l.length
  | [] => by simp [cutBy]
  | x :: l => by
    have ih := cutBy_len c l
    rw [cutBy]
    split
    · refine ⟨by simp; exact ih.1, fun p hp => ?_⟩
      rcases List.mem_cons.1 hp with rfl | hp
      · simp
      · exact Nat.le_trans (ih.2 p hp) (by simp)
    · split
      · rename_i p r he
        rw [he] at ih
        refine ⟨by simp at ih ⊢; omega, fun q hq => ?_⟩
        rcases List.mem_cons.1 hq with rfl | hq
        · have := ih.2 p (by simp)
          simp
          omega
        · exact Nat.le_trans (ih.2 q (by simp [hq])) (by simp)
      · exact ⟨by simp, fun q hq => by simp at hq; subst hq; simp⟩
theorem rcpRead_short (t : List UInt8) (h : (cutBy 32 t).length < 3) : rcpRead t = (([], 0, 0, []), (1, -1)) := by
  unfold rcpRead
  split
  · rename_i e
    rw [e] at h
    simp at h
    omega
  · rfl

theorem rcpRead_parts {t nm ln pr : List UInt8} {rs : List (List UInt8)} (h : cutBy 32 t = nm :: ln :: pr :: rs) : rcpRead t = match numOf ln 6, unhex8 pr, readIds rs with
    | some n, some p, some ids => if recFault nm n ids = (0, -1) then ((nm, (n : Int), p, ids), (0, -1)) else (([], 0, 0, []), recFault nm n ids)
    | _, _, _ => (([], 0, 0, []), (1, -1)) := by
  unfold rcpRead
  rw [h]
theorem rcpRead_num {t nm ln pr : List UInt8} {rs : List (List UInt8)} (h : cutBy 32 t = nm :: ln :: pr :: rs) (hn : numOf ln 6 = none) : rcpRead t = (([], 0, 0, []), (1, -1)) := by
  rw [rcpRead_parts h, hn]
theorem rcpRead_hex {t nm ln pr : List UInt8} {rs : List (List UInt8)} (h : cutBy 32 t = nm :: ln :: pr :: rs) {n : Nat} (hn : numOf ln 6 = some n) (hu : unhex8 pr = none) : rcpRead t = (([], 0, 0, []), (1, -1)) := by
  rw [rcpRead_parts h, hn, hu]
theorem rcpRead_ids {t nm ln pr : List UInt8} {rs : List (List UInt8)} (h : cutBy 32 t = nm :: ln :: pr :: rs) {n p : Nat} (hn : numOf ln 6 = some n) (hu : unhex8 pr = some p) (hi : readIds rs = none) : rcpRead t = (([], 0, 0, []), (1, -1)) := by
  rw [rcpRead_parts h, hn, hu, hi]
theorem rcpRead_all {t nm ln pr : List UInt8} {rs : List (List UInt8)} (h : cutBy 32 t = nm :: ln :: pr :: rs) {n p : Nat} (hn : numOf ln 6 = some n) (hu : unhex8 pr = some p) {ids : List (Nat × Int)} (hi : readIds rs = some ids) : rcpRead t = if recFault nm n ids = (0, -1) then ((nm, (n : Int), p, ids), (0, -1)) else (([], 0, 0, []), recFault nm n ids) := by
  rw [rcpRead_parts h, hn, hu, hi]
theorem unhex8_any (p : List UInt8) (w : World) : Calls Tryz.prog 162 #[strV p] w fun e w' => e = .returned (hexRes (unhex8 p)) ∧ w' = w := by
  by_cases h : p.length = 8
  · have := refUnhex_any ⟨p.toArray⟩ (by rw [str_size]; exact h) w
    rw [str_list] at this
    rw [unhex8, if_pos h]
    exact this
  · have := refUnhex_no ⟨p.toArray⟩ (by rw [str_size]; exact h) w
    rw [unhex8, if_neg h]
    exact this
/- The two results, in blocks of their own, still empty. -/
structure ReadW (w W : World) : Prop where
  below : Below w.heap.size w W
  size : w.heap.size + 1 < W.heap.size
  r0 : W.cell? ⟨w.heap.size, 0, none⟩ = some (.string ⟨#[]⟩)
  r1 : W.cell? ⟨w.heap.size, 1, none⟩ = some (.int .i64 0)
  r2 : W.cell? ⟨w.heap.size, 2, none⟩ = some (.int .u32 0)
  r3 : W.cell? ⟨w.heap.size, 3, none⟩ = some (.slice none 0 0)
  k0 : W.cell? ⟨w.heap.size + 1, 0, none⟩ = some (.int .i64 0)
  k1 : W.cell? ⟨w.heap.size + 1, 1, none⟩ = some (.int .i64 0)
  g : ∀ i, W.frozen? ⟨w.heap.size, i, none⟩ = false
  f : ∀ i, W.frozen? ⟨w.heap.size + 1, i, none⟩ = false
theorem ReadW.new (w : World) (t t' : TypeId) : ReadW w ((w.alloc (.cells #[.string ⟨#[]⟩, .int .i64 0, .int .u32 0, .slice none 0 0] t)).alloc (.cells #[.int .i64 0, .int .i64 0] t')) where
  below := ((Below.refl _ w).alloc (Nat.le_refl _) _).alloc (by simp) _
  size := by simp
  r0 := by rw [World.cell?_alloc_lt _ _ ⟨w.heap.size, 0, none⟩ (by simp)]; simp
  r1 := by rw [World.cell?_alloc_lt _ _ ⟨w.heap.size, 1, none⟩ (by simp)]; simp
  r2 := by rw [World.cell?_alloc_lt _ _ ⟨w.heap.size, 2, none⟩ (by simp)]; simp
  r3 := by rw [World.cell?_alloc_lt _ _ ⟨w.heap.size, 3, none⟩ (by simp)]; simp
  k0 := by simp
  k1 := by simp
  g := fun i => by rw [frozen_alloc_lt' _ _ (by simp)]; exact new_frozen w _ _ rfl
  f := fun i => new_frozen _ _ _ (by simp)
theorem ReadW.next {w W W' : World} (h : ReadW w W) (hb : Below W.heap.size W W') : ReadW w W' := by
  have hs := h.size
  have hs' := hb.size
  exact ⟨h.below.trans (hb.mono h.below.size), by omega, (hb.cell (p := ⟨_, 0, none⟩) (by simp; omega)).trans h.r0, (hb.cell (p := ⟨_, 1, none⟩) (by simp; omega)).trans h.r1, (hb.cell (p := ⟨_, 2, none⟩) (by simp; omega)).trans h.r2, (hb.cell (p := ⟨_, 3, none⟩) (by simp; omega)).trans h.r3,
    (hb.cell (p := ⟨_, 0, none⟩) (by simp; omega)).trans h.k0, (hb.cell (p := ⟨_, 1, none⟩) (by simp; omega)).trans h.k1, fun i => (hb.frozen (p := ⟨_, i, none⟩) (by simp; omega)).trans (h.g i), fun i => (hb.frozen (p := ⟨_, i, none⟩) (by simp; omega)).trans (h.f i)⟩

/- A refusal: both results stored. -/
def readPost (s : ByteArray) (w : World) (e : Ending) (w' : World) : Prop := ∃ v, e = .returned (.tuple #[rcpV ⟨(rcpRead s.data.toList).1.1.toArray⟩ (rcpRead s.data.toList).1.2.1 ((rcpRead s.data.toList).1.2.2.1 : Nat) v, faultV (rcpRead s.data.toList).2.1 (rcpRead s.data.toList).2.2]) ∧ IdsIn w.heap.size w' v (rcpRead s.data.toList).1.2.2.2 ∧ Below w.heap.size w w'
abbrev stored (W : World) (h : Nat) (c a : Int) : World := (((((W.setCell ⟨h, 0, none⟩ (.string ⟨#[]⟩)).setCell ⟨h, 1, none⟩ (.int .i64 0)).setCell ⟨h, 2, none⟩ (.int .u32 0)).setCell ⟨h, 3, none⟩ (.slice none 0 0)).setCell ⟨h + 1, 0, none⟩ (.int .i64 c)).setCell ⟨h + 1, 1, none⟩ (.int .i64 a)
theorem readBad {s : ByteArray} {w W : World} {c a : Int} (h : ReadW w W) (hr : rcpRead s.data.toList = (([], 0, 0, []), (c, a))) : readPost s w (.returned (.tuple #[rcpV ⟨#[]⟩ 0 0 (.slice none 0 0), faultV c a])) (stored W w.heap.size c a) := by
  refine ⟨.slice none 0 0, by rw [hr]; rfl, by rw [hr]; exact IdsIn.nil _ _, ?_⟩
  exact (((((h.below.setCell (p := ⟨w.heap.size, 0, none⟩) (Nat.le_refl _) _).setCell (p := ⟨w.heap.size, 1, none⟩) (Nat.le_refl _) _).setCell (p := ⟨w.heap.size, 2, none⟩) (Nat.le_refl _) _).setCell (p := ⟨w.heap.size, 3, none⟩) (Nat.le_refl _) _).setCell (p := ⟨w.heap.size + 1, 0, none⟩) (by simp) _).setCell (p := ⟨w.heap.size + 1, 1, none⟩) (by simp) _

theorem readPost.drew {s : ByteArray} {w w' : World} {e : Ending} (h : readPost s w e w') : readPost s w e w'.drew := by
  obtain ⟨v, h1, h2, h3⟩ := h
  exact ⟨v, h1, h2.below (Below.refl _ _).drew, h3.drew⟩
abbrev stored4 (W : World) (h : Nat) (a b c d : Value) (x y : Int) : World := (((((W.setCell ⟨h, 0, none⟩ a).setCell ⟨h, 1, none⟩ b).setCell ⟨h, 2, none⟩ c).setCell ⟨h, 3, none⟩ d).setCell ⟨h + 1, 0, none⟩ (.int .i64 x)).setCell ⟨h + 1, 1, none⟩ (.int .i64 y)
theorem readGood {s : ByteArray} {w W : World} {nm : ByteArray} {n : Int} {p : Nat} {ids : List (Nat × Int)} {v : Value} {base : Nat} {e : TypeId} (h : ReadW w W) (hb : w.heap.size + 1 < base) (ho : W.ownsRow base e 2 v ids.length (idCells ids)) (hr : rcpRead s.data.toList = ((nm.data.toList, n, p, ids), (0, -1))) :
    readPost s w (.returned (.tuple #[rcpV nm n (p : Nat) v, faultV 0 (-1)])) (stored4 W w.heap.size (.string nm) (.int .i64 n) (.int .u32 (p : Nat)) v 0 (-1)) := by
  refine ⟨v, ?_, ?_, ?_⟩
  · rw [hr, show (⟨nm.data.toList.toArray⟩ : ByteArray) = nm from (bytes_eq rfl).symm]
  · rw [hr]
    refine (IdsIn.of_row (base := base) (e := e) ?_).low (by omega)
    have h0 : w.heap.size < base := by omega
    exact ownsRow_setCell_below (ownsRow_setCell_below (ownsRow_setCell_below (ownsRow_setCell_below (ownsRow_setCell_below (ownsRow_setCell_below ho (a := ⟨w.heap.size, 0, none⟩) h0 _) (a := ⟨w.heap.size, 1, none⟩) h0 _) (a := ⟨w.heap.size, 2, none⟩) h0 _) (a := ⟨w.heap.size, 3, none⟩) h0 _) (a := ⟨w.heap.size + 1, 0, none⟩) hb _) (a := ⟨w.heap.size + 1, 1, none⟩) hb _
  · exact (((((h.below.setCell (p := ⟨w.heap.size, 0, none⟩) (Nat.le_refl _) _).setCell (p := ⟨w.heap.size, 1, none⟩) (Nat.le_refl _) _).setCell (p := ⟨w.heap.size, 2, none⟩) (Nat.le_refl _) _).setCell (p := ⟨w.heap.size, 3, none⟩) (Nat.le_refl _) _).setCell (p := ⟨w.heap.size + 1, 0, none⟩) (by simp) _).setCell (p := ⟨w.heap.size + 1, 1, none⟩) (by simp) _

set_option maxRecDepth 100000 in
set_option maxHeartbeats 4000000 in
theorem readRecipe_any (s : ByteArray) (hs : s.size ≤ 40000) (w : World) :
    Calls Tryz.prog 165 #[.string s] w fun e w' => readPost s w e w' := by
  obtain ⟨i0, hi, hz0, hz1, hz2⟩ := info_parts infoID
  have hs' : ¬ (40000 : Int) < (s.size : Int) := by omega
  have hcl := cutBy_len 32 s.data.toList
  rw [Array.length_toList] at hcl
  have HC := cut_any s 32 (hs := by omega)
  obtain ⟨ws, hws⟩ : ∃ ws, cutBy 32 s.data.toList = ws := ⟨_, rfl⟩
  have HW : Hid (cutBy 32 s.data.toList = ws) := hws
  rw [hws] at hcl
  have HCUT : Hid (∀ w : World, Calls Tryz.prog 163 #[.string s, .int .u8 32] w fun e w' => ∃ v, e = .returned v ∧ w'.ownsRow w.heap.size 9 1 v ws.length (ws.map strV) ∧ Below w.heap.size w w') := fun w => by
    have := HC w
    rw [hws] at this
    exact this
  have HWL : Hid (ws.length ≤ 40001 ∧ ∀ p ∈ ws, p.length ≤ 40000) := ⟨Nat.le_trans hcl.1 (by show s.size + 1 ≤ _; omega), fun p hp => Nat.le_trans (hcl.2 p hp) hs⟩
  clear HC hcl hws hs
  go_enter Tryz.func165, Tryz.ntmps165
  go_wp2_with fail
  have hR := ReadW.new w 40 64
  obtain ⟨W, hW⟩ : ∃ W, (w.alloc (.cells #[.string ⟨#[]⟩, .int .i64 0, .int .u32 0, .slice none 0 0] 40)).alloc (.cells #[.int .i64 0, .int .i64 0] 64) = W := ⟨_, rfl⟩
  rw [hW] at hR ⊢
  clear hW
  refine (HCUT.out _).mono ?_
  clear HCUT
  rintro e w1 ⟨v1, rfl, ho1, hb1⟩
  have hR1 := hR.next hb1
  clear hR hb1
  by_cases h3 : ws.length < 3
  · have HR : Hid (rcpRead s.data.toList = (([], 0, 0, []), (1, -1))) := rcpRead_short _ (by rw [HW.out]; exact h3)
    have h3' : (ws.length : Int) < 3 := by omega
    obtain ⟨p1, c1, rfl, _⟩ := CellsAt.of_row ho1
    simp only [List.length_map]
    clear ho1 h3
    go_wp2_with fail
    refine (bare_any 1 _).mono ?_
    rintro e w9 ⟨rfl, hb9⟩
    have hJ9 := hR1.next hb9
    have s0 := hJ9.r0
    have s1 := hJ9.r1
    have s2 := hJ9.r2
    have s3 := hJ9.r3
    have t0 := hJ9.k0
    have t1 := hJ9.k1
    have g0 := hJ9.g 0
    have g1 := hJ9.g 1
    have g2 := hJ9.g 2
    have g3 := hJ9.g 3
    have f0 := hJ9.f 0
    have f1 := hJ9.f 1
    go_wp2_with fail
    exact bodyPost_ret (v := .tuple #[rcpV ⟨#[]⟩ 0 0 (.slice none 0 0), faultV 1 (-1)]) (by simp [results, Tryz.results165, go_sem, s0, s1, s2, s3, t0, t1]) rfl (readBad hJ9 HR.out)
  · obtain ⟨nm, ln, pr, rs, hws⟩ : ∃ nm ln pr rs, ws = nm :: ln :: pr :: rs := by
      match ws, h3 with
      | nm :: ln :: pr :: rs, _ => exact ⟨nm, ln, pr, rs, rfl⟩
      | [], h => exact absurd (by simp) h
      | [_], h => exact absurd (by simp) h
      | [_, _], h => exact absurd (by simp) h
    subst hws
    obtain ⟨g, cap, rfl, hcap, hcm, hgl, hcell⟩ := row_open ho1 (by simp)
    have HC0 : Hid (∀ W', Below w1.heap.size w1 W' → W'.cell? ⟨g, 0, none⟩ = some (strV nm) ∧ W'.cell? ⟨g, 1, none⟩ = some (strV ln) ∧ W'.cell? ⟨g, 2, none⟩ = some (strV pr)) := fun W' hb =>
      ⟨(hb.cell (p := ⟨g, 0, none⟩) hgl).trans (hcell 0 (by simp)), (hb.cell (p := ⟨g, 1, none⟩) hgl).trans (hcell 1 (by simp)), (hb.cell (p := ⟨g, 2, none⟩) hgl).trans (hcell 2 (by simp))⟩
    have HCR : Hid (∀ W', Below w1.heap.size w1 W' → ∀ i (h : i < rs.length), W'.cell? ⟨g, i + 3, none⟩ = some (strV rs[i])) := fun W' hb i hi => by
      have := hcell (i + 3) (by simp; omega)
      exact (hb.cell (p := ⟨g, i + 3, none⟩) hgl).trans (this.trans (by simp))
    have hlen : ((nm :: ln :: pr :: rs).length : Int) = (rs.length : Int) + 3 := by simp; omega
    have h3' : ¬ ((rs.length : Int) + 3 < 3) := by omega
    have HRL : Hid (rs.length ≤ 40000 ∧ nm.length ≤ 40000 ∧ ln.length ≤ 40000 ∧ pr.length ≤ 40000 ∧ ∀ p ∈ rs, p.length ≤ 40000) := ⟨by have := HWL.out.1; simp at this; omega, HWL.out.2 nm (by simp), HWL.out.2 ln (by simp), HWL.out.2 pr (by simp), fun p hp => HWL.out.2 p (by simp [hp])⟩
    clear ho1 hcell h3 HWL hcm hcap
    obtain ⟨d0, d1, d2⟩ := HC0.out w1 (Below.refl _ _)
    obtain ⟨LN, hLN⟩ : ∃ LN : ByteArray, (⟨ln.toArray⟩ : ByteArray) = LN := ⟨_, rfl⟩
    have HNL : Hid (LN.data.toList = ln) := by show _ = _; rw [← hLN]
    have HLM : Hid (LN.size ≤ maxLen) := by show _ ≤ _; rw [← hLN, str_size]; have := HRL.out.2.2.1; unfold maxLen; omega
    rw [strV, hLN] at d1
    clear hLN
    obtain ⟨N, hN⟩ : ∃ N, (nm :: ln :: pr :: rs).length = N := ⟨_, rfl⟩
    rw [hN] at hlen ⊢
    clear hN
    rw [← hlen] at h3'
    have hN3 : (3 : Int) ≤ (N : Int) := by omega
    go_wp2_with fail
    refine (numberOf_any LN HLM.out 6 (by decide) _).mono ?_
    rintro e w2 ⟨rfl, hw2⟩
    subst hw2
    rw [HNL.out]
    cases hnum : numOf ln 6 with
    | none =>
      have HR : Hid (rcpRead s.data.toList = (([], 0, 0, []), (1, -1))) := rcpRead_num HW.out hnum
      clear hnum
      have hm1 : numRes none = -1 := rfl
      rw [hm1]
      clear hm1
      go_wp2_with fail
      refine (unhex8_any pr _).mono ?_
      rintro e w3 ⟨rfl, hw3⟩
      subst hw3
      cases unhex8 pr with
      | none =>
        unfold hexRes
        go_wp2_with fail
        refine (bare_any 1 _).mono ?_
        rintro e w9 ⟨rfl, hb9⟩
        have hJ9 := hR1.next hb9
        have s0 := hJ9.r0
        have s1 := hJ9.r1
        have s2 := hJ9.r2
        have s3 := hJ9.r3
        have t0 := hJ9.k0
        have t1 := hJ9.k1
        have g0 := hJ9.g 0
        have g1 := hJ9.g 1
        have g2 := hJ9.g 2
        have g3 := hJ9.g 3
        have f0 := hJ9.f 0
        have f1 := hJ9.f 1
        go_wp2_with fail
        exact bodyPost_ret (v := .tuple #[rcpV ⟨#[]⟩ 0 0 (.slice none 0 0), faultV 1 (-1)]) (by simp [results, Tryz.results165, go_sem, s0, s1, s2, s3, t0, t1]) rfl (readBad hJ9 HR.out)
      | some p =>
        unfold hexRes
        go_wp2_with fail
        refine (bare_any 1 _).mono ?_
        rintro e w9 ⟨rfl, hb9⟩
        have hJ9 := hR1.next hb9
        have s0 := hJ9.r0
        have s1 := hJ9.r1
        have s2 := hJ9.r2
        have s3 := hJ9.r3
        have t0 := hJ9.k0
        have t1 := hJ9.k1
        have g0 := hJ9.g 0
        have g1 := hJ9.g 1
        have g2 := hJ9.g 2
        have g3 := hJ9.g 3
        have f0 := hJ9.f 0
        have f1 := hJ9.f 1
        go_wp2_with fail
        exact bodyPost_ret (v := .tuple #[rcpV ⟨#[]⟩ 0 0 (.slice none 0 0), faultV 1 (-1)]) (by simp [results, Tryz.results165, go_sem, s0, s1, s2, s3, t0, t1]) rfl (readBad hJ9 HR.out)
    | some n =>
      have HNUM : Hid (numOf ln 6 = some n) := hnum
      have HN6 : Hid (n < 1000000) := by
        have h1 := hnum
        unfold numOf at h1
        split at h1
        · cases h1
        · rename_i hh
          have h2 := undec_lt ln 0 n h1
          have h3 : ln.length ≤ 6 := by omega
          have h4 : 10 ^ ln.length ≤ 10 ^ 6 := Nat.pow_le_pow_right (by decide) h3
          show n < 1000000
          have h5 : (10 : Nat) ^ 6 = 1000000 := by decide
          rw [Nat.zero_add, Nat.one_mul] at h2
          exact Nat.lt_of_lt_of_le h2 (by rw [← h5]; exact h4)
      clear hnum
      have hm1 : numRes (some n) = (n : Int) := rfl
      rw [hm1]
      have hn0 : ¬ (n : Int) < 0 := by omega
      clear hm1
      go_wp2_with fail
      refine (unhex8_any pr _).mono ?_
      rintro e w3 ⟨rfl, hw3⟩
      subst hw3
      cases hun : unhex8 pr with
      | none =>
        have HR : Hid (rcpRead s.data.toList = (([], 0, 0, []), (1, -1))) := rcpRead_hex HW.out HNUM.out hun
        clear hun
        unfold hexRes
        go_wp2_with fail
        refine (bare_any 1 _).mono ?_
        rintro e w9 ⟨rfl, hb9⟩
        have hJ9 := hR1.next hb9
        have s0 := hJ9.r0
        have s1 := hJ9.r1
        have s2 := hJ9.r2
        have s3 := hJ9.r3
        have t0 := hJ9.k0
        have t1 := hJ9.k1
        have g0 := hJ9.g 0
        have g1 := hJ9.g 1
        have g2 := hJ9.g 2
        have g3 := hJ9.g 3
        have f0 := hJ9.f 0
        have f1 := hJ9.f 1
        go_wp2_with fail
        exact bodyPost_ret (v := .tuple #[rcpV ⟨#[]⟩ 0 0 (.slice none 0 0), faultV 1 (-1)]) (by simp [results, Tryz.results165, go_sem, s0, s1, s2, s3, t0, t1]) rfl (readBad hJ9 HR.out)
      | some p =>
        have HUN : Hid (unhex8 pr = some p) := hun
        clear hun
        unfold hexRes
        go_wp2_with fail
        go_loopw [8, 9] (fun v i wr => ∃ (k : Nat) (ids : List (Nat × Int)), k ≤ rs.length ∧ i = .int .i64 ((k : Int) + 3) ∧ readIds (rs.take k) = some ids ∧ ids.length = k ∧ wr.ownsRow w3.heap.size 25 2 v k (idCells ids) ∧ Below w3.heap.size w3 wr) (fun _ i _ => rs.length + 3 - (intOf i).toNat)
        case atStart => exact ⟨0, [], Nat.zero_le _, rfl, rfl, rfl, World.ownsRow_nil _ _ _ _, Below.refl _ _⟩
        case round =>
          obtain ⟨k, ids, hk, rfl, hids, hil, hown, hbr⟩ := hrel
          have HIDS : Hid (readIds (rs.take k) = some ids) := hids
          have HIL : Hid (ids.length = k) := hil
          clear hids hil d0 d1 d2
          have hRr := hR1.next hbr
          by_cases hlt : k < rs.length
          · have hlt' : (k : Int) + 3 < (rs.length : Int) + 3 := by omega
            have hk3 : (0 : Int) ≤ (k : Int) + 3 := by omega
            have hk4 : ((k : Int) + 3).toNat = k + 3 := by omega
            have hrl : (rs.length : Int) ≤ 40000 := by have := HRL.out.1; omega
            have hc := HCR.out wr hbr k hlt
            have HTK : Hid (rs.take (k + 1) = rs.take k ++ [rs[k]]) := List.take_succ_eq_append_getElem hlt
            have HNO : Hid (idRead rs[k] = none → readIds rs = none) := fun e => readIds_none rs k hlt e
            obtain ⟨Q, hQ⟩ : ∃ Q : ByteArray, (⟨rs[k].toArray⟩ : ByteArray) = Q := ⟨_, rfl⟩
            have HQD : Hid (Q.data.toList = rs[k]) := by show _ = _; rw [← hQ]
            have HQS : Hid (Q.size ≤ 50000) := by
              show _ ≤ _
              rw [← hQ, str_size]
              have := HRL.out.2.2.2.2 rs[k] (List.getElem_mem hlt)
              omega
            rw [strV, hQ] at hc
            obtain ⟨t, ht⟩ : ∃ t, rs[k] = t := ⟨_, rfl⟩
            rw [ht] at HTK HNO HQD
            clear hQ ht
            go_wp2_with fail
            refine (readID_any Q HQS.out _).mono ?_
            rintro e w4 ⟨rfl, hb4⟩
            rw [HQD.out, refRead_eq]
            cases hid : idRead t with
            | none =>
              have HR : Hid (rcpRead s.data.toList = (([], 0, 0, []), (1, -1))) := rcpRead_ids HW.out HNUM.out HUN.out (HNO.out hid)
              have hR4 := hRr.next hb4
              clear hid HNO
              rw [refRes_none]
              have hR5 := hR4.next ((Below.refl _ w4).alloc (Nat.le_refl _) (.cells #[.int .u32 0, .int .i64 0] 25))
              go_wp2_with fail
              refine (bare_any 1 _).mono ?_
              rintro e w9 ⟨rfl, hb9⟩
              have hJ9 := hR5.next hb9
              have s0 := hJ9.r0
              have s1 := hJ9.r1
              have s2 := hJ9.r2
              have s3 := hJ9.r3
              have t0 := hJ9.k0
              have t1 := hJ9.k1
              have g0 := hJ9.g 0
              have g1 := hJ9.g 1
              have g2 := hJ9.g 2
              have g3 := hJ9.g 3
              have f0 := hJ9.f 0
              have f1 := hJ9.f 1
              go_wp2_with fail
              exact bodyPost_ret (v := .tuple #[rcpV ⟨#[]⟩ 0 0 (.slice none 0 0), faultV 1 (-1)]) (by simp [results, Tryz.results165, go_sem, s0, s1, s2, s3, t0, t1]) rfl (readBad hJ9 HR.out)
            | some x =>
              obtain ⟨xn, xl⟩ := x
              have HSN : Hid (readIds (rs.take (k + 1)) = some (ids ++ [(xn, (xl : Int))])) := by show _ = _; rw [HTK.out]; exact readIds_snoc _ _ _ _ HIDS.out hid
              have hm : refRes (some (xn, xl)) = .tuple #[idV xn xl, .int .i64 0] := rfl
              rw [hm]
              have hown4 := row_below hown hb4
              have hbr4 : Below w3.heap.size w3 w4 := hbr.trans (hb4.mono hbr.size)
              clear hid HNO hm hown hb4 hbr hRr
              go_wp2_with (at_builtin; refine wpList_append_own _ rfl (.tmp 63) (.tmp 65) 38 rfl w3.heap.size 25 i0 (idV 0 0) 2 16 Tryz.underlying38 hi hz0 hz1 hz2 rfl (by decide) _ _ _ rfl ((hown4.alloc _).alloc _) ⟨w4.heap.size + 1, 0, none⟩ 1 1 [.int .u32 (xn : Nat), .int .i64 (xl : Nat)] rfl rfl (two_new _ _ _ _ _ (by simp)) (by simp [Value.oneCell']) (by unfold maxLen; omega) (by omega) (by have := hbr4.size; simp; omega) ?_; intro v' w5 hown' hgrow _; obtain ⟨g', cap', rfl⟩ := ownsRow_succ hown')
              have hbr5 : Below w3.heap.size w3 w5 := ((hbr4.alloc hbr4.size _).alloc (by have := hbr4.size; simp; omega) _).grown hgrow (by have := hbr4.size; simp; omega) (fun j e => own_base hown4 e)
              clear hgrow hown4
              go_wp2_with fail
              go_roundw
              case rel => exact ⟨k + 1, ids ++ [(xn, (xl : Int))], by omega, by go_num, HSN.out, by simp [HIL.out], by rw [idCells_append]; exact hown', hbr5⟩
              case measure => simp [intOf]; omega
          · have hge : (rs.length : Int) + 3 ≤ (k : Int) + 3 := by omega
            have hall : readIds rs = some ids := by
              have := HIDS.out
              rwa [List.take_of_length_le (by omega)] at this
            have HALL : Hid (rcpRead s.data.toList = if recFault nm n ids = (0, -1) then ((nm, (n : Int), p, ids), (0, -1)) else (([], 0, 0, []), recFault nm n ids)) := rcpRead_all HW.out HNUM.out HUN.out hall
            have hlenI : ids.length ≤ maxLen := by
              have h1 := HIL.out
              have h2 := HRL.out.1
              unfold maxLen
              omega
            have HLI : Hid (ids.length ≤ maxLen) := hlenI
            have hk : k = ids.length := HIL.out.symm
            subst hk
            have HROW : Hid (wr.ownsRow w3.heap.size 25 2 u8 ids.length (idCells ids)) := hown
            obtain ⟨pp, cc, hu, _⟩ := IdsAt.of_row hown
            subst hu
            obtain ⟨d0, _, _⟩ := HC0.out wr hbr
            obtain ⟨NM, hNM⟩ : ∃ NM : ByteArray, (⟨nm.toArray⟩ : ByteArray) = NM := ⟨_, rfl⟩
            have HNM : Hid (NM.data.toList = nm) := by show _ = _; rw [← hNM]
            have HNS : Hid (NM.size ≤ maxLen) := by show _ ≤ _; rw [← hNM, str_size]; have := HRL.out.2.1; unfold maxLen; omega
            rw [strV, hNM] at d0
            have hB1 : Below wr.heap.size wr (wr.alloc (.cells #[.string NM, .int .i64 (n : Nat), .int .u32 (p : Nat), .slice pp ids.length cc] 40)) := (Below.refl _ wr).alloc (Nat.le_refl _) _
            have HI1 : Hid (IdsAt (wr.alloc (.cells #[.string NM, .int .i64 (n : Nat), .int .u32 (p : Nat), .slice pp ids.length cc] 40)) (.slice pp ids.length cc) ids) := (IdsAt.of_row HROW.out).below hB1
            have HQ : Hid (∀ W', Below (wr.alloc (.cells #[.string NM, .int .i64 (n : Nat), .int .u32 (p : Nat), .slice pp ids.length cc] 40)).heap.size (wr.alloc (.cells #[.string NM, .int .i64 (n : Nat), .int .u32 (p : Nat), .slice pp ids.length cc] 40)) W' → ReadW w W' ∧ W'.ownsRow w3.heap.size 25 2 (.slice pp ids.length cc) ids.length (idCells ids) ∧ W'.cell? ⟨wr.heap.size, 0, none⟩ = some (.string NM) ∧ W'.cell? ⟨wr.heap.size, 1, none⟩ = some (.int .i64 (n : Nat)) ∧ W'.cell? ⟨wr.heap.size, 2, none⟩ = some (.int .u32 (p : Nat)) ∧ W'.cell? ⟨wr.heap.size, 3, none⟩ = some (.slice pp ids.length cc)) := fun W' hb =>
              ⟨(hRr.next hB1).next hb, row_below (row_below HROW.out hB1) hb, (hb.cell (p := ⟨wr.heap.size, 0, none⟩) (by simp)).trans (new_cell wr _ _ rfl rfl), (hb.cell (p := ⟨wr.heap.size, 1, none⟩) (by simp)).trans (new_cell wr _ _ rfl rfl), (hb.cell (p := ⟨wr.heap.size, 2, none⟩) (by simp)).trans (new_cell wr _ _ rfl rfl), (hb.cell (p := ⟨wr.heap.size, 3, none⟩) (by simp)).trans (new_cell wr _ _ rfl rfl)⟩
            have HBS : Hid (w.heap.size + 1 < w3.heap.size) := hR1.size
            clear hown hall hlenI hNM hB1 hRr HIDS
            go_wp2_with fail
            refine (recipeFault_any NM HNS.out (n : Nat) (p : Nat) _ ids _ HI1.out HLI.out).mono ?_
            rintro e w6 ⟨rfl, hb6⟩
            rw [HNM.out]
            obtain ⟨⟨fc, fa⟩, hf⟩ : ∃ f, recFault nm n ids = f := ⟨_, rfl⟩
            rw [hf] at HALL ⊢
            have hcode := recFault_code nm n ids
            rw [hf] at hcode
            clear hf
            have hBf : Below w6.heap.size w6 (w6.alloc (.cells #[.int .i64 fc, .int .i64 fa] 64)) := (Below.refl _ w6).alloc (Nat.le_refl _) _
            obtain ⟨hRf, hof, x0, x1, x2, x3⟩ := HQ.out (w6.alloc (.cells #[.int .i64 fc, .int .i64 fa] 64)) (hb6.trans (hBf.mono hb6.size))
            have y0 := new_cell w6 #[.int .i64 fc, .int .i64 fa] 64 (i := 0) rfl rfl
            have y1 := new_cell w6 #[.int .i64 fc, .int .i64 fa] 64 (i := 1) rfl rfl
            have hs6 : w.heap.size + 1 < w6.heap.size := (HQ.out w6 hb6).1.size
            have hne1 : ¬ w.heap.size = w6.heap.size := by omega
            have hne2 : ¬ w6.heap.size = w.heap.size := by omega
            have hne3 : ¬ w.heap.size + 1 = w6.heap.size := by omega
            have hne4 : ¬ w6.heap.size = w.heap.size + 1 := by omega
            clear HQ hBf hb6 HI1 HROW hs6
            by_cases hc0 : 0 < fc
            · have HR : Hid (rcpRead s.data.toList = (([], 0, 0, []), (fc, fa))) := by
                show _ = _
                rw [HALL.out, if_neg (by intro e; cases e; omega)]
              clear hcode HALL
              go_wp2_with fail
              obtain ⟨Wf, hWf⟩ : ∃ Wf, w6.alloc (.cells #[.int .i64 fc, .int .i64 fa] 64) = Wf := ⟨_, rfl⟩
              rw [hWf] at hRf hof x0 x1 x2 x3 y0 y1 ⊢
              clear hWf x0 x1 x2 x3
              have s0 := hRf.r0
              have s1 := hRf.r1
              have s2 := hRf.r2
              have s3 := hRf.r3
              have t0 := hRf.k0
              have t1 := hRf.k1
              have g0 := hRf.g 0
              have g1 := hRf.g 1
              have g2 := hRf.g 2
              have g3 := hRf.g 3
              have f0 := hRf.f 0
              have f1 := hRf.f 1
              go_region
              all_goals go_wp2_with fail
              all_goals exact bodyPost_ret (v := .tuple #[rcpV ⟨#[]⟩ 0 0 (.slice none 0 0), faultV fc fa]) (by simp [results, Tryz.results165, go_sem, s0, s1, s2, s3, t0, t1]) rfl (readBad hRf HR.out).drew
            · have hz : (fc, fa) = ((0 : Int), (-1 : Int)) := by
                rcases hcode with h | h
                · exact h
                · exact absurd h hc0
              obtain ⟨rfl, rfl⟩ : fc = 0 ∧ fa = -1 := by simpa using hz
              have HR : Hid (rcpRead s.data.toList = ((NM.data.toList, (n : Int), p, ids), (0, -1))) := by
                show _ = _
                rw [HALL.out, if_pos rfl, HNM.out]
              clear hcode HALL hz hc0
              go_wp2_with fail
              obtain ⟨Wf, hWf⟩ : ∃ Wf, w6.alloc (.cells #[.int .i64 0, .int .i64 (-1)] 64) = Wf := ⟨_, rfl⟩
              rw [hWf] at hRf hof x0 x1 x2 x3 y0 y1 ⊢
              clear hWf
              have s0 := hRf.r0
              have s1 := hRf.r1
              have s2 := hRf.r2
              have s3 := hRf.r3
              have t0 := hRf.k0
              have t1 := hRf.k1
              have g0 := hRf.g 0
              have g1 := hRf.g 1
              have g2 := hRf.g 2
              have g3 := hRf.g 3
              have f0 := hRf.f 0
              have f1 := hRf.f 1
              go_region
              all_goals go_wp2_with fail
              all_goals exact bodyPost_ret (v := .tuple #[rcpV NM (n : Nat) (p : Nat) (.slice pp ids.length cc), faultV 0 (-1)]) (by simp [results, Tryz.results165, go_sem, s0, s1, s2, s3, t0, t1]) rfl (readGood hRf HBS.out hof HR.out).drew
end Go.Proofs.YtjdobbjdlighpabGreatDoor
namespace Go.Proofs.YtjdobbjdlighpabGreatDoor

theorem pieces_many : ∀ (l : List UInt8), l ≠ [] → 16 * ((pieces l).length - 1) + 1 ≤ l.length := by
  refine pieces_rec (fun h => (h rfl).elim) ?_
  intro l hl ih _
  have hp := first_pos l hl
  have hle := first_le l
  rw [pieces_ne l hl, List.length_cons, Nat.add_sub_cancel]
  by_cases hd : l.drop (first l) = []
  · rw [hd, pieces_nil]
    have := List.length_pos_iff.2 hl
    simp
    omega
  · have h16 := first_ge16 l (drop_ne_nil hd)
    have hlt := drop_ne_nil hd
    have := ih hd
    rw [List.length_drop] at this
    have hn : 1 ≤ (pieces (l.drop (first l))).length := by
      rcases Nat.eq_zero_or_pos (pieces (l.drop (first l))).length with h | h
      · exact (hd ((pieces_eq_nil _).1 (List.eq_nil_of_length_eq_zero h))).elim
      · exact h
    omega
theorem pieces_250 (l : List UInt8) (h : l.length ≤ 4000) : (pieces l).length ≤ 250 := by
  by_cases e : l = []
  · subst e; decide
  · have := pieces_many l e
    omega
theorem idsOf_length (l : List UInt8) : (idsOf l).length = (pieces l).length := List.length_map _
theorem idsOf_at (l : List UInt8) (i : Nat) (h : i < (idsOf l).length) : (idsOf l)[i] = idOfL ((pieces l)[i]'(by rw [← idsOf_length]; exact h)) := by
  simp only [idsOf, List.getElem_map]
  rfl
theorem lenSum_pieces : ∀ (ps : List (List UInt8)), lenSum (ps.map fun p => (pmore 2166136261 p, (p.length : Int))) = (ps.flatten.length : Int)
  | [] => rfl
  | p :: r => by
    have ih := lenSum_pieces r
    simp only [lenSum, List.map_cons, List.sum_cons, List.flatten_cons, List.length_append] at ih ⊢
    rw [ih]
    omega
theorem recFault_of (nm l : List UInt8) (hn : isName nm = true) (hl : l.length ≤ 4000) : recFault nm l.length (idsOf l) = (0, -1) := by
  refine recFault_fine hn (by omega) (by have := pieces_250 l hl; rw [idsOf_length]; omega) (firstBad_none _ _ fun j hj => ?_) ?_
  · have hj' : j < (pieces l).length := by rw [← idsOf_length]; exact hj
    have := pieces_at l j hj'
    rw [idsOf_at]
    unfold idOk idOfL
    exact decide_eq_true ⟨by show (1 : Int) ≤ ((pieces l)[j].length : Int); omega, by show ((pieces l)[j].length : Int) ≤ 64; omega⟩
  · rw [idsOf, lenSum_pieces, pieces_flatten]
theorem joinOf_pieces (nm l : List UInt8) (hn : isName nm = true) (hl : l.length ≤ 4000) : joinOf nm l.length (pmore 2166136261 l) (idsOf l) (pieces l) = (l, (0, -1)) := by
  unfold joinOf
  rw [if_neg (by rw [recFault_of nm l hn hl]; simp), if_neg (by rw [idsOf_length]; simp), firstOdd_none (pieces l) (idsOf l) 0 (fun j hj hj' => (idsOf_at l j hj').symm), pieces_flatten]
  simp
theorem joinOf_other (nm l p : List UInt8) (hn : isName nm = true) (hl : l.length ≤ 4000) (k : Nat) (hk : k < (pieces l).length) (hp : idOfL p ≠ idOfL (pieces l)[k]) : joinOf nm l.length (pmore 2166136261 l) (idsOf l) ((pieces l).set k p) = ([], (9, (k : Int))) := by
  have hf : firstOdd 0 ((pieces l).set k p) (idsOf l) = some k := by
    have := firstOdd_at ((pieces l).set k p) (idsOf l) 0 k (by rw [List.length_set]; exact hk) (by rw [idsOf_length]; exact hk) (fun j hj hj' h => ?_) ?_
    · rwa [Nat.zero_add] at this
    · rw [List.getElem_set_ne (by omega), idsOf_at]
    · rw [List.getElem_set_self, idsOf_at]
      exact hp
  unfold joinOf
  rw [if_neg (by rw [recFault_of nm l hn hl]; simp), if_neg (by rw [idsOf_length, List.length_set]; simp), hf]

theorem undec_no (c : UInt8) (hc : undec1 c = none) : ∀ (q : List UInt8) (n v : Nat), undec n q = some v → c ∉ q
  | [], _, _, _ => by simp
  | x :: q, n, v, h => by
    rw [undec] at h
    split at h
    · rename_i d hd
      have ih := undec_no c hc q _ _ h
      intro hm
      rcases List.mem_cons.1 hm with e | hm
      · rw [← e, hc] at hd
        cases hd
      · exact ih hm
    · cases h
theorem unhex_no (c : UInt8) (hc : unhex1 c = none) : ∀ (q : List UInt8) (n v : Nat), unhex n q = some v → c ∉ q
  | [], _, _, _ => by simp
  | x :: q, n, v, h => by
    rw [unhex] at h
    split at h
    · rename_i d hd
      have ih := unhex_no c hc q _ _ h
      intro hm
      rcases List.mem_cons.1 hm with e | hm
      · rw [← e, hc] at hd
        cases hd
      · exact ih hm
    · cases h
theorem blank_dec (u : Nat) : (32 : UInt8) ∉ Lib.decDigits u := undec_no 32 (by decide) _ 0 u (undec_decDigits u)
theorem pow16 : (16 : Nat) ^ 8 = 4294967296 := by decide
theorem unhex_hex (n : Nat) (h : n < 4294967296) : unhex 0 (hexLast n 8) = some n := by
  rw [unhex_hexLast 0 n 8 (by rw [pow16]; exact h), Nat.zero_mul, Nat.zero_add]
theorem blank_hex (n : Nat) (h : n < 4294967296) : (32 : UInt8) ∉ hexLast n 8 := unhex_no 32 (by decide) _ 0 n (unhex_hex n h)
theorem blank_id (n l : Nat) (h : n < 4294967296) : (32 : UInt8) ∉ idText n l := by
  intro hm
  rcases List.mem_append.1 hm with hm | hm
  · exact blank_hex n h hm
  · rcases List.mem_cons.1 hm with e | hm
    · exact absurd e (by decide)
    · exact blank_dec l hm
theorem blank_name (nm : List UInt8) (h : isName nm = true) : (32 : UInt8) ∉ nm := by
  intro hm
  unfold isName at h
  rw [Bool.and_eq_true] at h
  have := List.all_eq_true.1 h.1 32 hm
  exact absurd this (by decide)
theorem cut_ids : ∀ (ids : List (Nat × Int)) (X : List UInt8), (32 : UInt8) ∉ X → (∀ x ∈ ids, x.1 < 4294967296) → cutBy 32 (X ++ idsText ids) = X :: ids.map fun x => idText x.1 x.2.toNat
  | [], X, hX, _ => by
    rw [show idsText [] = [] from rfl, List.append_nil, cutBy_noc _ _ hX]
    rfl
  | x :: r, X, hX, h => by
    rw [show idsText (x :: r) = 32 :: (idText x.1 x.2.toNat ++ idsText r) from rfl, cutBy_split _ _ _ hX, cut_ids r _ (blank_id _ _ (h x (by simp))) (fun y hy => h y (by simp [hy]))]
    rfl
theorem read_ids : ∀ (ids : List (Nat × Int)), (∀ x ∈ ids, x.1 < 4294967296) → (∀ x ∈ ids, idOk x = true) → readIds (ids.map fun x => idText x.1 x.2.toNat) = some ids
  | [], _, _ => rfl
  | x :: r, h, ho => by
    have h0 := ho x (by simp)
    simp only [idOk, decide_eq_true_eq] at h0
    have e := idRead_idText x.1 x.2.toNat (h x (by simp)) (by omega)
    rw [List.map_cons, readIds, e, read_ids r (fun y hy => h y (by simp [hy])) (fun y hy => ho y (by simp [hy]))]
    simp only [Option.some.injEq, List.cons.injEq, and_true]
    apply Prod.ext
    · rfl
    · simp only
      omega
theorem firstBad_all : ∀ (ids : List (Nat × Int)) (i : Nat), firstBad i ids = none → ∀ x ∈ ids, idOk x = true
  | [], _, _, x, hx => by simp at hx
  | y :: r, i, h, x, hx => by
    rw [firstBad] at h
    split at h
    · rename_i hy
      rcases List.mem_cons.1 hx with e | hx
      · rw [e]; exact hy
      · exact firstBad_all r (i + 1) h x hx
    · cases h
theorem rcpRead_text (nm : List UInt8) (len : Int) (p : Nat) (ids : List (Nat × Int)) (hf : recFault nm len ids = (0, -1)) (hp : p < 4294967296) (h32 : ∀ x ∈ ids, x.1 < 4294967296) : rcpRead (rcpText nm len p ids) = ((nm, len, p, ids), (0, -1)) := by
  obtain ⟨h1, ⟨h2, h2'⟩, _, h4, _⟩ := recFault_zero hf
  have hcut : cutBy 32 (rcpText nm len p ids) = nm :: Lib.decDigits len.toNat :: hexLast p 8 :: ids.map fun x => idText x.1 x.2.toNat := by
    have e : rcpText nm len p ids = nm ++ 32 :: (Lib.decDigits len.toNat ++ 32 :: (hexLast p 8 ++ idsText ids)) := by
      simp [rcpText]
    rw [e, cutBy_split _ _ _ (blank_name nm h1), cutBy_split _ _ _ (blank_dec _), cut_ids ids _ (blank_hex p hp) h32]
  have hlen : ((len.toNat : Nat) : Int) = len := Int.toNat_of_nonneg h2
  have h6 : (10 : Nat) ^ 6 = 1000000 := by decide
  have hn : numOf (Lib.decDigits len.toNat) 6 = some len.toNat := numOf_decDigits len.toNat 6 (by decide) (by rw [h6]; omega)
  have hu : unhex8 (hexLast p 8) = some p := by rw [unhex8, if_pos (hexLast_length p 8), unhex_hex p hp]
  have hr := read_ids ids h32 (firstBad_all ids 0 h4)
  rw [rcpRead_all hcut hn hu hr, hlen, if_pos hf]

theorem lesser_mem (m y : Nat × Int) : lesser m y = m ∨ lesser m y = y := by
  unfold lesser
  split
  · exact .inr rfl
  · exact .inl rfl
theorem lesser_least (m y x : Nat × Int) (h : lessB x m = false) : lessB x (lesser m y) = false := by
  unfold lesser
  split
  · rename_i hy
    have h1 : ¬ lessB x m = true := by rw [h]; simp
    rw [lessB_iff] at h1 hy
    have h2 : ¬ lessB x y = true := by rw [lessB_iff]; omega
    simpa using h2
  · exact h
theorem lesser_self (m y : Nat × Int) : lessB y (lesser m y) = false := by
  unfold lesser
  split
  · have h2 : ¬ lessB y y = true := by rw [lessB_iff]; omega
    simpa using h2
  · rename_i h
    simpa using h
theorem fold_least : ∀ (r : List (Nat × Int)) (m x : Nat × Int), lessB x m = false → lessB x (r.foldl lesser m) = false
  | [], _, _, h => h
  | y :: r, m, x, h => fold_least r (lesser m y) x (lesser_least m y x h)
theorem fold_all : ∀ (r : List (Nat × Int)) (m x : Nat × Int), x ∈ r → lessB x (r.foldl lesser m) = false
  | y :: r, m, x, h => by
    rcases List.mem_cons.1 h with e | h
    · rw [e]
      exact fold_least r (lesser m y) y (lesser_self m y)
    · exact fold_all r (lesser m y) x h
theorem fold_mem : ∀ (r : List (Nat × Int)) (m : Nat × Int), r.foldl lesser m = m ∨ r.foldl lesser m ∈ r
  | [], _ => .inl rfl
  | y :: r, m => by
    rcases fold_mem r (lesser m y) with h | h
    · rcases lesser_mem m y with e | e
      · exact .inl (h.trans e)
      · exact .inr (by rw [List.foldl_cons, h, e]; simp)
    · exact .inr (List.mem_cons.2 (.inr h))
theorem repOf_mem (ids : List (Nat × Int)) (h : ids ≠ []) : repOf ids ∈ ids := by
  cases ids with
  | nil => exact (h rfl).elim
  | cons x r =>
    rcases fold_mem r x with e | e
    · exact List.mem_cons.2 (.inl e)
    · exact List.mem_cons.2 (.inr e)
theorem repOf_least (ids : List (Nat × Int)) (x : Nat × Int) (h : x ∈ ids) : lessB x (repOf ids) = false := by
  cases ids with
  | nil => simp at h
  | cons y r =>
    rcases List.mem_cons.1 h with e | h
    · rw [e]
      refine fold_least r y y ?_
      have h2 : ¬ lessB y y = true := by rw [lessB_iff]; omega
      simpa using h2
    · exact fold_all r y x h
end Go.Proofs.YtjdobbjdlighpabGreatDoor
namespace Go.Proofs.YtjdobbjdlighpabGreatDoor
open Go.RowKit

set_option maxRecDepth 100000 in
set_option maxHeartbeats 4000000 in
theorem sameIDs_true (va vb : Value) (ids : List (Nat × Int)) (w : World) (hn : (ids.length : Int) ≤ 9223372036854775807) (ha : IdsAt w va ids) (hb : IdsAt w vb ids) :
    Calls Tryz.prog 52 #[va, vb] w fun e w' => e = .returned (.bool true) ∧ Below w.heap.size w w' := by
  obtain ⟨pa, ca, rfl, ha⟩ := ha
  obtain ⟨pb, cb, rfl, hb⟩ := hb
  go_enter Tryz.func52, Tryz.ntmps52
  go_wp2_with fail
  go_loopw [5] (fun i wr => ∃ j m : Nat, j ≤ ids.length ∧ i = .int .i64 j ∧ wr = w.drewN m) (fun i _ => ids.length - (intOf i).toNat)
  case atStart => exact ⟨0, 0, Nat.zero_le _, rfl, rfl⟩
  case round =>
    obtain ⟨j, m, hj, rfl, rfl⟩ := hrel
    by_cases hlt : j < ids.length
    · obtain ⟨ba, oa, rfl, _, hca, hca'⟩ := ha j hlt
      obtain ⟨bb, ob, rfl, _, hcb, hcb'⟩ := hb j hlt
      have hlt' : (j : Int) < (ids.length : Int) := by omega
      obtain ⟨y, hy⟩ : ∃ y, ids[j] = y := ⟨_, rfl⟩
      rw [hy] at hca hca' hcb hcb'
      clear hy
      go_wp2_with fail
      go_quiet (fail)
      go_wp2_with fail
      go_roundw
      case rel => exact ⟨j + 1, _, by omega, by go_num, rfl⟩
      case measure => simp [intOf]; omega
    · have hge : (ids.length : Int) ≤ (j : Int) := by omega
      go_wp2_with fail
      go_ret
      exact ⟨rfl, ⟨rfl, rfl, rfl, Nat.le_refl _, fun _ _ => rfl⟩⟩

set_option maxRecDepth 100000 in
set_option maxHeartbeats 4000000 in
theorem sameRecipe_true (nm : ByteArray) (len p : Int) (va vb : Value) (ids : List (Nat × Int)) (w : World) (hn : (ids.length : Int) ≤ 9223372036854775807) (ha : IdsAt w va ids) (hb : IdsAt w vb ids) :
    Calls Tryz.prog 54 #[rcpV nm len p va, rcpV nm len p vb] w fun e w' => e = .returned (.bool true) ∧ Below w.heap.size w w' := by
  have HA : Hid (IdsAt w va ids) := ha
  have HB : Hid (IdsAt w vb ids) := hb
  have HN : Hid ((ids.length : Int) ≤ 9223372036854775807) := hn
  obtain ⟨pa, ca, rfl, _⟩ := ha
  obtain ⟨pb, cb, rfl, _⟩ := hb
  clear hn
  go_enter Tryz.func54, Tryz.ntmps54
  go_wp2_with fail
  have hbw : ∀ oo oo', Below w.heap.size w ((w.alloc oo).alloc oo') := fun oo oo' => ((Below.refl _ w).alloc (Nat.le_refl _) _).alloc (by simp) _
  refine (sameIDs_true _ _ ids _ HN.out (HA.out.below (hbw _ _)) (HB.out.below (hbw _ _))).mono ?_
  rintro e w2 ⟨rfl, hb2⟩
  go_wp2_with fail
  go_ret
  exact ⟨rfl, (hbw _ _).trans (hb2.mono (by simp; omega))⟩
end Go.Proofs.YtjdobbjdlighpabGreatDoor
