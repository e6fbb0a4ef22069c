/-
  Own text. A text's recipe, pure, and the document's RecipeOf by a contract: the IDs in new memory.
-/
import Derived.Test.YthgajeobenagjaaGreatDoorRecText
import Derived.Test.YthgajeobenagjaaGreatDoorCutRef
namespace Go.Proofs.YthgajeobenagjaaGreatDoor
open Go.RowKit

def idsOf (l : List UInt8) : List (Nat × Int) := (pieces l).map fun p => (pmore 2166136261 p, (p.length : Int))
def idCells : List (Nat × Int) → List Value
  | [] => []
  | x :: r => .int .u32 (x.1 : Nat) :: .int .i64 x.2 :: idCells r
theorem idCells_append : ∀ (a b : List (Nat × Int)), idCells (a ++ b) = idCells a ++ idCells b
  | [], _ => rfl
  | x :: r, b => by rw [List.cons_append, idCells, idCells_append r b, idCells]; rfl
theorem idCells_length : ∀ (a : List (Nat × Int)), (idCells a).length = a.length * 2
  | [] => rfl
  | x :: r => by rw [idCells, List.length_cons, List.length_cons, idCells_length r, List.length_cons]; omega
theorem idCells_at : ∀ (a : List (Nat × Int)) (i : Nat) (h : i < a.length), (idCells a)[i * 2]? = some (.int .u32 (a[i].1 : Nat)) ∧ (idCells a)[i * 2 + 1]? = some (.int .i64 a[i].2)
  | x :: r, 0, _ => ⟨rfl, rfl⟩
  | x :: r, i + 1, h => by
    have := idCells_at r i (by simpa using h)
    rw [show (i + 1) * 2 = i * 2 + 1 + 1 by omega]
    exact this
/- The same, and the IDs lie from block 'base' on. -/
def IdsIn (base : Nat) (w : World) (v : Value) (ids : List (Nat × Int)) : Prop :=
  ∃ (p : Option Addr) (c : Nat), v = .slice p ids.length c ∧ ∀ i (h : i < ids.length), ∃ b o, p = some ⟨b, o, none⟩ ∧ base ≤ b ∧ b < w.heap.size ∧ w.cell? ⟨b, o + i * 2, none⟩ = some (.int .u32 (ids[i].1 : Nat)) ∧ w.cell? ⟨b, o + i * 2 + 1, none⟩ = some (.int .i64 ids[i].2)
theorem IdsIn.at {base : Nat} {w : World} {v : Value} {ids : List (Nat × Int)} (h : IdsIn base w v ids) : IdsAt w v ids := by
  obtain ⟨p, c, hv, h⟩ := h
  refine ⟨p, c, hv, fun i hi => ?_⟩
  obtain ⟨b, o, hp, _, hlt, h1, h2⟩ := h i hi
  exact ⟨b, o, hp, hlt, h1, h2⟩
theorem IdsIn.low {base base' : Nat} {w : World} {v : Value} {ids : List (Nat × Int)} (h : IdsIn base w v ids) (hb : base' ≤ base) : IdsIn base' w v ids := by
  obtain ⟨p, c, hv, h⟩ := h
  refine ⟨p, c, hv, fun i hi => ?_⟩
  obtain ⟨b, o, hp, hl, h⟩ := h i hi
  exact ⟨b, o, hp, Nat.le_trans hb hl, h⟩
theorem IdsIn.below {base : Nat} {w w' : World} {v : Value} {ids : List (Nat × Int)} (h : IdsIn base w v ids) (hb : Below w.heap.size w w') : IdsIn base w' v ids := by
  obtain ⟨p, c, hv, h⟩ := h
  refine ⟨p, c, hv, fun i hi => ?_⟩
  obtain ⟨b, o, hp, hl, hlt, h1, h2⟩ := h i hi
  exact ⟨b, o, hp, hl, Nat.lt_of_lt_of_le hlt hb.size, (hb.cell (p := ⟨b, o + i * 2, none⟩) hlt).trans h1, (hb.cell (p := ⟨b, o + i * 2 + 1, none⟩) hlt).trans h2⟩
theorem IdsIn.setCell {base : Nat} {w : World} {v : Value} {ids : List (Nat × Int)} (h : IdsIn base w v ids) {a : Addr} (ha : a.block < base) (u : Value) : IdsIn base (w.setCell a u) v ids := by
  obtain ⟨p, c, hv, h⟩ := h
  refine ⟨p, c, hv, fun i hi => ?_⟩
  obtain ⟨b, o, hp, hl, hlt, h1, h2⟩ := h i hi
  have hn : ∀ j, a ≠ ⟨b, j, none⟩ := fun j e => by rw [e] at ha; simp at ha; omega
  exact ⟨b, o, hp, hl, by simp [World.setCell]; exact hlt, by rw [World.cell?_setCell_other _ _ _ _ (hn _)]; exact h1, by rw [World.cell?_setCell_other _ _ _ _ (hn _)]; exact h2⟩
theorem IdsIn.nil (base : Nat) (w : World) : IdsIn base w (.slice none 0 0) [] := ⟨none, 0, rfl, fun i hi => by simp at hi⟩
theorem IdsIn.of_row {w : World} {base : Nat} {e : TypeId} {v : Value} {ids : List (Nat × Int)} (h : w.ownsRow base e 2 v ids.length (idCells ids)) : IdsIn base w v ids := by
  obtain ⟨hl, h⟩ := h
  rcases h with ⟨rfl, h0⟩ | ⟨g, cap, cur, rfl, hg, hb, h1, h2, h3, h4⟩
  · exact ⟨none, 0, by rw [h0], fun i hi => by omega⟩
  · have hgl : g < w.heap.size := by
      rcases Nat.lt_or_ge g w.heap.size with h' | h'
      · exact h'
      · simp [Array.getElem?_eq_none h'] at hb
    have hc : ∀ j u, (idCells ids)[j]? = some u → w.cell? ⟨g, 0 + j, none⟩ = some u := fun j u hj => by
      have hjl : j < (idCells ids).length := (List.getElem?_eq_some_iff.1 hj).1
      have e1 : cur.toList[j]? = some u := by
        rw [← hj, ← h4, List.getElem?_take, if_pos (by omega)]
      rw [Nat.zero_add]
      simp only [World.cell?, hb]
      rw [← Array.getElem?_toList, e1]
      simp
    exact ⟨some ⟨g, 0, none⟩, cap, rfl, fun i hi => ⟨g, 0, rfl, hg, hgl, hc _ _ (idCells_at ids i hi).1, hc _ _ (idCells_at ids i hi).2⟩⟩
theorem IdsAt.of_row {w : World} {base : Nat} {e : TypeId} {v : Value} {ids : List (Nat × Int)} (h : w.ownsRow base e 2 v ids.length (idCells ids)) : IdsAt w v ids := (IdsIn.of_row h).at
theorem IdsAt.nil (w : World) : IdsAt w (.slice none 0 0) [] := ⟨none, 0, rfl, fun i hi => by simp at hi⟩
theorem row_below {w w' : World} {base : Nat} {e : TypeId} {size : Nat} {v : Value} {n : Nat} {xs : List Value} (h : w.ownsRow base e size v n xs) (hb : Below w.heap.size w w') : w'.ownsRow base e size v n xs := by
  refine h.kept (grown_of_below hb) ?_
  cases hv : v.ownBlock with
  | none => exact .inl rfl
  | some j => exact .inr (by simp)
theorem two_new (W : World) (a b : Value) (t : TypeId) (B : Nat) (hB : B = W.heap.size) : ∀ j u, [a, b][j]? = some u → (W.alloc (.cells #[a, b] t)).cell? ((⟨B, 0, none⟩ : Addr).add j) = some u := by
  intro j u hj
  match j, hj with
  | 0, hj =>
    have : (⟨B, 0, none⟩ : Addr).add 0 = ⟨B, 0, none⟩ := rfl
    rw [this]
    exact new_cell W #[a, b] t (by simpa using hj) hB
  | 1, hj =>
    have : (⟨B, 0, none⟩ : Addr).add 1 = ⟨B, 1, none⟩ := rfl
    rw [this]
    exact new_cell W #[a, b] t (by simpa using hj) hB
  | j + 2, hj => simp at hj
theorem infoID : (Tryz.prog.info? 40).map (fun i => (i.zero, i.size, i.bytes)) = some (some (idV 0 0), 2, 16) := by kernel_rfl

set_option maxRecDepth 100000 in
set_option maxHeartbeats 4000000 in
theorem recipeOf_name (nm s : ByteArray) (hnm : nm.size ≤ maxLen) (h : isName nm.data.toList = false) (w : World) :
    Calls Tryz.prog 18 #[.string nm, .string s] w fun e w' => e = .returned (.tuple #[rcpV ⟨#[]⟩ 0 0 (.slice none 0 0), .int .i64 4]) ∧ Below w.heap.size w w' := by
  have HN : Hid (nm.size ≤ maxLen) := hnm
  clear hnm
  go_enter Tryz.func18, Tryz.ntmps18
  go_wp2_with fail
  refine (refIsName_any nm HN.out _).mono ?_
  rintro e w1 ⟨rfl, rfl⟩
  rw [h]
  go_wp2_with fail
  exact bodyPost_ret (v := .tuple #[rcpV ⟨#[]⟩ 0 0 (.slice none 0 0), .int .i64 4]) (by simp [results, Tryz.results18, go_sem]) rfl ⟨rfl, (Below.refl _ w).alloc (Nat.le_refl _) _⟩

set_option maxRecDepth 100000 in
set_option maxHeartbeats 4000000 in
theorem recipeOf_bound (nm s : ByteArray) (hnm : nm.size ≤ maxLen) (h : isName nm.data.toList = true) (hs : 4000 < s.size) (w : World) :
    Calls Tryz.prog 18 #[.string nm, .string s] w fun e w' => e = .returned (.tuple #[rcpV ⟨#[]⟩ 0 0 (.slice none 0 0), .int .i64 2]) ∧ Below w.heap.size w w' := by
  have HN : Hid (nm.size ≤ maxLen) := hnm
  have hs' : (4000 : Int) < (s.size : Int) := by omega
  clear hnm hs
  go_enter Tryz.func18, Tryz.ntmps18
  go_wp2_with fail
  refine (refIsName_any nm HN.out _).mono ?_
  rintro e w1 ⟨rfl, rfl⟩
  rw [h]
  go_wp2_with fail
  exact bodyPost_ret (v := .tuple #[rcpV ⟨#[]⟩ 0 0 (.slice none 0 0), .int .i64 2]) (by simp [results, Tryz.results18, go_sem]) rfl ⟨rfl, (Below.refl _ w).alloc (Nat.le_refl _) _⟩

set_option maxRecDepth 100000 in
set_option maxHeartbeats 4000000 in
theorem recipeOf_fine (nm s : ByteArray) (hnm : nm.size ≤ maxLen) (h : isName nm.data.toList = true) (hs : s.size ≤ 4000) (w : World) :
    Calls Tryz.prog 18 #[.string nm, .string s] w fun e w' => ∃ v, e = .returned (.tuple #[rcpV nm s.size (pmore 2166136261 s.data.toList : Nat) v, .int .i64 0]) ∧ IdsIn w.heap.size w' v (idsOf s.data.toList) ∧ Below w.heap.size w w' := by
  obtain ⟨i0, hi, hz0, hz1, hz2⟩ := info_parts infoID
  have HN : Hid (nm.size ≤ maxLen) := hnm
  have hs' : ¬ (4000 : Int) < (s.size : Int) := by omega
  have HS : Hid (s.size ≤ 4000) := hs
  have HSM : Hid (s.size ≤ maxLen) := by show _ ≤ _; unfold maxLen; omega
  have HPL : Hid ((pieces s.data.toList).length ≤ 4000) := Nat.le_trans (pieces_len_le _) (by rw [Array.length_toList]; exact hs)
  have HPS : Hid (∀ i (h : i < (pieces s.data.toList).length), ((pieces s.data.toList)[i]).length ≤ 64) := fun i h => (pieces_at _ i h).2.1
  clear hnm hs
  have hP := piecesOf_any s (by have := HS.out; omega)
  have HIO : Hid (idsOf s.data.toList = (pieces s.data.toList).map fun p => (pmore 2166136261 p, (p.length : Int))) := rfl
  rw [HIO.out]
  clear HIO
  generalize pieces s.data.toList = qs at *
  have HP : Hid (∀ (w : World), Calls Tryz.prog 40 #[.string s] w fun e w' => ∃ v, e = .returned v ∧ w'.ownsRow w.heap.size 9 1 v qs.length (qs.map strW) ∧ Below w.heap.size w w') := hP
  clear hP
  go_enter Tryz.func18, Tryz.ntmps18
  go_wp2_with fail
  refine (refIsName_any nm HN.out _).mono ?_
  rintro e w1 ⟨rfl, rfl⟩
  rw [h]
  clear h
  go_wp2_with fail
  refine (HP.out _).mono ?_
  clear HP
  rintro e w0 ⟨v0, rfl, ho0, hb0⟩
  obtain ⟨p0, c0, rfl, hcell⟩ := CellsAt.of_row ho0
  simp only [List.length_map, List.getElem_map] at hcell ⊢
  have hs0 := hb0.size
  have r0 : w0.cell? ⟨w.heap.size, 0, none⟩ = some (.string ⟨#[]⟩) := (hb0.cell (p := ⟨w.heap.size, 0, none⟩) (by simp)).trans (by simp)
  have r1 : w0.cell? ⟨w.heap.size, 1, none⟩ = some (.int .i64 0) := (hb0.cell (p := ⟨w.heap.size, 1, none⟩) (by simp)).trans (by simp)
  have r2 : w0.cell? ⟨w.heap.size, 2, none⟩ = some (.int .u32 0) := (hb0.cell (p := ⟨w.heap.size, 2, none⟩) (by simp)).trans (by simp)
  have r3 : w0.cell? ⟨w.heap.size, 3, none⟩ = some (.slice none 0 0) := (hb0.cell (p := ⟨w.heap.size, 3, none⟩) (by simp)).trans (by simp)
  have g : ∀ i, w0.frozen? ⟨w.heap.size, i, none⟩ = false := fun i => (hb0.frozen (p := ⟨w.heap.size, i, none⟩) (by simp)).trans (new_frozen w _ _ rfl)
  have hlt0 : w.heap.size < w0.heap.size := by simp at hs0; omega
  have hbw0 : Below w.heap.size w w0 := ((Below.refl _ w).alloc (Nat.le_refl _) _).trans (hb0.mono (by simp))
  have HR : Hid (∀ W', Below w0.heap.size w0 W' → (W'.cell? ⟨w.heap.size, 0, none⟩ = some (.string ⟨#[]⟩) ∧ W'.cell? ⟨w.heap.size, 1, none⟩ = some (.int .i64 0) ∧ W'.cell? ⟨w.heap.size, 2, none⟩ = some (.int .u32 0) ∧ W'.cell? ⟨w.heap.size, 3, none⟩ = some (.slice none 0 0)) ∧ ∀ i, W'.frozen? ⟨w.heap.size, i, none⟩ = false) := fun W' hb =>
    ⟨⟨(hb.cell (p := ⟨w.heap.size, 0, none⟩) hlt0).trans r0, (hb.cell (p := ⟨w.heap.size, 1, none⟩) hlt0).trans r1, (hb.cell (p := ⟨w.heap.size, 2, none⟩) hlt0).trans r2, (hb.cell (p := ⟨w.heap.size, 3, none⟩) hlt0).trans r3⟩, fun i => (hb.frozen (p := ⟨w.heap.size, i, none⟩) hlt0).trans (g i)⟩
  have HCELL : Hid (∀ i (h : i < qs.length), ∃ b o, p0 = some ⟨b, o, none⟩ ∧ ∀ W', Below w0.heap.size w0 W' → W'.cell? ⟨b, o + i, none⟩ = some (strW qs[i])) := fun i hi => by
    obtain ⟨b, o, hp, hl, hc⟩ := hcell i hi
    exact ⟨b, o, hp, fun W' hb => (hb.cell (p := ⟨b, o + i, none⟩) hl.1).trans hc⟩
  have hql : (qs.length : Int) ≤ 4000 := by have := HPL.out; omega
  clear hcell ho0 hb0 hs0 r0 r1 r2 r3 g
  go_wp2_with fail
  go_loopw [7, 9] (fun v i wr => ∃ (k : Nat), k ≤ qs.length ∧ i = .int .i64 k ∧ wr.ownsRow w0.heap.size 40 2 v k (idCells ((qs.take k).map fun p => (pmore 2166136261 p, (p.length : Int)))) ∧ Below w0.heap.size w0 wr) (fun _ i _ => qs.length - (intOf i).toNat)
  case atStart => exact ⟨0, Nat.zero_le _, rfl, World.ownsRow_nil _ _ _ _, Below.refl _ _⟩
  case round =>
    obtain ⟨k, hk, rfl, hown, hbr⟩ := hrel
    by_cases hlt : k < qs.length
    · have hlt' : (k : Int) < (qs.length : Int) := by omega
      obtain ⟨b, o, rfl, hc⟩ := HCELL.out k hlt
      have hc' := hc wr hbr
      have HNX : Hid (idCells ((qs.take (k + 1)).map fun p => (pmore 2166136261 p, (p.length : Int))) = idCells ((qs.take k).map fun p => (pmore 2166136261 p, (p.length : Int))) ++ [.int .u32 (pmore 2166136261 qs[k] : Nat), .int .i64 (qs[k].length : Int)]) := by
        show _ = _
        rw [List.take_succ_eq_append_getElem hlt, List.map_append, idCells_append]
        rfl
      obtain ⟨q, hq⟩ : ∃ q : ByteArray, (⟨qs[k].toArray⟩ : ByteArray) = q := ⟨_, rfl⟩
      have hqd : q.data.toList = qs[k] := by rw [← hq]
      have hqs : (q.size : Int) = (qs[k].length : Int) := by rw [← hq]; rfl
      have HQM : Hid (q.size ≤ maxLen) := by
        show _ ≤ _
        have := HPS.out k hlt
        unfold maxLen
        omega
      rw [strW, hq] at hc'
      rw [← hqd] at HNX
      obtain ⟨P, hP⟩ : ∃ P, pmore 2166136261 q.data.toList = P := ⟨_, rfl⟩
      have HPP : Hid (pmore 2166136261 q.data.toList = P) := hP
      rw [hP] at HNX
      rw [hqd, ← hqs] at HNX
      obtain ⟨L, hL⟩ : ∃ L : Int, (q.size : Int) = L := ⟨_, rfl⟩
      have HLL : Hid ((q.size : Int) = L) := hL
      rw [hL] at HNX
      clear hc hqs hqd hq hP hL
      go_wp2_with fail
      refine (idOf_any q _ HQM.out).mono ?_
      rintro e w2 ⟨rfl, hb2⟩
      rw [HPP.out, HLL.out]
      have hown2 := row_below hown hb2
      have hbr2 : Below w0.heap.size w0 w2 := hbr.trans (hb2.mono hbr.size)
      clear hown hb2
      go_wp2_with (at_builtin; refine wpList_append_own _ rfl (.tmp 33) (.tmp 35) 24 rfl w0.heap.size 40 i0 (idV 0 0) 2 16 Tryz.underlying24 hi hz0 hz1 hz2 rfl (by decide) _ _ _ rfl ((hown2.alloc _).alloc _) ⟨w2.heap.size + 1, 0, none⟩ 1 1 [.int .u32 (P : Nat), .int .i64 L] rfl rfl (two_new _ _ _ _ _ (by simp)) (by simp [Value.oneCell']) (by unfold maxLen; omega) (by omega) (by have := hbr2.size; simp; omega) ?_; intro v' w3 hown' hgrow _; obtain ⟨g', cap', rfl⟩ := ownsRow_succ hown')
      have hbr3 : Below w0.heap.size w0 w3 := ((hbr2.alloc hbr2.size _).alloc (by have := hbr2.size; simp; omega) _).grown hgrow (by have := hbr2.size; simp; omega) (fun j e => own_base hown2 e)
      clear hgrow hown2
      go_wp2_with fail
      go_roundw
      case rel => exact ⟨k + 1, by omega, by go_num, by rw [HNX.out]; exact hown', hbr3⟩
      case measure => simp [intOf]; omega
    · have hge : (qs.length : Int) ≤ (k : Int) := by omega
      rw [List.take_of_length_le (by omega)] at hown
      obtain rfl : k = qs.length := by omega
      have HI : Hid (IdsAt wr u7 (qs.map fun p => (pmore 2166136261 p, (p.length : Int)))) := IdsAt.of_row (by rw [List.length_map]; exact hown)
      obtain ⟨⟨r0, r1, r2, r3⟩, g⟩ := HR.out wr hbr
      have g0 := g 0
      have g1 := g 1
      have g2 := g 2
      have g3 := g 3
      have hbw : Below w.heap.size w wr := hbw0.trans (hbr.mono hbw0.size)
      have hltr : w.heap.size < wr.heap.size := Nat.lt_of_lt_of_le hlt0 hbr.size
      have HIX := HI.out
      obtain ⟨pp, cc, hu, _⟩ := HIX
      rw [List.length_map] at hu
      subst hu
      have HROW : Hid (wr.ownsRow w0.heap.size 40 2 (.slice pp qs.length cc) qs.length (idCells (qs.map fun p => (pmore 2166136261 p, (p.length : Int))))) := hown
      clear g hown HI
      go_wp2_with fail
      refine (printOf_any s _ HSM.out).mono ?_
      rintro e w3 ⟨rfl, hw3⟩
      subst hw3
      obtain ⟨P, hP⟩ : ∃ P, pmore 2166136261 s.data.toList = P := ⟨_, rfl⟩
      have HPP : Hid (pmore 2166136261 s.data.toList = P) := hP
      rw [hP]
      clear hP
      go_wp2_with fail
      refine bodyPost_ret (v := .tuple #[rcpV nm s.size (P : Nat) (.slice pp qs.length cc), .int .i64 0]) (by simp [results, Tryz.results18, go_sem, r0, r1, r2, r3]) rfl ⟨.slice pp qs.length cc, by rw [HPP.out], ?_, (((hbw.setCell (p := ⟨w.heap.size, 0, none⟩) (Nat.le_refl _) _).setCell (p := ⟨w.heap.size, 1, none⟩) (Nat.le_refl _) _).setCell (p := ⟨w.heap.size, 2, none⟩) (Nat.le_refl _) _).setCell (p := ⟨w.heap.size, 3, none⟩) (Nat.le_refl _) _⟩
      refine (IdsIn.of_row (base := w0.heap.size) (e := 40) ?_).low (Nat.le_of_lt hlt0)
      rw [List.length_map]
      exact ownsRow_setCell_below (ownsRow_setCell_below (ownsRow_setCell_below (ownsRow_setCell_below HROW.out (a := ⟨w.heap.size, 0, none⟩) hlt0 _) (a := ⟨w.heap.size, 1, none⟩) hlt0 _) (a := ⟨w.heap.size, 2, none⟩) hlt0 _) (a := ⟨w.heap.size, 3, none⟩) hlt0 _
end Go.Proofs.YthgajeobenagjaaGreatDoor
