/-
  Own text. The document's ReadHelds by a contract, at any text.
-/
import Derived.Test.YtmjdgakokldliaaGreatDoorPReadAll
import Derived.Test.YtmjdgakokldliaaGreatDoorRecName
import Derived.Deep.RegionLaw
import Derived.Deep.AppendLies
namespace Go.Proofs.YtmjdgakokldliaaGreatDoor
open Go.RowKit

def rdPost (s : ByteArray) (w : World) (e : Ending) (w' : World) : Prop := ∃ v, e = .returned (.tuple #[v, faultV (readsOf s.data.toList).2.1 (readsOf s.data.toList).2.2]) ∧ HeldsAt w' v (readsOf s.data.toList).1 ∧ Below w.heap.size w w'
set_option maxRecDepth 100000 in
set_option maxHeartbeats 4000000 in
theorem readHelds_any (s : ByteArray) (hsz : s.size ≤ 50000) (w : World) :
    Calls Tryz.prog 36 #[.string s] w (rdPost s w) := by
  obtain ⟨iH, hiH, zH0, zH1, zH2⟩ := info_parts infoHeldA
  have hsl : s.data.toList.length = s.size := by rw [Array.length_toList]; rfl
  have HAL : Hid (Below w.heap.size w (w.alloc (.cells #[.int .i64 0, .int .i64 0] 46))) := (Below.refl _ _).alloc (Nat.le_refl _) _
  have HX : Hid (Blk (w.alloc (.cells #[.int .i64 0, .int .i64 0] 46)) w.heap.size #[.int .i64 0, .int .i64 0] 46) := Blk.new _ _ _
  by_cases hbig : 40000 < s.size
  · have hb2 : (40000 : Int) < (s.size : Int) := by omega
    have HR : Hid (readsOf s.data.toList = ([], 2, -1)) := by show _ = _; unfold readsOf; rw [if_pos (by omega)]
    go_enter Tryz.func36, Tryz.ntmps36
    go_wp2_with fail
    refine (bare_any 2 _).mono ?_
    rintro e w2 ⟨rfl, hb2⟩
    have hX2 := HX.out.next hb2
    have k0 := hX2.cell (i := 0) rfl
    have k1 := hX2.cell (i := 1) rfl
    have f0 := hX2.frozen 0
    have f1 := hX2.frozen 1
    have HB2 : Hid (Below w.heap.size w w2) := HAL.out.trans (hb2.mono (by simp))
    clear hb2 hX2
    go_wp2_with fail
    exact bodyPost_ret (v := .tuple #[.slice none 0 0, faultV 2 (-1)]) (by simp [results, Tryz.results36, go_sem, k0, k1]) rfl ⟨_, by rw [HR.out], by rw [HR.out]; exact heldsNil _, (HB2.out.setCell (p := ⟨w.heap.size, 0, none⟩) (Nat.le_refl _) _).setCell (p := ⟨w.heap.size, 1, none⟩) (Nat.le_refl _) _⟩
  have hb2 : ¬ (40000 : Int) < (s.size : Int) := by omega
  obtain ⟨RES, hRES⟩ : ∃ RES, readsOf s.data.toList = RES := ⟨_, rfl⟩
  have HRES : Hid (readsOf s.data.toList = RES) := hRES
  have HRS : Hid (hReads [] s.data.toList = RES) := by show _ = _; rw [← hRES]; unfold readsOf; rw [if_neg (by omega)]
  have HSL : Hid (s.data.toList.length = s.size) := hsl
  have hs40 : (s.size : Int) ≤ 40000 := by omega
  clear hRES hsz hsl hbig
  go_enter Tryz.func36, Tryz.ntmps36
  go_wp2_with fail
  go_loopw [4, 5] (fun lv iv wr => ∃ (l : List Hd) (k : Nat), k ≤ s.size ∧ iv = .int .i64 k ∧ Hid (hReads l (s.data.toList.drop k) = RES) ∧ Hid (l.length ≤ k) ∧ Hid (wr.ownsRow (w.heap.size + 1) 64 4 lv l.length (heldCells l)) ∧ Hid (Below w.heap.size w wr) ∧ Hid (Blk wr w.heap.size #[.int .i64 0, .int .i64 0] 46)) (fun _ iv _ => s.size - (intOf iv).toNat)
  case atStart => exact ⟨[], 0, Nat.zero_le _, rfl, by rw [List.drop_zero]; exact HRS.out, Nat.le_refl _, World.ownsRow_nil _ _ _ _, HAL.out, HX.out⟩
  case round =>
    clear HRS HAL HX
    obtain ⟨l, k, hk, rfl, HSK, HLK, HROW, HB, HX⟩ := hrel
    obtain ⟨pv, cv, rfl⟩ := row_shapeR HROW.out
    by_cases hlt : k < s.size
    · have hlt' : (k : Int) < (s.size : Int) := by omega
      go_wp2_with fail
      go_loopw [6] (fun ev w' => ∃ j : Nat, k ≤ j ∧ j ≤ s.size ∧ ev = .int .i64 j ∧ w' = wr ∧ Hid (∀ i, k ≤ i → i < j → s.data.toList[i]? ≠ some 10)) (fun ev _ => s.size - (intOf ev).toNat)
      case atStart => exact ⟨k, Nat.le_refl _, hk, rfl, rfl, fun i h1 h2 => by omega⟩
      case round =>
        obtain ⟨j, hkj, hj, rfl, hww, HNO⟩ := hrel
        subst hww
        by_cases hjl : j < s.size
        · have hj1 : (j : Int) < (s.size : Int) := by omega
          have hj0 : (0 : Int) ≤ (j : Int) := by omega
          have hget : s.data.toList[j]? = some (s[j]) := by
            rw [List.getElem?_eq_getElem (by rw [HSL.out]; exact hjl), Array.getElem_toList]
            rfl
          by_cases h10 : s[j].toNat = 10
          · have hb10 : s[j] = 10 := UInt8.toNat_inj.1 h10
            rw [hb10] at hget
            obtain ⟨G, hG⟩ : ∃ G, s.extract k j = G := ⟨_, rfl⟩
            have HG : Hid (s.extract k j = G) := hG
            have hGl : G.data.toList = (s.data.toList.drop k).take (j - k) := by rw [← hG, extract_str]
            have hG10 : (10 : UInt8) ∉ G.data.toList := by rw [hGl]; exact not_mem_seg _ _ _ _ HNO.out
            have hdrop : s.data.toList.drop k = G.data.toList ++ 10 :: s.data.toList.drop (j + 1) := by
              have e1 : s.data.toList.drop j = 10 :: s.data.toList.drop (j + 1) := by
                rw [List.drop_eq_getElem_cons (by rw [HSL.out]; exact hjl)]
                have := List.getElem?_eq_getElem (l := s.data.toList) (i := j) (by rw [HSL.out]; exact hjl)
                rw [hget] at this
                rw [← Option.some.inj this]
              rw [hGl, ← e1, show j = k + (j - k) by omega, ← List.drop_drop, show k + (j - k) - k = j - k by omega, List.take_append_drop]
            have HF : Hid (hFirst (s.data.toList.drop k) = hLine G.data.toList (s.data.toList.drop (j + 1))) := by
              show _ = _
              rw [hdrop]
              exact hFirst_line _ _ hG10
            have HNE : Hid (s.data.toList.drop k ≠ []) := fun e => by rw [hdrop] at e; simp at e
            have HGS : Hid (G.size ≤ 50000) := by
              have h1 : G.data.toList.length = G.size := by rw [Array.length_toList]; rfl
              rw [hGl, List.length_take] at h1
              show _ ≤ _
              omega
            have HC := hideR (cut_any G 32 wr HGS.out)
            have hkj' : (k : Int) ≤ (j : Int) := by omega
            have hjs : (j : Int) ≤ (s.size : Int) := by omega
            have hk0 : (0 : Int) ≤ (k : Int) := by omega
            have hjne : ¬ ((j : Int) = (s.size : Int)) := by omega
            have hjne' : ((j : Int) == (s.size : Int)) = false := beq_eq_false_iff_ne.2 hjne
            clear hget hb10 hGl hG10 hdrop
            go_wp2_with fail
            refine HC.out.mono ?_
            rintro e w1 ⟨vw, rfl, hown1, hb1⟩
            have HB1 : Hid (Below w.heap.size w w1) := HB.out.trans (hb1.mono HB.out.size)
            have HX1 := hideR (HX.out.next hb1)
            have HROW1 := hideR (row_below HROW.out hb1)
            clear hb1 HC HX HROW HB
            by_cases h2 : (cutBy 32 G.data.toList).length = 2
            · obtain ⟨x, y, hxy⟩ : ∃ x y, cutBy 32 G.data.toList = [x, y] := by
                match hc : cutBy 32 G.data.toList, h2 with
                | [x, y], _ => exact ⟨x, y, rfl⟩
              rw [hxy] at hown1
              have hcut := hLine_two _ _ _ hxy
              have hlx := cut_len G.data.toList 32
              rw [hcut] at hlx
              simp only at hlx
              have hGz : G.data.toList.length = G.size := by rw [Array.length_toList]; rfl
              have HLE : Hid (hLine G.data.toList (s.data.toList.drop (j + 1)) = match idRead x, numOf y 6 with | some z, some u => if (s.data.toList.drop (j + 1))[z.2]? = some 10 then some (((z.1, (z.2 : Int)), (u : Int), (s.data.toList.drop (j + 1)).take z.2), (s.data.toList.drop (j + 1)).drop (z.2 + 1)) else none | _, _ => none) := by
                show _ = _
                unfold hLine
                rw [hcut]
                rfl
              have HRD := hideR (fun W => readID_any ⟨x.toArray⟩ (by rw [str_size]; have := HGS.out; omega) W)
              have HNU := hideR (fun W => numberOf_any ⟨y.toArray⟩ (by rw [str_size]; have := HGS.out; unfold maxLen; omega) 6 (by decide) W)
              rw [str_list, refRead_eq] at HRD
              rw [str_list] at HNU
              obtain ⟨X, hX⟩ : ∃ X, idRead x = X := ⟨_, rfl⟩
              obtain ⟨Y, hY⟩ : ∃ Y, numOf y 6 = Y := ⟨_, rfl⟩
              have HXB : Hid (∀ z, X = some z → z.1 < 4294967296 ∧ z.2 < 1000000) := fun z e => idRead_bound (hX.trans e)
              have HYB : Hid (∀ u, Y = some u → u < 1000000) := fun u e => numOf_bound (hY.trans e)
              rw [hX] at HRD
              rw [hY] at HNU
              rw [hX, hY] at HLE
              obtain ⟨g, cap, rfl, hg, hgl, hcell⟩ := own_cell hown1 (by simp)
              have hp := hcell 0 (by simp)
              have hq := hcell 1 (by simp)
              simp only [List.map_cons, List.getElem_cons_zero, List.getElem_cons_succ] at hp hq
              have HQ : Hid (∀ W, Below w1.heap.size w1 W → W.cell? ⟨g, 1, none⟩ = some (strV y)) := fun W hb => (hb.cell (p := ⟨g, 1, none⟩) hgl).trans hq
              clear hcell hown1 hcut hlx hGz h2 hxy hq hX hY
              go_wp2_with fail
              refine (HRD.out _).mono ?_
              rintro e w2 ⟨rfl, hb2⟩
              have HB2 : Hid (Below w.heap.size w w2) := HB1.out.trans (hb2.mono HB1.out.size)
              have HX2 := hideR (HX1.out.next hb2)
              have HROW2 := hideR (row_below HROW1.out hb2)
              have hq2 := HQ.out w2 hb2
              have hgl2 : g < w2.heap.size := Nat.lt_of_lt_of_le hgl hb2.size
              clear hb2 HRD HX1 HROW1 HB1 HQ hp
              cases X with
              | none =>
                have HR : Hid (RES = ([], 1, (l.length : Int))) := HSK.out.symm.trans (hReads_text l _ HNE.out (HF.out.trans HLE.out))
                have hal := (Below.refl w2.heap.size w2).alloc (Nat.le_refl _) (.cells #[.int .u32 0, .int .i64 0] 40)
                have hX9 := HX2.out.next hal
                have HB9 : Hid (Below w.heap.size w _) := hideR (HB2.out.trans (hal.mono HB2.out.size))
                have hq3 := (hal.cell (p := ⟨g, 1, none⟩) hgl2).trans hq2
                simp only [refRes]
                clear hal
                go_wp2_with fail
                refine (HNU.out _).mono ?_
                rintro e w3 ⟨rfl, hw3⟩
                rw [← hw3] at hX9 HB9
                clear HNU hw3 hq3
                generalize numRes Y = ny
                have k0 := hX9.cell (i := 0) rfl
                have k1 := hX9.cell (i := 1) rfl
                have f0 := hX9.frozen 0
                have f1 := hX9.frozen 1
                go_wp2_with fail
                exact bodyPost_ret (v := .tuple #[.slice none 0 0, faultV 1 (l.length : Int)]) (by simp [results, Tryz.results36, go_sem, k0, k1]) rfl ⟨_, by rw [HRES.out, HR.out], by rw [HRES.out, HR.out]; exact heldsNil _, (HB9.out.setCell (p := ⟨w.heap.size, 0, none⟩) (Nat.le_refl _) _).setCell (p := ⟨w.heap.size, 1, none⟩) (Nat.le_refl _) _⟩
              | some z =>
                obtain ⟨xp, xn⟩ := z
                obtain ⟨hxp, hxn⟩ := HXB.out (xp, xn) rfl
                simp only at hxp hxn
                have hal := (Below.refl w2.heap.size w2).alloc (Nat.le_refl _) (.cells #[.int .u32 (xp : Nat), .int .i64 (xn : Int)] 40)
                have hX9 := HX2.out.next hal
                have HB9 : Hid (Below w.heap.size w _) := hideR (HB2.out.trans (hal.mono HB2.out.size))
                have hid9 := Blk.new w2 #[.int .u32 (xp : Nat), .int .i64 (xn : Int)] 40
                have HROW9 := hideR (row_below HROW2.out hal)
                have hq3 := (hal.cell (p := ⟨g, 1, none⟩) hgl2).trans hq2
                simp only [refRes]
                clear hal
                go_wp2_with fail
                refine (HNU.out _).mono ?_
                rintro e w3 ⟨rfl, hw3⟩
                rw [← hw3] at hX9 HB9 hid9 HROW9
                clear HNU hw3 hq3
                have i0 := hid9.cell (i := 0) rfl
                have i1 := hid9.cell (i := 1) rfl
                cases Y with
                | none =>
                  have HR : Hid (RES = ([], 1, (l.length : Int))) := HSK.out.symm.trans (hReads_text l _ HNE.out (HF.out.trans HLE.out))
                  simp only [numRes]
                  have k0 := hX9.cell (i := 0) rfl
                  have k1 := hX9.cell (i := 1) rfl
                  have f0 := hX9.frozen 0
                  have f1 := hX9.frozen 1
                  go_wp2_with fail
                  exact bodyPost_ret (v := .tuple #[.slice none 0 0, faultV 1 (l.length : Int)]) (by simp [results, Tryz.results36, go_sem, k0, k1]) rfl ⟨_, by rw [HRES.out, HR.out], by rw [HRES.out, HR.out]; exact heldsNil _, (HB9.out.setCell (p := ⟨w.heap.size, 0, none⟩) (Nat.le_refl _) _).setCell (p := ⟨w.heap.size, 1, none⟩) (Nat.le_refl _) _⟩
                | some u =>
                  have hu6 := HYB.out u rfl
                  simp only [numRes]
                  have hw1 : IntKind.i64.wrap ((j : Int) + 1) = (j : Int) + 1 := by rw [IntKind.wrap_i64]; omega
                  have hw2 : IntKind.i64.wrap ((j : Int) + 1 + (xn : Int)) = (j : Int) + 1 + (xn : Int) := by rw [IntKind.wrap_i64]; omega
                  have hu0 : ¬ (u : Int) < 0 := by omega
                  by_cases hC : j + 1 + xn < s.size
                  · have hC1 : (j : Int) + 1 + (xn : Int) < (s.size : Int) := by omega
                    have hC2 : ((j : Int) + 1 + (xn : Int)).toNat = j + 1 + xn := by omega
                    have hC3 : (0 : Int) ≤ (j : Int) + 1 + (xn : Int) := by omega
                    have hget : (s.data.toList.drop (j + 1))[xn]? = some (s[j + 1 + xn]) := by
                      rw [List.getElem?_drop, List.getElem?_eq_getElem (by rw [HSL.out]; exact hC), Array.getElem_toList]
                      rfl
                    by_cases hE : s[j + 1 + xn].toNat = 10
                    · have hb10 : s[j + 1 + xn] = 10 := UInt8.toNat_inj.1 hE
                      rw [hb10] at hget
                      obtain ⟨t, ht⟩ : ∃ t, (s.data.toList.drop (j + 1)).take xn = t := ⟨_, rfl⟩
                      have hFE : hFirst (s.data.toList.drop k) = some (((xp, (xn : Int)), (u : Int), t), s.data.toList.drop (j + xn + 2)) := by
                        rw [HF.out, HLE.out]
                        simp only [hget, if_true, ht, List.drop_drop]
                        rw [show j + 1 + (xn + 1) = j + xn + 2 by omega]
                      have hTx : s.extract (j + 1) (j + 1 + xn) = ⟨t.toArray⟩ := by
                        rw [extract_str, show j + 1 + xn - (j + 1) = xn by omega, ht]
                      have htl : t.length ≤ 50000 := by rw [← ht, List.length_take]; omega
                      obtain ⟨h, hh⟩ : ∃ h : Hd, h = ((xp, (xn : Int)), (u : Int), t) := ⟨_, rfl⟩
                      have HH := hideR hh
                      have HNX : Hid ((markE (l ++ [h]) l.length = 0 → hReads (l ++ [h]) (s.data.toList.drop (j + xn + 2)) = RES) ∧ (markE (l ++ [h]) l.length ≠ 0 → RES = ([], markE (l ++ [h]) l.length, (l.length : Int)))) := by
                        rw [← hh] at hFE
                        exact ⟨fun e => (hReads_next l _ _ hFE e).symm.trans HSK.out, fun e => HSK.out.symm.trans (hReads_odd l _ _ hFE e)⟩
                      have HTL : Hid (h.2.2.length ≤ 50000) := by rw [hh]; exact htl
                      have hD1 : (0 : Int) ≤ (j : Int) + 1 := by omega
                      have hD2 : (j : Int) + 1 ≤ (j : Int) + 1 + (xn : Int) := by omega
                      have hD3 : (j : Int) + 1 + (xn : Int) ≤ (s.size : Int) := by omega
                      have hD4 : ((j : Int) + 1).toNat = j + 1 := by omega
                      clear hget hb10 ht hFE htl hh HF HLE
                      have hl40 : l.length ≤ 40000 := by have := HLK.out; omega
                      have hwl := hX9.lt
                      obtain ⟨T, hT⟩ : ∃ T : ByteArray, s.extract (j + 1) (j + 1 + xn) = T := ⟨_, rfl⟩
                      have HT : Hid (T = ⟨t.toArray⟩) := by show _ = _; rw [← hT, hTx]
                      clear hTx
                      go_wp2_with fail
                      go_region_law (first
                        | (refine step_append_lies _ (by rfl) _ _ _ (by rfl) (w.heap.size + 1) 64 iH _ 4 40 Tryz.underlying61 hiH zH0 zH1 zH2 rfl (by decide) (.slice pv l.length cv) l.length _ (by rfl) (HROW9.out.drew.alloc _) ⟨w3.heap.size, 0, none⟩ 1 1 [.int .u32 (xp : Nat), .int .i64 (xn : Int), .int .i64 (u : Int), .string T] (by rfl) (by rfl) (World.news_of_block (cs := #[.int .u32 (xp : Nat), .int .i64 (xn : Int), .int .i64 (u : Int), .string T]) (t := 64) (fr := (0, 0)) (heap_alloc_new w3.drew _)) (by simp [Value.oneCell']) (by omega) (by unfold maxLen; omega) (by omega) (by simp; omega) (w3.heap.size + 1) (by simp) ?_; intro gg cap w4 hown4 hgrow hat hglt))
                      all_goals
                        have hn1 : (Value.slice pv l.length cv).ownBlock ≠ some w.heap.size := fun e => by have := (HROW2.out.lt _ e).1; omega
                        have hn2 : (Value.slice pv l.length cv).ownBlock ≠ some w2.heap.size := fun e => by have := (HROW2.out.lt _ e).2; omega
                        have hX3a := hX9.next ((Below.refl w3.heap.size w3).drew.alloc (Nat.le_refl _) (.cells #[.int .u32 (xp : Nat), .int .i64 (xn : Int), .int .i64 (u : Int), .string T] 64))
                        have hid3a := hid9.next ((Below.refl w3.heap.size w3).drew.alloc (Nat.le_refl _) (.cells #[.int .u32 (xp : Nat), .int .i64 (xn : Int), .int .i64 (u : Int), .string T] 64))
                        have HX4 : Hid (Blk w4 w.heap.size #[.int .i64 0, .int .i64 0] 46) := (hgrow.block _ hX3a.lt (fun e => hn1 e.symm)).trans hX3a
                        have HI4 : Hid (Blk w4 w2.heap.size #[.int .u32 (xp : Nat), .int .i64 (xn : Int)] 40) := (hgrow.block _ hid3a.lt (fun e => hn2 e.symm)).trans hid3a
                        have HB4 : Hid (Below w.heap.size w w4) := (HB9.out.trans ((Below.refl w3.heap.size w3).drew.alloc (Nat.le_refl _) (.cells #[.int .u32 (xp : Nat), .int .i64 (xn : Int), .int .i64 (u : Int), .string T] 64) |>.mono HB9.out.size)).grown hgrow (by rw [World.size_alloc]; exact Nat.le_succ_of_le HB9.out.size) (fun b e => by have := (HROW2.out.lt _ e).1; omega)
                        have HROW4 : Hid (w4.ownsRow (w.heap.size + 1) 64 4 (.slice (some ⟨gg, 0, none⟩) (l.length + 1) cap) (l ++ [h]).length (heldCells (l ++ [h]))) := by
                          show World.ownsRow _ _ _ _ _ _ _
                          rw [heldCells_append, List.length_append, List.length_singleton, HH.out]
                          have := hown4
                          rw [HT.out] at this
                          exact this
                        clear hn1 hn2 hX3a hid3a hown4 hgrow hat hglt HROW9 HROW2 hid9 hX9 HB9 HX2 HB2 i0 i1
                        have hkk : l.length < (l ++ [h]).length := by simp
                        have hgk : (l ++ [h])[l.length] = h := by simp
                        have HMK := hideR (marked_any (.slice (some ⟨gg, 0, none⟩) (l.length + 1) cap) (l ++ [h]) l.length w4 hkk (by simp; omega) (by rw [hgk]; exact HTL.out) (by
                          have := HeldsAt.of_row HROW4.out
                          exact this))
                        have i1 := HI4.out.cell (i := 1) rfl
                        have hm1 : IntKind.i64.wrap (((l.length + 1 : Nat) : Int) - 1) = (l.length : Int) := by rw [IntKind.wrap_i64]; omega
                        have hm2 : IntKind.i64.wrap ((l.length : Int) + 1 - 1) = (l.length : Int) := by rw [IntKind.wrap_i64]; omega
                        have hw7 : IntKind.i64.wrap ((j : Int) + (xn : Int)) = (j : Int) + (xn : Int) := by rw [IntKind.wrap_i64]; omega
                        have hw8 : IntKind.i64.wrap ((j : Int) + (xn : Int) + 2) = (j : Int) + (xn : Int) + 2 := by rw [IntKind.wrap_i64]; omega
                        clear hkk hgk
                        go_wp2_with fail
                        rcases markE_two (l ++ [h]) l.length with hM | hM | hM
                        · have HM := hideR hM
                          clear hM
                          refine HMK.out.mono ?_
                          rintro e w6 ⟨rfl, hb6⟩
                          have HX6 := hideR (HX4.out.next hb6)
                          have HROW6 := hideR (row_below HROW4.out hb6)
                          have HB6 : Hid (Below w.heap.size w w6) := HB4.out.trans (hb6.mono HB4.out.size)
                          have i6 := (HI4.out.next hb6).cell (i := 1) rfl
                          rw [HM.out]
                          clear hb6 HMK i1
                          go_wp2_with fail
                          go_roundw
                          case rel => exact ⟨l ++ [h], j + xn + 2, by omega, by go_num, HNX.out.1 HM.out, by show _ ≤ _; rw [List.length_append, List.length_singleton]; have := HLK.out; omega, by rw [List.length_append, List.length_singleton] at HROW6 ⊢; exact HROW6.out, HB6.out, HX6.out⟩
                          case measure => simp [intOf]; omega
                        · have HM := hideR hM
                          have HR := hideR (HNX.out.2 (by rw [hM]; decide))
                          clear hM
                          refine HMK.out.mono ?_
                          rintro e w6 ⟨rfl, hb6⟩
                          have hX9 := HX4.out.next hb6
                          have HB9 : Hid (Below w.heap.size w w6) := HB4.out.trans (hb6.mono HB4.out.size)
                          clear hb6 HMK
                          rw [HM.out]
                          rw [HM.out] at HR
                          have k0 := hX9.cell (i := 0) rfl
                          have k1 := hX9.cell (i := 1) rfl
                          have f0 := hX9.frozen 0
                          have f1 := hX9.frozen 1
                          go_wp2_with fail
                          exact bodyPost_ret (v := .tuple #[.slice none 0 0, faultV 8 (l.length : Int)]) (by simp [results, Tryz.results36, go_sem, k0, k1]) rfl ⟨_, by rw [HRES.out, HR.out], by rw [HRES.out, HR.out]; exact heldsNil _, (HB9.out.setCell (p := ⟨w.heap.size, 0, none⟩) (Nat.le_refl _) _).setCell (p := ⟨w.heap.size, 1, none⟩) (Nat.le_refl _) _⟩
                        · have HM := hideR hM
                          have HR := hideR (HNX.out.2 (by rw [hM]; decide))
                          clear hM
                          refine HMK.out.mono ?_
                          rintro e w6 ⟨rfl, hb6⟩
                          have hX9 := HX4.out.next hb6
                          have HB9 : Hid (Below w.heap.size w w6) := HB4.out.trans (hb6.mono HB4.out.size)
                          clear hb6 HMK
                          rw [HM.out]
                          rw [HM.out] at HR
                          have k0 := hX9.cell (i := 0) rfl
                          have k1 := hX9.cell (i := 1) rfl
                          have f0 := hX9.frozen 0
                          have f1 := hX9.frozen 1
                          go_wp2_with fail
                          exact bodyPost_ret (v := .tuple #[.slice none 0 0, faultV 9 (l.length : Int)]) (by simp [results, Tryz.results36, go_sem, k0, k1]) rfl ⟨_, by rw [HRES.out, HR.out], by rw [HRES.out, HR.out]; exact heldsNil _, (HB9.out.setCell (p := ⟨w.heap.size, 0, none⟩) (Nat.le_refl _) _).setCell (p := ⟨w.heap.size, 1, none⟩) (Nat.le_refl _) _⟩
                    · have HR : Hid (RES = ([], 1, (l.length : Int))) := HSK.out.symm.trans (hReads_text l _ HNE.out (HF.out.trans (HLE.out.trans (by
                        simp only [hget]
                        rw [if_neg]
                        intro e
                        exact hE (by rw [Option.some.inj e]; rfl)))))
                      clear hget
                      have k0 := hX9.cell (i := 0) rfl
                      have k1 := hX9.cell (i := 1) rfl
                      have f0 := hX9.frozen 0
                      have f1 := hX9.frozen 1
                      go_wp2_with fail
                      exact bodyPost_ret (v := .tuple #[.slice none 0 0, faultV 1 (l.length : Int)]) (by simp [results, Tryz.results36, go_sem, k0, k1]) rfl ⟨_, by rw [HRES.out, HR.out], by rw [HRES.out, HR.out]; exact heldsNil _, (HB9.out.setCell (p := ⟨w.heap.size, 0, none⟩) (Nat.le_refl _) _).setCell (p := ⟨w.heap.size, 1, none⟩) (Nat.le_refl _) _⟩
                  · have hC1 : (s.size : Int) ≤ (j : Int) + 1 + (xn : Int) := by omega
                    have HR : Hid (RES = ([], 1, (l.length : Int))) := HSK.out.symm.trans (hReads_text l _ HNE.out (HF.out.trans (HLE.out.trans (by
                      have hget : (s.data.toList.drop (j + 1))[xn]? = none := by rw [List.getElem?_drop]; exact List.getElem?_eq_none (by rw [HSL.out]; omega)
                      simp only [hget]
                      rfl))))
                    have k0 := hX9.cell (i := 0) rfl
                    have k1 := hX9.cell (i := 1) rfl
                    have f0 := hX9.frozen 0
                    have f1 := hX9.frozen 1
                    go_wp2_with fail
                    exact bodyPost_ret (v := .tuple #[.slice none 0 0, faultV 1 (l.length : Int)]) (by simp [results, Tryz.results36, go_sem, k0, k1]) rfl ⟨_, by rw [HRES.out, HR.out], by rw [HRES.out, HR.out]; exact heldsNil _, (HB9.out.setCell (p := ⟨w.heap.size, 0, none⟩) (Nat.le_refl _) _).setCell (p := ⟨w.heap.size, 1, none⟩) (Nat.le_refl _) _⟩
            · obtain ⟨pw, cw, rfl⟩ := row_shapeR hown1
              have hn2 : ¬ (((cutBy 32 G.data.toList).length : Int) = 2) := by omega
              have HR : Hid (RES = ([], 1, (l.length : Int))) := HSK.out.symm.trans (hReads_text l _ HNE.out (HF.out.trans (hLine_words _ _ h2)))
              have HB9 := HB1
              have hX9 := HX1.out
              generalize (cutBy 32 G.data.toList).length = cn at *
              clear hown1 h2
              have k0 := hX9.cell (i := 0) rfl
              have k1 := hX9.cell (i := 1) rfl
              have f0 := hX9.frozen 0
              have f1 := hX9.frozen 1
              go_wp2_with fail
              exact bodyPost_ret (v := .tuple #[.slice none 0 0, faultV 1 (l.length : Int)]) (by simp [results, Tryz.results36, go_sem, k0, k1]) rfl ⟨_, by rw [HRES.out, HR.out], by rw [HRES.out, HR.out]; exact heldsNil _, (HB9.out.setCell (p := ⟨w.heap.size, 0, none⟩) (Nat.le_refl _) _).setCell (p := ⟨w.heap.size, 1, none⟩) (Nat.le_refl _) _⟩
          · have hb10 : ¬ ((s[j].toNat : Int) = 10) := by omega
            have HNX : Hid (∀ i, k ≤ i → i < j + 1 → s.data.toList[i]? ≠ some 10) := fun i h1 h2 => by
              rcases Nat.lt_or_ge i j with h | h
              · exact HNO.out i h1 h
              · obtain rfl : i = j := by omega
                rw [hget]
                intro e
                exact h10 (by rw [Option.some.inj e]; rfl)
            clear hget
            go_wp2_with fail
            go_roundw
            case rel => exact ⟨j + 1, by omega, hjl, by go_num, by first | rfl | trivial, HNX.out⟩
            case measure => simp [intOf]; omega
        · have hj1 : (s.size : Int) ≤ (j : Int) := by omega
          have hje : j = s.size := by omega
          obtain ⟨G, hG⟩ : ∃ G, s.extract k j = G := ⟨_, rfl⟩
          have HG : Hid (s.extract k j = G) := hG
          have hGl : G.data.toList = s.data.toList.drop k := by
            rw [← hG, extract_str]
            exact List.take_of_length_le (by rw [List.length_drop, HSL.out]; omega)
          have hG10 : (10 : UInt8) ∉ s.data.toList.drop k := by
            have := not_mem_seg _ _ _ _ HNO.out
            rwa [List.take_of_length_le (by rw [List.length_drop, HSL.out]; omega)] at this
          have HR : Hid (RES = ([], 1, (l.length : Int))) := HSK.out.symm.trans (hReads_text l _ (fun e => by
            have := congrArg List.length e
            rw [List.length_drop, HSL.out] at this
            simp at this
            omega) (hFirst_miss _ hG10))
          have HGS : Hid (G.size ≤ 50000) := by
            have h1 : G.data.toList.length = G.size := by rw [Array.length_toList]; rfl
            rw [hGl, List.length_drop, HSL.out] at h1
            show _ ≤ _
            omega
          have HC := hideR (cut_any G 32 wr HGS.out)
          have hkj' : (k : Int) ≤ (j : Int) := by omega
          have hjs : (j : Int) ≤ (s.size : Int) := by omega
          have hk0 : (0 : Int) ≤ (k : Int) := by omega
          have hjeq : (j : Int) = (s.size : Int) := by omega
          have HJE := hideR hjeq
          clear hGl hG10 hje hjeq
          go_wp2_with fail
          refine HC.out.mono ?_
          rintro e w1 ⟨vw, rfl, hown1, hb1⟩
          have HB9 : Hid (Below w.heap.size w w1) := HB.out.trans (hb1.mono HB.out.size)
          have hX9 := HX.out.next hb1
          obtain ⟨pw, cw, rfl⟩ := row_shapeR hown1
          generalize (cutBy 32 G.data.toList).length = cn at *
          clear hown1 hb1 HC
          have hjeq := HJE.out
          have k0 := hX9.cell (i := 0) rfl
          have k1 := hX9.cell (i := 1) rfl
          have f0 := hX9.frozen 0
          have f1 := hX9.frozen 1
          go_wp2_with fail
          exact bodyPost_ret (v := .tuple #[.slice none 0 0, faultV 1 (l.length : Int)]) (by simp [results, Tryz.results36, go_sem, k0, k1]) rfl ⟨_, by rw [HRES.out, HR.out], by rw [HRES.out, HR.out]; exact heldsNil _, (HB9.out.setCell (p := ⟨w.heap.size, 0, none⟩) (Nat.le_refl _) _).setCell (p := ⟨w.heap.size, 1, none⟩) (Nat.le_refl _) _⟩
    · have hge : (s.size : Int) ≤ (k : Int) := by omega
      have HR : Hid (RES = (l, 0, -1)) := by
        show _ = _
        rw [← HSK.out, List.drop_eq_nil_of_le (by rw [HSL.out]; omega)]
        exact hReads_nil l
      go_wp2_with fail
      refine (fine_any _).mono ?_
      rintro e w2 ⟨rfl, hb2⟩
      have hX2 := HX.out.next hb2
      have k0 := hX2.cell (i := 0) rfl
      have k1 := hX2.cell (i := 1) rfl
      have f0 := hX2.frozen 0
      have f1 := hX2.frozen 1
      have HB2 : Hid (Below w.heap.size w w2) := HB.out.trans (hb2.mono HB.out.size)
      have HROW2 := hideR (row_below HROW.out hb2)
      clear hb2 hX2
      go_wp2_with fail
      have hRow3 := ownsRow_setCell_below (ownsRow_setCell_below HROW2.out (a := ⟨w.heap.size, 0, none⟩) (Nat.lt_succ_self _) (.int .i64 0)) (a := ⟨w.heap.size, 1, none⟩) (Nat.lt_succ_self _) (.int .i64 (-1))
      exact bodyPost_ret (v := .tuple #[.slice pv l.length cv, faultV 0 (-1)]) (by simp [results, Tryz.results36, go_sem, k0, k1]) rfl ⟨_, by rw [HRES.out, HR.out], by rw [HRES.out, HR.out]; exact HeldsAt.of_row hRow3, (HB2.out.setCell (p := ⟨w.heap.size, 0, none⟩) (Nat.le_refl _) _).setCell (p := ⟨w.heap.size, 1, none⟩) (Nat.le_refl _) _⟩
end Go.Proofs.YtmjdgakokldliaaGreatDoor
