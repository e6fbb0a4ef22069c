/-
  Own text. The document's bin by contracts: Put of a piece that is not there; Put.
  Own text. The program's bin by contracts: All, its closure.
-/
import Derived.Test.YtcbcjefefmbccaaDoorG16
import Derived.OwnWalk
import Derived.Test.YtcbcjefefmbccaaDoorG09
import Derived.Test.YtcbcjefefmbccaaDoorG07
import Derived.Shelf.GgSortFunc.Tiny
import Derived.Deep.RegionHeld3
namespace Go.Proofs.YtcbcjefefmbccaaDoor
open Go.RowKit

set_option maxRecDepth 100000 in
set_option maxHeartbeats 4000000 in
theorem rPut_full (B : Nat) (v : Value) (l : List Hd) (s : ByteArray) (w : World) (hs1 : 1 ≤ s.size) (hs2 : s.size ≤ 64) (hn : l.length ≤ maxLen) (hf : hFind l (idOfL s.data.toList) = none) (hl : 250 ≤ l.length) (h : RBin w B v l) :
    Calls Tryd.prog 38 #[.pointer (some ⟨B, 0, none⟩), .string s] w (PutPost w B v (hPut l s.data.toList)) := by
  have HR : Hid (RBin w B v l) := h
  have HN : Hid (l.length ≤ maxLen) := hn
  have HSM : Hid (s.size ≤ maxLen) := by show _ ≤ _; unfold maxLen; omega
  have h1 : ¬ (s.size : Int) < 1 := by omega
  have h2 : ¬ (64 : Int) < (s.size : Int) := by omega
  have h3 : (250 : Int) ≤ (l.length : Int) := by omega
  have e1 : Hid (findI l (idOfL s.data.toList) = -1) := by show _ = _; unfold findI; rw [hf]
  have HID : Hid (idOfL s.data.toList = (pmore 2166136261 s.data.toList, (s.size : Int))) := by show _ = _; unfold idOfL; rw [Array.length_toList]; rfl
  have HFF := rFind_any B v l (idOfL s.data.toList)
  rw [HID.out] at HFF e1
  obtain ⟨P, hP⟩ : ∃ P, pmore 2166136261 s.data.toList = P := ⟨_, rfl⟩
  rw [hP] at HFF e1 HID
  have HPS : Hid (pmore 2166136261 s.data.toList = P) := hP
  have HF : Hid (∀ (w : World), l.length ≤ maxLen → RBin w B v l → Calls Tryd.prog 41 #[.pointer (some ⟨B, 0, none⟩), idV (P : Nat) (s.size : Int)] w fun e w' => e = .returned (.int .i64 (findI l (P, (s.size : Int)))) ∧ Below w.heap.size w w') := HFF
  have hs3 : ¬ (s.data.toList.length < 1 ∨ 64 < s.data.toList.length) := by rw [Array.length_toList]; show ¬ (s.size < 1 ∨ 64 < s.size); omega
  have e2 : Hid (hPut l s.data.toList = (((0, 0), false, 7), l)) := by
    show _ = _
    unfold hPut
    rw [if_neg hs3, hf]
    simp only [hl, if_true]
  clear h hn hf HFF hP hs3 hs1 hs2 hl
  have hX := Blk.new w #[.int .u32 0, .int .i64 0] 37
  have hB0 : Below w.heap.size w (w.alloc (.cells #[.int .u32 0, .int .i64 0] 37)) := (Below.refl _ w).alloc (Nat.le_refl _) _
  have HX : Hid (Blk (w.alloc (.cells #[.int .u32 0, .int .i64 0] 37)) w.heap.size #[.int .u32 0, .int .i64 0] 37) := hX
  have HB0 : Hid (Below w.heap.size w (w.alloc (.cells #[.int .u32 0, .int .i64 0] 37))) := hB0
  clear hX hB0
  go_enter Tryd.func38, Tryd.ntmps38
  go_wp2_with fail
  refine (idOf_any s _ HSM.out).mono ?_
  rintro e w1 ⟨rfl, hb1⟩
  rw [HPS.out]
  have hR1 := HX.out.next hb1
  have hB1 : Below w.heap.size w w1 := HB0.out.trans (hb1.mono (by simp))
  have hz1 : w.heap.size < w1.heap.size := hR1.lt
  have hal := (Below.refl w1.heap.size w1).alloc (Nat.le_refl _) (.cells #[.int .u32 (P : Nat), .int .i64 (s.size : Int)] 37)
  have hI2 := Blk.new w1 #[.int .u32 (P : Nat), .int .i64 (s.size : Int)] 37
  have hPW : PutW w (w1.alloc (.cells #[.int .u32 (P : Nat), .int .i64 (s.size : Int)] 37)) w1.heap.size B v l (P, (s.size : Int)) := ⟨hB1.trans (hal.mono hB1.size), hR1.next hal, hI2, hz1, HR.out.below (hB1.trans (hal.mono hB1.size))⟩
  have HPW : Hid (PutW w (w1.alloc (.cells #[.int .u32 (P : Nat), .int .i64 (s.size : Int)] 37)) w1.heap.size B v l (P, (s.size : Int))) := hPW
  clear hb1 hR1 hB1 hal hI2 hPW
  go_wp2_with fail
  refine (HF.out _ HN.out HPW.out.bin).mono ?_
  rintro e w2 ⟨rfl, hb2⟩
  rw [e1.out]
  have hPW := HPW.out.next hb2
  generalize w1.heap.size = I at *
  clear HPW hb2 HF
  obtain ⟨pa, c, hv, _⟩ := hPW.bin.at
  subst hv
  have q0 := hPW.bin.blk.cell (i := 0) rfl
  have i0 := hPW.id.cell (i := 0) rfl
  have i1 := hPW.id.cell (i := 1) rfl
  have r0 := hPW.res.cell (i := 0) rfl
  have r1 := hPW.res.cell (i := 1) rfl
  have fr0 := hPW.res.frozen 0
  have fr1 := hPW.res.frozen 1
  have HPWW : Hid (PutW w w2 I B (.slice pa l.length c) l (P, (s.size : Int))) := hPW
  clear hPW
  go_wp2_with fail
  refine bodyPost_ret (v := .tuple #[idV (0 : Nat) 0, .bool false, .int .i64 7]) (by simp [results, Tryd.results38, go_sem, r0, r1]) rfl ?_
  rw [e2.out]
  have hb := (HPWW.out.below.setCell (p := ⟨w.heap.size, 0, none⟩) (Nat.le_refl _) (.int .u32 0)).setCell (p := ⟨w.heap.size, 1, none⟩) (Nat.le_refl _) (.int .i64 0)
  exact ⟨.slice pa l.length c, rfl, HR.out.below hb, fun k hk => .inl hk, Off.of_below hb⟩

/- The end of Put: the bin's new row, the bin's block written, the result written. -/
theorem putNew_post {w wr w5 : World} {I B : Nat} {v v5 : Value} {l : List Hd} {s : List UInt8} {x : Nat × Int} (HR : RBin w B v l) (hP : PutW w wr I B v l x) (hB : Below wr.heap.size wr w5) (hO : w5.ownsRow wr.heap.size 77 4 v5 (hIns l (x, 1, s)).length (heldCells (hIns l (x, 1, s)))) :
    PutPost w B v ((x, true, 0), hIns l (x, 1, s)) (.returned (.tuple #[idV (x.1 : Nat) x.2, .bool true, .int .i64 0])) (((w5.setCell ⟨B, 0, none⟩ v5).setCell ⟨w.heap.size, 0, none⟩ (.int .u32 (x.1 : Nat))).setCell ⟨w.heap.size, 1, none⟩ (.int .i64 x.2)) := by
  have hBl := HR.blk.lt
  have hws := hP.below.size
  have hRl : w.heap.size < wr.heap.size := hP.res.lt
  refine ⟨v5, rfl, ⟨?_, ?_⟩, fun k hk => .inr ?_, ?_⟩
  · refine Blk.other (Blk.other ?_ (a := ⟨w.heap.size, 0, none⟩) (show B ≠ w.heap.size by omega) _) (a := ⟨w.heap.size, 1, none⟩) (show B ≠ w.heap.size by omega) _
    exact (hP.bin.blk.below hB hP.bin.blk.lt).set 0 v5
  · exact ownsRow_low (ownsRow_setCell_below (ownsRow_setCell_below (ownsRow_setCell_below hO (a := ⟨B, 0, none⟩) hP.bin.blk.lt _) (a := ⟨w.heap.size, 0, none⟩) hRl _) (a := ⟨w.heap.size, 1, none⟩) hRl _) (Nat.zero_le _)
  · have := (hO.lt k hk).1
    omega
  · exact (((Off.of_below (hP.below.trans (hB.mono hws))).setCell (p := ⟨B, 0, none⟩) (.inl (.inl rfl)) _).setCell (p := ⟨w.heap.size, 0, none⟩) (.inr (Nat.le_refl _)) _).setCell (p := ⟨w.heap.size, 1, none⟩) (.inr (Nat.le_refl _)) _
theorem putNew_cells {w wr w5 : World} {I B : Nat} {v : Value} {l : List Hd} {x : Nat × Int} (hP : PutW w wr I B v l x) (hB : Below wr.heap.size wr w5) (hne : B ≠ I ∧ B ≠ w.heap.size) (u : Value) :
    (w5.setCell ⟨B, 0, none⟩ u).cell? ⟨I, 0, none⟩ = some (.int .u32 (x.1 : Nat)) ∧ (w5.setCell ⟨B, 0, none⟩ u).cell? ⟨I, 1, none⟩ = some (.int .i64 x.2) ∧ (w5.setCell ⟨B, 0, none⟩ u).cell? ⟨w.heap.size, 0, none⟩ = some (.int .u32 0) ∧ (w5.setCell ⟨B, 0, none⟩ u).cell? ⟨w.heap.size, 1, none⟩ = some (.int .i64 0) ∧
      (w5.setCell ⟨B, 0, none⟩ u).frozen? ⟨w.heap.size, 0, none⟩ = false ∧ (w5.setCell ⟨B, 0, none⟩ u).frozen? ⟨w.heap.size, 1, none⟩ = false := by
  have h1 : Blk (w5.setCell ⟨B, 0, none⟩ u) I #[.int .u32 (x.1 : Nat), .int .i64 x.2] 37 := (hP.id.below hB hP.id.lt).other (a := ⟨B, 0, none⟩) (fun e => hne.1 e.symm) u
  have h2 : Blk (w5.setCell ⟨B, 0, none⟩ u) w.heap.size #[.int .u32 0, .int .i64 0] 37 := (hP.res.below hB hP.res.lt).other (a := ⟨B, 0, none⟩) (fun e => hne.2 e.symm) u
  exact ⟨h1.cell (i := 0) rfl, h1.cell (i := 1) rfl, h2.cell (i := 0) rfl, h2.cell (i := 1) rfl, h2.frozen 0, h2.frozen 1⟩
theorem ins_row (l : List Hd) (h : Hd) (j : Nat) (hj : j ≤ l.length) (hp : hPlace l h.1 = j) : (hIns l h).length = j + 1 + (l.length - j) ∧ heldCells (hIns l h) = heldCells (l.take j) ++ heldCells [h] ++ heldCells (l.drop j) := by
  unfold hIns
  rw [hp]
  refine ⟨by simp; omega, ?_⟩
  rw [heldCells_append, List.append_assoc, show h :: l.drop j = [h] ++ l.drop j from rfl, heldCells_append [h]]

theorem row_some {w : World} {base : Nat} {e : TypeId} {size : Nat} {v : Value} {n : Nat} {xs : List Value} (h : w.ownsRow base e size v n xs) (hn : 1 ≤ n) : ∃ g cap, v = .slice (some ⟨g, 0, none⟩) n cap ∧ n ≤ cap ∧ cap ≤ maxLen := by
  obtain ⟨_, ho⟩ := h
  rcases ho with ⟨_, h0⟩ | ⟨g, cap, _, hv, _, _, h1, h2, _⟩
  · omega
  · exact ⟨g, cap, hv, h1, h2⟩
theorem ins_own {w : World} {base : Nat} {e : TypeId} {v : Value} {l : List Hd} {h : Hd} {j : Nat} (hi : (hIns l h).length = j + 1 + (l.length - j) ∧ heldCells (hIns l h) = heldCells (l.take j) ++ heldCells [h] ++ heldCells (l.drop j))
    (ho : w.ownsRow base e 4 v (j + 1 + (l.length - j)) (heldCells (l.take j) ++ heldCells [h] ++ heldCells (l.drop j))) : w.ownsRow base e 4 v (hIns l h).length (heldCells (hIns l h)) := by
  rw [hi.1, hi.2]
  exact ho

set_option maxRecDepth 100000 in
set_option maxHeartbeats 8000000 in
theorem rPut_new (B : Nat) (v : Value) (l : List Hd) (s : ByteArray) (w : World) (hs1 : 1 ≤ s.size) (hs2 : s.size ≤ 64) (hf : hFind l (idOfL s.data.toList) = none) (hl : l.length < 250) (h : RBin w B v l) :
    Calls Tryd.prog 38 #[.pointer (some ⟨B, 0, none⟩), .string s] w (PutPost w B v (hPut l s.data.toList)) := by
  obtain ⟨ti, hi, hz0, hz1', hz2⟩ := info_parts infoHeld
  have HR : Hid (RBin w B v l) := h
  have HN : Hid (l.length ≤ maxLen) := by show _ ≤ _; unfold maxLen; omega
  have HL : Hid (l.length < 250) := hl
  have HSM : Hid (s.size ≤ maxLen) := by show _ ≤ _; unfold maxLen; omega
  have h1 : ¬ (s.size : Int) < 1 := by omega
  have h2 : ¬ (64 : Int) < (s.size : Int) := by omega
  have h3 : ¬ (250 : Int) ≤ (l.length : Int) := by omega
  have e1 : Hid (findI l (idOfL s.data.toList) = -1) := by show _ = _; unfold findI; rw [hf]
  have HID : Hid (idOfL s.data.toList = (pmore 2166136261 s.data.toList, (s.size : Int))) := by show _ = _; unfold idOfL; rw [Array.length_toList]; rfl
  have HFF := rFind_any B v l (idOfL s.data.toList)
  rw [HID.out] at HFF e1
  obtain ⟨P, hP⟩ : ∃ P, pmore 2166136261 s.data.toList = P := ⟨_, rfl⟩
  rw [hP] at HFF e1 HID
  have HPS : Hid (pmore 2166136261 s.data.toList = P) := hP
  have HF : Hid (∀ (w : World), l.length ≤ maxLen → RBin w B v l → Calls Tryd.prog 41 #[.pointer (some ⟨B, 0, none⟩), idV (P : Nat) (s.size : Int)] w fun e w' => e = .returned (.int .i64 (findI l (P, (s.size : Int)))) ∧ Below w.heap.size w w') := HFF
  have hs3 : ¬ (s.data.toList.length < 1 ∨ 64 < s.data.toList.length) := by rw [Array.length_toList]; show ¬ (s.size < 1 ∨ 64 < s.size); omega
  have e2 : Hid (hPut l s.data.toList = (((P, (s.size : Int)), true, 0), hIns l ((P, (s.size : Int)), 1, s.data.toList))) := by
    show _ = _
    unfold hPut
    rw [if_neg hs3, hf, HID.out]
    simp only [show ¬ 250 ≤ l.length by omega, if_false]
  clear h hf HFF hP hs3 hs1 hs2 hl
  have hX := Blk.new w #[.int .u32 0, .int .i64 0] 37
  have hB0 : Below w.heap.size w (w.alloc (.cells #[.int .u32 0, .int .i64 0] 37)) := (Below.refl _ w).alloc (Nat.le_refl _) _
  have HX : Hid (Blk (w.alloc (.cells #[.int .u32 0, .int .i64 0] 37)) w.heap.size #[.int .u32 0, .int .i64 0] 37) := hX
  have HB0 : Hid (Below w.heap.size w (w.alloc (.cells #[.int .u32 0, .int .i64 0] 37))) := hB0
  clear hX hB0
  go_enter Tryd.func38, Tryd.ntmps38
  go_wp2_with fail
  refine (idOf_any s _ HSM.out).mono ?_
  rintro e w1 ⟨rfl, hb1⟩
  rw [HPS.out]
  have hR1 := HX.out.next hb1
  have hB1 : Below w.heap.size w w1 := HB0.out.trans (hb1.mono (by simp))
  have hz1 : w.heap.size < w1.heap.size := hR1.lt
  have hal := (Below.refl w1.heap.size w1).alloc (Nat.le_refl _) (.cells #[.int .u32 (P : Nat), .int .i64 (s.size : Int)] 37)
  have hI2 := Blk.new w1 #[.int .u32 (P : Nat), .int .i64 (s.size : Int)] 37
  have hPW : PutW w (w1.alloc (.cells #[.int .u32 (P : Nat), .int .i64 (s.size : Int)] 37)) w1.heap.size B v l (P, (s.size : Int)) := ⟨hB1.trans (hal.mono hB1.size), hR1.next hal, hI2, hz1, HR.out.below (hB1.trans (hal.mono hB1.size))⟩
  have HPW : Hid (PutW w (w1.alloc (.cells #[.int .u32 (P : Nat), .int .i64 (s.size : Int)] 37)) w1.heap.size B v l (P, (s.size : Int))) := hPW
  clear hb1 hR1 hB1 hal hI2 hPW
  go_wp2_with fail
  refine (HF.out _ HN.out HPW.out.bin).mono ?_
  rintro e w2 ⟨rfl, hb2⟩
  rw [e1.out]
  have hPW := HPW.out.next hb2
  have hIz : w1.heap.size < w2.heap.size := hPW.id.lt
  generalize w1.heap.size = I at *
  clear HPW hb2 HF
  obtain ⟨pa, c, hv, _⟩ := hPW.bin.at
  subst hv
  have q0 := hPW.bin.blk.cell (i := 0) rfl
  have i0 := hPW.id.cell (i := 0) rfl
  have i1 := hPW.id.cell (i := 1) rfl
  have HPW2 : Hid (PutW w w2 I B (.slice pa l.length c) l (P, (s.size : Int))) := hPW
  clear hPW
  go_wp2_with fail
  go_loopw [9] (fun i wr => ∃ j : Nat, j ≤ l.length ∧ i = .int .i64 j ∧ Below w2.heap.size w2 wr ∧ ∀ k (hk : k < l.length), k < j → lessB l[k].1 (P, (s.size : Int)) = true) (fun i _ => l.length - (intOf i).toNat)
  case atStart => exact ⟨0, Nat.zero_le _, rfl, Below.refl _ _, fun k _ h => by omega⟩
  case round =>
    obtain ⟨j, hj, rfl, hbr, hle⟩ := hrel
    have HLE : Hid (∀ k (hk : k < l.length), k < j → lessB l[k].1 (P, (s.size : Int)) = true) := hle
    have hPW := HPW2.out.next hbr
    have HBR : Hid (Below w2.heap.size w2 wr) := hbr
    clear hle hbr q0 i0 i1
    have q0 := hPW.bin.blk.cell (i := 0) rfl
    have i0 := hPW.id.cell (i := 0) rfl
    have i1 := hPW.id.cell (i := 1) rfl
    have hBI : B ≠ I := by have := HR.out.blk.lt; have := hPW.ne; omega
    have hBR : B ≠ w.heap.size := by have := HR.out.blk.lt; omega
    have HNE : Hid (B ≠ I ∧ B ≠ w.heap.size) := ⟨hBI, hBR⟩
    have HPW3 : Hid (PutW w wr I B (.slice pa l.length c) l (P, (s.size : Int))) := hPW
    clear HPW2 hBI hBR
    -- ROUND
    by_cases hlt : j < l.length
    · have hlt' : (j : Int) < (l.length : Int) := by omega
      obtain ⟨g, cap, hv0, _, _, hcl⟩ := hPW.bin.open (by omega)
      obtain ⟨rfl, rfl⟩ : pa = some ⟨g, 0, none⟩ ∧ c = cap := by simpa using hv0
      have hgl : g < wr.heap.size := hPW.bin.lt (.inr rfl)
      have HCL : Hid (∀ W', Below wr.heap.size wr W' → ∀ i (h : i < l.length), W'.cell? ⟨g, i * 4, none⟩ = some (.int .u32 (l[i].1.1 : Nat)) ∧ W'.cell? ⟨g, i * 4 + 1, none⟩ = some (.int .i64 l[i].1.2) ∧ W'.cell? ⟨g, i * 4 + 2, none⟩ = some (.int .i64 l[i].2.1) ∧ W'.cell? ⟨g, i * 4 + 3, none⟩ = some (.string ⟨l[i].2.2.toArray⟩)) := fun W' hb i hi => by
        obtain ⟨a0, a1, a2, a3⟩ := hcl i hi
        exact ⟨(hb.cell (p := ⟨g, i * 4, none⟩) hgl).trans a0, (hb.cell (p := ⟨g, i * 4 + 1, none⟩) hgl).trans a1, (hb.cell (p := ⟨g, i * 4 + 2, none⟩) hgl).trans a2, (hb.cell (p := ⟨g, i * 4 + 3, none⟩) hgl).trans a3⟩
      obtain ⟨a0, a1, _, _⟩ := hcl j hlt
      have HNX : Hid (lessB l[j].1 (P, (s.size : Int)) = true → ∀ k (hk : k < l.length), k < j + 1 → lessB l[k].1 (P, (s.size : Int)) = true) := fun hy k hk hkj => by
        rcases Nat.lt_or_ge k j with h' | h'
        · exact HLE.out k hk h'
        · obtain rfl : k = j := by omega
          exact hy
      have HPL0 : Hid (lessB l[j].1 (P, (s.size : Int)) = false → hPlace l (P, (s.size : Int)) = j) := fun hy => hPlace_at l _ j hj HLE.out (fun _ => hy)
      obtain ⟨y, hy⟩ : ∃ y, l[j].1 = y := ⟨_, rfl⟩
      have HY : Hid (l[j].1 = y) := hy
      rw [hy] at a0 a1 HNX HPL0
      clear hy hcl hv0
      obtain ⟨yp, yl⟩ := y
      obtain ⟨Lb, hLb⟩ : ∃ Lb, (if (yp : Int) = (P : Int) then decide (yl < (s.size : Int)) else decide ((yp : Int) < (P : Int))) = Lb := ⟨_, rfl⟩
      have HLb : Hid ((if (yp : Int) = (P : Int) then decide (yl < (s.size : Int)) else decide ((yp : Int) < (P : Int))) = Lb) := hLb
      have HLS : Hid (lessB (yp, yl) (P, (s.size : Int)) = Lb) := hLb
      clear hLb hPW
      cases Lb with
      | true =>
        have HNX2 : Hid (∀ k (hk : k < l.length), k < j + 1 → lessB l[k].1 (P, (s.size : Int)) = true) := HNX.out HLS.out
        clear HNX HPL0
        go_wp2_with fail
        go_region_held3 (fun w' => w'.cell? ⟨B, 0, none⟩ = some (.slice (some ⟨g, 0, none⟩) l.length c) ∧ w'.cell? ⟨g, j * 4, none⟩ = some (.int .u32 (yp : Nat)) ∧ w'.cell? ⟨g, j * 4 + 1, none⟩ = some (.int .i64 yl) ∧ w'.cell? ⟨I, 0, none⟩ = some (.int .u32 (P : Nat)) ∧ w'.cell? ⟨I, 1, none⟩ = some (.int .i64 (s.size : Int))) (go_keep) (first
          | (go_at_call 23; refine (isLess_any _ _ _ _ _).mono ?_; rintro e w3 ⟨rfl, hb3⟩; rw [HLb.out]; have hPW3 : PutW w w3 I B (.slice (some ⟨g, 0, none⟩) l.length c) l (P, (s.size : Int)) := HPW3.out.next ((Below.refl _ wr).drew.trans (hb3.mono (Nat.le_refl _))); have HBR3 : Hid (Below w2.heap.size w2 w3) := HBR.out.trans (((Below.refl _ wr).drew.trans (hb3.mono (Nat.le_refl _))).mono HBR.out.size); have z0 := hPW3.bin.blk.cell (i := 0) rfl; have z1 := hPW3.id.cell (i := 0) rfl; have z2 := hPW3.id.cell (i := 1) rfl; obtain ⟨z3, z4, _, _⟩ := HCL.out w3 ((Below.refl _ wr).drew.trans (hb3.mono (Nat.le_refl _))) j hlt; rw [HY.out] at z3 z4))
        go_wp2_with fail
        go_roundw
        case rel => exact ⟨j + 1, by omega, by go_num, HBR3.out, HNX2.out⟩
        case measure => simp [intOf]; omega
      | false =>
        have HPL : Hid (hPlace l (P, (s.size : Int)) = j) := HPL0.out HLS.out
        have HJ : Hid (j ≤ l.length) := hj
        clear HNX HPL0
        go_wp2_with fail
        go_region_held3 (fun w' => w'.cell? ⟨B, 0, none⟩ = some (.slice (some ⟨g, 0, none⟩) l.length c) ∧ w'.cell? ⟨g, j * 4, none⟩ = some (.int .u32 (yp : Nat)) ∧ w'.cell? ⟨g, j * 4 + 1, none⟩ = some (.int .i64 yl) ∧ w'.cell? ⟨I, 0, none⟩ = some (.int .u32 (P : Nat)) ∧ w'.cell? ⟨I, 1, none⟩ = some (.int .i64 (s.size : Int))) (go_keep) (first
          | (go_at_call 23; refine (isLess_any _ _ _ _ _).mono ?_; rintro e w3 ⟨rfl, hb3⟩; rw [HLb.out]; have hPW3 : PutW w w3 I B (.slice (some ⟨g, 0, none⟩) l.length c) l (P, (s.size : Int)) := HPW3.out.next ((Below.refl _ wr).drew.trans (hb3.mono (Nat.le_refl _))); have HBR3 : Hid (Below w2.heap.size w2 w3) := HBR.out.trans (((Below.refl _ wr).drew.trans (hb3.mono (Nat.le_refl _))).mono HBR.out.size); have z0 := hPW3.bin.blk.cell (i := 0) rfl; have z1 := hPW3.id.cell (i := 0) rfl; have z2 := hPW3.id.cell (i := 1) rfl; obtain ⟨z3, z4, _, _⟩ := HCL.out w3 ((Below.refl _ wr).drew.trans (hb3.mono (Nat.le_refl _))) j hlt; rw [HY.out] at z3 z4))
        clear HPW3 HCL HY hgl
        have HPW3 : Hid (PutW w w3 I B (.slice (some ⟨g, 0, none⟩) l.length c) l (P, (s.size : Int))) := hPW3
        clear hPW3
        have hPl := HPW3.out.bin
        have HBl : Hid (B < w3.heap.size) := hPl.blk.lt
        have HIl : Hid (I < w3.heap.size) := HPW3.out.id.lt
        have HFZ : Hid (w3.frozen? ⟨B, 0, none⟩ = false) := hPl.blk.frozen 0
        have HI0 : Hid (w3.cell? ⟨I, 0, none⟩ = some (.int .u32 (P : Nat))) := HPW3.out.id.cell (i := 0) rfl
        have HI1 : Hid (w3.cell? ⟨I, 1, none⟩ = some (.int .i64 (s.size : Int))) := HPW3.out.id.cell (i := 1) rfl
        have HQ0 : Hid (w3.cell? ⟨B, 0, none⟩ = some (.slice (some ⟨g, 0, none⟩) l.length c)) := hPl.blk.cell (i := 0) rfl
        have HINS : Hid ((hIns l ((P, (s.size : Int)), 1, s.data.toList)).length = j + 1 + (l.length - j) ∧ heldCells (hIns l ((P, (s.size : Int)), 1, s.data.toList)) = heldCells (l.take j) ++ heldCells [((P, (s.size : Int)), 1, s.data.toList)] ++ heldCells (l.drop j)) := ins_row l ((P, (s.size : Int)), 1, s.data.toList) j HJ.out HPL.out
        have hcap : l.length ≤ c := by
          obtain ⟨_, ho⟩ := hPl.row
          rcases ho with ⟨hv0, _⟩ | ⟨g', cap', cur, hv0, _, _, hc', _⟩
          · cases hv0
          · obtain ⟨_, rfl⟩ : g = g' ∧ c = cap' := by simpa using hv0
            exact hc'
        obtain ⟨pb, cb, hvb, hcl⟩ := hPl.at
        obtain ⟨rfl, rfl⟩ : some (⟨g, 0, none⟩ : Addr) = pb ∧ c = cb := by simpa using hvb
        obtain ⟨P4, c4, hsl4, hP4⟩ := sl4_from g l.length c j HJ.out hcap
        have hsl5 := sl4_upto g l.length c j HJ.out hcap
        have HLT : Hid ((heldCells (l.take j)).length = j * 4) := by show _ = _; rw [heldCells_length, List.length_take, Nat.min_eq_left HJ.out]
        have HLD : Hid ((heldCells (l.drop j)).length = (l.length - j) * 4) := by show _ = _; rw [heldCells_length, List.length_drop]
        have HC : Hid (∀ W', Below w3.heap.size w3 W' → ∀ i (h : i < l.length), W'.cell? ⟨g, 0 + i * 4, none⟩ = some (.int .u32 (l[i].1.1 : Nat)) ∧ W'.cell? ⟨g, 0 + i * 4 + 1, none⟩ = some (.int .i64 l[i].1.2) ∧ W'.cell? ⟨g, 0 + i * 4 + 2, none⟩ = some (.int .i64 l[i].2.1) ∧ W'.cell? ⟨g, 0 + i * 4 + 3, none⟩ = some (.string ⟨l[i].2.2.toArray⟩)) := fun W' hb i hi => by
          obtain ⟨b', o', hp, ⟨hl', _⟩, a0, a1, a2, a3⟩ := hcl i hi
          cases hp
          exact ⟨(hb.cell (p := ⟨g, 0 + i * 4, none⟩) hl').trans a0, (hb.cell (p := ⟨g, 0 + i * 4 + 1, none⟩) hl').trans a1, (hb.cell (p := ⟨g, 0 + i * 4 + 2, none⟩) hl').trans a2, (hb.cell (p := ⟨g, 0 + i * 4 + 3, none⟩) hl').trans a3⟩
        have HC1 : Hid (∀ W', Below w3.heap.size w3 W' → ∀ j' u, (heldCells (l.take j))[j']? = some u → W'.cell? ((⟨g, 0, none⟩ : Addr).add j') = some u) := fun W' hb => heldCells_cells (fun i hi => by
          have hi' : i < l.length := by rw [List.length_take] at hi; omega
          rw [List.getElem_take]
          exact HC.out W' hb i hi')
        have HC2 : Hid (∀ W', Below w3.heap.size w3 W' → ∀ j' u, (heldCells (l.drop j))[j']? = some u → W'.cell? (P4.add j') = some u) := fun W' hb j' u hj' => by
          have hjl : j' < (heldCells (l.drop j)).length := (List.getElem?_eq_some_iff.1 hj').1
          have hjn : j < l.length := by rw [heldCells_length, List.length_drop] at hjl; omega
          rw [hP4 hjn]
          refine heldCells_cells (l := l.drop j) (fun i hi => ?_) j' u hj'
          have hi' : j + i < l.length := by rw [List.length_drop] at hi; omega
          have := HC.out W' hb (j + i) hi'
          rw [List.getElem_drop]
          rw [show 0 + (j + i) * 4 = j * 4 + i * 4 by omega] at this
          exact this
        have HP4 : Hid (j < l.length → P4 = ⟨g, j * 4, none⟩) := hP4
        clear hcl hvb hPl hP4 hcap HC
        go_wp2_with (first
          | (at_builtin; refine wpList_append_own _ rfl (.tmp 79) (.tmp 85) 63 rfl w3.heap.size 77 ti (heldV ((0, 0), 0, [])) 4 40 Tryd.underlying63 hi hz0 hz1' hz2 rfl (by decide) (.slice none 0 0) 0 [] rfl (World.ownsRow_nil _ _ _ _) ⟨g, 0, none⟩ j c (heldCells (l.take j)) rfl HLT.out (HC1.out w3 (Below.refl _ _)) (heldCells_one _) (by have := HL.out; have := HJ.out; unfold maxLen; omega) (by have := HL.out; have := HJ.out; omega) (Nat.le_refl _) ?_; intro v3 w6 ho3 hg3 _; rw [Nat.zero_add, List.nil_append] at ho3; have hB3 : Below w3.heap.size w3 w6 := (Below.refl _ w3).grown hg3 (Nat.le_refl _) (fun k hk => by cases hk); have HO3 : Hid (w6.ownsRow w3.heap.size 77 4 v3 j (heldCells (l.take j))) := ho3; have HB3 : Hid (Below w3.heap.size w3 w6) := hB3; clear hg3 ho3; have q3 := (hB3.cell (p := ⟨B, 0, none⟩) HBl.out).trans HQ0.out; have j0 := (hB3.cell (p := ⟨I, 0, none⟩) HIl.out).trans HI0.out; have j1 := (hB3.cell (p := ⟨I, 1, none⟩) HIl.out).trans HI1.out; clear hB3)
          | (at_builtin; refine wpList_append_own _ rfl (.tmp 87) (.tmp 91) 63 rfl w3.heap.size 77 ti (heldV ((0, 0), 0, [])) 4 40 Tryd.underlying63 hi hz0 hz1' hz2 rfl (by decide) v3 j (heldCells (l.take j)) rfl (HO3.out.alloc _) ⟨w6.heap.size, 0, none⟩ 1 1 (heldCells [((P, (s.size : Int)), 1, s.data.toList)]) rfl rfl (four_new w6 ((P, (s.size : Int)), 1, s.data.toList) _ _ rfl) (heldCells_one _) (by have := HL.out; have := HJ.out; unfold maxLen; omega) (by have := HL.out; have := HJ.out; omega) (by have := HB3.out.size; simp; omega) ?_; intro v4 w7 ho4 hg4 _; have hB4 : Below w3.heap.size w3 w7 := (HB3.out.alloc HB3.out.size _).grown hg4 (by have := HB3.out.size; simp; omega) (fun k hk => (HO3.out.lt k hk).1); have HO4 : Hid (w7.ownsRow w3.heap.size 77 4 v4 (j + 1) (heldCells (l.take j) ++ heldCells [((P, (s.size : Int)), 1, s.data.toList)])) := ho4; have HB4 : Hid (Below w3.heap.size w3 w7) := hB4; clear hg4 ho4; have q4 := (hB4.cell (p := ⟨B, 0, none⟩) HBl.out).trans HQ0.out; clear hB4)
          | (at_builtin; refine wpList_append_own _ rfl (.tmp 94) (.tmp 100) 63 rfl w3.heap.size 77 ti (heldV ((0, 0), 0, [])) 4 40 Tryd.underlying63 hi hz0 hz1' hz2 rfl (by decide) v4 (j + 1) _ rfl HO4.out P4 (l.length - j) c4 (heldCells (l.drop j)) rfl HLD.out (HC2.out w7 HB4.out) (heldCells_one _) (by have := HL.out; have := HJ.out; unfold maxLen; omega) (by have := HL.out; have := HJ.out; omega) HB4.out.size ?_; intro v5 w8 ho5 hg5 _; have hB5 : Below w3.heap.size w3 w8 := HB4.out.grown hg5 HB4.out.size (fun k hk => (HO4.out.lt k hk).1); have HO5 : Hid (w8.ownsRow w3.heap.size 77 4 v5 (hIns l ((P, (s.size : Int)), 1, s.data.toList)).length (heldCells (hIns l ((P, (s.size : Int)), 1, s.data.toList)))) := ins_own HINS.out ho5; have HB5 : Hid (Below w3.heap.size w3 w8) := hB5; clear hg5 ho5; obtain ⟨p5, c5, hu5, _⟩ := HeldsAt.of_row HO5.out; subst hu5; have q5 := (hB5.cell (p := ⟨B, 0, none⟩) HBl.out).trans HQ0.out; have f5 := (hB5.frozen (p := ⟨B, 0, none⟩) HBl.out).trans HFZ.out; obtain ⟨m0, m1, y0, y1, z0, z1⟩ := putNew_cells HPW3.out HB5.out HNE.out (.slice p5 (hIns l ((P, (s.size : Int)), 1, s.data.toList)).length c5); clear hB5))
        refine bodyPost_ret (v := .tuple #[idV (P : Nat) (s.size : Int), .bool true, .int .i64 0]) (by simp [results, Tryd.results38, go_sem, y0, y1]) rfl ?_
        rw [e2.out]
        exact putNew_post HR.out HPW3.out HB5.out HO5.out
    · have hge : ¬ ((j : Int) < (l.length : Int)) := by omega
      have HPL : Hid (hPlace l (P, (s.size : Int)) = j) := hPlace_at l _ _ hj HLE.out (fun h => (hlt h).elim)
      have HJ : Hid (j ≤ l.length) := hj
      clear hPW
      have hPl := HPW3.out.bin
      have HBl : Hid (B < wr.heap.size) := hPl.blk.lt
      have HIl : Hid (I < wr.heap.size) := HPW3.out.id.lt
      have HFZ : Hid (wr.frozen? ⟨B, 0, none⟩ = false) := hPl.blk.frozen 0
      have HI0 : Hid (wr.cell? ⟨I, 0, none⟩ = some (.int .u32 (P : Nat))) := HPW3.out.id.cell (i := 0) rfl
      have HI1 : Hid (wr.cell? ⟨I, 1, none⟩ = some (.int .i64 (s.size : Int))) := HPW3.out.id.cell (i := 1) rfl
      have HQ0 : Hid (wr.cell? ⟨B, 0, none⟩ = some (.slice pa l.length c)) := hPl.blk.cell (i := 0) rfl
      have HINS : Hid ((hIns l ((P, (s.size : Int)), 1, s.data.toList)).length = j + 1 + (l.length - j) ∧ heldCells (hIns l ((P, (s.size : Int)), 1, s.data.toList)) = heldCells (l.take j) ++ heldCells [((P, (s.size : Int)), 1, s.data.toList)] ++ heldCells (l.drop j)) := ins_row l ((P, (s.size : Int)), 1, s.data.toList) j HJ.out HPL.out
      obtain ⟨_, ho⟩ := hPl.row
      rcases ho with ⟨hv0, hn0⟩ | ⟨g, cap, cur, hv0, _, _, hcap, _⟩
      · obtain rfl : l = [] := List.eq_nil_of_length_eq_zero hn0
        obtain ⟨rfl, rfl⟩ : pa = none ∧ c = 0 := by simpa using hv0
        obtain rfl : j = 0 := Nat.le_zero.1 HJ.out
        clear hn0 hv0 hPl
        go_wp2_with ((at_builtin; refine wpList_append_own _ rfl (.tmp 87) (.tmp 91) 63 rfl wr.heap.size 77 ti (heldV ((0, 0), 0, [])) 4 40 Tryd.underlying63 hi hz0 hz1' hz2 rfl (by decide) (.slice none 0 0) 0 [] rfl (World.ownsRow_nil _ _ _ _) ⟨wr.heap.size, 0, none⟩ 1 1 (heldCells [((P, (s.size : Int)), 1, s.data.toList)]) rfl rfl (four_new wr ((P, (s.size : Int)), 1, s.data.toList) _ _ rfl) (heldCells_one _) (by unfold maxLen; omega) (by omega) (by simp) ?_; intro v4 w4 ho4 hg4 _; have hB4 : Below wr.heap.size wr w4 := ((Below.refl _ wr).alloc (Nat.le_refl _) _).grown hg4 (by simp) (fun k hk => by cases hk); have HO4 : Hid (w4.ownsRow wr.heap.size 77 4 v4 (hIns [] ((P, (s.size : Int)), 1, s.data.toList)).length (heldCells (hIns [] ((P, (s.size : Int)), 1, s.data.toList)))) := ins_own (j := 0) HINS.out (by simpa [heldCells] using ho4); have HB4 : Hid (Below wr.heap.size wr w4) := hB4; clear hg4 ho4; obtain ⟨g5, c5, hu5, hc5, hc6⟩ := row_some HO4.out (by rw [HINS.out.1]; omega); rw [show (hIns [] ((P, (s.size : Int)), 1, s.data.toList)).length = 1 from HINS.out.1] at hu5 hc5; subst hu5; have q4 := (hB4.cell (p := ⟨B, 0, none⟩) HBl.out).trans HQ0.out; have f4 := (hB4.frozen (p := ⟨B, 0, none⟩) HBl.out).trans HFZ.out; obtain ⟨m0, m1, y0, y1, z0, z1⟩ := putNew_cells HPW3.out HB4.out HNE.out (.slice (some ⟨g5, 0, none⟩) 1 c5); clear hB4))
        refine bodyPost_ret (v := .tuple #[idV (P : Nat) (s.size : Int), .bool true, .int .i64 0]) (by simp [results, Tryd.results38, go_sem, y0, y1]) rfl ?_
        rw [e2.out]
        exact putNew_post HR.out HPW3.out HB4.out HO4.out
      · obtain ⟨rfl, rfl⟩ : pa = some ⟨g, 0, none⟩ ∧ c = cap := by simpa using hv0
        obtain ⟨pb, cb, hvb, hcl⟩ := hPl.at
        obtain ⟨rfl, rfl⟩ : some (⟨g, 0, none⟩ : Addr) = pb ∧ c = cb := by simpa using hvb
        obtain ⟨P4, c4, hsl4, hP4⟩ := sl4_from g l.length c j HJ.out hcap
        have hsl5 := sl4_upto g l.length c j HJ.out hcap
        have HLT : Hid ((heldCells (l.take j)).length = j * 4) := by show _ = _; rw [heldCells_length, List.length_take, Nat.min_eq_left HJ.out]
        have HLD : Hid ((heldCells (l.drop j)).length = (l.length - j) * 4) := by show _ = _; rw [heldCells_length, List.length_drop]
        have HC : Hid (∀ W', Below wr.heap.size wr W' → ∀ i (h : i < l.length), W'.cell? ⟨g, 0 + i * 4, none⟩ = some (.int .u32 (l[i].1.1 : Nat)) ∧ W'.cell? ⟨g, 0 + i * 4 + 1, none⟩ = some (.int .i64 l[i].1.2) ∧ W'.cell? ⟨g, 0 + i * 4 + 2, none⟩ = some (.int .i64 l[i].2.1) ∧ W'.cell? ⟨g, 0 + i * 4 + 3, none⟩ = some (.string ⟨l[i].2.2.toArray⟩)) := fun W' hb i hi => by
          obtain ⟨b', o', hp, ⟨hl', _⟩, a0, a1, a2, a3⟩ := hcl i hi
          cases hp
          exact ⟨(hb.cell (p := ⟨g, 0 + i * 4, none⟩) hl').trans a0, (hb.cell (p := ⟨g, 0 + i * 4 + 1, none⟩) hl').trans a1, (hb.cell (p := ⟨g, 0 + i * 4 + 2, none⟩) hl').trans a2, (hb.cell (p := ⟨g, 0 + i * 4 + 3, none⟩) hl').trans a3⟩
        have HC1 : Hid (∀ W', Below wr.heap.size wr W' → ∀ j' u, (heldCells (l.take j))[j']? = some u → W'.cell? ((⟨g, 0, none⟩ : Addr).add j') = some u) := fun W' hb => heldCells_cells (fun i hi => by
          have hi' : i < l.length := by rw [List.length_take] at hi; omega
          rw [List.getElem_take]
          exact HC.out W' hb i hi')
        have HC2 : Hid (∀ W', Below wr.heap.size wr W' → ∀ j' u, (heldCells (l.drop j))[j']? = some u → W'.cell? (P4.add j') = some u) := fun W' hb j' u hj' => by
          have hjl : j' < (heldCells (l.drop j)).length := (List.getElem?_eq_some_iff.1 hj').1
          have hjn : j < l.length := by rw [heldCells_length, List.length_drop] at hjl; omega
          rw [hP4 hjn]
          refine heldCells_cells (l := l.drop j) (fun i hi => ?_) j' u hj'
          have hi' : j + i < l.length := by rw [List.length_drop] at hi; omega
          have := HC.out W' hb (j + i) hi'
          rw [List.getElem_drop]
          rw [show 0 + (j + i) * 4 = j * 4 + i * 4 by omega] at this
          exact this
        have HP4 : Hid (j < l.length → P4 = ⟨g, j * 4, none⟩) := hP4
        clear hcl hvb hv0 hPl hP4 hcap HC
        go_wp2_with (first
          | (at_builtin; refine wpList_append_own _ rfl (.tmp 79) (.tmp 85) 63 rfl wr.heap.size 77 ti (heldV ((0, 0), 0, [])) 4 40 Tryd.underlying63 hi hz0 hz1' hz2 rfl (by decide) (.slice none 0 0) 0 [] rfl (World.ownsRow_nil _ _ _ _) ⟨g, 0, none⟩ j c (heldCells (l.take j)) rfl HLT.out (HC1.out wr (Below.refl _ _)) (heldCells_one _) (by have := HL.out; have := HJ.out; unfold maxLen; omega) (by have := HL.out; have := HJ.out; omega) (Nat.le_refl _) ?_; intro v3 w3 ho3 hg3 _; rw [Nat.zero_add, List.nil_append] at ho3; have hB3 : Below wr.heap.size wr w3 := (Below.refl _ wr).grown hg3 (Nat.le_refl _) (fun k hk => by cases hk); have HO3 : Hid (w3.ownsRow wr.heap.size 77 4 v3 j (heldCells (l.take j))) := ho3; have HB3 : Hid (Below wr.heap.size wr w3) := hB3; clear hg3 ho3; have q3 := (hB3.cell (p := ⟨B, 0, none⟩) HBl.out).trans HQ0.out; have j0 := (hB3.cell (p := ⟨I, 0, none⟩) HIl.out).trans HI0.out; have j1 := (hB3.cell (p := ⟨I, 1, none⟩) HIl.out).trans HI1.out; clear hB3)
          | (at_builtin; refine wpList_append_own _ rfl (.tmp 87) (.tmp 91) 63 rfl wr.heap.size 77 ti (heldV ((0, 0), 0, [])) 4 40 Tryd.underlying63 hi hz0 hz1' hz2 rfl (by decide) v3 j (heldCells (l.take j)) rfl (HO3.out.alloc _) ⟨w3.heap.size, 0, none⟩ 1 1 (heldCells [((P, (s.size : Int)), 1, s.data.toList)]) rfl rfl (four_new w3 ((P, (s.size : Int)), 1, s.data.toList) _ _ rfl) (heldCells_one _) (by have := HL.out; have := HJ.out; unfold maxLen; omega) (by have := HL.out; have := HJ.out; omega) (by have := HB3.out.size; simp; omega) ?_; intro v4 w4 ho4 hg4 _; have hB4 : Below wr.heap.size wr w4 := (HB3.out.alloc HB3.out.size _).grown hg4 (by have := HB3.out.size; simp; omega) (fun k hk => (HO3.out.lt k hk).1); have HO4 : Hid (w4.ownsRow wr.heap.size 77 4 v4 (j + 1) (heldCells (l.take j) ++ heldCells [((P, (s.size : Int)), 1, s.data.toList)])) := ho4; have HB4 : Hid (Below wr.heap.size wr w4) := hB4; clear hg4 ho4; have q4 := (hB4.cell (p := ⟨B, 0, none⟩) HBl.out).trans HQ0.out; clear hB4)
          | (at_builtin; refine wpList_append_own _ rfl (.tmp 94) (.tmp 100) 63 rfl wr.heap.size 77 ti (heldV ((0, 0), 0, [])) 4 40 Tryd.underlying63 hi hz0 hz1' hz2 rfl (by decide) v4 (j + 1) _ rfl HO4.out P4 (l.length - j) c4 (heldCells (l.drop j)) rfl HLD.out (HC2.out w4 HB4.out) (heldCells_one _) (by have := HL.out; have := HJ.out; unfold maxLen; omega) (by have := HL.out; have := HJ.out; omega) HB4.out.size ?_; intro v5 w5 ho5 hg5 _; have hB5 : Below wr.heap.size wr w5 := HB4.out.grown hg5 HB4.out.size (fun k hk => (HO4.out.lt k hk).1); have HO5 : Hid (w5.ownsRow wr.heap.size 77 4 v5 (hIns l ((P, (s.size : Int)), 1, s.data.toList)).length (heldCells (hIns l ((P, (s.size : Int)), 1, s.data.toList)))) := ins_own HINS.out ho5; have HB5 : Hid (Below wr.heap.size wr w5) := hB5; clear hg5 ho5; obtain ⟨p5, c5, hu5, _⟩ := HeldsAt.of_row HO5.out; subst hu5; have q5 := (hB5.cell (p := ⟨B, 0, none⟩) HBl.out).trans HQ0.out; have f5 := (hB5.frozen (p := ⟨B, 0, none⟩) HBl.out).trans HFZ.out; obtain ⟨m0, m1, y0, y1, z0, z1⟩ := putNew_cells HPW3.out HB5.out HNE.out (.slice p5 (hIns l ((P, (s.size : Int)), 1, s.data.toList)).length c5); clear hB5))
        refine bodyPost_ret (v := .tuple #[idV (P : Nat) (s.size : Int), .bool true, .int .i64 0]) (by simp [results, Tryd.results38, go_sem, y0, y1]) rfl ?_
        rw [e2.out]
        exact putNew_post HR.out HPW3.out HB5.out HO5.out
end Go.Proofs.YtcbcjefefmbccaaDoor
namespace Go.Proofs.YtcbcjefefmbccaaDoor
open Go.RowKit Go.Maps

theorem less_is (x y : Nat × Int) : (if ((x.1 : Nat) : Int) = ((y.1 : Nat) : Int) then decide (x.2 < y.2) else decide (((x.1 : Nat) : Int) < ((y.1 : Nat) : Int))) = lessB x y := by
  rw [Bool.eq_iff_iff, lessB_iff]
  split <;> simp <;> omega

set_option maxRecDepth 100000 in
set_option maxHeartbeats 4000000 in
theorem all1_any (Bs blk off n c i j : Nat) (x y : Nat × Int) (W : World) (hs : W.cell? ⟨Bs, 0, none⟩ = some (.slice (some ⟨blk, off, none⟩) n c)) (hi : i < n) (hj : j < n)
    (i0 : W.cell? ⟨blk, off + i * 4, none⟩ = some (.int .u32 (x.1 : Nat))) (i1 : W.cell? ⟨blk, off + i * 4 + 1, none⟩ = some (.int .i64 x.2)) (j0 : W.cell? ⟨blk, off + j * 4, none⟩ = some (.int .u32 (y.1 : Nat))) (j1 : W.cell? ⟨blk, off + j * 4 + 1, none⟩ = some (.int .i64 y.2)) :
    Calls Tryd.prog 69 #[.int .i64 i, .int .i64 j, .pointer (some ⟨Bs, 0, none⟩)] W fun e w' => e = .returned (.bool (lessB x y)) ∧ Below W.heap.size W w' := by
  have hi' : (i : Int) < (n : Int) := by omega
  have hj' : (j : Int) < (n : Int) := by omega
  have HL := less_is x y
  have HLb : Hid _ := HL
  obtain ⟨r, hr⟩ : ∃ r, lessB x y = r := ⟨_, rfl⟩
  rw [hr] at HLb ⊢
  clear HL hr
  obtain ⟨xp, xl⟩ := x
  obtain ⟨yp, yl⟩ := y
  simp only at i0 i1 j0 j1 HLb
  have HC : Hid (∀ w', Below W.heap.size W w' → w'.cell? ⟨Bs, 0, none⟩ = some (.slice (some ⟨blk, off, none⟩) n c) ∧ w'.cell? ⟨blk, off + i * 4, none⟩ = some (.int .u32 (xp : Nat)) ∧ w'.cell? ⟨blk, off + i * 4 + 1, none⟩ = some (.int .i64 xl) ∧ w'.cell? ⟨blk, off + j * 4, none⟩ = some (.int .u32 (yp : Nat)) ∧ w'.cell? ⟨blk, off + j * 4 + 1, none⟩ = some (.int .i64 yl)) := fun w' hb => ⟨(hb.cell (p := ⟨Bs, 0, none⟩) (lt_of_cell hs)).trans hs, (hb.cell (p := ⟨blk, off + i * 4, none⟩) (lt_of_cell i0)).trans i0, (hb.cell (p := ⟨blk, off + i * 4 + 1, none⟩) (lt_of_cell i0)).trans i1, (hb.cell (p := ⟨blk, off + j * 4, none⟩) (lt_of_cell i0)).trans j0, (hb.cell (p := ⟨blk, off + j * 4 + 1, none⟩) (lt_of_cell i0)).trans j1⟩
  go_enter Tryd.func69, Tryd.ntmps69
  go_wp2_with fail
  go_region_held3 (fun w' => w'.cell? ⟨Bs, 0, none⟩ = some (.slice (some ⟨blk, off, none⟩) n c) ∧ w'.cell? ⟨blk, off + i * 4, none⟩ = some (.int .u32 (xp : Nat)) ∧ w'.cell? ⟨blk, off + i * 4 + 1, none⟩ = some (.int .i64 xl) ∧ w'.cell? ⟨blk, off + j * 4, none⟩ = some (.int .u32 (yp : Nat)) ∧ w'.cell? ⟨blk, off + j * 4 + 1, none⟩ = some (.int .i64 yl)) (go_keep) (first
    | (go_at_call 25; refine (less_any _ _ _ _ _).mono ?_; rintro e w2 ⟨rfl, hb2⟩; rw [HLb.out]; have hB2 : Below W.heap.size W w2 := (Below.refl _ W).drew.trans hb2; have HB2 : Hid (Below W.heap.size W w2) := hB2; obtain ⟨z0, z1, z2, z3, z4⟩ := HC.out w2 hB2; clear hb2 hB2))
  go_wp2_with fail
  go_ret
  exact ⟨rfl, HB2.out⟩
end Go.Proofs.YtcbcjefefmbccaaDoor
