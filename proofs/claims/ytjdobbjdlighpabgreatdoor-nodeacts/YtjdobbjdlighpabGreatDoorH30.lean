/-
  Own text. The document's node by contracts: SetBin.
-/
import Derived.Test.YtjdobbjdlighpabGreatDoorH29
namespace Go.Proofs.YtjdobbjdlighpabGreatDoor
open Go.RowKit Go.Maps

theorem slB_from (g n c i : Nat) (hi : i ≤ n) (hc : n ≤ c) : ∃ P4 c4, (∀ w : World, (Instr.slice 32 (.slice (some ⟨g, 0, none⟩) n c) (some (.int .i64 (i : Int))) none none).run Tryz.prog w = .ok (.slice (some P4) (n - i) c4) w) ∧ (i < n → P4 = ⟨g, i * 3, none⟩) := by
  have hj1 : (0 : Int) ≤ (i : Int) := by omega
  have hj2 : (i : Int) ≤ (n : Int) := by omega
  by_cases hcap : c = i
  · refine ⟨⟨g, 0, none⟩, c - i, fun w => ?_, fun h => by omega⟩
    go_simp
  · by_cases h0 : i = 0
    · subst h0
      refine ⟨⟨g, 0, none⟩, c - 0, fun w => ?_, fun h => by simp⟩
      go_simp
    · refine ⟨⟨g, i * 3, none⟩, c - i, fun w => ?_, fun h => rfl⟩
      go_simp
theorem slB_upto (g n c i : Nat) (hi : i ≤ n) (hc : n ≤ c) : ∀ w : World, (Instr.slice 32 (.slice (some ⟨g, 0, none⟩) n c) none (some (.int .i64 (i : Int))) none).run Tryz.prog w = .ok (.slice (some ⟨g, 0, none⟩) i c) w := by
  have hj1 : (0 : Int) ≤ (i : Int) := by omega
  have hj3 : (i : Int) ≤ (c : Int) := by omega
  intro w
  go_simp
def binsApart (x y : MB) : Prop := ∀ k, RBin.Of x.2.1 x.2.2 k → ¬ RBin.Of y.2.1 y.2.2 k
theorem binsApart.symm {x y : MB} (h : binsApart x y) : binsApart y x := fun k h1 h2 => h k h2 h1
/- The row of bins is another one. -/
theorem MSt.setB {w W : World} {M : Nat} {vf vb vb' : Value} {ps : List MF} {bs bs' : List MB} (h : MSt w M vf vb ps bs) (hb : Below w.heap.size w W) (hr : W.ownsRow w.heap.size 92 3 vb' bs'.length (mbCells bs')) (hi : ∀ q ∈ bs', RBin w q.2.1 q.2.2 q.1.2) (hbb : bs'.Pairwise binsApart) (hio : ∀ k, mBins bs' k → k ≠ M ∧ vf.ownBlock ≠ some k ∧ ¬ mIds ps k) :
    MSt (W.setCell ⟨M, 1, none⟩ vb') M vf vb' ps bs' ∧ Off (fun k => k = M) w (W.setCell ⟨M, 1, none⟩ vb') ∧ (∀ k, vb'.ownBlock = some k → w.heap.size ≤ k) := by
  have hM := h.blk.lt
  have hnew : ∀ k, vb'.ownBlock = some k → w.heap.size ≤ k := fun k hk => (hr.lt k hk).1
  have ho : Off (fun k => k = M) w (W.setCell ⟨M, 1, none⟩ vb') := Off.setCell (F := fun k => k = M) (p := ⟨M, 1, none⟩) (Off.of_below hb) (.inl rfl) _
  have ho2 : Off (fun k => k = M) W (W.setCell ⟨M, 1, none⟩ vb') := Off.setCell (F := fun k => k = M) (p := ⟨M, 1, none⟩) (Off.refl _ W) (.inl rfl) _
  have hl : ∀ k, mFoot M vf vb ps bs k → k < w.heap.size := h.lt
  refine ⟨⟨(h.blk.below hb hM).set 1 vb', ho.row h.frow (fun k hk e => h.mf (e ▸ hk)), ownsRow_low (ho2.row hr (fun k hk e => by have := hnew k hk; omega)) (Nat.zero_le _), fun q hq => (h.ids q hq).off ho (fun hne k hk e => (h.io k ⟨q, hq, hne, hk⟩).1 e), fun x hx => (hi x hx).off ho (fun k hk e => (hio k ⟨x, hx, hk⟩).1 e), h.mf, fun e => by have := hnew M e; omega, fun k hk e => ?_, fun k hk => ?_, hbb, fun k hk => ?_⟩, ho, hnew⟩
  · have := hnew k e
    have := hl k (.inr (.inl hk))
    omega
  · obtain ⟨h1, h2, h3⟩ := hio k hk
    obtain ⟨q, hq, hk2⟩ := hk
    exact ⟨h1, h2, fun e => by have := hnew k e; have := (hi q hq).lt hk2; omega⟩
  · obtain ⟨h1, h2, _, _⟩ := h.io k hk
    exact ⟨h1, h2, fun e => by have := hnew k e; have := hl k (.inr (.inr (.inr (.inr hk)))); omega, fun e => (hio k e).2.2 hk⟩
def mInsB (bs : List MB) (j : Nat) (q : MB) : List MB := bs.take j ++ q :: bs.drop j
theorem mInsB_length {bs : List MB} {j : Nat} {q : MB} (hj : j ≤ bs.length) : (mInsB bs j q).length = j + 1 + (bs.length - j) := by
  unfold mInsB
  simp
  omega
theorem mInsB_cells (bs : List MB) (j : Nat) (q : MB) : mbCells (mInsB bs j q) = mbCells (bs.take j) ++ mbCells [q] ++ mbCells (bs.drop j) := by
  unfold mInsB
  rw [mbCells_append, List.append_assoc, show q :: bs.drop j = [q] ++ bs.drop j from rfl, mbCells_append [q]]
theorem mInsB_bs (bs : List MB) (q : MB) (j : Nat) (hj : kPlace lessB (mBs bs) q.1.1 = j) : mBs (mInsB bs j q) = kIns lessB (mBs bs) q.1 := by
  unfold mInsB kIns
  rw [hj]
  simp [mBs, List.map_take, List.map_drop]
theorem mInsB_perm (bs : List MB) (j : Nat) (q : MB) : (mInsB bs j q).Perm (q :: bs) := by
  unfold mInsB
  refine List.perm_middle.trans ?_
  rw [List.take_append_drop]
theorem apart_cons {bs : List MB} {q : MB} (h : bs.Pairwise binsApart) (hq : ∀ k, RBin.Of q.2.1 q.2.2 k → ¬ mBins bs k) : (q :: bs).Pairwise binsApart :=
  List.pairwise_cons.2 ⟨fun x hx k h1 h2 => hq k h1 ⟨x, hx, h2⟩, h⟩
theorem mInsB_apart {bs : List MB} {q : MB} (h : bs.Pairwise binsApart) (hq : ∀ k, RBin.Of q.2.1 q.2.2 k → ¬ mBins bs k) (j : Nat) : (mInsB bs j q).Pairwise binsApart :=
  ((mInsB_perm bs j q).pairwise_iff (fun {_ _} e => e.symm)).2 (apart_cons h hq)
theorem set_apart {q : MB} : ∀ {bs : List MB} (k : Nat), bs.Pairwise binsApart → (∀ k, RBin.Of q.2.1 q.2.2 k → ¬ mBins bs k) → (bs.set k q).Pairwise binsApart
  | [], _, _, _ => List.Pairwise.nil
  | y :: r, 0, h, hq => (apart_cons (List.pairwise_cons.1 h).2 (fun k h1 ⟨x, hx, h2⟩ => hq k h1 ⟨x, List.mem_cons_of_mem _ hx, h2⟩))
  | y :: r, k + 1, h, hq => by
    obtain ⟨h1, h2⟩ := List.pairwise_cons.1 h
    refine List.pairwise_cons.2 ⟨fun z hz => ?_, set_apart k h2 (fun k h1 ⟨x, hx, h2⟩ => hq k h1 ⟨x, List.mem_cons_of_mem _ hx, h2⟩)⟩
    rcases List.mem_or_eq_of_mem_set hz with hz | rfl
    · exact h1 z hz
    · exact fun k h3 h4 => hq k h4 ⟨y, List.mem_cons_self .., h3⟩
theorem mbCells_set : ∀ (bs : List MB) (k : Nat) (hk : k < bs.length) (l : List Hd) (B : Nat) (v : Value), (mbCells bs).set (k * 3 + 2) (.pointer (some ⟨B, 0, none⟩)) = mbCells (bs.set k ((bs[k].1.1, l), B, v))
  | [], _, h, _, _, _ => by simp at h
  | x :: r, 0, _, l, B, v => rfl
  | x :: r, k + 1, h, l, B, v => by
    have := mbCells_set r k (by simpa using h) l B v
    rw [List.set_cons_succ, mbCells, mbCells, show (k + 1) * 3 + 2 = (k * 3 + 2) + 1 + 1 + 1 by omega]
    simp only [List.set_cons_succ, List.getElem_cons_succ]
    rw [this]
/- One bin in place of another. -/
theorem MSt.setAt {w : World} {M g cap : Nat} {vf : Value} {ps : List MF} {bs : List MB} (h : MSt w M vf (.slice (some ⟨g, 0, none⟩) bs.length cap) ps bs) {k : Nat} (hk : k < bs.length) {l : List Hd} {B : Nat} {v : Value} (hb : RBin w B v l) (hsep : ∀ k, RBin.Of B v k → k ≠ M ∧ vf.ownBlock ≠ some k ∧ k ≠ g ∧ ¬ mBins bs k ∧ ¬ mIds ps k) :
    MSt (w.setCell ⟨g, k * 3 + 2, none⟩ (.pointer (some ⟨B, 0, none⟩))) M vf (.slice (some ⟨g, 0, none⟩) bs.length cap) ps (bs.set k ((bs[k].1.1, l), B, v)) ∧ Off (fun k => k = g) w (w.setCell ⟨g, k * 3 + 2, none⟩ (.pointer (some ⟨B, 0, none⟩))) := by
  have ho : Off (fun k => k = g) w (w.setCell ⟨g, k * 3 + 2, none⟩ (.pointer (some ⟨B, 0, none⟩))) := Off.setCell (F := fun k => k = g) (p := ⟨g, k * 3 + 2, none⟩) (Off.refl _ w) (.inl rfl) _
  have hgM : g ≠ M := fun e => h.mb (by rw [e]; rfl)
  have hmem : ∀ y ∈ bs.set k ((bs[k].1.1, l), B, v), y ∈ bs ∨ y = ((bs[k].1.1, l), B, v) := fun y hy => List.mem_or_eq_of_mem_set hy
  have hbin : ∀ j, mBins (bs.set k ((bs[k].1.1, l), B, v)) j → mBins bs j ∨ RBin.Of B v j := fun j ⟨y, hy, hj⟩ => by
    rcases hmem y hy with hy | rfl
    · exact .inl ⟨y, hy, hj⟩
    · exact .inr hj
  refine ⟨⟨ho.blk h.blk (fun e => hgM e.symm), ho.row h.frow (fun j hj e => h.fb j hj (by rw [e]; rfl)), ?_, fun q hq => (h.ids q hq).off ho (fun hne j hj e => (h.io j ⟨q, hq, hne, hj⟩).2.2.1 (by rw [e]; rfl)), fun y hy => ?_, h.mf, h.mb, h.fb, fun j hj => ?_, set_apart k h.bb (fun j hj => (hsep j hj).2.2.2.1), fun j hj => ?_⟩, ho⟩
  · obtain ⟨hl, hr⟩ := h.brow
    rcases hr with ⟨he, h0⟩ | ⟨g', cap', cur, he, hg, hb2, h1, h2, h3, h4⟩
    · omega
    · obtain ⟨e1, e2⟩ : g' = g ∧ cap' = cap := by
        simp at he
        exact ⟨he.1.symm, he.2.symm⟩
      subst e1 e2
      refine ⟨by rw [mbCells_length], .inr ⟨g', cap', cur.setIfInBounds (k * 3 + 2) (.pointer (some ⟨B, 0, none⟩)), by rw [List.length_set], hg, ?_, by rw [List.length_set]; exact h1, h2, by rw [Array.size_setIfInBounds]; exact h3, ?_⟩⟩
      · exact Blk.set (W := w) (B := g') (cs := cur) hb2 (k * 3 + 2) _
      · rw [Array.toList_setIfInBounds, List.length_set, List.take_set, h4, mbCells_set bs k hk l B v]
  · rcases hmem y hy with hy | rfl
    · exact (h.bins y hy).off ho (fun j hj e => (h.bm j ⟨y, hy, hj⟩).2.2 (by rw [e]; rfl))
    · exact hb.off ho (fun j hj e => (hsep j hj).2.2.1 e)
  · rcases hbin j hj with hj | hj
    · exact h.bm j hj
    · obtain ⟨h1, h2, h3, _⟩ := hsep j hj
      exact ⟨h1, h2, fun e => h3 (by have : g = j := by simpa [Value.ownBlock] using e
                                     exact this.symm)⟩
  · obtain ⟨h1, h2, h3, h4⟩ := h.io j hj
    exact ⟨h1, h2, h3, fun e => (hbin j e).elim h4 (fun e2 => (hsep j e2).2.2.2.2 hj)⟩
def SetPost (w : World) (M : Nat) (vf vb : Value) (ps : List MF) (bs : List MB) (x : Nat × Int) (l : List Hd) (B : Nat) (v : Value) (e : Ending) (w' : World) : Prop :=
  e = .returned (.tuple #[]) ∧ ∃ vb' bs', mBs bs' = kSet (mBs bs) x l ∧ MSt w' M vf vb' ps bs' ∧ (∀ k, vb'.ownBlock = some k → vb.ownBlock = some k ∨ w.heap.size ≤ k) ∧ (∀ k, mBins bs' k → mBins bs k ∨ RBin.Of B v k) ∧ Off (fun k => k = M ∨ vb.ownBlock = some k) w w'
set_option maxRecDepth 100000 in
set_option maxHeartbeats 8000000 in
theorem mSet_any (M : Nat) (vf vb : Value) (ps : List MF) (bs : List MB) (x : Nat × Int) (l : List Hd) (B : Nat) (v : Value) (w : World) (hn : bs.length ≤ 1000) (h : MSt w M vf vb ps bs) (hb : RBin w B v l) (hsep : ∀ k, RBin.Of B v k → k ≠ M ∧ vf.ownBlock ≠ some k ∧ vb.ownBlock ≠ some k ∧ ¬ mBins bs k ∧ ¬ mIds ps k) :
    Calls Tryz.prog 108 #[.pointer (some ⟨M, 0, none⟩), idV (x.1 : Nat) x.2, .pointer (some ⟨B, 0, none⟩)] w (SetPost w M vf vb ps bs x l B v) := by
  obtain ⟨ti, hti, hz0, hz1, hz2⟩ := info_parts infoMb
  obtain ⟨pb, cb, hvb, _⟩ := h.reps
  subst hvb
  obtain ⟨xp, xl⟩ := x
  simp only
  have HH := hideN h
  have HB := hideN hb
  have HSEP := hideN hsep
  have HN := hideN hn
  have hal := (Below.refl w.heap.size w).alloc (Nat.le_refl _) (.cells #[.int .u32 (xp : Nat), .int .i64 xl] 25)
  have HB1 := hideN hal
  have HR1 := hideN (Blk.new w #[.int .u32 (xp : Nat), .int .i64 xl] 25)
  have hl2 : (bs.length : Int) ≤ 1000 := by omega
  clear h hb hsep hn hal
  go_enter Tryz.func108, Tryz.ntmps108
  go_wp2_with fail
  obtain ⟨W, hW⟩ : ∃ W, w.alloc (.cells #[.int .u32 (xp : Nat), .int .i64 xl] 25) = W := ⟨_, rfl⟩
  rw [hW] at HB1 HR1 ⊢
  obtain ⟨RB, hRB⟩ : ∃ RB, w.heap.size = RB := ⟨_, rfl⟩
  have HRB := hideN hRB
  rw [hRB] at HR1 ⊢
  clear hW hRB
  have r0 := HR1.out.cell (i := 0) rfl
  have r1 := HR1.out.cell (i := 1) rfl
  have HFN := hideN (mFindBin_any M vf (.slice pb bs.length cb) ps bs (xp, xl) W HN.out (HH.out.below HB1.out))
  have HFNN : Hid (∀ k, kFind (mBs bs) (xp, xl) = some k → kFindI (mBs bs) (xp, xl) = (k : Int)) := fun k hk => by unfold kFindI; rw [hk]
  have HFNO : Hid (kFind (mBs bs) (xp, xl) = none → kFindI (mBs bs) (xp, xl) = -1) := fun hk => by unfold kFindI; rw [hk]
  go_wp2_with fail
  refine HFN.out.mono ?_
  rintro e w2 ⟨rfl, hb2⟩
  have HB2 : Hid (Below w.heap.size w w2) := HB1.out.trans (hb2.mono HB1.out.size)
  have HR2 := hideN (HR1.out.next hb2)
  have HS2 := hideN (HH.out.below HB2.out)
  have q1 := HS2.out.blk.cell (i := 1) rfl
  clear hb2 HFN r0 r1
  have r0 := HR2.out.cell (i := 0) rfl
  have r1 := HR2.out.cell (i := 1) rfl
  cases hkf : kFind (mBs bs) (xp, xl) with
  | some k =>
    have HK := hideN (HFNN.out k hkf)
    obtain ⟨hk, hkx⟩ := kFind_some hkf
    have hk' : k < bs.length := by rw [mBs_length] at hk; exact hk
    rw [mBs_get] at hkx
    have HKF := hideN hkf
    have hk0 : (0 : Int) ≤ (k : Int) := by omega
    have hk1 : (k : Int) < (bs.length : Int) := by omega
    obtain ⟨_, hrow⟩ := HS2.out.brow
    rcases hrow with ⟨hv0, hn0⟩ | ⟨g, cap, cur, hv0, _, hobj, _⟩
    · omega
    obtain ⟨rfl, rfl⟩ : pb = some ⟨g, 0, none⟩ ∧ cb = cap := by simpa using hv0
    have hfz : w2.frozen? ⟨g, k * 3 + 2, none⟩ = false := by simp only [World.frozen?, hobj]; simp
    obtain ⟨ov, hold⟩ : ∃ ov, w2.cell? ⟨g, k * 3 + 2, none⟩ = some ov := ⟨.pointer (some ⟨bs[k].2.1, 0, none⟩), by
      have := HS2.out.brow.cells (g := g) rfl (k * 3 + 2) _ (mbCells_at bs k hk').2.2
      simpa only [add_plain] using this⟩
    rw [HK.out]
    have HKX : Hid ((bs[k]'hk').1.1 = (xp, xl)) := hkx
    have HK' := hideN hk'
    clear HFNN HFNO hkf hkx hk hv0 hobj
    go_wp2_with fail
    refine bodyPost_ret (v := .tuple #[]) (results_none Tryz.results108 _ _ _) rfl ?_
    have hset := HS2.out.setAt HK'.out (HB.out.below HB2.out) (fun j hj => by
      obtain ⟨h1, h2, h3, h4, h5⟩ := HSEP.out j hj
      exact ⟨h1, h2, fun e => h3 (by rw [e]; rfl), h4, h5⟩)
    refine ⟨rfl, _, _, ?_, hset.1, fun j hj => .inl hj, fun j ⟨y, hy, hj⟩ => ?_, (Off.of_below (F := fun k => k = M ∨ (Value.slice (some ⟨g, 0, none⟩) bs.length cb).ownBlock = some k) HB2.out).trans hset.2 (fun i _ hi => .inr (by rw [hi]; rfl))⟩
    · unfold kSet
      rw [HKF.out]
      simp only
      unfold mBs
      rw [List.map_set, HKX.out]
    · rcases List.mem_or_eq_of_mem_set hy with hy | rfl
      · exact .inl ⟨y, hy, hj⟩
      · exact .inr hj
  | none =>
    have HK := hideN (HFNO.out hkf)
    have HKF := hideN hkf
    rw [HK.out]
    clear HFNN HFNO hkf
    go_wp2_with fail
    go_loopw [7] (fun i wr => ∃ j : Nat, j ≤ bs.length ∧ i = .int .i64 j ∧ Hid (Below w2.heap.size w2 wr) ∧ Hid (∀ k (hk : k < (mBs bs).length), k < j → lessB (mBs bs)[k].1 (xp, xl) = true)) (fun i _ => bs.length - (intOf i).toNat)
    case atStart => exact ⟨0, Nat.zero_le _, rfl, Below.refl _ _, fun k _ h => by omega⟩
    case round =>
      clear q1 r0 r1
      obtain ⟨j, hj, rfl, HB3, HLE⟩ := hrel
      have hS := HS2.out.below HB3.out
      have HS := hideN hS
      have HR3 := hideN (HR2.out.next HB3.out)
      obtain ⟨pb', cb', hvb', hcell⟩ := hS.reps
      obtain ⟨rfl, rfl⟩ : pb = pb' ∧ cb = cb' := by simpa using hvb'
      have HC := hideN hcell
      have q1 := hS.blk.cell (i := 1) rfl
      have r0 := HR3.out.cell (i := 0) rfl
      have r1 := HR3.out.cell (i := 1) rfl
      have hj0 : (0 : Int) ≤ (j : Int) := by omega
      have HJ := hideN hj
      clear hS hvb' hcell
      by_cases hlt : j < bs.length
      · have hlt' : (j : Int) < (bs.length : Int) := by omega
        obtain ⟨b, o, rfl, ⟨hbl, hc⟩, a0, a1, _⟩ := HC.out j hlt
        have HNX : Hid (lessB bs[j].1.1 (xp, xl) = true → ∀ k (hk : k < (mBs bs).length), k < j + 1 → lessB (mBs bs)[k].1 (xp, xl) = true) := fun hy k hk hkj => by
          rcases Nat.lt_or_ge k j with h' | h'
          · exact HLE.out k hk h'
          · obtain rfl : k = j := by omega
            rw [mBs_get]
            exact hy
        have HPL0 : Hid (lessB bs[j].1.1 (xp, xl) = false → kPlace lessB (mBs bs) (xp, xl) = j) := fun hy => kPlace_at lessB _ _ j (by rw [mBs_length]; exact hj) HLE.out (fun _ => by rw [mBs_get]; exact hy)
        have HCL : Hid (∀ W', Below wr.heap.size wr W' → W'.cell? ⟨M, 1, none⟩ = some (.slice (some ⟨b, o, none⟩) bs.length cb) ∧ W'.cell? ⟨b, o + j * 3, none⟩ = some (.int .u32 (bs[j].1.1.1 : Nat)) ∧ W'.cell? ⟨b, o + j * 3 + 1, none⟩ = some (.int .i64 bs[j].1.1.2) ∧ W'.cell? ⟨RB, 0, none⟩ = some (.int .u32 (xp : Nat)) ∧ W'.cell? ⟨RB, 1, none⟩ = some (.int .i64 xl)) := fun W' hb => ⟨(HS.out.below hb).blk.cell (i := 1) rfl, (hb.cell (p := ⟨b, o + j * 3, none⟩) hbl).trans a0, (hb.cell (p := ⟨b, o + j * 3 + 1, none⟩) hbl).trans a1, (HR3.out.next hb).cell (i := 0) rfl, (HR3.out.next hb).cell (i := 1) rfl⟩
        obtain ⟨⟨yp, yl⟩, hy⟩ : ∃ y, bs[j].1.1 = y := ⟨_, rfl⟩
        rw [hy] at a0 a1 HNX HPL0 HCL
        clear hy
        obtain ⟨Lb, hLb⟩ : ∃ Lb, (if (yp : Int) = (xp : Int) then decide (yl < xl) else decide ((yp : Int) < (xp : Int))) = Lb := ⟨_, rfl⟩
        have HLb : Hid ((if (yp : Int) = (xp : Int) then decide (yl < xl) else decide ((yp : Int) < (xp : Int))) = Lb) := hLb
        have HLS : Hid (lessB (yp, yl) (xp, xl) = Lb) := hLb
        clear hLb
        cases Lb with
        | true =>
          have HNX2 := hideN (HNX.out HLS.out)
          clear HNX HPL0 HS HR3 HC
          go_wp2_with fail
          go_region_held3 (fun w' => w'.cell? ⟨M, 1, none⟩ = some (.slice (some ⟨b, o, none⟩) bs.length cb) ∧ w'.cell? ⟨b, o + j * 3, none⟩ = some (.int .u32 (yp : Nat)) ∧ w'.cell? ⟨b, o + j * 3 + 1, none⟩ = some (.int .i64 yl) ∧ w'.cell? ⟨RB, 0, none⟩ = some (.int .u32 (xp : Nat)) ∧ w'.cell? ⟨RB, 1, none⟩ = some (.int .i64 xl)) (go_keep) (first
            | (go_at_call 68; refine (isLess_any _ _ _ _ _).mono ?_; rintro e w3 ⟨rfl, hb3⟩; rw [HLb.out]; have HB4 : Hid (Below wr.heap.size wr w3) := (Below.refl _ wr).drew.trans (hb3.mono (Nat.le_refl _)); obtain ⟨z0, z1, z2, z3, z4⟩ := HCL.out w3 HB4.out; clear hb3))
          go_wp2_with fail
          go_roundw
          case rel => exact ⟨j + 1, hlt, by go_num, HB3.out.trans (HB4.out.mono HB3.out.size), HNX2.out⟩
          case measure => simp [intOf]; omega
        | false =>
          have HPL := hideN (HPL0.out HLS.out)
          clear HNX HPL0 HS HR3 HC
          go_wp2_with fail
          go_region_held3 (fun w' => w'.cell? ⟨M, 1, none⟩ = some (.slice (some ⟨b, o, none⟩) bs.length cb) ∧ w'.cell? ⟨b, o + j * 3, none⟩ = some (.int .u32 (yp : Nat)) ∧ w'.cell? ⟨b, o + j * 3 + 1, none⟩ = some (.int .i64 yl) ∧ w'.cell? ⟨RB, 0, none⟩ = some (.int .u32 (xp : Nat)) ∧ w'.cell? ⟨RB, 1, none⟩ = some (.int .i64 xl)) (go_keep) (first
            | (go_at_call 68; refine (isLess_any _ _ _ _ _).mono ?_; rintro e w3 ⟨rfl, hb3⟩; rw [HLb.out]; have HB4 : Hid (Below wr.heap.size wr w3) := (Below.refl _ wr).drew.trans (hb3.mono (Nat.le_refl _)); obtain ⟨z0, z1, z2, z3, z4⟩ := HCL.out w3 HB4.out; clear hb3))
          have HBQ : Hid (Below w2.heap.size w2 w3) := HB3.out.trans (HB4.out.mono HB3.out.size)
          clear z0 z1 z2 z3 z4 a0 a1 q1 r0 r1 hbl hc HCL
          have HBX : Hid (Below w.heap.size w w3) := HB2.out.trans (HBQ.out.mono HB2.out.size)
          have HS := hideN (HH.out.below HBX.out)
          have HRQ := hideN (HR2.out.next HBQ.out)
          have HML : Hid (M < w3.heap.size) := HS.out.blk.lt
          have HFZ : Hid (w3.frozen? ⟨M, 1, none⟩ = false) := HS.out.blk.frozen 1
          have HQ0 : Hid (w3.cell? ⟨M, 1, none⟩ = some (.slice (some ⟨b, o, none⟩) bs.length cb)) := HS.out.blk.cell (i := 1) rfl
          have HCR : Hid (∀ W', Below w3.heap.size w3 W' → W'.cell? ⟨RB, 0, none⟩ = some (.int .u32 (xp : Nat)) ∧ W'.cell? ⟨RB, 1, none⟩ = some (.int .i64 xl)) := fun W' hb => by
            have h := HRQ.out.next hb
            exact ⟨h.cell (i := 0) rfl, h.cell (i := 1) rfl⟩
          have q1 := HQ0.out
          have hmem : ∀ y ∈ mInsB bs j (((xp, xl), l), B, v), y ∈ bs ∨ y = (((xp, xl), l), B, v) := fun y hy => by
            rcases List.mem_cons.1 ((mInsB_perm _ _ _).mem_iff.1 hy) with rfl | hy
            · exact .inr rfl
            · exact .inl hy
          have HMB : Hid (∀ k, mBins (mInsB bs j (((xp, xl), l), B, v)) k → mBins bs k ∨ RBin.Of B v k) := fun k ⟨y, hy, hk⟩ => by
            rcases hmem y hy with hy | rfl
            · exact .inl ⟨y, hy, hk⟩
            · exact .inr hk
          have hbins : ∀ y ∈ mInsB bs j (((xp, xl), l), B, v), RBin w y.2.1 y.2.2 y.1.2 := fun y hy => by
            rcases hmem y hy with hy | rfl
            · exact HH.out.bins y hy
            · exact HB.out
          have HIDS := hideN hbins
          have hcells := mInsB_cells bs j (((xp, xl), l), B, v)
          rw [show mbCells [(((xp, xl), l), B, v)] = [.int .u32 (xp : Nat), .int .i64 xl, .pointer (some ⟨B, 0, none⟩)] from rfl] at hcells
          have HCELLS := hideN hcells
          clear hbins hmem hcells
          obtain ⟨g, cap, hvg, hcap, hcap2⟩ := row_some HS.out.brow (by omega : 1 ≤ bs.length)
          obtain ⟨⟨hgb, ho0⟩, hcc⟩ : (g = b ∧ 0 = o) ∧ cb = cap := by simpa [eq_comm] using hvg
          subst hgb ho0 hcc
          have hsp : w3.ownsRow 0 92 3 (.slice (some ⟨g, 0, none⟩) bs.length cb) bs.length (mbCells (bs.take j) ++ mbCells (bs.drop j)) := by
            rw [← mbCells_append, List.take_append_drop]
            exact HS.out.brow
          obtain ⟨P4, c4, hsl4, hP4⟩ := slB_from g bs.length cb j HJ.out hcap
          have hsl5 := slB_upto g bs.length cb j HJ.out hcap
          have HLT : Hid ((mbCells (bs.take j)).length = j * 3) := by show _ = _; rw [mbCells_length, List.length_take, Nat.min_eq_left HJ.out]
          have HLD : Hid ((mbCells (bs.drop j)).length = (bs.length - j) * 3) := by show _ = _; rw [mbCells_length, List.length_drop]
          have HC1 : Hid (∀ W', Below w3.heap.size w3 W' → ∀ j' u, (mbCells (bs.take j))[j']? = some u → W'.cell? ((⟨g, 0, none⟩ : Addr).add j') = some u) := fun W' hb => row_take (row_below hsp hb) rfl
          have HC2 : Hid (∀ W', Below w3.heap.size w3 W' → ∀ j' u, (mbCells (bs.drop j))[j']? = some u → W'.cell? (P4.add j') = some u) := fun W' hb j' u hj' => by
            have hjl := (List.getElem?_eq_some_iff.1 hj').1
            rw [HLD.out] at hjl
            rw [hP4 (by omega)]
            have := row_drop (row_below hsp hb) rfl j' u hj'
            rw [HLT.out] at this
            exact this
          clear hvg hsp hP4 hcap hcap2
          go_wp2_with (first
            | (at_builtin; refine wpList_append_own _ rfl (.tmp 44) (.tmp 50) 32 rfl w3.heap.size 92 ti (.agg #[.int .u32 0, .int .i64 0, .pointer none]) 3 24 Tryz.underlying32 hti hz0 hz1 hz2 rfl (by decide) (.slice none 0 0) 0 [] rfl (World.ownsRow_nil _ _ _ _) ⟨g, 0, none⟩ j cb (mbCells (bs.take j)) rfl HLT.out (HC1.out w3 (Below.refl _ _)) (mbCells_one _) (by have := HN.out; have := HJ.out; unfold maxLen; omega) (by have := HN.out; have := HJ.out; omega) (Nat.le_refl _) ?_; intro v3 w6 ho3 hg3 _; rw [Nat.zero_add, List.nil_append] at ho3; have hB3 : Below w3.heap.size w3 w6 := (Below.refl _ w3).grown hg3 (Nat.le_refl _) (fun k hk => by cases hk); have HO3 := hideN ho3; have HBA := hideN hB3; clear hg3 ho3; have q3 := (hB3.cell (p := ⟨M, 1, none⟩) HML.out).trans HQ0.out; obtain ⟨y0, y1⟩ := HCR.out w6 HBA.out; clear hB3)
            | (at_builtin; refine wpList_append_own _ rfl (.tmp 52) (.tmp 56) 32 rfl w3.heap.size 92 ti (.agg #[.int .u32 0, .int .i64 0, .pointer none]) 3 24 Tryz.underlying32 hti hz0 hz1 hz2 rfl (by decide) v3 j (mbCells (bs.take j)) rfl (HO3.out.alloc _) ⟨w6.heap.size, 0, none⟩ 1 1 [.int .u32 (xp : Nat), .int .i64 xl, .pointer (some ⟨B, 0, none⟩)] rfl rfl (fun j' u hj' => by rw [add_plain]; exact new_cell _ #[.int .u32 (xp : Nat), .int .i64 xl, .pointer (some ⟨B, 0, none⟩)] _ (by rw [← hj']; simp) (by simp)) (by intro u hu; simp at hu; rcases hu with rfl | rfl | rfl <;> rfl) (by have := HN.out; have := HJ.out; unfold maxLen; omega) (by have := HN.out; have := HJ.out; omega) (by have := HBA.out.size; simp; omega) ?_; intro v4 w7 ho4 hg4 _; have hB4 : Below w3.heap.size w3 w7 := (HBA.out.alloc HBA.out.size _).grown hg4 (by have := HBA.out.size; simp; omega) (fun k hk => (HO3.out.lt k hk).1); have HO4 := hideN ho4; have HBB := hideN hB4; clear hg4 ho4; have q4 := (hB4.cell (p := ⟨M, 1, none⟩) HML.out).trans HQ0.out; clear hB4)
            | (at_builtin; refine wpList_append_own _ rfl (.tmp 59) (.tmp 65) 32 rfl w3.heap.size 92 ti (.agg #[.int .u32 0, .int .i64 0, .pointer none]) 3 24 Tryz.underlying32 hti hz0 hz1 hz2 rfl (by decide) v4 (j + 1) _ rfl HO4.out P4 (bs.length - j) c4 (mbCells (bs.drop j)) rfl HLD.out (HC2.out w7 HBB.out) (mbCells_one _) (by have := HN.out; have := HJ.out; unfold maxLen; omega) (by have := HN.out; have := HJ.out; omega) HBB.out.size ?_; intro v5 w8 ho5 hg5 _; have hB5 : Below w3.heap.size w3 w8 := HBB.out.grown hg5 HBB.out.size (fun k hk => (HO4.out.lt k hk).1); have HO5 := hideN ho5; have HBC := hideN hB5; clear hg5 ho5; obtain ⟨p5, c5, hu5⟩ := row_shapeK HO5.out; subst hu5; have q5 := (hB5.cell (p := ⟨M, 1, none⟩) HML.out).trans HQ0.out; have f5 := (hB5.frozen (p := ⟨M, 1, none⟩) HML.out).trans HFZ.out; clear hB5))
          refine bodyPost_end (v := .tuple #[]) (results_none Tryz.results108 _ _ _) rfl ?_
          have ho5 := HO5.out
          rw [← HCELLS.out] at ho5
          have hfin := HH.out.setB (vb' := .slice p5 (j + 1 + (bs.length - j)) c5) (HBX.out.trans (HBC.out.mono HBX.out.size)) (ownsRow_low (by rw [mInsB_length HJ.out]; exact ho5) HBX.out.size) HIDS.out (mInsB_apart HH.out.bb (fun k hk => (HSEP.out k hk).2.2.2.1) j) (fun k hk => by
            rcases HMB.out k hk with hk | hk
            · obtain ⟨h1, h2, _⟩ := HH.out.bm k hk
              exact ⟨h1, h2, fun e => (HH.out.io k e).2.2.2 hk⟩
            · obtain ⟨h1, h2, _, _, h5⟩ := HSEP.out k hk
              exact ⟨h1, h2, h5⟩)
          refine ⟨rfl, _, _, ?_, hfin.1, fun k hk => .inr (hfin.2.2 k hk), HMB.out, hfin.2.1.mono (fun k _ hk => .inl hk)⟩
          unfold kSet
          rw [HKF.out]
          exact mInsB_bs bs (((xp, xl), l), B, v) j HPL.out
      · have hge : (bs.length : Int) ≤ (j : Int) := by omega
        have HPL : Hid (kPlace lessB (mBs bs) (xp, xl) = j) := kPlace_at lessB _ _ j (by rw [mBs_length]; exact hj) HLE.out (fun h => by rw [mBs_length] at h; omega)
        obtain ⟨w3, hw3⟩ : ∃ w3, w3 = wr := ⟨_, rfl⟩
        subst hw3
        have HBQ := HB3
        clear HS HR3 HC q1 r0 r1
        have HBX : Hid (Below w.heap.size w w3) := HB2.out.trans (HBQ.out.mono HB2.out.size)
        have HS := hideN (HH.out.below HBX.out)
        have HRQ := hideN (HR2.out.next HBQ.out)
        have HML : Hid (M < w3.heap.size) := HS.out.blk.lt
        have HFZ : Hid (w3.frozen? ⟨M, 1, none⟩ = false) := HS.out.blk.frozen 1
        have HQ0 : Hid (w3.cell? ⟨M, 1, none⟩ = some (.slice pb bs.length cb)) := HS.out.blk.cell (i := 1) rfl
        have HCR : Hid (∀ W', Below w3.heap.size w3 W' → W'.cell? ⟨RB, 0, none⟩ = some (.int .u32 (xp : Nat)) ∧ W'.cell? ⟨RB, 1, none⟩ = some (.int .i64 xl)) := fun W' hb => by
          have h := HRQ.out.next hb
          exact ⟨h.cell (i := 0) rfl, h.cell (i := 1) rfl⟩
        have q1 := HQ0.out
        have hmem : ∀ y ∈ mInsB bs j (((xp, xl), l), B, v), y ∈ bs ∨ y = (((xp, xl), l), B, v) := fun y hy => by
          rcases List.mem_cons.1 ((mInsB_perm _ _ _).mem_iff.1 hy) with rfl | hy
          · exact .inr rfl
          · exact .inl hy
        have HMB : Hid (∀ k, mBins (mInsB bs j (((xp, xl), l), B, v)) k → mBins bs k ∨ RBin.Of B v k) := fun k ⟨y, hy, hk⟩ => by
          rcases hmem y hy with hy | rfl
          · exact .inl ⟨y, hy, hk⟩
          · exact .inr hk
        have hbins : ∀ y ∈ mInsB bs j (((xp, xl), l), B, v), RBin w y.2.1 y.2.2 y.1.2 := fun y hy => by
          rcases hmem y hy with hy | rfl
          · exact HH.out.bins y hy
          · exact HB.out
        have HIDS := hideN hbins
        have hcells := mInsB_cells bs j (((xp, xl), l), B, v)
        rw [show mbCells [(((xp, xl), l), B, v)] = [.int .u32 (xp : Nat), .int .i64 xl, .pointer (some ⟨B, 0, none⟩)] from rfl] at hcells
        have HCELLS := hideN hcells
        clear hbins hmem hcells
        obtain ⟨_, hrow⟩ := HS.out.brow
        rcases hrow with ⟨hv0, hn0⟩ | ⟨g, cap, cur, hv0, _, _, hcap, hcap2, _⟩
        · obtain rfl : bs = [] := List.length_eq_zero_iff.1 hn0
          obtain rfl : j = 0 := Nat.le_zero.1 HJ.out
          obtain ⟨rfl, rfl⟩ : pb = none ∧ cb = 0 := by simpa using hv0
          clear hv0 hn0
          obtain ⟨y0, y1⟩ := HCR.out w3 (Below.refl _ _)
          go_wp2_with ((at_builtin; refine wpList_append_own _ rfl (.tmp 52) (.tmp 56) 32 rfl w3.heap.size 92 ti (.agg #[.int .u32 0, .int .i64 0, .pointer none]) 3 24 Tryz.underlying32 hti hz0 hz1 hz2 rfl (by decide) (.slice none 0 0) 0 [] rfl (World.ownsRow_nil _ _ _ _) ⟨w3.heap.size, 0, none⟩ 1 1 [.int .u32 (xp : Nat), .int .i64 xl, .pointer (some ⟨B, 0, none⟩)] rfl rfl (fun j' u hj' => by rw [add_plain]; exact new_cell _ #[.int .u32 (xp : Nat), .int .i64 xl, .pointer (some ⟨B, 0, none⟩)] _ (by rw [← hj']; simp) (by simp)) (by intro u hu; simp at hu; rcases hu with rfl | rfl | rfl <;> rfl) (by unfold maxLen; omega) (by omega) (by simp) ?_; intro v4 w7 ho4 hg4 _; have hB4 : Below w3.heap.size w3 w7 := ((Below.refl _ w3).alloc (Nat.le_refl _) _).grown hg4 (by simp) (fun k hk => by cases hk); have HO4 := hideN ho4; have HBB := hideN hB4; clear hg4 ho4; obtain ⟨g5, c5, hu5, hc5, hc6⟩ := row_some HO4.out (by omega); subst hu5; have q4 := (hB4.cell (p := ⟨M, 1, none⟩) HML.out).trans HQ0.out; have f4 := (hB4.frozen (p := ⟨M, 1, none⟩) HML.out).trans HFZ.out; clear hB4))
          refine bodyPost_end (v := .tuple #[]) (results_none Tryz.results108 _ _ _) rfl ?_
          have ho5 := HO4.out
          rw [List.nil_append] at ho5
          have hfin := HH.out.setB (vb' := .slice (some ⟨g5, 0, none⟩) (0 + 1) c5) (bs' := mInsB [] 0 (((xp, xl), l), B, v)) (HBX.out.trans (HBB.out.mono HBX.out.size)) (ownsRow_low (by rw [HCELLS.out]; simpa [mInsB, mbCells] using ho5) HBX.out.size) HIDS.out (mInsB_apart HH.out.bb (fun k hk => (HSEP.out k hk).2.2.2.1) 0) (fun k hk => by
            rcases HMB.out k hk with hk | hk
            · obtain ⟨h1, h2, _⟩ := HH.out.bm k hk
              exact ⟨h1, h2, fun e => (HH.out.io k e).2.2.2 hk⟩
            · obtain ⟨h1, h2, _, _, h5⟩ := HSEP.out k hk
              exact ⟨h1, h2, h5⟩)
          refine ⟨rfl, _, _, ?_, hfin.1, fun k hk => .inr (hfin.2.2 k hk), HMB.out, hfin.2.1.mono (fun k _ hk => .inl hk)⟩
          unfold kSet
          rw [HKF.out]
          exact mInsB_bs [] (((xp, xl), l), B, v) 0 HPL.out
        · obtain ⟨rfl, rfl⟩ : pb = some ⟨g, 0, none⟩ ∧ cb = cap := by simpa using hv0
          have hsp : w3.ownsRow 0 92 3 (.slice (some ⟨g, 0, none⟩) bs.length cb) bs.length (mbCells (bs.take j) ++ mbCells (bs.drop j)) := by
            rw [← mbCells_append, List.take_append_drop]
            exact HS.out.brow
          obtain ⟨P4, c4, hsl4, hP4⟩ := slB_from g bs.length cb j HJ.out hcap
          have hsl5 := slB_upto g bs.length cb j HJ.out hcap
          have HLT : Hid ((mbCells (bs.take j)).length = j * 3) := by show _ = _; rw [mbCells_length, List.length_take, Nat.min_eq_left HJ.out]
          have HLD : Hid ((mbCells (bs.drop j)).length = (bs.length - j) * 3) := by show _ = _; rw [mbCells_length, List.length_drop]
          have HC1 : Hid (∀ W', Below w3.heap.size w3 W' → ∀ j' u, (mbCells (bs.take j))[j']? = some u → W'.cell? ((⟨g, 0, none⟩ : Addr).add j') = some u) := fun W' hb => row_take (row_below hsp hb) rfl
          have HC2 : Hid (∀ W', Below w3.heap.size w3 W' → ∀ j' u, (mbCells (bs.drop j))[j']? = some u → W'.cell? (P4.add j') = some u) := fun W' hb j' u hj' => by
            have hjl := (List.getElem?_eq_some_iff.1 hj').1
            rw [HLD.out] at hjl
            rw [hP4 (by omega)]
            have := row_drop (row_below hsp hb) rfl j' u hj'
            rw [HLT.out] at this
            exact this
          clear hv0 hsp hP4 hcap hcap2
          go_wp2_with (first
            | (at_builtin; refine wpList_append_own _ rfl (.tmp 44) (.tmp 50) 32 rfl w3.heap.size 92 ti (.agg #[.int .u32 0, .int .i64 0, .pointer none]) 3 24 Tryz.underlying32 hti hz0 hz1 hz2 rfl (by decide) (.slice none 0 0) 0 [] rfl (World.ownsRow_nil _ _ _ _) ⟨g, 0, none⟩ j cb (mbCells (bs.take j)) rfl HLT.out (HC1.out w3 (Below.refl _ _)) (mbCells_one _) (by have := HN.out; have := HJ.out; unfold maxLen; omega) (by have := HN.out; have := HJ.out; omega) (Nat.le_refl _) ?_; intro v3 w6 ho3 hg3 _; rw [Nat.zero_add, List.nil_append] at ho3; have hB3 : Below w3.heap.size w3 w6 := (Below.refl _ w3).grown hg3 (Nat.le_refl _) (fun k hk => by cases hk); have HO3 := hideN ho3; have HBA := hideN hB3; clear hg3 ho3; have q3 := (hB3.cell (p := ⟨M, 1, none⟩) HML.out).trans HQ0.out; obtain ⟨y0, y1⟩ := HCR.out w6 HBA.out; clear hB3)
            | (at_builtin; refine wpList_append_own _ rfl (.tmp 52) (.tmp 56) 32 rfl w3.heap.size 92 ti (.agg #[.int .u32 0, .int .i64 0, .pointer none]) 3 24 Tryz.underlying32 hti hz0 hz1 hz2 rfl (by decide) v3 j (mbCells (bs.take j)) rfl (HO3.out.alloc _) ⟨w6.heap.size, 0, none⟩ 1 1 [.int .u32 (xp : Nat), .int .i64 xl, .pointer (some ⟨B, 0, none⟩)] rfl rfl (fun j' u hj' => by rw [add_plain]; exact new_cell _ #[.int .u32 (xp : Nat), .int .i64 xl, .pointer (some ⟨B, 0, none⟩)] _ (by rw [← hj']; simp) (by simp)) (by intro u hu; simp at hu; rcases hu with rfl | rfl | rfl <;> rfl) (by have := HN.out; have := HJ.out; unfold maxLen; omega) (by have := HN.out; have := HJ.out; omega) (by have := HBA.out.size; simp; omega) ?_; intro v4 w7 ho4 hg4 _; have hB4 : Below w3.heap.size w3 w7 := (HBA.out.alloc HBA.out.size _).grown hg4 (by have := HBA.out.size; simp; omega) (fun k hk => (HO3.out.lt k hk).1); have HO4 := hideN ho4; have HBB := hideN hB4; clear hg4 ho4; have q4 := (hB4.cell (p := ⟨M, 1, none⟩) HML.out).trans HQ0.out; clear hB4)
            | (at_builtin; refine wpList_append_own _ rfl (.tmp 59) (.tmp 65) 32 rfl w3.heap.size 92 ti (.agg #[.int .u32 0, .int .i64 0, .pointer none]) 3 24 Tryz.underlying32 hti hz0 hz1 hz2 rfl (by decide) v4 (j + 1) _ rfl HO4.out P4 (bs.length - j) c4 (mbCells (bs.drop j)) rfl HLD.out (HC2.out w7 HBB.out) (mbCells_one _) (by have := HN.out; have := HJ.out; unfold maxLen; omega) (by have := HN.out; have := HJ.out; omega) HBB.out.size ?_; intro v5 w8 ho5 hg5 _; have hB5 : Below w3.heap.size w3 w8 := HBB.out.grown hg5 HBB.out.size (fun k hk => (HO4.out.lt k hk).1); have HO5 := hideN ho5; have HBC := hideN hB5; clear hg5 ho5; obtain ⟨p5, c5, hu5⟩ := row_shapeK HO5.out; subst hu5; have q5 := (hB5.cell (p := ⟨M, 1, none⟩) HML.out).trans HQ0.out; have f5 := (hB5.frozen (p := ⟨M, 1, none⟩) HML.out).trans HFZ.out; clear hB5))
          refine bodyPost_end (v := .tuple #[]) (results_none Tryz.results108 _ _ _) rfl ?_
          have ho5 := HO5.out
          rw [← HCELLS.out] at ho5
          have hfin := HH.out.setB (vb' := .slice p5 (j + 1 + (bs.length - j)) c5) (HBX.out.trans (HBC.out.mono HBX.out.size)) (ownsRow_low (by rw [mInsB_length HJ.out]; exact ho5) HBX.out.size) HIDS.out (mInsB_apart HH.out.bb (fun k hk => (HSEP.out k hk).2.2.2.1) j) (fun k hk => by
            rcases HMB.out k hk with hk | hk
            · obtain ⟨h1, h2, _⟩ := HH.out.bm k hk
              exact ⟨h1, h2, fun e => (HH.out.io k e).2.2.2 hk⟩
            · obtain ⟨h1, h2, _, _, h5⟩ := HSEP.out k hk
              exact ⟨h1, h2, h5⟩)
          refine ⟨rfl, _, _, ?_, hfin.1, fun k hk => .inr (hfin.2.2 k hk), HMB.out, hfin.2.1.mono (fun k _ hk => .inl hk)⟩
          unfold kSet
          rw [HKF.out]
          exact mInsB_bs bs (((xp, xl), l), B, v) j HPL.out
end Go.Proofs.YtjdobbjdlighpabGreatDoor
