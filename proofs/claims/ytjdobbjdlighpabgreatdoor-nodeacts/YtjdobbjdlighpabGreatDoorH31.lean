/-
  Own text. The document's node by contracts: Names, Reps, OfRep, Size; a bin's Copy.
  Own text. The document's node by contracts: Sweep, OfRep.
  Own text. The document's node by contracts: OfRep.
-/
import Derived.Test.YtjdobbjdlighpabGreatDoorH30
import Derived.Test.YtjdobbjdlighpabGreatDoorH15
import Derived.Test.YtjdobbjdlighpabGreatDoorH06
namespace Go.Proofs.YtjdobbjdlighpabGreatDoor
open Go.RowKit Go.Maps

abbrev nmV (q : MF) : Value := .string ⟨q.1.1.toArray⟩
theorem take_map_snoc {α β : Type} (f : α → β) (l : List α) (j : Nat) (h : j < l.length) : (l.take (j + 1)).map f = (l.take j).map f ++ [f l[j]] := by
  rw [List.take_succ_eq_append_getElem h, List.map_append]
  rfl
set_option maxRecDepth 100000 in
set_option maxHeartbeats 4000000 in
theorem mNames_any (M : Nat) (vf vb : Value) (ps : List MF) (bs : List MB) (w : World) (hn : ps.length ≤ 1000) (h : MSt w M vf vb ps bs) :
    Calls Tryz.prog 51 #[.pointer (some ⟨M, 0, none⟩)] w fun e w' => ∃ v, e = .returned v ∧ w'.ownsRow w.heap.size 9 1 v ps.length (ps.map nmV) ∧ Below w.heap.size w w' := by
  obtain ⟨iS, hiS, zS0, zS1, zS2⟩ := info_parts infoStrK
  obtain ⟨pf, cf, rfl, _⟩ := h.files
  have HH := hideN h
  have HN := hideN hn
  have hl2 : (ps.length : Int) ≤ 1000 := by omega
  clear h hn
  go_enter Tryz.func51, Tryz.ntmps51
  go_wp2_with fail
  go_loopw [3, 4] (fun u i wr => ∃ j : Nat, j ≤ ps.length ∧ i = .int .i64 j ∧ Hid (Below w.heap.size w wr) ∧ Hid (wr.ownsRow w.heap.size 9 1 u j ((ps.take j).map nmV))) (fun _ i _ => ps.length - (intOf i).toNat)
  case atStart => exact ⟨0, Nat.zero_le _, rfl, Below.refl _ _, World.ownsRow_nil _ _ _ _⟩
  case round =>
    obtain ⟨j, hj, rfl, HB, HO⟩ := hrel
    have hS := HH.out.below HB.out
    have q0 := hS.blk.cell (i := 0) rfl
    by_cases hlt : j < ps.length
    · have hlt' : (j : Int) < (ps.length : Int) := by omega
      have hj0 : (0 : Int) ≤ (j : Int) := by omega
      obtain ⟨pf', cf', hvf', hcell⟩ := hS.files
      obtain ⟨rfl, rfl⟩ : pf = pf' ∧ cf = cf' := by simpa using hvf'
      obtain ⟨b, o, rfl, ⟨hb, hc⟩, a0, _⟩ := hcell j hlt
      obtain ⟨X, hX⟩ : ∃ X : ByteArray, (⟨ps[j].1.1.toArray⟩ : ByteArray) = X := ⟨_, rfl⟩
      have HX : Hid (nmV ps[j] = .string X) := by show _ = _; rw [← hX]
      rw [hX] at a0
      have HJ := hideN hlt
      have HTK := hideN (take_map_snoc nmV ps j hlt)
      clear hS hvf' hcell hX
      go_wp2_with (at_builtin; refine wpList_append_own _ rfl (.tmp 14) (.tmp 23) 73 rfl w.heap.size 9 iS (.string ⟨#[]⟩) 1 16 Tryz.underlying73 hiS zS0 zS1 zS2 rfl (by decide) u3 j _ rfl (HO.out.alloc _) ⟨wr.heap.size, 0, none⟩ 1 1 [.string X] rfl rfl (cell_one_atK rfl) (by intro u hu; simp at hu; subst hu; rfl) (by have := HN.out; have := HJ.out; unfold maxLen; omega) (by have := HN.out; have := HJ.out; omega) (by have := HB.out.size; simp; omega) ?_; intro v5 w5 ho5 hg5 _; have hB5 : Below w.heap.size w w5 := (HB.out.alloc HB.out.size _).grown hg5 (by have := HB.out.size; simp; omega) (fun k hk => (HO.out.lt k hk).1); have HO5 := hideN ho5; have HB5 := hideN hB5; clear hg5 ho5 hB5)
      go_roundw
      case rel => exact ⟨j + 1, hlt, by go_num, HB5.out, by rw [HTK.out, HX.out]; exact HO5.out⟩
      case measure => simp [intOf]; omega
    · have hge : (ps.length : Int) ≤ (j : Int) := by omega
      obtain rfl : j = ps.length := by omega
      rw [List.take_length] at HO
      clear hS hlt
      go_wp2_with fail
      go_ret
      exact ⟨_, rfl, HO.out, HB.out⟩
def repCells (bs : List MB) : List Value := idCells (bs.map (fun q => q.1.1))
set_option maxRecDepth 100000 in
set_option maxHeartbeats 4000000 in
theorem mReps_any (M : Nat) (vf vb : Value) (ps : List MF) (bs : List MB) (w : World) (hn : bs.length ≤ 1000) (h : MSt w M vf vb ps bs) :
    Calls Tryz.prog 53 #[.pointer (some ⟨M, 0, none⟩)] w fun e w' => ∃ v, e = .returned v ∧ w'.ownsRow w.heap.size 25 2 v bs.length (repCells bs) ∧ Below w.heap.size w w' := by
  obtain ⟨iS, hiS, zS0, zS1, zS2⟩ := info_parts infoID
  obtain ⟨pb, cb, rfl, _⟩ := h.reps
  have HH := hideN h
  have HN := hideN hn
  have hl2 : (bs.length : Int) ≤ 1000 := by omega
  clear h hn
  go_enter Tryz.func53, Tryz.ntmps53
  go_wp2_with fail
  go_loopw [3, 4] (fun u i wr => ∃ j : Nat, j ≤ bs.length ∧ i = .int .i64 j ∧ Hid (Below w.heap.size w wr) ∧ Hid (wr.ownsRow w.heap.size 25 2 u j (repCells (bs.take j)))) (fun _ i _ => bs.length - (intOf i).toNat)
  case atStart => exact ⟨0, Nat.zero_le _, rfl, Below.refl _ _, World.ownsRow_nil _ _ _ _⟩
  case round =>
    obtain ⟨j, hj, rfl, HB, HO⟩ := hrel
    have hS := HH.out.below HB.out
    have q0 := hS.blk.cell (i := 1) rfl
    by_cases hlt : j < bs.length
    · have hlt' : (j : Int) < (bs.length : Int) := by omega
      have hj0 : (0 : Int) ≤ (j : Int) := by omega
      obtain ⟨pb', cb', hvb', hcell⟩ := hS.reps
      obtain ⟨rfl, rfl⟩ : pb = pb' ∧ cb = cb' := by simpa using hvb'
      obtain ⟨b, o, rfl, ⟨hb, hc⟩, a0, a1, _⟩ := hcell j hlt
      have hcl : repCells (bs.take (j + 1)) = repCells (bs.take j) ++ [.int .u32 (bs[j].1.1.1 : Nat), .int .i64 bs[j].1.1.2] := by
        unfold repCells
        rw [take_map_snoc (fun q : MB => q.1.1) bs j hlt, idCells_append]
        rfl
      obtain ⟨⟨xp, xl⟩, hx⟩ : ∃ x, bs[j].1.1 = x := ⟨_, rfl⟩
      rw [hx] at a0 a1 hcl
      have HJ := hideN hlt
      have HTK := hideN hcl
      clear hS hvb' hcell hx hcl
      go_wp2_with (at_builtin; refine wpList_append_own _ rfl (.tmp 14) (.tmp 23) 38 rfl w.heap.size 25 iS _ 2 16 Tryz.underlying38 hiS zS0 zS1 zS2 rfl (by decide) u3 j _ rfl (HO.out.alloc _) ⟨wr.heap.size, 0, none⟩ 1 1 [.int .u32 (xp : Nat), .int .i64 xl] rfl rfl (fun j' u hj' => by rw [add_plain]; exact new_cell _ #[.int .u32 (xp : Nat), .int .i64 xl] _ (by rw [← hj']; simp) (by simp)) (by intro u hu; simp at hu; rcases hu with rfl | rfl <;> rfl) (by have := HN.out; have := HJ.out; unfold maxLen; omega) (by have := HN.out; have := HJ.out; omega) (by have := HB.out.size; simp; omega) ?_; intro v5 w5 ho5 hg5 _; have hB5 : Below w.heap.size w w5 := (HB.out.alloc HB.out.size _).grown hg5 (by have := HB.out.size; simp; omega) (fun k hk => (HO.out.lt k hk).1); have HO5 := hideN ho5; have HB5 := hideN hB5; clear hg5 ho5 hB5)
      go_roundw
      case rel => exact ⟨j + 1, hlt, by go_num, HB5.out, by rw [HTK.out]; exact HO5.out⟩
      case measure => simp [intOf]; omega
    · have hge : (bs.length : Int) ≤ (j : Int) := by omega
      obtain rfl : j = bs.length := by omega
      rw [List.take_length] at HO
      clear hS hlt
      go_wp2_with fail
      go_ret
      exact ⟨_, rfl, HO.out, HB.out⟩
theorem nSize_take (bs : List NBin) (j : Nat) (h : j < bs.length) : nSize (bs.take (j + 1)) = nSize (bs.take j) + hSize bs[j].2 := by
  unfold nSize
  rw [take_map_snoc (fun b : NBin => hSize b.2) bs j h, List.sum_append]
  simp
set_option maxRecDepth 100000 in
set_option maxHeartbeats 4000000 in
theorem mSize_any (M : Nat) (vf vb : Value) (ps : List MF) (bs : List MB) (w : World) (hn : bs.length ≤ 1000) (hok : ∀ b ∈ mBs bs, BinOk 1000000 b.2) (h : MSt w M vf vb ps bs) :
    Calls Tryz.prog 49 #[.pointer (some ⟨M, 0, none⟩)] w fun e w' => e = .returned (.int .i64 (nSize (mBs bs))) ∧ w' = w := by
  obtain ⟨pb, cb, rfl, hcell⟩ := h.reps
  have HC := hideN hcell
  have HH := hideN h
  have HOK := hideN hok
  have q0 := h.blk.cell (i := 1) rfl
  have hl2 : (bs.length : Int) ≤ 1000 := by omega
  have HBD : Hid (∀ j, j ≤ bs.length → 0 ≤ nSize ((mBs bs).take j) ∧ nSize ((mBs bs).take j) ≤ 16000000) := fun j hj => by
    have := nSize_bound ((mBs bs).take j) (fun b hb => hok b (List.mem_of_mem_take hb))
    rw [List.length_take, mBs_length, Nat.min_eq_left hj] at this
    omega
  clear h hn hok hcell
  go_enter Tryz.func49, Tryz.ntmps49
  go_wp2_with fail
  go_loopw [3, 4] (fun u i wr => ∃ j : Nat, j ≤ bs.length ∧ i = .int .i64 j ∧ u = .int .i64 (nSize ((mBs bs).take j)) ∧ wr = w) (fun _ i _ => bs.length - (intOf i).toNat)
  case atStart => exact ⟨0, Nat.zero_le _, rfl, rfl, rfl⟩
  case round =>
    obtain ⟨j, hj, rfl, rfl, rfl⟩ := hrel
    by_cases hlt : j < bs.length
    · have hlt' : (j : Int) < (bs.length : Int) := by omega
      have hj0 : (0 : Int) ≤ (j : Int) := by omega
      obtain ⟨b, o, rfl, ⟨hb, hc⟩, _, _, a2⟩ := HC.out j hlt
      have hsn := nSize_take (mBs bs) j (by rw [mBs_length]; exact hlt)
      rw [mBs_get] at hsn
      obtain ⟨n1, n2⟩ := HBD.out j hj
      obtain ⟨m1, m2⟩ := HBD.out (j + 1) hlt
      rw [hsn] at m1 m2
      have HSN := hideN hsn
      have hbk := HOK.out _ (List.getElem_mem (by rw [mBs_length]; exact hlt : j < (mBs bs).length))
      rw [mBs_get] at hbk
      have HSZ := hideN (rSize_any bs[j].2.1 bs[j].2.2 bs[j].1.2 wr hbk.many hbk.lens (HH.out.bins _ (List.getElem_mem hlt)))
      obtain ⟨BB, hBB⟩ : ∃ BB, bs[j].2.1 = BB := ⟨_, rfl⟩
      obtain ⟨SZ, hSZ⟩ : ∃ SZ, hSize bs[j].1.2 = SZ := ⟨_, rfl⟩
      rw [hBB, hSZ] at HSZ
      rw [hBB] at a2
      rw [hSZ] at m1 m2 HSN
      obtain ⟨n, hnn⟩ : ∃ n, nSize ((mBs bs).take j) = n := ⟨_, rfl⟩
      rw [hnn] at n1 n2 m1 m2 HSN ⊢
      have hw : IntKind.i64.wrap (n + SZ) = n + SZ := by rw [IntKind.wrap_i64]; omega
      clear hsn hbk hBB hSZ hnn
      go_wp2_with fail
      refine HSZ.out.mono ?_
      rintro e w5 ⟨rfl, hw5⟩
      subst hw5
      go_wp2_with fail
      go_roundw
      case rel => exact ⟨j + 1, hlt, by go_num, by rw [HSN.out], by first | rfl | trivial⟩
      case measure => simp [intOf]; omega
    · have hge : (bs.length : Int) ≤ (j : Int) := by omega
      rw [List.take_of_length_le (by rw [mBs_length]; omega)]
      obtain ⟨n, hnn⟩ : ∃ n, nSize (mBs bs) = n := ⟨_, rfl⟩
      have HNN := hideN hnn
      rw [hnn]
      clear hlt hnn
      go_wp2_with fail
      go_ret
      exact ⟨by rw [HNN.out]; rfl, rfl⟩
set_option maxRecDepth 100000 in
set_option maxHeartbeats 4000000 in
theorem rCopy_any (B : Nat) (v : Value) (l : List Hd) (w : World) (hn : l.length ≤ 1000) (h : RBin w B v l) :
    Calls Tryz.prog 111 #[.pointer (some ⟨B, 0, none⟩)] w fun e w' => ∃ B' v', e = .returned (.pointer (some ⟨B', 0, none⟩)) ∧ RBin w' B' v' l ∧ (∀ k, RBin.Of B' v' k → w.heap.size ≤ k) ∧ Below w.heap.size w w' := by
  obtain ⟨ti, hti, hz0, hz1, hz2⟩ := info_parts infoHeld
  have q0 := h.blk.cell (i := 0) rfl
  have HH := hideN h
  have HN := hideN hn
  rcases h.row.2 with ⟨rfl, h0⟩ | ⟨g, cap, cur, rfl, _, _, hc1, hc2, _⟩
  · obtain rfl : l = [] := List.length_eq_zero_iff.1 h0
    clear h hn h0
    have hal := (Below.refl w.heap.size w).alloc (Nat.le_refl _) (.cells #[.slice none 0 0] 111)
    have HB := hideN hal
    have HX := hideN (Blk.new w #[.slice none 0 0] 111)
    clear hal
    go_enter Tryz.func111, Tryz.ntmps111
    go_wp2_with fail
    go_ret
    refine ⟨_, .slice none 0 0, rfl, ⟨HX.out, World.ownsRow_nil _ _ _ _⟩, fun k hk => ?_, HB.out⟩
    rcases hk with rfl | hk
    · exact Nat.le_refl _
    · cases hk
  · have HR := hideN h.row
    clear h hn
    go_enter Tryz.func111, Tryz.ntmps111
    go_wp2_with (at_builtin; refine wpList_append_own _ rfl (.tmp 4) (.tmp 8) 56 rfl w.heap.size 78 ti (heldV ((0, 0), 0, [])) 4 40 Tryz.underlying56 hti hz0 hz1 hz2 rfl (by decide) (.slice none 0 0) 0 [] rfl (World.ownsRow_nil _ _ _ _) ⟨g, 0, none⟩ l.length cap (heldCells l) rfl (heldCells_length l) (fun j' u hj' => HR.out.cells (g := g) rfl j' u hj') (heldCells_one _) (by have := HN.out; unfold maxLen; omega) (by have := HN.out; omega) (Nat.le_refl _) ?_; intro v3 w3 ho3 hg3 _; rw [Nat.zero_add, List.nil_append] at ho3; have hB3 : Below w.heap.size w w3 := (Below.refl _ w).grown hg3 (Nat.le_refl _) (fun k hk => by cases hk); have HO3 := hideN ho3; have HB3 := hideN hB3; clear hg3 ho3 hB3; obtain ⟨p3, c3, hu3⟩ := row_shapeK HO3.out; subst hu3)
    go_ret
    have hal := (Below.refl w3.heap.size w3).alloc (Nat.le_refl _) (.cells #[.slice p3 l.length c3] 111)
    refine ⟨_, rfl, _, ⟨Blk.new w3 #[.slice p3 l.length c3] 111, ownsRow_low (row_below HO3.out hal) (Nat.zero_le _)⟩, fun k hk => ?_, HB3.out.trans (hal.mono HB3.out.size)⟩
    rcases hk with rfl | hk
    · exact HB3.out.size
    · exact (HO3.out.lt k hk).1
end Go.Proofs.YtjdobbjdlighpabGreatDoor
namespace Go.Proofs.YtjdobbjdlighpabGreatDoor
open Go.RowKit Go.Maps

theorem mbCells_same : ∀ (bs : List MB) (k : Nat) (hk : k < bs.length) (l : List Hd) (v : Value), mbCells (bs.set k ((bs[k].1.1, l), bs[k].2.1, v)) = mbCells bs
  | [], _, h, _, _ => by simp at h
  | x :: r, 0, _, l, v => rfl
  | x :: r, k + 1, h, l, v => by
    have := mbCells_same r k (by simpa using h) l v
    simp only [List.set_cons_succ, List.getElem_cons_succ, mbCells]
    rw [this]
/- One bin has turned, in its own blocks. -/
theorem MSt.turn {w w' : World} {M : Nat} {vf vb : Value} {ps : List MF} {bs : List MB} (h : MSt w M vf vb ps bs) {k : Nat} (hk : k < bs.length) {l : List Hd} {v : Value} (hb : RBin w' bs[k].2.1 v l) (hnew : ∀ j, v.ownBlock = some j → w.heap.size ≤ j) (ho : Off (RBin.Of bs[k].2.1 bs[k].2.2) w w') :
    MSt w' M vf vb ps (bs.set k ((bs[k].1.1, l), bs[k].2.1, v)) ∧ (∀ j, mBins (bs.set k ((bs[k].1.1, l), bs[k].2.1, v)) j → mBins bs j ∨ w.heap.size ≤ j) := by
  have hkm : bs[k] ∈ bs := List.getElem_mem hk
  have hin : ∀ j, RBin.Of bs[k].2.1 bs[k].2.2 j → mBins bs j := fun j hj => ⟨_, hkm, hj⟩
  have hz : ∀ j, RBin.Of bs[k].2.1 v j → RBin.Of bs[k].2.1 bs[k].2.2 j ∨ w.heap.size ≤ j := fun j hj => by
    rcases hj with hj | hj
    · exact .inl (.inl hj)
    · exact .inr (hnew j hj)
  have hl := h.lt
  have hap : ∀ i (hi : i < bs.length), i ≠ k → ∀ j, RBin.Of bs[i].2.1 bs[i].2.2 j → ¬ RBin.Of bs[k].2.1 bs[k].2.2 j := fun i hi hne j h1 h2 => by
    have hp := List.pairwise_iff_getElem.1 h.bb
    rcases Nat.lt_or_gt_of_ne hne with e | e
    · exact hp i k hi hk e j h1 h2
    · exact hp k i hk hi e j h2 h1
  have hmem : ∀ j, mBins (bs.set k ((bs[k].1.1, l), bs[k].2.1, v)) j → mBins bs j ∨ w.heap.size ≤ j := fun j ⟨y, hy, hj⟩ => by
    rcases List.mem_or_eq_of_mem_set hy with hy | rfl
    · exact .inl ⟨y, hy, hj⟩
    · exact (hz j hj).imp (hin j) id
  have hx : ∀ i (hi : i < bs.length), ∀ j, RBin.Of bs[i].2.1 bs[i].2.2 j → j < w.heap.size := fun i hi j hj => hl j (.inr (.inr (.inr (.inl ⟨_, List.getElem_mem hi, hj⟩))))
  refine ⟨⟨ho.blk h.blk (fun e => (h.bm M (hin M e)).1 rfl), ho.row h.frow (fun j hj e => (h.bm j (hin j e)).2.1 hj), ?_, fun q hq => (h.ids q hq).off ho (fun hne j hj e => (h.io j ⟨q, hq, hne, hj⟩).2.2.2 (hin j e)), fun y hy => ?_, h.mf, h.mb, h.fb, fun j hj => ?_, ?_, fun j hj => ?_⟩, hmem⟩
  · rw [mbCells_same bs k hk l v, List.length_set]
    exact ho.row h.brow (fun j hj e => (h.bm j (hin j e)).2.2 hj)
  · obtain ⟨i, hi, rfl⟩ := List.getElem_of_mem hy
    rw [List.length_set] at hi
    rw [List.getElem_set]
    split
    · exact hb
    · rename_i e
      exact (h.bins _ (List.getElem_mem hi)).off ho (fun j hj e2 => hap i hi (fun e3 => e e3.symm) j hj e2)
  · rcases hmem j hj with hj | hj
    · exact h.bm j hj
    · exact ⟨fun e => by have := hl M (.inl rfl); omega, fun e => by have := hl j (.inr (.inl e)); omega, fun e => by have := hl j (.inr (.inr (.inl e))); omega⟩
  · rw [List.pairwise_iff_getElem]
    intro i i2 hi hi2 hlt j h1 h2
    rw [List.length_set] at hi hi2
    rw [List.getElem_set] at h1 h2
    split at h1
    · rename_i e
      subst e
      rw [if_neg (by omega)] at h2
      rcases hz j h1 with h1 | h1
      · exact hap i2 hi2 (by omega) j h2 h1
      · have := hx i2 hi2 j h2
        omega
    · split at h2
      · rename_i e
        subst e
        rcases hz j h2 with h2 | h2
        · exact hap i hi (by omega) j h1 h2
        · have := hx i hi j h1
          omega
      · exact List.pairwise_iff_getElem.1 h.bb i i2 hi hi2 hlt j h1 h2
  · obtain ⟨h1, h2, h3, h4⟩ := h.io j hj
    refine ⟨h1, h2, h3, fun e => ?_⟩
    rcases hmem j e with e | e
    · exact h4 e
    · have := hl j (.inr (.inr (.inr (.inr hj))))
      omega
theorem sw_step {α : Type} (f : α → α) (l : List α) (j : Nat) (h : j < l.length) : ((l.take j).map f ++ l.drop j).set j (f l[j]) = (l.take (j + 1)).map f ++ l.drop (j + 1) := by
  have hlen : ((l.take j).map f).length = j := by rw [List.length_map, List.length_take, Nat.min_eq_left (Nat.le_of_lt h)]
  rw [List.drop_eq_getElem_cons h, List.set_append_right _ _ (by omega), hlen, Nat.sub_self, List.set_cons_zero, take_map_snoc f l j h, List.append_assoc]
  rfl
theorem sw_at {α : Type} (f : α → α) (l : List α) (j : Nat) (h : j < l.length) (h2 : j < ((l.take j).map f ++ l.drop j).length) : ((l.take j).map f ++ l.drop j)[j] = l[j] := by
  have hlen : ((l.take j).map f).length = j := by rw [List.length_map, List.length_take, Nat.min_eq_left (Nat.le_of_lt h)]
  have hm : min j l.length = j := Nat.min_eq_left (Nat.le_of_lt h)
  rw [List.getElem_append_right (by omega)]
  simp [hm]
def swB (b : NBin) : NBin := (b.1, (hSweep b.2).2)
def swN (bs : List NBin) : Int := (bs.map fun b => (hSweep b.2).1).sum
theorem swN_take (bs : List NBin) (j : Nat) (h : j < bs.length) : swN (bs.take (j + 1)) = swN (bs.take j) + (hSweep bs[j].2).1 := by
  unfold swN
  rw [take_map_snoc (fun b : NBin => (hSweep b.2).1) bs j h, List.sum_append]
  simp
theorem swN_bound : ∀ (l : List NBin), (∀ b ∈ l, BinOk 1000000 b.2) → 0 ≤ swN l ∧ swN l ≤ l.length * 16000
  | [], _ => by simp [swN]
  | b :: r, h => by
    have h1 := swN_bound r (fun c hc => h c (List.mem_cons_of_mem _ hc))
    have h2 := hSize_filter_bound (h b (List.mem_cons_self ..)) unused
    have e : (hSweep b.2).1 = hSize (b.2.filter unused) := rfl
    have e2 : swN (b :: r) = (hSweep b.2).1 + swN r := by simp [swN]
    rw [e2, e, List.length_cons]
    omega
set_option maxRecDepth 100000 in
set_option maxHeartbeats 8000000 in
theorem mSweep_any (M : Nat) (vf vb : Value) (ps : List MF) (bs : List MB) (w : World) (hn : bs.length ≤ 1000) (hok : ∀ b ∈ mBs bs, BinOk 1000000 b.2) (h : MSt w M vf vb ps bs) :
    Calls Tryz.prog 47 #[.pointer (some ⟨M, 0, none⟩)] w fun e w' => e = .returned (.int .i64 (swN (mBs bs))) ∧ ∃ bs', mBs bs' = (mBs bs).map swB ∧ MSt w' M vf vb ps bs' ∧ (∀ k, mBins bs' k → mBins bs k ∨ w.heap.size ≤ k) ∧ Off (mBins bs) w w' := by
  obtain ⟨pb, cb, rfl, _⟩ := h.reps
  have HH := hideN h
  have HOK := hideN hok
  have hl2 : (bs.length : Int) ≤ 1000 := by omega
  have HBD : Hid (∀ j, j ≤ bs.length → 0 ≤ swN ((mBs bs).take j) ∧ swN ((mBs bs).take j) ≤ 16000000) := fun j hj => by
    have := swN_bound ((mBs bs).take j) (fun b hb => hok b (List.mem_of_mem_take hb))
    rw [List.length_take, mBs_length, Nat.min_eq_left hj] at this
    omega
  clear h hn hok
  go_enter Tryz.func47, Tryz.ntmps47
  go_wp2_with fail
  go_loopw [3, 4] (fun u i wr => ∃ (j : Nat) (bs' : List MB), j ≤ bs.length ∧ i = .int .i64 j ∧ u = .int .i64 (swN ((mBs bs).take j)) ∧ Hid (MSt wr M vf (.slice pb bs.length cb) ps bs') ∧ Hid (mBs bs' = ((mBs bs).take j).map swB ++ (mBs bs).drop j) ∧ Hid (∀ k, mBins bs' k → mBins bs k ∨ w.heap.size ≤ k) ∧ Hid (Off (mBins bs) w wr)) (fun _ i _ => bs.length - (intOf i).toNat)
  case atStart => exact ⟨0, bs, Nat.zero_le _, rfl, rfl, HH.out, by show _ = _; simp, fun k hk => .inl hk, Off.refl _ _⟩
  case round =>
    obtain ⟨j, bs', hj, rfl, rfl, HS, HE, HMB, HO⟩ := hrel
    have hlen : bs'.length = bs.length := by
      have := congrArg List.length HE.out
      rw [mBs_length, List.length_append, List.length_map, List.length_take, List.length_drop, mBs_length] at this
      omega
    have HLEN := hideN hlen
    have q0 := HS.out.blk.cell (i := 1) rfl
    by_cases hlt : j < bs.length
    · have hlt' : (j : Int) < (bs.length : Int) := by omega
      have hj0 : (0 : Int) ≤ (j : Int) := by omega
      obtain ⟨pb', cb', hvb', hcell⟩ := HS.out.reps
      obtain ⟨rfl, _, rfl⟩ : pb = pb' ∧ bs.length = bs'.length ∧ cb = cb' := by simpa using hvb'
      have hjl : j < bs'.length := by omega
      obtain ⟨b, o, rfl, _, _, _, a2⟩ := hcell j hjl
      have hjm : j < (mBs bs).length := by rw [mBs_length]; exact hlt
      have hkey : bs'[j].1 = (mBs bs)[j] := by
        have h1 := mBs_get bs' j (by rw [mBs_length]; exact hjl)
        rw [← h1]
        have h2 := sw_at swB (mBs bs) j hjm (by rw [← HE.out, mBs_length]; exact hjl)
        rw [← h2]
        congr 1
      have hsn := swN_take (mBs bs) j hjm
      obtain ⟨n1, n2⟩ := HBD.out j hj
      obtain ⟨m1, m2⟩ := HBD.out (j + 1) hlt
      rw [hsn] at m1 m2
      have HSN := hideN hsn
      have hbk := HOK.out _ (List.getElem_mem hjm)
      rw [← hkey] at hbk
      have HSW := hideN (rSweep_any bs'[j].2.1 bs'[j].2.2 bs'[j].1.2 wr hbk.many hbk.lens (HS.out.bins _ (List.getElem_mem hjl)))
      have HTURN : Hid (∀ w' v, RBin w' bs'[j].2.1 v (hSweep bs'[j].1.2).2 → (∀ k, v.ownBlock = some k → wr.heap.size ≤ k) → Off (RBin.Of bs'[j].2.1 bs'[j].2.2) wr w' → MSt w' M vf (.slice (some ⟨b, o, none⟩) bs.length cb) ps (bs'.set j ((bs'[j].1.1, (hSweep bs'[j].1.2).2), bs'[j].2.1, v)) ∧ Off (mBins bs) w w' ∧ (∀ k, mBins (bs'.set j ((bs'[j].1.1, (hSweep bs'[j].1.2).2), bs'[j].2.1, v)) k → mBins bs k ∨ w.heap.size ≤ k)) := fun w' v h1 h2 h3 => by
        obtain ⟨t1, t2⟩ := HS.out.turn hjl h1 h2 h3
        refine ⟨t1, HO.out.trans h3 (fun i hi hf => ?_), fun k hk => ?_⟩
        · rcases HMB.out i ⟨_, List.getElem_mem hjl, hf⟩ with e | e
          · exact e
          · omega
        · rcases t2 k hk with e | e
          · exact HMB.out k e
          · exact .inr (Nat.le_trans HO.out.size e)
      have HEQ : Hid (∀ v, mBs (bs'.set j ((bs'[j].1.1, (hSweep bs'[j].1.2).2), bs'[j].2.1, v)) = ((mBs bs).take (j + 1)).map swB ++ (mBs bs).drop (j + 1)) := fun v => by
        rw [← sw_step swB (mBs bs) j hjm, ← HE.out, ← hkey]
        unfold mBs
        rw [List.map_set]
        rfl
      have hsz : (hSweep bs'[j].1.2).1 = (hSweep (mBs bs)[j].2).1 := by rw [hkey]
      rw [hsz] at HSW
      obtain ⟨BB, hBB⟩ : ∃ BB, bs'[j].2.1 = BB := ⟨_, rfl⟩
      obtain ⟨SZ, hSZ⟩ : ∃ SZ, (hSweep (mBs bs)[j].2).1 = SZ := ⟨_, rfl⟩
      have HBB := hideN hBB
      rw [hSZ] at HSW m1 m2 HSN
      have HSW2 : Hid (Calls Tryz.prog 115 #[.pointer (some ⟨BB, 0, none⟩)] wr fun e w' => ∃ v', e = .returned (.int .i64 SZ) ∧ RBin w' bs'[j].2.1 v' (hSweep bs'[j].1.2).2 ∧ (∀ k, v'.ownBlock = some k → wr.heap.size ≤ k) ∧ Off (RBin.Of bs'[j].2.1 bs'[j].2.2) wr w') := by rw [← hBB]; exact HSW.out
      rw [hBB] at a2
      obtain ⟨n, hnn⟩ : ∃ n, swN ((mBs bs).take j) = n := ⟨_, rfl⟩
      rw [hnn] at n1 n2 m1 m2 HSN ⊢
      have hw : IntKind.i64.wrap (n + SZ) = n + SZ := by rw [IntKind.wrap_i64]; omega
      clear hsn hbk hBB hSZ hnn hsz hkey hcell hvb' hlen HSW
      go_wp2_with fail
      refine HSW2.out.mono ?_
      rintro e w5 ⟨v5, rfl, h1, h2, h3⟩
      obtain ⟨t1, t2, t3⟩ := HTURN.out w5 v5 h1 h2 h3
      have HT1 := hideN t1
      have HT2 := hideN t2
      have HT3 := hideN t3
      clear h1 h2 h3 t1 t2 t3
      go_wp2_with fail
      go_roundw
      case rel => exact ⟨j + 1, _, hlt, by go_num, by rw [HSN.out], HT1.out, HEQ.out v5, HT3.out, HT2.out⟩
      case measure => simp [intOf]; omega
    · have hge : (bs.length : Int) ≤ (j : Int) := by omega
      obtain rfl : j = bs.length := by omega
      have ht : (mBs bs).take bs.length = mBs bs := List.take_of_length_le (by rw [mBs_length]; exact Nat.le_refl _)
      have hd : (mBs bs).drop bs.length = [] := List.drop_of_length_le (by rw [mBs_length]; exact Nat.le_refl _)
      rw [ht, hd, List.append_nil] at HE
      rw [ht]
      obtain ⟨n, hnn⟩ : ∃ n, swN (mBs bs) = n := ⟨_, rfl⟩
      have HNN := hideN hnn
      rw [hnn]
      clear hlt hnn ht hd hlen
      go_wp2_with fail
      go_ret
      exact ⟨by rw [HNN.out]; rfl, _, HE.out, HS.out, HMB.out, HO.out⟩
end Go.Proofs.YtjdobbjdlighpabGreatDoor
namespace Go.Proofs.YtjdobbjdlighpabGreatDoor
open Go.RowKit Go.Maps

def ofRep (fs : List NFile) (x : Nat × Int) : List NFile := fs.filter (fun f => decide (repT f.2 = x))
theorem ofRep_snoc (fs : List NFile) (x : Nat × Int) (j : Nat) (h : j < fs.length) : (ofRep (fs.take (j + 1)) x).length = (ofRep (fs.take j) x).length + (if repT fs[j].2 = x then 1 else 0) := by
  unfold ofRep
  rw [List.take_succ_eq_append_getElem h, List.filter_append, List.length_append]
  by_cases e : repT fs[j].2 = x
  · simp [e]
  · simp [e]
theorem ofRep_le (fs : List NFile) (x : Nat × Int) (j : Nat) : (ofRep (fs.take j) x).length ≤ j := by
  unfold ofRep
  exact Nat.le_trans (List.length_filter_le _ _) (by rw [List.length_take]; omega)
set_option maxRecDepth 100000 in
set_option maxHeartbeats 8000000 in
theorem mOfRep_any (M : Nat) (vf vb : Value) (ps : List MF) (bs : List MB) (x : Nat × Int) (w : World) (hn : ps.length ≤ 1000) (hfl : ∀ f ∈ mFs ps, f.2.length ≤ 4000) (h : MSt w M vf vb ps bs) :
    Calls Tryz.prog 100 #[.pointer (some ⟨M, 0, none⟩), idV (x.1 : Nat) x.2] w fun e w' => ∃ q c, e = .returned (.slice q (ofRep (mFs ps) x).length c) ∧ Below w.heap.size w w' := by
  obtain ⟨iS, hiS, zS0, zS1, zS2⟩ := info_parts infoStrK
  obtain ⟨pf, cf, rfl, _⟩ := h.files
  obtain ⟨xp, xl⟩ := x
  simp only
  have HH := hideN h
  have HN := hideN hn
  have HFL := hideN hfl
  have hl2 : (ps.length : Int) ≤ 1000 := by omega
  have hal := (Below.refl w.heap.size w).alloc (Nat.le_refl _) (.cells #[.int .u32 (xp : Nat), .int .i64 xl] 25)
  have HB1 := hideN hal
  have HR1 := hideN (Blk.new w #[.int .u32 (xp : Nat), .int .i64 xl] 25)
  clear h hn hfl hal
  go_enter Tryz.func100, Tryz.ntmps100
  go_wp2_with fail
  obtain ⟨W, hW⟩ : ∃ W, w.alloc (.cells #[.int .u32 (xp : Nat), .int .i64 xl] 25) = W := ⟨_, rfl⟩
  rw [hW] at HB1 HR1 ⊢
  obtain ⟨RB, hRB⟩ : ∃ RB, w.heap.size = RB := ⟨_, rfl⟩
  have HRB := hideN hRB
  rw [hRB] at HR1 ⊢
  clear hW hRB
  go_loopw [5, 6] (fun u i wr => ∃ (j : Nat) (xs : List Value), j ≤ ps.length ∧ i = .int .i64 j ∧ Hid (Below W.heap.size W wr) ∧ Hid (xs.length = (ofRep ((mFs ps).take j) (xp, xl)).length) ∧ Hid (wr.ownsRow W.heap.size 9 1 u xs.length xs)) (fun _ i _ => ps.length - (intOf i).toNat)
  case atStart => exact ⟨0, [], Nat.zero_le _, rfl, Below.refl _ _, rfl, World.ownsRow_nil _ _ _ _⟩
  case round =>
    obtain ⟨j, xs, hj, rfl, HB, HXL, HO⟩ := hrel
    have HBW : Hid (Below w.heap.size w wr) := HB1.out.trans (HB.out.mono HB1.out.size)
    have hS := HH.out.below HBW.out
    have q0 := hS.blk.cell (i := 0) rfl
    have HR2 := hideN (HR1.out.next HB.out)
    by_cases hlt : j < ps.length
    · have hlt' : (j : Int) < (ps.length : Int) := by omega
      have hj0 : (0 : Int) ≤ (j : Int) := by omega
      obtain ⟨pf', cf', hvf', hcell⟩ := hS.files
      obtain ⟨rfl, rfl⟩ : pf = pf' ∧ cf = cf' := by simpa using hvf'
      obtain ⟨b, o, rfl, ⟨hb, hc⟩, a0, a1, a2, a3⟩ := hcell j hlt
      have hjm : j < (mFs ps).length := by rw [mFs_length]; exact hlt
      have hsn := ofRep_snoc (mFs ps) (xp, xl) j hjm
      rw [mFs_get] at hsn
      have hfl := HFL.out _ (List.getElem_mem hjm)
      rw [mFs_get] at hfl
      have HLE : Hid (xs.length ≤ j) := by show _ ≤ _; rw [HXL.out]; exact ofRep_le _ _ _
      have hids := HH.out.ids _ (List.getElem_mem hlt)
      have HCL0 : Hid (∀ W', Below wr.heap.size wr W' → W'.cell? ⟨M, 0, none⟩ = some (.slice (some ⟨b, o, none⟩) ps.length cf) ∧ W'.cell? ⟨b, o + j * 4, none⟩ = some (.string ⟨ps[j].1.1.toArray⟩) ∧ W'.cell? ⟨b, o + j * 4 + 1, none⟩ = some (.int .i64 (ps[j].1.2.length : Int)) ∧ W'.cell? ⟨b, o + j * 4 + 2, none⟩ = some (.int .u32 ((pmore 2166136261 ps[j].1.2 : Nat) : Int)) ∧ W'.cell? ⟨b, o + j * 4 + 3, none⟩ = some ps[j].2 ∧ W'.cell? ⟨RB, 0, none⟩ = some (.int .u32 (xp : Nat)) ∧ W'.cell? ⟨RB, 1, none⟩ = some (.int .i64 xl)) := fun W' hbw => ⟨(hS.below hbw).blk.cell (i := 0) rfl, (hbw.cell (p := ⟨b, o + j * 4, none⟩) hb).trans a0, (hbw.cell (p := ⟨b, o + j * 4 + 1, none⟩) hb).trans a1, (hbw.cell (p := ⟨b, o + j * 4 + 2, none⟩) hb).trans a2, (hbw.cell (p := ⟨b, o + j * 4 + 3, none⟩) hb).trans a3, (HR2.out.next hbw).cell (i := 0) rfl, (HR2.out.next hbw).cell (i := 1) rfl⟩
      have hidl' : (idsOf ps[j].1.2).length ≤ maxLen := by have h1 := pieces_len_le ps[j].1.2; unfold idsOf maxLen; rw [List.length_map]; omega
      have HIDS : Hid (∀ W', Below wr.heap.size wr W' → IdsAt W' ps[j].2 (idsOf ps[j].1.2)) := fun W' hbw => (hids.below HBW.out).below hbw
      obtain ⟨⟨⟨f1, s⟩, fv⟩, hq⟩ : ∃ q, ps[j] = q := ⟨_, rfl⟩
      rw [hq] at hsn HCL0 hidl' HIDS
      simp only at hsn HCL0 hidl' HIDS
      obtain ⟨pv, cv, hfv, _⟩ := id (HIDS.out wr (Below.refl _ _))
      obtain ⟨X, hX⟩ : ∃ X : ByteArray, (⟨f1.toArray⟩ : ByteArray) = X := ⟨_, rfl⟩
      obtain ⟨PP, hPP⟩ : ∃ PP, pmore 2166136261 s = PP := ⟨_, rfl⟩
      obtain ⟨LL, hLL⟩ : ∃ LL, (s.length : Int) = LL := ⟨_, rfl⟩
      obtain ⟨idl, hidl⟩ : ∃ idl, (idsOf s).length = idl := ⟨_, rfl⟩
      rw [hidl] at hfv
      subst hfv
      rw [hX, hPP, hLL] at HCL0
      have HREP : Hid (∀ W', Below wr.heap.size wr W' → Calls Tryz.prog 105 #[rcpV X LL (PP : Nat) (.slice pv idl cv)] W' fun e w' => e = .returned (idV ((repT s).1 : Nat) (repT s).2) ∧ Below W'.heap.size W' w') := fun W' hbw => refRepOf_any X LL (PP : Nat) (.slice pv idl cv) (idsOf s) W' (HIDS.out W' hbw) hidl'
      have HCL := hideN HCL0.out
      have HSN := hideN hsn
      obtain ⟨⟨rp, rl⟩, hr⟩ : ∃ r, repT s = r := ⟨_, rfl⟩
      have HRT := hideN hr
      rw [hr] at HREP HSN
      simp only at HREP
      obtain ⟨d0, d1, d2, d3, d4, d5, d6⟩ := HCL.out wr (Below.refl _ _)
      clear hS hvf' hcell a0 a1 a2 a3 hsn hfl hids HCL0 hidl' hq hX hPP hLL hidl hr q0 hb hc
      by_cases e1 : (rp : Int) = (xp : Int)
      · by_cases e2 : rl = xl
        · have HE : Hid (xs.length + 1 = (ofRep ((mFs ps).take (j + 1)) (xp, xl)).length) := by
            show _ = _
            rw [HSN.out, HXL.out, if_pos (by rw [e2, show rp = xp by omega])]
          obtain rfl : xl = rl := e2.symm
          obtain rfl : xp = rp := by omega
          go_wp2_with fail
          go_region_held3 (fun w' => w'.cell? ⟨M, 0, none⟩ = some (.slice (some ⟨b, o, none⟩) ps.length cf) ∧ w'.cell? ⟨b, o + j * 4, none⟩ = some (.string X) ∧ w'.cell? ⟨b, o + j * 4 + 1, none⟩ = some (.int .i64 LL) ∧ w'.cell? ⟨b, o + j * 4 + 2, none⟩ = some (.int .u32 (PP : Nat)) ∧ w'.cell? ⟨b, o + j * 4 + 3, none⟩ = some (.slice pv idl cv) ∧ w'.cell? ⟨RB, 0, none⟩ = some (.int .u32 (xp : Nat)) ∧ w'.cell? ⟨RB, 1, none⟩ = some (.int .i64 xl)) (go_keep) (first
          | (go_at_call 105; refine (HREP.out _ (Below.refl _ wr).drew).mono ?_; rintro e w3 ⟨rfl, hb3⟩; have HB4 : Hid (Below wr.heap.size wr w3) := (Below.refl _ wr).drew.trans (hb3.mono (Nat.le_refl _)); obtain ⟨z0, z1, z2, z3, z4, z5, z6⟩ := HCL.out w3 HB4.out; clear hb3))
          have HO3 := hideN (row_below HO.out HB4.out)
          have HBB : Hid (Below W.heap.size W w3) := HB.out.trans (HB4.out.mono HB.out.size)
          have HJ := hideN hlt
          clear d0 d1 d2 d3 d4 d5 d6
          go_wp2_with (at_builtin; refine wpList_append_own _ rfl (.tmp 26) (.tmp 35) 73 rfl W.heap.size 9 iS (.string ⟨#[]⟩) 1 16 Tryz.underlying73 hiS zS0 zS1 zS2 rfl (by decide) u5 xs.length _ rfl (HO3.out.alloc _) ⟨w3.heap.size, 0, none⟩ 1 1 [.string X] rfl rfl (cell_one_atK rfl) (by intro u hu; simp at hu; subst hu; rfl) (by have := HN.out; have := HJ.out; have := HLE.out; unfold maxLen; omega) (by have := HN.out; have := HJ.out; have := HLE.out; omega) (by have := HBB.out.size; simp; omega) ?_; intro v5 w5 ho5 hg5 _; have hB5 : Below W.heap.size W w5 := (HBB.out.alloc HBB.out.size _).grown hg5 (by have := HBB.out.size; simp; omega) (fun k hk => (HO.out.lt k hk).1); have HO5 := hideN ho5; have HB5 := hideN hB5; clear hg5 ho5 hB5)
          go_roundw
          case rel => exact ⟨j + 1, xs ++ [.string X], hlt, by go_num, HB5.out, by rw [List.length_append]; exact HE.out, by rw [List.length_append]; exact HO5.out⟩
          case measure => simp [intOf]; omega
        · have HE : Hid (xs.length = (ofRep ((mFs ps).take (j + 1)) (xp, xl)).length) := by
            show _ = _
            rw [HSN.out, HXL.out, if_neg (fun e => e2 (Prod.mk.inj e).2)]
            rfl
          obtain rfl : xp = rp := by omega
          have e2' : (rl == xl) = false := beq_eq_false_iff_ne.2 e2
          go_wp2_with fail
          go_region_held3 (fun w' => w'.cell? ⟨M, 0, none⟩ = some (.slice (some ⟨b, o, none⟩) ps.length cf) ∧ w'.cell? ⟨b, o + j * 4, none⟩ = some (.string X) ∧ w'.cell? ⟨b, o + j * 4 + 1, none⟩ = some (.int .i64 LL) ∧ w'.cell? ⟨b, o + j * 4 + 2, none⟩ = some (.int .u32 (PP : Nat)) ∧ w'.cell? ⟨b, o + j * 4 + 3, none⟩ = some (.slice pv idl cv) ∧ w'.cell? ⟨RB, 0, none⟩ = some (.int .u32 (xp : Nat)) ∧ w'.cell? ⟨RB, 1, none⟩ = some (.int .i64 xl)) (go_keep) (first
          | (go_at_call 105; refine (HREP.out _ (Below.refl _ wr).drew).mono ?_; rintro e w3 ⟨rfl, hb3⟩; have HB4 : Hid (Below wr.heap.size wr w3) := (Below.refl _ wr).drew.trans (hb3.mono (Nat.le_refl _)); obtain ⟨z0, z1, z2, z3, z4, z5, z6⟩ := HCL.out w3 HB4.out; clear hb3))
          have HO3 := hideN (row_below HO.out HB4.out)
          have HBB : Hid (Below W.heap.size W w3) := HB.out.trans (HB4.out.mono HB.out.size)
          clear d0 d1 d2 d3 d4 d5 d6
          go_wp2_with fail
          go_roundw
          case rel => exact ⟨j + 1, xs, hlt, by go_num, HBB.out, HE.out, HO3.out⟩
          case measure => simp [intOf]; omega
      · have HE : Hid (xs.length = (ofRep ((mFs ps).take (j + 1)) (xp, xl)).length) := by
          show _ = _
          rw [HSN.out, HXL.out, if_neg (fun e => e1 (by rw [(Prod.mk.inj e).1]))]
          rfl
        have e1' : ((rp : Int) == (xp : Int)) = false := beq_eq_false_iff_ne.2 e1
        go_wp2_with fail
        go_region_held3 (fun w' => w'.cell? ⟨M, 0, none⟩ = some (.slice (some ⟨b, o, none⟩) ps.length cf) ∧ w'.cell? ⟨b, o + j * 4, none⟩ = some (.string X) ∧ w'.cell? ⟨b, o + j * 4 + 1, none⟩ = some (.int .i64 LL) ∧ w'.cell? ⟨b, o + j * 4 + 2, none⟩ = some (.int .u32 (PP : Nat)) ∧ w'.cell? ⟨b, o + j * 4 + 3, none⟩ = some (.slice pv idl cv) ∧ w'.cell? ⟨RB, 0, none⟩ = some (.int .u32 (xp : Nat)) ∧ w'.cell? ⟨RB, 1, none⟩ = some (.int .i64 xl)) (go_keep) (first
          | (go_at_call 105; refine (HREP.out _ (Below.refl _ wr).drew).mono ?_; rintro e w3 ⟨rfl, hb3⟩; have HB4 : Hid (Below wr.heap.size wr w3) := (Below.refl _ wr).drew.trans (hb3.mono (Nat.le_refl _)); obtain ⟨z0, z1, z2, z3, z4, z5, z6⟩ := HCL.out w3 HB4.out; clear hb3))
        have HO3 := hideN (row_below HO.out HB4.out)
        have HBB : Hid (Below W.heap.size W w3) := HB.out.trans (HB4.out.mono HB.out.size)
        clear d0 d1 d2 d3 d4 d5 d6
        go_wp2_with fail
        go_roundw
        case rel => exact ⟨j + 1, xs, hlt, by go_num, HBB.out, HE.out, HO3.out⟩
        case measure => simp [intOf]; omega
    · have hge : (ps.length : Int) ≤ (j : Int) := by omega
      have ht : (mFs ps).take j = mFs ps := List.take_of_length_le (by rw [mFs_length]; omega)
      rw [ht] at HXL
      obtain ⟨q5, c5, hu5⟩ := row_shapeK HO.out
      subst hu5
      clear hS hlt ht
      go_wp2_with fail
      go_ret
      rw [← HXL.out]
      exact ⟨_, _, rfl, HBW.out⟩
end Go.Proofs.YtjdobbjdlighpabGreatDoor
