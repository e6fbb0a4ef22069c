/-
  Own text. scrubbed: it returns true.
  Own text. One more use told of a piece: what is right stays right but for uses; the first error is there.
  Own text. noded: it returns true.
  Own text. Acts on a node as they lie (Acts3At); LongActs by a contract.
  Own text. A node in memory behind a file that was dropped, a bin that went, a bin that was turned; delete of a map's entry outside a range.
-/
import Derived.Test.YtjdobbjdlighpabGreatDoorG35
import Derived.Test.YtjdobbjdlighpabGreatDoorG31
import Derived.Test.YtjdobbjdlighpabGreatDoorG23
import Derived.Test.YtjdobbjdlighpabGreatDoorG32
namespace Go.Proofs.YtjdobbjdlighpabGreatDoor
open Go.RowKit Go.Maps

abbrev helloS : ByteArray := ⟨#[104, 101, 108, 108, 111]⟩
theorem ok1s : NOk 4000 1 st1 := by
  have := NOk.empty.put (by decide) [97] helloL
  rw [put1] at this
  exact this
theorem inv1s : NInv st1 := by
  have := NInv.empty.put NOk.empty (by decide) [97] helloL
  rw [put1] at this
  exact this
theorem full1s : NFull st1 := by
  have := NFull.empty.put [97] helloL
  rw [put1] at this
  exact this
theorem files1s : FilesIn [rcpOf ([97], helloL)] := (right_of (fl := [([97], helloL)]) (bl := st1.bins) inv1s full1s ok1s (by decide) (List.Perm.refl _) (List.Perm.refl _) (List.pairwise_singleton _ _) (List.pairwise_singleton _ _)).1.toFilesIn
set_option maxRecDepth 100000 in
set_option maxHeartbeats 4000000 in
theorem scrubbed_any (a : Nat → Addr) (w : World) (hE : ErrW w a) :
    Calls Tryz.prog 18 #[] w fun e w' => e = .returned (.bool true) ∧ Below w.heap.size w w' := by
  have HEE : Hid (∀ W, Below w.heap.size w W → ErrW W a) := fun W hb => hE.below hb (Nat.le_refl _)
  clear hE
  go_enter Tryz.func18, Tryz.ntmps18
  go_wp2_with fail
  refine (nNew_any w).mono ?_
  rintro e w1 ⟨p, F1, rfl, hP1, hF1, hb1⟩
  have HB1 := hideN hb1
  have HP1 := hideN hP1
  have HF1 := hideN hF1
  clear hb1 hP1 hF1
  go_wp2_with fail
  refine (nodePut_any a ⟨#[97]⟩ helloS p F1 0 ⟨[], []⟩ w1 (by decide) (by decide) ⟨by decide, by decide⟩ (fun b hb => by simp at hb) (by simp) ((HEE.out _ HB1.out).on (by decide)) HP1.out).mono ?_
  rw [show (⟨#[97]⟩ : ByteArray).data.toList = [97] from rfl, show helloS.data.toList = helloL from rfl, put1]
  rintro e w2 ⟨ev2, F2, rfl, he2, hP2, hF2, ho2⟩
  simp only at he2 hP2
  obtain rfl := he2.nil
  have HB2 : Hid (Below w.heap.size w w2) := HB1.out.trans (ho2.below HB1.out.size (fun j hj hF => by have := HF1.out j hF; omega))
  have HP2 := hideN hP2
  clear he2 hP2 hF2 ho2 HP1 HF1 HB1
  have HRC := hideN (nodeRecipe_any a ⟨#[97]⟩ p F2 st1 w2 (by decide) (fun f hf => by rw [idsOf_length]; have := pieces_250 _ (ok1s.files f hf).1; omega) ((HEE.out _ HB2.out).on (by decide)) HP2.out)
  unfold RecPost at HRC
  rw [show nFile st1.files (⟨#[97]⟩ : ByteArray).data.toList = some helloL by decide] at HRC
  go_wp2_with fail
  refine HRC.out.mono ?_
  rintro e w3 ⟨⟨v3, rfl, hi3⟩, hb3⟩
  obtain ⟨q3, c3, hv3, _⟩ := id hi3
  have hlen : (idsOf helloL).length = 1 := by rw [idsOf_length, helloPieces]; rfl
  rw [hlen] at hv3
  subst hv3
  obtain ⟨PP, hPP⟩ : ∃ PP : Nat, pmore 2166136261 helloL = PP := ⟨_, rfl⟩
  rw [hPP]
  have HPP := hideN hPP
  have hal4 := (Below.refl w3.heap.size w3).alloc (Nat.le_refl _) (.cells #[.string ⟨#[97]⟩, .int .i64 5, .int .u32 (PP : Nat), .slice q3 1 c3] 40)
  have HB4 : Hid (Below w.heap.size w _) := hideN ((HB2.out.trans (hb3.mono HB2.out.size)).trans (hal4.mono (Nat.le_trans HB2.out.size hb3.size)))
  have HP4 := hideN ((HP2.out.below hb3).below hal4)
  have HX4 := hideN (Blk.new w3 #[.string ⟨#[97]⟩, .int .i64 5, .int .u32 (PP : Nat), .slice q3 1 c3] 40)
  have HI4 := hideN (hi3.at.below hal4)
  clear hi3 hb3 hal4 HRC HP2 HB2 hPP hlen
  go_wp2_with fail
  obtain ⟨W4, hW4⟩ : ∃ W4, w3.alloc (.cells #[.string ⟨#[97]⟩, .int .i64 5, .int .u32 (PP : Nat), .slice q3 1 c3] 40) = W4 := ⟨_, rfl⟩
  obtain ⟨RB, hRB⟩ : ∃ RB, w3.heap.size = RB := ⟨_, rfl⟩
  rw [hW4] at HB4 HP4 HX4 HI4 ⊢
  rw [hRB] at HX4 ⊢
  clear hW4 hRB
  have HOF := hideN (scrubOf_right a p F2 4000 1 st1 W4 inv1s full1s ok1s (by decide) (by decide) ((HEE.out _ HB4.out).on (by decide)) HP4.out)
  refine HOF.out.mono ?_
  rintro e w5 ⟨rfl, hb5⟩
  have HX5 := hideN (HX4.out.next hb5)
  have r0 := HX5.out.cell (i := 0) rfl
  have r1 := HX5.out.cell (i := 1) rfl
  have r2 := HX5.out.cell (i := 2) rfl
  have r3 := HX5.out.cell (i := 3) rfl
  have hal6 := (Below.refl w5.heap.size w5).alloc (Nat.le_refl _) (.cells #[.string ⟨#[97]⟩, .int .i64 5, .int .u32 (PP : Nat), .slice q3 1 c3] 40)
  have HB6 : Hid (Below w.heap.size w _) := hideN ((HB4.out.trans (hb5.mono HB4.out.size)).trans (hal6.mono (Nat.le_trans HB4.out.size hb5.size)))
  have HX6 := hideN (Blk.new w5 #[.string ⟨#[97]⟩, .int .i64 5, .int .u32 (PP : Nat), .slice q3 1 c3] 40)
  have HI6 := hideN ((HI4.out.below hb5).below hal6)
  clear hb5 hal6 HOF HI4 HP4 HB4 HX4 HX5
  go_wp2_with fail
  clear r0 r1 r2 r3
  obtain ⟨W6, hW6⟩ : ∃ W6, w5.alloc (.cells #[.string ⟨#[97]⟩, .int .i64 5, .int .u32 (PP : Nat), .slice q3 1 c3] 40) = W6 := ⟨_, rfl⟩
  obtain ⟨SB, hSB⟩ : ∃ SB, w5.heap.size = SB := ⟨_, rfl⟩
  rw [hW6] at HB6 HX6 HI6 ⊢
  rw [hSB] at HX6 ⊢
  clear hW6 hSB
  have hra : RcpsAt W6 (.slice (some ⟨SB, 0, none⟩) 1 1) [rcpOf ([97], helloL)] := ⟨some ⟨SB, 0, none⟩, 1, rfl, fun i hi => by
    obtain rfl : i = 0 := by simp at hi; exact hi
    refine ⟨SB, 0, .slice q3 1 c3, rfl, HX6.out.lt, HX6.out.cell (i := 0) rfl, HX6.out.cell (i := 1) rfl, ?_, HX6.out.cell (i := 3) rfl, HI6.out⟩
    have := HX6.out.cell (i := 2) rfl
    rw [← HPP.out] at this
    exact this⟩
  have HCK := hideN (scrubCheck_none a _ _ W6 files1s hra ((HEE.out _ HB6.out).on (by decide)))
  clear hra
  refine HCK.out.mono ?_
  rintro e w7 ⟨ev, rfl, he, hb7⟩
  have HE7 := hideN he.at
  have HB7 : Hid (Below w.heap.size w w7) := HB6.out.trans (hb7.mono HB6.out.size)
  clear he hb7 HCK
  have HFT := hideN (faulted2_true a ev (5, 0) w7 (HEE.out _ HB7.out) HE7.out)
  go_wp2_with fail
  refine HFT.out.mono ?_
  rintro e w8 ⟨rfl, hb8⟩
  go_wp2_with fail
  go_ret
  exact ⟨rfl, HB7.out.trans (hb8.mono HB7.out.size)⟩
end Go.Proofs.YtjdobbjdlighpabGreatDoor
namespace Go.Proofs.YtjdobbjdlighpabGreatDoor
open Go.RowKit Go.Maps

def bare (h : Hd) : Hd := (h.1, 0, h.2.2)
def bareBin (b : NBin) : NBin := (b.1, b.2.map bare)
theorem strip_any (l : List Hd) (x : Nat × Int) : (l.map bare).any (fun h => decide (h.1 = x)) = l.any (fun h => decide (h.1 = x)) := by
  rw [List.any_map]
  rfl
theorem nBin_strip : ∀ (bs : List NBin) (x : Nat × Int), nBin (bs.map bareBin) x = (nBin bs x).map (fun l => l.map bare)
  | [], _ => rfl
  | b :: r, x => by
    have ih := nBin_strip r x
    by_cases e : b.1 = x
    · simp [nBin, bareBin, e]
    · simp [nBin, bareBin, e] at ih ⊢
      exact ih
theorem zeroF_strip (bs : List NBin) : zeroF (bs.map bareBin) = zeroF bs := by
  funext r
  unfold zeroF
  rw [List.any_map]
  rfl
theorem zeroU_strip (bs : List NBin) : zeroU (bs.map bareBin) = zeroU bs := by
  funext u
  unfold zeroU
  rw [nBin_strip]
  cases nBin bs u.1 with
  | none => rfl
  | some l =>
    simp only [Option.map_some]
    rw [strip_any]
theorem rise_strip (l : List Hd) : Rise (l.map bare) ↔ Rise l := by
  unfold Rise
  rw [List.pairwise_map]
  rfl
theorem RightIn.bared {fs : List Rcp} {bs : List NBin} (h : RightIn fs bs) : RightIn fs (bs.map bareBin) := by
  refine ⟨h.toFilesIn, ?_, ?_, ?_, ?_, ?_, ?_, ?_, ?_⟩
  · rw [zeroF_strip, zeroU_strip]
    exact h.fadd
  · rw [List.length_map]
    exact h.bmany
  · intro b0 hb0
    obtain ⟨b, hb, rfl⟩ := List.mem_map.1 hb0
    show (b.2.map bare).length ≤ _
    rw [List.length_map]
    exact h.blen b hb
  · intro b0 hb0
    obtain ⟨b, hb, rfl⟩ := List.mem_map.1 hb0
    refine ⟨(h.bwf b hb).1, fun x0 hx0 => ?_⟩
    obtain ⟨x, hx, rfl⟩ := List.mem_map.1 hx0
    exact (h.bwf b hb).2 x hx
  · intro i hi h0
    rw [List.length_map] at hi
    simp only [List.getElem_map]
    exact h.border i hi h0
  · intro b0 hb0
    obtain ⟨b, hb, rfl⟩ := List.mem_map.1 hb0
    rw [zeroF_strip]
    exact h.bpos b hb
  · intro b0 hb0 x0 hx0
    obtain ⟨b, hb, rfl⟩ := List.mem_map.1 hb0
    obtain ⟨x, hx, rfl⟩ := List.mem_map.1 hx0
    exact h.bids b hb x hx
  · intro b0 hb0
    obtain ⟨b, hb, rfl⟩ := List.mem_map.1 hb0
    exact (rise_strip _).2 (h.brise b hb)
theorem RightIn.unbared {fs : List Rcp} {bs : List NBin} (h : RightIn fs (bs.map bareBin)) : RightIn fs bs := by
  refine ⟨h.toFilesIn, ?_, ?_, ?_, ?_, ?_, ?_, ?_, ?_⟩
  · have := h.fadd
    rwa [zeroF_strip, zeroU_strip] at this
  · have := h.bmany
    rwa [List.length_map] at this
  · intro b hb
    have := h.blen _ (List.mem_map_of_mem hb)
    change (b.2.map bare).length ≤ _ at this
    rwa [List.length_map] at this
  · intro b hb
    have := h.bwf _ (List.mem_map_of_mem hb)
    exact ⟨this.1, fun x hx => this.2 (bare x) (List.mem_map_of_mem (f := bare) hx)⟩
  · intro i hi h0
    have := h.border i (by rw [List.length_map]; exact hi) h0
    simp only [List.getElem_map] at this
    exact this
  · intro b hb
    have := h.bpos _ (List.mem_map_of_mem hb)
    rw [zeroF_strip] at this
    exact this
  · intro b hb x hx
    exact h.bids _ (List.mem_map_of_mem hb) (bare x) (List.mem_map_of_mem (f := bare) hx)
  · intro b hb
    exact (rise_strip _).1 (h.brise _ (List.mem_map_of_mem hb))
/- One more use of the first piece of bin i. -/
def more1 (b : NBin) : NBin := match b.2 with | [] => b | h :: r => (b.1, (h.1, h.2.1 + 1, h.2.2) :: r)
theorem strip_more1 (b : NBin) : bareBin (more1 b) = bareBin b := by
  obtain ⟨r, l⟩ := b
  cases l <;> rfl
def moreAt (bs : List NBin) (i : Nat) : List NBin := bs.modify i more1
theorem strip_moreAt : ∀ (bs : List NBin) (i : Nat), (moreAt bs i).map bareBin = bs.map bareBin
  | [], _ => by simp [moreAt]
  | b :: r, 0 => by simp [moreAt, strip_more1]
  | b :: r, i + 1 => by
    have := strip_moreAt r i
    simp only [moreAt] at this ⊢
    rw [List.modify_succ_cons, List.map_cons, List.map_cons, this]
theorem RightIn.more_at {fs : List Rcp} {bs : List NBin} (h : RightIn fs bs) (i : Nat) : RightIn fs (moreAt bs i) := by
  have := h.bared
  rw [← strip_moreAt bs i] at this
  exact this.unbared
theorem zeroU_moreAt (bs : List NBin) (i : Nat) : zeroU (moreAt bs i) = zeroU bs := by
  rw [← zeroU_strip, strip_moreAt, zeroU_strip]
theorem firstErr_at {err : Nat → Int} : ∀ (n k j : Nat), k ≤ j → j < k + n → (∀ i, k ≤ i → i < j → err i = 0) → err j ≠ 0 → firstErr err k n = some j
  | 0, k, j, h1, h2, _, _ => by omega
  | n + 1, k, j, h1, h2, h3, h4 => by
    rw [firstErr]
    by_cases e : k = j
    · subst e
      rw [if_pos h4]
    · rw [if_neg (by rw [h3 k (Nat.le_refl _) (by omega)]; simp)]
      exact firstErr_at n (k + 1) j (by omega) (by omega) (fun i h5 h6 => h3 i (by omega) h6) h4
theorem moreAt_ans {fs : List Rcp} {bs : List NBin} (h : ∀ b ∈ bs, usesErr (cU (zeroU bs) fs) b = 0) {i : Nat} (hi : i < bs.length) (hne : bs[i].2 ≠ []) : firstAns (binErrs fs (moreAt bs i)) (moreAt bs i).length = (11, (i : Int)) := by
  have hl : (moreAt bs i).length = bs.length := by unfold moreAt; rw [List.length_modify]
  have he : ∀ k, k < i → binErrs fs (moreAt bs i) k = 0 := fun k hk => by
    unfold binErrs
    rw [dif_pos (by omega), zeroU_moreAt]
    have : (moreAt bs i)[k]'(by omega) = bs[k]'(by omega) := by
      unfold moreAt
      rw [List.getElem_modify_ne _ _ (by omega)]
    rw [this]
    exact h _ (List.getElem_mem _)
  have ei : binErrs fs (moreAt bs i) i = 11 := by
    unfold binErrs
    rw [dif_pos (by omega), zeroU_moreAt]
    have e1 : (moreAt bs i)[i]'(by omega) = more1 bs[i] := by
      unfold moreAt
      rw [List.getElem_modify_eq]
    rw [e1]
    have h0 := h _ (List.getElem_mem hi)
    obtain ⟨b, hb⟩ : ∃ b, bs[i] = b := ⟨_, rfl⟩
    rw [hb] at h0 hne ⊢
    obtain ⟨r, l⟩ := b
    cases l with
    | nil => exact absurd rfl hne
    | cons x l =>
      refine usesErr_bad (h := (x.1, x.2.1 + 1, x.2.2)) (List.mem_cons_self ..) ?_
      show (cU (zeroU bs) fs (r, x.1)).getD 0 ≠ x.2.1 + 1
      have : (cU (zeroU bs) fs (r, x.1)).getD 0 = x.2.1 := by
        unfold usesErr at h0
        split at h0
        · rename_i hall
          have := List.all_eq_true.1 hall x (List.mem_cons_self ..)
          simpa using this
        · cases h0
      omega
  unfold firstAns
  rw [firstErr_at _ 0 i (Nat.zero_le _) (by omega) (fun k _ hk => he k hk) (by rw [ei]; decide)]
  simp only
  rw [ei]
theorem moreAt_eq {bs : List NBin} {i : Nat} (h : i < (moreAt bs i).length) : (moreAt bs i)[i]'h = more1 (bs[i]'(by unfold moreAt at h; rwa [List.length_modify] at h)) := by
  revert h
  unfold moreAt
  intro h
  rw [List.getElem_modify_eq]
theorem moreAt_ne {bs : List NBin} {i j : Nat} (e : i ≠ j) {h : j < (moreAt bs i).length} : (moreAt bs i)[j]'h = bs[j]'(by unfold moreAt at h; rwa [List.length_modify] at h) := by
  revert h
  unfold moreAt
  intro h
  rw [List.getElem_modify_ne _ _ e]
/- The bins in memory behind the store. -/
theorem BnsSt.more {base : Nat} {W : World} {v : Value} {ps : List BP} (h : BnsSt base W v ps) {i : Nat} (hi : i < ps.length) {x : Hd} {l : List Hd} (hx : ps[i].1.2 = x :: l) {g c n : Nat} (hv : ps[i].2 = .slice (some ⟨g, 0, none⟩) n c) : LoadsAt (W.setCell ⟨g, 2, none⟩ (.int .i64 (x.2.1 + 1))) v (moreAt (ps.map (·.1)) i) := by
  have hne : ps[i].1.2 ≠ [] := by rw [hx]; simp
  have hown : ps[i].2.ownBlock = some g := by rw [hv]; rfl
  have hof := h.off _ (List.getElem_mem hi) hne g hown
  have hoff : Off (fun k => k = g) W (W.setCell ⟨g, 2, none⟩ (.int .i64 (x.2.1 + 1))) := Off.setCell (F := fun k => k = g) (p := ⟨g, 2, none⟩) (Off.refl _ W) (.inl rfl) _
  obtain ⟨p, cc, hp, hcell⟩ := h.at
  refine ⟨p, cc, by rw [hp]; unfold moreAt; rw [List.length_modify], fun j hj => ?_⟩
  have hj' : j < ps.length := by unfold moreAt at hj; rw [List.length_modify, List.length_map] at hj; exact hj
  obtain ⟨b, o, vj, hpj, hL⟩ := hcell j (by rw [List.length_map]; exact hj')
  rw [List.getElem_map] at hL
  have hbg : b ≠ g := fun e => by
    subst e hpj
    rcases h.row.2 with ⟨e, e2⟩ | ⟨g', cap, cur, e, _⟩
    · omega
    · rw [hp] at e
      have : b = g' := by simp at e; exact e.1.1
      subst this
      apply hof
      rw [hp]
      have : o = 0 := by simp at e; exact e.1
      subst this
      rfl
  have hvj : vj = ps[j].2 := by
    rcases h.row.2 with ⟨e, e2⟩ | ⟨g', cap, cur, e, _⟩
    · omega
    · have a2 := (ldCells_at ps j hj').2.2
      have c2 := h.row.cells (g := g') (by rw [e]; rfl) (j * 3 + 2) _ a2
      simp only [add_plain] at c2
      rw [hp] at e
      have eb : b = g' ∧ o = 0 := by rw [hpj] at e; simp at e; exact ⟨e.1.1, e.1.2⟩
      obtain ⟨rfl, rfl⟩ := eb
      have := hL.c2
      rw [Nat.zero_add, c2] at this
      exact (Option.some.inj this).symm
  subst hvj
  refine ⟨b, o, ps[j].2, hpj, ?_⟩
  have eb := hoff.block b hL.lt hbg
  have hc := fun q => World.cell?_of_block (w := W) (w' := W.setCell ⟨g, 2, none⟩ (.int .i64 (x.2.1 + 1))) (a := ⟨b, q, none⟩) eb
  by_cases e : j = i
  · subst e
    have em : (moreAt (ps.map (·.1)) j)[j]'hj = more1 ps[j].1 := by
      rw [moreAt_eq, List.getElem_map]
    rw [em]
    have hm : more1 ps[j].1 = (ps[j].1.1, (x.1, x.2.1 + 1, x.2.2) :: l) := by unfold more1; rw [hx]
    rw [hm]
    refine ⟨Nat.lt_of_lt_of_le hL.lt hoff.size, (hc _).trans hL.c0, (hc _).trans hL.c1, (hc _).trans hL.c2, ?_⟩
    obtain ⟨pq, cq, hq, hqc⟩ := hL.helds
    refine ⟨pq, cq, by rw [hq, hx]; rfl, fun y hy => ?_⟩
    have hy' : y < ps[j].1.2.length := by rw [hx]; exact hy
    obtain ⟨b2, o2, hp2, ⟨hb2, hb3⟩, e0, e1, e2, e3⟩ := hqc y hy'
    obtain ⟨rfl, rfl⟩ : b2 = g ∧ o2 = 0 := by
      rw [hv, hp2] at hq
      simp at hq
      exact ⟨hq.1.1.symm, hq.1.2.symm⟩
    have hget : ∀ (z : Nat) (hz : z < ps[j].1.2.length) (hz2 : z < (x :: l).length), ps[j].1.2[z] = (x :: l)[z] := fun z hz hz2 => by
      congr 1
    rw [hget y hy' hy] at e0 e1 e2 e3
    cases y with
    | zero =>
      refine ⟨b2, 0, hp2, ⟨Nat.lt_of_lt_of_le hb2 hoff.size, by rw [hx] at hb3; exact hb3⟩, ?_, ?_, ?_, ?_⟩
      · rw [World.cell?_setCell_other _ _ _ _ (by simp)]; exact e0
      · rw [World.cell?_setCell_other _ _ _ _ (by simp)]; exact e1
      · exact World.cell?_setCell_same _ _ _ e2
      · rw [World.cell?_setCell_other _ _ _ _ (by simp)]; exact e3
    | succ y =>
      refine ⟨b2, 0, hp2, ⟨Nat.lt_of_lt_of_le hb2 hoff.size, by rw [hx] at hb3; exact hb3⟩, ?_, ?_, ?_, ?_⟩
      · rw [World.cell?_setCell_other _ _ _ _ (by simp)]; exact e0
      · rw [World.cell?_setCell_other _ _ _ _ (by simp)]; exact e1
      · rw [World.cell?_setCell_other _ _ _ _ (by simp)]; exact e2
      · rw [World.cell?_setCell_other _ _ _ _ (by simp)]; exact e3
  · have em : (moreAt (ps.map (·.1)) i)[j]'hj = ps[j].1 := by
      rw [moreAt_ne (fun e2 => e e2.symm), List.getElem_map]
    rw [em]
    have hgj : ps[j].1.2 ≠ [] → ∀ k, ps[j].2.ownBlock = some k → ¬ k = g := fun hnj k hk ek => by
      subst ek
      have hap := List.pairwise_iff_getElem.1 h.apart
      rcases Nat.lt_or_gt_of_ne e with e | e
      · exact hap j i hj' hi e hnj hne _ hk hown
      · exact hap i j hi hj' e hne hnj _ hown hk
    exact ⟨Nat.lt_of_lt_of_le hL.lt hoff.size, (hc _).trans hL.c0, (hc _).trans hL.c1, (hc _).trans hL.c2, ((h.helds _ (List.getElem_mem hj')).off hoff hgj).1⟩
end Go.Proofs.YtjdobbjdlighpabGreatDoor
namespace Go.Proofs.YtjdobbjdlighpabGreatDoor
open Go.RowKit Go.Maps

abbrev helloB : ByteArray := ⟨#[104, 101, 108, 108, 111]⟩
theorem hello_got : ∀ t ∈ pieces helloL, hGet [(idOfL helloL, 2, helloL)] (idOfL t) = (t, 0) := by
  intro t ht
  rw [helloPieces] at ht
  rw [List.mem_singleton.1 ht]
  simp [hGet, hFind]
theorem ok1 : NOk 4000 1 st1 := by
  have := NOk.empty.put (by decide) [97] helloL
  rw [put1] at this
  exact this
theorem ok2 : NOk 8000 2 st2 := by
  have := ok1.put (by decide) [98] helloL
  rw [put2] at this
  exact this
set_option maxRecDepth 100000 in
set_option maxHeartbeats 4000000 in
theorem noded_any (a : Nat → Addr) (w : World) (hE : ErrE [1, 2, 3, 4, 5, 6, 8, 9] w a) :
    Calls Tryz.prog 8 #[] w fun e w' => e = .returned (.bool true) ∧ Below w.heap.size w w' := by
  have HEE : Hid (∀ W, Below w.heap.size w W → ErrE [1, 2, 3, 4, 5, 6, 8, 9] W a) := fun W hb => hE.below hb (Nat.le_refl _)
  clear hE
  go_enter Tryz.func8, Tryz.ntmps8
  go_wp2_with fail
  refine (nNew_any w).mono ?_
  rintro e w1 ⟨p, F1, rfl, hP1, hF1, hb1⟩
  have HB1 := hideN hb1
  have HP1 := hideN hP1
  have HF1 := hideN hF1
  clear hb1 hP1 hF1
  go_wp2_with fail
  refine (nodePut_any a ⟨#[97]⟩ helloB p F1 0 ⟨[], []⟩ w1 (by decide) (by decide) ⟨by decide, by decide⟩ (fun b hb => by simp at hb) (by simp) ((HEE.out _ HB1.out).sub (by decide)) HP1.out).mono ?_
  rw [show (⟨#[97]⟩ : ByteArray).data.toList = [97] from rfl, show helloB.data.toList = helloL from rfl, put1]
  rintro e w2 ⟨ev2, F2, rfl, he2, hP2, hF2, ho2⟩
  simp only at he2 hP2
  obtain rfl := he2.nil
  have HB2 : Hid (Below w.heap.size w w2) := HB1.out.trans (ho2.below HB1.out.size (fun j hj hF => by have := HF1.out j hF; omega))
  have HP2 := hideN hP2
  have HF2 : Hid (∀ k, F2 k → w.heap.size ≤ k) := fun k hk => by
    rcases hF2 k hk with h | h
    · exact HF1.out k h
    · have := HB1.out.size; omega
  clear he2 hP2 hF2 ho2 HP1 HF1 HB1
  go_wp2_with fail
  refine (nodePut_any a ⟨#[98]⟩ helloB p F2 4000 st1 w2 (by decide) (by decide) ⟨by decide, by decide⟩ ok1.bins (by decide) ((HEE.out _ HB2.out).sub (by decide)) HP2.out).mono ?_
  rw [show (⟨#[98]⟩ : ByteArray).data.toList = [98] from rfl, show helloB.data.toList = helloL from rfl, put2]
  rintro e w3 ⟨ev3, F3, rfl, he3, hP3, hF3, ho3⟩
  simp only at he3 hP3
  obtain rfl := he3.nil
  have HB3 : Hid (Below w.heap.size w w3) := HB2.out.trans (ho3.below HB2.out.size (fun j hj hF => by have := HF2.out j hF; omega))
  have HP3 := hideN hP3
  clear he3 hP3 hF3 ho3 HP2 HF2 HB2
  go_wp2_with fail
  refine (nodeGet_some a ⟨#[98]⟩ p F3 st2 w3 helloL [(idOfL helloL, 2, helloL)] (by decide) (by decide) (by unfold st2; simp [nBin]) hello_got (by decide) (by decide) ((HEE.out _ HB3.out).sub (by decide)) HP3.out).mono ?_
  rintro e w4 ⟨rfl, hb4⟩
  have HB4 : Hid (Below w.heap.size w w4) := HB3.out.trans (hb4.mono HB3.out.size)
  have HP4 := hideN (HP3.out.below hb4)
  clear hb4 HP3 HB3
  have HSZ := hideN (fun W (hW : PNode W p F3 st2) => nodeSize_any p F3 st2 W (fun b hb => (ok2.bins b hb).mono (by decide)) (by decide) hW)
  rw [size2] at HSZ
  go_wp2_with fail
  refine (HSZ.out w4 HP4.out).mono ?_
  rintro e w5 ⟨rfl, hb5⟩
  go_wp2_with fail
  go_ret
  exact ⟨rfl, HB4.out.trans (hb5.mono HB4.out.size)⟩
end Go.Proofs.YtjdobbjdlighpabGreatDoor
namespace Go.Proofs.YtjdobbjdlighpabGreatDoor
open Go.RowKit Go.Maps

abbrev Act3 := ByteArray × ByteArray × ByteArray
def Acts3At (w : World) (v : Value) (l : List Act3) : Prop :=
  ∃ (p : Option Addr) (c : Nat), v = .slice p l.length c ∧ ∀ i (h : i < l.length), ∃ b o, p = some ⟨b, o, none⟩ ∧ b < w.heap.size ∧ w.cell? ⟨b, o + i * 3, none⟩ = some (.string l[i].1) ∧ w.cell? ⟨b, o + i * 3 + 1, none⟩ = some (.string l[i].2.1) ∧ w.cell? ⟨b, o + i * 3 + 2, none⟩ = some (.string l[i].2.2)
theorem Acts3At.below {w w' : World} {v : Value} {l : List Act3} (h : Acts3At w v l) (hb : Below w.heap.size w w') : Acts3At w' v l := by
  obtain ⟨p, c, rfl, h⟩ := h
  refine ⟨p, c, rfl, fun i hi => ?_⟩
  obtain ⟨b, o, hp, hlt, h0, h1, h2⟩ := h i hi
  exact ⟨b, o, hp, Nat.lt_of_lt_of_le hlt hb.size, (hb.cell (p := ⟨b, o + i * 3, none⟩) hlt).trans h0, (hb.cell (p := ⟨b, o + i * 3 + 1, none⟩) hlt).trans h1, (hb.cell (p := ⟨b, o + i * 3 + 2, none⟩) hlt).trans h2⟩
def fits (y : Act3) : Prop := y.2.1.size ≤ 30 ∧ y.2.2.size ≤ 4001
def Long3Post (w : World) (l : List Act3) (m : Nat) (e : Ending) (w' : World) : Prop := ∃ n : Int, e = .returned (.int .i64 n) ∧ w' = w ∧ (n = 0 ∨ n = 1) ∧ (n = 0 → l.length ≤ m ∧ ∀ i (h : i < l.length), fits l[i])
set_option maxRecDepth 100000 in
set_option maxHeartbeats 2000000 in
theorem longActs3_any (v : Value) (l : List Act3) (m : Nat) (w : World) (hm : m ≤ 1000) (hv : Acts3At w v l) :
    Calls Tryz.prog 9 #[v, .int .i64 (m : Int)] w (Long3Post w l m) := by
  obtain ⟨p, c, rfl, hcell⟩ := hv
  by_cases hl : l.length ≤ m
  · have hl' : ¬ (m : Int) < (l.length : Int) := by omega
    go_enter Tryz.func9, Tryz.ntmps9
    go_wp2_with fail
    go_loopw [5] (fun i wr => ∃ j : Nat, j ≤ l.length ∧ i = .int .i64 j ∧ wr = w ∧ Hid (∀ k (hk : k < l.length), k < j → fits l[k])) (fun i _ => l.length - (intOf i).toNat)
    case atStart => exact ⟨0, Nat.zero_le _, rfl, rfl, fun k _ h => by omega⟩
    case round =>
      obtain ⟨j, hj, rfl, hww, HA⟩ := hrel
      subst hww
      by_cases hlt : j < l.length
      · have hlt' : (j : Int) < (l.length : Int) := by omega
        have hj0 : (0 : Int) ≤ (j : Int) := by omega
        obtain ⟨b, o, rfl, _, c0, c1, c2⟩ := hcell j hlt
        have HNX : Hid (fits l[j] → ∀ k (hk : k < l.length), k < j + 1 → fits l[k]) := fun h k hk hkj => by
          rcases Nat.lt_or_ge k j with h' | h'
          · exact HA.out k hk h'
          · obtain rfl : k = j := by omega
            exact h
        obtain ⟨⟨y1, y2, y3⟩, hy⟩ : ∃ y, l[j] = y := ⟨_, rfl⟩
        rw [hy] at c0 c1 c2 HNX
        simp only at c0 c1 c2
        clear hy hcell
        by_cases h1 : (20 : Int) < (y1.size : Int)
        · go_wp2_with fail
          go_ret
          exact ⟨1, rfl, rfl, .inr rfl, fun h => by cases h⟩
        · by_cases h2 : (30 : Int) < (y2.size : Int)
          · go_wp2_with fail
            go_ret
            exact ⟨1, rfl, rfl, .inr rfl, fun h => by cases h⟩
          · by_cases h3 : (600 : Int) < (y3.size : Int)
            · by_cases h4 : (y3.size : Int) = 4001
              · have HN := hideN (HNX.out ⟨by simp only; omega, by simp only; omega⟩)
                go_wp2_with fail
                go_roundw
                case rel => exact ⟨j + 1, hlt, by go_num, by first | rfl | trivial, HN.out⟩
                case measure => simp [intOf]; omega
              · go_wp2_with fail
                go_ret
                exact ⟨1, rfl, rfl, .inr rfl, fun h => by cases h⟩
            · have HN := hideN (HNX.out ⟨by simp only; omega, by simp only; omega⟩)
              go_wp2_with fail
              go_roundw
              case rel => exact ⟨j + 1, hlt, by go_num, by first | rfl | trivial, HN.out⟩
              case measure => simp [intOf]; omega
      · have hge : (l.length : Int) ≤ (j : Int) := by omega
        go_wp2_with fail
        go_ret
        exact ⟨0, rfl, rfl, .inl rfl, fun _ => ⟨hl, fun i hi => HA.out i hi (by omega)⟩⟩
  · have hl' : (m : Int) < (l.length : Int) := by omega
    go_enter Tryz.func9, Tryz.ntmps9
    go_wp2_with fail
    go_ret
    exact ⟨1, rfl, rfl, .inr rfl, fun h => by cases h⟩
end Go.Proofs.YtjdobbjdlighpabGreatDoor
namespace Go.Proofs.YtjdobbjdlighpabGreatDoor
open Go.RowKit Go.Maps

section
variable {P : Program} {k : TypeId} {κ β : Type}
variable {ops : Array Oper} {rest : List Oper} {o : Oper} {a : Act} {Q : Exit → Act → World → Prop}
theorem wp_del_kit [DecidableEq κ] (M : MapKit P k κ β) (w : World) (hg : o.guard = none) (m x : Operand) (t : TypeId) (hop : o.op = Op.call { callee := Callee.builtin Builtin.delete, args := #[m, x], argTypes := #[t, k] })
    (e : TypeId) (ht : P.underlying t = some (.map k e)) (b : Nat) (l : List (κ × β)) (hm : a.eval m = .map (some b)) (h : M.Of w b l) (y : κ) (hy : M.wf y) (hx : a.eval x = M.mkK y)
    (hK : ∀ w', M.Of w' b (l.filter (fun h => !decide (h.1 = y))) → w.grownBy w' (some b) → wpList P ops Q rest (a.put o.dst (.tuple #[])) w') :
    wpList P ops Q (o :: rest) a w := by
  obtain ⟨ds, ho, hp⟩ := h.own
  refine wpList_delete_own w hg m x t k hop e M.K ht M.R b ds.length (.map ds) hm ho _ _ hx (M.key_kl hy) fun w' ho' hturn => hK w' ⟨⟨_, ownsMap_tight ho', ?_⟩, fun z hz => h.wf z (List.mem_filter.1 hz).1⟩ hturn.grown
  rw [← filter_ents hy l h.wf]
  exact hp.filter _
end
variable {w w' : World} {N mf mb : Nat} {vi : List UInt8 → Value} {pi : Nat × Int → Addr} {Fi : Nat × Int → Nat → Prop} {st : NSt}
/- One bin turned, in place. -/
def binTo (l : List NBin) (r : Nat × Int) (bl : List Hd) : List NBin := l.map (fun b => if b.1 = r then (b.1, bl) else b)
theorem binTo_key (r : Nat × Int) (bl : List Hd) (b : NBin) : (if b.1 = r then (b.1, bl) else b).1 = b.1 := by split <;> rfl
theorem NAt.bin1 {r : Nat × Int} {bl bl' : List Hd} {F' : Nat → Prop} (h : NAt w N mf mb vi pi Fi st) (hm : (r, bl) ∈ st.bins) (ho : Off (Fi r) w w') (hq : PBin0 w' (pi r) F' bl') (hF : ∀ k, F' k → Fi r k ∨ w.heap.size ≤ k) :
    NAt w' N mf mb vi pi (fun x => if x = r then F' else Fi x) ⟨st.files, binTo st.bins r bl'⟩ := by
  obtain ⟨a1, a2, a3⟩ := h.apart _ hm
  have hFl : ∀ k, F' k → k < w.heap.size → Fi r k := fun k hk hl => (hF k hk).resolve_right (by omega)
  refine ⟨ho.blk h.blk a1, h.files.moved (ho.block mf h.files.lt a2), ?_, fun f hf => (h.ids f hf).off ho (fun hi k hk => (h.rows f hf hi k hk).2.2.2.2 _ hm), fun f hf hi k hk => ?_, fun b hb => ?_, h.ne, fun b hb => ?_, fun b hb c hc hne k => ?_⟩
  · have e : (binTo st.bins r bl').map (fun b => (b.1, some (pi b.1))) = st.bins.map (fun b => (b.1, some (pi b.1))) := by
      unfold binTo
      rw [List.map_map]
      refine List.map_congr_left fun b _ => ?_
      simp only [Function.comp, binTo_key]
    rw [e]
    exact h.bins.moved (ho.block mb h.bins.lt a3)
  · obtain ⟨h1, h2, h3, h4, h5⟩ := h.rows f hf hi k hk
    refine ⟨Nat.lt_of_lt_of_le h1 ho.size, h2, h3, h4, fun b hb => ?_⟩
    obtain ⟨c, hc, rfl⟩ := List.mem_map.1 hb
    rw [binTo_key]
    by_cases e : c.1 = r
    · simp only [if_pos e]
      exact fun hk' => h5 _ hm (hFl k hk' h1)
    · simp only [if_neg e]
      exact h5 c hc
  · obtain ⟨c, hc, rfl⟩ := List.mem_map.1 hb
    by_cases e : c.1 = r
    · simp only [if_pos e]
      rw [e]
      exact hq
    · simp only [if_neg e]
      exact (h.bin c hc).off ho (fun k hk hr => h.two c hc _ hm e k hk hr)
  · obtain ⟨c, hc, rfl⟩ := List.mem_map.1 hb
    rw [binTo_key]
    by_cases e : c.1 = r
    · simp only [if_pos e]
      exact ⟨fun hk => a1 (hFl _ hk h.blk.lt), fun hk => a2 (hFl _ hk h.files.lt), fun hk => a3 (hFl _ hk h.bins.lt)⟩
    · simp only [if_neg e]
      exact h.apart c hc
  · obtain ⟨b', hb', rfl⟩ := List.mem_map.1 hb
    obtain ⟨c', hc', rfl⟩ := List.mem_map.1 hc
    rw [binTo_key, binTo_key] at *
    by_cases e : b'.1 = r
    · by_cases e2 : c'.1 = r
      · exact absurd (e.trans e2.symm) hne
      · simp only [if_pos e, if_neg e2]
        exact fun hk hc2 => h.two c' hc' _ hm e2 k hc2 (hFl k hk ((h.bin c' hc').lt k hc2))
    · by_cases e2 : c'.1 = r
      · simp only [if_neg e, if_pos e2]
        exact fun hk hc2 => h.two b' hb' _ hm e k hk (hFl k hc2 ((h.bin b' hb').lt k hk))
      · simp only [if_neg e, if_neg e2]
        exact h.two b' hb' c' hc' hne k
theorem nFoot_bin1 {r : Nat × Int} {bl bl' : List Hd} {F' : Nat → Prop} {s : Nat} (hm : (r, bl) ∈ st.bins) (hF : ∀ k, F' k → Fi r k ∨ s ≤ k) {k : Nat} (h : nFoot N mf mb vi (fun x => if x = r then F' else Fi x) ⟨st.files, binTo st.bins r bl'⟩ k) : nFoot N mf mb vi Fi st k ∨ s ≤ k := by
  rcases h with e | e | e | ⟨b, hb, hk⟩ | h
  · exact .inl (.inl e)
  · exact .inl (.inr (.inl e))
  · exact .inl (.inr (.inr (.inl e)))
  · obtain ⟨c, hc, rfl⟩ := List.mem_map.1 hb
    rw [binTo_key] at hk
    by_cases e : c.1 = r
    · simp only [if_pos e] at hk
      rcases hF k hk with h | h
      · exact .inl (.inr (.inr (.inr (.inl ⟨_, hm, h⟩))))
      · exact .inr h
    · simp only [if_neg e] at hk
      exact .inl (.inr (.inr (.inr (.inl ⟨c, hc, hk⟩))))
  · exact .inl (.inr (.inr (.inr (.inr h))))
theorem NAt.unfile {nm : List UInt8} (h : NAt w N mf mb vi pi Fi st) (ho : Off (fun k => k = mf) w w') (hfiles : strRcps.Of w' mf ((st.files.map fun f => (f.1, rwOf f (vi f.1))).filter (fun h => !decide (h.1 = nm)))) :
    NAt w' N mf mb vi pi Fi ⟨st.files.filter (fun f => !decide (f.1 = nm)), st.bins⟩ := by
  obtain ⟨n1, n2, n3⟩ := h.ne
  refine ⟨ho.blk h.blk (fun e => n1 e), ?_, h.bins.moved (ho.block mb h.bins.lt (fun e => n3 e.symm)), fun f hf => ?_, fun f hf hi k hk => ?_, fun b hb => (h.bin b hb).off ho (fun k hk e => (h.apart b hb).2.1 (e ▸ hk)), h.ne, h.apart, h.two⟩
  · rw [List.filter_map] at hfiles
    exact hfiles
  · have hf' := (List.mem_filter.1 hf).1
    exact (h.ids f hf').off ho (fun hi k hk => (h.rows f hf' hi k hk).2.2.1)
  · obtain ⟨h1, h2⟩ := h.rows f (List.mem_filter.1 hf).1 hi k hk
    exact ⟨Nat.lt_of_lt_of_le h1 ho.size, h2⟩
theorem nFoot_unfile {nm : List UInt8} {k : Nat} (h : nFoot N mf mb vi Fi ⟨st.files.filter (fun f => !decide (f.1 = nm)), st.bins⟩ k) : nFoot N mf mb vi Fi st k := by
  rcases h with e | e | e | h | ⟨f, hf, h⟩
  · exact .inl e
  · exact .inr (.inl e)
  · exact .inr (.inr (.inl e))
  · exact .inr (.inr (.inr (.inl h)))
  · exact .inr (.inr (.inr (.inr ⟨f, (List.mem_filter.1 hf).1, h⟩)))
theorem NAt.unbin {r : Nat × Int} (h : NAt w N mf mb vi pi Fi st) (ho : Off (fun k => k = mb) w w') (hbins : idBins.Of w' mb ((st.bins.map fun b => (b.1, some (pi b.1))).filter (fun h => !decide (h.1 = r)))) :
    NAt w' N mf mb vi pi Fi ⟨st.files, st.bins.filter (fun b => !decide (b.1 = r))⟩ := by
  obtain ⟨n1, n2, n3⟩ := h.ne
  refine ⟨ho.blk h.blk (fun e => n2 e), h.files.moved (ho.block mf h.files.lt (fun e => n3 e)), ?_, fun f hf => (h.ids f hf).off ho (fun hi k hk => (h.rows f hf hi k hk).2.2.2.1), fun f hf hi k hk => ?_, fun b hb => ?_, h.ne, fun b hb => h.apart b (List.mem_filter.1 hb).1, fun b hb c hc => h.two b (List.mem_filter.1 hb).1 c (List.mem_filter.1 hc).1⟩
  · rw [List.filter_map] at hbins
    exact hbins
  · obtain ⟨h1, h2, h3, h4, h5⟩ := h.rows f hf hi k hk
    exact ⟨Nat.lt_of_lt_of_le h1 ho.size, h2, h3, h4, fun b hb => h5 b (List.mem_filter.1 hb).1⟩
  · have hb' := (List.mem_filter.1 hb).1
    exact (h.bin b hb').off ho (fun k hk e => (h.apart b hb').2.2 (e ▸ hk))
theorem nFoot_unbin {r : Nat × Int} {k : Nat} (h : nFoot N mf mb vi Fi ⟨st.files, st.bins.filter (fun b => !decide (b.1 = r))⟩ k) : nFoot N mf mb vi Fi st k := by
  rcases h with e | e | e | ⟨b, hb, h⟩ | h
  · exact .inl e
  · exact .inr (.inl e)
  · exact .inr (.inr (.inl e))
  · exact .inr (.inr (.inr (.inl ⟨b, (List.mem_filter.1 hb).1, h⟩)))
  · exact .inr (.inr (.inr (.inr h)))
end Go.Proofs.YtjdobbjdlighpabGreatDoor
