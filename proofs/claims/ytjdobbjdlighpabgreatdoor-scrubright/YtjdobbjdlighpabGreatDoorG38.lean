/-
  Own text. (*node.Node).Sweep by a contract: each bin is swept, in place.
-/
import Derived.Test.YtjdobbjdlighpabGreatDoorG36
import Derived.Test.YtjdobbjdlighpabGreatDoorG15
namespace Go.Proofs.YtjdobbjdlighpabGreatDoor
open Go.RowKit Go.Maps

/- Bins of which those that 'left' does not name were swept. -/
def sweepOf (l : List NBin) (left : Nat × Int → Bool) : List NBin := l.map (fun b => if left b.1 = true then b else (b.1, (hSweep b.2).2))
def sweptOf (l : List NBin) (left : Nat × Int → Bool) : Int := ((l.filter (fun b => !left b.1)).map fun b => (hSweep b.2).1).sum
theorem sweepOf_key (left : Nat × Int → Bool) (b : NBin) : (if left b.1 = true then b else (b.1, (hSweep b.2).2)).1 = b.1 := by split <;> rfl
theorem sweepOf_flip {l : List NBin} (hap : l.Pairwise (fun p q => p.1 ≠ q.1)) {left : Nat × Int → Bool} {x : Nat × Int} {bl : List Hd} (hm : (x, bl) ∈ l) (hl : left x = true) : binTo (sweepOf l left) x (hSweep bl).2 = sweepOf l (fun y => left y && !decide (y = x)) := by
  unfold binTo sweepOf
  rw [List.map_map]
  refine List.map_congr_left fun b hb => ?_
  simp only [Function.comp, sweepOf_key]
  by_cases e : b.1 = x
  · have eb : b = (x, bl) := by
      obtain ⟨b1, b2⟩ := b
      simp only at e
      subst e
      have h1 := nBin_of_mem hap hb
      have h2 := nBin_of_mem hap hm
      rw [h1] at h2
      rw [Option.some.inj h2]
    subst eb
    simp
  · rw [if_neg e]
    simp [e]
theorem sum_perm {a b : List Int} (h : a.Perm b) : a.sum = b.sum := by
  induction h with
  | nil => rfl
  | cons x _ ih => rw [List.sum_cons, List.sum_cons, ih]
  | swap x y l => rw [List.sum_cons, List.sum_cons, List.sum_cons, List.sum_cons]; omega
  | trans _ _ h1 h2 => rw [h1, h2]
theorem sweptOf_flip {l : List NBin} (hap : l.Pairwise (fun p q => p.1 ≠ q.1)) {left : Nat × Int → Bool} {x : Nat × Int} {bl : List Hd} (hm : (x, bl) ∈ l) (hl : left x = true) : sweptOf l (fun y => left y && !decide (y = x)) = (hSweep bl).1 + sweptOf l left := by
  unfold sweptOf
  have := sum_perm ((filter_flip hap (p := left) hm hl).map fun b : NBin => (hSweep b.2).1)
  rw [List.map_cons, List.sum_cons] at this
  exact this
theorem sweptOf_bound (l : List NBin) (left : Nat × Int → Bool) (h : ∀ b ∈ l, BinOk 1000000 b.2) (hn : l.length ≤ 1000) : 0 ≤ sweptOf l left ∧ sweptOf l left ≤ 16000000 := by
  have hall : ∀ m : List NBin, (∀ b ∈ m, BinOk 1000000 b.2) → 0 ≤ (m.map fun b => (hSweep b.2).1).sum ∧ (m.map fun b => (hSweep b.2).1).sum ≤ m.length * 16000 := by
    intro m
    induction m with
    | nil => intro _; simp
    | cons b r ih =>
      intro hm
      have h1 := ih (fun c hc => hm c (List.mem_cons_of_mem _ hc))
      have h2 := hSize_filter_bound (hm b (List.mem_cons_self ..)) unused
      have e : (hSweep b.2).1 = hSize (b.2.filter unused) := rfl
      rw [List.map_cons, List.sum_cons, List.length_cons, e]
      omega
  have h1 := hall (l.filter (fun b => !left b.1)) (fun b hb => h b (List.mem_filter.1 hb).1)
  have h2 := List.length_filter_le (fun b : NBin => !left b.1) l
  unfold sweptOf
  omega
theorem rng_off {P : Program} {k : TypeId} {κ β : Type} {M : MapKit P k κ β} {w w' : World} {b r : Nat} {l : List (κ × β)} {left : κ → Bool} {cnt : Nat} {F : Nat → Prop} (h : M.Rng w b r l left cnt) (ho : Off F w w') (hb : ¬ F b) (hr : ¬ F r) : M.Rng w' b r l left cnt := by
  have hbl := h.of.lt
  have hrl := h.lt
  obtain ⟨ds, n, lf, ⟨es, clock, since, seen, c0, e1, h2, h3, h4, e5, rest⟩, hp, hl⟩ := h.at'
  exact ⟨⟨ds, n, lf, ⟨es, clock, since, seen, c0, (ho.block b hbl hb).trans e1, h2, h3, h4, (ho.block r hrl hr).trans e5, rest⟩, hp, hl⟩, h.wf⟩
def NSweepPost (w : World) (p : Addr) (F : Nat → Prop) (r : Int × NSt) (e : Ending) (w' : World) : Prop :=
  ∃ F', e = .returned (.int .i64 r.1) ∧ PNode w' p F' r.2 ∧ (∀ k, F' k → F k ∨ w.heap.size ≤ k) ∧ Off F w w'
set_option maxRecDepth 100000 in
set_option maxHeartbeats 4000000 in
theorem nodeSweep_any (p : Addr) (F : Nat → Prop) (st : NSt) (w : World) (hok : ∀ b ∈ st.bins, BinOk 1000000 b.2) (hn : st.bins.length ≤ 1000) (hP : PNode w p F st) :
    Calls Tryz.prog 30 #[.pointer (some p)] w (NSweepPost w p F (nSweep st)) := by
  obtain ⟨N, mf, mb, vi, pi, Fi, rfl, h, hFe⟩ := hP
  have q1 := h.blk.cell (i := 1) rfl
  have hM := h.bins
  have hap : st.bins.Pairwise (fun p q => p.1 ≠ q.1) := by
    have := hM.apart
    rw [List.pairwise_map] at this
    exact this
  have hbl := hM.lt
  have HH := hideN h
  have HOK : Hid (∀ b ∈ st.bins, BinOk 1000000 b.2) := hok
  have HNB : Hid (∀ left, 0 ≤ sweptOf st.bins left ∧ sweptOf st.bins left ≤ 16000000) := fun left => sweptOf_bound st.bins left hok hn
  have HFE := hideN hFe
  obtain ⟨L, hL⟩ : ∃ L, (st.bins.map fun b => (b.1, some (pi b.1))) = L := ⟨_, rfl⟩
  have HL : Hid ((st.bins.map fun b => (b.1, some (pi b.1))) = L) := hL
  rw [hL] at hM
  clear hok h hL hFe
  go_enter Tryz.func30, Tryz.ntmps30
  go_wp2_with (first
    | (at_range; refine wp_range_kit idBins _ rfl _ 100 rfl 47 Tryz.underlying100 mb L rfl hM ?_; intro w0 hr0 hg0 hs0)
    | go_in)
  go_frame
  go_loopw [3] (fun n wr => ∃ (left : Nat × Int → Bool) (cnt : Nat) (Fj : Nat × Int → Nat → Prop), n = .int .i64 (sweptOf st.bins left) ∧ idBins.Rng wr mb w.heap.size L left cnt ∧ Hid (NAt wr N mf mb vi pi Fj ⟨st.files, sweepOf st.bins left⟩) ∧ Hid (∀ k, nFoot N mf mb vi Fj ⟨st.files, sweepOf st.bins left⟩ k → F k ∨ w.heap.size < k) ∧ Hid (Off F w wr)) (fun _ wr => wr.rangeLeft mb w.heap.size)
  case atStart =>
    have H : ∀ left : Nat × Int → Bool, (∀ b ∈ st.bins, left b.1 = true) → sweepOf st.bins left = st.bins ∧ sweptOf st.bins left = 0 := fun left hl => by
      refine ⟨?_, ?_⟩
      · unfold sweepOf
        rw [List.map_congr_left (g := id) (fun b hb => by rw [if_pos (hl b hb)]; rfl), List.map_id]
      · unfold sweptOf
        rw [List.filter_eq_nil_iff.2 (fun b hb => by simp [hl b hb])]
        rfl
    obtain ⟨left0, hl0, hr⟩ : ∃ left0 : Nat × Int → Bool, (∀ b ∈ st.bins, left0 b.1 = true) ∧ idBins.Rng w0 mb w.heap.size L left0 L.length := by
      refine ⟨_, ?_, hr0⟩
      intro b hb
      simp only [decide_eq_true_eq]
      exact List.mem_map.2 ⟨(b.1, some (pi b.1)), by rw [← HL.out]; exact List.mem_map.2 ⟨b, hb, rfl⟩, rfl⟩
    obtain ⟨h1, h2⟩ := H left0 hl0
    refine ⟨left0, _, Fi, by rw [h2], hr, ?_, ?_, Off.of_below (below_of_grown hg0)⟩
    · show NAt _ _ _ _ _ _ _ _
      rw [h1]
      exact HH.out.below (below_of_grown hg0)
    · show ∀ k, _
      rw [h1]
      exact fun k hk => .inl (by rw [HFE.out]; exact hk)
  case round =>
    obtain ⟨left, cnt, Fj, rfl, hrg, HN, HFT, HO⟩ := hrel
    obtain ⟨n1, n2⟩ := HNB.out left
    obtain ⟨Z, hZ⟩ : ∃ Z, sweptOf st.bins left = Z := ⟨_, rfl⟩
    have HZ : Hid (sweptOf st.bins left = Z) := hZ
    rw [hZ] at n1 n2 ⊢
    clear hZ
    go_wp2_with (first
      | (at_next; refine wp_next_kit idBins _ rfl _ rfl mb w.heap.size L left cnt rfl hrg ?_ ?_)
      | go_in)
    · intro h0
      have HL0 : Hid (∀ b ∈ st.bins, left b.1 = false) := fun b hb => h0 b.1.1 b.1.2 (some (pi b.1)) (by rw [← HL.out]; exact List.mem_map.2 ⟨b, hb, rfl⟩)
      clear h0
      go_wp2_with fail
      go_ret
      have e1 : (⟨st.files, sweepOf st.bins left⟩ : NSt) = (nSweep st).2 := by
        unfold sweepOf nSweep
        simp only [NSt.mk.injEq, true_and]
        exact List.map_congr_left fun b hb => by rw [if_neg (by rw [HL0.out b hb]; simp)]
      have e2 : Z = (nSweep st).1 := by
        rw [← HZ.out]
        unfold sweptOf nSweep
        rw [List.filter_eq_self.2 (fun b hb => by rw [HL0.out b hb]; rfl)]
      refine ⟨_, by rw [e2]; rfl, ⟨N, mf, mb, vi, pi, Fj, rfl, by rw [← e1]; exact HN.out, rfl⟩, fun k hk => ?_, HO.out⟩
      rw [← e1] at hk
      rcases HFT.out k hk with h | h
      · exact .inl h
      · exact .inr (Nat.le_of_lt h)
    · intro xp xl c w1 cnt1 hm hlx hrg1 hlt hg1 hs1 hen
      rw [← HL.out] at hm
      obtain ⟨⟨y, bl⟩, hyb, hye⟩ := List.mem_map.1 hm
      obtain ⟨hy, rfl⟩ : y = (xp, xl) ∧ some (pi y) = c := by simpa using hye
      subst hy
      change (Instr.entry (.pointer (some ⟨w.heap.size, 0, none⟩))).run Tryz.prog w1 = .ok (.tuple #[idV (xp : Nat) xl, .pointer (some (pi (xp, xl)))]) w1 at hen
      have HF1 := hideN (sweepOf_flip hap (left := left) hyb hlx)
      have HS : Hid (sweptOf st.bins (fun y => left y && !decide (y = (xp, xl))) = (hSweep bl).1 + Z) := by
        show _ = _
        rw [sweptOf_flip hap hyb hlx, HZ.out]
      obtain ⟨m1, m2⟩ := HNB.out (fun y => left y && !decide (y = (xp, xl)))
      rw [HS.out] at m1 m2
      have hw : IntKind.i64.wrap (Z + (hSweep bl).1) = Z + (hSweep bl).1 := by rw [IntKind.wrap_i64]; omega
      have HLT := hideN HH.out.lt
      have hrn : ¬ nFoot N mf mb vi Fj ⟨st.files, sweepOf st.bins left⟩ w.heap.size := fun hk => by
        rcases HFT.out _ hk with h | h
        · rw [HFE.out] at h
          have := HLT.out _ h
          omega
        · omega
      have ho1 : Off (fun k => k = w.heap.size) wr w1 := off_of_grown hg1 rfl
      have HN1 := hideN (HN.out.off ho1 (fun k hk e => hrn (e ▸ hk)))
      have HO1 : Hid (Off F w w1) := HO.out.trans ho1 (fun k hk e => by omega)
      have hmem : ((xp, xl), bl) ∈ sweepOf st.bins left := List.mem_map.2 ⟨_, hyb, by simp [hlx]⟩
      have HMEM := hideN hmem
      have HC := hideN (pSweep_any (pi (xp, xl)) (Fj (xp, xl)) bl w1 (HOK.out _ hyb) (HN1.out.bin _ hmem))
      have HPI : Hid (∃ q, q = pi (xp, xl)) := ⟨_, rfl⟩
      obtain ⟨q, hq⟩ : ∃ q, pi (xp, xl) = q := ⟨_, rfl⟩
      have HQ := hideN hq
      rw [hq] at HC hen
      obtain ⟨hb, hhb⟩ : ∃ hb, (hSweep bl).1 = hb := ⟨_, rfl⟩
      have HHB := hideN hhb
      rw [hhb] at HC hw m1 m2 HS
      have hrf : ¬ Fj (xp, xl) w.heap.size := fun hk => hrn (.inr (.inr (.inr (.inl ⟨_, hmem, hk⟩))))
      have hmf : ¬ Fj (xp, xl) mb := (HN1.out.apart _ hmem).2.2
      have HRF := hideN hrf
      have HMF := hideN hmf
      clear hM hr0 hg0 hm hye hq hhb hmem hrn ho1 hrf hmf HPI
      go_wp2_with fail
      refine HC.out.mono ?_
      rintro e w2 ⟨F2, rfl, hP2, hF2, ho2⟩
      have hrg2 : idBins.Rng w2 mb w.heap.size L (fun y => left y && !decide (y = (xp, xl))) cnt1 := rng_off hrg1 ho2 HMF.out HRF.out
      have hn2 := HN1.out.bin1 HMEM.out ho2 (by rw [HQ.out]; exact hP2) hF2
      rw [HF1.out] at hn2
      have HN2 := hideN hn2
      have hw1s : w.heap.size < w1.heap.size := hrg1.lt
      have HFT2 : Hid (∀ k, nFoot N mf mb vi (fun x => if x = (xp, xl) then F2 else Fj x) ⟨st.files, sweepOf st.bins (fun y => left y && !decide (y = (xp, xl)))⟩ k → F k ∨ w.heap.size < k) := fun k hk => by
        have hk' : nFoot N mf mb vi (fun x => if x = (xp, xl) then F2 else Fj x) ⟨st.files, binTo (sweepOf st.bins left) (xp, xl) (hSweep bl).2⟩ k := by rw [HF1.out]; exact hk
        rcases nFoot_bin1 (st := ⟨st.files, sweepOf st.bins left⟩) HMEM.out hF2 hk' with h | h
        · exact HFT.out k h
        · exact .inr (by omega)
      have HO2 : Hid (Off F w w2) := HO1.out.trans ho2 (fun k hk hf => by
        rcases HFT.out k (.inr (.inr (.inr (.inl ⟨_, HMEM.out, hf⟩)))) with h | h
        · exact h
        · omega)
      clear hn2 hP2 hF2 ho2 HC
      go_wp2_with fail
      go_roundw
      case rel => exact ⟨_, cnt1, _, by rw [HS.out, Int.add_comm], hrg2, HN2.out, HFT2.out, HO2.out⟩
      case measure => rw [hrg2.left_eq, hrg.left_eq]; exact hlt
end Go.Proofs.YtjdobbjdlighpabGreatDoor
