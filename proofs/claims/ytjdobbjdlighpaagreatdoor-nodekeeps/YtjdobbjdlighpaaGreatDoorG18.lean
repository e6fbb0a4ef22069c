/-
  Own text. (*node.Node).Sweep by a contract: each bin is swept, in place.
  Own text. slices.Sorted(maps.Keys(m)) at this program's numbers: applications of the shelf's own theorems.
  Own text. (*node.Node).Names by a contract: its files' names, sorted.
  Own text. BinUses' memory: a bin and two rows (texts, IDs) beside it, all new since w; how each step leaves them.
  Own text. NodeKeeps' memory: a node and rows of texts beside it, all new since w; how each step leaves them.
-/
import Derived.Test.YtjdobbjdlighpaaGreatDoorG17
import Derived.Test.YtjdobbjdlighpaaGreatDoorG09
import Derived.Shelf.SlIter.Nil
import Derived.Shelf.SortM.Plain
import Derived.Shelf.SortM.SortNone
import Derived.Ground.GgzProg
import Derived.Ground.SlgmProg
import Derived.Test.YtjdobbjdlighpaaGreatDoorProg
import Derived.Test.YtjdobbjdlighpaaGreatDoorG07
import Derived.Test.YtjdobbjdlighpaaGreatDoorG16
import Derived.Maps.AppendAt
namespace Go.Proofs.YtjdobbjdlighpaaGreatDoor
open Go.RowKit Go.Maps

/- Bins of which those that 'left' does not name were swept. -/
def sweepOf (l : List NBin) (left : Nat × Int → Bool) : List NBin := l.map (fun b => if left b.1 = true then b else (b.1, (hSweep b.2).2))
def sweptOf (l : List NBin) (left : Nat × Int → Bool) : Int := ((l.filter (fun b => !left b.1)).map fun b => (hSweep b.2).1).sum
theorem sweepOf_key (left : Nat × Int → Bool) (b : NBin) : (if left b.1 = true then b else (b.1, (hSweep b.2).2)).1 = b.1 := by split <;> rfl
theorem sweepOf_flip {l : List NBin} (hap : l.Pairwise (fun p q => p.1 ≠ q.1)) {left : Nat × Int → Bool} {x : Nat × Int} {bl : List Hd} (hm : (x, bl) ∈ l) (hl : left x = true) : binTo (sweepOf l left) x (hSweep bl).2 = sweepOf l (fun y => left y && !decide (y = x)) := by
  unfold binTo sweepOf
  rw [List.map_map]
  refine List.map_congr_left fun b hb => ?_
  simp only [Function.comp, sweepOf_key]
  by_cases e : b.1 = x
  · have eb : b = (x, bl) := by
      obtain ⟨b1, b2⟩ := b
      simp only at e
      subst e
      have h1 := nBin_of_mem hap hb
      have h2 := nBin_of_mem hap hm
      rw [h1] at h2
      rw [Option.some.inj h2]
    subst eb
    simp
  · rw [if_neg e]
    simp [e]
theorem sum_perm {a b : List Int} (h : a.Perm b) : a.sum = b.sum := by
  induction h with
  | nil => rfl
  | cons x _ ih => rw [List.sum_cons, List.sum_cons, ih]
  | swap x y l => rw [List.sum_cons, List.sum_cons, List.sum_cons, List.sum_cons]; omega
  | trans _ _ h1 h2 => rw [h1, h2]
theorem sweptOf_flip {l : List NBin} (hap : l.Pairwise (fun p q => p.1 ≠ q.1)) {left : Nat × Int → Bool} {x : Nat × Int} {bl : List Hd} (hm : (x, bl) ∈ l) (hl : left x = true) : sweptOf l (fun y => left y && !decide (y = x)) = (hSweep bl).1 + sweptOf l left := by
  unfold sweptOf
  have := sum_perm ((filter_flip hap (p := left) hm hl).map fun b : NBin => (hSweep b.2).1)
  rw [List.map_cons, List.sum_cons] at this
  exact this
theorem sweptOf_bound (l : List NBin) (left : Nat × Int → Bool) (h : ∀ b ∈ l, BinOk 1000000 b.2) (hn : l.length ≤ 1000) : 0 ≤ sweptOf l left ∧ sweptOf l left ≤ 16000000 := by
  have hall : ∀ m : List NBin, (∀ b ∈ m, BinOk 1000000 b.2) → 0 ≤ (m.map fun b => (hSweep b.2).1).sum ∧ (m.map fun b => (hSweep b.2).1).sum ≤ m.length * 16000 := by
    intro m
    induction m with
    | nil => intro _; simp
    | cons b r ih =>
      intro hm
      have h1 := ih (fun c hc => hm c (List.mem_cons_of_mem _ hc))
      have h2 := hSize_filter_bound (hm b (List.mem_cons_self ..)) unused
      have e : (hSweep b.2).1 = hSize (b.2.filter unused) := rfl
      rw [List.map_cons, List.sum_cons, List.length_cons, e]
      omega
  have h1 := hall (l.filter (fun b => !left b.1)) (fun b hb => h b (List.mem_filter.1 hb).1)
  have h2 := List.length_filter_le (fun b : NBin => !left b.1) l
  unfold sweptOf
  omega
theorem rng_off {P : Program} {k : TypeId} {κ β : Type} {M : MapKit P k κ β} {w w' : World} {b r : Nat} {l : List (κ × β)} {left : κ → Bool} {cnt : Nat} {F : Nat → Prop} (h : M.Rng w b r l left cnt) (ho : Off F w w') (hb : ¬ F b) (hr : ¬ F r) : M.Rng w' b r l left cnt := by
  have hbl := h.of.lt
  have hrl := h.lt
  obtain ⟨ds, n, lf, ⟨es, clock, since, seen, c0, e1, h2, h3, h4, e5, rest⟩, hp, hl⟩ := h.at'
  exact ⟨⟨ds, n, lf, ⟨es, clock, since, seen, c0, (ho.block b hbl hb).trans e1, h2, h3, h4, (ho.block r hrl hr).trans e5, rest⟩, hp, hl⟩, h.wf⟩
def NSweepPost (w : World) (p : Addr) (F : Nat → Prop) (r : Int × NSt) (e : Ending) (w' : World) : Prop :=
  ∃ F', e = .returned (.int .i64 r.1) ∧ PNode w' p F' r.2 ∧ (∀ k, F' k → F k ∨ w.heap.size ≤ k) ∧ Off F w w'
set_option maxRecDepth 100000 in
set_option maxHeartbeats 4000000 in
theorem nodeSweep_any (p : Addr) (F : Nat → Prop) (st : NSt) (w : World) (hok : ∀ b ∈ st.bins, BinOk 1000000 b.2) (hn : st.bins.length ≤ 1000) (hP : PNode w p F st) :
    Calls Tryz.prog 50 #[.pointer (some p)] w (NSweepPost w p F (nSweep st)) := by
  obtain ⟨N, mf, mb, vi, pi, Fi, rfl, h, hFe⟩ := hP
  have q1 := h.blk.cell (i := 1) rfl
  have hM := h.bins
  have hap : st.bins.Pairwise (fun p q => p.1 ≠ q.1) := by
    have := hM.apart
    rw [List.pairwise_map] at this
    exact this
  have hbl := hM.lt
  have HH := hideN h
  have HOK : Hid (∀ b ∈ st.bins, BinOk 1000000 b.2) := hok
  have HNB : Hid (∀ left, 0 ≤ sweptOf st.bins left ∧ sweptOf st.bins left ≤ 16000000) := fun left => sweptOf_bound st.bins left hok hn
  have HFE := hideN hFe
  obtain ⟨L, hL⟩ : ∃ L, (st.bins.map fun b => (b.1, some (pi b.1))) = L := ⟨_, rfl⟩
  have HL : Hid ((st.bins.map fun b => (b.1, some (pi b.1))) = L) := hL
  rw [hL] at hM
  clear hok h hL hFe
  go_enter Tryz.func50, Tryz.ntmps50
  go_wp2_with (first
    | (at_range; refine wp_range_kit idBins _ rfl _ 143 rfl 72 Tryz.underlying143 mb L rfl hM ?_; intro w0 hr0 hg0 hs0)
    | go_in)
  go_frame
  go_loopw [3] (fun n wr => ∃ (left : Nat × Int → Bool) (cnt : Nat) (Fj : Nat × Int → Nat → Prop), n = .int .i64 (sweptOf st.bins left) ∧ idBins.Rng wr mb w.heap.size L left cnt ∧ Hid (NAt wr N mf mb vi pi Fj ⟨st.files, sweepOf st.bins left⟩) ∧ Hid (∀ k, nFoot N mf mb vi Fj ⟨st.files, sweepOf st.bins left⟩ k → F k ∨ w.heap.size < k) ∧ Hid (Off F w wr)) (fun _ wr => wr.rangeLeft mb w.heap.size)
  case atStart =>
    have H : ∀ left : Nat × Int → Bool, (∀ b ∈ st.bins, left b.1 = true) → sweepOf st.bins left = st.bins ∧ sweptOf st.bins left = 0 := fun left hl => by
      refine ⟨?_, ?_⟩
      · unfold sweepOf
        rw [List.map_congr_left (g := id) (fun b hb => by rw [if_pos (hl b hb)]; rfl), List.map_id]
      · unfold sweptOf
        rw [List.filter_eq_nil_iff.2 (fun b hb => by simp [hl b hb])]
        rfl
    obtain ⟨left0, hl0, hr⟩ : ∃ left0 : Nat × Int → Bool, (∀ b ∈ st.bins, left0 b.1 = true) ∧ idBins.Rng w0 mb w.heap.size L left0 L.length := by
      refine ⟨_, ?_, hr0⟩
      intro b hb
      simp only [decide_eq_true_eq]
      exact List.mem_map.2 ⟨(b.1, some (pi b.1)), by rw [← HL.out]; exact List.mem_map.2 ⟨b, hb, rfl⟩, rfl⟩
    obtain ⟨h1, h2⟩ := H left0 hl0
    refine ⟨left0, _, Fi, by rw [h2], hr, ?_, ?_, Off.of_below (below_of_grown hg0)⟩
    · show NAt _ _ _ _ _ _ _ _
      rw [h1]
      exact HH.out.below (below_of_grown hg0)
    · show ∀ k, _
      rw [h1]
      exact fun k hk => .inl (by rw [HFE.out]; exact hk)
  case round =>
    obtain ⟨left, cnt, Fj, rfl, hrg, HN, HFT, HO⟩ := hrel
    obtain ⟨n1, n2⟩ := HNB.out left
    obtain ⟨Z, hZ⟩ : ∃ Z, sweptOf st.bins left = Z := ⟨_, rfl⟩
    have HZ : Hid (sweptOf st.bins left = Z) := hZ
    rw [hZ] at n1 n2 ⊢
    clear hZ
    go_wp2_with (first
      | (at_next; refine wp_next_kit idBins _ rfl _ rfl mb w.heap.size L left cnt rfl hrg ?_ ?_)
      | go_in)
    · intro h0
      have HL0 : Hid (∀ b ∈ st.bins, left b.1 = false) := fun b hb => h0 b.1.1 b.1.2 (some (pi b.1)) (by rw [← HL.out]; exact List.mem_map.2 ⟨b, hb, rfl⟩)
      clear h0
      go_wp2_with fail
      go_ret
      have e1 : (⟨st.files, sweepOf st.bins left⟩ : NSt) = (nSweep st).2 := by
        unfold sweepOf nSweep
        simp only [NSt.mk.injEq, true_and]
        exact List.map_congr_left fun b hb => by rw [if_neg (by rw [HL0.out b hb]; simp)]
      have e2 : Z = (nSweep st).1 := by
        rw [← HZ.out]
        unfold sweptOf nSweep
        rw [List.filter_eq_self.2 (fun b hb => by rw [HL0.out b hb]; rfl)]
      refine ⟨_, by rw [e2]; rfl, ⟨N, mf, mb, vi, pi, Fj, rfl, by rw [← e1]; exact HN.out, rfl⟩, fun k hk => ?_, HO.out⟩
      rw [← e1] at hk
      rcases HFT.out k hk with h | h
      · exact .inl h
      · exact .inr (Nat.le_of_lt h)
    · intro xp xl c w1 cnt1 hm hlx hrg1 hlt hg1 hs1 hen
      rw [← HL.out] at hm
      obtain ⟨⟨y, bl⟩, hyb, hye⟩ := List.mem_map.1 hm
      obtain ⟨hy, rfl⟩ : y = (xp, xl) ∧ some (pi y) = c := by simpa using hye
      subst hy
      change (Instr.entry (.pointer (some ⟨w.heap.size, 0, none⟩))).run Tryz.prog w1 = .ok (.tuple #[idV (xp : Nat) xl, .pointer (some (pi (xp, xl)))]) w1 at hen
      have HF1 := hideN (sweepOf_flip hap (left := left) hyb hlx)
      have HS : Hid (sweptOf st.bins (fun y => left y && !decide (y = (xp, xl))) = (hSweep bl).1 + Z) := by
        show _ = _
        rw [sweptOf_flip hap hyb hlx, HZ.out]
      obtain ⟨m1, m2⟩ := HNB.out (fun y => left y && !decide (y = (xp, xl)))
      rw [HS.out] at m1 m2
      have hw : IntKind.i64.wrap (Z + (hSweep bl).1) = Z + (hSweep bl).1 := by rw [IntKind.wrap_i64]; omega
      have HLT := hideN HH.out.lt
      have hrn : ¬ nFoot N mf mb vi Fj ⟨st.files, sweepOf st.bins left⟩ w.heap.size := fun hk => by
        rcases HFT.out _ hk with h | h
        · rw [HFE.out] at h
          have := HLT.out _ h
          omega
        · omega
      have ho1 : Off (fun k => k = w.heap.size) wr w1 := off_of_grown hg1 rfl
      have HN1 := hideN (HN.out.off ho1 (fun k hk e => hrn (e ▸ hk)))
      have HO1 : Hid (Off F w w1) := HO.out.trans ho1 (fun k hk e => by omega)
      have hmem : ((xp, xl), bl) ∈ sweepOf st.bins left := List.mem_map.2 ⟨_, hyb, by simp [hlx]⟩
      have HMEM := hideN hmem
      have HC := hideN (pSweep_any (pi (xp, xl)) (Fj (xp, xl)) bl w1 (HOK.out _ hyb) (HN1.out.bin _ hmem))
      have HPI : Hid (∃ q, q = pi (xp, xl)) := ⟨_, rfl⟩
      obtain ⟨q, hq⟩ : ∃ q, pi (xp, xl) = q := ⟨_, rfl⟩
      have HQ := hideN hq
      rw [hq] at HC hen
      obtain ⟨hb, hhb⟩ : ∃ hb, (hSweep bl).1 = hb := ⟨_, rfl⟩
      have HHB := hideN hhb
      rw [hhb] at HC hw m1 m2 HS
      have hrf : ¬ Fj (xp, xl) w.heap.size := fun hk => hrn (.inr (.inr (.inr (.inl ⟨_, hmem, hk⟩))))
      have hmf : ¬ Fj (xp, xl) mb := (HN1.out.apart _ hmem).2.2
      have HRF := hideN hrf
      have HMF := hideN hmf
      clear hM hr0 hg0 hm hye hq hhb hmem hrn ho1 hrf hmf HPI
      go_wp2_with fail
      refine HC.out.mono ?_
      rintro e w2 ⟨F2, rfl, hP2, hF2, ho2⟩
      have hrg2 : idBins.Rng w2 mb w.heap.size L (fun y => left y && !decide (y = (xp, xl))) cnt1 := rng_off hrg1 ho2 HMF.out HRF.out
      have hn2 := HN1.out.bin1 HMEM.out ho2 (by rw [HQ.out]; exact hP2) hF2
      rw [HF1.out] at hn2
      have HN2 := hideN hn2
      have hw1s : w.heap.size < w1.heap.size := hrg1.lt
      have HFT2 : Hid (∀ k, nFoot N mf mb vi (fun x => if x = (xp, xl) then F2 else Fj x) ⟨st.files, sweepOf st.bins (fun y => left y && !decide (y = (xp, xl)))⟩ k → F k ∨ w.heap.size < k) := fun k hk => by
        have hk' : nFoot N mf mb vi (fun x => if x = (xp, xl) then F2 else Fj x) ⟨st.files, binTo (sweepOf st.bins left) (xp, xl) (hSweep bl).2⟩ k := by rw [HF1.out]; exact hk
        rcases nFoot_bin1 (st := ⟨st.files, sweepOf st.bins left⟩) HMEM.out hF2 hk' with h | h
        · exact HFT.out k h
        · exact .inr (by omega)
      have HO2 : Hid (Off F w w2) := HO1.out.trans ho2 (fun k hk hf => by
        rcases HFT.out k (.inr (.inr (.inr (.inl ⟨_, HMEM.out, hf⟩)))) with h | h
        · exact h
        · omega)
      clear hn2 hP2 hF2 ho2 HC
      go_wp2_with fail
      go_roundw
      case rel => exact ⟨_, cnt1, _, by rw [HS.out, Int.add_comm], hrg2, HN2.out, HFT2.out, HO2.out⟩
      case measure => rw [hrg2.left_eq, hrg.left_eq]; exact hlt
end Go.Proofs.YtjdobbjdlighpaaGreatDoor
namespace Go.Proofs
open Go.RowKit Go.Maps Go.Sort Go.Shelf
def Tryz.keysM_ren : Go.Shelf.Ren := ⟨fun | 7 => 97 | 10 => 127 | n => n, fun | 23 => 142 | 26 => 9 | 3 => 26 | 28 => 96 | 0 => 0 | 27 => 95 | 33 => 59 | 4 => 4 | n => n, fun n => n⟩
theorem Tryz.keysM : Go.Proofs.SlLaysZ.n7 Go.Proofs.Tryz.prog Go.Proofs.Tryz.keysM_ren := {
  mixed := by kernel_rfl
  f7 := Exists.intro "maps.Keys[map[string]cornbin/api.Recipe,string,cornbin/api.Recipe]" ⟨of_decide_eq_true (by kernel_rfl), Tryz.func97.trans (congrArg some (by kernel_rfl))⟩
  f10 := Exists.intro "maps.Keys[map[string]cornbin/api.Recipe,string,cornbin/api.Recipe]$1" ⟨of_decide_eq_true (by kernel_rfl), Tryz.func127.trans (congrArg some (by kernel_rfl))⟩
  t0 := Tryz.underlying0
  a0 := Tryz.isAgg0
  z0 := Tryz.sizeOf0
  v0 := Tryz.zeroValue0
  t4 := Tryz.underlying4
  a4 := Tryz.isAgg4
  z4 := Tryz.sizeOf4
  v4 := Tryz.zeroValue4
  t23 := Tryz.underlying142
  a23 := Tryz.isAgg142
  z23 := Tryz.sizeOf142
  v23 := Tryz.zeroValue142
  t26 := Tryz.underlying9
  a26 := Tryz.isAgg9
  z26 := Tryz.sizeOf9
  v26 := Tryz.zeroValue9
  t27 := Tryz.underlying95
  a27 := Tryz.isAgg95
  z27 := Tryz.sizeOf95
  v27 := Tryz.zeroValue95
  t28 := Tryz.underlying96
  a28 := Tryz.isAgg96
  z28 := Tryz.sizeOf96
  v28 := Tryz.zeroValue96
  t33 := Tryz.underlying59
  a33 := Tryz.isAgg59
  z33 := Tryz.sizeOf59
  v33 := Tryz.zeroValue59 }
def Tryz.sortedM_ren : Go.Shelf.Ren := ⟨fun | 6 => 96 | 8 => 54 | 9 => 126 | 11 => 99 | 13 => 120 | 12 => 167 | 23 => 155 | 24 => 156 | 14 => 186 | 15 => 187 | 16 => 188 | 17 => 189 | 18 => 190 | 19 => 191 | 20 => 192 | 21 => 193 | 22 => 194 | 25 => 206 | 26 => 207 | 27 => 208 | 28 => 209 | 29 => 210 | 30 => 211 | 31 => 216 | n => n, fun | 26 => 9 | 28 => 96 | 24 => 31 | 0 => 0 | 3 => 3 | 37 => 159 | 48 => 23 | 50 => 212 | 4 => 4 | 40 => 253 | 39 => 252 | 45 => 160 | 5 => 5 | 9 => 9 | 51 => 266 | 55 => 248 | 57 => 275 | 58 => 111 | 33 => 59 | n => n, fun n => n⟩
theorem Tryz.sortedM : Go.Proofs.SlLaysZ.n6 Go.Proofs.Tryz.prog Go.Proofs.Tryz.sortedM_ren := {
  mixed := by kernel_rfl
  f6 := Exists.intro "slices.Sorted[string]" ⟨of_decide_eq_true (by kernel_rfl), Tryz.func96.trans (congrArg some (by kernel_rfl))⟩
  f8 := Exists.intro "slices.Collect[string]" ⟨of_decide_eq_true (by kernel_rfl), Tryz.func54.trans (congrArg some (by kernel_rfl))⟩
  f11 := Exists.intro "slices.AppendSeq[[]string,string]" ⟨of_decide_eq_true (by kernel_rfl), Tryz.func99.trans (congrArg some (by kernel_rfl))⟩
  t0 := Tryz.underlying0
  a0 := Tryz.isAgg0
  z0 := Tryz.sizeOf0
  v0 := Tryz.zeroValue0
  t24 := Tryz.underlying31
  a24 := Tryz.isAgg31
  z24 := Tryz.sizeOf31
  v24 := Tryz.zeroValue31
  t26 := Tryz.underlying9
  a26 := Tryz.isAgg9
  z26 := Tryz.sizeOf9
  v26 := Tryz.zeroValue9
  t28 := Tryz.underlying96
  a28 := Tryz.isAgg96
  z28 := Tryz.sizeOf96
  v28 := Tryz.zeroValue96
  i26 := by kernel_rfl }
def Tryz.sortM_ren : Go.Shelf.Ren := ⟨fun | 6 => 126 | 8 => 120 | 9 => 167 | 19 => 155 | 20 => 156 | 21 => 186 | 22 => 187 | 23 => 188 | 24 => 189 | 25 => 190 | 26 => 191 | 27 => 192 | 28 => 193 | 29 => 194 | 36 => 206 | 31 => 207 | 32 => 208 | 37 => 209 | 38 => 210 | 39 => 211 | 41 => 216 | n => n, fun | 27 => 31 | 29 => 9 | 3 => 3 | 32 => 159 | 26 => 31 | 0 => 0 | 44 => 23 | 46 => 212 | 4 => 4 | 36 => 253 | 35 => 252 | 41 => 160 | 5 => 5 | 9 => 9 | 53 => 266 | 57 => 248 | 63 => 275 | 64 => 111 | n => n, fun n => n⟩
theorem Tryz.sortM : Go.Proofs.SlLaysM.n6 Go.Proofs.Tryz.prog Go.Proofs.Tryz.sortM_ren := {
  mixed := by kernel_rfl
  f6 := Exists.intro "slices.Sort[[]string,string]" ⟨of_decide_eq_true (by kernel_rfl), Tryz.func126.trans (congrArg some (by kernel_rfl))⟩
  f8 := Tryz.func120.trans (congrArg some (by kernel_rfl))
  f9 := Exists.intro "slices.pdqsortOrdered[string]" ⟨of_decide_eq_true (by kernel_rfl), Tryz.func167.trans (congrArg some (by kernel_rfl))⟩
  f19 := Tryz.func155.trans (congrArg some (by kernel_rfl))
  f20 := Tryz.func156.trans (congrArg some (by kernel_rfl))
  f21 := Exists.intro "slices.insertionSortOrdered[string]" ⟨of_decide_eq_true (by kernel_rfl), Tryz.func186.trans (congrArg some (by kernel_rfl))⟩
  f22 := Exists.intro "slices.heapSortOrdered[string]" ⟨of_decide_eq_true (by kernel_rfl), Tryz.func187.trans (congrArg some (by kernel_rfl))⟩
  f23 := Exists.intro "slices.breakPatternsOrdered[string]" ⟨of_decide_eq_true (by kernel_rfl), Tryz.func188.trans (congrArg some (by kernel_rfl))⟩
  f24 := Exists.intro "slices.choosePivotOrdered[string]" ⟨of_decide_eq_true (by kernel_rfl), Tryz.func189.trans (congrArg some (by kernel_rfl))⟩
  f25 := Exists.intro "slices.reverseRangeOrdered[string]" ⟨of_decide_eq_true (by kernel_rfl), Tryz.func190.trans (congrArg some (by kernel_rfl))⟩
  f26 := Exists.intro "slices.partialInsertionSortOrdered[string]" ⟨of_decide_eq_true (by kernel_rfl), Tryz.func191.trans (congrArg some (by kernel_rfl))⟩
  f27 := Exists.intro "cmp.Less[string]" ⟨of_decide_eq_true (by kernel_rfl), Tryz.func192.trans (congrArg some (by kernel_rfl))⟩
  f28 := Exists.intro "slices.partitionEqualOrdered[string]" ⟨of_decide_eq_true (by kernel_rfl), Tryz.func193.trans (congrArg some (by kernel_rfl))⟩
  f29 := Exists.intro "slices.partitionOrdered[string]" ⟨of_decide_eq_true (by kernel_rfl), Tryz.func194.trans (congrArg some (by kernel_rfl))⟩
  f31 := Tryz.func207.trans (congrArg some (by kernel_rfl))
  f32 := Tryz.func208.trans (congrArg some (by kernel_rfl))
  f36 := Exists.intro "slices.siftDownOrdered[string]" ⟨of_decide_eq_true (by kernel_rfl), Tryz.func206.trans (congrArg some (by kernel_rfl))⟩
  f37 := Exists.intro "slices.medianAdjacentOrdered[string]" ⟨of_decide_eq_true (by kernel_rfl), Tryz.func209.trans (congrArg some (by kernel_rfl))⟩
  f38 := Exists.intro "slices.medianOrdered[string]" ⟨of_decide_eq_true (by kernel_rfl), Tryz.func210.trans (congrArg some (by kernel_rfl))⟩
  f39 := Exists.intro "cmp.isNaN[string]" ⟨of_decide_eq_true (by kernel_rfl), Tryz.func211.trans (congrArg some (by kernel_rfl))⟩
  f41 := Exists.intro "slices.order2Ordered[string]" ⟨of_decide_eq_true (by kernel_rfl), Tryz.func216.trans (congrArg some (by kernel_rfl))⟩
  t0 := Tryz.underlying0
  a0 := Tryz.isAgg0
  z0 := Tryz.sizeOf0
  v0 := Tryz.zeroValue0
  t3 := Tryz.underlying3
  a3 := Tryz.isAgg3
  z3 := Tryz.sizeOf3
  v3 := Tryz.zeroValue3
  t4 := Tryz.underlying4
  a4 := Tryz.isAgg4
  z4 := Tryz.sizeOf4
  v4 := Tryz.zeroValue4
  t5 := Tryz.underlying5
  a5 := Tryz.isAgg5
  z5 := Tryz.sizeOf5
  v5 := Tryz.zeroValue5
  t9 := Tryz.underlying9
  a9 := Tryz.isAgg9
  z9 := Tryz.sizeOf9
  v9 := Tryz.zeroValue9
  t26 := Tryz.underlying31
  a26 := Tryz.isAgg31
  z26 := Tryz.sizeOf31
  v26 := Tryz.zeroValue31
  t27 := Tryz.underlying31
  a27 := Tryz.isAgg31
  z27 := Tryz.sizeOf31
  v27 := Tryz.zeroValue31
  t29 := Tryz.underlying9
  a29 := Tryz.isAgg9
  z29 := Tryz.sizeOf9
  v29 := Tryz.zeroValue9
  t32 := Tryz.underlying159
  a32 := Tryz.isAgg159
  z32 := Tryz.sizeOf159
  v32 := Tryz.zeroValue159
  t35 := Tryz.underlying252
  a35 := Tryz.isAgg252
  z35 := Tryz.sizeOf252
  v35 := Tryz.zeroValue252
  t36 := Tryz.underlying253
  a36 := Tryz.isAgg253
  z36 := Tryz.sizeOf253
  v36 := Tryz.zeroValue253
  t41 := Tryz.underlying160
  a41 := Tryz.isAgg160
  z41 := Tryz.sizeOf160
  v41 := Tryz.zeroValue160
  t44 := Tryz.underlying23
  a44 := Tryz.isAgg23
  z44 := Tryz.sizeOf23
  v44 := Tryz.zeroValue23
  t46 := Tryz.underlying212
  a46 := Tryz.isAgg212
  z46 := Tryz.sizeOf212
  v46 := Tryz.zeroValue212
  t53 := Tryz.underlying266
  a53 := Tryz.isAgg266
  z53 := Tryz.sizeOf266
  v53 := Tryz.zeroValue266
  t57 := Tryz.underlying248
  a57 := Tryz.isAgg248
  z57 := Tryz.sizeOf248
  v57 := Tryz.zeroValue248
  t63 := Tryz.underlying275
  a63 := Tryz.isAgg275
  z63 := Tryz.sizeOf275
  v63 := Tryz.zeroValue275
  t64 := Tryz.underlying111
  a64 := Tryz.isAgg111
  z64 := Tryz.sizeOf111
  v64 := Tryz.zeroValue111 }
theorem Tryz.sortsM (m : Nat) : AnyZ.SortsIn Tryz.prog Tryz.sortedM_ren Fence.wide m :=
  ⟨fun blk off cap ss W hH hblk hsz => callsIn_wide.2 (AnyM.slices_Sort_string Tryz.sortM blk off cap ss W hH hblk hsz),
   fun p cap W => callsIn_wide.2 (AnyM.slices_Sort_string_none Tryz.sortM p cap W)⟩

theorem Tryz.maps_KeysM (mb : Option Nat) (W : World) : CallsIn Fence.wide 5 Tryz.prog 97 #[.map mb] W fun e w' => e = .returned (.func (.func 127) #[] #[.pointer (some ⟨W.heap.size, 0, none⟩)]) ∧ w' = W.alloc (.cells #[.map mb] 142) :=
  AnyZ.keys_in Tryz.keysM Fence.wide 5 trivial rfl mb W

set_option maxHeartbeats 1000000 in
theorem Tryz.sortedKeysM {H : Type} (b nn : Nat) (D0 : DataW H) (R : Value → Option (DataW H × List MemPlace)) (w : World) (hown : w.ownsMap Tryz.prog 9 R b nn D0) (hmax : Maps.size D0 ≤ maxLen) (hbytes : Maps.size D0 * 16 ≤ 140737488355328) :
    CallsIn Fence.wide 5 Tryz.prog 96 #[.func (.func 127) #[] #[.pointer (some ⟨w.heap.size, 0, none⟩)]] (w.alloc (.cells #[.map (some b)] 142)) fun e w' => ∃ (v : Value) (ss : List (List UInt8)), e = .returned v ∧ ss.Perm (strKeys D0) ∧
      w'.ownsRow (w.alloc (.cells #[.map (some b)] 142)).heap.size 9 1 v ss.length ((ss.mergeSort (fun x y => decide (x ≤ y))).map encStr) ∧ (v = .slice none 0 0 ↔ ss = []) ∧ Below (w.alloc (.cells #[.map (some b)] 142)).heap.size (w.alloc (.cells #[.map (some b)] 142)) w' := by
  have hbl := hown.lt
  have hseq : SeqGives Fence.wide 2 Tryz.prog 127 #[.pointer (some ⟨w.heap.size, 0, none⟩)] encStr (fun ss => ss.Perm (strKeys D0)) (Maps.size D0) (w.alloc (.cells #[.map (some b)] 142)) :=
    AnyZ.keys_gives (ρ := Tryz.keysM_ren) { Tryz.keysM with } Fence.wide _ trivial rfl (by omega) w.heap.size b nn D0 _ (by simp) (by simp) (by
      obtain ⟨es, clock, hb, Ft, hs, hD⟩ := hown
      exact ⟨es, clock, (Below.heap_alloc _ _ b hbl).trans hb, Ft, hs, hD⟩)
  exact AnyZ.sorted_in Tryz.sortedM Fence.wide 5 trivial trivial trivial trivial rfl (by omega) (Tryz.sortsM _) (enters_of Tryz.func126 (by kernel_rfl) rfl) 127 #[.pointer (some ⟨w.heap.size, 0, none⟩)] trivial (enters_of Tryz.func127 (by kernel_rfl) rfl) _ _ hmax hbytes _ hseq

set_option maxHeartbeats 1000000 in
theorem Tryz.sortedKeysNilM (w : World) :
    CallsIn Fence.wide 5 Tryz.prog 96 #[.func (.func 127) #[] #[.pointer (some ⟨w.heap.size, 0, none⟩)]] (w.alloc (.cells #[.map none] 142)) fun e w' => ∃ (v : Value) (ss : List (List UInt8)), e = .returned v ∧ ss = [] ∧
      w'.ownsRow (w.alloc (.cells #[.map none] 142)).heap.size 9 1 v ss.length ((ss.mergeSort (fun x y => decide (x ≤ y))).map encStr) ∧ (v = .slice none 0 0 ↔ ss = []) ∧ Below (w.alloc (.cells #[.map none] 142)).heap.size (w.alloc (.cells #[.map none] 142)) w' := by
  have hseq : SeqGives Fence.wide 2 Tryz.prog 127 #[.pointer (some ⟨w.heap.size, 0, none⟩)] encStr (fun ss : List (List UInt8) => ss = []) 0 (w.alloc (.cells #[.map none] 142)) :=
    AnyZ.keys_gives_nil (ρ := Tryz.keysM_ren) { Tryz.keysM with } Fence.wide _ trivial rfl w.heap.size _ (by simp) (by simp)
  exact AnyZ.sorted_in Tryz.sortedM Fence.wide 5 trivial trivial trivial trivial rfl (by omega) (Tryz.sortsM _) (enters_of Tryz.func126 (by kernel_rfl) rfl) 127 #[.pointer (some ⟨w.heap.size, 0, none⟩)] trivial (enters_of Tryz.func127 (by kernel_rfl) rfl) _ 0 (Nat.zero_le _) (by omega) _ hseq
end Go.Proofs
namespace Go.Proofs.YtjdobbjdlighpaaGreatDoor
open Go.RowKit Go.Maps Go.Sort Go.Shelf

theorem strKl (x : List UInt8) (hx : WfNm x) : strRcps.kl x = .string x := by
  show (keyOf Tryz.prog 9 (.string ⟨x.toArray⟩)).getD (.bool false) = _
  rw [strKey_eq]
  unfold mapKey
  rw [Tryz.underlying9]
  have h1 : x.toArray.size = x.length := List.size_toArray
  have : (⟨x.toArray⟩ : ByteArray).size ≤ maxLen := by show x.toArray.size ≤ maxLen; rw [h1]; exact hx
  simp only [this, if_true]
  rfl
set_option maxRecDepth 100000 in
set_option maxHeartbeats 2000000 in
theorem nodeNames_any (p : Addr) (F : Nat → Prop) (st : NSt) (w : World) (hn : st.files.length ≤ 1000) (hP : PNode w p F st) :
    Calls Tryz.prog 52 #[.pointer (some p)] w fun e w' => ∃ (v : Value) (ss : List (List UInt8)), e = .returned v ∧ ss.Perm (st.files.map (·.1)) ∧
      w'.ownsRow w.heap.size 9 1 v ss.length ((ss.mergeSort (fun x y => decide (x ≤ y))).map encStr) ∧ Below w.heap.size w w' := by
  obtain ⟨N, mf, mb, vi, pi, Fi, rfl, h, _⟩ := hP
  have q0 := h.blk.cell (i := 0) rfl
  obtain ⟨ds, hown, hp⟩ := h.files.own
  have hsz : Maps.size (DataW.map ds) = st.files.length := by
    show ds.length = _
    rw [hp.length_eq, List.length_map, List.length_map]
  have hkeys : (strKeys (DataW.map ds)).Perm (st.files.map (·.1)) := by
    have h1 : (ds.map fun p => strOf p.1).Perm (((st.files.map fun f => (f.1, rwOf f (vi f.1))).map strRcps.ent).map fun p => strOf p.1) := hp.map _
    have h2 : (((st.files.map fun f => (f.1, rwOf f (vi f.1))).map strRcps.ent).map fun p => strOf p.1) = st.files.map (·.1) := by
      rw [List.map_map, List.map_map]
      refine List.map_congr_left fun f hf => ?_
      show strOf (strRcps.kl f.1) = f.1
      rw [strKl _ (h.files.wf _ (List.mem_map.2 ⟨f, hf, rfl⟩))]
      rfl
    rw [h2] at h1
    exact h1
  have hmax : Maps.size (DataW.map ds) ≤ maxLen := by rw [hsz]; unfold maxLen; omega
  have hbytes : Maps.size (DataW.map ds) * 16 ≤ 140737488355328 := by rw [hsz]; omega
  refine (callsIn_wide (n := 6)).1 ?_
  have hfK : Fence.wide.fn 97 := trivial
  have hfS : Fence.wide.fn 96 := trivial
  refine callsIn_of_wp Tryz.func52 rfl trivial ?_ rfl
  simp only [Tryz.ntmps52, List.size_toArray, List.length_cons, List.length_nil, Nat.reduceAdd, Nat.reduceSub, Array.replicate_succ, Array.replicate_zero, List.push_toArray, List.append_toArray, List.nil_append, List.cons_append]
  gi_wp2_with (first
    | (gi_at_call 97; refine (Tryz.maps_KeysM _ _).mono ?_; rintro e w' ⟨rfl, rfl⟩)
    | (gi_at_call 96; refine (Tryz.sortedKeysM mf _ (DataW.map ds) _ w hown hmax hbytes).mono ?_; rintro e w' ⟨v, ss, rfl, hS, hrow, hnil, hb⟩))
  go_ret
  exact ⟨v, ss, rfl, hS.trans hkeys, ownsRow_base_a hrow (by simp), ((Below.refl _ w).alloc (Nat.le_refl _) _).trans (hb.mono (by simp))⟩
end Go.Proofs.YtjdobbjdlighpaaGreatDoor
namespace Go.Proofs.YtjdobbjdlighpaaGreatDoor
open Go.RowKit

abbrev strB (s : List UInt8) : Value := .string ⟨s.toArray⟩
def idC : List (Nat × Int) → List Value
  | [] => []
  | x :: r => .int .u32 (x.1 : Nat) :: .int .i64 x.2 :: idC r
theorem idC_append : ∀ (a b : List (Nat × Int)), idC (a ++ b) = idC a ++ idC b
  | [], _ => rfl
  | x :: r, b => by rw [List.cons_append, idC, idC_append r b, idC]; rfl
theorem idC_at : ∀ (a : List (Nat × Int)) (i : Nat) (h : i < a.length), (idC a)[i * 2]? = some (.int .u32 (a[i].1 : Nat)) ∧ (idC a)[i * 2 + 1]? = some (.int .i64 a[i].2)
  | x :: r, 0, _ => ⟨rfl, rfl⟩
  | x :: r, i + 1, h => by
    have := idC_at r i (by simpa using h)
    rw [idC, show (i + 1) * 2 = i * 2 + 1 + 1 by omega]
    simpa using this

structure UseSt (PB : PBin) (w W : World) (p : Addr) (F : Nat → Prop) (l : List Hd) (vt vi : Value) (lt li : List (List UInt8)) : Prop where
  below : Below w.heap.size w W
  pb : PB W p F l
  pnew : ∀ k, F k → w.heap.size ≤ k
  rt : W.ownsRow w.heap.size 9 1 vt lt.length (lt.map strB)
  ri : W.ownsRow w.heap.size 40 2 vi li.length (idC (li.map idOfL))
  pt : ∀ k, F k → vt.ownBlock ≠ some k
  pi : ∀ k, F k → vi.ownBlock ≠ some k
  ti : ∀ k, vt.ownBlock = some k → vi.ownBlock ≠ some k
theorem row_lt {w : World} {base : Nat} {e : TypeId} {size : Nat} {v : Value} {n : Nat} {xs : List Value} (h : w.ownsRow base e size v n xs) {j : Nat} (hj : v.ownBlock = some j) : j < w.heap.size := by
  obtain ⟨_, h⟩ := h
  rcases h with ⟨rfl, _⟩ | ⟨g, cap, cur, rfl, _, hh, _⟩
  · simp [Value.ownBlock] at hj
  · simp [Value.ownBlock] at hj
    subst hj
    exact lt_of_block hh
theorem row_ge {w : World} {base : Nat} {e : TypeId} {size : Nat} {v : Value} {n : Nat} {xs : List Value} (h : w.ownsRow base e size v n xs) {j : Nat} (hj : v.ownBlock = some j) : base ≤ j := by
  obtain ⟨_, h⟩ := h
  rcases h with ⟨rfl, _⟩ | ⟨g, cap, cur, rfl, hg, _⟩
  · simp [Value.ownBlock] at hj
  · simp [Value.ownBlock] at hj; omega
theorem UseSt.start {PB : PBin} {w W : World} {p : Addr} {F : Nat → Prop} (hb : Below w.heap.size w W) (hP : PB W p F []) (hF : ∀ k, F k → w.heap.size ≤ k) : UseSt PB w W p F [] (.slice none 0 0) (.slice none 0 0) [] [] :=
  ⟨hb, hP, hF, World.ownsRow_nil _ _ _ _, World.ownsRow_nil _ _ _ _, fun _ _ h => by simp [Value.ownBlock] at h, fun _ _ h => by simp [Value.ownBlock] at h, fun _ h => by simp [Value.ownBlock] at h⟩
theorem UseSt.next {a : Nat → Addr} {Env : World → Prop} {PB : PBin} (S : BinSpec a Env PB) {w W W' : World} {p : Addr} {F : Nat → Prop} {l : List Hd} {vt vi : Value} {lt li : List (List UInt8)} (h : UseSt PB w W p F l vt vi lt li) (hb : Below W.heap.size W W') : UseSt PB w W' p F l vt vi lt li :=
  ⟨h.below.trans (hb.mono h.below.size), S.below h.pb hb, h.pnew, row_below h.rt hb, row_below h.ri hb, h.pt, h.pi, h.ti⟩
theorem UseSt.prog {PB : PBin} {w W W' : World} {p : Addr} {F F' : Nat → Prop} {l l' : List Hd} {vt vi : Value} {lt li : List (List UInt8)} (h : UseSt PB w W p F l vt vi lt li) (hp : PB W' p F' l') (hF : ∀ k, F' k → F k ∨ W.heap.size ≤ k) (ho : Off F W W') : UseSt PB w W' p F' l' vt vi lt li := by
  refine ⟨h.below.trans (ho.below h.below.size (fun k hk hf => by have := h.pnew k hf; omega)), hp, fun k hk => ?_, ho.row h.rt (fun k hk hf => h.pt k hf hk), ho.row h.ri (fun k hk hf => h.pi k hf hk), fun k hk e => ?_, fun k hk e => ?_, h.ti⟩
  · rcases hF k hk with hk | hk
    · exact h.pnew k hk
    · exact Nat.le_trans h.below.size hk
  · rcases hF k hk with hk | hk
    · exact h.pt k hk e
    · have := row_lt h.rt e; omega
  · rcases hF k hk with hk | hk
    · exact h.pi k hk e
    · have := row_lt h.ri e; omega
theorem off_of_rowgrown {w w' : World} {row : Option Nat} (h : w.grownBy w' row) : Off (fun k => row = some k) w w' := ⟨h.os, h.tape, h.output, h.size, fun k hk hn => h.block k hk (fun e => hn e.symm)⟩
theorem UseSt.text {a : Nat → Addr} {Env : World → Prop} {PB : PBin} (S : BinSpec a Env PB) {w W W' : World} {p : Addr} {F : Nat → Prop} {l : List Hd} {vt vi vt' : Value} {lt li lt' : List (List UInt8)} (h : UseSt PB w W p F l vt vi lt li) (hg : W.grownBy W' vt.ownBlock) (hr : W'.ownsRow w.heap.size 9 1 vt' lt'.length (lt'.map strB)) (hv : vt'.ownBlock = vt.ownBlock ∨ vt'.ownBlock = some W.heap.size) : UseSt PB w W' p F l vt' vi lt' li := by
  have ho := off_of_rowgrown hg
  refine ⟨h.below.trans (ho.below h.below.size (fun k hk e => by have := row_ge h.rt e; omega)), S.off h.pb ho (fun k hk e => h.pt k hk e), h.pnew, hr, ho.row h.ri (fun k hk e => h.ti k e hk), fun k hk e => ?_, h.pi, fun k e e2 => ?_⟩
  · rcases hv with hv | hv
    · exact h.pt k hk (hv ▸ e)
    · have := S.lt h.pb k hk
      rw [hv] at e
      have := Option.some.inj e
      omega
  · rcases hv with hv | hv
    · exact h.ti k (hv ▸ e) e2
    · have := row_lt h.ri e2
      rw [hv] at e
      have := Option.some.inj e
      omega
theorem UseSt.id {a : Nat → Addr} {Env : World → Prop} {PB : PBin} (S : BinSpec a Env PB) {w W W' : World} {p : Addr} {F : Nat → Prop} {l : List Hd} {vt vi vi' : Value} {lt li li' : List (List UInt8)} (h : UseSt PB w W p F l vt vi lt li) (hg : W.grownBy W' vi.ownBlock) (hr : W'.ownsRow w.heap.size 40 2 vi' li'.length (idC (li'.map idOfL))) (hv : vi'.ownBlock = vi.ownBlock ∨ vi'.ownBlock = some W.heap.size) : UseSt PB w W' p F l vt vi' lt li' := by
  have ho := off_of_rowgrown hg
  refine ⟨h.below.trans (ho.below h.below.size (fun k hk e => by have := row_ge h.ri e; omega)), S.off h.pb ho (fun k hk e => h.pi k hk e), h.pnew, ho.row h.rt (fun k hk e => h.ti k hk e), hr, h.pt, fun k hk e => ?_, fun k e e2 => ?_⟩
  · rcases hv with hv | hv
    · exact h.pi k hk (hv ▸ e)
    · have := S.lt h.pb k hk
      rw [hv] at e
      have := Option.some.inj e
      omega
  · rcases hv with hv | hv
    · exact h.ti k e (hv ▸ e2)
    · have := row_lt h.rt e
      rw [hv] at e2
      have := Option.some.inj e2
      omega
theorem add_plain (g j : Nat) : (⟨g, 0, none⟩ : Addr).add j = ⟨g, j, none⟩ := by
  by_cases h : j = 0
  · subst h; rfl
  · simp [Addr.add, h]
/- Element i of both rows, as the walks ask it: where the row lies. -/
theorem UseSt.cells {PB : PBin} {w W : World} {p : Addr} {F : Nat → Prop} {l : List Hd} {vt vi : Value} {lt li : List (List UInt8)} (h : UseSt PB w W p F l vt vi lt li) (hn : li ≠ []) (hl : lt = li) : ∃ gt ct gi ci, vt = .slice (some ⟨gt, 0, none⟩) li.length ct ∧ vi = .slice (some ⟨gi, 0, none⟩) li.length ci ∧ ∀ i (hi : i < li.length), W.cell? ⟨gt, i, none⟩ = some (strB li[i]) ∧ W.cell? ⟨gi, i * 2, none⟩ = some (.int .u32 ((idOfL li[i]).1 : Nat)) ∧ W.cell? ⟨gi, i * 2 + 1, none⟩ = some (.int .i64 (idOfL li[i]).2) := by
  subst hl
  have hpos : lt.length ≠ 0 := by simpa using hn
  have h1 := h.rt
  have h2 := h.ri
  have k1 := h1.2
  have k2 := h2.2
  rcases k1 with ⟨_, hz⟩ | ⟨g, cap, cur, hv, _⟩
  · exact absurd hz hpos
  · rcases k2 with ⟨_, hz⟩ | ⟨g2, cap2, cur2, hv2, _⟩
    · exact absurd hz hpos
    · refine ⟨g, cap, g2, cap2, hv, hv2, fun i hi => ?_⟩
      have c1 := h1.cells (g := g) (by rw [hv]; rfl) i (strB lt[i]) (by simp [hi])
      have hm : i < (lt.map idOfL).length := by simpa using hi
      obtain ⟨e1, e2⟩ := idC_at (lt.map idOfL) i hm
      have c2 := h2.cells (g := g2) (by rw [hv2]; rfl) (i * 2) _ e1
      have c3 := h2.cells (g := g2) (by rw [hv2]; rfl) (i * 2 + 1) _ e2
      simp only [add_plain, List.getElem_map] at c1 c2 c3
      exact ⟨c1, c2, c3⟩
end Go.Proofs.YtjdobbjdlighpaaGreatDoor
namespace Go.Proofs.YtjdobbjdlighpaaGreatDoor
open Go.RowKit Go.Maps

structure TRows (w W : World) (F : Nat → Prop) (rs : List (Value × List (List UInt8))) : Prop where
  own : ∀ r ∈ rs, W.ownsRow w.heap.size 9 1 r.1 r.2.length (r.2.map strB)
  off : ∀ r ∈ rs, ∀ k, F k → r.1.ownBlock ≠ some k
  two : rs.Pairwise (fun a b => ∀ k, a.1.ownBlock = some k → b.1.ownBlock ≠ some k)
theorem TRows.nil (w W : World) (F : Nat → Prop) : TRows w W F [] := ⟨fun r hr => by simp at hr, fun r hr => by simp at hr, List.Pairwise.nil⟩
theorem TRows.snoc {w W : World} {F : Nat → Prop} {rs : List (Value × List (List UInt8))} (h : TRows w W F rs) : TRows w W F (rs ++ [(.slice none 0 0, [])]) := by
  refine ⟨fun r hr => ?_, fun r hr k hk => ?_, List.pairwise_append.2 ⟨h.two, List.pairwise_singleton _ _, fun a _ b hb k _ e => ?_⟩⟩
  · rcases List.mem_append.1 hr with hr | hr
    · exact h.own r hr
    · rw [List.mem_singleton.1 hr]
      exact World.ownsRow_nil _ _ _ _
  · rcases List.mem_append.1 hr with hr | hr
    · exact h.off r hr k hk
    · rw [List.mem_singleton.1 hr]
      simp [Value.ownBlock]
  · rw [List.mem_singleton.1 hb] at e
    simp [Value.ownBlock] at e
theorem TRows.sub {w W : World} {F : Nat → Prop} {rs rs' : List (Value × List (List UInt8))} (h : TRows w W F rs) (hs : rs'.Sublist rs) : TRows w W F rs' :=
  ⟨fun r hr => h.own r (hs.subset hr), fun r hr => h.off r (hs.subset hr), h.two.sublist hs⟩
theorem TRows.below {w W W' : World} {F : Nat → Prop} {rs : List (Value × List (List UInt8))} (h : TRows w W F rs) (hb : Below W.heap.size W W') : TRows w W' F rs :=
  ⟨fun r hr => row_below (h.own r hr) hb, h.off, h.two⟩
theorem TRows.prog {w W W' : World} {F F' : Nat → Prop} {rs : List (Value × List (List UInt8))} (h : TRows w W F rs) (ho : Off F W W') (hF : ∀ k, F' k → F k ∨ W.heap.size ≤ k) : TRows w W' F' rs := by
  refine ⟨fun r hr => ho.row (h.own r hr) (fun k hk hf => h.off r hr k hf hk), fun r hr k hk e => ?_, h.two⟩
  rcases hF k hk with hk | hk
  · exact h.off r hr k hk e
  · have := row_lt (h.own r hr) e
    omega
theorem TRows.app {w W W' : World} {F : Nat → Prop} {A B : List (Value × List (List UInt8))} {v v' : Value} {t t' : List (List UInt8)} (h : TRows w W F (A ++ (v, t) :: B)) (hF : ∀ k, F k → k < W.heap.size) (hg : W.grownBy W' v.ownBlock) (hr : W'.ownsRow w.heap.size 9 1 v' t'.length (t'.map strB)) (hv : v'.ownBlock = v.ownBlock ∨ v'.ownBlock = some W.heap.size) : TRows w W' F (A ++ (v', t') :: B) := by
  have ho := off_of_rowgrown hg
  obtain ⟨tA, tB, tAB⟩ := List.pairwise_append.1 h.two
  obtain ⟨tv, tB⟩ := List.pairwise_cons.1 tB
  have hvm : (v, t) ∈ A ++ (v, t) :: B := List.mem_append_right _ (List.mem_cons_self ..)
  have hother : ∀ r, r ∈ A ∨ r ∈ B → r ∈ A ++ (v, t) :: B ∧ ∀ k, v.ownBlock = some k → r.1.ownBlock ≠ some k := fun r hr => by
    rcases hr with hr | hr
    · exact ⟨List.mem_append_left _ hr, fun k hk e => tAB r hr _ (List.mem_cons_self ..) k e hk⟩
    · exact ⟨List.mem_append_right _ (List.mem_cons_of_mem _ hr), fun k hk => tv r hr k hk⟩
  have hnew : ∀ r, r ∈ A ∨ r ∈ B → ∀ k, v'.ownBlock = some k → r.1.ownBlock ≠ some k := fun r hr k hk e => by
    rcases hv with hv | hv
    · exact (hother r hr).2 k (hv ▸ hk) e
    · have := row_lt (h.own r (hother r hr).1) e
      rw [hv] at hk
      have := Option.some.inj hk
      omega
  have hmem : ∀ r, r ∈ A ++ (v', t') :: B → r = (v', t') ∨ (r ∈ A ∨ r ∈ B) := fun r hr => by
    rcases List.mem_append.1 hr with hr | hr
    · exact .inr (.inl hr)
    · rcases List.mem_cons.1 hr with hr | hr
      · exact .inl hr
      · exact .inr (.inr hr)
  refine ⟨fun r hm => ?_, fun r hm k hk e => ?_, List.pairwise_append.2 ⟨tA, List.pairwise_cons.2 ⟨fun b hb k hk => hnew b (.inr hb) k hk, tB⟩, fun a ha b hb k hk => ?_⟩⟩
  · rcases hmem r hm with rfl | hm
    · exact hr
    · obtain ⟨h1, h2⟩ := hother r hm
      exact ho.row (h.own r h1) (fun k hk e => h2 k e hk)
  · rcases hmem r hm with rfl | hm
    · rcases hv with hv | hv
      · exact h.off _ hvm k hk (hv ▸ e)
      · have := hF k hk
        simp only at e
        rw [hv] at e
        have := Option.some.inj e
        omega
    · exact h.off r (hother r hm).1 k hk e
  · rcases List.mem_cons.1 hb with rfl | hb
    · exact fun e => hnew a (.inl ha) k e hk
    · exact tAB a ha b (List.mem_cons_of_mem _ hb) k hk
theorem TRows.cell {w W : World} {F : Nat → Prop} {rs : List (Value × List (List UInt8))} (h : TRows w W F rs) {v : Value} {t : List (List UInt8)} (hm : (v, t) ∈ rs) (hn : t ≠ []) : ∃ g c, v = .slice (some ⟨g, 0, none⟩) t.length c ∧ ∀ i (hi : i < t.length), W.cell? ⟨g, i, none⟩ = some (strB t[i]) := by
  have h1 := h.own _ hm
  have k1 := h1.2
  simp only at h1 k1
  rcases k1 with ⟨_, hz⟩ | ⟨g, cap, cur, hv, _⟩
  · exact absurd (List.length_eq_zero_iff.1 hz) hn
  · refine ⟨g, cap, hv, fun i hi => ?_⟩
    have c1 := h1.cells (g := g) (by rw [hv]; rfl) i (strB t[i]) (by simp [hi])
    simp only [add_plain] at c1
    exact c1
theorem TRows.shape {w W : World} {F : Nat → Prop} {rs : List (Value × List (List UInt8))} (h : TRows w W F rs) {v : Value} {t : List (List UInt8)} (hm : (v, t) ∈ rs) : ∃ p c, v = .slice p t.length c := by
  rcases (h.own _ hm).2 with ⟨e, e2⟩ | ⟨g, cap, cur, e, _⟩
  · simp only at e e2
    exact ⟨_, _, by rw [e, e2]⟩
  · exact ⟨_, _, e⟩
theorem infoStrK : (Tryz.prog.info? 9).map (fun i => (i.zero, i.size, i.bytes)) = some (some (.string ⟨#[]⟩), 1, 16) := by kernel_rfl
theorem str_backK (t : ByteArray) : (⟨t.data.toList.toArray⟩ : ByteArray) = t := by
  apply ByteArray.ext
  simp
theorem cell_one_atK {W : World} {B : Nat} {x : Value} {t : TypeId} (hB : B = W.heap.size) : ∀ j u, [x][j]? = some u → (W.alloc (.cells #[x] t)).cell? ((⟨B, 0, none⟩ : Addr).add j) = some u := by
  subst hB
  intro j u hj
  rw [add_plain]
  exact new_cell W #[x] t (by rw [← hj]; simp) rfl
theorem text_rowK {W : World} {base : Nat} {v : Value} {log : List (List UInt8)} {t : ByteArray} (h : W.ownsRow base 9 1 v (log.length + 1) (log.map strB ++ [.string t])) : W.ownsRow base 9 1 v (log ++ [t.data.toList]).length ((log ++ [t.data.toList]).map strB) := by
  rw [List.length_append, List.map_append, List.map_singleton, strB, str_backK]
  exact h
theorem isName_len {x : List UInt8} (h : isName x = true) : x.length ≤ 12 := by
  unfold isName at h
  simp only [Bool.and_eq_true, decide_eq_true_eq] at h
  exact h.2.2
theorem strK_ne {s t : ByteArray} (h : s ≠ t) : (s.toList == t.toList) = false := by
  rw [ByteArray.toList_eq, ByteArray.toList_eq, beq_eq_false_iff_ne]
  exact fun e => h (WideShapes.bytes_inj e)
theorem strK_ne_lit {s : ByteArray} {l : List UInt8} (h : s ≠ ⟨l.toArray⟩) : (s.toList == l) = false := by
  rw [ByteArray.toList_eq, beq_eq_false_iff_ne]
  exact fun e => h (WideShapes.bytes_inj (by rw [e]))
theorem row_shapeK {W : World} {base : Nat} {e : TypeId} {size : Nat} {v : Value} {n : Nat} {xs : List Value} (h : W.ownsRow base e size v n xs) : ∃ p c, v = .slice p n c := by
  rcases h.2 with ⟨rfl, rfl⟩ | ⟨g, cap, cur, rfl, _⟩
  · exact ⟨_, _, rfl⟩
  · exact ⟨_, _, rfl⟩
structure KeepSt (w W : World) (p : Addr) (F : Nat → Prop) (st : NSt) (rs : List (Value × List (List UInt8))) : Prop where
  below : Below w.heap.size w W
  node : PNode W p F st
  new : ∀ k, F k → w.heap.size ≤ k
  rows : TRows w W F rs
theorem KeepSt.next {w W W' : World} {p : Addr} {F : Nat → Prop} {st : NSt} {rs : List (Value × List (List UInt8))} (h : KeepSt w W p F st rs) (hb : Below W.heap.size W W') : KeepSt w W' p F st rs :=
  ⟨h.below.trans (hb.mono h.below.size), h.node.below hb, h.new, h.rows.below hb⟩
theorem KeepSt.prog {w W W' : World} {p : Addr} {F F' : Nat → Prop} {st st' : NSt} {rs : List (Value × List (List UInt8))} (h : KeepSt w W p F st rs) (hp : PNode W' p F' st') (hF : ∀ k, F' k → F k ∨ W.heap.size ≤ k) (ho : Off F W W') : KeepSt w W' p F' st' rs :=
  ⟨h.below.trans (ho.below h.below.size (fun k hk hf => by have := h.new k hf; omega)), hp, fun k hk => (hF k hk).elim (h.new k) (fun h2 => Nat.le_trans h.below.size h2), h.rows.prog ho hF⟩
theorem KeepSt.app {w W W' : World} {p : Addr} {F : Nat → Prop} {st : NSt} {A B : List (Value × List (List UInt8))} {v v' : Value} {t t' : List (List UInt8)} (h : KeepSt w W p F st (A ++ (v, t) :: B)) (hg : W.grownBy W' v.ownBlock) (hr : W'.ownsRow w.heap.size 9 1 v' t'.length (t'.map strB)) (hv : v'.ownBlock = v.ownBlock ∨ v'.ownBlock = some W.heap.size) : KeepSt w W' p F st (A ++ (v', t') :: B) := by
  have ho := off_of_rowgrown hg
  have hvm : (v, t) ∈ A ++ (v, t) :: B := List.mem_append_right _ (List.mem_cons_self ..)
  exact ⟨h.below.trans (ho.below h.below.size (fun k hk e => by have := row_ge (h.rows.own _ hvm) e; omega)), h.node.off ho (fun k hk e => h.rows.off _ hvm k hk e), h.new, h.rows.app h.node.lt hg hr hv⟩
end Go.Proofs.YtjdobbjdlighpaaGreatDoor
