/-
  Own text. (*node.Node).Size by a contract.
-/
import Derived.Test.YteefjbdejcpepaaDoorNBin
namespace Go.Proofs.YteefjbdejcpepaaDoor
open Go.RowKit Go.Maps

def nSize (l : List NBin) : Int := (l.map fun b => hSize b.2).sum
theorem nSize_cons (b : NBin) (l : List NBin) : nSize (b :: l) = hSize b.2 + nSize l := by simp [nSize]
theorem nSize_perm {a b : List NBin} (h : a.Perm b) : nSize a = nSize b := by
  induction h with
  | nil => rfl
  | cons x _ ih => rw [nSize_cons, nSize_cons, ih]
  | swap x y l => rw [nSize_cons, nSize_cons, nSize_cons, nSize_cons]; omega
  | trans _ _ h1 h2 => rw [h1, h2]
theorem nSize_bound : ∀ (l : List NBin), (∀ b ∈ l, BinOk 1000000 b.2) → 0 ≤ nSize l ∧ nSize l ≤ l.length * 16000
  | [], _ => by simp [nSize]
  | b :: r, h => by
    have h1 := nSize_bound r (fun c hc => h c (List.mem_cons_of_mem _ hc))
    have h2 := hSize_filter_bound (h b (List.mem_cons_self ..)) (fun _ => true)
    rw [List.filter_eq_self.2 (fun _ _ => rfl)] at h2
    rw [nSize_cons, List.length_cons]
    omega
set_option maxRecDepth 100000 in
set_option maxHeartbeats 4000000 in
theorem nodeSize_any (p : Addr) (F : Nat → Prop) (st : NSt) (w : World) (hok : ∀ b ∈ st.bins, BinOk 1000000 b.2) (hn : st.bins.length ≤ 1000) (hP : PNode w p F st) :
    Calls Tryd.prog 76 #[.pointer (some p)] w fun e w' => e = .returned (.int .i64 (nSize st.bins)) ∧ Below w.heap.size w w' := by
  obtain ⟨N, mf, mb, vi, pi, Fi, rfl, h, _⟩ := hP
  have q1 := h.blk.cell (i := 1) rfl
  have hM := h.bins
  have hap : st.bins.Pairwise (fun p q => p.1 ≠ q.1) := by
    have := hM.apart
    rw [List.pairwise_map] at this
    exact this
  have hbl := hM.lt
  have HH := hideN h
  have HOK : Hid (∀ b ∈ st.bins, BinOk 1000000 b.2) := hok
  have HNB : Hid (∀ q : NBin → Bool, 0 ≤ nSize (st.bins.filter q) ∧ nSize (st.bins.filter q) ≤ 16000000) := fun q => by
    have h1 := nSize_bound (st.bins.filter q) (fun b hb => hok b (List.mem_filter.1 hb).1)
    have h2 := List.length_filter_le q st.bins
    omega
  obtain ⟨L, hL⟩ : ∃ L, (st.bins.map fun b => (b.1, some (pi b.1))) = L := ⟨_, rfl⟩
  have HL : Hid ((st.bins.map fun b => (b.1, some (pi b.1))) = L) := hL
  rw [hL] at hM
  clear hok h hL
  go_enter Tryd.func76, Tryd.ntmps76
  go_wp2_with (first
    | (at_range; refine wp_range_kit idBins _ rfl _ 132 rfl 52 Tryd.underlying132 mb L rfl hM ?_; intro w0 hr0 hg0 hs0)
    | go_in)
  go_frame
  go_loopw [3] (fun n wr => ∃ (left : Nat × Int → Bool) (cnt : Nat), n = .int .i64 (nSize (st.bins.filter (fun b => !left b.1))) ∧ idBins.Rng wr mb w.heap.size L left cnt ∧ w.grownBy wr none) (fun _ wr => wr.rangeLeft mb w.heap.size)
  case atStart =>
    refine ⟨_, _, ?_, hr0, hg0⟩
    rw [List.filter_eq_nil_iff.2 (fun b hm => by
      have : b.1 ∈ L.map (·.1) := List.mem_map.2 ⟨(b.1, some (pi b.1)), by rw [← HL.out]; exact List.mem_map.2 ⟨b, hm, rfl⟩, rfl⟩
      simp only [Bool.not_eq_true', Bool.not_eq_false, decide_eq_true_eq]
      exact this)]
    rfl
  case round =>
    obtain ⟨left, cnt, rfl, hrg, hgw⟩ := hrel
    obtain ⟨n1, n2⟩ := HNB.out (fun b => !left b.1)
    obtain ⟨Z, hZ⟩ : ∃ Z, nSize (st.bins.filter (fun b => !left b.1)) = Z := ⟨_, rfl⟩
    have HZ : Hid (nSize (st.bins.filter (fun b => !left b.1)) = Z) := hZ
    rw [hZ] at n1 n2 ⊢
    clear hZ
    go_wp2_with (first
      | (at_next; refine wp_next_kit idBins _ rfl _ rfl mb w.heap.size L left cnt rfl hrg ?_ ?_)
      | go_in)
    · intro h0
      have HZ0 : Hid (nSize st.bins = Z) := by
        show _ = _
        rw [← HZ.out, List.filter_eq_self.2 (fun b hm => by
          have := h0 b.1.1 b.1.2 (some (pi b.1)) (by rw [← HL.out]; exact List.mem_map.2 ⟨b, hm, rfl⟩)
          simp [this])]
      clear h0
      go_wp2_with fail
      go_ret
      exact ⟨by rw [HZ0.out]; rfl, below_of_grown hgw⟩
    · intro xp xl c w1 cnt1 hm hlx hrg1 hlt hg1 hs1 hen
      rw [← HL.out] at hm
      obtain ⟨⟨y, bl⟩, hyb, hye⟩ := List.mem_map.1 hm
      obtain ⟨hy, rfl⟩ : y = (xp, xl) ∧ some (pi y) = c := by simpa using hye
      subst hy
      change (Instr.entry (.pointer (some ⟨w.heap.size, 0, none⟩))).run Tryd.prog w1 = .ok (.tuple #[idV (xp : Nat) xl, .pointer (some (pi (xp, xl)))]) w1 at hen
      have hfl := filter_flip hap (p := left) hyb hlx
      have HS : Hid (nSize (st.bins.filter (fun y => !(left y.1 && !decide (y.1 = (xp, xl))))) = hSize bl + Z) := by
        show _ = _
        rw [nSize_perm hfl, nSize_cons, HZ.out]
      obtain ⟨m1, m2⟩ := HNB.out (fun y => !(left y.1 && !decide (y.1 = (xp, xl))))
      rw [HS.out] at m1 m2
      have hw : IntKind.i64.wrap (Z + hSize bl) = Z + hSize bl := by rw [IntKind.wrap_i64]; omega
      have hgw1 := hgw.andThen hg1 (fun j hj => by cases hj; exact .inl (Nat.le_refl _))
      have HC := hideN (pSize_any (pi (xp, xl)) (Fi (xp, xl)) bl w1 (HOK.out _ hyb) ((HH.out.bin _ hyb).off (Off.of_below (F := fun _ => False) (below_of_grown hgw1)) (fun _ _ h => h)))
      generalize pi (xp, xl) = q at *
      generalize hSize bl = hb at *
      clear hfl hM hr0 hg0 hm hye hyb
      go_wp2_with fail
      refine HC.out.mono ?_
      rintro e w2 ⟨rfl, hb2⟩
      have hg2 := grown_of_below hb2
      have hrg2 := hrg1.kept hg2 (by simp) (by simp)
      have hgw2 := hgw1.andThen hg2 (fun j hj => by cases hj)
      go_wp2_with fail
      go_roundw
      case rel => exact ⟨_, cnt1, by rw [HS.out, Int.add_comm], hrg2, hgw2⟩
      case measure => rw [hrg2.left_eq, hrg.left_eq]; exact hlt
end Go.Proofs.YteefjbdejcpepaaDoor
