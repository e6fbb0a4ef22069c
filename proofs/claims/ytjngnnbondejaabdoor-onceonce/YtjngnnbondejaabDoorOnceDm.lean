/-
  Own text. The document's table of answers in memory (RTab); find and Ask by contracts.
-/
import Derived.Test.YtjngnnbondejaabDoorOncePure
import Derived.Test.YtjngnnbondejaabDoorBinMem
import Derived.Test.YtjngnnbondejaabDoorRecErr
import Derived.Test.YtjngnnbondejaabDoorRowK
namespace Go.Proofs.YtjngnnbondejaabDoor
open Go.RowKit

abbrev txV (l : List UInt8) : Value := .string ⟨l.toArray⟩
def oCells : OL → List Value
  | [] => []
  | q :: r => txV q.1 :: .int .i64 q.2.1 :: txV q.2.2 :: oCells r
theorem oCells_append : ∀ (a b : OL), oCells (a ++ b) = oCells a ++ oCells b
  | [], _ => rfl
  | x :: r, b => by rw [List.cons_append, oCells, oCells_append r b, oCells]; rfl
theorem oCells_length : ∀ (a : OL), (oCells a).length = a.length * 3
  | [] => rfl
  | x :: r => by simp only [oCells, List.length_cons, oCells_length r]; omega
theorem oCells_at : ∀ (a : OL) (i : Nat) (h : i < a.length), (oCells a)[i * 3]? = some (txV a[i].1) ∧ (oCells a)[i * 3 + 1]? = some (.int .i64 a[i].2.1) ∧ (oCells a)[i * 3 + 2]? = some (txV a[i].2.2)
  | x :: r, 0, _ => ⟨rfl, rfl, rfl⟩
  | x :: r, i + 1, h => by
    have := oCells_at r i (by simpa using h)
    rw [oCells, show (i + 1) * 3 = i * 3 + 1 + 1 + 1 by omega]
    simpa using this
theorem oCells_one (l : OL) : ∀ u ∈ oCells l, u.oneCell' = true := by
  induction l with
  | nil => simp [oCells]
  | cons x r ih =>
    intro u hu
    simp only [oCells, List.mem_cons] at hu
    rcases hu with rfl | rfl | rfl | hu
    · rfl
    · rfl
    · rfl
    · exact ih u hu
theorem oCells_set : ∀ (l : OL) (k : Nat) (q : List UInt8 × (Int × List UInt8)), k < l.length → (((oCells l).set (k * 3) (txV q.1)).set (k * 3 + 1) (.int .i64 q.2.1)).set (k * 3 + 2) (txV q.2.2) = oCells (l.set k q)
  | x :: r, 0, q, _ => rfl
  | x :: r, k + 1, q, h => by
    have ih := oCells_set r k q (by simpa using h)
    rw [oCells, List.set_cons_succ, oCells, show (k + 1) * 3 = k * 3 + 1 + 1 + 1 by omega]
    simp only [List.set_cons_succ]
    rw [ih]
structure RTab (w : World) (M : Nat) (v : Value) (l : OL) : Prop where
  blk : Blk w M #[v] 61
  row : w.ownsRow 0 95 3 v l.length (oCells l)
  ne : v.ownBlock ≠ some M
def rFoot (M : Nat) (v : Value) (k : Nat) : Prop := k = M ∨ v.ownBlock = some k
theorem RTab.lt {w : World} {M : Nat} {v : Value} {l : OL} (h : RTab w M v l) : ∀ k, rFoot M v k → k < w.heap.size := by
  rintro k (rfl | hk)
  · exact h.blk.lt
  · exact (h.row.lt k hk).2
theorem RTab.off {F : Nat → Prop} {w w' : World} {M : Nat} {v : Value} {l : OL} (h : RTab w M v l) (ho : Off F w w') (hF : ∀ k, rFoot M v k → ¬ F k) : RTab w' M v l := ⟨ho.blk h.blk (hF M (.inl rfl)), ho.row h.row (fun k hk => hF k (.inr hk)), h.ne⟩
theorem RTab.below {w w' : World} {M : Nat} {v : Value} {l : OL} (h : RTab w M v l) (hb : Below w.heap.size w w') : RTab w' M v l := h.off (Off.of_below (F := fun _ => False) hb) (fun _ _ h => h)
def LastsAt (w : World) (v : Value) (l : OL) : Prop :=
  ∃ (p : Option Addr) (c : Nat), v = .slice p l.length c ∧ ∀ i (h : i < l.length), ∃ b, p = some ⟨b, 0, none⟩ ∧ (b < w.heap.size ∧ l.length ≤ c) ∧ w.cell? ⟨b, i * 3, none⟩ = some (txV l[i].1) ∧ w.cell? ⟨b, i * 3 + 1, none⟩ = some (.int .i64 l[i].2.1) ∧ w.cell? ⟨b, i * 3 + 2, none⟩ = some (txV l[i].2.2)
theorem LastsAt.of_row {w : World} {base : Nat} {e : TypeId} {v : Value} {l : OL} (h : w.ownsRow base e 3 v l.length (oCells l)) : LastsAt w v l := by
  have h0 := h
  rcases h.2 with ⟨rfl, e0⟩ | ⟨g, cap, cur, hv, _, hb, hc, _⟩
  · exact ⟨none, 0, by rw [e0], fun i hi => by omega⟩
  · refine ⟨some ⟨g, 0, none⟩, cap, hv, fun i hi => ?_⟩
    obtain ⟨a0, a1, a2⟩ := oCells_at l i hi
    have c0 := h0.cells (g := g) (by rw [hv]; rfl) (i * 3) _ a0
    have c1 := h0.cells (g := g) (by rw [hv]; rfl) (i * 3 + 1) _ a1
    have c2 := h0.cells (g := g) (by rw [hv]; rfl) (i * 3 + 2) _ a2
    simp only [add_plain] at c0 c1 c2
    exact ⟨g, rfl, ⟨lt_of_block hb, hc⟩, c0, c1, c2⟩
theorem RTab.at {w : World} {M : Nat} {v : Value} {l : OL} (h : RTab w M v l) : LastsAt w v l := LastsAt.of_row h.row
set_option maxRecDepth 100000 in
set_option maxHeartbeats 4000000 in
theorem rFind_any (M : Nat) (v : Value) (l : OL) (nm : ByteArray) (w : World) (hn : l.length ≤ 1000) (h : RTab w M v l) :
    Calls Tryd.prog 55 #[.pointer (some ⟨M, 0, none⟩), .string nm] w fun e w' => e = .returned (.int .i64 (kFindI l nm.data.toList)) ∧ w' = w := by
  obtain ⟨pf, cf, rfl, hcell⟩ := h.at
  have q0 := h.blk.cell (i := 0) rfl
  have HC := hideN hcell
  have hl2 : (l.length : Int) ≤ 1000 := by omega
  clear hcell h hn
  go_enter Tryd.func55, Tryd.ntmps55
  go_wp2_with fail
  go_loopw [5] (fun i wr => ∃ j : Nat, j ≤ l.length ∧ i = .int .i64 j ∧ wr = w ∧ Hid (∀ k (hk : k < l.length), k < j → l[k].1 ≠ nm.data.toList)) (fun i _ => l.length - (intOf i).toNat)
  case atStart => exact ⟨0, Nat.zero_le _, rfl, rfl, fun k _ h => by omega⟩
  case round =>
    obtain ⟨j, hj, rfl, rfl, HNO⟩ := hrel
    by_cases hlt : j < l.length
    · have hlt' : (j : Int) < (l.length : Int) := by omega
      have hj0 : (0 : Int) ≤ (j : Int) := by omega
      obtain ⟨b, rfl, ⟨hb, hc⟩, a0, _⟩ := HC.out j hlt
      obtain ⟨X, hX⟩ : ∃ X : ByteArray, (⟨l[j].1.toArray⟩ : ByteArray) = X := ⟨_, rfl⟩
      have hXd : X.data.toList = l[j].1 := by rw [← hX]
      change wr.cell? ⟨b, j * 3, none⟩ = some (.string ⟨l[j].1.toArray⟩) at a0
      rw [hX] at a0
      by_cases hx : X = nm
      · have HE : Hid (kFindI l nm.data.toList = (j : Int)) := by
          show _ = _
          unfold kFindI
          rw [kFind_at l nm.data.toList j hlt HNO.out (by rw [← hx, hXd])]
        subst hx
        clear hX hXd
        go_wp2_with fail
        go_ret
        exact ⟨by rw [HE.out]; rfl, rfl⟩
      · have HNX : Hid (∀ k (hk : k < l.length), k < j + 1 → l[k].1 ≠ nm.data.toList) := fun k hk hkj => by
          rcases Nat.lt_or_ge k j with h' | h'
          · exact HNO.out k hk h'
          · obtain rfl : k = j := by omega
            rw [← hXd]
            exact fun e => hx (WideShapes.bytes_inj e)
        have hne := strK_ne hx
        clear hX hXd hx
        go_wp2_with fail
        go_roundw
        case rel => exact ⟨j + 1, hlt, by go_num, by first | rfl | trivial, HNX.out⟩
        case measure => simp [intOf]; omega
    · have hge : (l.length : Int) ≤ (j : Int) := by omega
      have HE : Hid (kFindI l nm.data.toList = -1) := by
        show _ = _
        unfold kFindI
        rw [kFind_none _ _ (fun k hk => HNO.out k hk (by omega))]
      go_wp2_with fail
      go_ret
      exact ⟨by rw [HE.out]; rfl, rfl⟩
set_option maxRecDepth 100000 in
set_option maxHeartbeats 4000000 in
theorem rAsk_any (c : ByteArray) (n : Int) (M : Nat) (v : Value) (l : OL) (w : World) (hc : c.size ≤ 50000) (hk : OOk 1000 l) (h : RTab w M v l) :
    Calls Tryd.prog 29 #[.pointer (some ⟨M, 0, none⟩), .string c, .int .i64 n] w fun e w' => e = .returned (.tuple #[txV (oAsk l c.data.toList n).1, .bool (oAsk l c.data.toList n).2.1, .int .i64 (oAsk l c.data.toList n).2.2]) ∧ w' = w := by
  have hlen := hk.len
  obtain ⟨pf, cf, hv, hcell⟩ := h.at
  have q0 := h.blk.cell (i := 0) rfl
  have HC := hideN hcell
  have HNM := hideN (refIsName_any c (by unfold maxLen; omega) w)
  have HFD := hideN (rFind_any M v l c w (by omega) h)
  have hl2 : (l.length : Int) ≤ 20 := by omega
  obtain ⟨RES, hRES⟩ : ∃ RES, oAsk l c.data.toList n = RES := ⟨_, rfl⟩
  rw [hRES]
  subst hv
  cases hnm : isName c.data.toList with
  | false =>
    have HR : Hid (RES = ([], false, 4)) := by
      show _ = _
      rw [← hRES]
      unfold oAsk
      rw [if_pos hnm]
    rw [hnm] at HNM
    clear hk hRES hnm h hcell hlen
    go_enter Tryd.func29, Tryd.ntmps29
    go_wp2_with fail
    refine HNM.out.mono ?_
    rintro e w1 ⟨rfl, rfl⟩
    go_wp2_with fail
    exact bodyPost_ret (v := .tuple #[txV [], .bool false, .int .i64 4]) (by simp [results, Tryd.results29, go_sem]) rfl ⟨by rw [HR.out], rfl⟩
  | true =>
    rw [hnm] at HNM
    have hc' : ¬ isName c.data.toList = false := by rw [hnm]; simp
    rcases oGet_kind (l := l) (c := c.data.toList) with ⟨k, hkl, hkf, hk1, hg⟩ | ⟨hkf, hg⟩
    · have hfi : kFindI l c.data.toList = (k : Int) := by unfold kFindI; rw [hkf]
      rw [hfi] at HFD
      have hnum := hk.num _ (List.getElem_mem hkl)
      obtain ⟨b, rfl, ⟨hb, hcc⟩, a0, a1, a2⟩ := hcell k hkl
      obtain ⟨vn, hvn⟩ : ∃ vn, l[k].2.1 = vn := ⟨_, rfl⟩
      obtain ⟨S, hS⟩ : ∃ S : ByteArray, (⟨l[k].2.2.toArray⟩ : ByteArray) = S := ⟨_, rfl⟩
      have HS : Hid (txV l[k].2.2 = .string S) := by show _ = _; rw [← hS]
      change w.cell? ⟨b, k * 3 + 2, none⟩ = some (.string ⟨l[k].2.2.toArray⟩) at a2
      rw [hS] at a2
      rw [hvn] at a1 hnum
      have hk0 : (0 : Int) ≤ (k : Int) := by omega
      have hkl' : (k : Int) < (l.length : Int) := by omega
      have hlo : (-9223372036854775808 : Int) ≤ vn + 1 := by omega
      have hhi : vn + 1 < 9223372036854775808 := by omega
      by_cases h1 : n = vn
      · have HR : Hid (RES = (l[k].2.2, true, 0)) := by
          show _ = _
          rw [← hRES]
          unfold oAsk
          rw [if_neg hc', hg]
          simp only
          rw [if_pos (by rw [hvn]; exact h1)]
        have hb1 : (n == vn) = true := by rw [beq_iff_eq]; exact h1
        clear hk hRES hnm hc' hg hnum hS h1 h hcell hlen hkf hk1 hfi hvn
        go_enter Tryd.func29, Tryd.ntmps29
        go_wp2_with fail
        refine HNM.out.mono ?_
        rintro e w1 ⟨rfl, rfl⟩
        go_wp2_with fail
        refine HFD.out.mono ?_
        rintro e w1 ⟨rfl, rfl⟩
        go_wp2_with fail
        exact bodyPost_ret (v := .tuple #[.string S, .bool true, .int .i64 0]) (by simp [results, Tryd.results29, go_sem]) rfl ⟨by rw [HR.out, ← HS.out], rfl⟩
      have hb1 : (n == vn) = false := by rw [beq_eq_false_iff_ne]; exact h1
      by_cases h2 : n = vn + 1
      · have HR : Hid (RES = ([], false, 0)) := by
          show _ = _
          rw [← hRES]
          unfold oAsk
          rw [if_neg hc', hg]
          simp only
          rw [if_neg (by rw [hvn]; exact h1), if_pos (by rw [hvn]; exact h2)]
        have hb2 : (n == vn + 1) = true := by rw [beq_iff_eq]; exact h2
        have hb3 : (n != vn + 1) = false := by rw [bne, hb2]; rfl
        clear hk hRES hnm hc' hg hnum hS h1 h2 h hcell hlen hkf hk1 hfi hvn
        go_enter Tryd.func29, Tryd.ntmps29
        go_wp2_with fail
        refine HNM.out.mono ?_
        rintro e w1 ⟨rfl, rfl⟩
        go_wp2_with fail
        refine HFD.out.mono ?_
        rintro e w1 ⟨rfl, rfl⟩
        go_wp2_with fail
        exact bodyPost_ret (v := .tuple #[txV [], .bool false, .int .i64 0]) (by simp [results, Tryd.results29, go_sem]) rfl ⟨by rw [HR.out], rfl⟩
      · have HR : Hid (RES = ([], false, 8)) := by
          show _ = _
          rw [← hRES]
          unfold oAsk
          rw [if_neg hc', hg]
          simp only
          rw [if_neg (by rw [hvn]; exact h1), if_neg (by rw [hvn]; exact h2)]
        have hb2 : (n == vn + 1) = false := by rw [beq_eq_false_iff_ne]; exact h2
        have hb3 : (n != vn + 1) = true := by rw [bne, hb2]; rfl
        clear hk hRES hnm hc' hg hnum hS h1 h2 h hcell hlen hkf hk1 hfi hvn
        go_enter Tryd.func29, Tryd.ntmps29
        go_wp2_with fail
        refine HNM.out.mono ?_
        rintro e w1 ⟨rfl, rfl⟩
        go_wp2_with fail
        refine HFD.out.mono ?_
        rintro e w1 ⟨rfl, rfl⟩
        go_wp2_with fail
        exact bodyPost_ret (v := .tuple #[txV [], .bool false, .int .i64 8]) (by simp [results, Tryd.results29, go_sem]) rfl ⟨by rw [HR.out], rfl⟩
    · have hfi : kFindI l c.data.toList = -1 := by unfold kFindI; rw [hkf]
      rw [hfi] at HFD
      by_cases h1 : n = 1
      · have HR : Hid (RES = ([], false, 0)) := by
          show _ = _
          rw [← hRES]
          unfold oAsk
          rw [if_neg hc', hg]
          simp only
          rw [if_pos h1]
        have hb2 : (n == 0 + 1) = true := by rw [beq_iff_eq]; omega
        have hb3 : (n != 0 + 1) = false := by rw [bne, hb2]; rfl
        clear hk hRES hnm hc' hg h1 h hcell hlen hkf hfi
        go_enter Tryd.func29, Tryd.ntmps29
        go_wp2_with fail
        refine HNM.out.mono ?_
        rintro e w1 ⟨rfl, rfl⟩
        go_wp2_with fail
        refine HFD.out.mono ?_
        rintro e w1 ⟨rfl, rfl⟩
        go_wp2_with fail
        exact bodyPost_ret (v := .tuple #[txV [], .bool false, .int .i64 0]) (by simp [results, Tryd.results29, go_sem]) rfl ⟨by rw [HR.out], rfl⟩
      · have HR : Hid (RES = ([], false, 8)) := by
          show _ = _
          rw [← hRES]
          unfold oAsk
          rw [if_neg hc', hg]
          simp only
          rw [if_neg h1]
        have hb2 : (n == 0 + 1) = false := by rw [beq_eq_false_iff_ne]; omega
        have hb3 : (n != 0 + 1) = true := by rw [bne, hb2]; rfl
        clear hk hRES hnm hc' hg h1 h hcell hlen hkf hfi
        go_enter Tryd.func29, Tryd.ntmps29
        go_wp2_with fail
        refine HNM.out.mono ?_
        rintro e w1 ⟨rfl, rfl⟩
        go_wp2_with fail
        refine HFD.out.mono ?_
        rintro e w1 ⟨rfl, rfl⟩
        go_wp2_with fail
        exact bodyPost_ret (v := .tuple #[txV [], .bool false, .int .i64 8]) (by simp [results, Tryd.results29, go_sem]) rfl ⟨by rw [HR.out], rfl⟩
end Go.Proofs.YtjngnnbondejaabDoor
