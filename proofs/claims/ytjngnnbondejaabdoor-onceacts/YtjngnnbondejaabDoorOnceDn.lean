/-
  Own text. The document's table of answers by contracts: Note, Clients.
-/
import Derived.Test.YtjngnnbondejaabDoorOnceDm
import Derived.Test.YtjngnnbondejaabDoorCutSame
import Derived.Test.YtjngnnbondejaabDoorSrt
import Derived.Sort.Walk0
namespace Go.Proofs.YtjngnnbondejaabDoor
open Go.RowKit

theorem infoLast : (Tryd.prog.info? 95).map (fun i => (i.zero, i.size, i.bytes)) = some (some (.agg #[.string ⟨#[]⟩, .int .i64 0, .string ⟨#[]⟩]), 3, 40) := by kernel_rfl
theorem slL_from (g n c i : Nat) (hi : i ≤ n) (hc : n ≤ c) : ∃ P4 c4, (∀ w : World, (Instr.slice 59 (.slice (some ⟨g, 0, none⟩) n c) (some (.int .i64 (i : Int))) none none).run Tryd.prog w = .ok (.slice (some P4) (n - i) c4) w) ∧ (i < n → P4 = ⟨g, i * 3, none⟩) := by
  have hj1 : (0 : Int) ≤ (i : Int) := by omega
  have hj2 : (i : Int) ≤ (n : Int) := by omega
  by_cases hcap : c = i
  · refine ⟨⟨g, 0, none⟩, c - i, fun w => ?_, fun h => by omega⟩
    go_simp
  · by_cases h0 : i = 0
    · subst h0
      refine ⟨⟨g, 0, none⟩, c - 0, fun w => ?_, fun h => by simp⟩
      go_simp
    · refine ⟨⟨g, i * 3, none⟩, c - i, fun w => ?_, fun h => rfl⟩
      go_simp
theorem slL_upto (g n c i : Nat) (hi : i ≤ n) (hc : n ≤ c) : ∀ w : World, (Instr.slice 59 (.slice (some ⟨g, 0, none⟩) n c) none (some (.int .i64 (i : Int))) none).run Tryd.prog w = .ok (.slice (some ⟨g, 0, none⟩) i c) w := by
  have hj1 : (0 : Int) ≤ (i : Int) := by omega
  have hj3 : (i : Int) ≤ (c : Int) := by omega
  intro w
  go_simp
def oIns (l : OL) (j : Nat) (q : List UInt8 × (Int × List UInt8)) : OL := l.take j ++ q :: l.drop j
theorem oIns_length {l : OL} {j : Nat} {q : List UInt8 × (Int × List UInt8)} (hj : j ≤ l.length) : (oIns l j q).length = j + 1 + (l.length - j) := by
  unfold oIns
  simp
  omega
theorem oIns_cells (l : OL) (j : Nat) (q : List UInt8 × (Int × List UInt8)) : oCells (oIns l j q) = oCells (l.take j) ++ oCells [q] ++ oCells (l.drop j) := by
  unfold oIns
  rw [oCells_append, List.append_assoc, show q :: l.drop j = [q] ++ l.drop j from rfl, oCells_append [q]]
theorem oIns_set {l : OL} {c : List UInt8} {v : Int × List UInt8} {j : Nat} (hk : kFind l c = none) (hj : kPlace ltN l c = j) : oSet l c v = oIns l j (c, v) := by
  unfold oSet oIns
  rw [hk]
  simp only
  unfold kIns
  rw [hj]
theorem RTab.setV {w W : World} {M : Nat} {v v' : Value} {l l' : OL} (h : RTab w M v l) (hb : Below w.heap.size w W) (hr : W.ownsRow w.heap.size 95 3 v' l'.length (oCells l')) :
    RTab (W.setCell ⟨M, 0, none⟩ v') M v' l' ∧ Off (fun k => k = M) w (W.setCell ⟨M, 0, none⟩ v') ∧ (∀ k, v'.ownBlock = some k → w.heap.size ≤ k) := by
  have hM := h.blk.lt
  have hnew : ∀ k, v'.ownBlock = some k → w.heap.size ≤ k := fun k hk => (hr.lt k hk).1
  have ho : Off (fun k => k = M) w (W.setCell ⟨M, 0, none⟩ v') := Off.setCell (F := fun k => k = M) (p := ⟨M, 0, none⟩) (Off.of_below hb) (.inl rfl) _
  have ho2 : Off (fun k => k = M) W (W.setCell ⟨M, 0, none⟩ v') := Off.setCell (F := fun k => k = M) (p := ⟨M, 0, none⟩) (Off.refl _ W) (.inl rfl) _
  exact ⟨⟨(h.blk.below hb hM).set 0 v', ownsRow_low (ho2.row hr (fun k hk e => by have := hnew k hk; omega)) (Nat.zero_le _), fun e => by have := hnew M e; omega⟩, ho, hnew⟩
theorem RTab.setK {w : World} {M g cap : Nat} {l : OL} (h : RTab w M (.slice (some ⟨g, 0, none⟩) l.length cap) l) {k : Nat} (hk : k < l.length) (q : List UInt8 × (Int × List UInt8)) :
    RTab (((w.setCell ⟨g, k * 3, none⟩ (txV q.1)).setCell ⟨g, k * 3 + 1, none⟩ (.int .i64 q.2.1)).setCell ⟨g, k * 3 + 2, none⟩ (txV q.2.2)) M (.slice (some ⟨g, 0, none⟩) l.length cap) (l.set k q) ∧
      Off (fun i => i = g) w (((w.setCell ⟨g, k * 3, none⟩ (txV q.1)).setCell ⟨g, k * 3 + 1, none⟩ (.int .i64 q.2.1)).setCell ⟨g, k * 3 + 2, none⟩ (txV q.2.2)) := by
  have ho : Off (fun i => i = g) w (((w.setCell ⟨g, k * 3, none⟩ (txV q.1)).setCell ⟨g, k * 3 + 1, none⟩ (.int .i64 q.2.1)).setCell ⟨g, k * 3 + 2, none⟩ (txV q.2.2)) :=
    ((Off.setCell (F := fun i => i = g) (p := ⟨g, k * 3, none⟩) (Off.refl _ w) (.inl rfl) _).setCell (p := ⟨g, k * 3 + 1, none⟩) (.inl rfl) _).setCell (p := ⟨g, k * 3 + 2, none⟩) (.inl rfl) _
  have hgM : M ≠ g := fun e => h.ne (by rw [e]; rfl)
  refine ⟨⟨ho.blk h.blk hgM, ?_, h.ne⟩, ho⟩
  have := row_set1 (row_set1 (row_set1 h.row (k * 3) (txV q.1)) (k * 3 + 1) (.int .i64 q.2.1)) (k * 3 + 2) (txV q.2.2)
  rw [oCells_set l k q hk] at this
  rw [List.length_set]
  exact this
def RNotePost (w : World) (M : Nat) (v : Value) (r : Int × OL) (e : Ending) (w' : World) : Prop :=
  ∃ v', e = .returned (.int .i64 r.1) ∧ RTab w' M v' r.2 ∧ (∀ k, v'.ownBlock = some k → v.ownBlock = some k ∨ w.heap.size ≤ k) ∧ Off (rFoot M v) w w'
set_option maxRecDepth 100000 in
set_option maxHeartbeats 8000000 in
theorem rNote_any (c s : ByteArray) (n : Int) (M : Nat) (v : Value) (l : OL) (w : World) (hc : c.size ≤ 50000) (hk : OOk 1000 l) (h : RTab w M v l) :
    Calls Tryd.prog 28 #[.pointer (some ⟨M, 0, none⟩), .string c, .int .i64 n, .string s] w (RNotePost w M v (oNote l c.data.toList n s.data.toList)) := by
  obtain ⟨ti, hti, hz0, hz1, hz2⟩ := info_parts infoLast
  have hlen := hk.len
  have HH := hideN h
  obtain ⟨pf, cf, hv, hcell⟩ := h.at
  have q0 := h.blk.cell (i := 0) rfl
  have HC := hideN hcell
  have HNM := hideN (refIsName_any c (by unfold maxLen; omega) w)
  have HFD := hideN (rFind_any M v l c w (by omega) h)
  have hl2 : (l.length : Int) ≤ 20 := by omega
  have HLEN := hideN hlen
  obtain ⟨RES, hRES⟩ : ∃ RES, oNote l c.data.toList n s.data.toList = RES := ⟨_, rfl⟩
  rw [hRES]
  subst hv
  cases hnm : isName c.data.toList with
  | false =>
    have HR : Hid (RES = (4, l)) := by
      show _ = _
      rw [← hRES]
      unfold oNote
      rw [if_pos hnm]
    rw [hnm] at HNM
    clear hk hRES hnm h hcell hlen
    go_enter Tryd.func28, Tryd.ntmps28
    go_wp2_with fail
    refine HNM.out.mono ?_
    rintro e w1 ⟨rfl, rfl⟩
    go_wp2_with fail
    go_ret
    exact ⟨_, by rw [HR.out]; rfl, by rw [HR.out]; exact HH.out, fun k hk => .inl hk, Off.refl _ _⟩
  | true =>
    rw [hnm] at HNM
    have hc' : ¬ isName c.data.toList = false := by rw [hnm]; simp
    rcases oGet_kind (l := l) (c := c.data.toList) with ⟨k, hkl, hkf, hk1, hg⟩ | ⟨hkf, hg⟩
    · have hfi : kFindI l c.data.toList = (k : Int) := by unfold kFindI; rw [hkf]
      rw [hfi] at HFD
      have hnum := hk.num _ (List.getElem_mem hkl)
      obtain ⟨b, rfl, ⟨hb, hcc⟩, a0, a1, a2⟩ := hcell k hkl
      obtain ⟨vn, hvn⟩ : ∃ vn, l[k].2.1 = vn := ⟨_, rfl⟩
      rw [hvn] at a1 hnum
      obtain ⟨u0, hu0⟩ : ∃ u0, txV l[k].1 = u0 := ⟨_, rfl⟩
      obtain ⟨u2, hu2⟩ : ∃ u2, txV l[k].2.2 = u2 := ⟨_, rfl⟩
      rw [hu0] at a0
      rw [hu2] at a2
      have hk0 : (0 : Int) ≤ (k : Int) := by omega
      have hkl' : (k : Int) < (l.length : Int) := by omega
      have hlo : (-9223372036854775808 : Int) ≤ vn + 1 := by omega
      have hhi : vn + 1 < 9223372036854775808 := by omega
      by_cases h2 : n = vn + 1
      · have HR : Hid (RES = (0, l.set k (c.data.toList, (n, s.data.toList)))) := by
          show _ = _
          rw [← hRES]
          unfold oNote
          rw [if_neg hc', hg]
          simp only
          rw [if_pos (by rw [hvn]; exact h2)]
          unfold oSet
          rw [hkf]
        have hb2 : (n == vn + 1) = true := by rw [beq_iff_eq]; exact h2
        have hb3 : (n != vn + 1) = false := by rw [bne, hb2]; rfl
        have f0 := row_thaw h.row (k * 3)
        have f1 := row_thaw h.row (k * 3 + 1)
        have f2 := row_thaw h.row (k * 3 + 2)
        have HK := hideN hkl
        clear hk hRES hnm hc' hg hnum h2 h hcell hlen hkf hk1 hfi hvn hu0 hu2 hkl
        go_enter Tryd.func28, Tryd.ntmps28
        go_wp2_with fail
        refine HNM.out.mono ?_
        rintro e w1 ⟨rfl, rfl⟩
        go_wp2_with fail
        refine HFD.out.mono ?_
        rintro e w1 ⟨rfl, rfl⟩
        go_wp2_with fail
        go_ret
        have hfin := HH.out.setK HK.out (c.data.toList, (n, s.data.toList))
        rw [show txV (c.data.toList, (n, s.data.toList)).1 = .string c by simp only [txV], show txV (c.data.toList, (n, s.data.toList)).2.2 = .string s by simp only [txV]] at hfin
        exact ⟨_, by rw [HR.out]; rfl, by rw [HR.out]; exact hfin.1, fun i hi => .inl hi, hfin.2.mono (fun i _ hi => .inr (by rw [hi]; rfl))⟩
      · have HR : Hid (RES = (8, l)) := by
          show _ = _
          rw [← hRES]
          unfold oNote
          rw [if_neg hc', hg]
          simp only
          rw [if_neg (by rw [hvn]; exact h2)]
        have hb2 : (n == vn + 1) = false := by rw [beq_eq_false_iff_ne]; exact h2
        have hb3 : (n != vn + 1) = true := by rw [bne, hb2]; rfl
        clear hk hRES hnm hc' hg hnum h2 h hcell hlen hkf hk1 hfi hvn hu0 hu2 hkl
        go_enter Tryd.func28, Tryd.ntmps28
        go_wp2_with fail
        refine HNM.out.mono ?_
        rintro e w1 ⟨rfl, rfl⟩
        go_wp2_with fail
        refine HFD.out.mono ?_
        rintro e w1 ⟨rfl, rfl⟩
        go_wp2_with fail
        go_ret
        exact ⟨_, by rw [HR.out]; rfl, by rw [HR.out]; exact HH.out, fun k hk => .inl hk, Off.refl _ _⟩
    · have hfi : kFindI l c.data.toList = -1 := by unfold kFindI; rw [hkf]
      rw [hfi] at HFD
      by_cases h1 : n = 1
      · have hb2 : (n == 0 + 1) = true := by rw [beq_iff_eq]; omega
        have hb3 : (n != 0 + 1) = false := by rw [bne, hb2]; rfl
        by_cases hfull : 20 ≤ l.length
        · have HR : Hid (RES = (7, l)) := by
            show _ = _
            rw [← hRES]
            unfold oNote
            rw [if_neg hc', hg]
            simp only
            rw [if_pos h1, if_pos hfull]
          have hf2 : (20 : Int) ≤ (l.length : Int) := by omega
          clear hk hRES hnm hc' hg h1 h hcell hlen hkf hfi hfull
          go_enter Tryd.func28, Tryd.ntmps28
          go_wp2_with fail
          refine HNM.out.mono ?_
          rintro e w1 ⟨rfl, rfl⟩
          go_wp2_with fail
          refine HFD.out.mono ?_
          rintro e w1 ⟨rfl, rfl⟩
          go_wp2_with fail
          go_ret
          exact ⟨_, by rw [HR.out]; rfl, by rw [HR.out]; exact HH.out, fun k hk => .inl hk, Off.refl _ _⟩
        · have HR : Hid (RES = (0, oSet l c.data.toList (n, s.data.toList))) := by
            show _ = _
            rw [← hRES]
            unfold oNote
            rw [if_neg hc', hg]
            simp only
            rw [if_pos h1, if_neg hfull]
          have hf2 : ¬ (20 : Int) ≤ (l.length : Int) := by omega
          have HKF := hideN hkf
          clear hk hRES hnm hc' hg h1 h hcell hlen hkf hfi hfull
          go_enter Tryd.func28, Tryd.ntmps28
          go_wp2_with fail
          refine HNM.out.mono ?_
          rintro e w1 ⟨rfl, rfl⟩
          go_wp2_with fail
          refine HFD.out.mono ?_
          rintro e w1 ⟨rfl, rfl⟩
          go_wp2_with fail
          go_loopw [12] (fun i wr => ∃ j : Nat, j ≤ l.length ∧ i = .int .i64 j ∧ Hid (Below w1.heap.size w1 wr) ∧ Hid (∀ k (hk : k < l.length), k < j → ltN l[k].1 c.data.toList = true)) (fun i _ => l.length - (intOf i).toNat)
          case atStart => exact ⟨0, Nat.zero_le _, rfl, Below.refl _ _, fun k _ h => by omega⟩
          case round =>
            obtain ⟨j, hj, rfl, HB, HLE⟩ := hrel
            have HBX := HB
            have hS := HH.out.below HB.out
            have HS := hideN hS
            obtain ⟨pf', cf', hvf', hcell⟩ := hS.at
            obtain ⟨rfl, rfl⟩ : pf = pf' ∧ cf = cf' := by simpa using hvf'
            have HC3 := hideN hcell
            have q0 := hS.blk.cell (i := 0) rfl
            have HJ := hideN hj
            have hj0 : (0 : Int) ≤ (j : Int) := by omega
            have HML : Hid (M < wr.heap.size) := hS.blk.lt
            have HFZ : Hid (wr.frozen? ⟨M, 0, none⟩ = false) := hS.blk.frozen 0
            have HQ0 : Hid (wr.cell? ⟨M, 0, none⟩ = some (.slice pf l.length cf)) := q0
            clear hS hvf' hcell
            by_cases hlt : j < l.length
            · have hlt' : (j : Int) < (l.length : Int) := by omega
              obtain ⟨b, rfl, ⟨hb, hcc⟩, a0, a12⟩ := HC3.out j hlt
              obtain ⟨Y, hY⟩ : ∃ Y : ByteArray, (⟨l[j].1.toArray⟩ : ByteArray) = Y := ⟨_, rfl⟩
              have hYd : Y.data.toList = l[j].1 := by rw [← hY]
              change wr.cell? ⟨b, j * 3, none⟩ = some (.string ⟨l[j].1.toArray⟩) at a0
              rw [hY] at a0
              have HYD : Hid (l[j].1 = Y.data.toList) := hYd.symm
              have hbl0 : Op.bytesLess Y.toList c.toList = ltN Y.data.toList c.data.toList := by rw [Go.Proofs.bytesLess_eq, ByteArray.toList_eq, ByteArray.toList_eq]
              cases hlt2 : ltN Y.data.toList c.data.toList with
              | true =>
                have hbl : Op.bytesLess Y.toList c.toList = true := by rw [hbl0, hlt2]
                have HNX : Hid (∀ k (hk : k < l.length), k < j + 1 → ltN l[k].1 c.data.toList = true) := fun k hk hkj => by
                  rcases Nat.lt_or_ge k j with h' | h'
                  · exact HLE.out k hk h'
                  · obtain rfl : k = j := by omega
                    rw [HYD.out]
                    exact hlt2
                clear hY hYd hbl0 hlt2 HYD a12
                go_wp2_with fail
                go_roundw
                case rel => exact ⟨j + 1, hlt, by go_num, HB.out, HNX.out⟩
                case measure => simp [intOf]; omega
              | false =>
                have hbl : Op.bytesLess Y.toList c.toList = false := by rw [hbl0, hlt2]
                have HPL : Hid (kPlace ltN l c.data.toList = j) := kPlace_at ltN _ _ j hj HLE.out (fun _ => by rw [HYD.out]; exact hlt2)
                clear hY hYd hbl0 hlt2 HYD HLE a12
                have HLT1 : Hid (1 ≤ l.length) := by show _ ≤ _; omega
                clear hlt
                obtain ⟨g, cap, hvg, hcap, hcap2⟩ := row_some HS.out.row HLT1.out
                obtain ⟨hgb, hcc9⟩ : g = b ∧ cf = cap := by simpa [eq_comm] using hvg
                subst hgb hcc9
                have hsp : wr.ownsRow 0 95 3 (.slice (some ⟨g, 0, none⟩) l.length cf) l.length (oCells (l.take j) ++ oCells (l.drop j)) := by
                  rw [← oCells_append, List.take_append_drop]
                  exact HS.out.row
                obtain ⟨P4, c4, hsl4, hP4⟩ := slL_from g l.length cf j HJ.out hcap
                have hsl5 := slL_upto g l.length cf j HJ.out hcap
                have HLT : Hid ((oCells (l.take j)).length = j * 3) := by show _ = _; rw [oCells_length, List.length_take, Nat.min_eq_left HJ.out]
                have HLD : Hid ((oCells (l.drop j)).length = (l.length - j) * 3) := by show _ = _; rw [oCells_length, List.length_drop]
                have HC1 : Hid (∀ W', Below wr.heap.size wr W' → ∀ j' u, (oCells (l.take j))[j']? = some u → W'.cell? ((⟨g, 0, none⟩ : Addr).add j') = some u) := fun W' hb => row_take (row_below hsp hb) rfl
                have HC2 : Hid (∀ W', Below wr.heap.size wr W' → ∀ j' u, (oCells (l.drop j))[j']? = some u → W'.cell? (P4.add j') = some u) := fun W' hb j' u hj' => by
                  have hjl := (List.getElem?_eq_some_iff.1 hj').1
                  rw [HLD.out] at hjl
                  rw [hP4 (by omega)]
                  have := row_drop (row_below hsp hb) rfl j' u hj'
                  rw [HLT.out] at this
                  exact this
                clear hvg hsp hP4 hcap hcap2
                go_wp2_with (first
                  | (at_builtin; refine wpList_append_own _ rfl (.tmp 74) (.tmp 80) 59 rfl wr.heap.size 95 ti (.agg #[.string ⟨#[]⟩, .int .i64 0, .string ⟨#[]⟩]) 3 40 Tryd.underlying59 hti hz0 hz1 hz2 rfl (by decide) (.slice none 0 0) 0 [] rfl (World.ownsRow_nil _ _ _ _) ⟨g, 0, none⟩ j cf (oCells (l.take j)) rfl HLT.out (HC1.out wr (Below.refl _ _)) (oCells_one _) (by have := HLEN.out; have := HJ.out; unfold maxLen; omega) (by have := HLEN.out; have := HJ.out; omega) (Nat.le_refl _) ?_; intro v3 w6 ho3 hg3 _; rw [Nat.zero_add, List.nil_append] at ho3; have hB3 : Below wr.heap.size wr w6 := (Below.refl _ wr).grown hg3 (Nat.le_refl _) (fun k hk => by cases hk); have HO3 := hideN ho3; have HB3 := hideN hB3; clear hg3 ho3; have q3 := (hB3.cell (p := ⟨M, 0, none⟩) HML.out).trans HQ0.out; clear hB3)
                  | (at_builtin; refine wpList_append_own _ rfl (.tmp 82) (.tmp 87) 59 rfl wr.heap.size 95 ti (.agg #[.string ⟨#[]⟩, .int .i64 0, .string ⟨#[]⟩]) 3 40 Tryd.underlying59 hti hz0 hz1 hz2 rfl (by decide) v3 j (oCells (l.take j)) rfl (HO3.out.alloc _) ⟨w6.heap.size, 0, none⟩ 1 1 [.string c, .int .i64 n, .string s] rfl rfl (fun j' u hj' => by rw [add_plain]; exact new_cell _ #[.string c, .int .i64 n, .string s] _ (by rw [← hj']; simp) (by simp)) (by intro u hu; simp at hu; rcases hu with rfl | rfl | rfl <;> rfl) (by have := HLEN.out; have := HJ.out; unfold maxLen; omega) (by have := HLEN.out; have := HJ.out; omega) (by have := HB3.out.size; simp; omega) ?_; intro v4 w7 ho4 hg4 _; have hB4 : Below wr.heap.size wr w7 := (HB3.out.alloc HB3.out.size _).grown hg4 (by have := HB3.out.size; simp; omega) (fun k hk => (HO3.out.lt k hk).1); have HO4 := hideN ho4; have HB4 := hideN hB4; clear hg4 ho4; have q4 := (hB4.cell (p := ⟨M, 0, none⟩) HML.out).trans HQ0.out; clear hB4)
                  | (at_builtin; refine wpList_append_own _ rfl (.tmp 90) (.tmp 96) 59 rfl wr.heap.size 95 ti (.agg #[.string ⟨#[]⟩, .int .i64 0, .string ⟨#[]⟩]) 3 40 Tryd.underlying59 hti hz0 hz1 hz2 rfl (by decide) v4 (j + 1) _ rfl HO4.out P4 (l.length - j) c4 (oCells (l.drop j)) rfl HLD.out (HC2.out w7 HB4.out) (oCells_one _) (by have := HLEN.out; have := HJ.out; unfold maxLen; omega) (by have := HLEN.out; have := HJ.out; omega) HB4.out.size ?_; intro v5 w8 ho5 hg5 _; have hB5 : Below wr.heap.size wr w8 := HB4.out.grown hg5 HB4.out.size (fun k hk => (HO4.out.lt k hk).1); have HO5 := hideN ho5; have HB5 := hideN hB5; clear hg5 ho5; obtain ⟨p5, c5, hu5⟩ := row_shapeK HO5.out; subst hu5; have q5 := (hB5.cell (p := ⟨M, 0, none⟩) HML.out).trans HQ0.out; have f5 := (hB5.frozen (p := ⟨M, 0, none⟩) HML.out).trans HFZ.out; clear hB5))
                go_ret
                have ho5 := HO5.out
                have hcl : oCells [(c.data.toList, (n, s.data.toList))] = [.string c, .int .i64 n, .string s] := by
                  rw [oCells, oCells]
                rw [← hcl, ← oIns_cells] at ho5
                have hfin := HS.out.setV (v' := .slice p5 (j + 1 + (l.length - j)) c5) (l' := oIns l j (c.data.toList, (n, s.data.toList))) HB5.out (ownsRow_low (by rw [oIns_length HJ.out]; exact ho5) (Nat.le_refl _))
                have hst := oIns_set (v := (n, s.data.toList)) HKF.out HPL.out
                exact ⟨_, by rw [HR.out]; rfl, by rw [HR.out, hst]; exact hfin.1, fun k hk => .inr (Nat.le_trans HBX.out.size (hfin.2.2 k hk)), (Off.of_below HBX.out).trans hfin.2.1 (fun i _ hi => .inl hi)⟩
            · have hge : (l.length : Int) ≤ (j : Int) := by omega
              have HPL : Hid (kPlace ltN l c.data.toList = j) := kPlace_at ltN _ _ j hj HLE.out (fun h => by omega)
              clear HLE
              by_cases h0 : l.length = 0
              · have hlen0 : l = [] := by
                  cases l with
                  | nil => rfl
                  | cons x r => simp at h0
                subst hlen0
                have hrow0 := HS.out.row
                rcases hrow0.2 with ⟨hv0, _⟩ | ⟨g, cap, cur, hv0, _, _, hcap, hcap2, _⟩
                · obtain ⟨rfl, rfl⟩ : pf = none ∧ cf = 0 := by simpa using hv0
                  clear hrow0 hv0
                  obtain rfl : j = 0 := by simpa using HJ.out
                  go_wp2_with (at_builtin; refine wpList_append_own _ rfl (.tmp 82) (.tmp 87) 59 rfl wr.heap.size 95 ti (.agg #[.string ⟨#[]⟩, .int .i64 0, .string ⟨#[]⟩]) 3 40 Tryd.underlying59 hti hz0 hz1 hz2 rfl (by decide) (.slice none 0 0) 0 [] rfl (World.ownsRow_nil _ _ _ _) ⟨wr.heap.size, 0, none⟩ 1 1 [.string c, .int .i64 n, .string s] rfl rfl (fun j' u hj' => by rw [add_plain]; exact new_cell _ #[.string c, .int .i64 n, .string s] _ (by rw [← hj']; simp) (by simp)) (by intro u hu; simp at hu; rcases hu with rfl | rfl | rfl <;> rfl) (by unfold maxLen; omega) (by omega) (by simp) ?_; intro v4 w7 ho4 hg4 _; have hB4 : Below wr.heap.size wr w7 := ((Below.refl _ wr).alloc (Nat.le_refl _) _).grown hg4 (by simp) (fun k hk => by cases hk); have HO4 := hideN ho4; have HB4 := hideN hB4; clear hg4 ho4; obtain ⟨g5, c5, hu5, hc5, hc6⟩ := row_some HO4.out (by omega); subst hu5; have q4 := (hB4.cell (p := ⟨M, 0, none⟩) HML.out).trans HQ0.out; have f4 := (hB4.frozen (p := ⟨M, 0, none⟩) HML.out).trans HFZ.out; clear hB4)
                  go_ret
                  have ho5 := HO4.out
                  rw [List.nil_append] at ho5
                  have hcl : oCells [(c.data.toList, (n, s.data.toList))] = [.string c, .int .i64 n, .string s] := by
                    rw [oCells, oCells]
                  rw [← hcl] at ho5
                  have hfin := HS.out.setV (v' := .slice (some ⟨g5, 0, none⟩) (0 + 1) c5) (l' := [(c.data.toList, (n, s.data.toList))]) HB4.out (ownsRow_low ho5 (Nat.le_refl _))
                  have hst := oIns_set (v := (n, s.data.toList)) HKF.out HPL.out
                  exact ⟨_, by rw [HR.out]; rfl, by rw [HR.out, hst]; exact hfin.1, fun k hk => .inr (Nat.le_trans HBX.out.size (hfin.2.2 k hk)), (Off.of_below HBX.out).trans hfin.2.1 (fun i _ hi => .inl hi)⟩
                · obtain ⟨rfl, rfl⟩ : pf = some ⟨g, 0, none⟩ ∧ cf = cap := by simpa using hv0
                  have hsl4 : ∃ P4 c4, (∀ w : World, (Instr.slice 59 (.slice (some ⟨g, 0, none⟩) 0 cf) (some (.int .i64 0)) none none).run Tryd.prog w = .ok (.slice (some P4) 0 c4) w) := by
                    obtain ⟨P4, c4, h1, _⟩ := slL_from g 0 cf 0 (Nat.le_refl _) (Nat.zero_le _)
                    exact ⟨P4, c4, h1⟩
                  obtain ⟨P4, c4, hsl4⟩ := hsl4
                  have hsl5 := slL_upto g 0 cf 0 (Nat.le_refl _) (Nat.zero_le _)
                  clear hrow0 hv0 hcap hcap2
                  obtain rfl : j = 0 := by simpa using HJ.out
                  go_wp2_with (at_builtin; refine wpList_append_own _ rfl (.tmp 82) (.tmp 87) 59 rfl wr.heap.size 95 ti (.agg #[.string ⟨#[]⟩, .int .i64 0, .string ⟨#[]⟩]) 3 40 Tryd.underlying59 hti hz0 hz1 hz2 rfl (by decide) (.slice none 0 0) 0 [] rfl (World.ownsRow_nil _ _ _ _) ⟨wr.heap.size, 0, none⟩ 1 1 [.string c, .int .i64 n, .string s] rfl rfl (fun j' u hj' => by rw [add_plain]; exact new_cell _ #[.string c, .int .i64 n, .string s] _ (by rw [← hj']; simp) (by simp)) (by intro u hu; simp at hu; rcases hu with rfl | rfl | rfl <;> rfl) (by unfold maxLen; omega) (by omega) (by simp) ?_; intro v4 w7 ho4 hg4 _; have hB4 : Below wr.heap.size wr w7 := ((Below.refl _ wr).alloc (Nat.le_refl _) _).grown hg4 (by simp) (fun k hk => by cases hk); have HO4 := hideN ho4; have HB4 := hideN hB4; clear hg4 ho4; obtain ⟨g5, c5, hu5, hc5, hc6⟩ := row_some HO4.out (by omega); subst hu5; have q4 := (hB4.cell (p := ⟨M, 0, none⟩) HML.out).trans HQ0.out; have f4 := (hB4.frozen (p := ⟨M, 0, none⟩) HML.out).trans HFZ.out; clear hB4)
                  go_ret
                  have ho5 := HO4.out
                  rw [List.nil_append] at ho5
                  have hcl : oCells [(c.data.toList, (n, s.data.toList))] = [.string c, .int .i64 n, .string s] := by
                    rw [oCells, oCells]
                  rw [← hcl] at ho5
                  have hfin := HS.out.setV (v' := .slice (some ⟨g5, 0, none⟩) (0 + 1) c5) (l' := [(c.data.toList, (n, s.data.toList))]) HB4.out (ownsRow_low ho5 (Nat.le_refl _))
                  have hst := oIns_set (v := (n, s.data.toList)) HKF.out HPL.out
                  exact ⟨_, by rw [HR.out]; rfl, by rw [HR.out, hst]; exact hfin.1, fun k hk => .inr (Nat.le_trans HBX.out.size (hfin.2.2 k hk)), (Off.of_below HBX.out).trans hfin.2.1 (fun i _ hi => .inl hi)⟩
              · have hlt1 : 1 ≤ l.length := by omega
                have HLT1 := hideN hlt1
                clear h0 hlt hlt1
                obtain ⟨g, cap, hvg, hcap, hcap2⟩ := row_some HS.out.row HLT1.out
                obtain ⟨rfl, rfl⟩ : pf = some ⟨g, 0, none⟩ ∧ cf = cap := by simpa using hvg
                have hsp : wr.ownsRow 0 95 3 (.slice (some ⟨g, 0, none⟩) l.length cf) l.length (oCells (l.take j) ++ oCells (l.drop j)) := by
                  rw [← oCells_append, List.take_append_drop]
                  exact HS.out.row
                obtain ⟨P4, c4, hsl4, hP4⟩ := slL_from g l.length cf j HJ.out hcap
                have hsl5 := slL_upto g l.length cf j HJ.out hcap
                have HLT : Hid ((oCells (l.take j)).length = j * 3) := by show _ = _; rw [oCells_length, List.length_take, Nat.min_eq_left HJ.out]
                have HLD : Hid ((oCells (l.drop j)).length = (l.length - j) * 3) := by show _ = _; rw [oCells_length, List.length_drop]
                have HC1 : Hid (∀ W', Below wr.heap.size wr W' → ∀ j' u, (oCells (l.take j))[j']? = some u → W'.cell? ((⟨g, 0, none⟩ : Addr).add j') = some u) := fun W' hb => row_take (row_below hsp hb) rfl
                have HC2 : Hid (∀ W', Below wr.heap.size wr W' → ∀ j' u, (oCells (l.drop j))[j']? = some u → W'.cell? (P4.add j') = some u) := fun W' hb j' u hj' => by
                  have hjl := (List.getElem?_eq_some_iff.1 hj').1
                  rw [HLD.out] at hjl
                  rw [hP4 (by omega)]
                  have := row_drop (row_below hsp hb) rfl j' u hj'
                  rw [HLT.out] at this
                  exact this
                clear hvg hsp hP4 hcap hcap2
                go_wp2_with (first
                  | (at_builtin; refine wpList_append_own _ rfl (.tmp 74) (.tmp 80) 59 rfl wr.heap.size 95 ti (.agg #[.string ⟨#[]⟩, .int .i64 0, .string ⟨#[]⟩]) 3 40 Tryd.underlying59 hti hz0 hz1 hz2 rfl (by decide) (.slice none 0 0) 0 [] rfl (World.ownsRow_nil _ _ _ _) ⟨g, 0, none⟩ j cf (oCells (l.take j)) rfl HLT.out (HC1.out wr (Below.refl _ _)) (oCells_one _) (by have := HLEN.out; have := HJ.out; unfold maxLen; omega) (by have := HLEN.out; have := HJ.out; omega) (Nat.le_refl _) ?_; intro v3 w6 ho3 hg3 _; rw [Nat.zero_add, List.nil_append] at ho3; have hB3 : Below wr.heap.size wr w6 := (Below.refl _ wr).grown hg3 (Nat.le_refl _) (fun k hk => by cases hk); have HO3 := hideN ho3; have HB3 := hideN hB3; clear hg3 ho3; have q3 := (hB3.cell (p := ⟨M, 0, none⟩) HML.out).trans HQ0.out; clear hB3)
                  | (at_builtin; refine wpList_append_own _ rfl (.tmp 82) (.tmp 87) 59 rfl wr.heap.size 95 ti (.agg #[.string ⟨#[]⟩, .int .i64 0, .string ⟨#[]⟩]) 3 40 Tryd.underlying59 hti hz0 hz1 hz2 rfl (by decide) v3 j (oCells (l.take j)) rfl (HO3.out.alloc _) ⟨w6.heap.size, 0, none⟩ 1 1 [.string c, .int .i64 n, .string s] rfl rfl (fun j' u hj' => by rw [add_plain]; exact new_cell _ #[.string c, .int .i64 n, .string s] _ (by rw [← hj']; simp) (by simp)) (by intro u hu; simp at hu; rcases hu with rfl | rfl | rfl <;> rfl) (by have := HLEN.out; have := HJ.out; unfold maxLen; omega) (by have := HLEN.out; have := HJ.out; omega) (by have := HB3.out.size; simp; omega) ?_; intro v4 w7 ho4 hg4 _; have hB4 : Below wr.heap.size wr w7 := (HB3.out.alloc HB3.out.size _).grown hg4 (by have := HB3.out.size; simp; omega) (fun k hk => (HO3.out.lt k hk).1); have HO4 := hideN ho4; have HB4 := hideN hB4; clear hg4 ho4; have q4 := (hB4.cell (p := ⟨M, 0, none⟩) HML.out).trans HQ0.out; clear hB4)
                  | (at_builtin; refine wpList_append_own _ rfl (.tmp 90) (.tmp 96) 59 rfl wr.heap.size 95 ti (.agg #[.string ⟨#[]⟩, .int .i64 0, .string ⟨#[]⟩]) 3 40 Tryd.underlying59 hti hz0 hz1 hz2 rfl (by decide) v4 (j + 1) _ rfl HO4.out P4 (l.length - j) c4 (oCells (l.drop j)) rfl HLD.out (HC2.out w7 HB4.out) (oCells_one _) (by have := HLEN.out; have := HJ.out; unfold maxLen; omega) (by have := HLEN.out; have := HJ.out; omega) HB4.out.size ?_; intro v5 w8 ho5 hg5 _; have hB5 : Below wr.heap.size wr w8 := HB4.out.grown hg5 HB4.out.size (fun k hk => (HO4.out.lt k hk).1); have HO5 := hideN ho5; have HB5 := hideN hB5; clear hg5 ho5; obtain ⟨p5, c5, hu5⟩ := row_shapeK HO5.out; subst hu5; have q5 := (hB5.cell (p := ⟨M, 0, none⟩) HML.out).trans HQ0.out; have f5 := (hB5.frozen (p := ⟨M, 0, none⟩) HML.out).trans HFZ.out; clear hB5))
                go_ret
                have ho5 := HO5.out
                have hcl : oCells [(c.data.toList, (n, s.data.toList))] = [.string c, .int .i64 n, .string s] := by
                  rw [oCells, oCells]
                rw [← hcl, ← oIns_cells] at ho5
                have hfin := HS.out.setV (v' := .slice p5 (j + 1 + (l.length - j)) c5) (l' := oIns l j (c.data.toList, (n, s.data.toList))) HB5.out (ownsRow_low (by rw [oIns_length HJ.out]; exact ho5) (Nat.le_refl _))
                have hst := oIns_set (v := (n, s.data.toList)) HKF.out HPL.out
                exact ⟨_, by rw [HR.out]; rfl, by rw [HR.out, hst]; exact hfin.1, fun k hk => .inr (Nat.le_trans HBX.out.size (hfin.2.2 k hk)), (Off.of_below HBX.out).trans hfin.2.1 (fun i _ hi => .inl hi)⟩
      · have HR : Hid (RES = (8, l)) := by
          show _ = _
          rw [← hRES]
          unfold oNote
          rw [if_neg hc', hg]
          simp only
          rw [if_neg h1]
        have hb2 : (n == 0 + 1) = false := by rw [beq_eq_false_iff_ne]; omega
        have hb3 : (n != 0 + 1) = true := by rw [bne, hb2]; rfl
        clear hk hRES hnm hc' hg h1 h hcell hlen hkf hfi
        go_enter Tryd.func28, Tryd.ntmps28
        go_wp2_with fail
        refine HNM.out.mono ?_
        rintro e w1 ⟨rfl, rfl⟩
        go_wp2_with fail
        refine HFD.out.mono ?_
        rintro e w1 ⟨rfl, rfl⟩
        go_wp2_with fail
        go_ret
        exact ⟨_, by rw [HR.out]; rfl, by rw [HR.out]; exact HH.out, fun k hk => .inl hk, Off.refl _ _⟩
end Go.Proofs.YtjngnnbondejaabDoor
