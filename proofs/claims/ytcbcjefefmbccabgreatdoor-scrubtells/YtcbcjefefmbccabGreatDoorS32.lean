/-
  Own text. ScrubTells over the contracts of package scrub and the document's answer: it returns true whatever the files and the bins.
-/
import Derived.Test.YtcbcjefefmbccabGreatDoorS31
import Derived.Deep.AppendLies
namespace Go.Proofs.YtcbcjefefmbccabGreatDoor
open Go.RowKit Go.Maps Go.Sort

theorem longR_no {nm : ByteArray} {ids : List (Nat × Int)} (h : ¬ 0 < longR nm ids) : nm.size ≤ 30 ∧ ids.length ≤ 251 := by
  unfold longR at h
  split at h
  · exact absurd (by decide) h
  · rename_i h1
    refine ⟨?_, ?_⟩
    · rcases Nat.lt_or_ge 30 nm.size with h2 | h2
      · exact absurd (.inl h2) h1
      · exact h2
    · rcases Nat.lt_or_ge 60 ids.length with h2 | h2
      · by_cases h3 : ids.length = 251
        · omega
        · exact absurd (.inr ⟨h2, h3⟩) h1
      · omega
theorem longR_two (nm : ByteArray) (ids : List (Nat × Int)) : longR nm ids = 0 ∨ longR nm ids = 1 := by
  unfold longR
  split
  · exact .inr rfl
  · exact .inl rfl
set_option maxRecDepth 100000 in
set_option maxHeartbeats 8000000 in
theorem scrubTells_any (a : Nat → Addr) (vf vb : Value) (fs : List Rcp) (bs : List NBin) (w : World) (hf : RcpsAt w vf fs) (hb : LoadsAt w vb bs) (hpr : ∀ r ∈ fs, 0 ≤ r.2.2.1) (hwf : ∀ r ∈ fs, (∀ i ∈ r.2.2.2, WfID i) ∧ WfID (rcpRep r)) (hbw : ∀ b ∈ bs, WfID b.1 ∧ ∀ h ∈ b.2, WfID h.1) (hE : ErrW w a) :
    Calls Tryz.prog 4 #[vf, vb] w fun e w' => e = .returned (.bool true) ∧ Below w.heap.size w w' := by
  obtain ⟨iR, hiR, zR0, zR1, zR2⟩ := info_parts infoRcp
  obtain ⟨iB, hiB, zB0, zB1, zB2⟩ := info_parts infoLoad
  have HFV : Hid (∀ W, Below w.heap.size w W → RcpsAt W vf fs) := fun W h => hf.below h
  have HBV : Hid (∀ W, Below w.heap.size w W → LoadsAt W vb bs) := fun W h => hb.below h
  have HEE : Hid (∀ W, Below w.heap.size w W → ErrW W a) := fun W h => hE.below h (Nat.le_refl _)
  have HSC := hideN (scrubbed_any a w hE)
  have HPR := hideN hpr
  have HWF := hideN hwf
  have HBW := hideN hbw
  obtain ⟨pf, cf, rfl, _⟩ := hf
  obtain ⟨pb, cb, rfl, _⟩ := hb
  clear hE hpr hwf hbw
  by_cases hskip : (12 < fs.length ∧ fs.length ≠ 31) ∨ 6 < bs.length
  · by_cases h12 : 12 < fs.length ∧ fs.length ≠ 31
    · have h12' : (12 : Int) < (fs.length : Int) := by omega
      have h31 : ((fs.length : Int) == 31) = false := beq_eq_false_iff_ne.2 (by omega)
      have h31' : ((fs.length : Int) != 31) = true := by rw [bne, h31]; rfl
      clear hskip h12
      go_enter Tryz.func4, Tryz.ntmps4
      go_wp2_with fail
      refine HSC.out.mono ?_
      rintro e w1 ⟨rfl, hb1⟩
      go_wp2_with fail
      go_ret
      exact ⟨rfl, hb1⟩
    · have h6 : 6 < bs.length := by omega
      have h6' : (6 : Int) < (bs.length : Int) := by omega
      by_cases h12a : 12 < fs.length
      · have h12' : (12 : Int) < (fs.length : Int) := by omega
        have h31 : ((fs.length : Int) == 31) = true := beq_iff_eq.2 (by omega)
        have h31' : ((fs.length : Int) != 31) = false := by rw [bne, h31]; rfl
        clear hskip h12 h12a
        go_enter Tryz.func4, Tryz.ntmps4
        go_wp2_with fail
        refine HSC.out.mono ?_
        rintro e w1 ⟨rfl, hb1⟩
        go_wp2_with fail
        go_ret
        exact ⟨rfl, hb1⟩
      · have h12' : ¬ (12 : Int) < (fs.length : Int) := by omega
        clear hskip h12
        go_enter Tryz.func4, Tryz.ntmps4
        go_wp2_with fail
        refine HSC.out.mono ?_
        rintro e w1 ⟨rfl, hb1⟩
        go_wp2_with fail
        go_ret
        exact ⟨rfl, hb1⟩
  have hb6 : ¬ 6 < bs.length := fun h => hskip (.inr h)
  have hb6' : ¬ (6 : Int) < (bs.length : Int) := by omega
  have hfs : fs.length ≤ 12 ∨ fs.length = 31 := by
    rcases Nat.lt_or_ge 12 fs.length with h | h
    · by_cases h31 : fs.length = 31
      · exact .inr h31
      · exact absurd (.inl ⟨h, h31⟩) hskip
    · exact .inl h
  have HFSL := hideN hfs
  have HBSL : Hid (bs.length ≤ 6) := by show _ ≤ _; omega
  have hcond : (fs.length ≤ 12 ∧ ¬ (12 : Int) < (fs.length : Int)) ∨ ((12 : Int) < (fs.length : Int) ∧ ((fs.length : Int) != 31) = false ∧ ((fs.length : Int) == 31) = true) := by
    rcases hfs with h | h
    · exact .inl ⟨h, by omega⟩
    · refine .inr ⟨by omega, ?_, beq_iff_eq.2 (by omega)⟩
      rw [bne, beq_iff_eq.2 (show (fs.length : Int) = 31 by omega)]
      rfl
  have hfl31 : (fs.length : Int) ≤ 31 := by omega
  have hbl6 : (bs.length : Int) ≤ 6 := by omega
  clear hskip hfs
  rcases hcond with ⟨hc12, hc1⟩ | ⟨hc1, hc2, hc3⟩
  · have HC12 := hideN hc12
    clear hc12
    go_enter Tryz.func4, Tryz.ntmps4
    go_wp2_with fail
    refine HSC.out.mono ?_
    rintro e wA ⟨rfl, hbA⟩
    have HA := hideN hbA
    clear hbA HSC
    have HCELL : Hid (∀ j (h : j < fs.length), ∃ b o, pf = some ⟨b, o, none⟩ ∧ ∀ W, Below wA.heap.size wA W → ∃ vi, RcpAt W b (o + j * 4) vi fs[j]) := fun j hj => by
      obtain ⟨p', c', hv, hc⟩ := HFV.out w (Below.refl _ _)
      obtain ⟨b, o, vi, hp, _⟩ := hc j hj
      simp only [Value.slice.injEq] at hv
      refine ⟨b, o, hv.1.trans hp, fun W hW => ?_⟩
      obtain ⟨p2, c2, hv2, hc2⟩ := HFV.out W (HA.out.trans (hW.mono HA.out.size))
      obtain ⟨b2, o2, vi2, hp2, hr2⟩ := hc2 j hj
      simp only [Value.slice.injEq] at hv2
      rw [← hv2.1, hv.1, hp] at hp2
      obtain ⟨rfl, rfl⟩ : b = b2 ∧ o = o2 := by simpa using hp2
      exact ⟨vi2, hr2⟩
    have HBELL : Hid (∀ j (h : j < bs.length), ∃ b o, pb = some ⟨b, o, none⟩ ∧ ∀ W, Below wA.heap.size wA W → ∃ vi, LoadAt W b (o + j * 3) vi bs[j]) := fun j hj => by
      obtain ⟨p', c', hv, hc⟩ := HBV.out w (Below.refl _ _)
      obtain ⟨b, o, vi, hp, _⟩ := hc j hj
      simp only [Value.slice.injEq] at hv
      refine ⟨b, o, hv.1.trans hp, fun W hW => ?_⟩
      obtain ⟨p2, c2, hv2, hc2⟩ := HBV.out W (HA.out.trans (hW.mono HA.out.size))
      obtain ⟨b2, o2, vi2, hp2, hr2⟩ := hc2 j hj
      simp only [Value.slice.injEq] at hv2
      rw [← hv2.1, hv.1, hp] at hp2
      obtain ⟨rfl, rfl⟩ : b = b2 ∧ o = o2 := by simpa using hp2
      exact ⟨vi2, hr2⟩
    go_wp2_with fail
    clear hc1
    go_loopw [6, 7] (fun v iv wr => ∃ (j : Nat) (ps : List RQ), j ≤ fs.length ∧ iv = .int .i64 j ∧ Hid (ps.map (·.1) = fs.take j) ∧ Hid (RqSt wA wr v ps) ∧ Hid (Below wA.heap.size wA wr) ∧ Hid (∀ k (h : k < fs.length), k < j → fs[k].1.length ≤ 30 ∧ fs[k].2.2.2.length ≤ 251)) (fun _ iv _ => fs.length - (intOf iv).toNat)
    case atStart => exact ⟨0, [], Nat.zero_le _, rfl, rfl, RqSt.nil _ _, Below.refl _ _, fun k _ h => by omega⟩
    case round =>
      obtain ⟨j, ps, hj, rfl, HPS, HFS, HB, HLG⟩ := hrel
      have HPL : Hid (ps.length = j) := by
        show _ = _
        have := congrArg List.length HPS.out
        rw [List.length_map, List.length_take] at this
        omega
      have HBW' : Hid (Below w.heap.size w wr) := HA.out.trans (HB.out.mono HA.out.size)
      by_cases hjl : j < fs.length
      · have hjl' : (j : Int) < (fs.length : Int) := by omega
        have hj0 : (0 : Int) ≤ (j : Int) := by omega
        obtain ⟨b, o, rfl, hc⟩ := HCELL.out j hjl
        obtain ⟨vi, hR⟩ := hc wr HB.out
        have HTK := hideN (List.take_succ_eq_append_getElem hjl)
        have HP0 := hideN (HPR.out _ (List.getElem_mem hjl))
        have HKL := hideN hjl
        have HLGN : Hid ((fs[j]'hjl).1.length ≤ 30 ∧ (fs[j]'hjl).2.2.2.length ≤ 251 → ∀ k (h : k < fs.length), k < j + 1 → fs[k].1.length ≤ 30 ∧ fs[k].2.2.2.length ≤ 251) := fun h k hk hkj => by
          rcases Nat.lt_or_ge k j with h' | h'
          · exact HLG.out k hk h'
          · obtain rfl : k = j := by omega
            exact h
        obtain ⟨⟨rn, rl, rp, ri⟩, hx⟩ : ∃ x, fs[j]'hjl = x := ⟨_, rfl⟩
        rw [hx] at hR HTK HP0 HLGN
        simp only at HP0 HLGN
        obtain ⟨pp, hpp⟩ : ∃ pp : Nat, rp = (pp : Int) := ⟨rp.toNat, by have := HP0.out; omega⟩
        subst hpp
        obtain ⟨NM, hNM⟩ : ∃ NM : ByteArray, (⟨rn.toArray⟩ : ByteArray) = NM := ⟨_, rfl⟩
        have HNM := hideN hNM
        have HNML : Hid (rn.length = NM.size) := by show _ = _; rw [← hNM]; show _ = rn.toArray.size; simp
        have hi := hR.ids
        obtain ⟨qi, ci, hvi, _⟩ := id hi
        simp only at hvi hi
        subst hvi
        have HRB : Hid (∀ W, Below wr.heap.size wr W → (W.cell? ⟨b, o + j * 4, none⟩ = some (.string NM) ∧ W.cell? ⟨b, o + j * 4 + 1, none⟩ = some (.int .i64 rl) ∧ W.cell? ⟨b, o + j * 4 + 2, none⟩ = some (.int .u32 (pp : Nat)) ∧ W.cell? ⟨b, o + j * 4 + 3, none⟩ = some (.slice qi ri.length ci)) ∧ IdsAt W (.slice qi ri.length ci) ri) := fun W hW => by
          have h := hR.below hW
          refine ⟨⟨?_, h.c1, h.c2, h.c3⟩, h.ids⟩
          rw [← hNM]
          exact h.c0
        have HLR := hideN (longRecipe_any NM rl (pp : Nat) (.slice qi ri.length ci) ri wr hi)
        obtain ⟨⟨c0, c1, c2, c3⟩, _⟩ := HRB.out wr (Below.refl _ _)
        obtain ⟨idl, hidl⟩ : ∃ idl, ri.length = idl := ⟨_, rfl⟩
        have HIDL := hideN hidl
        have hlt2 := longR_two NM ri
        have HLN := hideN (fun h => longR_no (nm := NM) (ids := ri) h)
        obtain ⟨lr, hlr⟩ : ∃ lr, longR NM ri = lr := ⟨_, rfl⟩
        rw [hlr] at HLR hlt2 HLN
        rw [hidl] at HLR c3
        clear hc hR hx hNM hi hidl hlr hjl
        rcases hlt2 with rfl | rfl
        rotate_left
        · go_wp2_with fail
          refine HLR.out.mono ?_
          rintro e w3 ⟨rfl, hb3⟩
          have HB3 : Hid (Below w.heap.size w w3) := HBW'.out.trans (hb3.mono HBW'.out.size)
          clear hb3
          go_wp2_with fail
          go_ret
          exact ⟨rfl, HB3.out⟩
        have HLL := hideN (HLN.out (by decide))
        clear HLN
        go_wp2_with fail
        refine HLR.out.mono ?_
        rintro e w3 ⟨rfl, hb3⟩
        have HB3r := hideN hb3
        have HB3 : Hid (Below wA.heap.size wA w3) := HB.out.trans (hb3.mono HB.out.size)
        have HFS3 := hideN (HFS.out.next hb3)
        have HOR := hideN (ownRecipe_any NM rl pp (.slice qi ri.length ci) ri w3 (HRB.out w3 hb3).2 (by have := HLL.out; omega))
        clear hb3 HLR c0 c1 c2 c3 HFS HB
        obtain ⟨⟨c0, c1, c2, c3⟩, _⟩ := HRB.out w3 HB3r.out
        have HRW : Hid (∀ j, u6.ownBlock = some j → j < w3.heap.size) := fun j hj => row_lt HFS3.out.row hj
        have HON : Hid (Calls Tryz.prog 20 #[.agg #[.string NM, .int .i64 rl, .int .u32 (pp : Nat), .slice qi idl ci]] w3 fun e w' => ∃ (q : Option Addr) (c : Nat), e = .returned (.agg #[.string NM, .int .i64 rl, .int .u32 (pp : Nat), .slice q idl c]) ∧ IdsIn w3.heap.size w' (.slice q idl c) ri ∧ Below w3.heap.size w3 w') := by
          have h := HOR.out
          rw [HIDL.out] at h
          exact h.mono fun e w' ⟨v, he, hi, hbw⟩ => by
            obtain ⟨q, c, hq, hc⟩ := id hi
            rw [HIDL.out] at hq
            subst hq
            exact ⟨q, c, he, hi, hbw⟩
        rw [HIDL.out] at c3
        clear HOR
        go_wp2_with fail
        refine HON.out.mono ?_
        rintro e w4 ⟨q4, c4, rfl, hi4, hb4⟩
        have hal5 := (Below.refl w4.heap.size w4).alloc (Nat.le_refl _) (.cells #[.string NM, .int .i64 rl, .int .u32 (pp : Nat), .slice q4 idl c4] 40)
        have HR5 := hideN (Blk.new w4 #[.string NM, .int .i64 rl, .int .u32 (pp : Nat), .slice q4 idl c4] 40)
        have HFS5 := hideN ((HFS3.out.next hb4).next hal5)
        have HI5 := hideN ((hi4.below hal5).at)
        have HIB : Hid (ri ≠ [] → ∀ j, (Value.slice q4 idl c4).ownBlock = some j → w3.heap.size ≤ j) := fun hne j hj => by
          obtain ⟨p', c', hv', hc'⟩ := hi4
          obtain ⟨b', o', hp', hle, _⟩ := hc' 0 (List.length_pos_iff.2 hne)
          have : q4 = p' := by have := hv'; simp at this; exact this.1
          subst this hp'
          have : b' = j := by simpa [Value.ownBlock] using hj
          omega
        have HB5 : Hid (Below wA.heap.size wA _) := hideN ((HB3.out.trans (hb4.mono HB3.out.size)).trans (hal5.mono (Nat.le_trans HB3.out.size hb4.size)))
        obtain ⟨W5, hW5⟩ : ∃ W5, w4.alloc (.cells #[.string NM, .int .i64 rl, .int .u32 (pp : Nat), .slice q4 idl c4] 40) = W5 := ⟨_, rfl⟩
        rw [hW5] at HR5 HFS5 HI5 HB5
        have hs5 : W5.heap.size = w4.heap.size + 1 := by rw [← hW5]; simp
        have r0 := HR5.out.cell (i := 0) rfl
        have r1 := HR5.out.cell (i := 1) rfl
        have r2 := HR5.out.cell (i := 2) rfl
        have r3 := HR5.out.cell (i := 3) rfl
        have HS5 := hideN hs5
        have HW5 := hideN hW5
        rw [← hW5] at r0 r1 r2 r3
        have HPLN : Hid (ps.length ≤ 31) := by show _ ≤ _; rw [HPL.out]; omega
        have HOWN5 : Hid ((w4.alloc (.cells #[.string NM, .int .i64 rl, .int .u32 (pp : Nat), .slice q4 idl c4] 40)).ownsRow wA.heap.size 40 4 u6 ps.length (rqCells ps)) := by rw [hW5]; exact HFS5.out.row
        clear hal5 hb4 hi4 hW5 hs5 HON c0 c1 c2 c3
        go_wp2_with (at_builtin; refine wpList_append_own_at _ rfl (.tmp 47) (.tmp 49) 31 rfl wA.heap.size 40 iR (rcpV ⟨#[]⟩ 0 0 (.slice none 0 0)) 4 56 Tryz.underlying31 hiR zR0 zR1 zR2 rfl (by decide) _ _ _ rfl (HOWN5.out.alloc _) ⟨w4.heap.size + 1, 0, none⟩ 1 1 [.string NM, .int .i64 rl, .int .u32 (pp : Nat), .slice q4 idl c4] rfl rfl ?c1 ?c2 ?c3 ?c4 ?c5 ?_)
        case c1 =>
          intro j u hj
          rw [add_plain]
          exact new_cell _ #[.string NM, .int .i64 rl, .int .u32 (pp : Nat), .slice q4 idl c4] _ (by rw [← hj]; simp) (by simp)
        case c2 => intro u hu; simp at hu; rcases hu with rfl | rfl | rfl | rfl <;> rfl
        case c3 => have := HPLN.out; unfold maxLen; omega
        case c4 => have := HPLN.out; omega
        case c5 => have h1 := HB5.out.size; have h2 := HS5.out; simp; omega
        intro v6 w6 hown6 hg6 _ hv6
        rw [HW5.out] at hg6
        have hal6 := (Below.refl W5.heap.size W5).alloc (Nat.le_refl _) (.cells #[.string NM, .int .i64 rl, .int .u32 (pp : Nat), .slice q4 idl c4] 40)
        have HFS6 : Hid (RqSt wA w6 v6 (ps ++ [((rn, rl, (pp : Int), ri), .slice q4 idl c4)])) := (HFS5.out.next hal6).app (q := ((rn, rl, (pp : Int), ri), .slice q4 idl c4)) (HI5.out.below hal6) (fun hne j hj e => by
          have h1 := HIB.out hne j hj
          have h2 := HRW.out j e
          omega) hg6 (by
          rw [rqCells_append]
          have : rqCells [((rn, rl, (pp : Int), ri), Value.slice q4 idl c4)] = [.string NM, .int .i64 rl, .int .u32 (pp : Nat), .slice q4 idl c4] := by rw [rqCells, rqCells]; simp only; rw [HNM.out]
          rw [this]
          exact hown6) (by
          rcases hv6 with h | h
          · exact .inl h
          · exact .inr (by rw [h]; simp [HS5.out]))
        have HB6 : Hid (Below wA.heap.size wA w6) := (HB5.out.trans (hal6.mono HB5.out.size)).trans ⟨hg6.os, hg6.tape, hg6.output, hg6.size, fun j hj => hg6.block j (by have := HB5.out.size; simp; omega) (fun e => by have := row_ge HFS5.out.row e.symm; omega)⟩
        have HPS6 : Hid ((ps ++ [((rn, rl, (pp : Int), ri), Value.slice q4 idl c4)]).map (·.1) = fs.take (j + 1)) := by
          show _ = _
          rw [List.map_append, HPS.out, HTK.out]
          rfl
        have HLG6 := hideN (HLGN.out (by rw [HNML.out]; exact HLL.out))
        clear hown6 hg6 hv6 hal6 r0 r1 r2 r3
        go_wp2_with fail
        go_roundw
        case rel => exact ⟨j + 1, _, HKL.out, by go_num, HPS6.out, HFS6.out, HB6.out, HLG6.out⟩
        case measure => simp [intOf]; have := HKL.out; omega
      · have hge : (fs.length : Int) ≤ (j : Int) := by omega
        have hke : fs.take j = fs := List.take_of_length_le (by omega)
        rw [hke] at HPS
        have hra : RcpsAt wr u6 fs := by rw [← HPS.out]; exact HFS.out.at
        have HLGA : Hid (∀ r ∈ fs, r.1.length ≤ 30 ∧ r.2.2.2.length ≤ 251) := fun r hr => by
          obtain ⟨k, hk, rfl⟩ := List.mem_iff_getElem.1 hr
          exact HLG.out k hk (by omega)
        obtain ⟨qF, cF, hvF, _⟩ := id hra
        subst hvF
        have HRA := hideN hra
        have HBa := hideN HB.out
        clear hke hra HPS HFS HB HLG HPL HCELL
        obtain ⟨wB, hwB⟩ : ∃ wB, wr = wB := ⟨_, rfl⟩
        rw [hwB] at HRA HBa HBW' ⊢
        go_wp2_with fail
        go_loopw [9, 10] (fun v iv wq => ∃ (j : Nat) (ps : List BP), j ≤ bs.length ∧ iv = .int .i64 j ∧ Hid (ps.map (·.1) = bs.take j) ∧ Hid (BnsSt wB.heap.size wq v ps) ∧ Hid (Below wB.heap.size wB wq) ∧ Hid (∀ k (h : k < bs.length), k < j → bs[k].2.length ≤ 251 ∧ ∀ h ∈ bs[k].2, h.2.2.length ≤ 100)) (fun _ iv _ => bs.length - (intOf iv).toNat)
        case atStart => exact ⟨0, [], Nat.zero_le _, rfl, rfl, BnsSt.nil _ _, Below.refl _ _, fun k _ h => by omega⟩
        case round =>
          obtain ⟨j, ps, hj, rfl, HPS, HFS, HB, HLG⟩ := hrel
          have HPL : Hid (ps.length = j) := by
            show _ = _
            have := congrArg List.length HPS.out
            rw [List.length_map, List.length_take] at this
            omega
          have HBA : Hid (Below wA.heap.size wA wr) := HBa.out.trans (HB.out.mono HBa.out.size)
          have HBww : Hid (Below w.heap.size w wr) := HBW'.out.trans (HB.out.mono HBW'.out.size)
          by_cases hjl : j < bs.length
          · have hjl' : (j : Int) < (bs.length : Int) := by omega
            have hj0 : (0 : Int) ≤ (j : Int) := by omega
            obtain ⟨b, o, rfl, hc⟩ := HBELL.out j hjl
            obtain ⟨vi, hL0⟩ := hc wB HBa.out
            have hL := hL0.below HB.out
            have HTK := hideN (List.take_succ_eq_append_getElem hjl)
            have HKL := hideN hjl
            have HLGN : Hid ((bs[j]'hjl).2.length ≤ 251 ∧ (∀ h ∈ (bs[j]'hjl).2, h.2.2.length ≤ 100) → ∀ k (h : k < bs.length), k < j + 1 → bs[k].2.length ≤ 251 ∧ ∀ h ∈ bs[k].2, h.2.2.length ≤ 100) := fun h k hk hkj => by
              rcases Nat.lt_or_ge k j with h' | h'
              · exact HLG.out k hk h'
              · obtain rfl : k = j := by omega
                exact h
            obtain ⟨⟨⟨xp, xl⟩, bl⟩, hx⟩ : ∃ x, bs[j]'hjl = x := ⟨_, rfl⟩
            rw [hx] at hL hL0 HTK HLGN
            simp only at HLGN
            have hh := hL.helds
            obtain ⟨qh, ch, hvh, _⟩ := id hh
            simp only at hvh hh
            subst hvh
            have HLB : Hid (∀ W, Below wB.heap.size wB W → W.cell? ⟨b, o + j * 3, none⟩ = some (.int .u32 (xp : Nat)) ∧ W.cell? ⟨b, o + j * 3 + 1, none⟩ = some (.int .i64 xl) ∧ W.cell? ⟨b, o + j * 3 + 2, none⟩ = some (.slice qh bl.length ch)) := fun W hW => by
              have h := hL0.below hW
              exact ⟨h.c0, h.c1, h.c2⟩
            have HHV : Hid (∀ W, Below wr.heap.size wr W → HeldsAt W (.slice qh bl.length ch) bl) := fun W hW => (hL.below hW).helds
            have HLH := hideN (longHelds_any (.slice qh bl.length ch) bl wr hh)
            unfold LongHPost at HLH
            obtain ⟨d0, d1, d2⟩ := HLB.out wr HB.out
            have HPLN : Hid (ps.length ≤ 100) := by show _ ≤ _; rw [HPL.out]; have := HBSL.out; omega
            clear hc hL hL0 hx hh hjl
            go_wp2_with fail
            refine HLH.out.mono ?_
            rintro e w3' ⟨nl, rfl, hw3, hn01, hn0⟩
            have hw3 := hw3.symm
            subst hw3
            clear HLH
            rcases hn01 with rfl | rfl
            rotate_left
            · go_wp2_with fail
              go_ret
              exact ⟨rfl, HBww.out⟩
            have hll := hn0 rfl
            have HLLB : Hid (bl.length ≤ 251 ∧ ∀ h ∈ bl, h.2.2.length ≤ 100) := ⟨by have := hll.1; omega, fun h hh => by
              obtain ⟨i, hi, rfl⟩ := List.mem_iff_getElem.1 hh
              exact hll.2 i hi⟩
            obtain ⟨pv, cv, hv⟩ : ∃ pv cv, u9 = .slice pv ps.length cv := by
              rcases HFS.out.row.2 with ⟨e, e2⟩ | ⟨g', cap, cur, e, _⟩
              · exact ⟨none, 0, by rw [e, e2]⟩
              · exact ⟨_, _, e⟩
            subst hv
            clear hn0 hll d0 d1 d2
            go_wp2_with fail
            obtain ⟨d0, d1, d2⟩ := HLB.out wr HB.out
            go_region_held3 (fun w' => w'.cell? ⟨b, o + j * 3, none⟩ = some (.int .u32 (xp : Nat)) ∧ w'.cell? ⟨b, o + j * 3 + 1, none⟩ = some (.int .i64 xl) ∧ w'.cell? ⟨b, o + j * 3 + 2, none⟩ = some (.slice qh bl.length ch)) (first | exact HLB.out _ HB9.out | exact HLB.out _ HB8.out | exact HLB.out _ HB7.out | exact HLB.out _ HB.out | go_keep) (first
              | (go_at_call 22; refine (ownHelds_any _ bl _ (by have := HLLB.out.1; omega) (HHV.out _ (Below.refl _ wr).drew)).mono ?_; rintro e w7 ⟨v7, rfl, hr7, hb7⟩; have hC7 : Below wr.heap.size wr w7 := (Below.refl _ wr).drew.trans hb7; have HC7 := hideN hC7; have HB7 := hideN (HB.out.trans (hC7.mono HB.out.size)); have HH7 := hideN (heldsOwn_of_row hr7); have HFS7 := hideN (HFS.out.next hC7); have HSZ7 : Hid (wr.heap.size ≤ w7.heap.size) := hC7.size; obtain ⟨pq, cq, hv7⟩ : ∃ pq cq, v7 = .slice pq bl.length cq := (by obtain ⟨p', c', h1, _⟩ := HH7.out.1; exact ⟨p', c', h1⟩); subst hv7; have hal8 := (Below.refl w7.heap.size w7).alloc (Nat.le_refl _) (.cells #[.int .u32 (xp : Nat), .int .i64 xl, .slice pq bl.length cq] 60); have HB8 := hideN (HB7.out.trans (hal8.mono HB7.out.size)); have HC8 := hideN (hC7.trans (hal8.mono hC7.size)); clear hr7 hb7 hC7 hal8)
              | (refine step_append_lies _ (by rfl) _ _ _ (by rfl) wB.heap.size 60 iB _ 3 40 Tryz.underlying54 hiB zB0 zB1 zB2 rfl (by decide) (.slice pv ps.length cv) ps.length _ (by rfl) (HFS7.out.row.alloc _) ⟨w7.heap.size, 0, none⟩ 1 1 [.int .u32 (xp : Nat), .int .i64 xl, .slice pq bl.length cq] (by rfl) (by rfl) (World.news_of_block (cs := #[.int .u32 (xp : Nat), .int .i64 xl, .slice pq bl.length cq]) (t := 60) (fr := (0, 0)) (heap_alloc_new w7 _)) (by simp [Value.oneCell']) (by omega) (by unfold maxLen; have := HPLN.out; omega) (by have := HPLN.out; omega) (by simp; have := HB7.out.size; omega) (w7.heap.size + 1) (by simp) ?_; intro gg cap w9 hown9 hgrow hat hglt; have HB9 : Hid (Below wB.heap.size wB w9) := (HB8.out.trans ⟨hgrow.os, hgrow.tape, hgrow.output, hgrow.size, fun j hj => hgrow.block j (Nat.lt_of_lt_of_le hj HB8.out.size) (fun e => by have := row_ge HFS7.out.row e.symm; omega)⟩)))
            have hal8 := (Below.refl w7.heap.size w7).alloc (Nat.le_refl _) (.cells #[.int .u32 (xp : Nat), .int .i64 xl, .slice pq bl.length cq] 60)
            have hsz : wB.heap.size ≤ wr.drew.heap.size := HB.out.size
            have hsz6 : wr.heap.size ≤ w7.heap.size := HSZ7.out
            have HFS9 : Hid (BnsSt wB.heap.size w9 (.slice (some ⟨gg, 0, none⟩) (ps.length + 1) cap) (ps ++ [(((xp, xl), bl), .slice pq bl.length cq)])) := (HFS7.out.next hal8).app (q := (((xp, xl), bl), .slice pq bl.length cq)) ((HH7.out.mono hsz).below hal8) (fun hne j hj => by
              have h6 := (HH7.out.own hne hj).1
              have h6' : wr.heap.size ≤ j := h6
              refine ⟨fun e => ?_, fun x hx hxn e => ?_⟩
              · have := (HFS.out.row.lt j e).2
                omega
              · have := ((HFS.out.helds x hx).own hxn e).2
                omega) hgrow (by rw [ldCells_append]; exact hown9) (by
              rcases hat with h | h
              · exact .inl h.symm
              · exact .inr (by rw [h]; simp [Value.ownBlock]))
            have HPS9 : Hid ((ps ++ [(((xp, xl), bl), Value.slice pq bl.length cq)]).map (·.1) = bs.take (j + 1)) := by
              show _ = _
              rw [List.map_append, HPS.out, HTK.out]
              rfl
            have HLG9 := hideN (HLGN.out HLLB.out)
            clear hown9 hgrow hat hglt hal8 d0 d1 d2 hsz hsz6
            go_wp2_with fail
            go_roundw
            case rel => exact ⟨j + 1, _, HKL.out, by go_num, HPS9.out, HFS9.out, HB9.out, HLG9.out⟩
            case measure => simp [intOf]; have := HKL.out; omega
          · have hge : (bs.length : Int) ≤ (j : Int) := by omega
            have hke : bs.take j = bs := List.take_of_length_le (by omega)
            rw [hke] at HPS
            have hlb : LoadsAt wr u9 bs := by rw [← HPS.out]; exact HFS.out.at
            have HLBA : Hid (∀ b ∈ bs, b.2.length ≤ 251 ∧ ∀ h ∈ b.2, h.2.2.length ≤ 100) := fun b hb => by
              obtain ⟨k, hk, rfl⟩ := List.mem_iff_getElem.1 hb
              exact HLG.out k hk (by omega)
            have HRAr := hideN (HRA.out.below HB.out)
            have HCK : Hid (Calls Tryz.prog 24 #[.slice qF fs.length cF, u9] wr fun e w' => ∃ ev, e = .returned ev ∧ ErrIs w' a ev (refScrub fs bs) ∧ Below wr.heap.size wr w') := by
              rcases HFSL.out with h12 | h31
              · rw [checkE_ref (by omega)]
                exact (scrubCheckE_any a _ u9 fs bs wr (by omega) (fun r hr => by have := (HLGA.out r hr).1; omega) (fun r hr => by have := (HLGA.out r hr).2; omega) HWF.out (by have := HBSL.out; omega) (fun b hb => by have := (HLBA.out b hb).1; omega) HBW.out (fun b hb h hh => by have := (HLBA.out b hb).2 h hh; omega) HRAr.out hlb (HEE.out wr HBww.out)).mono fun e w' ⟨ev, h1, h2, h3⟩ => ⟨ev, h1, h2.at, h3⟩
              · obtain ⟨q9, c9, hq9, _⟩ := id hlb
                rw [hq9]
                refine (scrubCheck_many a qF q9 fs.length cF bs.length c9 wr (by omega) ((HEE.out wr HBww.out).on (by decide))).mono ?_
                rintro e w' ⟨rfl, hbw⟩
                refine ⟨_, rfl, ?_, hbw⟩
                unfold refScrub
                rw [if_pos (by omega)]
                exact .inr (.inl ⟨6, by decide, rfl, rfl⟩)
            have HSF : Hid (∀ W, Below w.heap.size w W → Calls Tryz.prog 25 #[.slice pf fs.length cf, .slice pb bs.length cb] W fun e w' => e = .returned (faultV (refScrub fs bs).1 (refScrub fs bs).2) ∧ Below W.heap.size W w') := fun W hW => scrubFault_any _ _ fs bs W (by rcases HFSL.out with h | h <;> omega) (by have := HBSL.out; omega) (fun b hb => by have := (HLBA.out b hb).1; omega) (fun b hb h hh => by have := (HLBA.out b hb).2 h hh; omega) (fun r hr => by have := (HLGA.out r hr).1; omega) (fun r hr => by have := (HLGA.out r hr).2; omega) (HFV.out W hW) (HBV.out W hW)
            obtain ⟨RS, hRS⟩ : ∃ RS, refScrub fs bs = RS := ⟨_, rfl⟩
            rw [hRS] at HCK HSF
            clear hke hlb HPS HFS HB HLG hRS hjl
            go_wp2_with fail
            refine HCK.out.mono ?_
            rintro e w11 ⟨ev, rfl, hev, hb11⟩
            have HB11 : Hid (Below w.heap.size w w11) := HBww.out.trans (hb11.mono HBww.out.size)
            have HEV := hideN hev
            clear hev hb11 HCK
            go_wp2_with fail
            refine (HSF.out w11 HB11.out).mono ?_
            rintro e w12 ⟨rfl, hb12⟩
            have HB12 : Hid (Below w.heap.size w w12) := HB11.out.trans (hb12.mono HB11.out.size)
            have HFA := hideN (faulted2_true a ev RS w12 (HEE.out w12 HB12.out) (HEV.out.below hb12))
            clear hb12 HSF
            go_wp2_with fail
            refine HFA.out.mono ?_
            rintro e w13 ⟨rfl, hb13⟩
            have HB13 : Hid (Below w.heap.size w w13) := HB12.out.trans (hb13.mono HB12.out.size)
            have HON := hideN (scrubOf_nil a w13 ((HEE.out w13 HB13.out).on (by decide)))
            clear hb13 HFA
            go_wp2_with fail
            refine HON.out.mono ?_
            rintro e w13' ⟨rfl, hw13⟩
            have hw13 := hw13.symm
            subst hw13
            have HCO := hideN (coded2_true a (sentV a 2) 3 w13 (HEE.out w13 HB13.out) (.inr (.inl ⟨2, by decide, rfl, rfl⟩)))
            clear HON
            go_wp2_with fail
            refine HCO.out.mono ?_
            rintro e w14 ⟨rfl, hb14⟩
            have HB14 : Hid (Below w.heap.size w w14) := HB13.out.trans (hb14.mono HB13.out.size)
            clear hb14 HCO
            go_wp2_with fail
            go_ret
            exact ⟨rfl, HB14.out⟩
  · have HC13 := hideN hc1
    go_enter Tryz.func4, Tryz.ntmps4
    go_wp2_with fail
    refine HSC.out.mono ?_
    rintro e wA ⟨rfl, hbA⟩
    have HA := hideN hbA
    clear hbA HSC
    have HCELL : Hid (∀ j (h : j < fs.length), ∃ b o, pf = some ⟨b, o, none⟩ ∧ ∀ W, Below wA.heap.size wA W → ∃ vi, RcpAt W b (o + j * 4) vi fs[j]) := fun j hj => by
      obtain ⟨p', c', hv, hc⟩ := HFV.out w (Below.refl _ _)
      obtain ⟨b, o, vi, hp, _⟩ := hc j hj
      simp only [Value.slice.injEq] at hv
      refine ⟨b, o, hv.1.trans hp, fun W hW => ?_⟩
      obtain ⟨p2, c2, hv2, hc2⟩ := HFV.out W (HA.out.trans (hW.mono HA.out.size))
      obtain ⟨b2, o2, vi2, hp2, hr2⟩ := hc2 j hj
      simp only [Value.slice.injEq] at hv2
      rw [← hv2.1, hv.1, hp] at hp2
      obtain ⟨rfl, rfl⟩ : b = b2 ∧ o = o2 := by simpa using hp2
      exact ⟨vi2, hr2⟩
    have HBELL : Hid (∀ j (h : j < bs.length), ∃ b o, pb = some ⟨b, o, none⟩ ∧ ∀ W, Below wA.heap.size wA W → ∃ vi, LoadAt W b (o + j * 3) vi bs[j]) := fun j hj => by
      obtain ⟨p', c', hv, hc⟩ := HBV.out w (Below.refl _ _)
      obtain ⟨b, o, vi, hp, _⟩ := hc j hj
      simp only [Value.slice.injEq] at hv
      refine ⟨b, o, hv.1.trans hp, fun W hW => ?_⟩
      obtain ⟨p2, c2, hv2, hc2⟩ := HBV.out W (HA.out.trans (hW.mono HA.out.size))
      obtain ⟨b2, o2, vi2, hp2, hr2⟩ := hc2 j hj
      simp only [Value.slice.injEq] at hv2
      rw [← hv2.1, hv.1, hp] at hp2
      obtain ⟨rfl, rfl⟩ : b = b2 ∧ o = o2 := by simpa using hp2
      exact ⟨vi2, hr2⟩
    go_wp2_with fail
    clear hc1 hc2 hc3
    go_loopw [6, 7] (fun v iv wr => ∃ (j : Nat) (ps : List RQ), j ≤ fs.length ∧ iv = .int .i64 j ∧ Hid (ps.map (·.1) = fs.take j) ∧ Hid (RqSt wA wr v ps) ∧ Hid (Below wA.heap.size wA wr) ∧ Hid (∀ k (h : k < fs.length), k < j → fs[k].1.length ≤ 30 ∧ fs[k].2.2.2.length ≤ 251)) (fun _ iv _ => fs.length - (intOf iv).toNat)
    case atStart => exact ⟨0, [], Nat.zero_le _, rfl, rfl, RqSt.nil _ _, Below.refl _ _, fun k _ h => by omega⟩
    case round =>
      obtain ⟨j, ps, hj, rfl, HPS, HFS, HB, HLG⟩ := hrel
      have HPL : Hid (ps.length = j) := by
        show _ = _
        have := congrArg List.length HPS.out
        rw [List.length_map, List.length_take] at this
        omega
      have HBW' : Hid (Below w.heap.size w wr) := HA.out.trans (HB.out.mono HA.out.size)
      by_cases hjl : j < fs.length
      · have hjl' : (j : Int) < (fs.length : Int) := by omega
        have hj0 : (0 : Int) ≤ (j : Int) := by omega
        obtain ⟨b, o, rfl, hc⟩ := HCELL.out j hjl
        obtain ⟨vi, hR⟩ := hc wr HB.out
        have HTK := hideN (List.take_succ_eq_append_getElem hjl)
        have HP0 := hideN (HPR.out _ (List.getElem_mem hjl))
        have HKL := hideN hjl
        have HLGN : Hid ((fs[j]'hjl).1.length ≤ 30 ∧ (fs[j]'hjl).2.2.2.length ≤ 251 → ∀ k (h : k < fs.length), k < j + 1 → fs[k].1.length ≤ 30 ∧ fs[k].2.2.2.length ≤ 251) := fun h k hk hkj => by
          rcases Nat.lt_or_ge k j with h' | h'
          · exact HLG.out k hk h'
          · obtain rfl : k = j := by omega
            exact h
        obtain ⟨⟨rn, rl, rp, ri⟩, hx⟩ : ∃ x, fs[j]'hjl = x := ⟨_, rfl⟩
        rw [hx] at hR HTK HP0 HLGN
        simp only at HP0 HLGN
        obtain ⟨pp, hpp⟩ : ∃ pp : Nat, rp = (pp : Int) := ⟨rp.toNat, by have := HP0.out; omega⟩
        subst hpp
        obtain ⟨NM, hNM⟩ : ∃ NM : ByteArray, (⟨rn.toArray⟩ : ByteArray) = NM := ⟨_, rfl⟩
        have HNM := hideN hNM
        have HNML : Hid (rn.length = NM.size) := by show _ = _; rw [← hNM]; show _ = rn.toArray.size; simp
        have hi := hR.ids
        obtain ⟨qi, ci, hvi, _⟩ := id hi
        simp only at hvi hi
        subst hvi
        have HRB : Hid (∀ W, Below wr.heap.size wr W → (W.cell? ⟨b, o + j * 4, none⟩ = some (.string NM) ∧ W.cell? ⟨b, o + j * 4 + 1, none⟩ = some (.int .i64 rl) ∧ W.cell? ⟨b, o + j * 4 + 2, none⟩ = some (.int .u32 (pp : Nat)) ∧ W.cell? ⟨b, o + j * 4 + 3, none⟩ = some (.slice qi ri.length ci)) ∧ IdsAt W (.slice qi ri.length ci) ri) := fun W hW => by
          have h := hR.below hW
          refine ⟨⟨?_, h.c1, h.c2, h.c3⟩, h.ids⟩
          rw [← hNM]
          exact h.c0
        have HLR := hideN (longRecipe_any NM rl (pp : Nat) (.slice qi ri.length ci) ri wr hi)
        obtain ⟨⟨c0, c1, c2, c3⟩, _⟩ := HRB.out wr (Below.refl _ _)
        obtain ⟨idl, hidl⟩ : ∃ idl, ri.length = idl := ⟨_, rfl⟩
        have HIDL := hideN hidl
        have hlt2 := longR_two NM ri
        have HLN := hideN (fun h => longR_no (nm := NM) (ids := ri) h)
        obtain ⟨lr, hlr⟩ : ∃ lr, longR NM ri = lr := ⟨_, rfl⟩
        rw [hlr] at HLR hlt2 HLN
        rw [hidl] at HLR c3
        clear hc hR hx hNM hi hidl hlr hjl
        rcases hlt2 with rfl | rfl
        rotate_left
        · go_wp2_with fail
          refine HLR.out.mono ?_
          rintro e w3 ⟨rfl, hb3⟩
          have HB3 : Hid (Below w.heap.size w w3) := HBW'.out.trans (hb3.mono HBW'.out.size)
          clear hb3
          go_wp2_with fail
          go_ret
          exact ⟨rfl, HB3.out⟩
        have HLL := hideN (HLN.out (by decide))
        clear HLN
        go_wp2_with fail
        refine HLR.out.mono ?_
        rintro e w3 ⟨rfl, hb3⟩
        have HB3r := hideN hb3
        have HB3 : Hid (Below wA.heap.size wA w3) := HB.out.trans (hb3.mono HB.out.size)
        have HFS3 := hideN (HFS.out.next hb3)
        have HOR := hideN (ownRecipe_any NM rl pp (.slice qi ri.length ci) ri w3 (HRB.out w3 hb3).2 (by have := HLL.out; omega))
        clear hb3 HLR c0 c1 c2 c3 HFS HB
        obtain ⟨⟨c0, c1, c2, c3⟩, _⟩ := HRB.out w3 HB3r.out
        have HRW : Hid (∀ j, u6.ownBlock = some j → j < w3.heap.size) := fun j hj => row_lt HFS3.out.row hj
        have HON : Hid (Calls Tryz.prog 20 #[.agg #[.string NM, .int .i64 rl, .int .u32 (pp : Nat), .slice qi idl ci]] w3 fun e w' => ∃ (q : Option Addr) (c : Nat), e = .returned (.agg #[.string NM, .int .i64 rl, .int .u32 (pp : Nat), .slice q idl c]) ∧ IdsIn w3.heap.size w' (.slice q idl c) ri ∧ Below w3.heap.size w3 w') := by
          have h := HOR.out
          rw [HIDL.out] at h
          exact h.mono fun e w' ⟨v, he, hi, hbw⟩ => by
            obtain ⟨q, c, hq, hc⟩ := id hi
            rw [HIDL.out] at hq
            subst hq
            exact ⟨q, c, he, hi, hbw⟩
        rw [HIDL.out] at c3
        clear HOR
        go_wp2_with fail
        refine HON.out.mono ?_
        rintro e w4 ⟨q4, c4, rfl, hi4, hb4⟩
        have hal5 := (Below.refl w4.heap.size w4).alloc (Nat.le_refl _) (.cells #[.string NM, .int .i64 rl, .int .u32 (pp : Nat), .slice q4 idl c4] 40)
        have HR5 := hideN (Blk.new w4 #[.string NM, .int .i64 rl, .int .u32 (pp : Nat), .slice q4 idl c4] 40)
        have HFS5 := hideN ((HFS3.out.next hb4).next hal5)
        have HI5 := hideN ((hi4.below hal5).at)
        have HIB : Hid (ri ≠ [] → ∀ j, (Value.slice q4 idl c4).ownBlock = some j → w3.heap.size ≤ j) := fun hne j hj => by
          obtain ⟨p', c', hv', hc'⟩ := hi4
          obtain ⟨b', o', hp', hle, _⟩ := hc' 0 (List.length_pos_iff.2 hne)
          have : q4 = p' := by have := hv'; simp at this; exact this.1
          subst this hp'
          have : b' = j := by simpa [Value.ownBlock] using hj
          omega
        have HB5 : Hid (Below wA.heap.size wA _) := hideN ((HB3.out.trans (hb4.mono HB3.out.size)).trans (hal5.mono (Nat.le_trans HB3.out.size hb4.size)))
        obtain ⟨W5, hW5⟩ : ∃ W5, w4.alloc (.cells #[.string NM, .int .i64 rl, .int .u32 (pp : Nat), .slice q4 idl c4] 40) = W5 := ⟨_, rfl⟩
        rw [hW5] at HR5 HFS5 HI5 HB5
        have hs5 : W5.heap.size = w4.heap.size + 1 := by rw [← hW5]; simp
        have r0 := HR5.out.cell (i := 0) rfl
        have r1 := HR5.out.cell (i := 1) rfl
        have r2 := HR5.out.cell (i := 2) rfl
        have r3 := HR5.out.cell (i := 3) rfl
        have HS5 := hideN hs5
        have HW5 := hideN hW5
        rw [← hW5] at r0 r1 r2 r3
        have HPLN : Hid (ps.length ≤ 31) := by show _ ≤ _; rw [HPL.out]; omega
        have HOWN5 : Hid ((w4.alloc (.cells #[.string NM, .int .i64 rl, .int .u32 (pp : Nat), .slice q4 idl c4] 40)).ownsRow wA.heap.size 40 4 u6 ps.length (rqCells ps)) := by rw [hW5]; exact HFS5.out.row
        clear hal5 hb4 hi4 hW5 hs5 HON c0 c1 c2 c3
        go_wp2_with (at_builtin; refine wpList_append_own_at _ rfl (.tmp 47) (.tmp 49) 31 rfl wA.heap.size 40 iR (rcpV ⟨#[]⟩ 0 0 (.slice none 0 0)) 4 56 Tryz.underlying31 hiR zR0 zR1 zR2 rfl (by decide) _ _ _ rfl (HOWN5.out.alloc _) ⟨w4.heap.size + 1, 0, none⟩ 1 1 [.string NM, .int .i64 rl, .int .u32 (pp : Nat), .slice q4 idl c4] rfl rfl ?c1 ?c2 ?c3 ?c4 ?c5 ?_)
        case c1 =>
          intro j u hj
          rw [add_plain]
          exact new_cell _ #[.string NM, .int .i64 rl, .int .u32 (pp : Nat), .slice q4 idl c4] _ (by rw [← hj]; simp) (by simp)
        case c2 => intro u hu; simp at hu; rcases hu with rfl | rfl | rfl | rfl <;> rfl
        case c3 => have := HPLN.out; unfold maxLen; omega
        case c4 => have := HPLN.out; omega
        case c5 => have h1 := HB5.out.size; have h2 := HS5.out; simp; omega
        intro v6 w6 hown6 hg6 _ hv6
        rw [HW5.out] at hg6
        have hal6 := (Below.refl W5.heap.size W5).alloc (Nat.le_refl _) (.cells #[.string NM, .int .i64 rl, .int .u32 (pp : Nat), .slice q4 idl c4] 40)
        have HFS6 : Hid (RqSt wA w6 v6 (ps ++ [((rn, rl, (pp : Int), ri), .slice q4 idl c4)])) := (HFS5.out.next hal6).app (q := ((rn, rl, (pp : Int), ri), .slice q4 idl c4)) (HI5.out.below hal6) (fun hne j hj e => by
          have h1 := HIB.out hne j hj
          have h2 := HRW.out j e
          omega) hg6 (by
          rw [rqCells_append]
          have : rqCells [((rn, rl, (pp : Int), ri), Value.slice q4 idl c4)] = [.string NM, .int .i64 rl, .int .u32 (pp : Nat), .slice q4 idl c4] := by rw [rqCells, rqCells]; simp only; rw [HNM.out]
          rw [this]
          exact hown6) (by
          rcases hv6 with h | h
          · exact .inl h
          · exact .inr (by rw [h]; simp [HS5.out]))
        have HB6 : Hid (Below wA.heap.size wA w6) := (HB5.out.trans (hal6.mono HB5.out.size)).trans ⟨hg6.os, hg6.tape, hg6.output, hg6.size, fun j hj => hg6.block j (by have := HB5.out.size; simp; omega) (fun e => by have := row_ge HFS5.out.row e.symm; omega)⟩
        have HPS6 : Hid ((ps ++ [((rn, rl, (pp : Int), ri), Value.slice q4 idl c4)]).map (·.1) = fs.take (j + 1)) := by
          show _ = _
          rw [List.map_append, HPS.out, HTK.out]
          rfl
        have HLG6 := hideN (HLGN.out (by rw [HNML.out]; exact HLL.out))
        clear hown6 hg6 hv6 hal6 r0 r1 r2 r3
        go_wp2_with fail
        go_roundw
        case rel => exact ⟨j + 1, _, HKL.out, by go_num, HPS6.out, HFS6.out, HB6.out, HLG6.out⟩
        case measure => simp [intOf]; have := HKL.out; omega
      · have hge : (fs.length : Int) ≤ (j : Int) := by omega
        have hke : fs.take j = fs := List.take_of_length_le (by omega)
        rw [hke] at HPS
        have hra : RcpsAt wr u6 fs := by rw [← HPS.out]; exact HFS.out.at
        have HLGA : Hid (∀ r ∈ fs, r.1.length ≤ 30 ∧ r.2.2.2.length ≤ 251) := fun r hr => by
          obtain ⟨k, hk, rfl⟩ := List.mem_iff_getElem.1 hr
          exact HLG.out k hk (by omega)
        obtain ⟨qF, cF, hvF, _⟩ := id hra
        subst hvF
        have HRA := hideN hra
        have HBa := hideN HB.out
        clear hke hra HPS HFS HB HLG HPL HCELL
        obtain ⟨wB, hwB⟩ : ∃ wB, wr = wB := ⟨_, rfl⟩
        rw [hwB] at HRA HBa HBW' ⊢
        go_wp2_with fail
        go_loopw [9, 10] (fun v iv wq => ∃ (j : Nat) (ps : List BP), j ≤ bs.length ∧ iv = .int .i64 j ∧ Hid (ps.map (·.1) = bs.take j) ∧ Hid (BnsSt wB.heap.size wq v ps) ∧ Hid (Below wB.heap.size wB wq) ∧ Hid (∀ k (h : k < bs.length), k < j → bs[k].2.length ≤ 251 ∧ ∀ h ∈ bs[k].2, h.2.2.length ≤ 100)) (fun _ iv _ => bs.length - (intOf iv).toNat)
        case atStart => exact ⟨0, [], Nat.zero_le _, rfl, rfl, BnsSt.nil _ _, Below.refl _ _, fun k _ h => by omega⟩
        case round =>
          obtain ⟨j, ps, hj, rfl, HPS, HFS, HB, HLG⟩ := hrel
          have HPL : Hid (ps.length = j) := by
            show _ = _
            have := congrArg List.length HPS.out
            rw [List.length_map, List.length_take] at this
            omega
          have HBA : Hid (Below wA.heap.size wA wr) := HBa.out.trans (HB.out.mono HBa.out.size)
          have HBww : Hid (Below w.heap.size w wr) := HBW'.out.trans (HB.out.mono HBW'.out.size)
          by_cases hjl : j < bs.length
          · have hjl' : (j : Int) < (bs.length : Int) := by omega
            have hj0 : (0 : Int) ≤ (j : Int) := by omega
            obtain ⟨b, o, rfl, hc⟩ := HBELL.out j hjl
            obtain ⟨vi, hL0⟩ := hc wB HBa.out
            have hL := hL0.below HB.out
            have HTK := hideN (List.take_succ_eq_append_getElem hjl)
            have HKL := hideN hjl
            have HLGN : Hid ((bs[j]'hjl).2.length ≤ 251 ∧ (∀ h ∈ (bs[j]'hjl).2, h.2.2.length ≤ 100) → ∀ k (h : k < bs.length), k < j + 1 → bs[k].2.length ≤ 251 ∧ ∀ h ∈ bs[k].2, h.2.2.length ≤ 100) := fun h k hk hkj => by
              rcases Nat.lt_or_ge k j with h' | h'
              · exact HLG.out k hk h'
              · obtain rfl : k = j := by omega
                exact h
            obtain ⟨⟨⟨xp, xl⟩, bl⟩, hx⟩ : ∃ x, bs[j]'hjl = x := ⟨_, rfl⟩
            rw [hx] at hL hL0 HTK HLGN
            simp only at HLGN
            have hh := hL.helds
            obtain ⟨qh, ch, hvh, _⟩ := id hh
            simp only at hvh hh
            subst hvh
            have HLB : Hid (∀ W, Below wB.heap.size wB W → W.cell? ⟨b, o + j * 3, none⟩ = some (.int .u32 (xp : Nat)) ∧ W.cell? ⟨b, o + j * 3 + 1, none⟩ = some (.int .i64 xl) ∧ W.cell? ⟨b, o + j * 3 + 2, none⟩ = some (.slice qh bl.length ch)) := fun W hW => by
              have h := hL0.below hW
              exact ⟨h.c0, h.c1, h.c2⟩
            have HHV : Hid (∀ W, Below wr.heap.size wr W → HeldsAt W (.slice qh bl.length ch) bl) := fun W hW => (hL.below hW).helds
            have HLH := hideN (longHelds_any (.slice qh bl.length ch) bl wr hh)
            unfold LongHPost at HLH
            obtain ⟨d0, d1, d2⟩ := HLB.out wr HB.out
            have HPLN : Hid (ps.length ≤ 100) := by show _ ≤ _; rw [HPL.out]; have := HBSL.out; omega
            clear hc hL hL0 hx hh hjl
            go_wp2_with fail
            refine HLH.out.mono ?_
            rintro e w3' ⟨nl, rfl, hw3, hn01, hn0⟩
            have hw3 := hw3.symm
            subst hw3
            clear HLH
            rcases hn01 with rfl | rfl
            rotate_left
            · go_wp2_with fail
              go_ret
              exact ⟨rfl, HBww.out⟩
            have hll := hn0 rfl
            have HLLB : Hid (bl.length ≤ 251 ∧ ∀ h ∈ bl, h.2.2.length ≤ 100) := ⟨by have := hll.1; omega, fun h hh => by
              obtain ⟨i, hi, rfl⟩ := List.mem_iff_getElem.1 hh
              exact hll.2 i hi⟩
            obtain ⟨pv, cv, hv⟩ : ∃ pv cv, u9 = .slice pv ps.length cv := by
              rcases HFS.out.row.2 with ⟨e, e2⟩ | ⟨g', cap, cur, e, _⟩
              · exact ⟨none, 0, by rw [e, e2]⟩
              · exact ⟨_, _, e⟩
            subst hv
            clear hn0 hll d0 d1 d2
            go_wp2_with fail
            obtain ⟨d0, d1, d2⟩ := HLB.out wr HB.out
            go_region_held3 (fun w' => w'.cell? ⟨b, o + j * 3, none⟩ = some (.int .u32 (xp : Nat)) ∧ w'.cell? ⟨b, o + j * 3 + 1, none⟩ = some (.int .i64 xl) ∧ w'.cell? ⟨b, o + j * 3 + 2, none⟩ = some (.slice qh bl.length ch)) (first | exact HLB.out _ HB9.out | exact HLB.out _ HB8.out | exact HLB.out _ HB7.out | exact HLB.out _ HB.out | go_keep) (first
              | (go_at_call 22; refine (ownHelds_any _ bl _ (by have := HLLB.out.1; omega) (HHV.out _ (Below.refl _ wr).drew)).mono ?_; rintro e w7 ⟨v7, rfl, hr7, hb7⟩; have hC7 : Below wr.heap.size wr w7 := (Below.refl _ wr).drew.trans hb7; have HC7 := hideN hC7; have HB7 := hideN (HB.out.trans (hC7.mono HB.out.size)); have HH7 := hideN (heldsOwn_of_row hr7); have HFS7 := hideN (HFS.out.next hC7); have HSZ7 : Hid (wr.heap.size ≤ w7.heap.size) := hC7.size; obtain ⟨pq, cq, hv7⟩ : ∃ pq cq, v7 = .slice pq bl.length cq := (by obtain ⟨p', c', h1, _⟩ := HH7.out.1; exact ⟨p', c', h1⟩); subst hv7; have hal8 := (Below.refl w7.heap.size w7).alloc (Nat.le_refl _) (.cells #[.int .u32 (xp : Nat), .int .i64 xl, .slice pq bl.length cq] 60); have HB8 := hideN (HB7.out.trans (hal8.mono HB7.out.size)); have HC8 := hideN (hC7.trans (hal8.mono hC7.size)); clear hr7 hb7 hC7 hal8)
              | (refine step_append_lies _ (by rfl) _ _ _ (by rfl) wB.heap.size 60 iB _ 3 40 Tryz.underlying54 hiB zB0 zB1 zB2 rfl (by decide) (.slice pv ps.length cv) ps.length _ (by rfl) (HFS7.out.row.alloc _) ⟨w7.heap.size, 0, none⟩ 1 1 [.int .u32 (xp : Nat), .int .i64 xl, .slice pq bl.length cq] (by rfl) (by rfl) (World.news_of_block (cs := #[.int .u32 (xp : Nat), .int .i64 xl, .slice pq bl.length cq]) (t := 60) (fr := (0, 0)) (heap_alloc_new w7 _)) (by simp [Value.oneCell']) (by omega) (by unfold maxLen; have := HPLN.out; omega) (by have := HPLN.out; omega) (by simp; have := HB7.out.size; omega) (w7.heap.size + 1) (by simp) ?_; intro gg cap w9 hown9 hgrow hat hglt; have HB9 : Hid (Below wB.heap.size wB w9) := (HB8.out.trans ⟨hgrow.os, hgrow.tape, hgrow.output, hgrow.size, fun j hj => hgrow.block j (Nat.lt_of_lt_of_le hj HB8.out.size) (fun e => by have := row_ge HFS7.out.row e.symm; omega)⟩)))
            have hal8 := (Below.refl w7.heap.size w7).alloc (Nat.le_refl _) (.cells #[.int .u32 (xp : Nat), .int .i64 xl, .slice pq bl.length cq] 60)
            have hsz : wB.heap.size ≤ wr.drew.heap.size := HB.out.size
            have hsz6 : wr.heap.size ≤ w7.heap.size := HSZ7.out
            have HFS9 : Hid (BnsSt wB.heap.size w9 (.slice (some ⟨gg, 0, none⟩) (ps.length + 1) cap) (ps ++ [(((xp, xl), bl), .slice pq bl.length cq)])) := (HFS7.out.next hal8).app (q := (((xp, xl), bl), .slice pq bl.length cq)) ((HH7.out.mono hsz).below hal8) (fun hne j hj => by
              have h6 := (HH7.out.own hne hj).1
              have h6' : wr.heap.size ≤ j := h6
              refine ⟨fun e => ?_, fun x hx hxn e => ?_⟩
              · have := (HFS.out.row.lt j e).2
                omega
              · have := ((HFS.out.helds x hx).own hxn e).2
                omega) hgrow (by rw [ldCells_append]; exact hown9) (by
              rcases hat with h | h
              · exact .inl h.symm
              · exact .inr (by rw [h]; simp [Value.ownBlock]))
            have HPS9 : Hid ((ps ++ [(((xp, xl), bl), Value.slice pq bl.length cq)]).map (·.1) = bs.take (j + 1)) := by
              show _ = _
              rw [List.map_append, HPS.out, HTK.out]
              rfl
            have HLG9 := hideN (HLGN.out HLLB.out)
            clear hown9 hgrow hat hglt hal8 d0 d1 d2 hsz hsz6
            go_wp2_with fail
            go_roundw
            case rel => exact ⟨j + 1, _, HKL.out, by go_num, HPS9.out, HFS9.out, HB9.out, HLG9.out⟩
            case measure => simp [intOf]; have := HKL.out; omega
          · have hge : (bs.length : Int) ≤ (j : Int) := by omega
            have hke : bs.take j = bs := List.take_of_length_le (by omega)
            rw [hke] at HPS
            have hlb : LoadsAt wr u9 bs := by rw [← HPS.out]; exact HFS.out.at
            have HLBA : Hid (∀ b ∈ bs, b.2.length ≤ 251 ∧ ∀ h ∈ b.2, h.2.2.length ≤ 100) := fun b hb => by
              obtain ⟨k, hk, rfl⟩ := List.mem_iff_getElem.1 hb
              exact HLG.out k hk (by omega)
            have HRAr := hideN (HRA.out.below HB.out)
            have HCK : Hid (Calls Tryz.prog 24 #[.slice qF fs.length cF, u9] wr fun e w' => ∃ ev, e = .returned ev ∧ ErrIs w' a ev (refScrub fs bs) ∧ Below wr.heap.size wr w') := by
              rcases HFSL.out with h12 | h31
              · rw [checkE_ref (by omega)]
                exact (scrubCheckE_any a _ u9 fs bs wr (by omega) (fun r hr => by have := (HLGA.out r hr).1; omega) (fun r hr => by have := (HLGA.out r hr).2; omega) HWF.out (by have := HBSL.out; omega) (fun b hb => by have := (HLBA.out b hb).1; omega) HBW.out (fun b hb h hh => by have := (HLBA.out b hb).2 h hh; omega) HRAr.out hlb (HEE.out wr HBww.out)).mono fun e w' ⟨ev, h1, h2, h3⟩ => ⟨ev, h1, h2.at, h3⟩
              · obtain ⟨q9, c9, hq9, _⟩ := id hlb
                rw [hq9]
                refine (scrubCheck_many a qF q9 fs.length cF bs.length c9 wr (by omega) ((HEE.out wr HBww.out).on (by decide))).mono ?_
                rintro e w' ⟨rfl, hbw⟩
                refine ⟨_, rfl, ?_, hbw⟩
                unfold refScrub
                rw [if_pos (by omega)]
                exact .inr (.inl ⟨6, by decide, rfl, rfl⟩)
            have HSF : Hid (∀ W, Below w.heap.size w W → Calls Tryz.prog 25 #[.slice pf fs.length cf, .slice pb bs.length cb] W fun e w' => e = .returned (faultV (refScrub fs bs).1 (refScrub fs bs).2) ∧ Below W.heap.size W w') := fun W hW => scrubFault_any _ _ fs bs W (by rcases HFSL.out with h | h <;> omega) (by have := HBSL.out; omega) (fun b hb => by have := (HLBA.out b hb).1; omega) (fun b hb h hh => by have := (HLBA.out b hb).2 h hh; omega) (fun r hr => by have := (HLGA.out r hr).1; omega) (fun r hr => by have := (HLGA.out r hr).2; omega) (HFV.out W hW) (HBV.out W hW)
            obtain ⟨RS, hRS⟩ : ∃ RS, refScrub fs bs = RS := ⟨_, rfl⟩
            rw [hRS] at HCK HSF
            clear hke hlb HPS HFS HB HLG hRS hjl
            go_wp2_with fail
            refine HCK.out.mono ?_
            rintro e w11 ⟨ev, rfl, hev, hb11⟩
            have HB11 : Hid (Below w.heap.size w w11) := HBww.out.trans (hb11.mono HBww.out.size)
            have HEV := hideN hev
            clear hev hb11 HCK
            go_wp2_with fail
            refine (HSF.out w11 HB11.out).mono ?_
            rintro e w12 ⟨rfl, hb12⟩
            have HB12 : Hid (Below w.heap.size w w12) := HB11.out.trans (hb12.mono HB11.out.size)
            have HFA := hideN (faulted2_true a ev RS w12 (HEE.out w12 HB12.out) (HEV.out.below hb12))
            clear hb12 HSF
            go_wp2_with fail
            refine HFA.out.mono ?_
            rintro e w13 ⟨rfl, hb13⟩
            have HB13 : Hid (Below w.heap.size w w13) := HB12.out.trans (hb13.mono HB12.out.size)
            have HON := hideN (scrubOf_nil a w13 ((HEE.out w13 HB13.out).on (by decide)))
            clear hb13 HFA
            go_wp2_with fail
            refine HON.out.mono ?_
            rintro e w13' ⟨rfl, hw13⟩
            have hw13 := hw13.symm
            subst hw13
            have HCO := hideN (coded2_true a (sentV a 2) 3 w13 (HEE.out w13 HB13.out) (.inr (.inl ⟨2, by decide, rfl, rfl⟩)))
            clear HON
            go_wp2_with fail
            refine HCO.out.mono ?_
            rintro e w14 ⟨rfl, hb14⟩
            have HB14 : Hid (Below w.heap.size w w14) := HB13.out.trans (hb14.mono HB13.out.size)
            clear hb14 HCO
            go_wp2_with fail
            go_ret
            exact ⟨rfl, HB14.out⟩
end Go.Proofs.YtcbcjefefmbccabGreatDoor
