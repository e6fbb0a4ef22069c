/-
  Own text. The law of chapter 8 (OwnerMoves) as a contract: it answers true at every input.
-/
import Derived.Test.YtcbcjefefmbccabDoorG13
namespace Go.Proofs.YtcbcjefefmbccabDoor
open Go.RowKit

theorem own_ok {i : Nat × Int} {l : List Int} (hn : Nodes l) (hne : l ≠ []) (h : ¬ i.2 < 0) : ownAns i l = (bestOf (score i) l, (0, -1)) := by
  unfold ownAns
  rw [checkAns_ok hn hne, if_neg (by simp), if_neg h]
theorem own_neg {i : Nat × Int} {l : List Int} (hn : Nodes l) (hne : l ≠ []) (h : i.2 < 0) : ownAns i l = (0, (3, -1)) := by
  unfold ownAns
  rw [checkAns_ok hn hne, if_neg (by simp), if_pos h]
theorem join_cases {l : List Int} (hn : Nodes l) (hne : l ≠ []) (n : Int) : (∃ c : Int, c ≠ 0 ∧ joinAns l n = ([], (c, -1))) ∨ (joinAns l n = (nIns l n, (0, -1)) ∧ Nodes (nIns l n) ∧ n ∉ l) := by
  unfold joinAns
  rw [checkAns_ok hn hne, if_neg (by simp)]
  split
  · exact .inl ⟨2, by decide, rfl⟩
  · rename_i h1
    split
    · exact .inl ⟨6, by decide, rfl⟩
    · rename_i h2
      refine .inr ⟨rfl, nodes_ins hn ?_ h2, h2⟩
      unfold nodeOk at h1
      simpa using h1
theorem leave_cases {l : List Int} (hn : Nodes l) (hne : l ≠ []) (n : Int) : leaveAns l n = ([], (5, -1)) ∨ (leaveAns l n = (nDel l n, (0, -1)) ∧ Nodes (nDel l n) ∧ n ∈ l) := by
  unfold leaveAns
  rw [checkAns_ok hn hne, if_neg (by simp)]
  split
  · rename_i h
    exact .inr ⟨rfl, nodes_del hn, h⟩
  · exact .inl rfl
theorem nIns_ne (l : List Int) (n : Int) : nIns l n ≠ [] := by unfold nIns; simp
theorem best_ins {sc : Int → Nat} {l : List Int} {n : Int} (hn : Nodes l) (hne : l ≠ []) (hx : Nodes (nIns l n)) : bestOf sc (nIns l n) = bestOf sc l ∨ bestOf sc (nIns l n) = n := by
  have h1 := bestOf_isB sc hx (nIns_ne l n)
  have h2 := bestOf_isB sc hn hne
  rcases mem_nIns.1 h1.1 with h | h
  · exact .inr h
  · exact .inl ((h1.sub h fun x hx => mem_nIns.2 (.inr hx)).uniq h2)
theorem best_del {sc : Int → Nat} {l : List Int} {n : Int} (hn : Nodes l) (hne : l ≠ []) (hx : Nodes (nDel l n)) (hxe : nDel l n ≠ []) : bestOf sc (nDel l n) ≠ n ∧ (n = bestOf sc l ∨ bestOf sc (nDel l n) = bestOf sc l) := by
  have h1 := bestOf_isB sc hx hxe
  have h2 := bestOf_isB sc hn hne
  refine ⟨(mem_nDel.1 h1.1).2, ?_⟩
  by_cases e : n = bestOf sc l
  · exact .inl e
  · exact .inr (h1.uniq (h2.sub (mem_nDel.2 ⟨h2.1, fun h => e h.symm⟩) fun x hx => (mem_nDel.1 hx).1))
set_option maxRecDepth 100000 in
set_option maxHeartbeats 16000000 in
theorem ownerMoves_any (a : Nat → Addr) (i : Nat × Int) (hp : i.1 < 4294967296) (hl : i.2 ≤ 9223372036854775807) (vl : Value) (l : List Int) (n : Int) (w : World) (hv : IntsC w vl l) (hE : ErrE [1, 2, 4, 5, 7] w a) (ht : Pow10 w) :
    Calls Tryd.prog 3 #[vl, idV (i.1 : Nat) i.2, .int .i64 n] w fun e w' => e = .returned (.bool true) ∧ Below w.heap.size w w' := by
  have hal := (Below.refl w.heap.size w).alloc (Nat.le_refl _) (.cells #[.int .u32 (i.1 : Nat), .int .i64 i.2] 25)
  have hX0 := Blk.new w #[.int .u32 (i.1 : Nat), .int .i64 i.2] 25
  obtain ⟨W0, hW0⟩ : ∃ W0, w.alloc (.cells #[.int .u32 (i.1 : Nat), .int .i64 i.2] 25) = W0 := ⟨_, rfl⟩
  have HV : Hid (∀ W, Below W0.heap.size W0 W → IntsC W vl l) := fun W hb => by subst hW0; exact (hv.below hal).below hb
  have HE : Hid (∀ W, Below W0.heap.size W0 W → ErrE [1, 2, 4, 5, 7] W a) := fun W hb => by subst hW0; exact hE.below (hal.trans (hb.mono hal.size)) (Nat.le_refl _)
  have HT : Hid (∀ W, Below W0.heap.size W0 W → Pow10 W) := fun W hb => by subst hW0; exact ht.below (hal.trans (hb.mono hal.size)) (Nat.le_refl _)
  have HX : Hid (∀ W, Below W0.heap.size W0 W → W.cell? ⟨w.heap.size, 0, none⟩ = some (.int .u32 (i.1 : Nat)) ∧ W.cell? ⟨w.heap.size, 1, none⟩ = some (.int .i64 i.2)) := fun W hb => by
    subst hW0
    have h := hX0.next hb
    exact ⟨h.cell (i := 0) rfl, h.cell (i := 1) rfl⟩
  have HFIN : Hid (∀ W, Below W0.heap.size W0 W → Below w.heap.size w W) := fun W hb => by subst hW0; exact hal.trans (hb.mono hal.size)
  have HOW := hideN (owned_any a W0 (HE.out W0 (Below.refl _ _)) (HT.out W0 (Below.refl _ _)))
  have HPI := hideN hp
  have HLI := hideN hl
  have HVV := hideN hv
  obtain ⟨p, c, rfl, _⟩ := hv
  rw [List.length_map] at HV ⊢
  clear hal hX0 hE ht hp hl
  go_enter Tryd.func3, Tryd.ntmps3
  go_wp2_with fail
  try rw [hW0]
  clear hW0
  refine HOW.out.mono ?_
  rintro e w1 ⟨rfl, hb1⟩
  have HB1 := hideN hb1
  clear hb1 HOW
  by_cases hten : 10 < l.length
  · have hten' : (10 : Int) < (l.length : Int) := by omega
    go_wp2_with fail
    go_ret
    exact ⟨rfl, HFIN.out _ HB1.out⟩
  have hten' : ¬ (10 : Int) < (l.length : Int) := by omega
  have HTEN : Hid (l.length ≤ 10) := by show _ ≤ _; omega
  have HCK := hideN (ownCheck_any a _ l w1 (by have := HTEN.out; omega) (HV.out w1 HB1.out) ((HE.out w1 HB1.out).sub (M := [1, 4, 7]) (by decide)))
  go_wp2_with fail
  refine HCK.out.mono ?_
  rintro e w2 ⟨ev, rfl, hev, hb2⟩
  have HB2 : Hid (Below W0.heap.size W0 w2) := HB1.out.trans (hb2.mono HB1.out.size)
  clear hb2 HCK HB1
  by_cases hbad : (checkAns' l).1 ≠ 0
  · obtain ⟨T, A, rfl⟩ := hev.iface hbad
    clear hev hbad
    go_wp2_with fail
    go_ret
    exact ⟨rfl, HFIN.out _ HB2.out⟩
  have hc0 : checkAns' l = (0, (checkAns' l).2) := Prod.ext (Classical.not_not.1 hbad) rfl
  obtain ⟨hn, hne⟩ := checkAns_of hc0
  rw [hc0] at hev
  obtain rfl := hev.nil
  have HN := hideN hn
  have HNE : Hid (l ≠ []) := hne
  have HS : Hid (∀ W, Below W0.heap.size W0 W → IntsS W (.slice p l.length c) l) := fun W hb => IntsS.of_c (HV.out W hb) hne
  obtain ⟨x0, x1⟩ := HX.out w2 HB2.out
  have HOF := hideN (ownOf_any a i HPI.out HLI.out _ l w2 (by have := HTEN.out; omega) (HV.out w2 HB2.out) ((HE.out w2 HB2.out).sub (M := [1, 2, 4, 7]) (by decide)) (HT.out w2 HB2.out))
  clear hbad hc0 hev hn hne
  by_cases hneg : i.2 < 0
  · rw [own_neg HN.out HNE.out hneg] at HOF
    go_wp2_with fail
    refine HOF.out.mono ?_
    rintro e w3 ⟨ev, rfl, hev, hb3⟩
    have HB3 : Hid (Below W0.heap.size W0 w3) := HB2.out.trans (hb3.mono HB2.out.size)
    obtain ⟨T, A, rfl⟩ := hev.iface (by decide)
    clear hev hb3 HOF x0 x1
    obtain ⟨x0, x1⟩ := HX.out w3 HB3.out
    go_wp2_with fail
    go_ret
    exact ⟨rfl, HFIN.out _ HB3.out⟩
  rw [own_ok HN.out HNE.out hneg] at HOF
  have HNEG := hideN hneg
  have HAM := hideN (bestOf_isB (score i) HN.out HNE.out).1
  have HBI : Hid (∀ n, Nodes (nIns l n) → bestOf (score i) (nIns l n) = bestOf (score i) l ∨ bestOf (score i) (nIns l n) = n) := fun n hx => best_ins HN.out HNE.out hx
  have HBD : Hid (∀ n, Nodes (nDel l n) → nDel l n ≠ [] → bestOf (score i) (nDel l n) ≠ n ∧ (n = bestOf (score i) l ∨ bestOf (score i) (nDel l n) = bestOf (score i) l)) := fun n hx he => best_del HN.out HNE.out hx he
  obtain ⟨A, hA⟩ : ∃ A, bestOf (score i) l = A := ⟨_, rfl⟩
  rw [hA] at HOF HAM HBI HBD
  clear hneg hA
  go_wp2_with fail
  refine HOF.out.mono ?_
  rintro e w3 ⟨ev, rfl, hev, hb3⟩
  have HB3 : Hid (Below W0.heap.size W0 w3) := HB2.out.trans (hb3.mono HB2.out.size)
  obtain rfl := hev.nil
  have HII := hideN (inInts_any A _ l w3 (by have := HTEN.out; omega) (HV.out w3 HB3.out))
  rw [decide_eq_true HAM.out] at HII
  clear hev hb3 HOF x0 x1 HB2
  go_wp2_with fail
  refine HII.out.mono ?_
  rintro e w3' ⟨rfl, hw3⟩
  have hw3 := hw3.symm
  subst hw3
  clear HII
  have HJ := hideN (ownJoin_any a _ l n w3 (by have := HTEN.out; omega) (HS.out w3 HB3.out) ((HE.out w3 HB3.out).sub (M := [1, 4, 5, 7]) (by decide)))
  unfold JoinPost at HJ
  rcases join_cases HN.out HNE.out n with ⟨jc, hjc, hja⟩ | ⟨hja, hjn, hnm⟩
  · rw [hja] at HJ
    have HJC := hideN hjc
    clear hjc hja
    go_wp2_with fail
    refine HJ.out.mono ?_
    rintro e w4 ⟨v4, ev, rfl, hev, hv4, hb4⟩
    have HB4 : Hid (Below W0.heap.size W0 w4) := HB3.out.trans (hb4.mono HB3.out.size)
    obtain ⟨T, AA, rfl⟩ := hev.iface HJC.out
    obtain ⟨p4, c4, rfl⟩ := hv4.shape
    clear hev hv4 hb4 HJ HJC
    have HLE := hideN (ownLeave_any a _ l n w4 (by have := HTEN.out; omega) (HS.out w4 HB4.out) ((HE.out w4 HB4.out).sub (M := [1, 4, 7]) (by decide)))
    unfold JoinPost at HLE
    rcases leave_cases HN.out HNE.out n with hla | ⟨hla, hdn, hnm⟩
    · rw [hla] at HLE
      clear hla
      go_wp2_with fail
      refine HLE.out.mono ?_
      rintro e w9 ⟨v9, ev, rfl, hev, hv9, hb9⟩
      have HB9 : Hid (Below W0.heap.size W0 w9) := HB4.out.trans (hb9.mono HB4.out.size)
      obtain ⟨T, AA, rfl⟩ := hev.iface (by decide)
      obtain ⟨p9, c9, rfl⟩ := hv9.shape
      clear hev hv9 hb9 HLE
      go_wp2_with fail
      go_ret
      exact ⟨rfl, HFIN.out _ HB9.out⟩
    · rw [hla] at HLE
      have HDN := hideN hdn
      have HD := hideN (HBD.out n hdn)
      clear hla hdn hnm
      go_wp2_with fail
      refine HLE.out.mono ?_
      rintro e w9 ⟨v9, ev, rfl, hev, hv9, hb9⟩
      have HB9 : Hid (Below W0.heap.size W0 w9) := HB4.out.trans (hb9.mono HB4.out.size)
      obtain rfl := hev.nil
      have HV9 := hideN hv9
      obtain ⟨p9, c9, rfl⟩ := hv9.shape
      clear hev hv9 hb9 HLE
      have HLD := hideN HDN.out.length
      obtain ⟨X9, hX9⟩ : ∃ X, nDel l n = X := ⟨_, rfl⟩
      rw [hX9] at HV9 HDN HD HLD ⊢
      clear hX9
      obtain ⟨XL9, hXL9⟩ : ∃ XL, X9.length = XL := ⟨_, rfl⟩
      by_cases hz : XL9 = 0
      · subst hz
        rw [hXL9]
        clear hXL9
        go_wp2_with fail
        go_ret
        exact ⟨rfl, HFIN.out _ HB9.out⟩
      have hne9 : X9 ≠ [] := fun e => hz (by rw [← hXL9, e]; rfl)
      have hz' : ((XL9 : Int) == 0) = false := beq_eq_false_iff_ne.2 (by omega)
      have hz2 : (XL9 == 0) = false := beq_eq_false_iff_ne.2 hz
      obtain ⟨x0, x1⟩ := HX.out w9 HB9.out
      have HOF9 := hideN (ownOf_any a i HPI.out HLI.out _ X9 w9 (by have := HLD.out; omega) HV9.out.c ((HE.out w9 HB9.out).sub (M := [1, 2, 4, 7]) (by decide)) (HT.out w9 HB9.out))
      rw [own_ok HDN.out hne9 (show ¬ i.2 < 0 by have := HNEG.out; omega)] at HOF9
      have HDD := hideN (HD.out hne9)
      obtain ⟨B9, hB9⟩ : ∃ B, bestOf (score i) X9 = B := ⟨_, rfl⟩
      rw [hB9] at HOF9 HDD
      rw [hXL9] at HOF9 ⊢
      have hxl6 : (XL9 : Int) ≤ 6 := by have := HLD.out; omega
      clear hB9 hXL9 hne9
      go_wp2_with fail
      refine HOF9.out.mono ?_
      rintro e wa ⟨ev, rfl, hev, hba⟩
      have HBa : Hid (Below W0.heap.size W0 wa) := HB9.out.trans (hba.mono HB9.out.size)
      obtain rfl := hev.nil
      clear hev hba HOF9 x0 x1 hz hz' hz2
      have h1 : (B9 != n) = true := bne_iff_ne.2 HDD.out.1
      rcases HDD.out.2 with h2 | h2
      · have h3 : (n == A) = true := beq_iff_eq.2 h2
        clear h2
        go_wp2_with fail
        go_ret
        exact ⟨rfl, HFIN.out _ HBa.out⟩
      · have h3 : (B9 == A) = true := beq_iff_eq.2 h2
        cases h4 : (n == A) with
        | true =>
          clear h2
          go_wp2_with fail
          go_ret
          exact ⟨rfl, HFIN.out _ HBa.out⟩
        | false =>
          clear h2
          go_wp2_with fail
          go_ret
          exact ⟨rfl, HFIN.out _ HBa.out⟩
  · rw [hja] at HJ
    have HJN := hideN hjn
    have HNM : Hid (n ∉ l) := hnm
    have HOC := hideN (HBI.out n hjn)
    clear hja hjn hnm
    go_wp2_with fail
    refine HJ.out.mono ?_
    rintro e w5 ⟨v5, ev, rfl, hev, hv5, hb5⟩
    have HB5 : Hid (Below W0.heap.size W0 w5) := HB3.out.trans (hb5.mono HB3.out.size)
    obtain rfl := hev.nil
    have HV5 := hideN hv5
    obtain ⟨p5, c5, rfl⟩ := hv5.shape
    clear hev hv5 hb5 HJ
    have HLX := hideN HJN.out.length
    obtain ⟨x0, x1⟩ := HX.out w5 HB5.out
    have HOF5 := hideN (ownOf_any a i HPI.out HLI.out _ (nIns l n) w5 (by have := HLX.out; omega) HV5.out.c ((HE.out w5 HB5.out).sub (M := [1, 2, 4, 7]) (by decide)) (HT.out w5 HB5.out))
    rw [own_ok HJN.out (nIns_ne l n) (show ¬ i.2 < 0 by have := HNEG.out; omega)] at HOF5
    have HDI := hideN (nDel_ins HNM.out)
    have HNEX := hideN (nIns_ne l n)
    have HMX : Hid (n ∈ nIns l n) := mem_nIns.2 (.inl rfl)
    obtain ⟨X, hX⟩ : ∃ X, nIns l n = X := ⟨_, rfl⟩
    rw [hX] at HV5 HJN HOC HLX HOF5 HDI HNEX HMX ⊢
    obtain ⟨B, hB⟩ : ∃ B, bestOf (score i) X = B := ⟨_, rfl⟩
    rw [hB] at HOF5 HOC
    obtain ⟨XL, hXL⟩ : ∃ XL, X.length = XL := ⟨_, rfl⟩
    have HXL := hideN hXL
    rw [hXL] at HOF5 ⊢
    have HV5' : Hid (∀ W, Below w5.heap.size w5 W → IntsS W (.slice p5 XL c5) X) := fun W hb => by rw [← HXL.out]; exact HV5.out.below hb
    clear hX hB hXL
    go_wp2_with fail
    refine HOF5.out.mono ?_
    rintro e w6 ⟨ev, rfl, hev, hb6⟩
    have HB6 : Hid (Below W0.heap.size W0 w6) := HB5.out.trans (hb6.mono HB5.out.size)
    have HB56 := hideN hb6
    obtain rfl := hev.nil
    clear hev hb6 HOF5 x0 x1
    have HCK6 := hideN (ownCheck_any a _ X w6 (by have := HLX.out; omega) (HV5'.out w6 HB56.out).c ((HE.out w6 HB6.out).sub (M := [1, 4, 7]) (by decide)))
    rw [checkAns_ok HJN.out HNEX.out] at HCK6
    have HLV := hideN (fun w7 (hb : Below w6.heap.size w6 w7) => ownLeave_any a _ X n w7 (by have := HLX.out; omega) (HV5'.out w7 (HB56.out.trans (hb.mono HB56.out.size))) ((HE.out w7 (HB6.out.trans (hb.mono HB6.out.size))).sub (M := [1, 4, 7]) (by decide)))
    have hlv : leaveAns X n = (l, (0, -1)) := by
      unfold leaveAns
      rw [checkAns_ok HJN.out HNEX.out, if_neg (by simp), if_pos HMX.out, HDI.out]
    rw [hlv] at HLV
    unfold JoinPost at HLV
    clear hlv
    have hcond : (B == A) = true ∨ ((B == A) = false ∧ (B == n) = true) := by
      rcases HOC.out with h | h
      · exact .inl (beq_iff_eq.2 h)
      · by_cases e : B = A
        · exact .inl (beq_iff_eq.2 e)
        · exact .inr ⟨beq_eq_false_iff_ne.2 e, beq_iff_eq.2 h⟩
    have HREST : Hid True := trivial
    rcases hcond with hBA | ⟨hBA, hBn⟩
    · have hBA' : (B != A) = false := by rw [bne, hBA]; rfl
      go_wp2_with fail
      refine HCK6.out.mono ?_
      rintro e w7 ⟨ev, rfl, hev, hb7⟩
      obtain rfl := hev.nil
      have HB67 := hideN hb7
      have HB7 : Hid (Below W0.heap.size W0 w7) := HB6.out.trans (hb7.mono HB6.out.size)
      clear hev hb7 HCK6 hBA hBA' 
      go_wp2_with fail
      refine (HLV.out w7 HB67.out).mono ?_
      rintro e w8 ⟨v8, ev, rfl, hev, hv8, hb8⟩
      have HB8 : Hid (Below W0.heap.size W0 w8) := HB7.out.trans (hb8.mono HB7.out.size)
      obtain rfl := hev.nil
      have HSA := hideN (sameIntsC v8 _ l w8 (by have := HTEN.out; omega) hv8.c (HV.out w8 HB8.out))
      obtain ⟨p8, c8, rfl⟩ := hv8.shape
      clear hev hv8 hb8 HLV
      go_wp2_with fail
      refine HSA.out.mono ?_
      rintro e w4 ⟨rfl, hb4⟩
      have HB4 : Hid (Below W0.heap.size W0 w4) := HB8.out.trans (hb4.mono HB8.out.size)
      clear hb4 HSA
      have HLE := hideN (ownLeave_any a _ l n w4 (by have := HTEN.out; omega) (HS.out w4 HB4.out) ((HE.out w4 HB4.out).sub (M := [1, 4, 7]) (by decide)))
      unfold JoinPost at HLE
      rcases leave_cases HN.out HNE.out n with hla | ⟨hla, hdn, hnm⟩
      · rw [hla] at HLE
        clear hla
        go_wp2_with fail
        refine HLE.out.mono ?_
        rintro e w9 ⟨v9, ev, rfl, hev, hv9, hb9⟩
        have HB9 : Hid (Below W0.heap.size W0 w9) := HB4.out.trans (hb9.mono HB4.out.size)
        obtain ⟨T, AA, rfl⟩ := hev.iface (by decide)
        obtain ⟨p9, c9, rfl⟩ := hv9.shape
        clear hev hv9 hb9 HLE
        go_wp2_with fail
        go_ret
        exact ⟨rfl, HFIN.out _ HB9.out⟩
      · rw [hla] at HLE
        have HDN := hideN hdn
        have HD := hideN (HBD.out n hdn)
        clear hla hdn hnm
        go_wp2_with fail
        refine HLE.out.mono ?_
        rintro e w9 ⟨v9, ev, rfl, hev, hv9, hb9⟩
        have HB9 : Hid (Below W0.heap.size W0 w9) := HB4.out.trans (hb9.mono HB4.out.size)
        obtain rfl := hev.nil
        have HV9 := hideN hv9
        obtain ⟨p9, c9, rfl⟩ := hv9.shape
        clear hev hv9 hb9 HLE
        have HLD := hideN HDN.out.length
        obtain ⟨X9, hX9⟩ : ∃ X, nDel l n = X := ⟨_, rfl⟩
        rw [hX9] at HV9 HDN HD HLD ⊢
        clear hX9
        obtain ⟨XL9, hXL9⟩ : ∃ XL, X9.length = XL := ⟨_, rfl⟩
        by_cases hz : XL9 = 0
        · subst hz
          rw [hXL9]
          clear hXL9
          go_wp2_with fail
          go_ret
          exact ⟨rfl, HFIN.out _ HB9.out⟩
        have hne9 : X9 ≠ [] := fun e => hz (by rw [← hXL9, e]; rfl)
        have hz' : ((XL9 : Int) == 0) = false := beq_eq_false_iff_ne.2 (by omega)
        have hz2 : (XL9 == 0) = false := beq_eq_false_iff_ne.2 hz
        obtain ⟨x0, x1⟩ := HX.out w9 HB9.out
        have HOF9 := hideN (ownOf_any a i HPI.out HLI.out _ X9 w9 (by have := HLD.out; omega) HV9.out.c ((HE.out w9 HB9.out).sub (M := [1, 2, 4, 7]) (by decide)) (HT.out w9 HB9.out))
        rw [own_ok HDN.out hne9 (show ¬ i.2 < 0 by have := HNEG.out; omega)] at HOF9
        have HDD := hideN (HD.out hne9)
        obtain ⟨B9, hB9⟩ : ∃ B, bestOf (score i) X9 = B := ⟨_, rfl⟩
        rw [hB9] at HOF9 HDD
        rw [hXL9] at HOF9 ⊢
        have hxl6 : (XL9 : Int) ≤ 6 := by have := HLD.out; omega
        clear hB9 hXL9 hne9
        go_wp2_with fail
        refine HOF9.out.mono ?_
        rintro e wa ⟨ev, rfl, hev, hba⟩
        have HBa : Hid (Below W0.heap.size W0 wa) := HB9.out.trans (hba.mono HB9.out.size)
        obtain rfl := hev.nil
        clear hev hba HOF9 x0 x1 hz hz' hz2
        have h1 : (B9 != n) = true := bne_iff_ne.2 HDD.out.1
        rcases HDD.out.2 with h2 | h2
        · have h3 : (n == A) = true := beq_iff_eq.2 h2
          clear h2
          go_wp2_with fail
          go_ret
          exact ⟨rfl, HFIN.out _ HBa.out⟩
        · have h3 : (B9 == A) = true := beq_iff_eq.2 h2
          cases h4 : (n == A) with
          | true =>
            clear h2
            go_wp2_with fail
            go_ret
            exact ⟨rfl, HFIN.out _ HBa.out⟩
          | false =>
            clear h2
            go_wp2_with fail
            go_ret
            exact ⟨rfl, HFIN.out _ HBa.out⟩
    · have hBA' : (B != A) = true := by rw [bne, hBA]; rfl
      have hBn' : (B != n) = false := by rw [bne, hBn]; rfl
      go_wp2_with fail
      refine HCK6.out.mono ?_
      rintro e w7 ⟨ev, rfl, hev, hb7⟩
      obtain rfl := hev.nil
      have HB67 := hideN hb7
      have HB7 : Hid (Below W0.heap.size W0 w7) := HB6.out.trans (hb7.mono HB6.out.size)
      clear hev hb7 HCK6 hBA hBA' hBn hBn'
      go_wp2_with fail
      refine (HLV.out w7 HB67.out).mono ?_
      rintro e w8 ⟨v8, ev, rfl, hev, hv8, hb8⟩
      have HB8 : Hid (Below W0.heap.size W0 w8) := HB7.out.trans (hb8.mono HB7.out.size)
      obtain rfl := hev.nil
      have HSA := hideN (sameIntsC v8 _ l w8 (by have := HTEN.out; omega) hv8.c (HV.out w8 HB8.out))
      obtain ⟨p8, c8, rfl⟩ := hv8.shape
      clear hev hv8 hb8 HLV
      go_wp2_with fail
      refine HSA.out.mono ?_
      rintro e w4 ⟨rfl, hb4⟩
      have HB4 : Hid (Below W0.heap.size W0 w4) := HB8.out.trans (hb4.mono HB8.out.size)
      clear hb4 HSA
      have HLE := hideN (ownLeave_any a _ l n w4 (by have := HTEN.out; omega) (HS.out w4 HB4.out) ((HE.out w4 HB4.out).sub (M := [1, 4, 7]) (by decide)))
      unfold JoinPost at HLE
      rcases leave_cases HN.out HNE.out n with hla | ⟨hla, hdn, hnm⟩
      · rw [hla] at HLE
        clear hla
        go_wp2_with fail
        refine HLE.out.mono ?_
        rintro e w9 ⟨v9, ev, rfl, hev, hv9, hb9⟩
        have HB9 : Hid (Below W0.heap.size W0 w9) := HB4.out.trans (hb9.mono HB4.out.size)
        obtain ⟨T, AA, rfl⟩ := hev.iface (by decide)
        obtain ⟨p9, c9, rfl⟩ := hv9.shape
        clear hev hv9 hb9 HLE
        go_wp2_with fail
        go_ret
        exact ⟨rfl, HFIN.out _ HB9.out⟩
      · rw [hla] at HLE
        have HDN := hideN hdn
        have HD := hideN (HBD.out n hdn)
        clear hla hdn hnm
        go_wp2_with fail
        refine HLE.out.mono ?_
        rintro e w9 ⟨v9, ev, rfl, hev, hv9, hb9⟩
        have HB9 : Hid (Below W0.heap.size W0 w9) := HB4.out.trans (hb9.mono HB4.out.size)
        obtain rfl := hev.nil
        have HV9 := hideN hv9
        obtain ⟨p9, c9, rfl⟩ := hv9.shape
        clear hev hv9 hb9 HLE
        have HLD := hideN HDN.out.length
        obtain ⟨X9, hX9⟩ : ∃ X, nDel l n = X := ⟨_, rfl⟩
        rw [hX9] at HV9 HDN HD HLD ⊢
        clear hX9
        obtain ⟨XL9, hXL9⟩ : ∃ XL, X9.length = XL := ⟨_, rfl⟩
        by_cases hz : XL9 = 0
        · subst hz
          rw [hXL9]
          clear hXL9
          go_wp2_with fail
          go_ret
          exact ⟨rfl, HFIN.out _ HB9.out⟩
        have hne9 : X9 ≠ [] := fun e => hz (by rw [← hXL9, e]; rfl)
        have hz' : ((XL9 : Int) == 0) = false := beq_eq_false_iff_ne.2 (by omega)
        have hz2 : (XL9 == 0) = false := beq_eq_false_iff_ne.2 hz
        obtain ⟨x0, x1⟩ := HX.out w9 HB9.out
        have HOF9 := hideN (ownOf_any a i HPI.out HLI.out _ X9 w9 (by have := HLD.out; omega) HV9.out.c ((HE.out w9 HB9.out).sub (M := [1, 2, 4, 7]) (by decide)) (HT.out w9 HB9.out))
        rw [own_ok HDN.out hne9 (show ¬ i.2 < 0 by have := HNEG.out; omega)] at HOF9
        have HDD := hideN (HD.out hne9)
        obtain ⟨B9, hB9⟩ : ∃ B, bestOf (score i) X9 = B := ⟨_, rfl⟩
        rw [hB9] at HOF9 HDD
        rw [hXL9] at HOF9 ⊢
        have hxl6 : (XL9 : Int) ≤ 6 := by have := HLD.out; omega
        clear hB9 hXL9 hne9
        go_wp2_with fail
        refine HOF9.out.mono ?_
        rintro e wa ⟨ev, rfl, hev, hba⟩
        have HBa : Hid (Below W0.heap.size W0 wa) := HB9.out.trans (hba.mono HB9.out.size)
        obtain rfl := hev.nil
        clear hev hba HOF9 x0 x1 hz hz' hz2
        have h1 : (B9 != n) = true := bne_iff_ne.2 HDD.out.1
        rcases HDD.out.2 with h2 | h2
        · have h3 : (n == A) = true := beq_iff_eq.2 h2
          clear h2
          go_wp2_with fail
          go_ret
          exact ⟨rfl, HFIN.out _ HBa.out⟩
        · have h3 : (B9 == A) = true := beq_iff_eq.2 h2
          cases h4 : (n == A) with
          | true =>
            clear h2
            go_wp2_with fail
            go_ret
            exact ⟨rfl, HFIN.out _ HBa.out⟩
          | false =>
            clear h2
            go_wp2_with fail
            go_ret
            exact ⟨rfl, HFIN.out _ HBa.out⟩
end Go.Proofs.YtcbcjefefmbccabDoor
