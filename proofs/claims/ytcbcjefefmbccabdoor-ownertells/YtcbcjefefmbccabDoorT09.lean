/-
  Own text. cornbinlaw2's faulted at the right number and place, by a contract.
  Own text. The law of chapter 8 (OwnerTells) as a contract: it answers true at every input.
-/
import Derived.Test.YtcbcjefefmbccabDoorT03
import Derived.Test.YtcbcjefefmbccabDoorT08
namespace Go.Proofs.YtcbcjefefmbccabDoor
open Go.RowKit

set_option maxHeartbeats 2000000 in
theorem faulted2_true (a : Nat → Addr) (v : Value) (f : Int × Int) (w : World) (hE : ErrW w a) (h : ErrIs w a v f) :
    Calls Tryd.prog 12 #[v, faultV f.1 f.2] w fun e w' => e = .returned (.bool true) ∧ Below w.heap.size w w' := by
  obtain ⟨c, p⟩ := f
  have HB : Hid (∀ o, Below w.heap.size w (w.alloc o)) := fun o => (Below.refl _ w).alloc (Nat.le_refl _) o
  have HE : Hid (ErrW w a) := hE
  have HI : Hid (ErrIs w a v (c, p)) := h
  have hcc : (c == c) = true := by simp
  have hpp : (p == p) = true := by simp
  clear hE h
  go_enter Tryd.func12, Tryd.ntmps12
  go_wp2_with fail
  refine ((HI.out.below (HB.out _)).code (HE.out.below (HB.out _) (Nat.le_refl _))).mono ?_
  rintro e w1 ⟨rfl, hb1⟩
  have hb : Below w.heap.size w w1 := (HB.out _).trans (hb1.mono (by simp))
  have k0 : w1.cell? ⟨w.heap.size, 0, none⟩ = some (.int .i64 c) := (hb1.cell (p := ⟨w.heap.size, 0, none⟩) (by simp)).trans (by simp)
  have k1 : w1.cell? ⟨w.heap.size, 1, none⟩ = some (.int .i64 p) := (hb1.cell (p := ⟨w.heap.size, 1, none⟩) (by simp)).trans (by simp)
  clear hb1
  by_cases h0 : c = 0
  · have hc0 : (c == 0) = true := by rw [beq_iff_eq]; exact h0
    clear h0
    go_wp2_with fail
    go_ret
    exact ⟨rfl, hb⟩
  · have hc0 : (c == 0) = false := by rw [beq_eq_false_iff_ne]; exact h0
    clear h0
    go_wp2_with fail
    go_ret
    exact ⟨rfl, hb⟩

end Go.Proofs.YtcbcjefefmbccabDoor
namespace Go.Proofs.YtcbcjefefmbccabDoor
open Go.RowKit

theorem IntsS.set {w : World} {v : Value} {xs : List Int} (h : IntsS w v xs) {p : Addr} (hne : ∀ k, v.ownBlock = some k → k ≠ p.block) (u : Value) : IntsS (w.setCell p u) v xs := by
  rcases h with h | ⟨b, o, c, rfl, hc, hlt, hcell⟩
  · exact .inl h
  · have hb := hne b rfl
    refine .inr ⟨b, o, c, rfl, hc, by simpa using hlt, fun i hi => ?_⟩
    have h0 : p ≠ ⟨b, o + i, none⟩ := fun e => by rw [e] at hb; exact hb rfl
    rw [World.cell?_setCell_other _ _ _ _ h0]
    exact hcell i hi
theorem IntsS.ownlt {w : World} {v : Value} {xs : List Int} (h : IntsS w v xs) : ∀ k, v.ownBlock = some k → k < w.heap.size := fun k hk => by
  rcases h with ⟨rfl, rfl⟩ | ⟨b, o, c, rfl, hc, hlt, hcell⟩
  · cases hk
  · cases hk
    exact hlt
theorem ErrIs.set {w : World} {a : Nat → Addr} {v : Value} {f : Int × Int} {base : Nat} (h : ErrIn base w a v f) {p : Addr} (hp : p.block < base) (u : Value) : ErrIn base (w.setCell p u) a v f := h.setCell hp u
set_option maxRecDepth 100000 in
set_option maxHeartbeats 16000000 in
theorem ownerTells_any (a : Nat → Addr) (i : Nat × Int) (hp : i.1 < 4294967296) (hl : i.2 ≤ 9223372036854775807) (vl : Value) (l : List Int) (n : Int) (hn9 : n ≤ 9223372036854775807) (w : World) (hv : IntsE w vl l) (hE : ErrW w a) (ht : Pow10 w) :
    Calls Tryd.prog 4 #[vl, idV (i.1 : Nat) i.2, .int .i64 n] w fun e w' => e = .returned (.bool true) ∧ Below w.heap.size w w' := by
  have hal := (Below.refl w.heap.size w).alloc (Nat.le_refl _) (.cells #[.int .u32 (i.1 : Nat), .int .i64 i.2] 25)
  have hX0 := Blk.new w #[.int .u32 (i.1 : Nat), .int .i64 i.2] 25
  obtain ⟨W0, hW0⟩ : ∃ W0, w.alloc (.cells #[.int .u32 (i.1 : Nat), .int .i64 i.2] 25) = W0 := ⟨_, rfl⟩
  have HV : Hid (∀ W, Below W0.heap.size W0 W → IntsE W vl l) := fun W hb => by subst hW0; exact (hv.below hal).below hb
  have HW : Hid (∀ W, Below W0.heap.size W0 W → ErrW W a) := fun W hb => by subst hW0; exact hE.below (hal.trans (hb.mono hal.size)) (Nat.le_refl _)
  have HE : Hid (∀ W, Below W0.heap.size W0 W → ErrE [1, 2, 4, 5, 7] W a) := fun W hb => by subst hW0; exact (hE.below (hal.trans (hb.mono hal.size)) (Nat.le_refl _)).on (by decide)
  have HT : Hid (∀ W, Below W0.heap.size W0 W → Pow10 W) := fun W hb => by subst hW0; exact ht.below (hal.trans (hb.mono hal.size)) (Nat.le_refl _)
  have HX : Hid (∀ W, Below W0.heap.size W0 W → W.cell? ⟨w.heap.size, 0, none⟩ = some (.int .u32 (i.1 : Nat)) ∧ W.cell? ⟨w.heap.size, 1, none⟩ = some (.int .i64 i.2)) := fun W hb => by
    subst hW0
    have h := hX0.next hb
    exact ⟨h.cell (i := 0) rfl, h.cell (i := 1) rfl⟩
  have HFIN : Hid (∀ W, Below W0.heap.size W0 W → Below w.heap.size w W) := fun W hb => by subst hW0; exact hal.trans (hb.mono hal.size)
  have HOW := hideN (owned_any a W0 (HE.out W0 (Below.refl _ _)) (HT.out W0 (Below.refl _ _)))
  have HPI := hideN hp
  have HLI := hideN hl
  have HN9 := hideN hn9
  obtain ⟨p, c, rfl⟩ := hv.shape
  clear hal hX0 hE ht hp hl hn9 hv
  go_enter Tryd.func4, Tryd.ntmps4
  go_wp2_with fail
  try rw [hW0]
  clear hW0
  refine HOW.out.mono ?_
  rintro e w1 ⟨rfl, hb1⟩
  have HB1 := hideN hb1
  clear hb1 HOW
  by_cases hten : 10 < l.length
  · have hten' : (10 : Int) < (l.length : Int) := by omega
    go_wp2_with fail
    go_ret
    exact ⟨rfl, HFIN.out _ HB1.out⟩
  have hten' : ¬ (10 : Int) < (l.length : Int) := by omega
  have HTEN : Hid (l.length ≤ 10) := by show _ ≤ _; omega
  go_wp2_with (at_builtin; refine wpLE_append (w := w1) rfl _ _ rfl w1.heap.size _ (.slice p l.length c) [] l rfl rfl (World.ownsRow_nil _ _ _ _) (HV.out w1 HB1.out) (by have := HTEN.out; show 0 + _ ≤ _; omega) (Nat.le_refl _) ?_; intro vo w5 ho5 hg5; rw [List.nil_append] at ho5; have HO := hideN (IntsS.of_row ho5); have HB15 : Hid (Below w1.heap.size w1 w5) := (Below.refl _ w1).grown hg5 (Nat.le_refl _) (fun k hk => by cases hk); have HB5 : Hid (Below W0.heap.size W0 w5) := HB1.out.trans (HB15.out.mono HB1.out.size); clear ho5 hg5; obtain ⟨po, co, hvo⟩ := HO.out.shape; subst hvo; obtain ⟨x0, x1⟩ := HX.out w5 HB5.out)
  clear hten hten'
  have HB : Hid (∀ W, Below w5.heap.size w5 W → Below W0.heap.size W0 W) := fun W hb => HB5.out.trans (hb.mono HB5.out.size)
  have HOO : Hid (∀ W, Below w5.heap.size w5 W → IntsS W (.slice po l.length co) l) := fun W hb => HO.out.below hb
  have HCK : Hid (∀ W, Below w5.heap.size w5 W → Calls Tryd.prog 6 #[.slice po l.length co] W fun e w' => ∃ ev, e = .returned ev ∧ ErrIn W.heap.size w' a ev (checkAns' l) ∧ Below W.heap.size W w') := fun W hb => ownCheck_any a _ l W (by have := HTEN.out; omega) (HOO.out W hb).c ((HE.out W (HB.out W hb)).sub (by decide))
  have HNF : Hid (∀ W, Below w5.heap.size w5 W → Calls Tryd.prog 13 #[.slice p l.length c] W fun e w' => e = .returned (faultV (checkAns' l).1 (checkAns' l).2) ∧ Below W.heap.size W w') := fun W hb => refNodes_any _ l W (by have := HTEN.out; omega) (HV.out W (HB.out W hb)).c
  have HFA : Hid (∀ W v (f : Int × Int), Below w5.heap.size w5 W → ErrIs W a v f → Calls Tryd.prog 12 #[v, faultV f.1 f.2] W fun e w' => e = .returned (.bool true) ∧ Below W.heap.size W w') := fun W v f hb hv => faulted2_true a v f W (HW.out W (HB.out W hb)) hv
  have HS1 : Hid (0 ≤ n → ∀ W, Below w5.heap.size w5 W → Calls Tryd.prog 14 #[.int .i64 n, idV (i.1 : Nat) i.2] W fun e w' => e = .returned (.int .u32 (score i n : Nat)) ∧ Below W.heap.size W w') := fun h W hb => score_any i HPI.out HLI.out n h HN9.out W (HT.out W (HB.out W hb))
  have HS2 : Hid (0 ≤ n → ∀ W, Calls Tryd.prog 15 #[.int .i64 n, idV (i.1 : Nat) i.2] W fun e w' => e = .returned (.int .u32 (score i n : Nat)) ∧ Below W.heap.size W w') := fun h W => refScore_any i HPI.out HLI.out n h HN9.out W
  have HXX : Hid (∀ W, Below w5.heap.size w5 W → W.cell? ⟨w.heap.size, 0, none⟩ = some (.int .u32 (i.1 : Nat)) ∧ W.cell? ⟨w.heap.size, 1, none⟩ = some (.int .i64 i.2)) := fun W hb => HX.out W (HB.out W hb)
  obtain ⟨ca, hca⟩ : ∃ ca, checkAns' l = ca := ⟨_, rfl⟩
  rw [hca] at HCK HNF
  clear hca
  obtain ⟨sn, hsn⟩ : ∃ sn, score i n = sn := ⟨_, rfl⟩
  rw [hsn] at HS1 HS2
  clear hsn
  have HREST : Hid True := trivial
  by_cases hn0 : 0 ≤ n
  · have HS1' := HS1.out hn0
    have HS2' := HS2.out hn0
    have hss : ((sn : Int) == (sn : Int)) = true := by simp
    have hss2 : ((sn : Int) != (sn : Int)) = false := by simp
    go_region_held3 (fun W => W.cell? ⟨w.heap.size, 0, none⟩ = some (.int .u32 (i.1 : Nat)) ∧ W.cell? ⟨w.heap.size, 1, none⟩ = some (.int .i64 i.2)) (first | exact HXX.out _ HWN.out | go_keep) (first
      | (go_at_call 15; refine (HS2' _).mono ?_; rintro e wE ⟨rfl, hbE⟩; have HWE : Hid (Below w5.heap.size w5 wE) := HWN.out.trans (hbE.mono HWN.out.size); have HWN := HWE; clear hbE)
      | (go_at_call 14; refine (HS1' wC HWN.out).mono ?_; rintro e wD ⟨rfl, hbD⟩; have HWD : Hid (Below w5.heap.size w5 wD) := HWN.out.trans (hbD.mono HWN.out.size); have HWN := HWD; clear hbD)
      | (go_at_call 12; refine (HFA.out wB _ ca HWN.out hevB).mono ?_; rintro e wC ⟨rfl, hbC⟩; have HWC : Hid (Below w5.heap.size w5 wC) := HWN.out.trans (hbC.mono HWN.out.size); have HWN := HWC; clear hbC hevB)
      | (go_at_call 13; refine (HNF.out wA HWN.out).mono ?_; rintro e wB ⟨rfl, hbB⟩; have HWB : Hid (Below w5.heap.size w5 wB) := HWN.out.trans (hbB.mono HWN.out.size); have HWN := HWB; have hevB := (hevA.at).below hbB; clear hbB hevA)
      | (go_at_call 6; refine (HCK.out _ (Below.refl _ w5).drew).mono ?_; rintro e wA ⟨evA, rfl, hevA, hbA⟩; have HWN : Hid (Below w5.heap.size w5 wA) := (Below.refl _ w5).drew.trans hbA; clear hbA))
    clear hn0 HS1' HS2' hss hss2
    have HBq : Hid (Below w5.heap.size w5 wE) := HWE.out
    clear x0 x1
    obtain ⟨x0, x1⟩ := HXX.out wE HBq.out
    have HOF := hideN (ownOf_any a i HPI.out HLI.out _ l wE (by have := HTEN.out; omega) (HOO.out wE HBq.out).c ((HE.out wE (HB.out wE HBq.out)).sub (M := [1, 2, 4, 7]) (by decide)) (HT.out wE (HB.out wE HBq.out)))
    have HRO : Hid (∀ W, Below w5.heap.size w5 W → Calls Tryd.prog 16 #[.slice p l.length c, idV (i.1 : Nat) i.2] W fun e w' => e = .returned (.tuple #[.int .i64 (ownAns i l).1, faultV (ownAns i l).2.1 (ownAns i l).2.2]) ∧ Below W.heap.size W w') := fun W hb => refOwner_any i HPI.out HLI.out _ l W (by have := HTEN.out; omega) (HV.out W (HB.out W hb)).c
    obtain ⟨⟨ow, oc, oq⟩, hoa⟩ : ∃ oa, ownAns i l = oa := ⟨_, rfl⟩
    rw [hoa] at HOF HRO
    simp only at HOF HRO
    clear hoa
    go_wp2_with fail
    refine HOF.out.mono ?_
    rintro e w6 ⟨ev6, rfl, hev6, hb6⟩
    have HB6 : Hid (Below w5.heap.size w5 w6) := HBq.out.trans (hb6.mono HBq.out.size)
    have HEV6 := hideN hev6.at
    have hsh6 : ∃ v, ev6 = v := ⟨_, rfl⟩
    clear hev6 hb6 HOF x0 x1 hsh6
    obtain ⟨x0, x1⟩ := HXX.out w6 HB6.out
    go_wp2_with fail
    refine (HRO.out w6 HB6.out).mono ?_
    rintro e w7 ⟨rfl, hb7⟩
    have HB7 : Hid (Below w5.heap.size w5 w7) := HB6.out.trans (hb7.mono HB6.out.size)
    have HEV7 := hideN (HEV6.out.below hb7)
    clear hb7 HRO x0 x1
    have hal8 := (Below.refl w7.heap.size w7).alloc (Nat.le_refl _) (.cells #[.int .i64 oc, .int .i64 oq] 39)
    have HB8 : Hid (Below w5.heap.size w5 _) := hideN (HB7.out.trans (hal8.mono HB7.out.size))
    have HF8 := hideN (Blk.new w7 #[.int .i64 oc, .int .i64 oq] 39)
    have HEV8 := hideN (HEV7.out.below hal8)
    have HFB : Hid (w5.heap.size ≤ w7.heap.size) := HB7.out.size
    have k0 := HF8.out.cell (i := 0) rfl
    have k1 := HF8.out.cell (i := 1) rfl
    have HFC8 := hideN (HFA.out _ ev6 (oc, oq) HB8.out HEV8.out)
    clear hal8
    have hoo : (ow == ow) = true := by simp
    have hoo2 : (ow != ow) = false := by simp
    go_wp2_with fail
    refine HFC8.out.mono ?_
    rintro e w9 ⟨rfl, hb9⟩
    have HB9 : Hid (Below w5.heap.size w5 w9) := HB8.out.trans (hb9.mono HB8.out.size)
    have HF9 := hideN (HF8.out.next hb9)
    clear hb9 HFC8 k0 k1
    have HJO := hideN (ownJoin_any a _ l n w9 (by have := HTEN.out; omega) (HOO.out w9 HB9.out) ((HE.out w9 (HB.out w9 HB9.out)).sub (M := [1, 4, 5, 7]) (by decide)))
    unfold JoinPost at HJO
    go_wp2_with fail
    refine HJO.out.mono ?_
    rintro e w10 ⟨v10, ev10, rfl, hev10, hv10, hb10, hf10⟩
    have HB10 : Hid (Below w5.heap.size w5 w10) := HB9.out.trans (hb10.mono HB9.out.size)
    have HF10 := hideN (HF9.out.next hb10)
    have HEV10 : Hid (ErrIn (w7.heap.size + 1) w10 a ev10 (joinAns l n).2) := hev10.low (by have := HF9.out.lt; omega)
    have HV10 := hideN hv10
    have HN10 : Hid (∀ k, v10.ownBlock = some k → w7.heap.size < k) := fun k hk => by have h1 := hf10 k hk; have h2 := HF9.out.lt; omega
    have HJR := hideN (refJoin_any _ l n w10 (by have := HTEN.out; omega) (HV.out w10 (HB.out w10 HB10.out)))
    unfold RefPost at HJR
    clear hev10 hv10 hb10 hf10 HJO hoo hoo2
    obtain ⟨p10, c10, hv10⟩ := HV10.out.shape
    subst hv10
    go_wp2_with fail
    refine HJR.out.mono ?_
    rintro e w11 ⟨v11, rfl, hv11, hb11, hf11⟩
    have HB11 : Hid (Below w5.heap.size w5 w11) := HB10.out.trans (hb11.mono HB10.out.size)
    have HF11 := hideN (HF10.out.next hb11)
    have HEV11 := hideN (HEV10.out.below hb11)
    have HV11 := hideN (HV10.out.below hb11)
    have HU11 := hideN hv11
    have HN11 : Hid (∀ k, v11.ownBlock = some k → w7.heap.size < k) := fun k hk => by have h1 := hf11 k hk; have h2 := HF10.out.lt; omega
    clear hv11 hb11 hf11 HJR
    obtain ⟨p11, c11, hv11⟩ := HU11.out.shape
    subst hv11
    obtain ⟨⟨jl, jc, jq⟩, hja⟩ : ∃ ja, joinAns l n = ja := ⟨_, rfl⟩
    rw [hja] at HEV11 HV11 HU11 HN10 HN11 ⊢
    simp only at HEV11 HV11 HU11 HN10 HN11 ⊢
    have HJL : Hid (jl.length ≤ 1000) := by
      show _ ≤ _
      have : (joinAns l n).1 = jl := by rw [hja]
      rw [← this]
      have h1 := HTEN.out
      unfold joinAns
      split
      · simp
      · split
        · simp
        · split
          · simp
          · show (nIns l n).length ≤ 1000
            unfold nIns
            rw [List.length_append, List.length_take, List.length_cons, List.length_drop]
            omega
    clear hja
    have q0 := HF11.out.cell (i := 0) rfl
    have q1 := HF11.out.cell (i := 1) rfl
    have f0 := HF11.out.frozen 0
    have f1 := HF11.out.frozen 1
    have HF12 := hideN ((HF11.out.set 0 (.int .i64 jc)).set 1 (.int .i64 jq))
    have HB12 : Hid (Below w5.heap.size w5 _) := hideN ((HB11.out.setCell (p := ⟨w7.heap.size, 0, none⟩) HFB.out (.int .i64 jc)).setCell (p := ⟨w7.heap.size, 1, none⟩) HFB.out (.int .i64 jq))
    have HEV12 := hideN (((HEV11.out.setCell (x := ⟨w7.heap.size, 0, none⟩) (Nat.lt_succ_self _) (.int .i64 jc)).setCell (x := ⟨w7.heap.size, 1, none⟩) (Nat.lt_succ_self _) (.int .i64 jq)).at)
    have HV12 := hideN ((HV11.out.set (p := ⟨w7.heap.size, 0, none⟩) (fun k hk => Nat.ne_of_gt (HN10.out k hk)) (.int .i64 jc)).set (p := ⟨w7.heap.size, 1, none⟩) (fun k hk => Nat.ne_of_gt (HN10.out k hk)) (.int .i64 jq))
    have HU12 := hideN ((HU11.out.set (p := ⟨w7.heap.size, 0, none⟩) (fun k hk => Nat.ne_of_gt (HN11.out k hk)) (.int .i64 jc)).set (p := ⟨w7.heap.size, 1, none⟩) (fun k hk => Nat.ne_of_gt (HN11.out k hk)) (.int .i64 jq))
    have HFC12 := hideN (HFA.out _ ev10 (jc, jq) HB12.out HEV12.out)
    have k0 := HF12.out.cell (i := 0) rfl
    have k1 := HF12.out.cell (i := 1) rfl
    go_wp2_with fail
    refine HFC12.out.mono ?_
    rintro e w13 ⟨rfl, hb13⟩
    have HB13 : Hid (Below w5.heap.size w5 w13) := HB12.out.trans (hb13.mono HB12.out.size)
    have HF13 := hideN (HF12.out.next hb13)
    have HSA := hideN (sameIntsC _ _ jl w13 (by have := HJL.out; omega) (HV12.out.below hb13).c (HU12.out.below hb13).c)
    clear hb13 HFC12 k0 k1 q0 q1 f0 f1 HF11 HB11 HEV11 HV11 HU11 HF12 HB12 HEV12 HV12 HU12 HF10 HB10 HV10 HEV10
    go_wp2_with fail
    refine HSA.out.mono ?_
    rintro e w14 ⟨rfl, hb14⟩
    have HB14 : Hid (Below w5.heap.size w5 w14) := HB13.out.trans (hb14.mono HB13.out.size)
    have HF14 := hideN (HF13.out.next hb14)
    clear hb14 HSA
    have HLO := hideN (ownLeave_any a _ l n w14 (by have := HTEN.out; omega) (HOO.out w14 HB14.out) ((HE.out w14 (HB.out w14 HB14.out)).sub (M := [1, 4, 7]) (by decide)))
    unfold JoinPost at HLO
    go_wp2_with fail
    refine HLO.out.mono ?_
    rintro e w20 ⟨v20, ev20, rfl, hev20, hv20, hb20, hf20⟩
    have HB20 : Hid (Below w5.heap.size w5 w20) := HB14.out.trans (hb20.mono HB14.out.size)
    have HF20 := hideN (HF14.out.next hb20)
    have HEV20 : Hid (ErrIn (w7.heap.size + 1) w20 a ev20 (leaveAns l n).2) := hev20.low (by have := HF14.out.lt; omega)
    have HV20 := hideN hv20
    have HN20 : Hid (∀ k, v20.ownBlock = some k → w7.heap.size < k) := fun k hk => by have h1 := hf20 k hk; have h2 := HF14.out.lt; omega
    have HLR := hideN (refLeave_any _ l n w20 (by have := HTEN.out; omega) (HV.out w20 (HB.out w20 HB20.out)))
    unfold RefPost at HLR
    clear hev20 hv20 hb20 hf20 HLO
    obtain ⟨p20, c20, hv20⟩ := HV20.out.shape
    subst hv20
    go_wp2_with fail
    refine HLR.out.mono ?_
    rintro e w21 ⟨v21, rfl, hv21, hb21, hf21⟩
    have HB21 : Hid (Below w5.heap.size w5 w21) := HB20.out.trans (hb21.mono HB20.out.size)
    have HF21 := hideN (HF20.out.next hb21)
    have HEV21 := hideN (HEV20.out.below hb21)
    have HV21 := hideN (HV20.out.below hb21)
    have HU21 := hideN hv21
    have HN21 : Hid (∀ k, v21.ownBlock = some k → w7.heap.size < k) := fun k hk => by have h1 := hf21 k hk; have h2 := HF20.out.lt; omega
    clear hv21 hb21 hf21 HLR
    obtain ⟨p21, c21, hv21⟩ := HU21.out.shape
    subst hv21
    obtain ⟨⟨ll, lc, lq⟩, hla⟩ : ∃ la, leaveAns l n = la := ⟨_, rfl⟩
    rw [hla] at HEV21 HV21 HU21 HN20 HN21 ⊢
    simp only at HEV21 HV21 HU21 HN20 HN21 ⊢
    have HLL : Hid (ll.length ≤ 1000) := by
      show _ ≤ _
      have : (leaveAns l n).1 = ll := by rw [hla]
      rw [← this]
      have h1 := HTEN.out
      unfold leaveAns
      split
      · simp
      · split
        · show (nDel l n).length ≤ 1000
          have : (nDel l n).length ≤ l.length := List.length_filter_le _ _
          omega
        · simp
    clear hla
    have q0 := HF21.out.cell (i := 0) rfl
    have q1 := HF21.out.cell (i := 1) rfl
    have f0 := HF21.out.frozen 0
    have f1 := HF21.out.frozen 1
    have HF22 := hideN ((HF21.out.set 0 (.int .i64 lc)).set 1 (.int .i64 lq))
    have HB22 : Hid (Below w5.heap.size w5 _) := hideN ((HB21.out.setCell (p := ⟨w7.heap.size, 0, none⟩) HFB.out (.int .i64 lc)).setCell (p := ⟨w7.heap.size, 1, none⟩) HFB.out (.int .i64 lq))
    have HEV22 := hideN (((HEV21.out.setCell (x := ⟨w7.heap.size, 0, none⟩) (Nat.lt_succ_self _) (.int .i64 lc)).setCell (x := ⟨w7.heap.size, 1, none⟩) (Nat.lt_succ_self _) (.int .i64 lq)).at)
    have HV22 := hideN ((HV21.out.set (p := ⟨w7.heap.size, 0, none⟩) (fun k hk => Nat.ne_of_gt (HN20.out k hk)) (.int .i64 lc)).set (p := ⟨w7.heap.size, 1, none⟩) (fun k hk => Nat.ne_of_gt (HN20.out k hk)) (.int .i64 lq))
    have HU22 := hideN ((HU21.out.set (p := ⟨w7.heap.size, 0, none⟩) (fun k hk => Nat.ne_of_gt (HN21.out k hk)) (.int .i64 lc)).set (p := ⟨w7.heap.size, 1, none⟩) (fun k hk => Nat.ne_of_gt (HN21.out k hk)) (.int .i64 lq))
    have HFC22 := hideN (HFA.out _ ev20 (lc, lq) HB22.out HEV22.out)
    have k0 := HF22.out.cell (i := 0) rfl
    have k1 := HF22.out.cell (i := 1) rfl
    go_wp2_with fail
    refine HFC22.out.mono ?_
    rintro e w23 ⟨rfl, hb23⟩
    have HB23 : Hid (Below w5.heap.size w5 w23) := HB22.out.trans (hb23.mono HB22.out.size)
    have HSA := hideN (sameIntsC _ _ ll w23 (by have := HLL.out; omega) (HV22.out.below hb23).c (HU22.out.below hb23).c)
    clear hb23 HFC22 k0 k1 q0 q1 f0 f1 HF21 HB21 HEV21 HV21 HU21 HF22 HB22 HEV22 HV22 HU22
    go_wp2_with fail
    refine HSA.out.mono ?_
    rintro e w24 ⟨rfl, hb24⟩
    have HB24 : Hid (Below w5.heap.size w5 w24) := HB23.out.trans (hb24.mono HB23.out.size)
    clear hb24 HSA
    have HSL := hideN (sameIntsC _ _ l w24 (by have := HTEN.out; omega) (HOO.out w24 HB24.out).c (HV.out w24 (HB.out w24 HB24.out)).c)
    go_wp2_with fail
    refine HSL.out.mono ?_
    rintro e w25 ⟨rfl, hb25⟩
    have HB25 : Hid (Below w5.heap.size w5 w25) := HB24.out.trans (hb25.mono HB24.out.size)
    clear hb25 HSL
    go_wp2_with fail
    go_ret
    exact ⟨rfl, HFIN.out _ (HB.out _ HB25.out)⟩
  · have hn0' : n < 0 := by omega
    have hnd : decide (0 ≤ n) = false := decide_eq_false hn0
    clear hn0
    refine wp_region_held_drew (S := fun _ => True) (by kernel_rfl) trivial (fun _ => ?_)
    refine wpAnyH_take (i := 0) (v := ?_) rfl (by kernel_rfl) (by kernel_rfl) (by kernel_rfl) (fun _ _ _ h => h) (Or.inl ⟨by rfl, ?_⟩) trivial ?_
    rotate_left 1
    · (intro W _; go_simp; try rfl)
    try simp only [List.getElem_toArray, List.getElem_cons_zero, Act.put, List.setIfInBounds_toArray, List.set_cons_zero, List.set_cons_succ]
    refine wpAnyH_take (i := 2) (v := ?_) rfl (by kernel_rfl) (by kernel_rfl) (by kernel_rfl) (fun _ _ _ h => h) (Or.inl ⟨by rfl, ?_⟩) trivial ?_
    rotate_left 1
    · (intro W _; go_simp; try rfl)
    try simp only [List.getElem_toArray, List.getElem_cons_zero, List.getElem_cons_succ, Act.put, List.setIfInBounds_toArray, List.set_cons_zero, List.set_cons_succ]
    refine wpAnyH_ready (rs := [1]) (by kernel_rfl) (by simp) ?_
    refine AllReadyH.cons rfl (fun K hK => ?_) AllReadyH.nil
    go_simp
    refine (HCK.out _ (Below.refl _ w5).drew).mono ?_
    rintro e wA ⟨evA, rfl, hevA, hbA⟩
    have HWN : Hid (Below w5.heap.size w5 wA) := (Below.refl _ w5).drew.trans hbA
    clear hbA
    go_simp
    refine hK.out _ _ trivial (fun _ => ?_)
    clear hK K
    try simp only [List.getElem_toArray, List.getElem_cons_zero, List.getElem_cons_succ, Act.put, List.setIfInBounds_toArray, List.set_cons_zero, List.set_cons_succ]
    refine wpAnyH_ready (rs := [3]) (by kernel_rfl) (by simp) ?_
    refine AllReadyH.cons rfl (fun K hK => ?_) AllReadyH.nil
    go_simp
    refine (HNF.out wA HWN.out).mono ?_
    rintro e wB ⟨rfl, hbB⟩
    have HWB : Hid (Below w5.heap.size w5 wB) := HWN.out.trans (hbB.mono HWN.out.size)
    have hevB := (hevA.at).below hbB
    clear hbB hevA HWN
    go_simp
    refine hK.out _ _ trivial (fun _ => ?_)
    clear hK K
    try simp only [List.getElem_toArray, List.getElem_cons_zero, List.getElem_cons_succ, Act.put, List.setIfInBounds_toArray, List.set_cons_zero, List.set_cons_succ]
    refine wpAnyH_ready (rs := [4]) (by kernel_rfl) (by simp) ?_
    refine AllReadyH.cons rfl (fun K hK => ?_) AllReadyH.nil
    go_simp
    refine (HFA.out wB _ ca HWB.out hevB).mono ?_
    rintro e wC ⟨rfl, hbC⟩
    have HWC : Hid (Below w5.heap.size w5 wC) := HWB.out.trans (hbC.mono HWB.out.size)
    clear hbC hevB
    go_simp
    refine hK.out _ _ trivial (fun _ => ?_)
    clear hK K
    try simp only [List.getElem_toArray, List.getElem_cons_zero, List.getElem_cons_succ, Act.put, List.setIfInBounds_toArray, List.set_cons_zero, List.set_cons_succ]
    refine wpAnyH_take (i := 5) (v := ?_) rfl (by kernel_rfl) (by kernel_rfl) (by kernel_rfl) (fun _ _ _ h => h) (Or.inl ⟨by rfl, ?_⟩) trivial ?_
    rotate_left 1
    · (intro W _; go_simp; try rfl)
    try simp only [List.getElem_toArray, List.getElem_cons_zero, List.getElem_cons_succ, Act.put, List.setIfInBounds_toArray, List.set_cons_zero, List.set_cons_succ]
    refine wpAnyH_take (i := 6) (v := ?_) rfl (by kernel_rfl) (by kernel_rfl) (by kernel_rfl) (fun _ _ _ h => h) (Or.inl ⟨by rfl, ?_⟩) trivial ?_
    rotate_left 1
    · (intro W _; go_simp; try rfl)
    try simp only [List.getElem_toArray, List.getElem_cons_zero, List.getElem_cons_succ, Act.put, List.setIfInBounds_toArray, List.set_cons_zero, List.set_cons_succ]
    refine wpAnyH_take (i := 7) (v := ?_) rfl (by kernel_rfl) (by kernel_rfl) (by kernel_rfl) (fun _ _ _ h => h) (Or.inl ⟨by rfl, ?_⟩) trivial ?_
    rotate_left 1
    · (intro W _; go_simp; try rfl)
    try simp only [List.getElem_toArray, List.getElem_cons_zero, List.getElem_cons_succ, Act.put, List.setIfInBounds_toArray, List.set_cons_zero, List.set_cons_succ]
    refine wpAnyH_take (i := 8) (v := ?_) rfl (by kernel_rfl) (by kernel_rfl) (by kernel_rfl) (fun _ _ _ h => h) (Or.inl ⟨by rfl, ?_⟩) trivial ?_
    rotate_left 1
    · (intro W _; go_simp; try rfl)
    try simp only [List.getElem_toArray, List.getElem_cons_zero, List.getElem_cons_succ, Act.put, List.setIfInBounds_toArray, List.set_cons_zero, List.set_cons_succ]
    refine wpAnyH_take (i := 9) (v := ?_) rfl (by kernel_rfl) (by kernel_rfl) (by kernel_rfl) (fun _ _ _ h => h) (Or.inl ⟨by rfl, ?_⟩) trivial ?_
    rotate_left 1
    · (intro W _; go_simp; try rfl)
    try simp only [List.getElem_toArray, List.getElem_cons_zero, List.getElem_cons_succ, Act.put, List.setIfInBounds_toArray, List.set_cons_zero, List.set_cons_succ]
    refine wpAnyH_take (i := 10) (v := undef) rfl (by kernel_rfl) (by kernel_rfl) (by kernel_rfl) (fun _ _ _ h => h) (Or.inr ⟨by rfl, rfl⟩) trivial ?_
    try simp only [List.getElem_toArray, List.getElem_cons_zero, List.getElem_cons_succ, Act.put, List.setIfInBounds_toArray, List.set_cons_zero, List.set_cons_succ]
    refine wpAnyH_take (i := 11) (v := undef) rfl (by kernel_rfl) (by kernel_rfl) (by kernel_rfl) (fun _ _ _ h => h) (Or.inr ⟨by rfl, rfl⟩) trivial ?_
    try simp only [List.getElem_toArray, List.getElem_cons_zero, List.getElem_cons_succ, Act.put, List.setIfInBounds_toArray, List.set_cons_zero, List.set_cons_succ]
    refine wpAnyH_take (i := 12) (v := undef) rfl (by kernel_rfl) (by kernel_rfl) (by kernel_rfl) (fun _ _ _ h => h) (Or.inr ⟨by rfl, rfl⟩) trivial ?_
    try simp only [List.getElem_toArray, List.getElem_cons_zero, List.getElem_cons_succ, Act.put, List.setIfInBounds_toArray, List.set_cons_zero, List.set_cons_succ]
    refine wpAnyH_take (i := 13) (v := undef) rfl (by kernel_rfl) (by kernel_rfl) (by kernel_rfl) (fun _ _ _ h => h) (Or.inr ⟨by rfl, rfl⟩) trivial ?_
    try simp only [List.getElem_toArray, List.getElem_cons_zero, List.getElem_cons_succ, Act.put, List.setIfInBounds_toArray, List.set_cons_zero, List.set_cons_succ]
    refine wpAnyH_take (i := 14) (v := undef) rfl (by kernel_rfl) (by kernel_rfl) (by kernel_rfl) (fun _ _ _ h => h) (Or.inr ⟨by rfl, rfl⟩) trivial ?_
    try simp only [List.getElem_toArray, List.getElem_cons_zero, List.getElem_cons_succ, Act.put, List.setIfInBounds_toArray, List.set_cons_zero, List.set_cons_succ]
    refine wpAnyH_take (i := 15) (v := undef) rfl (by kernel_rfl) (by kernel_rfl) (by kernel_rfl) (fun _ _ _ h => h) (Or.inr ⟨by rfl, rfl⟩) trivial ?_
    try simp only [List.getElem_toArray, List.getElem_cons_zero, List.getElem_cons_succ, Act.put, List.setIfInBounds_toArray, List.set_cons_zero, List.set_cons_succ]
    refine wpAnyH_take (i := 16) (v := undef) rfl (by kernel_rfl) (by kernel_rfl) (by kernel_rfl) (fun _ _ _ h => h) (Or.inr ⟨by rfl, rfl⟩) trivial ?_
    try simp only [List.getElem_toArray, List.getElem_cons_zero, List.getElem_cons_succ, Act.put, List.setIfInBounds_toArray, List.set_cons_zero, List.set_cons_succ]
    refine wpAnyH_take (i := 17) (v := ?_) rfl (by kernel_rfl) (by kernel_rfl) (by kernel_rfl) (fun _ _ _ h => h) (Or.inl ⟨by rfl, ?_⟩) trivial ?_
    rotate_left 1
    · (intro W _; go_simp; try rfl)
    try simp only [List.getElem_toArray, List.getElem_cons_zero, List.getElem_cons_succ, Act.put, List.setIfInBounds_toArray, List.set_cons_zero, List.set_cons_succ]
    refine wpAnyH_take (i := 18) (v := ?_) rfl (by kernel_rfl) (by kernel_rfl) (by kernel_rfl) (fun _ _ _ h => h) (Or.inl ⟨by rfl, ?_⟩) trivial ?_
    rotate_left 1
    · (intro W _; go_simp; try rfl)
    try simp only [List.getElem_toArray, List.getElem_cons_zero, List.getElem_cons_succ, Act.put, List.setIfInBounds_toArray, List.set_cons_zero, List.set_cons_succ]
    refine wpAnyH_done (by kernel_rfl) ?_ _
    clear hn0' hnd
    have HBq : Hid (Below w5.heap.size w5 wC) := HWC.out
    clear x0 x1
    obtain ⟨x0, x1⟩ := HXX.out wC HBq.out
    have HOF := hideN (ownOf_any a i HPI.out HLI.out _ l wC (by have := HTEN.out; omega) (HOO.out wC HBq.out).c ((HE.out wC (HB.out wC HBq.out)).sub (M := [1, 2, 4, 7]) (by decide)) (HT.out wC (HB.out wC HBq.out)))
    have HRO : Hid (∀ W, Below w5.heap.size w5 W → Calls Tryd.prog 16 #[.slice p l.length c, idV (i.1 : Nat) i.2] W fun e w' => e = .returned (.tuple #[.int .i64 (ownAns i l).1, faultV (ownAns i l).2.1 (ownAns i l).2.2]) ∧ Below W.heap.size W w') := fun W hb => refOwner_any i HPI.out HLI.out _ l W (by have := HTEN.out; omega) (HV.out W (HB.out W hb)).c
    obtain ⟨⟨ow, oc, oq⟩, hoa⟩ : ∃ oa, ownAns i l = oa := ⟨_, rfl⟩
    rw [hoa] at HOF HRO
    simp only at HOF HRO
    clear hoa
    go_wp2_with fail
    refine HOF.out.mono ?_
    rintro e w6 ⟨ev6, rfl, hev6, hb6⟩
    have HB6 : Hid (Below w5.heap.size w5 w6) := HBq.out.trans (hb6.mono HBq.out.size)
    have HEV6 := hideN hev6.at
    have hsh6 : ∃ v, ev6 = v := ⟨_, rfl⟩
    clear hev6 hb6 HOF x0 x1 hsh6
    obtain ⟨x0, x1⟩ := HXX.out w6 HB6.out
    go_wp2_with fail
    refine (HRO.out w6 HB6.out).mono ?_
    rintro e w7 ⟨rfl, hb7⟩
    have HB7 : Hid (Below w5.heap.size w5 w7) := HB6.out.trans (hb7.mono HB6.out.size)
    have HEV7 := hideN (HEV6.out.below hb7)
    clear hb7 HRO x0 x1
    have hal8 := (Below.refl w7.heap.size w7).alloc (Nat.le_refl _) (.cells #[.int .i64 oc, .int .i64 oq] 39)
    have HB8 : Hid (Below w5.heap.size w5 _) := hideN (HB7.out.trans (hal8.mono HB7.out.size))
    have HF8 := hideN (Blk.new w7 #[.int .i64 oc, .int .i64 oq] 39)
    have HEV8 := hideN (HEV7.out.below hal8)
    have HFB : Hid (w5.heap.size ≤ w7.heap.size) := HB7.out.size
    have k0 := HF8.out.cell (i := 0) rfl
    have k1 := HF8.out.cell (i := 1) rfl
    have HFC8 := hideN (HFA.out _ ev6 (oc, oq) HB8.out HEV8.out)
    clear hal8
    have hoo : (ow == ow) = true := by simp
    have hoo2 : (ow != ow) = false := by simp
    go_wp2_with fail
    refine HFC8.out.mono ?_
    rintro e w9 ⟨rfl, hb9⟩
    have HB9 : Hid (Below w5.heap.size w5 w9) := HB8.out.trans (hb9.mono HB8.out.size)
    have HF9 := hideN (HF8.out.next hb9)
    clear hb9 HFC8 k0 k1
    have HJO := hideN (ownJoin_any a _ l n w9 (by have := HTEN.out; omega) (HOO.out w9 HB9.out) ((HE.out w9 (HB.out w9 HB9.out)).sub (M := [1, 4, 5, 7]) (by decide)))
    unfold JoinPost at HJO
    go_wp2_with fail
    refine HJO.out.mono ?_
    rintro e w10 ⟨v10, ev10, rfl, hev10, hv10, hb10, hf10⟩
    have HB10 : Hid (Below w5.heap.size w5 w10) := HB9.out.trans (hb10.mono HB9.out.size)
    have HF10 := hideN (HF9.out.next hb10)
    have HEV10 : Hid (ErrIn (w7.heap.size + 1) w10 a ev10 (joinAns l n).2) := hev10.low (by have := HF9.out.lt; omega)
    have HV10 := hideN hv10
    have HN10 : Hid (∀ k, v10.ownBlock = some k → w7.heap.size < k) := fun k hk => by have h1 := hf10 k hk; have h2 := HF9.out.lt; omega
    have HJR := hideN (refJoin_any _ l n w10 (by have := HTEN.out; omega) (HV.out w10 (HB.out w10 HB10.out)))
    unfold RefPost at HJR
    clear hev10 hv10 hb10 hf10 HJO hoo hoo2
    obtain ⟨p10, c10, hv10⟩ := HV10.out.shape
    subst hv10
    go_wp2_with fail
    refine HJR.out.mono ?_
    rintro e w11 ⟨v11, rfl, hv11, hb11, hf11⟩
    have HB11 : Hid (Below w5.heap.size w5 w11) := HB10.out.trans (hb11.mono HB10.out.size)
    have HF11 := hideN (HF10.out.next hb11)
    have HEV11 := hideN (HEV10.out.below hb11)
    have HV11 := hideN (HV10.out.below hb11)
    have HU11 := hideN hv11
    have HN11 : Hid (∀ k, v11.ownBlock = some k → w7.heap.size < k) := fun k hk => by have h1 := hf11 k hk; have h2 := HF10.out.lt; omega
    clear hv11 hb11 hf11 HJR
    obtain ⟨p11, c11, hv11⟩ := HU11.out.shape
    subst hv11
    obtain ⟨⟨jl, jc, jq⟩, hja⟩ : ∃ ja, joinAns l n = ja := ⟨_, rfl⟩
    rw [hja] at HEV11 HV11 HU11 HN10 HN11 ⊢
    simp only at HEV11 HV11 HU11 HN10 HN11 ⊢
    have HJL : Hid (jl.length ≤ 1000) := by
      show _ ≤ _
      have : (joinAns l n).1 = jl := by rw [hja]
      rw [← this]
      have h1 := HTEN.out
      unfold joinAns
      split
      · simp
      · split
        · simp
        · split
          · simp
          · show (nIns l n).length ≤ 1000
            unfold nIns
            rw [List.length_append, List.length_take, List.length_cons, List.length_drop]
            omega
    clear hja
    have q0 := HF11.out.cell (i := 0) rfl
    have q1 := HF11.out.cell (i := 1) rfl
    have f0 := HF11.out.frozen 0
    have f1 := HF11.out.frozen 1
    have HF12 := hideN ((HF11.out.set 0 (.int .i64 jc)).set 1 (.int .i64 jq))
    have HB12 : Hid (Below w5.heap.size w5 _) := hideN ((HB11.out.setCell (p := ⟨w7.heap.size, 0, none⟩) HFB.out (.int .i64 jc)).setCell (p := ⟨w7.heap.size, 1, none⟩) HFB.out (.int .i64 jq))
    have HEV12 := hideN (((HEV11.out.setCell (x := ⟨w7.heap.size, 0, none⟩) (Nat.lt_succ_self _) (.int .i64 jc)).setCell (x := ⟨w7.heap.size, 1, none⟩) (Nat.lt_succ_self _) (.int .i64 jq)).at)
    have HV12 := hideN ((HV11.out.set (p := ⟨w7.heap.size, 0, none⟩) (fun k hk => Nat.ne_of_gt (HN10.out k hk)) (.int .i64 jc)).set (p := ⟨w7.heap.size, 1, none⟩) (fun k hk => Nat.ne_of_gt (HN10.out k hk)) (.int .i64 jq))
    have HU12 := hideN ((HU11.out.set (p := ⟨w7.heap.size, 0, none⟩) (fun k hk => Nat.ne_of_gt (HN11.out k hk)) (.int .i64 jc)).set (p := ⟨w7.heap.size, 1, none⟩) (fun k hk => Nat.ne_of_gt (HN11.out k hk)) (.int .i64 jq))
    have HFC12 := hideN (HFA.out _ ev10 (jc, jq) HB12.out HEV12.out)
    have k0 := HF12.out.cell (i := 0) rfl
    have k1 := HF12.out.cell (i := 1) rfl
    go_wp2_with fail
    refine HFC12.out.mono ?_
    rintro e w13 ⟨rfl, hb13⟩
    have HB13 : Hid (Below w5.heap.size w5 w13) := HB12.out.trans (hb13.mono HB12.out.size)
    have HF13 := hideN (HF12.out.next hb13)
    have HSA := hideN (sameIntsC _ _ jl w13 (by have := HJL.out; omega) (HV12.out.below hb13).c (HU12.out.below hb13).c)
    clear hb13 HFC12 k0 k1 q0 q1 f0 f1 HF11 HB11 HEV11 HV11 HU11 HF12 HB12 HEV12 HV12 HU12 HF10 HB10 HV10 HEV10
    go_wp2_with fail
    refine HSA.out.mono ?_
    rintro e w14 ⟨rfl, hb14⟩
    have HB14 : Hid (Below w5.heap.size w5 w14) := HB13.out.trans (hb14.mono HB13.out.size)
    have HF14 := hideN (HF13.out.next hb14)
    clear hb14 HSA
    have HLO := hideN (ownLeave_any a _ l n w14 (by have := HTEN.out; omega) (HOO.out w14 HB14.out) ((HE.out w14 (HB.out w14 HB14.out)).sub (M := [1, 4, 7]) (by decide)))
    unfold JoinPost at HLO
    go_wp2_with fail
    refine HLO.out.mono ?_
    rintro e w20 ⟨v20, ev20, rfl, hev20, hv20, hb20, hf20⟩
    have HB20 : Hid (Below w5.heap.size w5 w20) := HB14.out.trans (hb20.mono HB14.out.size)
    have HF20 := hideN (HF14.out.next hb20)
    have HEV20 : Hid (ErrIn (w7.heap.size + 1) w20 a ev20 (leaveAns l n).2) := hev20.low (by have := HF14.out.lt; omega)
    have HV20 := hideN hv20
    have HN20 : Hid (∀ k, v20.ownBlock = some k → w7.heap.size < k) := fun k hk => by have h1 := hf20 k hk; have h2 := HF14.out.lt; omega
    have HLR := hideN (refLeave_any _ l n w20 (by have := HTEN.out; omega) (HV.out w20 (HB.out w20 HB20.out)))
    unfold RefPost at HLR
    clear hev20 hv20 hb20 hf20 HLO
    obtain ⟨p20, c20, hv20⟩ := HV20.out.shape
    subst hv20
    go_wp2_with fail
    refine HLR.out.mono ?_
    rintro e w21 ⟨v21, rfl, hv21, hb21, hf21⟩
    have HB21 : Hid (Below w5.heap.size w5 w21) := HB20.out.trans (hb21.mono HB20.out.size)
    have HF21 := hideN (HF20.out.next hb21)
    have HEV21 := hideN (HEV20.out.below hb21)
    have HV21 := hideN (HV20.out.below hb21)
    have HU21 := hideN hv21
    have HN21 : Hid (∀ k, v21.ownBlock = some k → w7.heap.size < k) := fun k hk => by have h1 := hf21 k hk; have h2 := HF20.out.lt; omega
    clear hv21 hb21 hf21 HLR
    obtain ⟨p21, c21, hv21⟩ := HU21.out.shape
    subst hv21
    obtain ⟨⟨ll, lc, lq⟩, hla⟩ : ∃ la, leaveAns l n = la := ⟨_, rfl⟩
    rw [hla] at HEV21 HV21 HU21 HN20 HN21 ⊢
    simp only at HEV21 HV21 HU21 HN20 HN21 ⊢
    have HLL : Hid (ll.length ≤ 1000) := by
      show _ ≤ _
      have : (leaveAns l n).1 = ll := by rw [hla]
      rw [← this]
      have h1 := HTEN.out
      unfold leaveAns
      split
      · simp
      · split
        · show (nDel l n).length ≤ 1000
          have : (nDel l n).length ≤ l.length := List.length_filter_le _ _
          omega
        · simp
    clear hla
    have q0 := HF21.out.cell (i := 0) rfl
    have q1 := HF21.out.cell (i := 1) rfl
    have f0 := HF21.out.frozen 0
    have f1 := HF21.out.frozen 1
    have HF22 := hideN ((HF21.out.set 0 (.int .i64 lc)).set 1 (.int .i64 lq))
    have HB22 : Hid (Below w5.heap.size w5 _) := hideN ((HB21.out.setCell (p := ⟨w7.heap.size, 0, none⟩) HFB.out (.int .i64 lc)).setCell (p := ⟨w7.heap.size, 1, none⟩) HFB.out (.int .i64 lq))
    have HEV22 := hideN (((HEV21.out.setCell (x := ⟨w7.heap.size, 0, none⟩) (Nat.lt_succ_self _) (.int .i64 lc)).setCell (x := ⟨w7.heap.size, 1, none⟩) (Nat.lt_succ_self _) (.int .i64 lq)).at)
    have HV22 := hideN ((HV21.out.set (p := ⟨w7.heap.size, 0, none⟩) (fun k hk => Nat.ne_of_gt (HN20.out k hk)) (.int .i64 lc)).set (p := ⟨w7.heap.size, 1, none⟩) (fun k hk => Nat.ne_of_gt (HN20.out k hk)) (.int .i64 lq))
    have HU22 := hideN ((HU21.out.set (p := ⟨w7.heap.size, 0, none⟩) (fun k hk => Nat.ne_of_gt (HN21.out k hk)) (.int .i64 lc)).set (p := ⟨w7.heap.size, 1, none⟩) (fun k hk => Nat.ne_of_gt (HN21.out k hk)) (.int .i64 lq))
    have HFC22 := hideN (HFA.out _ ev20 (lc, lq) HB22.out HEV22.out)
    have k0 := HF22.out.cell (i := 0) rfl
    have k1 := HF22.out.cell (i := 1) rfl
    go_wp2_with fail
    refine HFC22.out.mono ?_
    rintro e w23 ⟨rfl, hb23⟩
    have HB23 : Hid (Below w5.heap.size w5 w23) := HB22.out.trans (hb23.mono HB22.out.size)
    have HSA := hideN (sameIntsC _ _ ll w23 (by have := HLL.out; omega) (HV22.out.below hb23).c (HU22.out.below hb23).c)
    clear hb23 HFC22 k0 k1 q0 q1 f0 f1 HF21 HB21 HEV21 HV21 HU21 HF22 HB22 HEV22 HV22 HU22
    go_wp2_with fail
    refine HSA.out.mono ?_
    rintro e w24 ⟨rfl, hb24⟩
    have HB24 : Hid (Below w5.heap.size w5 w24) := HB23.out.trans (hb24.mono HB23.out.size)
    clear hb24 HSA
    have HSL := hideN (sameIntsC _ _ l w24 (by have := HTEN.out; omega) (HOO.out w24 HB24.out).c (HV.out w24 (HB.out w24 HB24.out)).c)
    go_wp2_with fail
    refine HSL.out.mono ?_
    rintro e w25 ⟨rfl, hb25⟩
    have HB25 : Hid (Below w5.heap.size w5 w25) := HB24.out.trans (hb25.mono HB24.out.size)
    clear hb25 HSL
    go_wp2_with fail
    go_ret
    exact ⟨rfl, HFIN.out _ (HB.out _ HB25.out)⟩
end Go.Proofs.YtcbcjefefmbccabDoor
