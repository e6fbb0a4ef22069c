/-
  Own text. The document's NodesFault and OwnerOf by contracts.
-/
import Derived.Test.YtcbcjefefmbccabDoorT06
namespace Go.Proofs.YtcbcjefefmbccabDoor
open Go.RowKit

set_option maxRecDepth 100000 in
set_option maxHeartbeats 4000000 in
theorem refNodes_any (vl : Value) (l : List Int) (w : World) (hlen : l.length ≤ 1000) (hv : IntsC w vl l) :
    Calls Tryd.prog 13 #[vl] w fun e w' => e = .returned (faultV (checkAns' l).1 (checkAns' l).2) ∧ Below w.heap.size w w' := by
  have hal := (Below.refl w.heap.size w).alloc (Nat.le_refl _) (.cells #[.int .i64 0, .int .i64 0] 39)
  have HRB := hideN (Blk.new w #[.int .i64 0, .int .i64 0] 39)
  have HNF := hideN (nodesFault_any vl l _ hlen (hv.below hal))
  have HAL := hideN hal
  have hll : (l.length : Int) ≤ 1000 := by omega
  obtain ⟨p, c, rfl, _⟩ := hv
  rw [List.length_map] at HNF ⊢
  by_cases h0 : l.length = 0
  · have hr : checkAns' l = (5, -1) := by unfold checkAns'; rw [if_pos h0]
    rw [h0, hr]
    clear hal hr HNF h0 hll
    go_enter Tryd.func13, Tryd.ntmps13
    go_wp2_with fail
    refine (bare_any 5 _).mono ?_
    rintro e w2 ⟨rfl, hb2⟩
    have HB2 : Hid (Below w.heap.size w w2) := HAL.out.trans (hb2.mono HAL.out.size)
    have HR2 := hideN (HRB.out.next hb2)
    clear hb2
    have q0 := HR2.out.cell (i := 0) rfl
    have q1 := HR2.out.cell (i := 1) rfl
    have f0 := HR2.out.frozen 0
    have f1 := HR2.out.frozen 1
    go_wp2_with fail
    exact bodyPost_ret (v := faultV 5 (-1)) (by simp [results, Tryd.results13, go_sem, q0, q1]) rfl ⟨rfl, (HB2.out.setCell (p := ⟨w.heap.size, 0, none⟩) (by simp) _).setCell (p := ⟨w.heap.size, 1, none⟩) (by simp) _⟩
  · have hr : checkAns' l = nodesAns l := by unfold checkAns'; rw [if_neg h0]
    rw [hr]
    obtain ⟨c1, p1, hcp⟩ : ∃ c1 p1, nodesAns l = (c1, p1) := ⟨_, _, rfl⟩
    rw [hcp] at HNF ⊢
    have hz : ((l.length : Int) == 0) = false := beq_eq_false_iff_ne.2 (by omega)
    clear hal hr h0 hcp
    go_enter Tryd.func13, Tryd.ntmps13
    go_wp2_with fail
    refine HNF.out.mono ?_
    rintro e w2 ⟨rfl, hb2⟩
    have HB2 : Hid (Below w.heap.size w w2) := HAL.out.trans (hb2.mono HAL.out.size)
    have HR2 := hideN (HRB.out.next hb2)
    clear hb2 HNF
    have q0 := HR2.out.cell (i := 0) rfl
    have q1 := HR2.out.cell (i := 1) rfl
    have f0 := HR2.out.frozen 0
    have f1 := HR2.out.frozen 1
    go_wp2_with fail
    exact bodyPost_ret (v := faultV c1 p1) (by simp [results, Tryd.results13, go_sem, q0, q1]) rfl ⟨rfl, (HB2.out.setCell (p := ⟨w.heap.size, 0, none⟩) (by simp) _).setCell (p := ⟨w.heap.size, 1, none⟩) (by simp) _⟩
/- The blocks of OwnerOf: the ID, the result's fault, the fault f. -/
theorem isB_last (sc : Int → Nat) {l : List Int} {k : Nat} (hk : k < l.length) (h : k + 1 = l.length) : IsB sc (l.drop k) l[k] := by
  rw [List.drop_eq_getElem_cons hk, List.drop_of_length_le (by omega)]
  exact ⟨by simp, fun y hy => by simp at hy; subst hy; exact ⟨Nat.le_refl _, fun _ => Int.le_refl _⟩⟩
set_option maxRecDepth 100000 in
set_option maxHeartbeats 8000000 in
theorem refOwner_any (i : Nat × Int) (hp : i.1 < 4294967296) (hl : i.2 ≤ 9223372036854775807) (vl : Value) (l : List Int) (w : World) (hlen : l.length ≤ 1000) (hv : IntsC w vl l) :
    Calls Tryd.prog 16 #[vl, idV (i.1 : Nat) i.2] w fun e w' => e = .returned (.tuple #[.int .i64 (ownAns i l).1, faultV (ownAns i l).2.1 (ownAns i l).2.2]) ∧ Below w.heap.size w w' := by
  have hal1 := (Below.refl w.heap.size w).alloc (Nat.le_refl _) (.cells #[.int .u32 (i.1 : Nat), .int .i64 i.2] 25)
  have hX0 := Blk.new w #[.int .u32 (i.1 : Nat), .int .i64 i.2] 25
  have hal2 := hal1.alloc hal1.size (.cells #[.int .i64 0, .int .i64 0] 39)
  have hR0 := Blk.new (w.alloc (.cells #[.int .u32 (i.1 : Nat), .int .i64 i.2] 25)) #[.int .i64 0, .int .i64 0] 39
  rw [show (w.alloc (.cells #[.int .u32 (i.1 : Nat), .int .i64 i.2] 25)).heap.size = w.heap.size + 1 by simp] at hR0
  have hX0' := hX0.next ((Below.refl _ _).alloc (Nat.le_refl _) (.cells #[.int .i64 0, .int .i64 0] 39))
  have HNF := hideN (refNodes_any vl l _ hlen (hv.below hal2))
  have HAL := hideN hal2
  have HX := hideN hX0'
  have HR := hideN hR0
  have HV : Hid (∀ W, Below w.heap.size w W → IntsC W vl l) := fun W hb => hv.below hb
  have hll : (l.length : Int) ≤ 1000 := by omega
  obtain ⟨p, c, rfl, _⟩ := hv
  rw [List.length_map] at HNF HV ⊢
  clear hal1 hX0 hal2 hR0 hX0'
  by_cases hbad : (checkAns' l).1 ≠ 0
  · have hr : ownAns i l = (0, checkAns' l) := by unfold ownAns; rw [if_pos hbad]
    rw [hr]
    have hpos : 0 < (checkAns' l).1 := by
      unfold checkAns' at hbad ⊢
      split
      · decide
      · rename_i h0
        rcases nodesAns_code l with ⟨h, _⟩ | ⟨k, _, h, h2⟩
        · rw [if_neg h0, h] at hbad
          exact absurd rfl hbad
        · rw [h]; show 0 < nodeErr l k; omega
    obtain ⟨c1, p1, hcp⟩ : ∃ c1 p1, checkAns' l = (c1, p1) := ⟨_, _, rfl⟩
    rw [hcp] at HNF hpos ⊢
    simp only at HNF hpos ⊢
    clear hr hbad hcp
    go_enter Tryd.func16, Tryd.ntmps16
    go_wp2_with fail
    refine HNF.out.mono ?_
    rintro e w2 ⟨rfl, hb2⟩
    have HB2 : Hid (Below w.heap.size w w2) := HAL.out.trans (hb2.mono HAL.out.size)
    have HR2 := hideN (HR.out.next hb2)
    clear hb2 HNF HX HR
    have q0 := HR2.out.cell (i := 0) rfl
    have q1 := HR2.out.cell (i := 1) rfl
    have f0 := HR2.out.frozen 0
    have f1 := HR2.out.frozen 1
    have hlt2 := HR2.out.lt
    go_wp2_with fail
    have HAL3 := hideN ((Below.refl w2.heap.size w2).alloc (Nat.le_refl _) (.cells #[.int .i64 c1, .int .i64 p1] 39))
    have HF3 := hideN (Blk.new w2 #[.int .i64 c1, .int .i64 p1] 39)
    have HR3 := hideN (HR2.out.next HAL3.out)
    have HB3 : Hid (Below w.heap.size w _) := hideN (HB2.out.trans (HAL3.out.mono HB2.out.size))
    obtain ⟨FB, hFB⟩ : ∃ FB, w2.heap.size = FB := ⟨_, rfl⟩
    have hne : w.heap.size + 1 ≠ FB := by omega
    rw [hFB] at HF3 ⊢
    obtain ⟨W3, hW3⟩ : ∃ W3, w2.alloc (.cells #[.int .i64 c1, .int .i64 p1] 39) = W3 := ⟨_, rfl⟩
    rw [hW3] at HF3 HR3 HB3 ⊢
    clear hW3 hFB HAL3 q0 q1 f0 f1 hlt2
    have k0 := HF3.out.cell (i := 0) rfl
    have k1 := HF3.out.cell (i := 1) rfl
    have q0 := HR3.out.cell (i := 0) rfl
    have q1 := HR3.out.cell (i := 1) rfl
    have f0 := HR3.out.frozen 0
    have f1 := HR3.out.frozen 1
    go_region
    all_goals go_wp2_with fail
    all_goals exact bodyPost_ret (v := .tuple #[.int .i64 0, faultV c1 p1]) (by simp [results, Tryd.results16, go_sem, q0, q1]) rfl ⟨rfl, ((HB3.out.setCell (p := ⟨w.heap.size + 1, 0, none⟩) (by simp) _).setCell (p := ⟨w.heap.size + 1, 1, none⟩) (by simp) _).drew⟩
  have hc0 : checkAns' l = (0, (checkAns' l).2) := Prod.ext (Classical.not_not.1 hbad) rfl
  obtain ⟨hn, hne⟩ := checkAns_of hc0
  rw [checkAns_ok hn hne] at HNF
  simp only at HNF
  have HN := hideN hn
  have hans : ownAns i l = if i.2 < 0 then (0, (3, -1)) else (bestOf (score i) l, (0, -1)) := by
    unfold ownAns
    rw [checkAns_ok hn hne, if_neg (by simp)]
  have HANS := hideN hans
  obtain ⟨RES, hRES⟩ : ∃ R, ownAns i l = R := ⟨_, rfl⟩
  rw [hRES] at HANS ⊢
  have HPOS : Hid (0 < l.length) := List.length_pos_iff.2 hne
  have HPI := hideN hp
  have HLI := hideN hl
  clear hbad hc0 hn hne hans hRES hp hl
  go_enter Tryd.func16, Tryd.ntmps16
  go_wp2_with fail
  refine HNF.out.mono ?_
  rintro e w2 ⟨rfl, hb2⟩
  have HB2 : Hid (Below w.heap.size w w2) := HAL.out.trans (hb2.mono HAL.out.size)
  have HR2 := hideN (HR.out.next hb2)
  have HX2 := hideN (HX.out.next hb2)
  clear hb2 HNF HX HR HAL
  have x1 := HX2.out.cell (i := 1) rfl
  have hlt2 := HR2.out.lt
  have hltx := HX2.out.lt
  have HAL3 := hideN ((Below.refl w2.heap.size w2).alloc (Nat.le_refl _) (.cells #[.int .i64 0, .int .i64 (-1)] 39))
  have HF3 := hideN (Blk.new w2 #[.int .i64 0, .int .i64 (-1)] 39)
  have HR3 := hideN (HR2.out.next HAL3.out)
  have HX3 := hideN (HX2.out.next HAL3.out)
  have HB3 : Hid (Below w.heap.size w _) := hideN (HB2.out.trans (HAL3.out.mono HB2.out.size))
  have HFB : Hid (w.heap.size + 1 < w2.heap.size) := hlt2
  by_cases hneg : i.2 < 0
  · have HRR : Hid (RES = (0, (3, -1))) := by show _ = _; rw [HANS.out, if_pos hneg]
    clear HANS
    go_wp2_with fail
    refine (bare_any 3 _).mono ?_
    rintro e w4 ⟨rfl, hb4⟩
    have HB4 : Hid (Below w.heap.size w w4) := HB3.out.trans (hb4.mono HB3.out.size)
    have HR4 := hideN (HR3.out.next hb4)
    clear hb4 x1 hlt2 hltx
    have q0 := HR4.out.cell (i := 0) rfl
    have q1 := HR4.out.cell (i := 1) rfl
    have f0 := HR4.out.frozen 0
    have f1 := HR4.out.frozen 1
    go_wp2_with fail
    exact bodyPost_ret (v := .tuple #[.int .i64 0, faultV 3 (-1)]) (by simp [results, Tryd.results16, go_sem, q0, q1]) rfl ⟨by rw [HRR.out], (HB4.out.setCell (p := ⟨w.heap.size + 1, 0, none⟩) (by simp) _).setCell (p := ⟨w.heap.size + 1, 1, none⟩) (by simp) _⟩
  have HRR : Hid (RES = (bestOf (score i) l, (0, -1))) := by show _ = _; rw [HANS.out, if_neg hneg]
  obtain ⟨m, hm⟩ : ∃ m, l.length - 1 = m := ⟨_, rfl⟩
  have hml : m < l.length := by have := HPOS.out; omega
  have hml' : (m : Int) < (l.length : Int) := by omega
  have hm0 : (0 : Int) ≤ (m : Int) := by omega
  have hwm : IntKind.i64.wrap ((l.length : Int) - 1) = (m : Int) := by rw [IntKind.wrap_i64]; have := HPOS.out; omega
  have hwm2 : ((l.length : Int) - 1) = (m : Int) := by have := HPOS.out; omega
  have hc : ∀ W, Below w.heap.size w W → ∃ b o, p = some ⟨b, o, none⟩ ∧ ∀ W, Below w.heap.size w W → ∀ k (h : k < l.length), W.cell? ⟨b, o + k, none⟩ = some (.int .i64 l[k]) := fun W hb => by
    obtain ⟨_, _, hve, hcell⟩ := HV.out w (Below.refl _ _)
    obtain ⟨rfl, rfl⟩ : p = _ ∧ c = _ := by simpa using hve
    obtain ⟨b, o, rfl, _, _⟩ := hcell 0 (by rw [List.length_map]; exact HPOS.out)
    refine ⟨b, o, rfl, fun W hb k hk => ?_⟩
    obtain ⟨_, _, hve, hcell⟩ := HV.out W hb
    obtain ⟨b', o', hp, _, hc⟩ := hcell k (by rw [List.length_map]; exact hk)
    simp only [Value.slice.injEq] at hve
    obtain ⟨hve, _, _⟩ := hve
    rw [← hve] at hp
    obtain ⟨rfl, rfl⟩ : b = b' ∧ o = o' := by simpa using hp
    rw [List.getElem_map] at hc
    exact hc
  obtain ⟨b, o, rfl, hcell⟩ := hc w (Below.refl _ _)
  have HC := hideN hcell
  have HMB : Hid (∀ k (h : k < l.length), 0 ≤ l[k] ∧ l[k] ≤ 9223372036854775807) := fun k h => by have := HN.out.1 l[k] (List.getElem_mem h); omega
  obtain ⟨W3, hW3⟩ : ∃ W3, w2.alloc (.cells #[.int .i64 0, .int .i64 (-1)] 39) = W3 := ⟨_, rfl⟩
  rw [hW3] at HF3 HR3 HX3 HB3
  have hcm := HC.out W3 HB3.out m hml
  have x13 := HX3.out.cell (i := 1) rfl
  obtain ⟨y, hy⟩ : ∃ y, l[m]'hml = y := ⟨_, rfl⟩
  have HY : Hid (∀ h : m < l.length, l[m]'h = y) := fun h => hy
  rw [hy] at hcm
  have HSC : Hid (∀ x W, 0 ≤ x → x ≤ 9223372036854775807 → Calls Tryd.prog 15 #[.int .i64 x, idV (i.1 : Nat) i.2] W fun e w' => e = .returned (.int .u32 (score i x : Nat)) ∧ Below W.heap.size W w') := fun x W h1 h2 => refScore_any i HPI.out HLI.out x h1 h2 W
  have HLAST : Hid (m + 1 = l.length) := by show _ = _; have := HPOS.out; omega
  have k03 := HF3.out.cell (i := 0) rfl
  clear hc hcell hy HANS hm HAL3 hml
  go_wp2_with fail
  try rw [hW3]
  clear hW3 x1 hlt2 hltx x13 k03 hcm hneg
  have HFBN : Hid (w.heap.size + 1 ≠ w2.heap.size) := by have := HFB.out; show _ ≠ _; omega
  obtain ⟨FB, hFB⟩ : ∃ FB, w2.heap.size = FB := ⟨_, rfl⟩
  rw [hFB] at HF3 HFBN ⊢
  clear hFB HFB
  go_loopw [7, 8] (fun mv iv wr => ∃ (k : Nat) (iz bz : Int), k ≤ l.length ∧ iz = (k : Int) - 1 ∧ iv = .int .i64 iz ∧ mv = .int .i64 bz ∧ Hid (bz ∈ l) ∧ Hid (k = l.length → bz = y) ∧ Hid (k < l.length → IsB (score i) (l.drop k) bz) ∧ Hid (Below W3.heap.size W3 wr)) (fun _ iv _ => (intOf iv + 1).toNat)
  case atStart => exact ⟨l.length, m, y, Nat.le_refl _, by have := HLAST.out; omega, rfl, rfl, by rw [← HY.out (by have := HLAST.out; omega)]; exact List.getElem_mem _, fun _ => rfl, fun h => absurd h (Nat.lt_irrefl _), Below.refl _ _⟩
  case round =>
    obtain ⟨k, iz, bz, hk, hiz, rfl, rfl, HM, HL0, HL1, HBr⟩ := hrel
    have HBW : Hid (Below w.heap.size w wr) := HB3.out.trans (HBr.out.mono HB3.out.size)
    have HIZ := hideN hiz
    by_cases hk0 : k = 0
    · subst hk0
      have hz : ¬ (0 : Int) ≤ iz := by omega
      have HBB : Hid (bz = bestOf (score i) l) := by
        have h1 := HL1.out (by have := HPOS.out; omega)
        rw [List.drop_zero] at h1
        exact h1.uniq (bestOf_isB _ HN.out (List.length_pos_iff.1 HPOS.out))
      have HR4 := hideN (HR3.out.next HBr.out)
      have HF4 := hideN (HF3.out.next HBr.out)
      have hfbn := HFBN.out
      have k0 := HF4.out.cell (i := 0) rfl
      have k1 := HF4.out.cell (i := 1) rfl
      have q0 := HR4.out.cell (i := 0) rfl
      have q1 := HR4.out.cell (i := 1) rfl
      have f0 := HR4.out.frozen 0
      have f1 := HR4.out.frozen 1
      clear hiz hk
      go_wp2_with fail
      go_region
      all_goals go_wp2_with fail
      all_goals exact bodyPost_ret (v := .tuple #[.int .i64 bz, faultV 0 (-1)]) (by simp [results, Tryd.results16, go_sem, q0, q1]) rfl ⟨by rw [HRR.out, HBB.out], ((HBW.out.setCell (p := ⟨w.heap.size + 1, 0, none⟩) (by simp) _).setCell (p := ⟨w.heap.size + 1, 1, none⟩) (by simp) _).drew⟩
    · obtain ⟨j, rfl⟩ : ∃ j, k = j + 1 := ⟨k - 1, by omega⟩
      have hjl : j < l.length := hk
      have hiz' : iz = (j : Int) := by omega
      subst hiz'
      have hj0 : (0 : Int) ≤ (j : Int) := by omega
      have hjl' : (j : Int) < (l.length : Int) := by omega
      have HCJ : Hid (∀ W, Below wr.heap.size wr W → W.cell? ⟨b, o + j, none⟩ = some (.int .i64 (l[j]'hjl)) ∧ W.cell? ⟨w.heap.size, 0, none⟩ = some (.int .u32 (i.1 : Nat)) ∧ W.cell? ⟨w.heap.size, 1, none⟩ = some (.int .i64 i.2)) := fun W hb => by
        have hx := (HX3.out.next HBr.out).next hb
        exact ⟨HC.out W (HBW.out.trans (hb.mono HBW.out.size)) j hjl, hx.cell (i := 0) rfl, hx.cell (i := 1) rfl⟩
      have HSX := hideN (fun W => HSC.out (l[j]'hjl) W (HMB.out j hjl).1 (HMB.out j hjl).2)
      have HSB : Hid (∀ W, Calls Tryd.prog 15 #[.int .i64 bz, idV (i.1 : Nat) i.2] W fun e w' => e = .returned (.int .u32 (score i bz : Nat)) ∧ Below W.heap.size W w') := fun W => by
        have := HN.out.1 bz HM.out
        exact HSC.out bz W (by omega) (by omega)
      have HXM : Hid ((l[j]'hjl) ∈ l) := List.getElem_mem hjl
      have HNEW : Hid (∀ bz', bz' = (if score i bz ≤ score i (l[j]'hjl) then (l[j]'hjl) else bz) → IsB (score i) (l.drop j) bz') := fun bz' e => by
        rw [e]
        by_cases hlast : j + 1 = l.length
        · have h1 := HL0.out hlast
          have h2 : l[j]'hjl = bz := by
            rw [h1]
            have h3 : j = m := by have := HLAST.out; omega
            subst h3
            exact HY.out hjl
          rw [← h2]
          simp only [Nat.le_refl, if_true]
          exact isB_last (score i) hjl hlast
        · exact isB_back (score i) HN.out hjl (HL1.out (by omega))
      obtain ⟨x, hx⟩ : ∃ x, l[j]'hjl = x := ⟨_, rfl⟩
      rw [hx] at HSX HXM HNEW
      have HCJ2 : Hid (∀ W, Below wr.heap.size wr W → W.cell? ⟨b, o + j, none⟩ = some (.int .i64 x) ∧ W.cell? ⟨w.heap.size, 0, none⟩ = some (.int .u32 (i.1 : Nat)) ∧ W.cell? ⟨w.heap.size, 1, none⟩ = some (.int .i64 i.2)) := fun W hb => by
        have := HCJ.out W hb
        rw [hx] at this
        exact this
      obtain ⟨sx, hsx⟩ : ∃ s, score i x = s := ⟨_, rfl⟩
      obtain ⟨sb, hsb⟩ : ∃ s, score i bz = s := ⟨_, rfl⟩
      rw [hsx] at HSX HNEW
      rw [hsb] at HSB HNEW
      obtain ⟨cj, c0, c1⟩ := HCJ2.out wr (Below.refl _ _)
      have HJL := hideN hjl
      have hwj : IntKind.i64.wrap ((j : Int) - 1) = (j : Int) - 1 := by rw [IntKind.wrap_i64]; omega
      clear hk hiz HIZ hk0 HCJ hx hsx hsb hjl HL0 HL1
      go_wp2_with fail
      go_region_held3 (fun W => W.cell? ⟨b, o + j, none⟩ = some (.int .i64 x) ∧ W.cell? ⟨w.heap.size, 0, none⟩ = some (.int .u32 (i.1 : Nat)) ∧ W.cell? ⟨w.heap.size, 1, none⟩ = some (.int .i64 i.2)) (first | exact HCJ2.out _ HWN.out | go_keep) (first
        | (go_at_call 15; refine (HSB.out wa).mono ?_; rintro e wb ⟨rfl, hbb⟩; have HWB : Hid (Below wr.heap.size wr wb) := HWN.out.trans (hbb.mono HWN.out.size); have HWN := HWB; clear hbb)
        | (go_at_call 15; refine (HSX.out _).mono ?_; rintro e wa ⟨rfl, hba⟩; have HWN : Hid (Below wr.heap.size wr wa) := (Below.refl _ wr).drew.trans hba; clear hba))
      clear cj c0 c1
      obtain ⟨cj, c0, c1⟩ := HCJ2.out wb HWB.out
      have HBN : Hid (Below W3.heap.size W3 wb) := HBr.out.trans (HWB.out.mono HBr.out.size)
      by_cases hs : sb ≤ sx
      · have hs' : (sb : Int) ≤ (sx : Int) := by omega
        have HI := hideN (HNEW.out x (by rw [if_pos hs]))
        clear hs
        go_wp2_with fail
        go_roundw
        case rel => exact ⟨j, (j : Int) - 1, x, by have := HJL.out; omega, rfl, rfl, rfl, HXM.out, fun h => absurd HJL.out (by omega), fun _ => HI.out, HBN.out⟩
        case measure => first | (simp [intOf]; done) | (simp [intOf]; omega)
      · have hs' : ¬ (sb : Int) ≤ (sx : Int) := by omega
        have HI := hideN (HNEW.out bz (by rw [if_neg hs]))
        clear hs
        go_wp2_with fail
        go_roundw
        case rel => exact ⟨j, (j : Int) - 1, bz, by have := HJL.out; omega, rfl, rfl, rfl, HM.out, fun h => absurd HJL.out (by omega), fun _ => HI.out, HBN.out⟩
        case measure => first | (simp [intOf]; done) | (simp [intOf]; omega)
end Go.Proofs.YtcbcjefefmbccabDoor
