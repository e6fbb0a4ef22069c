/-
  Own text. The document's binError by a contract.
  Own text. The program's first error of bins is the document's; pure.
  Own text. The document's ScrubFault by a contract.
-/
import Derived.Test.YtcbcjefefmbccabGreatDoorS29
import Derived.Test.YtcbcjefefmbccabGreatDoorS24
import Derived.Test.YtcbcjefefmbccabGreatDoorS27
import Derived.Deep.RegionHeld3
namespace Go.Proofs.YtcbcjefefmbccabGreatDoor
open Go.RowKit Go.Maps

def cntUU (fs : List Rcp) : Use → Option Int := fun u => some (cntU fs u.1 u.2)
def refBinE (fs : List Rcp) (x : NBin) : Int := if cntF fs x.1 = 0 then 3 else piecesErr (cntUU fs) x.1 x.2
theorem cntF_snoc (l : List Rcp) (r : Rcp) (y : Nat × Int) : cntF (l ++ [r]) y = cntF l y + if rcpRep r = y then 1 else 0 := by
  unfold cntF
  rw [List.map_append, List.sum_append]
  simp
theorem cntU_snoc (l : List Rcp) (r : Rcp) (y i : Nat × Int) : cntU (l ++ [r]) y i = cntU l y i + if rcpRep r = y then ((r.2.2.2.count i : Nat) : Int) else 0 := by
  unfold cntU
  rw [List.map_append, List.sum_append]
  simp
theorem cntF_le (y : Nat × Int) : ∀ l : List Rcp, 0 ≤ cntF l y ∧ cntF l y ≤ l.length
  | [] => by simp [cntF]
  | r :: l => by
    have h := cntF_le y l
    have e : cntF (r :: l) y = (if rcpRep r = y then 1 else 0) + cntF l y := by unfold cntF; simp
    rw [e, List.length_cons]
    split <;> omega
theorem cntU_le (y i : Nat × Int) : ∀ l : List Rcp, (∀ r ∈ l, r.2.2.2.length ≤ 1000) → 0 ≤ cntU l y i ∧ cntU l y i ≤ 1000 * l.length
  | [], _ => by simp [cntU]
  | r :: l, hl => by
    have h := cntU_le y i l (fun x hx => hl x (List.mem_cons_of_mem _ hx))
    have h2 := hl r (List.mem_cons_self ..)
    have h3 := List.count_le_length (a := i) (l := r.2.2.2)
    have e : cntU (r :: l) y i = (if rcpRep r = y then ((r.2.2.2.count i : Nat) : Int) else 0) + cntU l y i := by unfold cntU; simp
    rw [e, List.length_cons]
    split <;> omega
theorem markE_three (l : List Hd) (i : Nat) : markE l i = 0 ∨ markE l i = 8 ∨ markE l i = 9 := by
  unfold markE
  split
  · exact .inl rfl
  · split
    · exact .inr (.inr rfl)
    · split
      · exact .inl rfl
      · split
        · exact .inl rfl
        · split
          · exact .inl rfl
          · exact .inr (.inl rfl)
set_option maxRecDepth 100000 in
set_option maxHeartbeats 16000000 in
theorem binError_any (vf v : Value) (fs : List Rcp) (x : NBin) (w : World) (hfm : fs.length ≤ 31) (hids : ∀ r ∈ fs, r.2.2.2.length ≤ 1000) (hl : x.2.length ≤ 1000) (ht : ∀ h ∈ x.2, h.2.2.length ≤ 50000) (hf : RcpsAt w vf fs) (hh : HeldsAt w v x.2) :
    Calls Tryz.prog 67 #[vf, .agg #[.int .u32 (x.1.1 : Nat), .int .i64 x.1.2, v]] w fun e w' => e = .returned (.int .i64 (refBinE fs x)) ∧ Below w.heap.size w w' := by
  have HFS : Hid (∀ W, Below w.heap.size w W → RcpsAt W vf fs) := fun W hb => hf.below hb
  have HHS : Hid (∀ W, Below w.heap.size w W → HeldsAt W v x.2) := fun W hb => hh.below hb
  have HIDS := hideN hids
  have HT := hideN ht
  obtain ⟨⟨xp, xl⟩, l⟩ := x
  simp only at hl HHS HT
  obtain ⟨pf, cf, rfl, _⟩ := hf
  obtain ⟨ph, ch, rfl, _⟩ := hh
  obtain ⟨RES, hRES⟩ : ∃ RES, refBinE fs ((xp, xl), l) = RES := ⟨_, rfl⟩
  have HRES : Hid ((if cntF fs (xp, xl) = 0 then 3 else piecesErr (cntUU fs) (xp, xl) l) = RES) := hRES
  rw [hRES]
  have hfl' : (fs.length : Int) ≤ 31 := by omega
  have hll' : (l.length : Int) ≤ 1000 := by omega
  have hal := (Below.refl w.heap.size w).alloc (Nat.le_refl _) (.cells #[.int .u32 (xp : Nat), .int .i64 xl, .slice ph l.length ch] 58)
  have HBX := hideN (Blk.new w #[.int .u32 (xp : Nat), .int .i64 xl, .slice ph l.length ch] 58)
  have HB0 := hideN hal
  clear hids ht hRES hal
  go_enter Tryz.func67, Tryz.ntmps67
  go_wp2_with fail
  obtain ⟨W0, hW0⟩ : ∃ W0, w.alloc (.cells #[.int .u32 (xp : Nat), .int .i64 xl, .slice ph l.length ch] 58) = W0 := ⟨_, rfl⟩
  rw [hW0] at HBX HB0 ⊢
  obtain ⟨BB, hBB⟩ : ∃ BB, w.heap.size = BB := ⟨_, rfl⟩
  have HBBE : Hid (w.heap.size = BB) := hBB
  rw [hBB] at HBX ⊢
  clear hW0 hBB
  go_loopw [5, 6] (fun nv iv wr => ∃ j : Nat, j ≤ fs.length ∧ iv = .int .i64 j ∧ nv = .int .i64 (cntF (fs.take j) (xp, xl)) ∧ Hid (Below w.heap.size w wr) ∧ Hid (Blk wr BB #[.int .u32 (xp : Nat), .int .i64 xl, .slice ph l.length ch] 58)) (fun _ iv _ => fs.length - (intOf iv).toNat)
  case atStart => exact ⟨0, Nat.zero_le _, rfl, rfl, HB0.out, HBX.out⟩
  case round =>
    clear HB0 HBX
    obtain ⟨j, hj, rfl, rfl, HB, HBX⟩ := hrel
    by_cases hjl : j < fs.length
    · have hjl' : (j : Int) < (fs.length : Int) := by omega
      have hj0 : (0 : Int) ≤ (j : Int) := by omega
      have HJL : Hid (j < fs.length) := hjl
      have HTJ := hideN (cntF_snoc (fs.take j) (fs[j]'hjl) (xp, xl))
      rw [← List.take_succ_eq_append_getElem hjl] at HTJ
      have hcb := cntF_le (xp, xl) (fs.take j)
      rw [List.length_take] at hcb
      obtain ⟨_, _, hve, hcell⟩ := HFS.out wr HB.out
      obtain ⟨rfl, rfl⟩ : pf = _ ∧ cf = _ := by simpa using hve
      obtain ⟨b, o, vi, rfl, hR⟩ := hcell j hjl
      have HLN := hideN (HIDS.out (fs[j]'hjl) (List.getElem_mem hjl))
      obtain ⟨⟨rn, rl, rp, ri⟩, hx⟩ : ∃ x, fs[j]'hjl = x := ⟨_, rfl⟩
      rw [hx] at hR HTJ HLN
      have HRA : Hid (∀ W, Below wr.heap.size wr W → RcpAt W b (o + j * 4) vi (rn, rl, rp, ri)) := fun W hb => hR.below hb
      obtain ⟨pv, cv, hvi, _⟩ := hR.ids
      simp only at hvi HTJ HLN
      subst hvi
      obtain ⟨NM, hNM⟩ : ∃ NM : ByteArray, (⟨rn.toArray⟩ : ByteArray) = NM := ⟨_, rfl⟩
      have HNMM := hideN hNM
      have HC : Hid (∀ W, Below wr.heap.size wr W → (W.cell? ⟨b, o + j * 4, none⟩ = some (.string NM) ∧ W.cell? ⟨b, o + j * 4 + 1, none⟩ = some (.int .i64 rl) ∧ W.cell? ⟨b, o + j * 4 + 2, none⟩ = some (.int .u32 rp) ∧ W.cell? ⟨b, o + j * 4 + 3, none⟩ = some (.slice pv ri.length cv)) ∧ W.cell? ⟨BB, 0, none⟩ = some (.int .u32 (xp : Nat)) ∧ W.cell? ⟨BB, 1, none⟩ = some (.int .i64 xl)) := fun W hb => by
        have h := HRA.out W hb
        refine ⟨⟨?_, h.c1, h.c2, h.c3⟩, (HBX.out.next hb).cell (i := 0) rfl, (HBX.out.next hb).cell (i := 1) rfl⟩
        rw [← HNMM.out]
        exact h.c0
      have HID : Hid (IdsAt wr.drew (.slice pv ri.length cv) ri) := (HRA.out _ (Below.refl _ wr).drew).ids
      have HML : Hid (ri.length ≤ maxLen) := by show _ ≤ _; have := HLN.out; unfold maxLen; omega
      obtain ⟨n, hn⟩ : ∃ n, cntF (fs.take j) (xp, xl) = n := ⟨_, rfl⟩
      rw [hn] at HTJ hcb ⊢
      obtain ⟨⟨gp, gl⟩, hg⟩ : ∃ g, repOf ri = g := ⟨_, rfl⟩
      have HG := hideN hg
      have HTJ2 : Hid (cntF (fs.take (j + 1)) (xp, xl) = n + if (gp, gl) = (xp, xl) then 1 else 0) := by rw [← hg]; exact HTJ.out
      clear hve hcell hR hx hNM hn hg HTJ
      obtain ⟨⟨c0, c1, c2, c3⟩, e0, e1⟩ := HC.out wr (Below.refl _ _)
      have hn0 := hcb.1
      have hn1 : n ≤ 31 := by omega
      have hwn : IntKind.i64.wrap (n + 1) = n + 1 := by rw [IntKind.wrap_i64]; omega
      clear hcb
      by_cases q1 : (gp : Int) = (xp : Int)
      · by_cases q2 : gl = xl
        · subst q2
          obtain rfl : gp = xp := by omega
          have HT2 : Hid (cntF (fs.take (j + 1)) (gp, gl) = n + 1) := by have := HTJ2.out; rw [if_pos rfl] at this; exact this
          clear HTJ2
          go_wp2_with fail
          go_region_held3 (fun W => (W.cell? ⟨b, o + j * 4, none⟩ = some (.string NM) ∧ W.cell? ⟨b, o + j * 4 + 1, none⟩ = some (.int .i64 rl) ∧ W.cell? ⟨b, o + j * 4 + 2, none⟩ = some (.int .u32 rp) ∧ W.cell? ⟨b, o + j * 4 + 3, none⟩ = some (.slice pv ri.length cv)) ∧ W.cell? ⟨BB, 0, none⟩ = some (.int .u32 (gp : Nat)) ∧ W.cell? ⟨BB, 1, none⟩ = some (.int .i64 gl)) (first | exact HC.out _ HWN.out | go_keep) (first
            | (go_at_call 105; refine (refRepOf_any NM rl rp (.slice pv ri.length cv) ri _ HID.out HML.out).mono ?_; rintro e wn ⟨rfl, hbn⟩; rw [HG.out]; have HWN : Hid (Below wr.heap.size wr wn) := (Below.refl _ wr).drew.trans hbn; have HBN : Hid (Below w.heap.size w wn) := HB.out.trans (HWN.out.mono HB.out.size); have HBXN := hideN (HBX.out.next HWN.out); clear hbn))
          clear c0 c1 c2 c3 e0 e1
          go_wp2_with fail
          go_roundw
          case rel => exact ⟨j + 1, HJL.out, by go_num, by rw [HT2.out], HBN.out, HBXN.out⟩
          case measure => simp [intOf]; omega
        · obtain rfl : gp = xp := by omega
          have q2' : (gl == xl) = false := beq_eq_false_iff_ne.2 q2
          have HT2 : Hid (cntF (fs.take (j + 1)) (gp, xl) = n) := by have := HTJ2.out; rw [if_neg (fun e => q2 (Prod.mk.inj e).2), Int.add_zero] at this; exact this
          clear HTJ2
          go_wp2_with fail
          go_region_held3 (fun W => (W.cell? ⟨b, o + j * 4, none⟩ = some (.string NM) ∧ W.cell? ⟨b, o + j * 4 + 1, none⟩ = some (.int .i64 rl) ∧ W.cell? ⟨b, o + j * 4 + 2, none⟩ = some (.int .u32 rp) ∧ W.cell? ⟨b, o + j * 4 + 3, none⟩ = some (.slice pv ri.length cv)) ∧ W.cell? ⟨BB, 0, none⟩ = some (.int .u32 (gp : Nat)) ∧ W.cell? ⟨BB, 1, none⟩ = some (.int .i64 xl)) (first | exact HC.out _ HWN.out | go_keep) (first
            | (go_at_call 105; refine (refRepOf_any NM rl rp (.slice pv ri.length cv) ri _ HID.out HML.out).mono ?_; rintro e wn ⟨rfl, hbn⟩; rw [HG.out]; have HWN : Hid (Below wr.heap.size wr wn) := (Below.refl _ wr).drew.trans hbn; have HBN : Hid (Below w.heap.size w wn) := HB.out.trans (HWN.out.mono HB.out.size); have HBXN := hideN (HBX.out.next HWN.out); clear hbn))
          clear c0 c1 c2 c3 e0 e1
          go_wp2_with fail
          go_roundw
          case rel => exact ⟨j + 1, HJL.out, by go_num, by rw [HT2.out], HBN.out, HBXN.out⟩
          case measure => simp [intOf]; omega
      · have q1' : ((gp : Int) == (xp : Int)) = false := beq_eq_false_iff_ne.2 q1
        have HT2 : Hid (cntF (fs.take (j + 1)) (xp, xl) = n) := by have := HTJ2.out; rw [if_neg (fun e => q1 (by rw [(Prod.mk.inj e).1])), Int.add_zero] at this; exact this
        clear HTJ2
        go_wp2_with fail
        go_region_held3 (fun W => (W.cell? ⟨b, o + j * 4, none⟩ = some (.string NM) ∧ W.cell? ⟨b, o + j * 4 + 1, none⟩ = some (.int .i64 rl) ∧ W.cell? ⟨b, o + j * 4 + 2, none⟩ = some (.int .u32 rp) ∧ W.cell? ⟨b, o + j * 4 + 3, none⟩ = some (.slice pv ri.length cv)) ∧ W.cell? ⟨BB, 0, none⟩ = some (.int .u32 (xp : Nat)) ∧ W.cell? ⟨BB, 1, none⟩ = some (.int .i64 xl)) (first | exact HC.out _ HWN.out | go_keep) (first
            | (go_at_call 105; refine (refRepOf_any NM rl rp (.slice pv ri.length cv) ri _ HID.out HML.out).mono ?_; rintro e wn ⟨rfl, hbn⟩; rw [HG.out]; have HWN : Hid (Below wr.heap.size wr wn) := (Below.refl _ wr).drew.trans hbn; have HBN : Hid (Below w.heap.size w wn) := HB.out.trans (HWN.out.mono HB.out.size); have HBXN := hideN (HBX.out.next HWN.out); clear hbn))
        clear c0 c1 c2 c3 e0 e1
        go_wp2_with fail
        go_roundw
        case rel => exact ⟨j + 1, HJL.out, by go_num, by rw [HT2.out], HBN.out, HBXN.out⟩
        case measure => simp [intOf]; omega
    · have hge : (fs.length : Int) ≤ (j : Int) := by omega
      rw [List.take_of_length_le (show fs.length ≤ j by omega)]
      have hcb := cntF_le (xp, xl) fs
      obtain ⟨n, hn⟩ : ∃ n, cntF fs (xp, xl) = n := ⟨_, rfl⟩
      have HRN : Hid ((if n = 0 then 3 else piecesErr (cntUU fs) (xp, xl) l) = RES) := by show _ = _; rw [← hn]; exact HRES.out
      rw [hn] at hcb ⊢
      clear hn HRES
      by_cases h0 : n = 0
      · subst h0
        have HR : Hid (RES = 3) := by show _ = _; rw [← HRN.out, if_pos rfl]
        go_wp2_with fail
        go_ret
        exact ⟨by rw [HR.out]; rfl, HB.out⟩
      have HPE : Hid (piecesErr (cntUU fs) (xp, xl) l = RES) := by have := HRN.out; rw [if_neg h0] at this; exact this
      have hne : (n == 0) = false := beq_eq_false_iff_ne.2 h0
      clear HRN h0 hcb
      go_wp2_with fail
      go_loopw [7] (fun iv wr => ∃ k : Nat, k ≤ l.length ∧ iv = .int .i64 k ∧ Hid (∀ i, i < k → pErr (cntUU fs) (xp, xl) l i = 0) ∧ Hid (Below w.heap.size w wr) ∧ Hid (Blk wr BB #[.int .u32 (xp : Nat), .int .i64 xl, .slice ph l.length ch] 58)) (fun iv _ => l.length - (intOf iv).toNat)
      case atStart => exact ⟨0, Nat.zero_le _, rfl, fun i hi => by omega, HB.out, HBX.out⟩
      case round =>
        clear HB HBX
        obtain ⟨k, hk, rfl, HALL, HBk, HBXk⟩ := hrel
        have e2 := HBXk.out.cell (i := 2) rfl
        by_cases hkl : k < l.length
        · have hkl' : (k : Int) < (l.length : Int) := by omega
          have hk0 : (0 : Int) ≤ (k : Int) := by omega
          have HKL : Hid (k < l.length) := hkl
          have HMK := hideN (marked_any (.slice ph l.length ch) l k wr hkl (by omega) (HT.out _ (List.getElem_mem hkl)) (HHS.out wr HBk.out))
          obtain ⟨mk, hmk⟩ : ∃ mk, markE l k = mk := ⟨_, rfl⟩
          have HMKE := hideN hmk
          rw [hmk] at HMK
          have hmc : mk = 0 ∨ 0 < mk := by have := markE_three l k; rw [hmk] at this; omega
          obtain ⟨⟨⟨yp, yl⟩, u, t⟩, hy⟩ : ∃ y, l[k]'hkl = y := ⟨_, rfl⟩
          have HYK : Hid (l[k]'HKL.out = ((yp, yl), u, t)) := hy
          clear hmk hy
          go_wp2_with fail
          refine HMK.out.mono ?_
          rintro e wv ⟨rfl, hbv⟩
          have HBv : Hid (Below w.heap.size w wv) := HBk.out.trans (hbv.mono HBk.out.size)
          have HBXv := hideN (HBXk.out.next hbv)
          clear hbv e2 HBk HBXk HMK
          rcases hmc with rfl | hmp
          rotate_left
          · have HR : Hid (RES = mk) := by
              show _ = _
              rw [← HPE.out]
              have h9 : pErr (cntUU fs) (xp, xl) l k = mk := pErr_mark HKL.out HMKE.out (by omega)
              rw [piecesErr_at HKL.out HALL.out (by rw [h9]; omega), h9]
            go_wp2_with fail
            go_ret
            exact ⟨by rw [HR.out]; rfl, HBv.out⟩
          go_wp2_with fail
          go_loopw [9, 10] (fun nv iv wr => ∃ j : Nat, j ≤ fs.length ∧ iv = .int .i64 j ∧ nv = .int .i64 (cntU (fs.take j) (xp, xl) (yp, yl)) ∧ Hid (Below w.heap.size w wr) ∧ Hid (Blk wr BB #[.int .u32 (xp : Nat), .int .i64 xl, .slice ph l.length ch] 58)) (fun _ iv _ => fs.length - (intOf iv).toNat)
          case atStart => exact ⟨0, Nat.zero_le _, rfl, rfl, HBv.out, HBXv.out⟩
          case round =>
            clear HBv HBXv
            obtain ⟨j, hj, rfl, rfl, HB, HBX⟩ := hrel
            by_cases hjl : j < fs.length
            · have hjl' : (j : Int) < (fs.length : Int) := by omega
              have hj0 : (0 : Int) ≤ (j : Int) := by omega
              have HJL : Hid (j < fs.length) := hjl
              have HTJ := hideN (cntU_snoc (fs.take j) (fs[j]'hjl) (xp, xl) (yp, yl))
              rw [← List.take_succ_eq_append_getElem hjl] at HTJ
              have hcb := cntU_le (xp, xl) (yp, yl) (fs.take j) (fun r hr => HIDS.out r (List.mem_of_mem_take hr))
              rw [List.length_take] at hcb
              obtain ⟨_, _, hve, hcell⟩ := HFS.out wr HB.out
              obtain ⟨rfl, rfl⟩ : pf = _ ∧ cf = _ := by simpa using hve
              obtain ⟨b, o, vi, rfl, hR⟩ := hcell j hjl
              have HLN := hideN (HIDS.out (fs[j]'hjl) (List.getElem_mem hjl))
              obtain ⟨⟨rn, rl, rp, ri⟩, hx⟩ : ∃ x, fs[j]'hjl = x := ⟨_, rfl⟩
              rw [hx] at hR HTJ HLN
              have HRA : Hid (∀ W, Below wr.heap.size wr W → RcpAt W b (o + j * 4) vi (rn, rl, rp, ri)) := fun W hb => hR.below hb
              obtain ⟨pv, cv, hvi, _⟩ := hR.ids
              simp only at hvi HTJ HLN
              subst hvi
              obtain ⟨NM, hNM⟩ : ∃ NM : ByteArray, (⟨rn.toArray⟩ : ByteArray) = NM := ⟨_, rfl⟩
              have HNMM := hideN hNM
              have HC : Hid (∀ W, Below wr.heap.size wr W → (W.cell? ⟨b, o + j * 4, none⟩ = some (.string NM) ∧ W.cell? ⟨b, o + j * 4 + 1, none⟩ = some (.int .i64 rl) ∧ W.cell? ⟨b, o + j * 4 + 2, none⟩ = some (.int .u32 rp) ∧ W.cell? ⟨b, o + j * 4 + 3, none⟩ = some (.slice pv ri.length cv)) ∧ W.cell? ⟨BB, 0, none⟩ = some (.int .u32 (xp : Nat)) ∧ W.cell? ⟨BB, 1, none⟩ = some (.int .i64 xl)) := fun W hb => by
                have h := HRA.out W hb
                refine ⟨⟨?_, h.c1, h.c2, h.c3⟩, (HBX.out.next hb).cell (i := 0) rfl, (HBX.out.next hb).cell (i := 1) rfl⟩
                rw [← HNMM.out]
                exact h.c0
              have HID : Hid (IdsAt wr.drew (.slice pv ri.length cv) ri) := (HRA.out _ (Below.refl _ wr).drew).ids
              have HML : Hid (ri.length ≤ maxLen) := by show _ ≤ _; have := HLN.out; unfold maxLen; omega
              obtain ⟨n, hn⟩ : ∃ n, cntU (fs.take j) (xp, xl) (yp, yl) = n := ⟨_, rfl⟩
              rw [hn] at HTJ hcb ⊢
              obtain ⟨⟨gp, gl⟩, hg⟩ : ∃ g, repOf ri = g := ⟨_, rfl⟩
              have HG := hideN hg
              have HTJ2 : Hid (cntU (fs.take (j + 1)) (xp, xl) (yp, yl) = n + if (gp, gl) = (xp, xl) then ((ri.count (yp, yl) : Nat) : Int) else 0) := by rw [← hg]; exact HTJ.out
              clear hve hcell hR hx hNM hn hg HTJ
              obtain ⟨⟨c0, c1, c2, c3⟩, e0, e1⟩ := HC.out wr (Below.refl _ _)
              have hn0 := hcb.1
              have hn1 : n ≤ 31000 := by omega
              obtain ⟨tc, htc⟩ : ∃ tc, ((ri.count (yp, yl) : Nat) : Int) = tc := ⟨_, rfl⟩
              have HTC := hideN htc
              have htc0 : 0 ≤ tc ∧ tc ≤ 1000 := by have h1 := List.count_le_length (a := (yp, yl)) (l := ri); have h2 := HLN.out; omega
              have hwn : IntKind.i64.wrap (n + tc) = n + tc := by rw [IntKind.wrap_i64]; omega
              rw [htc] at HTJ2
              clear htc htc0
              clear hcb
              by_cases q1 : (gp : Int) = (xp : Int)
              · by_cases q2 : gl = xl
                · subst q2
                  obtain rfl : gp = xp := by omega
                  have HT2 : Hid (cntU (fs.take (j + 1)) (gp, gl) (yp, yl) = n + tc) := by have := HTJ2.out; rw [if_pos rfl] at this; exact this
                  clear HTJ2
                  go_wp2_with fail
                  go_region_held3 (fun W => (W.cell? ⟨b, o + j * 4, none⟩ = some (.string NM) ∧ W.cell? ⟨b, o + j * 4 + 1, none⟩ = some (.int .i64 rl) ∧ W.cell? ⟨b, o + j * 4 + 2, none⟩ = some (.int .u32 rp) ∧ W.cell? ⟨b, o + j * 4 + 3, none⟩ = some (.slice pv ri.length cv)) ∧ W.cell? ⟨BB, 0, none⟩ = some (.int .u32 (gp : Nat)) ∧ W.cell? ⟨BB, 1, none⟩ = some (.int .i64 gl)) (first | exact HC.out _ HWN.out | go_keep) (first
                    | (go_at_call 105; refine (refRepOf_any NM rl rp (.slice pv ri.length cv) ri _ HID.out HML.out).mono ?_; rintro e wn ⟨rfl, hbn⟩; rw [HG.out]; have HWN : Hid (Below wr.heap.size wr wn) := (Below.refl _ wr).drew.trans hbn; have HBN : Hid (Below w.heap.size w wn) := HB.out.trans (HWN.out.mono HB.out.size); have HBXN := hideN (HBX.out.next HWN.out); clear hbn))
                  clear c0 c1 c2 c3 e0 e1
                  obtain ⟨⟨c0, c1, c2, c3⟩, e0, e1⟩ := HC.out wn HWN.out
                  have e2 := HBXN.out.cell (i := 2) rfl
                  obtain ⟨_, _, hve3, hhc⟩ := HHS.out wn HBN.out
                  obtain ⟨rfl, rfl⟩ : ph = _ ∧ ch = _ := by simpa using hve3
                  obtain ⟨b4, o4, rfl, _, y0, y1, y2, _⟩ := hhc k HKL.out
                  rw [HYK.out] at y0 y1
                  simp only at y0 y1
                  have HCY : Hid (∀ W, Below wn.heap.size wn W → ((W.cell? ⟨b, o + j * 4, none⟩ = some (.string NM) ∧ W.cell? ⟨b, o + j * 4 + 1, none⟩ = some (.int .i64 rl) ∧ W.cell? ⟨b, o + j * 4 + 2, none⟩ = some (.int .u32 rp) ∧ W.cell? ⟨b, o + j * 4 + 3, none⟩ = some (.slice pv ri.length cv)) ∧ W.cell? ⟨BB, 2, none⟩ = some (.slice (some ⟨b4, o4, none⟩) l.length ch)) ∧ W.cell? ⟨b4, o4 + k * 4, none⟩ = some (.int .u32 (yp : Nat)) ∧ W.cell? ⟨b4, o4 + k * 4 + 1, none⟩ = some (.int .i64 yl)) := fun W hb => ⟨⟨(HC.out W (HWN.out.trans (hb.mono HWN.out.size))).1, (HBXN.out.next hb).cell (i := 2) rfl⟩, (hb.cell (p := ⟨b4, o4 + k * 4, none⟩) (lt_of_cell y0)).trans y0, (hb.cell (p := ⟨b4, o4 + k * 4 + 1, none⟩) (lt_of_cell y0)).trans y1⟩
                  have HID2 : Hid (IdsAt wn.drew (.slice pv ri.length cv) ri) := (HRA.out _ (HWN.out.trans ((Below.refl _ wn).drew.mono HWN.out.size))).ids
                  clear hve3 hhc y2
                  go_wp2_with fail
                  go_region_held3 (fun W => ((W.cell? ⟨b, o + j * 4, none⟩ = some (.string NM) ∧ W.cell? ⟨b, o + j * 4 + 1, none⟩ = some (.int .i64 rl) ∧ W.cell? ⟨b, o + j * 4 + 2, none⟩ = some (.int .u32 rp) ∧ W.cell? ⟨b, o + j * 4 + 3, none⟩ = some (.slice pv ri.length cv)) ∧ W.cell? ⟨BB, 2, none⟩ = some (.slice (some ⟨b4, o4, none⟩) l.length ch)) ∧ W.cell? ⟨b4, o4 + k * 4, none⟩ = some (.int .u32 (yp : Nat)) ∧ W.cell? ⟨b4, o4 + k * 4 + 1, none⟩ = some (.int .i64 yl)) (first | exact HCY.out _ HWM.out | go_keep) (first
                    | (go_at_call 129; refine (times_any NM rl rp (.slice pv ri.length cv) ri (yp, yl) _ HLN.out HID2.out).mono ?_; rintro e wm ⟨rfl, hbm⟩; rw [HTC.out]; have HWM : Hid (Below wn.heap.size wn wm) := (Below.refl _ wn).drew.trans hbm; have HBM : Hid (Below w.heap.size w wm) := HBN.out.trans (HWM.out.mono HBN.out.size); have HBXM := hideN (HBXN.out.next HWM.out); clear hbm))
                  clear c0 c1 c2 c3 e0 e1 e2 y0 y1
                  go_wp2_with fail
                  go_roundw
                  case rel => exact ⟨j + 1, HJL.out, by go_num, by rw [HT2.out], HBM.out, HBXM.out⟩
                  case measure => simp [intOf]; omega
                · obtain rfl : gp = xp := by omega
                  have q2' : (gl == xl) = false := beq_eq_false_iff_ne.2 q2
                  have HT2 : Hid (cntU (fs.take (j + 1)) (gp, xl) (yp, yl) = n) := by have := HTJ2.out; rw [if_neg (fun e => q2 (Prod.mk.inj e).2), Int.add_zero] at this; exact this
                  clear HTJ2
                  go_wp2_with fail
                  go_region_held3 (fun W => (W.cell? ⟨b, o + j * 4, none⟩ = some (.string NM) ∧ W.cell? ⟨b, o + j * 4 + 1, none⟩ = some (.int .i64 rl) ∧ W.cell? ⟨b, o + j * 4 + 2, none⟩ = some (.int .u32 rp) ∧ W.cell? ⟨b, o + j * 4 + 3, none⟩ = some (.slice pv ri.length cv)) ∧ W.cell? ⟨BB, 0, none⟩ = some (.int .u32 (gp : Nat)) ∧ W.cell? ⟨BB, 1, none⟩ = some (.int .i64 xl)) (first | exact HC.out _ HWN.out | go_keep) (first
                    | (go_at_call 105; refine (refRepOf_any NM rl rp (.slice pv ri.length cv) ri _ HID.out HML.out).mono ?_; rintro e wn ⟨rfl, hbn⟩; rw [HG.out]; have HWN : Hid (Below wr.heap.size wr wn) := (Below.refl _ wr).drew.trans hbn; have HBN : Hid (Below w.heap.size w wn) := HB.out.trans (HWN.out.mono HB.out.size); have HBXN := hideN (HBX.out.next HWN.out); clear hbn))
                  clear c0 c1 c2 c3 e0 e1
                  go_wp2_with fail
                  go_roundw
                  case rel => exact ⟨j + 1, HJL.out, by go_num, by rw [HT2.out], HBN.out, HBXN.out⟩
                  case measure => simp [intOf]; omega
              · have q1' : ((gp : Int) == (xp : Int)) = false := beq_eq_false_iff_ne.2 q1
                have HT2 : Hid (cntU (fs.take (j + 1)) (xp, xl) (yp, yl) = n) := by have := HTJ2.out; rw [if_neg (fun e => q1 (by rw [(Prod.mk.inj e).1])), Int.add_zero] at this; exact this
                clear HTJ2
                go_wp2_with fail
                go_region_held3 (fun W => (W.cell? ⟨b, o + j * 4, none⟩ = some (.string NM) ∧ W.cell? ⟨b, o + j * 4 + 1, none⟩ = some (.int .i64 rl) ∧ W.cell? ⟨b, o + j * 4 + 2, none⟩ = some (.int .u32 rp) ∧ W.cell? ⟨b, o + j * 4 + 3, none⟩ = some (.slice pv ri.length cv)) ∧ W.cell? ⟨BB, 0, none⟩ = some (.int .u32 (xp : Nat)) ∧ W.cell? ⟨BB, 1, none⟩ = some (.int .i64 xl)) (first | exact HC.out _ HWN.out | go_keep) (first
                  | (go_at_call 105; refine (refRepOf_any NM rl rp (.slice pv ri.length cv) ri _ HID.out HML.out).mono ?_; rintro e wn ⟨rfl, hbn⟩; rw [HG.out]; have HWN : Hid (Below wr.heap.size wr wn) := (Below.refl _ wr).drew.trans hbn; have HBN : Hid (Below w.heap.size w wn) := HB.out.trans (HWN.out.mono HB.out.size); have HBXN := hideN (HBX.out.next HWN.out); clear hbn))
                clear c0 c1 c2 c3 e0 e1
                go_wp2_with fail
                go_roundw
                case rel => exact ⟨j + 1, HJL.out, by go_num, by rw [HT2.out], HBN.out, HBXN.out⟩
                case measure => simp [intOf]; omega
            · have hge : (fs.length : Int) ≤ (j : Int) := by omega
              rw [List.take_of_length_le (show fs.length ≤ j by omega)]
              have e2 := HBX.out.cell (i := 2) rfl
              obtain ⟨_, _, hve3, hhc⟩ := HHS.out wr HB.out
              obtain ⟨rfl, rfl⟩ : ph = _ ∧ ch = _ := by simpa using hve3
              obtain ⟨b4, o4, rfl, _, _, _, y2, _⟩ := hhc k HKL.out
              rw [HYK.out] at y2
              simp only at y2
              obtain ⟨n', hn'⟩ : ∃ n', cntU fs (xp, xl) (yp, yl) = n' := ⟨_, rfl⟩
              have HCU : Hid (((cntUU fs) ((xp, xl), (yp, yl))).getD 0 = n') := hn'
              rw [hn']
              clear hve3 hhc hn'
              by_cases hq : n' = u
              · subst hq
                have HALL2 : Hid (∀ i, i < k + 1 → pErr (cntUU fs) (xp, xl) l i = 0) := fun i hi => by
                  rcases Nat.lt_or_ge i k with h | h
                  · exact HALL.out i h
                  · obtain rfl : i = k := by omega
                    exact pErr_ok HKL.out HMKE.out (by rw [HYK.out]; exact HCU.out)
                go_wp2_with fail
                go_roundw
                case rel => exact ⟨k + 1, HKL.out, by go_num, HALL2.out, HB.out, HBX.out⟩
                case measure => simp [intOf]; omega
              · have hqn : (n' == u) = false := beq_eq_false_iff_ne.2 hq
                have HR : Hid (RES = 11) := by
                  show _ = _
                  rw [← HPE.out]
                  have h11 : pErr (cntUU fs) (xp, xl) l k = 11 := pErr_used HKL.out HMKE.out (by rw [HYK.out]; simp only; rw [HCU.out]; exact hq)
                  rw [piecesErr_at HKL.out HALL.out (by rw [h11]; decide), h11]
                clear hq
                go_wp2_with fail
                go_ret
                exact ⟨by rw [HR.out]; rfl, HB.out⟩
        · have hge : (l.length : Int) ≤ (k : Int) := by omega
          have HR : Hid (RES = 0) := by
            show _ = _
            rw [← HPE.out]
            exact piecesErr_ok (fun i hi => HALL.out i (by omega))
          go_wp2_with fail
          go_ret
          exact ⟨by rw [HR.out]; rfl, HBk.out⟩
end Go.Proofs.YtcbcjefefmbccabGreatDoor
namespace Go.Proofs.YtcbcjefefmbccabGreatDoor
open Go.RowKit Go.Maps

theorem firstErr_congr {e1 e2 : Nat → Int} : ∀ (n k : Nat), (∀ j, k ≤ j → j < k + n → (∀ i, k ≤ i → i < j → e1 i = 0) → e1 j = e2 j) → firstErr e1 k n = firstErr e2 k n
  | 0, _, _ => rfl
  | n + 1, k, h => by
    have h0 := h k (Nat.le_refl _) (by omega) (fun i h1 h2 => by omega)
    rw [firstErr, firstErr, ← h0]
    by_cases hz : e1 k ≠ 0
    · rw [if_pos hz, if_pos hz]
    · rw [if_neg hz, if_neg hz]
      refine firstErr_congr n (k + 1) fun j h1 h2 h3 => h j (by omega) (by omega) fun i h4 h5 => ?_
      by_cases e : i = k
      · subst e; exact Classical.not_not.1 hz
      · exact h3 i (by omega) h5
theorem firstErr_spec {e1 : Nat → Int} : ∀ (n k : Nat) {r : Nat}, firstErr e1 k n = some r → k ≤ r ∧ r < k + n ∧ ∀ i, k ≤ i → i < r → e1 i = 0
  | 0, _, _, h => by cases h
  | n + 1, k, r, h => by
    rw [firstErr] at h
    split at h
    · obtain rfl := Option.some.inj h
      exact ⟨Nat.le_refl _, by omega, fun i h1 h2 => by omega⟩
    · rename_i hz
      obtain ⟨h1, h2, h3⟩ := firstErr_spec n (k + 1) h
      refine ⟨by omega, by omega, fun i h4 h5 => ?_⟩
      by_cases e : i = k
      · subst e; exact Classical.not_not.1 hz
      · exact h3 i (by omega) h5
theorem firstAns_congr {e1 e2 : Nat → Int} {n : Nat} (h : ∀ j, j < n → (∀ i, i < j → e1 i = 0) → e1 j = e2 j) : firstAns e1 n = firstAns e2 n := by
  have hf := firstErr_congr (e1 := e1) (e2 := e2) n 0 fun j _ h2 h3 => h j (by omega) fun i hi => h3 i (Nat.zero_le _) hi
  unfold firstAns
  rw [← hf]
  cases hr : firstErr e1 0 n with
  | none => rfl
  | some r =>
    obtain ⟨_, h2, h3⟩ := firstErr_spec n 0 hr
    simp only
    rw [h r (by omega) fun i hi => h3 i (Nat.zero_le _) hi]
/- The document's error of the bin at place k. -/
def refB (fs : List Rcp) (bs : List NBin) (k : Nat) : Int := match bs[k]? with
  | none => 0
  | some x => if ordBad bs k x.1 = true then 8 else refBinE fs x
theorem refB_at {fs : List Rcp} {bs : List NBin} {k : Nat} (hk : k < bs.length) : refB fs bs k = if ordBad bs k bs[k].1 = true then 8 else refBinE fs bs[k] := by
  unfold refB
  rw [List.getElem?_eq_getElem hk]
theorem scTrans {a b c : Nat × Int} (h1 : lessB a b = true) (h2 : lessB b c = true) : lessB a c = true := by
  rw [lessB_iff] at *
  omega
theorem scNe {a b : Nat × Int} (h : lessB a b = true) : a ≠ b := by
  rintro rfl
  rw [lessB_iff] at h
  omega
theorem piecesErr_congr {U V : Use → Option Int} {r : Nat × Int} {l : List Hd} (h : ∀ x ∈ l, (U (r, x.1)).getD 0 = (V (r, x.1)).getD 0) : piecesErr U r l = piecesErr V r l := by
  have hp : ∀ j, j < l.length → pErr U r l j = pErr V r l j := fun j hj => by
    unfold pErr
    rw [List.getElem?_eq_getElem hj]
    simp only
    rw [h l[j] (List.getElem_mem hj)]
  unfold piecesErr
  have hf := firstErr_congr (e1 := pErr U r l) (e2 := pErr V r l) l.length 0 fun j _ h2 _ => hp j (by omega)
  rw [← hf]
  cases hr : firstErr (pErr U r l) 0 l.length with
  | none => rfl
  | some j =>
    obtain ⟨_, h2, _⟩ := firstErr_spec l.length 0 hr
    simp only
    exact hp j (by omega)
theorem bins_agree (fs : List Rcp) (bs : List NBin) {k : Nat} (hk : k < bs.length) (h : ∀ i, i < k → refB fs bs i = 0) : binE (cF (zeroF bs) fs) (cU (zeroU bs) fs) bs k = refB fs bs k := by
  rw [refB_at hk]
  by_cases ho : ordBad bs k bs[k].1 = true
  · rw [if_pos ho]
    have h0 : 0 < k := by
      rcases Nat.eq_zero_or_pos k with e | e
      · subst e; cases ho
      · exact e
    rw [ordBad_at hk h0] at ho
    exact binE_order hk h0 (by simpa using ho)
  · rw [if_neg ho]
    have hr : ∀ j (hj : j < bs.length) (h0 : 0 < j), j ≤ k → lessB (bs[j - 1]'(by omega)).1 bs[j].1 = true := fun j hj h0 hjk => by
      have hb : ordBad bs j bs[j].1 = false := by
        by_cases e : j = k
        · subst e; simpa using ho
        · have h1 := h j (by omega)
          rw [refB_at hj] at h1
          cases hb : ordBad bs j bs[j].1 with
          | false => rfl
          | true => rw [hb, if_pos rfl] at h1; cases h1
      rw [ordBad_at hj h0] at hb
      simpa using hb
    have hlt : ∀ d j (hd : j + 1 + d ≤ k), lessB (bs[j]'(by omega)).1 (bs[j + 1 + d]'(by omega)).1 = true := by
      intro d
      induction d with
      | zero => intro j hd; exact hr (j + 1) (by omega) (by omega) hd
      | succ d ih =>
        intro j hd
        have h1 := ih j (by omega)
        have h2 := hr (j + 1 + (d + 1)) (by omega) (by omega) hd
        have h3 : bs[j + 1 + (d + 1) - 1]'(by omega) = bs[j + 1 + d]'(by omega) := by congr 1
        rw [h3] at h2
        exact scTrans h1 h2
    have hne : ∀ j (hj : j < bs.length), j < k → bs[j].1 ≠ bs[k].1 := fun j hj hjk => by
      have h1 := hlt (k - (j + 1)) j (by omega)
      have h2 : bs[j + 1 + (k - (j + 1))]'(by omega) = bs[k] := by congr 1; omega
      rw [h2] at h1
      exact scNe h1
    have hkf := kFind_at bs bs[k].1 k hk hne rfl
    obtain ⟨_, hnb⟩ := kFind_bin_at hkf
    have hF : (cF (zeroF bs) fs bs[k].1).getD 0 = cntF fs bs[k].1 := by
      have hz : zeroF bs bs[k].1 = some 0 := by
        unfold zeroF
        rw [if_pos]
        exact List.any_eq_true.2 ⟨bs[k], List.getElem_mem hk, by simp⟩
      rw [cF_val, hz]
      simp
    have hU : ∀ x ∈ bs[k].2, (cU (zeroU bs) fs (bs[k].1, x.1)).getD 0 = (cntUU fs (bs[k].1, x.1)).getD 0 := fun x hx => by
      have hz : zeroU bs (bs[k].1, x.1) = some 0 := by
        unfold zeroU
        simp only
        rw [hnb]
        simp only
        rw [if_pos]
        exact List.any_eq_true.2 ⟨x, hx, by simp⟩
      rw [cU_val, hz]
      simp [cntUU]
    rw [binE_go hk (fun h0 => hr k hk h0 (Nat.le_refl _)), hF]
    unfold refBinE
    rw [piecesErr_congr hU]
/- The document's ScrubFault. -/
def refScrub (fs : List Rcp) (bs : List NBin) : Int × Int := if 30 < fs.length then (7, -1) else checkAns (fileE fs bs) (refB fs bs) fs.length bs.length
theorem checkE_ref {fs : List Rcp} {bs : List NBin} (h : fs.length ≤ 30) : refScrub fs bs = checkE fs bs := by
  unfold refScrub checkE checkAns
  rw [if_neg (by omega)]
  cases firstErr (fileE fs bs) 0 fs.length with
  | some k => rfl
  | none => exact firstAns_congr fun j hj hi => (bins_agree fs bs hj hi).symm
end Go.Proofs.YtcbcjefefmbccabGreatDoor
namespace Go.Proofs.YtcbcjefefmbccabGreatDoor
open Go.RowKit Go.Maps

theorem addErr_two (F : Nat × Int → Option Int) (U : Use → Option Int) (r : Rcp) : addErr F U r = 0 ∨ addErr F U r = 5 := by
  unfold addErr
  split
  · exact .inl rfl
  · exact .inr rfl
theorem fileE_pos (fs : List Rcp) (bs : List NBin) (k : Nat) : fileE fs bs k = 0 ∨ 0 < fileE fs bs k := by
  unfold fileE
  split
  · exact .inl rfl
  · rename_i r _
    have h1 := recFault_code r.1 r.2.1 r.2.2.2
    split
    · rename_i h2
      rcases h1 with h1 | h1
      · rw [h1] at h2
        exact absurd rfl h2
      · exact .inr h1
    · split
      · exact .inr (by decide)
      · rcases addErr_two (zeroF bs) (zeroU bs) r with h | h
        · exact .inl h
        · exact .inr (by rw [h]; decide)
theorem pErr_pos (U : Use → Option Int) (r : Nat × Int) (l : List Hd) (j : Nat) : pErr U r l j = 0 ∨ 0 < pErr U r l j := by
  unfold pErr
  have h1 := markE_three l j
  split
  · rename_i h2
    rcases h1 with h | h | h
    · exact absurd h h2
    · exact .inr (by rw [h]; decide)
    · exact .inr (by rw [h]; decide)
  · split
    · split
      · exact .inl rfl
      · exact .inr (by decide)
    · exact .inl rfl
theorem refB_pos (fs : List Rcp) (bs : List NBin) (k : Nat) : refB fs bs k = 0 ∨ 0 < refB fs bs k := by
  unfold refB
  split
  · exact .inl rfl
  · split
    · exact .inr (by decide)
    · unfold refBinE
      split
      · exact .inr (by decide)
      · unfold piecesErr
        split
        · exact .inl rfl
        · exact pErr_pos _ _ _ _
def ansOf (err : Nat → Int) : Option Nat → Int × Int | none => (0, -1) | some k => (err k, k)
theorem firstAns_of (err : Nat → Int) (n : Nat) : firstAns err n = ansOf err (firstErr err 0 n) := by
  unfold firstAns
  cases firstErr err 0 n <;> rfl
set_option maxRecDepth 100000 in
set_option maxHeartbeats 8000000 in
theorem scrubFault_any (vf vb : Value) (fs : List Rcp) (bs : List NBin) (w : World) (hfm : fs.length ≤ 31) (hbm : bs.length ≤ 100) (hbl : ∀ b ∈ bs, b.2.length ≤ 1000) (htx : ∀ b ∈ bs, ∀ h ∈ b.2, h.2.2.length ≤ 50000) (hnm : ∀ r ∈ fs, r.1.length ≤ 50000) (hids : ∀ r ∈ fs, r.2.2.2.length ≤ 1000) (hf : RcpsAt w vf fs) (hb : LoadsAt w vb bs) :
    Calls Tryz.prog 25 #[vf, vb] w fun e w' => e = .returned (faultV (refScrub fs bs).1 (refScrub fs bs).2) ∧ Below w.heap.size w w' := by
  have hal := (Below.refl w.heap.size w).alloc (Nat.le_refl _) (.cells #[.int .i64 0, .int .i64 0] 64)
  have HRB := hideN (Blk.new w #[.int .i64 0, .int .i64 0] 64)
  have HAL := hideN hal
  have HFE : Hid (∀ k W, k < fs.length → Below w.heap.size w W → Calls Tryz.prog 66 #[vf, .int .i64 k, vb] W fun e w' => e = .returned (.int .i64 (fileE fs bs k)) ∧ Below W.heap.size W w') := fun k W hk hW => fileError_any vf vb fs bs k W hk hfm hbm hbl hnm hids (hf.below hW) (hb.below hW)
  have HBE : Hid (∀ k (hk : k < bs.length) v W, Below w.heap.size w W → HeldsAt W v bs[k].2 → Calls Tryz.prog 67 #[vf, .agg #[.int .u32 (bs[k].1.1 : Nat), .int .i64 bs[k].1.2, v]] W fun e w' => e = .returned (.int .i64 (refBinE fs bs[k])) ∧ Below W.heap.size W w') := fun k hk v W hW hh => binError_any vf v fs bs[k] W hfm hids (hbl _ (List.getElem_mem hk)) (htx _ (List.getElem_mem hk)) (hf.below hW) hh
  have HLD : Hid (∀ W, Below w.heap.size w W → LoadsAt W vb bs) := fun W hW => hb.below hW
  have HFP := hideN (fileE_pos fs bs)
  have HBP := hideN (refB_pos fs bs)
  have HRA := hideN (fun k (hk : k < bs.length) => refB_at (fs := fs) hk)
  have HOA := hideN (fun k (hk : k < bs.length) (h0 : 0 < k) => ordBad_at (x := bs[k].1) hk h0)
  obtain ⟨pf, cf, rfl, _⟩ := hf
  obtain ⟨pb, cb, rfl, _⟩ := hb
  have hfl : (fs.length : Int) ≤ 31 := by omega
  have hbl' : (bs.length : Int) ≤ 100 := by omega
  by_cases hmany : 30 < fs.length
  · have hr : refScrub fs bs = (7, -1) := by unfold refScrub; rw [if_pos hmany]
    rw [hr]
    have hmany' : (30 : Int) < (fs.length : Int) := by omega
    clear hr hal hbl htx hnm hids hfm hbm
    go_enter Tryz.func25, Tryz.ntmps25
    go_wp2_with fail
    refine (bare_any 7 _).mono ?_
    rintro e w2 ⟨rfl, hb2⟩
    have HB2 : Hid (Below w.heap.size w w2) := HAL.out.trans (hb2.mono HAL.out.size)
    have HR2 := hideN (HRB.out.next hb2)
    clear hb2
    have q0 := HR2.out.cell (i := 0) rfl
    have q1 := HR2.out.cell (i := 1) rfl
    have f0 := HR2.out.frozen 0
    have f1 := HR2.out.frozen 1
    go_wp2_with fail
    exact bodyPost_ret (v := faultV 7 (-1)) (by simp [results, Tryz.results25, go_sem, q0, q1]) rfl ⟨rfl, (HB2.out.setCell (p := ⟨w.heap.size, 0, none⟩) (by simp) _).setCell (p := ⟨w.heap.size, 1, none⟩) (by simp) _⟩
  have hmany' : ¬ (30 : Int) < (fs.length : Int) := by omega
  have hr : refScrub fs bs = checkAns (fileE fs bs) (refB fs bs) fs.length bs.length := by unfold refScrub; rw [if_neg hmany]
  have hca : checkAns (fileE fs bs) (refB fs bs) fs.length bs.length = match firstErr (fileE fs bs) 0 fs.length with | none => ansOf (refB fs bs) (firstErr (refB fs bs) 0 bs.length) | some k => (fileE fs bs k, (k : Int)) := by
    unfold checkAns
    cases h : firstErr (fileE fs bs) 0 fs.length with
    | none => exact firstAns_of _ _
    | some k => unfold firstAns; rw [h]
  rw [hr]
  obtain ⟨fe, hfe⟩ : ∃ fe, fileE fs bs = fe := ⟨_, rfl⟩
  obtain ⟨be, hbe⟩ : ∃ be, refB fs bs = be := ⟨_, rfl⟩
  rw [hfe, hbe] at hca ⊢
  have HCA := hideN hca
  obtain ⟨ANS, hANS⟩ : ∃ A, checkAns fe be fs.length bs.length = A := ⟨_, rfl⟩
  have HANS := hideN hANS
  rw [hANS]
  rw [hfe] at HFP
  rw [hbe] at HBP HRA
  have HFE2 : Hid (∀ k W, k < fs.length → Below w.heap.size w W → Calls Tryz.prog 66 #[.slice pf fs.length cf, .int .i64 k, .slice pb bs.length cb] W fun e w' => e = .returned (.int .i64 (fe k)) ∧ Below W.heap.size W w') := by rw [← hfe]; exact HFE.out
  have HFS : Hid (∀ k, firstErr fe 0 fs.length = some k → ANS = (fe k, (k : Int))) := fun k h => by rw [← HANS.out, HCA.out, h]
  have HFN : Hid (firstErr fe 0 fs.length = none → ANS = ansOf be (firstErr be 0 bs.length)) := fun h => by rw [← HANS.out, HCA.out, h]
  obtain ⟨RES, hRES⟩ : ∃ R, firstErr fe 0 fs.length = R := ⟨_, rfl⟩
  rw [hRES] at HFS HFN
  have HRES := hideN hRES
  clear hr hca hfe hbe hANS hRES HCA HANS HFE hal hbl htx hnm hids hfm hbm hmany
  go_enter Tryz.func25, Tryz.ntmps25
  go_wp2_with fail
  obtain ⟨W, hW⟩ : ∃ W, w.alloc (.cells #[.int .i64 0, .int .i64 0] 64) = W := ⟨_, rfl⟩
  rw [hW] at HRB HAL ⊢
  clear hW
  go_loopw [5] (fun iv wr => ∃ k : Nat, k ≤ fs.length ∧ iv = .int .i64 k ∧ Hid (firstErr fe k (fs.length - k) = RES) ∧ Hid (Below w.heap.size w wr) ∧ Hid (Blk wr w.heap.size #[.int .i64 0, .int .i64 0] 64)) (fun iv _ => fs.length - (intOf iv).toNat)
  case atStart => exact ⟨0, Nat.zero_le _, rfl, HRES.out, HAL.out, HRB.out⟩
  case round =>
    clear HRES HAL HRB
    obtain ⟨k, hk, rfl, HR, HB, HRBk⟩ := hrel
    by_cases hlt : k < fs.length
    · have hlt' : (k : Int) < (fs.length : Int) := by omega
      have HCK := hideN (HFE2.out k wr hlt HB.out)
      have hsub : fs.length - k = (fs.length - (k + 1)) + 1 := by omega
      rw [hsub, firstErr] at HR
      have HKL := hideN hlt
      have hpos := HFP.out k
      obtain ⟨ev, hev⟩ : ∃ ev, fe k = ev := ⟨_, rfl⟩
      have HEV := hideN hev
      rw [hev] at HCK hpos HR
      clear hsub hlt hev
      go_wp2_with fail
      refine HCK.out.mono ?_
      rintro e w2 ⟨rfl, hb2⟩
      have HB2 : Hid (Below w.heap.size w w2) := HB.out.trans (hb2.mono HB.out.size)
      have HRB2 := hideN (HRBk.out.next hb2)
      clear hb2 HCK
      rcases hpos with h0 | h0
      · subst h0
        rw [if_neg (by simp)] at HR
        have HRR := hideN HR.out
        clear HR
        go_wp2_with fail
        go_roundw
        case rel => exact ⟨k + 1, HKL.out, by go_num, HRR.out, HB2.out, HRB2.out⟩
        case measure => simp [intOf]; have := HKL.out; omega
      · rw [if_pos (by omega)] at HR
        have HA := hideN (HFS.out k HR.out.symm)
        clear HR
        have q0 := HRB2.out.cell (i := 0) rfl
        have q1 := HRB2.out.cell (i := 1) rfl
        have f0 := HRB2.out.frozen 0
        have f1 := HRB2.out.frozen 1
        go_wp2_with fail
        exact bodyPost_ret (v := faultV ev (k : Int)) (by simp [results, Tryz.results25, go_sem, q0, q1]) rfl ⟨by rw [HA.out, HEV.out], (HB2.out.setCell (p := ⟨w.heap.size, 0, none⟩) (by simp) _).setCell (p := ⟨w.heap.size, 1, none⟩) (by simp) _⟩
    · have hge : (fs.length : Int) ≤ (k : Int) := by omega
      have hz : fs.length - k = 0 := by omega
      rw [hz, firstErr] at HR
      have HA := hideN (HFN.out HR.out.symm)
      obtain ⟨RB2, hRB2⟩ : ∃ R, firstErr be 0 bs.length = R := ⟨_, rfl⟩
      rw [hRB2] at HA
      have HRES2 := hideN hRB2
      clear hz hRB2 HR HFS HFN
      go_wp2_with fail
      have HBs := hideN HB.out
      have HRBs := hideN HRBk.out
      go_loopw [7] (fun iv wr => ∃ j : Nat, j ≤ bs.length ∧ iv = .int .i64 j ∧ Hid (firstErr be j (bs.length - j) = RB2) ∧ Hid (Below w.heap.size w wr) ∧ Hid (Blk wr w.heap.size #[.int .i64 0, .int .i64 0] 64)) (fun iv _ => bs.length - (intOf iv).toNat)
      case atStart => exact ⟨0, Nat.zero_le _, rfl, HRES2.out, HBs.out, HRBs.out⟩
      case round =>
        clear HRES2 HBs HRBs HB HRBk
        obtain ⟨j, hj, rfl, HR, HB, HRBk⟩ := hrel
        by_cases hlt : j < bs.length
        · have hlt' : (j : Int) < (bs.length : Int) := by omega
          have hj0 : (0 : Int) ≤ (j : Int) := by omega
          obtain ⟨_, _, hve, hcell⟩ := HLD.out wr HB.out
          obtain ⟨rfl, rfl⟩ : pb = _ ∧ cb = _ := by simpa using hve
          obtain ⟨b, o, vi, rfl, hL⟩ := hcell j hlt
          have HLJ : Hid (∀ W, Below w.heap.size w W → W.cell? ⟨b, o + j * 3, none⟩ = some (.int .u32 ((bs[j]'hlt).1.1 : Nat)) ∧ W.cell? ⟨b, o + j * 3 + 1, none⟩ = some (.int .i64 (bs[j]'hlt).1.2)) := fun W hW => by
            obtain ⟨_, _, hve2, hcell2⟩ := HLD.out W hW
            obtain ⟨b', o', vi', hp, hL2⟩ := hcell2 j hlt
            simp only [Value.slice.injEq] at hve2
            rw [← hve2.1] at hp
            obtain ⟨rfl, rfl⟩ : b = b' ∧ o = o' := by simpa using hp
            exact ⟨hL2.c0, hL2.c1⟩
          have HLP : Hid (0 < j → ∃ y : Nat × Int, ordBad bs j (bs[j]'hlt).1 = !lessB y (bs[j]'hlt).1 ∧ ∀ W, Below w.heap.size w W → W.cell? ⟨b, o + (j - 1) * 3, none⟩ = some (.int .u32 (y.1 : Nat)) ∧ W.cell? ⟨b, o + (j - 1) * 3 + 1, none⟩ = some (.int .i64 y.2)) := fun h0 => by
            refine ⟨(bs[j - 1]'(by omega)).1, HOA.out j hlt h0, fun W hW => ?_⟩
            obtain ⟨_, _, hve2, hcell2⟩ := HLD.out W hW
            obtain ⟨b', o', vi', hp, hL2⟩ := hcell2 (j - 1) (by omega)
            simp only [Value.slice.injEq] at hve2
            rw [← hve2.1] at hp
            obtain ⟨rfl, rfl⟩ : b = b' ∧ o = o' := by simpa using hp
            exact ⟨hL2.c0, hL2.c1⟩
          have HBC := hideN (HBE.out j hlt vi wr HB.out hL.helds)
          have HRJ := hideN (HRA.out j hlt)
          have c0 := hL.c0
          have c1 := hL.c1
          have c2 := hL.c2
          have hsub : bs.length - j = (bs.length - (j + 1)) + 1 := by omega
          rw [hsub, firstErr] at HR
          have HKL := hideN hlt
          have HPOS := hideN (HBP.out j)
          obtain ⟨eb, heb⟩ : ∃ e, refBinE fs (bs[j]'hlt) = e := ⟨_, rfl⟩
          have HO0 : Hid (j = 0 → ordBad bs j (bs[j]'hlt).1 = false) := fun h => by subst h; rfl
          rw [heb] at HBC HRJ
          obtain ⟨⟨xp, xl⟩, hx⟩ : ∃ x, (bs[j]'hlt).1 = x := ⟨_, rfl⟩
          rw [hx] at c0 c1 HLJ HLP HBC HRJ HO0
          simp only at c0 c1 HLJ HLP HBC HRJ HO0
          clear hve hcell hL hsub hlt heb hx
          go_wp2_with fail
          refine HBC.out.mono ?_
          rintro e w2 ⟨rfl, hb2⟩
          have HB2 : Hid (Below w.heap.size w w2) := HB.out.trans (hb2.mono HB.out.size)
          have HRB2 := hideN (HRBk.out.next hb2)
          clear hb2 HBC c0 c1 c2
          by_cases hjz : j = 0
          · have HEE : Hid (be j = eb) := by show _ = _; rw [HRJ.out, HO0.out hjz, if_neg (by simp)]
            have hjn : ¬ (0 : Int) < (j : Int) := by omega
            have hjn2 : ¬ 0 < j := by omega
            clear hjz HRJ HLP HLJ HO0
            rw [HEE.out] at HR HPOS
            rcases HPOS.out with h0 | h0
            · subst h0
              rw [if_neg (by simp)] at HR
              have HRR := hideN HR.out
              clear HR
              go_wp2_with fail
              go_roundw
              case rel => exact ⟨j + 1, HKL.out, by go_num, HRR.out, HB2.out, HRB2.out⟩
              case measure => simp [intOf]; have := HKL.out; omega
            · rw [if_pos (by omega)] at HR
              have HAA : Hid (ANS = (eb, (j : Int))) := by show _ = _; rw [HA.out, ← HR.out]; show (be j, (j : Int)) = _; rw [HEE.out]
              clear HR HA
              have q0 := HRB2.out.cell (i := 0) rfl
              have q1 := HRB2.out.cell (i := 1) rfl
              have f0 := HRB2.out.frozen 0
              have f1 := HRB2.out.frozen 1
              go_wp2_with fail
              exact bodyPost_ret (v := faultV eb (j : Int)) (by simp [results, Tryz.results25, go_sem, q0, q1]) rfl ⟨by rw [HAA.out], (HB2.out.setCell (p := ⟨w.heap.size, 0, none⟩) (by simp) _).setCell (p := ⟨w.heap.size, 1, none⟩) (by simp) _⟩
          · have hjp : 0 < j := by omega
            have hjp' : (0 : Int) < (j : Int) := by omega
            obtain ⟨⟨yp, yl⟩, hord, hyc⟩ := HLP.out hjp
            obtain ⟨m, hm⟩ : ∃ m, j - 1 = m := ⟨_, rfl⟩
            have hwm : IntKind.i64.wrap ((j : Int) - 1) = (m : Int) := by rw [IntKind.wrap_i64]; omega
            have hm0 : (0 : Int) ≤ (m : Int) := by omega
            have hml : (m : Int) < (bs.length : Int) := by omega
            rw [hm] at hyc
            have HCS : Hid (∀ W, Below w2.heap.size w2 W → (W.cell? ⟨b, o + m * 3, none⟩ = some (.int .u32 (yp : Nat)) ∧ W.cell? ⟨b, o + m * 3 + 1, none⟩ = some (.int .i64 yl)) ∧ W.cell? ⟨b, o + j * 3, none⟩ = some (.int .u32 (xp : Nat)) ∧ W.cell? ⟨b, o + j * 3 + 1, none⟩ = some (.int .i64 xl)) := fun W hW => by
              have hW2 := HB2.out.trans (hW.mono HB2.out.size)
              exact ⟨hyc W hW2, HLJ.out W hW2⟩
            have HORD := hideN hord
            obtain ⟨⟨y0, y1⟩, x0, x1⟩ := HCS.out w2 (Below.refl _ _)
            clear hord hyc hm hjz HLP HLJ HO0
            cases hlb : lessB (yp, yl) (xp, xl) with
            | true =>
              have HLB : Hid ((if (yp : Int) = (xp : Int) then decide (yl < xl) else decide ((yp : Int) < (xp : Int))) = true) := hlb
              have HEE : Hid (be j = eb) := by show _ = _; rw [HRJ.out, HORD.out, hlb, if_neg (by simp)]
              clear HRJ HORD hlb
              go_wp2_with fail
              go_region_held3 (fun W => (W.cell? ⟨b, o + m * 3, none⟩ = some (.int .u32 (yp : Nat)) ∧ W.cell? ⟨b, o + m * 3 + 1, none⟩ = some (.int .i64 yl)) ∧ W.cell? ⟨b, o + j * 3, none⟩ = some (.int .u32 (xp : Nat)) ∧ W.cell? ⟨b, o + j * 3 + 1, none⟩ = some (.int .i64 xl)) (first | exact HCS.out _ HWN.out | go_keep) (first
                | (go_at_call 68; refine (isLess_any _ _ _ _ _).mono ?_; rintro e wn ⟨rfl, hbn⟩; rw [HLB.out]; have HWN : Hid (Below w2.heap.size w2 wn) := (Below.refl _ w2).drew.trans hbn; clear hbn))
              clear y0 y1 x0 x1 hjp hjp' hwm hm0 hml
              have HB3 : Hid (Below w.heap.size w wn) := HB2.out.trans (HWN.out.mono HB2.out.size)
              have HRB3 := hideN (HRB2.out.next HWN.out)
              rw [HEE.out] at HR HPOS
              rcases HPOS.out with h0 | h0
              · subst h0
                rw [if_neg (by simp)] at HR
                have HRR := hideN HR.out
                clear HR
                go_wp2_with fail
                go_roundw
                case rel => exact ⟨j + 1, HKL.out, by go_num, HRR.out, HB3.out, HRB3.out⟩
                case measure => simp [intOf]; have := HKL.out; omega
              · rw [if_pos (by omega)] at HR
                have HAA : Hid (ANS = (eb, (j : Int))) := by show _ = _; rw [HA.out, ← HR.out]; show (be j, (j : Int)) = _; rw [HEE.out]
                clear HR HA
                have q0 := HRB3.out.cell (i := 0) rfl
                have q1 := HRB3.out.cell (i := 1) rfl
                have f0 := HRB3.out.frozen 0
                have f1 := HRB3.out.frozen 1
                go_wp2_with fail
                exact bodyPost_ret (v := faultV eb (j : Int)) (by simp [results, Tryz.results25, go_sem, q0, q1]) rfl ⟨by rw [HAA.out], (HB3.out.setCell (p := ⟨w.heap.size, 0, none⟩) (by simp) _).setCell (p := ⟨w.heap.size, 1, none⟩) (by simp) _⟩
            | false =>
              have HLB : Hid ((if (yp : Int) = (xp : Int) then decide (yl < xl) else decide ((yp : Int) < (xp : Int))) = false) := hlb
              have HEE : Hid (be j = 8) := by show _ = _; rw [HRJ.out, HORD.out, hlb, if_pos (by rfl)]
              clear HRJ HORD hlb HPOS
              go_wp2_with fail
              go_region_held3 (fun W => (W.cell? ⟨b, o + m * 3, none⟩ = some (.int .u32 (yp : Nat)) ∧ W.cell? ⟨b, o + m * 3 + 1, none⟩ = some (.int .i64 yl)) ∧ W.cell? ⟨b, o + j * 3, none⟩ = some (.int .u32 (xp : Nat)) ∧ W.cell? ⟨b, o + j * 3 + 1, none⟩ = some (.int .i64 xl)) (first | exact HCS.out _ HWN.out | go_keep) (first
                | (go_at_call 68; refine (isLess_any _ _ _ _ _).mono ?_; rintro e wn ⟨rfl, hbn⟩; rw [HLB.out]; have HWN : Hid (Below w2.heap.size w2 wn) := (Below.refl _ w2).drew.trans hbn; clear hbn))
              clear y0 y1 x0 x1 hjp hjp' hwm hm0 hml
              have HB3 : Hid (Below w.heap.size w wn) := HB2.out.trans (HWN.out.mono HB2.out.size)
              have HRB3 := hideN (HRB2.out.next HWN.out)
              rw [HEE.out, if_pos (by decide)] at HR
              have HAA : Hid (ANS = (8, (j : Int))) := by show _ = _; rw [HA.out, ← HR.out]; show (be j, (j : Int)) = _; rw [HEE.out]
              clear HR HA
              have q0 := HRB3.out.cell (i := 0) rfl
              have q1 := HRB3.out.cell (i := 1) rfl
              have f0 := HRB3.out.frozen 0
              have f1 := HRB3.out.frozen 1
              go_wp2_with fail
              exact bodyPost_ret (v := faultV 8 (j : Int)) (by simp [results, Tryz.results25, go_sem, q0, q1]) rfl ⟨by rw [HAA.out], (HB3.out.setCell (p := ⟨w.heap.size, 0, none⟩) (by simp) _).setCell (p := ⟨w.heap.size, 1, none⟩) (by simp) _⟩
        · have hge : (bs.length : Int) ≤ (j : Int) := by omega
          have hz : bs.length - j = 0 := by omega
          rw [hz, firstErr] at HR
          have HAA : Hid (ANS = (0, -1)) := by show _ = _; rw [HA.out, ← HR.out]; rfl
          clear hz hlt HR HA
          go_wp2_with fail
          refine (fine_any _).mono ?_
          rintro e w2 ⟨rfl, hb2⟩
          have HB2 : Hid (Below w.heap.size w w2) := HB.out.trans (hb2.mono HB.out.size)
          have HRB2 := hideN (HRBk.out.next hb2)
          clear hb2
          have q0 := HRB2.out.cell (i := 0) rfl
          have q1 := HRB2.out.cell (i := 1) rfl
          have f0 := HRB2.out.frozen 0
          have f1 := HRB2.out.frozen 1
          go_wp2_with fail
          exact bodyPost_ret (v := faultV 0 (-1)) (by simp [results, Tryz.results25, go_sem, q0, q1]) rfl ⟨by rw [HAA.out], (HB2.out.setCell (p := ⟨w.heap.size, 0, none⟩) (by simp) _).setCell (p := ⟨w.heap.size, 1, none⟩) (by simp) _⟩
end Go.Proofs.YtcbcjefefmbccabGreatDoor
