/-
  Own text. The document's node by contracts: Get.
  Own text. Each bin of a node has a file, and there are not too many (NFull), whatever is done.
  Own text. The document's node by contracts over MNode; the two nodes beside each other (TwoN), and what holds of them at each act (ActI).
  Own text. cornbinlaw2's coded at the right number, by a contract.
  Own text. A node in memory behind a file that was dropped, a bin that went, a bin that was turned; delete of a map's entry outside a range.
-/
import Derived.Test.YtjdobbjdlighpabGreatDoorH33
import Derived.Test.YtjdobbjdlighpabGreatDoorH07
import Derived.Deep.RegionHeld3
import Derived.Test.YtjdobbjdlighpabGreatDoorH27
import Derived.Test.YtjdobbjdlighpabGreatDoorH22
import Derived.Test.YtjdobbjdlighpabGreatDoorH04
import Derived.Test.YtjdobbjdlighpabGreatDoorH13
namespace Go.Proofs.YtjdobbjdlighpabGreatDoor
open Go.RowKit Go.Maps

def mGet (st : NSt) (nm : List UInt8) : List UInt8 × Int := match nFile st.files nm with | none => ([], 5) | some s => (s, 0)
theorem hGet_at {l : List Hd} {x : Nat × Int} {t : List UInt8} (h : hGet l x = (t, 0)) : ∃ (k : Nat) (hk : k < l.length), findI l x = (k : Int) ∧ l[k].2.2 = t := by
  unfold hGet at h
  cases hf : hFind l x with
  | none => rw [hf] at h; simp at h
  | some k =>
    obtain ⟨hk, _⟩ := hFind_some hf
    rw [hf] at h
    simp only [List.getElem?_eq_getElem hk, Option.map_some, Option.getD_some] at h
    exact ⟨k, hk, by unfold findI; rw [hf], (Prod.mk.inj h).1⟩
theorem flatten_take_le (s : List UInt8) (j : Nat) : ((pieces s).take j).flatten.length ≤ s.length := by
  have h1 : ((pieces s).take j).flatten ++ ((pieces s).drop j).flatten = s := by rw [← List.flatten_append, List.take_append_drop, pieces_flatten]
  have := congrArg List.length h1
  rw [List.length_append] at this
  omega
set_option maxRecDepth 100000 in
set_option maxHeartbeats 16000000 in
theorem mNodeGet_any (M : Nat) (vf vb : Value) (ps : List MF) (bs : List MB) (nm : ByteArray) (U : Int) (n : Nat) (w : World) (hbn : bs.length ≤ 1000) (hpn : ps.length ≤ 1000) (hI : NInv ⟨mFs ps, mBs bs⟩) (hok : NOk U n ⟨mFs ps, mBs bs⟩) (h : MSt w M vf vb ps bs) :
    Calls Tryz.prog 48 #[.pointer (some ⟨M, 0, none⟩), .string nm] w fun e w' => e = .returned (.tuple #[.string ⟨(mGet ⟨mFs ps, mBs bs⟩ nm.data.toList).1.toArray⟩, .int .i64 (mGet ⟨mFs ps, mBs bs⟩ nm.data.toList).2]) ∧ Below w.heap.size w w' := by
  have HH := hideN h
  obtain ⟨pf, cf, hvf, hfc⟩ := h.files
  obtain ⟨pb, cb, hvb, hbc⟩ := h.reps
  subst hvf hvb
  clear hfc hbc
  obtain ⟨RES, hRES⟩ : ∃ RES, mGet ⟨mFs ps, mBs bs⟩ nm.data.toList = RES := ⟨_, rfl⟩
  have HRES := hideN hRES
  rw [hRES]
  have hpl : (ps.length : Int) ≤ 1000 := by omega
  have hbl0 : (bs.length : Int) ≤ 1000 := by omega
  have HFN := hideN (mFind_any M (.slice pf ps.length cf) (.slice pb bs.length cb) ps bs nm w hpn h)
  have HBN := hideN hbn
  clear hRES hbn hpn
  go_enter Tryz.func48, Tryz.ntmps48
  go_wp2_with fail
  refine HFN.out.mono ?_
  rintro e w1 ⟨rfl, hw1⟩
  obtain rfl := hw1.symm
  clear HFN
  cases hkf : kFind (mFs ps) nm.data.toList with
  | none =>
    have HE : Hid (RES = ([], 5)) := by show _ = _; rw [← HRES.out]; unfold mGet; rw [show nFile (NSt.files ⟨mFs ps, mBs bs⟩) nm.data.toList = none from by rw [nFile_kFind, hkf]; rfl]
    have HK : Hid (kFindI (mFs ps) nm.data.toList = -1) := by show _ = _; unfold kFindI; rw [hkf]
    rw [HK.out]
    clear hkf h hI hok
    go_wp2_with fail
    go_ret2
    rw [HE.out]
    exact ⟨rfl, Below.refl _ _⟩
  | some k =>
    obtain ⟨hkm, hkx⟩ := kFind_some hkf
    have hk : k < ps.length := by rw [mFs_length] at hkm; exact hkm
    rw [mFs_get] at hkx
    have HK : Hid (kFindI (mFs ps) nm.data.toList = (k : Int)) := by show _ = _; unfold kFindI; rw [hkf]
    have hkmem : ps[k] ∈ ps := List.getElem_mem hk
    have hnf : nFile (mFs ps) nm.data.toList = some ps[k].1.2 := by rw [nFile_kFind, hkf]; simp only [Option.bind_some]; rw [List.getElem?_eq_getElem hkm, Option.map_some, mFs_get]
    have hfm : (nm.data.toList, ps[k].1.2) ∈ mFs ps := nFile_some hnf
    obtain ⟨_, bl, hnb, hgot⟩ := hI.got hok hfm
    obtain ⟨hs4, _⟩ := hok.files _ hfm
    have hbo := hok.bins _ (nBin_some hnb)
    simp only at hs4 hbo hgot
    have HE : Hid (RES = (ps[k].1.2, 0)) := by show _ = _; rw [← HRES.out]; unfold mGet; rw [show nFile (NSt.files ⟨mFs ps, mBs bs⟩) nm.data.toList = _ from hnf]
    have HID0 := hideN (h.ids _ hkmem)
    obtain ⟨_, _, hvf', hcell⟩ := h.files
    obtain ⟨rfl, rfl⟩ : pf = _ ∧ cf = _ := by simpa using hvf'
    obtain ⟨b, o, hpfe, hx1, a0, a1, a2, a3⟩ := hcell k hk
    have q0 := h.blk.cell (i := 0) rfl
    obtain ⟨⟨⟨f1, s⟩, fv⟩, hq⟩ : ∃ q, ps[k] = q := ⟨_, rfl⟩
    rw [hq] at hkx hs4 hgot hnb HE HID0 a0 a1 a2 a3
    simp only at hkx hs4 hgot hnb HE HID0 a0 a1 a2 a3
    subst hkx
    rw [str_backK] at a0
    obtain ⟨pv, cv, hfv, hfvx⟩ := id HID0.out
    obtain ⟨idl, hidl⟩ : ∃ idl, (idsOf s).length = idl := ⟨_, rfl⟩
    have HIDL := hideN hidl
    rw [hidl] at hfv
    subst hfv
    obtain ⟨PP, hPP⟩ : ∃ PP, pmore 2166136261 s = PP := ⟨_, rfl⟩
    obtain ⟨LL, hLL⟩ : ∃ LL, (s.length : Int) = LL := ⟨_, rfl⟩
    rw [hPP] at a2
    rw [hLL] at a1
    have HIL : Hid (idl ≤ 4000) := by have h1 := pieces_len_le s; unfold idsOf at hidl; rw [List.length_map] at hidl; show _ ≤ _; omega
    subst hpfe
    rw [HK.out]
    have hk0 : (0 : Int) ≤ (k : Int) := by omega
    have hk1 : (k : Int) < (ps.length : Int) := by omega
    have hal := (Below.refl w.heap.size w).alloc (Nat.le_refl _) (.cells #[.string nm, .int .i64 LL, .int .u32 (PP : Nat), .slice pv idl cv] 40)
    have HB2 := hideN hal
    have HR7 := hideN (Blk.new w #[.string nm, .int .i64 LL, .int .u32 (PP : Nat), .slice pv idl cv] 40)
    obtain ⟨W2, hW2⟩ : ∃ W2, w.alloc (.cells #[.string nm, .int .i64 LL, .int .u32 (PP : Nat), .slice pv idl cv] 40) = W2 := ⟨_, rfl⟩
    have HW2 := hideN hW2
    rw [hW2] at HB2 HR7
    -- the bin
    cases hkb : kFind (mBs bs) (repT s) with
    | none => rw [nBin_kFind, hkb] at hnb; cases hnb
    | some kb =>
      obtain ⟨hkbm, hkbx⟩ := kFind_some hkb
      have hkbl : kb < bs.length := by rw [mBs_length] at hkbm; exact hkbm
      have hbl : (bs[kb]'hkbl).1.2 = bl := by
        rw [nBin_kFind, hkb] at hnb
        simp only [Option.bind_some] at hnb
        rw [List.getElem?_eq_getElem hkbm, Option.map_some, mBs_get] at hnb
        exact Option.some.inj hnb
      have HKI : Hid (kFindI (mBs bs) (repT s) = (kb : Int)) := by show _ = _; unfold kFindI; rw [hkb]
      have HBIN := hideN (h.bins _ (List.getElem_mem hkbl))
      have HREP : Hid (∀ W', Below W2.heap.size W2 W' → Calls Tryz.prog 105 #[rcpV nm LL (PP : Nat) (.slice pv idl cv)] W' fun e w' => e = .returned (idV ((repT s).1 : Nat) (repT s).2) ∧ Below W'.heap.size W' w') := fun W' hb => refRepOf_any nm LL (PP : Nat) (.slice pv idl cv) (idsOf s) W' ((HID0.out.below HB2.out).below hb) (by rw [hidl]; have := HIL.out; unfold maxLen; omega)
      have HFB : Hid (∀ W', Below W2.heap.size W2 W' → Calls Tryz.prog 17 #[.pointer (some ⟨M, 0, none⟩), idV ((repT s).1 : Nat) (repT s).2] W' fun e w' => e = .returned (.int .i64 (kb : Int)) ∧ Below W'.heap.size W' w') := fun W' hb => by
        have := mFindBin_any M (.slice (some ⟨b, o, none⟩) ps.length cf) (.slice pb bs.length cb) ps bs (repT s) W' HBN.out ((HH.out.below HB2.out).below hb)
        rw [HKI.out] at this
        exact this
      obtain ⟨_, _, hvb', hcellb⟩ := h.reps
      obtain ⟨rfl, rfl⟩ : pb = _ ∧ cb = _ := by simpa using hvb'
      obtain ⟨b2, o2, hpbe, ⟨hbb, hbb2⟩, hx3, hx4, e2⟩ := hcellb kb hkbl
      subst hpbe
      obtain ⟨BK, hBK⟩ : ∃ BK, (bs[kb]'hkbl).2.1 = BK := ⟨_, rfl⟩
      obtain ⟨BV, hBV⟩ : ∃ BV, (bs[kb]'hkbl).2.2 = BV := ⟨_, rfl⟩
      rw [hBK, hBV, hbl] at HBIN
      rw [hBK] at e2
      obtain ⟨⟨rp, rl⟩, hrep⟩ : ∃ r, repT s = r := ⟨_, rfl⟩
      rw [hrep] at HREP HFB
      simp only at HREP HFB
      have hkb0 : (0 : Int) ≤ (kb : Int) := by omega
      have hkb1 : (kb : Int) < (bs.length : Int) := by omega
      have HCL : Hid (∀ W', Below W2.heap.size W2 W' → W'.cell? ⟨M, 1, none⟩ = some (.slice (some ⟨b2, o2, none⟩) bs.length cb) ∧ W'.cell? ⟨w.heap.size, 0, none⟩ = some (.string nm) ∧ W'.cell? ⟨w.heap.size, 1, none⟩ = some (.int .i64 LL) ∧ W'.cell? ⟨w.heap.size, 2, none⟩ = some (.int .u32 (PP : Nat)) ∧ W'.cell? ⟨w.heap.size, 3, none⟩ = some (.slice pv idl cv) ∧ W'.cell? ⟨b2, o2 + kb * 3 + 2, none⟩ = some (.pointer (some ⟨BK, 0, none⟩))) := fun W' hb => by
        have h8 := HR7.out.next hb
        exact ⟨((HH.out.below HB2.out).below hb).blk.cell (i := 1) rfl, h8.cell (i := 0) rfl, h8.cell (i := 1) rfl, h8.cell (i := 2) rfl, h8.cell (i := 3) rfl, (hb.cell (p := ⟨b2, o2 + kb * 3 + 2, none⟩) (Nat.lt_of_lt_of_le hbb HB2.out.size)).trans ((HB2.out.cell (p := ⟨b2, o2 + kb * 3 + 2, none⟩) hbb).trans e2)⟩
      obtain ⟨z0, z1, z2, z3, z4, z5⟩ := HCL.out W2 (Below.refl _ _)
      rw [← hW2] at z0 z1 z2 z3 z4 z5
      have HGOT := hideN hgot
      have HBO := hideN hbo
      have HS4 := hideN hs4
      clear hkbx hkf hkm hkmem hcell hvf' hq hPP hLL hidl hal hW2 hnf hfm hnb hgot hs4 hbo hx1 hfvx hkb hkbm hbl hvb' hcellb hbb hbb2 hx3 hx4 e2 hBK hBV hrep hI hok h
      go_wp2_with fail
      rw [HW2.out] at z0 z1 z2 z3 z4 z5 ⊢
      obtain ⟨R7, hR7⟩ : ∃ R7, w.heap.size = R7 := ⟨_, rfl⟩
      rw [hR7] at HCL HR7 z1 z2 z3 z4 ⊢
      go_region_held3 (fun w' => w'.cell? ⟨M, 1, none⟩ = some (.slice (some ⟨b2, o2, none⟩) bs.length cb) ∧ w'.cell? ⟨R7, 0, none⟩ = some (.string nm) ∧ w'.cell? ⟨R7, 1, none⟩ = some (.int .i64 LL) ∧ w'.cell? ⟨R7, 2, none⟩ = some (.int .u32 (PP : Nat)) ∧ w'.cell? ⟨R7, 3, none⟩ = some (.slice pv idl cv) ∧ w'.cell? ⟨b2, o2 + kb * 3 + 2, none⟩ = some (.pointer (some ⟨BK, 0, none⟩))) (first | exact HCL.out _ HB5.out | exact HCL.out _ HB4.out | go_keep) (first
        | (go_at_call 105; refine (HREP.out _ (Below.refl _ W2).drew).mono ?_; rintro e w4 ⟨rfl, hb4⟩; have HB4 : Hid (Below W2.heap.size W2 w4) := (Below.refl _ W2).drew.trans (hb4.mono (Nat.le_refl _)); clear hb4)
        | (go_at_call 17; refine (HFB.out _ HB4.out).mono ?_; rintro e w5 ⟨rfl, hb5⟩; have HB5 : Hid (Below W2.heap.size W2 w5) := HB4.out.trans (hb5.mono HB4.out.size); clear hb5))
      have HBW : Hid (Below w.heap.size w w5) := HB2.out.trans (HB5.out.mono HB2.out.size)
      have HBN5 := hideN ((HBIN.out.below HB2.out).below HB5.out)
      have HR75 := hideN (HR7.out.next HB5.out)
      have HID5 := hideN ((HID0.out.below HB2.out).below HB5.out)
      obtain ⟨pL, cL, hBVe, hhc⟩ := HBN5.out.at
      subst hBVe
      have HHC := hideN hhc
      have HPL : Hid ((pieces s).length = idl) := by show _ = _; have := HIDL.out; unfold idsOf at this; rw [List.length_map] at this; exact this
      have r3 := HR75.out.cell (i := 3) rfl
      have hidl4 : (idl : Int) ≤ 4000 := by have := HIL.out; omega
      clear z0 z1 z2 z3 z4 z5 q0 a0 a1 a2 a3 hhc HB4 HREP HFB
      go_wp2_with fail
      go_loopw [9, 10] (fun sv iv wr => ∃ (j : Nat) (S : ByteArray), j ≤ (pieces s).length ∧ iv = .int .i64 j ∧ sv = .string S ∧ Hid (S.data.toList = ((pieces s).take j).flatten) ∧ Hid (Below w5.heap.size w5 wr)) (fun _ iv _ => (pieces s).length - (intOf iv).toNat)
      case atStart => exact ⟨0, ⟨#[]⟩, Nat.zero_le _, rfl, rfl, rfl, Below.refl _ _⟩
      case round =>
        clear r3
        obtain ⟨j, S, hj, rfl, rfl, HSS, HB⟩ := hrel
        have HR7R := hideN (HR75.out.next HB.out)
        have r3 := HR7R.out.cell (i := 3) rfl
        by_cases hlt : j < (pieces s).length
        · have hlt' : (j : Int) < (idl : Int) := by have := HPL.out; omega
          have hj0 : (0 : Int) ≤ (j : Int) := by omega
          obtain ⟨pv', cv', hv', hc'⟩ := HID5.out.below HB.out
          have hjl : j < (idsOf s).length := by unfold idsOf; rw [List.length_map]; exact hlt
          obtain ⟨rfl, hidle, rfl⟩ : pv = pv' ∧ idl = (idsOf s).length ∧ cv = cv' := by simpa using hv'
          obtain ⟨bi, oi, rfl, hbi, d0, d1⟩ := hc' j hjl
          have hxe : (idsOf s)[j] = idOfL (pieces s)[j] := by simp [idsOf, idOfL]
          have hpm : (pieces s)[j] ∈ pieces s := List.getElem_mem hlt
          have hg := HGOT.out _ hpm
          have hpl64 := (piece_le hpm).2
          have hsn : ((pieces s).take (j + 1)).flatten = ((pieces s).take j).flatten ++ (pieces s)[j] := by rw [List.take_succ_eq_append_getElem hlt, List.flatten_append]; simp
          rw [hxe] at d0 d1
          obtain ⟨t, ht⟩ : ∃ t, (pieces s)[j] = t := ⟨_, rfl⟩
          rw [ht] at hg hpl64 hsn d0 d1
          obtain ⟨⟨xp, xl⟩, hx⟩ : ∃ x, idOfL t = x := ⟨_, rfl⟩
          rw [hx] at hg d0 d1
          simp only at d0 d1
          obtain ⟨ki, hki, hfi, htx⟩ := hGet_at hg
          obtain ⟨bh, oh, hpe, ⟨hbh, hbc⟩, _, _, _, e3⟩ := HHC.out ki hki
          subst hpe
          rw [htx] at e3
          have HSZ : Hid (S.size ≤ 4000) := by
            have h1 := flatten_take_le s j
            have h2 := congrArg List.length HSS.out
            rw [Array.length_toList] at h2
            have h3 := HS4.out
            show S.size ≤ 4000
            have h4 : S.data.size = S.size := rfl
            omega
          have htsz : (⟨t.toArray⟩ : ByteArray).size = t.length := by simp [ByteArray.size]
          obtain ⟨S2, hS2, hT2, hZ2⟩ := add_eq S ⟨t.toArray⟩ (by rw [htsz]; have := HSZ.out; omega)
          have HNX : Hid (S2.data.toList = ((pieces s).take (j + 1)).flatten) := by show _ = _; rw [hT2, hsn, HSS.out]
          obtain ⟨T, hT⟩ : ∃ T : ByteArray, (⟨t.toArray⟩ : ByteArray) = T := ⟨_, rfl⟩
          rw [hT] at hS2 e3
          have hki0 : (0 : Int) ≤ (ki : Int) := by omega
          have hki1 : (ki : Int) < (bl.length : Int) := by omega
          have HCQ : Hid (∀ W', Below wr.heap.size wr W' → W'.cell? ⟨BK, 0, none⟩ = some (.slice (some ⟨bh, oh, none⟩) bl.length cL) ∧ W'.cell? ⟨R7, 3, none⟩ = some (.slice (some ⟨bi, oi, none⟩) idl cv) ∧ W'.cell? ⟨bi, oi + j * 2, none⟩ = some (.int .u32 (xp : Nat)) ∧ W'.cell? ⟨bi, oi + j * 2 + 1, none⟩ = some (.int .i64 xl) ∧ W'.cell? ⟨bh, oh + ki * 4 + 3, none⟩ = some (.string T)) := fun W' hb => ⟨((HBN5.out.below HB.out).below hb).blk.cell (i := 0) rfl, (HR7R.out.next hb).cell (i := 3) rfl, (hb.cell (p := ⟨bi, oi + j * 2, none⟩) hbi).trans d0, (hb.cell (p := ⟨bi, oi + j * 2 + 1, none⟩) hbi).trans d1, (hb.cell (p := ⟨bh, oh + ki * 4 + 3, none⟩) (Nat.lt_of_lt_of_le hbh HB.out.size)).trans ((HB.out.cell (p := ⟨bh, oh + ki * 4 + 3, none⟩) hbh).trans e3)⟩
          have HFI : Hid (∀ W', Below wr.heap.size wr W' → Calls Tryz.prog 116 #[.pointer (some ⟨BK, 0, none⟩), idV (xp : Nat) xl] W' fun e w' => e = .returned (.int .i64 (ki : Int)) ∧ Below W'.heap.size W' w') := fun W' hb => by
            have := rFind_any BK _ bl (xp, xl) W' (by have := HBO.out.many; unfold maxLen; omega) ((HBN5.out.below HB.out).below hb)
            rw [hfi] at this
            exact this
          obtain ⟨y0, y1, y2, y3, y4⟩ := HCQ.out wr (Below.refl _ _)
          clear hidle hv' hc' hjl hxe hpm hg hpl64 hsn ht hx hfi htx hbh hbc e3 htsz hT2 hZ2 hT r3 d0 d1 hbi
          go_wp2_with fail
          go_region_held3 (fun w' => w'.cell? ⟨BK, 0, none⟩ = some (.slice (some ⟨bh, oh, none⟩) bl.length cL) ∧ w'.cell? ⟨R7, 3, none⟩ = some (.slice (some ⟨bi, oi, none⟩) idl cv) ∧ w'.cell? ⟨bi, oi + j * 2, none⟩ = some (.int .u32 (xp : Nat)) ∧ w'.cell? ⟨bi, oi + j * 2 + 1, none⟩ = some (.int .i64 xl) ∧ w'.cell? ⟨bh, oh + ki * 4 + 3, none⟩ = some (.string T)) (first | exact HCQ.out _ HB6.out | go_keep) (first
            | (go_at_call 116; refine (HFI.out _ (Below.refl _ wr).drew).mono ?_; rintro e w6 ⟨rfl, hb6⟩; have HB6 : Hid (Below wr.heap.size wr w6) := (Below.refl _ wr).drew.trans (hb6.mono (Nat.le_refl _)); clear hb6))
          have HBN : Hid (Below w5.heap.size w5 w6) := HB.out.trans (HB6.out.mono HB.out.size)
          clear y0 y1 y2 y3 y4
          go_wp2_with fail
          go_roundw
          case rel => exact ⟨j + 1, S2, hlt, by go_num, rfl, HNX.out, HBN.out⟩
          case measure => simp [intOf]; omega
        · have hge : (idl : Int) ≤ (j : Int) := by have := HPL.out; omega
          have hall : S.data.toList = s := by
            rw [HSS.out, List.take_of_length_le (by omega), pieces_flatten]
          have HSE : Hid (S = ⟨s.toArray⟩) := bytes_eq hall
          clear hall
          go_wp2_with fail
          go_ret2
          rw [HE.out]
          exact ⟨by rw [HSE.out]; rfl, HBW.out.trans (HB.out.mono HBW.out.size)⟩
end Go.Proofs.YtjdobbjdlighpabGreatDoor
namespace Go.Proofs.YtjdobbjdlighpabGreatDoor
open Go.RowKit Go.Maps

/- Each bin has a file; there are not too many. -/
structure NFull (st : NSt) : Prop where
  bhas : ∀ b ∈ st.bins, ∃ f ∈ st.files, repT f.2 = b.1
  fmany : st.files.length ≤ 30
theorem NFull.empty : NFull ⟨[], []⟩ := ⟨fun b hb => by simp at hb, by simp⟩
theorem NFull.put {st : NSt} (h : NFull st) (nm s : List UInt8) : NFull (nPut st nm s).2.2 := by
  by_cases h1 : (ofR nm s).2 = 0
  · cases h2 : nFile st.files nm with
    | some t => rw [nPut_there h1 h2]; exact h
    | none =>
      by_cases h3 : 30 ≤ st.files.length
      · rw [nPut_full h1 h2 h3]; exact h
      · obtain ⟨⟨fr, ec, bl⟩, hp⟩ : ∃ r, putAll ((nBin st.bins (repT s)).getD []) 0 (pieces s) = r := ⟨_, rfl⟩
        by_cases h4 : ec = 0
        · subst h4
          rw [nPut_ok h1 h2 h3 rfl rfl hp]
          refine ⟨fun b hb => ?_, by simp only [List.length_cons]; omega⟩
          rcases List.mem_cons.1 hb with rfl | hb
          · exact ⟨_, List.mem_cons_self .., rfl⟩
          · obtain ⟨f, hf, e⟩ := h.bhas b (List.mem_filter.1 hb).1
            exact ⟨f, List.mem_cons_of_mem _ hf, e⟩
        · rw [nPut_err h1 h2 h3 rfl rfl hp h4]; exact h
  · rw [nPut_bad h1]; exact h
theorem file_of {st : NSt} (hI : NInv st) {nm s : List UInt8} (hf : nFile st.files nm = some s) {f : NFile} (hm : f ∈ st.files) (e : f.1 = nm) : f.2 = s := by
  obtain ⟨f1, f2⟩ := f
  simp only at e
  subst e
  have := nFile_of_mem hI.fap hm
  rw [hf] at this
  exact (Option.some.inj this).symm
theorem NFull.drop {st : NSt} (h : NFull st) (hI : NInv st) (nm : List UInt8) : NFull (nDrop st nm).2 := by
  unfold nDrop
  cases hf : nFile st.files nm with
  | none => exact h
  | some s =>
    simp only
    have hstay : ∀ b ∈ st.bins, b.1 ≠ repT s → ∃ f ∈ st.files.filter (fun f => !decide (f.1 = nm)), repT f.2 = b.1 := fun b hb hne => by
      obtain ⟨f, hf', e2⟩ := h.bhas b hb
      refine ⟨f, List.mem_filter.2 ⟨hf', ?_⟩, e2⟩
      by_cases e3 : f.1 = nm
      · rw [file_of hI hf hf' e3] at e2
        exact absurd e2.symm hne
      · simp [e3]
    split
    · rename_i hany
      obtain ⟨g, hg, he⟩ := List.any_eq_true.1 hany
      simp only [decide_eq_true_eq] at he
      refine ⟨fun b hb => ?_, Nat.le_trans (List.length_filter_le _ _) h.fmany⟩
      obtain ⟨c, hc, rfl⟩ := List.mem_map.1 hb
      have ek : (if c.1 = repT s then (c.1, dropAll c.2 (idsOf s)) else c).1 = c.1 := by split <;> rfl
      rw [ek]
      by_cases e : c.1 = repT s
      · exact ⟨g, hg, he.trans e.symm⟩
      · exact hstay c hc e
    · refine ⟨fun b hb => ?_, Nat.le_trans (List.length_filter_le _ _) h.fmany⟩
      obtain ⟨hb1, hb2⟩ := List.mem_filter.1 hb
      exact hstay b hb1 (fun e => by simp [e] at hb2)
theorem NFull.sweep {st : NSt} (h : NFull st) : NFull (nSweep st).2 := by
  refine ⟨fun b hb => ?_, h.fmany⟩
  obtain ⟨c, hc, rfl⟩ := List.mem_map.1 hb
  exact h.bhas c hc
end Go.Proofs.YtjdobbjdlighpabGreatDoor
namespace Go.Proofs.YtjdobbjdlighpabGreatDoor
open Go.RowKit Go.Maps

theorem mnPut {w : World} {M : Nat} {G : Nat → Prop} {sm : NSt} (h : MNode w ⟨M, 0, none⟩ G sm) (nm s : ByteArray) {U : Int} (hnm : nm.size ≤ 50000) (hs : s.size ≤ 50000) (hU : 0 ≤ U ∧ U + 5000 ≤ 1000000) (hok : ∀ b ∈ sm.bins, BinOk U b.2) (hbn : sm.bins.length ≤ 1000) (hpn : sm.files.length ≤ 1000) :
    Calls Tryz.prog 45 #[.pointer (some ⟨M, 0, none⟩), .string nm, .string s] w (MPutPost w M G (mPut sm nm.data.toList s.data.toList)) := by
  obtain ⟨M', vf, vb, ps, bs, hm, h, rfl, rfl⟩ := h
  obtain rfl : M = M' := by simpa using hm
  exact mNodePut_any M vf vb ps bs nm s U w hnm hs hU hok (by rw [← mBs_length]; exact hbn) (by rw [← mFs_length]; exact hpn) h
theorem mnDrop {w : World} {M : Nat} {G : Nat → Prop} {sm : NSt} (h : MNode w ⟨M, 0, none⟩ G sm) (nm : ByteArray) (hI : NInv sm) (hok : ∀ b ∈ sm.bins, BinOk 1000000 b.2) (hfl : ∀ f ∈ sm.files, f.2.length ≤ 4000) (hbn : sm.bins.length ≤ 1000) (hpn : sm.files.length ≤ 1000) :
    Calls Tryz.prog 46 #[.pointer (some ⟨M, 0, none⟩), .string nm] w (MDropPost w M G (nDrop sm nm.data.toList)) := by
  obtain ⟨M', vf, vb, ps, bs, hm, h, rfl, rfl⟩ := h
  obtain rfl : M = M' := by simpa using hm
  exact mNodeDrop_any M vf vb ps bs nm w (by rw [← mBs_length]; exact hbn) (by rw [← mFs_length]; exact hpn) hI hok hfl h
theorem mnSweep {w : World} {M : Nat} {G : Nat → Prop} {sm : NSt} (h : MNode w ⟨M, 0, none⟩ G sm) (hok : ∀ b ∈ sm.bins, BinOk 1000000 b.2) (hbn : sm.bins.length ≤ 1000) :
    Calls Tryz.prog 47 #[.pointer (some ⟨M, 0, none⟩)] w (MDropPost w M G (nSweep sm)) := by
  obtain ⟨M', vf, vb, ps, bs, hm, h, rfl, rfl⟩ := h
  obtain rfl : M = M' := by simpa using hm
  refine (mSweep_any M vf vb ps bs w (by rw [← mBs_length]; exact hbn) hok h).mono ?_
  rintro e w' ⟨rfl, bs', he, hS, hn, ho⟩
  refine ⟨rfl, _, ⟨M, vf, vb, ps, bs', rfl, hS, ?_, rfl⟩, fun k hk => ?_, ho.mono (fun k _ hk => .inr (.inr (.inr (.inl hk))))⟩
  · show (⟨mFs ps, (mBs bs).map swB⟩ : NSt) = _
    rw [he]
  · rcases hk with rfl | hk | hk | hk | hk
    · exact .inl (.inl rfl)
    · exact .inl (.inr (.inl hk))
    · exact .inl (.inr (.inr (.inl hk)))
    · rcases hn k hk with hk | hk
      · exact .inl (.inr (.inr (.inr (.inl hk))))
      · exact .inr hk
    · exact .inl (.inr (.inr (.inr (.inr hk))))
theorem mnSize {w : World} {M : Nat} {G : Nat → Prop} {sm : NSt} (h : MNode w ⟨M, 0, none⟩ G sm) (hok : ∀ b ∈ sm.bins, BinOk 1000000 b.2) (hbn : sm.bins.length ≤ 1000) :
    Calls Tryz.prog 49 #[.pointer (some ⟨M, 0, none⟩)] w fun e w' => e = .returned (.int .i64 (nSize sm.bins)) ∧ w' = w := by
  obtain ⟨M', vf, vb, ps, bs, hm, h, rfl, rfl⟩ := h
  obtain rfl : M = M' := by simpa using hm
  exact mSize_any M vf vb ps bs w (by rw [← mBs_length]; exact hbn) hok h
theorem mnGet {w : World} {M : Nat} {G : Nat → Prop} {sm : NSt} (h : MNode w ⟨M, 0, none⟩ G sm) (nm : ByteArray) {U : Int} {n : Nat} (hI : NInv sm) (hok : NOk U n sm) (hbn : sm.bins.length ≤ 1000) (hpn : sm.files.length ≤ 1000) :
    Calls Tryz.prog 48 #[.pointer (some ⟨M, 0, none⟩), .string nm] w fun e w' => e = .returned (.tuple #[.string ⟨(mGet sm nm.data.toList).1.toArray⟩, .int .i64 (mGet sm nm.data.toList).2]) ∧ Below w.heap.size w w' := by
  obtain ⟨M', vf, vb, ps, bs, hm, h, rfl, rfl⟩ := h
  obtain rfl : M = M' := by simpa using hm
  exact mNodeGet_any M vf vb ps bs nm U n w (by rw [← mBs_length]; exact hbn) (by rw [← mFs_length]; exact hpn) hI hok h
/- The program's node and the document's, side by side. -/
structure TwoN (w0 w : World) (p : Addr) (F : Nat → Prop) (st : NSt) (M : Nat) (G : Nat → Prop) (sm : NSt) : Prop where
  below : Below w0.heap.size w0 w
  node : PNode w p F st
  doc : MNode w ⟨M, 0, none⟩ G sm
  fnew : ∀ k, F k → w0.heap.size ≤ k
  gnew : ∀ k, G k → w0.heap.size ≤ k
  apart : ∀ k, F k → ¬ G k
theorem TwoN.next {w0 w w' : World} {p : Addr} {F : Nat → Prop} {st : NSt} {M : Nat} {G : Nat → Prop} {sm : NSt} (h : TwoN w0 w p F st M G sm) (hb : Below w.heap.size w w') : TwoN w0 w' p F st M G sm :=
  ⟨h.below.trans (hb.mono h.below.size), h.node.below hb, h.doc.below hb, h.fnew, h.gnew, h.apart⟩
theorem TwoN.prog {w0 w w' : World} {p : Addr} {F F' : Nat → Prop} {st st' : NSt} {M : Nat} {G : Nat → Prop} {sm : NSt} (h : TwoN w0 w p F st M G sm) (hp : PNode w' p F' st') (hF : ∀ k, F' k → F k ∨ w.heap.size ≤ k) (ho : Off F w w') : TwoN w0 w' p F' st' M G sm :=
  ⟨h.below.trans (ho.below h.below.size (fun k hk hf => by have := h.fnew k hf; omega)), hp, h.doc.off ho (fun k hk hf => h.apart k hf hk), fun k hk => (hF k hk).elim (h.fnew k) (fun h2 => Nat.le_trans h.below.size h2), h.gnew, fun k hk hg => (hF k hk).elim (fun hf => h.apart k hf hg) (fun h2 => by have := h.doc.lt k hg; omega)⟩
theorem TwoN.model {w0 w w' : World} {p : Addr} {F : Nat → Prop} {st : NSt} {M : Nat} {G G' : Nat → Prop} {sm sm' : NSt} (h : TwoN w0 w p F st M G sm) (hp : MNode w' ⟨M, 0, none⟩ G' sm') (hG : ∀ k, G' k → G k ∨ w.heap.size ≤ k) (ho : Off G w w') : TwoN w0 w' p F st M G' sm' :=
  ⟨h.below.trans (ho.below h.below.size (fun k hk hf => by have := h.gnew k hf; omega)), h.node.off ho (fun k hk hf => h.apart k hk hf), hp, h.fnew, fun k hk => (hG k hk).elim (h.gnew k) (fun h2 => Nat.le_trans h.below.size h2), fun k hk hg => (hG k hg).elim (fun hf => h.apart k hk hf) (fun h2 => by have := h.node.lt k hk; omega)⟩
structure ActI (k : Nat) (st sm : NSt) : Prop where
  rel : NRel st sm
  inv : NInv st
  full : NFull st
  ok : NOk (4000 * k) k st
theorem ActI.start : ActI 0 ⟨[], []⟩ ⟨[], []⟩ := ⟨NRel.empty, NInv.empty, NFull.empty, NOk.empty.mono (by simp) (Nat.le_refl _)⟩
theorem ActI.more {k : Nat} {st sm : NSt} (h : ActI k st sm) : ActI (k + 1) st sm := ⟨h.rel, h.inv, h.full, h.ok.mono (by push_cast; omega) (by omega)⟩
theorem ActI.put {k : Nat} {st sm : NSt} (h : ActI k st sm) (nm s : List UInt8) : ActI (k + 1) (nPut st nm s).2.2 (mPut sm nm s).2.2 :=
  ⟨(h.rel.put nm s).2.2, h.inv.put h.ok (by omega) nm s, h.full.put nm s, (h.ok.put (by omega) nm s).mono (V := 4000 * ((k + 1 : Nat) : Int)) (m := k + 1) (by push_cast; omega) (Nat.le_refl _)⟩
theorem ActI.drop {k : Nat} {st sm : NSt} (h : ActI k st sm) (nm : List UInt8) : ActI (k + 1) (nDrop st nm).2 (nDrop sm nm).2 :=
  ⟨(h.rel.drop nm).2, h.inv.drop h.ok nm, h.full.drop h.inv nm, (h.ok.drop nm).mono (by push_cast; omega) (by omega)⟩
theorem ActI.sweep {k : Nat} {st sm : NSt} (h : ActI k st sm) : ActI (k + 1) (nSweep st).2 (nSweep sm).2 :=
  ⟨h.rel.sweep.2, h.inv.sweep, h.full.sweep, h.ok.sweep.mono (by push_cast; omega) (by omega)⟩
theorem mGet_rel {st sm : NSt} (h : NRel st sm) (nm : List UInt8) : mGet sm nm = mGet st nm := by
  unfold mGet
  rw [h.file]
end Go.Proofs.YtjdobbjdlighpabGreatDoor
namespace Go.Proofs.YtjdobbjdlighpabGreatDoor
open Go.RowKit

set_option maxHeartbeats 2000000 in
theorem coded2_true (a : Nat → Addr) (v : Value) (c : Int) (w : World) (hE : ErrW w a) (h : ErrIs w a v (c, -1)) :
    Calls Tryz.prog 26 #[v, .int .i64 c] w fun e w' => e = .returned (.bool true) ∧ Below w.heap.size w w' := by
  have HE : Hid (ErrW w a) := hE
  have HI : Hid (ErrIs w a v (c, -1)) := h
  have hcc : (c == c) = true := by simp
  clear hE h
  go_enter Tryz.func26, Tryz.ntmps26
  go_wp2_with fail
  refine (HI.out.code HE.out).mono ?_
  rintro e w1 ⟨rfl, hb1⟩
  go_wp2_with fail
  go_ret
  exact ⟨rfl, hb1⟩
end Go.Proofs.YtjdobbjdlighpabGreatDoor
namespace Go.Proofs.YtjdobbjdlighpabGreatDoor
open Go.RowKit Go.Maps

section
variable {P : Program} {k : TypeId} {κ β : Type}
variable {ops : Array Oper} {rest : List Oper} {o : Oper} {a : Act} {Q : Exit → Act → World → Prop}
theorem wp_del_kit [DecidableEq κ] (M : MapKit P k κ β) (w : World) (hg : o.guard = none) (m x : Operand) (t : TypeId) (hop : o.op = Op.call { callee := Callee.builtin Builtin.delete, args := #[m, x], argTypes := #[t, k] })
    (e : TypeId) (ht : P.underlying t = some (.map k e)) (b : Nat) (l : List (κ × β)) (hm : a.eval m = .map (some b)) (h : M.Of w b l) (y : κ) (hy : M.wf y) (hx : a.eval x = M.mkK y)
    (hK : ∀ w', M.Of w' b (l.filter (fun h => !decide (h.1 = y))) → w.grownBy w' (some b) → wpList P ops Q rest (a.put o.dst (.tuple #[])) w') :
    wpList P ops Q (o :: rest) a w := by
  obtain ⟨ds, ho, hp⟩ := h.own
  refine wpList_delete_own w hg m x t k hop e M.K ht M.R b ds.length (.map ds) hm ho _ _ hx (M.key_kl hy) fun w' ho' hturn => hK w' ⟨⟨_, ownsMap_tight ho', ?_⟩, fun z hz => h.wf z (List.mem_filter.1 hz).1⟩ hturn.grown
  rw [← filter_ents hy l h.wf]
  exact hp.filter _
end
variable {w w' : World} {N mf mb : Nat} {vi : List UInt8 → Value} {pi : Nat × Int → Addr} {Fi : Nat × Int → Nat → Prop} {st : NSt}
/- One bin turned, in place. -/
def binTo (l : List NBin) (r : Nat × Int) (bl : List Hd) : List NBin := l.map (fun b => if b.1 = r then (b.1, bl) else b)
theorem binTo_key (r : Nat × Int) (bl : List Hd) (b : NBin) : (if b.1 = r then (b.1, bl) else b).1 = b.1 := by split <;> rfl
theorem NAt.bin1 {r : Nat × Int} {bl bl' : List Hd} {F' : Nat → Prop} (h : NAt w N mf mb vi pi Fi st) (hm : (r, bl) ∈ st.bins) (ho : Off (Fi r) w w') (hq : PBin0 w' (pi r) F' bl') (hF : ∀ k, F' k → Fi r k ∨ w.heap.size ≤ k) :
    NAt w' N mf mb vi pi (fun x => if x = r then F' else Fi x) ⟨st.files, binTo st.bins r bl'⟩ := by
  obtain ⟨a1, a2, a3⟩ := h.apart _ hm
  have hFl : ∀ k, F' k → k < w.heap.size → Fi r k := fun k hk hl => (hF k hk).resolve_right (by omega)
  refine ⟨ho.blk h.blk a1, h.files.moved (ho.block mf h.files.lt a2), ?_, fun f hf => (h.ids f hf).off ho (fun hi k hk => (h.rows f hf hi k hk).2.2.2.2 _ hm), fun f hf hi k hk => ?_, fun b hb => ?_, h.ne, fun b hb => ?_, fun b hb c hc hne k => ?_⟩
  · have e : (binTo st.bins r bl').map (fun b => (b.1, some (pi b.1))) = st.bins.map (fun b => (b.1, some (pi b.1))) := by
      unfold binTo
      rw [List.map_map]
      refine List.map_congr_left fun b _ => ?_
      simp only [Function.comp, binTo_key]
    rw [e]
    exact h.bins.moved (ho.block mb h.bins.lt a3)
  · obtain ⟨h1, h2, h3, h4, h5⟩ := h.rows f hf hi k hk
    refine ⟨Nat.lt_of_lt_of_le h1 ho.size, h2, h3, h4, fun b hb => ?_⟩
    obtain ⟨c, hc, rfl⟩ := List.mem_map.1 hb
    rw [binTo_key]
    by_cases e : c.1 = r
    · simp only [if_pos e]
      exact fun hk' => h5 _ hm (hFl k hk' h1)
    · simp only [if_neg e]
      exact h5 c hc
  · obtain ⟨c, hc, rfl⟩ := List.mem_map.1 hb
    by_cases e : c.1 = r
    · simp only [if_pos e]
      rw [e]
      exact hq
    · simp only [if_neg e]
      exact (h.bin c hc).off ho (fun k hk hr => h.two c hc _ hm e k hk hr)
  · obtain ⟨c, hc, rfl⟩ := List.mem_map.1 hb
    rw [binTo_key]
    by_cases e : c.1 = r
    · simp only [if_pos e]
      exact ⟨fun hk => a1 (hFl _ hk h.blk.lt), fun hk => a2 (hFl _ hk h.files.lt), fun hk => a3 (hFl _ hk h.bins.lt)⟩
    · simp only [if_neg e]
      exact h.apart c hc
  · obtain ⟨b', hb', rfl⟩ := List.mem_map.1 hb
    obtain ⟨c', hc', rfl⟩ := List.mem_map.1 hc
    rw [binTo_key, binTo_key] at *
    by_cases e : b'.1 = r
    · by_cases e2 : c'.1 = r
      · exact absurd (e.trans e2.symm) hne
      · simp only [if_pos e, if_neg e2]
        exact fun hk hc2 => h.two c' hc' _ hm e2 k hc2 (hFl k hk ((h.bin c' hc').lt k hc2))
    · by_cases e2 : c'.1 = r
      · simp only [if_neg e, if_pos e2]
        exact fun hk hc2 => h.two b' hb' _ hm e k hk (hFl k hc2 ((h.bin b' hb').lt k hk))
      · simp only [if_neg e, if_neg e2]
        exact h.two b' hb' c' hc' hne k
theorem nFoot_bin1 {r : Nat × Int} {bl bl' : List Hd} {F' : Nat → Prop} {s : Nat} (hm : (r, bl) ∈ st.bins) (hF : ∀ k, F' k → Fi r k ∨ s ≤ k) {k : Nat} (h : nFoot N mf mb vi (fun x => if x = r then F' else Fi x) ⟨st.files, binTo st.bins r bl'⟩ k) : nFoot N mf mb vi Fi st k ∨ s ≤ k := by
  rcases h with e | e | e | ⟨b, hb, hk⟩ | h
  · exact .inl (.inl e)
  · exact .inl (.inr (.inl e))
  · exact .inl (.inr (.inr (.inl e)))
  · obtain ⟨c, hc, rfl⟩ := List.mem_map.1 hb
    rw [binTo_key] at hk
    by_cases e : c.1 = r
    · simp only [if_pos e] at hk
      rcases hF k hk with h | h
      · exact .inl (.inr (.inr (.inr (.inl ⟨_, hm, h⟩))))
      · exact .inr h
    · simp only [if_neg e] at hk
      exact .inl (.inr (.inr (.inr (.inl ⟨c, hc, hk⟩))))
  · exact .inl (.inr (.inr (.inr (.inr h))))
theorem NAt.unfile {nm : List UInt8} (h : NAt w N mf mb vi pi Fi st) (ho : Off (fun k => k = mf) w w') (hfiles : strRcps.Of w' mf ((st.files.map fun f => (f.1, rwOf f (vi f.1))).filter (fun h => !decide (h.1 = nm)))) :
    NAt w' N mf mb vi pi Fi ⟨st.files.filter (fun f => !decide (f.1 = nm)), st.bins⟩ := by
  obtain ⟨n1, n2, n3⟩ := h.ne
  refine ⟨ho.blk h.blk (fun e => n1 e), ?_, h.bins.moved (ho.block mb h.bins.lt (fun e => n3 e.symm)), fun f hf => ?_, fun f hf hi k hk => ?_, fun b hb => (h.bin b hb).off ho (fun k hk e => (h.apart b hb).2.1 (e ▸ hk)), h.ne, h.apart, h.two⟩
  · rw [List.filter_map] at hfiles
    exact hfiles
  · have hf' := (List.mem_filter.1 hf).1
    exact (h.ids f hf').off ho (fun hi k hk => (h.rows f hf' hi k hk).2.2.1)
  · obtain ⟨h1, h2⟩ := h.rows f (List.mem_filter.1 hf).1 hi k hk
    exact ⟨Nat.lt_of_lt_of_le h1 ho.size, h2⟩
theorem nFoot_unfile {nm : List UInt8} {k : Nat} (h : nFoot N mf mb vi Fi ⟨st.files.filter (fun f => !decide (f.1 = nm)), st.bins⟩ k) : nFoot N mf mb vi Fi st k := by
  rcases h with e | e | e | h | ⟨f, hf, h⟩
  · exact .inl e
  · exact .inr (.inl e)
  · exact .inr (.inr (.inl e))
  · exact .inr (.inr (.inr (.inl h)))
  · exact .inr (.inr (.inr (.inr ⟨f, (List.mem_filter.1 hf).1, h⟩)))
theorem NAt.unbin {r : Nat × Int} (h : NAt w N mf mb vi pi Fi st) (ho : Off (fun k => k = mb) w w') (hbins : idBins.Of w' mb ((st.bins.map fun b => (b.1, some (pi b.1))).filter (fun h => !decide (h.1 = r)))) :
    NAt w' N mf mb vi pi Fi ⟨st.files, st.bins.filter (fun b => !decide (b.1 = r))⟩ := by
  obtain ⟨n1, n2, n3⟩ := h.ne
  refine ⟨ho.blk h.blk (fun e => n2 e), h.files.moved (ho.block mf h.files.lt (fun e => n3 e)), ?_, fun f hf => (h.ids f hf).off ho (fun hi k hk => (h.rows f hf hi k hk).2.2.2.1), fun f hf hi k hk => ?_, fun b hb => ?_, h.ne, fun b hb => h.apart b (List.mem_filter.1 hb).1, fun b hb c hc => h.two b (List.mem_filter.1 hb).1 c (List.mem_filter.1 hc).1⟩
  · rw [List.filter_map] at hbins
    exact hbins
  · obtain ⟨h1, h2, h3, h4, h5⟩ := h.rows f hf hi k hk
    exact ⟨Nat.lt_of_lt_of_le h1 ho.size, h2, h3, h4, fun b hb => h5 b (List.mem_filter.1 hb).1⟩
  · have hb' := (List.mem_filter.1 hb).1
    exact (h.bin b hb').off ho (fun k hk e => (h.apart b hb').2.2 (e ▸ hk))
theorem nFoot_unbin {r : Nat × Int} {k : Nat} (h : nFoot N mf mb vi Fi ⟨st.files, st.bins.filter (fun b => !decide (b.1 = r))⟩ k) : nFoot N mf mb vi Fi st k := by
  rcases h with e | e | e | ⟨b, hb, h⟩ | h
  · exact .inl e
  · exact .inr (.inl e)
  · exact .inr (.inr (.inl e))
  · exact .inr (.inr (.inr (.inl ⟨b, (List.mem_filter.1 hb).1, h⟩)))
  · exact .inr (.inr (.inr (.inr h)))
end Go.Proofs.YtjdobbjdlighpabGreatDoor
