/-
  Own text. The document's node by contracts: Put.
-/
import Derived.Test.YtjdobbjdlighpabGreatDoorH31
import Derived.Test.YtjdobbjdlighpabGreatDoorH09
import Derived.Test.YtjdobbjdlighpabGreatDoorH27
namespace Go.Proofs.YtjdobbjdlighpabGreatDoor
open Go.RowKit Go.Maps

theorem mPut_err {st : NSt} {nm s : List UInt8} {c : Int} (h : nPut st nm s = (0, c, st)) (hc : c ≠ 0) : mPut st nm s = (0, c, st) := by
  unfold mPut
  rw [h, if_pos hc]
theorem mPut_ok {st : NSt} {nm s : List UInt8} {r : Nat × Int} {BL bl : List Hd} {fr : Int} (h : (ofR nm s).2 = 0) (h2 : nFile st.files nm = none) (h3 : ¬ 30 ≤ st.files.length) (hr : repT s = r) (hb : (nBin st.bins r).getD [] = BL) (hp : putAll BL 0 (pieces s) = (fr, 0, bl)) : mPut st nm s = (fr, 0, ⟨kIns ltN st.files (nm, s), kSet st.bins r bl⟩) := by
  unfold mPut
  rw [nPut_ok h h2 h3 hr hb hp, if_neg (by simp), hr, hb, hp]
theorem hPut_err_pos {l : List Hd} {t : List UInt8} {ri : Nat × Int} {ra : Bool} {re : Int} {rl : List Hd} (h : hPut l t = ((ri, ra, re), rl)) (hne : re ≠ 0) : 0 < re := by
  unfold hPut at h
  split at h
  · simp at h; omega
  · split at h
    · split at h <;> simp at h <;> omega
    · split at h <;> simp at h <;> omega
def MPutPost (w : World) (M : Nat) (G : Nat → Prop) (r : Int × Int × NSt) (e : Ending) (w' : World) : Prop :=
  e = .returned (.tuple #[.int .i64 r.1, .int .i64 r.2.1]) ∧ ∃ G', MNode w' ⟨M, 0, none⟩ G' r.2.2 ∧ (∀ k, G' k → G k ∨ w.heap.size ≤ k) ∧ Off G w w'
theorem MPutPost.same {w w' : World} {M : Nat} {vf vb : Value} {ps : List MF} {bs : List MB} {r : Int × Int × NSt} {c : Int} (hS : MSt w M vf vb ps bs) (hr : r = (0, c, ⟨mFs ps, mBs bs⟩)) (hb : Below w.heap.size w w') : MPutPost w M (mFoot M vf vb ps bs) r (.returned (.tuple #[.int .i64 0, .int .i64 c])) w' := by
  subst hr
  exact ⟨rfl, _, ⟨M, vf, vb, ps, bs, rfl, hS.below hb, rfl, rfl⟩, fun k hk => .inl hk, Off.of_below hb⟩
set_option maxRecDepth 100000 in
set_option maxHeartbeats 16000000 in
theorem mNodePut_any (M : Nat) (vf vb : Value) (ps : List MF) (bs : List MB) (nm s : ByteArray) (U : Int) (w : World) (hnm : nm.size ≤ 50000) (hs : s.size ≤ 50000) (hU : 0 ≤ U ∧ U + 5000 ≤ 1000000) (hok : ∀ b ∈ mBs bs, BinOk U b.2) (hbn : bs.length ≤ 1000) (hpn : ps.length ≤ 1000) (h : MSt w M vf vb ps bs) :
    Calls Tryz.prog 45 #[.pointer (some ⟨M, 0, none⟩), .string nm, .string s] w (MPutPost w M (mFoot M vf vb ps bs) (mPut ⟨mFs ps, mBs bs⟩ nm.data.toList s.data.toList)) := by
  have HH := hideN h
  have HOK := hideN hok
  obtain ⟨pf, cf, hvf, hfc⟩ := h.files
  obtain ⟨pb, cb, hvb, hbc⟩ := h.reps
  subst hvf hvb
  clear hfc hbc
  obtain ⟨RES, hRES⟩ : ∃ RES, mPut ⟨mFs ps, mBs bs⟩ nm.data.toList s.data.toList = RES := ⟨_, rfl⟩
  have HRES := hideN hRES
  rw [hRES]
  have hpl : (ps.length : Int) ≤ 1000 := by omega
  have hbl0 : (bs.length : Int) ≤ 1000 := by omega
  have HBN := hideN hbn
  have HPN := hideN hpn
  clear h hok hRES hbn hpn
  by_cases hname : isName nm.data.toList = true
  rotate_left
  · have hname' : isName nm.data.toList = false := by cases h : isName nm.data.toList <;> simp_all
    have HE : Hid (RES = (0, 4, ⟨mFs ps, mBs bs⟩)) := by show _ = _; rw [← HRES.out]; exact mPut_err (by rw [nPut_bad (by rw [ofR_name hname']; simp), ofR_name hname']) (by decide)
    have HRO := hideN (recipeOf_name nm s (by unfold maxLen; omega) hname' w)
    clear hname hname'
    go_enter Tryz.func45, Tryz.ntmps45
    go_wp2_with fail
    refine HRO.out.mono ?_
    rintro e w1 ⟨rfl, hb1⟩
    have hal := (Below.refl w1.heap.size w1).alloc (Nat.le_refl _) (.cells #[.string ⟨#[]⟩, .int .i64 0, .int .u32 0, .slice none 0 0] 40)
    have HB := hideN (hb1.trans (hal.mono hb1.size))
    clear hb1 hal HRO
    go_wp2_with fail
    go_ret2
    exact MPutPost.same HH.out HE.out HB.out
  by_cases hlong : 4000 < s.size
  · have hl' : 4000 < s.data.toList.length := by rw [Array.length_toList]; exact hlong
    have HE : Hid (RES = (0, 2, ⟨mFs ps, mBs bs⟩)) := by show _ = _; rw [← HRES.out]; exact mPut_err (by rw [nPut_bad (by rw [ofR_bound hname hl']; simp), ofR_bound hname hl']) (by decide)
    have HRO := hideN (recipeOf_bound nm s (by unfold maxLen; omega) hname hlong w)
    clear hname hl' hlong
    go_enter Tryz.func45, Tryz.ntmps45
    go_wp2_with fail
    refine HRO.out.mono ?_
    rintro e w1 ⟨rfl, hb1⟩
    have hal := (Below.refl w1.heap.size w1).alloc (Nat.le_refl _) (.cells #[.string ⟨#[]⟩, .int .i64 0, .int .u32 0, .slice none 0 0] 40)
    have HB := hideN (hb1.trans (hal.mono hb1.size))
    clear hb1 hal HRO
    go_wp2_with fail
    go_ret2
    exact MPutPost.same HH.out HE.out HB.out
  have hl' : ¬ 4000 < s.data.toList.length := by rw [Array.length_toList]; exact hlong
  have HOF : Hid ((ofR nm.data.toList s.data.toList).2 = 0) := by show _ = _; rw [ofR_fine hname hl']
  have HRO := hideN (recipeOf_fine nm s (by unfold maxLen; omega) hname (by omega) w)
  have HSZ : Hid (s.data.toList.length = s.size) := by show _ = _; rw [Array.length_toList]; rfl
  have HPCS : Hid ((pieces s.data.toList).length ≤ 250) := pieces_250 _ (by omega)
  clear hname hl'
  obtain ⟨idl, hidl⟩ : ∃ idl, (idsOf s.data.toList).length = idl := ⟨_, rfl⟩
  have HIDL := hideN hidl
  obtain ⟨PP, hPP⟩ : ∃ PP, pmore 2166136261 s.data.toList = PP := ⟨_, rfl⟩
  have HPP := hideN hPP
  rw [hPP] at HRO
  clear hidl hPP
  go_enter Tryz.func45, Tryz.ntmps45
  go_wp2_with fail
  refine HRO.out.mono ?_
  rintro e w1 ⟨v1, rfl, hi1, hb1⟩
  obtain ⟨pv, cv, hv1, _⟩ := id hi1
  rw [HIDL.out] at hv1
  subst hv1
  have HI1 := hideN hi1
  have HB1 := hideN hb1
  have hal := (Below.refl w1.heap.size w1).alloc (Nat.le_refl _) (.cells #[.string nm, .int .i64 (s.size : Int), .int .u32 (PP : Nat), .slice pv idl cv] 40)
  have HB2 := hideN (hb1.trans (hal.mono hb1.size))
  have HR8 := hideN (Blk.new w1 #[.string nm, .int .i64 (s.size : Int), .int .u32 (PP : Nat), .slice pv idl cv] 40)
  clear hi1 hb1 hal HRO
  go_wp2_with fail
  obtain ⟨W2, hW2⟩ : ∃ W2, w1.alloc (.cells #[.string nm, .int .i64 (s.size : Int), .int .u32 (PP : Nat), .slice pv idl cv] 40) = W2 := ⟨_, rfl⟩
  have HS12 : Hid (w1.heap.size < W2.heap.size) := by show _ < _; rw [← hW2]; simp
  have HLI : Hid (Below w1.heap.size w1 W2) := by show Below _ _ _; rw [← hW2]; exact (Below.refl _ _).alloc (Nat.le_refl _) _
  obtain ⟨R8, hR8⟩ : ∃ R8, w1.heap.size = R8 := ⟨_, rfl⟩
  have HR8E := hideN hR8
  rw [hW2] at HB2 HR8 ⊢
  rw [hR8] at HR8 ⊢
  clear hW2 hR8
  have HFN := hideN (mFind_any M (.slice pf ps.length cf) (.slice pb bs.length cb) ps bs nm W2 HPN.out (HH.out.below HB2.out))
  go_wp2_with fail
  refine HFN.out.mono ?_
  rintro e w3 ⟨rfl, hw3⟩
  obtain rfl := hw3.symm
  clear HFN
  cases hkf : kFind (mFs ps) nm.data.toList with
  | some k =>
    have hnf : ∃ t, nFile (mFs ps) nm.data.toList = some t := by
      obtain ⟨hk, _⟩ := kFind_some hkf
      exact ⟨_, by rw [nFile_kFind, hkf]; simp [List.getElem?_eq_getElem hk]; rfl⟩
    obtain ⟨t, ht⟩ := hnf
    have HE : Hid (RES = (0, 6, ⟨mFs ps, mBs bs⟩)) := by show _ = _; rw [← HRES.out]; exact mPut_err (nPut_there HOF.out ht) (by decide)
    have HK : Hid (kFindI (mFs ps) nm.data.toList = (k : Int)) := by show _ = _; unfold kFindI; rw [hkf]
    rw [HK.out]
    have hk0 : (0 : Int) ≤ (k : Int) := by omega
    clear hkf ht
    go_wp2_with fail
    go_ret2
    exact MPutPost.same HH.out HE.out HB2.out
  | none =>
    have HNF : Hid (nFile (mFs ps) nm.data.toList = none) := by show _ = _; rw [nFile_kFind, hkf]; rfl
    have HK : Hid (kFindI (mFs ps) nm.data.toList = -1) := by show _ = _; unfold kFindI; rw [hkf]
    rw [HK.out]
    clear hkf
    have q0 := (HH.out.below HB2.out).blk.cell (i := 0) rfl
    by_cases hfull : 30 ≤ ps.length
    · have hfull' : (30 : Int) ≤ (ps.length : Int) := by omega
      have HE : Hid (RES = (0, 7, ⟨mFs ps, mBs bs⟩)) := by show _ = _; rw [← HRES.out]; exact mPut_err (nPut_full HOF.out HNF.out (by rw [mFs_length]; exact hfull)) (by decide)
      clear hfull
      go_wp2_with fail
      go_ret2
      exact MPutPost.same HH.out HE.out HB2.out
    have hfull' : ¬ (30 : Int) ≤ (ps.length : Int) := by omega
    have HFULL : Hid (¬ 30 ≤ (mFs ps).length) := by show ¬ _; rw [mFs_length]; exact hfull
    have r0 := HR8.out.cell (i := 0) rfl
    have r1 := HR8.out.cell (i := 1) rfl
    have r2 := HR8.out.cell (i := 2) rfl
    have r3 := HR8.out.cell (i := 3) rfl
    have HIA : Hid (IdsAt W2 (.slice pv idl cv) (idsOf s.data.toList)) := (HI1.out.below HLI.out).at
    have HREP := hideN (refRepOf_any nm (s.size : Int) (PP : Nat) (.slice pv idl cv) (idsOf s.data.toList) W2 HIA.out (by rw [HIDL.out]; have h1 := pieces_len_le s.data.toList; have h2 := HIDL.out; unfold idsOf at h2; rw [List.length_map] at h2; unfold maxLen; have h3 := HSZ.out; omega))
    change Hid (Calls _ _ _ _ (fun e w' => e = .returned (idV ((repT s.data.toList).1 : Nat) (repT s.data.toList).2) ∧ _)) at HREP
    obtain ⟨⟨rp, rl⟩, hrep⟩ : ∃ r, repT s.data.toList = r := ⟨_, rfl⟩
    have HRT := hideN hrep
    rw [hrep] at HREP
    simp only at HREP
    clear hrep hfull
    go_wp2_with fail
    refine HREP.out.mono ?_
    rintro e w4 ⟨rfl, hb4⟩
    have hal := (Below.refl w4.heap.size w4).alloc (Nat.le_refl _) (.cells #[.int .u32 (rp : Nat), .int .i64 rl] 25)
    have HB5 := hideN (HB2.out.trans ((hb4.mono HB2.out.size).trans (hal.mono (Nat.le_trans HB2.out.size hb4.size))))
    have HB25 := hideN (hb4.trans (hal.mono hb4.size))
    have HSZ24 : Hid (w.heap.size ≤ w4.heap.size) := Nat.le_trans HB2.out.size hb4.size
    have HR10 := hideN (Blk.new w4 #[.int .u32 (rp : Nat), .int .i64 rl] 25)
    clear hb4 hal HREP q0 r0 r1 r2 r3
    go_wp2_with fail
    obtain ⟨W5, hW5⟩ : ∃ W5, w4.alloc (.cells #[.int .u32 (rp : Nat), .int .i64 rl] 25) = W5 := ⟨_, rfl⟩
    obtain ⟨R10, hR10⟩ : ∃ R10, w4.heap.size = R10 := ⟨_, rfl⟩
    rw [hW5] at HB5 HB25 HR10 ⊢
    rw [hR10] at HSZ24
    have hs5 : W5.heap.size = R10 + 1 := by rw [← hW5, ← hR10]; simp
    rw [hR10] at HR10 ⊢
    have HR85 := hideN (HR8.out.next HB25.out)
    have HR10LT : Hid (R10 < W5.heap.size) := HR10.out.lt
    have HR10GE : Hid (w.heap.size ≤ R10) := HSZ24.out
    clear hW5 hR10
    have hal := (Below.refl W5.heap.size W5).alloc (Nat.le_refl _) (.cells #[.slice none 0 0] 111)
    have HB6 := hideN (HB5.out.trans (hal.mono HB5.out.size))
    have HB56 := hideN hal
    have HBX := hideN (Blk.new W5 #[.slice none 0 0] 111)
    obtain ⟨W6, hW6⟩ : ∃ W6, W5.alloc (.cells #[.slice none 0 0] 111) = W6 := ⟨_, rfl⟩
    obtain ⟨BX, hBXe⟩ : ∃ BX, R10 + 1 = BX := ⟨_, rfl⟩
    have HBXE : Hid (W5.heap.size = BX) := by show _ = _; rw [hs5, hBXe]
    rw [hW6] at HB6 HB56 HBX ⊢
    rw [hBXe] at ⊢
    rw [hs5, hBXe] at HBX
    have HR86 := hideN (HR85.out.next HB56.out)
    have HR106 := hideN (HR10.out.next HB56.out)
    have hS6 := HH.out.below HB6.out
    have q1 := hS6.blk.cell (i := 1) rfl
    have s0 := HR106.out.cell (i := 0) rfl
    have s1 := HR106.out.cell (i := 1) rfl
    have HFB := hideN (mFindBin_any M (.slice pf ps.length cf) (.slice pb bs.length cb) ps bs (rp, rl) W6 HBN.out hS6)
    clear hal hW6 hBXe hs5 hS6 HR85 HR10 HR8
    go_wp2_with fail
    refine HFB.out.mono ?_
    rintro e w7 ⟨rfl, hb7⟩
    have HB7 := hideN (HB6.out.trans (hb7.mono HB6.out.size))
    have HR87 := hideN (HR86.out.next hb7)
    have HR107 := hideN (HR106.out.next hb7)
    have HBX7 := hideN (HBX.out.next hb7)
    have HB57 := hideN (HB56.out.trans (hb7.mono HB56.out.size))
    have HS7 := hideN (HH.out.below HB7.out)
    clear hb7 HFB q1 s0 s1 HR86 HR106 HBX HB56 HB6
    cases hkb : kFind (mBs bs) (rp, rl) with
    | some k =>
      obtain ⟨hk, hkx⟩ := kFind_some hkb
      have hk' : k < bs.length := by rw [mBs_length] at hk; exact hk
      have hnb : nBin (mBs bs) (rp, rl) = some bs[k].1.2 := by rw [nBin_kFind, hkb]; simp only [Option.bind_some]; rw [List.getElem?_eq_getElem hk, Option.map_some, mBs_get]
      have HNB : Hid ((nBin (mBs bs) (rp, rl)).getD [] = bs[k].1.2) := by show _ = _; rw [hnb]; rfl
      have HBO : Hid (BinOk U bs[k].1.2) := by have := HOK.out _ (List.getElem_mem hk); rw [mBs_get] at this; exact this
      have HK : Hid (kFindI (mBs bs) (rp, rl) = (k : Int)) := by show _ = _; unfold kFindI; rw [hkb]
      have HCP := hideN (rCopy_any bs[k].2.1 bs[k].2.2 bs[k].1.2 w7 (by have := HBO.out.many; omega) (HS7.out.bins _ (List.getElem_mem hk')))
      obtain ⟨_, _, hvb', hcell⟩ := HS7.out.reps
      obtain ⟨rfl, rfl⟩ : pb = _ ∧ cb = _ := by simpa using hvb'
      obtain ⟨b, o, rfl, hx1, hx2, hx3, a2⟩ := hcell k hk'
      clear hx1 hx2 hx3
      have q1 := HS7.out.blk.cell (i := 1) rfl
      obtain ⟨BK, hBK⟩ : ∃ BK, bs[k].2.1 = BK := ⟨_, rfl⟩
      obtain ⟨BL, hBL⟩ : ∃ BL, bs[k].1.2 = BL := ⟨_, rfl⟩
      rw [hBK] at HCP a2
      rw [hBL] at HNB HBO HCP
      rw [HK.out]
      have hk0 : (0 : Int) ≤ (k : Int) := by omega
      have hk1 : (k : Int) < (bs.length : Int) := by omega
      clear hkb hk hkx hk' hnb hvb' hcell hBK hBL
      go_wp2_with fail
      refine HCP.out.mono ?_
      rintro e w8 ⟨B0, v0, rfl, hr0, hn0, hb8⟩
      have HB8 := hideN (HB7.out.trans (hb8.mono HB7.out.size))
      have HR88 := hideN (HR87.out.next hb8)
      have HR108 := hideN (HR107.out.next hb8)
      have HRB := hideN hr0
      have HNEW : Hid (∀ j, RBin.Of B0 v0 j → W5.heap.size ≤ j) := fun j hj => Nat.le_trans HB57.out.size (hn0 j hj)
      have HB58 := hideN (HB57.out.trans (hb8.mono HB57.out.size))
      clear hr0 hn0 hb8 q1 a2 HCP
      have HNP : Hid (∀ PA, putAll BL 0 (pieces s.data.toList) = PA → (PA.2.1 ≠ 0 → RES = (0, PA.2.1, ⟨mFs ps, mBs bs⟩)) ∧ (PA.2.1 = 0 → RES = (PA.1, 0, ⟨kIns ltN (mFs ps) (nm.data.toList, s.data.toList), kSet (mBs bs) (rp, rl) PA.2.2⟩))) := fun PA hPA => by
        obtain ⟨fr, ec, bl⟩ := PA
        refine ⟨fun hne => ?_, fun he => ?_⟩
        · rw [← HRES.out]
          exact mPut_err (nPut_err HOF.out HNF.out HFULL.out HRT.out HNB.out hPA hne) hne
        · simp only at he
          subst he
          rw [← HRES.out]
          exact mPut_ok HOF.out HNF.out HFULL.out HRT.out HNB.out hPA
      have HRBL : Hid (∀ j, RBin.Of B0 v0 j → j < w8.heap.size) := fun j hj => HRB.out.lt hj
      obtain ⟨PA, hPA⟩ : ∃ PA, putAll BL 0 (pieces s.data.toList) = PA := ⟨_, rfl⟩
      have HPA := hideN hPA
      have HFIN := hideN (HNP.out PA hPA)
      have HPO := hideN (piecesOf_any s (by omega) w8)
      have HPL : Hid (∀ t ∈ pieces s.data.toList, t.length ≤ 64) := fun t ht => (piece_le ht).2
      clear hPA HNP
      go_wp2_with fail
      refine HPO.out.mono ?_
      rintro e w9 ⟨vp, rfl, hrow, hb9⟩
      have HB9 := hideN (HB8.out.trans (hb9.mono HB8.out.size))
      have HR89 := hideN (HR88.out.next hb9)
      have HR109 := hideN (HR108.out.next hb9)
      have HRB9 := hideN (HRB.out.below hb9)
      have HS9 := hideN (HH.out.below HB9.out)
      have HB29 : Hid (Below W2.heap.size W2 w9) := hideN (HB25.out.trans ((HB58.out.mono HB25.out.size).trans (hb9.mono (Nat.le_trans HB25.out.size HB58.out.size))))
      have HSZ58 : Hid (W5.heap.size ≤ w8.heap.size) := HB58.out.size
      have HSZ89 : Hid (w8.heap.size ≤ w9.heap.size) := hb9.size
      have HSZ05 : Hid (w.heap.size ≤ W5.heap.size) := HB5.out.size
      have HR8L : Hid (R8 < W5.heap.size) := by have h1 := HS12.out; have h2 := HB25.out.size; have h3 := HR8E.out; show _ < _; omega
      have HR10L : Hid (R10 < W5.heap.size) := HR10LT.out
      have HR10G : Hid (w.heap.size ≤ R10) := HR10GE.out
      have HIA9 := hideN (HIA.out.below HB29.out)
      have HIDB : Hid (idsOf s.data.toList ≠ [] → ∀ k, (Value.slice pv idl cv).ownBlock = some k → w.heap.size ≤ k ∧ k < W5.heap.size) := fun hne k hk => by
        obtain ⟨p', c', hv', hc'⟩ := HI1.out
        obtain ⟨b', o', hp', hle, hlt', _⟩ := hc' 0 (List.length_pos_iff.2 hne)
        have e1 : pv = p' := by have := hv'; simp at this; exact this.1
        subst e1 hp'
        have : b' = k := by simpa [Value.ownBlock] using hk
        have h1 := HS12.out
        have h2 := HB25.out.size
        omega
      have HLOW : Hid (∀ k, mFoot M (.slice pf ps.length cf) (.slice (some ⟨b, o, none⟩) bs.length cb) ps bs k → k < w.heap.size) := HH.out.lt
      obtain ⟨gp, cp, hvp⟩ := row_shapeK hrow
      subst hvp
      have HCN : Hid (∀ k (hk : k < (pieces s.data.toList).length), ∃ g, gp = some ⟨g, 0, none⟩ ∧ w8.heap.size ≤ g ∧ g < w9.heap.size ∧ w9.cell? ⟨g, k, none⟩ = some (.string ⟨(pieces s.data.toList)[k].toArray⟩)) := fun k hk => by
        rcases hrow.2 with ⟨_, hz⟩ | ⟨g, cap, cur, hv, hg, hb, _⟩
        · omega
        · refine ⟨g, by simpa using (by simpa using hv : gp = some ⟨g, 0, none⟩ ∧ cp = cap).1, hg, lt_of_block hb, ?_⟩
          have c1 := hrow.cells (g := g) (by rw [hv]; rfl) k (strW (pieces s.data.toList)[k]) (by simp [hk])
          simp only [add_plain] at c1
          exact c1
      clear hrow hb9 HPO HB8 HRB HR88 HR108
      obtain ⟨LS, hLS⟩ : ∃ LS, pieces s.data.toList = LS := ⟨_, rfl⟩
      rw [hLS] at HPA HPL HCN HPCS ⊢
      have hlsl : (LS.length : Int) ≤ 250 := by have := HPCS.out; omega
      clear hLS
      go_wp2_with fail
      go_loopw [13, 15] (fun fv iv wr => ∃ (k : Nat) (fr : Int) (bl : List Hd) (v : Value), k ≤ LS.length ∧ iv = .int .i64 k ∧ fv = .int .i64 fr ∧ (0 ≤ fr ∧ fr ≤ 100 * k) ∧ Hid (putAll bl fr (LS.drop k) = PA) ∧ Hid (BinOk (U + k) bl) ∧ Hid (RBin wr B0 v bl) ∧ Hid (∀ j, RBin.Of B0 v j → W5.heap.size ≤ j ∧ (j < w8.heap.size ∨ w9.heap.size ≤ j)) ∧ Hid (Off (fun j => W5.heap.size ≤ j ∧ (j < w8.heap.size ∨ w9.heap.size ≤ j)) w9 wr)) (fun _ iv _ => LS.length - (intOf iv).toNat)
      case atStart => exact ⟨0, 0, BL, v0, Nat.zero_le _, rfl, rfl, ⟨Int.le_refl _, by decide⟩, by rw [List.drop_zero]; exact HPA.out, by show BinOk _ _; rw [show U + ((0 : Nat) : Int) = U by omega]; exact HBO.out, HRB9.out, fun j hj => ⟨HNEW.out j hj, .inl (HRBL.out j hj)⟩, Off.refl _ _⟩
      case round =>
        obtain ⟨k, fr, bl, v, hk, rfl, rfl, ⟨hf0, hf1⟩, HR, HOKB, HRBK, HNB2, HO⟩ := hrel
        by_cases hlt : k < LS.length
        · have hlt' : (k : Int) < (LS.length : Int) := by omega
          have hk0 : (0 : Int) ≤ (k : Int) := by omega
          obtain ⟨g, rfl, hg8, hg9, c0⟩ := HCN.out k hlt
          have d0 := (World.cell?_of_block (w := w9) (HO.out.block g hg9 (fun e => by omega)) (a := ⟨g, k, none⟩)).trans c0
          have HT := hideN (HPL.out LS[k] (List.getElem_mem hlt))
          have hdr : LS.drop k = LS[k] :: LS.drop (k + 1) := List.drop_eq_getElem_cons hlt
          rw [hdr] at HR
          obtain ⟨t, ht⟩ : ∃ t, LS[k] = t := ⟨_, rfl⟩
          rw [ht] at d0 HT HR
          have htl : (⟨t.toArray⟩ : ByteArray).size = t.length := by simp [ByteArray.size]
          have HPUT := hideN (rPut_any B0 v bl ⟨t.toArray⟩ wr HOKB.out.many (fun h hm => by obtain ⟨_, _, h3, h4⟩ := HOKB.out.each h hm; exact ⟨h3, by have := HPCS.out; omega⟩) HRBK.out)
          have HOK2 : Hid (BinOk (U + ((k + 1 : Nat) : Int)) (hPut bl t).2) := by
            show BinOk _ _
            rw [show U + ((k + 1 : Nat) : Int) = U + k + 1 by omega]
            exact hPut_ok HOKB.out t (by omega)
          have e8 : (⟨t.toArray⟩ : ByteArray).data.toList = t := by simp
          rw [e8] at HPUT
          unfold PutPost at HPUT
          have htx := HT.out
          clear hdr ht e8 c0
          obtain ⟨⟨⟨ri, ra, re⟩, rl2⟩, hq⟩ : ∃ q, hPut bl t = q := ⟨_, rfl⟩
          have HQ := hideN hq
          rw [putAll, hq] at HR
          rw [hq] at HPUT HOK2
          simp only at HPUT HOK2 HR
          clear hq
          obtain ⟨TT, hT⟩ : ∃ TT : ByteArray, (⟨t.toArray⟩ : ByteArray) = TT := ⟨_, rfl⟩
          rw [hT] at htl d0 HPUT
          clear hT
          have htl' : (TT.size : Int) = (t.length : Int) := by omega
          have hw1 : IntKind.i64.wrap (fr + (t.length : Int)) = fr + (t.length : Int) := by rw [IntKind.wrap_i64]; omega
          go_wp2_with fail
          refine HPUT.out.mono ?_
          rintro e w2 ⟨v2, rfl, hr2, hn2, ho2⟩
          have HO2 : Hid (Off (fun j => W5.heap.size ≤ j ∧ (j < w8.heap.size ∨ w9.heap.size ≤ j)) w9 w2) := HO.out.trans ho2 (fun j hj hF => HNB2.out j hF)
          have HN2 : Hid (∀ j, RBin.Of B0 v2 j → W5.heap.size ≤ j ∧ (j < w8.heap.size ∨ w9.heap.size ≤ j)) := fun j hj => by
            rcases hj with rfl | hj
            · exact HNB2.out _ (.inl rfl)
            · rcases hn2 j hj with h | h
              · exact HNB2.out j (.inr h)
              · have h1 := HO.out.size
                have h2 := HSZ58.out
                have h3 := HSZ89.out
                exact ⟨by omega, .inr (by omega)⟩
          have hal := (Below.refl w2.heap.size w2).alloc (Nat.le_refl _) (.cells #[.int .u32 (ri.1 : Nat), .int .i64 ri.2] 25)
          have HP2 := hideN (hr2.below hal)
          have HO3 : Hid (Off (fun j => W5.heap.size ≤ j ∧ (j < w8.heap.size ∨ w9.heap.size ≤ j)) w9 _) := hideN (HO2.out.trans (Off.of_below (F := fun _ => False) hal) (fun _ _ h => h.elim))
          have d1 := (World.cell?_of_block (w := wr) (ho2.block g (lt_of_cell d0) (fun e => by have h0 := HNB2.out _ e; have h1 := HO.out.size; omega)) (a := ⟨g, k, none⟩)).trans d0
          clear HPUT hr2 hn2 ho2 hal hg8 hg9
          have d2 := (World.cell?_alloc_old w2 (.cells #[.int .u32 (ri.1 : Nat), .int .i64 ri.2] 25) ⟨g, k, none⟩ (Nat.ne_of_lt (lt_of_cell d1))).trans d1
          by_cases hre : re = 0
          · subst hre
            rw [if_pos rfl] at HR
            cases ra with
            | true =>
              simp only [if_true] at HR
              go_wp2_with fail
              go_roundw
              case rel => exact ⟨k + 1, fr + (t.length : Int), rl2, v2, hlt, by go_num, rfl, ⟨by omega, by omega⟩, HR.out, HOK2.out, HP2.out, HN2.out, HO3.out⟩
              case measure => simp [intOf]; omega
            | false =>
              simp only [Bool.false_eq_true, if_false] at HR
              go_wp2_with fail
              go_roundw
              case rel => exact ⟨k + 1, fr, rl2, v2, hlt, by go_num, rfl, ⟨by omega, by omega⟩, HR.out, HOK2.out, HP2.out, HN2.out, HO3.out⟩
              case measure => simp [intOf]; omega
          · rw [if_neg hre] at HR
            have HEE : Hid (RES = (0, re, ⟨mFs ps, mBs bs⟩)) := by
              have h1 := HFIN.out.1
              rw [← HR.out] at h1
              exact h1 hre
            have hpos : (0 : Int) < re := hPut_err_pos HQ.out hre
            go_wp2_with fail
            go_ret2
            have hoff : Off (mFoot M (.slice pf ps.length cf) (.slice (some ⟨b, o, none⟩) bs.length cb) ps bs) w (w2.alloc (.cells #[.int .u32 (ri.1 : Nat), .int .i64 ri.2] 25)) := (Off.of_below HB9.out).trans HO3.out (fun i hi h => by have := HSZ05.out; omega)
            have hms := HS9.out.off HO3.out (fun j hj h => by have h1 := HLOW.out j hj; have h2 := HSZ05.out; omega)
            rw [HEE.out]
            exact ⟨rfl, _, ⟨M, _, _, ps, bs, rfl, hms, rfl, rfl⟩, fun j hj => .inl hj, hoff⟩
        · have hge : (LS.length : Int) ≤ (k : Int) := by omega
          rw [List.drop_eq_nil_of_le (by omega), putAll] at HR
          have HEE : Hid (RES = (fr, 0, ⟨kIns ltN (mFs ps) (nm.data.toList, s.data.toList), kSet (mBs bs) (rp, rl) bl⟩)) := by
            have h1 := HFIN.out.2
            rw [← HR.out] at h1
            exact h1 rfl
          have HSR := hideN (HS9.out.off HO.out (fun j hj h => by have h1 := HLOW.out j hj; have h2 := HSZ05.out; omega))
          have HR8R := hideN (HO.out.blk HR89.out (fun h => by have := HR8L.out; omega))
          have HR10R := hideN (HO.out.blk HR109.out (fun h => by have := HR10L.out; omega))
          have HIAR := hideN (HIA9.out.off HO.out (fun hne j hj h => by have := HIDB.out hne j hj; omega))
          have HOW : Hid (Off (mFoot M (.slice pf ps.length cf) (.slice (some ⟨b, o, none⟩) bs.length cb) ps bs) w wr) := (Off.of_below HB9.out).trans HO.out (fun i hi h => by have := HSZ05.out; omega)
          have HSZR : Hid (w.heap.size ≤ wr.heap.size) := HOW.out.size
          have HADD := hideN (mAdd_any M (.slice pf ps.length cf) (.slice (some ⟨b, o, none⟩) bs.length cb) ps bs nm s.data.toList (.slice pv idl cv) wr HPN.out HSR.out HIAR.out (fun hne j hj => by
            have h1 := HIDB.out hne j hj
            exact ⟨fun e => by have := HLOW.out M (.inl rfl); omega, fun e => by have := HLOW.out j (.inr (.inr (.inl e))); omega, fun e => by have := HLOW.out j (.inr (.inr (.inr (.inl e)))); omega⟩))
          rw [HPP.out, HSZ.out] at HADD
          have r0 := HR8R.out.cell (i := 0) rfl
          have r1 := HR8R.out.cell (i := 1) rfl
          have r2 := HR8R.out.cell (i := 2) rfl
          have r3 := HR8R.out.cell (i := 3) rfl
          clear hlt
          go_wp2_with fail
          refine HADD.out.mono ?_
          rintro e w10 ⟨rfl, vf', ps', hfs, hS10, hvf', hmo, ho10⟩
          have HFS := hideN hfs
          have HS10 := hideN hS10
          have HVF := hideN hvf'
          have HMO := hideN hmo
          have HO10 := hideN ho10
          have HR10A := hideN (ho10.blk HR10R.out (fun h => by have h1 := HLOW.out M (.inl rfl); have h2 := HR10G.out; omega))
          have HRB10 := hideN (HRBK.out.off ho10 (fun j hj h => by have h1 := HLOW.out M (.inl rfl); have h2 := HNB2.out j hj; have h3 := HSZ05.out; omega))
          have HIDS2 : Hid (∀ j, mIds ps' j → mIds ps j ∨ (w.heap.size ≤ j ∧ j < W5.heap.size)) := fun j ⟨q, hq, hne, hj⟩ => by
            rcases HMO.out q hq with hq | rfl
            · exact .inl ⟨q, hq, hne, hj⟩
            · exact .inr (HIDB.out hne j hj)
          have HSET := hideN (mSet_any M vf' (.slice (some ⟨b, o, none⟩) bs.length cb) ps' bs (rp, rl) bl B0 v w10 HBN.out HS10.out HRB10.out (fun j hj => by
            have h1 := HNB2.out j hj
            have h2 := HSZ05.out
            have h3 := HRBK.out.lt hj
            refine ⟨fun e => by have := HLOW.out M (.inl rfl); omega, fun e => by have := HVF.out j e; omega, fun e => by have := HLOW.out j (.inr (.inr (.inl e))); omega, fun e => by have := HLOW.out j (.inr (.inr (.inr (.inl e)))); omega, fun e => ?_⟩
            rcases HIDS2.out j e with e | e
            · have := HLOW.out j (.inr (.inr (.inr (.inr e))))
              omega
            · omega))
          simp only at HSET
          have s0 := HR10A.out.cell (i := 0) rfl
          have s1 := HR10A.out.cell (i := 1) rfl
          clear hfs hS10 hvf' hmo ho10 r0 r1 r2 r3 HADD
          go_wp2_with fail
          refine HSET.out.mono ?_
          rintro e w11 ⟨rfl, vb', bs', hbs, hS11, hvb11, hmb11, ho11⟩
          have HBS := hideN hbs
          have HS11 := hideN hS11
          have HVB := hideN hvb11
          have HMB := hideN hmb11
          have HO11 := hideN ho11
          clear hbs hS11 hvb11 hmb11 ho11 s0 s1 HSET
          go_wp2_with fail
          go_ret2
          rw [HEE.out]
          refine ⟨rfl, _, ⟨M, vf', vb', ps', bs', rfl, HS11.out, by rw [HFS.out, HBS.out], rfl⟩, fun j hj => ?_, ?_⟩
          · have hsz := HSZR.out
            have hsz2 := HO10.out.size
            rcases hj with rfl | hj | hj | hj | hj
            · exact .inl (.inl rfl)
            · exact .inr (Nat.le_trans hsz (HVF.out j hj))
            · rcases HVB.out j hj with h | h
              · exact .inl (.inr (.inr (.inl h)))
              · exact .inr (by omega)
            · rcases HMB.out j hj with h | h
              · exact .inl (.inr (.inr (.inr (.inl h))))
              · have := HNB2.out j h
                have := HSZ05.out
                exact .inr (by omega)
            · rcases HIDS2.out j hj with h | h
              · exact .inl (.inr (.inr (.inr (.inr h))))
              · exact .inr h.1
          · refine (HOW.out.trans HO10.out (fun i _ hi => .inl hi)).trans HO11.out (fun i _ hi => ?_)
            rcases hi with hi | hi
            · exact .inl hi
            · exact .inr (.inr (.inl hi))
    | none =>
      obtain ⟨BL, hBL⟩ : ∃ BL, ([] : List Hd) = BL := ⟨_, rfl⟩
      have HNB : Hid ((nBin (mBs bs) (rp, rl)).getD [] = BL) := by show _ = _; rw [← hBL, nBin_kFind, hkb]; rfl
      have HBO : Hid (BinOk U []) := BinOk.nil _
      have HK : Hid (kFindI (mBs bs) (rp, rl) = -1) := by show _ = _; unfold kFindI; rw [hkb]
      have HRB0 : Hid (RBin w7 BX (.slice none 0 0) []) := ⟨HBX7.out, World.ownsRow_nil _ _ _ _⟩
      have HNEW0 : Hid (∀ j, RBin.Of BX (.slice none 0 0) j → W5.heap.size ≤ j) := fun j hj => by
        rcases hj with rfl | hj
        · exact Nat.le_of_eq HBXE.out
        · cases hj
      rw [HK.out]
      clear hkb
      obtain ⟨B0, hB0⟩ : ∃ B0, B0 = BX := ⟨_, rfl⟩
      subst hB0
      obtain ⟨v0, hv0⟩ : ∃ v0, (Value.slice none 0 0) = v0 := ⟨_, rfl⟩
      obtain ⟨w8, hw8⟩ : ∃ w8, w8 = w7 := ⟨_, rfl⟩
      subst hw8
      have HRB : Hid (RBin w8 B0 v0 BL) := by rw [← hv0, ← hBL]; exact HRB0.out
      have HNEW : Hid (∀ j, RBin.Of B0 v0 j → W5.heap.size ≤ j) := by rw [← hv0]; exact HNEW0.out
      rw [hBL] at HBO
      have HB8 := HB7
      have HR88 := HR87
      have HR108 := HR107
      have HB58 := HB57
      clear HRB0 HNEW0 hv0 hBL HBX7
      have HNP : Hid (∀ PA, putAll BL 0 (pieces s.data.toList) = PA → (PA.2.1 ≠ 0 → RES = (0, PA.2.1, ⟨mFs ps, mBs bs⟩)) ∧ (PA.2.1 = 0 → RES = (PA.1, 0, ⟨kIns ltN (mFs ps) (nm.data.toList, s.data.toList), kSet (mBs bs) (rp, rl) PA.2.2⟩))) := fun PA hPA => by
        obtain ⟨fr, ec, bl⟩ := PA
        refine ⟨fun hne => ?_, fun he => ?_⟩
        · rw [← HRES.out]
          exact mPut_err (nPut_err HOF.out HNF.out HFULL.out HRT.out HNB.out hPA hne) hne
        · simp only at he
          subst he
          rw [← HRES.out]
          exact mPut_ok HOF.out HNF.out HFULL.out HRT.out HNB.out hPA
      have HRBL : Hid (∀ j, RBin.Of B0 v0 j → j < w8.heap.size) := fun j hj => HRB.out.lt hj
      obtain ⟨PA, hPA⟩ : ∃ PA, putAll BL 0 (pieces s.data.toList) = PA := ⟨_, rfl⟩
      have HPA := hideN hPA
      have HFIN := hideN (HNP.out PA hPA)
      have HPO := hideN (piecesOf_any s (by omega) w8)
      have HPL : Hid (∀ t ∈ pieces s.data.toList, t.length ≤ 64) := fun t ht => (piece_le ht).2
      clear hPA HNP
      go_wp2_with fail
      refine HPO.out.mono ?_
      rintro e w9 ⟨vp, rfl, hrow, hb9⟩
      have HB9 := hideN (HB8.out.trans (hb9.mono HB8.out.size))
      have HR89 := hideN (HR88.out.next hb9)
      have HR109 := hideN (HR108.out.next hb9)
      have HRB9 := hideN (HRB.out.below hb9)
      have HS9 := hideN (HH.out.below HB9.out)
      have HB29 : Hid (Below W2.heap.size W2 w9) := hideN (HB25.out.trans ((HB58.out.mono HB25.out.size).trans (hb9.mono (Nat.le_trans HB25.out.size HB58.out.size))))
      have HSZ58 : Hid (W5.heap.size ≤ w8.heap.size) := HB58.out.size
      have HSZ89 : Hid (w8.heap.size ≤ w9.heap.size) := hb9.size
      have HSZ05 : Hid (w.heap.size ≤ W5.heap.size) := HB5.out.size
      have HR8L : Hid (R8 < W5.heap.size) := by have h1 := HS12.out; have h2 := HB25.out.size; have h3 := HR8E.out; show _ < _; omega
      have HR10L : Hid (R10 < W5.heap.size) := HR10LT.out
      have HR10G : Hid (w.heap.size ≤ R10) := HR10GE.out
      have HIA9 := hideN (HIA.out.below HB29.out)
      have HIDB : Hid (idsOf s.data.toList ≠ [] → ∀ k, (Value.slice pv idl cv).ownBlock = some k → w.heap.size ≤ k ∧ k < W5.heap.size) := fun hne k hk => by
        obtain ⟨p', c', hv', hc'⟩ := HI1.out
        obtain ⟨b', o', hp', hle, hlt', _⟩ := hc' 0 (List.length_pos_iff.2 hne)
        have e1 : pv = p' := by have := hv'; simp at this; exact this.1
        subst e1 hp'
        have : b' = k := by simpa [Value.ownBlock] using hk
        have h1 := HS12.out
        have h2 := HB25.out.size
        omega
      have HLOW : Hid (∀ k, mFoot M (.slice pf ps.length cf) (.slice pb bs.length cb) ps bs k → k < w.heap.size) := HH.out.lt
      obtain ⟨gp, cp, hvp⟩ := row_shapeK hrow
      subst hvp
      have HCN : Hid (∀ k (hk : k < (pieces s.data.toList).length), ∃ g, gp = some ⟨g, 0, none⟩ ∧ w8.heap.size ≤ g ∧ g < w9.heap.size ∧ w9.cell? ⟨g, k, none⟩ = some (.string ⟨(pieces s.data.toList)[k].toArray⟩)) := fun k hk => by
        rcases hrow.2 with ⟨_, hz⟩ | ⟨g, cap, cur, hv, hg, hb, _⟩
        · omega
        · refine ⟨g, by simpa using (by simpa using hv : gp = some ⟨g, 0, none⟩ ∧ cp = cap).1, hg, lt_of_block hb, ?_⟩
          have c1 := hrow.cells (g := g) (by rw [hv]; rfl) k (strW (pieces s.data.toList)[k]) (by simp [hk])
          simp only [add_plain] at c1
          exact c1
      clear hrow hb9 HPO HB8 HRB HR88 HR108
      obtain ⟨LS, hLS⟩ : ∃ LS, pieces s.data.toList = LS := ⟨_, rfl⟩
      rw [hLS] at HPA HPL HCN HPCS ⊢
      have hlsl : (LS.length : Int) ≤ 250 := by have := HPCS.out; omega
      clear hLS
      go_wp2_with fail
      go_loopw [13, 15] (fun fv iv wr => ∃ (k : Nat) (fr : Int) (bl : List Hd) (v : Value), k ≤ LS.length ∧ iv = .int .i64 k ∧ fv = .int .i64 fr ∧ (0 ≤ fr ∧ fr ≤ 100 * k) ∧ Hid (putAll bl fr (LS.drop k) = PA) ∧ Hid (BinOk (U + k) bl) ∧ Hid (RBin wr B0 v bl) ∧ Hid (∀ j, RBin.Of B0 v j → W5.heap.size ≤ j ∧ (j < w8.heap.size ∨ w9.heap.size ≤ j)) ∧ Hid (Off (fun j => W5.heap.size ≤ j ∧ (j < w8.heap.size ∨ w9.heap.size ≤ j)) w9 wr)) (fun _ iv _ => LS.length - (intOf iv).toNat)
      case atStart => exact ⟨0, 0, BL, v0, Nat.zero_le _, rfl, rfl, ⟨Int.le_refl _, by decide⟩, by rw [List.drop_zero]; exact HPA.out, by show BinOk _ _; rw [show U + ((0 : Nat) : Int) = U by omega]; exact HBO.out, HRB9.out, fun j hj => ⟨HNEW.out j hj, .inl (HRBL.out j hj)⟩, Off.refl _ _⟩
      case round =>
        obtain ⟨k, fr, bl, v, hk, rfl, rfl, ⟨hf0, hf1⟩, HR, HOKB, HRBK, HNB2, HO⟩ := hrel
        by_cases hlt : k < LS.length
        · have hlt' : (k : Int) < (LS.length : Int) := by omega
          have hk0 : (0 : Int) ≤ (k : Int) := by omega
          obtain ⟨g, rfl, hg8, hg9, c0⟩ := HCN.out k hlt
          have d0 := (World.cell?_of_block (w := w9) (HO.out.block g hg9 (fun e => by omega)) (a := ⟨g, k, none⟩)).trans c0
          have HT := hideN (HPL.out LS[k] (List.getElem_mem hlt))
          have hdr : LS.drop k = LS[k] :: LS.drop (k + 1) := List.drop_eq_getElem_cons hlt
          rw [hdr] at HR
          obtain ⟨t, ht⟩ : ∃ t, LS[k] = t := ⟨_, rfl⟩
          rw [ht] at d0 HT HR
          have htl : (⟨t.toArray⟩ : ByteArray).size = t.length := by simp [ByteArray.size]
          have HPUT := hideN (rPut_any B0 v bl ⟨t.toArray⟩ wr HOKB.out.many (fun h hm => by obtain ⟨_, _, h3, h4⟩ := HOKB.out.each h hm; exact ⟨h3, by have := HPCS.out; omega⟩) HRBK.out)
          have HOK2 : Hid (BinOk (U + ((k + 1 : Nat) : Int)) (hPut bl t).2) := by
            show BinOk _ _
            rw [show U + ((k + 1 : Nat) : Int) = U + k + 1 by omega]
            exact hPut_ok HOKB.out t (by omega)
          have e8 : (⟨t.toArray⟩ : ByteArray).data.toList = t := by simp
          rw [e8] at HPUT
          unfold PutPost at HPUT
          have htx := HT.out
          clear hdr ht e8 c0
          obtain ⟨⟨⟨ri, ra, re⟩, rl2⟩, hq⟩ : ∃ q, hPut bl t = q := ⟨_, rfl⟩
          have HQ := hideN hq
          rw [putAll, hq] at HR
          rw [hq] at HPUT HOK2
          simp only at HPUT HOK2 HR
          clear hq
          obtain ⟨TT, hT⟩ : ∃ TT : ByteArray, (⟨t.toArray⟩ : ByteArray) = TT := ⟨_, rfl⟩
          rw [hT] at htl d0 HPUT
          clear hT
          have htl' : (TT.size : Int) = (t.length : Int) := by omega
          have hw1 : IntKind.i64.wrap (fr + (t.length : Int)) = fr + (t.length : Int) := by rw [IntKind.wrap_i64]; omega
          go_wp2_with fail
          refine HPUT.out.mono ?_
          rintro e w2 ⟨v2, rfl, hr2, hn2, ho2⟩
          have HO2 : Hid (Off (fun j => W5.heap.size ≤ j ∧ (j < w8.heap.size ∨ w9.heap.size ≤ j)) w9 w2) := HO.out.trans ho2 (fun j hj hF => HNB2.out j hF)
          have HN2 : Hid (∀ j, RBin.Of B0 v2 j → W5.heap.size ≤ j ∧ (j < w8.heap.size ∨ w9.heap.size ≤ j)) := fun j hj => by
            rcases hj with rfl | hj
            · exact HNB2.out _ (.inl rfl)
            · rcases hn2 j hj with h | h
              · exact HNB2.out j (.inr h)
              · have h1 := HO.out.size
                have h2 := HSZ58.out
                have h3 := HSZ89.out
                exact ⟨by omega, .inr (by omega)⟩
          have hal := (Below.refl w2.heap.size w2).alloc (Nat.le_refl _) (.cells #[.int .u32 (ri.1 : Nat), .int .i64 ri.2] 25)
          have HP2 := hideN (hr2.below hal)
          have HO3 : Hid (Off (fun j => W5.heap.size ≤ j ∧ (j < w8.heap.size ∨ w9.heap.size ≤ j)) w9 _) := hideN (HO2.out.trans (Off.of_below (F := fun _ => False) hal) (fun _ _ h => h.elim))
          have d1 := (World.cell?_of_block (w := wr) (ho2.block g (lt_of_cell d0) (fun e => by have h0 := HNB2.out _ e; have h1 := HO.out.size; omega)) (a := ⟨g, k, none⟩)).trans d0
          clear HPUT hr2 hn2 ho2 hal hg8 hg9
          have d2 := (World.cell?_alloc_old w2 (.cells #[.int .u32 (ri.1 : Nat), .int .i64 ri.2] 25) ⟨g, k, none⟩ (Nat.ne_of_lt (lt_of_cell d1))).trans d1
          by_cases hre : re = 0
          · subst hre
            rw [if_pos rfl] at HR
            cases ra with
            | true =>
              simp only [if_true] at HR
              go_wp2_with fail
              go_roundw
              case rel => exact ⟨k + 1, fr + (t.length : Int), rl2, v2, hlt, by go_num, rfl, ⟨by omega, by omega⟩, HR.out, HOK2.out, HP2.out, HN2.out, HO3.out⟩
              case measure => simp [intOf]; omega
            | false =>
              simp only [Bool.false_eq_true, if_false] at HR
              go_wp2_with fail
              go_roundw
              case rel => exact ⟨k + 1, fr, rl2, v2, hlt, by go_num, rfl, ⟨by omega, by omega⟩, HR.out, HOK2.out, HP2.out, HN2.out, HO3.out⟩
              case measure => simp [intOf]; omega
          · rw [if_neg hre] at HR
            have HEE : Hid (RES = (0, re, ⟨mFs ps, mBs bs⟩)) := by
              have h1 := HFIN.out.1
              rw [← HR.out] at h1
              exact h1 hre
            have hpos : (0 : Int) < re := hPut_err_pos HQ.out hre
            go_wp2_with fail
            go_ret2
            have hoff : Off (mFoot M (.slice pf ps.length cf) (.slice pb bs.length cb) ps bs) w (w2.alloc (.cells #[.int .u32 (ri.1 : Nat), .int .i64 ri.2] 25)) := (Off.of_below HB9.out).trans HO3.out (fun i hi h => by have := HSZ05.out; omega)
            have hms := HS9.out.off HO3.out (fun j hj h => by have h1 := HLOW.out j hj; have h2 := HSZ05.out; omega)
            rw [HEE.out]
            exact ⟨rfl, _, ⟨M, _, _, ps, bs, rfl, hms, rfl, rfl⟩, fun j hj => .inl hj, hoff⟩
        · have hge : (LS.length : Int) ≤ (k : Int) := by omega
          rw [List.drop_eq_nil_of_le (by omega), putAll] at HR
          have HEE : Hid (RES = (fr, 0, ⟨kIns ltN (mFs ps) (nm.data.toList, s.data.toList), kSet (mBs bs) (rp, rl) bl⟩)) := by
            have h1 := HFIN.out.2
            rw [← HR.out] at h1
            exact h1 rfl
          have HSR := hideN (HS9.out.off HO.out (fun j hj h => by have h1 := HLOW.out j hj; have h2 := HSZ05.out; omega))
          have HR8R := hideN (HO.out.blk HR89.out (fun h => by have := HR8L.out; omega))
          have HR10R := hideN (HO.out.blk HR109.out (fun h => by have := HR10L.out; omega))
          have HIAR := hideN (HIA9.out.off HO.out (fun hne j hj h => by have := HIDB.out hne j hj; omega))
          have HOW : Hid (Off (mFoot M (.slice pf ps.length cf) (.slice pb bs.length cb) ps bs) w wr) := (Off.of_below HB9.out).trans HO.out (fun i hi h => by have := HSZ05.out; omega)
          have HSZR : Hid (w.heap.size ≤ wr.heap.size) := HOW.out.size
          have HADD := hideN (mAdd_any M (.slice pf ps.length cf) (.slice pb bs.length cb) ps bs nm s.data.toList (.slice pv idl cv) wr HPN.out HSR.out HIAR.out (fun hne j hj => by
            have h1 := HIDB.out hne j hj
            exact ⟨fun e => by have := HLOW.out M (.inl rfl); omega, fun e => by have := HLOW.out j (.inr (.inr (.inl e))); omega, fun e => by have := HLOW.out j (.inr (.inr (.inr (.inl e)))); omega⟩))
          rw [HPP.out, HSZ.out] at HADD
          have r0 := HR8R.out.cell (i := 0) rfl
          have r1 := HR8R.out.cell (i := 1) rfl
          have r2 := HR8R.out.cell (i := 2) rfl
          have r3 := HR8R.out.cell (i := 3) rfl
          clear hlt
          go_wp2_with fail
          refine HADD.out.mono ?_
          rintro e w10 ⟨rfl, vf', ps', hfs, hS10, hvf', hmo, ho10⟩
          have HFS := hideN hfs
          have HS10 := hideN hS10
          have HVF := hideN hvf'
          have HMO := hideN hmo
          have HO10 := hideN ho10
          have HR10A := hideN (ho10.blk HR10R.out (fun h => by have h1 := HLOW.out M (.inl rfl); have h2 := HR10G.out; omega))
          have HRB10 := hideN (HRBK.out.off ho10 (fun j hj h => by have h1 := HLOW.out M (.inl rfl); have h2 := HNB2.out j hj; have h3 := HSZ05.out; omega))
          have HIDS2 : Hid (∀ j, mIds ps' j → mIds ps j ∨ (w.heap.size ≤ j ∧ j < W5.heap.size)) := fun j ⟨q, hq, hne, hj⟩ => by
            rcases HMO.out q hq with hq | rfl
            · exact .inl ⟨q, hq, hne, hj⟩
            · exact .inr (HIDB.out hne j hj)
          have HSET := hideN (mSet_any M vf' (.slice pb bs.length cb) ps' bs (rp, rl) bl B0 v w10 HBN.out HS10.out HRB10.out (fun j hj => by
            have h1 := HNB2.out j hj
            have h2 := HSZ05.out
            have h3 := HRBK.out.lt hj
            refine ⟨fun e => by have := HLOW.out M (.inl rfl); omega, fun e => by have := HVF.out j e; omega, fun e => by have := HLOW.out j (.inr (.inr (.inl e))); omega, fun e => by have := HLOW.out j (.inr (.inr (.inr (.inl e)))); omega, fun e => ?_⟩
            rcases HIDS2.out j e with e | e
            · have := HLOW.out j (.inr (.inr (.inr (.inr e))))
              omega
            · omega))
          simp only at HSET
          have s0 := HR10A.out.cell (i := 0) rfl
          have s1 := HR10A.out.cell (i := 1) rfl
          clear hfs hS10 hvf' hmo ho10 r0 r1 r2 r3 HADD
          go_wp2_with fail
          refine HSET.out.mono ?_
          rintro e w11 ⟨rfl, vb', bs', hbs, hS11, hvb11, hmb11, ho11⟩
          have HBS := hideN hbs
          have HS11 := hideN hS11
          have HVB := hideN hvb11
          have HMB := hideN hmb11
          have HO11 := hideN ho11
          clear hbs hS11 hvb11 hmb11 ho11 s0 s1 HSET
          go_wp2_with fail
          go_ret2
          rw [HEE.out]
          refine ⟨rfl, _, ⟨M, vf', vb', ps', bs', rfl, HS11.out, by rw [HFS.out, HBS.out], rfl⟩, fun j hj => ?_, ?_⟩
          · have hsz := HSZR.out
            have hsz2 := HO10.out.size
            rcases hj with rfl | hj | hj | hj | hj
            · exact .inl (.inl rfl)
            · exact .inr (Nat.le_trans hsz (HVF.out j hj))
            · rcases HVB.out j hj with h | h
              · exact .inl (.inr (.inr (.inl h)))
              · exact .inr (by omega)
            · rcases HMB.out j hj with h | h
              · exact .inl (.inr (.inr (.inr (.inl h))))
              · have := HNB2.out j h
                have := HSZ05.out
                exact .inr (by omega)
            · rcases HIDS2.out j hj with h | h
              · exact .inl (.inr (.inr (.inr (.inr h))))
              · exact .inr h.1
          · refine (HOW.out.trans HO10.out (fun i _ hi => .inl hi)).trans HO11.out (fun i _ hi => ?_)
            rcases hi with hi | hi
            · exact .inl hi
            · exact .inr (.inr (.inl hi))
end Go.Proofs.YtjdobbjdlighpabGreatDoor
