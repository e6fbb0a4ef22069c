/-
  Own text. The document's node by contracts: Drop.
-/
import Derived.Test.YtjdobbjdlighpabGreatDoorH32
namespace Go.Proofs.YtjdobbjdlighpabGreatDoor
open Go.RowKit Go.Maps

theorem erase_filter {κ β : Type} [DecidableEq κ] : ∀ {l : List (κ × β)} {x : κ} {k : Nat}, l.Pairwise (fun a b => a.1 ≠ b.1) → kFind l x = some k → l.take k ++ l.drop (k + 1) = l.filter (fun y => !decide (y.1 = x))
  | [], _, _, _, h => by cases h
  | y :: r, x, k, hp, h => by
    obtain ⟨h1, h2⟩ := List.pairwise_cons.1 hp
    rw [kFind] at h
    split at h
    · rename_i e
      cases h
      subst e
      rw [List.filter_cons, if_neg (by simp), filter_none (fun z hz => Ne.symm (h1 z hz))]
      rfl
    · rename_i e
      cases hr : kFind r x with
      | none => rw [hr] at h; cases h
      | some j =>
        rw [hr] at h
        cases h
        rw [List.filter_cons, if_pos (by simp [e]), ← erase_filter h2 hr]
        rfl
theorem set_map {κ β : Type} [DecidableEq κ] : ∀ {l : List (κ × β)} {x : κ} {k : Nat} (b : β → β) (d : β), l.Pairwise (fun a b => a.1 ≠ b.1) → kFind l x = some k → (∀ h : k < l.length, l[k].2 = d) → l.set k (x, b d) = l.map (fun y => if y.1 = x then (y.1, b y.2) else y)
  | [], _, _, _, _, _, h, _ => by cases h
  | y :: r, x, k, b, d, hp, h, hd => by
    obtain ⟨h1, h2⟩ := List.pairwise_cons.1 hp
    rw [kFind] at h
    split at h
    · rename_i e
      cases h
      subst e
      have := hd (by simp)
      simp only [List.getElem_cons_zero] at this
      rw [List.set_cons_zero, List.map_cons, if_pos rfl, this]
      congr 1
      have hm : r.map (fun z => if z.1 = y.1 then (z.1, b z.2) else z) = r.map id := List.map_congr_left fun z hz => by
        rw [if_neg (Ne.symm (h1 z hz))]
        rfl
      rw [hm, List.map_id]
    · rename_i e
      cases hr : kFind r x with
      | none => rw [hr] at h; cases h
      | some j =>
        rw [hr] at h
        cases h
        rw [List.set_cons_succ, List.map_cons, if_neg e, set_map b d h2 hr (fun h => by have := hd (by simpa using h); simpa using this)]
theorem kFind_set {κ β : Type} [DecidableEq κ] : ∀ {l : List (κ × β)} {x : κ} {k : Nat} (b : β), kFind l x = some k → kFind (l.set k (x, b)) x = some k
  | [], _, _, _, h => by cases h
  | y :: r, x, k, b, h => by
    rw [kFind] at h
    split at h
    · rename_i e
      cases h
      rw [List.set_cons_zero, kFind, if_pos rfl]
    · rename_i e
      cases hr : kFind r x with
      | none => rw [hr] at h; cases h
      | some j =>
        rw [hr] at h
        cases h
        rw [List.set_cons_succ, kFind, if_neg e, kFind_set b hr]
        rfl
def mDelF (ps : List MF) (k : Nat) : List MF := ps.take k ++ ps.drop (k + 1)
def mDelB (bs : List MB) (k : Nat) : List MB := bs.take k ++ bs.drop (k + 1)
theorem mDelF_length {ps : List MF} {k : Nat} (h : k < ps.length) : (mDelF ps k).length = k + (ps.length - (k + 1)) := by
  unfold mDelF
  simp
  omega
theorem mDelB_length {bs : List MB} {k : Nat} (h : k < bs.length) : (mDelB bs k).length = k + (bs.length - (k + 1)) := by
  unfold mDelB
  simp
  omega
theorem mDelF_mem {ps : List MF} {k : Nat} {y : MF} (h : y ∈ mDelF ps k) : y ∈ ps := by
  unfold mDelF at h
  rcases List.mem_append.1 h with h | h
  · exact List.mem_of_mem_take h
  · exact List.mem_of_mem_drop h
theorem mDelB_sub (bs : List MB) (k : Nat) : (mDelB bs k).Sublist bs := by
  unfold mDelB
  have h : (bs.take k ++ bs.drop k) = bs := List.take_append_drop _ _
  conv => rhs; rw [← h]
  refine List.Sublist.append (List.Sublist.refl _) ?_
  have : bs.drop (k + 1) = (bs.drop k).drop 1 := by rw [List.drop_drop]
  rw [this]
  exact List.drop_sublist _ _
theorem mDelF_fs (ps : List MF) (k : Nat) : mFs (mDelF ps k) = (mFs ps).take k ++ (mFs ps).drop (k + 1) := by simp [mDelF, mFs, List.map_take, List.map_drop]
theorem mDelB_bs (bs : List MB) (k : Nat) : mBs (mDelB bs k) = (mBs bs).take k ++ (mBs bs).drop (k + 1) := by simp [mDelB, mBs, List.map_take, List.map_drop]
theorem row_frozen {w : World} {base : Nat} {e : TypeId} {sz : Nat} {v : Value} {n : Nat} {xs : List Value} (h : w.ownsRow base e sz v n xs) {g : Nat} (hg : v.ownBlock = some g) (i : Nat) : w.frozen? ⟨g, i, none⟩ = false := by
  rcases h.2 with ⟨rfl, _⟩ | ⟨g2, cap, cur, rfl, _, hb, _⟩
  · cases hg
  · have : g2 = g := by simpa [Value.ownBlock] using hg
    subst this
    simp only [World.frozen?, hb]
    simp
theorem ofRep_any (fs : List NFile) (x : Nat × Int) : fs.any (fun f => decide (repT f.2 = x)) = decide ((ofRep fs x).length ≠ 0) := by
  unfold ofRep
  rw [Bool.eq_iff_iff]
  simp [List.length_eq_zero_iff, List.filter_eq_nil_iff]
def MDropPost (w : World) (M : Nat) (G : Nat → Prop) (r : Int × NSt) (e : Ending) (w' : World) : Prop :=
  e = .returned (.int .i64 r.1) ∧ ∃ G', MNode w' ⟨M, 0, none⟩ G' r.2 ∧ (∀ k, G' k → G k ∨ w.heap.size ≤ k) ∧ Off G w w'
set_option maxRecDepth 100000 in
set_option maxHeartbeats 16000000 in
theorem mNodeDrop_any (M : Nat) (vf vb : Value) (ps : List MF) (bs : List MB) (nm : ByteArray) (w : World) (hbn : bs.length ≤ 1000) (hpn : ps.length ≤ 1000) (hI : NInv ⟨mFs ps, mBs bs⟩) (hok : ∀ b ∈ mBs bs, BinOk 1000000 b.2) (hfl : ∀ f ∈ mFs ps, f.2.length ≤ 4000) (h : MSt w M vf vb ps bs) :
    Calls Tryz.prog 46 #[.pointer (some ⟨M, 0, none⟩), .string nm] w (MDropPost w M (mFoot M vf vb ps bs) (nDrop ⟨mFs ps, mBs bs⟩ nm.data.toList)) := by
  obtain ⟨ti, hti, hz0, hz1, hz2⟩ := info_parts infoMf
  obtain ⟨tj, htj, hy0, hy1, hy2⟩ := info_parts infoMb
  have HH := hideN h
  have HOK := hideN hok
  have HFL := hideN hfl
  have HI := hideN hI
  obtain ⟨pf, cf, hvf, hfc⟩ := h.files
  obtain ⟨pb, cb, hvb, hbc⟩ := h.reps
  subst hvf hvb
  clear hfc hbc
  obtain ⟨RES, hRES⟩ : ∃ RES, nDrop ⟨mFs ps, mBs bs⟩ nm.data.toList = RES := ⟨_, rfl⟩
  have HRES := hideN hRES
  rw [hRES]
  have hpl : (ps.length : Int) ≤ 1000 := by omega
  have hbl0 : (bs.length : Int) ≤ 1000 := by omega
  have HBN := hideN hbn
  have HPN := hideN hpn
  have HFN := hideN (mFind_any M (.slice pf ps.length cf) (.slice pb bs.length cb) ps bs nm w hpn h)
  clear hok hfl hI hRES hbn hpn
  go_enter Tryz.func46, Tryz.ntmps46
  go_wp2_with fail
  refine HFN.out.mono ?_
  rintro e w1 ⟨rfl, hw1⟩
  obtain rfl := hw1.symm
  clear HFN
  cases hkf : kFind (mFs ps) nm.data.toList with
  | none =>
    have HE : Hid (RES = (5, ⟨mFs ps, mBs bs⟩)) := by show _ = _; rw [← HRES.out]; unfold nDrop; rw [show nFile (NSt.files ⟨mFs ps, mBs bs⟩) nm.data.toList = none from by rw [nFile_kFind, hkf]; rfl]
    have HK : Hid (kFindI (mFs ps) nm.data.toList = -1) := by show _ = _; unfold kFindI; rw [hkf]
    rw [HK.out]
    clear hkf h
    go_wp2_with fail
    go_ret
    rw [HE.out]
    exact ⟨rfl, _, ⟨M, _, _, ps, bs, rfl, HH.out, rfl, rfl⟩, fun k hk => .inl hk, Off.refl _ _⟩
  | some k =>
    have HKF := hideN hkf
    obtain ⟨hkm, hkx⟩ := kFind_some hkf
    have hk : k < ps.length := by rw [mFs_length] at hkm; exact hkm
    rw [mFs_get] at hkx
    have HK : Hid (kFindI (mFs ps) nm.data.toList = (k : Int)) := by show _ = _; unfold kFindI; rw [hkf]
    have hkmem : ps[k] ∈ ps := List.getElem_mem hk
    have HNF : Hid (nFile (mFs ps) nm.data.toList = some ps[k].1.2) := by show _ = _; rw [nFile_kFind, hkf]; simp only [Option.bind_some]; rw [List.getElem?_eq_getElem hkm, Option.map_some, mFs_get]
    have hs4 : ps[k].1.2.length ≤ 4000 := HFL.out _ (by unfold mFs; exact List.mem_map_of_mem hkmem)
    have HHAS := hideN (HI.out.has ps[k].1 (by show _ ∈ mFs ps; unfold mFs; exact List.mem_map_of_mem hkmem))
    have HID0 := hideN (h.ids _ hkmem)
    have HIDF : Hid (idsOf ps[k].1.2 ≠ [] → ∀ j, ps[k].2.ownBlock = some j → j < w.heap.size) := fun hne j hj => HH.out.lt j (.inr (.inr (.inr (.inr ⟨_, hkmem, hne, hj⟩))))
    obtain ⟨_, _, hvf', hcell⟩ := h.files
    obtain ⟨rfl, rfl⟩ : pf = _ ∧ cf = _ := by simpa using hvf'
    obtain ⟨b, o, hpfe, ⟨hbl, hcl⟩, a0, a1, a2, a3⟩ := hcell k hk
    have q0 := h.blk.cell (i := 0) rfl
    obtain ⟨⟨⟨f1, s⟩, fv⟩, hq⟩ : ∃ q, ps[k] = q := ⟨_, rfl⟩
    rw [hq] at hkx HNF hs4 HHAS HID0 HIDF a0 a1 a2 a3
    simp only at hkx HNF hs4 HHAS HID0 HIDF a0 a1 a2 a3
    subst hkx
    rw [str_backK] at a0
    obtain ⟨pv, cv, hfv, _⟩ := id HID0.out
    obtain ⟨idl, hidl⟩ : ∃ idl, (idsOf s).length = idl := ⟨_, rfl⟩
    have HIDL := hideN hidl
    rw [hidl] at hfv
    subst hfv
    obtain ⟨PP, hPP⟩ : ∃ PP, pmore 2166136261 s = PP := ⟨_, rfl⟩
    obtain ⟨LL, hLL⟩ : ∃ LL, (s.length : Int) = LL := ⟨_, rfl⟩
    rw [hPP] at a2
    rw [hLL] at a1
    have HIL : Hid (idl ≤ 4000) := by have h1 := pieces_len_le s; unfold idsOf at hidl; rw [List.length_map] at hidl; show _ ≤ _; omega
    subst hpfe
    rw [HK.out]
    have hk0 : (0 : Int) ≤ (k : Int) := by omega
    have hk1 : (k : Int) < (ps.length : Int) := by omega
    have hal := (Below.refl w.heap.size w).alloc (Nat.le_refl _) (.cells #[.string nm, .int .i64 LL, .int .u32 (PP : Nat), .slice pv idl cv] 40)
    have HB2 := hideN hal
    have HR6 := hideN (Blk.new w #[.string nm, .int .i64 LL, .int .u32 (PP : Nat), .slice pv idl cv] 40)
    obtain ⟨W2, hW2⟩ : ∃ W2, w.alloc (.cells #[.string nm, .int .i64 LL, .int .u32 (PP : Nat), .slice pv idl cv] 40) = W2 := ⟨_, rfl⟩
    have HW2 := hideN hW2
    rw [hW2] at HB2 HR6
    have HREP := hideN (refRepOf_any nm LL (PP : Nat) (.slice pv idl cv) (idsOf s) W2 (HID0.out.below HB2.out) (by rw [hidl]; have := HIL.out; unfold maxLen; omega))
    change Hid (Calls _ _ _ _ (fun e w' => e = .returned (idV ((repT s).1 : Nat) (repT s).2) ∧ _)) at HREP
    obtain ⟨⟨rp, rl⟩, hrep⟩ : ∃ r, repT s = r := ⟨_, rfl⟩
    have HRT := hideN hrep
    rw [hrep] at HREP HHAS
    simp only at HREP
    have r0 := HR6.out.cell (i := 0) rfl
    have r1 := HR6.out.cell (i := 1) rfl
    have r2 := HR6.out.cell (i := 2) rfl
    have r3 := HR6.out.cell (i := 3) rfl
    rw [← hW2] at r0 r1 r2 r3
    clear hkf hkm hkmem hcell hvf' hq hPP hLL hidl hrep hal hW2 hs4
    go_wp2_with fail
    rw [HW2.out]
    obtain ⟨R6, hR6⟩ : ∃ R6, w.heap.size = R6 := ⟨_, rfl⟩
    have HR6E := hideN hR6
    rw [hR6] at HR6 ⊢
    refine HREP.out.mono ?_
    rintro e w4 ⟨rfl, hb4⟩
    have hal := (Below.refl w4.heap.size w4).alloc (Nat.le_refl _) (.cells #[.int .u32 (rp : Nat), .int .i64 rl] 25)
    have HB25 := hideN (hb4.trans (hal.mono hb4.size))
    have HB5 := hideN (HB2.out.trans (HB25.out.mono HB2.out.size))
    have HR7 := hideN (Blk.new w4 #[.int .u32 (rp : Nat), .int .i64 rl] 25)
    obtain ⟨W5, hW5⟩ : ∃ W5, w4.alloc (.cells #[.int .u32 (rp : Nat), .int .i64 rl] 25) = W5 := ⟨_, rfl⟩
    have HW5 := hideN hW5
    have HSZ24 : Hid (w.heap.size ≤ w4.heap.size) := Nat.le_trans HB2.out.size hb4.size
    rw [hW5] at HB25 HB5 HR7
    have HR65 := hideN (HR6.out.next HB25.out)
    have s0 := HR7.out.cell (i := 0) rfl
    have s1 := HR7.out.cell (i := 1) rfl
    rw [← hW5] at s0 s1
    have HFB := hideN (mFindBin_any M (.slice (some ⟨b, o, none⟩) ps.length cf) (.slice pb bs.length cb) ps bs (rp, rl) W5 HBN.out (HH.out.below HB5.out))
    clear hb4 hal hW5 HREP q0 r0 r1 r2 r3 a0 a1 a2 a3 hR6 HR6
    go_wp2_with fail
    rw [HW5.out]
    obtain ⟨R7, hR7⟩ : ∃ R7, w4.heap.size = R7 := ⟨_, rfl⟩
    rw [hR7] at HR7 HSZ24 ⊢
    refine HFB.out.mono ?_
    rintro e w7 ⟨rfl, hb7⟩
    have HB57 := hideN hb7
    have HB7 := hideN (HB5.out.trans (hb7.mono HB5.out.size))
    have HR67 := hideN (HR65.out.next hb7)
    have HR77 := hideN (HR7.out.next hb7)
    have HS7 := hideN (HH.out.below HB7.out)
    have HR6L : Hid (R6 < w7.heap.size) := HR67.out.lt
    have HR7L : Hid (R7 < w7.heap.size) := HR77.out.lt
    clear hb7 HFB s0 s1 HR65 HR7 hR7
    cases hkb : kFind (mBs bs) (rp, rl) with
    | none =>
      exfalso
      obtain ⟨bl, hbl'⟩ := HHAS.out
      exact kFind_not hkb _ hbl' rfl
    | some kb =>
      have HKB := hideN hkb
      obtain ⟨hkbm, hkbx⟩ := kFind_some hkb
      have hkbl : kb < bs.length := by rw [mBs_length] at hkbm; exact hkbm
      rw [mBs_get] at hkbx
      have HKBX : Hid ((bs[kb]'hkbl).1.1 = (rp, rl)) := hkbx
      have HBO : Hid (BinOk 1000000 (bs[kb]'hkbl).1.2) := by have := HOK.out _ (List.getElem_mem hkbm); rw [mBs_get] at this; exact this
      have HKI : Hid (kFindI (mBs bs) (rp, rl) = (kb : Int)) := by show _ = _; unfold kFindI; rw [hkb]
      have HCP := hideN (rCopy_any bs[kb].2.1 bs[kb].2.2 bs[kb].1.2 w7 (by have := HBO.out.many; omega) (HS7.out.bins _ (List.getElem_mem hkbl)))
      obtain ⟨_, _, hvb', hcell⟩ := HS7.out.reps
      obtain ⟨rfl, rfl⟩ : pb = _ ∧ cb = _ := by simpa using hvb'
      obtain ⟨b2, o2, hpbe, hx1, hx2, hx3, a2⟩ := hcell kb hkbl
      subst hpbe
      have q1 := HS7.out.blk.cell (i := 1) rfl
      obtain ⟨BK, hBK⟩ : ∃ BK, (bs[kb]'hkbl).2.1 = BK := ⟨_, rfl⟩
      obtain ⟨BL, hBL⟩ : ∃ BL, (bs[kb]'hkbl).1.2 = BL := ⟨_, rfl⟩
      have HBL := hideN hBL
      rw [hBK] at HCP a2
      rw [hBL] at HBO HCP
      rw [HKI.out]
      have hkb0 : (0 : Int) ≤ (kb : Int) := by omega
      have hkb1 : (kb : Int) < (bs.length : Int) := by omega
      clear hkb hkbm hkbx hvb' hcell hBK hBL hx1 hx2 hx3
      go_wp2_with fail
      refine HCP.out.mono ?_
      rintro e w8 ⟨B0, v0, rfl, hr0, hn0, hb8⟩
      have HB8 := hideN (HB7.out.trans (hb8.mono HB7.out.size))
      have HB28 := hideN (HB25.out.trans ((HB57.out.mono HB25.out.size).trans (hb8.mono (Nat.le_trans HB25.out.size HB57.out.size))))
      have HR68 := hideN (HR67.out.next hb8)
      have HR78 := hideN (HR77.out.next hb8)
      have HRB := hideN hr0
      have HNEW : Hid (∀ j, RBin.Of B0 v0 j → w7.heap.size ≤ j) := hn0
      have HS8 := hideN (HH.out.below HB8.out)
      have HSZ07 : Hid (w.heap.size ≤ w7.heap.size) := HB7.out.size
      have HID8 := hideN ((HID0.out.below HB2.out).below HB28.out)
      have HLOW := hideN HH.out.lt
      have HDR : Hid (∀ ids' : List (Nat × Int), ids' = idsOf s → dropAll BL ids' = dropAll BL (idsOf s)) := fun ids' e => by rw [e]
      clear hr0 hn0 hb8 q1 a2 HCP
      obtain ⟨IDS, hIDS⟩ : ∃ IDS, idsOf s = IDS := ⟨_, rfl⟩
      have HIDS := hideN hIDS
      rw [hIDS] at HID8 HIDL HIDF
      have hidl1 : (idl : Int) ≤ 4000 := by have := HIL.out; omega
      clear hIDS
      have r3 := HR68.out.cell (i := 3) rfl
      go_wp2_with fail
      go_loopw [10] (fun iv wr => ∃ (j : Nat) (bl : List Hd), j ≤ IDS.length ∧ iv = .int .i64 j ∧ Hid (dropAll bl (IDS.drop j) = dropAll BL IDS) ∧ Hid (BinOk 1000000 bl) ∧ Hid (RBin wr B0 v0 bl) ∧ Hid (Off (RBin.Of B0 v0) w8 wr)) (fun iv _ => IDS.length - (intOf iv).toNat)
      case atStart => exact ⟨0, BL, Nat.zero_le _, rfl, by rw [List.drop_zero]; trivial, HBO.out, HRB.out, Off.refl _ _⟩
      case round =>
        clear r3
        obtain ⟨j, bl, hj, rfl, HDA, HOKB, HRBK, HO⟩ := hrel
        have HR6R := hideN (HO.out.blk HR68.out (fun h => by have h1 := HNEW.out _ h; have h2 := HR6L.out; omega))
        have r3 := HR6R.out.cell (i := 3) rfl
        by_cases hlt : j < IDS.length
        · have hlt' : (j : Int) < (idl : Int) := by have := HIDL.out; omega
          have hj0 : (0 : Int) ≤ (j : Int) := by omega
          have hidsr := HID8.out.off HO.out (fun hne i hi h => by have h1 := HNEW.out _ h; have h2 := HIDF.out hne i hi; have h3 := HSZ07.out; omega)
          obtain ⟨pv', cv', hv', hc'⟩ := hidsr
          obtain ⟨rfl, hlen', rfl⟩ : pv = pv' ∧ idl = IDS.length ∧ cv = cv' := by simpa using hv'
          obtain ⟨bi, oi, rfl, hbi, d0, d1⟩ := hc' j hlt
          have hdr : IDS.drop j = IDS[j] :: IDS.drop (j + 1) := List.drop_eq_getElem_cons hlt
          rw [hdr, dropAll] at HDA
          obtain ⟨⟨xp, xl⟩, hx⟩ : ∃ x, IDS[j] = x := ⟨_, rfl⟩
          rw [hx] at d0 d1 HDA
          simp only at d0 d1
          have HDP := hideN (rDrop_any B0 v0 bl (xp, xl) wr (by have := HOKB.out.many; unfold maxLen; omega) (fun h hm => by obtain ⟨_, _, h3, h4⟩ := HOKB.out.each h hm; exact ⟨h3, by omega⟩) HRBK.out)
          have HOK2 := hideN (hDrop_ok HOKB.out (xp, xl))
          clear hv' hc' hdr hx hlen'
          go_wp2_with fail
          refine HDP.out.mono ?_
          rintro e w9 ⟨rfl, hr9, ho9⟩
          have HO9 : Hid (Off (RBin.Of B0 v0) w8 w9) := HO.out.trans ho9 (fun i _ h => h)
          have HR9 := hideN hr9
          clear hr9 ho9 HDP d0 d1
          go_wp2_with fail
          go_roundw
          case rel => exact ⟨j + 1, _, hlt, by go_num, HDA.out, HOK2.out, HR9.out, HO9.out⟩
          case measure => simp [intOf]; omega
        · have hge : (idl : Int) ≤ (j : Int) := by have := HIDL.out; omega
          rw [List.drop_eq_nil_of_le (by omega), dropAll] at HDA
          have HOW : Hid (Off (mFoot M (.slice (some ⟨b, o, none⟩) ps.length cf) (.slice (some ⟨b2, o2, none⟩) bs.length cb) ps bs) w wr) := (Off.of_below HB8.out).trans HO.out (fun i hi h => by have h1 := HNEW.out i h; have h2 := HSZ07.out; omega)
          have HSR := hideN (HS8.out.off HO.out (fun i hi h => by have h1 := HLOW.out i hi; have h2 := HNEW.out i h; have h3 := HSZ07.out; omega))
          have HR7R := hideN (HO.out.blk HR78.out (fun h => by have h1 := HNEW.out _ h; have h2 := HR7L.out; omega))
          have HSZR : Hid (w.heap.size ≤ wr.heap.size) := HOW.out.size
          have HSZ8R : Hid (w8.heap.size ≤ wr.heap.size) := HO.out.size
          have HKL : Hid (k < ps.length) := hk
          have HKBL : Hid (kb < bs.length) := hkbl
          have HML : Hid (M < wr.heap.size) := HSR.out.blk.lt
          have HFZ : Hid (wr.frozen? ⟨M, 0, none⟩ = false) := HSR.out.blk.frozen 0
          have HQ0 : Hid (wr.cell? ⟨M, 0, none⟩ = some (.slice (some ⟨b, o, none⟩) ps.length cf)) := HSR.out.blk.cell (i := 0) rfl
          have q0 := HQ0.out
          obtain ⟨g, cap, hvg, hcap, hcap2⟩ := row_some HSR.out.frow (by omega : 1 ≤ ps.length)
          obtain ⟨⟨hgb, ho0⟩, hcc⟩ : (g = b ∧ 0 = o) ∧ cf = cap := by simpa [eq_comm] using hvg
          subst hgb ho0 hcc
          obtain ⟨g2, cap3, hvg2, hcap4, hcap5⟩ := row_some HSR.out.brow (by omega : 1 ≤ bs.length)
          obtain ⟨⟨hgb2, ho2⟩, hcc2⟩ : (g2 = b2 ∧ 0 = o2) ∧ cb = cap3 := by simpa [eq_comm] using hvg2
          subst hgb2 ho2 hcc2
          have hsp : wr.ownsRow 0 40 4 (.slice (some ⟨g, 0, none⟩) ps.length cf) ps.length (mfCells (ps.take k) ++ mfCells (ps.drop k)) := by
            rw [← mfCells_append, List.take_append_drop]
            exact HSR.out.frow
          have hsp2 : wr.ownsRow 0 40 4 (.slice (some ⟨g, 0, none⟩) ps.length cf) ps.length (mfCells (ps.take (k + 1)) ++ mfCells (ps.drop (k + 1))) := by
            rw [← mfCells_append, List.take_append_drop]
            exact HSR.out.frow
          obtain ⟨P4, c4, hsl4, hP4⟩ := slF_from g ps.length cf (k + 1) hk hcap
          rw [show (((k + 1 : Nat)) : Int) = (k : Int) + 1 by push_cast; rfl] at hsl4
          have hsl5 := slF_upto g ps.length cf k (Nat.le_of_lt hk) hcap
          have hwk : IntKind.i64.wrap ((k : Int) + 1) = (k : Int) + 1 := by rw [IntKind.wrap_i64]; omega
          have HLT : Hid ((mfCells (ps.take k)).length = k * 4) := by show _ = _; rw [mfCells_length, List.length_take, Nat.min_eq_left (Nat.le_of_lt hk)]
          have HLT2 : Hid ((mfCells (ps.take (k + 1))).length = (k + 1) * 4) := by show _ = _; rw [mfCells_length, List.length_take, Nat.min_eq_left hk]
          have HLD : Hid ((mfCells (ps.drop (k + 1))).length = (ps.length - (k + 1)) * 4) := by show _ = _; rw [mfCells_length, List.length_drop]
          have HC1 : Hid (∀ W', Below wr.heap.size wr W' → ∀ j' u, (mfCells (ps.take k))[j']? = some u → W'.cell? ((⟨g, 0, none⟩ : Addr).add j') = some u) := fun W' hb => row_take (row_below hsp hb) rfl
          have HC2 : Hid (∀ W', Below wr.heap.size wr W' → ∀ j' u, (mfCells (ps.drop (k + 1)))[j']? = some u → W'.cell? (P4.add j') = some u) := fun W' hb j' u hj' => by
            have hjl := (List.getElem?_eq_some_iff.1 hj').1
            rw [HLD.out] at hjl
            rw [hP4 (by omega)]
            have := row_drop (row_below hsp2 hb) rfl j' u hj'
            rw [HLT2.out] at this
            exact this
          have HO1 : Hid (∀ u ∈ mfCells (ps.take k), u.oneCell' = true) := mfCells_one fun y hy => (HH.out.ids y (List.mem_of_mem_take hy)).one
          have HO2 : Hid (∀ u ∈ mfCells (ps.drop (k + 1)), u.oneCell' = true) := mfCells_one fun y hy => (HH.out.ids y (List.mem_of_mem_drop hy)).one
          have HSETF : Hid (∀ W v', Below wr.heap.size wr W → W.ownsRow wr.heap.size 40 4 v' (k + (ps.length - (k + 1))) (mfCells (ps.take k) ++ mfCells (ps.drop (k + 1))) → MSt (W.setCell ⟨M, 0, none⟩ v') M v' (.slice (some ⟨g2, 0, none⟩) bs.length cb) (mDelF ps k) bs ∧ Off (fun i => i = M) wr (W.setCell ⟨M, 0, none⟩ v') ∧ (∀ i, v'.ownBlock = some i → wr.heap.size ≤ i)) := fun W v' hb hr => by
            refine HSR.out.setF hb (by rw [mDelF_length hk]; unfold mDelF; rw [mfCells_append]; exact hr) (fun q hq => HSR.out.ids q (mDelF_mem hq)) (fun i ⟨q, hq, hne, hi⟩ => ?_)
            obtain ⟨h1, _, h3, h4⟩ := HSR.out.io i ⟨q, mDelF_mem hq, hne, hi⟩
            exact ⟨h1, h3, h4⟩
          have HBSEP : Hid (∀ i, RBin.Of B0 v0 i → w8.heap.size > i ∧ w7.heap.size ≤ i) := fun i hi => ⟨HRB.out.lt hi, HNEW.out i hi⟩
          have HSETA : Hid (∀ W vf', MSt W M vf' (.slice (some ⟨g2, 0, none⟩) bs.length cb) (mDelF ps k) bs → Off (fun i => i = M) wr W → (∀ i, vf'.ownBlock = some i → wr.heap.size ≤ i) → MSt (W.setCell ⟨g2, kb * 3 + 2, none⟩ (.pointer (some ⟨B0, 0, none⟩))) M vf' (.slice (some ⟨g2, 0, none⟩) bs.length cb) (mDelF ps k) (bs.set kb (((bs[kb]'hkbl).1.1, bl), B0, v0)) ∧ Off (fun i => i = g2) W (W.setCell ⟨g2, kb * 3 + 2, none⟩ (.pointer (some ⟨B0, 0, none⟩)))) := fun W vf' hS hoff hnew => by
            refine hS.setAt hkbl (HRBK.out.off hoff (fun i hi e => by have h1 := HBSEP.out i hi; have h2 := HLOW.out M (.inl rfl); have h3 := HSZ07.out; omega)) (fun i hi => ?_)
            have h1 := HBSEP.out i hi
            have h3 := HSZ07.out
            have h4 := HSZ8R.out
            refine ⟨fun e => by have := HLOW.out M (.inl rfl); omega, fun e => by have := hnew i e; omega, fun e => by have := HLOW.out g2 (.inr (.inr (.inl rfl))); omega, fun e => by have := HLOW.out i (.inr (.inr (.inr (.inl e)))); omega, fun ⟨q, hq, hne, hi2⟩ => ?_⟩
            have := HLOW.out i (.inr (.inr (.inr (.inr ⟨q, mDelF_mem hq, hne, hi2⟩))))
            omega
          have hg2 : g2 < w.heap.size := HLOW.out g2 (.inr (.inr (.inl rfl)))
          have HG2 := hideN hg2
          clear hvg hvg2 hsp hsp2 hP4 hcap hcap2 hcap4 hcap5 hlt h
          go_wp2_with (first
            | (at_builtin; refine wpList_append_own _ rfl (.tmp 53) (.tmp 59) 31 rfl wr.heap.size 40 ti (rcpV ⟨#[]⟩ 0 0 (.slice none 0 0)) 4 56 Tryz.underlying31 hti hz0 hz1 hz2 rfl (by decide) (.slice none 0 0) 0 [] rfl (World.ownsRow_nil _ _ _ _) ⟨g, 0, none⟩ k cf (mfCells (ps.take k)) rfl HLT.out (HC1.out wr (Below.refl _ _)) HO1.out (by have := HPN.out; have := HKL.out; unfold maxLen; omega) (by have := HPN.out; have := HKL.out; omega) (Nat.le_refl _) ?_; intro v3 wA ho3 hg3 _; rw [Nat.zero_add, List.nil_append] at ho3; have hB3 : Below wr.heap.size wr wA := (Below.refl _ wr).grown hg3 (Nat.le_refl _) (fun k hk => by cases hk); have HO3 := hideN ho3; have HBA := hideN hB3; clear hg3 ho3; have q3 := (hB3.cell (p := ⟨M, 0, none⟩) HML.out).trans HQ0.out; clear hB3)
            | (at_builtin; refine wpList_append_own _ rfl (.tmp 62) (.tmp 69) 31 rfl wr.heap.size 40 ti (rcpV ⟨#[]⟩ 0 0 (.slice none 0 0)) 4 56 Tryz.underlying31 hti hz0 hz1 hz2 rfl (by decide) v3 k (mfCells (ps.take k)) rfl HO3.out P4 (ps.length - (k + 1)) c4 (mfCells (ps.drop (k + 1))) rfl HLD.out (HC2.out wA HBA.out) HO2.out (by have := HPN.out; have := HKL.out; unfold maxLen; omega) (by have := HPN.out; have := HKL.out; omega) HBA.out.size ?_; intro v4 wB ho4 hg4 _; have hB4 : Below wr.heap.size wr wB := HBA.out.grown hg4 HBA.out.size (fun k hk => (HO3.out.lt k hk).1); have hSF := HSETF.out wB v4 hB4 ho4; have hSA := HSETA.out _ v4 hSF.1 hSF.2.1 hSF.2.2; have HSF := hideN hSF; have HSA := hideN hSA; have HBB := hideN hB4; obtain ⟨p4, c5, hu4⟩ := row_shapeK ho4; subst hu4; have q4 := (hB4.cell (p := ⟨M, 0, none⟩) HML.out).trans HQ0.out; have f4 := (hB4.frozen (p := ⟨M, 0, none⟩) HML.out).trans HFZ.out; have q5 := hSF.1.blk.cell (i := 1) rfl; obtain ⟨ov, hov⟩ : ∃ ov, (wB.setCell ⟨M, 0, none⟩ (.slice p4 (k + (ps.length - (k + 1))) c5)).cell? ⟨g2, kb * 3 + 2, none⟩ = some ov := ⟨_, by have h1 := hSF.1.brow.cells (g := g2) rfl (kb * 3 + 2) _ (mbCells_at bs kb HKBL.out).2.2; simpa only [add_plain] using h1⟩; have f5 := row_frozen hSF.1.brow (g := g2) rfl (kb * 3 + 2); have HR7B := hideN (hSA.2.blk (hSF.2.1.blk HR7R.out (fun e => by have h1 := HLOW.out M (.inl rfl); have h2 := HSZ24.out; omega)) (fun e => by have h1 := HG2.out; have h2 := HSZ24.out; omega)); have s0 := HR7B.out.cell (i := 0) rfl; have s1 := HR7B.out.cell (i := 1) rfl; clear hg4 ho4 hB4 hSF hSA))
          obtain ⟨wC, hwC⟩ : ∃ wC, (wB.setCell ⟨M, 0, none⟩ (.slice p4 (k + (ps.length - (k + 1))) c5)).setCell ⟨g2, kb * 3 + 2, none⟩ (.pointer (some ⟨B0, 0, none⟩)) = wC := ⟨_, rfl⟩
          rw [hwC] at HSA HR7B ⊢
          have HSC := hideN HSA.out.1
          have HOC : Hid (Off (mFoot M (.slice (some ⟨g, 0, none⟩) ps.length cf) (.slice (some ⟨g2, 0, none⟩) bs.length cb) ps bs) w wC) := (HOW.out.trans HSF.out.2.1 (fun i _ hi => .inl hi)).trans HSA.out.2 (fun i _ hi => .inr (.inr (.inl (by rw [hi]; rfl))))
          have HVF := hideN HSF.out.2.2
          have hfs : mFs (mDelF ps k) = (mFs ps).filter (fun f => !decide (f.1 = nm.data.toList)) := by rw [mDelF_fs]; exact erase_filter HI.out.fap HKF.out
          have hset0 : mBs (bs.set kb (((bs[kb]'hkbl).1.1, bl), B0, v0)) = (mBs bs).set kb ((rp, rl), bl) := by
            unfold mBs
            rw [List.map_set, HKBX.out]
          have hbs : mBs (bs.set kb (((bs[kb]'hkbl).1.1, bl), B0, v0)) = (mBs bs).map (fun y => if y.1 = (rp, rl) then (y.1, dropAll y.2 (idsOf s)) else y) := by
            rw [hset0, show bl = dropAll BL (idsOf s) by rw [HIDS.out]; exact HDA.out]
            refine set_map (fun l => dropAll l (idsOf s)) BL HI.out.bap HKB.out (fun h => ?_)
            show (mBs bs)[kb].2 = BL
            rw [mBs_get]
            exact HBL.out
          have hdel : mBs (mDelB (bs.set kb (((bs[kb]'hkbl).1.1, bl), B0, v0)) kb) = (mBs bs).filter (fun y => !decide (y.1 = (rp, rl))) := by
            rw [mDelB_bs, hset0, List.take_set_of_le (Nat.le_refl _), List.drop_set_of_lt (by omega)]
            exact erase_filter HI.out.bap HKB.out
          have HRES2 : Hid (RES = if (ofRep (mFs (mDelF ps k)) (rp, rl)).length = 0 then (0, ⟨mFs (mDelF ps k), mBs (mDelB (bs.set kb (((bs[kb]'hkbl).1.1, bl), B0, v0)) kb)⟩) else (0, ⟨mFs (mDelF ps k), mBs (bs.set kb (((bs[kb]'hkbl).1.1, bl), B0, v0))⟩)) := by
            show _ = _
            rw [← HRES.out, hdel, hbs, hfs]
            unfold nDrop
            rw [show nFile (NSt.files ⟨mFs ps, mBs bs⟩) nm.data.toList = some s from HNF.out]
            simp only
            rw [HRT.out, ofRep_any]
            by_cases hz : (ofRep ((mFs ps).filter (fun f => !decide (f.1 = nm.data.toList))) (rp, rl)).length = 0
            · rw [if_pos hz, if_neg (by rw [hz]; decide)]
            · rw [if_neg hz, if_pos (by simpa using hz)]
          have HOFR := hideN (mOfRep_any M _ _ (mDelF ps k) (bs.set kb (((bs[kb]'hkbl).1.1, bl), B0, v0)) (rp, rl) wC (by rw [mDelF_length HKL.out]; have := HPN.out; have := HKL.out; omega) (fun f hf => HFL.out f (by rw [hfs] at hf; exact (List.mem_filter.1 hf).1)) HSC.out)
          simp only at HOFR
          have HNB : Hid (∀ i, mBins (bs.set kb (((bs[kb]'hkbl).1.1, bl), B0, v0)) i → mBins bs i ∨ w.heap.size ≤ i) := fun i ⟨y, hy, hi⟩ => by
            rcases List.mem_or_eq_of_mem_set hy with hy | rfl
            · exact .inl ⟨y, hy, hi⟩
            · exact .inr (Nat.le_trans HSZ07.out (HNEW.out i hi))
          have HNI : Hid (∀ i, mIds (mDelF ps k) i → mIds ps i) := fun i ⟨q, hq, hne, hi⟩ => ⟨q, mDelF_mem hq, hne, hi⟩
          obtain ⟨n, hn⟩ : ∃ n, (ofRep (mFs (mDelF ps k)) (rp, rl)).length = n := ⟨_, rfl⟩
          rw [hn] at HOFR HRES2
          clear hwC hfs hset0 hbs hdel hn
          refine HOFR.out.mono ?_
          rintro e wD ⟨qD, cD, rfl, hbD⟩
          have HSD := hideN (HSC.out.below hbD)
          have HOD := hideN (HOC.out.trans (Off.of_below (F := fun _ => False) hbD) (fun _ _ h => h.elim))
          clear hbD HOFR q0 q3 q4 f4 q5 hov f5 s0 s1
          by_cases hz : n = 0
          · have hz' : (n : Int) = 0 := by omega
            rw [if_pos hz] at HRES2
            obtain ⟨BS, hBS⟩ : ∃ BS, bs.set kb (((bs[kb]'hkbl).1.1, bl), B0, v0) = BS := ⟨_, rfl⟩
            have HLB : Hid (BS.length = bs.length) := by show _ = _; rw [← hBS, List.length_set]
            rw [hBS] at HSD HNB HRES2
            have q1 := HSD.out.blk.cell (i := 1) rfl
            have HMD : Hid (M < wD.heap.size) := HSD.out.blk.lt
            have HQ1 : Hid (wD.cell? ⟨M, 1, none⟩ = some (.slice (some ⟨g2, 0, none⟩) bs.length cb)) := q1
            have HF1 : Hid (wD.frozen? ⟨M, 1, none⟩ = false) := HSD.out.blk.frozen 1
            have hcapb : bs.length ≤ cb := by
              obtain ⟨g9, c9, hv9, h9, _⟩ := row_some HSD.out.brow (by rw [HLB.out]; omega)
              obtain ⟨_, _, rfl⟩ : g2 = g9 ∧ bs.length = BS.length ∧ cb = c9 := by simpa using hv9
              rw [← HLB.out]
              exact h9
            have hspa : wD.ownsRow 0 92 3 (.slice (some ⟨g2, 0, none⟩) bs.length cb) BS.length (mbCells (BS.take kb) ++ mbCells (BS.drop kb)) := by
              rw [← mbCells_append, List.take_append_drop]
              exact HSD.out.brow
            have hspb : wD.ownsRow 0 92 3 (.slice (some ⟨g2, 0, none⟩) bs.length cb) BS.length (mbCells (BS.take (kb + 1)) ++ mbCells (BS.drop (kb + 1))) := by
              rw [← mbCells_append, List.take_append_drop]
              exact HSD.out.brow
            obtain ⟨P6, c6, hsl6, hP6⟩ := slB_from g2 bs.length cb (kb + 1) HKBL.out hcapb
            rw [show (((kb + 1 : Nat)) : Int) = (kb : Int) + 1 by push_cast; rfl] at hsl6
            have hsl7 := slB_upto g2 bs.length cb kb (Nat.le_of_lt HKBL.out) hcapb
            have hwkb : IntKind.i64.wrap ((kb : Int) + 1) = (kb : Int) + 1 := by rw [IntKind.wrap_i64]; omega
            have HLA : Hid ((mbCells (BS.take kb)).length = kb * 3) := by show _ = _; rw [mbCells_length, List.length_take, Nat.min_eq_left (by have := HLB.out; have := HKBL.out; omega)]
            have HLA2 : Hid ((mbCells (BS.take (kb + 1))).length = (kb + 1) * 3) := by show _ = _; rw [mbCells_length, List.length_take, Nat.min_eq_left (by have := HLB.out; have := HKBL.out; omega)]
            have HLZ : Hid ((mbCells (BS.drop (kb + 1))).length = (bs.length - (kb + 1)) * 3) := by show _ = _; rw [mbCells_length, List.length_drop, HLB.out]
            have HD1 : Hid (∀ W', Below wD.heap.size wD W' → ∀ j' u, (mbCells (BS.take kb))[j']? = some u → W'.cell? ((⟨g2, 0, none⟩ : Addr).add j') = some u) := fun W' hb => row_take (row_below hspa hb) rfl
            have HD2 : Hid (∀ W', Below wD.heap.size wD W' → ∀ j' u, (mbCells (BS.drop (kb + 1)))[j']? = some u → W'.cell? (P6.add j') = some u) := fun W' hb j' u hj' => by
              have hjl := (List.getElem?_eq_some_iff.1 hj').1
              rw [HLZ.out] at hjl
              rw [hP6 (by omega)]
              have := row_drop (row_below hspb hb) rfl j' u hj'
              rw [HLA2.out] at this
              exact this
            clear hspa hspb hP6 hcapb hBS
            go_wp2_with (first
              | (at_builtin; refine wpList_append_own _ rfl (.tmp 86) (.tmp 92) 32 rfl wD.heap.size 92 tj (.agg #[.int .u32 0, .int .i64 0, .pointer none]) 3 24 Tryz.underlying32 htj hy0 hy1 hy2 rfl (by decide) (.slice none 0 0) 0 [] rfl (World.ownsRow_nil _ _ _ _) ⟨g2, 0, none⟩ kb cb (mbCells (BS.take kb)) rfl HLA.out (HD1.out wD (Below.refl _ _)) (mbCells_one _) (by have := HBN.out; have := HKBL.out; unfold maxLen; omega) (by have := HBN.out; have := HKBL.out; omega) (Nat.le_refl _) ?_; intro v3 wE ho3 hg3 _; rw [Nat.zero_add, List.nil_append] at ho3; have hB3 : Below wD.heap.size wD wE := (Below.refl _ wD).grown hg3 (Nat.le_refl _) (fun k hk => by cases hk); have HO3 := hideN ho3; have HBE := hideN hB3; clear hg3 ho3; have y3 := (hB3.cell (p := ⟨M, 1, none⟩) HMD.out).trans HQ1.out; clear hB3)
              | (at_builtin; refine wpList_append_own _ rfl (.tmp 95) (.tmp 102) 32 rfl wD.heap.size 92 tj (.agg #[.int .u32 0, .int .i64 0, .pointer none]) 3 24 Tryz.underlying32 htj hy0 hy1 hy2 rfl (by decide) v3 kb (mbCells (BS.take kb)) rfl HO3.out P6 (bs.length - (kb + 1)) c6 (mbCells (BS.drop (kb + 1))) rfl HLZ.out (HD2.out wE HBE.out) (mbCells_one _) (by have := HBN.out; have := HKBL.out; unfold maxLen; omega) (by have := HBN.out; have := HKBL.out; omega) HBE.out.size ?_; intro v4 wF ho4 hg4 _; have hB4 : Below wD.heap.size wD wF := HBE.out.grown hg4 HBE.out.size (fun k hk => (HO3.out.lt k hk).1); have HO4 := hideN ho4; have HBF := hideN hB4; obtain ⟨p6, c7, hu4⟩ := row_shapeK ho4; subst hu4; have y4 := (hB4.cell (p := ⟨M, 1, none⟩) HMD.out).trans HQ1.out; have y5 := (hB4.frozen (p := ⟨M, 1, none⟩) HMD.out).trans HF1.out; clear hg4 ho4 hB4))
            go_ret
            have hsub := mDelB_sub BS kb
            have hfin := HSD.out.setB (vb' := .slice p6 (kb + (bs.length - (kb + 1))) c7) (bs' := mDelB BS kb) HBF.out (by rw [mDelB_length (by rw [HLB.out]; exact HKBL.out), HLB.out]; unfold mDelB; rw [mbCells_append]; exact HO4.out) (fun q hq => HSD.out.bins q (hsub.subset hq)) (HSD.out.bb.sublist hsub) (fun i ⟨q, hq, hi⟩ => by
              obtain ⟨h1, h2, _⟩ := HSD.out.bm i ⟨q, hsub.subset hq, hi⟩
              exact ⟨h1, h2, fun e => (HSD.out.io i e).2.2.2 ⟨q, hsub.subset hq, hi⟩⟩)
            rw [HRES2.out]
            refine ⟨rfl, _, ⟨M, _, _, mDelF ps k, mDelB BS kb, rfl, hfin.1, rfl, rfl⟩, fun i hi => ?_, HOD.out.trans hfin.2.1 (fun i _ hi => .inl hi)⟩
            have hsz := HSZR.out
            have hszD := HOD.out.size
            rcases hi with rfl | hi | hi | ⟨q, hq, hi⟩ | hi
            · exact .inl (.inl rfl)
            · exact .inr (Nat.le_trans hsz (HVF.out i hi))
            · exact .inr (Nat.le_trans hszD (hfin.2.2 i hi))
            · rcases HNB.out i ⟨q, hsub.subset hq, hi⟩ with h | h
              · exact .inl (.inr (.inr (.inr (.inl h))))
              · exact .inr h
            · exact .inl (.inr (.inr (.inr (.inr (HNI.out i hi)))))
          · have hz' : ((n : Int) == 0) = false := by rw [beq_eq_false_iff_ne]; omega
            rw [if_neg hz] at HRES2
            go_wp2_with fail
            go_ret
            rw [HRES2.out]
            refine ⟨rfl, _, ⟨M, _, _, mDelF ps k, _, rfl, HSD.out, rfl, rfl⟩, fun i hi => ?_, HOD.out⟩
            have hsz := HSZR.out
            rcases hi with rfl | hi | hi | hi | hi
            · exact .inl (.inl rfl)
            · exact .inr (Nat.le_trans hsz (HVF.out i hi))
            · exact .inl (.inr (.inr (.inl hi)))
            · rcases HNB.out i hi with h | h
              · exact .inl (.inr (.inr (.inr (.inl h))))
              · exact .inr h
            · exact .inl (.inr (.inr (.inr (.inr (HNI.out i hi)))))
end Go.Proofs.YtjdobbjdlighpabGreatDoor
