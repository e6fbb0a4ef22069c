/-
  Own text. SameNode by a contract: what the document's node has, the program's has too.
  Own text. (*node.Node).Copy by a contract: the same files and bins, in blocks of its own (the files' IDs are shared).
-/
import Derived.Test.YtjdobbjdlighpabGreatDoorH36
import Derived.Test.YtjdobbjdlighpabGreatDoorH37
import Derived.Test.YtjdobbjdlighpabGreatDoorH15
import Derived.Test.YtjdobbjdlighpabGreatDoorH12
import Derived.Deep.AppendLies
import Derived.Test.YtjdobbjdlighpabGreatDoorH22
import Derived.Test.YtjdobbjdlighpabGreatDoorH35
namespace Go.Proofs.YtjdobbjdlighpabGreatDoor
open Go.RowKit Go.Maps Go.Sort Go.Shelf

theorem sorted_eq {α : Type} {R : α → α → Prop} (asym : ∀ a b, R a b → ¬ R b a) : ∀ {l m : List α}, l.Pairwise R → m.Pairwise R → l.Perm m → l = m
  | [], m, _, _, h => (List.nil_perm.1 h).symm
  | a :: l, [], _, _, h => absurd h.length_eq (by simp)
  | a :: l, b :: m, h1, h2, h => by
    obtain ⟨p1, p2⟩ := List.pairwise_cons.1 h1
    obtain ⟨q1, q2⟩ := List.pairwise_cons.1 h2
    have e : a = b := by
      rcases List.mem_cons.1 (h.mem_iff.1 (List.mem_cons_self ..)) with e | ha
      · exact e
      · rcases List.mem_cons.1 (h.mem_iff.2 (List.mem_cons_self ..)) with e | hb
        · exact e.symm
        · exact absurd (q1 a ha) (asym _ _ (p1 b hb))
    subst e
    rw [sorted_eq asym p2 q2 (List.Perm.cons_inv h)]
theorem names_same {st sm : NSt} (h : NRel st sm) {ss : List (List UInt8)} (hs : ss.Perm (st.files.map (·.1))) : ss.mergeSort (fun x y => decide (x ≤ y)) = sm.files.map (·.1) := by
  obtain ⟨h1, h2⟩ := sorted_names hs (by rw [List.pairwise_map]; exact h.fne')
  refine sorted_eq (R := fun a b : List UInt8 => a < b) (fun a b h1 h2 => List.lt_irrefl a (List.lt_trans h1 h2)) h2 ?_ (h1.trans (h.files.map _).symm)
  rw [List.pairwise_map]
  exact h.fsort.imp fun {a b} e => by simpa [ltN] using e
theorem reps_same {st sm : NSt} (h : NRel st sm) {rs : List (Nat × Int)} (hs : rs.Perm (st.bins.map (·.1))) (hr : rs.Pairwise (fun p q => lessB p q = true)) : rs = sm.bins.map (·.1) := by
  refine sorted_eq (R := fun p q : Nat × Int => lessB p q = true) (fun a b h1 h2 => ord_I.ne _ _ (ord_I.trans _ _ _ h1 h2) rfl) hr ?_ (hs.trans (h.bins.map _).symm)
  rw [List.pairwise_map]
  exact h.bsort
set_option maxRecDepth 100000 in
set_option maxHeartbeats 8000000 in
theorem sameNode_any (a : Nat → Addr) (w0 w : World) (p : Addr) (F : Nat → Prop) (st : NSt) (M : Nat) (G : Nat → Prop) (sm : NSt) (k : Nat) (hk : k ≤ 100) (hE : ∀ W, Below w0.heap.size w0 W → ErrW W a) (hb0 : Below w0.heap.size w0 w) (hP : PNode w p F st) (hM : MNode w ⟨M, 0, none⟩ G sm) (hI : ActI k st sm) :
    Calls Tryz.prog 13 #[.pointer (some p), .pointer (some ⟨M, 0, none⟩)] w fun e w' => e = .returned (.int .i64 1) ∧ Below w.heap.size w w' := by
  have HEE : Hid (∀ W, Below w.heap.size w W → ErrW W a) := fun W hb => hE W (hb0.trans (hb.mono hb0.size))
  have HP := hideN hP
  have HI := hideN hI
  obtain ⟨M', vf, vb, ps, bs, hm, hS, hsm, _⟩ := hM
  obtain rfl : M = M' := by simpa using hm
  subst hsm
  have HS := hideN hS
  have h1 := hI.ok.many
  have h2 := hI.rel.bins.length_eq
  have h3 := hI.rel.files.length_eq
  have h4 := hI.full.fmany
  simp only [mBs_length, mFs_length] at h2 h3
  have HPL : Hid (ps.length ≤ 30) := by show _ ≤ _; omega
  have HBL : Hid (bs.length ≤ 100) := by show _ ≤ _; omega
  have HN := hideN (nodeNames_any p F st w (by omega) hP)
  have HMN : Hid (∀ W, Below w.heap.size w W → Calls Tryz.prog 51 #[.pointer (some ⟨M, 0, none⟩)] W fun e w' => ∃ v, e = .returned v ∧ CellsAt w' v (((mFs ps).map (·.1)).map txtV) ∧ Below W.heap.size W w') := fun W hb => (mNames_any M vf vb ps bs W (by have := HPL.out; omega) (HS.out.below hb)).mono fun e w' ⟨v, h1, h2, h3⟩ => ⟨v, h1, by
    have := CellsAt.of_row h2
    unfold mFs
    rw [List.map_map, List.map_map]
    exact this, h3⟩
  have HR : Hid (∀ W, Below w.heap.size w W → Calls Tryz.prog 32 #[.pointer (some p)] W fun e w' => ∃ v, e = .returned v ∧ IdsAt w' v ((mBs bs).map (·.1)) ∧ Below W.heap.size W w') := fun W hb => (nodeReps_any p F st W (by have := HBL.out; have h := HI.out.rel.bins.length_eq; simp only [mBs_length] at h; omega) (HP.out.below hb)).mono fun e w' ⟨v, rs, h1, h2, h3, h4, h5⟩ => ⟨v, h1, by rw [reps_same HI.out.rel h2 h3] at h4; exact h4, h5⟩
  have HMR : Hid (∀ W, Below w.heap.size w W → Calls Tryz.prog 53 #[.pointer (some ⟨M, 0, none⟩)] W fun e w' => ∃ v, e = .returned v ∧ IdsAt w' v ((mBs bs).map (·.1)) ∧ Below W.heap.size W w') := fun W hb => (mReps_any M vf vb ps bs W (by have := HBL.out; omega) (HS.out.below hb)).mono fun e w' ⟨v, h1, h2, h3⟩ => ⟨v, h1, by
    have e1 : (mBs bs).map (·.1) = bs.map (fun q => q.1.1) := by unfold mBs; rw [List.map_map]; rfl
    rw [e1]
    refine IdsAt.of_row (base := W.heap.size) (e := 25) ?_
    rw [List.length_map]
    exact h2, h3⟩
  have HST : Hid (∀ va vb' W, CellsAt W va (((mFs ps).map (·.1)).map txtV) → CellsAt W vb' (((mFs ps).map (·.1)).map txtV) → Calls Tryz.prog 39 #[va, vb'] W fun e w' => e = .returned (.bool true) ∧ Below W.heap.size W w') := fun va vb' W ha hb => sameTextsC va vb' _ W (by rw [List.length_map, mFs_length]; have := HPL.out; omega) ha hb
  have HSI : Hid (∀ va vb' W, IdsAt W va ((mBs bs).map (·.1)) → IdsAt W vb' ((mBs bs).map (·.1)) → Calls Tryz.prog 52 #[va, vb'] W fun e w' => e = .returned (.bool true) ∧ Below W.heap.size W w') := fun va vb' W ha hb => sameIDs_true va vb' _ W (by rw [List.length_map, mBs_length]; have := HBL.out; omega) ha hb
  clear hE hb0 hP hS hm hI h1 h2 h3 h4
  go_enter Tryz.func13, Tryz.ntmps13
  go_wp2_with fail
  refine HN.out.mono ?_
  rintro e w1 ⟨v1, ss, rfl, hss, hrow, hb1⟩
  have hc1 : CellsAt w1 v1 (((mFs ps).map (·.1)).map txtV) := by
    have := CellsAt.of_row hrow
    rw [names_same HI.out.rel hss] at this
    exact this
  have HC1 := hideN hc1
  have HB1 := hideN hb1
  clear hss hrow hc1 hb1 HN
  go_wp2_with fail
  refine (HMN.out w1 HB1.out).mono ?_
  rintro e w2 ⟨v2, rfl, hc2, hb2⟩
  have HC2 := hideN (HC1.out.below hb2)
  have HD2 := hideN hc2
  have HB2 : Hid (Below w.heap.size w w2) := HB1.out.trans (hb2.mono HB1.out.size)
  clear hc2 hb2 HC1 HMN
  go_wp2_with fail
  refine (HST.out v1 v2 w2 HC2.out HD2.out).mono ?_
  rintro e w3 ⟨rfl, hb3⟩
  have HB3 : Hid (Below w.heap.size w w3) := HB2.out.trans (hb3.mono HB2.out.size)
  clear hb3 HC2 HD2 HST
  go_wp2_with fail
  refine (HR.out w3 HB3.out).mono ?_
  rintro e w4 ⟨v4, rfl, hc4, hb4⟩
  have HC4 := hideN hc4
  have HB4 : Hid (Below w.heap.size w w4) := HB3.out.trans (hb4.mono HB3.out.size)
  clear hc4 hb4 HR
  go_wp2_with fail
  refine (HMR.out w4 HB4.out).mono ?_
  rintro e w5 ⟨v5, rfl, hc5, hb5⟩
  have HC5 := hideN (HC4.out.below hb5)
  have HD5 := hideN hc5
  have HB5 : Hid (Below w.heap.size w w5) := HB4.out.trans (hb5.mono HB4.out.size)
  clear hc5 hb5 HC4 HMR
  go_wp2_with fail
  refine (HSI.out v4 v5 w5 HC5.out HD5.out).mono ?_
  rintro e w6 ⟨rfl, hb6⟩
  have HB6 : Hid (Below w.heap.size w w6) := HB5.out.trans (hb6.mono HB5.out.size)
  clear hb6 HC5 HD5 HSI
  have q0 := (HS.out.below HB6.out).blk.cell (i := 0) rfl
  obtain ⟨pf, cf, hvf, hfc⟩ := HS.out.files
  subst hvf
  have HFC := hideN hfc
  have hpl : (ps.length : Int) ≤ 30 := by have := HPL.out; omega
  clear hfc
  go_wp2_with fail
  go_loopw [5] (fun iv wr => ∃ j : Nat, j ≤ ps.length ∧ iv = .int .i64 j ∧ Hid (Below w.heap.size w wr)) (fun iv _ => ps.length - (intOf iv).toNat)
  case atStart => exact ⟨0, Nat.zero_le _, rfl, HB6.out⟩
  case round =>
    clear q0
    obtain ⟨j, hj, rfl, HB⟩ := hrel
    have q0 := (HS.out.below HB.out).blk.cell (i := 0) rfl
    by_cases hlt : j < ps.length
    · have hlt' : (j : Int) < (ps.length : Int) := by omega
      have hj0 : (0 : Int) ≤ (j : Int) := by omega
      have hmem := List.getElem_mem hlt
      obtain ⟨b, o, rfl, ⟨hb, hc⟩, a0, a1, a2, a3⟩ := HFC.out j hlt
      have hids := HS.out.ids _ hmem
      have hfm : ps[j].1 ∈ mFs ps := by unfold mFs; exact List.mem_map_of_mem hmem
      obtain ⟨⟨⟨f1, s⟩, fv⟩, hq⟩ : ∃ q, ps[j] = q := ⟨_, rfl⟩
      rw [hq] at a0 a1 a2 a3 hids hfm
      simp only at a0 a1 a2 a3 hids hfm
      have hnf : nFile st.files f1 = some s := by rw [← HI.out.rel.file]; exact nFile_of_mem HI.out.rel.fne hfm
      have hfok := HI.out.ok.files _ (nFile_some hnf)
      have h12 := isName_len hfok.2
      obtain ⟨X, hX⟩ : ∃ X : ByteArray, (⟨f1.toArray⟩ : ByteArray) = X := ⟨_, rfl⟩
      have hXd : X.data.toList = f1 := by rw [← hX]
      have hXs : X.size ≤ 50000 := by
        have : X.data.toList.length = X.size := by rw [Array.length_toList]; rfl
        rw [hXd] at this
        simp only at h12
        omega
      have HREC := hideN (nodeRecipe_any a X p F st wr hXs (fun f hf => by have h1 := pieces_len_le f.2; have h2 := (HI.out.ok.files f hf).1; unfold idsOf; rw [List.length_map]; omega) ((HEE.out _ HB.out).on (by decide)) (HP.out.below HB.out))
      rw [hXd, hnf] at HREC
      unfold RecPost at HREC
      simp only at HREC
      rw [hX] at a0
      have hidl4 : (idsOf s).length ≤ 4000 := by have h1 := pieces_len_le s; have h2 := hfok.1; simp only at h2; unfold idsOf; rw [List.length_map]; omega
      obtain ⟨PP, hPP⟩ : ∃ PP, pmore 2166136261 s = PP := ⟨_, rfl⟩
      obtain ⟨LL, hLL⟩ : ∃ LL, (s.length : Int) = LL := ⟨_, rfl⟩
      rw [hPP, hLL] at HREC
      rw [hPP] at a2
      rw [hLL] at a1
      obtain ⟨pv, cv, hfv, hfvx⟩ := id hids
      have HIDS : Hid (∀ W, Below w.heap.size w W → IdsAt W fv (idsOf s)) := fun W hb => hids.below hb
      have HIL := hideN hidl4
      have HCL : Hid (∀ W, Below w.heap.size w W → W.cell? ⟨M, 0, none⟩ = some (.slice (some ⟨b, o, none⟩) ps.length cf) ∧ W.cell? ⟨b, o + j * 4, none⟩ = some (.string X) ∧ W.cell? ⟨b, o + j * 4 + 1, none⟩ = some (.int .i64 LL) ∧ W.cell? ⟨b, o + j * 4 + 2, none⟩ = some (.int .u32 (PP : Nat)) ∧ W.cell? ⟨b, o + j * 4 + 3, none⟩ = some fv) := fun W hbw => ⟨(HS.out.below hbw).blk.cell (i := 0) rfl, (hbw.cell (p := ⟨b, o + j * 4, none⟩) hb).trans a0, (hbw.cell (p := ⟨b, o + j * 4 + 1, none⟩) hb).trans a1, (hbw.cell (p := ⟨b, o + j * 4 + 2, none⟩) hb).trans a2, (hbw.cell (p := ⟨b, o + j * 4 + 3, none⟩) hb).trans a3⟩
      clear a0 a1 a2 a3 hids hfm hnf hfok h12 hX hXd hXs hq hmem hidl4 hPP hLL hb hc q0 hfvx
      obtain ⟨idl, hidl⟩ : ∃ idl, (idsOf s).length = idl := ⟨_, rfl⟩
      have HIDL := hideN hidl
      rw [hidl] at hfv
      clear hidl
      subst hfv
      obtain ⟨z0, z1, z2, z3, z4⟩ := HCL.out wr HB.out
      go_wp2_with fail
      refine HREC.out.mono ?_
      rintro e w8 ⟨⟨v8, rfl, hi8⟩, hb8⟩
      obtain ⟨p8, c8, hv8, hi8x⟩ := id hi8
      rw [HIDL.out] at hv8
      subst hv8
      have hal := (Below.refl w8.heap.size w8).alloc (Nat.le_refl _) (.cells #[.string X, .int .i64 LL, .int .u32 (PP : Nat), .slice p8 idl c8] 40)
      have HB9 := hideN ((HB.out.trans (hb8.mono HB.out.size)).trans (hal.mono (Nat.le_trans HB.out.size hb8.size)))
      have HR9 := hideN (Blk.new w8 #[.string X, .int .i64 LL, .int .u32 (PP : Nat), .slice p8 idl c8] 40)
      have HI9 := hideN (hi8.below hal).at
      clear hi8 hi8x hb8 hal HREC z0 z1 z2 z3 z4
      go_wp2_with fail
      obtain ⟨W9, hW9⟩ : ∃ W9, w8.alloc (.cells #[.string X, .int .i64 LL, .int .u32 (PP : Nat), .slice p8 idl c8] 40) = W9 := ⟨_, rfl⟩
      obtain ⟨RB, hRB⟩ : ∃ RB, w8.heap.size = RB := ⟨_, rfl⟩
      rw [hW9] at HB9 HR9 HI9 ⊢
      rw [hRB] at HR9 ⊢
      clear hW9 hRB
      have HCQ : Hid (∀ W, Below W9.heap.size W9 W → (W.cell? ⟨M, 0, none⟩ = some (.slice (some ⟨b, o, none⟩) ps.length cf) ∧ W.cell? ⟨b, o + j * 4, none⟩ = some (.string X) ∧ W.cell? ⟨b, o + j * 4 + 1, none⟩ = some (.int .i64 LL) ∧ W.cell? ⟨b, o + j * 4 + 2, none⟩ = some (.int .u32 (PP : Nat)) ∧ W.cell? ⟨b, o + j * 4 + 3, none⟩ = some (.slice pv idl cv)) ∧ W.cell? ⟨RB, 0, none⟩ = some (.string X) ∧ W.cell? ⟨RB, 1, none⟩ = some (.int .i64 LL) ∧ W.cell? ⟨RB, 2, none⟩ = some (.int .u32 (PP : Nat)) ∧ W.cell? ⟨RB, 3, none⟩ = some (.slice p8 idl c8)) := fun W hb => by
        have h := HR9.out.next hb
        exact ⟨HCL.out W (HB9.out.trans (hb.mono HB9.out.size)), h.cell (i := 0) rfl, h.cell (i := 1) rfl, h.cell (i := 2) rfl, h.cell (i := 3) rfl⟩
      obtain ⟨⟨z0, z1, z2, z3, z4⟩, y0, y1, y2, y3⟩ := HCQ.out W9 (Below.refl _ _)
      go_region_held3 (fun W => (W.cell? ⟨M, 0, none⟩ = some (.slice (some ⟨b, o, none⟩) ps.length cf) ∧ W.cell? ⟨b, o + j * 4, none⟩ = some (.string X) ∧ W.cell? ⟨b, o + j * 4 + 1, none⟩ = some (.int .i64 LL) ∧ W.cell? ⟨b, o + j * 4 + 2, none⟩ = some (.int .u32 (PP : Nat)) ∧ W.cell? ⟨b, o + j * 4 + 3, none⟩ = some (.slice pv idl cv)) ∧ W.cell? ⟨RB, 0, none⟩ = some (.string X) ∧ W.cell? ⟨RB, 1, none⟩ = some (.int .i64 LL) ∧ W.cell? ⟨RB, 2, none⟩ = some (.int .u32 (PP : Nat)) ∧ W.cell? ⟨RB, 3, none⟩ = some (.slice p8 idl c8)) (first | exact HCQ.out _ HBX.out | go_keep) (first
        | (go_at_call 54; refine (sameRecipe_true X LL (PP : Nat) _ _ (idsOf s) _ (by rw [HIDL.out]; have := HIL.out; have := HIDL.out; omega) (HI9.out.below (Below.refl _ W9).drew) (HIDS.out _ (HB9.out.trans ((Below.refl _ W9).drew.mono HB9.out.size)))).mono ?_; rintro e w10 ⟨rfl, hb10⟩; have HBX : Hid (Below W9.heap.size W9 w10) := (Below.refl _ W9).drew.trans (hb10.mono (Nat.le_refl _)); clear hb10))
      have HBN : Hid (Below w.heap.size w w10) := HB9.out.trans (HBX.out.mono HB9.out.size)
      clear z0 z1 z2 z3 z4 y0 y1 y2 y3
      go_wp2_with fail
      go_roundw
      case rel => exact ⟨j + 1, hlt, by go_num, HBN.out⟩
      case measure => simp [intOf]; omega
    · have hge : (ps.length : Int) ≤ (j : Int) := by omega
      obtain ⟨pb, cb, hvb, hbc⟩ := HS.out.reps
      subst hvb
      have HBC := hideN hbc
      have hbl : (bs.length : Int) ≤ 100 := by have := HBL.out; omega
      clear hbc
      have q1 := (HS.out.below HB.out).blk.cell (i := 1) rfl
      go_wp2_with fail
      go_loopw [9] (fun iv wq => ∃ j : Nat, j ≤ bs.length ∧ iv = .int .i64 j ∧ Hid (Below w.heap.size w wq)) (fun iv _ => bs.length - (intOf iv).toNat)
      case atStart => exact ⟨0, Nat.zero_le _, rfl, HB.out⟩
      case round =>
        clear q1 q0 hge
        obtain ⟨i, hi, rfl, HBI⟩ := hrel
        have q1 := (HS.out.below HBI.out).blk.cell (i := 1) rfl
        by_cases hil : i < bs.length
        · have hil' : (i : Int) < (bs.length : Int) := by omega
          have hi0 : (0 : Int) ≤ (i : Int) := by omega
          have hmem := List.getElem_mem hil
          obtain ⟨b, o, rfl, ⟨hb, hc⟩, a0, a1, a2⟩ := HBC.out i hil
          have hbin := HS.out.bins _ hmem
          have hbm : bs[i].1 ∈ mBs bs := by unfold mBs; exact List.mem_map_of_mem hmem
          obtain ⟨⟨⟨⟨xp, xl⟩, bl⟩, BB, BV⟩, hq⟩ : ∃ q, bs[i] = q := ⟨_, rfl⟩
          rw [hq] at a0 a1 a2 hbin hbm
          simp only at a0 a1 a2 hbin hbm
          have hnb : nBin st.bins (xp, xl) = some bl := by rw [← HI.out.rel.bin]; exact nBin_of_mem HI.out.rel.bne hbm
          have hbo := HI.out.ok.bins _ (nBin_some hnb)
          have hwf : WfID (xp, xl) := by
            obtain ⟨f, _, e⟩ := HI.out.full.bhas _ (nBin_some hnb)
            have e' : repT f.2 = (xp, xl) := e
            rw [← e']
            exact repT_wf f.2
          have HOK := hideN hbo
          have HBIN : Hid (Calls Tryz.prog 16 #[.pointer (some p), idV (xp : Nat) xl] wr fun e w' => ∃ p' F', e = .returned (.pointer (some p')) ∧ PBin0 w' p' F' bl ∧ Below wr.heap.size wr w') := by
            have h := nodeBin_any (xp, xl) p F st wr hwf (HP.out.below HBI.out)
            rw [hnb] at h
            exact h.mono fun e w' ⟨⟨p', F', h1, h2, _⟩, h4⟩ => ⟨p', F', h1, h2, h4⟩
          obtain ⟨pL, cL, hBV, hhx⟩ := hbin.at
          subst hBV
          have HDB : Hid (∀ W, Below w.heap.size w W → HeldsAt W (.slice pL bl.length cL) bl) := fun W hb => hbin.at.below hb
          have HCL : Hid (∀ W, Below w.heap.size w W → W.cell? ⟨M, 1, none⟩ = some (.slice (some ⟨b, o, none⟩) bs.length cb) ∧ W.cell? ⟨b, o + i * 3, none⟩ = some (.int .u32 (xp : Nat)) ∧ W.cell? ⟨b, o + i * 3 + 1, none⟩ = some (.int .i64 xl) ∧ W.cell? ⟨b, o + i * 3 + 2, none⟩ = some (.pointer (some ⟨BB, 0, none⟩)) ∧ W.cell? ⟨BB, 0, none⟩ = some (.slice pL bl.length cL)) := fun W hbw => ⟨(HS.out.below hbw).blk.cell (i := 1) rfl, (hbw.cell (p := ⟨b, o + i * 3, none⟩) hb).trans a0, (hbw.cell (p := ⟨b, o + i * 3 + 1, none⟩) hb).trans a1, (hbw.cell (p := ⟨b, o + i * 3 + 2, none⟩) hb).trans a2, (hbin.below hbw).blk.cell (i := 0) rfl⟩
          obtain ⟨z0, z1, z2, z3, z4⟩ := HCL.out wr HBI.out
          clear a0 a1 a2 hbin hbm hnb hbo hwf hq hmem hb hc q1 hhx
          go_wp2_with fail
          refine HBIN.out.mono ?_
          rintro e w8 ⟨p8, F8, rfl, hp8, hb8⟩
          have HB8 : Hid (Below w.heap.size w w8) := HBI.out.trans (hb8.mono HBI.out.size)
          have HP8 := hideN hp8
          clear hp8 hb8 HBIN z0 z1 z2 z3 z4
          obtain ⟨z0, z1, z2, z3, z4⟩ := HCL.out w8 HB8.out
          go_wp2_with fail
          go_region_held3 (fun W => W.cell? ⟨M, 1, none⟩ = some (.slice (some ⟨b, o, none⟩) bs.length cb) ∧ W.cell? ⟨b, o + i * 3, none⟩ = some (.int .u32 (xp : Nat)) ∧ W.cell? ⟨b, o + i * 3 + 1, none⟩ = some (.int .i64 xl) ∧ W.cell? ⟨b, o + i * 3 + 2, none⟩ = some (.pointer (some ⟨BB, 0, none⟩)) ∧ W.cell? ⟨BB, 0, none⟩ = some (.slice pL bl.length cL)) (first | exact HCL.out _ HBY.out | exact HCL.out _ HB9.out | go_keep) (first
            | (go_at_call 33; refine (pAll_own p8 F8 bl _ HOK.out (HP8.out.off (Off.of_below (F := fun _ => False) (Below.refl _ w8).drew) (fun _ _ h => h))).mono ?_; rintro e w9 ⟨v9, rfl, hh9, hb9⟩; have HB9 : Hid (Below w.heap.size w w9) := HB8.out.trans (((Below.refl _ w8).drew.trans (hb9.mono (Nat.le_refl _))).mono HB8.out.size); have HH9 := hideN hh9.1; clear hb9 hh9)
            | (go_at_call 55; refine (sameHelds_true v9 _ bl w9 (by have := HOK.out.many; omega) HH9.out (HDB.out w9 HB9.out)).mono ?_; rintro e w10 ⟨rfl, hb10⟩; have HBY : Hid (Below w.heap.size w w10) := HB9.out.trans (hb10.mono HB9.out.size); clear hb10))
          clear z0 z1 z2 z3 z4
          go_wp2_with fail
          go_roundw
          case rel => exact ⟨i + 1, hil, by go_num, HBY.out⟩
          case measure => simp [intOf]; omega
        · have hge2 : (bs.length : Int) ≤ (i : Int) := by omega
          go_wp2_with fail
          go_ret
          exact ⟨rfl, HBI.out⟩
end Go.Proofs.YtjdobbjdlighpabGreatDoor
namespace Go.Proofs.YtjdobbjdlighpabGreatDoor
open Go.RowKit Go.Maps

set_option maxRecDepth 100000 in
set_option maxHeartbeats 4000000 in
theorem cloneFiles_any (b : Nat) (l : List (List UInt8 × Rw)) (w : World) (h : strRcps.Of w b l) :
    Calls Tryz.prog 56 #[.map (some b)] w fun e w' => e = .returned (.map (some w.heap.size)) ∧ strRcps.Of w' w.heap.size l ∧ Below w.heap.size w w' := by
  obtain ⟨es, clock, hb⟩ := h.isMap
  have hq := fun w => run_eql_map_nil_sl (P := Tryz.prog) w 99 _ _ (some b) Tryz.underlying99
  go_enter Tryz.func56, Tryz.ntmps56
  go_wp2_with fail
  rw [run_callFunc_extern Tryz.func119 (by kernel_rfl) (by kernel_rfl) (by kernel_rfl) (e := Extern.MapsClone.clone) (by kernel_rfl), run_maps_clone_sl w 99 hb]
  simp only [Result.andThen]
  rw [Oper.upon_value]
  go_wp2_with fail
  rw [run_typeAssert_map_sl _ 99 20 _ _ _ Tryz.underlying99]
  simp only [Result.andThen]
  rw [Oper.upon_value]
  go_wp2_with fail
  go_ret
  exact ⟨rfl, h.moved ((World.alloc_heap_new w _).trans hb.symm), (Below.refl _ w).alloc (Nat.le_refl _) _⟩

/- The copies that are there already: those of l, from block lo on. -/
structure CpBins (w : World) (lo m : Nat) (pj : Nat × Int → Addr) (Fj : Nat × Int → Nat → Prop) (l : List NBin) : Prop where
  of : idBins.Of w m (l.map fun b => (b.1, some (pj b.1)))
  bin : ∀ b ∈ l, PBin0 w (pj b.1) (Fj b.1) b.2
  ge : ∀ b ∈ l, ∀ k, Fj b.1 k → lo ≤ k
  two : ∀ b ∈ l, ∀ c ∈ l, b.1 ≠ c.1 → ∀ k, Fj b.1 k → ¬ Fj c.1 k
theorem CpBins.made {w : World} {lo m : Nat} (h : idBins.Of w m []) : CpBins w lo m (fun _ => ⟨0, 0, none⟩) (fun _ _ => False) [] := ⟨h, fun b hb => by simp at hb, fun b hb => by simp at hb, fun b hb => by simp at hb⟩
theorem CpBins.perm {w : World} {lo m : Nat} {pj : Nat × Int → Addr} {Fj : Nat × Int → Nat → Prop} {l l' : List NBin} (h : CpBins w lo m pj Fj l) (hp : l.Perm l') : CpBins w lo m pj Fj l' :=
  ⟨h.of.perm (hp.map _), fun b hb => h.bin b (hp.mem_iff.2 hb), fun b hb => h.ge b (hp.mem_iff.2 hb), fun b hb c hc => h.two b (hp.mem_iff.2 hb) c (hp.mem_iff.2 hc)⟩
theorem CpBins.off {w w' : World} {lo m : Nat} {pj : Nat × Int → Addr} {Fj : Nat × Int → Nat → Prop} {l : List NBin} {G : Nat → Prop} (h : CpBins w lo m pj Fj l) (ho : Off G w w') (hm : ¬ G m) (hG : ∀ b ∈ l, ∀ k, Fj b.1 k → ¬ G k) : CpBins w' lo m pj Fj l :=
  ⟨h.of.moved (ho.block m h.of.lt hm), fun b hb => (h.bin b hb).off ho (hG b hb), h.ge, h.two⟩
theorem CpBins.below {w w' : World} {lo m : Nat} {pj : Nat × Int → Addr} {Fj : Nat × Int → Nat → Prop} {l : List NBin} (h : CpBins w lo m pj Fj l) (hb : Below w.heap.size w w') : CpBins w' lo m pj Fj l := h.off (Off.of_below (F := fun _ => False) hb) (fun h => h) (fun _ _ _ _ h => h)
theorem CpBins.add {w w1 w2 : World} {lo m : Nat} {pj : Nat × Int → Addr} {Fj : Nat × Int → Nat → Prop} {l : List NBin} {q : Addr} {F8 : Nat → Prop} {bl : List Hd} {x : Nat × Int} (h : CpBins w lo m pj Fj l) (hb : Below w.heap.size w w1) (hq : PBin0 w1 q F8 bl) (hF8 : ∀ k, F8 k → w.heap.size ≤ k) (hlo : lo ≤ w.heap.size)
    (hnew : ∀ b ∈ l, b.1 ≠ x) (hml : m < lo) (ho : Off (fun k => k = m) w1 w2) (hof : idBins.Of w2 m ((x, some q) :: l.map fun b => (b.1, some (pj b.1)))) :
    CpBins w2 lo m (fun y => if y = x then q else pj y) (fun y => if y = x then F8 else Fj y) ((x, bl) :: l) := by
  have h1 := h.below hb
  refine ⟨?_, ?_, ?_, ?_⟩
  · rw [List.map_cons]
    simp only [if_true]
    rw [List.map_congr_left (g := fun b => (b.1, some (pj b.1))) (fun b hb => by rw [if_neg (hnew b hb)])]
    exact hof
  · intro b hb
    rcases List.mem_cons.1 hb with rfl | hb
    · simp only [if_true]
      exact hq.off ho (fun k hk e => by have := hF8 k hk; omega)
    · simp only [if_neg (hnew b hb)]
      exact (h1.bin b hb).off ho (fun k hk e => by have := h1.ge b hb k hk; omega)
  · intro b hb k hk
    rcases List.mem_cons.1 hb with rfl | hb
    · simp only [if_true] at hk
      have := hF8 k hk
      omega
    · simp only [if_neg (hnew b hb)] at hk
      exact h.ge b hb k hk
  · intro b hb c hc hne k
    rcases List.mem_cons.1 hb with rfl | hb
    · rcases List.mem_cons.1 hc with rfl | hc
      · exact absurd rfl hne
      · simp only [if_true, if_neg (hnew c hc)]
        exact fun hF hG => by have h1 := hF8 k hF; have h2 := (h.bin c hc).lt k hG; omega
    · rcases List.mem_cons.1 hc with rfl | hc
      · simp only [if_true, if_neg (hnew b hb)]
        exact fun hG hF => by have h1 := hF8 k hF; have h2 := (h.bin b hb).lt k hG; omega
      · simp only [if_neg (hnew b hb), if_neg (hnew c hc)]
        exact h.two b hb c hc hne k
theorem CpBins.node {w w' : World} {N mf mb C mf2 mb2 lo : Nat} {vi : List UInt8 → Value} {pi pj : Nat × Int → Addr} {Fi Fj : Nat × Int → Nat → Prop} {st : NSt} (h : NAt w N mf mb vi pi Fi st) (hb : Below w.heap.size w w') (hc : CpBins w' lo mb2 pj Fj st.bins) (hB : Blk w' C #[.map (some mf2), .map (some mb2)] 102)
    (hf : strRcps.Of w' mf2 (st.files.map fun f => (f.1, rwOf f (vi f.1)))) (hne : C ≠ mf2 ∧ C ≠ mb2 ∧ mf2 ≠ mb2) (hge : w.heap.size ≤ C ∧ w.heap.size ≤ mf2 ∧ w.heap.size ≤ mb2) (hlo : C < lo ∧ mf2 < lo ∧ mb2 < lo) : NAt w' C mf2 mb2 vi pj Fj st :=
  ⟨hB, hf, hc.of, fun f hf => (h.ids f hf).below hb, fun f hf hi k hk => by
    obtain ⟨h1, _⟩ := h.rows f hf hi k hk
    exact ⟨Nat.lt_of_lt_of_le h1 hb.size, by omega, by omega, by omega, fun b hb hF => by have := hc.ge b hb k hF; omega⟩, hc.bin, hne, fun b hb => ⟨fun hF => by have := hc.ge b hb _ hF; omega, fun hF => by have := hc.ge b hb _ hF; omega, fun hF => by have := hc.ge b hb _ hF; omega⟩, hc.two⟩
set_option maxRecDepth 100000 in
set_option maxHeartbeats 8000000 in
theorem nodeCopy_any (p : Addr) (F : Nat → Prop) (st : NSt) (w : World) (hn : st.bins.length ≤ 1000) (hwf : ∀ b ∈ st.bins, WfID b.1) (hP : PNode w p F st) :
    Calls Tryz.prog 14 #[.pointer (some p)] w fun e w' => ∃ p' F', e = .returned (.pointer (some p')) ∧ PNode w' p' F' st ∧ Below w.heap.size w w' := by
  obtain ⟨N, mf, mb, vi, pi, Fi, rfl, h, _⟩ := hP
  have q0 := h.blk.cell (i := 0) rfl
  have HH := hideN h
  have HWF := hideN hwf
  have HCL := hideN (cloneFiles_any mf _ w h.files)
  have hmm := @run_makeMap Tryz.prog
  have hap : st.bins.Pairwise (fun p q => p.1 ≠ q.1) := by
    have := h.bins.apart
    rw [List.pairwise_map] at this
    exact this
  have HAP := hideN hap
  clear h hwf hap
  go_enter Tryz.func14, Tryz.ntmps14
  go_wp2_with fail
  refine HCL.out.mono ?_
  rintro e w1 ⟨rfl, hf1, hb1⟩
  have hb2 := (Below.refl w1.heap.size w1).alloc (Nat.le_refl _) (.map #[] 0)
  have hM2 := MapKit.Of.made idBins w1
  have hb3 := (Below.refl _ (w1.alloc (.map #[] 0))).alloc (Nat.le_refl _) (.cells #[.map (some w.heap.size), .map (some w1.heap.size)] 102)
  have hB3 := Blk.new (w1.alloc (.map #[] 0)) #[.map (some w.heap.size), .map (some w1.heap.size)] 102
  have hs2 : (w1.alloc (.map #[] 0)).heap.size = w1.heap.size + 1 := by simp
  rw [hs2] at hB3
  have HF3 := hideN (ofS_below (ofS_below hf1 hb2) hb3)
  have HM3 := hideN (ofB_below hM2 hb3)
  have HB3 : Hid (Below w.heap.size w _) := hideN ((hb1.trans (hb2.mono hb1.size)).trans (hb3.mono (by rw [hs2]; have := hb1.size; omega)))
  have HC3 := hideN hB3
  have HL1 : Hid (w.heap.size < w1.heap.size) := hf1.lt
  have q1 := (HH.out.below HB3.out).blk.cell (i := 1) rfl
  clear hf1 hb1 hb2 hM2 hb3 hB3 hs2 q0
  have HS3 : Hid (((w1.alloc (.map #[] 0)).alloc (.cells #[.map (some w.heap.size), .map (some w1.heap.size)] 102)).heap.size = w1.heap.size + 2) := by show _ = _; simp
  obtain ⟨W3, hW3⟩ : ∃ W3, (w1.alloc (.map #[] 0)).alloc (.cells #[.map (some w.heap.size), .map (some w1.heap.size)] 102) = W3 := ⟨_, rfl⟩
  have HW3 := hideN hW3
  rw [hW3] at HF3 HM3 HB3 HC3 HS3
  obtain ⟨L, hL⟩ : ∃ L, (st.bins.map fun b => (b.1, some (pi b.1))) = L := ⟨_, rfl⟩
  have HL : Hid ((st.bins.map fun b => (b.1, some (pi b.1))) = L) := hL
  have hM : idBins.Of ((w1.alloc (.map #[] 0)).alloc (.cells #[.map (some w.heap.size), .map (some w1.heap.size)] 102)) mb L := by rw [hW3, ← hL]; exact (HH.out.below HB3.out).bins
  clear hW3 hL
  go_wp2_with (first
    | (at_range; refine wp_range_kit idBins _ rfl _ 100 rfl 47 Tryz.underlying100 mb L rfl hM ?_; intro w0 hr0 hg0 hs0)
    | go_in)
  rw [HW3.out] at hr0 hg0 hs0 ⊢
  clear hM q1
  go_frame
  go_loopw [5] (fun _ wr => ∃ (left : Nat × Int → Bool) (cnt : Nat) (pj : Nat × Int → Addr) (Fj : Nat × Int → Nat → Prop), idBins.Rng wr mb W3.heap.size L left cnt ∧ Hid (CpBins wr (W3.heap.size + 1) w1.heap.size pj Fj (st.bins.filter (fun b => !left b.1))) ∧ Hid (strRcps.Of wr w.heap.size (st.files.map fun f => (f.1, rwOf f (vi f.1)))) ∧ Hid (Blk wr (w1.heap.size + 1) #[.map (some w.heap.size), .map (some w1.heap.size)] 102) ∧ Hid (Below w.heap.size w wr)) (fun _ wr => wr.rangeLeft mb W3.heap.size)
  case atStart =>
    have hb0 := below_of_grown hg0
    refine ⟨_, _, fun _ => ⟨0, 0, none⟩, fun _ _ => False, hr0, ?_, ofS_below HF3.out hb0, HC3.out.next hb0, HB3.out.trans (hb0.mono HB3.out.size)⟩
    show CpBins _ _ _ _ _ _
    rw [List.filter_eq_nil_iff.2 (fun b hm => by
      have : b.1 ∈ L.map (·.1) := List.mem_map.2 ⟨(b.1, some (pi b.1)), by rw [← HL.out]; exact List.mem_map.2 ⟨b, hm, rfl⟩, rfl⟩
      simp only [Bool.not_eq_true', Bool.not_eq_false, decide_eq_true_eq]
      exact this)]
    exact CpBins.made (ofB_below HM3.out hb0)
  case round =>
    obtain ⟨left, cnt, pj, Fj, hrg, HC, HF, HB, HW⟩ := hrel
    go_wp2_with (first
      | (at_next; refine wp_next_kit idBins _ rfl _ rfl mb W3.heap.size L left cnt rfl hrg ?_ ?_)
      | go_in)
    · intro h0
      have hfa : st.bins.filter (fun b => !left b.1) = st.bins := List.filter_eq_self.2 (fun b hm => by
        have := h0 b.1.1 b.1.2 (some (pi b.1)) (by rw [← HL.out]; exact List.mem_map.2 ⟨b, hm, rfl⟩)
        simp [this])
      rw [hfa] at HC
      clear h0 hfa
      go_wp2_with fail
      go_ret
      have h1 := HL1.out
      have h3 := HS3.out
      exact ⟨⟨w1.heap.size + 1, 0, none⟩, _, rfl, ⟨_, _, _, _, _, _, rfl, CpBins.node HH.out HW.out HC.out HB.out HF.out ⟨by omega, by omega, by omega⟩ ⟨by omega, by omega, by omega⟩ ⟨by omega, by omega, by omega⟩, rfl⟩, HW.out⟩
    · intro xp xl c w2 cnt2 hm hlx hrg2 hlt hg2 hs2 hen
      rw [← HL.out] at hm
      obtain ⟨⟨y, bl⟩, hyb, hye⟩ := List.mem_map.1 hm
      obtain ⟨hy, rfl⟩ : y = (xp, xl) ∧ some (pi y) = c := by simpa using hye
      subst hy
      change (Instr.entry (.pointer (some ⟨W3.heap.size, 0, none⟩))).run Tryz.prog w2 = .ok (.tuple #[idV (xp : Nat) xl, .pointer (some (pi (xp, xl)))]) w2 at hen
      have hfl := filter_flip HAP.out (p := left) hyb hlx
      have HFL := hideN hfl
      have HNL : Hid (∀ b ∈ st.bins.filter (fun b => !left b.1), b.1 ≠ (xp, xl)) := fun b hb e => by
        obtain ⟨_, h2⟩ := List.mem_filter.1 hb
        rw [e, hlx] at h2
        cases h2
      have ho2 : Off (fun k => k = W3.heap.size) wr w2 := off_of_grown hg2 rfl
      have h3 := HS3.out
      have h1 := HL1.out
      have HC2 := hideN (HC.out.off ho2 (fun e => by omega) (fun b hb k hk e => by have := HC.out.ge b hb k hk; omega))
      have HF2 : Hid (strRcps.Of w2 w.heap.size (st.files.map fun f => (f.1, rwOf f (vi f.1)))) := HF.out.moved (ho2.block _ HF.out.lt (fun e => by omega))
      have HB2 := hideN (ho2.blk HB.out (fun e => by omega))
      have HW2 : Hid (Below w.heap.size w w2) := HW.out.trans (ho2.below HW.out.size (fun k hk e => by omega))
      have HQ := hideN ((HH.out.below HW2.out).bin _ hyb)
      have HWX := hideN (HWF.out _ hyb)
      have hln := hrg2.lt
      simp only at HQ HWX
      obtain ⟨q, hq⟩ : ∃ q, pi (xp, xl) = q := ⟨_, rfl⟩
      rw [hq] at HQ hen
      have hal := (Below.refl w2.heap.size w2).alloc (Nat.le_refl _) (.cells #[.int .u32 (xp : Nat), .int .i64 xl] 25)
      have HX3 := hideN (Blk.new w2 #[.int .u32 (xp : Nat), .int .i64 xl] 25)
      have HC3' := hideN (HC2.out.below hal)
      have HF3' := hideN (ofS_below HF2.out hal)
      have HB3' := hideN (HB2.out.next hal)
      have HW3' : Hid (Below w.heap.size w _) := hideN (HW2.out.trans (hal.mono HW2.out.size))
      have HQ3 := hideN (HQ.out.off (Off.of_below (F := fun _ => False) hal) (fun _ _ h => h))
      have HRG3 := hideN (hrg2.kept (grown_of_below hal) (by simp) (by simp))
      have HLN : Hid (W3.heap.size < w2.heap.size) := hln
      clear hal HC2 HF2 HB2 HW2 HQ hrg2 hln ho2 hm hye hq hfl hr0 hg0 hs0 h3 h1 hs2
      go_wp2_with fail
      obtain ⟨W4, hW4⟩ : ∃ W4, w2.alloc (.cells #[.int .u32 (xp : Nat), .int .i64 xl] 25) = W4 := ⟨_, rfl⟩
      have HS4 : Hid (w2.heap.size < W4.heap.size) := by show _ < _; rw [← hW4]; simp
      rw [hW4] at HX3 HC3' HF3' HB3' HW3' HQ3 HRG3 ⊢
      obtain ⟨XB, hXB⟩ : ∃ XB, w2.heap.size = XB := ⟨_, rfl⟩
      rw [hXB] at HX3 HS4 HLN ⊢
      clear hW4 hXB
      have HCE : Hid (∀ W', Below W4.heap.size W4 W' → W'.cell? ⟨w1.heap.size + 1, 1, none⟩ = some (.map (some w1.heap.size)) ∧ W'.cell? ⟨XB, 0, none⟩ = some (.int .u32 (xp : Nat)) ∧ W'.cell? ⟨XB, 1, none⟩ = some (.int .i64 xl)) := fun W' hb => ⟨(HB3'.out.next hb).cell (i := 1) rfl, (HX3.out.next hb).cell (i := 0) rfl, (HX3.out.next hb).cell (i := 1) rfl⟩
      obtain ⟨d0, d1, d2⟩ := HCE.out _ (Below.refl _ _)
      go_region_held3 (fun w' => w'.cell? ⟨w1.heap.size + 1, 1, none⟩ = some (.map (some w1.heap.size)) ∧ w'.cell? ⟨XB, 0, none⟩ = some (.int .u32 (xp : Nat)) ∧ w'.cell? ⟨XB, 1, none⟩ = some (.int .i64 xl)) (first | exact HC6.out | exact HCE.out _ HBX.out | exact HCE.out _ (Below.refl _ _).drew | go_keep) (first
        | (go_at_call 57; refine (pCopy_any q (Fi (xp, xl)) bl _ (HQ3.out.off (Off.of_below (F := fun _ => False) (Below.refl _ W4).drew) (fun _ _ h => h))).mono ?_; rintro e w5 ⟨p5, F5, rfl, hp5, hf5, hb5⟩; have HBX : Hid (Below W4.heap.size W4 w5) := (Below.refl _ W4).drew.trans hb5; have HP5 := hideN hp5; have HF5 := hideN hf5; obtain ⟨w6, hst, hOf6, hg6⟩ := (HC3'.out.below HBX.out).of.store Tryz.underlying100 HWX.out (some p5) (by rw [List.length_map]; have := List.length_filter_le (fun b : NBin => !left b.1) st.bins; unfold maxLen; omega); change (Instr.mapUpdate 100 (.map (some w1.heap.size)) (idV (xp : Nat) xl) (.pointer (some p5))).run Tryz.prog _ = _ at hst; have HOF6 := hideN hOf6; have HG6 := hideN hg6; have ho6a : Off (fun k => k = w1.heap.size) w5 w6 := off_of_grown hg6 rfl; have HC6 : Hid (w6.cell? ⟨w1.heap.size + 1, 1, none⟩ = some (.map (some w1.heap.size)) ∧ w6.cell? ⟨XB, 0, none⟩ = some (.int .u32 (xp : Nat)) ∧ w6.cell? ⟨XB, 1, none⟩ = some (.int .i64 xl)) := (by have h1 := HL1.out; have h3 := HS3.out; have h4 := HLN.out; exact ⟨(ho6a.blk (HB3'.out.next HBX.out) (fun e => by omega)).cell (i := 1) rfl, (ho6a.blk (HX3.out.next HBX.out) (fun e => by omega)).cell (i := 0) rfl, (ho6a.blk (HX3.out.next HBX.out) (fun e => by omega)).cell (i := 1) rfl⟩); clear hp5 hf5 hb5 hOf6 hg6 ho6a))
      have ho6 : Off (fun k => k = w1.heap.size) w5 w6 := off_of_grown HG6.out rfl
      have h1 := HL1.out
      have h3 := HS3.out
      have h4 := HLN.out
      have h5 := HS4.out
      have hadd := HC3'.out.add (x := (xp, xl)) HBX.out HP5.out (fun k hk => HF5.out k hk) (by omega) HNL.out (by omega) ho6 (HOF6.out _ (by
        rw [List.filter_eq_self.2 (fun y hy => by
          obtain ⟨b, hb, rfl⟩ := List.mem_map.1 hy
          simpa using HNL.out b hb)]))
      have hadd2 := hadd.perm HFL.out.symm
      have HC7 := hideN hadd2
      have HF7 : Hid (strRcps.Of w6 w.heap.size (st.files.map fun f => (f.1, rwOf f (vi f.1)))) := (ofS_below HF3'.out HBX.out).moved (ho6.block _ (Nat.lt_of_lt_of_le HF3'.out.lt HBX.out.size) (fun e => by omega))
      have HB7 := hideN (ho6.blk (HB3'.out.next HBX.out) (fun e => by omega))
      have HW7 : Hid (Below w.heap.size w w6) := (HW3'.out.trans (HBX.out.mono HW3'.out.size)).trans (ho6.below (Nat.le_trans HW3'.out.size HBX.out.size) (fun k hk e => by omega))
      have hrg7 : idBins.Rng w6 mb W3.heap.size L (fun y => left y && !decide (y = (xp, xl))) cnt2 := rng_off (HRG3.out.kept (grown_of_below HBX.out) (by simp) (by simp)) ho6 (fun e => by have := HH.out.bins.lt; omega) (fun e => by omega)
      clear hadd hadd2 ho6 h1 h3 h4 h5 hst d0 d1 d2
      go_wp2_with fail
      go_roundw
      case rel => exact ⟨_, cnt2, _, _, hrg7, HC7.out, HF7.out, HB7.out, HW7.out⟩
      case measure => rw [hrg7.left_eq, hrg.left_eq]; exact hlt
end Go.Proofs.YtjdobbjdlighpabGreatDoor
