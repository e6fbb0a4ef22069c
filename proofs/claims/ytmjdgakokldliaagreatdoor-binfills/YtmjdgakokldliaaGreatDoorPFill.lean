/-
  Own text. (*bin.Bin).Fill by a contract, at any pieces.
-/
import Derived.Test.YtmjdgakokldliaaGreatDoorPPut
import Derived.Test.YtmjdgakokldliaaGreatDoorPChkAll
import Derived.Test.YtmjdgakokldliaaGreatDoorBinFill
namespace Go.Proofs.YtmjdgakokldliaaGreatDoor
open Go.RowKit Go.Maps

theorem hideF {q : Prop} (h : q) : Hid q := h
def FillPost (a : Nat → Addr) (w : World) (p : Addr) (F : Nat → Prop) (old l : List Hd) (e : Ending) (w' : World) : Prop :=
  ∃ ev, e = .returned ev ∧ ErrIn w.heap.size w' a ev (fillF l) ∧ ((fillF l).1 = 0 → ∃ F', PBin0 w' p F' l) ∧ ((fillF l).1 ≠ 0 → PBin0 w' p F old) ∧ Off F w w'
theorem fillE_ok {l : List Hd} {k : Nat} (hk : k < l.length) (h : ¬ 0 < fillE l k) : (1 ≤ l[k].2.2.length ∧ l[k].2.2.length ≤ 64 ∧ 0 ≤ l[k].2.1) ∧ markE l k = 0 := by
  have e : fillE l k = if l[k].2.2.length < 1 ∨ 64 < l[k].2.2.length ∨ l[k].2.1 < 0 then 2 else markE l k := by unfold fillE; rw [List.getElem?_eq_getElem hk]
  by_cases ho : l[k].2.2.length < 1 ∨ 64 < l[k].2.2.length ∨ l[k].2.1 < 0
  · rw [e, if_pos ho] at h
    exact absurd (by decide) h
  · rw [e, if_neg ho] at h
    refine ⟨by omega, ?_⟩
    rcases markE_cases l k with hm | hm | hm
    · exact hm
    · rw [hm] at h; exact absurd (by decide) h
    · rw [hm] at h; exact absurd (by decide) h
theorem markE_ok {l : List Hd} {k : Nat} (hk : k < l.length) (h : markE l k = 0) : l[k].1 = idOfL l[k].2.2 ∧ ∀ h0 : 0 < k, lessB (l[k - 1]'(by omega)).1 l[k].1 = true := by
  unfold markE at h
  rw [List.getElem?_eq_getElem hk] at h
  simp only at h
  split at h
  · cases h
  · rename_i hid
    refine ⟨(Decidable.not_not.1 hid).symm, fun h0 => ?_⟩
    rw [if_neg (by omega), List.getElem?_eq_getElem (show k - 1 < l.length by omega)] at h
    simp only at h
    split at h
    · assumption
    · cases h
theorem fill_rise (l : List Hd) : ∀ n, n ≤ l.length → (∀ j, j < n → ¬ 0 < fillE l j) → Rise (l.take n)
  | 0, _, _ => by rw [List.take_zero]; exact List.Pairwise.nil
  | n + 1, hn, h => by
    have ih := fill_rise l n (by omega) (fun j hj => h j (by omega))
    have hk : n < l.length := by omega
    obtain ⟨_, hm⟩ := fillE_ok hk (h n (by omega))
    obtain ⟨_, hl⟩ := markE_ok hk hm
    unfold Rise at ih ⊢
    rw [List.take_succ_eq_append_getElem hk, List.pairwise_append]
    refine ⟨ih, List.pairwise_singleton _ _, fun x hx y hy => ?_⟩
    rw [List.mem_singleton.1 hy]
    cases n with
    | zero => simp at hx
    | succ m =>
      have hlm : lessB l[m].1 l[m + 1].1 = true := hl (by omega)
      rw [List.take_succ_eq_append_getElem (show m < l.length by omega), List.pairwise_append] at ih
      rw [List.take_succ_eq_append_getElem (show m < l.length by omega)] at hx
      rcases List.mem_append.1 hx with hx | hx
      · exact lessB_trans (ih.2.2 x hx l[m] (List.mem_singleton.2 rfl)) hlm
      · rw [List.mem_singleton.1 hx]; exact hlm
theorem fill_ok {l : List Hd} (hl : l.length ≤ 250) (hu : ∀ h ∈ l, h.2.1 ≤ 9223372036854775807) (h : ∀ j, j < l.length → ¬ 0 < fillE l j) : BinOk 9223372036854775807 l where
  many := hl
  each x hx := by
    obtain ⟨i, hi, rfl⟩ := List.getElem_of_mem hx
    obtain ⟨⟨h1, h2, h3⟩, hm⟩ := fillE_ok hi (h i hi)
    exact ⟨(markE_ok hi hm).1, ⟨h1, h2⟩, h3, hu _ hx⟩
  rise := by
    have := fill_rise l l.length (Nat.le_refl _) h
    rwa [List.take_length] at this
theorem fill_perm {l : List Hd} {k : Nat} (hk : k < l.length) (h : ∀ j, j < k + 1 → ¬ 0 < fillE l j) : ((l[k].1, l[k].2) :: (l.take k).filter (fun h => !decide (h.1 = l[k].1))).Perm (l.take (k + 1)) := by
  have hr := fill_rise l (k + 1) (by omega) h
  unfold Rise at hr
  rw [List.take_succ_eq_append_getElem hk, List.pairwise_append] at hr
  have e : (l.take k).filter (fun h => !decide (h.1 = l[k].1)) = l.take k := List.filter_eq_self.2 (fun x hx => by
    have := lessB_ne (hr.2.2 x hx l[k] (List.mem_singleton.2 rfl))
    simp [this])
  rw [e, List.take_succ_eq_append_getElem hk]
  exact (List.perm_append_singleton _ _).symm
set_option maxRecDepth 100000 in
set_option maxHeartbeats 4000000 in
theorem pFill_any (a : Nat → Addr) (v : Value) (l : List Hd) (p : Addr) (F : Nat → Prop) (old : List Hd) (w : World) (hE : ErrG w a) (hP : PBin0 w p F old) (hv : HeldsAt w v l) (hlen : l.length ≤ 50000) (ht : ∀ h ∈ l, h.2.2.length ≤ 50000) (hwf : ∀ h ∈ l, WfID h.1) :
    Calls Tryz.prog 41 #[.pointer (some p), v] w (FillPost a w p F old l) := by
  have HV : Hid (HeldsAt w v l) := hv
  have HP : Hid (PBin0 w p F old) := hP
  obtain ⟨pa, ca, rfl, _⟩ := hv
  have HT : Hid (∀ h ∈ l, h.2.2.length ≤ 50000) := ht
  have HWF : Hid (∀ h ∈ l, WfID h.1) := hwf
  have HG : Hid (∀ W, Below w.heap.size w W → ErrG W a) := fun W hb => hE.below hb (Nat.le_refl _)
  have hlen' : (l.length : Int) ≤ 50000 := by omega
  clear ht hwf
  by_cases hbig : 250 < l.length
  · have hb2 : (250 : Int) < (l.length : Int) := by omega
    have HR : Hid (fillF l = (7, -1)) := by show _ = _; unfold fillF; rw [if_pos hbig]
    have g6 : w.cell? ⟨4, 0, none⟩ = some (sentV a 6) := hE.glob 6 rfl
    clear hP hE
    go_enter Tryz.func41, Tryz.ntmps41
    go_wp2_with fail
    go_ret
    exact ⟨_, rfl, by rw [HR.out]; exact .inr (.inl ⟨6, by decide, rfl, rfl⟩), (fun e => by rw [HR.out] at e; cases e), fun _ => HP.out, Off.of_below (Below.refl _ _)⟩
  have hb2 : ¬ (250 : Int) < (l.length : Int) := by omega
  have HF : Hid (fillF l = fillFrom l 0 l.length) := by show _ = _; unfold fillF; rw [if_neg hbig]
  have hl2 : l.length ≤ 250 := by omega
  clear hbig hP hE
  have hmm := @run_makeMap Tryz.prog
  have hb1 := (Below.refl w.heap.size w).alloc (Nat.le_refl _) (.map #[] 0)
  have hM := MapKit.Of.made idPieces w
  go_enter Tryz.func41, Tryz.ntmps41
  go_wp2_with fail
  go_loopw [16] (fun iv wr => ∃ k : Nat, k ≤ l.length ∧ iv = .int .i64 k ∧ Hid (∀ j, j < k → ¬ 0 < fillE l j) ∧ Hid (idPieces.Of wr w.heap.size (l.take k)) ∧ Hid (Below w.heap.size w wr)) (fun iv _ => l.length - (intOf iv).toNat)
  case atStart => exact ⟨0, Nat.zero_le _, rfl, fun j hj => by omega, by rw [List.take_zero]; exact hM, hb1⟩
  case round =>
    clear hmm hb1 hM
    obtain ⟨k, hk, rfl, HNO, HOF, HB⟩ := hrel
    by_cases hlt : k < l.length
    · have hlt' : (k : Int) < (l.length : Int) := by omega
      have hk0 : (0 : Int) ≤ (k : Int) := by omega
      obtain ⟨_, _, hve, hcell⟩ := HV.out.below HB.out
      obtain ⟨rfl, rfl⟩ : pa = _ ∧ ca = _ := by simpa using hve
      obtain ⟨b, o, rfl, hbl, c0, c1, c2, c3⟩ := hcell k hlt
      have HHIT : Hid (0 < fillE l k → fillF l = (fillE l k, (k : Int))) := fun h => by
        have := fillFrom_at l l.length 0 k hlt (fun j _ hj => HNO.out j (by omega)) (by rw [Nat.zero_add]; exact h)
        rw [HF.out, this, Nat.zero_add]
      have HMISS : Hid (¬ 0 < fillE l k → ∀ j, j < k + 1 → ¬ 0 < fillE l j) := fun h j hj => by
        rcases Nat.lt_or_ge j k with h' | h'
        · exact HNO.out j h'
        · obtain rfl : j = k := by omega
          exact h
      have HPERM : Hid (¬ 0 < fillE l k → ((l[k].1, l[k].2) :: (l.take k).filter (fun h => !decide (h.1 = l[k].1))).Perm (l.take (k + 1))) := fun h => fill_perm hlt (HMISS.out h)
      have HFE : Hid (fillE l k = if l[k].2.2.length < 1 ∨ 64 < l[k].2.2.length ∨ l[k].2.1 < 0 then 2 else markE l k) := by show _ = _; unfold fillE; rw [List.getElem?_eq_getElem hlt]
      have HTK := hideF (HT.out l[k] (List.getElem_mem hlt))
      have HWK := hideF (HWF.out l[k] (List.getElem_mem hlt))
      have HCK := hideF (fun W (hb : Below w.heap.size w W) => checkOne_all a (.slice (some ⟨b, o, none⟩) l.length ca) l k W (HG.out W hb) hlt hlen (HT.out l[k] (List.getElem_mem hlt)) (HV.out.below hb))
      obtain ⟨⟨⟨xp, xl⟩, u, t⟩, hy⟩ : ∃ y, l[k] = y := ⟨_, rfl⟩
      rw [hy] at c0 c1 c2 c3 HFE HTK HWK HPERM
      simp only at c0 c1 c2 c3 HFE HTK HWK HPERM
      obtain ⟨T, hT⟩ : ∃ T : ByteArray, (⟨t.toArray⟩ : ByteArray) = T := ⟨_, rfl⟩
      rw [hT] at c3
      have hTs : T.size = t.length := by rw [← hT]; simp [ByteArray.size]
      rw [← hTs] at HFE HTK
      have HTT : Hid (T.data.toList = t) := by show _ = _; rw [← hT]
      clear hcell hve hy hT hTs
      have hal := (Below.refl wr.heap.size wr).alloc (Nat.le_refl _) (.cells #[.int .u32 (xp : Nat), .int .i64 xl, .int .i64 u, .string T] 64)
      have hblk := Blk.new wr #[.int .u32 (xp : Nat), .int .i64 xl, .int .i64 u, .string T] 64
      have HOF2 := hideF (of_below HOF.out hal)
      have HB2 := hideF (HB.out.trans (hal.mono HB.out.size))
      have hMlt := HOF.out.lt
      go_wp2_with fail
      obtain ⟨W, hW⟩ : ∃ W, wr.alloc (.cells #[.int .u32 (xp : Nat), .int .i64 xl, .int .i64 u, .string T] 64) = W := ⟨_, rfl⟩
      rw [hW] at hblk HOF2 HB2 ⊢
      clear hW hal c0 c1 c2 c3 HOF HB
      have hHM : wr.heap.size ≠ w.heap.size := by omega
      generalize wr.heap.size = H at *
      refine (isPiece_any T W HTK.out).mono ?_
      rintro e w1 ⟨rfl, hw1⟩
      subst hw1
      have y0 := hblk.cell (i := 0) rfl
      have y1 := hblk.cell (i := 1) rfl
      have y2 := hblk.cell (i := 2) rfl
      have y3 := hblk.cell (i := 3) rfl
      have g1 : w1.cell? ⟨1, 0, none⟩ = some (sentV a 1) := (HG.out _ HB2.out).glob 1 rfl
      by_cases ho : T.size < 1 ∨ 64 < T.size
      · have hpc : isPc T.size = false := by unfold isPc; rw [decide_eq_false_iff_not]; omega
        have HR : Hid (fillF l = (2, (k : Int))) := by
          have e : fillE l k = 2 := by rw [HFE.out, if_pos (by omega)]
          have := HHIT.out (by rw [e]; decide)
          rwa [e] at this
        rw [hpc]
        clear hpc ho
        go_wp2_with fail
        go_ret
        exact ⟨_, rfl, by rw [HR.out]; exact .inr (.inr ⟨1, w1.heap.size, 0, (k : Int), by decide, HB2.out.size, rfl, by simp, by simp, rfl⟩), (fun e => by rw [HR.out] at e; cases e), fun _ => HP.out.off (Off.of_below (F := fun _ => False) (HB2.out.alloc HB2.out.size _)) (fun _ _ h => h), Off.of_below (HB2.out.alloc HB2.out.size _)⟩
      · have hpc : isPc T.size = true := by unfold isPc; rw [decide_eq_true_eq]; omega
        rw [hpc]
        by_cases hu : u < 0
        · have HR : Hid (fillF l = (2, (k : Int))) := by
            have e : fillE l k = 2 := by rw [HFE.out, if_pos (by omega)]
            have := HHIT.out (by rw [e]; decide)
            rwa [e] at this
          clear hpc ho
          go_wp2_with fail
          go_ret
          exact ⟨_, rfl, by rw [HR.out]; exact .inr (.inr ⟨1, w1.heap.size, 0, (k : Int), by decide, HB2.out.size, rfl, by simp, by simp, rfl⟩), (fun e => by rw [HR.out] at e; cases e), fun _ => HP.out.off (Off.of_below (F := fun _ => False) (HB2.out.alloc HB2.out.size _)) (fun _ _ h => h), Off.of_below (HB2.out.alloc HB2.out.size _)⟩
        · have HFM : Hid (fillE l k = markE l k) := by show _ = _; rw [HFE.out, if_neg (by omega)]
          clear hpc
          go_wp2_with fail
          refine (HCK.out _ HB2.out).mono ?_
          rintro e w2 ⟨rfl, hb2⟩
          have HB3 : Hid (Below w.heap.size w w2) := HB2.out.trans (hb2.mono HB2.out.size)
          have HOF3 := hideF (of_below HOF2.out hb2)
          have HBL3 := hideF (hblk.next hb2)
          clear hb2 HCK
          rcases markE_cases l k with hM | hM | hM
          · have HMZ : Hid (fillE l k ≤ 0) := by show _ ≤ _; rw [HFM.out, hM]; decide
            have HPM := hideF (HPERM.out HMZ.out)
            have HMS := hideF (HMISS.out HMZ.out)
            have HTA : Hid ((⟨t.toArray⟩ : ByteArray) = T) := by
              show _ = _
              apply ByteArray.ext
              apply Array.toList_inj.1
              rw [HTT.out]
            rw [hM, show markV a 0 = .nilIface from rfl]
            have HCE : Hid (∀ W', Blk W' H #[.int .u32 (xp : Nat), .int .i64 xl, .int .i64 u, .string T] 64 → W'.cell? ⟨H, 0, none⟩ = some (.int .u32 (xp : Nat)) ∧ W'.cell? ⟨H, 1, none⟩ = some (.int .i64 xl) ∧ W'.cell? ⟨H, 2, none⟩ = some (.int .i64 u) ∧ W'.cell? ⟨H, 3, none⟩ = some (.string T)) := fun W' h => ⟨h.cell (i := 0) rfl, h.cell (i := 1) rfl, h.cell (i := 2) rfl, h.cell (i := 3) rfl⟩
            obtain ⟨z0, z1, z2, z3⟩ := HCE.out _ HBL3.out
            clear hM y0 y1 y2 y3 g1 HFM HFE HPERM HMISS HHIT
            go_wp2_with fail
            go_region_held3 (fun w' => w'.cell? ⟨H, 0, none⟩ = some (.int .u32 (xp : Nat)) ∧ w'.cell? ⟨H, 1, none⟩ = some (.int .i64 xl) ∧ w'.cell? ⟨H, 2, none⟩ = some (.int .i64 u) ∧ w'.cell? ⟨H, 3, none⟩ = some (.string T)) (first | exact HCE.out _ HBL7.out | exact HCE.out _ HBL4.out | go_keep) (first
              | (go_at_call 86; refine (newPiece_any T u _ HTK.out).mono ?_; rintro e w4 ⟨rfl, hb4⟩; have hB4 : Below w2.heap.size w2 w4 := (Below.refl _ w2).drew.trans hb4; have HBL4 := hideF (HBL3.out.next hB4); obtain ⟨w7, hst, hOf7, hg7⟩ := (of_below HOF3.out hB4).store Tryz.underlying133 HWK.out (u, t) (by rw [List.length_take]; unfold maxLen; omega); change (Instr.mapUpdate 133 (.map (some w.heap.size)) (idV (xp : Nat) xl) (.agg #[.string ⟨t.toArray⟩, .int .i64 u])).run Tryz.prog _ = _ at hst; rw [HTA.out] at hst; have HBL7 := hideF (show Blk w7 H _ _ from (hg7.block _ HBL4.out.lt (fun e => hHM (Option.some.inj e))).trans HBL4.out)))
            have HB7 : Hid (Below w.heap.size w w7) := HB3.out.trans ((hB4.mono HB3.out.size).trans ((off_of_rowgrown hg7).below (Nat.le_trans HB3.out.size hB4.size) (fun j hj e => by have := Option.some.inj e; omega)))
            have HOF7 := hideF (hOf7 _ HPM.out)
            clear hst hOf7 hg7 hb4 hB4
            go_wp2_with fail
            go_roundw
            case rel => exact ⟨k + 1, hlt, by go_num, fun j hj => by have := HMS.out j hj; omega, HOF7.out, HB7.out⟩
            case measure => simp [intOf]; omega
          · have HR : Hid (fillF l = (8, (k : Int))) := by
              have := HHIT.out (by rw [HFM.out, hM]; decide)
              rwa [HFM.out, hM] at this
            rw [hM, show markV a 8 = sentV a 7 from rfl]
            clear hM
            go_wp2_with fail
            go_ret
            exact ⟨_, rfl, by rw [HR.out]; exact .inr (.inr ⟨7, w2.heap.size, 0, (k : Int), by decide, HB3.out.size, rfl, by simp, by simp, rfl⟩), (fun e => by rw [HR.out] at e; cases e), fun _ => HP.out.off (Off.of_below (F := fun _ => False) (HB3.out.alloc HB3.out.size _)) (fun _ _ h => h), Off.of_below (HB3.out.alloc HB3.out.size _)⟩
          · have HR : Hid (fillF l = (9, (k : Int))) := by
              have := HHIT.out (by rw [HFM.out, hM]; decide)
              rwa [HFM.out, hM] at this
            rw [hM, show markV a 9 = sentV a 8 from rfl]
            clear hM
            go_wp2_with fail
            go_ret
            exact ⟨_, rfl, by rw [HR.out]; exact .inr (.inr ⟨8, w2.heap.size, 0, (k : Int), by decide, HB3.out.size, rfl, by simp, by simp, rfl⟩), (fun e => by rw [HR.out] at e; cases e), fun _ => HP.out.off (Off.of_below (F := fun _ => False) (HB3.out.alloc HB3.out.size _)) (fun _ _ h => h), Off.of_below (HB3.out.alloc HB3.out.size _)⟩
    · have hge : (l.length : Int) ≤ (k : Int) := by omega
      obtain rfl : k = l.length := by omega
      rw [List.take_length] at HOF
      obtain ⟨B, b, rfl, hB, hO, hne, rfl⟩ := HP.out
      have hBr := hB.next HB.out
      have x0 := hBr.cell (i := 0) rfl
      have f0 := hBr.frozen 0
      go_wp2_with fail
      go_ret
      have hR : fillF l = (0, -1) := by rw [HF.out]; exact fillFrom_none l l.length 0 (fun j _ hj => by have := HNO.out j (by omega); omega)
      have hBlt := hB.lt
      refine ⟨_, rfl, by rw [hR]; exact .inl ⟨rfl, rfl⟩, fun _ => ⟨_, B, w.heap.size, rfl, hBr.set 0 _, HOF.out.kept (grown_set (grown_refl wr (some B)) 0 _) (fun e => by have := Option.some.inj e; omega), by omega, rfl⟩, (fun e => by rw [hR] at e; exact absurd rfl e), (Off.of_below HB.out).setCell (p := ⟨B, 0, none⟩) (.inl (.inl rfl)) _⟩
end Go.Proofs.YtmjdgakokldliaaGreatDoor
