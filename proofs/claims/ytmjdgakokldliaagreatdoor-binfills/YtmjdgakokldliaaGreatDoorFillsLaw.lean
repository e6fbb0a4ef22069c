/-
  Own text. BinFills over the contracts of package bin and of the document's answer: it returns true whatever the pieces and the text.
-/
import Derived.Test.YtmjdgakokldliaaGreatDoorPFill
import Derived.Test.YtmjdgakokldliaaGreatDoorRdHelds
import Derived.Test.YtmjdgakokldliaaGreatDoorHeldsTx
import Derived.Test.YtmjdgakokldliaaGreatDoorPBinSpec
import Derived.Test.YtmjdgakokldliaaGreatDoorBinned
import Derived.Test.YtmjdgakokldliaaGreatDoorBinRef
namespace Go.Proofs.YtmjdgakokldliaaGreatDoor
open Go.RowKit

theorem hideL {q : Prop} (h : q) : Hid q := h
structure FillsEnv (a : Nat → Addr) (w : World) : Prop where
  err : ErrW w a
  pow : Pow10 w
  max : ∃ m, w.cell? ⟨13, 0, none⟩ = some (.int .i64 m)
theorem FillsEnv.below {a : Nat → Addr} {w w' : World} (h : FillsEnv a w) (hb : Below w.heap.size w w') : FillsEnv a w' where
  err := h.err.below hb (Nat.le_refl _)
  pow := h.pow.below hb (Nat.le_refl _)
  max := by obtain ⟨m, hm⟩ := h.max; exact ⟨m, (hb.cell (lt_of_cell hm)).trans hm⟩
theorem fillsSpec (a : Nat → Addr) : BinSpec a (FillsEnv a) PBin0 := pBinSpec a (fun h hb => h.below hb) (fun h => h.err.some)
theorem sl_one (b o n c k : Nat) (hk : k < n) (hc : n ≤ c) : ∃ c4, 1 ≤ c4 ∧ ∀ w : World, (Instr.slice 61 (.slice (some ⟨b, o, none⟩) n c) (some (.int .i64 (k : Int))) (some (.int .i64 ((k : Int) + 1))) none).run Tryz.prog w = .ok (.slice (some ⟨b, o + k * 4, none⟩) 1 c4) w := by
  refine ⟨c - k, by omega, fun w => ?_⟩
  have hj1 : (0 : Int) ≤ (k : Int) + 1 := by omega
  have hj2 : (k : Int) + 1 ≤ (c : Int) := by omega
  have hj3 : (k : Int) ≤ (k : Int) + 1 := by omega
  have hj4 : ((k : Int) + 1).toNat = k + 1 := by omega
  have hj5 : k + 1 - k = 1 := by omega
  have hj6 : ¬ c - k = 0 := by omega
  go_simp
  intro e
  omega
theorem held_one {w : World} {b o ca c4 k : Nat} {l : List Hd} (h : HeldsAt w (.slice (some ⟨b, o, none⟩) l.length ca) l) (hk : k < l.length) (hc : 1 ≤ c4) : HeldsAt w (.slice (some ⟨b, o + k * 4, none⟩) 1 c4) [l[k]] := by
  obtain ⟨p, c, hp, hcell⟩ := h
  refine ⟨some ⟨b, o + k * 4, none⟩, c4, rfl, fun i hi => ?_⟩
  obtain rfl : i = 0 := by simpa using hi
  obtain ⟨b', o', hp', ⟨hb', _⟩, h0, h1, h2, h3⟩ := hcell k hk
  obtain ⟨rfl, _⟩ : some ⟨b, o, none⟩ = p ∧ ca = c := by simpa using hp
  cases hp'
  exact ⟨b, o + k * 4, rfl, ⟨hb', hc⟩, by simpa using h0, by simpa using h1, by simpa using h2, by simpa using h3⟩
theorem hReadN_len : ∀ (n : Nat) (l : List Hd) (s : List UInt8), (hReadN n l s).1.length ≤ l.length + n
  | 0, l, s => by simp [hReadN]
  | n + 1, l, s => by
    rw [hReadN]
    split
    · simp
    · split
      · simp
      · rename_i x _
        split
        · have := hReadN_len n (l ++ [x.1]) x.2
          rw [List.length_append, List.length_singleton] at this
          exact Nat.le_trans this (by omega)
        · simp
theorem readsOf_len (s : List UInt8) : (readsOf s).1.length ≤ s.length + 1 := by
  unfold readsOf
  split
  · simp
  · have := hReadN_len (s.length + 1) [] s
    simpa [hReads] using this
theorem fillFrom_nonneg (l : List Hd) : ∀ (n i : Nat), 0 ≤ (fillFrom l i n).1
  | 0, _ => by rw [fillFrom]; exact Int.le_refl _
  | n + 1, i => by
    rw [fillFrom]
    split
    · simp only; omega
    · exact fillFrom_nonneg l n (i + 1)
theorem fillFrom_zero (l : List Hd) : ∀ (n i : Nat), (fillFrom l i n).1 = 0 → ∀ j, i ≤ j → j < i + n → ¬ 0 < fillE l j
  | 0, _, _, j, h1, h2 => by omega
  | n + 1, i, h, j, h1, h2 => by
    rw [fillFrom] at h
    split at h
    · simp only at h; omega
    · rename_i hn
      rcases Nat.lt_or_ge i j with h' | h'
      · exact fillFrom_zero l n (i + 1) h j (by omega) (by omega)
      · obtain rfl : j = i := by omega
        exact hn
theorem fillF_nonneg (l : List Hd) : 0 ≤ (fillF l).1 := by
  unfold fillF
  split
  · decide
  · exact fillFrom_nonneg l _ _
theorem fillF_ok (l : List Hd) (h : (fillF l).1 = 0) (hu : ∀ x ∈ l, x.2.1 ≤ 9223372036854775807) : BinOk 9223372036854775807 l := by
  unfold fillF at h
  split at h
  · cases h
  · exact fill_ok (by omega) hu (fun j hj => fillFrom_zero l _ _ h j (Nat.zero_le _) (by omega))
abbrev wasL : List UInt8 := [119, 97, 115]
theorem putWas : hPut [] wasL = ((idOfL wasL, true, 0), [(idOfL wasL, 1, wasL)]) := rfl
theorem sizeWas : hSize [(idOfL wasL, 1, wasL)] = 3 := rfl
theorem okWas : BinOk 1000000 [(idOfL wasL, 1, wasL)] := ⟨by simp, fun h hh => by rw [List.mem_singleton.1 hh]; exact ⟨rfl, by decide, by decide, by decide⟩, List.pairwise_singleton _ _⟩
set_option maxRecDepth 100000 in
set_option maxHeartbeats 4000000 in
theorem fills_any (a : Nat → Addr) (vl : Value) (l : List Hd) (s : ByteArray) (w : World) (hE : FillsEnv a w) (hv : HeldsAt w vl l) (hwf : ∀ h ∈ l, WfID h.1) (hu : ∀ h ∈ l, -9223372036854775808 ≤ h.2.1 ∧ h.2.1 ≤ 9223372036854775807) :
    Calls Tryz.prog 5 #[vl, .string s] w fun e w' => e = .returned (.bool true) ∧ Below w.heap.size w w' := by
  have HV : Hid (HeldsAt w vl l) := hv
  have HWF : Hid (∀ h ∈ l, WfID h.1) := hwf
  have HU : Hid (∀ h ∈ l, -9223372036854775808 ≤ h.2.1 ∧ h.2.1 ≤ 9223372036854775807) := hu
  have HE : Hid (∀ W, Below w.heap.size w W → FillsEnv a W) := fun W hb => hE.below hb
  have HBN := hideL (binned_any (fillsSpec a) w hE)
  obtain ⟨pa, ca, rfl, _⟩ := hv
  clear hwf hu hE
  go_enter Tryz.func5, Tryz.ntmps5
  go_wp2_with fail
  refine HBN.out.mono ?_
  rintro e w1 ⟨rfl, hb1⟩
  have HB1 := hideL hb1
  clear hb1 HBN
  go_wp2_with fail
  refine (longHelds_any _ l w1 (HV.out.below HB1.out)).mono ?_
  rintro e w2 ⟨n, rfl, hw2, hn, h0⟩
  subst hw2
  rcases hn with rfl | rfl
  rotate_left
  · go_wp2_with fail
    go_ret
    exact ⟨rfl, HB1.out⟩
  obtain ⟨hlen, hts⟩ := h0 rfl
  have HTS : Hid (∀ i (h : i < l.length), l[i].2.2.length ≤ 100) := hts
  have hl251 : l.length ≤ 251 := by omega
  have hl251' : (l.length : Int) ≤ 251 := by omega
  clear hts h0
  have hss : (s.size : Int) ≤ 2000 ∨ (s.size : Int) = 40001 ∨ (2000 < (s.size : Int) ∧ ¬ (s.size : Int) = 40001) := by omega
  by_cases hs3 : 2000 < (s.size : Int) ∧ ¬ (s.size : Int) = 40001
  · obtain ⟨hs4, hs5⟩ := hs3
    clear hss
    go_wp2_with fail
    go_ret
    exact ⟨rfl, HB1.out⟩
  have HSZ : Hid (s.size ≤ 50000) := by show _ ≤ _; omega
  have hs6 : ((s.size : Int) ≤ 2000 ∧ ¬ 2000 < (s.size : Int)) ∨ ((s.size : Int) = 40001 ∧ 2000 < (s.size : Int)) := by omega
  clear hss hs3 hlen
  rcases hs6 with ⟨hs6, hs7⟩ | ⟨hs6, hs7⟩
  all_goals
    go_wp2_with fail
    clear hs6 hs7
    go_loopw [6] (fun iv wr => ∃ k : Nat, k ≤ l.length ∧ iv = .int .i64 k ∧ Hid (Below w.heap.size w wr)) (fun iv _ => l.length - (intOf iv).toNat)
    case atStart => exact ⟨0, Nat.zero_le _, rfl, HB1.out⟩
    case round =>
      clear HB1
      obtain ⟨k, hk, rfl, HB⟩ := hrel
      by_cases hlt : k < l.length
      · have hlt' : (k : Int) < (l.length : Int) := by omega
        have hk0 : (0 : Int) ≤ (k : Int) := by omega
        have hw1 : IntKind.i64.wrap ((k : Int) + 1) = (k : Int) + 1 := by rw [IntKind.wrap_i64]; omega
        obtain ⟨_, _, hve, hcell⟩ := HV.out.below HB.out
        obtain ⟨rfl, rfl⟩ : pa = _ ∧ ca = _ := by simpa using hve
        obtain ⟨b, o, rfl, hbl, c0, c1, c2, c3⟩ := hcell k hlt
        have HWK := hideL (HWF.out l[k] (List.getElem_mem hlt))
        have HUK := hideL (HU.out l[k] (List.getElem_mem hlt))
        have HTK := hideL (HTS.out k hlt)
        obtain ⟨c4, hc4, hsl⟩ := sl_one b o l.length ca k hlt hbl.2
        have HSUB : Hid (∀ W, Below w.heap.size w W → HeldsAt W (.slice (some ⟨b, o + k * 4, none⟩) 1 c4) [l[k]]) := fun W hb => held_one (HV.out.below hb) hlt hc4
        have HTO : Hid (0 ≤ l[k].1.2 → 0 ≤ l[k].2.1 → TextOk [l[k]]) := fun h1 h2 => ⟨by simp, fun h hh => by
          rw [List.mem_singleton.1 hh]
          exact ⟨HWK.out.1, ⟨h1, HWK.out.2.2⟩, ⟨h2, HUK.out.2⟩, HTK.out⟩⟩
        obtain ⟨xp, hxp⟩ : ∃ xp, l[k].1.1 = xp := ⟨_, rfl⟩
        obtain ⟨xl, hxl⟩ : ∃ xl, l[k].1.2 = xl := ⟨_, rfl⟩
        obtain ⟨u, hu⟩ : ∃ u, l[k].2.1 = u := ⟨_, rfl⟩
        rw [hxl, hu] at HTO
        rw [hxl] at c1
        rw [hu] at c2
        clear hxp hxl hu hcell hve c0 c3 HWK HUK HTK
        by_cases hx : xl < 0
        · go_wp2_with fail
          go_roundw
          case rel => exact ⟨k + 1, hlt, by go_num, HB.out⟩
          case measure => simp [intOf]; omega
        · by_cases hy : u < 0
          · go_wp2_with fail
            go_roundw
            case rel => exact ⟨k + 1, hlt, by go_num, HB.out⟩
            case measure => simp [intOf]; omega
          · have HTK := hideL (HTO.out (by omega) (by omega))
            obtain ⟨Z, hZ⟩ : ∃ Z : ByteArray, (⟨(hsText [l[k]]).toArray⟩ : ByteArray) = Z := ⟨_, rfl⟩
            have HZ := hideL hZ
            have hzz : (Z.toList == Z.toList) = true := by simp
            clear hZ HTO
            go_wp2_with fail
            go_region_held3 (fun _ => True) (trivial) (first
              | (go_at_call 33; refine (ownHelds_any _ [l[k]] _ (by simp) (HSUB.out _ HB.out.drew)).mono ?_; rintro e w3 ⟨v3, rfl, hown3, hb3⟩; have HB3 : Hid (Below w.heap.size w w3) := HB.out.drew.trans (hb3.mono HB.out.size))
              | (go_at_call 32; refine (pText_any v3 [l[k]] w3 HTK.out (HE.out _ HB3.out).pow (HeldsAt.of_row hown3)).mono ?_; rintro e w4 ⟨rfl, hb4⟩; rw [HZ.out]; have HB4 : Hid (Below w.heap.size w w4) := HB3.out.trans (hb4.mono HB3.out.size))
              | (go_at_call 34; refine (heldsText_any _ [l[k]] w4 HTK.out (HSUB.out _ HB4.out)).mono ?_; rintro e w5 ⟨rfl, hb5⟩; rw [HZ.out]; have HB5 : Hid (Below w.heap.size w w5) := HB4.out.trans (hb5.mono HB4.out.size)))
            go_wp2_with fail
            go_roundw
            case rel => exact ⟨k + 1, hlt, by go_num, HB5.out⟩
            case measure => simp [intOf]; omega
      · have hge : (l.length : Int) ≤ (k : Int) := by omega
        obtain ⟨m, hm⟩ := (HE.out wr HB.out).max
        have HRD := hideL (pRead_all a s m wr HSZ.out (HE.out wr HB.out).err.some hm)
        have HRL := hideL (readsOf_len s.data.toList)
        have hsz : s.data.toList.length = s.size := by rw [Array.length_toList]; rfl
        rw [hsz] at HRL
        have HRH := hideL (fun W => readHelds_any s HSZ.out W)
        unfold rdPost at HRH
        obtain ⟨RL, fc, fa, hR⟩ : ∃ RL fc fa, readsOf s.data.toList = (RL, fc, fa) := ⟨_, _, _, rfl⟩
        rw [hR] at HRD HRL HRH
        simp only at HRD HRL HRH
        clear hm hsz hR
        go_wp2_with fail
        refine HRD.out.mono ?_
        rintro e w3 ⟨vr, ev, rfl, hx3, he3, hb3⟩
        have HB3 : Hid (Below w.heap.size w w3) := HB.out.trans (hb3.mono HB.out.size)
        clear hb3 HRD
        go_wp2_with fail
        refine (HRH.out w3).mono ?_
        rintro e w4 ⟨vw, rfl, hx4, hb4⟩
        have HB4 : Hid (Below w.heap.size w w4) := HB3.out.trans (hb4.mono HB3.out.size)
        have HX4 := hideL (hx3.below hb4)
        have HY4 := hideL hx4
        have HE4 := hideL (he3.below hb4)
        clear hb4 hx3 hx4 he3 HRH HB3
        go_wp2_with fail
        have hal4 := (Below.refl w4.heap.size w4).alloc (Nat.le_refl _) (.cells #[.int .i64 fc, .int .i64 fa] 46)
        have hbf4 := Blk.new w4 #[.int .i64 fc, .int .i64 fa] 46
        obtain ⟨W4, hW4⟩ : ∃ W4, w4.alloc (.cells #[.int .i64 fc, .int .i64 fa] 46) = W4 := ⟨_, rfl⟩
        rw [hW4] at hal4 hbf4 ⊢
        have HBW : Hid (Below w.heap.size w W4) := HB4.out.trans (hal4.mono HB4.out.size)
        have HXW := hideL (HX4.out.below hal4)
        have HYW := hideL (HY4.out.below hal4)
        have HEW := hideL (HE4.out.below hal4)
        have hFBw := HB4.out.size
        clear hW4 hal4 HX4 HY4 HE4 HB4
        generalize w4.heap.size = FB at *
        refine (faulted_true a ev (fc, fa) W4 (HE.out W4 HBW.out).err HEW.out.at).mono ?_
        rintro e w5 ⟨rfl, hb5⟩
        have HB5 : Hid (Below w.heap.size w w5) := HBW.out.trans (hb5.mono HBW.out.size)
        have HX5 := hideL (HXW.out.below hb5)
        have HY5 := hideL (HYW.out.below hb5)
        have hbf5 := hbf4.next hb5
        clear hb5 HXW HYW HEW HBW hbf4
        go_wp2_with fail
        refine (sameHelds_true vr vw RL w5 (by have := HRL.out; have := HSZ.out; omega) HX5.out HY5.out).mono ?_
        rintro e w6 ⟨rfl, hb6⟩
        have HB6 : Hid (Below w.heap.size w w6) := HB5.out.trans (hb6.mono HB5.out.size)
        have hbf6 := hbf5.next hb6
        have hF6 := hbf6.lt
        clear hb6 HX5 HY5 HB5 hbf5
        go_wp2_with fail
        refine ((fillsSpec a).new w6 (HE.out w6 HB6.out)).mono ?_
        rintro e w7 ⟨p, Fp, rfl, hP7, hF7, hb7⟩
        have HB7 : Hid (Below w.heap.size w w7) := HB6.out.trans (hb7.mono HB6.out.size)
        have hbf7 := hbf6.next hb7
        have HP7 := hideL hP7
        have HF7 := hideL hF7
        have HW67 := hideL HB6.out.size
        have HS67 := hideL hb7.size
        clear hb7 hbf6 hP7 hF7
        go_wp2_with fail
        refine ((fillsSpec a).put ⟨#[119, 97, 115]⟩ p Fp [] w7 (by decide) (BinOk.nil _) (HE.out w7 HB7.out) HP7.out).mono ?_
        rintro e w8 ⟨ev8, F8, rfl, he8, hP8, hF8, ho8⟩
        have e8 : (⟨#[119, 97, 115]⟩ : ByteArray).data.toList = wasL := rfl
        rw [e8, putWas] at he8 hP8 ⊢
        obtain rfl := he8.nil
        have HB8 : Hid (Below w.heap.size w w8) := HB7.out.trans (ho8.below HB7.out.size (fun j hj hF => by have h1 := HF7.out j hF; have h2 := HW67.out; omega))
        have hbf8 := ho8.blk hbf7 (fun hF => by have h1 := HF7.out FB hF; omega)
        have HF8 : Hid (∀ j, F8 j → w6.heap.size ≤ j) := fun j hj => by
          rcases hF8 j hj with h | h
          · exact HF7.out j h
          · have := HS67.out; omega
        have HP8 := hideL hP8
        have HS78 := hideL ho8.size
        clear ho8 hP8 hF8 he8 e8 hbf7 HP7 HF7
        simp only
        go_wp2_with fail
        refine (fillFault_any _ l w8 (by omega) (fun h hh => by obtain ⟨i, hi, rfl⟩ := List.getElem_of_mem hh; have := HTS.out i hi; omega) (HV.out.below HB8.out)).mono ?_
        rintro e w9 ⟨rfl, hb9⟩
        have HB9 : Hid (Below w.heap.size w w9) := HB8.out.trans (hb9.mono HB8.out.size)
        have hbf9 := hbf8.next hb9
        have HP9 := hideL ((fillsSpec a).below HP8.out hb9)
        obtain ⟨gc, ga, hgf⟩ : ∃ gc ga, fillF l = (gc, ga) := ⟨_, _, rfl⟩
        have HGF := hideL hgf
        rw [hgf]
        simp only
        have k0 := hbf9.cell (i := 0) rfl
        have k1 := hbf9.cell (i := 1) rfl
        have f0 := hbf9.frozen 0
        have f1 := hbf9.frozen 1
        have hs6 : w6.heap.size ≤ w9.heap.size := by have h1 := HS67.out; have h2 := hb9.size; have h3 := HS78.out; omega
        clear hb9 hgf hbf8 HP8 HB8
        have hset : Off (fun j => j = FB) w9 ((w9.setCell ⟨FB, 0, none⟩ (.int .i64 gc)).setCell ⟨FB, 1, none⟩ (.int .i64 ga)) := ((Off.of_below (F := fun j => j = FB) (Below.refl _ w9)).setCell (p := ⟨FB, 0, none⟩) (.inl rfl) _).setCell (p := ⟨FB, 1, none⟩) (.inl rfl) _
        have hbf10 := (hbf9.set 0 (.int .i64 gc)).set 1 (.int .i64 ga)
        go_wp2_with fail
        obtain ⟨W, hW⟩ : ∃ W, (w9.setCell ⟨FB, 0, none⟩ (.int .i64 gc)).setCell ⟨FB, 1, none⟩ (.int .i64 ga) = W := ⟨_, rfl⟩
        rw [hW] at hset hbf10 ⊢
        have HBL : Hid (Blk W FB #[.int .i64 gc, .int .i64 ga] 46) := hbf10
        have HBX : Hid (Below w.heap.size w W) := HB9.out.trans (hset.below HB9.out.size (fun j hj e => by omega))
        have HPX := hideL (HP9.out.off hset (fun j hj e => by have := HF8.out j hj; omega))
        have hsW : w6.heap.size ≤ W.heap.size := Nat.le_trans hs6 hset.size
        have HFW : Hid (∀ j, F8 j → w.heap.size ≤ j ∧ j ≠ FB) := fun j hj => by have h1 := HF8.out j hj; have h2 := HW67.out; exact ⟨by omega, by omega⟩
        have HCE : Hid (∀ W', Blk W' FB #[.int .i64 gc, .int .i64 ga] 46 → W'.cell? ⟨FB, 0, none⟩ = some (.int .i64 gc) ∧ W'.cell? ⟨FB, 1, none⟩ = some (.int .i64 ga)) := fun W' h => ⟨h.cell (i := 0) rfl, h.cell (i := 1) rfl⟩
        obtain ⟨z0, z1⟩ := HCE.out _ HBL.out
        clear hW hset hbf10 hbf9 k0 k1 f0 f1 HP9 HB9 HF8 hs6
        go_region_held3 (fun w' => w'.cell? ⟨FB, 0, none⟩ = some (.int .i64 gc) ∧ w'.cell? ⟨FB, 1, none⟩ = some (.int .i64 ga)) (first | exact HCE.out _ HBL13.out | exact HCE.out _ HBL12.out | exact HCE.out _ HBL11.out | go_keep) (first
          | (go_at_call 33; refine (ownHelds_any _ l _ (by omega) (HV.out.below HBX.out.drew)).mono ?_; rintro e w11 ⟨v11, rfl, hown11, hb11⟩; have hB11 : Below W.heap.size W w11 := (Below.refl _ W).drew.trans hb11; have HBL11 := hideL (HBL.out.next hB11); have HB11 : Hid (Below w.heap.size w w11) := HBX.out.trans (hB11.mono HBX.out.size); have HP11 := hideL ((fillsSpec a).below HPX.out hB11); have HS11 := hideL hB11.size)
          | (go_at_call 41; refine (pFill_any a v11 l p F8 _ w11 (HE.out _ HB11.out).err.some HP11.out (HeldsAt.of_row hown11) (by omega) (fun h hh => by obtain ⟨i, hi, rfl⟩ := List.getElem_of_mem hh; have := HTS.out i hi; omega) HWF.out).mono ?_; rintro e w12 ⟨ev12, rfl, he12, hok12, hbad12, ho12⟩; have HOK12 := hideL hok12; have HBAD12 := hideL hbad12; have HEV := hideL he12; have HB12 : Hid (Below w.heap.size w w12) := HB11.out.trans (ho12.below HB11.out.size (fun j hj hF => by have := (HFW.out j hF).1; omega)); have HBL12 := hideL (ho12.blk HBL11.out (fun hF => (HFW.out FB hF).2 rfl)); clear hok12 hbad12 he12 ho12 hown11)
          | (go_at_call 18; refine (faulted_true a ev12 (gc, ga) w12 (HE.out _ HB12.out).err (by have := HEV.out; rw [HGF.out] at this; exact this.at)).mono ?_; rintro e w13 ⟨rfl, hb13⟩; have HBL13 := hideL (HBL12.out.next hb13); have HB13 : Hid (Below w.heap.size w w13) := HB12.out.trans (hb13.mono HB12.out.size); have HB23 := hideL hb13; clear hb13))
        obtain ⟨y0, y1⟩ := HCE.out _ HBL13.out
        by_cases hg : 0 < gc
        · have HP13 := hideL ((fillsSpec a).below (HBAD12.out (by rw [HGF.out]; simp only; omega)) HB23.out)
          go_wp2_with fail
          refine ((fillsSpec a).size p F8 _ w13 okWas (HE.out _ HB13.out) HP13.out).mono ?_
          rintro e w14 ⟨rfl, hb14⟩
          rw [sizeWas]
          go_wp2_with fail
          go_ret
          exact ⟨rfl, HB13.out.trans (hb14.mono HB13.out.size)⟩
        · have hgz : gc = 0 := by have := fillF_nonneg l; rw [HGF.out] at this; simp only at this; omega
          have HOKL := hideL (fillF_ok l (by rw [HGF.out]; exact hgz) (fun x hx => (HU.out x hx).2))
          obtain ⟨F13, hP12⟩ := HOK12.out (by rw [HGF.out]; exact hgz)
          have HP13 := hideL ((fillsSpec a).below hP12 HB23.out)
          clear hgz hP12
          go_wp2_with fail
          refine (pAll_any p F13 l w13 HOKL.out HP13.out).mono ?_
          rintro e w14 ⟨v14, rfl, hx14, hb14⟩
          have HB14 : Hid (Below w.heap.size w w14) := HB13.out.trans (hb14.mono HB13.out.size)
          have HX14 := hideL hx14
          clear hb14 hx14
          go_wp2_with fail
          refine (sameHelds_true v14 _ l w14 (by omega) HX14.out (HV.out.below HB14.out)).mono ?_
          rintro e w15 ⟨rfl, hb15⟩
          go_wp2_with fail
          go_ret
          exact ⟨rfl, HB14.out.trans (hb15.mono HB14.out.size)⟩
end Go.Proofs.YtmjdgakokldliaaGreatDoor
