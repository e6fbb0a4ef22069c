/-
  Own text. ScrubRight over the contracts of packages node and scrub: it returns true whatever the acts and the place.
-/
import Derived.Test.YtjdobbjdlighpabGreatDoorG36
import Derived.Test.YtjdobbjdlighpabGreatDoorG37
import Derived.Test.YtjdobbjdlighpabGreatDoorG38
import Derived.Test.YtjdobbjdlighpabGreatDoorG33
namespace Go.Proofs.YtjdobbjdlighpabGreatDoor
open Go.RowKit Go.Maps Go.Sort Go.Shelf

theorem PBin0.next {w w' : World} {p : Addr} {F : Nat → Prop} {l : List Hd} (h : PBin0 w p F l) (hb : Below w.heap.size w w') : PBin0 w' p F l := h.off (Off.of_below (F := fun _ => False) hb) (fun _ _ h => h)
structure RightI (k : Nat) (st : NSt) : Prop where
  inv : NInv st
  full : NFull st
  ok : NOk (4000 * k) k st
theorem RightI.start : RightI 0 ⟨[], []⟩ := ⟨NInv.empty, NFull.empty, NOk.empty.mono (by simp) (Nat.le_refl _)⟩
theorem RightI.put {k : Nat} {st : NSt} (h : RightI k st) (nm s : List UInt8) : RightI (k + 1) (nPut st nm s).2.2 :=
  ⟨h.inv.put h.ok (by omega) nm s, h.full.put nm s, (h.ok.put (by omega) nm s).mono (V := 4000 * ((k + 1 : Nat) : Int)) (m := k + 1) (by push_cast; omega) (Nat.le_refl _)⟩
theorem RightI.drop {k : Nat} {st : NSt} (h : RightI k st) (nm : List UInt8) : RightI (k + 1) (nDrop st nm).2 :=
  ⟨h.inv.drop h.ok nm, h.full.drop h.inv nm, (h.ok.drop nm).mono (by push_cast; omega) (by omega)⟩
theorem RightI.sweep {k : Nat} {st : NSt} (h : RightI k st) : RightI (k + 1) (nSweep st).2 :=
  ⟨h.inv.sweep, h.full.sweep, h.ok.sweep.mono (by push_cast; omega) (by omega)⟩
theorem RightI.of {k : Nat} {st : NSt} (h : RightI k st) (hk : k ≤ 100) (a : Nat → Addr) (p : Addr) (F : Nat → Prop) (w : World) (hE : ErrW w a) (hP : PNode w p F st) :
    Calls Tryz.prog 27 #[.pointer (some p)] w fun e w' => e = .returned .nilIface ∧ Below w.heap.size w w' :=
  scrubOf_right a p F (4000 * k) k st w h.inv h.full h.ok (by omega) hk (hE.on (by decide)) hP
theorem BnsSt.cell2 {base : Nat} {W : World} {v : Value} {ps : List BP} (h : BnsSt base W v ps) {i : Nat} (hi : i < ps.length) : ∃ b o c, v = .slice (some ⟨b, o, none⟩) ps.length c ∧ W.cell? ⟨b, o + i * 3 + 2, none⟩ = some ps[i].2 := by
  rcases h.row.2 with ⟨_, e⟩ | ⟨g, cap, cur, hv, _⟩
  · omega
  · obtain ⟨_, _, a2⟩ := ldCells_at ps i hi
    have c2 := h.row.cells (g := g) (by rw [hv]; rfl) (i * 3 + 2) _ a2
    simp only [add_plain] at c2
    exact ⟨g, 0, cap, hv, by rw [Nat.zero_add]; exact c2⟩
set_option maxRecDepth 100000 in
set_option maxHeartbeats 16000000 in
theorem scrubRight_any (a : Nat → Addr) (vl : Value) (l : List Act3) (at0 : Int) (w : World) (hE : ErrW w a) (hv : Acts3At w vl l) :
    Calls Tryz.prog 5 #[vl, .int .i64 at0] w fun e w' => e = .returned (.bool true) ∧ Below w.heap.size w w' := by
  have HEE : Hid (∀ W, Below w.heap.size w W → ErrW W a) := fun W hb => hE.below hb (Nat.le_refl _)
  have HV : Hid (Acts3At w vl l) := hv
  obtain ⟨pa, ca, rfl, _⟩ := hv
  obtain ⟨iR, hiR, zR0, zR1, zR2⟩ := info_parts infoRcp
  obtain ⟨iB, hiB, zB0, zB1, zB2⟩ := info_parts infoLoad
  have HGL : Hid (∀ i, ([4, 10] : List Nat).contains i = true → errG i < w.heap.size) := fun i hi => lt_of_cell ((hE.on (L := [4, 10]) (by decide)).glob i hi)
  clear hE
  go_enter Tryz.func5, Tryz.ntmps5
  go_wp2_with fail
  refine (scrubbed_any a w (HEE.out _ (Below.refl _ _))).mono ?_
  rintro e w1 ⟨rfl, hb1⟩
  have HB1 := hideN hb1
  clear hb1
  go_wp2_with fail
  refine (longActs3_any _ l 60 w1 (by decide) (HV.out.below HB1.out)).mono ?_
  rintro e w2 ⟨n, rfl, hw2, hn, h0⟩
  subst hw2
  rcases hn with rfl | rfl
  rotate_left
  · go_wp2_with fail
    go_ret
    exact ⟨rfl, HB1.out⟩
  obtain ⟨hlen, hfit⟩ := h0 rfl
  have HFIT := hideN hfit
  have hlen' : (l.length : Int) ≤ 60 := by omega
  clear h0 hfit
  go_wp2_with fail
  refine (nNew_any w2).mono ?_
  rintro e w3 ⟨p, F0, rfl, hP3, hF3, hb3⟩
  have HS3 : Hid (KeepSt w w3 p F0 ⟨[], []⟩ []) := ⟨HB1.out.trans (hb3.mono HB1.out.size), hP3, fun j hj => Nat.le_trans HB1.out.size (hF3 j hj), TRows.nil w w3 F0⟩
  clear hP3 hF3 hb3 HB1
  go_wp2_with fail
  go_loopw [7] (fun iv wr => ∃ (k : Nat) (st : NSt) (F' : Nat → Prop), k ≤ l.length ∧ iv = .int .i64 k ∧ Hid (RightI k st) ∧ Hid (KeepSt w wr p F' st [])) (fun iv _ => l.length - (intOf iv).toNat)
  case atStart => exact ⟨0, ⟨[], []⟩, F0, Nat.zero_le _, rfl, RightI.start, HS3.out⟩
  case round =>
    clear HS3
    obtain ⟨k, st, F', hk, rfl, HI, HS⟩ := hrel
    by_cases hlt : k < l.length
    · have hlt' : (k : Int) < (l.length : Int) := by omega
      have hk0 : (0 : Int) ≤ (k : Int) := by omega
      obtain ⟨_, _, hve, hcell⟩ := HV.out.below HS.out.below
      obtain ⟨rfl, rfl⟩ : pa = _ ∧ ca = _ := by simpa using hve
      obtain ⟨b, o, rfl, _, c0, c1, c2⟩ := hcell k hlt
      obtain ⟨ht1, ht2⟩ := HFIT.out k hlt
      obtain ⟨⟨y1, y2, y3⟩, hy⟩ : ∃ y, l[k] = y := ⟨_, rfl⟩
      rw [hy] at c0 c1 c2 ht1 ht2
      simp only at c0 c1 c2 ht1 ht2
      clear hy hcell hve
      have hal := (Below.refl wr.heap.size wr).alloc (Nat.le_refl _) (.cells #[.string y1, .string y2, .string y3] 37)
      have HBA := hideN (Blk.new wr #[.string y1, .string y2, .string y3] 37)
      have HS1 := hideN (HS.out.next hal)
      have a0 := HBA.out.cell (i := 0) rfl
      have a1 := HBA.out.cell (i := 1) rfl
      have a2 := HBA.out.cell (i := 2) rfl
      have HKB : Hid (4000 * (k : Int) + 5000 ≤ 1000000) := by show _ ≤ _; omega
      have HKH : Hid (k + 1 ≤ 100) := by show _ ≤ _; omega
      clear hal
      by_cases hput : y1 = ⟨#[112, 117, 116]⟩
      · subst hput
        have HPUT := hideN (fun W (hb : Below w.heap.size w W) (hP : PNode W p F' st) => nodePut_any a y2 y3 p F' (4000 * (k : Int)) st W (by omega) (by omega) ⟨by omega, by have := HKB.out; omega⟩ HI.out.ok.bins (by have := HI.out.ok.many; omega) ((HEE.out _ hb).on (by decide)) hP)
        have HIB := hideN (HI.out.put y2.data.toList y3.data.toList)
        obtain ⟨⟨fr, ec, stB⟩, hr⟩ : ∃ r, nPut st y2.data.toList y3.data.toList = r := ⟨_, rfl⟩
        unfold NPutPost at HPUT
        rw [hr] at HPUT HIB
        simp only at HPUT HIB
        clear hr
        go_wp2_with fail
        generalize wr.alloc (.cells #[.string ⟨#[112, 117, 116]⟩, .string y2, .string y3] 37) = W1 at *
        refine (HPUT.out W1 HS1.out.below HS1.out.node).mono ?_
        rintro e w4 ⟨ev4, FB, rfl, he4, hP4, hF4, ho4⟩
        have HS4 := hideN (HS1.out.prog hP4 hF4 ho4)
        clear hP4 hF4 ho4 he4 a0 a1 a2 HS1 HBA HPUT
        go_wp2_with fail
        refine (HIB.out.of HKH.out a p FB w4 (HEE.out _ HS4.out.below) HS4.out.node).mono ?_
        rintro e w5 ⟨rfl, hb5⟩
        have HS5 := hideN (HS4.out.next hb5)
        clear hb5 HS4
        go_wp2_with fail
        go_roundw
        case rel => exact ⟨k + 1, stB, FB, hlt, by go_num, HIB.out, HS5.out⟩
        case measure => simp [intOf]; omega
      · by_cases hdrop : y1 = ⟨#[100, 114, 111, 112]⟩
        · subst hdrop
          have n1 : ((⟨#[100, 114, 111, 112]⟩ : ByteArray).toList == [112, 117, 116]) = false := strK_ne_lit hput
          clear hput
          have HDROP := hideN (fun W (hb : Below w.heap.size w W) (hP : PNode W p F' st) (hn : ∀ j, F' j → w.heap.size ≤ j) => nodeDrop_any a y2 p F' st W (by omega) (fun b hb => (HI.out.ok.bins b hb).mono (by have := HKB.out; omega)) (fun f hf => (HI.out.ok.files f hf).1) HI.out.inv.has ((HEE.out _ hb).on (by decide)) (fun i hi hf => by have h1 := HGL.out i hi; have h2 := hn _ hf; omega) hP)
          have HIB := hideN (HI.out.drop y2.data.toList)
          obtain ⟨⟨dc, stB⟩, hr⟩ : ∃ r, nDrop st y2.data.toList = r := ⟨_, rfl⟩
          unfold NDropPost at HDROP
          rw [hr] at HDROP HIB
          simp only at HDROP HIB
          clear hr
          go_wp2_with fail
          generalize wr.alloc (.cells #[.string ⟨#[100, 114, 111, 112]⟩, .string y2, .string y3] 37) = W1 at *
          refine (HDROP.out W1 HS1.out.below HS1.out.node HS1.out.new).mono ?_
          rintro e w4 ⟨ev4, FB, rfl, he4, hP4, hF4, ho4⟩
          have HS4 := hideN (HS1.out.prog hP4 hF4 ho4)
          clear hP4 hF4 ho4 he4 a0 a1 a2 HS1 HBA HDROP
          go_wp2_with fail
          refine (HIB.out.of HKH.out a p FB w4 (HEE.out _ HS4.out.below) HS4.out.node).mono ?_
          rintro e w5 ⟨rfl, hb5⟩
          have HS5 := hideN (HS4.out.next hb5)
          clear hb5 HS4
          go_wp2_with fail
          go_roundw
          case rel => exact ⟨k + 1, stB, FB, hlt, by go_num, HIB.out, HS5.out⟩
          case measure => simp [intOf]; omega
        · have n1 : (y1.toList == [112, 117, 116]) = false := strK_ne_lit hput
          have n2 : (y1.toList == [100, 114, 111, 112]) = false := strK_ne_lit hdrop
          clear hput hdrop
          have HSW := hideN (fun W (hP : PNode W p F' st) => nodeSweep_any p F' st W (fun b hb => (HI.out.ok.bins b hb).mono (by have := HKB.out; omega)) (by have := HI.out.ok.many; omega) hP)
          have HIB := hideN HI.out.sweep
          obtain ⟨⟨gone, stB⟩, hr⟩ : ∃ r, nSweep st = r := ⟨_, rfl⟩
          unfold NSweepPost at HSW
          rw [hr] at HSW HIB
          simp only at HSW HIB
          clear hr
          go_wp2_with fail
          generalize wr.alloc (.cells #[.string y1, .string y2, .string y3] 37) = W1 at *
          refine (HSW.out W1 HS1.out.node).mono ?_
          rintro e w4 ⟨FB, rfl, hP4, hF4, ho4⟩
          have HS4 := hideN (HS1.out.prog hP4 hF4 ho4)
          clear hP4 hF4 ho4 a0 a1 a2 HS1 HBA HSW
          go_wp2_with fail
          refine (HIB.out.of HKH.out a p FB w4 (HEE.out _ HS4.out.below) HS4.out.node).mono ?_
          rintro e w5 ⟨rfl, hb5⟩
          have HS5 := hideN (HS4.out.next hb5)
          clear hb5 HS4
          go_wp2_with fail
          go_roundw
          case rel => exact ⟨k + 1, stB, FB, hlt, by go_num, HIB.out, HS5.out⟩
          case measure => simp [intOf]; omega
    · have hge : (l.length : Int) ≤ (k : Int) := by omega
      have HFL := hideN HI.out.ok.files
      have HAP := hideN HI.out.inv.fap
      have HNM := hideN (nodeNames_any p F' st wr (by have := HI.out.full.fmany; omega) HS.out.node)
      go_wp2_with fail
      refine HNM.out.mono ?_
      rintro e wA ⟨vn, ss, rfl, hss, hrow, hbA⟩
      obtain ⟨hs1, hs2⟩ := sorted_names hss (by rw [List.pairwise_map]; exact HAP.out)
      obtain ⟨NS, hNS⟩ : ∃ NS, ss.mergeSort (fun x y => decide (x ≤ y)) = NS := ⟨_, rfl⟩
      rw [hNS] at hs1 hs2 hrow
      have hlenN : ss.length = NS.length := by rw [← hNS, List.length_mergeSort]
      rw [hlenN] at hrow
      have HS1 := hideN hs1
      have HS2 := hideN hs2
      have HSA := hideN (HS.out.next hbA)
      have HPE := hideN (files_named HAP.out hs1)
      have hnl : (NS.length : Int) ≤ 30 := by have h1 := hs1.length_eq; have h2 := HI.out.full.fmany; rw [List.length_map] at h1; omega
      have HCN : Hid (NS ≠ [] → ∃ g, (∃ c, vn = .slice (some ⟨g, 0, none⟩) NS.length c) ∧ g < wA.heap.size ∧ ∀ i (hi : i < NS.length), wA.cell? ⟨g, i, none⟩ = some (.string ⟨NS[i].toArray⟩)) := fun hne => by
        rcases hrow.2 with ⟨_, hz⟩ | ⟨g, cap, cur, hv, _, hb, _⟩
        · exact absurd (List.length_eq_zero_iff.1 hz) hne
        · refine ⟨g, ⟨cap, hv⟩, lt_of_block hb, fun i hi => ?_⟩
          have c1 := hrow.cells (g := g) (by rw [hv]; rfl) i (encStr NS[i]) (by simp [hi])
          simp only [add_plain] at c1
          exact c1
      obtain ⟨pn, cn, hvn⟩ := row_shapeK hrow
      subst hvn
      clear hss hs1 hs2 hNS hlenN hrow hbA HNM HS hge hlt
      go_wp2_with fail
      go_loopw [9, 11] (fun v iv wq => ∃ (j : Nat) (ps : List RP), j ≤ NS.length ∧ iv = .int .i64 j ∧ Hid (ps.map (·.1) = (NS.take j).map (fun n => (n, (nFile st.files n).getD []))) ∧ Hid (FlsSt wA wq v ps) ∧ Hid (Below wA.heap.size wA wq)) (fun _ iv _ => NS.length - (intOf iv).toNat)
      case atStart => exact ⟨0, [], Nat.zero_le _, rfl, rfl, FlsSt.nil _ _, Below.refl _ _⟩
      case round =>
        obtain ⟨j, ps, hj, rfl, HPS, HFS, HB⟩ := hrel
        have HPL : Hid (ps.length = j) := by
          show _ = _
          have := congrArg List.length HPS.out
          rw [List.length_map, List.length_map, List.length_take] at this
          omega
        by_cases hjl : j < NS.length
        · have hjl' : (j : Int) < (NS.length : Int) := by omega
          have hj0 : (0 : Int) ≤ (j : Int) := by omega
          obtain ⟨g, ⟨cg, hvg⟩, hgl, hcell⟩ := HCN.out (fun e => by rw [e] at hjl; simp at hjl)
          obtain ⟨rfl, rfl⟩ : pn = some ⟨g, 0, none⟩ ∧ cn = cg := by simpa using hvg
          have d0 := (HB.out.cell (p := ⟨g, j, none⟩) hgl).trans (hcell j hjl)
          have HTK := hideN (List.take_succ_eq_append_getElem hjl)
          have hxm : NS[j] ∈ st.files.map (·.1) := HS1.out.mem_iff.1 (List.getElem_mem hjl)
          obtain ⟨x, hx⟩ : ∃ x, NS[j] = x := ⟨_, rfl⟩
          rw [hx] at d0 HTK hxm
          obtain ⟨⟨f1, s⟩, hf, rfl⟩ := List.mem_map.1 hxm
          simp only at d0 HTK
          have hnf := nFile_of_mem HAP.out hf
          obtain ⟨hs4, hnm⟩ := HFL.out _ hf
          simp only at hs4 hnm
          have hnl12 := isName_len hnm
          obtain ⟨X, hX⟩ : ∃ X : ByteArray, (⟨f1.toArray⟩ : ByteArray) = X := ⟨_, rfl⟩
          have hXd : X.data.toList = f1 := by rw [← hX]
          have hXs : X.size ≤ 50000 := by
            have : X.data.toList.length = X.size := by rw [Array.length_toList]; rfl
            rw [hXd] at this
            omega
          have HREC := hideN (nodeRecipe_any a X p F' st wr hXs (fun f hf => by have h1 := pieces_len_le f.2; have h2 := (HFL.out f hf).1; unfold idsOf; rw [List.length_map]; omega) ((HEE.out _ (HSA.out.below.trans (HB.out.mono HSA.out.below.size))).on (by decide)) (HSA.out.node.below HB.out))
          rw [hXd, hnf] at HREC
          unfold RecPost at HREC
          simp only at HREC
          rw [hX] at d0
          have HX := hideN hX
          have HNF := hideN hnf
          obtain ⟨PP, hPP⟩ : ∃ PP, pmore 2166136261 s = PP := ⟨_, rfl⟩
          obtain ⟨LL, hLL⟩ : ∃ LL, (s.length : Int) = LL := ⟨_, rfl⟩
          have HPP := hideN hPP
          have HLL := hideN hLL
          rw [hPP, hLL] at HREC
          have HRN : Hid (Calls Tryz.prog 12 #[.pointer (some p), .string X] wr fun e w' => ∃ (q : Option Addr) (c : Nat), e = .returned (.tuple #[.agg #[.string X, .int .i64 LL, .int .u32 (PP : Nat), .slice q (idsOf s).length c], .nilIface]) ∧ IdsIn wr.heap.size w' (.slice q (idsOf s).length c) (idsOf s) ∧ Below wr.heap.size wr w') := HREC.out.mono fun e w' ⟨⟨v, he, hi⟩, hbw⟩ => by
            obtain ⟨q, c, hq, hc⟩ := hi
            subst hq
            exact ⟨q, c, he, ⟨q, c, rfl, hc⟩, hbw⟩
          obtain ⟨idl, hidl⟩ : ∃ idl, (idsOf s).length = idl := ⟨_, rfl⟩
          have HIDL := hideN hidl
          rw [hidl] at HRN
          have HRW : Hid (∀ j, u9.ownBlock = some j → j < wr.heap.size) := fun j hj => row_lt HFS.out.row hj
          clear hvg hgl hcell hxm hx hf hnf hs4 hnm hnl12 hX hXd hXs hPP hLL hidl HREC
          go_wp2_with fail
          refine HRN.out.mono ?_
          rintro e w4 ⟨q4, c4, rfl, hi4, hb4⟩
          have hal5 := (Below.refl w4.heap.size w4).alloc (Nat.le_refl _) (.cells #[.string X, .int .i64 LL, .int .u32 (PP : Nat), .slice q4 idl c4] 40)
          have HR5 := hideN (Blk.new w4 #[.string X, .int .i64 LL, .int .u32 (PP : Nat), .slice q4 idl c4] 40)
          have HFS5 := hideN ((HFS.out.next hb4).next hal5)
          have HI5 := hideN ((hi4.below hal5).at)
          have HIB : Hid (idsOf s ≠ [] → ∀ j, (Value.slice q4 idl c4).ownBlock = some j → wr.heap.size ≤ j) := fun hne j hj => by
            obtain ⟨p', c', hv', hc'⟩ := hi4
            obtain ⟨b', o', hp', hle, _⟩ := hc' 0 (List.length_pos_iff.2 hne)
            have : q4 = p' := by have := hv'; simp at this; exact this.1
            subst this hp'
            have : b' = j := by simpa [Value.ownBlock] using hj
            omega
          have HB5 : Hid (Below wA.heap.size wA _) := hideN ((HB.out.trans (hb4.mono HB.out.size)).trans (hal5.mono (Nat.le_trans HB.out.size hb4.size)))
          obtain ⟨W5, hW5⟩ : ∃ W5, w4.alloc (.cells #[.string X, .int .i64 LL, .int .u32 (PP : Nat), .slice q4 idl c4] 40) = W5 := ⟨_, rfl⟩
          rw [hW5] at HR5 HFS5 HI5 HB5
          have hs5 : W5.heap.size = w4.heap.size + 1 := by rw [← hW5]; simp
          have r0 := HR5.out.cell (i := 0) rfl
          have r1 := HR5.out.cell (i := 1) rfl
          have r2 := HR5.out.cell (i := 2) rfl
          have r3 := HR5.out.cell (i := 3) rfl
          have HS5 := hideN hs5
          have HW5 := hideN hW5
          rw [← hW5] at r0 r1 r2 r3
          have HPLN : Hid (ps.length ≤ 30) := by show _ ≤ _; rw [HPL.out]; omega
          have HOWN5 : Hid ((w4.alloc (.cells #[.string X, .int .i64 LL, .int .u32 (PP : Nat), .slice q4 idl c4] 40)).ownsRow wA.heap.size 40 4 u9 ps.length (rcpCells ps)) := by rw [hW5]; exact HFS5.out.row
          clear hal5 hb4 hi4 hW5 hs5 HRN
          go_wp2_with (at_builtin; refine wpList_append_own_at _ rfl (.tmp 84) (.tmp 86) 31 rfl wA.heap.size 40 iR (rcpV ⟨#[]⟩ 0 0 (.slice none 0 0)) 4 56 Tryz.underlying31 hiR zR0 zR1 zR2 rfl (by decide) _ _ _ rfl (HOWN5.out.alloc _) ⟨w4.heap.size + 1, 0, none⟩ 1 1 [.string X, .int .i64 LL, .int .u32 (PP : Nat), .slice q4 idl c4] rfl rfl ?c1 ?c2 ?c3 ?c4 ?c5 ?_)
          case c1 =>
            intro j u hj
            rw [add_plain]
            exact new_cell _ #[.string X, .int .i64 LL, .int .u32 (PP : Nat), .slice q4 idl c4] _ (by rw [← hj]; simp) (by simp)
          case c2 => intro u hu; simp at hu; rcases hu with rfl | rfl | rfl | rfl <;> rfl
          case c3 => have := HPLN.out; unfold maxLen; omega
          case c4 => have := HPLN.out; omega
          case c5 => have h1 := HB5.out.size; have h2 := HS5.out; simp; omega
          intro v6 w6 hown6 hg6 _ hv6
          rw [HW5.out] at hg6
          have hal6 := (Below.refl W5.heap.size W5).alloc (Nat.le_refl _) (.cells #[.string X, .int .i64 LL, .int .u32 (PP : Nat), .slice q4 idl c4] 40)
          have HFS6 : Hid (FlsSt wA w6 v6 (ps ++ [((f1, s), .slice q4 idl c4)])) := (HFS5.out.next hal6).app (q := ((f1, s), .slice q4 idl c4)) (HI5.out.below hal6) (fun hne j hj e => by
            have h1 := HIB.out hne j hj
            have h2 := HRW.out j e
            omega) hg6 (by
            rw [rcpCells_append]
            have : rcpCells [((f1, s), Value.slice q4 idl c4)] = [.string X, .int .i64 LL, .int .u32 (PP : Nat), .slice q4 idl c4] := by rw [rcpCells, rcpCells]; simp only; rw [HX.out, HLL.out, HPP.out]
            rw [this]
            exact hown6) (by
            rcases hv6 with h | h
            · exact .inl h
            · exact .inr (by rw [h]; simp [HS5.out]))
          have HB6 : Hid (Below wA.heap.size wA w6) := (HB5.out.trans (hal6.mono HB5.out.size)).trans ⟨hg6.os, hg6.tape, hg6.output, hg6.size, fun j hj => hg6.block j (by have := HB5.out.size; simp; omega) (fun e => by have := row_ge HFS5.out.row e.symm; omega)⟩
          have HPS6 : Hid ((ps ++ [((f1, s), Value.slice q4 idl c4)]).map (·.1) = (NS.take (j + 1)).map (fun n => (n, (nFile st.files n).getD []))) := by
            show _ = _
            rw [List.map_append, HPS.out, HTK.out, List.map_append]
            congr 1
            simp only [List.map_cons, List.map_nil]
            rw [HNF.out]
            rfl
          clear hown6 hg6 hv6 hal6 r0 r1 r2 r3 d0
          go_wp2_with fail
          go_roundw
          case rel => exact ⟨j + 1, _, hjl, by go_num, HPS6.out, HFS6.out, HB6.out⟩
          case measure => simp [intOf]; omega
        · have hge : (NS.length : Int) ≤ (j : Int) := by omega
          have hke : NS.take j = NS := List.take_of_length_le (by omega)
          rw [hke] at HPS
          have hra : RcpsAt wr u9 ((NS.map fun n => (n, (nFile st.files n).getD [])).map rcpOf) := by rw [← HPS.out, List.map_map]; exact HFS.out.at
          have HFO : Hid ((NS.map fun n => (n, (nFile st.files n).getD [])).Pairwise (fun f g => f.1 < g.1)) := by show List.Pairwise _ _; rw [List.pairwise_map]; exact HS2.out
          have HFP := HPE
          obtain ⟨FL, hFL⟩ : ∃ FL, (NS.map fun n => (n, (nFile st.files n).getD [])) = FL := ⟨_, rfl⟩
          rw [hFL] at hra HFO HFP
          obtain ⟨FS, hFS⟩ : ∃ FS, FL.map rcpOf = FS := ⟨_, rfl⟩
          rw [hFS] at hra
          have HFSE := hideN hFS
          obtain ⟨qF, cF, hvF, _⟩ := id hra
          subst hvF
          have HSC := hideN (HSA.out.next HB.out)
          have HRA := hideN hra
          have HAPB := hideN HI.out.inv.bap
          have HBK := hideN (nok_bins HI.out.ok (by omega) HI.out.full)
          have HRP := hideN (nodeReps_any p F' st wr (by have := HI.out.ok.many; omega) HSC.out.node)
          clear hke hFL hFS hra HPS HFS HB HPE HS1 HS2 HCN HSA HPL
          go_wp2_with fail
          refine HRP.out.mono ?_
          rintro e wB ⟨vr, RS, rfl, hr1, hr2, hids, hbB⟩
          have HR1 := hideN hr1
          have HR2 := hideN hr2
          have HSB := hideN (HSC.out.next hbB)
          have HRB := hideN (HRA.out.below hbB)
          have HPE := hideN (bins_named HAPB.out hr1)
          have hrl : (RS.length : Int) ≤ 100 := by have h1 := hr1.length_eq; have h2 := HI.out.ok.many; rw [List.length_map] at h1; omega
          obtain ⟨pn2, cn2, hvr, hcell2⟩ := hids
          have HCN := hideN hcell2
          subst hvr
          clear hr1 hr2 hbB hcell2 HRP HSC HRA hge
          go_wp2_with fail
          go_loopw [15, 16] (fun v iv wq => ∃ (j : Nat) (ps : List BP), j ≤ RS.length ∧ iv = .int .i64 j ∧ Hid (ps.map (·.1) = (RS.take j).map (fun n => (n, (nBin st.bins n).getD []))) ∧ Hid (BnsSt wB.heap.size wq v ps) ∧ Hid (Below wB.heap.size wB wq)) (fun _ iv _ => RS.length - (intOf iv).toNat)
          case atStart => exact ⟨0, [], Nat.zero_le _, rfl, rfl, BnsSt.nil _ _, Below.refl _ _⟩
          case round =>
            obtain ⟨j, ps, hj, rfl, HPS, HFS, HB⟩ := hrel
            have HPL : Hid (ps.length = j) := by
              show _ = _
              have := congrArg List.length HPS.out
              rw [List.length_map, List.length_map, List.length_take] at this
              omega
            by_cases hjl : j < RS.length
            · have hjl' : (j : Int) < (RS.length : Int) := by omega
              have hj0 : (0 : Int) ≤ (j : Int) := by omega
              obtain ⟨g, og, rfl, hgl, e0, e1⟩ := HCN.out j hjl
              have HTK := hideN (List.take_succ_eq_append_getElem hjl)
              have hxm : RS[j] ∈ st.bins.map (·.1) := HR1.out.mem_iff.1 (List.getElem_mem hjl)
              obtain ⟨x, hx⟩ : ∃ x, RS[j] = x := ⟨_, rfl⟩
              rw [hx] at e0 e1 HTK hxm
              obtain ⟨⟨⟨xp, xl⟩, bl⟩, hf, rfl⟩ := List.mem_map.1 hxm
              simp only at e0 e1 HTK
              have HCE : Hid (∀ W', Below wB.heap.size wB W' → W'.cell? ⟨g, og + j * 2, none⟩ = some (.int .u32 (xp : Nat)) ∧ W'.cell? ⟨g, og + j * 2 + 1, none⟩ = some (.int .i64 xl)) := fun W' h => ⟨(h.cell (p := ⟨g, og + j * 2, none⟩) (lt_of_cell e0)).trans e0, (h.cell (p := ⟨g, og + j * 2 + 1, none⟩) (lt_of_cell e0)).trans e1⟩
              obtain ⟨d0, d1⟩ := HCE.out _ HB.out
              have hnf := nBin_of_mem HAPB.out hf
              have HNF := hideN hnf
              obtain ⟨hok, hwf⟩ := HBK.out _ hf
              have HOK := hideN hok
              have HBIN : Hid (Calls Tryz.prog 16 #[.pointer (some p), idV (xp : Nat) xl] wr fun e w' => ∃ p' F', e = .returned (.pointer (some p')) ∧ PBin0 w' p' F' bl ∧ Below wr.heap.size wr w') := by
                have h := nodeBin_any (xp, xl) p F' st wr hwf (HSB.out.node.below HB.out)
                rw [hnf] at h
                exact h.mono fun e w' ⟨⟨p', F', h1, h2, _⟩, h4⟩ => ⟨p', F', h1, h2, h4⟩
              have HPLN : Hid (ps.length ≤ 100) := by show _ ≤ _; rw [HPL.out]; omega
              clear e0 e1 hx hxm hf hnf hok hwf hgl
              go_wp2_with fail
              refine HBIN.out.mono ?_
              rintro e w6 ⟨p6, F6, rfl, hp6, hb6⟩
              have HB6 := hideN (HB.out.trans (hb6.mono HB.out.size))
              have HFS6 := hideN (HFS.out.next hb6)
              have HP6 := hideN hp6
              clear hp6 hb6 d0 d1 HBIN HB HFS
              obtain ⟨pv, cv, hv⟩ : ∃ pv cv, u15 = .slice pv ps.length cv := by
                rcases HFS6.out.row.2 with ⟨e, e2⟩ | ⟨g', cap, cur, e, _⟩
                · exact ⟨none, 0, by rw [e, e2]⟩
                · exact ⟨_, _, e⟩
              subst hv
              go_wp2_with fail
              obtain ⟨d0, d1⟩ := HCE.out _ HB6.out
              go_region_held3 (fun w' => w'.cell? ⟨g, og + j * 2, none⟩ = some (.int .u32 (xp : Nat)) ∧ w'.cell? ⟨g, og + j * 2 + 1, none⟩ = some (.int .i64 xl)) (first | exact HCE.out _ HB9.out | exact HCE.out _ HB8.out | exact HCE.out _ HB7.out | exact HCE.out _ HB6.out | go_keep) (first
                | (go_at_call 33; refine (pAll_own p6 F6 bl _ HOK.out (HP6.out.next (Below.refl _ w6).drew)).mono ?_; rintro e w7 ⟨v7, rfl, hh7, hb7⟩; have hB7 : Below w6.heap.size w6 w7 := (Below.refl _ w6).drew.trans hb7; have HB7 := hideN (HB6.out.trans (hB7.mono HB6.out.size)); have HH7 := hideN hh7; have HFS7 := hideN (HFS6.out.next hB7); have HSZ7 : Hid (w6.heap.size ≤ w7.heap.size) := hB7.size; obtain ⟨pq, cq, hv7⟩ : ∃ pq cq, v7 = .slice pq bl.length cq := (by obtain ⟨p', c', h1, _⟩ := hh7.1; exact ⟨p', c', h1⟩); subst hv7; have hal8 := (Below.refl w7.heap.size w7).alloc (Nat.le_refl _) (.cells #[.int .u32 (xp : Nat), .int .i64 xl, .slice pq bl.length cq] 60); have HB8 := hideN (HB7.out.trans (hal8.mono HB7.out.size)); clear hh7 hb7 hB7 hal8)
                | (refine step_append_lies _ (by rfl) _ _ _ (by rfl) wB.heap.size 60 iB _ 3 40 Tryz.underlying54 hiB zB0 zB1 zB2 rfl (by decide) (.slice pv ps.length cv) ps.length _ (by rfl) (HFS7.out.row.alloc _) ⟨w7.heap.size, 0, none⟩ 1 1 [.int .u32 (xp : Nat), .int .i64 xl, .slice pq bl.length cq] (by rfl) (by rfl) (World.news_of_block (cs := #[.int .u32 (xp : Nat), .int .i64 xl, .slice pq bl.length cq]) (t := 60) (fr := (0, 0)) (heap_alloc_new w7 _)) (by simp [Value.oneCell']) (by omega) (by unfold maxLen; have := HPLN.out; omega) (by have := HPLN.out; omega) (by simp; have := HB7.out.size; omega) (w7.heap.size + 1) (by simp) ?_; intro gg cap w9 hown9 hgrow hat hglt; have HB9 : Hid (Below wB.heap.size wB w9) := (HB8.out.trans ⟨hgrow.os, hgrow.tape, hgrow.output, hgrow.size, fun j hj => hgrow.block j (Nat.lt_of_lt_of_le hj HB8.out.size) (fun e => by have := row_ge HFS7.out.row e.symm; omega)⟩)))
              have hal8 := (Below.refl w7.heap.size w7).alloc (Nat.le_refl _) (.cells #[.int .u32 (xp : Nat), .int .i64 xl, .slice pq bl.length cq] 60)
              have hsz : wB.heap.size ≤ w6.heap.size := HB6.out.size
              have hsz6 : w6.heap.size ≤ w7.heap.size := HSZ7.out
              have HFS9 : Hid (BnsSt wB.heap.size w9 (.slice (some ⟨gg, 0, none⟩) (ps.length + 1) cap) (ps ++ [(((xp, xl), bl), .slice pq bl.length cq)])) := (HFS7.out.next hal8).app (q := (((xp, xl), bl), .slice pq bl.length cq)) ((HH7.out.mono hsz).below hal8) (fun hne j hj => by
                have h6 := (HH7.out.own hne hj).1
                refine ⟨fun e => ?_, fun x hx hxn e => ?_⟩
                · have := (HFS6.out.row.lt j e).2
                  simp at h6
                  omega
                · have := ((HFS6.out.helds x hx).own hxn e).2
                  simp at h6
                  omega) hgrow (by rw [ldCells_append]; exact hown9) (by
                rcases hat with h | h
                · exact .inl h.symm
                · exact .inr (by rw [h]; simp [Value.ownBlock]))
              have HPS9 : Hid ((ps ++ [(((xp, xl), bl), Value.slice pq bl.length cq)]).map (·.1) = (RS.take (j + 1)).map (fun n => (n, (nBin st.bins n).getD []))) := by
                show _ = _
                rw [List.map_append, HPS.out, HTK.out, List.map_append]
                congr 1
                simp only [List.map_cons, List.map_nil]
                rw [HNF.out]
                rfl
              clear hown9 hgrow hat hglt hal8 d0 d1 hsz hsz6
              go_wp2_with fail
              go_roundw
              case rel => exact ⟨j + 1, _, hjl, by go_num, HPS9.out, HFS9.out, HB9.out⟩
              case measure => simp [intOf]; omega
            · have hge : (RS.length : Int) ≤ (j : Int) := by omega
              have hke : RS.take j = RS := List.take_of_length_le (by omega)
              rw [hke] at HPS
              have hbp : (ps.map (·.1)).Perm st.bins := by rw [HPS.out]; exact HPE.out
              have hbo : (ps.map (·.1)).Pairwise (fun f g => lessB f.1 g.1 = true) := by rw [HPS.out, List.pairwise_map]; exact HR2.out
              have hrx := right_of HI.out.inv HI.out.full HI.out.ok (by omega) HFP.out hbp HFO.out hbo
              rw [HFSE.out] at hrx
              have HRX := hideN hrx
              have HBP := hideN hbp
              have HRL : Hid (ps.length = RS.length) := by show _ = _; have := congrArg List.length HPS.out; rw [List.length_map, List.length_map] at this; exact this
              obtain ⟨pv, cv, hv⟩ : ∃ pv cv, u15 = .slice pv ps.length cv := by
                rcases HFS.out.row.2 with ⟨e, e2⟩ | ⟨g', cap, cur, e, _⟩
                · exact ⟨none, 0, by rw [e, e2]⟩
                · exact ⟨_, _, e⟩
              subst hv
              have HCK := hideN (scrubCheck_any a _ _ FS (ps.map (·.1)) wr HRX.out.1 (HRB.out.below HB.out) HFS.out.at ((HEE.out _ (HSB.out.below.trans (HB.out.mono HSB.out.below.size))).on (by decide)))
              clear hke hbp hbo hrx HPS HR1 HR2 HCN HPE HPL
              go_wp2_with fail
              refine HCK.out.mono ?_
              rintro e w5 ⟨ev, rfl, he, hb5⟩
              rw [binErrs_zero HRX.out.2] at he
              obtain rfl := he.nil
              have HB5 : Hid (Below wB.heap.size wB w5) := HB.out.trans (hb5.mono HB.out.size)
              have HFS5 := hideN (HFS.out.next hb5)
              have HW5 : Hid (Below w.heap.size w w5) := HSB.out.below.trans (HB5.out.mono HSB.out.below.size)
              clear he hb5 HCK HFS HB hge
              by_cases hneg : at0 < 0
              · go_wp2_with fail
                go_ret
                exact ⟨rfl, HW5.out⟩
              by_cases hbig : (RS.length : Int) ≤ at0
              · go_wp2_with fail
                go_ret
                exact ⟨rfl, HW5.out⟩
              obtain ⟨i, rfl⟩ : ∃ i : Nat, at0 = (i : Int) := ⟨at0.toNat, by omega⟩
              have hi : i < ps.length := by rw [HRL.out]; omega
              have hi0 : (0 : Int) ≤ (i : Int) := by omega
              have hi' : (i : Int) < (ps.length : Int) := by omega
              obtain ⟨bm, om, cm, hvm, c2⟩ := HFS5.out.cell2 hi
              obtain ⟨rfl, rfl⟩ : pv = some ⟨bm, om, none⟩ ∧ cv = cm := by simpa using hvm
              have hh := HFS5.out.helds _ (List.getElem_mem hi)
              obtain ⟨⟨⟨br, bl⟩, bv⟩, hps⟩ : ∃ q, ps[i] = q := ⟨_, rfl⟩
              have HPS := hideN hps
              rw [hps] at hh c2
              simp only at hh c2
              clear hps hvm
              by_cases hbl : bl = []
              · obtain ⟨q, c, rfl⟩ : ∃ q c, bv = .slice q 0 c := by
                  obtain ⟨⟨p', c', h1, _⟩, _⟩ := hh
                  exact ⟨p', c', by rw [h1, hbl]; rfl⟩
                clear hh hbl
                go_wp2_with fail
                go_ret
                exact ⟨rfl, HW5.out⟩
              · obtain ⟨g, c, rfl, hg, hfz⟩ := hh.2 hbl
                obtain ⟨x, bl', rfl⟩ : ∃ x r, bl = x :: r := by
                  cases bl with
                  | nil => exact absurd rfl hbl
                  | cons x r => exact ⟨x, r, rfl⟩
                have hmem : (br, x :: bl') ∈ st.bins := HBP.out.mem_iff.1 (List.mem_map.2 ⟨_, List.getElem_mem hi, by rw [HPS.out]⟩)
                obtain ⟨_, _, hu0, hu1⟩ := (HBK.out _ hmem).1.each x (List.mem_cons_self ..)
                have hu : w5.cell? ⟨g, 2, none⟩ = some (.int .i64 x.2.1) := by
                  obtain ⟨p', c', h1, h2⟩ := hh.1
                  obtain ⟨b', o', h3, _, _, _, h4, _⟩ := h2 0 (by simp)
                  obtain ⟨rfl, rfl⟩ : b' = g ∧ o' = 0 := by
                    rw [h3] at h1
                    simp at h1
                    exact ⟨h1.1.1.symm, h1.1.2.symm⟩
                  simpa using h4
                have HMORE := hideN (HFS5.out.more hi (x := x) (l := bl') (by rw [HPS.out]) (by rw [HPS.out]))
                have HANS := hideN (moreAt_ans HRX.out.2 (i := i) (by rw [List.length_map]; exact hi) (by rw [List.getElem_map, HPS.out]; simp))
                obtain ⟨u, hux⟩ : ∃ u, x.2.1 = u := ⟨_, rfl⟩
                rw [hux] at hu hu0 hu1 HMORE
                have hwr : IntKind.i64.wrap (u + 1) = u + 1 := by rw [IntKind.wrap_i64]; omega
                obtain ⟨n, hn⟩ : ∃ n, (x :: bl').length = n := ⟨_, rfl⟩
                have hn0 : ((n : Int) == 0) = false := by rw [beq_eq_false_iff_ne]; rw [← hn, List.length_cons]; omega
                have hnp : (0 : Int) < (n : Int) := by rw [← hn, List.length_cons]; omega
                rw [hn] at c2
                have ho : Off (fun k => k = g) w5 (w5.setCell ⟨g, 2, none⟩ (.int .i64 (u + 1))) := Off.setCell (F := fun k => k = g) (p := ⟨g, 2, none⟩) (Off.refl _ w5) (.inl rfl) _
                have HB6 : Hid (Below wB.heap.size wB _) := hideN (HB5.out.trans (ho.below (n := wB.heap.size) HB5.out.size (fun k hk e => by omega)))
                have HW6 : Hid (Below w.heap.size w _) := hideN (HSB.out.below.trans (HB6.out.mono HSB.out.below.size))
                have HCK := hideN (scrubCheck_any a _ _ FS (moreAt (ps.map (·.1)) i) _ (HRX.out.1.more_at i) (HRB.out.below HB6.out) HMORE.out ((HEE.out _ HW6.out).on (by decide)))
                rw [HANS.out] at HCK
                clear hh hbl hmem hu0 hu1 hux hn ho hg
                go_wp2_with fail
                refine HCK.out.mono ?_
                rintro e w7 ⟨ev, rfl, he, hb7⟩
                have HE7 := hideN he.at
                have HB7 : Hid (Below w.heap.size w w7) := HW6.out.trans (hb7.mono HW6.out.size)
                clear he hb7 HCK
                have HFT := hideN (faulted2_true a ev (11, (i : Int)) w7 (HEE.out _ HB7.out) HE7.out)
                go_wp2_with fail
                refine HFT.out.mono ?_
                rintro e w8 ⟨rfl, hb8⟩
                go_wp2_with fail
                go_ret
                exact ⟨rfl, HB7.out.trans (hb8.mono HB7.out.size)⟩
end Go.Proofs.YtjdobbjdlighpabGreatDoor
