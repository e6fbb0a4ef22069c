/-
  Own text. fault.Bare by a contract, at any error: the error of the same number, without its place.
  Own text. (scrub.count).checkFile by a contract at a file that is wrong by itself, or out of order.
  Own text. (scrub.count).checkBin by a contract, at a bin that is right but for its uses: no error, or ErrUsed.
-/
import Derived.Test.YtcbcjefefmbccabGreatDoorS03
import Derived.Test.YtcbcjefefmbccabGreatDoorS08
import Derived.Test.YtcbcjefefmbccabGreatDoorS16
import Derived.Test.YtcbcjefefmbccabGreatDoorS02
import Derived.Deep.RegionHeld3
namespace Go.Proofs.YtcbcjefefmbccabGreatDoor
open Go.RowKit

set_option maxHeartbeats 4000000 in
theorem fbare_any (a : Nat → Addr) (v : Value) (c p : Int) (w : World) (hE : ErrW w a) (h : ErrIs w a v (c, p)) :
    Calls Tryz.prog 91 #[v] w fun e w' => ∃ ev, e = .returned ev ∧ SentOr a ev c ∧ Below w.heap.size w w' := by
  have hET := hE.et
  have let' := lt_of_cell hET
  have hal := (Below.refl w.heap.size w).alloc (Nat.le_refl _) (.cells #[.pointer none] 186)
  rcases h with ⟨rfl, hc⟩ | ⟨k, hk, rfl, hc⟩ | ⟨k, pb, po, at0, hk, rfl, h0, h1, hc⟩
  · obtain rfl : c = 0 := congrArg Prod.fst hc
    go_enter Tryz.func91, Tryz.ntmps91
    go_wp2_with fail
    refine (as_nil _ _).mono ?_
    rintro e w1 ⟨rfl, hw1⟩
    subst hw1
    go_wp2_with fail
    go_ret
    exact ⟨_, rfl, .inl ⟨rfl, rfl⟩, hal⟩
  · have hc' : c = (k : Int) + 1 := congrArg Prod.fst hc
    go_enter Tryz.func91, Tryz.ntmps91
    go_wp2_with fail
    refine (as_miss_b _ _ _ ?_).mono ?_
    · rw [World.cell?_alloc_lt _ _ ⟨12, 0, none⟩ let']; exact hET
    rintro e w1 ⟨rfl, hb1⟩
    have hb : Below w.heap.size w w1 := hal.trans (hb1.mono (by simp))
    clear hb1 hET let' hal
    go_wp2_with fail
    go_ret
    exact ⟨_, rfl, .inr ⟨k, hk, hc', rfl⟩, hb⟩
  · have hc' : c = (k : Int) + 1 := congrArg Prod.fst hc
    go_enter Tryz.func91, Tryz.ntmps91
    go_wp2_with fail
    refine (as_hit_b _ _ (.pointer none) _ ?_ (by simp) (by simp)).mono ?_
    · rw [World.cell?_alloc_lt _ _ ⟨12, 0, none⟩ let']; exact hET
    rintro e w1 ⟨rfl, hb1, hf1⟩
    have hb : Below w.heap.size w w1 := hal.trans (hb1.mono (by simp))
    have h01 : w1.cell? ⟨pb, po + 1, none⟩ = some (sentV a k) := by rw [hb.cell (p := ⟨pb, po + 1, none⟩) (lt_of_cell h1)]; exact h1
    clear hb1 hET let' hal h0 h1
    go_wp2_with fail
    go_ret
    exact ⟨_, rfl, .inr ⟨k, hk, hc', rfl⟩, hb⟩
end Go.Proofs.YtcbcjefefmbccabGreatDoor
namespace Go.Proofs.YtcbcjefefmbccabGreatDoor
open Go.RowKit Go.Maps

set_option maxRecDepth 100000 in
set_option maxHeartbeats 8000000 in
theorem checkFile_bad (a : Nat → Addr) (vf : Value) (fs : List Rcp) (at' : Nat) (w0 w : World) (hat : at' < fs.length) (mf mu : Nat)
    (hv : RcpsAt w0 vf fs) (hb0 : Below w0.heap.size w0 w) (hfl : fs.length ≤ 31) (hnm : ∀ r ∈ fs, r.1.length ≤ 50000) (hids : ∀ r ∈ fs, r.2.2.2.length ≤ 1000) (hE : ErrW w0 a) (c : Int) (hc : c ≠ 0)
    (hbad : (∃ p, recFault fs[at'].1 fs[at'].2.1 fs[at'].2.2.2 = (c, p)) ∨ (recFault fs[at'].1 fs[at'].2.1 fs[at'].2.2.2 = (0, -1) ∧ (∃ h : 0 < at', ¬ fs[at' - 1].1 < fs[at'].1) ∧ c = 8)) :
    Calls Tryz.prog 62 #[.agg #[.map (some mf), .map (some mu)], vf, .int .i64 at'] w fun e w' => ∃ ev, e = .returned ev ∧ SentOr a ev c ∧ Below w.heap.size w w' := by
  have HE : Hid (∀ W, Below w0.heap.size w0 W → ErrW W a) := fun W hb => hE.below hb (Nat.le_refl _)
  have HB0 := hideN hb0
  obtain ⟨pa, ca, rfl, hcell⟩ := hv
  obtain ⟨b, o, vi, rfl, hR⟩ := hcell at' hat
  have HPR : Hid (∀ (h : 0 < at') W, Below w0.heap.size w0 W → W.cell? ⟨b, o + (at' - 1) * 4, none⟩ = some (.string ⟨fs[at' - 1].1.toArray⟩)) := fun h W hb => by
    obtain ⟨b', o', vi', hp, hR'⟩ := hcell (at' - 1) (by omega)
    obtain ⟨rfl, rfl⟩ : b = b' ∧ o = o' := by simpa using hp
    exact (hR'.below hb).c0
  have hat' : (at' : Int) < (fs.length : Int) := by omega
  have hat0 : (0 : Int) ≤ (at' : Int) := by omega
  have hfl' : (fs.length : Int) ≤ 31 := by omega
  have HNM := hideN (hnm fs[at'] (List.getElem_mem hat))
  have HLEN := hideN (hids fs[at'] (List.getElem_mem hat))
  have HBAD := hideN hbad
  have HC := hideN hc
  obtain ⟨pv, cv, hvi, _⟩ := hR.ids
  have c0 := (hR.below hb0).c0
  have c1 := (hR.below hb0).c1
  have c2 := (hR.below hb0).c2
  have c3 := (hR.below hb0).c3
  have HIDS : Hid (∀ W, Below w0.heap.size w0 W → IdsAt W vi fs[at'].2.2.2) := fun W hb => (hR.below hb).ids
  obtain ⟨⟨rn, rl, rp, ri⟩, hx⟩ : ∃ x, fs[at'] = x := ⟨_, rfl⟩
  rw [hx] at c0 c1 c2 HNM HLEN HBAD HIDS hvi
  simp only at c0 c1 c2 HNM HLEN HBAD HIDS hvi
  subst hvi
  obtain ⟨NM, hNM⟩ : ∃ NM : ByteArray, (⟨rn.toArray⟩ : ByteArray) = NM := ⟨_, rfl⟩
  obtain rfl : rn = NM.data.toList := by rw [← hNM]
  rw [hNM] at c0
  obtain ⟨idl, hidl⟩ : ∃ idl, ri.length = idl := ⟨_, rfl⟩
  have HIDL := hideN hidl
  rw [hidl] at c3 HIDS HLEN
  have HNMZ : Hid (NM.size ≤ 50000) := by
    show NM.size ≤ 50000
    have := HNM.out
    rw [Array.length_toList] at this
    exact this
  clear hnm hids hE hR hcell hx hNM HNM hbad hc
  have hal1 := (Below.refl w.heap.size w).alloc (Nat.le_refl _) (.cells #[.map (some mf), .map (some mu)] 119)
  obtain ⟨W1, hW1⟩ : ∃ W1, w.alloc (.cells #[.map (some mf), .map (some mu)] 119) = W1 := ⟨_, rfl⟩
  rw [hW1] at hal1
  have hs1 : W1.heap.size = w.heap.size + 1 := by rw [← hW1]; simp
  have d0 := (hal1.cell (p := ⟨b, o + at' * 4, none⟩) (lt_of_cell c0)).trans c0
  have d1 := (hal1.cell (p := ⟨b, o + at' * 4 + 1, none⟩) (lt_of_cell c1)).trans c1
  have d2 := (hal1.cell (p := ⟨b, o + at' * 4 + 2, none⟩) (lt_of_cell c2)).trans c2
  have d3 := (hal1.cell (p := ⟨b, o + at' * 4 + 3, none⟩) (lt_of_cell c3)).trans c3
  have hal2 := (Below.refl W1.heap.size W1).alloc (Nat.le_refl _) (.cells #[.string NM, .int .i64 rl, .int .u32 rp, .slice pv idl cv] 40)
  have hbr := Blk.new W1 #[.string NM, .int .i64 rl, .int .u32 rp, .slice pv idl cv] 40
  have hB2 : Below w.heap.size w _ := hal1.trans (hal2.mono hal1.size)
  rw [hs1] at hbr
  have HBR := hideN hbr
  have HB2 := hideN hB2
  have r0 := hbr.cell (i := 0) rfl
  have r1 := hbr.cell (i := 1) rfl
  have r2 := hbr.cell (i := 2) rfl
  have r3 := hbr.cell (i := 3) rfl
  rw [← hW1] at d0 d1 d2 d3 r0 r1 r2 r3
  rw [← hW1] at HBR HB2
  have HSZ0 : Hid (w0.heap.size ≤ w.heap.size) := HB0.out.size
  clear hal1 hal2 hbr hB2 hs1 c0 c1 c2 c3 hW1
  go_enter Tryz.func62, Tryz.ntmps62
  go_wp2_with fail
  generalize ((w.alloc (.cells #[.map (some mf), .map (some mu)] 119)).alloc (.cells #[.string NM, .int .i64 rl, .int .u32 rp, .slice pv idl cv] 40)) = W2 at *
  have HB02 : Hid (Below w0.heap.size w0 W2) := HB0.out.trans (HB2.out.mono HSZ0.out)
  refine (check_any a NM (by unfold maxLen; have := HNMZ.out; omega) rl rp (.slice pv idl cv) ri W2 ((HE.out _ HB02.out).on (by decide)) (HIDS.out _ HB02.out) (by rw [HIDL.out]; unfold maxLen; have := HLEN.out; omega)).mono ?_
  rintro e w3 ⟨ev3, rfl, he3, hb3⟩
  have HB3 : Hid (Below w.heap.size w w3) := HB2.out.trans (hb3.mono HB2.out.size)
  have HB03 : Hid (Below w0.heap.size w0 w3) := HB0.out.trans (HB3.out.mono HSZ0.out)
  have HBR3 := hideN (HBR.out.next hb3)
  clear hb3 r0 r1 r2 r3 d0 d1 d2 d3 HBR HB2 HB02
  rcases HBAD.out with ⟨p, hp⟩ | ⟨hg, ⟨h0, hle⟩, hc8⟩
  · rw [hp] at he3
    have HE3 := hideN he3.at
    obtain ⟨t3, u3, rfl⟩ : ∃ t u, ev3 = .iface t u := by
      rcases he3 with ⟨_, hf⟩ | ⟨_, _, hv, _⟩ | ⟨_, _, _, _, _, _, hv, _⟩
      · exact (HC.out (congrArg Prod.fst hf)).elim
      · exact ⟨_, _, hv⟩
      · exact ⟨_, _, hv⟩
    have HFB := hideN (fbare_any a _ c p w3 (HE.out _ HB03.out) HE3.out)
    clear he3 hp
    go_wp2_with fail
    refine HFB.out.mono ?_
    rintro e w4 ⟨ev4, rfl, hs4, hb4⟩
    have HS4 := hideN hs4
    have HB4 : Hid (Below w.heap.size w w4) := HB3.out.trans (hb4.mono HB3.out.size)
    clear hs4 hb4
    go_wp2_with fail
    go_ret
    exact ⟨_, rfl, HS4.out, HB4.out⟩
  · rw [hg] at he3
    obtain rfl := he3.nil
    have r0 := HBR3.out.cell (i := 0) rfl
    have h0' : (0 : Int) < (at' : Int) := by omega
    have hpr := HPR.out h0 w3 HB03.out
    obtain ⟨m, hm'⟩ : ∃ m, at' - 1 = m := ⟨_, rfl⟩
    have hwm : IntKind.i64.wrap ((at' : Int) - 1) = (m : Int) := by rw [IntKind.wrap_i64]; omega
    obtain ⟨PN, hPN⟩ : ∃ PN : ByteArray, (⟨fs[at' - 1].1.toArray⟩ : ByteArray) = PN := ⟨_, rfl⟩
    have hml : (m : Int) < (fs.length : Int) := by omega
    have hm0 : (0 : Int) ≤ (m : Int) := by omega
    have hle2 : NM.data.toList < PN.data.toList ∨ NM.data.toList = PN.data.toList := by
      rw [← hPN]
      exact List.le_iff_lt_or_eq.1 (List.not_lt.1 hle)
    rw [hPN, hm'] at hpr
    have HC8 := hideN hc8
    have g7 := (HE.out w3 HB03.out).glob 7 (by decide)
    change World.cell? _ ⟨7, 0, none⟩ = _ at g7
    clear hPN hle hg he3 hc8
    rcases hle2 with hlt | heq
    · have hbl : Op.bytesLess NM.toList PN.toList = true := by
        rw [Go.Proofs.bytesLess_eq, ByteArray.toList_eq, ByteArray.toList_eq]
        exact decide_eq_true hlt
      clear hlt
      go_wp2_with fail
      go_quiet (fail)
      have g7 : (w3.drewN nq).cell? ⟨7, 0, none⟩ = some (sentV a 7) := g7
      go_wp2_with fail
      go_ret
      exact ⟨_, rfl, .inr ⟨7, by decide, HC8.out, rfl⟩, HB3.out.trans ((below_of_grown (grown_drewN w3 nq)).mono HB3.out.size)⟩
    · have hbe : (NM.toList == PN.toList) = true := by
        rw [ByteArray.toList_eq, ByteArray.toList_eq, beq_iff_eq]
        exact heq
      have hbl : Op.bytesLess NM.toList PN.toList = false := by
        rw [Go.Proofs.bytesLess_eq, ByteArray.toList_eq, ByteArray.toList_eq, heq]
        exact decide_eq_false (List.lt_irrefl _)
      clear heq
      go_wp2_with fail
      go_quiet (fail)
      have g7 : (w3.drewN nq).cell? ⟨7, 0, none⟩ = some (sentV a 7) := g7
      go_wp2_with fail
      go_ret
      exact ⟨_, rfl, .inr ⟨7, by decide, HC8.out, rfl⟩, HB3.out.trans ((below_of_grown (grown_drewN w3 nq)).mono HB3.out.size)⟩
end Go.Proofs.YtcbcjefefmbccabGreatDoor
namespace Go.Proofs.YtcbcjefefmbccabGreatDoor
open Go.RowKit Go.Maps

def usesErr (U : Use → Option Int) (b : NBin) : Int := if b.2.all (fun h => decide ((U (b.1, h.1)).getD 0 = h.2.1)) = true then 0 else 11
theorem usesErr_bad {U : Use → Option Int} {b : NBin} {h : Hd} (hm : h ∈ b.2) (hne : (U (b.1, h.1)).getD 0 ≠ h.2.1) : usesErr U b = 11 := by
  unfold usesErr
  rw [if_neg]
  intro hall
  have := List.all_eq_true.1 hall h hm
  simp only [decide_eq_true_eq] at this
  exact hne this
theorem usesErr_ok {U : Use → Option Int} {b : NBin} (h : ∀ x ∈ b.2, (U (b.1, x.1)).getD 0 = x.2.1) : usesErr U b = 0 := by
  unfold usesErr
  rw [if_pos (List.all_eq_true.2 fun x hx => by simp only [decide_eq_true_eq]; exact h x hx)]
def BinsPost (a : Nat → Addr) (w : World) (c : Int) (e : Ending) (w' : World) : Prop := ∃ ev, e = .returned ev ∧ ((c = 0 ∧ ev = .nilIface) ∨ (c = 11 ∧ ev = sentV a 10)) ∧ Below w.heap.size w w'
set_option maxRecDepth 100000 in
set_option maxHeartbeats 8000000 in
theorem checkBin_any (a : Nat → Addr) (vb : Value) (bs : List NBin) (at' : Nat) (w : World) (hat : at' < bs.length) (mf mu nF nU : Nat) (F : Nat × Int → Option Int) (U : Use → Option Int)
    (hv : LoadsAt w vb bs) (hbl : bs.length ≤ 100) (hll : ∀ b ∈ bs, b.2.length ≤ 1000) (hwf : ∀ b ∈ bs, WfID b.1 ∧ ∀ h ∈ b.2, WfID h.1) (hord : ∀ (h : 0 < at'), lessB bs[at' - 1].1 bs[at'].1 = true)
    (hpos : (F bs[at'].1).getD 0 ≠ 0) (hids : ∀ h ∈ bs[at'].2, h.1 = idOfL h.2.2 ∧ h.2.2.length ≤ 1000) (hrise : Rise bs[at'].2) (hE : ErrE [10] w a)
    (hF : idInts.Fn w mf nF F) (hU : useInts.Fn w mu nU U) :
    Calls Tryz.prog 64 #[.agg #[.map (some mf), .map (some mu)], vb, .int .i64 at'] w (BinsPost a w (usesErr U bs[at'])) := by
  obtain ⟨pa, ca, rfl, hcell⟩ := hv
  obtain ⟨b, o, vi, rfl, hL⟩ := hcell at' hat
  have HEE : Hid (∀ W, Below w.heap.size w W → ErrE [10] W a) := fun W hb => hE.below hb (Nat.le_refl _)
  have HPR : Hid (∀ (h : 0 < at') W, Below w.heap.size w W → W.cell? ⟨b, o + (at' - 1) * 3, none⟩ = some (.int .u32 (bs[at' - 1].1.1 : Nat)) ∧ W.cell? ⟨b, o + (at' - 1) * 3 + 1, none⟩ = some (.int .i64 bs[at' - 1].1.2)) := fun h W hb => by
    obtain ⟨b', o', vi', hp, hL'⟩ := hcell (at' - 1) (by omega)
    obtain ⟨rfl, rfl⟩ : b = b' ∧ o = o' := by simpa using hp
    exact ⟨(hL'.below hb).c0, (hL'.below hb).c1⟩
  have HF : Hid (∀ W, Below w.heap.size w W → idInts.Fn W mf nF F) := fun W hb => hF.below hb
  have HU : Hid (∀ W, Below w.heap.size w W → useInts.Fn W mu nU U) := fun W hb => hU.below hb
  have hat' : (at' : Int) < (bs.length : Int) := by omega
  have hat0 : (0 : Int) ≤ (at' : Int) := by omega
  have hbl' : (bs.length : Int) ≤ 100 := by omega
  have HORD := hideN hord
  have HHD : Hid (∀ W, Below w.heap.size w W → HeldsAt W vi bs[at'].2) := fun W hb => (hL.below hb).helds
  have HW := hideN (hwf bs[at'] (List.getElem_mem hat))
  have HLL := hideN (hll bs[at'] (List.getElem_mem hat))
  have HPOS := hideN hpos
  have HIDS := hideN hids
  have HRISE := hideN hrise
  obtain ⟨ph, ch, hvi, _⟩ := hL.helds
  have c0 := hL.c0
  have c1 := hL.c1
  have c2 := hL.c2
  obtain ⟨⟨⟨rp, rl⟩, l⟩, hx⟩ : ∃ x, bs[at'] = x := ⟨_, rfl⟩
  rw [hx] at c0 c1 HHD HW HLL HPOS HIDS HRISE HORD hvi ⊢
  simp only at c0 c1 HHD HW HLL HPOS HIDS HRISE HORD hvi
  subst hvi
  have hll' : (l.length : Int) ≤ 1000 := by have := HLL.out; omega
  obtain ⟨RES, hRES⟩ : ∃ RES, usesErr U ((rp, rl), l) = RES := ⟨_, rfl⟩
  have HRES := hideN hRES
  rw [hRES]
  clear hF hU hwf hpos hids hrise hord hE hL hcell hx hll hRES
  have hal1 := (Below.refl w.heap.size w).alloc (Nat.le_refl _) (.cells #[.map (some mf), .map (some mu)] 119)
  have hbc := Blk.new w #[.map (some mf), .map (some mu)] 119
  obtain ⟨W1, hW1⟩ : ∃ W1, w.alloc (.cells #[.map (some mf), .map (some mu)] 119) = W1 := ⟨_, rfl⟩
  rw [hW1] at hal1 hbc
  have hs1 : W1.heap.size = w.heap.size + 1 := by rw [← hW1]; simp
  have d0 := (hal1.cell (p := ⟨b, o + at' * 3, none⟩) (lt_of_cell c0)).trans c0
  have d1 := (hal1.cell (p := ⟨b, o + at' * 3 + 1, none⟩) (lt_of_cell c0)).trans c1
  have d2 := (hal1.cell (p := ⟨b, o + at' * 3 + 2, none⟩) (lt_of_cell c0)).trans c2
  have hal2 := (Below.refl W1.heap.size W1).alloc (Nat.le_refl _) (.cells #[.int .u32 (rp : Nat), .int .i64 rl, .slice ph l.length ch] 60)
  have hbr := Blk.new W1 #[.int .u32 (rp : Nat), .int .i64 rl, .slice ph l.length ch] 60
  rw [hs1] at hbr
  have HBC := hideN (hbc.next hal2)
  have HBR := hideN hbr
  have HB2 : Hid (Below w.heap.size w _) := hideN (hal1.trans (hal2.mono hal1.size))
  rw [← hW1] at d0 d1 d2
  rw [← hW1] at HBC HBR HB2
  clear hal1 hal2 hbc hbr hs1 c0 c1 c2 hW1
  go_enter Tryz.func64, Tryz.ntmps64
  go_wp2_with fail
  clear d0 d1 d2
  generalize ((w.alloc (.cells #[.map (some mf), .map (some mu)] 119)).alloc (.cells #[.int .u32 (rp : Nat), .int .i64 rl, .slice ph l.length ch] 60)) = W2 at *
  have HSZ : Hid (w.heap.size + 1 < W2.heap.size) := HBR.out.lt
  obtain ⟨CB, hCB⟩ : ∃ CB, w.heap.size = CB := ⟨_, rfl⟩
  obtain ⟨LB, hLB⟩ : ∃ LB, w.heap.size + 1 = LB := ⟨_, rfl⟩
  rw [hLB] at HBR HSZ ⊢
  rw [hCB] at HBC ⊢
  clear hLB hCB
  by_cases h0 : 0 < at'
  · have h0' : (0 : Int) < (at' : Int) := by omega
    have hle := HORD.out h0
    obtain ⟨p0, p1⟩ := HPR.out h0 W2 HB2.out
    have HPW : Hid (∀ W, Below w.heap.size w W → W.cell? ⟨b, o + (at' - 1) * 3, none⟩ = some (.int .u32 (bs[at' - 1].1.1 : Nat)) ∧ W.cell? ⟨b, o + (at' - 1) * 3 + 1, none⟩ = some (.int .i64 bs[at' - 1].1.2)) := fun W hb => HPR.out h0 W hb
    obtain ⟨⟨⟨qp, ql⟩, l'⟩, hy⟩ : ∃ y, bs[at' - 1] = y := ⟨_, rfl⟩
    rw [hy] at p0 p1 hle HPW
    simp only at p0 p1 hle HPW
    obtain ⟨m, hkm⟩ : ∃ m, at' - 1 = m := ⟨_, rfl⟩
    rw [hkm] at p0 p1 HPW
    have HLE : Hid ((if (qp : Int) = (rp : Int) then decide (ql < rl) else decide ((qp : Int) < (rp : Int))) = true) := hle
    clear hle hy
    have hm0 : ((m : Int)) < (bs.length : Int) := by omega
    have hm2 : (0 : Int) ≤ (m : Int) := by omega
    have hm3 : IntKind.i64.wrap ((at' : Int) - 1) = (m : Int) := by rw [IntKind.wrap_i64]; omega
    have k0 := HBR.out.cell (i := 0) rfl
    have k1 := HBR.out.cell (i := 1) rfl
    go_region_held3 (fun w' => w'.cell? ⟨b, o + m * 3, none⟩ = some (.int .u32 (qp : Nat)) ∧ w'.cell? ⟨b, o + m * 3 + 1, none⟩ = some (.int .i64 ql) ∧ w'.cell? ⟨LB, 0, none⟩ = some (.int .u32 (rp : Nat)) ∧ w'.cell? ⟨LB, 1, none⟩ = some (.int .i64 rl)) (first | exact ⟨(HPW.out _ HBc.out).1, (HPW.out _ HBc.out).2, HBRc.out.cell (i := 0) rfl, HBRc.out.cell (i := 1) rfl⟩ | go_keep) (first
      | (go_at_call 87; refine (less_any qp ql rp rl _).mono ?_; rintro e Wc ⟨rfl, hbc⟩; rw [HLE.out]; have hBc : Below W2.heap.size W2 Wc := (Below.refl _ W2).drew.trans hbc; have HBCc := hideN (HBC.out.next hBc); have HBRc := hideN (HBR.out.next hBc); have HBc : Hid (Below w.heap.size w Wc) := HB2.out.trans (hBc.mono HB2.out.size); clear hbc hBc))
    clear p0 p1 k0 k1 hm0 hm2 hm3 HBC HBR HB2
    -- at Wc: HBCc HBRc HBc
    have e0 := HBCc.out.cell (i := 0) rfl
    have e1 := HBCc.out.cell (i := 1) rfl
    have k0 := HBRc.out.cell (i := 0) rfl
    have k1 := HBRc.out.cell (i := 1) rfl
    have k2 := HBRc.out.cell (i := 2) rfl
    have l0 := (HF.out _ HBc.out).look1 Tryz.underlying116 (intZero _) HW.out.1
    change (Instr.lookup 116 (.map (some mf)) (idV (rp : Nat) rl) false).run Tryz.prog _ = .ok (.int .i64 ((F (rp, rl)).getD 0)) _ at l0
    have hz : ((F (rp, rl)).getD 0 == 0) = false := beq_eq_false_iff_ne.2 HPOS.out
    obtain ⟨n0, hn0⟩ : ∃ n0, (F (rp, rl)).getD 0 = n0 := ⟨_, rfl⟩
    rw [hn0] at l0 hz
    clear hn0
    go_wp2_with fail
    clear e0 e1 k0 k1 k2 l0 hz
    go_loopw [39] (fun iv wr => ∃ (k : Nat), k ≤ l.length ∧ iv = .int .i64 k ∧ Hid (∀ x ∈ l.take k, (U ((rp, rl), x.1)).getD 0 = x.2.1) ∧ Hid (Blk wr CB #[.map (some mf), .map (some mu)] 119) ∧ Hid (Blk wr LB #[.int .u32 (rp : Nat), .int .i64 rl, .slice ph l.length ch] 60) ∧ Hid (Below w.heap.size w wr)) (fun iv _ => l.length - (intOf iv).toNat)
    case atStart => exact ⟨0, Nat.zero_le _, rfl, fun x hx => by simp at hx, HBCc.out, HBRc.out, HBc.out⟩
    case round =>
      clear HBCc HBRc HBc
      obtain ⟨k, hk, rfl, HALL, HBC0, HBR0, HB0⟩ := hrel
      by_cases hlt : k < l.length
      · have hlt' : (k : Int) < (l.length : Int) := by omega
        have hk0 : (0 : Int) ≤ (k : Int) := by omega
        obtain ⟨_, _, hve, hcell⟩ := HHD.out wr HB0.out
        obtain ⟨rfl, rfl⟩ : ph = _ ∧ ch = _ := by simpa using hve
        obtain ⟨b2, o2, rfl, _, d0, d1, d2, d3⟩ := hcell k hlt
        have HPV : Hid (∀ (h : 0 < k) W, Below w.heap.size w W → W.cell? ⟨b2, o2 + (k - 1) * 4, none⟩ = some (.int .u32 ((l[k - 1]'(by omega)).1.1 : Nat)) ∧ W.cell? ⟨b2, o2 + (k - 1) * 4 + 1, none⟩ = some (.int .i64 (l[k - 1]'(by omega)).1.2)) := fun h W hb => by
          obtain ⟨_, _, hve', hcell'⟩ := HHD.out W hb
          obtain ⟨b', o', hp', _, z0, z1, _⟩ := hcell' (k - 1) (by omega)
          simp only [Value.slice.injEq] at hve'
          rw [← hve'.1] at hp'
          simp only [Option.some.injEq, Addr.mk.injEq] at hp'
          obtain ⟨rfl, rfl, _⟩ := hp'
          exact ⟨z0, z1⟩
        have HRS : Hid (∀ (h : 0 < k), lessB (l[k - 1]'(by omega)).1 l[k].1 = true) := fun h => by
          have := HRISE.out
          unfold Rise at this
          rw [List.pairwise_iff_getElem] at this
          exact this (k - 1) k (by omega) hlt (by omega)
        have HTK := hideN (List.take_succ_eq_append_getElem hlt)
        have HMX := hideN (List.getElem_mem hlt)
        have HIX := hideN (HIDS.out l[k] (List.getElem_mem hlt))
        have HXW := hideN (HW.out.2 l[k] (List.getElem_mem hlt))
        obtain ⟨⟨⟨xp, xl⟩, u, t⟩, hy⟩ : ∃ y, l[k] = y := ⟨_, rfl⟩
        rw [hy] at d0 d1 d2 d3 HTK HMX HIX HXW HRS
        simp only at d0 d1 d2 d3 HIX HXW HRS
        obtain ⟨TX, hT⟩ : ∃ TX : ByteArray, (⟨t.toArray⟩ : ByteArray) = TX := ⟨_, rfl⟩
        rw [hT] at d3
        have HTT : Hid (TX.data.toList = t) := by show _ = _; rw [← hT]
        have HTM : Hid (TX.size ≤ maxLen) := by
          show _ ≤ _
          have : TX.data.toList.length = TX.size := by rw [Array.length_toList]; rfl
          rw [HTT.out] at this
          have := HIX.out.2
          unfold maxLen; omega
        have HP1 : Hid (pmore 2166136261 TX.data.toList = xp) := by rw [HTT.out]; exact (congrArg Prod.fst HIX.out.1).symm
        have HP2 : Hid ((TX.size : Int) = xl) := by
          have h1 : TX.data.toList.length = TX.size := by rw [Array.length_toList]; rfl
          have h2 : xl = ((t.length : Nat) : Int) := congrArg Prod.snd HIX.out.1
          rw [HTT.out] at h1
          show _ = _
          omega
        clear hT hy hcell hve
        have hal := (Below.refl wr.heap.size wr).alloc (Nat.le_refl _) (.cells #[.int .u32 (xp : Nat), .int .i64 xl, .int .i64 u, .string TX] 78)
        have HHB := hideN (Blk.new wr #[.int .u32 (xp : Nat), .int .i64 xl, .int .i64 u, .string TX] 78)
        have HBC1 := hideN (HBC0.out.next hal)
        have HBR1 := hideN (HBR0.out.next hal)
        have HB1 : Hid (Below w.heap.size w _) := hideN (HB0.out.trans (hal.mono HB0.out.size))
        clear hal HBC0 HBR0 HB0
        go_wp2_with fail
        clear d0 d1 d2 d3
        generalize wr.alloc (.cells #[.int .u32 (xp : Nat), .int .i64 xl, .int .i64 u, .string TX] 78) = V1 at *
        generalize wr.heap.size = HB9 at *
        have HCE : Hid (∀ W', Blk W' HB9 #[.int .u32 (xp : Nat), .int .i64 xl, .int .i64 u, .string TX] 78 → W'.cell? ⟨HB9, 0, none⟩ = some (.int .u32 (xp : Nat)) ∧ W'.cell? ⟨HB9, 1, none⟩ = some (.int .i64 xl) ∧ W'.cell? ⟨HB9, 3, none⟩ = some (.string TX)) := fun W' h => ⟨h.cell (i := 0) rfl, h.cell (i := 1) rfl, h.cell (i := 3) rfl⟩
        obtain ⟨y0, y1, y3⟩ := HCE.out V1 HHB.out
        go_region_held3 (fun w' => w'.cell? ⟨HB9, 0, none⟩ = some (.int .u32 (xp : Nat)) ∧ w'.cell? ⟨HB9, 1, none⟩ = some (.int .i64 xl) ∧ w'.cell? ⟨HB9, 3, none⟩ = some (.string TX)) (first | exact HCE.out _ HHB2.out | go_keep) (first
          | (go_at_call 125; refine (id_any TX _ HTM.out).mono ?_; rintro e v2 ⟨rfl, hb2⟩; rw [HP1.out, HP2.out]; have hB2 : Below V1.heap.size V1 v2 := (Below.refl _ V1).drew.trans hb2; have HHB2 := hideN (HHB.out.next hB2); have HBC2 := hideN (HBC1.out.next hB2); have HBR2 := hideN (HBR1.out.next hB2); have HB2' : Hid (Below w.heap.size w v2) := HB1.out.trans (hB2.mono HB1.out.size); clear hb2 hB2))
        clear y0 y1 y3 HHB HBC1 HBR1 HB1
        by_cases hkp : 0 < k
        · have hkp' : (0 : Int) < (k : Int) := by omega
          have hle := HRS.out hkp
          obtain ⟨p0, p1⟩ := HPV.out hkp v2 HB2'.out
          have HPW : Hid (∀ W, Below w.heap.size w W → W.cell? ⟨b2, o2 + (k - 1) * 4, none⟩ = some (.int .u32 ((l[k - 1]'(by omega)).1.1 : Nat)) ∧ W.cell? ⟨b2, o2 + (k - 1) * 4 + 1, none⟩ = some (.int .i64 (l[k - 1]'(by omega)).1.2)) := fun W hb => HPV.out hkp W hb
          obtain ⟨⟨⟨yp, yl⟩, u', t'⟩, hy⟩ : ∃ y, l[k - 1]'(by omega) = y := ⟨_, rfl⟩
          rw [hy] at p0 p1 hle HPW
          simp only at p0 p1 hle HPW
          obtain ⟨m, hkm⟩ : ∃ m, k - 1 = m := ⟨_, rfl⟩
          rw [hkm] at p0 p1 HPW
          have HLE : Hid ((if (yp : Int) = (xp : Int) then decide (yl < xl) else decide ((yp : Int) < (xp : Int))) = true) := hle
          clear hle hy HPV HRS
          have hm0 : ((m : Int)) < (l.length : Int) := by omega
          have hm2 : (0 : Int) ≤ (m : Int) := by omega
          have hm3 : IntKind.i64.wrap ((k : Int) - 1) = (m : Int) := by rw [IntKind.wrap_i64]; omega
          have k2 := HBR2.out.cell (i := 2) rfl
          have m0 := HHB2.out.cell (i := 0) rfl
          have m1 := HHB2.out.cell (i := 1) rfl
          go_wp2_with fail
          go_region_held3 (fun w' => w'.cell? ⟨LB, 2, none⟩ = some (.slice (some ⟨b2, o2, none⟩) l.length ch) ∧ w'.cell? ⟨b2, o2 + m * 4, none⟩ = some (.int .u32 (yp : Nat)) ∧ w'.cell? ⟨b2, o2 + m * 4 + 1, none⟩ = some (.int .i64 yl) ∧ w'.cell? ⟨HB9, 0, none⟩ = some (.int .u32 (xp : Nat)) ∧ w'.cell? ⟨HB9, 1, none⟩ = some (.int .i64 xl)) (first | exact ⟨HBR3.out.cell (i := 2) rfl, (HPW.out _ HB3.out).1, (HPW.out _ HB3.out).2, HHB3.out.cell (i := 0) rfl, HHB3.out.cell (i := 1) rfl⟩ | go_keep) (first
            | (go_at_call 87; refine (less_any yp yl xp xl _).mono ?_; rintro e w3 ⟨rfl, hb3⟩; rw [HLE.out]; have hB3 : Below v2.heap.size v2 w3 := (Below.refl _ v2).drew.trans hb3; have HHB3 := hideN (HHB2.out.next hB3); have HBC3 := hideN (HBC2.out.next hB3); have HBR3 := hideN (HBR2.out.next hB3); have HB3 : Hid (Below w.heap.size w w3) := HB2'.out.trans (hB3.mono HB2'.out.size); clear hb3 hB3))
          clear p0 p1 k2 m0 m1 hm0 hm2 hm3 HHB2 HBC2 HBR2 HB2'
          -- at W3: HBC3 HBR3 HHB3 HB3
          have e1 := HBC3.out.cell (i := 1) rfl
          have k0 := HBR3.out.cell (i := 0) rfl
          have k1 := HBR3.out.cell (i := 1) rfl
          have m0 := HHB3.out.cell (i := 0) rfl
          have m1 := HHB3.out.cell (i := 1) rfl
          have m2 := HHB3.out.cell (i := 2) rfl
          have hBd : Below w.heap.size w w3.drew := HB3.out.trans ((Below.refl _ w3).drew.mono HB3.out.size)
          have lu := (HU.out _ hBd).look1 Tryz.underlying117 (intZero _) (x := ((rp, rl), (xp, xl))) ⟨HW.out.1, HXW.out⟩
          change (Instr.lookup 117 (.map (some mu)) (.agg #[.int .u32 (rp : Nat), .int .i64 rl, .int .u32 (xp : Nat), .int .i64 xl]) false).run Tryz.prog _ = .ok (.int .i64 ((U ((rp, rl), (xp, xl))).getD 0)) _ at lu
          obtain ⟨nu, hnu⟩ : ∃ nu, (U ((rp, rl), (xp, xl))).getD 0 = nu := ⟨_, rfl⟩
          have HNU := hideN hnu
          rw [hnu] at lu
          have HBD := hideN hBd
          have HBC5 : Hid (Blk w3.drew CB #[.map (some mf), .map (some mu)] 119) := HBC3.out
          have HBR5 : Hid (Blk w3.drew LB #[.int .u32 (rp : Nat), .int .i64 rl, .slice (some ⟨b2, o2, none⟩) l.length ch] 60) := HBR3.out
          clear hnu hBd
          by_cases hq : nu = u
          · subst hq
            have HALL2 : Hid (∀ x ∈ l.take (k + 1), (U ((rp, rl), x.1)).getD 0 = x.2.1) := fun x hx => by
              rw [HTK.out] at hx
              rcases List.mem_append.1 hx with hx | hx
              · exact HALL.out x hx
              · rw [List.mem_singleton.1 hx]
                exact HNU.out
            go_wp2_with fail
            go_region
            all_goals
              go_wp2_with fail
              go_roundw
              case rel => exact ⟨k + 1, hlt, by go_num, HALL2.out, HBC5.out, HBR5.out, HBD.out⟩
              case measure => simp [intOf]; omega
          · have hqn : (nu == u) = false := beq_eq_false_iff_ne.2 hq
            have HR : Hid (RES = 11) := by
              show _ = _
              rw [← HRES.out]
              exact usesErr_bad (b := ((rp, rl), l)) HMX.out (by simp only; rw [HNU.out]; exact hq)
            have g10 := (HEE.out _ HBD.out).glob 10 rfl
            change World.cell? _ ⟨10, 0, none⟩ = _ at g10
            clear hq
            go_wp2_with fail
            go_region
            all_goals
              go_wp2_with fail
              go_ret
              exact ⟨_, rfl, .inr ⟨HR.out, rfl⟩, HBD.out⟩
        · have hk1 : k = 0 := by omega
          subst hk1
          clear HPV HRS
          go_wp2_with fail
          go_quiet (fail)
          have hdr := below_of_grown (grown_drewN v2 nq)
          have HHB3 := hideN (HHB2.out.next hdr)
          have HBC3 := hideN (HBC2.out.next hdr)
          have HBR3 := hideN (HBR2.out.next hdr)
          have HB3 : Hid (Below w.heap.size w _) := hideN (HB2'.out.trans (hdr.mono HB2'.out.size))
          clear hdr HHB2 HBC2 HBR2 HB2'
          generalize v2.drewN nq = w3 at *
          -- at W3: HBC3 HBR3 HHB3 HB3
          have e1 := HBC3.out.cell (i := 1) rfl
          have k0 := HBR3.out.cell (i := 0) rfl
          have k1 := HBR3.out.cell (i := 1) rfl
          have m0 := HHB3.out.cell (i := 0) rfl
          have m1 := HHB3.out.cell (i := 1) rfl
          have m2 := HHB3.out.cell (i := 2) rfl
          have hBd : Below w.heap.size w w3.drew := HB3.out.trans ((Below.refl _ w3).drew.mono HB3.out.size)
          have lu := (HU.out _ hBd).look1 Tryz.underlying117 (intZero _) (x := ((rp, rl), (xp, xl))) ⟨HW.out.1, HXW.out⟩
          change (Instr.lookup 117 (.map (some mu)) (.agg #[.int .u32 (rp : Nat), .int .i64 rl, .int .u32 (xp : Nat), .int .i64 xl]) false).run Tryz.prog _ = .ok (.int .i64 ((U ((rp, rl), (xp, xl))).getD 0)) _ at lu
          obtain ⟨nu, hnu⟩ : ∃ nu, (U ((rp, rl), (xp, xl))).getD 0 = nu := ⟨_, rfl⟩
          have HNU := hideN hnu
          rw [hnu] at lu
          have HBD := hideN hBd
          have HBC5 : Hid (Blk w3.drew CB #[.map (some mf), .map (some mu)] 119) := HBC3.out
          have HBR5 : Hid (Blk w3.drew LB #[.int .u32 (rp : Nat), .int .i64 rl, .slice (some ⟨b2, o2, none⟩) l.length ch] 60) := HBR3.out
          clear hnu hBd
          by_cases hq : nu = u
          · subst hq
            have HALL2 : Hid (∀ x ∈ l.take (0 + 1), (U ((rp, rl), x.1)).getD 0 = x.2.1) := fun x hx => by
              rw [HTK.out] at hx
              rcases List.mem_append.1 hx with hx | hx
              · exact HALL.out x hx
              · rw [List.mem_singleton.1 hx]
                exact HNU.out
            go_wp2_with fail
            go_region
            all_goals
              go_wp2_with fail
              go_roundw
              case rel => exact ⟨0 + 1, hlt, by go_num, HALL2.out, HBC5.out, HBR5.out, HBD.out⟩
              case measure => simp [intOf]; omega
          · have hqn : (nu == u) = false := beq_eq_false_iff_ne.2 hq
            have HR : Hid (RES = 11) := by
              show _ = _
              rw [← HRES.out]
              exact usesErr_bad (b := ((rp, rl), l)) HMX.out (by simp only; rw [HNU.out]; exact hq)
            have g10 := (HEE.out _ HBD.out).glob 10 rfl
            change World.cell? _ ⟨10, 0, none⟩ = _ at g10
            clear hq
            go_wp2_with fail
            go_region
            all_goals
              go_wp2_with fail
              go_ret
              exact ⟨_, rfl, .inr ⟨HR.out, rfl⟩, HBD.out⟩
      · have hge : (l.length : Int) ≤ (k : Int) := by omega
        rw [List.take_of_length_le (by omega)] at HALL
        have HR : Hid (RES = 0) := by
          show _ = _
          rw [← HRES.out]
          exact usesErr_ok (b := ((rp, rl), l)) HALL.out
        go_wp2_with fail
        go_ret
        exact ⟨_, rfl, .inl ⟨HR.out, rfl⟩, HB0.out⟩
  · have h0' : ¬ (0 : Int) < (at' : Int) := by omega
    go_quiet (fail)
    have hdr := below_of_grown (grown_drewN W2 nq)
    have HBCc := hideN (HBC.out.next hdr)
    have HBRc := hideN (HBR.out.next hdr)
    have HBc : Hid (Below w.heap.size w _) := hideN (HB2.out.trans (hdr.mono HB2.out.size))
    clear hdr HBC HBR HB2
    generalize W2.drewN nq = Wc at *
    -- at Wc: HBCc HBRc HBc
    have e0 := HBCc.out.cell (i := 0) rfl
    have e1 := HBCc.out.cell (i := 1) rfl
    have k0 := HBRc.out.cell (i := 0) rfl
    have k1 := HBRc.out.cell (i := 1) rfl
    have k2 := HBRc.out.cell (i := 2) rfl
    have l0 := (HF.out _ HBc.out).look1 Tryz.underlying116 (intZero _) HW.out.1
    change (Instr.lookup 116 (.map (some mf)) (idV (rp : Nat) rl) false).run Tryz.prog _ = .ok (.int .i64 ((F (rp, rl)).getD 0)) _ at l0
    have hz : ((F (rp, rl)).getD 0 == 0) = false := beq_eq_false_iff_ne.2 HPOS.out
    obtain ⟨n0, hn0⟩ : ∃ n0, (F (rp, rl)).getD 0 = n0 := ⟨_, rfl⟩
    rw [hn0] at l0 hz
    clear hn0
    go_wp2_with fail
    clear e0 e1 k0 k1 k2 l0 hz
    go_loopw [39] (fun iv wr => ∃ (k : Nat), k ≤ l.length ∧ iv = .int .i64 k ∧ Hid (∀ x ∈ l.take k, (U ((rp, rl), x.1)).getD 0 = x.2.1) ∧ Hid (Blk wr CB #[.map (some mf), .map (some mu)] 119) ∧ Hid (Blk wr LB #[.int .u32 (rp : Nat), .int .i64 rl, .slice ph l.length ch] 60) ∧ Hid (Below w.heap.size w wr)) (fun iv _ => l.length - (intOf iv).toNat)
    case atStart => exact ⟨0, Nat.zero_le _, rfl, fun x hx => by simp at hx, HBCc.out, HBRc.out, HBc.out⟩
    case round =>
      clear HBCc HBRc HBc
      obtain ⟨k, hk, rfl, HALL, HBC0, HBR0, HB0⟩ := hrel
      by_cases hlt : k < l.length
      · have hlt' : (k : Int) < (l.length : Int) := by omega
        have hk0 : (0 : Int) ≤ (k : Int) := by omega
        obtain ⟨_, _, hve, hcell⟩ := HHD.out wr HB0.out
        obtain ⟨rfl, rfl⟩ : ph = _ ∧ ch = _ := by simpa using hve
        obtain ⟨b2, o2, rfl, _, d0, d1, d2, d3⟩ := hcell k hlt
        have HPV : Hid (∀ (h : 0 < k) W, Below w.heap.size w W → W.cell? ⟨b2, o2 + (k - 1) * 4, none⟩ = some (.int .u32 ((l[k - 1]'(by omega)).1.1 : Nat)) ∧ W.cell? ⟨b2, o2 + (k - 1) * 4 + 1, none⟩ = some (.int .i64 (l[k - 1]'(by omega)).1.2)) := fun h W hb => by
          obtain ⟨_, _, hve', hcell'⟩ := HHD.out W hb
          obtain ⟨b', o', hp', _, z0, z1, _⟩ := hcell' (k - 1) (by omega)
          simp only [Value.slice.injEq] at hve'
          rw [← hve'.1] at hp'
          simp only [Option.some.injEq, Addr.mk.injEq] at hp'
          obtain ⟨rfl, rfl, _⟩ := hp'
          exact ⟨z0, z1⟩
        have HRS : Hid (∀ (h : 0 < k), lessB (l[k - 1]'(by omega)).1 l[k].1 = true) := fun h => by
          have := HRISE.out
          unfold Rise at this
          rw [List.pairwise_iff_getElem] at this
          exact this (k - 1) k (by omega) hlt (by omega)
        have HTK := hideN (List.take_succ_eq_append_getElem hlt)
        have HMX := hideN (List.getElem_mem hlt)
        have HIX := hideN (HIDS.out l[k] (List.getElem_mem hlt))
        have HXW := hideN (HW.out.2 l[k] (List.getElem_mem hlt))
        obtain ⟨⟨⟨xp, xl⟩, u, t⟩, hy⟩ : ∃ y, l[k] = y := ⟨_, rfl⟩
        rw [hy] at d0 d1 d2 d3 HTK HMX HIX HXW HRS
        simp only at d0 d1 d2 d3 HIX HXW HRS
        obtain ⟨TX, hT⟩ : ∃ TX : ByteArray, (⟨t.toArray⟩ : ByteArray) = TX := ⟨_, rfl⟩
        rw [hT] at d3
        have HTT : Hid (TX.data.toList = t) := by show _ = _; rw [← hT]
        have HTM : Hid (TX.size ≤ maxLen) := by
          show _ ≤ _
          have : TX.data.toList.length = TX.size := by rw [Array.length_toList]; rfl
          rw [HTT.out] at this
          have := HIX.out.2
          unfold maxLen; omega
        have HP1 : Hid (pmore 2166136261 TX.data.toList = xp) := by rw [HTT.out]; exact (congrArg Prod.fst HIX.out.1).symm
        have HP2 : Hid ((TX.size : Int) = xl) := by
          have h1 : TX.data.toList.length = TX.size := by rw [Array.length_toList]; rfl
          have h2 : xl = ((t.length : Nat) : Int) := congrArg Prod.snd HIX.out.1
          rw [HTT.out] at h1
          show _ = _
          omega
        clear hT hy hcell hve
        have hal := (Below.refl wr.heap.size wr).alloc (Nat.le_refl _) (.cells #[.int .u32 (xp : Nat), .int .i64 xl, .int .i64 u, .string TX] 78)
        have HHB := hideN (Blk.new wr #[.int .u32 (xp : Nat), .int .i64 xl, .int .i64 u, .string TX] 78)
        have HBC1 := hideN (HBC0.out.next hal)
        have HBR1 := hideN (HBR0.out.next hal)
        have HB1 : Hid (Below w.heap.size w _) := hideN (HB0.out.trans (hal.mono HB0.out.size))
        clear hal HBC0 HBR0 HB0
        go_wp2_with fail
        clear d0 d1 d2 d3
        generalize wr.alloc (.cells #[.int .u32 (xp : Nat), .int .i64 xl, .int .i64 u, .string TX] 78) = V1 at *
        generalize wr.heap.size = HB9 at *
        have HCE : Hid (∀ W', Blk W' HB9 #[.int .u32 (xp : Nat), .int .i64 xl, .int .i64 u, .string TX] 78 → W'.cell? ⟨HB9, 0, none⟩ = some (.int .u32 (xp : Nat)) ∧ W'.cell? ⟨HB9, 1, none⟩ = some (.int .i64 xl) ∧ W'.cell? ⟨HB9, 3, none⟩ = some (.string TX)) := fun W' h => ⟨h.cell (i := 0) rfl, h.cell (i := 1) rfl, h.cell (i := 3) rfl⟩
        obtain ⟨y0, y1, y3⟩ := HCE.out V1 HHB.out
        go_region_held3 (fun w' => w'.cell? ⟨HB9, 0, none⟩ = some (.int .u32 (xp : Nat)) ∧ w'.cell? ⟨HB9, 1, none⟩ = some (.int .i64 xl) ∧ w'.cell? ⟨HB9, 3, none⟩ = some (.string TX)) (first | exact HCE.out _ HHB2.out | go_keep) (first
          | (go_at_call 125; refine (id_any TX _ HTM.out).mono ?_; rintro e v2 ⟨rfl, hb2⟩; rw [HP1.out, HP2.out]; have hB2 : Below V1.heap.size V1 v2 := (Below.refl _ V1).drew.trans hb2; have HHB2 := hideN (HHB.out.next hB2); have HBC2 := hideN (HBC1.out.next hB2); have HBR2 := hideN (HBR1.out.next hB2); have HB2' : Hid (Below w.heap.size w v2) := HB1.out.trans (hB2.mono HB1.out.size); clear hb2 hB2))
        clear y0 y1 y3 HHB HBC1 HBR1 HB1
        by_cases hkp : 0 < k
        · have hkp' : (0 : Int) < (k : Int) := by omega
          have hle := HRS.out hkp
          obtain ⟨p0, p1⟩ := HPV.out hkp v2 HB2'.out
          have HPW : Hid (∀ W, Below w.heap.size w W → W.cell? ⟨b2, o2 + (k - 1) * 4, none⟩ = some (.int .u32 ((l[k - 1]'(by omega)).1.1 : Nat)) ∧ W.cell? ⟨b2, o2 + (k - 1) * 4 + 1, none⟩ = some (.int .i64 (l[k - 1]'(by omega)).1.2)) := fun W hb => HPV.out hkp W hb
          obtain ⟨⟨⟨yp, yl⟩, u', t'⟩, hy⟩ : ∃ y, l[k - 1]'(by omega) = y := ⟨_, rfl⟩
          rw [hy] at p0 p1 hle HPW
          simp only at p0 p1 hle HPW
          obtain ⟨m, hkm⟩ : ∃ m, k - 1 = m := ⟨_, rfl⟩
          rw [hkm] at p0 p1 HPW
          have HLE : Hid ((if (yp : Int) = (xp : Int) then decide (yl < xl) else decide ((yp : Int) < (xp : Int))) = true) := hle
          clear hle hy HPV HRS
          have hm0 : ((m : Int)) < (l.length : Int) := by omega
          have hm2 : (0 : Int) ≤ (m : Int) := by omega
          have hm3 : IntKind.i64.wrap ((k : Int) - 1) = (m : Int) := by rw [IntKind.wrap_i64]; omega
          have k2 := HBR2.out.cell (i := 2) rfl
          have m0 := HHB2.out.cell (i := 0) rfl
          have m1 := HHB2.out.cell (i := 1) rfl
          go_wp2_with fail
          go_region_held3 (fun w' => w'.cell? ⟨LB, 2, none⟩ = some (.slice (some ⟨b2, o2, none⟩) l.length ch) ∧ w'.cell? ⟨b2, o2 + m * 4, none⟩ = some (.int .u32 (yp : Nat)) ∧ w'.cell? ⟨b2, o2 + m * 4 + 1, none⟩ = some (.int .i64 yl) ∧ w'.cell? ⟨HB9, 0, none⟩ = some (.int .u32 (xp : Nat)) ∧ w'.cell? ⟨HB9, 1, none⟩ = some (.int .i64 xl)) (first | exact ⟨HBR3.out.cell (i := 2) rfl, (HPW.out _ HB3.out).1, (HPW.out _ HB3.out).2, HHB3.out.cell (i := 0) rfl, HHB3.out.cell (i := 1) rfl⟩ | go_keep) (first
            | (go_at_call 87; refine (less_any yp yl xp xl _).mono ?_; rintro e w3 ⟨rfl, hb3⟩; rw [HLE.out]; have hB3 : Below v2.heap.size v2 w3 := (Below.refl _ v2).drew.trans hb3; have HHB3 := hideN (HHB2.out.next hB3); have HBC3 := hideN (HBC2.out.next hB3); have HBR3 := hideN (HBR2.out.next hB3); have HB3 : Hid (Below w.heap.size w w3) := HB2'.out.trans (hB3.mono HB2'.out.size); clear hb3 hB3))
          clear p0 p1 k2 m0 m1 hm0 hm2 hm3 HHB2 HBC2 HBR2 HB2'
          -- at W3: HBC3 HBR3 HHB3 HB3
          have e1 := HBC3.out.cell (i := 1) rfl
          have k0 := HBR3.out.cell (i := 0) rfl
          have k1 := HBR3.out.cell (i := 1) rfl
          have m0 := HHB3.out.cell (i := 0) rfl
          have m1 := HHB3.out.cell (i := 1) rfl
          have m2 := HHB3.out.cell (i := 2) rfl
          have hBd : Below w.heap.size w w3.drew := HB3.out.trans ((Below.refl _ w3).drew.mono HB3.out.size)
          have lu := (HU.out _ hBd).look1 Tryz.underlying117 (intZero _) (x := ((rp, rl), (xp, xl))) ⟨HW.out.1, HXW.out⟩
          change (Instr.lookup 117 (.map (some mu)) (.agg #[.int .u32 (rp : Nat), .int .i64 rl, .int .u32 (xp : Nat), .int .i64 xl]) false).run Tryz.prog _ = .ok (.int .i64 ((U ((rp, rl), (xp, xl))).getD 0)) _ at lu
          obtain ⟨nu, hnu⟩ : ∃ nu, (U ((rp, rl), (xp, xl))).getD 0 = nu := ⟨_, rfl⟩
          have HNU := hideN hnu
          rw [hnu] at lu
          have HBD := hideN hBd
          have HBC5 : Hid (Blk w3.drew CB #[.map (some mf), .map (some mu)] 119) := HBC3.out
          have HBR5 : Hid (Blk w3.drew LB #[.int .u32 (rp : Nat), .int .i64 rl, .slice (some ⟨b2, o2, none⟩) l.length ch] 60) := HBR3.out
          clear hnu hBd
          by_cases hq : nu = u
          · subst hq
            have HALL2 : Hid (∀ x ∈ l.take (k + 1), (U ((rp, rl), x.1)).getD 0 = x.2.1) := fun x hx => by
              rw [HTK.out] at hx
              rcases List.mem_append.1 hx with hx | hx
              · exact HALL.out x hx
              · rw [List.mem_singleton.1 hx]
                exact HNU.out
            go_wp2_with fail
            go_region
            all_goals
              go_wp2_with fail
              go_roundw
              case rel => exact ⟨k + 1, hlt, by go_num, HALL2.out, HBC5.out, HBR5.out, HBD.out⟩
              case measure => simp [intOf]; omega
          · have hqn : (nu == u) = false := beq_eq_false_iff_ne.2 hq
            have HR : Hid (RES = 11) := by
              show _ = _
              rw [← HRES.out]
              exact usesErr_bad (b := ((rp, rl), l)) HMX.out (by simp only; rw [HNU.out]; exact hq)
            have g10 := (HEE.out _ HBD.out).glob 10 rfl
            change World.cell? _ ⟨10, 0, none⟩ = _ at g10
            clear hq
            go_wp2_with fail
            go_region
            all_goals
              go_wp2_with fail
              go_ret
              exact ⟨_, rfl, .inr ⟨HR.out, rfl⟩, HBD.out⟩
        · have hk1 : k = 0 := by omega
          subst hk1
          clear HPV HRS
          go_wp2_with fail
          go_quiet (fail)
          have hdr := below_of_grown (grown_drewN v2 nq)
          have HHB3 := hideN (HHB2.out.next hdr)
          have HBC3 := hideN (HBC2.out.next hdr)
          have HBR3 := hideN (HBR2.out.next hdr)
          have HB3 : Hid (Below w.heap.size w _) := hideN (HB2'.out.trans (hdr.mono HB2'.out.size))
          clear hdr HHB2 HBC2 HBR2 HB2'
          generalize v2.drewN nq = w3 at *
          -- at W3: HBC3 HBR3 HHB3 HB3
          have e1 := HBC3.out.cell (i := 1) rfl
          have k0 := HBR3.out.cell (i := 0) rfl
          have k1 := HBR3.out.cell (i := 1) rfl
          have m0 := HHB3.out.cell (i := 0) rfl
          have m1 := HHB3.out.cell (i := 1) rfl
          have m2 := HHB3.out.cell (i := 2) rfl
          have hBd : Below w.heap.size w w3.drew := HB3.out.trans ((Below.refl _ w3).drew.mono HB3.out.size)
          have lu := (HU.out _ hBd).look1 Tryz.underlying117 (intZero _) (x := ((rp, rl), (xp, xl))) ⟨HW.out.1, HXW.out⟩
          change (Instr.lookup 117 (.map (some mu)) (.agg #[.int .u32 (rp : Nat), .int .i64 rl, .int .u32 (xp : Nat), .int .i64 xl]) false).run Tryz.prog _ = .ok (.int .i64 ((U ((rp, rl), (xp, xl))).getD 0)) _ at lu
          obtain ⟨nu, hnu⟩ : ∃ nu, (U ((rp, rl), (xp, xl))).getD 0 = nu := ⟨_, rfl⟩
          have HNU := hideN hnu
          rw [hnu] at lu
          have HBD := hideN hBd
          have HBC5 : Hid (Blk w3.drew CB #[.map (some mf), .map (some mu)] 119) := HBC3.out
          have HBR5 : Hid (Blk w3.drew LB #[.int .u32 (rp : Nat), .int .i64 rl, .slice (some ⟨b2, o2, none⟩) l.length ch] 60) := HBR3.out
          clear hnu hBd
          by_cases hq : nu = u
          · subst hq
            have HALL2 : Hid (∀ x ∈ l.take (0 + 1), (U ((rp, rl), x.1)).getD 0 = x.2.1) := fun x hx => by
              rw [HTK.out] at hx
              rcases List.mem_append.1 hx with hx | hx
              · exact HALL.out x hx
              · rw [List.mem_singleton.1 hx]
                exact HNU.out
            go_wp2_with fail
            go_region
            all_goals
              go_wp2_with fail
              go_roundw
              case rel => exact ⟨0 + 1, hlt, by go_num, HALL2.out, HBC5.out, HBR5.out, HBD.out⟩
              case measure => simp [intOf]; omega
          · have hqn : (nu == u) = false := beq_eq_false_iff_ne.2 hq
            have HR : Hid (RES = 11) := by
              show _ = _
              rw [← HRES.out]
              exact usesErr_bad (b := ((rp, rl), l)) HMX.out (by simp only; rw [HNU.out]; exact hq)
            have g10 := (HEE.out _ HBD.out).glob 10 rfl
            change World.cell? _ ⟨10, 0, none⟩ = _ at g10
            clear hq
            go_wp2_with fail
            go_region
            all_goals
              go_wp2_with fail
              go_ret
              exact ⟨_, rfl, .inr ⟨HR.out, rfl⟩, HBD.out⟩
      · have hge : (l.length : Int) ≤ (k : Int) := by omega
        rw [List.take_of_length_le (by omega)] at HALL
        have HR : Hid (RES = 0) := by
          show _ = _
          rw [← HRES.out]
          exact usesErr_ok (b := ((rp, rl), l)) HALL.out
        go_wp2_with fail
        go_ret
        exact ⟨_, rfl, .inl ⟨HR.out, rfl⟩, HB0.out⟩
end Go.Proofs.YtcbcjefefmbccabGreatDoor
