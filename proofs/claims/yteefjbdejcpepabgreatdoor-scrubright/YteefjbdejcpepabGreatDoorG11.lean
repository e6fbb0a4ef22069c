/-
  Own text. scrub.zeros by a contract: maps that hold just the reps of bins, and the pieces of the first bin of each.
  Own text. A range over a function whose iterator keeps state of its own in cells: a law for a loop body that writes one block of the caller's (Br) and new ones alone, and whose invariant hangs on blocks below the loop's beginning.
  Own text. The program's recipe.ofName and recipe.Name by contracts.
  Own text. IDs in memory that is followed through calls.
-/
import Derived.Test.YteefjbdejcpepabGreatDoorG10
import Derived.RangeFuncNested
import Derived.RangeFuncLeaves
import Derived.RangeFuncCalls
import Derived.Below
import Derived.Test.YteefjbdejcpepabGreatDoorG04
import Derived.Test.YteefjbdejcpepabGreatDoorG03
namespace Go.Proofs.YteefjbdejcpepabGreatDoor
open Go.RowKit Go.Maps

theorem nBin_append (a b : List NBin) (x : Nat × Int) : nBin (a ++ b) x = (nBin a x).or (nBin b x) := by
  induction a with
  | nil => simp [nBin]
  | cons c r ih =>
    rw [List.cons_append, nBin, nBin]
    split
    · rfl
    · exact ih
theorem zeroF_snoc (bs : List NBin) (b : NBin) : zeroF (bs ++ [b]) = fun y => if y = b.1 then some 0 else zeroF bs y := by
  funext y
  unfold zeroF
  rw [List.any_append]
  by_cases e : y = b.1
  · subst e
    simp
  · have e' : ¬ b.1 = y := fun h => e h.symm
    rw [if_neg e]
    simp only [List.any_cons, List.any_nil, decide_eq_false e', Bool.or_false]
theorem zeroF_isSome (bs : List NBin) (r : Nat × Int) : (zeroF bs r).isSome = (nBin bs r).isSome := by
  induction bs with
  | nil => rfl
  | cons c l ih =>
    rw [nBin]
    unfold zeroF at *
    rw [List.any_cons]
    by_cases e : c.1 = r
    · simp [e]
    · simp only [e, decide_false, Bool.false_or, if_false]
      exact ih
theorem zeroF_old {bs : List NBin} {b : NBin} (h : (zeroF bs b.1).isSome = true) : zeroF (bs ++ [b]) = zeroF bs := by
  rw [zeroF_snoc]
  funext y
  split
  · rename_i e
    subst e
    unfold zeroF at *
    split at h
    · rename_i h2
      rw [if_pos h2]
    · cases h
  · rfl
theorem zeroU_old {bs : List NBin} {b : NBin} (h : (zeroF bs b.1).isSome = true) : zeroU (bs ++ [b]) = zeroU bs := by
  rw [zeroF_isSome] at h
  funext u
  unfold zeroU
  rw [nBin_append]
  cases hn : nBin bs u.1 with
  | some l => rfl
  | none =>
    have : ¬ b.1 = u.1 := fun e => by rw [e, hn] at h; cases h
    simp [nBin, this]
/- Uses while a bin's pieces are laid. -/
def uPart (bs : List NBin) (r : Nat × Int) (l : List Hd) (u : Use) : Option Int := if u.1 = r then (if l.any (fun h => decide (h.1 = u.2)) = true then some 0 else none) else zeroU bs u
theorem uPart_nil {bs : List NBin} {r : Nat × Int} (h : zeroF bs r = none) : uPart bs r [] = zeroU bs := by
  funext u
  unfold uPart
  split
  · rename_i e
    have : nBin bs u.1 = none := by
      rw [e]
      have := zeroF_isSome bs r
      rw [h] at this
      cases hn : nBin bs r with
      | none => rfl
      | some l => rw [hn] at this; cases this
    unfold zeroU
    rw [this]
    rfl
  · rfl
theorem uPart_snoc (bs : List NBin) (r : Nat × Int) (l : List Hd) (h : Hd) : uPart bs r (l ++ [h]) = fun u => if u = (r, h.1) then some 0 else uPart bs r l u := by
  funext u
  unfold uPart
  rw [List.any_append]
  obtain ⟨u1, u2⟩ := u
  by_cases e : u1 = r
  · subst e
    by_cases e2 : u2 = h.1
    · subst e2
      simp
    · have e3 : ¬ h.1 = u2 := fun h => e2 h.symm
      have e4 : ¬ (u1, u2) = (u1, h.1) := fun h => e2 (Prod.mk.inj h).2
      rw [if_neg e4]
      simp only [List.any_cons, List.any_nil, decide_eq_false e3, Bool.or_false]
  · simp [e]
theorem uPart_all {bs : List NBin} {b : NBin} (h : zeroF bs b.1 = none) : uPart bs b.1 b.2 = zeroU (bs ++ [b]) := by
  have hn : nBin bs b.1 = none := by
    have := zeroF_isSome bs b.1
    rw [h] at this
    cases hn : nBin bs b.1 with
    | none => rfl
    | some l => rw [hn] at this; cases this
  funext u
  unfold uPart zeroU
  rw [nBin_append]
  by_cases e : u.1 = b.1
  · rw [if_pos e, e, hn]
    simp [nBin]
  · have e' : ¬ b.1 = u.1 := fun h => e h.symm
    rw [if_neg e]
    cases hx : nBin bs u.1 with
    | some l => rfl
    | none => simp [nBin, e']
set_option maxRecDepth 100000 in
set_option maxHeartbeats 8000000 in
theorem zeros_any (v : Value) (bs : List NBin) (w : World) (hv : LoadsAt w v bs) (hwf : ∀ b ∈ bs, WfID b.1 ∧ ∀ h ∈ b.2, WfID h.1) (hn : bs.length ≤ 100) (hm : ∀ b ∈ bs, b.2.length ≤ 1000) :
    Calls Tryz.prog 49 #[v] w fun e w' => ∃ mf mu, e = .returned (.agg #[.map (some mf), .map (some mu)]) ∧ idInts.Fn w' mf 100 (zeroF bs) ∧ useInts.Fn w' mu 100000 (zeroU bs) ∧ (mf ≠ mu ∧ w.heap.size ≤ mf ∧ w.heap.size ≤ mu) ∧ Below w.heap.size w w' := by
  have HV := hideN hv
  have HWF := hideN hwf
  have HM := hideN hm
  obtain ⟨pa, ca, rfl, _⟩ := hv
  have hmm := @run_makeMap Tryz.prog
  have hn' : (bs.length : Int) ≤ 100 := by omega
  clear hwf hm
  have hb0 := (Below.refl w.heap.size w).alloc (Nat.le_refl _) (.cells #[.map none, .map none] 108)
  have hR0 := Blk.new w #[.map none, .map none] 108
  generalize hW0 : w.alloc (.cells #[.map none, .map none] 108) = W0 at *
  have hs0 : W0.heap.size = w.heap.size + 1 := by rw [← hW0]; simp
  have hb1 := (Below.refl W0.heap.size W0).alloc (Nat.le_refl _) (.map #[] 0)
  have hM1 := MapKit.Fn.made idInts W0
  have hb2 := (Below.refl _ (W0.alloc (.map #[] 0))).alloc (Nat.le_refl _) (.map #[] 0)
  have hM2 := MapKit.Fn.made useInts (W0.alloc (.map #[] 0))
  have hb3 := (Below.refl _ ((W0.alloc (.map #[] 0)).alloc (.map #[] 0))).alloc (Nat.le_refl _) (.cells #[.map (some (w.heap.size + 1)), .map (some (w.heap.size + 1 + 1))] 108)
  have hB := Blk.new ((W0.alloc (.map #[] 0)).alloc (.map #[] 0)) #[.map (some (w.heap.size + 1)), .map (some (w.heap.size + 1 + 1))] 108
  have hs1 : (W0.alloc (.map #[] 0)).heap.size = w.heap.size + 1 + 1 := by simp [hs0]
  have hs2 : ((W0.alloc (.map #[] 0)).alloc (.map #[] 0)).heap.size = w.heap.size + 1 + 1 + 1 := by simp [hs0]
  rw [hs2] at hB
  rw [hs1] at hM2
  rw [hs0] at hM1
  have HFa := hideN ((hM1.below hb2).below hb3)
  have HUa := hideN (hM2.below hb3)
  have HRa := hideN ((((hR0.next hb1).next hb2).next hb3))
  have HCa := hideN hB
  have HBa : Hid (Below w.heap.size w _) := hideN (hb0.trans ((hb1.mono (by omega)).trans ((hb2.mono (by rw [hs1]; omega)).trans (hb3.mono (by rw [hs2]; omega)))))
  subst hW0
  clear hb0 hR0 hs0 hb1 hM1 hb2 hM2 hb3 hB hs1 hs2
  go_enter Tryz.func49, Tryz.ntmps49
  go_wp2_with fail
  generalize ((((w.alloc (.cells #[.map none, .map none] 108)).alloc (.map #[] 0)).alloc (.map #[] 0)).alloc (.cells #[.map (some (w.heap.size + 1)), .map (some (w.heap.size + 1 + 1))] 108)) = Wa at *
  have HNE : Hid (w.heap.size + 1 ≠ w.heap.size + 1 + 1 ∧ (w.heap.size + 1 ≠ w.heap.size ∧ w.heap.size + 1 + 1 ≠ w.heap.size) ∧ (w.heap.size + 1 + 1 + 1 ≠ w.heap.size + 1 ∧ w.heap.size + 1 + 1 + 1 ≠ w.heap.size + 1 + 1) ∧ w.heap.size ≤ w.heap.size + 1 ∧ w.heap.size ≤ w.heap.size + 1 + 1) := ⟨by omega, ⟨by omega, by omega⟩, ⟨by omega, by omega⟩, by omega, by omega⟩
  generalize w.heap.size + 1 + 1 + 1 = CB at *
  generalize w.heap.size + 1 + 1 = mu at *
  generalize w.heap.size + 1 = mf at *
  obtain ⟨R0, hR0⟩ : ∃ R0, w.heap.size = R0 := ⟨_, rfl⟩
  have HR0 := hideN hR0
  rw [hR0] at HRa HNE ⊢
  clear hR0
  go_loopw [15] (fun iv wr => ∃ (i n2 : Nat), i ≤ bs.length ∧ iv = .int .i64 i ∧ Hid (idInts.Fn wr mf i (zeroF (bs.take i))) ∧ Hid (useInts.Fn wr mu n2 (zeroU (bs.take i))) ∧ Hid (n2 ≤ 1000 * i) ∧ Hid (Blk wr CB #[.map (some mf), .map (some mu)] 108) ∧ Hid (Blk wr R0 #[.map none, .map none] 108) ∧ Hid (Below w.heap.size w wr)) (fun iv _ => bs.length - (intOf iv).toNat)
  case atStart => exact ⟨0, 0, Nat.zero_le _, rfl, HFa.out, HUa.out, Nat.le_refl _, HCa.out, HRa.out, HBa.out⟩
  case round =>
    clear HFa HUa HCa HRa HBa
    obtain ⟨i, n2, hi, rfl, HF, HU, HN2, HC, HR, HB⟩ := hrel
    by_cases hlt : i < bs.length
    · have hlt' : (i : Int) < (bs.length : Int) := by omega
      have hi0 : (0 : Int) ≤ (i : Int) := by omega
      obtain ⟨_, _, hve, hcell⟩ := HV.out
      obtain ⟨rfl, rfl⟩ : pa = _ ∧ ca = _ := by simpa using hve
      obtain ⟨b, o, vi, rfl, hL0⟩ := hcell i hlt
      have HTK := hideN (List.take_succ_eq_append_getElem hlt)
      have HW := hideN (HWF.out bs[i] (List.getElem_mem hlt))
      have HML := hideN (HM.out bs[i] (List.getElem_mem hlt))
      obtain ⟨⟨⟨rp, rl⟩, l⟩, hx⟩ : ∃ x, bs[i] = x := ⟨_, rfl⟩
      rw [hx] at hL0 HTK HW HML
      obtain ⟨ph, ch, hvh, _⟩ := hL0.helds
      simp only at hvh HW HML
      subst hvh
      have HHD : Hid (∀ W', Below w.heap.size w W' → HeldsAt W' (.slice ph l.length ch) l) := fun W' hb => hL0.helds.below hb
      have hL := hL0.below HB.out
      have c0 := hL.c0
      have c1 := hL.c1
      have c2 := hL.c2
      simp only at c0 c1 c2
      have hml' : (l.length : Int) ≤ 1000 := by have := HML.out; omega
      clear hcell hve hx hL hL0
      have hal := (Below.refl wr.heap.size wr).alloc (Nat.le_refl _) (.cells #[.int .u32 (rp : Nat), .int .i64 rl, .slice ph l.length ch] 60)
      have HLB := hideN (Blk.new wr #[.int .u32 (rp : Nat), .int .i64 rl, .slice ph l.length ch] 60)
      have HF1 := hideN (HF.out.below hal)
      have HU1 := hideN (HU.out.below hal)
      have HC1 := hideN (HC.out.next hal)
      have HR1 := hideN (HR.out.next hal)
      have HB1 : Hid (Below w.heap.size w _) := hideN (HB.out.trans (hal.mono HB.out.size))
      have HSZ : Hid (mf < wr.heap.size ∧ mu < wr.heap.size ∧ CB < wr.heap.size ∧ R0 < wr.heap.size ∧ w.heap.size ≤ wr.heap.size) := ⟨HF.out.lt, HU.out.lt, HC.out.lt, HR.out.lt, HB.out.size⟩
      have e0 := HC1.out.cell (i := 0) rfl
      have e1 := HC1.out.cell (i := 1) rfl
      have k0 := HLB.out.cell (i := 0) rfl
      have k1 := HLB.out.cell (i := 1) rfl
      have k2 := HLB.out.cell (i := 2) rfl
      have l0 := HF1.out.look2 Tryz.underlying105 (intZero _) HW.out.1
      change (Instr.lookup 105 (.map (some mf)) (idV (rp : Nat) rl) true).run Tryz.prog _ = .ok (.tuple #[.int .i64 ((zeroF (bs.take i) (rp, rl)).getD 0), .bool (zeroF (bs.take i) (rp, rl)).isSome]) _ at l0
      clear hal HF HU HC HR
      cases hz : zeroF (bs.take i) (rp, rl) with
      | some z0 =>
        rw [hz] at l0
        simp only [Option.getD_some, Option.isSome_some] at l0
        have HOF := hideN (zeroF_old (bs := bs.take i) (b := ((rp, rl), l)) (by rw [hz]; rfl))
        have HOU := hideN (zeroU_old (bs := bs.take i) (b := ((rp, rl), l)) (by rw [hz]; rfl))
        clear hz
        go_wp2_with fail
        go_roundw
        case rel => exact ⟨i + 1, n2, hlt, by go_num, by show idInts.Fn _ _ _ _; rw [HTK.out, HOF.out]; exact HF1.out.mono (by omega), by show useInts.Fn _ _ _ _; rw [HTK.out, HOU.out]; exact HU1.out, by show _ ≤ _; have := HN2.out; omega, HC1.out, HR1.out, HB1.out⟩
        case measure => simp [intOf]; omega
      | none =>
        rw [hz] at l0
        simp only [Option.getD_none, Option.isSome_none] at l0
        have HZ := hideN hz
        obtain ⟨w2, hst, hF2, hg2⟩ := HF1.out.store Tryz.underlying105 HW.out.1 0 (by unfold maxLen; omega)
        change (Instr.mapUpdate 105 (.map (some mf)) (idV (rp : Nat) rl) (.int .i64 0)).run Tryz.prog _ = _ at hst
        have ho2 : Off (fun k => k = mf) _ w2 := off_of_grown hg2 rfl
        have hne := HNE.out
        have hsz := HSZ.out
        have HF2 : Hid (idInts.Fn w2 mf (i + 1) (zeroF (bs.take (i + 1)))) := by
          show idInts.Fn _ _ _ _
          rw [HTK.out, zeroF_snoc]
          exact hF2
        have HU2 : Hid (useInts.Fn w2 mu n2 (uPart (bs.take i) (rp, rl) [])) := by
          show useInts.Fn _ _ _ _
          rw [uPart_nil HZ.out]
          exact HU1.out.off ho2 (fun e => hne.1 e.symm)
        have HC2 := hideN (ho2.blk HC1.out (fun e => hne.2.2.1.1 e))
        have HR2 := hideN (ho2.blk HR1.out (fun e => hne.2.1.1 e.symm))
        have HL2 := hideN (ho2.blk HLB.out (fun e => by omega))
        have HB2 : Hid (Below w.heap.size w w2) := HB1.out.trans (ho2.below HB1.out.size (fun k hk e => by have := HR0.out; omega))
        have HSZ2 : Hid (wr.heap.size < w2.heap.size) := HL2.out.lt
        have k2' := HL2.out.cell (i := 2) rfl
        clear hF2 hg2 ho2 hne hsz
        go_wp2_with fail
        clear c0 c1 c2 e0 e1 k0 k1 k2 k2' l0 hst HF1 HU1 HC1 HR1 HLB HB1
        obtain ⟨LB, hLB⟩ : ∃ LB, wr.heap.size = LB := ⟨_, rfl⟩
        rw [hLB] at HL2 HSZ HSZ2 ⊢
        clear hLB
        go_loopw [35] (fun jv wr2 => ∃ (j n3 : Nat), j ≤ l.length ∧ jv = .int .i64 j ∧ Hid (idInts.Fn wr2 mf (i + 1) (zeroF (bs.take (i + 1)))) ∧ Hid (useInts.Fn wr2 mu n3 (uPart (bs.take i) (rp, rl) (l.take j))) ∧ Hid (n3 ≤ 1000 * i + j) ∧ Hid (Blk wr2 CB #[.map (some mf), .map (some mu)] 108) ∧ Hid (Blk wr2 R0 #[.map none, .map none] 108) ∧ Hid (Blk wr2 LB #[.int .u32 (rp : Nat), .int .i64 rl, .slice ph l.length ch] 60) ∧ Hid (Below w.heap.size w wr2)) (fun jv _ => l.length - (intOf jv).toNat)
        case atStart => exact ⟨0, n2, Nat.zero_le _, rfl, HF2.out, HU2.out, HN2.out, HC2.out, HR2.out, HL2.out, HB2.out⟩
        case round =>
          clear HF2 HU2 HC2 HR2 HL2 HB2
          obtain ⟨j, n3, hj, rfl, HF3, HU3, HN3, HC3, HR3, HL3, HB3⟩ := hrel
          by_cases hjl : j < l.length
          · have hjl' : (j : Int) < (l.length : Int) := by omega
            have hj0 : (0 : Int) ≤ (j : Int) := by omega
            obtain ⟨_, _, hve, hcell⟩ := HHD.out wr HB3.out
            obtain ⟨rfl, rfl⟩ : ph = _ ∧ ch = _ := by simpa using hve
            obtain ⟨b2, o2, rfl, _, d0, d1, d2, d3⟩ := hcell j hjl
            have HTJ := hideN (List.take_succ_eq_append_getElem hjl)
            have HWJ := hideN (HW.out.2 l[j] (List.getElem_mem hjl))
            obtain ⟨⟨⟨hp, hl⟩, hu, ht⟩, hx⟩ : ∃ x, l[j] = x := ⟨_, rfl⟩
            rw [hx] at d0 d1 d2 d3 HTJ HWJ
            simp only at d0 d1 d2 d3 HWJ
            clear hcell hve hx
            have hal := (Below.refl wr.heap.size wr).alloc (Nat.le_refl _) (.cells #[.int .u32 (hp : Nat), .int .i64 hl, .int .i64 hu, .string ⟨ht.toArray⟩] 78)
            have HHB := hideN (Blk.new wr #[.int .u32 (hp : Nat), .int .i64 hl, .int .i64 hu, .string ⟨ht.toArray⟩] 78)
            have HF4 := hideN (HF3.out.below hal)
            have hU4 := HU3.out.below hal
            have HC4 := hideN (HC3.out.next hal)
            have HR4 := hideN (HR3.out.next hal)
            have HL4 := hideN (HL3.out.next hal)
            have HB4 : Hid (Below w.heap.size w _) := hideN (HB3.out.trans (hal.mono HB3.out.size))
            have e1 := HC4.out.cell (i := 1) rfl
            have k0 := HL4.out.cell (i := 0) rfl
            have k1 := HL4.out.cell (i := 1) rfl
            have m0 := HHB.out.cell (i := 0) rfl
            have m1 := HHB.out.cell (i := 1) rfl
            obtain ⟨w5, hst, hU5, hg5⟩ := hU4.store Tryz.underlying106 (x := ((rp, rl), (hp, hl))) ⟨HW.out.1, HWJ.out⟩ 0 (by unfold maxLen; have := HN3.out; omega)
            change (Instr.mapUpdate 106 (.map (some mu)) (.agg #[.int .u32 (rp : Nat), .int .i64 rl, .int .u32 (hp : Nat), .int .i64 hl]) (.int .i64 0)).run Tryz.prog _ = _ at hst
            have ho5 : Off (fun k => k = mu) _ w5 := off_of_grown hg5 rfl
            have hne := HNE.out
            have hsz := HSZ.out
            have HF5 := hideN (HF4.out.off ho5 (fun e => hne.1 e))
            have HU5 : Hid (useInts.Fn w5 mu (n3 + 1) (uPart (bs.take i) (rp, rl) (l.take (j + 1)))) := by
              show useInts.Fn _ _ _ _
              rw [HTJ.out, uPart_snoc]
              exact hU5
            have HC5 := hideN (ho5.blk HC4.out (fun e => hne.2.2.1.2 e))
            have HR5 := hideN (ho5.blk HR4.out (fun e => hne.2.1.2 e.symm))
            have HL5 := hideN (ho5.blk HL4.out (fun e => by omega))
            have HB5 : Hid (Below w.heap.size w w5) := HB4.out.trans (ho5.below HB4.out.size (fun k hk e => by have := HR0.out; omega))
            clear hal hU4 hU5 hg5 ho5 hne hsz
            go_wp2_with fail
            go_roundw
            case rel => exact ⟨j + 1, n3 + 1, hjl, by go_num, HF5.out, HU5.out, by show _ ≤ _; have := HN3.out; omega, HC5.out, HR5.out, HL5.out, HB5.out⟩
            case measure => simp [intOf]; omega
          · have hge : (l.length : Int) ≤ (j : Int) := by omega
            have hua : uPart (bs.take i) (rp, rl) l = zeroU (bs.take i ++ [((rp, rl), l)]) := uPart_all (bs := bs.take i) (b := ((rp, rl), l)) HZ.out
            rw [show l.take j = l from List.take_of_length_le (by omega), hua, ← HTK.out] at HU3
            clear hua
            go_wp2_with fail
            go_roundw
            case rel => exact ⟨i + 1, n3, hlt, by go_num, HF3.out, HU3.out, by show _ ≤ _; have := HN3.out; omega, HC3.out, HR3.out, HB3.out⟩
            case measure => simp [intOf]; omega
    · have hge : (bs.length : Int) ≤ (i : Int) := by omega
      rw [List.take_of_length_le (by omega)] at HF HU
      have e0 := HC.out.cell (i := 0) rfl
      have e1 := HC.out.cell (i := 1) rfl
      have f0 := HR.out.frozen 0
      have f1 := HR.out.frozen 1
      have g0 := HR.out.cell (i := 0) rfl
      have g1 := HR.out.cell (i := 1) rfl
      have hne := HNE.out
      have hRs := (HR.out.set 0 (.map (some mf))).set 1 (.map (some mu))
      have s0 := hRs.cell (i := 0) rfl
      have s1 := hRs.cell (i := 1) rfl
      have hO := ((Off.of_below (F := fun k => k = R0) (Below.refl wr.heap.size wr)).setCell (p := ⟨R0, 0, none⟩) (.inl rfl) (.map (some mf))).setCell (p := ⟨R0, 1, none⟩) (.inl rfl) (.map (some mu))
      have hFz := (HF.out.off hO (fun e => hne.2.1.1 e)).mono (m := 100) (by omega)
      have hUz := (HU.out.off hO (fun e => hne.2.1.2 e)).mono (m := 100000) (by have := HN2.out; omega)
      have hBz := HB.out.trans (hO.below HB.out.size (fun k hk e => by have := HR0.out; omega))
      have HZZ := hideN (And.intro hFz (And.intro hUz hBz))
      have HSS := hideN (And.intro s0 s1)
      clear hRs s0 s1 hO hFz hUz hBz hne
      go_wp2_with fail
      obtain ⟨s0, s1⟩ := HSS.out
      obtain ⟨z1, z2, z3⟩ := HZZ.out
      exact bodyPost_ret (v := .agg #[.map (some mf), .map (some mu)]) (by simp [results, Tryz.results49, go_sem, s0, s1]) rfl ⟨mf, mu, rfl, z1, z2, ⟨HNE.out.1, by have := HR0.out; have := HNE.out; omega, by have := HR0.out; have := HNE.out; omega⟩, z3⟩
end Go.Proofs.YteefjbdejcpepabGreatDoor
namespace Go.Proofs.YteefjbdejcpepabGreatDoor
open Go.RowKit

def KeptBut (Br : Nat) (W W' : World) : Prop := ∀ b o, W.heap[b]? = some o → b ≠ Br → W'.heap[b]? = some o
theorem KeptBut.refl (Br : Nat) (W : World) : KeptBut Br W W := fun _ _ h _ => h
theorem KeptBut.trans {Br : Nat} {A B C : World} (h : KeptBut Br A B) (k : KeptBut Br B C) : KeptBut Br A C := fun b o hb hn => k b o (h b o hb hn) hn
theorem KeptBut.alloc (Br : Nat) (W : World) (o : Obj) : KeptBut Br W (W.alloc o) := fun b _ hb _ => (Below.heap_alloc W o b (Array.getElem?_eq_some_iff.1 hb).1).trans hb
theorem KeptBut.setCell (W : World) (a : Addr) (u : Value) : KeptBut a.block W (W.setCell a u) := fun b _ hb hn => (Below.heap_setCell W a u b hn).trans hb
def KeptCells (Br : Nat) (W W' : World) : Prop := ∀ b o, W.heap[b]? = some o → o.isCells = true → b ≠ Br → W'.heap[b]? = some o
theorem below_put {B l : Nat} (A : World) (o : Obj) (h : B ≤ l) : Below B A (A.putObj l o) := ⟨rfl, rfl, rfl, by simp, fun k hk => World.putObj_heap_other (by omega)⟩

/- What an iterator owes: J hangs on blocks below the world in which the iterator began; a round keeps all cells but those of block Br. -/
def SeqLow {α : Type} (F : Fence) (n : Nat) (P : Program) (g : Nat) (lb : Array Value) (encs : α → Array Value) (Br : Nat) (S : List α → Prop) (N : Nat) (w : World) : Prop :=
  ∀ (l : Nat) (J : List α → World → Prop) (W : World), Below w.heap.size w W → (∀ pre A B, J pre A → Below W.heap.size A B → J pre B) →
    (∀ pre x W1, J pre W1 → pre.length < N → YieldAt F (n - 1) P l (encs x) W1 fun e W' => e = .returned (.bool true) ∧ J (pre ++ [x]) W' ∧ KeptCells Br W1 W') →
    J [] W → CallsIn F n P g (#[.func (.yield l) #[] #[]] ++ lb) W fun e W' => (∃ v, e = .returned v) ∧ ∃ xs, S xs ∧ J xs W'

theorem range_low {α : Type} {F : Fence} {n : Nat} {P : Program} {g : Operand} {ps : Array Tmp} {assign body : Code} {Q : Exit → Act → World → Prop} {a : Act} {w : World}
    (hro : F.round = none) (h1 : 1 ≤ n) {gf : Nat} {lb : Array Value} (hg : a.eval g = .func (.func gf) #[] lb) (hFg : F.fn gf) (eg : ∀ args w, (callFunc gf args).run P w = .ok (.enter gf args) w)
    {encs : α → Array Value} {Br : Nat} {S : List α → Prop} {N : Nat} {w0 : World} (hseq : SeqLow F (n - 1) P gf lb encs Br S N w0)
    (hBr : Br < w.heap.size) (hb0 : Below w0.heap.size w0 w) (hps : ∀ x, (encs x).size = ps.size)
    (I : List α → World → Prop) (hI : ∀ pre A B, I pre A → Below w.heap.size A B → I pre B) (h0 : I [] w)
    (Ax : α → Act → World → Prop) (hAx : ∀ x a' A l o, (∃ r, A.heap[l]? = some (.loop r)) → Ax x a' A → Ax x a' (A.putObj l o))
    (hassign : ∀ (l : Nat) (pre : List α) (x : α) (W : World) (K : Act → World → Prop), w.heap.size ≤ W.heap.size → I pre W → (∀ a' W', KeptBut Br W W' → I pre W' → Ax x a' W' → K a' W') →
      assign.wpIn (F.inRound l) (n - 1 - 1) P (Exit.then K (fun _ _ _ => False)) { tmps := (ps.zip (encs x)).foldl (fun t (p, v) => t.setIfInBounds p v) a.tmps, defers := [] } W)
    (hbody : ∀ (l : Nat) (pre : List α) (x : α) (a' : Act) (W : World), I pre W → Ax x a' W → pre.length < N → body.wpIn (F.inRound l) (n - 1 - 1) P (fun e _ W' => e = .normal ∧ KeptBut Br W W' ∧ I (pre ++ [x]) W') a' W)
    (hdone : ∀ (D : Nat) (xs : List α) (W : World), w.heap.size ≤ D → S xs → I xs W → W.heap[D]? = some (.deferred (some [])) → Q .normal { a with defers := { target := .collected D, args := #[] } :: a.defers } W) :
    (Code.rangeFunc g ps assign body).wpIn F n P Q a w := by
  refine wpIn_rangeFunc ?_
  intro fn hfn
  rw [hro]
  obtain ⟨lp, hlp⟩ : ∃ lp : LoopState → Loop, lp = fun st => { state := st, pending := none, fn, tmps := a.tmps, params := ps, assign, body, defers := w.heap.size } := ⟨_, rfl⟩
  obtain ⟨V, hV⟩ : ∃ V, (w.alloc (.deferred (some []))).alloc (.loop (lp .ready)) = V := ⟨_, rfl⟩
  have hVs : V.heap.size = w.heap.size + 2 := by rw [← hV]; simp
  have hVl : V.heap[w.heap.size + 1]? = some (.loop (lp .ready)) := by
    rw [← hV]
    have := World.alloc_heap_new (w.alloc (.deferred (some []))) (.loop (lp .ready))
    rwa [World.size_alloc] at this
  have hVd : V.heap[w.heap.size]? = some (.deferred (some [])) := by
    rw [← hV]
    exact (Below.heap_alloc _ _ _ (by simp)).trans (World.alloc_heap_new w _)
  have hVb : Below w.heap.size w V := by rw [← hV]; exact ((Below.refl _ w).alloc (Nat.le_refl _) _).alloc (by simp) _
  refine ⟨w.heap.size + 1, [{ target := .collected w.heap.size, args := #[] }], V, { target := .fn (.func gf) lb, args := #[.func (.yield (w.heap.size + 1)) #[] #[]] }, V, gf,
    #[.func (.yield (w.heap.size + 1)) #[] #[]] ++ lb, V, ?_, ?_, ?_, ?_, fun _ => h1, ?_⟩
  · rw [← hV, hlp]
    exact run_enterLoop_outer _ _ _ _ _
  · simp only [resolve, hg]
    simp [go_sem]
  · intro f' hf'
    simp [Target.leads] at hf'
    subst hf'
    exact hFg
  · simp [invoke, go_sem, eg]
  refine (hseq (w.heap.size + 1) (fun pre W => I pre W ∧ W.heap[w.heap.size + 1]? = some (.loop (lp .ready)) ∧ W.heap[w.heap.size]? = some (.deferred (some []))) V (hb0.trans (hVb.mono hb0.size))
    (fun pre A B h hb => ⟨hI pre A B h.1 (hb.mono (by omega)), (hb.block _ (by omega)).trans h.2.1, (hb.block _ (by omega)).trans h.2.2⟩) ?_ ⟨hI [] w V h0 hVb, hVl, hVd⟩).mono ?_
  · rintro pre x W ⟨hi, hl, hd⟩ hlen
    have hlt : w.heap.size + 1 < W.heap.size := (Array.getElem?_eq_some_iff.1 hl).1
    have hy := run_yield (P := P) (args := encs x) hl (by rw [hlp]; exact hps x)
    rw [hlp] at hy
    refine ⟨fn, _, assign, body, hy, roundIn_of_wpIn hfn (hassign _ pre x W _ (by omega) hi ?_)⟩
    clear hy
    intro a' Wa hka hia hax
    have hla := hka _ _ hl (by omega)
    have hda := hka _ _ hd (by omega)
    have hlta : w.heap.size + 1 < Wa.heap.size := (Array.getElem?_eq_some_iff.1 hla).1
    refine ⟨_, run_beginRound hla (by rw [hlp]), ?_⟩
    refine wpIn_mono (hbody _ pre x a' _ (hI _ _ _ hia (below_put Wa _ (by omega))) (hAx x a' Wa _ _ ⟨_, hla⟩ hax) hlen) ?_
    rintro e a3 W3 ⟨rfl, hkb, hi3⟩
    have hlb := hkb _ _ (World.putObj_heap_same hlta) (by omega)
    have hdb := hkb _ _ ((World.putObj_heap_other (w := Wa) (r := w.heap.size + 1) (k := w.heap.size) (by omega)).trans hda) (by omega)
    have hr := run_endRound (P := P) none hlb
    have hlt3 : w.heap.size + 1 < W3.heap.size := (Array.getElem?_eq_some_iff.1 hlb).1
    refine ⟨_, _, hr, rfl, ⟨hI _ _ _ hi3 (below_put W3 _ (by omega)), ?_, (World.putObj_heap_other (by omega)).trans hdb⟩, ?_⟩
    · rw [World.putObj_heap_same hlt3, hlp]
      rfl
    · intro b o hb hc hn
      have hbl : b ≠ w.heap.size + 1 := fun e => by
        subst e
        rw [hl] at hb
        cases hb
        cases hc
      exact (World.putObj_heap_other hbl).trans (hkb _ _ ((World.putObj_heap_other hbl).trans (hka _ _ hb hn)) hn)
  · rintro e W2 ⟨⟨v, rfl⟩, xs, hS, hi, hl, hd⟩
    have he := run_endLoop (P := P) hl (by rw [hlp]; simp)
    rw [hlp] at he
    exact ⟨none, _, he, hdone _ xs _ (Nat.le_refl _) hS (hI _ _ _ hi (below_put W2 _ (by omega))) ((World.putObj_heap_other (by omega)).trans hd)⟩
end Go.Proofs.YteefjbdejcpepabGreatDoor
namespace Go.Proofs.YteefjbdejcpepabGreatDoor
open Go.RowKit

set_option maxRecDepth 100000 in
set_option maxHeartbeats 4000000 in
theorem ofName_any (c : UInt8) (w : World) :
    Calls Tryz.prog 133 #[.int .u8 (c.toNat : Int)] w fun e w' => e = .returned (.bool (nameByte c)) ∧ w' = w := by
  have HY0 : Hid (nameByte c = decide ((97 ≤ c.toNat ∧ c.toNat ≤ 122) ∨ (48 ≤ c.toNat ∧ c.toNat ≤ 57) ∨ c.toNat = 46 ∨ c.toNat = 45)) := rfl
  obtain ⟨x, hxx⟩ : ∃ x : Int, (c.toNat : Int) = x := ⟨_, rfl⟩
  have HX : Hid ((c.toNat : Int) = x) := hxx
  rw [hxx]
  clear hxx
  rcases cases8 x with hx | hx | hx | hx | hx | hx | hx | hx
  · -- x < 45
    have e1 : decide (97 ≤ x) = false := by simp; omega
    have e2 : decide (x ≤ 122) = true := by simp; omega
    have e3 : decide (48 ≤ x) = false := by simp; omega
    have e4 : decide (x ≤ 57) = true := by simp; omega
    have f1 : x < 97 := by omega
    have f2 : x ≤ 122 := by omega
    have f3 : x < 48 := by omega
    have f4 : x ≤ 57 := by omega
    have f5 : (x == 46) = false := by rw [beq_eq_false_iff_ne]; omega
    have f6 : (x == 45) = false := by rw [beq_eq_false_iff_ne]; omega
    have HY : Hid (nameByte c = false) := by show _ = _; rw [HY0.out]; have := HX.out; simp; omega
    clear hx
    go_enter Tryz.func133, Tryz.ntmps133
    go_wp2_with fail
    go_ret
    exact ⟨by rw [HY.out]; rfl, rfl⟩
  · -- x = 45
    have e1 : decide (97 ≤ x) = false := by simp; omega
    have e2 : decide (x ≤ 122) = true := by simp; omega
    have e3 : decide (48 ≤ x) = false := by simp; omega
    have e4 : decide (x ≤ 57) = true := by simp; omega
    have f1 : x < 97 := by omega
    have f2 : x ≤ 122 := by omega
    have f3 : x < 48 := by omega
    have f4 : x ≤ 57 := by omega
    have f5 : (x == 46) = false := by rw [beq_eq_false_iff_ne]; omega
    have f6 : (x == 45) = true := by rw [beq_iff_eq]; omega
    have HY : Hid (nameByte c = true) := by show _ = _; rw [HY0.out]; have := HX.out; simp; omega
    clear hx
    go_enter Tryz.func133, Tryz.ntmps133
    go_wp2_with fail
    go_ret
    exact ⟨by rw [HY.out]; rfl, rfl⟩
  · -- x = 46
    have e1 : decide (97 ≤ x) = false := by simp; omega
    have e2 : decide (x ≤ 122) = true := by simp; omega
    have e3 : decide (48 ≤ x) = false := by simp; omega
    have e4 : decide (x ≤ 57) = true := by simp; omega
    have f1 : x < 97 := by omega
    have f2 : x ≤ 122 := by omega
    have f3 : x < 48 := by omega
    have f4 : x ≤ 57 := by omega
    have f5 : (x == 46) = true := by rw [beq_iff_eq]; omega
    have f6 : (x == 45) = false := by rw [beq_eq_false_iff_ne]; omega
    have HY : Hid (nameByte c = true) := by show _ = _; rw [HY0.out]; have := HX.out; simp; omega
    clear hx
    go_enter Tryz.func133, Tryz.ntmps133
    go_wp2_with fail
    go_ret
    exact ⟨by rw [HY.out]; rfl, rfl⟩
  · -- x = 47
    have e1 : decide (97 ≤ x) = false := by simp; omega
    have e2 : decide (x ≤ 122) = true := by simp; omega
    have e3 : decide (48 ≤ x) = false := by simp; omega
    have e4 : decide (x ≤ 57) = true := by simp; omega
    have f1 : x < 97 := by omega
    have f2 : x ≤ 122 := by omega
    have f3 : x < 48 := by omega
    have f4 : x ≤ 57 := by omega
    have f5 : (x == 46) = false := by rw [beq_eq_false_iff_ne]; omega
    have f6 : (x == 45) = false := by rw [beq_eq_false_iff_ne]; omega
    have HY : Hid (nameByte c = false) := by show _ = _; rw [HY0.out]; have := HX.out; simp; omega
    clear hx
    go_enter Tryz.func133, Tryz.ntmps133
    go_wp2_with fail
    go_ret
    exact ⟨by rw [HY.out]; rfl, rfl⟩
  · -- 48..57
    have e1 : decide (97 ≤ x) = false := by simp; omega
    have e2 : decide (x ≤ 122) = true := by simp; omega
    have e3 : decide (48 ≤ x) = true := by simp; omega
    have e4 : decide (x ≤ 57) = true := by simp; omega
    have f1 : x < 97 := by omega
    have f2 : x ≤ 122 := by omega
    have f3 : 48 ≤ x := by omega
    have f4 : x ≤ 57 := by omega
    have f5 : (x == 46) = false := by rw [beq_eq_false_iff_ne]; omega
    have f6 : (x == 45) = false := by rw [beq_eq_false_iff_ne]; omega
    have HY : Hid (nameByte c = true) := by show _ = _; rw [HY0.out]; have := HX.out; simp; omega
    clear hx
    go_enter Tryz.func133, Tryz.ntmps133
    go_wp2_with fail
    go_ret
    exact ⟨by rw [HY.out]; rfl, rfl⟩
  · -- 58..96
    have e1 : decide (97 ≤ x) = false := by simp; omega
    have e2 : decide (x ≤ 122) = true := by simp; omega
    have e3 : decide (48 ≤ x) = true := by simp; omega
    have e4 : decide (x ≤ 57) = false := by simp; omega
    have f1 : x < 97 := by omega
    have f2 : x ≤ 122 := by omega
    have f3 : 48 ≤ x := by omega
    have f4 : 57 < x := by omega
    have f5 : (x == 46) = false := by rw [beq_eq_false_iff_ne]; omega
    have f6 : (x == 45) = false := by rw [beq_eq_false_iff_ne]; omega
    have HY : Hid (nameByte c = false) := by show _ = _; rw [HY0.out]; have := HX.out; simp; omega
    clear hx
    go_enter Tryz.func133, Tryz.ntmps133
    go_wp2_with fail
    go_ret
    exact ⟨by rw [HY.out]; rfl, rfl⟩
  · -- 97..122
    have e1 : decide (97 ≤ x) = true := by simp; omega
    have e2 : decide (x ≤ 122) = true := by simp; omega
    have e3 : decide (48 ≤ x) = true := by simp; omega
    have e4 : decide (x ≤ 57) = false := by simp; omega
    have f1 : 97 ≤ x := by omega
    have f2 : x ≤ 122 := by omega
    have f3 : 48 ≤ x := by omega
    have f4 : 57 < x := by omega
    have f5 : (x == 46) = false := by rw [beq_eq_false_iff_ne]; omega
    have f6 : (x == 45) = false := by rw [beq_eq_false_iff_ne]; omega
    have HY : Hid (nameByte c = true) := by show _ = _; rw [HY0.out]; have := HX.out; simp; omega
    clear hx
    go_enter Tryz.func133, Tryz.ntmps133
    go_wp2_with fail
    go_ret
    exact ⟨by rw [HY.out]; rfl, rfl⟩
  · -- 123..
    have e1 : decide (97 ≤ x) = true := by simp; omega
    have e2 : decide (x ≤ 122) = false := by simp; omega
    have e3 : decide (48 ≤ x) = true := by simp; omega
    have e4 : decide (x ≤ 57) = false := by simp; omega
    have f1 : 97 ≤ x := by omega
    have f2 : 122 < x := by omega
    have f3 : 48 ≤ x := by omega
    have f4 : 57 < x := by omega
    have f5 : (x == 46) = false := by rw [beq_eq_false_iff_ne]; omega
    have f6 : (x == 45) = false := by rw [beq_eq_false_iff_ne]; omega
    have HY : Hid (nameByte c = false) := by show _ = _; rw [HY0.out]; have := HX.out; simp; omega
    clear hx
    go_enter Tryz.func133, Tryz.ntmps133
    go_wp2_with fail
    go_ret
    exact ⟨by rw [HY.out]; rfl, rfl⟩

theorem nameEmpty (s : ByteArray) (h : s.size < 1) : s = ⟨#[]⟩ := by
  apply ByteArray.ext; apply Array.eq_empty_of_size_eq_zero; have : s.data.size = s.size := rfl; omega
theorem notEmpty {s : ByteArray} (h : 1 ≤ s.size) : s.toList.isEmpty = false := by
  rw [← decide_eq_emptyBytes, decide_eq_false_iff_not]
  rintro rfl
  simp at h
set_option maxRecDepth 100000 in
set_option maxHeartbeats 4000000 in
theorem name_any (s : ByteArray) (hs : s.size ≤ maxLen) (w : World) :
    Calls Tryz.prog 106 #[.string s] w fun e w' => e = .returned (.bool (isName s.data.toList)) ∧ w' = w := by
  have HSL : Hid (s.data.toList.length = s.size) := by show _ = _; rw [Array.length_toList]; rfl
  have hs2 : (s.size : Int) ≤ 9223372036854775807 := by unfold maxLen at hs; omega
  clear hs
  by_cases h1 : s.size < 1
  · have e := nameEmpty s h1
    subst e
    clear h1
    go_enter Tryz.func106, Tryz.ntmps106
    go_wp2_with fail
    go_ret
    exact ⟨rfl, rfl⟩
  have he := notEmpty (show 1 ≤ s.size by omega)
  by_cases h12 : 12 < s.size
  · have h12' : (12 : Int) < (s.size : Int) := by omega
    have HV : Hid (isName s.data.toList = false) := by show _ = _; unfold isName; rw [HSL.out]; simp; omega
    clear h1 h12
    go_enter Tryz.func106, Tryz.ntmps106
    go_wp2_with fail
    go_ret
    exact ⟨by rw [HV.out]; rfl, rfl⟩
  have h12' : ¬ (12 : Int) < (s.size : Int) := by omega
  have h12d : decide ((12 : Int) < (s.size : Int)) = false := by simp; omega
  have HLE : Hid (1 ≤ s.size ∧ s.size ≤ 12) := ⟨by omega, by omega⟩
  clear h1 h12
  go_enter Tryz.func106, Tryz.ntmps106
  go_wp2_with fail
  go_loopw [13] (fun i wr => ∃ (k : Nat), k ≤ s.size ∧ i = .int .i64 k ∧ (s.data.toList.take k).all nameByte = true ∧ wr = w) (fun i _ => s.size - (intOf i).toNat)
  case atStart => exact ⟨0, Nat.zero_le _, rfl, rfl, rfl⟩
  case round =>
    obtain ⟨k, hk, rfl, ht, rfl⟩ := hrel
    have HT : Hid ((s.data.toList.take k).all nameByte = true) := ht
    clear ht
    by_cases hlt : k < s.size
    · have HG : Hid (s.data.toList[k]? = some s[k]) := by show _ = _; rw [List.getElem?_eq_getElem (by rw [HSL.out]; exact hlt)]; rfl
      have hlt' : (k : Int) < (s.size : Int) := by omega
      obtain ⟨bv, hbv⟩ : ∃ b, nameByte s[k] = b := ⟨_, rfl⟩
      have HB : Hid (nameByte s[k] = bv) := hbv
      clear hbv
      go_wp2_with fail
      refine (ofName_any s[k] _).mono ?_
      rintro e w1 ⟨rfl, hw1⟩
      subst hw1
      rw [HB.out]
      cases bv with
      | true =>
        go_wp2_with fail
        go_roundw
        case rel => exact ⟨k + 1, by omega, by go_num, nameTo_next HT.out HG.out HB.out, trivial⟩
        case measure => simp [intOf]; omega
      | false =>
        go_wp2_with fail
        go_ret
        exact ⟨by rw [isName_bad (HG.out) HB.out]; rfl, rfl⟩
    · have hge : (s.size : Int) ≤ (k : Int) := by omega
      have HV : Hid (isName s.data.toList = true) := by
        show _ = _
        have hall := HT.out
        rw [List.take_of_length_le (by rw [HSL.out]; omega)] at hall
        unfold isName
        rw [hall, HSL.out]
        have := HLE.out
        simp
        omega
      go_wp2_with fail
      go_ret
      exact ⟨by rw [HV.out]; rfl, rfl⟩
end Go.Proofs.YteefjbdejcpepabGreatDoor
namespace Go.Proofs.YteefjbdejcpepabGreatDoor
open Go.RowKit

theorem IdsIn.same {lo : Nat} {W W' : World} {v : Value} {ids : List (Nat × Int)} (h : IdsIn lo W v ids) (hs : SameIn lo W.heap.size W W') (hz : W.heap.size ≤ W'.heap.size) : IdsIn lo W' v ids := by
  obtain ⟨p, c, hv, h⟩ := h
  refine ⟨p, c, hv, fun i hi => ?_⟩
  obtain ⟨b, o, hp, hl, hlt, h1, h2⟩ := h i hi
  have hc : ∀ j, W'.cell? ⟨b, j, none⟩ = W.cell? ⟨b, j, none⟩ := fun j => World.cell?_of_block (w := W) (hs b hl hlt)
  exact ⟨b, o, hp, hl, Nat.lt_of_lt_of_le hlt hz, (hc _).trans h1, (hc _).trans h2⟩
end Go.Proofs.YteefjbdejcpepabGreatDoor
