/-
  Own text. scrub.zeros by a contract: maps that hold just the reps of bins, and the pieces of the first bin of each.
  Own text. fault.First by a contract, over the closures of scrub.Check: the first that tells an error, with its place.
  Own text. scrub.Check by a contract, at files and bins that are right but for uses of pieces: no error, or ErrUsed at the first bin with another number of uses.
  Own text. OwnRecipe by a contract: the same recipe, its IDs in new memory.
-/
import Derived.Test.YtcbcjefefmbccabGreatDoorS08
import Derived.Test.YtcbcjefefmbccabGreatDoorS16
import Derived.Test.YtcbcjefefmbccabGreatDoorS17
import Derived.Test.YtcbcjefefmbccabGreatDoorS03
namespace Go.Proofs.YtcbcjefefmbccabGreatDoor
open Go.RowKit Go.Maps

theorem nBin_append (a b : List NBin) (x : Nat × Int) : nBin (a ++ b) x = (nBin a x).or (nBin b x) := by
  induction a with
  | nil => simp [nBin]
  | cons c r ih =>
    rw [List.cons_append, nBin, nBin]
    split
    · rfl
    · exact ih
theorem zeroF_snoc (bs : List NBin) (b : NBin) : zeroF (bs ++ [b]) = fun y => if y = b.1 then some 0 else zeroF bs y := by
  funext y
  unfold zeroF
  rw [List.any_append]
  by_cases e : y = b.1
  · subst e
    simp
  · have e' : ¬ b.1 = y := fun h => e h.symm
    rw [if_neg e]
    simp only [List.any_cons, List.any_nil, decide_eq_false e', Bool.or_false]
theorem zeroF_isSome (bs : List NBin) (r : Nat × Int) : (zeroF bs r).isSome = (nBin bs r).isSome := by
  induction bs with
  | nil => rfl
  | cons c l ih =>
    rw [nBin]
    unfold zeroF at *
    rw [List.any_cons]
    by_cases e : c.1 = r
    · simp [e]
    · simp only [e, decide_false, Bool.false_or, if_false]
      exact ih
theorem zeroF_old {bs : List NBin} {b : NBin} (h : (zeroF bs b.1).isSome = true) : zeroF (bs ++ [b]) = zeroF bs := by
  rw [zeroF_snoc]
  funext y
  split
  · rename_i e
    subst e
    unfold zeroF at *
    split at h
    · rename_i h2
      rw [if_pos h2]
    · cases h
  · rfl
theorem zeroU_old {bs : List NBin} {b : NBin} (h : (zeroF bs b.1).isSome = true) : zeroU (bs ++ [b]) = zeroU bs := by
  rw [zeroF_isSome] at h
  funext u
  unfold zeroU
  rw [nBin_append]
  cases hn : nBin bs u.1 with
  | some l => rfl
  | none =>
    have : ¬ b.1 = u.1 := fun e => by rw [e, hn] at h; cases h
    simp [nBin, this]
/- Uses while a bin's pieces are laid. -/
def uPart (bs : List NBin) (r : Nat × Int) (l : List Hd) (u : Use) : Option Int := if u.1 = r then (if l.any (fun h => decide (h.1 = u.2)) = true then some 0 else none) else zeroU bs u
theorem uPart_nil {bs : List NBin} {r : Nat × Int} (h : zeroF bs r = none) : uPart bs r [] = zeroU bs := by
  funext u
  unfold uPart
  split
  · rename_i e
    have : nBin bs u.1 = none := by
      rw [e]
      have := zeroF_isSome bs r
      rw [h] at this
      cases hn : nBin bs r with
      | none => rfl
      | some l => rw [hn] at this; cases this
    unfold zeroU
    rw [this]
    rfl
  · rfl
theorem uPart_snoc (bs : List NBin) (r : Nat × Int) (l : List Hd) (h : Hd) : uPart bs r (l ++ [h]) = fun u => if u = (r, h.1) then some 0 else uPart bs r l u := by
  funext u
  unfold uPart
  rw [List.any_append]
  obtain ⟨u1, u2⟩ := u
  by_cases e : u1 = r
  · subst e
    by_cases e2 : u2 = h.1
    · subst e2
      simp
    · have e3 : ¬ h.1 = u2 := fun h => e2 h.symm
      have e4 : ¬ (u1, u2) = (u1, h.1) := fun h => e2 (Prod.mk.inj h).2
      rw [if_neg e4]
      simp only [List.any_cons, List.any_nil, decide_eq_false e3, Bool.or_false]
  · simp [e]
theorem uPart_all {bs : List NBin} {b : NBin} (h : zeroF bs b.1 = none) : uPart bs b.1 b.2 = zeroU (bs ++ [b]) := by
  have hn : nBin bs b.1 = none := by
    have := zeroF_isSome bs b.1
    rw [h] at this
    cases hn : nBin bs b.1 with
    | none => rfl
    | some l => rw [hn] at this; cases this
  funext u
  unfold uPart zeroU
  rw [nBin_append]
  by_cases e : u.1 = b.1
  · rw [if_pos e, e, hn]
    simp [nBin]
  · have e' : ¬ b.1 = u.1 := fun h => e h.symm
    rw [if_neg e]
    cases hx : nBin bs u.1 with
    | some l => rfl
    | none => simp [nBin, e']
set_option maxRecDepth 100000 in
set_option maxHeartbeats 8000000 in
theorem zeros_any (v : Value) (bs : List NBin) (w : World) (hv : LoadsAt w v bs) (hwf : ∀ b ∈ bs, WfID b.1 ∧ ∀ h ∈ b.2, WfID h.1) (hn : bs.length ≤ 100) (hm : ∀ b ∈ bs, b.2.length ≤ 1000) :
    Calls Tryz.prog 59 #[v] w fun e w' => ∃ mf mu, e = .returned (.agg #[.map (some mf), .map (some mu)]) ∧ idInts.Fn w' mf 100 (zeroF bs) ∧ useInts.Fn w' mu 100000 (zeroU bs) ∧ (mf ≠ mu ∧ w.heap.size ≤ mf ∧ w.heap.size ≤ mu) ∧ Below w.heap.size w w' := by
  have HV := hideN hv
  have HWF := hideN hwf
  have HM := hideN hm
  obtain ⟨pa, ca, rfl, _⟩ := hv
  have hmm := @run_makeMap Tryz.prog
  have hn' : (bs.length : Int) ≤ 100 := by omega
  clear hwf hm
  have hb0 := (Below.refl w.heap.size w).alloc (Nat.le_refl _) (.cells #[.map none, .map none] 119)
  have hR0 := Blk.new w #[.map none, .map none] 119
  generalize hW0 : w.alloc (.cells #[.map none, .map none] 119) = W0 at *
  have hs0 : W0.heap.size = w.heap.size + 1 := by rw [← hW0]; simp
  have hb1 := (Below.refl W0.heap.size W0).alloc (Nat.le_refl _) (.map #[] 0)
  have hM1 := MapKit.Fn.made idInts W0
  have hb2 := (Below.refl _ (W0.alloc (.map #[] 0))).alloc (Nat.le_refl _) (.map #[] 0)
  have hM2 := MapKit.Fn.made useInts (W0.alloc (.map #[] 0))
  have hb3 := (Below.refl _ ((W0.alloc (.map #[] 0)).alloc (.map #[] 0))).alloc (Nat.le_refl _) (.cells #[.map (some (w.heap.size + 1)), .map (some (w.heap.size + 1 + 1))] 119)
  have hB := Blk.new ((W0.alloc (.map #[] 0)).alloc (.map #[] 0)) #[.map (some (w.heap.size + 1)), .map (some (w.heap.size + 1 + 1))] 119
  have hs1 : (W0.alloc (.map #[] 0)).heap.size = w.heap.size + 1 + 1 := by simp [hs0]
  have hs2 : ((W0.alloc (.map #[] 0)).alloc (.map #[] 0)).heap.size = w.heap.size + 1 + 1 + 1 := by simp [hs0]
  rw [hs2] at hB
  rw [hs1] at hM2
  rw [hs0] at hM1
  have HFa := hideN ((hM1.below hb2).below hb3)
  have HUa := hideN (hM2.below hb3)
  have HRa := hideN ((((hR0.next hb1).next hb2).next hb3))
  have HCa := hideN hB
  have HBa : Hid (Below w.heap.size w _) := hideN (hb0.trans ((hb1.mono (by omega)).trans ((hb2.mono (by rw [hs1]; omega)).trans (hb3.mono (by rw [hs2]; omega)))))
  subst hW0
  clear hb0 hR0 hs0 hb1 hM1 hb2 hM2 hb3 hB hs1 hs2
  go_enter Tryz.func59, Tryz.ntmps59
  go_wp2_with fail
  generalize ((((w.alloc (.cells #[.map none, .map none] 119)).alloc (.map #[] 0)).alloc (.map #[] 0)).alloc (.cells #[.map (some (w.heap.size + 1)), .map (some (w.heap.size + 1 + 1))] 119)) = Wa at *
  have HNE : Hid (w.heap.size + 1 ≠ w.heap.size + 1 + 1 ∧ (w.heap.size + 1 ≠ w.heap.size ∧ w.heap.size + 1 + 1 ≠ w.heap.size) ∧ (w.heap.size + 1 + 1 + 1 ≠ w.heap.size + 1 ∧ w.heap.size + 1 + 1 + 1 ≠ w.heap.size + 1 + 1) ∧ w.heap.size ≤ w.heap.size + 1 ∧ w.heap.size ≤ w.heap.size + 1 + 1) := ⟨by omega, ⟨by omega, by omega⟩, ⟨by omega, by omega⟩, by omega, by omega⟩
  generalize w.heap.size + 1 + 1 + 1 = CB at *
  generalize w.heap.size + 1 + 1 = mu at *
  generalize w.heap.size + 1 = mf at *
  obtain ⟨R0, hR0⟩ : ∃ R0, w.heap.size = R0 := ⟨_, rfl⟩
  have HR0 := hideN hR0
  rw [hR0] at HRa HNE ⊢
  clear hR0
  go_loopw [15] (fun iv wr => ∃ (i n2 : Nat), i ≤ bs.length ∧ iv = .int .i64 i ∧ Hid (idInts.Fn wr mf i (zeroF (bs.take i))) ∧ Hid (useInts.Fn wr mu n2 (zeroU (bs.take i))) ∧ Hid (n2 ≤ 1000 * i) ∧ Hid (Blk wr CB #[.map (some mf), .map (some mu)] 119) ∧ Hid (Blk wr R0 #[.map none, .map none] 119) ∧ Hid (Below w.heap.size w wr)) (fun iv _ => bs.length - (intOf iv).toNat)
  case atStart => exact ⟨0, 0, Nat.zero_le _, rfl, HFa.out, HUa.out, Nat.le_refl _, HCa.out, HRa.out, HBa.out⟩
  case round =>
    clear HFa HUa HCa HRa HBa
    obtain ⟨i, n2, hi, rfl, HF, HU, HN2, HC, HR, HB⟩ := hrel
    by_cases hlt : i < bs.length
    · have hlt' : (i : Int) < (bs.length : Int) := by omega
      have hi0 : (0 : Int) ≤ (i : Int) := by omega
      obtain ⟨_, _, hve, hcell⟩ := HV.out
      obtain ⟨rfl, rfl⟩ : pa = _ ∧ ca = _ := by simpa using hve
      obtain ⟨b, o, vi, rfl, hL0⟩ := hcell i hlt
      have HTK := hideN (List.take_succ_eq_append_getElem hlt)
      have HW := hideN (HWF.out bs[i] (List.getElem_mem hlt))
      have HML := hideN (HM.out bs[i] (List.getElem_mem hlt))
      obtain ⟨⟨⟨rp, rl⟩, l⟩, hx⟩ : ∃ x, bs[i] = x := ⟨_, rfl⟩
      rw [hx] at hL0 HTK HW HML
      obtain ⟨ph, ch, hvh, _⟩ := hL0.helds
      simp only at hvh HW HML
      subst hvh
      have HHD : Hid (∀ W', Below w.heap.size w W' → HeldsAt W' (.slice ph l.length ch) l) := fun W' hb => hL0.helds.below hb
      have hL := hL0.below HB.out
      have c0 := hL.c0
      have c1 := hL.c1
      have c2 := hL.c2
      simp only at c0 c1 c2
      have hml' : (l.length : Int) ≤ 1000 := by have := HML.out; omega
      clear hcell hve hx hL hL0
      have hal := (Below.refl wr.heap.size wr).alloc (Nat.le_refl _) (.cells #[.int .u32 (rp : Nat), .int .i64 rl, .slice ph l.length ch] 60)
      have HLB := hideN (Blk.new wr #[.int .u32 (rp : Nat), .int .i64 rl, .slice ph l.length ch] 60)
      have HF1 := hideN (HF.out.below hal)
      have HU1 := hideN (HU.out.below hal)
      have HC1 := hideN (HC.out.next hal)
      have HR1 := hideN (HR.out.next hal)
      have HB1 : Hid (Below w.heap.size w _) := hideN (HB.out.trans (hal.mono HB.out.size))
      have HSZ : Hid (mf < wr.heap.size ∧ mu < wr.heap.size ∧ CB < wr.heap.size ∧ R0 < wr.heap.size ∧ w.heap.size ≤ wr.heap.size) := ⟨HF.out.lt, HU.out.lt, HC.out.lt, HR.out.lt, HB.out.size⟩
      have e0 := HC1.out.cell (i := 0) rfl
      have e1 := HC1.out.cell (i := 1) rfl
      have k0 := HLB.out.cell (i := 0) rfl
      have k1 := HLB.out.cell (i := 1) rfl
      have k2 := HLB.out.cell (i := 2) rfl
      have l0 := HF1.out.look2 Tryz.underlying116 (intZero _) HW.out.1
      change (Instr.lookup 116 (.map (some mf)) (idV (rp : Nat) rl) true).run Tryz.prog _ = .ok (.tuple #[.int .i64 ((zeroF (bs.take i) (rp, rl)).getD 0), .bool (zeroF (bs.take i) (rp, rl)).isSome]) _ at l0
      clear hal HF HU HC HR
      cases hz : zeroF (bs.take i) (rp, rl) with
      | some z0 =>
        rw [hz] at l0
        simp only [Option.getD_some, Option.isSome_some] at l0
        have HOF := hideN (zeroF_old (bs := bs.take i) (b := ((rp, rl), l)) (by rw [hz]; rfl))
        have HOU := hideN (zeroU_old (bs := bs.take i) (b := ((rp, rl), l)) (by rw [hz]; rfl))
        clear hz
        go_wp2_with fail
        go_roundw
        case rel => exact ⟨i + 1, n2, hlt, by go_num, by show idInts.Fn _ _ _ _; rw [HTK.out, HOF.out]; exact HF1.out.mono (by omega), by show useInts.Fn _ _ _ _; rw [HTK.out, HOU.out]; exact HU1.out, by show _ ≤ _; have := HN2.out; omega, HC1.out, HR1.out, HB1.out⟩
        case measure => simp [intOf]; omega
      | none =>
        rw [hz] at l0
        simp only [Option.getD_none, Option.isSome_none] at l0
        have HZ := hideN hz
        obtain ⟨w2, hst, hF2, hg2⟩ := HF1.out.store Tryz.underlying116 HW.out.1 0 (by unfold maxLen; omega)
        change (Instr.mapUpdate 116 (.map (some mf)) (idV (rp : Nat) rl) (.int .i64 0)).run Tryz.prog _ = _ at hst
        have ho2 : Off (fun k => k = mf) _ w2 := off_of_grown hg2 rfl
        have hne := HNE.out
        have hsz := HSZ.out
        have HF2 : Hid (idInts.Fn w2 mf (i + 1) (zeroF (bs.take (i + 1)))) := by
          show idInts.Fn _ _ _ _
          rw [HTK.out, zeroF_snoc]
          exact hF2
        have HU2 : Hid (useInts.Fn w2 mu n2 (uPart (bs.take i) (rp, rl) [])) := by
          show useInts.Fn _ _ _ _
          rw [uPart_nil HZ.out]
          exact HU1.out.off ho2 (fun e => hne.1 e.symm)
        have HC2 := hideN (ho2.blk HC1.out (fun e => hne.2.2.1.1 e))
        have HR2 := hideN (ho2.blk HR1.out (fun e => hne.2.1.1 e.symm))
        have HL2 := hideN (ho2.blk HLB.out (fun e => by omega))
        have HB2 : Hid (Below w.heap.size w w2) := HB1.out.trans (ho2.below HB1.out.size (fun k hk e => by have := HR0.out; omega))
        have HSZ2 : Hid (wr.heap.size < w2.heap.size) := HL2.out.lt
        have k2' := HL2.out.cell (i := 2) rfl
        clear hF2 hg2 ho2 hne hsz
        go_wp2_with fail
        clear c0 c1 c2 e0 e1 k0 k1 k2 k2' l0 hst HF1 HU1 HC1 HR1 HLB HB1
        obtain ⟨LB, hLB⟩ : ∃ LB, wr.heap.size = LB := ⟨_, rfl⟩
        rw [hLB] at HL2 HSZ HSZ2 ⊢
        clear hLB
        go_loopw [35] (fun jv wr2 => ∃ (j n3 : Nat), j ≤ l.length ∧ jv = .int .i64 j ∧ Hid (idInts.Fn wr2 mf (i + 1) (zeroF (bs.take (i + 1)))) ∧ Hid (useInts.Fn wr2 mu n3 (uPart (bs.take i) (rp, rl) (l.take j))) ∧ Hid (n3 ≤ 1000 * i + j) ∧ Hid (Blk wr2 CB #[.map (some mf), .map (some mu)] 119) ∧ Hid (Blk wr2 R0 #[.map none, .map none] 119) ∧ Hid (Blk wr2 LB #[.int .u32 (rp : Nat), .int .i64 rl, .slice ph l.length ch] 60) ∧ Hid (Below w.heap.size w wr2)) (fun jv _ => l.length - (intOf jv).toNat)
        case atStart => exact ⟨0, n2, Nat.zero_le _, rfl, HF2.out, HU2.out, HN2.out, HC2.out, HR2.out, HL2.out, HB2.out⟩
        case round =>
          clear HF2 HU2 HC2 HR2 HL2 HB2
          obtain ⟨j, n3, hj, rfl, HF3, HU3, HN3, HC3, HR3, HL3, HB3⟩ := hrel
          by_cases hjl : j < l.length
          · have hjl' : (j : Int) < (l.length : Int) := by omega
            have hj0 : (0 : Int) ≤ (j : Int) := by omega
            obtain ⟨_, _, hve, hcell⟩ := HHD.out wr HB3.out
            obtain ⟨rfl, rfl⟩ : ph = _ ∧ ch = _ := by simpa using hve
            obtain ⟨b2, o2, rfl, _, d0, d1, d2, d3⟩ := hcell j hjl
            have HTJ := hideN (List.take_succ_eq_append_getElem hjl)
            have HWJ := hideN (HW.out.2 l[j] (List.getElem_mem hjl))
            obtain ⟨⟨⟨hp, hl⟩, hu, ht⟩, hx⟩ : ∃ x, l[j] = x := ⟨_, rfl⟩
            rw [hx] at d0 d1 d2 d3 HTJ HWJ
            simp only at d0 d1 d2 d3 HWJ
            clear hcell hve hx
            have hal := (Below.refl wr.heap.size wr).alloc (Nat.le_refl _) (.cells #[.int .u32 (hp : Nat), .int .i64 hl, .int .i64 hu, .string ⟨ht.toArray⟩] 78)
            have HHB := hideN (Blk.new wr #[.int .u32 (hp : Nat), .int .i64 hl, .int .i64 hu, .string ⟨ht.toArray⟩] 78)
            have HF4 := hideN (HF3.out.below hal)
            have hU4 := HU3.out.below hal
            have HC4 := hideN (HC3.out.next hal)
            have HR4 := hideN (HR3.out.next hal)
            have HL4 := hideN (HL3.out.next hal)
            have HB4 : Hid (Below w.heap.size w _) := hideN (HB3.out.trans (hal.mono HB3.out.size))
            have e1 := HC4.out.cell (i := 1) rfl
            have k0 := HL4.out.cell (i := 0) rfl
            have k1 := HL4.out.cell (i := 1) rfl
            have m0 := HHB.out.cell (i := 0) rfl
            have m1 := HHB.out.cell (i := 1) rfl
            obtain ⟨w5, hst, hU5, hg5⟩ := hU4.store Tryz.underlying117 (x := ((rp, rl), (hp, hl))) ⟨HW.out.1, HWJ.out⟩ 0 (by unfold maxLen; have := HN3.out; omega)
            change (Instr.mapUpdate 117 (.map (some mu)) (.agg #[.int .u32 (rp : Nat), .int .i64 rl, .int .u32 (hp : Nat), .int .i64 hl]) (.int .i64 0)).run Tryz.prog _ = _ at hst
            have ho5 : Off (fun k => k = mu) _ w5 := off_of_grown hg5 rfl
            have hne := HNE.out
            have hsz := HSZ.out
            have HF5 := hideN (HF4.out.off ho5 (fun e => hne.1 e))
            have HU5 : Hid (useInts.Fn w5 mu (n3 + 1) (uPart (bs.take i) (rp, rl) (l.take (j + 1)))) := by
              show useInts.Fn _ _ _ _
              rw [HTJ.out, uPart_snoc]
              exact hU5
            have HC5 := hideN (ho5.blk HC4.out (fun e => hne.2.2.1.2 e))
            have HR5 := hideN (ho5.blk HR4.out (fun e => hne.2.1.2 e.symm))
            have HL5 := hideN (ho5.blk HL4.out (fun e => by omega))
            have HB5 : Hid (Below w.heap.size w w5) := HB4.out.trans (ho5.below HB4.out.size (fun k hk e => by have := HR0.out; omega))
            clear hal hU4 hU5 hg5 ho5 hne hsz
            go_wp2_with fail
            go_roundw
            case rel => exact ⟨j + 1, n3 + 1, hjl, by go_num, HF5.out, HU5.out, by show _ ≤ _; have := HN3.out; omega, HC5.out, HR5.out, HL5.out, HB5.out⟩
            case measure => simp [intOf]; omega
          · have hge : (l.length : Int) ≤ (j : Int) := by omega
            have hua : uPart (bs.take i) (rp, rl) l = zeroU (bs.take i ++ [((rp, rl), l)]) := uPart_all (bs := bs.take i) (b := ((rp, rl), l)) HZ.out
            rw [show l.take j = l from List.take_of_length_le (by omega), hua, ← HTK.out] at HU3
            clear hua
            go_wp2_with fail
            go_roundw
            case rel => exact ⟨i + 1, n3, hlt, by go_num, HF3.out, HU3.out, by show _ ≤ _; have := HN3.out; omega, HC3.out, HR3.out, HB3.out⟩
            case measure => simp [intOf]; omega
    · have hge : (bs.length : Int) ≤ (i : Int) := by omega
      rw [List.take_of_length_le (by omega)] at HF HU
      have e0 := HC.out.cell (i := 0) rfl
      have e1 := HC.out.cell (i := 1) rfl
      have f0 := HR.out.frozen 0
      have f1 := HR.out.frozen 1
      have g0 := HR.out.cell (i := 0) rfl
      have g1 := HR.out.cell (i := 1) rfl
      have hne := HNE.out
      have hRs := (HR.out.set 0 (.map (some mf))).set 1 (.map (some mu))
      have s0 := hRs.cell (i := 0) rfl
      have s1 := hRs.cell (i := 1) rfl
      have hO := ((Off.of_below (F := fun k => k = R0) (Below.refl wr.heap.size wr)).setCell (p := ⟨R0, 0, none⟩) (.inl rfl) (.map (some mf))).setCell (p := ⟨R0, 1, none⟩) (.inl rfl) (.map (some mu))
      have hFz := (HF.out.off hO (fun e => hne.2.1.1 e)).mono (m := 100) (by omega)
      have hUz := (HU.out.off hO (fun e => hne.2.1.2 e)).mono (m := 100000) (by have := HN2.out; omega)
      have hBz := HB.out.trans (hO.below HB.out.size (fun k hk e => by have := HR0.out; omega))
      have HZZ := hideN (And.intro hFz (And.intro hUz hBz))
      have HSS := hideN (And.intro s0 s1)
      clear hRs s0 s1 hO hFz hUz hBz hne
      go_wp2_with fail
      obtain ⟨s0, s1⟩ := HSS.out
      obtain ⟨z1, z2, z3⟩ := HZZ.out
      exact bodyPost_ret (v := .agg #[.map (some mf), .map (some mu)]) (by simp [results, Tryz.results59, go_sem, s0, s1]) rfl ⟨mf, mu, rfl, z1, z2, ⟨HNE.out.1, by have := HR0.out; have := HNE.out; omega, by have := HR0.out; have := HNE.out; omega⟩, z3⟩
end Go.Proofs.YtcbcjefefmbccabGreatDoor
namespace Go.Proofs.YtcbcjefefmbccabGreatDoor
open Go.RowKit Go.Maps

/- The first place from k on at which err is not 0. -/
def firstErr (err : Nat → Int) : Nat → Nat → Option Nat
  | _, 0 => none
  | k, n + 1 => if err k ≠ 0 then some k else firstErr err (k + 1) n
def firstAns (err : Nat → Int) (many : Nat) : Int × Int := match firstErr err 0 many with | none => (0, -1) | some k => (err k, k)
def FirstPost (a : Nat → Addr) (base : Nat) (J : World → Prop) (I : Nat → World → Prop) (err : Nat → Int) (many : Nat) (e : Ending) (w' : World) : Prop :=
  ∃ ev, e = .returned ev ∧ ErrIn base w' a ev (firstAns err many) ∧ (firstErr err 0 many = none → I many w') ∧ J w'
set_option maxRecDepth 100000 in
set_option maxHeartbeats 4000000 in
theorem first1_any (a : Nat → Addr) (lb : Array Value) (many : Nat) (err : Nat → Int) (J : World → Prop) (I : Nat → World → Prop) (w : World) (hm : many ≤ 1000) (hJ0 : J w) (hJa : ∀ W o, J W → J (W.alloc o))
    (hcall : ∀ k W, k < many → w.heap.size ≤ W.heap.size → I k W → Calls Tryz.prog 61 (#[.int .i64 k] ++ lb) W fun e w' => ∃ ev, e = .returned ev ∧ ((err k = 0 ∧ ev = .nilIface) ∨ ∃ i : Nat, i < 12 ∧ err k = (i : Int) + 1 ∧ ev = sentV a i) ∧ w.heap.size ≤ w'.heap.size ∧ (err k = 0 → I (k + 1) w') ∧ J w') (h0 : I 0 w) :
    Calls Tryz.prog 60 #[.int .i64 many, .func (.func 61) #[] lb] w (FirstPost a w.heap.size J I err many) := by
  have HC := hideN hcall
  have HI0 := hideN h0
  have HJ0 := hideN hJ0
  have HJA := hideN hJa
  clear hJ0 hJa
  have hm' : (many : Int) ≤ 1000 := by omega
  obtain ⟨RES, hRES⟩ : ∃ RES, firstErr err 0 many = RES := ⟨_, rfl⟩
  have HRES := hideN hRES
  clear hcall h0 hRES
  go_enter Tryz.func60, Tryz.ntmps60
  go_wp2_with fail
  go_loopw [8] (fun iv wr => ∃ (k : Nat), k ≤ many ∧ iv = .int .i64 k ∧ Hid (I k wr) ∧ Hid (firstErr err k (many - k) = RES) ∧ Hid (w.heap.size ≤ wr.heap.size) ∧ Hid (J wr)) (fun iv _ => many - (intOf iv).toNat)
  case atStart => exact ⟨0, Nat.zero_le _, rfl, HI0.out, HRES.out, Nat.le_refl _, HJ0.out⟩
  case round =>
    clear HI0
    obtain ⟨k, hk, rfl, HI, HR, HS, HJ⟩ := hrel
    by_cases hlt : k < many
    · have hlt' : (k : Int) < (many : Int) := by omega
      have HCK := hideN (HC.out k wr hlt HS.out HI.out)
      have hsub : many - k = (many - (k + 1)) + 1 := by omega
      rw [hsub, firstErr] at HR
      clear hsub
      go_wp2_with fail
      refine HCK.out.mono ?_
      rintro e w2 ⟨ev2, rfl, he2, hs2, hi2, hj2⟩
      have HJ2 := hideN hj2
      have HS2 := hideN hs2
      have HI2 := hideN hi2
      clear hs2 hi2 HCK hj2
      rcases he2 with ⟨h0, rfl⟩ | ⟨i, hi, h0, rfl⟩
      · rw [if_neg (by rw [h0]; simp)] at HR
        have HI3 := hideN (HI2.out h0)
        clear h0 HI2
        go_wp2_with fail
        go_roundw
        case rel => exact ⟨k + 1, hlt, by go_num, HI3.out, HR.out, HS2.out, HJ2.out⟩
        case measure => simp [intOf]; omega
      · have hne : err k ≠ 0 := by rw [h0]; omega
        rw [if_pos hne] at HR
        have HQ := hideN h0
        have HIL := hideN hi
        clear h0 hne HI2 hi
        go_wp2_with fail
        go_ret
        have hres : firstErr err 0 many = some k := HRES.out.trans HR.out.symm
        refine ⟨_, rfl, ?_, fun h => ?_, HJA.out _ _ HJ2.out⟩
        · unfold firstAns
          rw [hres]
          exact .inr (.inr ⟨i, w2.heap.size, 0, (k : Int), HIL.out, HS2.out, rfl, new_cell _ _ _ rfl rfl, new_cell _ _ _ rfl rfl, by simp only; rw [HQ.out]⟩)
        · rw [hres] at h
          cases h
    · have hge : (many : Int) ≤ (k : Int) := by omega
      have hz : many - k = 0 := by omega
      have hkm : k = many := by omega
      rw [hz, firstErr] at HR
      have hres : firstErr err 0 many = none := HRES.out.trans HR.out.symm
      have HRS := hideN hres
      rw [hkm] at HI
      clear hz hkm hres
      go_wp2_with fail
      go_ret
      refine ⟨_, rfl, ?_, fun _ => HI.out, HJ.out⟩
      unfold firstAns
      rw [HRS.out]
      exact .inl ⟨rfl, rfl⟩
set_option maxRecDepth 100000 in
set_option maxHeartbeats 4000000 in
theorem first2_any (a : Nat → Addr) (lb : Array Value) (many : Nat) (err : Nat → Int) (J : World → Prop) (I : Nat → World → Prop) (w : World) (hm : many ≤ 1000) (hJ0 : J w) (hJa : ∀ W o, J W → J (W.alloc o))
    (hcall : ∀ k W, k < many → w.heap.size ≤ W.heap.size → I k W → Calls Tryz.prog 63 (#[.int .i64 k] ++ lb) W fun e w' => ∃ ev, e = .returned ev ∧ ((err k = 0 ∧ ev = .nilIface) ∨ ∃ i : Nat, i < 12 ∧ err k = (i : Int) + 1 ∧ ev = sentV a i) ∧ w.heap.size ≤ w'.heap.size ∧ (err k = 0 → I (k + 1) w') ∧ J w') (h0 : I 0 w) :
    Calls Tryz.prog 60 #[.int .i64 many, .func (.func 63) #[] lb] w (FirstPost a w.heap.size J I err many) := by
  have HC := hideN hcall
  have HI0 := hideN h0
  have HJ0 := hideN hJ0
  have HJA := hideN hJa
  clear hJ0 hJa
  have hm' : (many : Int) ≤ 1000 := by omega
  obtain ⟨RES, hRES⟩ : ∃ RES, firstErr err 0 many = RES := ⟨_, rfl⟩
  have HRES := hideN hRES
  clear hcall h0 hRES
  go_enter Tryz.func60, Tryz.ntmps60
  go_wp2_with fail
  go_loopw [8] (fun iv wr => ∃ (k : Nat), k ≤ many ∧ iv = .int .i64 k ∧ Hid (I k wr) ∧ Hid (firstErr err k (many - k) = RES) ∧ Hid (w.heap.size ≤ wr.heap.size) ∧ Hid (J wr)) (fun iv _ => many - (intOf iv).toNat)
  case atStart => exact ⟨0, Nat.zero_le _, rfl, HI0.out, HRES.out, Nat.le_refl _, HJ0.out⟩
  case round =>
    clear HI0
    obtain ⟨k, hk, rfl, HI, HR, HS, HJ⟩ := hrel
    by_cases hlt : k < many
    · have hlt' : (k : Int) < (many : Int) := by omega
      have HCK := hideN (HC.out k wr hlt HS.out HI.out)
      have hsub : many - k = (many - (k + 1)) + 1 := by omega
      rw [hsub, firstErr] at HR
      clear hsub
      go_wp2_with fail
      refine HCK.out.mono ?_
      rintro e w2 ⟨ev2, rfl, he2, hs2, hi2, hj2⟩
      have HJ2 := hideN hj2
      have HS2 := hideN hs2
      have HI2 := hideN hi2
      clear hs2 hi2 HCK hj2
      rcases he2 with ⟨h0, rfl⟩ | ⟨i, hi, h0, rfl⟩
      · rw [if_neg (by rw [h0]; simp)] at HR
        have HI3 := hideN (HI2.out h0)
        clear h0 HI2
        go_wp2_with fail
        go_roundw
        case rel => exact ⟨k + 1, hlt, by go_num, HI3.out, HR.out, HS2.out, HJ2.out⟩
        case measure => simp [intOf]; omega
      · have hne : err k ≠ 0 := by rw [h0]; omega
        rw [if_pos hne] at HR
        have HQ := hideN h0
        have HIL := hideN hi
        clear h0 hne HI2 hi
        go_wp2_with fail
        go_ret
        have hres : firstErr err 0 many = some k := HRES.out.trans HR.out.symm
        refine ⟨_, rfl, ?_, fun h => ?_, HJA.out _ _ HJ2.out⟩
        · unfold firstAns
          rw [hres]
          exact .inr (.inr ⟨i, w2.heap.size, 0, (k : Int), HIL.out, HS2.out, rfl, new_cell _ _ _ rfl rfl, new_cell _ _ _ rfl rfl, by simp only; rw [HQ.out]⟩)
        · rw [hres] at h
          cases h
    · have hge : (many : Int) ≤ (k : Int) := by omega
      have hz : many - k = 0 := by omega
      have hkm : k = many := by omega
      rw [hz, firstErr] at HR
      have hres : firstErr err 0 many = none := HRES.out.trans HR.out.symm
      have HRS := hideN hres
      rw [hkm] at HI
      clear hz hkm hres
      go_wp2_with fail
      go_ret
      refine ⟨_, rfl, ?_, fun _ => HI.out, HJ.out⟩
      unfold firstAns
      rw [HRS.out]
      exact .inl ⟨rfl, rfl⟩
end Go.Proofs.YtcbcjefefmbccabGreatDoor
namespace Go.Proofs.YtcbcjefefmbccabGreatDoor
open Go.RowKit Go.Maps

def cF (f : Nat × Int → Option Int) : List Rcp → Nat × Int → Option Int
  | [] => f
  | r :: l => cF (bump f (rcpRep r)) l
def cU (f : Use → Option Int) : List Rcp → Use → Option Int
  | [] => f
  | r :: l => cU (bumpAll f (rcpRep r) r.2.2.2) l
theorem cF_snoc (r : Rcp) : ∀ (l : List Rcp) (f : Nat × Int → Option Int), cF f (l ++ [r]) = bump (cF f l) (rcpRep r)
  | [], _ => rfl
  | x :: l, f => cF_snoc r l (bump f (rcpRep x))
theorem cU_snoc (r : Rcp) : ∀ (l : List Rcp) (f : Use → Option Int), cU f (l ++ [r]) = bumpAll (cU f l) (rcpRep r) r.2.2.2
  | [], _ => rfl
  | x :: l, f => cU_snoc r l (bumpAll f (rcpRep x) x.2.2.2)
theorem cF_some : ∀ (l : List Rcp) (f : Nat × Int → Option Int) (y : Nat × Int), (cF f l y).isSome = (f y).isSome
  | [], _, _ => rfl
  | x :: l, f, y => by rw [cF, cF_some l, bump_some]
theorem cU_some : ∀ (l : List Rcp) (f : Use → Option Int) (y : Use), (cU f l y).isSome = (f y).isSome
  | [], _, _ => rfl
  | x :: l, f, y => by rw [cU, cU_some l, bumpAll_some]
theorem cF_le : ∀ (l : List Rcp) {f : Nat × Int → Option Int} {B : Int}, (∀ y c, f y = some c → 0 ≤ c ∧ c ≤ B) → ∀ y c, cF f l y = some c → 0 ≤ c ∧ c ≤ B + l.length
  | [], f, B, h, y, c, hy => by
    have := h y c hy
    simp only [List.length_nil]
    omega
  | x :: l, f, B, h, y, c, hy => by
    have := cF_le l (bump_le (x := rcpRep x) h) y c hy
    simp only [List.length_cons]
    omega
theorem cU_le : ∀ (l : List Rcp) {f : Use → Option Int} {B : Int}, (∀ r ∈ l, r.2.2.2.length ≤ 250) → (∀ y c, f y = some c → 0 ≤ c ∧ c ≤ B) → ∀ y c, cU f l y = some c → 0 ≤ c ∧ c ≤ B + 250 * l.length
  | [], f, B, _, h, y, c, hy => by
    have := h y c hy
    simp only [List.length_nil]
    omega
  | x :: l, f, B, hl, h, y, c, hy => by
    have h1 := cU_le l (fun r hr => hl r (List.mem_cons_of_mem _ hr)) (bumpAll_le (rcpRep x) x.2.2.2 h) y c hy
    have h2 := hl x (List.mem_cons_self ..)
    simp only [List.length_cons]
    omega
theorem addErr_static {F F' : Nat × Int → Option Int} {U U' : Use → Option Int} (hF : ∀ y, (F' y).isSome = (F y).isSome) (hU : ∀ y, (U' y).isSome = (U y).isSome) (r : Rcp) : addErr F' U' r = addErr F U r := by
  unfold addErr
  rw [hF]
  simp only [hU]
theorem zeroF_le (bs : List NBin) : ∀ y c, zeroF bs y = some c → 0 ≤ c ∧ c ≤ 0 := fun y c h => by
  unfold zeroF at h
  split at h
  · cases h; omega
  · cases h
theorem zeroU_le (bs : List NBin) : ∀ y c, zeroU bs y = some c → 0 ≤ c ∧ c ≤ 0 := fun y c h => by
  unfold zeroU at h
  split at h
  · cases h
  · split at h
    · cases h; omega
    · cases h
structure FilesIn (fs : List Rcp) : Prop where
  fmany : fs.length ≤ 30
  good : ∀ r ∈ fs, recFault r.1 r.2.1 r.2.2.2 = (0, -1)
  flen : ∀ r ∈ fs, r.2.2.2.length ≤ 250
  forder : ∀ i (h : i < fs.length) (h0 : 0 < i), (fs[i - 1]'(by omega)).1 < fs[i].1
  fname : ∀ r ∈ fs, r.1.length ≤ 50000
  fwf : ∀ r ∈ fs, (∀ i ∈ r.2.2.2, WfID i) ∧ WfID (rcpRep r)
structure RightIn (fs : List Rcp) (bs : List NBin) : Prop extends FilesIn fs where
  fadd : ∀ r ∈ fs, addErr (zeroF bs) (zeroU bs) r = 0
  bmany : bs.length ≤ 100
  blen : ∀ b ∈ bs, b.2.length ≤ 1000
  bwf : ∀ b ∈ bs, WfID b.1 ∧ ∀ h ∈ b.2, WfID h.1
  border : ∀ i (h : i < bs.length) (h0 : 0 < i), lessB (bs[i - 1]'(by omega)).1 bs[i].1 = true
  bpos : ∀ b ∈ bs, (cF (zeroF bs) fs b.1).getD 0 ≠ 0
  bids : ∀ b ∈ bs, ∀ h ∈ b.2, h.1 = idOfL h.2.2 ∧ h.2.2.length ≤ 1000
  brise : ∀ b ∈ bs, Rise b.2
/- What stands while files are counted. -/
structure CkI (w0 : World) (bs : List NBin) (fs : List Rcp) (vf vb : Value) (CB FX BX mf mu : Nat) (k : Nat) (W : World) : Prop where
  below : Below w0.heap.size w0 W
  cb : Blk W CB #[.map (some mf), .map (some mu)] 119
  fx : Blk W FX #[vf] 31
  bx : Blk W BX #[vb] 54
  f : idInts.Fn W mf (100 + k) (cF (zeroF bs) (fs.take k))
  u : useInts.Fn W mu (100000 + 250 * k) (cU (zeroU bs) (fs.take k))
  new : w0.heap.size ≤ mf ∧ w0.heap.size ≤ mu ∧ mf ≠ mu
  apart : (CB ≠ mf ∧ CB ≠ mu) ∧ (FX ≠ mf ∧ FX ≠ mu) ∧ (BX ≠ mf ∧ BX ≠ mu)
theorem CkI.next {w0 : World} {bs : List NBin} {fs : List Rcp} {vf vb : Value} {CB FX BX mf mu k : Nat} {W W' : World} (h : CkI w0 bs fs vf vb CB FX BX mf mu k W) (hb : Below W.heap.size W W') : CkI w0 bs fs vf vb CB FX BX mf mu k W' :=
  ⟨h.below.trans (hb.mono h.below.size), h.cb.next hb, h.fx.next hb, h.bx.next hb, h.f.below hb, h.u.below hb, h.new, h.apart⟩
set_option maxRecDepth 100000 in
set_option maxHeartbeats 4000000 in
theorem check1_add (a : Nat → Addr) (vf vb : Value) (fs : List Rcp) (bs : List NBin) (w0 W : World) (CB FX BX mf mu k : Nat) (hk : k < fs.length) (hR : FilesIn fs) (hv : RcpsAt w0 vf fs) (hE : ErrE [1, 2, 3, 4, 6, 8] w0 a) (hI : CkI w0 bs fs vf vb CB FX BX mf mu k W) :
    Calls Tryz.prog 61 (#[.int .i64 k] ++ #[.pointer (some ⟨CB, 0, none⟩), .pointer (some ⟨FX, 0, none⟩)]) W fun e w' => ∃ ev, e = .returned ev ∧ SentOr a ev (addErr (zeroF bs) (zeroU bs) fs[k]) ∧ W.heap.size ≤ w'.heap.size ∧ (addErr (zeroF bs) (zeroU bs) fs[k] = 0 → CkI w0 bs fs vf vb CB FX BX mf mu (k + 1) w') ∧ Below w0.heap.size w0 w' := by
  have hfm := hR.fmany
  have hlen := hR.flen fs[k] (List.getElem_mem hk)
  have HCF := hideN (checkFile_add a vf fs k w0 W hk mf mu (100 + k) (100000 + 250 * k) (cF (zeroF bs) (fs.take k)) (cU (zeroU bs) (fs.take k)) (250 * k) hv hI.below ⟨hI.new.1, hI.new.2.1⟩ hfm (hR.good _ (List.getElem_mem hk)) (fun h => hR.forder k hk h) hR.fname (hR.fwf _ (List.getElem_mem hk)).1 (hR.fwf _ (List.getElem_mem hk)).2 hE hI.new.2.2 (by omega) (by omega) ⟨by omega, by omega⟩
    (fun y c hy => by have := cF_le (fs.take k) (zeroF_le bs) y c hy; rw [List.length_take] at this; omega)
    (fun y c hy => by have := cU_le (fs.take k) (fun r hr => hR.flen r (List.mem_of_mem_take hr)) (zeroU_le bs) y c hy; rw [List.length_take] at this; omega)
    hI.f hI.u)
  unfold AddPost at HCF
  rw [addErr_static (fun y => cF_some _ _ y) (fun y => cU_some _ _ y)] at HCF
  obtain ⟨AE, hAE⟩ : ∃ AE, addErr (zeroF bs) (zeroU bs) fs[k] = AE := ⟨_, rfl⟩
  rw [hAE] at HCF ⊢
  clear hAE
  have HI := hideN hI
  have HTK := hideN (List.take_succ_eq_append_getElem hk)
  have HLEN := hideN hlen
  have c0 := hI.cb.cell (i := 0) rfl
  have c1 := hI.cb.cell (i := 1) rfl
  have f0 := hI.fx.cell (i := 0) rfl
  obtain ⟨pa, ca, rfl, _⟩ := hv
  clear hI hR hE hlen
  simp only [List.append_toArray, List.cons_append, List.nil_append]
  go_enter Tryz.func61, Tryz.ntmps61
  go_wp2_with fail
  refine HCF.out.mono ?_
  rintro e w2 ⟨ev, rfl, hev, ho, hfu⟩
  have HEV := hideN hev
  have HBW : Hid (Below w0.heap.size w0 w2) := HI.out.below.trans (ho.below HI.out.below.size (fun j hj e => by have := HI.out.new; rcases e with e | e <;> omega))
  have HSZ := hideN ho.size
  have HN : Hid (AE = 0 → CkI w0 bs fs (.slice pa fs.length ca) vb CB FX BX mf mu (k + 1) w2) := fun h0 => by
    have h := HI.out
    obtain ⟨hf, hu⟩ := hfu h0
    refine ⟨h.below.trans (ho.below h.below.size (fun j hj e => by have := h.new; rcases e with e | e <;> omega)), ho.blk h.cb (by rintro (e | e); exact h.apart.1.1 e; exact h.apart.1.2 e), ho.blk h.fx (by rintro (e | e); exact h.apart.2.1.1 e; exact h.apart.2.1.2 e), ho.blk h.bx (by rintro (e | e); exact h.apart.2.2.1 e; exact h.apart.2.2.2 e), ?_, ?_, h.new, h.apart⟩
    · rw [HTK.out, cF_snoc]
      exact hf
    · rw [HTK.out, cU_snoc]
      exact hu.mono (by have := HLEN.out; omega)
  clear hev hfu ho HCF
  go_wp2_with fail
  go_ret
  exact ⟨_, rfl, HEV.out, HSZ.out, HN.out, HBW.out⟩
set_option maxRecDepth 100000 in
set_option maxHeartbeats 4000000 in
theorem check2_any (a : Nat → Addr) (vf vb : Value) (fs : List Rcp) (bs : List NBin) (w0 W : World) (CB FX BX mf mu k : Nat) (hk : k < bs.length) (hR : RightIn fs bs) (hv : LoadsAt w0 vb bs) (hE : ErrE [10] w0 a) (hI : CkI w0 bs fs vf vb CB FX BX mf mu fs.length W) :
    Calls Tryz.prog 63 (#[.int .i64 k] ++ #[.pointer (some ⟨CB, 0, none⟩), .pointer (some ⟨BX, 0, none⟩)]) W fun e w' => ∃ ev, e = .returned ev ∧ ((usesErr (cU (zeroU bs) fs) bs[k] = 0 ∧ ev = .nilIface) ∨ (usesErr (cU (zeroU bs) fs) bs[k] = 11 ∧ ev = sentV a 10)) ∧ W.heap.size ≤ w'.heap.size ∧ CkI w0 bs fs vf vb CB FX BX mf mu fs.length w' := by
  have hI0 := hI
  have hff := hI.f
  have huu := hI.u
  rw [List.take_length] at hff huu
  have HCB := hideN (checkBin_any a vb bs k W hk mf mu _ _ _ _ (hv.below hI.below) hR.bmany hR.blen hR.bwf (fun h => hR.border k hk h) (hR.bpos _ (List.getElem_mem hk)) (hR.bids _ (List.getElem_mem hk)) (hR.brise _ (List.getElem_mem hk)) (hE.below hI.below (Nat.le_refl _)) hff huu)
  have HI := hideN hI
  have c0 := hI.cb.cell (i := 0) rfl
  have c1 := hI.cb.cell (i := 1) rfl
  have f0 := hI.bx.cell (i := 0) rfl
  obtain ⟨pa, ca, rfl, _⟩ := hv
  obtain ⟨UE, hUE⟩ : ∃ UE, usesErr (cU (zeroU bs) fs) bs[k] = UE := ⟨_, rfl⟩
  rw [hUE] at HCB ⊢
  unfold BinsPost at HCB
  clear hI hI0 hR hE hff huu hUE
  simp only [List.append_toArray, List.cons_append, List.nil_append]
  go_enter Tryz.func63, Tryz.ntmps63
  go_wp2_with fail
  refine HCB.out.mono ?_
  rintro e w2 ⟨ev, rfl, hev, hb⟩
  have HEV := hideN hev
  have HN := hideN (HI.out.next hb)
  have HS := hideN hb.size
  clear hev hb HCB
  go_wp2_with fail
  go_ret
  exact ⟨_, rfl, HEV.out, HS.out, HN.out⟩
def binErrs (fs : List Rcp) (bs : List NBin) (k : Nat) : Int := if h : k < bs.length then usesErr (cU (zeroU bs) fs) bs[k] else 0
theorem firstErr_zero : ∀ (n k : Nat), firstErr (fun _ => 0) k n = none
  | 0, _ => rfl
  | n + 1, k => by
    rw [firstErr, if_neg (by simp)]
    exact firstErr_zero n (k + 1)
theorem firstErr_some {err : Nat → Int} : ∀ {n k : Nat} {j : Nat}, firstErr err k n = some j → err j ≠ 0
  | 0, _, _, h => by cases h
  | n + 1, k, j, h => by
    rw [firstErr] at h
    split at h
    · rename_i hk
      obtain rfl := Option.some.inj h
      exact hk
    · exact firstErr_some h
def checkAns (fe be : Nat → Int) (nf nb : Nat) : Int × Int := match firstErr fe 0 nf with | none => firstAns be nb | some _ => firstAns fe nf
set_option maxRecDepth 100000 in
set_option maxHeartbeats 8000000 in
theorem scrubCheck_gen (a : Nat → Addr) (vf vb : Value) (fs : List Rcp) (bs : List NBin) (w : World) (fe be : Nat → Int) (hfm' : fs.length ≤ 30) (hbm' : bs.length ≤ 100) (hbl : ∀ b ∈ bs, b.2.length ≤ 1000) (hbw : ∀ b ∈ bs, WfID b.1 ∧ ∀ h ∈ b.2, WfID h.1) (hf : RcpsAt w vf fs) (hb : LoadsAt w vb bs)
    (h1 : ∀ CB FX BX mf mu k W, k < fs.length → CkI w bs fs vf vb CB FX BX mf mu k W → Calls Tryz.prog 61 (#[.int .i64 k] ++ #[.pointer (some ⟨CB, 0, none⟩), .pointer (some ⟨FX, 0, none⟩)]) W fun e w' => ∃ ev, e = .returned ev ∧ SentOr a ev (fe k) ∧ W.heap.size ≤ w'.heap.size ∧ (fe k = 0 → CkI w bs fs vf vb CB FX BX mf mu (k + 1) w') ∧ Below w.heap.size w w')
    (h2 : firstErr fe 0 fs.length = none → ∀ CB FX BX mf mu k W, k < bs.length → CkI w bs fs vf vb CB FX BX mf mu fs.length W → Calls Tryz.prog 63 (#[.int .i64 k] ++ #[.pointer (some ⟨CB, 0, none⟩), .pointer (some ⟨BX, 0, none⟩)]) W fun e w' => ∃ ev, e = .returned ev ∧ SentOr a ev (be k) ∧ W.heap.size ≤ w'.heap.size ∧ CkI w bs fs vf vb CB FX BX mf mu fs.length w') :
    Calls Tryz.prog 24 #[vf, vb] w fun e w' => ∃ ev, e = .returned ev ∧ ErrIn w.heap.size w' a ev (checkAns fe be fs.length bs.length) ∧ Below w.heap.size w w' := by
  have HBS := hideN hb
  have H1 := hideN h1
  have H2 := hideN h2
  have HBW := hideN hbw
  have HBN := hideN hbl
  have hfm : (fs.length : Int) ≤ 30 := by omega
  have hbm : (bs.length : Int) ≤ 100 := by omega
  obtain ⟨pf, cf, hvf, _⟩ := hf
  obtain ⟨pb, cb, hvb, _⟩ := hb
  subst hvf hvb
  clear h1 h2 hbw hbl
  have hal1 := (Below.refl w.heap.size w).alloc (Nat.le_refl _) (.cells #[.slice pf fs.length cf] 31)
  have hb1 := Blk.new w #[.slice pf fs.length cf] 31
  obtain ⟨W1, hW1⟩ : ∃ W1, w.alloc (.cells #[.slice pf fs.length cf] 31) = W1 := ⟨_, rfl⟩
  rw [hW1] at hal1 hb1
  have hs1 : W1.heap.size = w.heap.size + 1 := by rw [← hW1]; simp
  have hal2 := (Below.refl W1.heap.size W1).alloc (Nat.le_refl _) (.cells #[.slice pb bs.length cb] 54)
  have hb2 := Blk.new W1 #[.slice pb bs.length cb] 54
  rw [hs1] at hb2
  have HF2 := hideN (hb1.next hal2)
  have HB2 := hideN hb2
  have HBL2 : Hid (Below w.heap.size w _) := hideN (hal1.trans (hal2.mono hal1.size))
  have f0 := HF2.out.cell (i := 0) rfl
  have b0 := HB2.out.cell (i := 0) rfl
  rw [← hW1] at f0 b0
  rw [← hW1] at HF2 HB2 HBL2
  clear hal1 hb1 hs1 hal2 hb2 hW1
  go_enter Tryz.func24, Tryz.ntmps24
  go_wp2_with fail
  generalize ((w.alloc (.cells #[.slice pf fs.length cf] 31)).alloc (.cells #[.slice pb bs.length cb] 54)) = W2 at *
  refine (zeros_any (.slice pb bs.length cb) bs W2 (HBS.out.below HBL2.out) HBW.out hbm' HBN.out).mono ?_
  rintro e w3 ⟨mf, mu, rfl, hF3, hU3, ⟨hn1, hn2, hn3⟩, hb3⟩
  have hal3 := (Below.refl w3.heap.size w3).alloc (Nat.le_refl _) (.cells #[.map (some mf), .map (some mu)] 119)
  have HC4 := hideN (Blk.new w3 #[.map (some mf), .map (some mu)] 119)
  have HB4 : Hid (Below w.heap.size w _) := hideN ((HBL2.out.trans (hb3.mono HBL2.out.size)).trans (hal3.mono (Nat.le_trans HBL2.out.size hb3.size)))
  have HI4 : Hid (CkI w bs fs (.slice pf fs.length cf) (.slice pb bs.length cb) w3.heap.size w.heap.size (w.heap.size + 1) mf mu 0 (w3.alloc (.cells #[.map (some mf), .map (some mu)] 119))) := by
    have h1 := HF2.out.lt
    have h2 := HB2.out.lt
    have h3 := hF3.lt
    have h4 := hU3.lt
    have h5 := HBL2.out.size
    exact ⟨HB4.out, HC4.out, (HF2.out.next hb3).next hal3, (HB2.out.next hb3).next hal3, hF3.below hal3, hU3.below hal3, ⟨by omega, by omega, hn1⟩, ⟨by omega, by omega⟩, ⟨by omega, by omega⟩, by omega, by omega⟩
  have f1 := HI4.out.fx.cell (i := 0) rfl
  have b1 := HI4.out.bx.cell (i := 0) rfl
  clear hF3 hU3 hn1 hn2 hn3 hb3 hal3 HC4 HF2 HB2 HBL2 f0 b0
  go_wp2_with fail
  clear f1 b1
  generalize w3.alloc (.cells #[.map (some mf), .map (some mu)] 119) = W4 at *
  generalize w3.heap.size = CB at *
  refine (first1_any a #[.pointer (some ⟨CB, 0, none⟩), .pointer (some ⟨w.heap.size, 0, none⟩)] fs.length fe (fun W => Below w.heap.size w W) (fun k W => CkI w bs fs (.slice pf fs.length cf) (.slice pb bs.length cb) CB w.heap.size (w.heap.size + 1) mf mu k W) W4 (by omega) HI4.out.below (fun W o h => h.alloc h.size o) (fun k W hk hs hI => (H1.out CB w.heap.size (w.heap.size + 1) mf mu k W hk hI).mono fun e w' ⟨ev, h1, h2, h3, h4, h5⟩ => ⟨ev, h1, h2, Nat.le_trans hs h3, h4, h5⟩) HI4.out).mono ?_
  rintro e w5 ⟨ev5, rfl, he5, hi5, hj5⟩
  cases hfe : firstErr fe 0 fs.length with
  | some k =>
    have hc := firstErr_some hfe
    have hans : checkAns fe be fs.length bs.length = firstAns fe fs.length := by unfold checkAns; rw [hfe]
    have HE5 : Hid (ErrIn w.heap.size w5 a ev5 (checkAns fe be fs.length bs.length)) := by
      rw [hans]
      rcases he5 with h | h | ⟨k1, pb1, po1, at1, h1, h2, h3, h4⟩
      · exact .inl h
      · exact .inr (.inl h)
      · exact .inr (.inr ⟨k1, pb1, po1, at1, h1, Nat.le_trans HI4.out.below.size h2, h3, h4⟩)
    have hne : ev5 ≠ .nilIface := by
      rintro rfl
      unfold firstAns at he5
      rw [hfe] at he5
      rcases he5 with ⟨_, h⟩ | ⟨k1, _, h, _⟩ | ⟨k1, pb1, po1, at1, _, _, h, _⟩
      · exact hc (congrArg Prod.fst h)
      · cases h
      · cases h
    have HJ5 := hideN hj5
    obtain ⟨T5, A5, rfl⟩ : ∃ T5 A5, ev5 = .iface T5 A5 := by
      rcases he5 with ⟨h, _⟩ | ⟨k1, _, h, _⟩ | ⟨k1, pb1, po1, at1, _, _, h, _⟩
      · exact absurd h hne
      · exact ⟨_, _, h⟩
      · exact ⟨_, _, h⟩
    clear he5 hi5 hj5 hne hans hc
    go_wp2_with fail
    go_ret
    exact ⟨_, rfl, HE5.out, HJ5.out⟩
  | none =>
    have hans : firstAns fe fs.length = (0, -1) := by unfold firstAns; rw [hfe]
    rw [hans] at he5
    obtain rfl := he5.nil
    have HI5 := hideN (hi5 hfe)
    have H2' := hideN (H2.out hfe)
    have hans2 : checkAns fe be fs.length bs.length = firstAns be bs.length := by unfold checkAns; rw [hfe]
    have HA2 := hideN hans2
    clear he5 hi5 hj5 hans HI4 HB4 hans2
    have b1 := HI5.out.bx.cell (i := 0) rfl
    have HSZ5 : Hid (w.heap.size ≤ w5.heap.size) := HI5.out.below.size
    go_wp2_with fail
    refine (first2_any a #[.pointer (some ⟨CB, 0, none⟩), .pointer (some ⟨w.heap.size + 1, 0, none⟩)] bs.length be (fun W => Below w.heap.size w W) (fun _ W => CkI w bs fs (.slice pf fs.length cf) (.slice pb bs.length cb) CB w.heap.size (w.heap.size + 1) mf mu fs.length W) w5 (by omega) HI5.out.below (fun W o h => h.alloc h.size o) (fun k W hk hs hI => (H2'.out CB w.heap.size (w.heap.size + 1) mf mu k W hk hI).mono fun e w' ⟨ev, h1, h2, h3, h4⟩ => ⟨ev, h1, h2, Nat.le_trans hs h3, fun _ => h4, h4.below⟩) HI5.out).mono ?_
    rintro e w6 ⟨ev6, rfl, he6, _, hj6⟩
    have HE6 : Hid (ErrIn w.heap.size w6 a ev6 (firstAns be bs.length)) := by
      rcases he6 with h | h | ⟨k1, pb1, po1, at1, h1, h2, h3, h4⟩
      · exact .inl h
      · exact .inr (.inl h)
      · exact .inr (.inr ⟨k1, pb1, po1, at1, h1, Nat.le_trans HSZ5.out h2, h3, h4⟩)
    have HJ6 := hideN hj6
    clear he6 hj6 b1
    go_wp2_with fail
    go_ret
    exact ⟨_, rfl, by rw [HA2.out]; exact HE6.out, HJ6.out⟩
def addErrs (fs : List Rcp) (bs : List NBin) (k : Nat) : Int := if h : k < fs.length then addErr (zeroF bs) (zeroU bs) fs[k] else 0
theorem scrubCheck_any (a : Nat → Addr) (vf vb : Value) (fs : List Rcp) (bs : List NBin) (w : World) (hR : RightIn fs bs) (hf : RcpsAt w vf fs) (hb : LoadsAt w vb bs) (hE : ErrE [1, 2, 3, 4, 6, 8, 10] w a) :
    Calls Tryz.prog 24 #[vf, vb] w fun e w' => ∃ ev, e = .returned ev ∧ ErrIn w.heap.size w' a ev (firstAns (binErrs fs bs) bs.length) ∧ Below w.heap.size w w' := by
  refine (scrubCheck_gen a vf vb fs bs w (fun _ => 0) (binErrs fs bs) hR.fmany hR.bmany hR.blen hR.bwf hf hb (fun CB FX BX mf mu k W hk hI => ?_) (fun _ CB FX BX mf mu k W hk hI => ?_)).mono ?_
  · refine (check1_add a vf vb fs bs w W CB FX BX mf mu k hk hR.toFilesIn hf (hE.sub (by decide)) hI).mono ?_
    rw [hR.fadd _ (List.getElem_mem hk)]
    exact fun e w' h => h
  · refine (check2_any a vf vb fs bs w W CB FX BX mf mu k hk hR hb (hE.sub (by decide)) hI).mono ?_
    rintro e w' ⟨ev, h1, h2, h3, h4⟩
    have hbe : binErrs fs bs k = usesErr (cU (zeroU bs) fs) bs[k] := by unfold binErrs; rw [dif_pos hk]
    refine ⟨ev, h1, ?_, h3, h4⟩
    rw [hbe]
    rcases h2 with ⟨h2, h5⟩ | ⟨h2, h5⟩
    · exact .inl ⟨h2, h5⟩
    · exact .inr ⟨10, by decide, by rw [h2]; rfl, h5⟩
  · rintro e w' ⟨ev, h1, h2, h3⟩
    have hans : checkAns (fun _ => 0) (binErrs fs bs) fs.length bs.length = firstAns (binErrs fs bs) bs.length := by unfold checkAns; rw [firstErr_zero]
    rw [hans] at h2
    exact ⟨ev, h1, h2, h3⟩
/- A file, and no bin at all. -/
theorem scrubCheck_none (a : Nat → Addr) (vf : Value) (r : Rcp) (w : World) (hR : FilesIn [r]) (hf : RcpsAt w vf [r]) (hE : ErrE [1, 2, 3, 4, 6, 8, 10] w a) :
    Calls Tryz.prog 24 #[vf, .slice none 0 0] w fun e w' => ∃ ev, e = .returned ev ∧ ErrIn w.heap.size w' a ev (5, 0) ∧ Below w.heap.size w w' := by
  have h5 : addErr (zeroF []) (zeroU []) r = 5 := addErr_noF rfl
  refine (scrubCheck_gen a vf (.slice none 0 0) [r] [] w (fun _ => 5) (fun _ => 0) hR.fmany (by decide) (fun b hb => by simp at hb) (fun b hb => by simp at hb) hf ⟨none, 0, rfl, fun i hi => by simp at hi⟩ (fun CB FX BX mf mu k W hk hI => ?_) (fun hn => by simp [firstErr] at hn)).mono ?_
  · have hk0 : k = 0 := by simp at hk; exact hk
    subst hk0
    refine (check1_add a vf (.slice none 0 0) [r] [] w W CB FX BX mf mu 0 hk hR hf (hE.sub (by decide)) hI).mono ?_
    rw [show [r][0] = r from rfl, h5]
    exact fun e w' h => h
  · rintro e w' ⟨ev, h1, h2, h3⟩
    exact ⟨ev, h1, h2, h3⟩
end Go.Proofs.YtcbcjefefmbccabGreatDoor
namespace Go.Proofs.YtcbcjefefmbccabGreatDoor
open Go.RowKit

theorem idCells_cells {W : World} {b o : Nat} {ids : List (Nat × Int)} (h : ∀ i (h : i < ids.length), W.cell? ⟨b, o + i * 2, none⟩ = some (.int .u32 (ids[i].1 : Nat)) ∧ W.cell? ⟨b, o + i * 2 + 1, none⟩ = some (.int .i64 ids[i].2)) :
    ∀ j u, (idCells ids)[j]? = some u → W.cell? ((⟨b, o, none⟩ : Addr).add j) = some u := by
  intro j u hj
  have hjl : j < (idCells ids).length := (List.getElem?_eq_some_iff.1 hj).1
  rw [idCells_length] at hjl
  have hi : j / 2 < ids.length := by omega
  have ha : (⟨b, o, none⟩ : Addr).add j = ⟨b, o + j, none⟩ := by unfold Addr.add; split <;> simp_all
  rw [ha]
  have e := idCells_at ids (j / 2) hi
  rcases Nat.mod_two_eq_zero_or_one j with h0 | h0
  · have hj2 : j / 2 * 2 = j := by omega
    rw [hj2] at e
    have h1 := (h (j / 2) hi).1
    rw [hj2] at h1
    rw [h1, ← hj, e.1]
  · have hj2 : j / 2 * 2 + 1 = j := by omega
    rw [hj2] at e
    have h1 := (h (j / 2) hi).2
    rw [Nat.add_assoc, hj2] at h1
    rw [h1, ← hj, e.2]
theorem idCells_one (ids : List (Nat × Int)) : ∀ u ∈ idCells ids, u.oneCell' = true := by
  induction ids with
  | nil => simp [idCells]
  | cons x r ih =>
    intro u hu
    simp only [idCells, List.mem_cons] at hu
    rcases hu with rfl | rfl | hu
    · rfl
    · rfl
    · exact ih u hu

/- A recipe in a box, and an empty one behind it. -/
structure OwnW (w W : World) (nm : ByteArray) (len p : Int) (v : Value) : Prop where
  below : Below w.heap.size w W
  size : w.heap.size + 1 < W.heap.size
  b0 : W.cell? ⟨w.heap.size, 0, none⟩ = some (.string nm)
  b1 : W.cell? ⟨w.heap.size, 1, none⟩ = some (.int .i64 len)
  b2 : W.cell? ⟨w.heap.size, 2, none⟩ = some (.int .u32 p)
  b3 : W.cell? ⟨w.heap.size, 3, none⟩ = some v
  r0 : W.cell? ⟨w.heap.size + 1, 0, none⟩ = some (.string ⟨#[]⟩)
  r1 : W.cell? ⟨w.heap.size + 1, 1, none⟩ = some (.int .i64 0)
  r2 : W.cell? ⟨w.heap.size + 1, 2, none⟩ = some (.int .u32 0)
  r3 : W.cell? ⟨w.heap.size + 1, 3, none⟩ = some (.slice none 0 0)
  g : ∀ i, W.frozen? ⟨w.heap.size, i, none⟩ = false
  f : ∀ i, W.frozen? ⟨w.heap.size + 1, i, none⟩ = false
theorem OwnW.of {w W : World} (nm : ByteArray) (len p : Int) (v : Value) (t : TypeId)
    (hb : Below ((w.alloc (.cells #[.string nm, .int .i64 len, .int .u32 p, v] t)).alloc (.cells #[.string ⟨#[]⟩, .int .i64 0, .int .u32 0, .slice none 0 0] t)).heap.size ((w.alloc (.cells #[.string nm, .int .i64 len, .int .u32 p, v] t)).alloc (.cells #[.string ⟨#[]⟩, .int .i64 0, .int .u32 0, .slice none 0 0] t)) W) : OwnW w W nm len p v := by
  have hs := hb.size
  simp only [World.size_alloc] at hs
  have c : ∀ i u, (#[.string nm, .int .i64 len, .int .u32 p, v] : Array Value)[i]? = some u → W.cell? ⟨w.heap.size, i, none⟩ = some u := fun i u h =>
    (hb.cell (p := ⟨w.heap.size, i, none⟩) (by simp; omega)).trans ((World.cell?_alloc_lt _ _ ⟨w.heap.size, i, none⟩ (by simp)).trans (new_cell w _ _ h rfl))
  have r : ∀ i u, (#[.string ⟨#[]⟩, .int .i64 0, .int .u32 0, .slice none 0 0] : Array Value)[i]? = some u → W.cell? ⟨w.heap.size + 1, i, none⟩ = some u := fun i u h =>
    (hb.cell (p := ⟨w.heap.size + 1, i, none⟩) (by simp)).trans (new_cell _ _ _ h (by simp))
  refine ⟨(((Below.refl _ w).alloc (Nat.le_refl _) _).alloc (by simp) _).trans (hb.mono (by simp; omega)), by omega, c 0 _ rfl, c 1 _ rfl, c 2 _ rfl, c 3 _ rfl, r 0 _ rfl, r 1 _ rfl, r 2 _ rfl, r 3 _ rfl, fun i => ?_, fun i => ?_⟩
  · rw [hb.frozen (p := ⟨w.heap.size, i, none⟩) (by simp; omega), frozen_alloc_lt' _ _ (by simp)]
    exact new_frozen w _ _ rfl
  · rw [hb.frozen (p := ⟨w.heap.size + 1, i, none⟩) (by simp)]
    exact new_frozen _ _ _ (by simp)

set_option maxRecDepth 100000 in
set_option maxHeartbeats 4000000 in
theorem ownRecipe_any (nm : ByteArray) (len : Int) (p : Nat) (v : Value) (ids : List (Nat × Int)) (w : World) (hv : IdsAt w v ids) (hlen : ids.length ≤ 50000) :
    Calls Tryz.prog 20 #[rcpV nm len (p : Nat) v] w fun e w' => ∃ v', e = .returned (rcpV nm len (p : Nat) v') ∧ IdsIn w.heap.size w' v' ids ∧ Below w.heap.size w w' := by
  obtain ⟨i0, hi, hz0, hz1, hz2⟩ := info_parts infoID
  obtain ⟨pa, c, rfl, hcell⟩ := hv
  have HL : Hid (ids.length ≤ 50000) := hlen
  clear hlen
  have hB0 : ∀ oo oo', Below w.heap.size w ((w.alloc oo).alloc oo') := fun oo oo' => ((Below.refl _ w).alloc (Nat.le_refl _) _).alloc (by simp) _
  cases pa with
  | none =>
    have h0 : ids.length = 0 := by
      rcases Nat.eq_zero_or_pos ids.length with h | h
      · exact h
      · obtain ⟨b, o, hp, _⟩ := hcell 0 h
        cases hp
    obtain rfl : ids = [] := List.eq_nil_of_length_eq_zero h0
    clear hcell h0
    go_enter Tryz.func20, Tryz.ntmps20
    go_wp2_with fail
    exact bodyPost_ret (v := rcpV nm len (p : Nat) (.slice none 0 0)) (by simp [results, Tryz.results20, go_sem]) rfl ⟨.slice none 0 0, rfl, IdsIn.nil _ _, hB0 _ _⟩
  | some ad =>
    by_cases hn : ids = []
    · subst hn
      clear hcell
      obtain ⟨b, o, sp⟩ := ad
      go_enter Tryz.func20, Tryz.ntmps20
      go_wp2_with fail
      exact bodyPost_ret (v := rcpV nm len (p : Nat) (.slice none 0 0)) (by simp [results, Tryz.results20, go_sem]) rfl ⟨.slice none 0 0, rfl, IdsIn.nil _ _, hB0 _ _⟩
    · have hn1 : 1 ≤ ids.length := by
        rcases Nat.eq_zero_or_pos ids.length with h | h
        · exact (hn (List.eq_nil_of_length_eq_zero h)).elim
        · exact h
      clear hn
      obtain ⟨b, o, hp, hbl, _⟩ := hcell 0 hn1
      cases hp
      have HC : Hid (∀ W', Below w.heap.size w W' → ∀ j u, (idCells ids)[j]? = some u → W'.cell? ((⟨b, o, none⟩ : Addr).add j) = some u) := fun W' hb => idCells_cells (fun i hi => by
        obtain ⟨b', o', hp, hl, h1, h2⟩ := hcell i hi
        cases hp
        exact ⟨(hb.cell (p := ⟨b, o + i * 2, none⟩) hl).trans h1, (hb.cell (p := ⟨b, o + i * 2 + 1, none⟩) hl).trans h2⟩)
      clear hcell hbl
      obtain ⟨m, hm⟩ : ∃ m, ids.length = m := ⟨_, rfl⟩
      have HM : Hid (ids.length = m) := hm
      have HNL : Hid ((idCells ids).length = m * 2) := by show _ = _; rw [idCells_length, hm]
      have HM5 : Hid (m ≤ 50000) := by show _ ≤ _; rw [← hm]; exact HL.out
      rw [hm] at hn1 ⊢
      clear hm HL
      go_enter Tryz.func20, Tryz.ntmps20
      go_wp2_with (at_builtin; refine wpList_append_own _ rfl (.tmp 4) (.tmp 6) 38 rfl (w.heap.size + 1 + 1) 25 i0 (idV 0 0) 2 16 Tryz.underlying38 hi hz0 hz1 hz2 rfl (by decide) (.slice none 0 0) 0 [] rfl (World.ownsRow_nil _ _ _ _) ⟨b, o, none⟩ m c (idCells ids) rfl HNL.out (HC.out _ (hB0 _ _)) (idCells_one ids) (by have := HM5.out; unfold maxLen; omega) (by have := HM5.out; omega) (by simp) ?_; intro v' w1 hown' hgrow _; rw [Nat.zero_add, List.nil_append] at hown'; have hO := OwnW.of nm len p _ _ (below_of_grown hgrow); obtain ⟨pp, cc, hu, _⟩ := IdsAt.of_row (ids := ids) (by rw [HM.out]; exact hown'); rw [HM.out] at hu; subst hu; clear hgrow; have b0 := hO.b0; have b1 := hO.b1; have b2 := hO.b2; have b3 := hO.b3; have r0 := hO.r0; have r1 := hO.r1; have r2 := hO.r2; have r3 := hO.r3; have g3 := hO.g 3; have f0 := hO.f 0; have f1 := hO.f 1; have f2 := hO.f 2; have f3 := hO.f 3)
      refine bodyPost_ret (v := rcpV nm len (p : Nat) (.slice pp m cc)) (by simp [results, Tryz.results20, go_sem, r0, r1, r2, r3]) rfl ⟨.slice pp m cc, rfl, ?_, ((((hO.below.setCell (p := ⟨w.heap.size, 3, none⟩) (Nat.le_refl _) _).setCell (p := ⟨w.heap.size + 1, 0, none⟩) (by simp) _).setCell (p := ⟨w.heap.size + 1, 1, none⟩) (by simp) _).setCell (p := ⟨w.heap.size + 1, 2, none⟩) (by simp) _).setCell (p := ⟨w.heap.size + 1, 3, none⟩) (by simp) _⟩
      refine (IdsIn.of_row (base := w.heap.size + 1 + 1) (e := 25) ?_).low (by omega)
      rw [HM.out]
      have h0 : w.heap.size < w.heap.size + 1 + 1 := by omega
      have h1 : w.heap.size + 1 < w.heap.size + 1 + 1 := by omega
      exact ownsRow_setCell_below (ownsRow_setCell_below (ownsRow_setCell_below (ownsRow_setCell_below (ownsRow_setCell_below hown' (a := ⟨w.heap.size, 3, none⟩) h0 _) (a := ⟨w.heap.size + 1, 0, none⟩) h1 _) (a := ⟨w.heap.size + 1, 1, none⟩) h1 _) (a := ⟨w.heap.size + 1, 2, none⟩) h1 _) (a := ⟨w.heap.size + 1, 3, none⟩) h1 _
end Go.Proofs.YtcbcjefefmbccabGreatDoor
