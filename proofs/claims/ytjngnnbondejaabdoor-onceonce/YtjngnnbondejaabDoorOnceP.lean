/-
  Own text. (*once.Table).Ask and Note by contracts.
-/
import Derived.Test.YtjngnnbondejaabDoorOnceMem
import Derived.Test.YtjngnnbondejaabDoorPName
import Derived.Test.YtjngnnbondejaabDoorErrE
namespace Go.Proofs.YtjngnnbondejaabDoor
open Go.RowKit Go.Maps

abbrev bsV (l : List UInt8) : Value := .string ⟨l.toArray⟩
def AskPost (a : Nat → Addr) (w : World) (r : List UInt8 × Bool × Int) (e : Ending) (w' : World) : Prop :=
  ∃ ev, e = .returned (.tuple #[bsV r.1, .bool r.2.1, ev]) ∧ ErrIn w.heap.size w' a ev (r.2.2, -1) ∧ Below w.heap.size w w'
set_option maxRecDepth 100000 in
set_option maxHeartbeats 4000000 in
theorem onceAsk_any (a : Nat → Addr) (c : ByteArray) (n : Int) (T m : Nat) (l : OL) (w : World) (hc : c.size ≤ 50000) (hk : OOk 1000 l) (hE : ErrE [3, 7] w a) (hT : OTab w T m l) :
    Calls Tryd.prog 24 #[.pointer (some ⟨T, 0, none⟩), .string c, .int .i64 n] w (AskPost a w (oAsk l c.data.toList n)) := by
  have HT := hideN hT
  have HEE : Hid (∀ W, Below w.heap.size w W → ErrE [3, 7] W a) := fun W hb => hE.below hb (Nat.le_refl _)
  have HNM := hideN (name_any c (by unfold maxLen; omega) w)
  have q0 := hT.blk.cell (i := 0) rfl
  obtain ⟨RES, hRES⟩ : ∃ RES, oAsk l c.data.toList n = RES := ⟨_, rfl⟩
  have HRES := hideN hRES
  rw [hRES]
  cases hnm : isName c.data.toList with
  | false =>
    have HR : Hid (RES = ([], false, 4)) := by
      show _ = _
      rw [← hRES]
      unfold oAsk
      rw [if_pos hnm]
    rw [hnm] at HNM
    have g3 := hE.glob 3 rfl
    change World.cell? _ ⟨5, 0, none⟩ = _ at g3
    clear hT hE hk hRES hnm
    go_enter Tryd.func24, Tryd.ntmps24
    go_wp2_with fail
    refine HNM.out.mono ?_
    rintro e w1 ⟨rfl, rfl⟩
    go_wp2_with fail
    go_region
    all_goals
      go_wp2_with fail
      exact bodyPost_ret (v := .tuple #[bsV [], .bool false, sentV a 3]) (by simp [results, Tryd.results24, go_sem]) rfl ⟨_, by rw [HR.out], by rw [HR.out]; exact .inr (.inl ⟨3, by decide, rfl, rfl⟩), (Below.refl _ _).drew⟩
  | true =>
    rw [hnm] at HNM
    have hc' : ¬ isName c.data.toList = false := by rw [hnm]; simp
    cases hg : oGet l c.data.toList with
    | none =>
      have l0 := look_no hT.map c hc hg
      have hal := (Below.refl w.heap.size w).alloc (Nat.le_refl _) (.cells #[.int .i64 0, .string ⟨#[]⟩] 87)
      have hB := Blk.new w #[.int .i64 0, .string ⟨#[]⟩] 87
      have HB := hideN hal
      have g7 := (HEE.out _ hal).glob 7 rfl
      change World.cell? _ ⟨2, 0, none⟩ = _ at g7
      by_cases h1 : n = 1
      · have HR : Hid (RES = ([], false, 0)) := by
          show _ = _
          rw [← hRES]
          unfold oAsk
          rw [if_neg hc', hg]
          simp only
          rw [if_pos h1]
        have hb1 : (n == 0 + 1) = true := by rw [beq_iff_eq]; omega
        clear hT hE hk hRES hnm hc' hg hal h1
        go_enter Tryd.func24, Tryd.ntmps24
        go_wp2_with fail
        refine HNM.out.mono ?_
        rintro e w1 ⟨rfl, rfl⟩
        go_wp2_with fail
        exact bodyPost_ret (v := .tuple #[bsV [], .bool false, .nilIface]) (by simp [results, Tryd.results24, go_sem]) rfl ⟨_, by rw [HR.out], by rw [HR.out]; exact .inl ⟨rfl, rfl⟩, HB.out⟩
      · have HR : Hid (RES = ([], false, 8)) := by
          show _ = _
          rw [← hRES]
          unfold oAsk
          rw [if_neg hc', hg]
          simp only
          rw [if_neg h1]
        have hb1 : (n == 0 + 1) = false := by rw [beq_eq_false_iff_ne]; omega
        clear hT hE hk hRES hnm hc' hg hal h1
        go_enter Tryd.func24, Tryd.ntmps24
        go_wp2_with fail
        refine HNM.out.mono ?_
        rintro e w1 ⟨rfl, rfl⟩
        go_wp2_with fail
        generalize w1.alloc (.cells #[.int .i64 0, .string ⟨#[]⟩] 87) = W at *
        go_region
        all_goals
          go_wp2_with fail
          exact bodyPost_ret (v := .tuple #[bsV [], .bool false, sentV a 7]) (by simp [results, Tryd.results24, go_sem]) rfl ⟨_, by rw [HR.out], by rw [HR.out]; exact .inr (.inl ⟨7, by decide, rfl, rfl⟩), HB.out.drew⟩
    | some v =>
      obtain ⟨vn, vs⟩ := v
      have l0 := look_one hT.map c hg
      have hnum := hk.num _ (oGet_some hg)
      simp only at hnum
      obtain ⟨S, hS⟩ : ∃ S : ByteArray, (⟨vs.toArray⟩ : ByteArray) = S := ⟨_, rfl⟩
      have HS : Hid (bsV vs = .string S) := by show _ = _; rw [← hS]
      change (Instr.lookup 82 (.map (some m)) (.string c) true).run Tryd.prog w = .ok (.tuple #[.agg #[.int .i64 vn, .string ⟨vs.toArray⟩], .bool true]) w at l0
      rw [hS] at l0
      have hal := (Below.refl w.heap.size w).alloc (Nat.le_refl _) (.cells #[.int .i64 vn, .string S] 87)
      have hB := Blk.new w #[.int .i64 vn, .string S] 87
      have HB := hideN hal
      have g7 := (HEE.out _ hal).glob 7 rfl
      change World.cell? _ ⟨2, 0, none⟩ = _ at g7
      have hlo : (-9223372036854775808 : Int) ≤ vn + 1 := by omega
      have hhi : vn + 1 < 9223372036854775808 := by omega
      by_cases h1 : n = vn
      · have HR : Hid (RES = (vs, true, 0)) := by
          show _ = _
          rw [← hRES]
          unfold oAsk
          rw [if_neg hc', hg]
          simp only
          rw [if_pos h1]
        have hb1 : (n == vn) = true := by rw [beq_iff_eq]; exact h1
        clear hT hE hk hRES hnm hc' hg hal hnum hS h1
        go_enter Tryd.func24, Tryd.ntmps24
        go_wp2_with fail
        refine HNM.out.mono ?_
        rintro e w1 ⟨rfl, rfl⟩
        go_wp2_with fail
        exact bodyPost_ret (v := .tuple #[.string S, .bool true, .nilIface]) (by simp [results, Tryd.results24, go_sem]) rfl ⟨_, by rw [HR.out, HS.out], by rw [HR.out]; exact .inl ⟨rfl, rfl⟩, HB.out⟩
      have hb1 : (n == vn) = false := by rw [beq_eq_false_iff_ne]; exact h1
      by_cases h2 : n = vn + 1
      · have HR : Hid (RES = ([], false, 0)) := by
          show _ = _
          rw [← hRES]
          unfold oAsk
          rw [if_neg hc', hg]
          simp only
          rw [if_neg h1, if_pos h2]
        have hb2 : (n == vn + 1) = true := by rw [beq_iff_eq]; exact h2
        clear hT hE hk hRES hnm hc' hg hal hnum hS h1 h2
        go_enter Tryd.func24, Tryd.ntmps24
        go_wp2_with fail
        refine HNM.out.mono ?_
        rintro e w1 ⟨rfl, rfl⟩
        go_wp2_with fail
        exact bodyPost_ret (v := .tuple #[bsV [], .bool false, .nilIface]) (by simp [results, Tryd.results24, go_sem]) rfl ⟨_, by rw [HR.out], by rw [HR.out]; exact .inl ⟨rfl, rfl⟩, HB.out⟩
      · have HR : Hid (RES = ([], false, 8)) := by
          show _ = _
          rw [← hRES]
          unfold oAsk
          rw [if_neg hc', hg]
          simp only
          rw [if_neg h1, if_neg h2]
        have hb2 : (n == vn + 1) = false := by rw [beq_eq_false_iff_ne]; exact h2
        clear hT hE hk hRES hnm hc' hg hal hnum hS h1 h2
        go_enter Tryd.func24, Tryd.ntmps24
        go_wp2_with fail
        refine HNM.out.mono ?_
        rintro e w1 ⟨rfl, rfl⟩
        go_wp2_with fail
        generalize w1.alloc (.cells #[.int .i64 vn, .string S] 87) = W at *
        go_region
        all_goals
          go_wp2_with fail
          exact bodyPost_ret (v := .tuple #[bsV [], .bool false, sentV a 7]) (by simp [results, Tryd.results24, go_sem]) rfl ⟨_, by rw [HR.out], by rw [HR.out]; exact .inr (.inl ⟨7, by decide, rfl, rfl⟩), HB.out.drew⟩
def NotePost (a : Nat → Addr) (w : World) (T m : Nat) (r : Int × OL) (e : Ending) (w' : World) : Prop :=
  ∃ ev, e = .returned ev ∧ ErrIn w.heap.size w' a ev (r.1, -1) ∧ OTab w' T m r.2 ∧ Off (fun k => k = m) w w'
theorem NotePost.same {a : Nat → Addr} {w w' : World} {T m : Nat} {l : OL} {r : Int × OL} {ev : Value} {c : Int} (hr : r = (c, l)) (hT : OTab w T m l) (hb : Below w.heap.size w w') (he : ErrIn w.heap.size w' a ev (c, -1)) : NotePost a w T m r (.returned ev) w' := by
  subst hr
  exact ⟨ev, rfl, he, hT.below hb, Off.of_below hb⟩
set_option maxRecDepth 100000 in
set_option maxHeartbeats 4000000 in
theorem onceNote_any (a : Nat → Addr) (c s : ByteArray) (n : Int) (T m : Nat) (l : OL) (w : World) (hc : c.size ≤ 50000) (hk : OOk 1000 l) (hE : ErrE [3, 6, 7] w a) (hT : OTab w T m l) :
    Calls Tryd.prog 25 #[.pointer (some ⟨T, 0, none⟩), .string c, .int .i64 n, .string s] w (NotePost a w T m (oNote l c.data.toList n s.data.toList)) := by
  have HT := hideN hT
  have HEE : Hid (∀ W, Below w.heap.size w W → ErrE [3, 6, 7] W a) := fun W hb => hE.below hb (Nat.le_refl _)
  have HA := hideN (onceAsk_any a c n T m l w hc hk (hE.sub (by decide)) hT)
  unfold AskPost at HA
  have q0 := hT.blk.cell (i := 0) rfl
  obtain ⟨RES, hRES⟩ : ∃ RES, oNote l c.data.toList n s.data.toList = RES := ⟨_, rfl⟩
  have hkd := oKind 1000 l c.data.toList n
  rw [hRES]
  have hlen := hk.len
  have hcases : (∃ x, (oAsk l c.data.toList n) = ([], false, x) ∧ x ≠ 0 ∧ RES = (x, l)) ∨ (∃ t, oAsk l c.data.toList n = (t, true, 0) ∧ RES = (8, l)) ∨ (oAsk l c.data.toList n = ([], false, 0) ∧ ((∃ v, oGet l c.data.toList = some v ∧ RES = (0, oSet l c.data.toList (n, s.data.toList))) ∨ (oGet l c.data.toList = none ∧ 20 ≤ l.length ∧ RES = (7, l)) ∨ (oGet l c.data.toList = none ∧ ¬ 20 ≤ l.length ∧ RES = (0, oSet l c.data.toList (n, s.data.toList))))) := by
    rcases hkd with ⟨_, ha, hn⟩ | ⟨v, _, _, _, ha, hn⟩ | ⟨v, _, hg, _, ha, hn⟩ | ⟨_, hg, _, hl, ha, hn⟩ | ⟨_, hg, _, hl, ha, hn⟩ | ⟨v, _, _, _, _, ha, hn⟩ | ⟨_, _, _, ha, hn⟩ <;> rw [hn] at hRES
    · exact .inl ⟨_, ha, by decide, hRES.symm⟩
    · exact .inr (.inl ⟨_, ha, hRES.symm⟩)
    · exact .inr (.inr ⟨ha, .inl ⟨_, hg, hRES.symm⟩⟩)
    · exact .inr (.inr ⟨ha, .inr (.inr ⟨hg, by omega, hRES.symm⟩)⟩)
    · exact .inr (.inr ⟨ha, .inr (.inl ⟨hg, hl, hRES.symm⟩)⟩)
    · exact .inl ⟨_, ha, by decide, hRES.symm⟩
    · exact .inl ⟨_, ha, by decide, hRES.symm⟩
  clear hRES hkd hE
  rcases hcases with ⟨x, ha, hx, hR⟩ | ⟨t, ha, hR⟩ | ⟨ha, hR⟩
  · rw [ha] at HA
    have HX := hideN hx
    have HR := hideN hR
    clear ha hx hR hT hk hlen
    go_enter Tryd.func25, Tryd.ntmps25
    go_wp2_with fail
    refine HA.out.mono ?_
    rintro e w1 ⟨ev, rfl, he, hb⟩
    obtain ⟨t1, u1, rfl⟩ := he.some HX.out
    have HE := hideN he
    have HB := hideN hb
    clear he hb
    go_wp2_with fail
    go_ret
    exact NotePost.same HR.out HT.out HB.out HE.out
  · rw [ha] at HA
    have HR := hideN hR
    clear ha hR hT hk hlen
    go_enter Tryd.func25, Tryd.ntmps25
    go_wp2_with fail
    refine HA.out.mono ?_
    rintro e w1 ⟨ev, rfl, he, hb⟩
    obtain rfl := he.nil
    have HB := hideN hb
    have g7 := (HEE.out _ hb).glob 7 rfl
    change World.cell? _ ⟨2, 0, none⟩ = _ at g7
    clear he hb
    go_wp2_with fail
    go_ret
    exact NotePost.same HR.out HT.out HB.out (.inr (.inl ⟨7, by decide, rfl, rfl⟩))
  · rw [ha] at HA
    have HR := hideN hR
    have HL := hideN hlen
    have HK := hideN hk
    clear ha hR hT hk hlen q0
    go_enter Tryd.func25, Tryd.ntmps25
    go_wp2_with fail
    refine HA.out.mono ?_
    rintro e w1 ⟨ev, rfl, he, hb⟩
    obtain rfl := he.nil
    have HB1 := hideN hb
    have HT1 := hideN (HT.out.below hb)
    clear he hb
    have q1 := HT1.out.blk.cell (i := 0) rfl
    rcases HR.out with ⟨⟨vn, vs⟩, hg, hr⟩ | ⟨hg, hl, hr⟩ | ⟨hg, hl, hr⟩
    · have HRR := hideN hr
      have l0 := look_one HT1.out.map c hg
      obtain ⟨S, hS⟩ : ∃ S : ByteArray, (⟨vs.toArray⟩ : ByteArray) = S := ⟨_, rfl⟩
      change (Instr.lookup 82 (.map (some m)) (.string c) true).run Tryd.prog w1 = .ok (.tuple #[.agg #[.int .i64 vn, .string ⟨vs.toArray⟩], .bool true]) w1 at l0
      rw [hS] at l0
      have hal := (Below.refl w1.heap.size w1).alloc (Nat.le_refl _) (.cells #[.int .i64 vn, .string S] 87)
      have HB2 : Hid (Below w.heap.size w _) := hideN (HB1.out.trans (hal.mono HB1.out.size))
      have HT2 := hideN (HT1.out.below hal)
      have q2 := HT2.out.blk.cell (i := 0) rfl
      obtain ⟨w7, hst, hOf, hg7⟩ := HT2.out.map.store Tryd.underlying82 (wf_bytes hc) (n, s.data.toList) (by have := HL.out; unfold maxLen; omega)
      change (Instr.mapUpdate 82 (.map (some m)) (.string ⟨c.data.toList.toArray⟩) (.agg #[.int .i64 n, .string ⟨s.data.toList.toArray⟩])).run Tryd.prog _ = _ at hst
      rw [back_bytes, back_bytes] at hst
      have HOF := hideN hOf
      have HG7 := hideN hg7
      clear hg hr hS hal hOf hg7 HR
      go_wp2_with fail
      go_ret
      have ho : Off (fun k => k = m) _ w7 := off_of_grown HG7.out rfl
      refine ⟨_, rfl, by rw [HRR.out]; exact .inl ⟨rfl, rfl⟩, ?_, (Off.of_below HB2.out).trans ho (fun _ _ h => h)⟩
      rw [HRR.out]
      exact ⟨ho.blk HT2.out.blk HT2.out.ne, HOF.out _ (oSet_perm HK.out.ne _ _).symm, HT2.out.ne⟩
    · have HRR := hideN hr
      have l0 := look_no HT1.out.map c hc hg
      change (Instr.lookup 82 (.map (some m)) (.string c) true).run Tryd.prog w1 = .ok (.tuple #[.agg #[.int .i64 0, .string ⟨#[]⟩], .bool false]) w1 at l0
      have hal := (Below.refl w1.heap.size w1).alloc (Nat.le_refl _) (.cells #[.int .i64 0, .string ⟨#[]⟩] 87)
      have HB2 : Hid (Below w.heap.size w _) := hideN (HB1.out.trans (hal.mono HB1.out.size))
      have HT2 := hideN (HT1.out.below hal)
      have q2 := HT2.out.blk.cell (i := 0) rfl
      have ln := HT2.out.map.len Tryd.underlying82 3
      have hl2 : (20 : Int) ≤ (l.length : Int) := by omega
      have g6 := (HEE.out _ HB2.out).glob 6 rfl
      change World.cell? _ ⟨6, 0, none⟩ = _ at g6
      clear hg hr hal hl HR
      go_wp2_with fail
      go_ret
      exact NotePost.same HRR.out HT.out HB2.out (.inr (.inl ⟨6, by decide, rfl, rfl⟩))
    · have HRR := hideN hr
      have l0 := look_no HT1.out.map c hc hg
      change (Instr.lookup 82 (.map (some m)) (.string c) true).run Tryd.prog w1 = .ok (.tuple #[.agg #[.int .i64 0, .string ⟨#[]⟩], .bool false]) w1 at l0
      have hal := (Below.refl w1.heap.size w1).alloc (Nat.le_refl _) (.cells #[.int .i64 0, .string ⟨#[]⟩] 87)
      have HB2 : Hid (Below w.heap.size w _) := hideN (HB1.out.trans (hal.mono HB1.out.size))
      have HT2 := hideN (HT1.out.below hal)
      have q2 := HT2.out.blk.cell (i := 0) rfl
      have ln := HT2.out.map.len Tryd.underlying82 3
      have hl2 : ¬ (20 : Int) ≤ (l.length : Int) := by omega
      obtain ⟨w7, hst, hOf, hg7⟩ := HT2.out.map.store Tryd.underlying82 (wf_bytes hc) (n, s.data.toList) (by have := HL.out; unfold maxLen; omega)
      change (Instr.mapUpdate 82 (.map (some m)) (.string ⟨c.data.toList.toArray⟩) (.agg #[.int .i64 n, .string ⟨s.data.toList.toArray⟩])).run Tryd.prog _ = _ at hst
      rw [back_bytes, back_bytes] at hst
      have HOF := hideN hOf
      have HG7 := hideN hg7
      clear hg hr hal hOf hg7 hl HR
      go_wp2_with fail
      go_ret
      have ho : Off (fun k => k = m) _ w7 := off_of_grown HG7.out rfl
      refine ⟨_, rfl, by rw [HRR.out]; exact .inl ⟨rfl, rfl⟩, ?_, (Off.of_below HB2.out).trans ho (fun _ _ h => h)⟩
      rw [HRR.out]
      exact ⟨ho.blk HT2.out.blk HT2.out.ne, HOF.out _ (oSet_perm HK.out.ne _ _).symm, HT2.out.ne⟩
end Go.Proofs.YtjngnnbondejaabDoor
