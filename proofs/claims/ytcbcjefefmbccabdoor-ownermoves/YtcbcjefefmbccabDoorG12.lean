/-
  Own text. owner.Join and Leave by contracts.
-/
import Derived.Test.YtcbcjefefmbccabDoorG08
import Derived.Test.YtcbcjefefmbccabDoorG11
namespace Go.Proofs.YtcbcjefefmbccabDoor
open Go.RowKit

def joinAns (l : List Int) (n : Int) : List Int × (Int × Int) :=
  if l ≠ [] ∧ (checkAns' l).1 ≠ 0 then ([], checkAns' l) else if nodeOk n = false then ([], (2, -1)) else if n ∈ l then ([], (6, -1)) else (nIns l n, (0, -1))
def leaveAns (l : List Int) (n : Int) : List Int × (Int × Int) :=
  if (checkAns' l).1 ≠ 0 then ([], checkAns' l) else if n ∈ l then (nDel l n, (0, -1)) else ([], (5, -1))
theorem IntsS.shape {w : World} {v : Value} {xs : List Int} (h : IntsS w v xs) : ∃ p c, v = .slice p xs.length c := by
  rcases h with ⟨rfl, rfl⟩ | ⟨b, o, c, rfl, _⟩
  · exact ⟨none, 0, rfl⟩
  · exact ⟨_, _, rfl⟩
theorem ErrIn.low {base base' : Nat} {w : World} {a : Nat → Addr} {v : Value} {f : Int × Int} (h : ErrIn base w a v f) (hb : base' ≤ base) : ErrIn base' w a v f := by
  rcases h with h | h | ⟨k, pb, po, at0, h1, h2, h3⟩
  · exact .inl h
  · exact .inr (.inl h)
  · exact .inr (.inr ⟨k, pb, po, at0, h1, Nat.le_trans hb h2, h3⟩)
theorem ErrIn.iface {base : Nat} {w : World} {a : Nat → Addr} {v : Value} {f : Int × Int} (h : ErrIn base w a v f) (hf : f.1 ≠ 0) : ∃ T A, v = .iface T A := by
  rcases h with ⟨_, h⟩ | ⟨k, _, h, _⟩ | ⟨k, pb, po, at0, _, _, h, _⟩
  · exact absurd (congrArg Prod.fst h) hf
  · exact ⟨_, _, h⟩
  · exact ⟨_, _, h⟩
theorem IntsS.one (W : World) (n : Int) (e : TypeId) : IntsS (W.alloc (.cells #[.int .i64 n] e)) (.slice (some ⟨W.heap.size, 0, none⟩) 1 1) [n] :=
  .inr ⟨W.heap.size, 0, 1, rfl, Nat.le_refl _, by simp, fun i hi => by
    have h0 : i = 0 := by simpa using hi
    subst h0
    exact new_cell W #[.int .i64 n] e rfl rfl⟩
def JoinPost (a : Nat → Addr) (w : World) (r : List Int × (Int × Int)) (e : Ending) (w' : World) : Prop :=
  ∃ v ev, e = .returned (.tuple #[v, ev]) ∧ ErrIn w.heap.size w' a ev r.2 ∧ IntsS w' v r.1 ∧ Below w.heap.size w w'
theorem concat3 (W : World) (v1 v2 : Value) (A B : List Int) (n : Int) (h1 : IntsS W v1 A) (h2 : IntsS W v2 B) (hA : A.length ≤ 1000) (hB : B.length ≤ 1000) (eI eS : TypeId) :
    Calls Tryd.prog 27 #[.slice (some ⟨W.heap.size + 1, 0, none⟩) 3 3] ((W.alloc (.cells #[.int .i64 n] eI)).alloc (.cells #[v1, .slice (some ⟨W.heap.size, 0, none⟩) 1 1, v2] eS)) fun e w' => ∃ v, e = .returned v ∧ IntsS w' v (A ++ n :: B) ∧ Below W.heap.size W w' := by
  have hal1 := (Below.refl W.heap.size W).alloc (Nat.le_refl _) (.cells #[.int .i64 n] eI)
  have hal2 := hal1.alloc hal1.size (.cells #[v1, .slice (some ⟨W.heap.size, 0, none⟩) 1 1, v2] eS)
  have hal3 := (Below.refl _ (W.alloc (.cells #[.int .i64 n] eI))).alloc (Nat.le_refl _) (.cells #[v1, .slice (some ⟨W.heap.size, 0, none⟩) 1 1, v2] eS)
  rw [show W.heap.size + 1 = (W.alloc (.cells #[.int .i64 n] eI)).heap.size by simp]
  refine (concat_any (W.alloc (.cells #[.int .i64 n] eI)).heap.size 3 3 (fun k => match k with | 0 => v1 | 1 => .slice (some ⟨W.heap.size, 0, none⟩) 1 1 | _ => v2) (fun k => match k with | 0 => A | 1 => [n] | _ => B) _ (by decide) (fun k => ?_) (fun k hk => ?_) (fun k hk => ?_)).mono ?_
  · match k with
    | 0 => exact hA
    | 1 => simp
    | k + 2 => exact hB
  · match k with
    | 0 => exact new_cell _ _ _ rfl rfl
    | 1 => exact new_cell _ _ _ rfl rfl
    | 2 => exact new_cell _ _ _ rfl rfl
    | k + 3 => omega
  · match k with
    | 0 => exact h1.below hal2
    | 1 => exact (IntsS.one W n eI).below hal3
    | 2 => exact h2.below hal2
    | k + 3 => omega
  · rintro e w' ⟨v, rfl, hr, hb⟩
    refine ⟨v, rfl, ?_, hal2.trans (hb.mono hal2.size)⟩
    have h := IntsS.of_row hr
    simpa [cat] using h
theorem concat2 (W : World) (v1 v2 : Value) (A B : List Int) (h1 : IntsS W v1 A) (h2 : IntsS W v2 B) (hA : A.length ≤ 1000) (hB : B.length ≤ 1000) (eS : TypeId) :
    Calls Tryd.prog 27 #[.slice (some ⟨W.heap.size, 0, none⟩) 2 2] (W.alloc (.cells #[v1, v2] eS)) fun e w' => ∃ v, e = .returned v ∧ IntsS w' v (A ++ B) ∧ Below W.heap.size W w' := by
  have hal2 := (Below.refl W.heap.size W).alloc (Nat.le_refl _) (.cells #[v1, v2] eS)
  refine (concat_any W.heap.size 2 2 (fun k => match k with | 0 => v1 | _ => v2) (fun k => match k with | 0 => A | _ => B) _ (by decide) (fun k => ?_) (fun k hk => ?_) (fun k hk => ?_)).mono ?_
  · match k with
    | 0 => exact hA
    | k + 1 => exact hB
  · match k with
    | 0 => exact new_cell _ _ _ rfl rfl
    | 1 => exact new_cell _ _ _ rfl rfl
    | k + 2 => omega
  · match k with
    | 0 => exact h1.below hal2
    | 1 => exact h2.below hal2
    | k + 2 => omega
  · rintro e w' ⟨v, rfl, hr, hb⟩
    refine ⟨v, rfl, ?_, hal2.trans (hb.mono hal2.size)⟩
    have h := IntsS.of_row hr
    simpa [cat] using h
set_option maxRecDepth 100000 in
set_option maxHeartbeats 1000000 in
theorem ownJoin_any (a : Nat → Addr) (vl : Value) (l : List Int) (n : Int) (w : World) (hlen : l.length ≤ 1000) (hv : IntsS w vl l) (hE : ErrE [1, 4, 5, 7] w a) :
    Calls Tryd.prog 9 #[vl, .int .i64 n] w (JoinPost a w (joinAns l n)) := by
  have HV := hideN hv
  have HEE := hideN hE
  have HLEN := hideN hlen
  obtain ⟨p, c, rfl⟩ := hv.shape
  have HCK := hideN (ownCheck_any a _ l w hlen hv.c (hE.sub (M := [1, 4, 7]) (by decide)))
  have HIS : Hid (∀ W, Calls Tryd.prog 22 #[.int .i64 n] W fun e w' => e = .returned (.bool (nodeOk n)) ∧ w' = W) := fun W => isNode_any n W
  have hll : (l.length : Int) ≤ 1000 := by omega
  unfold JoinPost
  by_cases hbad : l ≠ [] ∧ (checkAns' l).1 ≠ 0
  · have hr : joinAns l n = ([], checkAns' l) := by unfold joinAns; rw [if_pos hbad]
    rw [hr]
    have hpos : 0 < l.length := List.length_pos_iff.2 hbad.1
    have hpos' : (0 : Int) < (l.length : Int) := by omega
    have HBD := hideN hbad.2
    clear hv hE hlen hbad hr HV HEE HIS
    go_enter Tryd.func9, Tryd.ntmps9
    go_wp2_with fail
    refine HCK.out.mono ?_
    rintro e w1 ⟨ev, rfl, hev, hb⟩
    have HEV := hideN hev
    obtain ⟨T, A, rfl⟩ := hev.iface HBD.out
    have HB := hideN hb
    clear hev hb HCK
    go_wp2_with fail
    go_ret2
    exact ⟨_, _, rfl, HEV.out, .inl ⟨rfl, rfl⟩, HB.out⟩
  · have hn : Nodes l := by
      by_cases h0 : l = []
      · subst h0; exact Nodes.nil
      · have : (checkAns' l).1 = 0 := Classical.not_not.1 fun h => hbad ⟨h0, h⟩
        exact (checkAns_of (l := l) (p := (checkAns' l).2) (Prod.ext this rfl)).1
    have hr0 : joinAns l n = if nodeOk n = false then ([], (2, -1)) else if n ∈ l then ([], (6, -1)) else (nIns l n, (0, -1)) := by unfold joinAns; rw [if_neg hbad]
    have HN := hideN hn
    have HR0 := hideN hr0
    have HC2 : Hid (l ≠ [] → checkAns' l = (0, -1)) := fun h => checkAns_ok hn h
    by_cases h0 : l.length = 0
    · have HB1 : Hid (Below w.heap.size w w) := Below.refl _ _
      obtain rfl : l = [] := List.length_eq_zero_iff.1 h0
      have e0 : ([] : List Int).length = 0 := rfl
      rw [e0] at HV ⊢
      clear HCK HC2 hv hE hlen hn hr0 hbad h0 e0 hll
      go_enter Tryd.func9, Tryd.ntmps9
      go_wp2_with fail
      refine (HIS.out _).mono ?_
      rintro e wi ⟨rfl, hwi⟩; have hwi := hwi.symm
      subst hwi
      cases hok : nodeOk n with
      | false =>
        have HR : Hid (joinAns ([] : List Int) n = ([], (2, -1))) := by show _ = _; rw [HR0.out, if_pos hok]
        have g1 := (HEE.out.below HB1.out (Nat.le_refl _)).glob 1 (by decide)
        dsimp only [errG] at g1
        clear hok
        go_wp2_with fail
        go_quiet (fail)
        have HB2 : Hid (Below w.heap.size w (w.drewN nq)) := HB1.out.trans ((below_drew_n w nq).mono HB1.out.size)
        go_wp2_with fail
        go_ret2
        exact ⟨_, sentV a 1, rfl, by rw [HR.out]; exact .inr (.inl ⟨1, by decide, rfl, rfl⟩), by rw [HR.out]; exact .inl ⟨rfl, rfl⟩, HB2.out⟩
      | true =>
        have HOK := hideN hok
        have HCU := hideN (cutAt_any (.slice p 0 c) ([] : List Int) n w HN.out (HV.out.below HB1.out))
        clear hok
        go_wp2_with fail
        refine HCU.out.mono ?_
        rintro e w2 ⟨v1, v2, rfl, hv1, hv2, hb2⟩
        have HB2 : Hid (Below w.heap.size w w2) := HB1.out.trans (hb2.mono HB1.out.size)
        have HV1 := hideN hv1
        have HV2 := hideN hv2
        obtain ⟨p1, c1, rfl⟩ := hv1.shape
        obtain ⟨p2, c2, rfl⟩ := hv2.shape
        clear hb2 hv1 hv2
        by_cases hm : n ∈ ([] : List Int)
        · have HR : Hid (joinAns ([] : List Int) n = ([], (6, -1))) := by show _ = _; rw [HR0.out, if_neg (by rw [HOK.out]; simp), if_pos hm]
          rw [decide_eq_true hm]
          have g5 := (HEE.out.below HB2.out (Nat.le_refl _)).glob 5 (by decide)
          dsimp only [errG] at g5
          clear hm
          go_wp2_with fail
          go_quiet (fail)
          have HB3 : Hid (Below w.heap.size w (w2.drewN nq)) := HB2.out.trans ((below_drew_n w2 nq).mono HB2.out.size)
          go_wp2_with fail
          go_ret2
          exact ⟨_, sentV a 5, rfl, by rw [HR.out]; exact .inr (.inl ⟨5, by decide, rfl, rfl⟩), by rw [HR.out]; exact .inl ⟨rfl, rfl⟩, HB3.out⟩
        · have HR : Hid (joinAns ([] : List Int) n = (nIns ([] : List Int) n, (0, -1))) := by show _ = _; rw [HR0.out, if_neg (by rw [HOK.out]; simp), if_neg hm]
          rw [decide_eq_false hm]
          have hbo : behindOf ([] : List Int) n = ([] : List Int).drop (nPlace ([] : List Int) n) := by unfold behindOf; rw [if_neg hm]
          rw [hbo] at HV2 ⊢
          have HCO := hideN (concat3 w2 _ _ (([] : List Int).take (nPlace ([] : List Int) n)) (([] : List Int).drop (nPlace ([] : List Int) n)) n HV1.out HV2.out (by rw [List.length_take]; have := HLEN.out; omega) (by rw [List.length_drop]; have := HLEN.out; omega) 3 22)
          obtain ⟨L1, hL1⟩ : ∃ L, (([] : List Int).take (nPlace ([] : List Int) n)).length = L := ⟨_, rfl⟩
          obtain ⟨L2, hL2⟩ : ∃ L, (([] : List Int).drop (nPlace ([] : List Int) n)).length = L := ⟨_, rfl⟩
          rw [hL1, hL2] at HCO
          rw [hL1, hL2]
          clear hm hbo hL1 hL2
          go_wp2_with fail
          refine HCO.out.mono ?_
          rintro e w3 ⟨v, rfl, hv3, hb3⟩
          have HB3 : Hid (Below w.heap.size w w3) := HB2.out.trans (hb3.mono HB2.out.size)
          have HV3 := hideN hv3
          clear hb3 hv3
          go_wp2_with fail
          go_ret2
          exact ⟨v, .nilIface, rfl, by rw [HR.out]; exact .inl ⟨rfl, rfl⟩, by rw [HR.out]; exact HV3.out, HB3.out⟩
    · have hpos' : (0 : Int) < (l.length : Int) := by omega
      have hpos : 0 < l.length := by omega
      rw [HC2.out (List.length_pos_iff.1 hpos)] at HCK
      clear HC2 hv hE hlen hn hr0 hbad h0
      go_enter Tryd.func9, Tryd.ntmps9
      go_wp2_with fail
      refine HCK.out.mono ?_
      rintro e w1 ⟨ev, rfl, hev, hb⟩
      obtain rfl := hev.nil
      have HB1 := hideN hb
      clear hev hb HCK
      go_wp2_with fail
      refine (HIS.out _).mono ?_
      rintro e wi ⟨rfl, hwi⟩; have hwi := hwi.symm
      subst hwi
      cases hok : nodeOk n with
      | false =>
        have HR : Hid (joinAns l n = ([], (2, -1))) := by show _ = _; rw [HR0.out, if_pos hok]
        have g1 := (HEE.out.below HB1.out (Nat.le_refl _)).glob 1 (by decide)
        dsimp only [errG] at g1
        clear hok
        go_wp2_with fail
        go_quiet (fail)
        have HB2 : Hid (Below w.heap.size w (w1.drewN nq)) := HB1.out.trans ((below_drew_n w1 nq).mono HB1.out.size)
        go_wp2_with fail
        go_ret2
        exact ⟨_, sentV a 1, rfl, by rw [HR.out]; exact .inr (.inl ⟨1, by decide, rfl, rfl⟩), by rw [HR.out]; exact .inl ⟨rfl, rfl⟩, HB2.out⟩
      | true =>
        have HOK := hideN hok
        have HCU := hideN (cutAt_any (.slice p l.length c) l n w1 HN.out (HV.out.below HB1.out))
        clear hok
        go_wp2_with fail
        refine HCU.out.mono ?_
        rintro e w2 ⟨v1, v2, rfl, hv1, hv2, hb2⟩
        have HB2 : Hid (Below w.heap.size w w2) := HB1.out.trans (hb2.mono HB1.out.size)
        have HV1 := hideN hv1
        have HV2 := hideN hv2
        obtain ⟨p1, c1, rfl⟩ := hv1.shape
        obtain ⟨p2, c2, rfl⟩ := hv2.shape
        clear hb2 hv1 hv2
        by_cases hm : n ∈ l
        · have HR : Hid (joinAns l n = ([], (6, -1))) := by show _ = _; rw [HR0.out, if_neg (by rw [HOK.out]; simp), if_pos hm]
          rw [decide_eq_true hm]
          have g5 := (HEE.out.below HB2.out (Nat.le_refl _)).glob 5 (by decide)
          dsimp only [errG] at g5
          clear hm
          go_wp2_with fail
          go_quiet (fail)
          have HB3 : Hid (Below w.heap.size w (w2.drewN nq)) := HB2.out.trans ((below_drew_n w2 nq).mono HB2.out.size)
          go_wp2_with fail
          go_ret2
          exact ⟨_, sentV a 5, rfl, by rw [HR.out]; exact .inr (.inl ⟨5, by decide, rfl, rfl⟩), by rw [HR.out]; exact .inl ⟨rfl, rfl⟩, HB3.out⟩
        · have HR : Hid (joinAns l n = (nIns l n, (0, -1))) := by show _ = _; rw [HR0.out, if_neg (by rw [HOK.out]; simp), if_neg hm]
          rw [decide_eq_false hm]
          have hbo : behindOf l n = l.drop (nPlace l n) := by unfold behindOf; rw [if_neg hm]
          rw [hbo] at HV2 ⊢
          have HCO := hideN (concat3 w2 _ _ (l.take (nPlace l n)) (l.drop (nPlace l n)) n HV1.out HV2.out (by rw [List.length_take]; have := HLEN.out; omega) (by rw [List.length_drop]; have := HLEN.out; omega) 3 22)
          obtain ⟨L1, hL1⟩ : ∃ L, (l.take (nPlace l n)).length = L := ⟨_, rfl⟩
          obtain ⟨L2, hL2⟩ : ∃ L, (l.drop (nPlace l n)).length = L := ⟨_, rfl⟩
          rw [hL1, hL2] at HCO
          rw [hL1, hL2]
          clear hm hbo hL1 hL2
          go_wp2_with fail
          refine HCO.out.mono ?_
          rintro e w3 ⟨v, rfl, hv3, hb3⟩
          have HB3 : Hid (Below w.heap.size w w3) := HB2.out.trans (hb3.mono HB2.out.size)
          have HV3 := hideN hv3
          clear hb3 hv3
          go_wp2_with fail
          go_ret2
          exact ⟨v, .nilIface, rfl, by rw [HR.out]; exact .inl ⟨rfl, rfl⟩, by rw [HR.out]; exact HV3.out, HB3.out⟩
set_option maxRecDepth 100000 in
set_option maxHeartbeats 1000000 in
theorem ownLeave_any (a : Nat → Addr) (vl : Value) (l : List Int) (n : Int) (w : World) (hlen : l.length ≤ 1000) (hv : IntsS w vl l) (hE : ErrE [1, 4, 7] w a) :
    Calls Tryd.prog 10 #[vl, .int .i64 n] w (JoinPost a w (leaveAns l n)) := by
  have HV := hideN hv
  have HEE := hideN hE
  have HLEN := hideN hlen
  obtain ⟨p, c, rfl⟩ := hv.shape
  have HCK := hideN (ownCheck_any a _ l w hlen hv.c hE)
  have hll : (l.length : Int) ≤ 1000 := by omega
  unfold JoinPost
  by_cases hbad : (checkAns' l).1 ≠ 0
  · have hr : leaveAns l n = ([], checkAns' l) := by unfold leaveAns; rw [if_pos hbad]
    rw [hr]
    have HBD := hideN hbad
    clear hv hE hlen hbad hr HV HEE
    go_enter Tryd.func10, Tryd.ntmps10
    go_wp2_with fail
    refine HCK.out.mono ?_
    rintro e w1 ⟨ev, rfl, hev, hb⟩
    have HEV := hideN hev
    obtain ⟨T, A, rfl⟩ := hev.iface HBD.out
    have HB := hideN hb
    clear hev hb HCK
    go_wp2_with fail
    go_ret2
    exact ⟨_, _, rfl, HEV.out, .inl ⟨rfl, rfl⟩, HB.out⟩
  · have h0 : (checkAns' l).1 = 0 := Classical.not_not.1 hbad
    obtain ⟨hn, hne⟩ := checkAns_of (l := l) (p := (checkAns' l).2) (Prod.ext h0 rfl)
    have hr0 : leaveAns l n = if n ∈ l then (nDel l n, (0, -1)) else ([], (5, -1)) := by unfold leaveAns; rw [if_neg hbad]
    have HN := hideN hn
    have HR0 := hideN hr0
    rw [checkAns_ok hn hne] at HCK
    clear hv hE hlen hn hr0 hbad h0 hne
    go_enter Tryd.func10, Tryd.ntmps10
    go_wp2_with fail
    refine HCK.out.mono ?_
    rintro e w1 ⟨ev, rfl, hev, hb⟩
    obtain rfl := hev.nil
    have HB1 := hideN hb
    clear hev hb HCK
    have HCU := hideN (cutAt_any (.slice p l.length c) l n w1 HN.out (HV.out.below HB1.out))
    go_wp2_with fail
    refine HCU.out.mono ?_
    rintro e w2 ⟨v1, v2, rfl, hv1, hv2, hb2⟩
    have HB2 : Hid (Below w.heap.size w w2) := HB1.out.trans (hb2.mono HB1.out.size)
    have HV1 := hideN hv1
    have HV2 := hideN hv2
    obtain ⟨p1, c1, rfl⟩ := hv1.shape
    obtain ⟨p2, c2, rfl⟩ := hv2.shape
    clear hb2 hv1 hv2
    by_cases hm : n ∈ l
    · have HR : Hid (leaveAns l n = (l.take (nPlace l n) ++ l.drop (nPlace l n + 1), (0, -1))) := by show _ = _; rw [HR0.out, if_pos hm, nDel_at HN.out hm]
      rw [decide_eq_true hm]
      have hbo : behindOf l n = l.drop (nPlace l n + 1) := by unfold behindOf; rw [if_pos hm]
      rw [hbo] at HV2 ⊢
      have HCO := hideN (concat2 w2 _ _ (l.take (nPlace l n)) (l.drop (nPlace l n + 1)) HV1.out HV2.out (by rw [List.length_take]; have := HLEN.out; omega) (by rw [List.length_drop]; have := HLEN.out; omega) 22)
      obtain ⟨L1, hL1⟩ : ∃ L, (l.take (nPlace l n)).length = L := ⟨_, rfl⟩
      obtain ⟨L2, hL2⟩ : ∃ L, (l.drop (nPlace l n + 1)).length = L := ⟨_, rfl⟩
      rw [hL1, hL2] at HCO
      rw [hL1, hL2]
      clear hm hbo hL1 hL2
      go_wp2_with fail
      refine HCO.out.mono ?_
      rintro e w3 ⟨v, rfl, hv3, hb3⟩
      have HB3 : Hid (Below w.heap.size w w3) := HB2.out.trans (hb3.mono HB2.out.size)
      have HV3 := hideN hv3
      clear hb3 hv3
      go_wp2_with fail
      go_ret2
      exact ⟨v, .nilIface, rfl, by rw [HR.out]; exact .inl ⟨rfl, rfl⟩, by rw [HR.out]; exact HV3.out, HB3.out⟩
    · have HR : Hid (leaveAns l n = ([], (5, -1))) := by show _ = _; rw [HR0.out, if_neg hm]
      rw [decide_eq_false hm]
      have g4 := (HEE.out.below HB2.out (Nat.le_refl _)).glob 4 (by decide)
      dsimp only [errG] at g4
      clear hm
      go_wp2_with fail
      go_quiet (fail)
      have HB3 : Hid (Below w.heap.size w (w2.drewN nq)) := HB2.out.trans ((below_drew_n w2 nq).mono HB2.out.size)
      go_wp2_with fail
      go_ret2
      exact ⟨_, sentV a 4, rfl, by rw [HR.out]; exact .inr (.inl ⟨4, by decide, rfl, rfl⟩), by rw [HR.out]; exact .inl ⟨rfl, rfl⟩, HB3.out⟩
end Go.Proofs.YtcbcjefefmbccabDoor
