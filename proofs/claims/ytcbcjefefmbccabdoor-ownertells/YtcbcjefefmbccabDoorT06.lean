/-
  Own text. owner.Join and Leave by contracts.
  Own text. The closed example of chapter 8 by a contract; InInts.
  Own text. The document's nodesFault, NodesFault and OwnerOf by contracts.
-/
import Derived.Test.YtcbcjefefmbccabDoorT04
import Derived.Test.YtcbcjefefmbccabDoorT05
namespace Go.Proofs.YtcbcjefefmbccabDoor
open Go.RowKit

def joinAns (l : List Int) (n : Int) : List Int × (Int × Int) :=
  if l ≠ [] ∧ (checkAns' l).1 ≠ 0 then ([], checkAns' l) else if nodeOk n = false then ([], (2, -1)) else if n ∈ l then ([], (6, -1)) else (nIns l n, (0, -1))
def leaveAns (l : List Int) (n : Int) : List Int × (Int × Int) :=
  if (checkAns' l).1 ≠ 0 then ([], checkAns' l) else if n ∈ l then (nDel l n, (0, -1)) else ([], (5, -1))
theorem IntsS.shape {w : World} {v : Value} {xs : List Int} (h : IntsS w v xs) : ∃ p c, v = .slice p xs.length c := by
  rcases h with ⟨rfl, rfl⟩ | ⟨b, o, c, rfl, _⟩
  · exact ⟨none, 0, rfl⟩
  · exact ⟨_, _, rfl⟩
theorem ErrIn.low {base base' : Nat} {w : World} {a : Nat → Addr} {v : Value} {f : Int × Int} (h : ErrIn base w a v f) (hb : base' ≤ base) : ErrIn base' w a v f := by
  rcases h with h | h | ⟨k, pb, po, at0, h1, h2, h3⟩
  · exact .inl h
  · exact .inr (.inl h)
  · exact .inr (.inr ⟨k, pb, po, at0, h1, Nat.le_trans hb h2, h3⟩)
theorem ErrIn.iface {base : Nat} {w : World} {a : Nat → Addr} {v : Value} {f : Int × Int} (h : ErrIn base w a v f) (hf : f.1 ≠ 0) : ∃ T A, v = .iface T A := by
  rcases h with ⟨_, h⟩ | ⟨k, _, h, _⟩ | ⟨k, pb, po, at0, _, _, h, _⟩
  · exact absurd (congrArg Prod.fst h) hf
  · exact ⟨_, _, h⟩
  · exact ⟨_, _, h⟩
theorem IntsS.one (W : World) (n : Int) (e : TypeId) : IntsS (W.alloc (.cells #[.int .i64 n] e)) (.slice (some ⟨W.heap.size, 0, none⟩) 1 1) [n] :=
  .inr ⟨W.heap.size, 0, 1, rfl, Nat.le_refl _, by simp, fun i hi => by
    have h0 : i = 0 := by simpa using hi
    subst h0
    exact new_cell W #[.int .i64 n] e rfl rfl⟩
def JoinPost (a : Nat → Addr) (w : World) (r : List Int × (Int × Int)) (e : Ending) (w' : World) : Prop :=
  ∃ v ev, e = .returned (.tuple #[v, ev]) ∧ ErrIn w.heap.size w' a ev r.2 ∧ IntsS w' v r.1 ∧ Below w.heap.size w w' ∧ ∀ k, v.ownBlock = some k → w.heap.size ≤ k
theorem concat3 (W : World) (v1 v2 : Value) (A B : List Int) (n : Int) (h1 : IntsS W v1 A) (h2 : IntsS W v2 B) (hA : A.length ≤ 1000) (hB : B.length ≤ 1000) (eI eS : TypeId) :
    Calls Tryd.prog 27 #[.slice (some ⟨W.heap.size + 1, 0, none⟩) 3 3] ((W.alloc (.cells #[.int .i64 n] eI)).alloc (.cells #[v1, .slice (some ⟨W.heap.size, 0, none⟩) 1 1, v2] eS)) fun e w' => ∃ v, e = .returned v ∧ IntsS w' v (A ++ n :: B) ∧ Below W.heap.size W w' ∧ ∀ k, v.ownBlock = some k → W.heap.size ≤ k := by
  have hal1 := (Below.refl W.heap.size W).alloc (Nat.le_refl _) (.cells #[.int .i64 n] eI)
  have hal2 := hal1.alloc hal1.size (.cells #[v1, .slice (some ⟨W.heap.size, 0, none⟩) 1 1, v2] eS)
  have hal3 := (Below.refl _ (W.alloc (.cells #[.int .i64 n] eI))).alloc (Nat.le_refl _) (.cells #[v1, .slice (some ⟨W.heap.size, 0, none⟩) 1 1, v2] eS)
  rw [show W.heap.size + 1 = (W.alloc (.cells #[.int .i64 n] eI)).heap.size by simp]
  refine (concat_any (W.alloc (.cells #[.int .i64 n] eI)).heap.size 3 3 (fun k => match k with | 0 => v1 | 1 => .slice (some ⟨W.heap.size, 0, none⟩) 1 1 | _ => v2) (fun k => match k with | 0 => A | 1 => [n] | _ => B) _ (by decide) (fun k => ?_) (fun k hk => ?_) (fun k hk => ?_)).mono ?_
  · match k with
    | 0 => exact hA
    | 1 => simp
    | k + 2 => exact hB
  · match k with
    | 0 => exact new_cell _ _ _ rfl rfl
    | 1 => exact new_cell _ _ _ rfl rfl
    | 2 => exact new_cell _ _ _ rfl rfl
    | k + 3 => omega
  · match k with
    | 0 => exact h1.below hal2
    | 1 => exact (IntsS.one W n eI).below hal3
    | 2 => exact h2.below hal2
    | k + 3 => omega
  · rintro e w' ⟨v, rfl, hr, hb⟩
    refine ⟨v, rfl, ?_, hal2.trans (hb.mono hal2.size), fun k hk => Nat.le_trans hal2.size (hr.lt k hk).1⟩
    have h := IntsS.of_row hr
    simpa [cat] using h
theorem concat2 (W : World) (v1 v2 : Value) (A B : List Int) (h1 : IntsS W v1 A) (h2 : IntsS W v2 B) (hA : A.length ≤ 1000) (hB : B.length ≤ 1000) (eS : TypeId) :
    Calls Tryd.prog 27 #[.slice (some ⟨W.heap.size, 0, none⟩) 2 2] (W.alloc (.cells #[v1, v2] eS)) fun e w' => ∃ v, e = .returned v ∧ IntsS w' v (A ++ B) ∧ Below W.heap.size W w' ∧ ∀ k, v.ownBlock = some k → W.heap.size ≤ k := by
  have hal2 := (Below.refl W.heap.size W).alloc (Nat.le_refl _) (.cells #[v1, v2] eS)
  refine (concat_any W.heap.size 2 2 (fun k => match k with | 0 => v1 | _ => v2) (fun k => match k with | 0 => A | _ => B) _ (by decide) (fun k => ?_) (fun k hk => ?_) (fun k hk => ?_)).mono ?_
  · match k with
    | 0 => exact hA
    | k + 1 => exact hB
  · match k with
    | 0 => exact new_cell _ _ _ rfl rfl
    | 1 => exact new_cell _ _ _ rfl rfl
    | k + 2 => omega
  · match k with
    | 0 => exact h1.below hal2
    | 1 => exact h2.below hal2
    | k + 2 => omega
  · rintro e w' ⟨v, rfl, hr, hb⟩
    refine ⟨v, rfl, ?_, hal2.trans (hb.mono hal2.size), fun k hk => Nat.le_trans hal2.size (hr.lt k hk).1⟩
    have h := IntsS.of_row hr
    simpa [cat] using h
set_option maxRecDepth 100000 in
set_option maxHeartbeats 1000000 in
theorem ownJoin_any (a : Nat → Addr) (vl : Value) (l : List Int) (n : Int) (w : World) (hlen : l.length ≤ 1000) (hv : IntsS w vl l) (hE : ErrE [1, 4, 5, 7] w a) :
    Calls Tryd.prog 9 #[vl, .int .i64 n] w (JoinPost a w (joinAns l n)) := by
  have HV := hideN hv
  have HEE := hideN hE
  have HLEN := hideN hlen
  obtain ⟨p, c, rfl⟩ := hv.shape
  have HCK := hideN (ownCheck_any a _ l w hlen hv.c (hE.sub (M := [1, 4, 7]) (by decide)))
  have HIS : Hid (∀ W, Calls Tryd.prog 22 #[.int .i64 n] W fun e w' => e = .returned (.bool (nodeOk n)) ∧ w' = W) := fun W => isNode_any n W
  have hll : (l.length : Int) ≤ 1000 := by omega
  unfold JoinPost
  by_cases hbad : l ≠ [] ∧ (checkAns' l).1 ≠ 0
  · have hr : joinAns l n = ([], checkAns' l) := by unfold joinAns; rw [if_pos hbad]
    rw [hr]
    have hpos : 0 < l.length := List.length_pos_iff.2 hbad.1
    have hpos' : (0 : Int) < (l.length : Int) := by omega
    have HBD := hideN hbad.2
    clear hv hE hlen hbad hr HV HEE HIS
    go_enter Tryd.func9, Tryd.ntmps9
    go_wp2_with fail
    refine HCK.out.mono ?_
    rintro e w1 ⟨ev, rfl, hev, hb⟩
    have HEV := hideN hev
    obtain ⟨T, A, rfl⟩ := hev.iface HBD.out
    have HB := hideN hb
    clear hev hb HCK
    go_wp2_with fail
    go_ret2
    exact ⟨_, _, rfl, HEV.out, .inl ⟨rfl, rfl⟩, HB.out, fun k hk => by cases hk⟩
  · have hn : Nodes l := by
      by_cases h0 : l = []
      · subst h0; exact Nodes.nil
      · have : (checkAns' l).1 = 0 := Classical.not_not.1 fun h => hbad ⟨h0, h⟩
        exact (checkAns_of (l := l) (p := (checkAns' l).2) (Prod.ext this rfl)).1
    have hr0 : joinAns l n = if nodeOk n = false then ([], (2, -1)) else if n ∈ l then ([], (6, -1)) else (nIns l n, (0, -1)) := by unfold joinAns; rw [if_neg hbad]
    have HN := hideN hn
    have HR0 := hideN hr0
    have HC2 : Hid (l ≠ [] → checkAns' l = (0, -1)) := fun h => checkAns_ok hn h
    by_cases h0 : l.length = 0
    · have HB1 : Hid (Below w.heap.size w w) := Below.refl _ _
      obtain rfl : l = [] := List.length_eq_zero_iff.1 h0
      have e0 : ([] : List Int).length = 0 := rfl
      rw [e0] at HV ⊢
      clear HCK HC2 hv hE hlen hn hr0 hbad h0 e0 hll
      go_enter Tryd.func9, Tryd.ntmps9
      go_wp2_with fail
      refine (HIS.out _).mono ?_
      rintro e wi ⟨rfl, hwi⟩; have hwi := hwi.symm
      subst hwi
      cases hok : nodeOk n with
      | false =>
        have HR : Hid (joinAns ([] : List Int) n = ([], (2, -1))) := by show _ = _; rw [HR0.out, if_pos hok]
        have g1 := (HEE.out.below HB1.out (Nat.le_refl _)).glob 1 (by decide)
        dsimp only [errG] at g1
        clear hok
        go_wp2_with fail
        go_quiet (fail)
        have HB2 : Hid (Below w.heap.size w (w.drewN nq)) := HB1.out.trans ((below_drew_n w nq).mono HB1.out.size)
        go_wp2_with fail
        go_ret2
        exact ⟨_, sentV a 1, rfl, by rw [HR.out]; exact .inr (.inl ⟨1, by decide, rfl, rfl⟩), by rw [HR.out]; exact .inl ⟨rfl, rfl⟩, HB2.out, fun k hk => by cases hk⟩
      | true =>
        have HOK := hideN hok
        have HCU := hideN (cutAt_any (.slice p 0 c) ([] : List Int) n w HN.out (HV.out.below HB1.out))
        clear hok
        go_wp2_with fail
        refine HCU.out.mono ?_
        rintro e w2 ⟨v1, v2, rfl, hv1, hv2, hb2⟩
        have HB2 : Hid (Below w.heap.size w w2) := HB1.out.trans (hb2.mono HB1.out.size)
        have HV1 := hideN hv1
        have HV2 := hideN hv2
        obtain ⟨p1, c1, rfl⟩ := hv1.shape
        obtain ⟨p2, c2, rfl⟩ := hv2.shape
        clear hb2 hv1 hv2
        by_cases hm : n ∈ ([] : List Int)
        · have HR : Hid (joinAns ([] : List Int) n = ([], (6, -1))) := by show _ = _; rw [HR0.out, if_neg (by rw [HOK.out]; simp), if_pos hm]
          rw [decide_eq_true hm]
          have g5 := (HEE.out.below HB2.out (Nat.le_refl _)).glob 5 (by decide)
          dsimp only [errG] at g5
          clear hm
          go_wp2_with fail
          go_quiet (fail)
          have HB3 : Hid (Below w.heap.size w (w2.drewN nq)) := HB2.out.trans ((below_drew_n w2 nq).mono HB2.out.size)
          go_wp2_with fail
          go_ret2
          exact ⟨_, sentV a 5, rfl, by rw [HR.out]; exact .inr (.inl ⟨5, by decide, rfl, rfl⟩), by rw [HR.out]; exact .inl ⟨rfl, rfl⟩, HB3.out, fun k hk => by cases hk⟩
        · have HR : Hid (joinAns ([] : List Int) n = (nIns ([] : List Int) n, (0, -1))) := by show _ = _; rw [HR0.out, if_neg (by rw [HOK.out]; simp), if_neg hm]
          rw [decide_eq_false hm]
          have hbo : behindOf ([] : List Int) n = ([] : List Int).drop (nPlace ([] : List Int) n) := by unfold behindOf; rw [if_neg hm]
          rw [hbo] at HV2 ⊢
          have HCO := hideN (concat3 w2 _ _ (([] : List Int).take (nPlace ([] : List Int) n)) (([] : List Int).drop (nPlace ([] : List Int) n)) n HV1.out HV2.out (by rw [List.length_take]; have := HLEN.out; omega) (by rw [List.length_drop]; have := HLEN.out; omega) 3 22)
          obtain ⟨L1, hL1⟩ : ∃ L, (([] : List Int).take (nPlace ([] : List Int) n)).length = L := ⟨_, rfl⟩
          obtain ⟨L2, hL2⟩ : ∃ L, (([] : List Int).drop (nPlace ([] : List Int) n)).length = L := ⟨_, rfl⟩
          rw [hL1, hL2] at HCO
          rw [hL1, hL2]
          clear hm hbo hL1 hL2
          go_wp2_with fail
          refine HCO.out.mono ?_
          rintro e w3 ⟨v, rfl, hv3, hb3, hf3⟩
          have HB3 : Hid (Below w.heap.size w w3) := HB2.out.trans (hb3.mono HB2.out.size)
          have HV3 := hideN hv3
          have HF3 : Hid (∀ k, v.ownBlock = some k → w.heap.size ≤ k) := fun k hk => Nat.le_trans HB2.out.size (hf3 k hk)
          clear hb3 hv3 hf3
          go_wp2_with fail
          go_ret2
          exact ⟨v, .nilIface, rfl, by rw [HR.out]; exact .inl ⟨rfl, rfl⟩, by rw [HR.out]; exact HV3.out, HB3.out, HF3.out⟩
    · have hpos' : (0 : Int) < (l.length : Int) := by omega
      have hpos : 0 < l.length := by omega
      rw [HC2.out (List.length_pos_iff.1 hpos)] at HCK
      clear HC2 hv hE hlen hn hr0 hbad h0
      go_enter Tryd.func9, Tryd.ntmps9
      go_wp2_with fail
      refine HCK.out.mono ?_
      rintro e w1 ⟨ev, rfl, hev, hb⟩
      obtain rfl := hev.nil
      have HB1 := hideN hb
      clear hev hb HCK
      go_wp2_with fail
      refine (HIS.out _).mono ?_
      rintro e wi ⟨rfl, hwi⟩; have hwi := hwi.symm
      subst hwi
      cases hok : nodeOk n with
      | false =>
        have HR : Hid (joinAns l n = ([], (2, -1))) := by show _ = _; rw [HR0.out, if_pos hok]
        have g1 := (HEE.out.below HB1.out (Nat.le_refl _)).glob 1 (by decide)
        dsimp only [errG] at g1
        clear hok
        go_wp2_with fail
        go_quiet (fail)
        have HB2 : Hid (Below w.heap.size w (w1.drewN nq)) := HB1.out.trans ((below_drew_n w1 nq).mono HB1.out.size)
        go_wp2_with fail
        go_ret2
        exact ⟨_, sentV a 1, rfl, by rw [HR.out]; exact .inr (.inl ⟨1, by decide, rfl, rfl⟩), by rw [HR.out]; exact .inl ⟨rfl, rfl⟩, HB2.out, fun k hk => by cases hk⟩
      | true =>
        have HOK := hideN hok
        have HCU := hideN (cutAt_any (.slice p l.length c) l n w1 HN.out (HV.out.below HB1.out))
        clear hok
        go_wp2_with fail
        refine HCU.out.mono ?_
        rintro e w2 ⟨v1, v2, rfl, hv1, hv2, hb2⟩
        have HB2 : Hid (Below w.heap.size w w2) := HB1.out.trans (hb2.mono HB1.out.size)
        have HV1 := hideN hv1
        have HV2 := hideN hv2
        obtain ⟨p1, c1, rfl⟩ := hv1.shape
        obtain ⟨p2, c2, rfl⟩ := hv2.shape
        clear hb2 hv1 hv2
        by_cases hm : n ∈ l
        · have HR : Hid (joinAns l n = ([], (6, -1))) := by show _ = _; rw [HR0.out, if_neg (by rw [HOK.out]; simp), if_pos hm]
          rw [decide_eq_true hm]
          have g5 := (HEE.out.below HB2.out (Nat.le_refl _)).glob 5 (by decide)
          dsimp only [errG] at g5
          clear hm
          go_wp2_with fail
          go_quiet (fail)
          have HB3 : Hid (Below w.heap.size w (w2.drewN nq)) := HB2.out.trans ((below_drew_n w2 nq).mono HB2.out.size)
          go_wp2_with fail
          go_ret2
          exact ⟨_, sentV a 5, rfl, by rw [HR.out]; exact .inr (.inl ⟨5, by decide, rfl, rfl⟩), by rw [HR.out]; exact .inl ⟨rfl, rfl⟩, HB3.out, fun k hk => by cases hk⟩
        · have HR : Hid (joinAns l n = (nIns l n, (0, -1))) := by show _ = _; rw [HR0.out, if_neg (by rw [HOK.out]; simp), if_neg hm]
          rw [decide_eq_false hm]
          have hbo : behindOf l n = l.drop (nPlace l n) := by unfold behindOf; rw [if_neg hm]
          rw [hbo] at HV2 ⊢
          have HCO := hideN (concat3 w2 _ _ (l.take (nPlace l n)) (l.drop (nPlace l n)) n HV1.out HV2.out (by rw [List.length_take]; have := HLEN.out; omega) (by rw [List.length_drop]; have := HLEN.out; omega) 3 22)
          obtain ⟨L1, hL1⟩ : ∃ L, (l.take (nPlace l n)).length = L := ⟨_, rfl⟩
          obtain ⟨L2, hL2⟩ : ∃ L, (l.drop (nPlace l n)).length = L := ⟨_, rfl⟩
          rw [hL1, hL2] at HCO
          rw [hL1, hL2]
          clear hm hbo hL1 hL2
          go_wp2_with fail
          refine HCO.out.mono ?_
          rintro e w3 ⟨v, rfl, hv3, hb3, hf3⟩
          have HB3 : Hid (Below w.heap.size w w3) := HB2.out.trans (hb3.mono HB2.out.size)
          have HV3 := hideN hv3
          have HF3 : Hid (∀ k, v.ownBlock = some k → w.heap.size ≤ k) := fun k hk => Nat.le_trans HB2.out.size (hf3 k hk)
          clear hb3 hv3 hf3
          go_wp2_with fail
          go_ret2
          exact ⟨v, .nilIface, rfl, by rw [HR.out]; exact .inl ⟨rfl, rfl⟩, by rw [HR.out]; exact HV3.out, HB3.out, HF3.out⟩
set_option maxRecDepth 100000 in
set_option maxHeartbeats 1000000 in
theorem ownLeave_any (a : Nat → Addr) (vl : Value) (l : List Int) (n : Int) (w : World) (hlen : l.length ≤ 1000) (hv : IntsS w vl l) (hE : ErrE [1, 4, 7] w a) :
    Calls Tryd.prog 10 #[vl, .int .i64 n] w (JoinPost a w (leaveAns l n)) := by
  have HV := hideN hv
  have HEE := hideN hE
  have HLEN := hideN hlen
  obtain ⟨p, c, rfl⟩ := hv.shape
  have HCK := hideN (ownCheck_any a _ l w hlen hv.c hE)
  have hll : (l.length : Int) ≤ 1000 := by omega
  unfold JoinPost
  by_cases hbad : (checkAns' l).1 ≠ 0
  · have hr : leaveAns l n = ([], checkAns' l) := by unfold leaveAns; rw [if_pos hbad]
    rw [hr]
    have HBD := hideN hbad
    clear hv hE hlen hbad hr HV HEE
    go_enter Tryd.func10, Tryd.ntmps10
    go_wp2_with fail
    refine HCK.out.mono ?_
    rintro e w1 ⟨ev, rfl, hev, hb⟩
    have HEV := hideN hev
    obtain ⟨T, A, rfl⟩ := hev.iface HBD.out
    have HB := hideN hb
    clear hev hb HCK
    go_wp2_with fail
    go_ret2
    exact ⟨_, _, rfl, HEV.out, .inl ⟨rfl, rfl⟩, HB.out, fun k hk => by cases hk⟩
  · have h0 : (checkAns' l).1 = 0 := Classical.not_not.1 hbad
    obtain ⟨hn, hne⟩ := checkAns_of (l := l) (p := (checkAns' l).2) (Prod.ext h0 rfl)
    have hr0 : leaveAns l n = if n ∈ l then (nDel l n, (0, -1)) else ([], (5, -1)) := by unfold leaveAns; rw [if_neg hbad]
    have HN := hideN hn
    have HR0 := hideN hr0
    rw [checkAns_ok hn hne] at HCK
    clear hv hE hlen hn hr0 hbad h0 hne
    go_enter Tryd.func10, Tryd.ntmps10
    go_wp2_with fail
    refine HCK.out.mono ?_
    rintro e w1 ⟨ev, rfl, hev, hb⟩
    obtain rfl := hev.nil
    have HB1 := hideN hb
    clear hev hb HCK
    have HCU := hideN (cutAt_any (.slice p l.length c) l n w1 HN.out (HV.out.below HB1.out))
    go_wp2_with fail
    refine HCU.out.mono ?_
    rintro e w2 ⟨v1, v2, rfl, hv1, hv2, hb2⟩
    have HB2 : Hid (Below w.heap.size w w2) := HB1.out.trans (hb2.mono HB1.out.size)
    have HV1 := hideN hv1
    have HV2 := hideN hv2
    obtain ⟨p1, c1, rfl⟩ := hv1.shape
    obtain ⟨p2, c2, rfl⟩ := hv2.shape
    clear hb2 hv1 hv2
    by_cases hm : n ∈ l
    · have HR : Hid (leaveAns l n = (l.take (nPlace l n) ++ l.drop (nPlace l n + 1), (0, -1))) := by show _ = _; rw [HR0.out, if_pos hm, nDel_at HN.out hm]
      rw [decide_eq_true hm]
      have hbo : behindOf l n = l.drop (nPlace l n + 1) := by unfold behindOf; rw [if_pos hm]
      rw [hbo] at HV2 ⊢
      have HCO := hideN (concat2 w2 _ _ (l.take (nPlace l n)) (l.drop (nPlace l n + 1)) HV1.out HV2.out (by rw [List.length_take]; have := HLEN.out; omega) (by rw [List.length_drop]; have := HLEN.out; omega) 22)
      obtain ⟨L1, hL1⟩ : ∃ L, (l.take (nPlace l n)).length = L := ⟨_, rfl⟩
      obtain ⟨L2, hL2⟩ : ∃ L, (l.drop (nPlace l n + 1)).length = L := ⟨_, rfl⟩
      rw [hL1, hL2] at HCO
      rw [hL1, hL2]
      clear hm hbo hL1 hL2
      go_wp2_with fail
      refine HCO.out.mono ?_
      rintro e w3 ⟨v, rfl, hv3, hb3, hf3⟩
      have HB3 : Hid (Below w.heap.size w w3) := HB2.out.trans (hb3.mono HB2.out.size)
      have HV3 := hideN hv3
      have HF3 : Hid (∀ k, v.ownBlock = some k → w.heap.size ≤ k) := fun k hk => Nat.le_trans HB2.out.size (hf3 k hk)
      clear hb3 hv3 hf3
      go_wp2_with fail
      go_ret2
      exact ⟨v, .nilIface, rfl, by rw [HR.out]; exact .inl ⟨rfl, rfl⟩, by rw [HR.out]; exact HV3.out, HB3.out, HF3.out⟩
    · have HR : Hid (leaveAns l n = ([], (5, -1))) := by show _ = _; rw [HR0.out, if_neg hm]
      rw [decide_eq_false hm]
      have g4 := (HEE.out.below HB2.out (Nat.le_refl _)).glob 4 (by decide)
      dsimp only [errG] at g4
      clear hm
      go_wp2_with fail
      go_quiet (fail)
      have HB3 : Hid (Below w.heap.size w (w2.drewN nq)) := HB2.out.trans ((below_drew_n w2 nq).mono HB2.out.size)
      go_wp2_with fail
      go_ret2
      exact ⟨_, sentV a 4, rfl, by rw [HR.out]; exact .inr (.inl ⟨4, by decide, rfl, rfl⟩), by rw [HR.out]; exact .inl ⟨rfl, rfl⟩, HB3.out, fun k hk => by cases hk⟩
end Go.Proofs.YtcbcjefefmbccabDoor
namespace Go.Proofs.YtcbcjefefmbccabDoor
open Go.RowKit

set_option maxHeartbeats 2000000 in
theorem inInts_any (n : Int) (v : Value) (l : List Int) (w : World) (hlen : l.length ≤ 1000) (hv : IntsC w v l) :
    Calls Tryd.prog 8 #[.int .i64 n, v] w fun e w' => e = .returned (.bool (decide (n ∈ l))) ∧ w' = w := by
  obtain ⟨p, c, rfl, hcell⟩ := hv
  simp only [List.length_map, List.getElem_map] at hcell ⊢
  have hll : (l.length : Int) ≤ 1000 := by omega
  have HC := hideN hcell
  clear hcell hlen
  go_enter Tryd.func8, Tryd.ntmps8
  go_wp2_with fail
  go_loopw [5] (fun iv wr => ∃ k : Nat, k ≤ l.length ∧ iv = .int .i64 k ∧ Hid (∀ j (h : j < l.length), j < k → l[j] ≠ n) ∧ w = wr) (fun iv _ => l.length - (intOf iv).toNat)
  case atStart => exact ⟨0, Nat.zero_le _, rfl, fun j _ h => by omega, rfl⟩
  case round =>
    obtain ⟨k, hk, rfl, HN, rfl⟩ := hrel
    by_cases hlt : k < l.length
    · have hlt' : (k : Int) < (l.length : Int) := by omega
      have hk0 : (0 : Int) ≤ (k : Int) := by omega
      obtain ⟨b, o, rfl, _, hck⟩ := HC.out k hlt
      by_cases hx : l[k]'hlt = n
      · have hm : decide (n ∈ l) = true := decide_eq_true (hx ▸ List.getElem_mem hlt)
        have HM := hideN hm
        rw [hx] at hck
        have hnn : (n == n) = true := by simp
        clear hm hx hlt
        go_wp2_with fail
        go_ret
        have h := HM.out
        exact ⟨by first | (rw [h]; done) | (rw [decide_eq_true h]; done) | simp [h], rfl⟩
      · have HX := hideN hx
        obtain ⟨x, hxx⟩ : ∃ x, l[k]'hlt = x := ⟨_, rfl⟩
        rw [hxx] at hck hx
        have hxe : (x == n) = false := beq_eq_false_iff_ne.2 hx
        have HKL := hideN hlt
        clear hxx hx
        go_wp2_with fail
        go_roundw
        case rel => exact ⟨k + 1, HKL.out, by go_num, (fun j hj h => by
          by_cases e : j = k
          · subst e; exact HX.out
          · exact HN.out j hj (by omega) : ∀ j (h : j < l.length), j < k + 1 → l[j] ≠ n), trivial⟩
        case measure => simp [intOf]; omega
    · have hge : (l.length : Int) ≤ (k : Int) := by omega
      have hm : decide (n ∈ l) = false := decide_eq_false fun h => by
        obtain ⟨j, hj, e⟩ := List.mem_iff_getElem.1 h
        exact HN.out j hj (by omega) e
      have HM := hideN hm
      clear hm hlt
      go_wp2_with fail
      go_ret
      have h := HM.out
      exact ⟨by first | (rw [h]; done) | (rw [decide_eq_false h]; done) | simp [h], rfl⟩
theorem nodes3 : Nodes [3] := ⟨fun x hx => by simp at hx; subst hx; decide, fun i j hi hj h => by simp at hi hj; omega⟩
theorem own3 (i : Nat × Int) (h : ¬ i.2 < 0) : ownAns i [3] = (3, (0, -1)) := by
  unfold ownAns
  rw [checkAns_ok nodes3 (by simp), if_neg (by simp), if_neg h]
  rfl
theorem join3 : joinAns [3] 1 = ([1, 3], (0, -1)) := by
  unfold joinAns
  rw [checkAns_ok nodes3 (by simp), if_neg (by simp), if_neg (by decide), if_neg (by decide)]
  rfl
set_option maxRecDepth 100000 in
set_option maxHeartbeats 4000000 in
theorem owned_any (a : Nat → Addr) (w : World) (hE : ErrE [1, 2, 4, 5, 7] w a) (ht : Pow10 w) :
    Calls Tryd.prog 5 #[] w fun e w' => e = .returned (.bool true) ∧ Below w.heap.size w w' := by
  have HEE := hideN hE
  have HT := hideN ht
  have hal := (Below.refl w.heap.size w).alloc (Nat.le_refl _) (.cells #[.int .i64 3] 3)
  have HAL := hideN hal
  have H3 := hideN (IntsS.one w 3 3)
  have hsz : (⟨#[97]⟩ : ByteArray).size ≤ maxLen := by unfold maxLen; decide
  have HSZ := hideN hsz
  clear hE ht hal hsz
  go_enter Tryd.func5, Tryd.ntmps5
  go_wp2_with fail
  refine (idOf_any _ _ HSZ.out).mono ?_
  rintro e w1 ⟨rfl, hb1⟩
  have HB1 : Hid (Below w.heap.size w w1) := HAL.out.trans (hb1.mono HAL.out.size)
  have H31 := hideN (H3.out.below hb1)
  have HP := hideN (pmore_lt 2166136261 (by decide) (⟨#[97]⟩ : ByteArray).data.toList)
  obtain ⟨P, hP⟩ : ∃ P, pmore 2166136261 (⟨#[97]⟩ : ByteArray).data.toList = P := ⟨_, rfl⟩
  have hs1 : (⟨#[97]⟩ : ByteArray).size = 1 := rfl
  rw [hP] at HP
  rw [hP, hs1]
  have HOF := hideN (ownOf_any a (P, 1) HP.out (show (1 : Int) ≤ 9223372036854775807 by decide) _ [3] w1 (by decide) H31.out.c ((HEE.out.sub (M := [1, 2, 4, 7]) (by decide)).below HB1.out (Nat.le_refl _)) (HT.out.below HB1.out (Nat.le_refl _)))
  rw [own3 _ (show ¬ (1 : Int) < 0 by decide)] at HOF
  clear hb1 hP hs1 H3
  go_wp2_with fail
  refine HOF.out.mono ?_
  rintro e w2 ⟨ev, rfl, hev, hb2⟩
  obtain rfl := hev.nil
  have HB2 : Hid (Below w.heap.size w w2) := HB1.out.trans (hb2.mono HB1.out.size)
  have hal2 := (Below.refl w2.heap.size w2).alloc (Nat.le_refl _) (.cells #[.int .i64 3] 3)
  have HB3 : Hid (Below w.heap.size w (w2.alloc (.cells #[.int .i64 3] 3))) := HB2.out.trans (hal2.mono HB2.out.size)
  have HJ := hideN (ownJoin_any a _ [3] 1 _ (by decide) (IntsS.one w2 3 3) ((HEE.out.sub (M := [1, 4, 5, 7]) (by decide)).below HB3.out (Nat.le_refl _)))
  rw [join3] at HJ
  unfold JoinPost at HJ
  clear hev hb2 HOF H31 HB1 hal2
  go_wp2_with fail
  refine HJ.out.mono ?_
  rintro e w4 ⟨v, ev, rfl, hev, hv, hb4, _⟩
  obtain rfl := hev.nil
  have HB4 : Hid (Below w.heap.size w w4) := HB3.out.trans (hb4.mono HB3.out.size)
  have HV4 := hideN hv
  obtain ⟨p, c, rfl⟩ := hv.shape
  clear hev hb4 HJ HB3 HB2 hv
  have HAL4 : Hid (∀ t, Below w.heap.size w (w4.alloc (.cells #[.int .i64 1, .int .i64 3] t))) := fun t => HB4.out.alloc HB4.out.size _
  have HS : Hid (∀ t, Calls Tryd.prog 11 #[.slice p [(1 : Int), 3].length c, .slice (some ⟨w4.heap.size, 0, none⟩) 2 2] (w4.alloc (.cells #[.int .i64 1, .int .i64 3] t)) fun e w' => e = .returned (.bool true) ∧ Below (w4.alloc (.cells #[.int .i64 1, .int .i64 3] t)).heap.size (w4.alloc (.cells #[.int .i64 1, .int .i64 3] t)) w') := fun t =>
    sameIntsC _ _ [1, 3] _ (by decide) (HV4.out.below ((Below.refl _ _).alloc (Nat.le_refl _) _)).c ⟨some ⟨w4.heap.size, 0, none⟩, 2, rfl, fun i hi => ⟨w4.heap.size, 0, rfl, ⟨by simp, by decide⟩, by
      have hi2 : i < 2 := by simpa using hi
      match i, hi2 with
      | 0, _ => exact new_cell _ _ _ rfl rfl
      | 1, _ => exact new_cell _ _ _ rfl rfl⟩⟩
  have hl2 : [(1 : Int), 3].length = 2 := rfl
  rw [hl2] at HS
  rw [hl2]
  clear hl2
  go_wp2_with fail
  refine (HS.out _).mono ?_
  rintro e w5 ⟨rfl, hb5⟩
  have HB5 : Hid (Below w.heap.size w w5) := (HAL4.out _).trans (hb5.mono (HAL4.out _).size)
  clear hb5
  go_wp2_with fail
  go_ret
  exact ⟨rfl, HB5.out⟩
end Go.Proofs.YtcbcjefefmbccabDoor
namespace Go.Proofs.YtcbcjefefmbccabDoor
open Go.RowKit

set_option maxRecDepth 100000 in
set_option maxHeartbeats 4000000 in
theorem nodesFault_any (vl : Value) (l : List Int) (w : World) (hlen : l.length ≤ 1000) (hv : IntsC w vl l) :
    Calls Tryd.prog 30 #[vl] w fun e w' => e = .returned (faultV (nodesAns l).1 (nodesAns l).2) ∧ Below w.heap.size w w' := by
  have hal := (Below.refl w.heap.size w).alloc (Nat.le_refl _) (.cells #[.int .i64 0, .int .i64 0] 39)
  have HRB := hideN (Blk.new w #[.int .i64 0, .int .i64 0] 39)
  have HV : Hid (∀ W, Below w.heap.size w W → IntsC W vl l) := fun W hb => hv.below hb
  obtain ⟨err, herr⟩ : ∃ err, nodeErr l = err := ⟨_, rfl⟩
  have HERR := hideN herr
  obtain ⟨RES, hRES⟩ : ∃ RES, fstErr err 0 l.length = RES := ⟨_, rfl⟩
  have hna : nodesAns l = ansAt err RES := by
    unfold nodesAns fstAns
    rw [herr, hRES]
  have HNA := hideN hna
  have HRES := hideN hRES
  have hll : (l.length : Int) ≤ 1000 := by omega
  have HAL := hideN hal
  obtain ⟨p, c, rfl, _⟩ := hv
  rw [List.length_map] at HV ⊢
  clear hal hna hRES herr
  go_enter Tryd.func30, Tryd.ntmps30
  go_wp2_with fail
  obtain ⟨W, hW⟩ : ∃ W, w.alloc (.cells #[.int .i64 0, .int .i64 0] 39) = W := ⟨_, rfl⟩
  rw [hW] at HRB HAL ⊢
  clear hW
  go_loopw [3] (fun iv wr => ∃ k : Nat, k ≤ l.length ∧ iv = .int .i64 k ∧ Hid (fstErr err k (l.length - k) = RES) ∧ Hid (Below w.heap.size w wr) ∧ Hid (Blk wr w.heap.size #[.int .i64 0, .int .i64 0] 39)) (fun iv _ => l.length - (intOf iv).toNat)
  case atStart => exact ⟨0, Nat.zero_le _, rfl, HRES.out, HAL.out, HRB.out⟩
  case round =>
    clear HRES HRB HAL
    obtain ⟨k, hk, rfl, HR, HB, HRB⟩ := hrel
    have q0 := HRB.out.cell (i := 0) rfl
    have q1 := HRB.out.cell (i := 1) rfl
    have f0 := HRB.out.frozen 0
    have f1 := HRB.out.frozen 1
    by_cases hlt : k < l.length
    · have hlt' : (k : Int) < (l.length : Int) := by omega
      have hk0 : (0 : Int) ≤ (k : Int) := by omega
      obtain ⟨_, _, hve, hcell⟩ := HV.out wr HB.out
      obtain ⟨rfl, rfl⟩ : p = _ ∧ c = _ := by simpa using hve
      obtain ⟨b, o, rfl, _, hc0⟩ := hcell k (by rw [List.length_map]; exact hlt)
      rw [List.getElem_map] at hc0
      have hne : err k = if nodeOk (l[k]'hlt) = false then 2 else if 0 < k ∧ l[k]'hlt ≤ (l[k - 1]?).getD 0 then 8 else 0 := by
        rw [← HERR.out]
        unfold nodeErr
        rw [List.getElem?_eq_getElem hlt]
      have HPR : Hid (0 < k → ∃ y, wr.cell? ⟨b, o + (k - 1), none⟩ = some (.int .i64 y) ∧ (l[k - 1]?).getD 0 = y) := fun h => by
        obtain ⟨b', o', hp, _, hc⟩ := hcell (k - 1) (by rw [List.length_map]; omega)
        obtain ⟨rfl, rfl⟩ : b = b' ∧ o = o' := by simpa using hp
        rw [List.getElem_map] at hc
        exact ⟨_, hc, by rw [List.getElem?_eq_getElem (show k - 1 < l.length by omega)]; rfl⟩
      have hsub : l.length - k = (l.length - (k + 1)) + 1 := by omega
      rw [hsub, fstErr] at HR
      obtain ⟨x, hx⟩ : ∃ x, l[k]'hlt = x := ⟨_, rfl⟩
      rw [hx] at hc0 hne
      have HNE := hideN hne
      have HKL := hideN hlt
      clear hve hcell hx hne hsub hlt
      have hok : nodeOk x = decide (1 ≤ x ∧ x ≤ 6) := rfl
      by_cases hx1 : x < 1
      · have HR2 : Hid (err k = 2) := by show _ = _; rw [HNE.out, hok, if_pos (decide_eq_false (by omega))]
        rw [if_pos (by rw [HR2.out]; decide)] at HR
        have HRR := hideN HR.out
        clear HNE HPR hok HR
        go_wp2_with fail
        exact bodyPost_ret (v := faultV 2 (k : Int)) (by simp [results, Tryd.results30, go_sem, q0, q1]) rfl ⟨by rw [HNA.out, ← HRR.out]; show _ = Ending.returned (faultV (err k) (k : Int)); rw [HR2.out], (HB.out.setCell (p := ⟨w.heap.size, 0, none⟩) (by simp) _).setCell (p := ⟨w.heap.size, 1, none⟩) (by simp) _⟩
      by_cases hx6 : 6 < x
      · have HR2 : Hid (err k = 2) := by show _ = _; rw [HNE.out, hok, if_pos (decide_eq_false (by omega))]
        rw [if_pos (by rw [HR2.out]; decide)] at HR
        have HRR := hideN HR.out
        clear HNE HPR hok HR
        go_wp2_with fail
        exact bodyPost_ret (v := faultV 2 (k : Int)) (by simp [results, Tryd.results30, go_sem, q0, q1]) rfl ⟨by rw [HNA.out, ← HRR.out]; show _ = Ending.returned (faultV (err k) (k : Int)); rw [HR2.out], (HB.out.setCell (p := ⟨w.heap.size, 0, none⟩) (by simp) _).setCell (p := ⟨w.heap.size, 1, none⟩) (by simp) _⟩
      have hok1 : nodeOk x = true := by rw [hok]; exact decide_eq_true ⟨by omega, by omega⟩
      rw [hok1] at HNE
      by_cases h0 : 0 < k
      · obtain ⟨y, hc1, hg⟩ := HPR.out h0
        have HNE2 : Hid (err k = if x ≤ y then 8 else 0) := by show _ = _; rw [HNE.out, hg, if_neg (by simp)]; simp only [h0, true_and]
        obtain ⟨m, hm⟩ : ∃ m, k - 1 = m := ⟨_, rfl⟩
        have hwm : IntKind.i64.wrap ((k : Int) - 1) = (m : Int) := by rw [IntKind.wrap_i64]; omega
        have hm0 : (0 : Int) ≤ (m : Int) := by omega
        have hml : (m : Int) < (l.length : Int) := by omega
        have h0' : (0 : Int) < (k : Int) := by omega
        rw [hm] at hc1
        clear HNE hg hok hok1 HPR hm
        by_cases hxy : x ≤ y
        · have HR2 : Hid (err k = 8) := by show _ = _; rw [HNE2.out, if_pos hxy]
          rw [if_pos (by rw [HR2.out]; decide)] at HR
          have HRR := hideN HR.out
          clear HNE2 HR
          go_wp2_with fail
          go_quiet (fail)
          have HB2 : Hid (Below w.heap.size w (wr.drewN nq)) := HB.out.trans ((below_drew_n wr nq).mono HB.out.size)
          clear q0 q1 f0 f1
          have q0 := (HRB.out.next (below_drew_n wr nq)).cell (i := 0) rfl
          have q1 := (HRB.out.next (below_drew_n wr nq)).cell (i := 1) rfl
          have f0 := (HRB.out.next (below_drew_n wr nq)).frozen 0
          have f1 := (HRB.out.next (below_drew_n wr nq)).frozen 1
          go_wp2_with fail
          exact bodyPost_ret (v := faultV 8 (k : Int)) (by simp [results, Tryd.results30, go_sem, q0, q1]) rfl ⟨by rw [HNA.out, ← HRR.out]; show _ = Ending.returned (faultV (err k) (k : Int)); rw [HR2.out], (HB2.out.setCell (p := ⟨w.heap.size, 0, none⟩) (by simp) _).setCell (p := ⟨w.heap.size, 1, none⟩) (by simp) _⟩
        · have HR2 : Hid (err k = 0) := by show _ = _; rw [HNE2.out, if_neg hxy]
          rw [if_neg (by rw [HR2.out]; simp)] at HR
          have HRR := hideN HR.out
          clear HNE2 HR
          go_wp2_with fail
          go_quiet (fail)
          have HB2 : Hid (Below w.heap.size w (wr.drewN nq)) := HB.out.trans ((below_drew_n wr nq).mono HB.out.size)
          have HRB2 := hideN (HRB.out.next (below_drew_n wr nq))
          go_wp2_with fail
          go_roundw
          case rel => exact ⟨k + 1, HKL.out, by go_num, HRR.out, HB2.out, HRB2.out⟩
          case measure => simp [intOf]; have := HKL.out; omega
      · have h0' : ¬ (0 : Int) < (k : Int) := by omega
        have HR2 : Hid (err k = 0) := by show _ = _; rw [HNE.out, if_neg (by simp), if_neg (fun h => h0 h.1)]
        rw [if_neg (by rw [HR2.out]; simp)] at HR
        have HRR := hideN HR.out
        clear HNE HPR hok hok1 HR
        go_wp2_with fail
        go_roundw
        case rel => exact ⟨k + 1, HKL.out, by go_num, HRR.out, HB.out, HRB.out⟩
        case measure => simp [intOf]; have := HKL.out; omega
    · have hge : (l.length : Int) ≤ (k : Int) := by omega
      have hz : l.length - k = 0 := by omega
      rw [hz, fstErr] at HR
      have HRR := hideN HR.out
      clear hz HR hlt
      go_wp2_with fail
      refine (fine_any _).mono ?_
      rintro e w2 ⟨rfl, hb2⟩
      have HB2 : Hid (Below w.heap.size w w2) := HB.out.trans (hb2.mono HB.out.size)
      have HRB2 := hideN (HRB.out.next hb2)
      clear q0 q1 f0 f1 hb2
      have q0 := HRB2.out.cell (i := 0) rfl
      have q1 := HRB2.out.cell (i := 1) rfl
      have f0 := HRB2.out.frozen 0
      have f1 := HRB2.out.frozen 1
      go_wp2_with fail
      exact bodyPost_ret (v := faultV 0 (-1)) (by simp [results, Tryd.results30, go_sem, q0, q1]) rfl ⟨by rw [HNA.out, ← HRR.out]; rfl, (HB2.out.setCell (p := ⟨w.heap.size, 0, none⟩) (by simp) _).setCell (p := ⟨w.heap.size, 1, none⟩) (by simp) _⟩
end Go.Proofs.YtcbcjefefmbccabDoor
