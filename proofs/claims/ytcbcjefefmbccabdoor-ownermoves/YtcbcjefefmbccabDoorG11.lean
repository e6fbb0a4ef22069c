/-
  Own text. owner.Of by a contract: whose it is.
-/
import Derived.Test.YtcbcjefefmbccabDoorG10
import Derived.Test.YtcbcjefefmbccabDoorG06
import Derived.Deep.RegionHeld3
namespace Go.Proofs.YtcbcjefefmbccabDoor
open Go.RowKit

def cmpI (x y : Nat) : Int := if x < y then -1 else if y < x then 1 else 0
theorem isNaN_any (x : Int) (w : World) : Calls Tryd.prog 37 #[.int .u32 x] w fun e w' => e = .returned (.bool false) ∧ w' = w := by
  have hx : (x != x) = false := by simp
  go_enter Tryd.func37, Tryd.ntmps37
  go_wp2
  go_ret
  exact ⟨rfl, rfl⟩
theorem compare_any (x y : Nat) (w : World) : Calls Tryd.prog 25 #[.int .u32 (x : Nat), .int .u32 (y : Nat)] w fun e w' => e = .returned (.int .i64 (cmpI x y)) ∧ w' = w := by
  unfold cmpI
  by_cases h1 : x < y
  · have h1' : (x : Int) < (y : Int) := by omega
    rw [if_pos h1]
    go_enter Tryd.func25, Tryd.ntmps25
    go_wp2_with fail
    refine (isNaN_any _ _).mono ?_
    rintro e w1 ⟨rfl, hw1⟩
    subst hw1
    go_wp2_with fail
    refine (isNaN_any _ _).mono ?_
    rintro e w2 ⟨rfl, hw2⟩
    subst hw2
    go_wp2_with fail
    go_ret
    exact ⟨rfl, rfl⟩
  · have h1' : ¬ (x : Int) < (y : Int) := by omega
    rw [if_neg h1]
    by_cases h2 : y < x
    · have h2' : (y : Int) < (x : Int) := by omega
      rw [if_pos h2]
      go_enter Tryd.func25, Tryd.ntmps25
      go_wp2_with fail
      refine (isNaN_any _ _).mono ?_
      rintro e w1 ⟨rfl, hw1⟩
      subst hw1
      go_wp2_with fail
      refine (isNaN_any _ _).mono ?_
      rintro e w2 ⟨rfl, hw2⟩
      subst hw2
      go_wp2_with fail
      go_ret
      exact ⟨rfl, rfl⟩
    · have h2' : ¬ (y : Int) < (x : Int) := by omega
      rw [if_neg h2]
      go_enter Tryd.func25, Tryd.ntmps25
      go_wp2_with fail
      refine (isNaN_any _ _).mono ?_
      rintro e w1 ⟨rfl, hw1⟩
      subst hw1
      go_wp2_with fail
      refine (isNaN_any _ _).mono ?_
      rintro e w2 ⟨rfl, hw2⟩
      subst hw2
      go_wp2_with fail
      go_ret
      exact ⟨rfl, rfl⟩
set_option maxRecDepth 100000 in
set_option maxHeartbeats 4000000 in
theorem ownOf1_any (i : Nat × Int) (hp : i.1 < 4294967296) (hl : i.2 ≤ 9223372036854775807) (x y : Int) (hx : 0 ≤ x ∧ x ≤ 9223372036854775807) (hy : 0 ≤ y ∧ y ≤ 9223372036854775807) (IB : Nat) (w : World) (hI : Blk w IB #[.int .u32 (i.1 : Nat), .int .i64 i.2] 25) (ht : Pow10 w) :
    Calls Tryd.prog 24 (#[.int .i64 x, .int .i64 y] ++ #[.pointer (some ⟨IB, 0, none⟩)]) w fun e w' => e = .returned (.int .i64 (cmpI (score i x) (score i y))) ∧ Below w.heap.size w w' := by
  have HX : Hid (∀ W, Below w.heap.size w W → Calls Tryd.prog 14 #[.int .i64 x, idV (i.1 : Nat) i.2] W fun e w' => e = .returned (.int .u32 (score i x : Nat)) ∧ Below W.heap.size W w') := fun W hb => score_any i hp hl x hx.1 hx.2 W (ht.below hb (Nat.le_refl _))
  have HY : Hid (∀ W, Below w.heap.size w W → Calls Tryd.prog 14 #[.int .i64 y, idV (i.1 : Nat) i.2] W fun e w' => e = .returned (.int .u32 (score i y : Nat)) ∧ Below W.heap.size W w') := fun W hb => score_any i hp hl y hy.1 hy.2 W (ht.below hb (Nat.le_refl _))
  have HC : Hid (∀ W, Below w.heap.size w W → W.cell? ⟨IB, 0, none⟩ = some (.int .u32 (i.1 : Nat)) ∧ W.cell? ⟨IB, 1, none⟩ = some (.int .i64 i.2)) := fun W hb => by
    have h := hI.below hb hI.lt
    exact ⟨h.cell (i := 0) rfl, h.cell (i := 1) rfl⟩
  obtain ⟨sx, hsx⟩ : ∃ s, score i x = s := ⟨_, rfl⟩
  obtain ⟨sy, hsy⟩ : ∃ s, score i y = s := ⟨_, rfl⟩
  rw [hsx] at HX ⊢
  rw [hsy] at HY ⊢
  obtain ⟨c0, c1⟩ := HC.out w (Below.refl _ _)
  clear hp hl hx hy hI ht hsx hsy
  simp only [List.append_toArray, List.cons_append, List.nil_append]
  go_enter Tryd.func24, Tryd.ntmps24
  go_wp2_with fail
  go_region_held3 (fun W => W.cell? ⟨IB, 0, none⟩ = some (.int .u32 (i.1 : Nat)) ∧ W.cell? ⟨IB, 1, none⟩ = some (.int .i64 i.2)) (first | exact HC.out _ HWN.out | go_keep) (first
    | (go_at_call 25; refine (compare_any _ _ _).mono ?_; rintro e wc ⟨rfl, rfl⟩)
    | (go_at_call 14; refine (HY.out wa HWN.out).mono ?_; rintro e wb ⟨rfl, hbb⟩; have HWB : Hid (Below w.heap.size w wb) := HWN.out.trans (hbb.mono HWN.out.size); have HWN := HWB; clear hbb)
    | (go_at_call 14; refine (HX.out _ (Below.refl _ w).drew).mono ?_; rintro e wa ⟨rfl, hba⟩; have HWN : Hid (Below w.heap.size w wa) := (Below.refl _ w).drew.trans hba; clear hba))
  go_wp2_with fail
  go_ret
  exact ⟨rfl, HWB.out⟩
set_option maxRecDepth 100000 in
set_option maxHeartbeats 4000000 in
theorem maxFunc_any (i : Nat × Int) (hp : i.1 < 4294967296) (hl : i.2 ≤ 9223372036854775807) (vl : Value) (l : List Int) (hn : Nodes l) (hne : l ≠ []) (IB : Nat) (w : World) (hv : IntsC w vl l) (hI : Blk w IB #[.int .u32 (i.1 : Nat), .int .i64 i.2] 25) (ht : Pow10 w) :
    Calls Tryd.prog 23 #[vl, .func (.func 24) #[] #[.pointer (some ⟨IB, 0, none⟩)]] w fun e w' => e = .returned (.int .i64 (bestOf (score i) l)) ∧ Below w.heap.size w w' := by
  have HCB : Hid (∀ x y W, x ∈ l → y ∈ l → Below w.heap.size w W → Calls Tryd.prog 24 (#[.int .i64 x, .int .i64 y] ++ #[.pointer (some ⟨IB, 0, none⟩)]) W fun e w' => e = .returned (.int .i64 (cmpI (score i x) (score i y))) ∧ Below W.heap.size W w') := fun x y W hx hy hb => by
    have h1 := hn.1 x hx
    have h2 := hn.1 y hy
    exact ownOf1_any i hp hl x y ⟨by omega, by omega⟩ ⟨by omega, by omega⟩ IB W (hI.below hb hI.lt) (ht.below hb (Nat.le_refl _))
  have HMEM : Hid (∀ k, 1 ≤ k → k ≤ l.length → bestOf (score i) (l.take k) ∈ l) := fun k h1 h2 => List.mem_of_mem_take (bestOf_is (score i) hn k h1 h2).1
  have HTK : Hid (∀ k (h : k < l.length), 1 ≤ k → bestOf (score i) (l.take (k + 1)) = pick1 (score i) (bestOf (score i) (l.take k)) l[k]) := fun k h h1 => bestOf_take (score i) l k h1 h
  have HONE : Hid (∀ h : 0 < l.length, bestOf (score i) (l.take 1) = l[0]) := fun h => by
    cases l with
    | nil => simp at h
    | cons x r => simp [bestOf]
  have HIN : Hid (∀ k (h : k < l.length), l[k] ∈ l) := fun k h => List.getElem_mem h
  have hlen := hn.length
  have hpos : 0 < l.length := List.length_pos_iff.2 hne
  obtain ⟨p, c, rfl, hcell⟩ := hv
  simp only [List.length_map, List.getElem_map] at hcell ⊢
  obtain ⟨b, o, rfl, ⟨hlt0, _⟩, hc0⟩ := hcell 0 hpos
  have HC : Hid (∀ W, Below w.heap.size w W → ∀ k (h : k < l.length), W.cell? ⟨b, o + k, none⟩ = some (.int .i64 l[k])) := fun W hb k h => by
    obtain ⟨b', o', hp, ⟨hlt, _⟩, hc⟩ := hcell k h
    obtain ⟨rfl, rfl⟩ : b = b' ∧ o = o' := by simpa using hp
    exact (hb.cell (p := ⟨b, o + k, none⟩) hlt).trans hc
  have hll : (l.length : Int) ≤ 6 := by omega
  have hll1 : ¬ (l.length : Int) < 1 := by omega
  have hpos' : (0 : Int) < (l.length : Int) := by omega
  have HPOS := hideN hpos
  rw [Nat.add_zero] at hc0
  obtain ⟨x0, hx0⟩ : ∃ x0, l[0]'hpos = x0 := ⟨_, rfl⟩
  have HON : Hid (bestOf (score i) (l.take 1) = x0) := by rw [← hx0]; exact HONE.out hpos
  rw [hx0] at hc0
  clear hx0 HONE
  clear hcell hn hne hI ht hp hl hlen hlt0
  go_enter Tryd.func23, Tryd.ntmps23
  go_wp2_with fail
  go_loopw [5, 6] (fun mv iv wr => ∃ k : Nat, 1 ≤ k ∧ k ≤ l.length ∧ iv = .int .i64 k ∧ mv = .int .i64 (bestOf (score i) (l.take k)) ∧ Hid (Below w.heap.size w wr)) (fun _ iv _ => l.length - (intOf iv).toNat)
  case atStart => exact ⟨1, Nat.le_refl _, HPOS.out, rfl, by rw [HON.out], Below.refl _ _⟩
  case round =>
    clear hc0 hpos
    obtain ⟨k, hk1, hk, rfl, rfl, HB⟩ := hrel
    by_cases hlt : k < l.length
    · have hlt' : (k : Int) < (l.length : Int) := by omega
      have hk0 : (0 : Int) ≤ (k : Int) := by omega
      have hck := HC.out wr HB.out k hlt
      have HCK := hideN (HCB.out l[k] (bestOf (score i) (l.take k)) wr (HIN.out k hlt) (HMEM.out k hk1 hk) HB.out)
      have HT := hideN (HTK.out k hlt hk1)
      obtain ⟨x, hx⟩ : ∃ x, l[k] = x := ⟨_, rfl⟩
      obtain ⟨m, hm⟩ : ∃ m, bestOf (score i) (l.take k) = m := ⟨_, rfl⟩
      rw [hx] at hck HCK HT
      rw [hm] at HCK HT ⊢
      have HKL : Hid (k < l.length) := hlt
      have HXE := hideN hx
      clear hx hm
      go_wp2_with fail
      refine HCK.out.mono ?_
      rintro e w2 ⟨rfl, hb2⟩
      have HB2 : Hid (Below w.heap.size w w2) := HB.out.trans (hb2.mono HB.out.size)
      have HC2 : Hid (w2.cell? ⟨b, o + k, none⟩ = some (.int .i64 x)) := by show _ = _; rw [← HXE.out]; exact HC.out w2 HB2.out k HKL.out
      clear hb2 hck
      unfold pick1 at HT
      unfold cmpI
      by_cases hs : score i m < score i x
      · rw [if_pos hs] at HT
        rw [if_neg (show ¬ score i x < score i m by omega), if_pos hs]
        have hc2 := HC2.out
        clear hs
        go_wp2_with fail
        go_roundw
        case rel => exact ⟨k + 1, by omega, HKL.out, by go_num, by rw [HT.out], HB2.out⟩
        case measure => simp [intOf]; omega
      · rw [if_neg hs] at HT
        obtain ⟨cv, hcv, hcv2⟩ : ∃ cv : Int, (if score i x < score i m then -1 else if score i m < score i x then 1 else 0) = cv ∧ ¬ 0 < cv := by
          rw [if_neg hs]
          split
          · exact ⟨_, rfl, by omega⟩
          · exact ⟨_, rfl, by omega⟩
        rw [hcv]
        clear hs hcv
        go_wp2_with fail
        go_roundw
        case rel => exact ⟨k + 1, by omega, HKL.out, by go_num, by rw [HT.out], HB2.out⟩
        case measure => simp [intOf]; omega
    · have hge : (l.length : Int) ≤ (k : Int) := by omega
      rw [List.take_of_length_le (show l.length ≤ k by omega)]
      go_wp2_with fail
      go_ret
      exact ⟨rfl, HB.out⟩
set_option maxRecDepth 100000 in
set_option maxHeartbeats 4000000 in
theorem ownOf_bad (a : Nat → Addr) (i : Nat × Int) (vl : Value) (l : List Int) (w : World) (hlen : l.length ≤ 1000) (hb : (checkAns' l).1 ≠ 0) (hv : IntsC w vl l) (hE : ErrE [1, 4, 7] w a) :
    Calls Tryd.prog 7 #[vl, idV (i.1 : Nat) i.2] w fun e w' => ∃ ev, e = .returned (.tuple #[.int .i64 0, ev]) ∧ ErrIn w.heap.size w' a ev (checkAns' l) ∧ Below w.heap.size w w' := by
  have hal := (Below.refl w.heap.size w).alloc (Nat.le_refl _) (.cells #[.int .u32 (i.1 : Nat), .int .i64 i.2] 25)
  have HF := hideN (ownCheck_any a vl l (w.alloc (.cells #[.int .u32 (i.1 : Nat), .int .i64 i.2] 25)) hlen (hv.below hal) (hE.below hal (Nat.le_refl _)))
  have HAL := hideN hal
  obtain ⟨c, hc⟩ : ∃ c, checkAns' l = c := ⟨_, rfl⟩
  rw [hc] at HF hb ⊢
  have HBD := hideN hb
  clear hal hv hE hc hb
  go_enter Tryd.func7, Tryd.ntmps7
  go_wp2_with fail
  refine HF.out.mono ?_
  rintro e w1 ⟨ev, rfl, hev, hb⟩
  have HEV : Hid (ErrIn w.heap.size w1 a ev c) := by
    rcases hev with h | h | ⟨k, pb, po, at0, h1, h2, h3⟩
    · exact .inl h
    · exact .inr (.inl h)
    · exact .inr (.inr ⟨k, pb, po, at0, h1, Nat.le_trans HAL.out.size h2, h3⟩)
  have HB : Hid (Below w.heap.size w w1) := HAL.out.trans (hb.mono HAL.out.size)
  have hif : ∃ T A, ev = .iface T A := by
    rcases hev with ⟨_, h⟩ | ⟨k, _, h, _⟩ | ⟨k, pb, po, at0, _, _, h, _⟩
    · exact absurd (congrArg Prod.fst h) HBD.out
    · exact ⟨_, _, h⟩
    · exact ⟨_, _, h⟩
  obtain ⟨T, A, rfl⟩ := hif
  clear hev hb HF
  go_wp2_with fail
  go_ret2
  exact ⟨_, rfl, HEV.out, HB.out⟩
/- What owner.Of answers, and its error. -/
def ownAns (i : Nat × Int) (l : List Int) : Int × (Int × Int) := if (checkAns' l).1 ≠ 0 then (0, checkAns' l) else if i.2 < 0 then (0, (3, -1)) else (bestOf (score i) l, (0, -1))
set_option maxRecDepth 100000 in
set_option maxHeartbeats 4000000 in
theorem ownOf_any (a : Nat → Addr) (i : Nat × Int) (hp : i.1 < 4294967296) (hl : i.2 ≤ 9223372036854775807) (vl : Value) (l : List Int) (w : World) (hlen : l.length ≤ 1000) (hv : IntsC w vl l) (hE : ErrE [1, 2, 4, 7] w a) (ht : Pow10 w) :
    Calls Tryd.prog 7 #[vl, idV (i.1 : Nat) i.2] w fun e w' => ∃ ev, e = .returned (.tuple #[.int .i64 (ownAns i l).1, ev]) ∧ ErrIn w.heap.size w' a ev (ownAns i l).2 ∧ Below w.heap.size w w' := by
  by_cases hbad : (checkAns' l).1 ≠ 0
  · have e : ownAns i l = (0, checkAns' l) := by unfold ownAns; rw [if_pos hbad]
    rw [e]
    exact ownOf_bad a i vl l w hlen hbad hv (hE.sub (by decide))
  have hc0 : checkAns' l = (0, (checkAns' l).2) := Prod.ext (Classical.not_not.1 hbad) rfl
  obtain ⟨hn, hne⟩ := checkAns_of hc0
  have hc1 := checkAns_ok hn hne
  have hal := (Below.refl w.heap.size w).alloc (Nat.le_refl _) (.cells #[.int .u32 (i.1 : Nat), .int .i64 i.2] 25)
  have HF := hideN (ownCheck_any a vl l (w.alloc (.cells #[.int .u32 (i.1 : Nat), .int .i64 i.2] 25)) hlen (hv.below hal) ((hE.sub (M := [1, 4, 7]) (by decide)).below hal (Nat.le_refl _)))
  rw [hc1] at HF
  have HAL := hideN hal
  have HBX := hideN (Blk.new w #[.int .u32 (i.1 : Nat), .int .i64 i.2] 25)
  have HG : Hid (∀ W, Below w.heap.size w W → W.cell? ⟨errG 2, 0, none⟩ = some (sentV a 2)) := fun W hb => (hE.below hb (Nat.le_refl _)).glob 2 (by decide)
  have HM : Hid (∀ W, Below (w.heap.size + 1) (w.alloc (.cells #[.int .u32 (i.1 : Nat), .int .i64 i.2] 25)) W → Calls Tryd.prog 23 #[vl, .func (.func 24) #[] #[.pointer (some ⟨w.heap.size, 0, none⟩)]] W fun e w' => e = .returned (.int .i64 (bestOf (score i) l)) ∧ Below W.heap.size W w') := fun W hb => by
    have hb2 : Below w.heap.size w W := hal.trans (hb.mono (Nat.le_succ _))
    exact maxFunc_any i hp hl vl l hn hne w.heap.size W (hv.below hb2) (HBX.out.below hb (Nat.lt_succ_self _)) (ht.below hb2 (Nat.le_refl _))
  have hans : ownAns i l = if i.2 < 0 then (0, (3, -1)) else (bestOf (score i) l, (0, -1)) := by
    unfold ownAns
    rw [hc1, if_neg (by simp)]
  obtain ⟨B, hB⟩ : ∃ B, bestOf (score i) l = B := ⟨_, rfl⟩
  rw [hB] at HM hans
  have HANS := hideN hans
  obtain ⟨RES, hRES⟩ : ∃ R, ownAns i l = R := ⟨_, rfl⟩
  rw [hRES] at HANS ⊢
  clear hal hv hE ht hn hne hc1 hc0 hbad hB hans hRES hp
  go_enter Tryd.func7, Tryd.ntmps7
  go_wp2_with fail
  refine HF.out.mono ?_
  rintro e w1 ⟨ev, rfl, hev, hb⟩
  obtain rfl := hev.nil
  have HB1 : Hid (Below (w.heap.size + 1) (w.alloc (.cells #[.int .u32 (i.1 : Nat), .int .i64 i.2] 25)) w1) := hideN (hb.mono (by simp))
  have HB : Hid (Below w.heap.size w w1) := HAL.out.trans (HB1.out.mono (Nat.le_succ _))
  have HX1 := hideN (HBX.out.below HB1.out (Nat.lt_succ_self _))
  have x1 := HX1.out.cell (i := 1) rfl
  have g2 := HG.out w1 HB.out
  dsimp only [errG] at g2
  clear hev hb HF
  by_cases hneg : i.2 < 0
  · have HR : Hid (RES = (0, (3, -1))) := by show _ = _; rw [HANS.out, if_pos hneg]
    clear HANS
    go_wp2_with fail
    try (go_quiet (fail); go_wp2_with fail)
    go_ret2
    refine ⟨sentV a 2, by rw [HR.out]; rfl, ?_, ?_⟩
    · rw [HR.out]; exact .inr (.inl ⟨2, by decide, rfl, rfl⟩)
    · first | exact HB.out | exact HB.out.trans ((below_drew_n _ _).mono HB.out.size)
  · have HR : Hid (RES = (B, (0, -1))) := by show _ = _; rw [HANS.out, if_neg hneg]
    have HMM := hideN (HM.out w1 HB1.out)
    clear HANS HM g2
    go_wp2_with fail
    refine HMM.out.mono ?_
    rintro e w2 ⟨rfl, hb2⟩
    have HB2 : Hid (Below w.heap.size w w2) := HB.out.trans (hb2.mono HB.out.size)
    clear hb2
    go_wp2_with fail
    go_ret2
    exact ⟨.nilIface, by rw [HR.out]; rfl, by rw [HR.out]; exact .inl ⟨rfl, rfl⟩, HB2.out⟩
end Go.Proofs.YtcbcjefefmbccabDoor
