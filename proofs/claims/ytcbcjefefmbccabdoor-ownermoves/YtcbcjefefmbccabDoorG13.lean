/-
  Own text. The closed example of chapter 8 by a contract; InInts.
-/
import Derived.Test.YtcbcjefefmbccabDoorG12
namespace Go.Proofs.YtcbcjefefmbccabDoor
open Go.RowKit

set_option maxHeartbeats 2000000 in
theorem inInts_any (n : Int) (v : Value) (l : List Int) (w : World) (hlen : l.length ≤ 1000) (hv : IntsC w v l) :
    Calls Tryd.prog 8 #[.int .i64 n, v] w fun e w' => e = .returned (.bool (decide (n ∈ l))) ∧ w' = w := by
  obtain ⟨p, c, rfl, hcell⟩ := hv
  simp only [List.length_map, List.getElem_map] at hcell ⊢
  have hll : (l.length : Int) ≤ 1000 := by omega
  have HC := hideN hcell
  clear hcell hlen
  go_enter Tryd.func8, Tryd.ntmps8
  go_wp2_with fail
  go_loopw [5] (fun iv wr => ∃ k : Nat, k ≤ l.length ∧ iv = .int .i64 k ∧ Hid (∀ j (h : j < l.length), j < k → l[j] ≠ n) ∧ w = wr) (fun iv _ => l.length - (intOf iv).toNat)
  case atStart => exact ⟨0, Nat.zero_le _, rfl, fun j _ h => by omega, rfl⟩
  case round =>
    obtain ⟨k, hk, rfl, HN, rfl⟩ := hrel
    by_cases hlt : k < l.length
    · have hlt' : (k : Int) < (l.length : Int) := by omega
      have hk0 : (0 : Int) ≤ (k : Int) := by omega
      obtain ⟨b, o, rfl, _, hck⟩ := HC.out k hlt
      by_cases hx : l[k]'hlt = n
      · have hm : decide (n ∈ l) = true := decide_eq_true (hx ▸ List.getElem_mem hlt)
        have HM := hideN hm
        rw [hx] at hck
        have hnn : (n == n) = true := by simp
        clear hm hx hlt
        go_wp2_with fail
        go_ret
        have h := HM.out
        exact ⟨by first | (rw [h]; done) | (rw [decide_eq_true h]; done) | simp [h], rfl⟩
      · have HX := hideN hx
        obtain ⟨x, hxx⟩ : ∃ x, l[k]'hlt = x := ⟨_, rfl⟩
        rw [hxx] at hck hx
        have hxe : (x == n) = false := beq_eq_false_iff_ne.2 hx
        have HKL := hideN hlt
        clear hxx hx
        go_wp2_with fail
        go_roundw
        case rel => exact ⟨k + 1, HKL.out, by go_num, (fun j hj h => by
          by_cases e : j = k
          · subst e; exact HX.out
          · exact HN.out j hj (by omega) : ∀ j (h : j < l.length), j < k + 1 → l[j] ≠ n), trivial⟩
        case measure => simp [intOf]; omega
    · have hge : (l.length : Int) ≤ (k : Int) := by omega
      have hm : decide (n ∈ l) = false := decide_eq_false fun h => by
        obtain ⟨j, hj, e⟩ := List.mem_iff_getElem.1 h
        exact HN.out j hj (by omega) e
      have HM := hideN hm
      clear hm hlt
      go_wp2_with fail
      go_ret
      have h := HM.out
      exact ⟨by first | (rw [h]; done) | (rw [decide_eq_false h]; done) | simp [h], rfl⟩
theorem nodes3 : Nodes [3] := ⟨fun x hx => by simp at hx; subst hx; decide, fun i j hi hj h => by simp at hi hj; omega⟩
theorem own3 (i : Nat × Int) (h : ¬ i.2 < 0) : ownAns i [3] = (3, (0, -1)) := by
  unfold ownAns
  rw [checkAns_ok nodes3 (by simp), if_neg (by simp), if_neg h]
  rfl
theorem join3 : joinAns [3] 1 = ([1, 3], (0, -1)) := by
  unfold joinAns
  rw [checkAns_ok nodes3 (by simp), if_neg (by simp), if_neg (by decide), if_neg (by decide)]
  rfl
set_option maxRecDepth 100000 in
set_option maxHeartbeats 4000000 in
theorem owned_any (a : Nat → Addr) (w : World) (hE : ErrE [1, 2, 4, 5, 7] w a) (ht : Pow10 w) :
    Calls Tryd.prog 5 #[] w fun e w' => e = .returned (.bool true) ∧ Below w.heap.size w w' := by
  have HEE := hideN hE
  have HT := hideN ht
  have hal := (Below.refl w.heap.size w).alloc (Nat.le_refl _) (.cells #[.int .i64 3] 3)
  have HAL := hideN hal
  have H3 := hideN (IntsS.one w 3 3)
  have hsz : (⟨#[97]⟩ : ByteArray).size ≤ maxLen := by unfold maxLen; decide
  have HSZ := hideN hsz
  clear hE ht hal hsz
  go_enter Tryd.func5, Tryd.ntmps5
  go_wp2_with fail
  refine (idOf_any _ _ HSZ.out).mono ?_
  rintro e w1 ⟨rfl, hb1⟩
  have HB1 : Hid (Below w.heap.size w w1) := HAL.out.trans (hb1.mono HAL.out.size)
  have H31 := hideN (H3.out.below hb1)
  have HP := hideN (pmore_lt 2166136261 (by decide) (⟨#[97]⟩ : ByteArray).data.toList)
  obtain ⟨P, hP⟩ : ∃ P, pmore 2166136261 (⟨#[97]⟩ : ByteArray).data.toList = P := ⟨_, rfl⟩
  have hs1 : (⟨#[97]⟩ : ByteArray).size = 1 := rfl
  rw [hP] at HP
  rw [hP, hs1]
  have HOF := hideN (ownOf_any a (P, 1) HP.out (show (1 : Int) ≤ 9223372036854775807 by decide) _ [3] w1 (by decide) H31.out.c ((HEE.out.sub (M := [1, 2, 4, 7]) (by decide)).below HB1.out (Nat.le_refl _)) (HT.out.below HB1.out (Nat.le_refl _)))
  rw [own3 _ (show ¬ (1 : Int) < 0 by decide)] at HOF
  clear hb1 hP hs1 H3
  go_wp2_with fail
  refine HOF.out.mono ?_
  rintro e w2 ⟨ev, rfl, hev, hb2⟩
  obtain rfl := hev.nil
  have HB2 : Hid (Below w.heap.size w w2) := HB1.out.trans (hb2.mono HB1.out.size)
  have hal2 := (Below.refl w2.heap.size w2).alloc (Nat.le_refl _) (.cells #[.int .i64 3] 3)
  have HB3 : Hid (Below w.heap.size w (w2.alloc (.cells #[.int .i64 3] 3))) := HB2.out.trans (hal2.mono HB2.out.size)
  have HJ := hideN (ownJoin_any a _ [3] 1 _ (by decide) (IntsS.one w2 3 3) ((HEE.out.sub (M := [1, 4, 5, 7]) (by decide)).below HB3.out (Nat.le_refl _)))
  rw [join3] at HJ
  unfold JoinPost at HJ
  clear hev hb2 HOF H31 HB1 hal2
  go_wp2_with fail
  refine HJ.out.mono ?_
  rintro e w4 ⟨v, ev, rfl, hev, hv, hb4⟩
  obtain rfl := hev.nil
  have HB4 : Hid (Below w.heap.size w w4) := HB3.out.trans (hb4.mono HB3.out.size)
  have HV4 := hideN hv
  obtain ⟨p, c, rfl⟩ := hv.shape
  clear hev hb4 HJ HB3 HB2 hv
  have HAL4 : Hid (∀ t, Below w.heap.size w (w4.alloc (.cells #[.int .i64 1, .int .i64 3] t))) := fun t => HB4.out.alloc HB4.out.size _
  have HS : Hid (∀ t, Calls Tryd.prog 11 #[.slice p [(1 : Int), 3].length c, .slice (some ⟨w4.heap.size, 0, none⟩) 2 2] (w4.alloc (.cells #[.int .i64 1, .int .i64 3] t)) fun e w' => e = .returned (.bool true) ∧ Below (w4.alloc (.cells #[.int .i64 1, .int .i64 3] t)).heap.size (w4.alloc (.cells #[.int .i64 1, .int .i64 3] t)) w') := fun t =>
    sameIntsC _ _ [1, 3] _ (by decide) (HV4.out.below ((Below.refl _ _).alloc (Nat.le_refl _) _)).c ⟨some ⟨w4.heap.size, 0, none⟩, 2, rfl, fun i hi => ⟨w4.heap.size, 0, rfl, ⟨by simp, by decide⟩, by
      have hi2 : i < 2 := by simpa using hi
      match i, hi2 with
      | 0, _ => exact new_cell _ _ _ rfl rfl
      | 1, _ => exact new_cell _ _ _ rfl rfl⟩⟩
  have hl2 : [(1 : Int), 3].length = 2 := rfl
  rw [hl2] at HS
  rw [hl2]
  clear hl2
  go_wp2_with fail
  refine (HS.out _).mono ?_
  rintro e w5 ⟨rfl, hb5⟩
  have HB5 : Hid (Below w.heap.size w w5) := (HAL4.out _).trans (hb5.mono (HAL4.out _).size)
  clear hb5
  go_wp2_with fail
  go_ret
  exact ⟨rfl, HB5.out⟩
end Go.Proofs.YtcbcjefefmbccabDoor
