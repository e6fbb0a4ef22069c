/-
  Own text. owner.cutAt, Join, Leave by contracts.
  Own text. Sums and IDs by contracts: print.More, Of, ID, Less and the document's PrintFrom, PrintOf, IDOf, IsLess.
-/
import Derived.Test.YtcbcjefefmbccabDoorG07
import Derived.Test.YtcbcjefefmbccabDoorChecked
import Derived.Test.YtcbcjefefmbccabDoorG04
import Derived.WalkKit
import Derived.WalkSpells
import Derived.WalkLawsBesides
import Derived.Outline
import Derived.Laws.BitsAllLaws
import Derived.Deep.QuietTactic
import Derived.BigQuiet
namespace Go.Proofs.YtcbcjefefmbccabDoor
open Go.RowKit

theorem mem_place {l : List Int} {n : Int} (hn : Nodes l) : n ∈ l ↔ ∃ h : nPlace l n < l.length, l[nPlace l n] = n := by
  constructor
  · exact fun h => nPlace_mem hn h
  · rintro ⟨h, e⟩
    rw [← e]
    exact List.getElem_mem h
def behindOf (l : List Int) (n : Int) : List Int := if n ∈ l then l.drop (nPlace l n + 1) else l.drop (nPlace l n)
set_option maxRecDepth 100000 in
set_option maxHeartbeats 4000000 in
theorem cutAt_any (vl : Value) (l : List Int) (n : Int) (w : World) (hn : Nodes l) (hv : IntsS w vl l) :
    Calls Tryd.prog 26 #[vl, .int .i64 n] w fun e w' => ∃ v1 v2, e = .returned (.tuple #[v1, v2, .bool (decide (n ∈ l))]) ∧ IntsS w' v1 (l.take (nPlace l n)) ∧ IntsS w' v2 (behindOf l n) ∧ Below w.heap.size w w' := by
  have hal1 := (Below.refl w.heap.size w).alloc (Nat.le_refl _) (.cells #[vl] 22)
  have hb1 := Blk.new w #[vl] 22
  have hal2 := hal1.alloc hal1.size (.cells #[.int .i64 n] 3)
  have hb2 := Blk.new (w.alloc (.cells #[vl] 22)) #[.int .i64 n] 3
  have hb1' := hb1.next ((Below.refl _ _).alloc (Nat.le_refl _) (.cells #[.int .i64 n] 3))
  have hs1 : (w.alloc (.cells #[vl] 22)).heap.size = w.heap.size + 1 := by simp
  rw [hs1] at hb2
  have HSE := hideN (search_any w.heap.size (w.heap.size + 1) vl l n _ hn (hv.below hal2).c hb1' hb2)
  have HAL := hideN hal2
  have HL := hideN hb1'
  have HN := hideN hb2
  have hple := nPlace_le l n
  have HMEM := hideN (mem_place (n := n) hn)
  have HV0 := hideN hv
  have hlen := hn.length
  clear hal1 hb1 hal2 hb2 hb1' hs1 hn
  rcases hv with ⟨rfl, rfl⟩ | ⟨b, o, c, rfl, hc, hlt, hcell⟩
  · have hP : nPlace ([] : List Int) n = 0 := rfl
    rw [hP] at HSE HMEM ⊢
    have hnm : decide (n ∈ ([] : List Int)) = false := by simp
    rw [hnm]
    have hbo : behindOf [] n = [] := by unfold behindOf; simp
    rw [hbo]
    clear hnm hbo HMEM hP hple hlen
    have hs5 := slI_none_upto
    have hs4 := slI_none_from
    go_enter Tryd.func26, Tryd.ntmps26
    go_wp2_with fail
    refine HSE.out.mono ?_
    rintro e W1 ⟨rfl, hbw⟩
    have HB1 : Hid (Below w.heap.size w W1) := HAL.out.trans (hbw.mono HAL.out.size)
    have HL1 := hideN (HL.out.next hbw)
    have HN1 := hideN (HN.out.next hbw)
    have e0 := HL1.out.cell (i := 0) rfl
    have n0 := HN1.out.cell (i := 0) rfl
    clear hbw HSE HL HN
    go_wp2_with fail
    go_quiet (fail)
    have HB2 : Hid (Below w.heap.size w (W1.drewN nq)) := HB1.out.trans ((below_drew_n W1 nq).mono HB1.out.size)
    clear e0 n0
    have e0 : (W1.drewN nq).cell? ⟨w.heap.size, 0, none⟩ = some (.slice none 0 0) := (HL1.out.next (below_drew_n W1 nq)).cell (i := 0) rfl
    have n0 : (W1.drewN nq).cell? ⟨w.heap.size + 1, 0, none⟩ = some (.int .i64 n) := (HN1.out.next (below_drew_n W1 nq)).cell (i := 0) rfl
    generalize W1.drewN nq = W2 at *
    go_wp2_with fail
    go_quiet (fail)
    have HB3 : Hid (Below w.heap.size w (W2.drewN nq)) := HB2.out.trans ((below_drew_n W2 nq).mono HB2.out.size)
    go_wp2_with fail
    exact bodyPost_ret (v := .tuple #[.slice none 0 0, .slice none 0 0, .bool false]) (by simp [results, Tryd.results26, go_sem]) rfl ⟨_, _, rfl, .inl ⟨rfl, rfl⟩, .inl ⟨rfl, rfl⟩, HB3.out⟩
  · obtain ⟨P, hP⟩ : ∃ P, nPlace l n = P := ⟨_, rfl⟩
    have hbo : behindOf l n = if n ∈ l then l.drop (P + 1) else l.drop P := by unfold behindOf; rw [hP]
    rw [hP] at HSE hple ⊢
    obtain ⟨o4, c4, hsl4, hc4, ho4⟩ := slI_from b o l.length c P hple hc P rfl
    have hsl5 := slI_upto b o l.length c P hple hc
    have HMP : Hid (n ∈ l ↔ ∃ h : P < l.length, l[P] = n) := by
      have := HMEM.out
      subst hP
      exact this
    have HCELL : Hid (∀ W, Below w.heap.size w W → ∀ i (h : i < l.length), W.cell? ⟨b, o + i, none⟩ = some (.int .i64 l[i])) := fun W hb i hi => (hb.cell (p := ⟨b, o + i, none⟩) hlt).trans (hcell i hi)
    have HLT := hideN hlt
    have HCC := hideN hc
    have HPLE := hideN hple
    have HO4 := hideN ho4
    have HC4 := hideN hc4
    have HBO := hideN hbo
    have HTAKE : Hid (∀ W, Below w.heap.size w W → IntsS W (.slice (some ⟨b, o, none⟩) P c) (l.take P)) := fun W hb => .inr ⟨b, o, c, by rw [List.length_take, Nat.min_eq_left hple], by rw [List.length_take]; omega, Nat.lt_of_lt_of_le hlt hb.size, fun i hi => by rw [List.length_take] at hi; rw [List.getElem_take]; exact HCELL.out W hb i (by omega)⟩
    have HDROP : Hid (∀ W, Below w.heap.size w W → IntsS W (.slice (some ⟨b, o4, none⟩) (l.length - P) c4) (l.drop P)) := fun W hb => .inr ⟨b, o4, c4, by rw [List.length_drop], by rw [List.length_drop]; exact hc4, Nat.lt_of_lt_of_le hlt hb.size, fun i hi => by rw [List.length_drop] at hi; rw [List.getElem_drop, ho4 (by omega), Nat.add_assoc]; exact HCELL.out W hb (P + i) (by omega)⟩
    have hll : (l.length : Int) ≤ 6 := by omega
    have hPi : (P : Int) ≤ 6 := by omega
    clear HMEM hcell hlt hc hple ho4 hc4 hbo hP hlen
    go_enter Tryd.func26, Tryd.ntmps26
    go_wp2_with fail
    refine HSE.out.mono ?_
    rintro e W1 ⟨rfl, hbw⟩
    have HB1 : Hid (Below w.heap.size w W1) := HAL.out.trans (hbw.mono HAL.out.size)
    have HL1 := hideN (HL.out.next hbw)
    have HN1 := hideN (HN.out.next hbw)
    have e0 := HL1.out.cell (i := 0) rfl
    have n0 := HN1.out.cell (i := 0) rfl
    clear hbw HSE HL HN
    go_wp2_with fail
    go_quiet (fail)
    have HB2 : Hid (Below w.heap.size w (W1.drewN nq)) := HB1.out.trans ((below_drew_n W1 nq).mono HB1.out.size)
    clear e0 n0 hsl4 hsl5
    have n0 : (W1.drewN nq).cell? ⟨w.heap.size + 1, 0, none⟩ = some (.int .i64 n) := (HN1.out.next (below_drew_n W1 nq)).cell (i := 0) rfl
    generalize W1.drewN nq = W2 at *
    by_cases hd : P < l.length
    · have hcx := HCELL.out W2 HB2.out P hd
      rw [← HO4.out hd] at hcx
      have HMX : Hid (n ∈ l ↔ l[P] = n) := ⟨fun h => (HMP.out.1 h).2, fun h => HMP.out.2 ⟨hd, h⟩⟩
      have HO4E := hideN (HO4.out hd)
      obtain ⟨x, hx⟩ : ∃ x, l[P] = x := ⟨_, rfl⟩
      rw [hx] at hcx HMX
      obtain ⟨D, hD⟩ : ∃ D, l.length - P = D := ⟨_, rfl⟩
      have hD0 : 0 < D := by omega
      have hD0' : (0 : Int) < (D : Int) := by omega
      have HDE := hideN hD
      rw [hD] at HDROP HC4 ⊢
      clear hx hD hd
      by_cases hxn : x = n
      · have hxe : (x == n) = true := beq_iff_eq.2 hxn
        have HIN : Hid (n ∈ l) := HMX.out.2 hxn
        have hdec : decide (n ∈ l) = true := decide_eq_true HIN.out
        have HDEC := hideN hdec
        obtain ⟨o5, c5, hsl6, hc5, ho5⟩ := slI_from b o4 D c4 1 (by omega) HC4.out 1 rfl
        have HO5 := hideN ho5
        have HC5 := hideN hc5
        clear hdec HMX ho5 hc5 hxn
        go_wp2_with fail
        go_quiet (fail)
        have HB3 : Hid (Below w.heap.size w (W2.drewN nq)) := HB2.out.trans ((below_drew_n W2 nq).mono HB2.out.size)
        clear hcx n0
        generalize W2.drewN nq = W3 at *
        go_wp2_with fail
        go_quiet (fail)
        have HB4 : Hid (Below w.heap.size w (W3.drewN nq)) := HB3.out.trans ((below_drew_n W3 nq).mono HB3.out.size)
        go_wp2_with fail
        refine bodyPost_ret (v := .tuple #[.slice (some ⟨b, o, none⟩) P c, .slice (some ⟨b, o5, none⟩) (D - 1) c5, .bool true]) (by simp [results, Tryd.results26, go_sem]) rfl ⟨_, _, by rw [HDEC.out], HTAKE.out _ HB4.out, ?_, HB4.out⟩
        rw [HBO.out, if_pos HIN.out]
        have hDE := HDE.out
        refine .inr ⟨b, o5, c5, by rw [List.length_drop, ← hDE, Nat.sub_sub], by rw [List.length_drop]; have := HC5.out; omega, Nat.lt_of_lt_of_le HLT.out HB4.out.size, fun i hi => ?_⟩
        rw [List.length_drop] at hi
        rw [List.getElem_drop, HO5.out (by omega), HO4E.out, show o + P + 1 + i = o + (P + 1 + i) by omega]
        exact HCELL.out _ HB4.out (P + 1 + i) (by omega)
      · have hxe : (x == n) = false := beq_eq_false_iff_ne.2 hxn
        have HIN : Hid (n ∉ l) := fun h => hxn (HMX.out.1 h)
        have hdec : decide (n ∈ l) = false := decide_eq_false HIN.out
        have HDEC := hideN hdec
        clear hdec HMX hxn
        go_wp2_with fail
        go_quiet (fail)
        have HB3 : Hid (Below w.heap.size w (W2.drewN nq)) := HB2.out.trans ((below_drew_n W2 nq).mono HB2.out.size)
        go_wp2_with fail
        refine bodyPost_ret (v := .tuple #[.slice (some ⟨b, o, none⟩) P c, .slice (some ⟨b, o4, none⟩) D c4, .bool false]) (by simp [results, Tryd.results26, go_sem]) rfl ⟨_, _, by rw [HDEC.out], HTAKE.out _ HB3.out, ?_, HB3.out⟩
        rw [HBO.out, if_neg HIN.out]
        exact HDROP.out _ HB3.out
    · have HIN : Hid (n ∉ l) := fun h => hd (HMP.out.1 h).1
      have hdec : decide (n ∈ l) = false := decide_eq_false HIN.out
      have HDEC := hideN hdec
      have hD : l.length - P = 0 := by omega
      rw [hD] at HDROP ⊢
      clear hdec hd hD
      go_wp2_with fail
      go_quiet (fail)
      have HB3 : Hid (Below w.heap.size w (W2.drewN nq)) := HB2.out.trans ((below_drew_n W2 nq).mono HB2.out.size)
      go_wp2_with fail
      refine bodyPost_ret (v := .tuple #[.slice (some ⟨b, o, none⟩) P c, .slice (some ⟨b, o4, none⟩) 0 c4, .bool false]) (by simp [results, Tryd.results26, go_sem]) rfl ⟨_, _, by rw [HDEC.out], HTAKE.out _ HB3.out, ?_, HB3.out⟩
      rw [HBO.out, if_neg HIN.out]
      exact HDROP.out _ HB3.out
end Go.Proofs.YtcbcjefefmbccabDoor
namespace Go.Proofs.YtcbcjefefmbccabDoor
open Go.RowKit

theorem take_snoc (s : ByteArray) (k : Nat) (h : k < s.size) : s.data.toList.take (k + 1) = s.data.toList.take k ++ [s[k]] := by
  rw [List.take_succ_eq_append_getElem (by simpa using h)]; rfl
theorem ret_int {k : IntKind} {a b : Int} (h : a = b) : Ending.returned (.int k a) = .returned (.int k b) := by rw [h]
theorem val_int {k : IntKind} {a b : Int} (h : a = b) : Value.int k a = .int k b := by rw [h]

/- One step as the walk writes it. -/
theorem step_walk (n : Nat) (c : UInt8) (hn : n < 4294967296) : bits .xor .u32 (n : Int) ((c.toNat : Int) % 4294967296) * 16777619 % 4294967296 = ((pstep n c : Nat) : Int) := by
  have hc := byte_lt32 c
  rw [show ((c.toNat : Int) % 4294967296) = ((c.toNat : Nat) : Int) by omega, u32_xor_nat n c.toNat hn hc]
  unfold pstep
  rw [Int.natCast_emod, Int.natCast_mul]
  rfl

theorem i64_xor_nat (a b : Nat) (ha : a < 4294967296) (hb : b < 4294967296) : bits .xor .i64 (a : Int) (b : Int) = ((a ^^^ b : Nat) : Int) := by
  have hx := xor_lt32 ha hb
  have e64 : IntKind.i64.bits = 64 := rfl
  have p64 : (2 : Nat) ^ 64 = 18446744073709551616 := by decide
  have ha' : a % 2 ^ IntKind.i64.bits = a := Nat.mod_eq_of_lt (by rw [e64, p64]; omega)
  have hb' : b % 2 ^ IntKind.i64.bits = b := Nat.mod_eq_of_lt (by rw [e64, p64]; omega)
  simp only [bits, BitVec.ofInt_natCast, BitVec.toNat_xor, BitVec.toNat_ofNat, ha', hb']
  rw [IntKind.wrap_i64]
  omega
theorem step_walk64 (n : Nat) (c : UInt8) (hn : n < 4294967296) : (wrap64 (bits .xor .i64 (n : Int) (wrap64 (c.toNat : Int)) * 16777619)).tmod 4294967296 = ((pstep n c : Nat) : Int) := by
  have hc := byte_lt32 c
  have hx := xor_lt32 hn hc
  rw [IntWalk.wrap64_in (c.toNat : Int) (by omega), i64_xor_nat n c.toNat hn hc, IntWalk.wrap64_in _ (by omega)]
  unfold pstep
  rw [Int.tmod_eq_emod_of_nonneg (by omega), Int.natCast_emod, Int.natCast_mul]
  rfl

theorem more_any (n : Nat) (hn : n < 4294967296) (s : ByteArray) (w : World) (hs : s.size ≤ maxLen) :
    Calls Tryd.prog 44 #[.int .u32 n, .string s] w fun e w' => e = .returned (.int .u32 (pmore n s.data.toList : Nat)) ∧ w' = w := by
  unfold maxLen at hs
  go_enter Tryd.func44, Tryd.ntmps44
  go_wp2
  go_loop [0, 8] (fun q i => ∃ k : Nat, k ≤ s.size ∧ i = .int .i64 k ∧ q = .int .u32 (pmore n (s.data.toList.take k) : Nat)) (fun _ i => s.size - (intOf i).toNat)
  case atStart => exact ⟨0, Nat.zero_le _, rfl, by simp [pmore_nil]⟩
  case round =>
    obtain ⟨k, hk, rfl, rfl⟩ := hrel
    by_cases hlt : k < s.size
    · have hst := step_walk (pmore n (s.data.toList.take k)) s[k] (pmore_lt n hn _)
      rw [← pmore_snoc, ← take_snoc s k hlt] at hst
      have HS := hst
      clear hst
      generalize pmore n (s.data.toList.take k) = m at *
      have HS' : Hid (bits .xor .u32 (m : Int) ((s[k].toNat : Int) % 4294967296) * 16777619 % 4294967296 = ((pmore n (s.data.toList.take (k + 1)) : Nat) : Int)) := HS
      clear HS
      go_wp2
      go_round
      case rel => exact ⟨k + 1, by omega, by go_num, by rw [HS'.out]⟩
      case measure => simp [intOf]; omega
    · go_wp2
      go_ret
      exact ⟨ret_int (by rw [List.take_of_length_le (by simp; omega)]), rfl⟩
theorem of_any (s : ByteArray) (w : World) (hs : s.size ≤ maxLen) :
    Calls Tryd.prog 31 #[.string s] w fun e w' => e = .returned (.int .u32 (pmore 2166136261 s.data.toList : Nat)) ∧ w' = w := by
  go_enter Tryd.func31, Tryd.ntmps31
  go_wp2_with fail
  refine (more_any 2166136261 (by decide) s _ hs).mono ?_
  rintro e w' ⟨rfl, rfl⟩
  go_wp2_with fail
  go_ret
  exact ⟨rfl, rfl⟩

/- An ID as a value. -/
abbrev idV (n l : Int) : Value := .agg #[.int .u32 n, .int .i64 l]

theorem printFrom_any (n : Nat) (hn : n < 4294967296) (s : ByteArray) (w : World) (hs : s.size ≤ maxLen) :
    Calls Tryd.prog 47 #[.int .u32 n, .string s] w fun e w' => e = .returned (.int .u32 (pmore n s.data.toList : Nat)) ∧ w' = w := by
  unfold maxLen at hs
  go_enter Tryd.func47, Tryd.ntmps47
  go_wp2
  go_loop [5, 6] (fun q i => ∃ k : Nat, k ≤ s.size ∧ i = .int .i64 k ∧ q = .int .i64 (pmore n (s.data.toList.take k) : Nat)) (fun _ i => s.size - (intOf i).toNat)
  case atStart => exact ⟨0, Nat.zero_le _, rfl, by simp [pmore_nil]⟩
  case round =>
    obtain ⟨k, hk, rfl, rfl⟩ := hrel
    have hml := pmore_lt n hn (s.data.toList.take k)
    by_cases hlt : k < s.size
    · have hst := step_walk64 (pmore n (s.data.toList.take k)) s[k] hml
      rw [← pmore_snoc, ← take_snoc s k hlt] at hst
      generalize pmore n (s.data.toList.take k) = m at *
      have HS : Hid ((wrap64 (bits .xor .i64 (m : Int) (wrap64 (s[k].toNat : Int)) * 16777619)).tmod 4294967296 = ((pmore n (s.data.toList.take (k + 1)) : Nat) : Int)) := hst
      clear hst
      go_wp2
      go_round
      case rel => exact ⟨k + 1, by omega, by go_num, by rw [HS.out]⟩
      case measure => simp [intOf]; omega
    · go_wp2
      go_ret
      exact ⟨ret_int (by rw [List.take_of_length_le (by simp; omega)]), rfl⟩
theorem printOf_any (s : ByteArray) (w : World) (hs : s.size ≤ maxLen) :
    Calls Tryd.prog 34 #[.string s] w fun e w' => e = .returned (.int .u32 (pmore 2166136261 s.data.toList : Nat)) ∧ w' = w := by
  go_enter Tryd.func34, Tryd.ntmps34
  go_wp2_with fail
  refine (printFrom_any 2166136261 (by decide) s _ hs).mono ?_
  rintro e w' ⟨rfl, rfl⟩
  go_wp2_with fail
  go_ret
  exact ⟨rfl, rfl⟩
theorem idOf_any (s : ByteArray) (w : World) (hs : s.size ≤ maxLen) :
    Calls Tryd.prog 19 #[.string s] w fun e w' => e = .returned (idV (pmore 2166136261 s.data.toList : Nat) s.size) ∧ Below w.heap.size w w' := by
  have hs' := hs
  unfold maxLen at hs'
  go_enter Tryd.func19, Tryd.ntmps19
  go_wp2_with fail
  refine (printOf_any s _ hs).mono ?_
  rintro e w' ⟨rfl, rfl⟩
  go_wp2_with fail
  exact bodyPost_ret (v := idV (pmore 2166136261 s.data.toList : Nat) s.size) (by simp [results, Tryd.results19, go_sem]) rfl ⟨rfl, (Below.refl _ _).alloc (Nat.le_refl _) _⟩
end Go.Proofs.YtcbcjefefmbccabDoor
