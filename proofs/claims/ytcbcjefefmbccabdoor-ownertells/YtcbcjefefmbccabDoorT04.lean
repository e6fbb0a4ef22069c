/-
  Own text. slices.Grow and slices.Concat at ints by contracts; append of ints to a row that is one's own.
  Own text. owner.cutAt, Join, Leave by contracts.
  Own text. Sums and IDs by contracts: print.More, Of, ID, Less and the document's PrintFrom, PrintOf, IDOf, IsLess.
  Own text. Hex digits written: digits.Hex and the document's HexOf by contracts.
  Own text. Decimal digits written: the document's Byte, below, Decimal by contracts.
-/
import Derived.Test.YtcbcjefefmbccabDoorT03
import Derived.Test.YtcbcjefefmbccabDoorChecked
import Derived.Test.YtcbcjefefmbccabDoorT02
import Derived.WalkKit
import Derived.WalkSpells
import Derived.WalkLawsBesides
import Derived.Outline
import Derived.Laws.BitsAllLaws
import Derived.Deep.QuietTactic
import Derived.BigQuiet
import Derived.Laws.BytesArg
import Derived.Lib.SlBytesConst
import Derived.Laws.IdiomStrings
namespace Go.Proofs.YtcbcjefefmbccabDoor
open Go.RowKit

theorem infoIO : (Tryd.prog.info? 3).map (fun i => (i.zero, i.size, i.bytes)) = some (some (.int .i64 0), 1, 8) := by kernel_rfl
theorem infoIO' : ∃ ti, Tryd.prog.info? 3 = some ti ∧ ti.zero = some (.int .i64 0) ∧ ti.size = 1 ∧ ti.bytes = 8 := by
  have h := infoIO
  cases hi : Tryd.prog.info? 3 with
  | none => rw [hi] at h; simp at h
  | some ti => rw [hi] at h; simp at h; exact ⟨ti, rfl, h.1, h.2.1, h.2.2⟩
theorem intV_one (l : List Int) : ∀ u ∈ l.map intV, u.oneCell' = true := fun u hu => by
  obtain ⟨x, _, rfl⟩ := List.mem_map.1 hu
  rfl
/- append(s, x...), where s is one's own row of ints. -/
theorem wpI_append {w : World} {ops : Array Oper} {rest : List Oper} {o : Oper} {a : Act} {Q : Exit → Act → World → Prop} (hgd : o.guard = none) (s x : Operand)
    (ho : o.op = .call { callee := .builtin .append, args := #[s, x], argTypes := #[ 22, 22 ] }) (base : Nat) (v vx : Value) (xs ys : List Int) (hs : a.eval s = v) (hx : a.eval x = vx)
    (hown : w.ownsRow base 3 1 v xs.length (xs.map intV)) (hv : IntsS w vx ys) (hb : xs.length + ys.length ≤ 100000) (hbase : base ≤ w.heap.size)
    (h : ∀ v' w', w'.ownsRow base 3 1 v' (xs ++ ys).length ((xs ++ ys).map intV) → w.grownBy w' v.ownBlock → wpList Tryd.prog ops Q rest (a.put o.dst v') w') : wpList Tryd.prog ops Q (o :: rest) a w := by
  obtain ⟨ti, hti, hz0, hz1, hz2⟩ := infoIO'
  rcases hv with ⟨rfl, rfl⟩ | ⟨b, of, c, rfl, hc, hlt, hcell⟩
  · refine wpList_append_own_none hgd s x 22 ho base 3 ti 1 Tryd.underlying22 hti v xs.length (xs.map intV) hs hown hx ?_
    refine h v w ?_ ⟨rfl, rfl, rfl, Nat.le_refl _, fun _ _ _ => rfl⟩
    rw [List.append_nil]
    exact hown
  · refine wpList_append_own w hgd s x 22 ho base 3 ti (.int .i64 0) 1 8 Tryd.underlying22 hti hz0 hz1 hz2 rfl (by decide) v xs.length (xs.map intV) hs hown ⟨b, of, none⟩ ys.length c (ys.map intV) hx (by simp) ?_ (intV_one ys) (by unfold maxLen; omega) (by omega) hbase ?_
    · intro j u hj
      have hjl := (List.getElem?_eq_some_iff.1 hj).1
      rw [List.length_map] at hjl
      have e : (⟨b, of, none⟩ : Addr).add j = ⟨b, of + j, none⟩ := by unfold Addr.add; split <;> simp_all
      rw [e, hcell j hjl]
      rw [List.getElem?_map, List.getElem?_eq_getElem hjl] at hj
      simpa using hj
    · intro v' w' h2 h3 _
      refine h v' w' ?_ h3
      rw [List.length_append, List.map_append]
      exact h2
set_option maxHeartbeats 4000000 in
set_option maxRecDepth 100000 in
theorem growI_any (n : Nat) (hn : n ≤ 100000) (w : World) :
    Calls Tryd.prog 40 #[.slice none 0 0, .int .i64 n] w fun e w' => ∃ v, e = .returned v ∧ w'.ownsRow w.heap.size 3 1 v 0 [] ∧ Below w.heap.size w w' := by
  obtain ⟨ti, hti, hz0, hz1, hz2⟩ := infoIO'
  by_cases h0 : n = 0
  · subst h0
    go_enter Tryd.func40, Tryd.ntmps40
    go_wp2_with fail
    go_ret
    exact ⟨_, rfl, World.ownsRow_nil _ _ _ _, Below.refl _ _⟩
  · have h1 : ¬ ((n : Int) < 0) := by omega
    have h3 : wrap64 (n : Int) = (n : Int) := by unfold wrap64; omega
    have h4 : (n : Int) > 0 := by omega
    have h5 : 0 < n := by omega
    have hrz : ∀ ty, (Builtin.append_ #[ 22, 3 ] ty #[.slice none 0 0, .int .i64 (n : Int)]).run Tryd.prog w =
        .ok (.slice (some ⟨w.heap.size, 0, none⟩) (0 + n) (grownCap w (0 + n) 0 3)) (w.drew.alloc (.cells (([] : List Value).toArray ++ Builtin.zeroCells (Value.int .i64 0).cells n ++ Builtin.zeroCells (Value.int .i64 0).cells (grownCap w (0 + n) 0 3 - (0 + n))) 3)) := fun ty =>
      Lib.run_append_grow_zeros w 22 3 ty 3 ti (.int .i64 0) .i64 .i64 Tryd.underlying22 Tryd.underlying3 hti hz0 none 0 0 [] (run_firstCells_none w.drew ti.size 0 0 0) n h5 (by rw [hz1]; decide) (by omega) (by omega) (by rw [hz2]; omega) (by rw [hz2]; exact growslice_fits (by omega) (by omega))
    have hGn : 0 + n ≤ grownCap w (0 + n) 0 3 := grownCap_ge w _ _ _
    have hGm : grownCap w (0 + n) 0 3 ≤ maxLen := grownCap_le_maxLen w (0 + n) 0 3 (by unfold maxLen; omega)
    obtain ⟨G, hG⟩ : ∃ G, grownCap w (0 + n) 0 3 = G := ⟨_, rfl⟩
    rw [hG] at hrz hGn hGm
    obtain ⟨C, hC⟩ : ∃ C, (([] : List Value).toArray ++ Builtin.zeroCells (Value.int .i64 0).cells n ++ Builtin.zeroCells (Value.int .i64 0).cells (G - (0 + n))) = C := ⟨_, rfl⟩
    have hCS : C.size = G * 1 := by
      rw [← hC]
      have : ∀ m, (Builtin.zeroCells (Value.int .i64 0).cells m).size = m := fun m => by simp [Builtin.zeroCells, Value.cells]
      rw [Array.size_append, Array.size_append, this, this]
      simp
      omega
    rw [hC] at hrz
    rw [Nat.zero_add] at hrz hGn
    have HROW : Hid ((w.drew.alloc (.cells C 3)).ownsRow w.heap.size 3 1 (.slice (some ⟨w.heap.size, 0, none⟩) 0 G) 0 []) := World.ownsRow_made (base := w.heap.size) w.drew C G (Nat.le_refl _) hGm hCS
    have HB : Hid (Below w.heap.size w (w.drew.alloc (.cells C 3))) := (Below.refl _ w).drew.alloc (Nat.le_refl _) _
    have hG63 : (G : Int) ≤ 9223372036854775807 := by unfold maxLen at hGm; omega
    have hn1 : (n : Int) ≤ 100000 := by omega
    clear hC hCS hG hGm hz0 hz1 hz2 hti
    go_enter Tryd.func40, Tryd.ntmps40
    go_wp2_with (at_builtin; refine Lib.wpList_append_run _ rfl _ _ _ _ rfl _ _ rfl rfl _ _ (hrz _) ?_)
    go_ret
    exact ⟨_, rfl, HROW.out, HB.out⟩
/- The first k of xs, one behind the other. -/
def cat (xs : Nat → List Int) : Nat → List Int
  | 0 => []
  | k + 1 => cat xs k ++ xs k
theorem cat_len (xs : Nat → List Int) (h : ∀ k, (xs k).length ≤ 1000) : ∀ k, (cat xs k).length ≤ 1000 * k
  | 0 => by simp [cat]
  | k + 1 => by
    rw [cat, List.length_append]
    have := cat_len xs h k
    have := h k
    omega
set_option maxHeartbeats 4000000 in
set_option maxRecDepth 100000 in
theorem concat_any (SB m c : Nat) (vv : Nat → Value) (xs : Nat → List Int) (w : World) (hm : m ≤ 10) (hlen : ∀ k, (xs k).length ≤ 1000) (hcell : ∀ k, k < m → w.cell? ⟨SB, k, none⟩ = some (vv k)) (hv : ∀ k, k < m → IntsS w (vv k) (xs k)) :
    Calls Tryd.prog 27 #[.slice (some ⟨SB, 0, none⟩) m c] w fun e w' => ∃ v, e = .returned v ∧ w'.ownsRow w.heap.size 3 1 v (cat xs m).length ((cat xs m).map intV) ∧ Below w.heap.size w w' := by
  have HC : Hid (∀ W, Below w.heap.size w W → ∀ k, k < m → W.cell? ⟨SB, k, none⟩ = some (vv k)) := fun W hb k hk => (hb.cell (p := ⟨SB, k, none⟩) (lt_of_cell (hcell k hk))).trans (hcell k hk)
  have HV : Hid (∀ W, Below w.heap.size w W → ∀ k, k < m → IntsS W (vv k) (xs k)) := fun W hb k hk => (hv k hk).below hb
  have HL := hideN hlen
  have HCL := hideN (cat_len xs hlen)
  have HS : Hid (∀ W, Below w.heap.size w W → ∀ k, k < m → ∃ p cc, vv k = .slice p (xs k).length cc) := fun W hb k hk => by
    rcases hv k hk with ⟨h1, h2⟩ | ⟨b, o, cc, h2, _⟩
    · exact ⟨none, 0, by rw [h1, h2]; rfl⟩
    · exact ⟨_, _, h2⟩
  have hm' : (m : Int) ≤ 10 := by omega
  have HM := hideN hm
  clear hcell hv hlen hm
  go_enter Tryd.func27, Tryd.ntmps27
  go_wp2_with fail
  go_loopw [3, 11] (fun sv iv wr => ∃ k : Nat, k ≤ m ∧ iv = .int .i64 k ∧ sv = .int .i64 (cat xs k).length ∧ w = wr) (fun _ iv _ => m - (intOf iv).toNat)
  case atStart => exact ⟨0, Nat.zero_le _, rfl, rfl, rfl⟩
  case round =>
    obtain ⟨k, hk, rfl, rfl, rfl⟩ := hrel
    by_cases hlt : k < m
    · have hlt' : (k : Int) < (m : Int) := by omega
      have hk0 : (0 : Int) ≤ (k : Int) := by omega
      have hck := HC.out _ (Below.refl _ _) k hlt
      obtain ⟨p, cc, hvk⟩ := HS.out _ (Below.refl _ _) k hlt
      have hx := HL.out k
      have hc1 := HCL.out k
      have HCE : Hid ((cat xs (k + 1)).length = (cat xs k).length + (xs k).length) := by show _ = _; rw [cat, List.length_append]
      obtain ⟨L, hL⟩ : ∃ L, (xs k).length = L := ⟨_, rfl⟩
      obtain ⟨S, hS⟩ : ∃ S, (cat xs k).length = S := ⟨_, rfl⟩
      rw [hL] at hvk hx HCE
      rw [hS] at hc1 HCE ⊢
      rw [hvk] at hck
      have hM := HM.out
      have hs1 : (S : Int) ≤ 10000 := by omega
      have hl1 : (L : Int) ≤ 1000 := by omega
      have hw1 : IntKind.i64.wrap ((S : Int) + (L : Int)) = (S : Int) + (L : Int) := by rw [IntKind.wrap_i64]; omega
      have hns : ¬ ((S : Int) + (L : Int)) < 0 := by omega
      have HKL := hideN hlt
      clear hvk hL hS hx hc1 hM hlt
      go_wp2_with fail
      go_roundw
      case rel => exact ⟨k + 1, HKL.out, by go_num, by rw [HCE.out]; push_cast; rfl, trivial⟩
      case measure => simp [intOf]; omega
    · have hge : (m : Int) ≤ (k : Int) := by omega
      obtain rfl : k = m := by omega
      have HG := hideN (growI_any (cat xs k).length (by have := HCL.out k; have := HM.out; omega) w)
      have hc1 := HCL.out k
      have hM := HM.out
      have hs1 : ((cat xs k).length : Int) ≤ 10000 := by omega
      clear hc1 hM hlt
      go_wp2_with fail
      refine HG.out.mono ?_
      rintro e w1 ⟨v1, rfl, hrow, hb1⟩
      have HROW : Hid (w1.ownsRow w.heap.size 3 1 v1 (cat xs 0).length ((cat xs 0).map intV)) := hrow
      have HB1 := hideN hb1
      clear hrow hb1 HG
      go_wp2_with fail
      go_loopw [6, 27] (fun sv iv wr => ∃ j : Nat, j ≤ k ∧ iv = .int .i64 j ∧ Hid (wr.ownsRow w.heap.size 3 1 sv (cat xs j).length ((cat xs j).map intV)) ∧ Hid (Below w.heap.size w wr)) (fun _ iv _ => k - (intOf iv).toNat)
      case atStart => exact ⟨0, Nat.zero_le _, rfl, HROW.out, HB1.out⟩
      case round =>
        clear HROW HB1
        obtain ⟨j, hj, rfl, HR, HB⟩ := hrel
        by_cases hjk : j < k
        · have hjk' : (j : Int) < (k : Int) := by omega
          have hj0 : (0 : Int) ≤ (j : Int) := by omega
          have hcj := HC.out wr HB.out j hjk
          have HVJ := hideN (HV.out wr HB.out j hjk)
          have HCJ := hideN (HCL.out j)
          have HLJ := hideN (HL.out j)
          have HJK := hideN hjk
          clear hjk
          go_wp2_with (at_builtin; refine wpI_append rfl _ _ rfl w.heap.size _ (vv j) (cat xs j) (xs j) rfl rfl HR.out HVJ.out (by have := HCJ.out; have := HLJ.out; have := HM.out; omega) HB.out.size ?_; intro v3 w3 ho3 hg3; have HR3 : Hid (w3.ownsRow w.heap.size 3 1 v3 (cat xs (j + 1)).length ((cat xs (j + 1)).map intV)) := ho3; have HB3 : Hid (Below w.heap.size w w3) := HB.out.grown hg3 HB.out.size (fun k hk => (HR.out.lt k hk).1); clear ho3 hg3)
          go_roundw
          case rel => exact ⟨j + 1, HJK.out, by go_num, HR3.out, HB3.out⟩
          case measure => simp [intOf]; omega
        · have hjge : (k : Int) ≤ (j : Int) := by omega
          obtain rfl : j = k := by omega
          clear hjk
          go_wp2_with fail
          go_ret
          exact ⟨_, rfl, HR.out, HB.out⟩
end Go.Proofs.YtcbcjefefmbccabDoor
namespace Go.Proofs.YtcbcjefefmbccabDoor
open Go.RowKit

theorem mem_place {l : List Int} {n : Int} (hn : Nodes l) : n ∈ l ↔ ∃ h : nPlace l n < l.length, l[nPlace l n] = n := by
  constructor
  · exact fun h => nPlace_mem hn h
  · rintro ⟨h, e⟩
    rw [← e]
    exact List.getElem_mem h
def behindOf (l : List Int) (n : Int) : List Int := if n ∈ l then l.drop (nPlace l n + 1) else l.drop (nPlace l n)
set_option maxRecDepth 100000 in
set_option maxHeartbeats 4000000 in
theorem cutAt_any (vl : Value) (l : List Int) (n : Int) (w : World) (hn : Nodes l) (hv : IntsS w vl l) :
    Calls Tryd.prog 26 #[vl, .int .i64 n] w fun e w' => ∃ v1 v2, e = .returned (.tuple #[v1, v2, .bool (decide (n ∈ l))]) ∧ IntsS w' v1 (l.take (nPlace l n)) ∧ IntsS w' v2 (behindOf l n) ∧ Below w.heap.size w w' := by
  have hal1 := (Below.refl w.heap.size w).alloc (Nat.le_refl _) (.cells #[vl] 22)
  have hb1 := Blk.new w #[vl] 22
  have hal2 := hal1.alloc hal1.size (.cells #[.int .i64 n] 3)
  have hb2 := Blk.new (w.alloc (.cells #[vl] 22)) #[.int .i64 n] 3
  have hb1' := hb1.next ((Below.refl _ _).alloc (Nat.le_refl _) (.cells #[.int .i64 n] 3))
  have hs1 : (w.alloc (.cells #[vl] 22)).heap.size = w.heap.size + 1 := by simp
  rw [hs1] at hb2
  have HSE := hideN (search_any w.heap.size (w.heap.size + 1) vl l n _ hn (hv.below hal2).c hb1' hb2)
  have HAL := hideN hal2
  have HL := hideN hb1'
  have HN := hideN hb2
  have hple := nPlace_le l n
  have HMEM := hideN (mem_place (n := n) hn)
  have HV0 := hideN hv
  have hlen := hn.length
  clear hal1 hb1 hal2 hb2 hb1' hs1 hn
  rcases hv with ⟨rfl, rfl⟩ | ⟨b, o, c, rfl, hc, hlt, hcell⟩
  · have hP : nPlace ([] : List Int) n = 0 := rfl
    rw [hP] at HSE HMEM ⊢
    have hnm : decide (n ∈ ([] : List Int)) = false := by simp
    rw [hnm]
    have hbo : behindOf [] n = [] := by unfold behindOf; simp
    rw [hbo]
    clear hnm hbo HMEM hP hple hlen
    have hs5 := slI_none_upto
    have hs4 := slI_none_from
    go_enter Tryd.func26, Tryd.ntmps26
    go_wp2_with fail
    refine HSE.out.mono ?_
    rintro e W1 ⟨rfl, hbw⟩
    have HB1 : Hid (Below w.heap.size w W1) := HAL.out.trans (hbw.mono HAL.out.size)
    have HL1 := hideN (HL.out.next hbw)
    have HN1 := hideN (HN.out.next hbw)
    have e0 := HL1.out.cell (i := 0) rfl
    have n0 := HN1.out.cell (i := 0) rfl
    clear hbw HSE HL HN
    go_wp2_with fail
    go_quiet (fail)
    have HB2 : Hid (Below w.heap.size w (W1.drewN nq)) := HB1.out.trans ((below_drew_n W1 nq).mono HB1.out.size)
    clear e0 n0
    have e0 : (W1.drewN nq).cell? ⟨w.heap.size, 0, none⟩ = some (.slice none 0 0) := (HL1.out.next (below_drew_n W1 nq)).cell (i := 0) rfl
    have n0 : (W1.drewN nq).cell? ⟨w.heap.size + 1, 0, none⟩ = some (.int .i64 n) := (HN1.out.next (below_drew_n W1 nq)).cell (i := 0) rfl
    generalize W1.drewN nq = W2 at *
    go_wp2_with fail
    go_quiet (fail)
    have HB3 : Hid (Below w.heap.size w (W2.drewN nq)) := HB2.out.trans ((below_drew_n W2 nq).mono HB2.out.size)
    go_wp2_with fail
    exact bodyPost_ret (v := .tuple #[.slice none 0 0, .slice none 0 0, .bool false]) (by simp [results, Tryd.results26, go_sem]) rfl ⟨_, _, rfl, .inl ⟨rfl, rfl⟩, .inl ⟨rfl, rfl⟩, HB3.out⟩
  · obtain ⟨P, hP⟩ : ∃ P, nPlace l n = P := ⟨_, rfl⟩
    have hbo : behindOf l n = if n ∈ l then l.drop (P + 1) else l.drop P := by unfold behindOf; rw [hP]
    rw [hP] at HSE hple ⊢
    obtain ⟨o4, c4, hsl4, hc4, ho4⟩ := slI_from b o l.length c P hple hc P rfl
    have hsl5 := slI_upto b o l.length c P hple hc
    have HMP : Hid (n ∈ l ↔ ∃ h : P < l.length, l[P] = n) := by
      have := HMEM.out
      subst hP
      exact this
    have HCELL : Hid (∀ W, Below w.heap.size w W → ∀ i (h : i < l.length), W.cell? ⟨b, o + i, none⟩ = some (.int .i64 l[i])) := fun W hb i hi => (hb.cell (p := ⟨b, o + i, none⟩) hlt).trans (hcell i hi)
    have HLT := hideN hlt
    have HCC := hideN hc
    have HPLE := hideN hple
    have HO4 := hideN ho4
    have HC4 := hideN hc4
    have HBO := hideN hbo
    have HTAKE : Hid (∀ W, Below w.heap.size w W → IntsS W (.slice (some ⟨b, o, none⟩) P c) (l.take P)) := fun W hb => .inr ⟨b, o, c, by rw [List.length_take, Nat.min_eq_left hple], by rw [List.length_take]; omega, Nat.lt_of_lt_of_le hlt hb.size, fun i hi => by rw [List.length_take] at hi; rw [List.getElem_take]; exact HCELL.out W hb i (by omega)⟩
    have HDROP : Hid (∀ W, Below w.heap.size w W → IntsS W (.slice (some ⟨b, o4, none⟩) (l.length - P) c4) (l.drop P)) := fun W hb => .inr ⟨b, o4, c4, by rw [List.length_drop], by rw [List.length_drop]; exact hc4, Nat.lt_of_lt_of_le hlt hb.size, fun i hi => by rw [List.length_drop] at hi; rw [List.getElem_drop, ho4 (by omega), Nat.add_assoc]; exact HCELL.out W hb (P + i) (by omega)⟩
    have hll : (l.length : Int) ≤ 6 := by omega
    have hPi : (P : Int) ≤ 6 := by omega
    clear HMEM hcell hlt hc hple ho4 hc4 hbo hP hlen
    go_enter Tryd.func26, Tryd.ntmps26
    go_wp2_with fail
    refine HSE.out.mono ?_
    rintro e W1 ⟨rfl, hbw⟩
    have HB1 : Hid (Below w.heap.size w W1) := HAL.out.trans (hbw.mono HAL.out.size)
    have HL1 := hideN (HL.out.next hbw)
    have HN1 := hideN (HN.out.next hbw)
    have e0 := HL1.out.cell (i := 0) rfl
    have n0 := HN1.out.cell (i := 0) rfl
    clear hbw HSE HL HN
    go_wp2_with fail
    go_quiet (fail)
    have HB2 : Hid (Below w.heap.size w (W1.drewN nq)) := HB1.out.trans ((below_drew_n W1 nq).mono HB1.out.size)
    clear e0 n0 hsl4 hsl5
    have n0 : (W1.drewN nq).cell? ⟨w.heap.size + 1, 0, none⟩ = some (.int .i64 n) := (HN1.out.next (below_drew_n W1 nq)).cell (i := 0) rfl
    generalize W1.drewN nq = W2 at *
    by_cases hd : P < l.length
    · have hcx := HCELL.out W2 HB2.out P hd
      rw [← HO4.out hd] at hcx
      have HMX : Hid (n ∈ l ↔ l[P] = n) := ⟨fun h => (HMP.out.1 h).2, fun h => HMP.out.2 ⟨hd, h⟩⟩
      have HO4E := hideN (HO4.out hd)
      obtain ⟨x, hx⟩ : ∃ x, l[P] = x := ⟨_, rfl⟩
      rw [hx] at hcx HMX
      obtain ⟨D, hD⟩ : ∃ D, l.length - P = D := ⟨_, rfl⟩
      have hD0 : 0 < D := by omega
      have hD0' : (0 : Int) < (D : Int) := by omega
      have HDE := hideN hD
      rw [hD] at HDROP HC4 ⊢
      clear hx hD hd
      by_cases hxn : x = n
      · have hxe : (x == n) = true := beq_iff_eq.2 hxn
        have HIN : Hid (n ∈ l) := HMX.out.2 hxn
        have hdec : decide (n ∈ l) = true := decide_eq_true HIN.out
        have HDEC := hideN hdec
        obtain ⟨o5, c5, hsl6, hc5, ho5⟩ := slI_from b o4 D c4 1 (by omega) HC4.out 1 rfl
        have HO5 := hideN ho5
        have HC5 := hideN hc5
        clear hdec HMX ho5 hc5 hxn
        go_wp2_with fail
        go_quiet (fail)
        have HB3 : Hid (Below w.heap.size w (W2.drewN nq)) := HB2.out.trans ((below_drew_n W2 nq).mono HB2.out.size)
        clear hcx n0
        generalize W2.drewN nq = W3 at *
        go_wp2_with fail
        go_quiet (fail)
        have HB4 : Hid (Below w.heap.size w (W3.drewN nq)) := HB3.out.trans ((below_drew_n W3 nq).mono HB3.out.size)
        go_wp2_with fail
        refine bodyPost_ret (v := .tuple #[.slice (some ⟨b, o, none⟩) P c, .slice (some ⟨b, o5, none⟩) (D - 1) c5, .bool true]) (by simp [results, Tryd.results26, go_sem]) rfl ⟨_, _, by rw [HDEC.out], HTAKE.out _ HB4.out, ?_, HB4.out⟩
        rw [HBO.out, if_pos HIN.out]
        have hDE := HDE.out
        refine .inr ⟨b, o5, c5, by rw [List.length_drop, ← hDE, Nat.sub_sub], by rw [List.length_drop]; have := HC5.out; omega, Nat.lt_of_lt_of_le HLT.out HB4.out.size, fun i hi => ?_⟩
        rw [List.length_drop] at hi
        rw [List.getElem_drop, HO5.out (by omega), HO4E.out, show o + P + 1 + i = o + (P + 1 + i) by omega]
        exact HCELL.out _ HB4.out (P + 1 + i) (by omega)
      · have hxe : (x == n) = false := beq_eq_false_iff_ne.2 hxn
        have HIN : Hid (n ∉ l) := fun h => hxn (HMX.out.1 h)
        have hdec : decide (n ∈ l) = false := decide_eq_false HIN.out
        have HDEC := hideN hdec
        clear hdec HMX hxn
        go_wp2_with fail
        go_quiet (fail)
        have HB3 : Hid (Below w.heap.size w (W2.drewN nq)) := HB2.out.trans ((below_drew_n W2 nq).mono HB2.out.size)
        go_wp2_with fail
        refine bodyPost_ret (v := .tuple #[.slice (some ⟨b, o, none⟩) P c, .slice (some ⟨b, o4, none⟩) D c4, .bool false]) (by simp [results, Tryd.results26, go_sem]) rfl ⟨_, _, by rw [HDEC.out], HTAKE.out _ HB3.out, ?_, HB3.out⟩
        rw [HBO.out, if_neg HIN.out]
        exact HDROP.out _ HB3.out
    · have HIN : Hid (n ∉ l) := fun h => hd (HMP.out.1 h).1
      have hdec : decide (n ∈ l) = false := decide_eq_false HIN.out
      have HDEC := hideN hdec
      have hD : l.length - P = 0 := by omega
      rw [hD] at HDROP ⊢
      clear hdec hd hD
      go_wp2_with fail
      go_quiet (fail)
      have HB3 : Hid (Below w.heap.size w (W2.drewN nq)) := HB2.out.trans ((below_drew_n W2 nq).mono HB2.out.size)
      go_wp2_with fail
      refine bodyPost_ret (v := .tuple #[.slice (some ⟨b, o, none⟩) P c, .slice (some ⟨b, o4, none⟩) 0 c4, .bool false]) (by simp [results, Tryd.results26, go_sem]) rfl ⟨_, _, by rw [HDEC.out], HTAKE.out _ HB3.out, ?_, HB3.out⟩
      rw [HBO.out, if_neg HIN.out]
      exact HDROP.out _ HB3.out
end Go.Proofs.YtcbcjefefmbccabDoor
namespace Go.Proofs.YtcbcjefefmbccabDoor
open Go.RowKit

theorem take_snoc (s : ByteArray) (k : Nat) (h : k < s.size) : s.data.toList.take (k + 1) = s.data.toList.take k ++ [s[k]] := by
  rw [List.take_succ_eq_append_getElem (by simpa using h)]; rfl
theorem ret_int {k : IntKind} {a b : Int} (h : a = b) : Ending.returned (.int k a) = .returned (.int k b) := by rw [h]
theorem val_int {k : IntKind} {a b : Int} (h : a = b) : Value.int k a = .int k b := by rw [h]

/- One step as the walk writes it. -/
theorem step_walk (n : Nat) (c : UInt8) (hn : n < 4294967296) : bits .xor .u32 (n : Int) ((c.toNat : Int) % 4294967296) * 16777619 % 4294967296 = ((pstep n c : Nat) : Int) := by
  have hc := byte_lt32 c
  rw [show ((c.toNat : Int) % 4294967296) = ((c.toNat : Nat) : Int) by omega, u32_xor_nat n c.toNat hn hc]
  unfold pstep
  rw [Int.natCast_emod, Int.natCast_mul]
  rfl

theorem i64_xor_nat (a b : Nat) (ha : a < 4294967296) (hb : b < 4294967296) : bits .xor .i64 (a : Int) (b : Int) = ((a ^^^ b : Nat) : Int) := by
  have hx := xor_lt32 ha hb
  have e64 : IntKind.i64.bits = 64 := rfl
  have p64 : (2 : Nat) ^ 64 = 18446744073709551616 := by decide
  have ha' : a % 2 ^ IntKind.i64.bits = a := Nat.mod_eq_of_lt (by rw [e64, p64]; omega)
  have hb' : b % 2 ^ IntKind.i64.bits = b := Nat.mod_eq_of_lt (by rw [e64, p64]; omega)
  simp only [bits, BitVec.ofInt_natCast, BitVec.toNat_xor, BitVec.toNat_ofNat, ha', hb']
  rw [IntKind.wrap_i64]
  omega
theorem step_walk64 (n : Nat) (c : UInt8) (hn : n < 4294967296) : (wrap64 (bits .xor .i64 (n : Int) (wrap64 (c.toNat : Int)) * 16777619)).tmod 4294967296 = ((pstep n c : Nat) : Int) := by
  have hc := byte_lt32 c
  have hx := xor_lt32 hn hc
  rw [IntWalk.wrap64_in (c.toNat : Int) (by omega), i64_xor_nat n c.toNat hn hc, IntWalk.wrap64_in _ (by omega)]
  unfold pstep
  rw [Int.tmod_eq_emod_of_nonneg (by omega), Int.natCast_emod, Int.natCast_mul]
  rfl

theorem more_any (n : Nat) (hn : n < 4294967296) (s : ByteArray) (w : World) (hs : s.size ≤ maxLen) :
    Calls Tryd.prog 44 #[.int .u32 n, .string s] w fun e w' => e = .returned (.int .u32 (pmore n s.data.toList : Nat)) ∧ w' = w := by
  unfold maxLen at hs
  go_enter Tryd.func44, Tryd.ntmps44
  go_wp2
  go_loop [0, 8] (fun q i => ∃ k : Nat, k ≤ s.size ∧ i = .int .i64 k ∧ q = .int .u32 (pmore n (s.data.toList.take k) : Nat)) (fun _ i => s.size - (intOf i).toNat)
  case atStart => exact ⟨0, Nat.zero_le _, rfl, by simp [pmore_nil]⟩
  case round =>
    obtain ⟨k, hk, rfl, rfl⟩ := hrel
    by_cases hlt : k < s.size
    · have hst := step_walk (pmore n (s.data.toList.take k)) s[k] (pmore_lt n hn _)
      rw [← pmore_snoc, ← take_snoc s k hlt] at hst
      have HS := hst
      clear hst
      generalize pmore n (s.data.toList.take k) = m at *
      have HS' : Hid (bits .xor .u32 (m : Int) ((s[k].toNat : Int) % 4294967296) * 16777619 % 4294967296 = ((pmore n (s.data.toList.take (k + 1)) : Nat) : Int)) := HS
      clear HS
      go_wp2
      go_round
      case rel => exact ⟨k + 1, by omega, by go_num, by rw [HS'.out]⟩
      case measure => simp [intOf]; omega
    · go_wp2
      go_ret
      exact ⟨ret_int (by rw [List.take_of_length_le (by simp; omega)]), rfl⟩
theorem of_any (s : ByteArray) (w : World) (hs : s.size ≤ maxLen) :
    Calls Tryd.prog 31 #[.string s] w fun e w' => e = .returned (.int .u32 (pmore 2166136261 s.data.toList : Nat)) ∧ w' = w := by
  go_enter Tryd.func31, Tryd.ntmps31
  go_wp2_with fail
  refine (more_any 2166136261 (by decide) s _ hs).mono ?_
  rintro e w' ⟨rfl, rfl⟩
  go_wp2_with fail
  go_ret
  exact ⟨rfl, rfl⟩

/- An ID as a value. -/
abbrev idV (n l : Int) : Value := .agg #[.int .u32 n, .int .i64 l]

theorem printFrom_any (n : Nat) (hn : n < 4294967296) (s : ByteArray) (w : World) (hs : s.size ≤ maxLen) :
    Calls Tryd.prog 47 #[.int .u32 n, .string s] w fun e w' => e = .returned (.int .u32 (pmore n s.data.toList : Nat)) ∧ w' = w := by
  unfold maxLen at hs
  go_enter Tryd.func47, Tryd.ntmps47
  go_wp2
  go_loop [5, 6] (fun q i => ∃ k : Nat, k ≤ s.size ∧ i = .int .i64 k ∧ q = .int .i64 (pmore n (s.data.toList.take k) : Nat)) (fun _ i => s.size - (intOf i).toNat)
  case atStart => exact ⟨0, Nat.zero_le _, rfl, by simp [pmore_nil]⟩
  case round =>
    obtain ⟨k, hk, rfl, rfl⟩ := hrel
    have hml := pmore_lt n hn (s.data.toList.take k)
    by_cases hlt : k < s.size
    · have hst := step_walk64 (pmore n (s.data.toList.take k)) s[k] hml
      rw [← pmore_snoc, ← take_snoc s k hlt] at hst
      generalize pmore n (s.data.toList.take k) = m at *
      have HS : Hid ((wrap64 (bits .xor .i64 (m : Int) (wrap64 (s[k].toNat : Int)) * 16777619)).tmod 4294967296 = ((pmore n (s.data.toList.take (k + 1)) : Nat) : Int)) := hst
      clear hst
      go_wp2
      go_round
      case rel => exact ⟨k + 1, by omega, by go_num, by rw [HS.out]⟩
      case measure => simp [intOf]; omega
    · go_wp2
      go_ret
      exact ⟨ret_int (by rw [List.take_of_length_le (by simp; omega)]), rfl⟩
theorem printOf_any (s : ByteArray) (w : World) (hs : s.size ≤ maxLen) :
    Calls Tryd.prog 34 #[.string s] w fun e w' => e = .returned (.int .u32 (pmore 2166136261 s.data.toList : Nat)) ∧ w' = w := by
  go_enter Tryd.func34, Tryd.ntmps34
  go_wp2_with fail
  refine (printFrom_any 2166136261 (by decide) s _ hs).mono ?_
  rintro e w' ⟨rfl, rfl⟩
  go_wp2_with fail
  go_ret
  exact ⟨rfl, rfl⟩
theorem idOf_any (s : ByteArray) (w : World) (hs : s.size ≤ maxLen) :
    Calls Tryd.prog 19 #[.string s] w fun e w' => e = .returned (idV (pmore 2166136261 s.data.toList : Nat) s.size) ∧ Below w.heap.size w w' := by
  have hs' := hs
  unfold maxLen at hs'
  go_enter Tryd.func19, Tryd.ntmps19
  go_wp2_with fail
  refine (printOf_any s _ hs).mono ?_
  rintro e w' ⟨rfl, rfl⟩
  go_wp2_with fail
  exact bodyPost_ret (v := idV (pmore 2166136261 s.data.toList : Nat) s.size) (by simp [results, Tryd.results19, go_sem]) rfl ⟨rfl, (Below.refl _ _).alloc (Nat.le_refl _) _⟩
end Go.Proofs.YtcbcjefefmbccabDoor
namespace Go.Proofs.YtcbcjefefmbccabDoor
open Go.RowKit

/- Byte j of eight behind k rounds. -/
def hexAt (z : Nat) (n k j : Nat) : Nat := if 8 ≤ j + k then (hexDig (n / 16 ^ (7 - j) % 16)).toNat else z
theorem hexLast_get (n k j : Nat) (h : j < k) : (hexLast n k)[j]? = some (hexDig (n / 16 ^ (k - 1 - j) % 16)) := by
  induction k generalizing n with
  | zero => omega
  | succ k ih =>
    rw [hexLast]
    by_cases hj : j = k
    · subst hj
      rw [List.getElem?_append_right (by rw [hexLast_length]; omega), hexLast_length]
      simp
    · rw [List.getElem?_append_left (by rw [hexLast_length]; omega), ih _ (by omega), Nat.div_div_eq_div_mul, ← Nat.pow_succ', show (k - 1 - j).succ = k + 1 - 1 - j by omega]
theorem hexs_get : ∀ d : Fin 16, ((#[48, 49, 50, 51, 52, 53, 54, 55, 56, 57, 97, 98, 99, 100, 101, 102] : Array UInt8)[d.val]'d.isLt).toNat = (hexDig d.val).toNat := by decide
theorem hexs_at (d : Nat) (h : d < 16) (hq : d < (⟨#[48, 49, 50, 51, 52, 53, 54, 55, 56, 57, 97, 98, 99, 100, 101, 102]⟩ : ByteArray).size) : ((⟨#[48, 49, 50, 51, 52, 53, 54, 55, 56, 57, 97, 98, 99, 100, 101, 102]⟩ : ByteArray)[d]'hq).toNat = (hexDig d).toNat := hexs_get ⟨d, h⟩
structure HexW (z : Nat) (w : World) (B n k : Nat) (wr : World) : Prop where
  below : Below w.heap.size w wr
  size : B < wr.heap.size
  cell : ∀ j, j < 8 → wr.cell? ⟨B, j, none⟩ = some (.int .u8 (hexAt z n k j : Nat))
  free : ∀ j, j < 8 → wr.frozen? ⟨B, j, none⟩ = false

theorem HexW.next {z : Nat} {w : World} {B n k : Nat} {wr : World} (h : HexW z w B n k wr) (hB : w.heap.size ≤ B) (hk : k < 8) {o : Nat} (ho : o = 7 - k) {d : Nat} (hd : d = (hexDig (n / 16 ^ k % 16)).toNat) :
    HexW z w B n (k + 1) (wr.setCell ⟨B, o, none⟩ (.int .u8 (d : Int))) where
  below := h.below.setCell hB _
  size := by simpa [World.setCell] using h.size
  cell j hj := by
    subst ho hd
    by_cases hjk : j = 7 - k
    · subst hjk
      rw [World.cell?_setCell_same _ _ _ (h.cell _ hj)]
      unfold hexAt
      rw [if_pos (by omega), show 7 - (7 - k) = k by omega]
    · rw [World.cell?_setCell_other _ _ _ _ (fun e => hjk (by injection e; omega)), h.cell j hj]
      unfold hexAt
      by_cases h8 : 8 ≤ j + k
      · rw [if_pos h8, if_pos (by omega)]
      · rw [if_neg h8, if_neg (by omega)]
  free j hj := by
    rw [World.frozen?_setCell]
    exact h.free j hj
theorem HexW.string {z : Nat} {w : World} {B n : Nat} {wr : World} (h : HexW z w B n 8 wr) (c : Nat) :
    (convert 91 9 (.slice (some ⟨B, 0, none⟩) 8 c)).run Tryd.prog wr = .ok (.string ⟨(hexLast n 8).toArray⟩) wr := by
  have hl := hexLast_length n 8
  have := run_convert_bytes_back (P := Tryd.prog) wr 91 9 5 ⟨B, 0, none⟩ c (hexLast n 8) Tryd.underlying91 Tryd.underlying5 Tryd.underlying9 (fun j hj => by
    have hg := hexLast_get n 8 j (by omega)
    rw [List.getElem?_eq_getElem hj] at hg
    have hp : (⟨B, 0, none⟩ : Addr).add j = ⟨B, j, none⟩ := by unfold Addr.add; split <;> simp_all
    rw [Option.some.inj hg, hp, h.cell j (by omega)]
    unfold hexAt
    rw [if_pos (by omega)])
  rw [hl] at this
  exact this
theorem frozen_mark (w : World) (C : Array Value) (t : TypeId) (lo hi j : Nat) (h : j < lo) : (w.alloc (.cells C t (lo, hi))).frozen? ⟨w.heap.size, j, none⟩ = false := by
  have e : (w.alloc (.cells C t (lo, hi))).heap[w.heap.size]? = some (.cells C t (lo, hi)) := Array.getElem?_push_size
  unfold World.frozen?
  rw [e]
  simp
  omega
theorem and15 (m : Nat) (hm : m < 4294967296) : bits .and .u32 (m : Int) 15 = ((m % 16 : Nat) : Int) := by
  have := bits_mask .u32 32 (by decide) (fun n h0 h1 => by rw [IntKind.wrap_u32]; omega) 4 (by decide) (m : Int) (by omega) (by omega)
  simpa using this
theorem div_step (n k : Nat) : n / 16 ^ k / 16 = n / 16 ^ (k + 1) := by rw [Nat.div_div_eq_div_mul, Nat.pow_succ]

set_option maxHeartbeats 1000000 in
set_option maxRecDepth 100000 in
theorem hexText_any (n : Nat) (hn : n < 4294967296) (w : World) :
    Calls Tryd.prog 45 #[.int .u32 n] w fun e w' => e = .returned (.string ⟨(hexLast n 8).toArray⟩) ∧ Below w.heap.size w w' := by
  have hmk : ∀ w, (Instr.makeSlice 91 (.int .i64 8) (.int .i64 8)).run Tryd.prog w = .ok (.slice (some ⟨w.heap.size, 0, none⟩) 8 8) (w.alloc (.cells #[.int .u8 0, .int .u8 0, .int .u8 0, .int .u8 0, .int .u8 0, .int .u8 0, .int .u8 0, .int .u8 0] 5)) := fun _ => by kernel_rfl
  go_enter Tryd.func45, Tryd.ntmps45
  go_wp2
  go_loopw [0, 8] (fun q i wr => ∃ k : Nat, k ≤ 8 ∧ i = .int .i64 k ∧ q = .int .u32 (n / 16 ^ k : Nat) ∧ HexW 0 w w.heap.size n k wr) (fun _ i _ => 8 - (intOf i).toNat)
  case atStart =>
    refine ⟨0, Nat.zero_le _, rfl, by simp, (Below.refl _ _).alloc (Nat.le_refl _) _, by simp, ?_, ?_⟩
    · intro j hj
      have : j = 0 ∨ j = 1 ∨ j = 2 ∨ j = 3 ∨ j = 4 ∨ j = 5 ∨ j = 6 ∨ j = 7 := by omega
      rcases this with rfl | rfl | rfl | rfl | rfl | rfl | rfl | rfl <;> simp [hexAt]
    · intro j hj
      simp
  case round =>
    obtain ⟨k, hk, rfl, rfl, hH⟩ := hrel
    by_cases hlt : k < 8
    · have hc := hH.cell (7 - k) (by omega)
      have hf := hH.free (7 - k) (by omega)
      have hsz := hH.size
      have hlt' : (k : Int) < 8 := by omega
      have hm : n / 16 ^ k < 4294967296 := Nat.lt_of_le_of_lt (Nat.div_le_self _ _) hn
      have hnx : ∀ d : Nat, d = (hexDig (n / 16 ^ k % 16)).toNat → HexW 0 w w.heap.size n (k + 1) (wr.setCell ⟨w.heap.size, 7 - k, none⟩ (.int .u8 (d : Int))) := fun d hd => hH.next (Nat.le_refl _) hlt rfl hd
      have HD : Hid (n / 16 ^ k / 16 = n / 16 ^ (k + 1)) := div_step n k
      generalize n / 16 ^ k = m at *
      have hand := and15 m hm
      clear hH
      go_wp2
      go_roundw
      case rel => exact ⟨k + 1, by omega, by go_num, by rw [← HD.out]; rfl, hnx _ (hexs_at _ (by omega) _)⟩
      case measure => simp [intOf]; omega
    · obtain rfl : k = 8 := by omega
      have hcv := hH.string 8
      have hbl := hH.below
      clear hH
      go_wp2
      go_ret
      exact ⟨rfl, hbl⟩

set_option maxHeartbeats 1000000 in
set_option maxRecDepth 100000 in
theorem hexOf_any (n : Nat) (hn : n < 4294967296) (w : World) :
    Calls Tryd.prog 48 #[.int .u32 n] w fun e w' => e = .returned (.string ⟨(hexLast n 8).toArray⟩) ∧ Below w.heap.size w w' := by
  have kc := fun (w : World) (C : Array Value) (n c : Nat) => Lib.run_convert_bytes_const (P := Tryd.prog) w 91 5 C n c Tryd.underlying91 Tryd.underlying5
  go_enter Tryd.func48, Tryd.ntmps48
  go_wp2
  go_loopw [3, 5] (fun q i wr => ∃ k : Nat, k ≤ 8 ∧ i = .int .i64 (7 - (k : Int)) ∧ q = .int .i64 (n / 16 ^ k : Nat) ∧ HexW 48 w w.heap.size n k wr) (fun _ i _ => (intOf i + 1).toNat)
  case atStart =>
    refine ⟨0, Nat.zero_le _, rfl, by simp, (Below.refl _ _).alloc (Nat.le_refl _) _, by simp, ?_, ?_⟩
    · intro j hj
      rw [World.cell?_alloc_mark]
      have : j = 0 ∨ j = 1 ∨ j = 2 ∨ j = 3 ∨ j = 4 ∨ j = 5 ∨ j = 6 ∨ j = 7 := by omega
      rcases this with rfl | rfl | rfl | rfl | rfl | rfl | rfl | rfl <;> simp [hexAt]
    · intro j hj
      exact frozen_mark w _ _ _ _ j (by simpa using hj)
  case round =>
    obtain ⟨k, hk, rfl, rfl, hH⟩ := hrel
    by_cases hlt : k < 8
    · have hc := hH.cell (7 - k) (by omega)
      have hf := hH.free (7 - k) (by omega)
      have hsz := hH.size
      have hlt' : (0 : Int) ≤ 7 - (k : Int) := by omega
      have htn : (7 - (k : Int)).toNat = 7 - k := by omega
      have hm : n / 16 ^ k < 4294967296 := Nat.lt_of_le_of_lt (Nat.div_le_self _ _) hn
      have hnx : ∀ d : Nat, d = (hexDig (n / 16 ^ k % 16)).toNat → HexW 48 w w.heap.size n (k + 1) (wr.setCell ⟨w.heap.size, 7 - k, none⟩ (.int .u8 (d : Int))) := fun d hd => hH.next (Nat.le_refl _) hlt rfl hd
      have HD : Hid (n / 16 ^ k / 16 = n / 16 ^ (k + 1)) := div_step n k
      generalize n / 16 ^ k = m at *
      clear hH
      go_wp2
      go_roundw
      case rel => exact ⟨k + 1, by omega, val_int (by omega), by rw [← HD.out]; rfl, hnx _ (hexs_at _ (by omega) _)⟩
      case measure => simp [intOf]; omega
    · obtain rfl : k = 8 := by omega
      have hcv := hH.string 8
      have hbl := hH.below
      clear hH
      go_wp2
      go_ret
      exact ⟨rfl, hbl⟩
end Go.Proofs.YtcbcjefefmbccabDoor
namespace Go.Proofs.YtcbcjefefmbccabDoor
open Go.RowKit

set_option maxHeartbeats 1000000 in
theorem byte_any (c : UInt8) (x : Int) (hx : x = c.toNat) (w : World) :
    Calls Tryd.prog 57 #[.int .i64 x] w fun e w' => e = .returned (.string ⟨#[c]⟩) ∧ Below w.heap.size w w' := by
  subst hx
  have hcv : (convert 91 9 (.slice (some ⟨w.heap.size, 0, none⟩) 1 1)).run Tryd.prog (w.alloc (.cells #[.int .u8 (c.toNat : Int)] 5)) = .ok (.string ⟨#[c]⟩) (w.alloc (.cells #[.int .u8 (c.toNat : Int)] 5)) := by
    have := run_convert_bytes_back (P := Tryd.prog) (w.alloc (.cells #[.int .u8 (c.toNat : Int)] 5)) 91 9 5 ⟨w.heap.size, 0, none⟩ 1 [c] Tryd.underlying91 Tryd.underlying5 Tryd.underlying9 (fun j hj => by
      have hj0 : j = 0 := by simpa using hj
      subst hj0
      have hp : (⟨w.heap.size, 0, none⟩ : Addr).add 0 = ⟨w.heap.size, 0, none⟩ := by unfold Addr.add; split <;> simp_all
      rw [hp]
      simp)
    simpa using this
  have hn := c.toNat_lt
  have hn' : (c.toNat : Int) % 256 = c.toNat := by omega
  clear hn
  go_enter Tryd.func57, Tryd.ntmps57
  go_wp2
  go_ret
  exact ⟨rfl, (Below.refl _ _).alloc (Nat.le_refl _) _⟩

theorem str_append (a b : List UInt8) : (⟨a.toArray⟩ : ByteArray) ++ ⟨b.toArray⟩ = ⟨(a ++ b).toArray⟩ := by
  apply ByteArray.ext
  simp [ByteArray.data_append]
theorem decDigits_le19 (u : Nat) (h : u ≤ 9223372036854775807) : (Lib.decDigits u).length ≤ 19 := by
  have h4 : (10 : Nat) ^ 19 = 10000000000000000000 := by decide
  exact decDigits_len_le u 19 (by decide) (by rw [h4]; omega)
theorem dig_nat : ∀ d : Fin 10, (UInt8.ofNat (48 + d.val)).toNat = 48 + d.val := by decide

set_option maxHeartbeats 1000000 in
theorem below_any (f : Nat) : ∀ (u : Nat) (x : Int) (w : World), u < f → x = -(u : Int) → u ≤ 9223372036854775807 →
    Calls Tryd.prog 49 #[.int .i64 x] w fun e w' => e = .returned (.string ⟨(Lib.decDigits u).toArray⟩) ∧ Below w.heap.size w w' := by
  induction f with
  | zero => intro u x w h; omega
  | succ f ih =>
    intro u x w hu hx hmax
    by_cases h10 : u < 10
    · have hgt : -10 < x := by omega
      have hlo : x ≤ 0 := by omega
      have HX : Hid (x = -(u : Int)) := hx
      clear hx ih
      have hdg := dig_nat ⟨u, h10⟩
      have hdd : Lib.decDigits u = [UInt8.ofNat (48 + u)] := by rw [Lib.decDigits, dif_pos h10]
      simp only at hdg
      generalize UInt8.ofNat (48 + u) = c at *
      have HG : Hid (c.toNat = 48 + u) := hdg
      have HD : Hid (Lib.decDigits u = [c]) := hdd
      clear hdg hdd
      go_enter Tryd.func49, Tryd.ntmps49
      go_wp2_with fail
      refine (byte_any c _ (by have := HX.out; have := HG.out; omega) _).mono ?_
      rintro e w' ⟨rfl, hb⟩
      go_wp2_with fail
      go_ret
      exact ⟨by rw [HD.out]; rfl, hb⟩
    · have hgt : ¬ -10 < x := by omega
      have hlo : -9223372036854775807 ≤ x := by omega
      have hhi : x ≤ 0 := by omega
      have hdg := dig_nat ⟨u % 10, by omega⟩
      have hdd : Lib.decDigits u = Lib.decDigits (u / 10) ++ [UInt8.ofNat (48 + u % 10)] := by rw [Lib.decDigits, dif_neg h10]
      simp only at hdg
      generalize UInt8.ofNat (48 + u % 10) = c at *
      have HG : Hid (c.toNat = 48 + u % 10) := hdg
      have HD : Hid (Lib.decDigits u = Lib.decDigits (u / 10) ++ [c]) := hdd
      have HX : Hid (x = -(u : Int)) := hx
      have HI : Hid _ := ih
      have ht1 : x.tdiv 10 = -((u / 10 : Nat) : Int) := by rw [hx, Int.neg_tdiv]; simp
      have ht2 : x.tmod 10 = -((u % 10 : Nat) : Int) := by rw [hx, Int.neg_tmod, Int.tmod_eq_emod_of_nonneg (by omega)]; omega
      have hl := decDigits_le19 (u / 10) (by omega)
      have hr1 : -9 ≤ x.tmod 10 := by omega
      have hr2 : x.tmod 10 ≤ 0 := by omega
      have HT1 : Hid (x.tdiv 10 = -((u / 10 : Nat) : Int)) := ht1
      have HT2 : Hid (x.tmod 10 = -((u % 10 : Nat) : Int)) := ht2
      clear hx hdg hdd ih ht1 ht2
      go_enter Tryd.func49, Tryd.ntmps49
      go_wp2_with fail
      refine (HI.out (u / 10) _ _ (by omega) HT1.out (by omega)).mono ?_
      rintro e w1 ⟨rfl, hb1⟩
      go_wp2_with fail
      refine (byte_any c _ ?_ _).mono ?_
      · have h1 := HT2.out
        have h2 := HG.out
        omega
      rintro e w2 ⟨rfl, hb2⟩
      go_wp2_with fail
      go_ret
      refine ⟨?_, hb1.trans (hb2.mono hb1.size)⟩
      rw [HD.out, ← str_append]
      rfl

theorem decimal_any (u : Nat) (hu : u ≤ 9223372036854775807) (w : World) :
    Calls Tryd.prog 36 #[.int .i64 u] w fun e w' => e = .returned (.string ⟨(Lib.decDigits u).toArray⟩) ∧ Below w.heap.size w w' := by
  have h0 : ¬ (u : Int) < 0 := by omega
  go_enter Tryd.func36, Tryd.ntmps36
  go_wp2_with fail
  refine (below_any (u + 1) u _ _ (by omega) (by omega) hu).mono ?_
  rintro e w1 ⟨rfl, hb1⟩
  go_wp2_with fail
  go_ret
  exact ⟨rfl, hb1⟩
end Go.Proofs.YtcbcjefefmbccabDoor
