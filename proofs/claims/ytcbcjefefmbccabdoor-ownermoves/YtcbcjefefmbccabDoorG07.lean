/-
  Own text. owner.cutAt by a contract: rising nodes cut at a number.
  Own text. slices.Grow and slices.Concat at ints by contracts; append of ints to a row that is one's own.
-/
import Derived.Test.YtcbcjefefmbccabDoorG06
import Derived.Laws.AppendOwnNone
import Derived.Lib.AppendZerosOnto
namespace Go.Proofs.YtcbcjefefmbccabDoor
open Go.RowKit

abbrev intV (x : Int) : Value := .int .i64 x
/- A slice of ints that holds xs, and can be cut. -/
def IntsS (w : World) (v : Value) (xs : List Int) : Prop :=
  (xs = [] ∧ v = .slice none 0 0) ∨ ∃ b o c, v = .slice (some ⟨b, o, none⟩) xs.length c ∧ xs.length ≤ c ∧ b < w.heap.size ∧ ∀ i (h : i < xs.length), w.cell? ⟨b, o + i, none⟩ = some (.int .i64 xs[i])
theorem IntsS.c {w : World} {v : Value} {xs : List Int} (h : IntsS w v xs) : IntsC w v xs := by
  rcases h with ⟨rfl, rfl⟩ | ⟨b, o, c, rfl, hc, hb, hcell⟩
  · exact ⟨none, 0, rfl, fun i hi => by simp at hi⟩
  · refine ⟨some ⟨b, o, none⟩, c, by rw [List.length_map], fun i hi => ⟨b, o, rfl, ⟨hb, by rw [List.length_map]; exact hc⟩, ?_⟩⟩
    rw [List.getElem_map]
    exact hcell i (by simpa using hi)
theorem IntsS.below {w w' : World} {v : Value} {xs : List Int} (h : IntsS w v xs) (hb : Below w.heap.size w w') : IntsS w' v xs := by
  rcases h with h | ⟨b, o, c, rfl, hc, hlt, hcell⟩
  · exact .inl h
  · exact .inr ⟨b, o, c, rfl, hc, Nat.lt_of_lt_of_le hlt hb.size, fun i hi => (hb.cell (p := ⟨b, o + i, none⟩) hlt).trans (hcell i hi)⟩
theorem IntsS.of_row {w : World} {base : Nat} {e : TypeId} {v : Value} {n : Nat} {xs : List Int} (h : w.ownsRow base e 1 v n (xs.map intV)) : IntsS w v xs := by
  have hl := h.1
  rw [List.length_map, Nat.mul_one] at hl
  obtain ⟨p, c, hv, hcell⟩ := CellsAt.of_row h
  rcases h.2 with ⟨rfl, h0⟩ | ⟨g, cap, cur, rfl, hg, hb, h1, h2, h3, h4⟩
  · exact .inl ⟨List.length_eq_zero_iff.1 (by omega), rfl⟩
  · have hlt : g < w.heap.size := by
      rcases Nat.lt_or_ge g w.heap.size with h' | h'
      · exact h'
      · simp [Array.getElem?_eq_none h'] at hb
    rw [List.length_map] at hv
    have hv' : some ⟨g, 0, none⟩ = p ∧ n = xs.length ∧ cap = c := by simpa using hv
    obtain ⟨rfl, _, rfl⟩ := hv'
    refine .inr ⟨g, 0, cap, by rw [hl], by omega, hlt, fun i hi => ?_⟩
    obtain ⟨b', o', hp, _, hc⟩ := hcell i (by simpa using hi)
    obtain ⟨rfl, rfl⟩ : g = b' ∧ 0 = o' := by simpa using hp
    rw [List.getElem_map] at hc
    exact hc
theorem IntsS.of_c {w : World} {v : Value} {xs : List Int} (h : IntsC w v xs) (hne : xs ≠ []) : IntsS w v xs := by
  obtain ⟨p, c, rfl, hcell⟩ := h
  have hpos : 0 < (xs.map intV).length := by rw [List.length_map]; exact List.length_pos_iff.2 hne
  obtain ⟨b, o, rfl, ⟨hlt, hc⟩, _⟩ := hcell 0 hpos
  refine .inr ⟨b, o, c, by rw [List.length_map], by simpa using hc, hlt, fun i hi => ?_⟩
  obtain ⟨b', o', hp, _, hc⟩ := hcell i (by simpa using hi)
  obtain ⟨rfl, rfl⟩ : b = b' ∧ o = o' := by simpa using hp
  rw [List.getElem_map] at hc
  exact hc
theorem slI_from (b o n c i : Nat) (hi : i ≤ n) (hc : n ≤ c) (j : Int) (hj : j = (i : Int)) : ∃ o4 c4, (∀ w : World, (Instr.slice 22 (.slice (some ⟨b, o, none⟩) n c) (some (.int .i64 j)) none none).run Tryd.prog w = .ok (.slice (some ⟨b, o4, none⟩) (n - i) c4) w) ∧ n - i ≤ c4 ∧ (i < n → o4 = o + i) := by
  subst hj
  have hj1 : (0 : Int) ≤ (i : Int) := by omega
  have hj2 : (i : Int) ≤ (n : Int) := by omega
  by_cases hcap : c = i
  · refine ⟨o, c - i, fun w => ?_, by omega, fun h => by omega⟩
    go_simp
  · by_cases h0 : i = 0
    · subst h0
      refine ⟨o, c - 0, fun w => ?_, by omega, fun h => by simp⟩
      go_simp
    · refine ⟨o + i, c - i, fun w => ?_, by omega, fun h => rfl⟩
      go_simp
theorem slI_upto (b o n c i : Nat) (hi : i ≤ n) (hc : n ≤ c) : ∀ w : World, (Instr.slice 22 (.slice (some ⟨b, o, none⟩) n c) none (some (.int .i64 (i : Int))) none).run Tryd.prog w = .ok (.slice (some ⟨b, o, none⟩) i c) w := by
  have hj1 : (0 : Int) ≤ (i : Int) := by omega
  have hj3 : (i : Int) ≤ (c : Int) := by omega
  intro w
  go_simp
theorem slI_none_from : ∀ w : World, (Instr.slice 22 (.slice none 0 0) (some (.int .i64 0)) none none).run Tryd.prog w = .ok (.slice none 0 0) w := fun w => by go_simp
theorem slI_none_upto : ∀ w : World, (Instr.slice 22 (.slice none 0 0) none (some (.int .i64 0)) none).run Tryd.prog w = .ok (.slice none 0 0) w := fun w => by go_simp
set_option maxHeartbeats 2000000 in
theorem cutAt1_any (LB NB : Nat) (vl : Value) (l : List Int) (n : Int) (k : Nat) (w : World) (hk : k < l.length) (hlen : l.length ≤ 1000) (hv : IntsC w vl l) (hL : Blk w LB #[vl] 22) (hN : Blk w NB #[.int .i64 n] 3) :
    Calls Tryd.prog 39 (#[.int .i64 k] ++ #[.pointer (some ⟨LB, 0, none⟩), .pointer (some ⟨NB, 0, none⟩)]) w fun e w' => e = .returned (.bool (decide (n ≤ l[k]))) ∧ Below w.heap.size w w' := by
  obtain ⟨p, c, rfl, hcell⟩ := hv
  simp only [List.length_map, List.getElem_map] at hcell hL
  obtain ⟨b, o, rfl, _, hc0⟩ := hcell k hk
  have e0 := hL.cell (i := 0) rfl
  have n0 := hN.cell (i := 0) rfl
  have hk' : (k : Int) < (l.length : Int) := by omega
  have hk0 : (0 : Int) ≤ (k : Int) := by omega
  have hll : (l.length : Int) ≤ 1000 := by omega
  obtain ⟨x, hx⟩ : ∃ x, l[k] = x := ⟨_, rfl⟩
  rw [hx] at hc0 ⊢
  clear hcell hx hL hN
  simp only [List.append_toArray, List.cons_append, List.nil_append]
  go_enter Tryd.func39, Tryd.ntmps39
  go_wp2_with fail
  go_quiet (fail)
  have HB := hideN (below_drew_n w nq)
  go_wp2_with fail
  go_ret
  exact ⟨rfl, HB.out⟩
set_option maxRecDepth 100000 in
set_option maxHeartbeats 4000000 in
theorem search_any (LB NB : Nat) (vl : Value) (l : List Int) (n : Int) (w : World) (hn : Nodes l) (hv : IntsC w vl l) (hL : Blk w LB #[vl] 22) (hN : Blk w NB #[.int .i64 n] 3) :
    Calls Tryd.prog 38 #[.int .i64 l.length, .func (.func 39) #[] #[.pointer (some ⟨LB, 0, none⟩), .pointer (some ⟨NB, 0, none⟩)]] w fun e w' => e = .returned (.int .i64 (nPlace l n)) ∧ Below w.heap.size w w' := by
  have hlen := hn.length
  have HC : Hid (∀ k (hk : k < l.length) W, Below w.heap.size w W → Calls Tryd.prog 39 (#[.int .i64 k] ++ #[.pointer (some ⟨LB, 0, none⟩), .pointer (some ⟨NB, 0, none⟩)]) W fun e w' => e = .returned (.bool (decide (n ≤ l[k]))) ∧ Below W.heap.size W w') :=
    fun k hk W hb => cutAt1_any LB NB vl l n k W hk (by omega) (hv.below hb) (hL.below hb hL.lt) (hN.below hb hN.lt)
  have HLT : Hid (∀ k (hk : k < l.length), k < nPlace l n ↔ l[k] < n) := fun k hk => by
    constructor
    · intro h
      exact nPlace_lt h
    · intro h
      rcases Nat.lt_or_ge k (nPlace l n) with h1 | h1
      · exact h1
      · have := nPlace_ge hn hk h1
        omega
  have HPL := hideN (nPlace_le l n)
  obtain ⟨P, hP⟩ : ∃ P, nPlace l n = P := ⟨_, rfl⟩
  rw [hP] at HLT HPL ⊢
  have hll : (l.length : Int) ≤ 6 := by omega
  obtain ⟨m, hm⟩ : ∃ m, l.length = m := ⟨_, rfl⟩
  have HM := hideN hm
  rw [hm] at hll HPL ⊢
  clear hm hP hlen hv hL hN hn
  go_enter Tryd.func38, Tryd.ntmps38
  go_wp2_with fail
  go_loopw [5, 6] (fun iv jv wr => ∃ lo hi : Nat, iv = .int .i64 lo ∧ jv = .int .i64 hi ∧ lo ≤ hi ∧ hi ≤ m ∧ lo ≤ P ∧ P ≤ hi ∧ Hid (Below w.heap.size w wr)) (fun iv jv _ => (intOf jv).toNat - (intOf iv).toNat)
  case atStart => exact ⟨0, m, rfl, rfl, Nat.zero_le _, Nat.le_refl _, Nat.zero_le _, HPL.out, Below.refl _ _⟩
  case round =>
    obtain ⟨lo, hi, rfl, rfl, hlh, hin, hlp, hph, HB⟩ := hrel
    by_cases hlt : lo < hi
    · have hlt' : (lo : Int) < (hi : Int) := by omega
      have hmid : (lo + hi) / 2 < l.length := by have := HM.out; omega
      have hc := HC.out ((lo + hi) / 2) hmid wr HB.out
      have HL := hideN (HLT.out ((lo + hi) / 2) hmid)
      rw [show (((lo + hi) / 2 : Nat) : Int) = ((lo : Int) + (hi : Int)) / 2 by omega] at hc
      have hh : hi ≤ 6 := by omega
      by_cases hp : n ≤ l[(lo + hi) / 2]
      · rw [decide_eq_true hp] at hc
        have HQ : Hid (P ≤ (lo + hi) / 2) := by
          have := HL.out
          show _ ≤ _
          rcases Nat.lt_or_ge ((lo + hi) / 2) P with h | h
          · have := this.1 h
            omega
          · exact h
        have HCK := hideN hc
        clear hp hc HL
        go_wp2_with fail
        refine HCK.out.mono ?_
        rintro e w2 ⟨rfl, hb2⟩
        have HB2 : Hid (Below w.heap.size w w2) := HB.out.trans (hb2.mono HB.out.size)
        clear hb2
        go_wp2_with fail
        go_roundw
        case rel => exact ⟨lo, (lo + hi) / 2, rfl, by rw [show ((lo : Int) + (hi : Int)) / 2 = (((lo + hi) / 2 : Nat) : Int) by omega], by omega, by omega, hlp, HQ.out, HB2.out⟩
        case measure => simp [intOf]; omega
      · rw [decide_eq_false hp] at hc
        have HQ : Hid ((lo + hi) / 2 + 1 ≤ P) := HL.out.2 (by omega)
        have HCK := hideN hc
        clear hp hc HL
        go_wp2_with fail
        refine HCK.out.mono ?_
        rintro e w2 ⟨rfl, hb2⟩
        have HB2 : Hid (Below w.heap.size w w2) := HB.out.trans (hb2.mono HB.out.size)
        clear hb2
        go_wp2_with fail
        go_roundw
        case rel => exact ⟨(lo + hi) / 2 + 1, hi, by rw [show ((lo : Int) + (hi : Int)) / 2 + 1 = (((lo + hi) / 2 + 1 : Nat) : Int) by omega], rfl, by omega, hin, HQ.out, hph, HB2.out⟩
        case measure => simp [intOf]; omega
    · obtain rfl : lo = hi := by omega
      obtain rfl : lo = P := by omega
      go_wp2_with fail
      go_ret
      exact ⟨rfl, HB.out⟩
end Go.Proofs.YtcbcjefefmbccabDoor
namespace Go.Proofs.YtcbcjefefmbccabDoor
open Go.RowKit

theorem infoIO : (Tryd.prog.info? 3).map (fun i => (i.zero, i.size, i.bytes)) = some (some (.int .i64 0), 1, 8) := by kernel_rfl
theorem infoIO' : ∃ ti, Tryd.prog.info? 3 = some ti ∧ ti.zero = some (.int .i64 0) ∧ ti.size = 1 ∧ ti.bytes = 8 := by
  have h := infoIO
  cases hi : Tryd.prog.info? 3 with
  | none => rw [hi] at h; simp at h
  | some ti => rw [hi] at h; simp at h; exact ⟨ti, rfl, h.1, h.2.1, h.2.2⟩
theorem intV_one (l : List Int) : ∀ u ∈ l.map intV, u.oneCell' = true := fun u hu => by
  obtain ⟨x, _, rfl⟩ := List.mem_map.1 hu
  rfl
/- append(s, x...), where s is one's own row of ints. -/
theorem wpI_append {w : World} {ops : Array Oper} {rest : List Oper} {o : Oper} {a : Act} {Q : Exit → Act → World → Prop} (hgd : o.guard = none) (s x : Operand)
    (ho : o.op = .call { callee := .builtin .append, args := #[s, x], argTypes := #[ 22, 22 ] }) (base : Nat) (v vx : Value) (xs ys : List Int) (hs : a.eval s = v) (hx : a.eval x = vx)
    (hown : w.ownsRow base 3 1 v xs.length (xs.map intV)) (hv : IntsS w vx ys) (hb : xs.length + ys.length ≤ 100000) (hbase : base ≤ w.heap.size)
    (h : ∀ v' w', w'.ownsRow base 3 1 v' (xs ++ ys).length ((xs ++ ys).map intV) → w.grownBy w' v.ownBlock → wpList Tryd.prog ops Q rest (a.put o.dst v') w') : wpList Tryd.prog ops Q (o :: rest) a w := by
  obtain ⟨ti, hti, hz0, hz1, hz2⟩ := infoIO'
  rcases hv with ⟨rfl, rfl⟩ | ⟨b, of, c, rfl, hc, hlt, hcell⟩
  · refine wpList_append_own_none hgd s x 22 ho base 3 ti 1 Tryd.underlying22 hti v xs.length (xs.map intV) hs hown hx ?_
    refine h v w ?_ ⟨rfl, rfl, rfl, Nat.le_refl _, fun _ _ _ => rfl⟩
    rw [List.append_nil]
    exact hown
  · refine wpList_append_own w hgd s x 22 ho base 3 ti (.int .i64 0) 1 8 Tryd.underlying22 hti hz0 hz1 hz2 rfl (by decide) v xs.length (xs.map intV) hs hown ⟨b, of, none⟩ ys.length c (ys.map intV) hx (by simp) ?_ (intV_one ys) (by unfold maxLen; omega) (by omega) hbase ?_
    · intro j u hj
      have hjl := (List.getElem?_eq_some_iff.1 hj).1
      rw [List.length_map] at hjl
      have e : (⟨b, of, none⟩ : Addr).add j = ⟨b, of + j, none⟩ := by unfold Addr.add; split <;> simp_all
      rw [e, hcell j hjl]
      rw [List.getElem?_map, List.getElem?_eq_getElem hjl] at hj
      simpa using hj
    · intro v' w' h2 h3 _
      refine h v' w' ?_ h3
      rw [List.length_append, List.map_append]
      exact h2
set_option maxHeartbeats 4000000 in
set_option maxRecDepth 100000 in
theorem growI_any (n : Nat) (hn : n ≤ 100000) (w : World) :
    Calls Tryd.prog 40 #[.slice none 0 0, .int .i64 n] w fun e w' => ∃ v, e = .returned v ∧ w'.ownsRow w.heap.size 3 1 v 0 [] ∧ Below w.heap.size w w' := by
  obtain ⟨ti, hti, hz0, hz1, hz2⟩ := infoIO'
  by_cases h0 : n = 0
  · subst h0
    go_enter Tryd.func40, Tryd.ntmps40
    go_wp2_with fail
    go_ret
    exact ⟨_, rfl, World.ownsRow_nil _ _ _ _, Below.refl _ _⟩
  · have h1 : ¬ ((n : Int) < 0) := by omega
    have h3 : wrap64 (n : Int) = (n : Int) := by unfold wrap64; omega
    have h4 : (n : Int) > 0 := by omega
    have h5 : 0 < n := by omega
    have hrz : ∀ ty, (Builtin.append_ #[ 22, 3 ] ty #[.slice none 0 0, .int .i64 (n : Int)]).run Tryd.prog w =
        .ok (.slice (some ⟨w.heap.size, 0, none⟩) (0 + n) (grownCap w (0 + n) 0 3)) (w.drew.alloc (.cells (([] : List Value).toArray ++ Builtin.zeroCells (Value.int .i64 0).cells n ++ Builtin.zeroCells (Value.int .i64 0).cells (grownCap w (0 + n) 0 3 - (0 + n))) 3)) := fun ty =>
      Lib.run_append_grow_zeros w 22 3 ty 3 ti (.int .i64 0) .i64 .i64 Tryd.underlying22 Tryd.underlying3 hti hz0 none 0 0 [] (run_firstCells_none w.drew ti.size 0 0 0) n h5 (by rw [hz1]; decide) (by omega) (by omega) (by rw [hz2]; omega) (by rw [hz2]; exact growslice_fits (by omega) (by omega))
    have hGn : 0 + n ≤ grownCap w (0 + n) 0 3 := grownCap_ge w _ _ _
    have hGm : grownCap w (0 + n) 0 3 ≤ maxLen := grownCap_le_maxLen w (0 + n) 0 3 (by unfold maxLen; omega)
    obtain ⟨G, hG⟩ : ∃ G, grownCap w (0 + n) 0 3 = G := ⟨_, rfl⟩
    rw [hG] at hrz hGn hGm
    obtain ⟨C, hC⟩ : ∃ C, (([] : List Value).toArray ++ Builtin.zeroCells (Value.int .i64 0).cells n ++ Builtin.zeroCells (Value.int .i64 0).cells (G - (0 + n))) = C := ⟨_, rfl⟩
    have hCS : C.size = G * 1 := by
      rw [← hC]
      have : ∀ m, (Builtin.zeroCells (Value.int .i64 0).cells m).size = m := fun m => by simp [Builtin.zeroCells, Value.cells]
      rw [Array.size_append, Array.size_append, this, this]
      simp
      omega
    rw [hC] at hrz
    rw [Nat.zero_add] at hrz hGn
    have HROW : Hid ((w.drew.alloc (.cells C 3)).ownsRow w.heap.size 3 1 (.slice (some ⟨w.heap.size, 0, none⟩) 0 G) 0 []) := World.ownsRow_made (base := w.heap.size) w.drew C G (Nat.le_refl _) hGm hCS
    have HB : Hid (Below w.heap.size w (w.drew.alloc (.cells C 3))) := (Below.refl _ w).drew.alloc (Nat.le_refl _) _
    have hG63 : (G : Int) ≤ 9223372036854775807 := by unfold maxLen at hGm; omega
    have hn1 : (n : Int) ≤ 100000 := by omega
    clear hC hCS hG hGm hz0 hz1 hz2 hti
    go_enter Tryd.func40, Tryd.ntmps40
    go_wp2_with (at_builtin; refine Lib.wpList_append_run _ rfl _ _ _ _ rfl _ _ rfl rfl _ _ (hrz _) ?_)
    go_ret
    exact ⟨_, rfl, HROW.out, HB.out⟩
/- The first k of xs, one behind the other. -/
def cat (xs : Nat → List Int) : Nat → List Int
  | 0 => []
  | k + 1 => cat xs k ++ xs k
theorem cat_len (xs : Nat → List Int) (h : ∀ k, (xs k).length ≤ 1000) : ∀ k, (cat xs k).length ≤ 1000 * k
  | 0 => by simp [cat]
  | k + 1 => by
    rw [cat, List.length_append]
    have := cat_len xs h k
    have := h k
    omega
set_option maxHeartbeats 4000000 in
set_option maxRecDepth 100000 in
theorem concat_any (SB m c : Nat) (vv : Nat → Value) (xs : Nat → List Int) (w : World) (hm : m ≤ 10) (hlen : ∀ k, (xs k).length ≤ 1000) (hcell : ∀ k, k < m → w.cell? ⟨SB, k, none⟩ = some (vv k)) (hv : ∀ k, k < m → IntsS w (vv k) (xs k)) :
    Calls Tryd.prog 27 #[.slice (some ⟨SB, 0, none⟩) m c] w fun e w' => ∃ v, e = .returned v ∧ w'.ownsRow w.heap.size 3 1 v (cat xs m).length ((cat xs m).map intV) ∧ Below w.heap.size w w' := by
  have HC : Hid (∀ W, Below w.heap.size w W → ∀ k, k < m → W.cell? ⟨SB, k, none⟩ = some (vv k)) := fun W hb k hk => (hb.cell (p := ⟨SB, k, none⟩) (lt_of_cell (hcell k hk))).trans (hcell k hk)
  have HV : Hid (∀ W, Below w.heap.size w W → ∀ k, k < m → IntsS W (vv k) (xs k)) := fun W hb k hk => (hv k hk).below hb
  have HL := hideN hlen
  have HCL := hideN (cat_len xs hlen)
  have HS : Hid (∀ W, Below w.heap.size w W → ∀ k, k < m → ∃ p cc, vv k = .slice p (xs k).length cc) := fun W hb k hk => by
    rcases hv k hk with ⟨h1, h2⟩ | ⟨b, o, cc, h2, _⟩
    · exact ⟨none, 0, by rw [h1, h2]; rfl⟩
    · exact ⟨_, _, h2⟩
  have hm' : (m : Int) ≤ 10 := by omega
  have HM := hideN hm
  clear hcell hv hlen hm
  go_enter Tryd.func27, Tryd.ntmps27
  go_wp2_with fail
  go_loopw [3, 11] (fun sv iv wr => ∃ k : Nat, k ≤ m ∧ iv = .int .i64 k ∧ sv = .int .i64 (cat xs k).length ∧ w = wr) (fun _ iv _ => m - (intOf iv).toNat)
  case atStart => exact ⟨0, Nat.zero_le _, rfl, rfl, rfl⟩
  case round =>
    obtain ⟨k, hk, rfl, rfl, rfl⟩ := hrel
    by_cases hlt : k < m
    · have hlt' : (k : Int) < (m : Int) := by omega
      have hk0 : (0 : Int) ≤ (k : Int) := by omega
      have hck := HC.out _ (Below.refl _ _) k hlt
      obtain ⟨p, cc, hvk⟩ := HS.out _ (Below.refl _ _) k hlt
      have hx := HL.out k
      have hc1 := HCL.out k
      have HCE : Hid ((cat xs (k + 1)).length = (cat xs k).length + (xs k).length) := by show _ = _; rw [cat, List.length_append]
      obtain ⟨L, hL⟩ : ∃ L, (xs k).length = L := ⟨_, rfl⟩
      obtain ⟨S, hS⟩ : ∃ S, (cat xs k).length = S := ⟨_, rfl⟩
      rw [hL] at hvk hx HCE
      rw [hS] at hc1 HCE ⊢
      rw [hvk] at hck
      have hM := HM.out
      have hs1 : (S : Int) ≤ 10000 := by omega
      have hl1 : (L : Int) ≤ 1000 := by omega
      have hw1 : IntKind.i64.wrap ((S : Int) + (L : Int)) = (S : Int) + (L : Int) := by rw [IntKind.wrap_i64]; omega
      have hns : ¬ ((S : Int) + (L : Int)) < 0 := by omega
      have HKL := hideN hlt
      clear hvk hL hS hx hc1 hM hlt
      go_wp2_with fail
      go_roundw
      case rel => exact ⟨k + 1, HKL.out, by go_num, by rw [HCE.out]; push_cast; rfl, trivial⟩
      case measure => simp [intOf]; omega
    · have hge : (m : Int) ≤ (k : Int) := by omega
      obtain rfl : k = m := by omega
      have HG := hideN (growI_any (cat xs k).length (by have := HCL.out k; have := HM.out; omega) w)
      have hc1 := HCL.out k
      have hM := HM.out
      have hs1 : ((cat xs k).length : Int) ≤ 10000 := by omega
      clear hc1 hM hlt
      go_wp2_with fail
      refine HG.out.mono ?_
      rintro e w1 ⟨v1, rfl, hrow, hb1⟩
      have HROW : Hid (w1.ownsRow w.heap.size 3 1 v1 (cat xs 0).length ((cat xs 0).map intV)) := hrow
      have HB1 := hideN hb1
      clear hrow hb1 HG
      go_wp2_with fail
      go_loopw [6, 27] (fun sv iv wr => ∃ j : Nat, j ≤ k ∧ iv = .int .i64 j ∧ Hid (wr.ownsRow w.heap.size 3 1 sv (cat xs j).length ((cat xs j).map intV)) ∧ Hid (Below w.heap.size w wr)) (fun _ iv _ => k - (intOf iv).toNat)
      case atStart => exact ⟨0, Nat.zero_le _, rfl, HROW.out, HB1.out⟩
      case round =>
        clear HROW HB1
        obtain ⟨j, hj, rfl, HR, HB⟩ := hrel
        by_cases hjk : j < k
        · have hjk' : (j : Int) < (k : Int) := by omega
          have hj0 : (0 : Int) ≤ (j : Int) := by omega
          have hcj := HC.out wr HB.out j hjk
          have HVJ := hideN (HV.out wr HB.out j hjk)
          have HCJ := hideN (HCL.out j)
          have HLJ := hideN (HL.out j)
          have HJK := hideN hjk
          clear hjk
          go_wp2_with (at_builtin; refine wpI_append rfl _ _ rfl w.heap.size _ (vv j) (cat xs j) (xs j) rfl rfl HR.out HVJ.out (by have := HCJ.out; have := HLJ.out; have := HM.out; omega) HB.out.size ?_; intro v3 w3 ho3 hg3; have HR3 : Hid (w3.ownsRow w.heap.size 3 1 v3 (cat xs (j + 1)).length ((cat xs (j + 1)).map intV)) := ho3; have HB3 : Hid (Below w.heap.size w w3) := HB.out.grown hg3 HB.out.size (fun k hk => (HR.out.lt k hk).1); clear ho3 hg3)
          go_roundw
          case rel => exact ⟨j + 1, HJK.out, by go_num, HR3.out, HB3.out⟩
          case measure => simp [intOf]; omega
        · have hjge : (k : Int) ≤ (j : Int) := by omega
          obtain rfl : j = k := by omega
          clear hjk
          go_wp2_with fail
          go_ret
          exact ⟨_, rfl, HR.out, HB.out⟩
end Go.Proofs.YtcbcjefefmbccabDoor
