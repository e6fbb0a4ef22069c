/-
  Own text. The document's JoinNodes and LeaveNodes by contracts.
-/
import Derived.Test.YtcbcjefefmbccabDoorT07
import Derived.Deep.AppendLies
namespace Go.Proofs.YtcbcjefefmbccabDoor
open Go.RowKit

/- A slice of ints that holds xs, wherever an empty one lies. -/
def IntsE (w : World) (v : Value) (xs : List Int) : Prop := IntsS w v xs ∨ (xs = [] ∧ ∃ ad c, v = .slice (some ad) 0 c)
theorem IntsE.below {w w' : World} {v : Value} {xs : List Int} (h : IntsE w v xs) (hb : Below w.heap.size w w') : IntsE w' v xs := h.elim (fun h => .inl (h.below hb)) .inr
theorem IntsE.c {w : World} {v : Value} {xs : List Int} (h : IntsE w v xs) : IntsC w v xs := by
  rcases h with h | ⟨rfl, ad, c, rfl⟩
  · exact h.c
  · exact ⟨some ad, c, rfl, fun i hi => by simp at hi⟩
theorem IntsE.shape {w : World} {v : Value} {xs : List Int} (h : IntsE w v xs) : ∃ p c, v = .slice p xs.length c := by
  rcases h with h | ⟨rfl, ad, c, rfl⟩
  · exact h.shape
  · exact ⟨_, _, rfl⟩
theorem wpE_append {w : World} {o : Oper} {a : Act} {K : Act → World → Prop} {Q : Exit → Act → World → Prop} (s x : Operand)
    (ho : o.op = .call { callee := .builtin .append, args := #[s, x], argTypes := #[ 22, 22 ] }) (base : Nat) (v vx : Value) (xs ys : List Int) (hs : a.eval s = v) (hx : a.eval x = vx)
    (hown : w.ownsRow base 3 1 v xs.length (xs.map intV)) (hv : IntsE w vx ys) (hb : xs.length + ys.length ≤ 100000) (hbase : base ≤ w.heap.size)
    (h : ∀ v' w', w'.ownsRow base 3 1 v' (xs ++ ys).length ((xs ++ ys).map intV) → w.grownBy w' v.ownBlock → K (a.put o.dst v') w') : o.wp Tryd.prog a w K Q := by
  obtain ⟨ti, hti, hz0, hz1, hz2⟩ := infoIO'
  have hsome : ∀ (ad : Addr) (c : Nat), vx = .slice (some ad) ys.length c → (∀ j u, (ys.map intV)[j]? = some u → w.cell? (ad.add j) = some u) → o.wp Tryd.prog a w K Q := fun ad c hvx hcell =>
    wp_append_own w s x 22 ho base 3 ti (.int .i64 0) 1 8 Tryd.underlying22 hti hz0 hz1 hz2 rfl (by decide) v xs.length (xs.map intV) hs hown ad ys.length c (ys.map intV) (hx.trans hvx) (by simp) hcell (intV_one ys) (by unfold maxLen; omega) (by omega) hbase (fun v' w' h2 h3 _ => h v' w' (by rw [List.length_append, List.map_append]; exact h2) h3)
  rcases hv with (⟨rfl, rfl⟩ | ⟨b, of, c, rfl, hc, hlt, hcell⟩) | ⟨rfl, ad, c, rfl⟩
  · have hrun := run_append_owned_none (P := Tryd.prog) (w := w) base 22 o.type 3 ti 1 Tryd.underlying22 hti v xs.length (xs.map intV) hown
    unfold Oper.wp
    simp [execOp, ho, resolve, invoke, builtin, hs, hx, hrun, Result.andThen]
    exact h v w (by rw [List.append_nil]; exact hown) ⟨rfl, rfl, rfl, Nat.le_refl _, fun _ _ _ => rfl⟩
  · refine hsome ⟨b, of, none⟩ c rfl fun j u hj => ?_
    have hjl := (List.getElem?_eq_some_iff.1 hj).1
    rw [List.length_map] at hjl
    have e : (⟨b, of, none⟩ : Addr).add j = ⟨b, of + j, none⟩ := by unfold Addr.add; split <;> simp_all
    rw [e, hcell j hjl]
    rw [List.getElem?_map, List.getElem?_eq_getElem hjl] at hj
    simpa using hj
  · exact hsome ad c rfl fun j u hj => by simp at hj
theorem wpLE_append {w : World} {ops : Array Oper} {rest : List Oper} {o : Oper} {a : Act} {Q : Exit → Act → World → Prop} (hgd : o.guard = none) (s x : Operand)
    (ho : o.op = .call { callee := .builtin .append, args := #[s, x], argTypes := #[ 22, 22 ] }) (base : Nat) (v vx : Value) (xs ys : List Int) (hs : a.eval s = v) (hx : a.eval x = vx)
    (hown : w.ownsRow base 3 1 v xs.length (xs.map intV)) (hv : IntsE w vx ys) (hb : xs.length + ys.length ≤ 100000) (hbase : base ≤ w.heap.size)
    (h : ∀ v' w', w'.ownsRow base 3 1 v' (xs ++ ys).length ((xs ++ ys).map intV) → w.grownBy w' v.ownBlock → wpList Tryd.prog ops Q rest (a.put o.dst v') w') : wpList Tryd.prog ops Q (o :: rest) a w :=
  wpList_plain hgd fun _ hK => wpE_append s x ho base v vx xs ys hs hx hown hv hb hbase fun v' w' h2 h3 => hK _ _ (h v' w' h2 h3)
theorem stepE_append {w : World} {ops : Array Oper} {o : Oper} {a : Act} {K : Act → World → Prop} {Q : Exit → Act → World → Prop} {E : Prop} (hgd : o.guard = none) (s x : Operand)
    (ho : o.op = .call { callee := .builtin .append, args := #[s, x], argTypes := #[ 22, 22 ] }) (base : Nat) (v vx : Value) (xs ys : List Int) (hs : a.eval s = v) (hx : a.eval x = vx)
    (hown : w.ownsRow base 3 1 v xs.length (xs.map intV)) (hv : IntsE w vx ys) (hb : xs.length + ys.length ≤ 100000) (hbase : base ≤ w.heap.size)
    (h : ∀ v' w', w'.ownsRow base 3 1 v' (xs ++ ys).length ((xs ++ ys).map intV) → w.grownBy w' v.ownBlock → K (a.put o.dst v') w') :
    if Region.wanted o (yielded ops a.tmps) = true then Oper.wp Tryd.prog o a w K Q else E := by
  have hw : Region.wanted o (yielded ops a.tmps) = true := by simp [Region.wanted, hgd]
  rw [if_pos hw]
  exact wpE_append s x ho base v vx xs ys hs hx hown hv hb hbase h
theorem IntsE.alloc1 (W : World) (x : Int) (e : TypeId) : IntsE (W.alloc (.cells #[.int .i64 x] e)) (.slice (some ⟨W.heap.size, 0, none⟩) 1 1) [x] := .inl (IntsS.one W x e)
/- Below, and a row of one's own: behind an append. -/
theorem below_row {base : Nat} {w W W' : World} {v : Value} {n : Nat} {xs : List Value} (hb : Below base w W) (hr : W.ownsRow base 3 1 v n xs) (hbase : base ≤ W.heap.size) (hg : W.grownBy W' v.ownBlock) : Below base w W' := hb.grown hg hbase fun k hk => (hr.lt k hk).1
theorem insS_store0 {w W : World} {base : Nat} {v : Value} {n : Nat} {xs ys : List Int} (h : IntsS W v xs) (hr : W.ownsRow base 3 1 v n (ys.map intV)) (hb : w.heap.size < base) (a b : Value) : IntsS ((W.setCell ⟨w.heap.size, 0, none⟩ a).setCell ⟨w.heap.size, 1, none⟩ b) v xs := by
  have hl := hr.lt
  rcases h with h | ⟨g, o, c, rfl, hc, hlt, hcell⟩
  · exact .inl h
  · have hg := (hl g rfl).1
    refine .inr ⟨g, o, c, rfl, hc, by simpa using hlt, fun i hi => ?_⟩
    have h1 : (⟨w.heap.size, 1, none⟩ : Addr) ≠ ⟨g, o + i, none⟩ := fun e => by have h9 := congrArg Addr.block e; simp only at h9; omega
    have h0 : (⟨w.heap.size, 0, none⟩ : Addr) ≠ ⟨g, o + i, none⟩ := fun e => by have h9 := congrArg Addr.block e; simp only at h9; omega
    rw [World.cell?_setCell_other _ _ _ _ h1, World.cell?_setCell_other _ _ _ _ h0]
    exact hcell i hi
theorem insS_store {w W : World} {base : Nat} {v v' : Value} {n : Nat} {xs : List Int} (h : IntsS W v xs) (hr : W.ownsRow base 3 1 v n (xs.map intV)) (e : v = v') (hb : w.heap.size < base) (a b : Value) : IntsS (((W.setCell ⟨w.heap.size, 0, none⟩ a).setCell ⟨w.heap.size, 1, none⟩ b).drew) v' xs := by
  subst e
  have hl := hr.lt
  rcases h with h | ⟨g, o, c, rfl, hc, hlt, hcell⟩
  · exact .inl h
  · have hg := (hl g rfl).1
    refine .inr ⟨g, o, c, rfl, hc, by show g < (((W.setCell _ _).setCell _ _).drew).heap.size; simpa using hlt, fun i hi => ?_⟩
    have h1 : (⟨w.heap.size, 1, none⟩ : Addr) ≠ ⟨g, o + i, none⟩ := fun e => by have h9 := congrArg Addr.block e; simp only at h9; omega
    have h0 : (⟨w.heap.size, 0, none⟩ : Addr) ≠ ⟨g, o + i, none⟩ := fun e => by have h9 := congrArg Addr.block e; simp only at h9; omega
    show (((W.setCell _ _).setCell _ _).drew).cell? _ = _
    rw [show (((W.setCell ⟨w.heap.size, 0, none⟩ a).setCell ⟨w.heap.size, 1, none⟩ b).drew).cell? ⟨g, o + i, none⟩ = ((W.setCell ⟨w.heap.size, 0, none⟩ a).setCell ⟨w.heap.size, 1, none⟩ b).cell? ⟨g, o + i, none⟩ from rfl, World.cell?_setCell_other _ _ _ _ h1, World.cell?_setCell_other _ _ _ _ h0]
    exact hcell i hi
def RefPost (w : World) (r : List Int × (Int × Int)) (e : Ending) (w' : World) : Prop :=
  ∃ v, e = .returned (.tuple #[v, faultV r.2.1 r.2.2]) ∧ IntsS w' v r.1 ∧ Below w.heap.size w w' ∧ ∀ k, v.ownBlock = some k → w.heap.size ≤ k
theorem ansE_pos {l : List Int} (h : (checkAns' l).1 ≠ 0) : 0 < (checkAns' l).1 := by
  unfold checkAns' at h ⊢
  split
  · decide
  · rename_i h0
    rcases nodesAns_code l with ⟨h1, _⟩ | ⟨k, _, h1, h2⟩
    · rw [if_neg h0, h1] at h
      exact absurd rfl h
    · rw [h1]; show 0 < nodeErr l k; omega
set_option maxRecDepth 100000 in
set_option maxHeartbeats 8000000 in
theorem refLeave_any (vl : Value) (l : List Int) (n : Int) (w : World) (hlen : l.length ≤ 1000) (hv : IntsE w vl l) :
    Calls Tryd.prog 18 #[vl, .int .i64 n] w (RefPost w (leaveAns l n)) := by
  have hal := (Below.refl w.heap.size w).alloc (Nat.le_refl _) (.cells #[.int .i64 0, .int .i64 0] 39)
  have HRB := hideN (Blk.new w #[.int .i64 0, .int .i64 0] 39)
  have HNF := hideN (refNodes_any vl l _ hlen (hv.below hal).c)
  have HAL := hideN hal
  have HV : Hid (∀ W, Below w.heap.size w W → IntsE W vl l) := fun W hb => hv.below hb
  have HLEN := hideN hlen
  have hll : (l.length : Int) ≤ 1000 := by omega
  unfold RefPost
  by_cases hbad : (checkAns' l).1 ≠ 0
  · have hr : leaveAns l n = ([], checkAns' l) := by unfold leaveAns; rw [if_pos hbad]
    rw [hr]
    have hpos := ansE_pos hbad
    obtain ⟨c1, p1, hcp⟩ : ∃ c1 p1, checkAns' l = (c1, p1) := ⟨_, _, rfl⟩
    rw [hcp] at HNF hpos ⊢
    simp only at HNF hpos ⊢
    obtain ⟨p, c, rfl⟩ := hv.shape
    clear hr hbad hcp hv hal
    go_enter Tryd.func18, Tryd.ntmps18
    go_wp2_with fail
    refine HNF.out.mono ?_
    rintro e w2 ⟨rfl, hb2⟩
    have HB2 : Hid (Below w.heap.size w w2) := HAL.out.trans (hb2.mono HAL.out.size)
    have HR2 := hideN (HRB.out.next hb2)
    clear hb2 HNF
    have hlt2 := HR2.out.lt
    have HAL3 := hideN ((Below.refl w2.heap.size w2).alloc (Nat.le_refl _) (.cells #[.int .i64 c1, .int .i64 p1] 39))
    have HF3 := hideN (Blk.new w2 #[.int .i64 c1, .int .i64 p1] 39)
    have HR3 := hideN (HR2.out.next HAL3.out)
    have HB3 : Hid (Below w.heap.size w _) := hideN (HB2.out.trans (HAL3.out.mono HB2.out.size))
    have k0 := HF3.out.cell (i := 0) rfl
    go_wp2_with fail
    clear k0
    have HNE : Hid (w.heap.size ≠ w2.heap.size) := by have := HR2.out.lt; show _ ≠ _; omega
    obtain ⟨FB, hFB⟩ : ∃ FB, w2.heap.size = FB := ⟨_, rfl⟩
    rw [hFB] at HF3 HNE ⊢
    obtain ⟨W3, hW3⟩ : ∃ W3, w2.alloc (.cells #[.int .i64 c1, .int .i64 p1] 39) = W3 := ⟨_, rfl⟩
    rw [hW3] at HF3 HR3 HB3 ⊢
    clear hW3 hFB HAL3 hlt2 HR2
    have hfbn := HNE.out
    have k0 := HF3.out.cell (i := 0) rfl
    have k1 := HF3.out.cell (i := 1) rfl
    have q0 := HR3.out.cell (i := 0) rfl
    have q1 := HR3.out.cell (i := 1) rfl
    have f0 := HR3.out.frozen 0
    have f1 := HR3.out.frozen 1
    go_region
    all_goals go_wp2_with fail
    all_goals exact bodyPost_ret (v := .tuple #[.slice none 0 0, faultV c1 p1]) (by simp [results, Tryd.results18, go_sem, q0, q1]) rfl ⟨.slice none 0 0, rfl, .inl ⟨rfl, rfl⟩, ((HB3.out.setCell (p := ⟨w.heap.size, 0, none⟩) (by simp) _).setCell (p := ⟨w.heap.size, 1, none⟩) (by simp) _).drew, fun k hk => by cases hk⟩
  have hc0 : checkAns' l = (0, (checkAns' l).2) := Prod.ext (Classical.not_not.1 hbad) rfl
  obtain ⟨hn, hne⟩ := checkAns_of hc0
  rw [checkAns_ok hn hne] at HNF
  simp only at HNF
  have HN := hideN hn
  have hans : leaveAns l n = if n ∈ l then (nDel l n, (0, -1)) else ([], (5, -1)) := by unfold leaveAns; rw [if_neg hbad]
  have HANS := hideN hans
  obtain ⟨p, c, rfl⟩ := hv.shape
  have HPOS : Hid (0 < l.length) := List.length_pos_iff.2 hne
  clear hbad hc0 hn hne hans hv hal
  go_enter Tryd.func18, Tryd.ntmps18
  go_wp2_with fail
  refine HNF.out.mono ?_
  rintro e w2 ⟨rfl, hb2⟩
  have HB2 : Hid (Below w.heap.size w w2) := HAL.out.trans (hb2.mono HAL.out.size)
  have HR2 := hideN (HRB.out.next hb2)
  clear hb2 HNF
  have hlt2 := HR2.out.lt
  have HAL3 := hideN ((Below.refl w2.heap.size w2).alloc (Nat.le_refl _) (.cells #[.int .i64 0, .int .i64 (-1)] 39))
  have HF3 := hideN (Blk.new w2 #[.int .i64 0, .int .i64 (-1)] 39)
  have HR3 := hideN (HR2.out.next HAL3.out)
  have HB3 : Hid (Below w.heap.size w _) := hideN (HB2.out.trans (HAL3.out.mono HB2.out.size))
  have k0 := HF3.out.cell (i := 0) rfl
  go_wp2_with fail
  clear k0
  have HNE : Hid (w.heap.size ≠ w2.heap.size) := by have := HR2.out.lt; show _ ≠ _; omega
  obtain ⟨FB, hFB⟩ : ∃ FB, w2.heap.size = FB := ⟨_, rfl⟩
  rw [hFB] at HF3 HNE ⊢
  obtain ⟨W3, hW3⟩ : ∃ W3, w2.alloc (.cells #[.int .i64 0, .int .i64 (-1)] 39) = W3 := ⟨_, rfl⟩
  rw [hW3] at HF3 HR3 HB3 ⊢
  clear hW3 hFB HAL3 hlt2 HR2
  have HLS : Hid (∀ k (h : k < l.length), nDel (l.take (k + 1)) n = nDel (l.take k) n ++ if l[k] = n then [] else [l[k]]) := fun k h => by
    rw [List.take_succ_eq_append_getElem h]
    unfold nDel
    rw [List.filter_append]
    by_cases e : l[k] = n
    · rw [if_pos e, List.filter_cons_of_neg (by simp [e])]; rfl
    · rw [if_neg e, List.filter_cons_of_pos (by simp [e])]; rfl
  have HDL : Hid (∀ k, (nDel (l.take k) n).length ≤ 1000) := fun k => by
    have h1 : (nDel (l.take k) n).length ≤ (l.take k).length := List.length_filter_le _ _
    rw [List.length_take] at h1
    have := HLEN.out
    omega
  have HCC : Hid (∀ W, Below w.heap.size w W → ∀ k (h : k < l.length), ∃ b o, p = some ⟨b, o, none⟩ ∧ W.cell? ⟨b, o + k, none⟩ = some (.int .i64 l[k])) := fun W hb k hk => by
    obtain ⟨p', c', hve, hcell⟩ := (HV.out W hb).c
    obtain ⟨b, o, hp, _, hc⟩ := hcell k (by rw [List.length_map]; exact hk)
    rw [List.length_map] at hve
    simp only [Value.slice.injEq] at hve
    rw [List.getElem_map] at hc
    exact ⟨b, o, hve.1.trans hp, hc⟩
  go_loopw [7, 8] (fun ov iv wr => ∃ k : Nat, k ≤ l.length ∧ iv = .int .i64 k ∧ Hid (wr.ownsRow W3.heap.size 3 1 ov (nDel (l.take k) n).length ((nDel (l.take k) n).map intV)) ∧ Hid (Below W3.heap.size W3 wr)) (fun _ iv _ => l.length - (intOf iv).toNat)
  case atStart => exact ⟨0, Nat.zero_le _, rfl, World.ownsRow_nil _ _ _ _, Below.refl _ _⟩
  case round =>
    obtain ⟨k, hk, rfl, HROW, HBr⟩ := hrel
    have HBW : Hid (Below w.heap.size w wr) := HB3.out.trans (HBr.out.mono HB3.out.size)
    by_cases hlt : k < l.length
    · have hlt' : (k : Int) < (l.length : Int) := by omega
      have hk0 : (0 : Int) ≤ (k : Int) := by omega
      obtain ⟨b, o, rfl, hck⟩ := HCC.out wr HBW.out k hlt
      have HT := hideN (HLS.out k hlt)
      have HKL := hideN hlt
      obtain ⟨x, hx⟩ : ∃ x, l[k]'hlt = x := ⟨_, rfl⟩
      have HT2 : Hid (nDel (l.take (k + 1)) n = nDel (l.take k) n ++ if x = n then [] else [x]) := by rw [← hx]; exact HT.out
      rw [hx] at hck
      clear hx HT hlt
      by_cases hxn : x = n
      · have hxe : (x == n) = true := beq_iff_eq.2 hxn
        have hxe2 : (x != n) = false := by rw [bne, hxe]; rfl
        have HT3 : Hid (nDel (l.take (k + 1)) n = nDel (l.take k) n) := by have := HT2.out; rw [if_pos hxn, List.append_nil] at this; exact this
        clear hxn HT2
        go_wp2_with fail
        go_roundw
        case rel => exact ⟨k + 1, HKL.out, by go_num, by rw [HT3.out]; exact HROW.out, HBr.out⟩
        case measure => simp [intOf]; have := HKL.out; omega
      · have hxe : (x == n) = false := beq_eq_false_iff_ne.2 hxn
        have hxe2 : (x != n) = true := by rw [bne, hxe]; rfl
        have HT3 : Hid (nDel (l.take (k + 1)) n = nDel (l.take k) n ++ [x]) := by have := HT2.out; rw [if_neg hxn] at this; exact this
        have HDK := hideN (HDL.out k)
        have HTR : Hid (∀ (W : World) (v : Value), W.ownsRow W3.heap.size 3 1 v (nDel (l.take k) n ++ [x]).length ((nDel (l.take k) n ++ [x]).map intV) → W.ownsRow W3.heap.size 3 1 v (nDel (l.take (k + 1)) n).length ((nDel (l.take (k + 1)) n).map intV)) := fun W v h => by
          rw [HT3.out]
          exact h
        have HALr := hideN (HBr.out.alloc HBr.out.size (.cells #[.int .i64 x] 3))
        have HROWA := hideN (HROW.out.alloc (.cells #[.int .i64 x] 3))
        clear hxn HT2
        go_wp2_with (at_builtin; refine wpLE_append rfl _ _ rfl W3.heap.size _ _ (nDel (l.take k) n) [x] rfl rfl HROWA.out (IntsE.alloc1 wr x 3) (by have := HDK.out; show _ + 1 ≤ _; omega) HALr.out.size ?_; intro v5 w5 ho5 hg5; have HR5 := hideN (HTR.out w5 v5 ho5); have HB5 : Hid (Below W3.heap.size W3 w5) := below_row HALr.out HROWA.out HALr.out.size hg5; clear ho5 hg5)
        go_roundw
        case rel => exact ⟨k + 1, HKL.out, by go_num, HR5.out, HB5.out⟩
        case measure => simp [intOf]; have := HKL.out; omega
    · have hge : (l.length : Int) ≤ (k : Int) := by omega
      rw [List.take_of_length_le (show l.length ≤ k by omega)] at HROW
      have HR4 := hideN (HR3.out.next HBr.out)
      have HF4 := hideN (HF3.out.next HBr.out)
      have HVS := hideN (IntsS.of_row HROW.out)
      obtain ⟨p7, c7, rfl⟩ := HVS.out.shape
      clear hlt
      by_cases hm : n ∈ l
      · have HRS : Hid (leaveAns l n = (nDel l n, (0, -1))) := by show _ = _; rw [HANS.out, if_pos hm]
        have hdl := nDel_len hm
        obtain ⟨L7, hL7⟩ : ∃ L, (nDel l n).length = L := ⟨_, rfl⟩
        have HL7 := hideN hL7
        rw [hL7] at hdl ⊢
        have hz : ((L7 : Int) == (l.length : Int)) = false := beq_eq_false_iff_ne.2 (by omega)
        have hz2 : (L7 == l.length) = false := beq_eq_false_iff_ne.2 (by omega)
        clear hL7 hm hdl hk
        have hfbn := HNE.out
        have k0 := HF4.out.cell (i := 0) rfl
        have k1 := HF4.out.cell (i := 1) rfl
        have q0 := HR4.out.cell (i := 0) rfl
        have q1 := HR4.out.cell (i := 1) rfl
        have f0 := HR4.out.frozen 0
        have f1 := HR4.out.frozen 1
        go_wp2_with fail
        clear hz hz2
        go_region
        all_goals go_wp2_with fail
        all_goals exact bodyPost_ret (v := .tuple #[.slice p7 L7 c7, faultV 0 (-1)]) (by simp [results, Tryd.results18, go_sem, q0, q1]) rfl ⟨.slice p7 L7 c7, by rw [HRS.out], by rw [HRS.out]; exact insS_store HVS.out HROW.out (by rw [HL7.out]) HR3.out.lt _ _, ((HBW.out.setCell (p := ⟨w.heap.size, 0, none⟩) (by simp) _).setCell (p := ⟨w.heap.size, 1, none⟩) (by simp) _).drew, fun k hk => Nat.le_trans HB3.out.size (HROW.out.lt k (by rw [← HL7.out] at hk; exact hk)).1⟩
      · have HRS : Hid (leaveAns l n = ([], (5, -1))) := by show _ = _; rw [HANS.out, if_neg hm]
        have hdl := nDel_no hm
        rw [hdl]
        have hz : ((l.length : Int) == (l.length : Int)) = true := by simp
        clear hdl hm
        go_wp2_with fail
        refine (bare_any 5 _).mono ?_
        rintro e w6 ⟨rfl, hb6⟩
        have HB6 : Hid (Below w.heap.size w w6) := HBW.out.trans (hb6.mono HBW.out.size)
        have HR6 := hideN (HR4.out.next hb6)
        clear hb6
        have q0 := HR6.out.cell (i := 0) rfl
        have q1 := HR6.out.cell (i := 1) rfl
        have f0 := HR6.out.frozen 0
        have f1 := HR6.out.frozen 1
        go_wp2_with fail
        exact bodyPost_ret (v := .tuple #[.slice none 0 0, faultV 5 (-1)]) (by simp [results, Tryd.results18, go_sem, q0, q1]) rfl ⟨.slice none 0 0, by first | (rw [HRS.out]; done) | (rw [HRS.out]; rfl), by rw [HRS.out]; exact .inl ⟨rfl, rfl⟩, ((HB6.out.setCell (p := ⟨w.heap.size, 0, none⟩) (by simp) _).setCell (p := ⟨w.heap.size, 1, none⟩) (by simp) _), fun k hk => by cases hk⟩
theorem slE_cut {w : World} {p : Option Addr} {l : List Int} {c : Nat} (h : IntsE w (.slice p l.length c) l) (P : Nat) (hP : P ≤ l.length) :
    ∃ p1 c1 p2 c2, (∀ W : World, (Instr.slice 22 (.slice p l.length c) none (some (.int .i64 (P : Int))) none).run Tryd.prog W = .ok (.slice p1 P c1) W) ∧ (∀ W : World, (Instr.slice 22 (.slice p l.length c) (some (.int .i64 (P : Int))) none none).run Tryd.prog W = .ok (.slice p2 (l.length - P) c2) W) ∧ IntsE w (.slice p1 P c1) (l.take P) ∧ IntsE w (.slice p2 (l.length - P) c2) (l.drop P) := by
  rcases h with (⟨rfl, hv⟩ | ⟨b, o, c', hv, hc, hlt, hcell⟩) | ⟨rfl, ad, c', hv⟩
  · obtain ⟨rfl, rfl⟩ : p = none ∧ c = 0 := by simpa using hv
    obtain rfl : P = 0 := Nat.le_zero.1 hP
    exact ⟨none, 0, none, 0, slI_none_upto, slI_none_from, .inl (.inl ⟨rfl, rfl⟩), .inl (.inl ⟨rfl, rfl⟩)⟩
  · obtain ⟨rfl, rfl⟩ : p = some ⟨b, o, none⟩ ∧ c = c' := by simpa using hv
    obtain ⟨o4, c4, hsl4, hc4, ho4⟩ := slI_from b o l.length c P hP hc P rfl
    refine ⟨some ⟨b, o, none⟩, c, some ⟨b, o4, none⟩, c4, slI_upto b o l.length c P hP hc, hsl4, .inl (.inr ⟨b, o, c, by rw [List.length_take, Nat.min_eq_left hP], by rw [List.length_take]; omega, hlt, fun i hi => ?_⟩), .inl (.inr ⟨b, o4, c4, by rw [List.length_drop], by rw [List.length_drop]; exact hc4, hlt, fun i hi => ?_⟩)⟩
    · rw [List.length_take] at hi
      rw [List.getElem_take]
      exact hcell i (by omega)
    · rw [List.length_drop] at hi
      rw [List.getElem_drop, ho4 (by omega), Nat.add_assoc]
      exact hcell (P + i) (by omega)
  · obtain ⟨rfl, rfl⟩ : p = some ad ∧ c = c' := by simpa using hv
    obtain rfl : P = 0 := Nat.le_zero.1 hP
    have h1 : ∀ W : World, (Instr.slice 22 (.slice (some ad) 0 c) none (some (.int .i64 0)) none).run Tryd.prog W = .ok (.slice (some ad) 0 c) W := fun W => by
      have hj3 : (0 : Int) ≤ (c : Int) := by omega
      go_simp
    have h2 : ∃ p2 c2, ∀ W : World, (Instr.slice 22 (.slice (some ad) 0 c) (some (.int .i64 0)) none none).run Tryd.prog W = .ok (.slice (some p2) 0 c2) W := by
      by_cases h0 : c = 0
      · subst h0
        exact ⟨ad, 0, fun W => by go_simp⟩
      · refine ⟨ad, c, fun W => ?_⟩
        go_simp
    obtain ⟨p2, c2, h2⟩ := h2
    exact ⟨some ad, c, some p2, c2, h1, h2, .inr ⟨rfl, ad, c, rfl⟩, .inr ⟨rfl, p2, c2, rfl⟩⟩
theorem join_alt (l : List Int) (n : Int) : joinAns l n = if (nodesAns l).1 ≠ 0 then ([], nodesAns l) else if nodeOk n = false then ([], (2, -1)) else if n ∈ l then ([], (6, -1)) else (nIns l n, (0, -1)) := by
  unfold joinAns
  by_cases h : l = []
  · subst h
    rw [if_neg (fun h => h.1 rfl), if_neg (show ¬ (nodesAns []).1 ≠ 0 from fun h => h rfl)]
  · have e : checkAns' l = nodesAns l := by unfold checkAns'; rw [if_neg (fun e => h (List.length_eq_zero_iff.1 e))]
    rw [e]
    by_cases h2 : (nodesAns l).1 ≠ 0
    · rw [if_pos ⟨h, h2⟩, if_pos h2]
    · rw [if_neg (fun h => h2 h.2), if_neg h2]
set_option maxRecDepth 100000 in
set_option maxHeartbeats 8000000 in
theorem refJoin_any (vl : Value) (l : List Int) (n : Int) (w : World) (hlen : l.length ≤ 1000) (hv : IntsE w vl l) :
    Calls Tryd.prog 17 #[vl, .int .i64 n] w (RefPost w (joinAns l n)) := by
  have hal := (Below.refl w.heap.size w).alloc (Nat.le_refl _) (.cells #[.int .i64 0, .int .i64 0] 39)
  have HRB := hideN (Blk.new w #[.int .i64 0, .int .i64 0] 39)
  have HNF := hideN (nodesFault_any vl l _ hlen (hv.below hal).c)
  have HAL := hideN hal
  have HV : Hid (∀ W, Below w.heap.size w W → IntsE W vl l) := fun W hb => hv.below hb
  have HLEN := hideN hlen
  have hll : (l.length : Int) ≤ 1000 := by omega
  unfold RefPost
  have HALT := hideN (join_alt l n)
  by_cases hbad : (nodesAns l).1 ≠ 0
  · have hr : joinAns l n = ([], nodesAns l) := by rw [HALT.out, if_pos hbad]
    rw [hr]
    have hpos : 0 < (nodesAns l).1 := by
      rcases nodesAns_code l with ⟨h1, _⟩ | ⟨k, _, h1, h2⟩
      · rw [h1] at hbad
        exact absurd rfl hbad
      · rw [h1]; show 0 < nodeErr l k; omega
    obtain ⟨c1, p1, hcp⟩ : ∃ c1 p1, nodesAns l = (c1, p1) := ⟨_, _, rfl⟩
    rw [hcp] at HNF hpos ⊢
    simp only at HNF hpos ⊢
    obtain ⟨p, c, rfl⟩ := hv.shape
    clear hr hbad hcp hv hal HALT
    go_enter Tryd.func17, Tryd.ntmps17
    go_wp2_with fail
    refine HNF.out.mono ?_
    rintro e w2 ⟨rfl, hb2⟩
    have HB2 : Hid (Below w.heap.size w w2) := HAL.out.trans (hb2.mono HAL.out.size)
    have HR2 := hideN (HRB.out.next hb2)
    clear hb2 HNF
    have hlt2 := HR2.out.lt
    have HAL3 := hideN ((Below.refl w2.heap.size w2).alloc (Nat.le_refl _) (.cells #[.int .i64 c1, .int .i64 p1] 39))
    have HF3 := hideN (Blk.new w2 #[.int .i64 c1, .int .i64 p1] 39)
    have HR3 := hideN (HR2.out.next HAL3.out)
    have HB3 : Hid (Below w.heap.size w _) := hideN (HB2.out.trans (HAL3.out.mono HB2.out.size))
    have k0 := HF3.out.cell (i := 0) rfl
    go_wp2_with fail
    clear k0
    have HNE : Hid (w.heap.size ≠ w2.heap.size) := by have := HR2.out.lt; show _ ≠ _; omega
    obtain ⟨FB, hFB⟩ : ∃ FB, w2.heap.size = FB := ⟨_, rfl⟩
    rw [hFB] at HF3 HNE ⊢
    obtain ⟨W3, hW3⟩ : ∃ W3, w2.alloc (.cells #[.int .i64 c1, .int .i64 p1] 39) = W3 := ⟨_, rfl⟩
    rw [hW3] at HF3 HR3 HB3 ⊢
    clear hW3 hFB HAL3 hlt2 HR2
    have hfbn := HNE.out
    have k0 := HF3.out.cell (i := 0) rfl
    have k1 := HF3.out.cell (i := 1) rfl
    have q0 := HR3.out.cell (i := 0) rfl
    have q1 := HR3.out.cell (i := 1) rfl
    have f0 := HR3.out.frozen 0
    have f1 := HR3.out.frozen 1
    go_region
    all_goals go_wp2_with fail
    all_goals exact bodyPost_ret (v := .tuple #[.slice none 0 0, faultV c1 p1]) (by simp [results, Tryd.results17, go_sem, q0, q1]) rfl ⟨.slice none 0 0, rfl, .inl ⟨rfl, rfl⟩, ((HB3.out.setCell (p := ⟨w.heap.size, 0, none⟩) (by simp) _).setCell (p := ⟨w.heap.size, 1, none⟩) (by simp) _).drew, fun k hk => by cases hk⟩
  have hn : Nodes l := by
    rcases nodesAns_code l with ⟨_, h1⟩ | ⟨k, _, h1, h2⟩
    · exact nodes_of h1
    · rw [h1] at hbad
      exact absurd (show nodeErr l k ≠ 0 by omega) hbad
  have h00 : nodesAns l = (0, -1) := by
    unfold nodesAns fstAns
    rw [nodes_to hn]
    rfl
  have hans : joinAns l n = if nodeOk n = false then ([], (2, -1)) else if n ∈ l then ([], (6, -1)) else (nIns l n, (0, -1)) := by rw [HALT.out, if_neg hbad]
  rw [h00] at HNF
  simp only at HNF
  have HN := hideN hn
  have HANS := hideN hans
  obtain ⟨p, c, rfl⟩ := hv.shape
  clear hbad h00 hn hans hv hal HALT
  have hbnd : (n < 1 ∨ 6 < n) ∨ (1 ≤ n ∧ n ≤ 6) := by omega
  by_cases h1 : n < 1
  · have HRS : Hid (joinAns l n = ([], (2, -1))) := by show _ = _; rw [HANS.out, if_pos (show nodeOk n = false from decide_eq_false (by omega))]
    clear hbnd
    go_enter Tryd.func17, Tryd.ntmps17
    go_wp2_with fail
    refine HNF.out.mono ?_
    rintro e w2 ⟨rfl, hb2⟩
    have HB2 : Hid (Below w.heap.size w w2) := HAL.out.trans (hb2.mono HAL.out.size)
    have HR2 := hideN (HRB.out.next hb2)
    clear hb2 HNF
    have hlt2 := HR2.out.lt
    have HAL3 := hideN ((Below.refl w2.heap.size w2).alloc (Nat.le_refl _) (.cells #[.int .i64 0, .int .i64 (-1)] 39))
    have HF3 := hideN (Blk.new w2 #[.int .i64 0, .int .i64 (-1)] 39)
    have HR3 := hideN (HR2.out.next HAL3.out)
    have HB3 : Hid (Below w.heap.size w _) := hideN (HB2.out.trans (HAL3.out.mono HB2.out.size))
    have k0 := HF3.out.cell (i := 0) rfl
    go_wp2_with fail
    refine (bare_any 2 _).mono ?_
    rintro e w6 ⟨rfl, hb6⟩
    have HB6 : Hid (Below w.heap.size w w6) := HB3.out.trans (hb6.mono HB3.out.size)
    have HR6 := hideN (HR3.out.next hb6)
    clear hb6 k0 hlt2
    have q0 := HR6.out.cell (i := 0) rfl
    have q1 := HR6.out.cell (i := 1) rfl
    have f0 := HR6.out.frozen 0
    have f1 := HR6.out.frozen 1
    go_wp2_with fail
    exact bodyPost_ret (v := .tuple #[.slice none 0 0, faultV 2 (-1)]) (by simp [results, Tryd.results17, go_sem, q0, q1]) rfl ⟨.slice none 0 0, by first | (rw [HRS.out]; done) | (rw [HRS.out]; rfl), by rw [HRS.out]; exact .inl ⟨rfl, rfl⟩, ((HB6.out.setCell (p := ⟨w.heap.size, 0, none⟩) (by simp) _).setCell (p := ⟨w.heap.size, 1, none⟩) (by simp) _), fun k hk => by cases hk⟩
  by_cases h6 : 6 < n
  · have HRS : Hid (joinAns l n = ([], (2, -1))) := by show _ = _; rw [HANS.out, if_pos (show nodeOk n = false from decide_eq_false (by omega))]
    clear hbnd
    go_enter Tryd.func17, Tryd.ntmps17
    go_wp2_with fail
    refine HNF.out.mono ?_
    rintro e w2 ⟨rfl, hb2⟩
    have HB2 : Hid (Below w.heap.size w w2) := HAL.out.trans (hb2.mono HAL.out.size)
    have HR2 := hideN (HRB.out.next hb2)
    clear hb2 HNF
    have hlt2 := HR2.out.lt
    have HAL3 := hideN ((Below.refl w2.heap.size w2).alloc (Nat.le_refl _) (.cells #[.int .i64 0, .int .i64 (-1)] 39))
    have HF3 := hideN (Blk.new w2 #[.int .i64 0, .int .i64 (-1)] 39)
    have HR3 := hideN (HR2.out.next HAL3.out)
    have HB3 : Hid (Below w.heap.size w _) := hideN (HB2.out.trans (HAL3.out.mono HB2.out.size))
    have k0 := HF3.out.cell (i := 0) rfl
    go_wp2_with fail
    refine (bare_any 2 _).mono ?_
    rintro e w6 ⟨rfl, hb6⟩
    have HB6 : Hid (Below w.heap.size w w6) := HB3.out.trans (hb6.mono HB3.out.size)
    have HR6 := hideN (HR3.out.next hb6)
    clear hb6 k0 hlt2
    have q0 := HR6.out.cell (i := 0) rfl
    have q1 := HR6.out.cell (i := 1) rfl
    have f0 := HR6.out.frozen 0
    have f1 := HR6.out.frozen 1
    go_wp2_with fail
    exact bodyPost_ret (v := .tuple #[.slice none 0 0, faultV 2 (-1)]) (by simp [results, Tryd.results17, go_sem, q0, q1]) rfl ⟨.slice none 0 0, by first | (rw [HRS.out]; done) | (rw [HRS.out]; rfl), by rw [HRS.out]; exact .inl ⟨rfl, rfl⟩, ((HB6.out.setCell (p := ⟨w.heap.size, 0, none⟩) (by simp) _).setCell (p := ⟨w.heap.size, 1, none⟩) (by simp) _), fun k hk => by cases hk⟩
  have hok : nodeOk n = true := decide_eq_true ⟨by omega, by omega⟩
  have HANS2 : Hid (joinAns l n = if n ∈ l then ([], (6, -1)) else (nIns l n, (0, -1))) := by show _ = _; rw [HANS.out, if_neg (by rw [hok]; simp)]
  clear hbnd hok HANS
  go_enter Tryd.func17, Tryd.ntmps17
  go_wp2_with fail
  refine HNF.out.mono ?_
  rintro e w2 ⟨rfl, hb2⟩
  have HB2 : Hid (Below w.heap.size w w2) := HAL.out.trans (hb2.mono HAL.out.size)
  have HR2 := hideN (HRB.out.next hb2)
  clear hb2 HNF
  have hlt2 := HR2.out.lt
  have HAL3 := hideN ((Below.refl w2.heap.size w2).alloc (Nat.le_refl _) (.cells #[.int .i64 0, .int .i64 (-1)] 39))
  have HF3 := hideN (Blk.new w2 #[.int .i64 0, .int .i64 (-1)] 39)
  have HR3 := hideN (HR2.out.next HAL3.out)
  have HB3 : Hid (Below w.heap.size w _) := hideN (HB2.out.trans (HAL3.out.mono HB2.out.size))
  have k0 := HF3.out.cell (i := 0) rfl
  have HII := hideN (inInts_any n _ l _ hlen (HV.out _ HB3.out).c)
  clear hlen
  go_wp2_with fail
  clear k0
  refine HII.out.mono ?_
  rintro e w3' ⟨rfl, hw3⟩
  have hw3 := hw3.symm
  subst hw3
  clear HII
  by_cases hm : n ∈ l
  · have HRS : Hid (joinAns l n = ([], (6, -1))) := by show _ = _; rw [HANS2.out, if_pos hm]
    rw [decide_eq_true hm]
    clear hm
    go_wp2_with fail
    refine (bare_any 6 _).mono ?_
    rintro e w6 ⟨rfl, hb6⟩
    have HB6 : Hid (Below w.heap.size w w6) := HB3.out.trans (hb6.mono HB3.out.size)
    have HR6 := hideN (HR3.out.next hb6)
    clear hb6 hlt2
    have q0 := HR6.out.cell (i := 0) rfl
    have q1 := HR6.out.cell (i := 1) rfl
    have f0 := HR6.out.frozen 0
    have f1 := HR6.out.frozen 1
    go_wp2_with fail
    exact bodyPost_ret (v := .tuple #[.slice none 0 0, faultV 6 (-1)]) (by simp [results, Tryd.results17, go_sem, q0, q1]) rfl ⟨.slice none 0 0, by first | (rw [HRS.out]; done) | (rw [HRS.out]; rfl), by rw [HRS.out]; exact .inl ⟨rfl, rfl⟩, ((HB6.out.setCell (p := ⟨w.heap.size, 0, none⟩) (by simp) _).setCell (p := ⟨w.heap.size, 1, none⟩) (by simp) _), fun k hk => by cases hk⟩
  have HRS : Hid (joinAns l n = (nIns l n, (0, -1))) := by show _ = _; rw [HANS2.out, if_neg hm]
  rw [decide_eq_false hm]
  clear hm HANS2
  have HPL := hideN (nPlace_le l n)
  have HLT : Hid (∀ k (h : k < l.length), k < nPlace l n ↔ l[k] < n) := fun k hk => by
    constructor
    · exact fun h => nPlace_lt h
    · intro h
      rcases Nat.lt_or_ge k (nPlace l n) with h1 | h1
      · exact h1
      · have := nPlace_ge HN.out hk h1
        omega
  have hnI : nIns l n = l.take (nPlace l n) ++ n :: l.drop (nPlace l n) := rfl
  rw [hnI] at HRS
  obtain ⟨P, hP⟩ : ∃ P, nPlace l n = P := ⟨_, rfl⟩
  rw [hP] at HPL HLT HRS
  have HCC : Hid (∀ W, Below w.heap.size w W → ∀ k (h : k < l.length), ∃ b o, p = some ⟨b, o, none⟩ ∧ W.cell? ⟨b, o + k, none⟩ = some (.int .i64 l[k])) := fun W hb k hk => by
    obtain ⟨p', c', hve, hcell⟩ := (HV.out W hb).c
    obtain ⟨b, o, hp, _, hc⟩ := hcell k (by rw [List.length_map]; exact hk)
    rw [List.length_map] at hve
    simp only [Value.slice.injEq] at hve
    rw [List.getElem_map] at hc
    exact ⟨b, o, hve.1.trans hp, hc⟩
  obtain ⟨p1, c1, p2, c2, hsl5, hsl4, hE1, hE2⟩ := slE_cut (HV.out w (Below.refl _ _)) P HPL.out
  have HE1 : Hid (∀ W, Below w.heap.size w W → IntsE W (.slice p1 P c1) (l.take P)) := fun W hb => hE1.below hb
  have HE2 : Hid (∀ W, Below w.heap.size w W → IntsE W (.slice p2 (l.length - P) c2) (l.drop P)) := fun W hb => hE2.below hb
  have HLT1 : Hid ((l.take P).length ≤ 1000) := by show _ ≤ _; rw [List.length_take]; have := HLEN.out; omega
  have HLT2 : Hid ((l.drop P).length ≤ 1000) := by show _ ≤ _; rw [List.length_drop]; have := HLEN.out; omega
  clear hnI hP hE1 hE2
  have HNE : Hid (w.heap.size ≠ w2.heap.size) := by have := HR2.out.lt; show _ ≠ _; omega
  obtain ⟨FB, hFB⟩ : ∃ FB, w2.heap.size = FB := ⟨_, rfl⟩
  rw [hFB] at HF3 HNE ⊢
  obtain ⟨W3, hW3⟩ : ∃ W3, w2.alloc (.cells #[.int .i64 0, .int .i64 (-1)] 39) = W3 := ⟨_, rfl⟩
  rw [hW3] at HF3 HR3 HB3 ⊢
  clear hW3 hFB HAL3 hlt2 HR2
  go_wp2_with fail
  go_loopw [8] (fun iv wr => ∃ k : Nat, k ≤ P ∧ iv = .int .i64 k ∧ W3 = wr) (fun iv _ => P - (intOf iv).toNat)
  case atStart => exact ⟨0, Nat.zero_le _, rfl, rfl⟩
  case round =>
    obtain ⟨k, hk, rfl, rfl⟩ := hrel
    have hPl : (P : Int) ≤ (l.length : Int) := by have := HPL.out; omega
    by_cases hkP : k < P
    · have hkl : k < l.length := by have := HPL.out; omega
      have hkl' : (k : Int) < (l.length : Int) := by omega
      have hk0 : (0 : Int) ≤ (k : Int) := by omega
      obtain ⟨b, o, rfl, hck⟩ := HCC.out W3 HB3.out k hkl
      have hxn : l[k]'hkl < n := (HLT.out k hkl).1 hkP
      obtain ⟨x, hx⟩ : ∃ x, l[k]'hkl = x := ⟨_, rfl⟩
      rw [hx] at hck hxn
      have HKP := hideN hkP
      clear hx hkP
      go_wp2_with fail
      go_roundw
      case rel => exact ⟨k + 1, HKP.out, by go_num, trivial⟩
      case measure => simp [intOf]; have := HKP.out; omega
    · obtain rfl : k = P := by omega
      have hcond : k = l.length ∨ (∃ h : k < l.length, n ≤ l[k]) := by
        rcases Nat.lt_or_ge k l.length with h | h
        · refine .inr ⟨h, ?_⟩
          have := HLT.out k h
          omega
        · exact .inl (by have := HPL.out; omega)
      clear hkP hk
      rcases hcond with hkl | ⟨hkl, hnx⟩
      · have hge : (l.length : Int) ≤ (k : Int) := by omega
        have hge2 : ¬ (k : Int) < (l.length : Int) := by omega
        clear hkl
        go_wp2_with (first
          | (at_builtin; refine wpLE_append (w := W3) rfl _ _ rfl W3.heap.size _ (.slice p1 k c1) [] (l.take k) rfl rfl (World.ownsRow_nil _ _ _ _) (HE1.out W3 HB3.out) (by have := HLT1.out; show 0 + _ ≤ _; omega) (Nat.le_refl _) ?_; intro v5 w5 ho5 hg5; rw [List.nil_append] at ho5; have HR5 := hideN ho5; have HB5 : Hid (Below W3.heap.size W3 w5) := (Below.refl _ W3).grown hg5 (Nat.le_refl _) (fun k hk => by cases hk); have HRA5 := hideN (ho5.alloc (.cells #[.int .i64 n] 3)); have HBA5 := hideN (HB5.out.alloc HB5.out.size (.cells #[.int .i64 n] 3)); have HON5 := hideN (IntsE.alloc1 w5 n 3); clear ho5 hg5)
          | (at_builtin; refine wpLE_append rfl _ _ rfl W3.heap.size _ _ (l.take k) [n] rfl rfl HRA5.out HON5.out (by have := HLT1.out; show _ + 1 ≤ _; omega) HBA5.out.size ?_; intro v6 w6 ho6 hg6; have HR6 := hideN ho6; have HB6 : Hid (Below W3.heap.size W3 w6) := below_row HBA5.out HRA5.out HBA5.out.size hg6; clear ho6 hg6))
        have HB6W : Hid (Below w.heap.size w w6) := HB3.out.trans (HB6.out.mono HB3.out.size)
        have HF6 := hideN (HF3.out.next HB6.out)
        have HRB6 := hideN (HR3.out.next HB6.out)
        have HFC : Hid (∀ W, Below W3.heap.size W3 W → W.cell? ⟨FB, 0, none⟩ = some (.int .i64 0) ∧ W.cell? ⟨FB, 1, none⟩ = some (.int .i64 (-1))) := fun W hb => ⟨(HF3.out.next hb).cell (i := 0) rfl, (HF3.out.next hb).cell (i := 1) rfl⟩
        have HE2D : Hid (IntsE w6.drew (.slice p2 (l.length - k) c2) (l.drop k)) := HE2.out _ HB6W.out.drew
        have HR6D : Hid (w6.drew.ownsRow W3.heap.size 3 1 v6 (l.take k ++ [n]).length ((l.take k ++ [n]).map intV)) := HR6.out
        have HB6D : Hid (Below W3.heap.size W3 w6.drew) := HB6.out.drew
        have HLN6 : Hid ((l.take k ++ [n]).length + (l.drop k).length ≤ 100000) := by have h1 := HLT1.out; have h2 := HLT2.out; show _ ≤ _; rw [List.length_append]; show _ + 1 + _ ≤ _; omega
        obtain ⟨k0, k1⟩ := HFC.out w6 HB6.out
        have hfbn := HNE.out
        go_region_held3 (fun W => W.cell? ⟨FB, 0, none⟩ = some (.int .i64 0) ∧ W.cell? ⟨FB, 1, none⟩ = some (.int .i64 (-1))) (first | exact HFC.out _ HWN.out | go_keep) (first
          | (refine stepE_append (by rfl) _ _ (by rfl) W3.heap.size v6 (.slice p2 (l.length - k) c2) (l.take k ++ [n]) (l.drop k) rfl rfl HR6D.out HE2D.out HLN6.out HB6D.out.size ?_; intro v7 w7 ho7 hg7; have HR7 := hideN ho7; have HWN : Hid (Below W3.heap.size W3 w7) := below_row HB6D.out HR6D.out HB6D.out.size hg7; have HRB7 := hideN (HR3.out.next HWN.out); have q0 := HRB7.out.cell (i := 0) rfl; have q1 := HRB7.out.cell (i := 1) rfl; have f0 := HRB7.out.frozen 0; have f1 := HRB7.out.frozen 1; clear ho7 hg7))
        all_goals go_wp2_with fail
        all_goals exact bodyPost_ret (v := .tuple #[v7, faultV 0 (-1)]) (by simp [results, Tryd.results17, go_sem, q0, q1]) rfl ⟨v7, by rw [HRS.out], by rw [HRS.out, show l.take k ++ n :: l.drop k = l.take k ++ [n] ++ l.drop k by simp]; exact insS_store0 (IntsS.of_row HR7.out) HR7.out HR3.out.lt _ _, ((HB3.out.trans (HWN.out.mono HB3.out.size)).setCell (p := ⟨w.heap.size, 0, none⟩) (by simp) _).setCell (p := ⟨w.heap.size, 1, none⟩) (by simp) _, fun k hk => Nat.le_trans HB3.out.size (HR7.out.lt k hk).1⟩
      · have hkl' : (k : Int) < (l.length : Int) := by omega
        have hk0 : (0 : Int) ≤ (k : Int) := by omega
        obtain ⟨b, o, rfl, hck⟩ := HCC.out W3 HB3.out k hkl
        obtain ⟨x, hx⟩ : ∃ x, l[k]'hkl = x := ⟨_, rfl⟩
        rw [hx] at hck hnx
        clear hx
        go_wp2_with (first
          | (at_builtin; refine wpLE_append (w := W3) rfl _ _ rfl W3.heap.size _ (.slice p1 k c1) [] (l.take k) rfl rfl (World.ownsRow_nil _ _ _ _) (HE1.out W3 HB3.out) (by have := HLT1.out; show 0 + _ ≤ _; omega) (Nat.le_refl _) ?_; intro v5 w5 ho5 hg5; rw [List.nil_append] at ho5; have HR5 := hideN ho5; have HB5 : Hid (Below W3.heap.size W3 w5) := (Below.refl _ W3).grown hg5 (Nat.le_refl _) (fun k hk => by cases hk); have HRA5 := hideN (ho5.alloc (.cells #[.int .i64 n] 3)); have HBA5 := hideN (HB5.out.alloc HB5.out.size (.cells #[.int .i64 n] 3)); have HON5 := hideN (IntsE.alloc1 w5 n 3); clear ho5 hg5)
          | (at_builtin; refine wpLE_append rfl _ _ rfl W3.heap.size _ _ (l.take k) [n] rfl rfl HRA5.out HON5.out (by have := HLT1.out; show _ + 1 ≤ _; omega) HBA5.out.size ?_; intro v6 w6 ho6 hg6; have HR6 := hideN ho6; have HB6 : Hid (Below W3.heap.size W3 w6) := below_row HBA5.out HRA5.out HBA5.out.size hg6; clear ho6 hg6))
        have HB6W : Hid (Below w.heap.size w w6) := HB3.out.trans (HB6.out.mono HB3.out.size)
        have HF6 := hideN (HF3.out.next HB6.out)
        have HRB6 := hideN (HR3.out.next HB6.out)
        have HFC : Hid (∀ W, Below W3.heap.size W3 W → W.cell? ⟨FB, 0, none⟩ = some (.int .i64 0) ∧ W.cell? ⟨FB, 1, none⟩ = some (.int .i64 (-1))) := fun W hb => ⟨(HF3.out.next hb).cell (i := 0) rfl, (HF3.out.next hb).cell (i := 1) rfl⟩
        have HE2D : Hid (IntsE w6.drew (.slice p2 (l.length - k) c2) (l.drop k)) := HE2.out _ HB6W.out.drew
        have HR6D : Hid (w6.drew.ownsRow W3.heap.size 3 1 v6 (l.take k ++ [n]).length ((l.take k ++ [n]).map intV)) := HR6.out
        have HB6D : Hid (Below W3.heap.size W3 w6.drew) := HB6.out.drew
        have HLN6 : Hid ((l.take k ++ [n]).length + (l.drop k).length ≤ 100000) := by have h1 := HLT1.out; have h2 := HLT2.out; show _ ≤ _; rw [List.length_append]; show _ + 1 + _ ≤ _; omega
        obtain ⟨k0, k1⟩ := HFC.out w6 HB6.out
        have hfbn := HNE.out
        go_region_held3 (fun W => W.cell? ⟨FB, 0, none⟩ = some (.int .i64 0) ∧ W.cell? ⟨FB, 1, none⟩ = some (.int .i64 (-1))) (first | exact HFC.out _ HWN.out | go_keep) (first
          | (refine stepE_append (by rfl) _ _ (by rfl) W3.heap.size v6 (.slice p2 (l.length - k) c2) (l.take k ++ [n]) (l.drop k) rfl rfl HR6D.out HE2D.out HLN6.out HB6D.out.size ?_; intro v7 w7 ho7 hg7; have HR7 := hideN ho7; have HWN : Hid (Below W3.heap.size W3 w7) := below_row HB6D.out HR6D.out HB6D.out.size hg7; have HRB7 := hideN (HR3.out.next HWN.out); have q0 := HRB7.out.cell (i := 0) rfl; have q1 := HRB7.out.cell (i := 1) rfl; have f0 := HRB7.out.frozen 0; have f1 := HRB7.out.frozen 1; clear ho7 hg7))
        all_goals go_wp2_with fail
        all_goals exact bodyPost_ret (v := .tuple #[v7, faultV 0 (-1)]) (by simp [results, Tryd.results17, go_sem, q0, q1]) rfl ⟨v7, by rw [HRS.out], by rw [HRS.out, show l.take k ++ n :: l.drop k = l.take k ++ [n] ++ l.drop k by simp]; exact insS_store0 (IntsS.of_row HR7.out) HR7.out HR3.out.lt _ _, ((HB3.out.trans (HWN.out.mono HB3.out.size)).setCell (p := ⟨w.heap.size, 0, none⟩) (by simp) _).setCell (p := ⟨w.heap.size, 1, none⟩) (by simp) _, fun k hk => Nat.le_trans HB3.out.size (HR7.out.lt k hk).1⟩
end Go.Proofs.YtcbcjefefmbccabDoor
