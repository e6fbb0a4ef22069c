/-
  Own text. The program's recipe.Of by a contract.
  Own text. A range over a function whose iterator keeps state of its own in cells: a law for a loop body that writes one block of the caller's (Br) and new ones alone, and whose invariant hangs on blocks below the loop's beginning.
-/
import Derived.Test.YtcbcjefefmbccaaDoorG19
import Derived.Test.YtcbcjefefmbccaaDoorG08
import Derived.Test.YtcbcjefefmbccaaDoorG21
import Derived.Deep.RegionLaw
import Derived.Deep.AppendLies
import Derived.RangeFuncNested
import Derived.RangeFuncLeaves
import Derived.RangeFuncCalls
import Derived.Below
namespace Go.Proofs.YtcbcjefefmbccaaDoor
open Go.RowKit

/- A call of a function of one argument, at a step of a region that draws its order. -/
theorem step_call_one {P : Program} {ops : Array Oper} {o : Oper} {a : Act} {w : World} {K : Act → World → Prop} {Q : Exit → Act → World → Prop} {E : Prop} (hgd : o.guard = none) (f : FuncId) (x : Operand) (t : TypeId)
    (ho : o.op = .call { callee := .value (.func f), args := #[x], argTypes := #[t] }) (eg : ∀ args w, (callFunc f args).run P w = .ok (.enter f args) w) (vx : Value) (hx : a.eval x = vx) {R : Value → World → Prop}
    (hc : Calls P f #[vx] w fun e w' => ∃ v, e = .returned v ∧ R v w') (h : ∀ v w', R v w' → K (a.put o.dst v) w') :
    if Region.wanted o (yielded ops a.tmps) = true then Oper.wp P o a w K Q else E := by
  have hw : Region.wanted o (yielded ops a.tmps) = true := by simp [Region.wanted, hgd]
  rw [if_pos hw]
  unfold Oper.wp execOp
  have hf : a.eval (.func f) = .func (.func f) #[] #[] := rfl
  have hc2 : Calls P f #[vx] w fun | .returned v, w'' => K (a.put o.dst v) w'' | .panicked chain, w'' => Q (.panic chain) a w'' | .outgrown, _ => LetsOut Q := hc.mono (by rintro e w' ⟨v, rfl, hR⟩; exact h v w' hR)
  simp only [ho, resolve, invoke, Sem.run_bind, Sem.run_pure, Result.andThen_ok, List.map_toArray, List.map_cons, List.map_nil, hf, hx, Deferred.ofValue, eg, Array.append_empty]
  exact hc2

theorem ofR_name {nm l : List UInt8} (h : isName nm = false) : ofR nm l = (([], 0, 0, []), 4) := by unfold ofR; rw [if_pos h]
theorem ofR_bound {nm l : List UInt8} (h : isName nm = true) (h2 : 4000 < l.length) : ofR nm l = (([], 0, 0, []), 2) := by unfold ofR; rw [if_neg (by rw [h]; simp), if_pos h2]
theorem ofR_fine {nm l : List UInt8} (h : isName nm = true) (h2 : ¬ 4000 < l.length) : ofR nm l = ((nm, (l.length : Int), pmore 2166136261 l, idsOf l), 0) := by unfold ofR; rw [if_neg (by rw [h]; simp), if_neg h2]
def ofPost (a : Nat → Addr) (nm s : ByteArray) (w : World) (e : Ending) (w' : World) : Prop := ∃ v ev, e = .returned (.tuple #[rcpDV (ofR nm.data.toList s.data.toList).1 v, ev]) ∧ IdsIn w.heap.size w' v (ofR nm.data.toList s.data.toList).1.2.2.2 ∧ ErrIn w.heap.size w' a ev ((ofR nm.data.toList s.data.toList).2, -1) ∧ Below w.heap.size w w'

set_option maxRecDepth 100000 in
set_option maxHeartbeats 4000000 in
theorem of_name (a : Nat → Addr) (nm s : ByteArray) (hnm : nm.size ≤ maxLen) (h : isName nm.data.toList = false) (w : World) (hE : ErrE [1, 3] w a) :
    Calls Tryd.prog 49 #[.string nm, .string s] w fun e w' => ofPost a nm s w e w' := by
  have HN : Hid (nm.size ≤ maxLen) := hnm
  have HR : Hid (ofR nm.data.toList s.data.toList = (([], 0, 0, []), 4)) := ofR_name h
  have HH : Hid (isName nm.data.toList = false) := h
  have hb : ∀ o, Below w.heap.size w (w.alloc o) := fun o => (Below.refl _ w).alloc (Nat.le_refl _) o
  have hg : ∀ o, (w.alloc o).cell? ⟨errG 3, 0, none⟩ = some (sentV a 3) := fun o => (hE.below (hb o) (Nat.le_refl _)).glob 3 (by decide)
  dsimp only [errG] at hg
  clear hnm h hE
  go_enter Tryd.func49, Tryd.ntmps49
  go_wp2_with fail
  refine (name_any nm HN.out _).mono ?_
  rintro e w1 ⟨rfl, hw1⟩
  subst hw1
  rw [HH.out]
  go_wp2_with fail
  go_region
  all_goals go_wp2
  all_goals refine bodyPost_ret (v := .tuple #[rcpV ⟨#[]⟩ 0 0 (.slice none 0 0), sentV a 3]) (by simp [results, Tryd.results49, go_sem]) rfl ?_
  all_goals exact ⟨.slice none 0 0, sentV a 3, by rw [HR.out]; rfl, by rw [HR.out]; exact IdsIn.nil _ _, by rw [HR.out]; exact ErrIn.sent _ _ a 3 (by decide) rfl, (hb _).drew⟩

set_option maxRecDepth 100000 in
set_option maxHeartbeats 4000000 in
theorem of_bound (a : Nat → Addr) (nm s : ByteArray) (hnm : nm.size ≤ maxLen) (h : isName nm.data.toList = true) (hs : 4000 < s.size) (w : World) (hE : ErrE [1, 3] w a) :
    Calls Tryd.prog 49 #[.string nm, .string s] w fun e w' => ofPost a nm s w e w' := by
  have HN : Hid (nm.size ≤ maxLen) := hnm
  have HR : Hid (ofR nm.data.toList s.data.toList = (([], 0, 0, []), 2)) := ofR_bound h (by rw [Array.length_toList]; exact hs)
  have HH : Hid (isName nm.data.toList = true) := h
  have hs' : (4000 : Int) < (s.size : Int) := by omega
  have hb : ∀ o, Below w.heap.size w (w.alloc o) := fun o => (Below.refl _ w).alloc (Nat.le_refl _) o
  have hg : ∀ o, (w.alloc o).cell? ⟨errG 1, 0, none⟩ = some (sentV a 1) := fun o => (hE.below (hb o) (Nat.le_refl _)).glob 1 (by decide)
  dsimp only [errG] at hg
  clear hnm h hE hs
  go_enter Tryd.func49, Tryd.ntmps49
  go_wp2_with fail
  refine (name_any nm HN.out _).mono ?_
  rintro e w1 ⟨rfl, hw1⟩
  subst hw1
  rw [HH.out]
  go_wp2_with fail
  go_region
  all_goals go_wp2
  all_goals refine bodyPost_ret (v := .tuple #[rcpV ⟨#[]⟩ 0 0 (.slice none 0 0), sentV a 1]) (by simp [results, Tryd.results49, go_sem]) rfl ?_
  all_goals exact ⟨.slice none 0 0, sentV a 1, by rw [HR.out]; rfl, by rw [HR.out]; exact IdsIn.nil _ _, by rw [HR.out]; exact ErrIn.sent _ _ a 1 (by decide) rfl, (hb _).drew⟩

set_option maxRecDepth 100000 in
set_option maxHeartbeats 4000000 in
theorem of_fine (a : Nat → Addr) (nm s : ByteArray) (hnm : nm.size ≤ maxLen) (h : isName nm.data.toList = true) (hs : s.size ≤ 4000) (w : World) :
    Calls Tryd.prog 49 #[.string nm, .string s] w fun e w' => ofPost a nm s w e w' := by
  obtain ⟨i0, hi, hz0, hz1, hz2⟩ := info_parts infoID
  have HN : Hid (nm.size ≤ maxLen) := hnm
  have HH : Hid (isName nm.data.toList = true) := h
  have hs' : ¬ (4000 : Int) < (s.size : Int) := by omega
  have HS : Hid (s.size ≤ 4000) := hs
  have HSM : Hid (s.size ≤ maxLen) := by show _ ≤ _; unfold maxLen; omega
  have HPL : Hid ((pieces s.data.toList).length ≤ 4000) := Nat.le_trans (pieces_len_le _) (by rw [Array.length_toList]; exact hs)
  have HPS : Hid (∀ i (h : i < (pieces s.data.toList).length), ((pieces s.data.toList)[i]).length ≤ 64) := fun i h => (pieces_at _ i h).2.1
  have HR : Hid (ofR nm.data.toList s.data.toList = ((nm.data.toList, (s.size : Int), pmore 2166136261 s.data.toList, (pieces s.data.toList).map fun p => (pmore 2166136261 p, (p.length : Int))), 0)) := by
    show _ = _
    rw [ofR_fine h (by rw [Array.length_toList]; show ¬ 4000 < s.size; omega), Array.length_toList]
    rfl
  clear hnm hs h
  have hP := pieces_any s (by have := HS.out; omega)
  generalize pieces s.data.toList = qs at *
  have HP : Hid (∀ (w : World), Calls Tryd.prog 78 #[.string s] w fun e w' => ∃ v, e = .returned v ∧ w'.ownsRow w.heap.size 9 1 v qs.length (qs.map strW) ∧ Below w.heap.size w w') := hP
  clear hP
  go_enter Tryd.func49, Tryd.ntmps49
  go_wp2_with fail
  refine (name_any nm HN.out _).mono ?_
  rintro e w1 ⟨rfl, hw1⟩
  subst hw1
  rw [HH.out]
  go_wp2_with fail
  refine (of_any s _ HSM.out).mono ?_
  rintro e w1 ⟨rfl, hw1⟩
  subst hw1
  obtain ⟨P, hP⟩ : ∃ P, pmore 2166136261 s.data.toList = P := ⟨_, rfl⟩
  have HPP : Hid (pmore 2166136261 s.data.toList = P) := hP
  rw [hP]
  clear hP
  go_wp2_with fail
  refine (HP.out _).mono ?_
  clear HP
  rintro e w0 ⟨v0, rfl, ho0, hb0⟩
  have hR1 := Blk.new w #[.string ⟨#[]⟩, .int .i64 0, .int .u32 0, .slice none 0 0] 87
  have hX1 := Blk.new (w.alloc (.cells #[.string ⟨#[]⟩, .int .i64 0, .int .u32 0, .slice none 0 0] 87)) #[.string nm, .int .i64 (s.size : Int), .int .u32 (P : Nat), .slice none 0 0] 87
  rw [World.size_alloc] at hX1
  have hal1 : Below w.heap.size w (w.alloc (.cells #[.string ⟨#[]⟩, .int .i64 0, .int .u32 0, .slice none 0 0] 87)) := (Below.refl _ w).alloc (Nat.le_refl _) _
  have hal2 := (Below.refl (w.alloc (.cells #[.string ⟨#[]⟩, .int .i64 0, .int .u32 0, .slice none 0 0] 87)).heap.size (w.alloc (.cells #[.string ⟨#[]⟩, .int .i64 0, .int .u32 0, .slice none 0 0] 87))).alloc (Nat.le_refl _) (.cells #[.string nm, .int .i64 (s.size : Int), .int .u32 (P : Nat), .slice none 0 0] 87)
  replace hR1 := (hR1.next hal2).next hb0
  replace hX1 := hX1.next hb0
  have hbw0 : Below w.heap.size w w0 := (hal1.trans (hal2.mono (by simp))).trans (hb0.mono (by simp; omega))
  have hszz : w.heap.size + 2 ≤ w0.heap.size := by have := hb0.size; simp at this; omega
  obtain ⟨p0, c0, rfl, hcell⟩ := CellsAt.of_row ho0
  simp only [List.length_map, List.getElem_map] at hcell ⊢
  have hnew : ∀ i (h : i < qs.length), ∃ b o, p0 = some ⟨b, o, none⟩ ∧ w.heap.size + 2 ≤ b ∧ b < w0.heap.size ∧ w0.cell? ⟨b, o + i, none⟩ = some (strW qs[i]) := fun i hi => by
    obtain ⟨b, o, hp, hl, hc⟩ := hcell i hi
    refine ⟨b, o, hp, ?_, hl.1, hc⟩
    have := own_base ho0 (j := b) (by rw [hp]; rfl)
    simpa using this
  have HCELL : Hid (∀ i (h : i < qs.length), ∃ b o, p0 = some ⟨b, o, none⟩ ∧ ∀ W', SameIn (w.heap.size + 2) w0.heap.size w0 W' → W'.cell? ⟨b, o + i, none⟩ = some (strW qs[i])) := fun i hi => by
    obtain ⟨b, o, hp, h1, h2, hc⟩ := hnew i hi
    exact ⟨b, o, hp, fun W' hb => (hb.cell h1 h2 _).trans hc⟩
  have hql : (qs.length : Int) ≤ 4000 := by have := HPL.out; omega
  clear hcell ho0 hb0 hal1 hal2 hnew
  go_wp2_with fail
  go_loopw [28] (fun i wr => ∃ (k : Nat) (v : Value), k ≤ qs.length ∧ i = .int .i64 k ∧ wr.ownsRow w0.heap.size 37 2 v k (idCells ((qs.take k).map fun p => (pmore 2166136261 p, (p.length : Int)))) ∧ Below (w.heap.size + 1) w0 wr ∧ SameIn (w.heap.size + 2) w0.heap.size w0 wr ∧ Blk wr (w.heap.size + 1) #[.string nm, .int .i64 (s.size : Int), .int .u32 (P : Nat), v] 87) (fun i _ => qs.length - (intOf i).toNat)
  case atStart => exact ⟨0, .slice none 0 0, Nat.zero_le _, rfl, World.ownsRow_nil _ _ _ _, Below.refl _ _, SameIn.refl _ _ _, hX1⟩
  case round =>
    obtain ⟨k, v, hk, rfl, hown, hbr, hsm, hX⟩ := hrel
    clear hX1
    by_cases hlt : k < qs.length
    · have hlt' : (k : Int) < (qs.length : Int) := by omega
      obtain ⟨b, o, rfl, hc⟩ := HCELL.out k hlt
      have hc' := hc wr hsm
      have HNX : Hid (idCells ((qs.take (k + 1)).map fun p => (pmore 2166136261 p, (p.length : Int))) = idCells ((qs.take k).map fun p => (pmore 2166136261 p, (p.length : Int))) ++ [.int .u32 (pmore 2166136261 qs[k] : Nat), .int .i64 (qs[k].length : Int)]) := by
        show _ = _
        rw [List.take_succ_eq_append_getElem hlt, List.map_append, idCells_append]
        rfl
      obtain ⟨q, hq⟩ : ∃ q : ByteArray, (⟨qs[k].toArray⟩ : ByteArray) = q := ⟨_, rfl⟩
      have hqd : q.data.toList = qs[k] := by rw [← hq]
      have hqs : (q.size : Int) = (qs[k].length : Int) := by rw [← hq]; rfl
      have HQM : Hid (q.size ≤ maxLen) := by
        show _ ≤ _
        have := HPS.out k hlt
        unfold maxLen
        omega
      rw [strW, hq] at hc'
      rw [← hqd] at HNX
      obtain ⟨Q, hQ⟩ : ∃ Q, pmore 2166136261 q.data.toList = Q := ⟨_, rfl⟩
      have HQQ : Hid (pmore 2166136261 q.data.toList = Q) := hQ
      rw [hQ] at HNX
      rw [hqd, ← hqs] at HNX
      obtain ⟨L, hL⟩ : ∃ L : Int, (q.size : Int) = L := ⟨_, rfl⟩
      have HLL : Hid ((q.size : Int) = L) := hL
      rw [hL] at HNX
      clear hc hqs hqd hq hQ hL
      obtain ⟨pv, cv, rfl⟩ : ∃ pv cv, v = .slice pv k cv := by
        obtain ⟨_, h⟩ := hown
        rcases h with ⟨rfl, h0⟩ | ⟨g, cap, cur, rfl, _⟩
        · exact ⟨none, 0, by rw [h0]⟩
        · exact ⟨_, _, rfl⟩
      have x3 := hX.cell (i := 3) rfl
      have f3 := hX.frozen 3
      have hXl := hX.lt
      have hwz : w0.heap.size ≤ wr.heap.size := hbr.size
      have hne : (Value.slice pv k cv).ownBlock ≠ some (w.heap.size + 1) := fun e => by have := own_base hown e; omega
      go_wp2_with fail
      have HID : Hid (∀ W : World, Calls Tryd.prog 20 #[.string q] W fun e w' => ∃ u, e = .returned u ∧ (u = idV (Q : Nat) L ∧ Below W.heap.size W w')) := fun W => (id_any q W HQM.out).mono fun e w' ⟨h1, h2⟩ => ⟨_, h1, by rw [HQQ.out, HLL.out], h2⟩
      go_region_law (first
        | (refine step_call_one (by rfl) 20 _ _ (by rfl) (enters_of Tryd.func20 (by kernel_rfl) rfl) (.string q) (by rfl) (HID.out _) ?_; rintro u w2 ⟨rfl, hb2⟩; have hw2 : w.heap.size + 1 < w2.heap.size := Nat.lt_of_lt_of_le hXl hb2.size; have hw3 : w0.heap.size ≤ w2.heap.size := Nat.le_trans hwz hb2.size; have hX2 := Blk.next (W := wr.drew) hX hb2; have hX2a := fun o => hX2.next ((Below.refl _ w2).alloc (Nat.le_refl _) o); have x32 := hX2.cell (i := 3) rfl; have f32 := hX2.frozen 3)
        | (refine step_append_lies _ (by rfl) _ _ _ (by rfl) w0.heap.size 37 i0 _ 2 16 Tryd.underlying55 hi hz0 hz1 hz2 rfl (by decide) (.slice pv k cv) k _ (by rfl) (((row_below hown.drew hb2).alloc _)) ⟨w2.heap.size, 0, none⟩ 1 1 [.int .u32 (Q : Nat), .int .i64 L] (by rfl) (by rfl) (World.news_of_block (cs := #[.int .u32 (Q : Nat), .int .i64 L]) (t := 37) (fr := (0, 0)) (heap_alloc_new w2 _)) (by simp [Value.oneCell']) (by omega) (by unfold maxLen; omega) (by omega) (by simp; omega) (w2.heap.size + 1) (by simp) ?_; intro gg cap w3 hown3 hgrow hat hglt; have hX3 : Blk w3 (w.heap.size + 1) #[.string nm, .int .i64 (s.size : Int), .int .u32 (P : Nat), .slice pv k cv] 87 := (hgrow.block _ (by rw [World.size_alloc]; exact Nat.lt_succ_of_lt hw2) (fun e => hne e.symm)).trans (hX2a _); have x33 := hX3.cell (i := 3) rfl; have f33 := hX3.frozen 3))
      all_goals
        have hB3 : Below w0.heap.size wr w3 := (((Below.refl w0.heap.size wr).drew.trans (hb2.mono hwz)).alloc hw3 _).grown hgrow (by rw [World.size_alloc]; omega) (fun j e => own_base hown e)
        have hX4 := hX3.set 3 (.slice (some ⟨gg, 0, none⟩) (k + 1) cap)
        have hr4 := ownsRow_setCell_below hown3 (a := ⟨w.heap.size + 1, 3, none⟩) (show w.heap.size + 1 < w0.heap.size by omega) (.slice (some ⟨gg, 0, none⟩) (k + 1) cap)
        have hb4 := (hbr.trans (hB3.mono (by omega))).setCell (p := ⟨w.heap.size + 1, 3, none⟩) (Nat.le_refl _) (.slice (some ⟨gg, 0, none⟩) (k + 1) cap)
        have hs4 := (hsm.below (Nat.le_refl _) hB3).setCell (a := ⟨w.heap.size + 1, 3, none⟩) (.inl (Nat.lt_succ_self _)) (.slice (some ⟨gg, 0, none⟩) (k + 1) cap)
        obtain ⟨W4, hW4⟩ : ∃ W4, w3.setCell ⟨w.heap.size + 1, 3, none⟩ (.slice (some ⟨gg, 0, none⟩) (k + 1) cap) = W4 := ⟨_, rfl⟩
        rw [hW4] at hX4 hr4 hb4 hs4 ⊢
        clear hW4 hX3 hX2 hX2a x32 f32 x33 f33 hgrow hown3 hb2 hB3 x3 f3 hX hown
        go_wp2_with fail
        go_roundw
        case rel => exact ⟨k + 1, .slice (some ⟨gg, 0, none⟩) (k + 1) cap, by omega, by go_num, by rw [HNX.out]; exact hr4, hb4, hs4, hX4⟩
        case measure => simp [intOf]; omega
    · have hge : (qs.length : Int) ≤ (k : Int) := by omega
      rw [List.take_of_length_le (by omega)] at hown
      obtain rfl : k = qs.length := by omega
      have hRr := hR1.below hbr (Nat.lt_succ_self _)
      have x0 := hX.cell (i := 0) rfl
      have x1 := hX.cell (i := 1) rfl
      have x2 := hX.cell (i := 2) rfl
      have x3 := hX.cell (i := 3) rfl
      have r0 := hRr.cell (i := 0) rfl
      have r1 := hRr.cell (i := 1) rfl
      have r2 := hRr.cell (i := 2) rfl
      have r3 := hRr.cell (i := 3) rfl
      have g0 := hRr.frozen 0
      have g1 := hRr.frozen 1
      have g2 := hRr.frozen 2
      have g3 := hRr.frozen 3
      have hRl := hRr.lt
      obtain ⟨pv, cv, rfl⟩ : ∃ pv cv, v = .slice pv qs.length cv := by
        obtain ⟨_, h⟩ := hown
        rcases h with ⟨rfl, h0⟩ | ⟨g, cap, cur, rfl, _⟩
        · exact ⟨none, 0, by rw [h0]⟩
        · exact ⟨_, _, rfl⟩
      have HROW : Hid (wr.ownsRow w0.heap.size 37 2 (.slice pv qs.length cv) qs.length (idCells (qs.map fun p => (pmore 2166136261 p, (p.length : Int))))) := hown
      have hbw : Below w.heap.size w wr := hbw0.trans (hbr.mono (Nat.le_succ _))
      have hR0 : w.heap.size < w0.heap.size := by omega
      clear hown hRr
      go_wp2_with fail
      refine bodyPost_ret (v := .tuple #[rcpV nm s.size (P : Nat) (.slice pv qs.length cv), .nilIface]) (by simp [results, Tryd.results49, go_sem, r0, r1, r2, r3]) rfl ⟨.slice pv qs.length cv, .nilIface, by rw [HR.out, HPP.out], ?_, by rw [HR.out]; exact ErrIn.mkNil _ _ a, (((hbw.setCell (p := ⟨w.heap.size, 0, none⟩) (Nat.le_refl _) _).setCell (p := ⟨w.heap.size, 1, none⟩) (Nat.le_refl _) _).setCell (p := ⟨w.heap.size, 2, none⟩) (Nat.le_refl _) _).setCell (p := ⟨w.heap.size, 3, none⟩) (Nat.le_refl _) _⟩
      rw [HR.out]
      refine (IdsIn.of_row (base := w0.heap.size) (e := 37) ?_).low (Nat.le_of_lt hR0)
      rw [List.length_map]
      exact ownsRow_setCell_below (ownsRow_setCell_below (ownsRow_setCell_below (ownsRow_setCell_below HROW.out (a := ⟨w.heap.size, 0, none⟩) hR0 _) (a := ⟨w.heap.size, 1, none⟩) hR0 _) (a := ⟨w.heap.size, 2, none⟩) hR0 _) (a := ⟨w.heap.size, 3, none⟩) hR0 _

theorem of_all (a : Nat → Addr) (nm s : ByteArray) (hnm : nm.size ≤ maxLen) (w : World) (hE : ErrE [1, 3] w a) :
    Calls Tryd.prog 49 #[.string nm, .string s] w fun e w' => ofPost a nm s w e w' := by
  by_cases h : isName nm.data.toList = true
  · by_cases h2 : 4000 < s.size
    · exact of_bound a nm s hnm h h2 w hE
    · exact of_fine a nm s hnm h (by omega) w
  · exact of_name a nm s hnm (by simpa using h) w hE
end Go.Proofs.YtcbcjefefmbccaaDoor
namespace Go.Proofs.YtcbcjefefmbccaaDoor
open Go.RowKit

def KeptBut (Br : Nat) (W W' : World) : Prop := ∀ b o, W.heap[b]? = some o → b ≠ Br → W'.heap[b]? = some o
theorem KeptBut.refl (Br : Nat) (W : World) : KeptBut Br W W := fun _ _ h _ => h
theorem KeptBut.trans {Br : Nat} {A B C : World} (h : KeptBut Br A B) (k : KeptBut Br B C) : KeptBut Br A C := fun b o hb hn => k b o (h b o hb hn) hn
theorem KeptBut.alloc (Br : Nat) (W : World) (o : Obj) : KeptBut Br W (W.alloc o) := fun b _ hb _ => (Below.heap_alloc W o b (Array.getElem?_eq_some_iff.1 hb).1).trans hb
theorem KeptBut.setCell (W : World) (a : Addr) (u : Value) : KeptBut a.block W (W.setCell a u) := fun b _ hb hn => (Below.heap_setCell W a u b hn).trans hb
def KeptCells (Br : Nat) (W W' : World) : Prop := ∀ b o, W.heap[b]? = some o → o.isCells = true → b ≠ Br → W'.heap[b]? = some o
theorem below_put {B l : Nat} (A : World) (o : Obj) (h : B ≤ l) : Below B A (A.putObj l o) := ⟨rfl, rfl, rfl, by simp, fun k hk => World.putObj_heap_other (by omega)⟩

/- What an iterator owes: J hangs on blocks below the world in which the iterator began; a round keeps all cells but those of block Br. -/
def SeqLow {α : Type} (F : Fence) (n : Nat) (P : Program) (g : Nat) (lb : Array Value) (encs : α → Array Value) (Br : Nat) (S : List α → Prop) (N : Nat) (w : World) : Prop :=
  ∀ (l : Nat) (J : List α → World → Prop) (W : World), Below w.heap.size w W → (∀ pre A B, J pre A → Below W.heap.size A B → J pre B) →
    (∀ pre x W1, J pre W1 → pre.length < N → YieldAt F (n - 1) P l (encs x) W1 fun e W' => e = .returned (.bool true) ∧ J (pre ++ [x]) W' ∧ KeptCells Br W1 W') →
    J [] W → CallsIn F n P g (#[.func (.yield l) #[] #[]] ++ lb) W fun e W' => (∃ v, e = .returned v) ∧ ∃ xs, S xs ∧ J xs W'

theorem range_low {α : Type} {F : Fence} {n : Nat} {P : Program} {g : Operand} {ps : Array Tmp} {assign body : Code} {Q : Exit → Act → World → Prop} {a : Act} {w : World}
    (hro : F.round = none) (h1 : 1 ≤ n) {gf : Nat} {lb : Array Value} (hg : a.eval g = .func (.func gf) #[] lb) (hFg : F.fn gf) (eg : ∀ args w, (callFunc gf args).run P w = .ok (.enter gf args) w)
    {encs : α → Array Value} {Br : Nat} {S : List α → Prop} {N : Nat} {w0 : World} (hseq : SeqLow F (n - 1) P gf lb encs Br S N w0)
    (hBr : Br < w.heap.size) (hb0 : Below w0.heap.size w0 w) (hps : ∀ x, (encs x).size = ps.size)
    (I : List α → World → Prop) (hI : ∀ pre A B, I pre A → Below w.heap.size A B → I pre B) (h0 : I [] w)
    (Ax : α → Act → World → Prop) (hAx : ∀ x a' A l o, (∃ r, A.heap[l]? = some (.loop r)) → Ax x a' A → Ax x a' (A.putObj l o))
    (hassign : ∀ (l : Nat) (pre : List α) (x : α) (W : World) (K : Act → World → Prop), w.heap.size ≤ W.heap.size → I pre W → (∀ a' W', KeptBut Br W W' → I pre W' → Ax x a' W' → K a' W') →
      assign.wpIn (F.inRound l) (n - 1 - 1) P (Exit.then K (fun _ _ _ => False)) { tmps := (ps.zip (encs x)).foldl (fun t (p, v) => t.setIfInBounds p v) a.tmps, defers := [] } W)
    (hbody : ∀ (l : Nat) (pre : List α) (x : α) (a' : Act) (W : World), I pre W → Ax x a' W → pre.length < N → body.wpIn (F.inRound l) (n - 1 - 1) P (fun e _ W' => e = .normal ∧ KeptBut Br W W' ∧ I (pre ++ [x]) W') a' W)
    (hdone : ∀ (D : Nat) (xs : List α) (W : World), w.heap.size ≤ D → S xs → I xs W → W.heap[D]? = some (.deferred (some [])) → Q .normal { a with defers := { target := .collected D, args := #[] } :: a.defers } W) :
    (Code.rangeFunc g ps assign body).wpIn F n P Q a w := by
  refine wpIn_rangeFunc ?_
  intro fn hfn
  rw [hro]
  obtain ⟨lp, hlp⟩ : ∃ lp : LoopState → Loop, lp = fun st => { state := st, pending := none, fn, tmps := a.tmps, params := ps, assign, body, defers := w.heap.size } := ⟨_, rfl⟩
  obtain ⟨V, hV⟩ : ∃ V, (w.alloc (.deferred (some []))).alloc (.loop (lp .ready)) = V := ⟨_, rfl⟩
  have hVs : V.heap.size = w.heap.size + 2 := by rw [← hV]; simp
  have hVl : V.heap[w.heap.size + 1]? = some (.loop (lp .ready)) := by
    rw [← hV]
    have := World.alloc_heap_new (w.alloc (.deferred (some []))) (.loop (lp .ready))
    rwa [World.size_alloc] at this
  have hVd : V.heap[w.heap.size]? = some (.deferred (some [])) := by
    rw [← hV]
    exact (Below.heap_alloc _ _ _ (by simp)).trans (World.alloc_heap_new w _)
  have hVb : Below w.heap.size w V := by rw [← hV]; exact ((Below.refl _ w).alloc (Nat.le_refl _) _).alloc (by simp) _
  refine ⟨w.heap.size + 1, [{ target := .collected w.heap.size, args := #[] }], V, { target := .fn (.func gf) lb, args := #[.func (.yield (w.heap.size + 1)) #[] #[]] }, V, gf,
    #[.func (.yield (w.heap.size + 1)) #[] #[]] ++ lb, V, ?_, ?_, ?_, ?_, fun _ => h1, ?_⟩
  · rw [← hV, hlp]
    exact run_enterLoop_outer _ _ _ _ _
  · simp only [resolve, hg]
    simp [go_sem]
  · intro f' hf'
    simp [Target.leads] at hf'
    subst hf'
    exact hFg
  · simp [invoke, go_sem, eg]
  refine (hseq (w.heap.size + 1) (fun pre W => I pre W ∧ W.heap[w.heap.size + 1]? = some (.loop (lp .ready)) ∧ W.heap[w.heap.size]? = some (.deferred (some []))) V (hb0.trans (hVb.mono hb0.size))
    (fun pre A B h hb => ⟨hI pre A B h.1 (hb.mono (by omega)), (hb.block _ (by omega)).trans h.2.1, (hb.block _ (by omega)).trans h.2.2⟩) ?_ ⟨hI [] w V h0 hVb, hVl, hVd⟩).mono ?_
  · rintro pre x W ⟨hi, hl, hd⟩ hlen
    have hlt : w.heap.size + 1 < W.heap.size := (Array.getElem?_eq_some_iff.1 hl).1
    have hy := run_yield (P := P) (args := encs x) hl (by rw [hlp]; exact hps x)
    rw [hlp] at hy
    refine ⟨fn, _, assign, body, hy, roundIn_of_wpIn hfn (hassign _ pre x W _ (by omega) hi ?_)⟩
    clear hy
    intro a' Wa hka hia hax
    have hla := hka _ _ hl (by omega)
    have hda := hka _ _ hd (by omega)
    have hlta : w.heap.size + 1 < Wa.heap.size := (Array.getElem?_eq_some_iff.1 hla).1
    refine ⟨_, run_beginRound hla (by rw [hlp]), ?_⟩
    refine wpIn_mono (hbody _ pre x a' _ (hI _ _ _ hia (below_put Wa _ (by omega))) (hAx x a' Wa _ _ ⟨_, hla⟩ hax) hlen) ?_
    rintro e a3 W3 ⟨rfl, hkb, hi3⟩
    have hlb := hkb _ _ (World.putObj_heap_same hlta) (by omega)
    have hdb := hkb _ _ ((World.putObj_heap_other (w := Wa) (r := w.heap.size + 1) (k := w.heap.size) (by omega)).trans hda) (by omega)
    have hr := run_endRound (P := P) none hlb
    have hlt3 : w.heap.size + 1 < W3.heap.size := (Array.getElem?_eq_some_iff.1 hlb).1
    refine ⟨_, _, hr, rfl, ⟨hI _ _ _ hi3 (below_put W3 _ (by omega)), ?_, (World.putObj_heap_other (by omega)).trans hdb⟩, ?_⟩
    · rw [World.putObj_heap_same hlt3, hlp]
      rfl
    · intro b o hb hc hn
      have hbl : b ≠ w.heap.size + 1 := fun e => by
        subst e
        rw [hl] at hb
        cases hb
        cases hc
      exact (World.putObj_heap_other hbl).trans (hkb _ _ ((World.putObj_heap_other hbl).trans (hka _ _ hb hn)) hn)
  · rintro e W2 ⟨⟨v, rfl⟩, xs, hS, hi, hl, hd⟩
    have he := run_endLoop (P := P) hl (by rw [hlp]; simp)
    rw [hlp] at he
    exact ⟨none, _, he, hdone _ xs _ (Nat.le_refl _) hS (hI _ _ _ hi (below_put W2 _ (by omega))) ((World.putObj_heap_other (by omega)).trans hd)⟩
end Go.Proofs.YtcbcjefefmbccaaDoor
