/-
  Own text. The program's recipe.Of by a contract.
  Own text. A range over a function whose iterator keeps state of its own in cells: a law for a loop body that writes one block of the caller's (Br) and new ones alone, and whose invariant hangs on blocks below the loop's beginning.
  Own text. The program's recipe.falling, its iterator, and recipe.Rep by contracts.
-/
import Derived.Test.YtjdobbjdlighpaaGreatDoorG11
import Derived.Test.YtjdobbjdlighpaaGreatDoorG06
import Derived.Test.YtjdobbjdlighpaaGreatDoorG13
import Derived.Deep.RegionLaw
import Derived.Deep.AppendLies
import Derived.RangeFuncNested
import Derived.RangeFuncLeaves
import Derived.RangeFuncCalls
import Derived.Below
namespace Go.Proofs.YtjdobbjdlighpaaGreatDoor
open Go.RowKit

/- A call of a function of one argument, at a step of a region that draws its order. -/
theorem step_call_one {P : Program} {ops : Array Oper} {o : Oper} {a : Act} {w : World} {K : Act → World → Prop} {Q : Exit → Act → World → Prop} {E : Prop} (hgd : o.guard = none) (f : FuncId) (x : Operand) (t : TypeId)
    (ho : o.op = .call { callee := .value (.func f), args := #[x], argTypes := #[t] }) (eg : ∀ args w, (callFunc f args).run P w = .ok (.enter f args) w) (vx : Value) (hx : a.eval x = vx) {R : Value → World → Prop}
    (hc : Calls P f #[vx] w fun e w' => ∃ v, e = .returned v ∧ R v w') (h : ∀ v w', R v w' → K (a.put o.dst v) w') :
    if Region.wanted o (yielded ops a.tmps) = true then Oper.wp P o a w K Q else E := by
  have hw : Region.wanted o (yielded ops a.tmps) = true := by simp [Region.wanted, hgd]
  rw [if_pos hw]
  unfold Oper.wp execOp
  have hf : a.eval (.func f) = .func (.func f) #[] #[] := rfl
  have hc2 : Calls P f #[vx] w fun | .returned v, w'' => K (a.put o.dst v) w'' | .panicked chain, w'' => Q (.panic chain) a w'' | .outgrown, _ => LetsOut Q := hc.mono (by rintro e w' ⟨v, rfl, hR⟩; exact h v w' hR)
  simp only [ho, resolve, invoke, Sem.run_bind, Sem.run_pure, Result.andThen_ok, List.map_toArray, List.map_cons, List.map_nil, hf, hx, Deferred.ofValue, eg, Array.append_empty]
  exact hc2

theorem ofR_name {nm l : List UInt8} (h : isName nm = false) : ofR nm l = (([], 0, 0, []), 4) := by unfold ofR; rw [if_pos h]
theorem ofR_bound {nm l : List UInt8} (h : isName nm = true) (h2 : 4000 < l.length) : ofR nm l = (([], 0, 0, []), 2) := by unfold ofR; rw [if_neg (by rw [h]; simp), if_pos h2]
theorem ofR_fine {nm l : List UInt8} (h : isName nm = true) (h2 : ¬ 4000 < l.length) : ofR nm l = ((nm, (l.length : Int), pmore 2166136261 l, idsOf l), 0) := by unfold ofR; rw [if_neg (by rw [h]; simp), if_neg h2]
def ofPost (a : Nat → Addr) (nm s : ByteArray) (w : World) (e : Ending) (w' : World) : Prop := ∃ v ev, e = .returned (.tuple #[rcpDV (ofR nm.data.toList s.data.toList).1 v, ev]) ∧ IdsIn w.heap.size w' v (ofR nm.data.toList s.data.toList).1.2.2.2 ∧ ErrIn w.heap.size w' a ev ((ofR nm.data.toList s.data.toList).2, -1) ∧ Below w.heap.size w w'

set_option maxRecDepth 100000 in
set_option maxHeartbeats 4000000 in
theorem of_name (a : Nat → Addr) (nm s : ByteArray) (hnm : nm.size ≤ maxLen) (h : isName nm.data.toList = false) (w : World) (hE : ErrE [1, 3] w a) :
    Calls Tryz.prog 8 #[.string nm, .string s] w fun e w' => ofPost a nm s w e w' := by
  have HN : Hid (nm.size ≤ maxLen) := hnm
  have HR : Hid (ofR nm.data.toList s.data.toList = (([], 0, 0, []), 4)) := ofR_name h
  have HH : Hid (isName nm.data.toList = false) := h
  have hb : ∀ o, Below w.heap.size w (w.alloc o) := fun o => (Below.refl _ w).alloc (Nat.le_refl _) o
  have hg : ∀ o, (w.alloc o).cell? ⟨errG 3, 0, none⟩ = some (sentV a 3) := fun o => (hE.below (hb o) (Nat.le_refl _)).glob 3 (by decide)
  dsimp only [errG] at hg
  clear hnm h hE
  go_enter Tryz.func8, Tryz.ntmps8
  go_wp2_with fail
  refine (name_any nm HN.out _).mono ?_
  rintro e w1 ⟨rfl, hw1⟩
  subst hw1
  rw [HH.out]
  go_wp2_with fail
  go_region
  all_goals go_wp2
  all_goals refine bodyPost_ret (v := .tuple #[rcpV ⟨#[]⟩ 0 0 (.slice none 0 0), sentV a 3]) (by simp [results, Tryz.results8, go_sem]) rfl ?_
  all_goals exact ⟨.slice none 0 0, sentV a 3, by rw [HR.out]; rfl, by rw [HR.out]; exact IdsIn.nil _ _, by rw [HR.out]; exact ErrIn.sent _ _ a 3 (by decide) rfl, (hb _).drew⟩

set_option maxRecDepth 100000 in
set_option maxHeartbeats 4000000 in
theorem of_bound (a : Nat → Addr) (nm s : ByteArray) (hnm : nm.size ≤ maxLen) (h : isName nm.data.toList = true) (hs : 4000 < s.size) (w : World) (hE : ErrE [1, 3] w a) :
    Calls Tryz.prog 8 #[.string nm, .string s] w fun e w' => ofPost a nm s w e w' := by
  have HN : Hid (nm.size ≤ maxLen) := hnm
  have HR : Hid (ofR nm.data.toList s.data.toList = (([], 0, 0, []), 2)) := ofR_bound h (by rw [Array.length_toList]; exact hs)
  have HH : Hid (isName nm.data.toList = true) := h
  have hs' : (4000 : Int) < (s.size : Int) := by omega
  have hb : ∀ o, Below w.heap.size w (w.alloc o) := fun o => (Below.refl _ w).alloc (Nat.le_refl _) o
  have hg : ∀ o, (w.alloc o).cell? ⟨errG 1, 0, none⟩ = some (sentV a 1) := fun o => (hE.below (hb o) (Nat.le_refl _)).glob 1 (by decide)
  dsimp only [errG] at hg
  clear hnm h hE hs
  go_enter Tryz.func8, Tryz.ntmps8
  go_wp2_with fail
  refine (name_any nm HN.out _).mono ?_
  rintro e w1 ⟨rfl, hw1⟩
  subst hw1
  rw [HH.out]
  go_wp2_with fail
  go_region
  all_goals go_wp2
  all_goals refine bodyPost_ret (v := .tuple #[rcpV ⟨#[]⟩ 0 0 (.slice none 0 0), sentV a 1]) (by simp [results, Tryz.results8, go_sem]) rfl ?_
  all_goals exact ⟨.slice none 0 0, sentV a 1, by rw [HR.out]; rfl, by rw [HR.out]; exact IdsIn.nil _ _, by rw [HR.out]; exact ErrIn.sent _ _ a 1 (by decide) rfl, (hb _).drew⟩

set_option maxRecDepth 100000 in
set_option maxHeartbeats 4000000 in
theorem of_fine (a : Nat → Addr) (nm s : ByteArray) (hnm : nm.size ≤ maxLen) (h : isName nm.data.toList = true) (hs : s.size ≤ 4000) (w : World) :
    Calls Tryz.prog 8 #[.string nm, .string s] w fun e w' => ofPost a nm s w e w' := by
  obtain ⟨i0, hi, hz0, hz1, hz2⟩ := info_parts infoID
  have HN : Hid (nm.size ≤ maxLen) := hnm
  have HH : Hid (isName nm.data.toList = true) := h
  have hs' : ¬ (4000 : Int) < (s.size : Int) := by omega
  have HS : Hid (s.size ≤ 4000) := hs
  have HSM : Hid (s.size ≤ maxLen) := by show _ ≤ _; unfold maxLen; omega
  have HPL : Hid ((pieces s.data.toList).length ≤ 4000) := Nat.le_trans (pieces_len_le _) (by rw [Array.length_toList]; exact hs)
  have HPS : Hid (∀ i (h : i < (pieces s.data.toList).length), ((pieces s.data.toList)[i]).length ≤ 64) := fun i h => (pieces_at _ i h).2.1
  have HR : Hid (ofR nm.data.toList s.data.toList = ((nm.data.toList, (s.size : Int), pmore 2166136261 s.data.toList, (pieces s.data.toList).map fun p => (pmore 2166136261 p, (p.length : Int))), 0)) := by
    show _ = _
    rw [ofR_fine h (by rw [Array.length_toList]; show ¬ 4000 < s.size; omega), Array.length_toList]
    rfl
  clear hnm hs h
  have hP := pieces_any s (by have := HS.out; omega)
  generalize pieces s.data.toList = qs at *
  have HP : Hid (∀ (w : World), Calls Tryz.prog 9 #[.string s] w fun e w' => ∃ v, e = .returned v ∧ w'.ownsRow w.heap.size 9 1 v qs.length (qs.map strW) ∧ Below w.heap.size w w') := hP
  clear hP
  go_enter Tryz.func8, Tryz.ntmps8
  go_wp2_with fail
  refine (name_any nm HN.out _).mono ?_
  rintro e w1 ⟨rfl, hw1⟩
  subst hw1
  rw [HH.out]
  go_wp2_with fail
  refine (of_any s _ HSM.out).mono ?_
  rintro e w1 ⟨rfl, hw1⟩
  subst hw1
  obtain ⟨P, hP⟩ : ∃ P, pmore 2166136261 s.data.toList = P := ⟨_, rfl⟩
  have HPP : Hid (pmore 2166136261 s.data.toList = P) := hP
  rw [hP]
  clear hP
  go_wp2_with fail
  refine (HP.out _).mono ?_
  clear HP
  rintro e w0 ⟨v0, rfl, ho0, hb0⟩
  have hR1 := Blk.new w #[.string ⟨#[]⟩, .int .i64 0, .int .u32 0, .slice none 0 0] 26
  have hX1 := Blk.new (w.alloc (.cells #[.string ⟨#[]⟩, .int .i64 0, .int .u32 0, .slice none 0 0] 26)) #[.string nm, .int .i64 (s.size : Int), .int .u32 (P : Nat), .slice none 0 0] 26
  rw [World.size_alloc] at hX1
  have hal1 : Below w.heap.size w (w.alloc (.cells #[.string ⟨#[]⟩, .int .i64 0, .int .u32 0, .slice none 0 0] 26)) := (Below.refl _ w).alloc (Nat.le_refl _) _
  have hal2 := (Below.refl (w.alloc (.cells #[.string ⟨#[]⟩, .int .i64 0, .int .u32 0, .slice none 0 0] 26)).heap.size (w.alloc (.cells #[.string ⟨#[]⟩, .int .i64 0, .int .u32 0, .slice none 0 0] 26))).alloc (Nat.le_refl _) (.cells #[.string nm, .int .i64 (s.size : Int), .int .u32 (P : Nat), .slice none 0 0] 26)
  replace hR1 := (hR1.next hal2).next hb0
  replace hX1 := hX1.next hb0
  have hbw0 : Below w.heap.size w w0 := (hal1.trans (hal2.mono (by simp))).trans (hb0.mono (by simp; omega))
  have hszz : w.heap.size + 2 ≤ w0.heap.size := by have := hb0.size; simp at this; omega
  obtain ⟨p0, c0, rfl, hcell⟩ := CellsAt.of_row ho0
  simp only [List.length_map, List.getElem_map] at hcell ⊢
  have hnew : ∀ i (h : i < qs.length), ∃ b o, p0 = some ⟨b, o, none⟩ ∧ w.heap.size + 2 ≤ b ∧ b < w0.heap.size ∧ w0.cell? ⟨b, o + i, none⟩ = some (strW qs[i]) := fun i hi => by
    obtain ⟨b, o, hp, hl, hc⟩ := hcell i hi
    refine ⟨b, o, hp, ?_, hl.1, hc⟩
    have := own_base ho0 (j := b) (by rw [hp]; rfl)
    simpa using this
  have HCELL : Hid (∀ i (h : i < qs.length), ∃ b o, p0 = some ⟨b, o, none⟩ ∧ ∀ W', SameIn (w.heap.size + 2) w0.heap.size w0 W' → W'.cell? ⟨b, o + i, none⟩ = some (strW qs[i])) := fun i hi => by
    obtain ⟨b, o, hp, h1, h2, hc⟩ := hnew i hi
    exact ⟨b, o, hp, fun W' hb => (hb.cell h1 h2 _).trans hc⟩
  have hql : (qs.length : Int) ≤ 4000 := by have := HPL.out; omega
  clear hcell ho0 hb0 hal1 hal2 hnew
  go_wp2_with fail
  go_loopw [28] (fun i wr => ∃ (k : Nat) (v : Value), k ≤ qs.length ∧ i = .int .i64 k ∧ wr.ownsRow w0.heap.size 40 2 v k (idCells ((qs.take k).map fun p => (pmore 2166136261 p, (p.length : Int)))) ∧ Below (w.heap.size + 1) w0 wr ∧ SameIn (w.heap.size + 2) w0.heap.size w0 wr ∧ Blk wr (w.heap.size + 1) #[.string nm, .int .i64 (s.size : Int), .int .u32 (P : Nat), v] 26) (fun i _ => qs.length - (intOf i).toNat)
  case atStart => exact ⟨0, .slice none 0 0, Nat.zero_le _, rfl, World.ownsRow_nil _ _ _ _, Below.refl _ _, SameIn.refl _ _ _, hX1⟩
  case round =>
    obtain ⟨k, v, hk, rfl, hown, hbr, hsm, hX⟩ := hrel
    clear hX1
    by_cases hlt : k < qs.length
    · have hlt' : (k : Int) < (qs.length : Int) := by omega
      obtain ⟨b, o, rfl, hc⟩ := HCELL.out k hlt
      have hc' := hc wr hsm
      have HNX : Hid (idCells ((qs.take (k + 1)).map fun p => (pmore 2166136261 p, (p.length : Int))) = idCells ((qs.take k).map fun p => (pmore 2166136261 p, (p.length : Int))) ++ [.int .u32 (pmore 2166136261 qs[k] : Nat), .int .i64 (qs[k].length : Int)]) := by
        show _ = _
        rw [List.take_succ_eq_append_getElem hlt, List.map_append, idCells_append]
        rfl
      obtain ⟨q, hq⟩ : ∃ q : ByteArray, (⟨qs[k].toArray⟩ : ByteArray) = q := ⟨_, rfl⟩
      have hqd : q.data.toList = qs[k] := by rw [← hq]
      have hqs : (q.size : Int) = (qs[k].length : Int) := by rw [← hq]; rfl
      have HQM : Hid (q.size ≤ maxLen) := by
        show _ ≤ _
        have := HPS.out k hlt
        unfold maxLen
        omega
      rw [strW, hq] at hc'
      rw [← hqd] at HNX
      obtain ⟨Q, hQ⟩ : ∃ Q, pmore 2166136261 q.data.toList = Q := ⟨_, rfl⟩
      have HQQ : Hid (pmore 2166136261 q.data.toList = Q) := hQ
      rw [hQ] at HNX
      rw [hqd, ← hqs] at HNX
      obtain ⟨L, hL⟩ : ∃ L : Int, (q.size : Int) = L := ⟨_, rfl⟩
      have HLL : Hid ((q.size : Int) = L) := hL
      rw [hL] at HNX
      clear hc hqs hqd hq hQ hL
      obtain ⟨pv, cv, rfl⟩ : ∃ pv cv, v = .slice pv k cv := by
        obtain ⟨_, h⟩ := hown
        rcases h with ⟨rfl, h0⟩ | ⟨g, cap, cur, rfl, _⟩
        · exact ⟨none, 0, by rw [h0]⟩
        · exact ⟨_, _, rfl⟩
      have x3 := hX.cell (i := 3) rfl
      have f3 := hX.frozen 3
      have hXl := hX.lt
      have hwz : w0.heap.size ≤ wr.heap.size := hbr.size
      have hne : (Value.slice pv k cv).ownBlock ≠ some (w.heap.size + 1) := fun e => by have := own_base hown e; omega
      go_wp2_with fail
      have HID : Hid (∀ W : World, Calls Tryz.prog 17 #[.string q] W fun e w' => ∃ u, e = .returned u ∧ (u = idV (Q : Nat) L ∧ Below W.heap.size W w')) := fun W => (id_any q W HQM.out).mono fun e w' ⟨h1, h2⟩ => ⟨_, h1, by rw [HQQ.out, HLL.out], h2⟩
      go_region_law (first
        | (refine step_call_one (by rfl) 17 _ _ (by rfl) (enters_of Tryz.func17 (by kernel_rfl) rfl) (.string q) (by rfl) (HID.out _) ?_; rintro u w2 ⟨rfl, hb2⟩; have hw2 : w.heap.size + 1 < w2.heap.size := Nat.lt_of_lt_of_le hXl hb2.size; have hw3 : w0.heap.size ≤ w2.heap.size := Nat.le_trans hwz hb2.size; have hX2 := Blk.next (W := wr.drew) hX hb2; have hX2a := fun o => hX2.next ((Below.refl _ w2).alloc (Nat.le_refl _) o); have x32 := hX2.cell (i := 3) rfl; have f32 := hX2.frozen 3)
        | (refine step_append_lies _ (by rfl) _ _ _ (by rfl) w0.heap.size 40 i0 _ 2 16 Tryz.underlying24 hi hz0 hz1 hz2 rfl (by decide) (.slice pv k cv) k _ (by rfl) (((row_below hown.drew hb2).alloc _)) ⟨w2.heap.size, 0, none⟩ 1 1 [.int .u32 (Q : Nat), .int .i64 L] (by rfl) (by rfl) (World.news_of_block (cs := #[.int .u32 (Q : Nat), .int .i64 L]) (t := 40) (fr := (0, 0)) (heap_alloc_new w2 _)) (by simp [Value.oneCell']) (by omega) (by unfold maxLen; omega) (by omega) (by simp; omega) (w2.heap.size + 1) (by simp) ?_; intro gg cap w3 hown3 hgrow hat hglt; have hX3 : Blk w3 (w.heap.size + 1) #[.string nm, .int .i64 (s.size : Int), .int .u32 (P : Nat), .slice pv k cv] 26 := (hgrow.block _ (by rw [World.size_alloc]; exact Nat.lt_succ_of_lt hw2) (fun e => hne e.symm)).trans (hX2a _); have x33 := hX3.cell (i := 3) rfl; have f33 := hX3.frozen 3))
      all_goals
        have hB3 : Below w0.heap.size wr w3 := (((Below.refl w0.heap.size wr).drew.trans (hb2.mono hwz)).alloc hw3 _).grown hgrow (by rw [World.size_alloc]; omega) (fun j e => own_base hown e)
        have hX4 := hX3.set 3 (.slice (some ⟨gg, 0, none⟩) (k + 1) cap)
        have hr4 := ownsRow_setCell_below hown3 (a := ⟨w.heap.size + 1, 3, none⟩) (show w.heap.size + 1 < w0.heap.size by omega) (.slice (some ⟨gg, 0, none⟩) (k + 1) cap)
        have hb4 := (hbr.trans (hB3.mono (by omega))).setCell (p := ⟨w.heap.size + 1, 3, none⟩) (Nat.le_refl _) (.slice (some ⟨gg, 0, none⟩) (k + 1) cap)
        have hs4 := (hsm.below (Nat.le_refl _) hB3).setCell (a := ⟨w.heap.size + 1, 3, none⟩) (.inl (Nat.lt_succ_self _)) (.slice (some ⟨gg, 0, none⟩) (k + 1) cap)
        obtain ⟨W4, hW4⟩ : ∃ W4, w3.setCell ⟨w.heap.size + 1, 3, none⟩ (.slice (some ⟨gg, 0, none⟩) (k + 1) cap) = W4 := ⟨_, rfl⟩
        rw [hW4] at hX4 hr4 hb4 hs4 ⊢
        clear hW4 hX3 hX2 hX2a x32 f32 x33 f33 hgrow hown3 hb2 hB3 x3 f3 hX hown
        go_wp2_with fail
        go_roundw
        case rel => exact ⟨k + 1, .slice (some ⟨gg, 0, none⟩) (k + 1) cap, by omega, by go_num, by rw [HNX.out]; exact hr4, hb4, hs4, hX4⟩
        case measure => simp [intOf]; omega
    · have hge : (qs.length : Int) ≤ (k : Int) := by omega
      rw [List.take_of_length_le (by omega)] at hown
      obtain rfl : k = qs.length := by omega
      have hRr := hR1.below hbr (Nat.lt_succ_self _)
      have x0 := hX.cell (i := 0) rfl
      have x1 := hX.cell (i := 1) rfl
      have x2 := hX.cell (i := 2) rfl
      have x3 := hX.cell (i := 3) rfl
      have r0 := hRr.cell (i := 0) rfl
      have r1 := hRr.cell (i := 1) rfl
      have r2 := hRr.cell (i := 2) rfl
      have r3 := hRr.cell (i := 3) rfl
      have g0 := hRr.frozen 0
      have g1 := hRr.frozen 1
      have g2 := hRr.frozen 2
      have g3 := hRr.frozen 3
      have hRl := hRr.lt
      obtain ⟨pv, cv, rfl⟩ : ∃ pv cv, v = .slice pv qs.length cv := by
        obtain ⟨_, h⟩ := hown
        rcases h with ⟨rfl, h0⟩ | ⟨g, cap, cur, rfl, _⟩
        · exact ⟨none, 0, by rw [h0]⟩
        · exact ⟨_, _, rfl⟩
      have HROW : Hid (wr.ownsRow w0.heap.size 40 2 (.slice pv qs.length cv) qs.length (idCells (qs.map fun p => (pmore 2166136261 p, (p.length : Int))))) := hown
      have hbw : Below w.heap.size w wr := hbw0.trans (hbr.mono (Nat.le_succ _))
      have hR0 : w.heap.size < w0.heap.size := by omega
      clear hown hRr
      go_wp2_with fail
      refine bodyPost_ret (v := .tuple #[rcpV nm s.size (P : Nat) (.slice pv qs.length cv), .nilIface]) (by simp [results, Tryz.results8, go_sem, r0, r1, r2, r3]) rfl ⟨.slice pv qs.length cv, .nilIface, by rw [HR.out, HPP.out], ?_, by rw [HR.out]; exact ErrIn.mkNil _ _ a, (((hbw.setCell (p := ⟨w.heap.size, 0, none⟩) (Nat.le_refl _) _).setCell (p := ⟨w.heap.size, 1, none⟩) (Nat.le_refl _) _).setCell (p := ⟨w.heap.size, 2, none⟩) (Nat.le_refl _) _).setCell (p := ⟨w.heap.size, 3, none⟩) (Nat.le_refl _) _⟩
      rw [HR.out]
      refine (IdsIn.of_row (base := w0.heap.size) (e := 40) ?_).low (Nat.le_of_lt hR0)
      rw [List.length_map]
      exact ownsRow_setCell_below (ownsRow_setCell_below (ownsRow_setCell_below (ownsRow_setCell_below HROW.out (a := ⟨w.heap.size, 0, none⟩) hR0 _) (a := ⟨w.heap.size, 1, none⟩) hR0 _) (a := ⟨w.heap.size, 2, none⟩) hR0 _) (a := ⟨w.heap.size, 3, none⟩) hR0 _

theorem of_all (a : Nat → Addr) (nm s : ByteArray) (hnm : nm.size ≤ maxLen) (w : World) (hE : ErrE [1, 3] w a) :
    Calls Tryz.prog 8 #[.string nm, .string s] w fun e w' => ofPost a nm s w e w' := by
  by_cases h : isName nm.data.toList = true
  · by_cases h2 : 4000 < s.size
    · exact of_bound a nm s hnm h h2 w hE
    · exact of_fine a nm s hnm h (by omega) w
  · exact of_name a nm s hnm (by simpa using h) w hE
end Go.Proofs.YtjdobbjdlighpaaGreatDoor
namespace Go.Proofs.YtjdobbjdlighpaaGreatDoor
open Go.RowKit

def KeptBut (Br : Nat) (W W' : World) : Prop := ∀ b o, W.heap[b]? = some o → b ≠ Br → W'.heap[b]? = some o
theorem KeptBut.refl (Br : Nat) (W : World) : KeptBut Br W W := fun _ _ h _ => h
theorem KeptBut.trans {Br : Nat} {A B C : World} (h : KeptBut Br A B) (k : KeptBut Br B C) : KeptBut Br A C := fun b o hb hn => k b o (h b o hb hn) hn
theorem KeptBut.alloc (Br : Nat) (W : World) (o : Obj) : KeptBut Br W (W.alloc o) := fun b _ hb _ => (Below.heap_alloc W o b (Array.getElem?_eq_some_iff.1 hb).1).trans hb
theorem KeptBut.setCell (W : World) (a : Addr) (u : Value) : KeptBut a.block W (W.setCell a u) := fun b _ hb hn => (Below.heap_setCell W a u b hn).trans hb
def KeptCells (Br : Nat) (W W' : World) : Prop := ∀ b o, W.heap[b]? = some o → o.isCells = true → b ≠ Br → W'.heap[b]? = some o
theorem below_put {B l : Nat} (A : World) (o : Obj) (h : B ≤ l) : Below B A (A.putObj l o) := ⟨rfl, rfl, rfl, by simp, fun k hk => World.putObj_heap_other (by omega)⟩

/- What an iterator owes: J hangs on blocks below the world in which the iterator began; a round keeps all cells but those of block Br. -/
def SeqLow {α : Type} (F : Fence) (n : Nat) (P : Program) (g : Nat) (lb : Array Value) (encs : α → Array Value) (Br : Nat) (S : List α → Prop) (N : Nat) (w : World) : Prop :=
  ∀ (l : Nat) (J : List α → World → Prop) (W : World), Below w.heap.size w W → (∀ pre A B, J pre A → Below W.heap.size A B → J pre B) →
    (∀ pre x W1, J pre W1 → pre.length < N → YieldAt F (n - 1) P l (encs x) W1 fun e W' => e = .returned (.bool true) ∧ J (pre ++ [x]) W' ∧ KeptCells Br W1 W') →
    J [] W → CallsIn F n P g (#[.func (.yield l) #[] #[]] ++ lb) W fun e W' => (∃ v, e = .returned v) ∧ ∃ xs, S xs ∧ J xs W'

theorem range_low {α : Type} {F : Fence} {n : Nat} {P : Program} {g : Operand} {ps : Array Tmp} {assign body : Code} {Q : Exit → Act → World → Prop} {a : Act} {w : World}
    (hro : F.round = none) (h1 : 1 ≤ n) {gf : Nat} {lb : Array Value} (hg : a.eval g = .func (.func gf) #[] lb) (hFg : F.fn gf) (eg : ∀ args w, (callFunc gf args).run P w = .ok (.enter gf args) w)
    {encs : α → Array Value} {Br : Nat} {S : List α → Prop} {N : Nat} {w0 : World} (hseq : SeqLow F (n - 1) P gf lb encs Br S N w0)
    (hBr : Br < w.heap.size) (hb0 : Below w0.heap.size w0 w) (hps : ∀ x, (encs x).size = ps.size)
    (I : List α → World → Prop) (hI : ∀ pre A B, I pre A → Below w.heap.size A B → I pre B) (h0 : I [] w)
    (Ax : α → Act → World → Prop) (hAx : ∀ x a' A l o, (∃ r, A.heap[l]? = some (.loop r)) → Ax x a' A → Ax x a' (A.putObj l o))
    (hassign : ∀ (l : Nat) (pre : List α) (x : α) (W : World) (K : Act → World → Prop), w.heap.size ≤ W.heap.size → I pre W → (∀ a' W', KeptBut Br W W' → I pre W' → Ax x a' W' → K a' W') →
      assign.wpIn (F.inRound l) (n - 1 - 1) P (Exit.then K (fun _ _ _ => False)) { tmps := (ps.zip (encs x)).foldl (fun t (p, v) => t.setIfInBounds p v) a.tmps, defers := [] } W)
    (hbody : ∀ (l : Nat) (pre : List α) (x : α) (a' : Act) (W : World), I pre W → Ax x a' W → pre.length < N → body.wpIn (F.inRound l) (n - 1 - 1) P (fun e _ W' => e = .normal ∧ KeptBut Br W W' ∧ I (pre ++ [x]) W') a' W)
    (hdone : ∀ (D : Nat) (xs : List α) (W : World), w.heap.size ≤ D → S xs → I xs W → W.heap[D]? = some (.deferred (some [])) → Q .normal { a with defers := { target := .collected D, args := #[] } :: a.defers } W) :
    (Code.rangeFunc g ps assign body).wpIn F n P Q a w := by
  refine wpIn_rangeFunc ?_
  intro fn hfn
  rw [hro]
  obtain ⟨lp, hlp⟩ : ∃ lp : LoopState → Loop, lp = fun st => { state := st, pending := none, fn, tmps := a.tmps, params := ps, assign, body, defers := w.heap.size } := ⟨_, rfl⟩
  obtain ⟨V, hV⟩ : ∃ V, (w.alloc (.deferred (some []))).alloc (.loop (lp .ready)) = V := ⟨_, rfl⟩
  have hVs : V.heap.size = w.heap.size + 2 := by rw [← hV]; simp
  have hVl : V.heap[w.heap.size + 1]? = some (.loop (lp .ready)) := by
    rw [← hV]
    have := World.alloc_heap_new (w.alloc (.deferred (some []))) (.loop (lp .ready))
    rwa [World.size_alloc] at this
  have hVd : V.heap[w.heap.size]? = some (.deferred (some [])) := by
    rw [← hV]
    exact (Below.heap_alloc _ _ _ (by simp)).trans (World.alloc_heap_new w _)
  have hVb : Below w.heap.size w V := by rw [← hV]; exact ((Below.refl _ w).alloc (Nat.le_refl _) _).alloc (by simp) _
  refine ⟨w.heap.size + 1, [{ target := .collected w.heap.size, args := #[] }], V, { target := .fn (.func gf) lb, args := #[.func (.yield (w.heap.size + 1)) #[] #[]] }, V, gf,
    #[.func (.yield (w.heap.size + 1)) #[] #[]] ++ lb, V, ?_, ?_, ?_, ?_, fun _ => h1, ?_⟩
  · rw [← hV, hlp]
    exact run_enterLoop_outer _ _ _ _ _
  · simp only [resolve, hg]
    simp [go_sem]
  · intro f' hf'
    simp [Target.leads] at hf'
    subst hf'
    exact hFg
  · simp [invoke, go_sem, eg]
  refine (hseq (w.heap.size + 1) (fun pre W => I pre W ∧ W.heap[w.heap.size + 1]? = some (.loop (lp .ready)) ∧ W.heap[w.heap.size]? = some (.deferred (some []))) V (hb0.trans (hVb.mono hb0.size))
    (fun pre A B h hb => ⟨hI pre A B h.1 (hb.mono (by omega)), (hb.block _ (by omega)).trans h.2.1, (hb.block _ (by omega)).trans h.2.2⟩) ?_ ⟨hI [] w V h0 hVb, hVl, hVd⟩).mono ?_
  · rintro pre x W ⟨hi, hl, hd⟩ hlen
    have hlt : w.heap.size + 1 < W.heap.size := (Array.getElem?_eq_some_iff.1 hl).1
    have hy := run_yield (P := P) (args := encs x) hl (by rw [hlp]; exact hps x)
    rw [hlp] at hy
    refine ⟨fn, _, assign, body, hy, roundIn_of_wpIn hfn (hassign _ pre x W _ (by omega) hi ?_)⟩
    clear hy
    intro a' Wa hka hia hax
    have hla := hka _ _ hl (by omega)
    have hda := hka _ _ hd (by omega)
    have hlta : w.heap.size + 1 < Wa.heap.size := (Array.getElem?_eq_some_iff.1 hla).1
    refine ⟨_, run_beginRound hla (by rw [hlp]), ?_⟩
    refine wpIn_mono (hbody _ pre x a' _ (hI _ _ _ hia (below_put Wa _ (by omega))) (hAx x a' Wa _ _ ⟨_, hla⟩ hax) hlen) ?_
    rintro e a3 W3 ⟨rfl, hkb, hi3⟩
    have hlb := hkb _ _ (World.putObj_heap_same hlta) (by omega)
    have hdb := hkb _ _ ((World.putObj_heap_other (w := Wa) (r := w.heap.size + 1) (k := w.heap.size) (by omega)).trans hda) (by omega)
    have hr := run_endRound (P := P) none hlb
    have hlt3 : w.heap.size + 1 < W3.heap.size := (Array.getElem?_eq_some_iff.1 hlb).1
    refine ⟨_, _, hr, rfl, ⟨hI _ _ _ hi3 (below_put W3 _ (by omega)), ?_, (World.putObj_heap_other (by omega)).trans hdb⟩, ?_⟩
    · rw [World.putObj_heap_same hlt3, hlp]
      rfl
    · intro b o hb hc hn
      have hbl : b ≠ w.heap.size + 1 := fun e => by
        subst e
        rw [hl] at hb
        cases hb
        cases hc
      exact (World.putObj_heap_other hbl).trans (hkb _ _ ((World.putObj_heap_other hbl).trans (hka _ _ hb hn)) hn)
  · rintro e W2 ⟨⟨v, rfl⟩, xs, hS, hi, hl, hd⟩
    have he := run_endLoop (P := P) hl (by rw [hlp]; simp)
    rw [hlp] at he
    exact ⟨none, _, he, hdone _ xs _ (Nat.le_refl _) hS (hI _ _ _ hi (below_put W2 _ (by omega))) ((World.putObj_heap_other (by omega)).trans hd)⟩
end Go.Proofs.YtjdobbjdlighpaaGreatDoor
namespace Go.Proofs.YtjdobbjdlighpaaGreatDoor
open Go.RowKit Go.Shelf

attribute [local go_sem] Oper.semAt_some

theorem KeptCells.blk {Br : Nat} {W W' : World} (h : KeptCells Br W W') {B : Nat} {cs : Array Value} {t : TypeId} (hB : Blk W B cs t) (hn : B ≠ Br) : Blk W' B cs t := h B _ hB rfl hn
theorem KeptCells.cell {Br : Nat} {W W' : World} (h : KeptCells Br W W') {b o : Nat} {v : Value} (hc : W.cell? ⟨b, o, none⟩ = some v) (hn : b ≠ Br) : W'.cell? ⟨b, o, none⟩ = some v := by
  have hb : ∃ x, W.heap[b]? = some x ∧ x.isCells = true := by
    cases hx : W.heap[b]? with
    | none => simp [World.cell?, hx] at hc
    | some x =>
      refine ⟨x, rfl, ?_⟩
      cases x with
      | cells => rfl
      | _ => simp [World.cell?, hx] at hc
  obtain ⟨x, hx, hi⟩ := hb
  exact (World.cell?_of_block (w := W) ((h b x hx hi hn).trans hx.symm)).trans hc

def zeroRep : Nat × Int := (2166136261, 0)
def lastOf (l : List (Nat × Int)) : Nat × Int := l.getLastD zeroRep
theorem lastOf_snoc (l : List (Nat × Int)) (x : Nat × Int) : lastOf (l ++ [x]) = x := by simp [lastOf]

set_option maxHeartbeats 1000000 in
theorem falling_in (n : Nat) (v : Value) (w : World) (p : Option Addr) (k c : Nat) (hv : v = .slice p k c) :
    CallsIn Fence.wide n Tryz.prog 63 #[v] w fun e w' => e = .returned (.func (.func 108) #[] #[.pointer (some ⟨w.heap.size, 0, none⟩)]) ∧ w' = w.alloc (.cells #[v] 24) := by
  subst hv
  refine callsIn_of_wp Tryz.func63 rfl trivial ?_ rfl
  simp only [Tryz.ntmps63, List.size_toArray, List.length_cons, List.length_nil, Nat.reduceAdd, Nat.reduceSub, Array.replicate_succ, Array.replicate_zero, List.push_toArray, List.append_toArray, List.nil_append, List.cons_append]
  gi_wp2
  go_ret
  exact ⟨rfl, rfl⟩

set_option maxRecDepth 100000 in
set_option maxHeartbeats 4000000 in
theorem falling1_in (n : Nat) (hn : 1 ≤ n) (l Bs Br : Nat) (pa : Option Addr) (c : Nat) (ids : List (Nat × Int)) (hlen : ids.length ≤ maxLen) (J : List (Nat × Int) → World → Prop) (W : World)
    (hJ : ∀ pre A B, J pre A → Below W.heap.size A B → J pre B)
    (hY : ∀ pre x W1, J pre W1 → pre.length < ids.length → YieldAt Fence.wide (n - 1) Tryz.prog l #[idV (x.1 : Nat) x.2] W1 fun e W' => e = .returned (.bool true) ∧ J (pre ++ [x]) W' ∧ KeptCells Br W1 W')
    (hs : W.cell? ⟨Bs, 0, none⟩ = some (.slice pa ids.length c)) (hBr : Br < W.heap.size)
    (hids : ∀ i (h : i < ids.length), ∃ b o, pa = some ⟨b, o, none⟩ ∧ b ≠ Br ∧ W.cell? ⟨b, o + i * 2, none⟩ = some (.int .u32 (ids[i].1 : Nat)) ∧ W.cell? ⟨b, o + i * 2 + 1, none⟩ = some (.int .i64 ids[i].2)) (h0 : J [] W) :
    CallsIn Fence.wide n Tryz.prog 108 #[.func (.yield l) #[] #[], .pointer (some ⟨Bs, 0, none⟩)] W fun e W' => (∃ v, e = .returned v) ∧ ∃ xs, lastOf xs = repOf ids ∧ J xs W' := by
  have hl2 : (ids.length : Int) ≤ 9223372036854775807 := by unfold maxLen at hlen; omega
  have HJ : Hid (∀ pre A B, J pre A → Below W.heap.size A B → J pre B) := hJ
  have HY : Hid (∀ pre x W1, J pre W1 → pre.length < ids.length → YieldAt Fence.wide (n - 1) Tryz.prog l #[idV (x.1 : Nat) x.2] W1 fun e W' => e = .returned (.bool true) ∧ J (pre ++ [x]) W' ∧ KeptCells Br W1 W') := hY
  have hBl := lt_of_cell hs
  have HID : Hid (∀ i (h : i < ids.length), ∃ b o, pa = some ⟨b, o, none⟩ ∧ b ≠ Br ∧ b < W.heap.size) := fun i h => by
    obtain ⟨b, o, h1, h2, h3, _⟩ := hids i h
    exact ⟨b, o, h1, h2, lt_of_cell h3⟩
  have hal : Below W.heap.size W (W.alloc (.cells #[.int .u32 0, .int .i64 0] 40)) := (Below.refl _ W).alloc (Nat.le_refl _) _
  have hL0 := Blk.new W #[.int .u32 0, .int .i64 0] 40
  have HIA : Hid (∀ i (h : i < ids.length), ∃ b o, pa = some ⟨b, o, none⟩ ∧ b ≠ Br ∧ b < W.heap.size ∧ (W.alloc (.cells #[.int .u32 0, .int .i64 0] 40)).cell? ⟨b, o + i * 2, none⟩ = some (.int .u32 (ids[i].1 : Nat)) ∧ (W.alloc (.cells #[.int .u32 0, .int .i64 0] 40)).cell? ⟨b, o + i * 2 + 1, none⟩ = some (.int .i64 ids[i].2)) := fun i h => by
    obtain ⟨b, o, h1, h2, h3, h4⟩ := hids i h
    exact ⟨b, o, h1, h2, lt_of_cell h3, (hal.cell (p := ⟨b, o + i * 2, none⟩) (lt_of_cell h3)).trans h3, (hal.cell (p := ⟨b, o + i * 2 + 1, none⟩) (lt_of_cell h4)).trans h4⟩
  have h0' := hJ _ _ _ h0 hal
  clear hJ hY hids hlen
  refine callsIn_of_wp Tryz.func108 rfl trivial ?_ rfl
  simp only [Tryz.ntmps108, List.size_toArray, List.length_cons, List.length_nil, Nat.reduceAdd, Nat.reduceSub, Array.replicate_succ, Array.replicate_zero, List.push_toArray, List.append_toArray, List.nil_append, List.cons_append]
  gi_wp2
  gi_loopw [8] (fun i wr => ∃ (k : Nat) (pre : List (Nat × Int)) (m : Nat × Int), k ≤ ids.length ∧ i = .int .i64 k ∧ pre.length ≤ k ∧ lastOf pre = repOf (ids.take k) ∧ (1 ≤ k → m = repOf (ids.take k)) ∧ Blk wr W.heap.size #[.int .u32 (m.1 : Nat), .int .i64 m.2] 40 ∧
      (∀ i (h : i < ids.length), ∃ b o, pa = some ⟨b, o, none⟩ ∧ b ≠ Br ∧ b < W.heap.size ∧ wr.cell? ⟨b, o + i * 2, none⟩ = some (.int .u32 (ids[i].1 : Nat)) ∧ wr.cell? ⟨b, o + i * 2 + 1, none⟩ = some (.int .i64 ids[i].2)) ∧ J pre wr) (fun i _ => ids.length - (intOf i).toNat)
  case atStart => exact ⟨0, [], (0, 0), Nat.zero_le _, rfl, Nat.le_refl _, rfl, fun h => by omega, hL0, HIA.out, h0'⟩
  case round =>
    clear hL0 h0 h0' hs hal HIA
    obtain ⟨k, pre, m, hk, rfl, hpl, hlast, hm, hL, hcell, hJp⟩ := hrel
    have HLA : Hid (lastOf pre = repOf (ids.take k)) := hlast
    have HM : Hid (1 ≤ k → m = repOf (ids.take k)) := hm
    have HPL : Hid (pre.length ≤ k) := hpl
    have HC : Hid (∀ i (h : i < ids.length), ∃ b o, pa = some ⟨b, o, none⟩ ∧ b ≠ Br ∧ b < W.heap.size ∧ wr.cell? ⟨b, o + i * 2, none⟩ = some (.int .u32 (ids[i].1 : Nat)) ∧ wr.cell? ⟨b, o + i * 2 + 1, none⟩ = some (.int .i64 ids[i].2)) := hcell
    clear hlast hm hpl hcell
    by_cases hlt : k < ids.length
    · have hlt' : (k : Int) < (ids.length : Int) := by omega
      obtain ⟨b, o, rfl, hbr, hbw, hc0, hc1⟩ := HC.out k hlt
      have HRN : Hid (1 ≤ k → repOf (ids.take (k + 1)) = lesser (repOf (ids.take k)) ids[k]) := fun h => repOf_next ids k hlt h
      have HR1 : Hid (k = 0 → repOf (ids.take (k + 1)) = ids[k]) := fun h => by
        subst h
        cases ids with
        | nil => simp at hlt
        | cons x r => rfl
      obtain ⟨y, hy⟩ : ∃ y, ids[k] = y := ⟨_, rfl⟩
      rw [hy] at hc0 hc1 HRN HR1
      clear hy
      have hLl := hL.lt
      have q0 := hL.cell (i := 0) rfl
      have q1 := hL.cell (i := 1) rfl
      have g0 := hL.frozen 0
      have g1 := hL.frozen 1
      have hLn : W.heap.size ≠ wr.heap.size := by omega
      have hwz : W.heap.size ≤ wr.heap.size := by omega
      have hpk : pre.length < ids.length := by have := HPL.out; omega
      /- the world in which yield is called, behind the store of what is told -/
      have HW : Hid (∀ V, Below wr.heap.size wr V → (Blk ((V.setCell ⟨W.heap.size, 0, none⟩ (.int .u32 (y.1 : Nat))).setCell ⟨W.heap.size, 1, none⟩ (.int .i64 y.2)) W.heap.size #[.int .u32 (y.1 : Nat), .int .i64 y.2] 40) ∧ Below W.heap.size wr ((V.setCell ⟨W.heap.size, 0, none⟩ (.int .u32 (y.1 : Nat))).setCell ⟨W.heap.size, 1, none⟩ (.int .i64 y.2))) := fun V hb =>
        ⟨((hL.next hb).set 0 (.int .u32 (y.1 : Nat))).set 1 (.int .i64 y.2), (((Below.refl W.heap.size wr).trans (hb.mono hwz)).setCell (p := ⟨W.heap.size, 0, none⟩) (Nat.le_refl _) _).setCell (p := ⟨W.heap.size, 1, none⟩) (Nat.le_refl _) _⟩
      have HN : Hid (∀ V W3, Below W.heap.size wr V → KeptCells Br V W3 → ∀ i (h : i < ids.length), ∃ b' o', (some ⟨b, o, none⟩ : Option Addr) = some ⟨b', o', none⟩ ∧ b' ≠ Br ∧ b' < W.heap.size ∧ W3.cell? ⟨b', o' + i * 2, none⟩ = some (.int .u32 (ids[i].1 : Nat)) ∧ W3.cell? ⟨b', o' + i * 2 + 1, none⟩ = some (.int .i64 ids[i].2)) := fun V W3 hb hk i hi => by
        obtain ⟨b', o', h1, h2, h3, h4, h5⟩ := HC.out i hi
        exact ⟨b', o', h1, h2, h3, hk.cell ((hb.cell (p := ⟨b', o' + i * 2, none⟩) h3).trans h4) h2, hk.cell ((hb.cell (p := ⟨b', o' + i * 2 + 1, none⟩) h3).trans h5) h2⟩
      have HS : Hid (∀ V, Below W.heap.size wr V → ∀ i (h : i < ids.length), ∃ b' o', (some ⟨b, o, none⟩ : Option Addr) = some ⟨b', o', none⟩ ∧ b' ≠ Br ∧ b' < W.heap.size ∧ V.cell? ⟨b', o' + i * 2, none⟩ = some (.int .u32 (ids[i].1 : Nat)) ∧ V.cell? ⟨b', o' + i * 2 + 1, none⟩ = some (.int .i64 ids[i].2)) := fun V hb i hi => by
        obtain ⟨b', o', h1, h2, h3, h4, h5⟩ := HC.out i hi
        exact ⟨b', o', h1, h2, h3, (hb.cell (p := ⟨b', o' + i * 2, none⟩) h3).trans h4, (hb.cell (p := ⟨b', o' + i * 2 + 1, none⟩) h3).trans h5⟩
      have hLB : W.heap.size ≠ Br := by omega
      have hal : Below wr.heap.size wr (wr.alloc (.cells #[.int .u32 (y.1 : Nat), .int .i64 y.2] 40)) := (Below.refl _ wr).alloc (Nat.le_refl _) _
      by_cases hk0 : k = 0
      · have hz : ¬ (0 : Int) < (k : Int) := by omega
        have HRR : Hid (repOf (ids.take (k + 1)) = y) := HR1.out hk0
        clear hk0
        gi_wp2
        refine ⟨trivial, ?_⟩
        have hI0 := Blk.new wr #[.int .u32 (y.1 : Nat), .int .i64 y.2] 40
        obtain ⟨V, hV⟩ : ∃ V, wr.alloc (.cells #[.int .u32 (y.1 : Nat), .int .i64 y.2] 40) = V := ⟨_, rfl⟩
        rw [hV] at hI0 hal ⊢
        obtain ⟨Bi, hBi⟩ : ∃ Bi, wr.heap.size = Bi := ⟨_, rfl⟩
        rw [hBi] at hI0 hLn ⊢
        have i0 := hI0.cell (i := 0) rfl
        have i1 := hI0.cell (i := 1) rfl
        have hLV := hL.next hal
        have u0 := hLV.cell (i := 0) rfl
        have u1 := hLV.cell (i := 1) rfl
        have v0 := hLV.frozen 0
        have v1 := hLV.frozen 1
        have hVl := hLV.lt
        obtain ⟨hLy, hBy⟩ := HW.out V hal
        obtain ⟨fn, tmps, assign, body, hy, hR⟩ := HY.out pre y _ (HJ.out _ _ _ hJp hBy) hpk
        dsimp only [idV] at hy
        have HLY : Hid (Blk ((V.setCell ⟨W.heap.size, 0, none⟩ (.int .u32 (y.1 : Nat))).setCell ⟨W.heap.size, 1, none⟩ (.int .i64 y.2)) W.heap.size #[.int .u32 (y.1 : Nat), .int .i64 y.2] 40) := hLy
        have HBY : Hid (Below W.heap.size wr ((V.setCell ⟨W.heap.size, 0, none⟩ (.int .u32 (y.1 : Nat))).setCell ⟨W.heap.size, 1, none⟩ (.int .i64 y.2))) := hBy
        clear hLy hBy hV hLV hI0 hal hBi q0 q1 g0 g1 hc0 hc1 hL hJp
        gi_wp2
        refine hR.mono ?_
        rintro e W3 ⟨rfl, hJ3, hk3⟩
        gi_wp2
        go_roundw
        case rel => exact ⟨k + 1, pre ++ [y], y, by omega, by go_num, by have := HPL.out; simp; omega, by rw [lastOf_snoc, HRR.out], fun _ => HRR.out.symm, hk3.blk HLY.out hLB, HN.out _ _ HBY.out hk3, hJ3⟩
        case measure => simp [intOf]; omega
      · have hz : (0 : Int) < (k : Int) := by omega
        obtain rfl := HM.out (by omega)
        have HRR : Hid (repOf (ids.take (k + 1)) = lesser (repOf (ids.take k)) y) := HRN.out (by omega)
        clear hk0
        generalize repOf (ids.take k) = m at *
        have hI0 := Blk.new wr #[.int .u32 (y.1 : Nat), .int .i64 y.2] 40
        obtain ⟨Lb, hLb⟩ : ∃ Lb, (if (y.1 : Int) = (m.1 : Int) then decide (y.2 < m.2) else decide ((y.1 : Int) < (m.1 : Int))) = Lb := ⟨_, rfl⟩
        have HLB : Hid ((if (y.1 : Int) = (m.1 : Int) then decide (y.2 < m.2) else decide ((y.1 : Int) < (m.1 : Int))) = Lb) := hLb
        have HLS : Hid (lesser m y = if Lb = true then y else m) := by show _ = _; unfold lesser lessB; rw [hLb]
        clear hLb
        cases Lb with
        | true =>
          gi_wp2_with (refine ⟨trivial, ?_⟩; gi_at_call 16; refine (callsIn_wide.2 (less_any _ _ _ _ _)).mono ?_; rintro e w1 ⟨rfl, hb1⟩; rw [HLB.out]; have hB1 : Below wr.heap.size wr w1 := hal.trans (hb1.mono hal.size); have hI1 := hI0.next hb1; have i0 := hI1.cell (i := 0) rfl; have i1 := hI1.cell (i := 1) rfl; have hLV := hL.next hB1; have u0 := hLV.cell (i := 0) rfl; have u1 := hLV.cell (i := 1) rfl; have v0 := hLV.frozen 0; have v1 := hLV.frozen 1; have hVl := hLV.lt; obtain ⟨hLy, hBy⟩ := HW.out w1 hB1; obtain ⟨fn, tmps, assign, body, hy, hR⟩ := HY.out pre y _ (HJ.out _ _ _ hJp hBy) hpk; dsimp only [idV] at hy)
          refine hR.mono ?_
          rintro e W3 ⟨rfl, hJ3, hk3⟩
          have HLY : Hid (Blk W3 W.heap.size #[.int .u32 (y.1 : Nat), .int .i64 y.2] 40) := hk3.blk hLy hLB
          have HNN := HN.out _ _ hBy hk3
          have HN2 : Hid (∀ i (h : i < ids.length), ∃ b' o', (some ⟨b, o, none⟩ : Option Addr) = some ⟨b', o', none⟩ ∧ b' ≠ Br ∧ b' < W.heap.size ∧ W3.cell? ⟨b', o' + i * 2, none⟩ = some (.int .u32 (ids[i].1 : Nat)) ∧ W3.cell? ⟨b', o' + i * 2 + 1, none⟩ = some (.int .i64 ids[i].2)) := HNN
          clear hLy hBy hLV hI1 hI0 hal q0 q1 g0 g1 hc0 hc1 hL hJp hb1 hB1 HNN hk3 i0 i1 u0 u1 v0 v1
          gi_wp2
          go_roundw
          case rel => exact ⟨k + 1, pre ++ [y], y, by omega, by go_num, by have := HPL.out; simp; omega, by rw [lastOf_snoc, HRR.out, HLS.out]; rfl, fun _ => by rw [HRR.out, HLS.out]; rfl, HLY.out, HN2.out, hJ3⟩
          case measure => simp [intOf]; omega
        | false =>
          gi_wp2_with (refine ⟨trivial, ?_⟩; gi_at_call 16; refine (callsIn_wide.2 (less_any _ _ _ _ _)).mono ?_; rintro e w1 ⟨rfl, hb1⟩; rw [HLB.out]; have hB1 : Below wr.heap.size wr w1 := hal.trans (hb1.mono hal.size); have hLV := hL.next hB1)
          have hBW : Below W.heap.size wr w1 := hB1.mono hwz
          have hJ1 := HJ.out _ _ _ hJp hBW
          have HS1 := HS.out _ hBW
          go_roundw
          case rel => exact ⟨k + 1, pre, m, by omega, by go_num, by have := HPL.out; omega, by rw [HLA.out, HRR.out, HLS.out]; rfl, fun _ => by rw [HRR.out, HLS.out]; rfl, hLV, HS1, hJ1⟩
          case measure => simp [intOf]; omega
    · have hge : (ids.length : Int) ≤ (k : Int) := by omega
      gi_wp2
      go_end0
      refine ⟨⟨_, rfl⟩, pre, ?_, hJp⟩
      have := HLA.out
      rwa [List.take_of_length_le (by omega)] at this

def RepI (w : World) (R Br : Nat) (pre : List (Nat × Int)) (W : World) : Prop :=
  Below w.heap.size w W ∧ Blk W R #[.int .u32 0, .int .i64 0] 40 ∧ Blk W Br #[.int .u32 ((lastOf pre).1 : Nat), .int .i64 (lastOf pre).2] 40

set_option maxRecDepth 100000 in
set_option maxHeartbeats 4000000 in
theorem rep_any (nm : ByteArray) (len p : Int) (v : Value) (ids : List (Nat × Int)) (w : World) (hv : IdsAt w v ids) (hlen : ids.length ≤ maxLen) :
    Calls Tryz.prog 15 #[rcpV nm len p v] w fun e w' => e = .returned (idV ((repOf ids).1 : Nat) (repOf ids).2) ∧ Below w.heap.size w w' := by
  obtain ⟨pa, c, rfl, hcell⟩ := hv
  have HC : Hid (∀ W', Below w.heap.size w W' → ∀ i (h : i < ids.length), ∃ b o, pa = some ⟨b, o, none⟩ ∧ b < w.heap.size ∧ W'.cell? ⟨b, o + i * 2, none⟩ = some (.int .u32 (ids[i].1 : Nat)) ∧ W'.cell? ⟨b, o + i * 2 + 1, none⟩ = some (.int .i64 ids[i].2)) := fun W' hb i hi => by
    obtain ⟨b, o, hp, hlt, h1, h2⟩ := hcell i hi
    exact ⟨b, o, hp, hlt, (hb.cell (p := ⟨b, o + i * 2, none⟩) hlt).trans h1, (hb.cell (p := ⟨b, o + i * 2 + 1, none⟩) hlt).trans h2⟩
  have HLEN : Hid (ids.length ≤ maxLen) := hlen
  clear hcell hlen
  refine (callsIn_wide (n := 8)).1 ?_
  refine callsIn_of_wp_marks Tryz.func15 rfl trivial ?_ rfl
  simp only [Tryz.ntmps15, List.size_toArray, List.length_cons, List.length_nil, Nat.reduceAdd, Nat.reduceSub, Array.replicate_succ, Array.replicate_zero, List.push_toArray, List.append_toArray, List.nil_append, List.cons_append]
  gi_wp2_with (first
    | (refine ⟨trivial, ?_⟩; gi_at_call 17; refine (callsIn_wide.2 (id_any ⟨#[]⟩ _ (by unfold maxLen; decide))).mono ?_; rintro e w1 ⟨rfl, hb1⟩; have hX1 := ((Blk.new w #[.string nm, .int .i64 len, .int .u32 p, .slice pa ids.length c] 26).next ((Below.refl _ _).alloc (Nat.le_refl _) (.cells #[.int .u32 0, .int .i64 0] 40))).next hb1; have x3 := hX1.cell (i := 3) rfl; have hXl := hX1.lt)
    | (refine ⟨trivial, ?_⟩; gi_at_call 63; refine (falling_in _ _ _ pa ids.length c rfl).mono ?_; rintro e w2 ⟨rfl, rfl⟩))
  have hz : pmore 2166136261 [] = 2166136261 := pmore_nil _
  rw [hz]
  have hR1 := (Blk.new (w.alloc (.cells #[.string nm, .int .i64 len, .int .u32 p, .slice pa ids.length c] 26)) #[.int .u32 0, .int .i64 0] 40).next hb1
  rw [World.size_alloc] at hR1
  have hB1 : Below w.heap.size w w1 := (((Below.refl _ w).alloc (Nat.le_refl _) (.cells #[.string nm, .int .i64 len, .int .u32 p, .slice pa ids.length c] 26)).alloc (by simp) (.cells #[.int .u32 0, .int .i64 0] 40)).trans (hb1.mono (by simp; omega))
  have hal1 : Below w1.heap.size w1 (w1.alloc (.cells #[.int .u32 (2166136261 : Nat), .int .i64 0] 40)) := (Below.refl _ w1).alloc (Nat.le_refl _) _
  have hQ1 := Blk.new w1 #[.int .u32 (2166136261 : Nat), .int .i64 0] 40
  have hal2 := (Below.refl (w1.alloc (.cells #[.int .u32 (2166136261 : Nat), .int .i64 0] 40)).heap.size (w1.alloc (.cells #[.int .u32 (2166136261 : Nat), .int .i64 0] 40))).alloc (Nat.le_refl _) (.cells #[.slice pa ids.length c] 24)
  have hQ2 := hQ1.next hal2
  have hS2 := Blk.new (w1.alloc (.cells #[.int .u32 (2166136261 : Nat), .int .i64 0] 40)) #[.slice pa ids.length c] 24
  rw [World.size_alloc] at hS2
  have hR2 := (hR1.next hal1).next hal2
  have hB2 : Below w.heap.size w ((w1.alloc (.cells #[.int .u32 (2166136261 : Nat), .int .i64 0] 40)).alloc (.cells #[.slice pa ids.length c] 24)) := (hB1.trans (hal1.mono hB1.size)).trans (hal2.mono (Nat.le_trans hB1.size hal1.size))
  have hsz : ((w1.alloc (.cells #[.int .u32 (2166136261 : Nat), .int .i64 0] 40)).alloc (.cells #[.slice pa ids.length c] 24)).heap.size = w1.heap.size + 2 := by simp
  obtain ⟨V, hV⟩ : ∃ V, (w1.alloc (.cells #[.int .u32 (2166136261 : Nat), .int .i64 0] 40)).alloc (.cells #[.slice pa ids.length c] 24) = V := ⟨_, rfl⟩
  have hRl := hR1.lt
  have hwz : w.heap.size ≤ w1.heap.size := hB1.size
  rw [hV] at hQ2 hS2 hR2 hB2 hsz ⊢
  clear hV hal1 hal2 hQ1 hR1 hX1 x3 hXl hb1
  have hI0 : RepI w (w.heap.size + 1) w1.heap.size [] V := ⟨hB2, hR2, hQ2⟩
  have hstab : ∀ (pre : List (Nat × Int)) (A B : World), RepI w (w.heap.size + 1) w1.heap.size pre A → Below V.heap.size A B → RepI w (w.heap.size + 1) w1.heap.size pre B := fun pre A B h hb => ⟨h.1.trans (hb.mono (by omega)), h.2.1.below hb (by omega), h.2.2.below hb (by omega)⟩
  have hseq : SeqLow Fence.wide (8 - 1) Tryz.prog 108 #[.pointer (some ⟨w1.heap.size + 1, 0, none⟩)] (fun x : Nat × Int => #[idV (x.1 : Nat) x.2]) w1.heap.size (fun xs => lastOf xs = repOf ids) ids.length V := fun l J W hW hJ hY h0 => by
    have hBW : Below w.heap.size w W := hB2.trans (hW.mono (by omega))
    refine falling1_in (8 - 1) (by decide) l (w1.heap.size + 1) w1.heap.size pa c ids HLEN.out J W hJ hY ((hS2.next hW).cell (i := 0) rfl) (by have := hW.size; omega) (fun i hi => ?_) h0
    obtain ⟨b, o, h1, h2, h3, h4⟩ := HC.out W hBW i hi
    exact ⟨b, o, h1, by omega, h3, h4⟩
  refine range_low rfl (by decide) (gf := 108) (lb := #[.pointer (some ⟨w1.heap.size + 1, 0, none⟩)]) rfl trivial (enters_of Tryz.func108 (by kernel_rfl) rfl) hseq (by omega) (Below.refl _ _) (fun _ => rfl)
    (RepI w (w.heap.size + 1) w1.heap.size) hstab hI0
    (fun x a' W => ∃ Bx, V.heap.size ≤ Bx ∧ Blk W Bx #[.int .u32 (x.1 : Nat), .int .i64 x.2] 40 ∧ a' = { tmps := #[rcpV nm len p (.slice pa ids.length c), .pointer (some ⟨w.heap.size, 0, none⟩), .pointer (some ⟨w.heap.size + 1, 0, none⟩), .pointer (some ⟨w1.heap.size, 0, none⟩), .pointer (some ⟨Bx, 0, none⟩), idV (2166136261 : Nat) 0, .pointer (some ⟨w.heap.size, 3, none⟩), .slice pa ids.length c, .func (.func 108) #[] #[.pointer (some ⟨w1.heap.size + 1, 0, none⟩)], idV (x.1 : Nat) x.2, undef, undef], defers := [] }) ?ax ?assign ?body ?done
  case ax =>
    rintro x a' A l o ⟨r, hr⟩ ⟨Bx, h1, h2, h3⟩
    refine ⟨Bx, h1, (World.putObj_heap_other (fun e => ?_)).trans h2, h3⟩
    subst e
    have : A.heap[Bx]? = some (.cells #[.int .u32 (x.1 : Nat), .int .i64 x.2] 40 (0, 0)) := h2
    rw [hr] at this
    cases this
  case assign =>
    intro l pre x W K hW hi hK
    gi_wp2
    exact hK _ _ (KeptBut.alloc _ _ _) (hstab _ _ _ hi ((Below.refl _ W).alloc hW _)) ⟨W.heap.size, hW, Blk.new W _ _, rfl⟩
  case body =>
    rintro l pre x a' W ⟨hi1, hi2, hi3⟩ ⟨Bx, hBx, hX, rfl⟩ _
    have x0 := hX.cell (i := 0) rfl
    have x1 := hX.cell (i := 1) rfl
    have q0 := hi3.cell (i := 0) rfl
    have q1 := hi3.cell (i := 1) rfl
    have g0 := hi3.frozen 0
    have g1 := hi3.frozen 1
    gi_wp2
    refine ⟨(KeptBut.setCell W ⟨w1.heap.size, 0, none⟩ _).trans (KeptBut.setCell _ ⟨w1.heap.size, 1, none⟩ _), (hi1.setCell (p := ⟨w1.heap.size, 0, none⟩) hwz _).setCell (p := ⟨w1.heap.size, 1, none⟩) hwz _, (hi2.other (a := ⟨w1.heap.size, 0, none⟩) (show w.heap.size + 1 ≠ w1.heap.size by omega) _).other (a := ⟨w1.heap.size, 1, none⟩) (show w.heap.size + 1 ≠ w1.heap.size by omega) _, ?_⟩
    rw [lastOf_snoc]
    exact (hi3.set 0 (.int .u32 (x.1 : Nat))).set 1 (.int .i64 x.2)
  case done =>
    rintro D xs W hD hS ⟨hi1, hi2, hi3⟩ hd
    have hS' : lastOf xs = repOf ids := hS
    rw [hS'] at hi3
    obtain ⟨m, hm⟩ : ∃ m, repOf ids = m := ⟨_, rfl⟩
    have HM : Hid (repOf ids = m) := hm
    rw [hm] at hi3
    clear hm hS hS'
    have q0 := hi3.cell (i := 0) rfl
    have q1 := hi3.cell (i := 1) rfl
    have r0 := hi2.cell (i := 0) rfl
    have r1 := hi2.cell (i := 1) rfl
    have g0 := hi2.frozen 0
    have g1 := hi2.frozen 1
    have hR4 := (hi2.set 0 (.int .u32 (m.1 : Nat))).set 1 (.int .i64 m.2)
    have hb4 := (hi1.setCell (p := ⟨w.heap.size + 1, 0, none⟩) (Nat.le_succ _) (.int .u32 (m.1 : Nat))).setCell (p := ⟨w.heap.size + 1, 1, none⟩) (Nat.le_succ _) (.int .i64 m.2)
    have hd4 : ((W.setCell ⟨w.heap.size + 1, 0, none⟩ (.int .u32 (m.1 : Nat))).setCell ⟨w.heap.size + 1, 1, none⟩ (.int .i64 m.2)).heap[D]? = some (.deferred (some [])) := (Below.heap_setCell _ ⟨w.heap.size + 1, 1, none⟩ _ D (show D ≠ w.heap.size + 1 by omega)).trans ((Below.heap_setCell _ ⟨w.heap.size + 1, 0, none⟩ _ D (show D ≠ w.heap.size + 1 by omega)).trans hd)
    gi_wp2
    refine ⟨by simp, .inl ⟨_, _, rfl, run_takeDeferred hd4, ?_⟩⟩
    have hR5 : Blk (((W.setCell ⟨w.heap.size + 1, 0, none⟩ (.int .u32 (m.1 : Nat))).setCell ⟨w.heap.size + 1, 1, none⟩ (.int .i64 m.2)).putObj D (.deferred none)) (w.heap.size + 1) #[.int .u32 (m.1 : Nat), .int .i64 m.2] 40 := (World.putObj_heap_other (show w.heap.size + 1 ≠ D by omega)).trans hR4
    have c0 := hR5.cell (i := 0) rfl
    have c1 := hR5.cell (i := 1) rfl
    refine ⟨idV (m.1 : Nat) m.2, by simp [results, Tryz.results15, go_sem, c0, c1], by rw [HM.out], hb4.trans (below_put _ _ (by omega))⟩
end Go.Proofs.YtjdobbjdlighpaaGreatDoor
