/-
  Own text. The program's recipe.Of by a contract.
  Own text. (*node.Node).Put by a contract.
-/
import Derived.Test.YtcbcjefefmbccabGreatDoorS12
import Derived.Test.YtcbcjefefmbccabGreatDoorS07
import Derived.Test.YtcbcjefefmbccabGreatDoorS21
import Derived.Deep.RegionLaw
import Derived.Deep.AppendLies
import Derived.Test.YtcbcjefefmbccabGreatDoorS16
import Derived.Test.YtcbcjefefmbccabGreatDoorS19
namespace Go.Proofs.YtcbcjefefmbccabGreatDoor
open Go.RowKit

/- A call of a function of one argument, at a step of a region that draws its order. -/
theorem step_call_one {P : Program} {ops : Array Oper} {o : Oper} {a : Act} {w : World} {K : Act → World → Prop} {Q : Exit → Act → World → Prop} {E : Prop} (hgd : o.guard = none) (f : FuncId) (x : Operand) (t : TypeId)
    (ho : o.op = .call { callee := .value (.func f), args := #[x], argTypes := #[t] }) (eg : ∀ args w, (callFunc f args).run P w = .ok (.enter f args) w) (vx : Value) (hx : a.eval x = vx) {R : Value → World → Prop}
    (hc : Calls P f #[vx] w fun e w' => ∃ v, e = .returned v ∧ R v w') (h : ∀ v w', R v w' → K (a.put o.dst v) w') :
    if Region.wanted o (yielded ops a.tmps) = true then Oper.wp P o a w K Q else E := by
  have hw : Region.wanted o (yielded ops a.tmps) = true := by simp [Region.wanted, hgd]
  rw [if_pos hw]
  unfold Oper.wp execOp
  have hf : a.eval (.func f) = .func (.func f) #[] #[] := rfl
  have hc2 : Calls P f #[vx] w fun | .returned v, w'' => K (a.put o.dst v) w'' | .panicked chain, w'' => Q (.panic chain) a w'' | .outgrown, _ => LetsOut Q := hc.mono (by rintro e w' ⟨v, rfl, hR⟩; exact h v w' hR)
  simp only [ho, resolve, invoke, Sem.run_bind, Sem.run_pure, Result.andThen_ok, List.map_toArray, List.map_cons, List.map_nil, hf, hx, Deferred.ofValue, eg, Array.append_empty]
  exact hc2

theorem ofR_name {nm l : List UInt8} (h : isName nm = false) : ofR nm l = (([], 0, 0, []), 4) := by unfold ofR; rw [if_pos h]
theorem ofR_bound {nm l : List UInt8} (h : isName nm = true) (h2 : 4000 < l.length) : ofR nm l = (([], 0, 0, []), 2) := by unfold ofR; rw [if_neg (by rw [h]; simp), if_pos h2]
theorem ofR_fine {nm l : List UInt8} (h : isName nm = true) (h2 : ¬ 4000 < l.length) : ofR nm l = ((nm, (l.length : Int), pmore 2166136261 l, idsOf l), 0) := by unfold ofR; rw [if_neg (by rw [h]; simp), if_neg h2]
def ofPost (a : Nat → Addr) (nm s : ByteArray) (w : World) (e : Ending) (w' : World) : Prop := ∃ v ev, e = .returned (.tuple #[rcpDV (ofR nm.data.toList s.data.toList).1 v, ev]) ∧ IdsIn w.heap.size w' v (ofR nm.data.toList s.data.toList).1.2.2.2 ∧ ErrIn w.heap.size w' a ev ((ofR nm.data.toList s.data.toList).2, -1) ∧ Below w.heap.size w w'

set_option maxRecDepth 100000 in
set_option maxHeartbeats 4000000 in
theorem of_name (a : Nat → Addr) (nm s : ByteArray) (hnm : nm.size ≤ maxLen) (h : isName nm.data.toList = false) (w : World) (hE : ErrE [1, 3] w a) :
    Calls Tryz.prog 72 #[.string nm, .string s] w fun e w' => ofPost a nm s w e w' := by
  have HN : Hid (nm.size ≤ maxLen) := hnm
  have HR : Hid (ofR nm.data.toList s.data.toList = (([], 0, 0, []), 4)) := ofR_name h
  have HH : Hid (isName nm.data.toList = false) := h
  have hb : ∀ o, Below w.heap.size w (w.alloc o) := fun o => (Below.refl _ w).alloc (Nat.le_refl _) o
  have hg : ∀ o, (w.alloc o).cell? ⟨errG 3, 0, none⟩ = some (sentV a 3) := fun o => (hE.below (hb o) (Nat.le_refl _)).glob 3 (by decide)
  dsimp only [errG] at hg
  clear hnm h hE
  go_enter Tryz.func72, Tryz.ntmps72
  go_wp2_with fail
  refine (name_any nm HN.out _).mono ?_
  rintro e w1 ⟨rfl, hw1⟩
  subst hw1
  rw [HH.out]
  go_wp2_with fail
  go_region
  all_goals go_wp2
  all_goals refine bodyPost_ret (v := .tuple #[rcpV ⟨#[]⟩ 0 0 (.slice none 0 0), sentV a 3]) (by simp [results, Tryz.results72, go_sem]) rfl ?_
  all_goals exact ⟨.slice none 0 0, sentV a 3, by rw [HR.out]; rfl, by rw [HR.out]; exact IdsIn.nil _ _, by rw [HR.out]; exact ErrIn.sent _ _ a 3 (by decide) rfl, (hb _).drew⟩

set_option maxRecDepth 100000 in
set_option maxHeartbeats 4000000 in
theorem of_bound (a : Nat → Addr) (nm s : ByteArray) (hnm : nm.size ≤ maxLen) (h : isName nm.data.toList = true) (hs : 4000 < s.size) (w : World) (hE : ErrE [1, 3] w a) :
    Calls Tryz.prog 72 #[.string nm, .string s] w fun e w' => ofPost a nm s w e w' := by
  have HN : Hid (nm.size ≤ maxLen) := hnm
  have HR : Hid (ofR nm.data.toList s.data.toList = (([], 0, 0, []), 2)) := ofR_bound h (by rw [Array.length_toList]; exact hs)
  have HH : Hid (isName nm.data.toList = true) := h
  have hs' : (4000 : Int) < (s.size : Int) := by omega
  have hb : ∀ o, Below w.heap.size w (w.alloc o) := fun o => (Below.refl _ w).alloc (Nat.le_refl _) o
  have hg : ∀ o, (w.alloc o).cell? ⟨errG 1, 0, none⟩ = some (sentV a 1) := fun o => (hE.below (hb o) (Nat.le_refl _)).glob 1 (by decide)
  dsimp only [errG] at hg
  clear hnm h hE hs
  go_enter Tryz.func72, Tryz.ntmps72
  go_wp2_with fail
  refine (name_any nm HN.out _).mono ?_
  rintro e w1 ⟨rfl, hw1⟩
  subst hw1
  rw [HH.out]
  go_wp2_with fail
  go_region
  all_goals go_wp2
  all_goals refine bodyPost_ret (v := .tuple #[rcpV ⟨#[]⟩ 0 0 (.slice none 0 0), sentV a 1]) (by simp [results, Tryz.results72, go_sem]) rfl ?_
  all_goals exact ⟨.slice none 0 0, sentV a 1, by rw [HR.out]; rfl, by rw [HR.out]; exact IdsIn.nil _ _, by rw [HR.out]; exact ErrIn.sent _ _ a 1 (by decide) rfl, (hb _).drew⟩

set_option maxRecDepth 100000 in
set_option maxHeartbeats 4000000 in
theorem of_fine (a : Nat → Addr) (nm s : ByteArray) (hnm : nm.size ≤ maxLen) (h : isName nm.data.toList = true) (hs : s.size ≤ 4000) (w : World) :
    Calls Tryz.prog 72 #[.string nm, .string s] w fun e w' => ofPost a nm s w e w' := by
  obtain ⟨i0, hi, hz0, hz1, hz2⟩ := info_parts infoID
  have HN : Hid (nm.size ≤ maxLen) := hnm
  have HH : Hid (isName nm.data.toList = true) := h
  have hs' : ¬ (4000 : Int) < (s.size : Int) := by omega
  have HS : Hid (s.size ≤ 4000) := hs
  have HSM : Hid (s.size ≤ maxLen) := by show _ ≤ _; unfold maxLen; omega
  have HPL : Hid ((pieces s.data.toList).length ≤ 4000) := Nat.le_trans (pieces_len_le _) (by rw [Array.length_toList]; exact hs)
  have HPS : Hid (∀ i (h : i < (pieces s.data.toList).length), ((pieces s.data.toList)[i]).length ≤ 64) := fun i h => (pieces_at _ i h).2.1
  have HR : Hid (ofR nm.data.toList s.data.toList = ((nm.data.toList, (s.size : Int), pmore 2166136261 s.data.toList, (pieces s.data.toList).map fun p => (pmore 2166136261 p, (p.length : Int))), 0)) := by
    show _ = _
    rw [ofR_fine h (by rw [Array.length_toList]; show ¬ 4000 < s.size; omega), Array.length_toList]
    rfl
  clear hnm hs h
  have hP := pieces_any s (by have := HS.out; omega)
  generalize pieces s.data.toList = qs at *
  have HP : Hid (∀ (w : World), Calls Tryz.prog 76 #[.string s] w fun e w' => ∃ v, e = .returned v ∧ w'.ownsRow w.heap.size 9 1 v qs.length (qs.map strW) ∧ Below w.heap.size w w') := hP
  clear hP
  go_enter Tryz.func72, Tryz.ntmps72
  go_wp2_with fail
  refine (name_any nm HN.out _).mono ?_
  rintro e w1 ⟨rfl, hw1⟩
  subst hw1
  rw [HH.out]
  go_wp2_with fail
  refine (of_any s _ HSM.out).mono ?_
  rintro e w1 ⟨rfl, hw1⟩
  subst hw1
  obtain ⟨P, hP⟩ : ∃ P, pmore 2166136261 s.data.toList = P := ⟨_, rfl⟩
  have HPP : Hid (pmore 2166136261 s.data.toList = P) := hP
  rw [hP]
  clear hP
  go_wp2_with fail
  refine (HP.out _).mono ?_
  clear HP
  rintro e w0 ⟨v0, rfl, ho0, hb0⟩
  have hR1 := Blk.new w #[.string ⟨#[]⟩, .int .i64 0, .int .u32 0, .slice none 0 0] 40
  have hX1 := Blk.new (w.alloc (.cells #[.string ⟨#[]⟩, .int .i64 0, .int .u32 0, .slice none 0 0] 40)) #[.string nm, .int .i64 (s.size : Int), .int .u32 (P : Nat), .slice none 0 0] 40
  rw [World.size_alloc] at hX1
  have hal1 : Below w.heap.size w (w.alloc (.cells #[.string ⟨#[]⟩, .int .i64 0, .int .u32 0, .slice none 0 0] 40)) := (Below.refl _ w).alloc (Nat.le_refl _) _
  have hal2 := (Below.refl (w.alloc (.cells #[.string ⟨#[]⟩, .int .i64 0, .int .u32 0, .slice none 0 0] 40)).heap.size (w.alloc (.cells #[.string ⟨#[]⟩, .int .i64 0, .int .u32 0, .slice none 0 0] 40))).alloc (Nat.le_refl _) (.cells #[.string nm, .int .i64 (s.size : Int), .int .u32 (P : Nat), .slice none 0 0] 40)
  replace hR1 := (hR1.next hal2).next hb0
  replace hX1 := hX1.next hb0
  have hbw0 : Below w.heap.size w w0 := (hal1.trans (hal2.mono (by simp))).trans (hb0.mono (by simp; omega))
  have hszz : w.heap.size + 2 ≤ w0.heap.size := by have := hb0.size; simp at this; omega
  obtain ⟨p0, c0, rfl, hcell⟩ := CellsAt.of_row ho0
  simp only [List.length_map, List.getElem_map] at hcell ⊢
  have hnew : ∀ i (h : i < qs.length), ∃ b o, p0 = some ⟨b, o, none⟩ ∧ w.heap.size + 2 ≤ b ∧ b < w0.heap.size ∧ w0.cell? ⟨b, o + i, none⟩ = some (strW qs[i]) := fun i hi => by
    obtain ⟨b, o, hp, hl, hc⟩ := hcell i hi
    refine ⟨b, o, hp, ?_, hl.1, hc⟩
    have := own_base ho0 (j := b) (by rw [hp]; rfl)
    simpa using this
  have HCELL : Hid (∀ i (h : i < qs.length), ∃ b o, p0 = some ⟨b, o, none⟩ ∧ ∀ W', SameIn (w.heap.size + 2) w0.heap.size w0 W' → W'.cell? ⟨b, o + i, none⟩ = some (strW qs[i])) := fun i hi => by
    obtain ⟨b, o, hp, h1, h2, hc⟩ := hnew i hi
    exact ⟨b, o, hp, fun W' hb => (hb.cell h1 h2 _).trans hc⟩
  have hql : (qs.length : Int) ≤ 4000 := by have := HPL.out; omega
  clear hcell ho0 hb0 hal1 hal2 hnew
  go_wp2_with fail
  go_loopw [28] (fun i wr => ∃ (k : Nat) (v : Value), k ≤ qs.length ∧ i = .int .i64 k ∧ wr.ownsRow w0.heap.size 25 2 v k (idCells ((qs.take k).map fun p => (pmore 2166136261 p, (p.length : Int)))) ∧ Below (w.heap.size + 1) w0 wr ∧ SameIn (w.heap.size + 2) w0.heap.size w0 wr ∧ Blk wr (w.heap.size + 1) #[.string nm, .int .i64 (s.size : Int), .int .u32 (P : Nat), v] 40) (fun i _ => qs.length - (intOf i).toNat)
  case atStart => exact ⟨0, .slice none 0 0, Nat.zero_le _, rfl, World.ownsRow_nil _ _ _ _, Below.refl _ _, SameIn.refl _ _ _, hX1⟩
  case round =>
    obtain ⟨k, v, hk, rfl, hown, hbr, hsm, hX⟩ := hrel
    clear hX1
    by_cases hlt : k < qs.length
    · have hlt' : (k : Int) < (qs.length : Int) := by omega
      obtain ⟨b, o, rfl, hc⟩ := HCELL.out k hlt
      have hc' := hc wr hsm
      have HNX : Hid (idCells ((qs.take (k + 1)).map fun p => (pmore 2166136261 p, (p.length : Int))) = idCells ((qs.take k).map fun p => (pmore 2166136261 p, (p.length : Int))) ++ [.int .u32 (pmore 2166136261 qs[k] : Nat), .int .i64 (qs[k].length : Int)]) := by
        show _ = _
        rw [List.take_succ_eq_append_getElem hlt, List.map_append, idCells_append]
        rfl
      obtain ⟨q, hq⟩ : ∃ q : ByteArray, (⟨qs[k].toArray⟩ : ByteArray) = q := ⟨_, rfl⟩
      have hqd : q.data.toList = qs[k] := by rw [← hq]
      have hqs : (q.size : Int) = (qs[k].length : Int) := by rw [← hq]; rfl
      have HQM : Hid (q.size ≤ maxLen) := by
        show _ ≤ _
        have := HPS.out k hlt
        unfold maxLen
        omega
      rw [strW, hq] at hc'
      rw [← hqd] at HNX
      obtain ⟨Q, hQ⟩ : ∃ Q, pmore 2166136261 q.data.toList = Q := ⟨_, rfl⟩
      have HQQ : Hid (pmore 2166136261 q.data.toList = Q) := hQ
      rw [hQ] at HNX
      rw [hqd, ← hqs] at HNX
      obtain ⟨L, hL⟩ : ∃ L : Int, (q.size : Int) = L := ⟨_, rfl⟩
      have HLL : Hid ((q.size : Int) = L) := hL
      rw [hL] at HNX
      clear hc hqs hqd hq hQ hL
      obtain ⟨pv, cv, rfl⟩ : ∃ pv cv, v = .slice pv k cv := by
        obtain ⟨_, h⟩ := hown
        rcases h with ⟨rfl, h0⟩ | ⟨g, cap, cur, rfl, _⟩
        · exact ⟨none, 0, by rw [h0]⟩
        · exact ⟨_, _, rfl⟩
      have x3 := hX.cell (i := 3) rfl
      have f3 := hX.frozen 3
      have hXl := hX.lt
      have hwz : w0.heap.size ≤ wr.heap.size := hbr.size
      have hne : (Value.slice pv k cv).ownBlock ≠ some (w.heap.size + 1) := fun e => by have := own_base hown e; omega
      go_wp2_with fail
      have HID : Hid (∀ W : World, Calls Tryz.prog 125 #[.string q] W fun e w' => ∃ u, e = .returned u ∧ (u = idV (Q : Nat) L ∧ Below W.heap.size W w')) := fun W => (id_any q W HQM.out).mono fun e w' ⟨h1, h2⟩ => ⟨_, h1, by rw [HQQ.out, HLL.out], h2⟩
      go_region_law (first
        | (refine step_call_one (by rfl) 125 _ _ (by rfl) (enters_of Tryz.func125 (by kernel_rfl) rfl) (.string q) (by rfl) (HID.out _) ?_; rintro u w2 ⟨rfl, hb2⟩; have hw2 : w.heap.size + 1 < w2.heap.size := Nat.lt_of_lt_of_le hXl hb2.size; have hw3 : w0.heap.size ≤ w2.heap.size := Nat.le_trans hwz hb2.size; have hX2 := Blk.next (W := wr.drew) hX hb2; have hX2a := fun o => hX2.next ((Below.refl _ w2).alloc (Nat.le_refl _) o); have x32 := hX2.cell (i := 3) rfl; have f32 := hX2.frozen 3)
        | (refine step_append_lies _ (by rfl) _ _ _ (by rfl) w0.heap.size 25 i0 _ 2 16 Tryz.underlying38 hi hz0 hz1 hz2 rfl (by decide) (.slice pv k cv) k _ (by rfl) (((row_below hown.drew hb2).alloc _)) ⟨w2.heap.size, 0, none⟩ 1 1 [.int .u32 (Q : Nat), .int .i64 L] (by rfl) (by rfl) (World.news_of_block (cs := #[.int .u32 (Q : Nat), .int .i64 L]) (t := 25) (fr := (0, 0)) (heap_alloc_new w2 _)) (by simp [Value.oneCell']) (by omega) (by unfold maxLen; omega) (by omega) (by simp; omega) (w2.heap.size + 1) (by simp) ?_; intro gg cap w3 hown3 hgrow hat hglt; have hX3 : Blk w3 (w.heap.size + 1) #[.string nm, .int .i64 (s.size : Int), .int .u32 (P : Nat), .slice pv k cv] 40 := (hgrow.block _ (by rw [World.size_alloc]; exact Nat.lt_succ_of_lt hw2) (fun e => hne e.symm)).trans (hX2a _); have x33 := hX3.cell (i := 3) rfl; have f33 := hX3.frozen 3))
      all_goals
        have hB3 : Below w0.heap.size wr w3 := (((Below.refl w0.heap.size wr).drew.trans (hb2.mono hwz)).alloc hw3 _).grown hgrow (by rw [World.size_alloc]; omega) (fun j e => own_base hown e)
        have hX4 := hX3.set 3 (.slice (some ⟨gg, 0, none⟩) (k + 1) cap)
        have hr4 := ownsRow_setCell_below hown3 (a := ⟨w.heap.size + 1, 3, none⟩) (show w.heap.size + 1 < w0.heap.size by omega) (.slice (some ⟨gg, 0, none⟩) (k + 1) cap)
        have hb4 := (hbr.trans (hB3.mono (by omega))).setCell (p := ⟨w.heap.size + 1, 3, none⟩) (Nat.le_refl _) (.slice (some ⟨gg, 0, none⟩) (k + 1) cap)
        have hs4 := (hsm.below (Nat.le_refl _) hB3).setCell (a := ⟨w.heap.size + 1, 3, none⟩) (.inl (Nat.lt_succ_self _)) (.slice (some ⟨gg, 0, none⟩) (k + 1) cap)
        obtain ⟨W4, hW4⟩ : ∃ W4, w3.setCell ⟨w.heap.size + 1, 3, none⟩ (.slice (some ⟨gg, 0, none⟩) (k + 1) cap) = W4 := ⟨_, rfl⟩
        rw [hW4] at hX4 hr4 hb4 hs4 ⊢
        clear hW4 hX3 hX2 hX2a x32 f32 x33 f33 hgrow hown3 hb2 hB3 x3 f3 hX hown
        go_wp2_with fail
        go_roundw
        case rel => exact ⟨k + 1, .slice (some ⟨gg, 0, none⟩) (k + 1) cap, by omega, by go_num, by rw [HNX.out]; exact hr4, hb4, hs4, hX4⟩
        case measure => simp [intOf]; omega
    · have hge : (qs.length : Int) ≤ (k : Int) := by omega
      rw [List.take_of_length_le (by omega)] at hown
      obtain rfl : k = qs.length := by omega
      have hRr := hR1.below hbr (Nat.lt_succ_self _)
      have x0 := hX.cell (i := 0) rfl
      have x1 := hX.cell (i := 1) rfl
      have x2 := hX.cell (i := 2) rfl
      have x3 := hX.cell (i := 3) rfl
      have r0 := hRr.cell (i := 0) rfl
      have r1 := hRr.cell (i := 1) rfl
      have r2 := hRr.cell (i := 2) rfl
      have r3 := hRr.cell (i := 3) rfl
      have g0 := hRr.frozen 0
      have g1 := hRr.frozen 1
      have g2 := hRr.frozen 2
      have g3 := hRr.frozen 3
      have hRl := hRr.lt
      obtain ⟨pv, cv, rfl⟩ : ∃ pv cv, v = .slice pv qs.length cv := by
        obtain ⟨_, h⟩ := hown
        rcases h with ⟨rfl, h0⟩ | ⟨g, cap, cur, rfl, _⟩
        · exact ⟨none, 0, by rw [h0]⟩
        · exact ⟨_, _, rfl⟩
      have HROW : Hid (wr.ownsRow w0.heap.size 25 2 (.slice pv qs.length cv) qs.length (idCells (qs.map fun p => (pmore 2166136261 p, (p.length : Int))))) := hown
      have hbw : Below w.heap.size w wr := hbw0.trans (hbr.mono (Nat.le_succ _))
      have hR0 : w.heap.size < w0.heap.size := by omega
      clear hown hRr
      go_wp2_with fail
      refine bodyPost_ret (v := .tuple #[rcpV nm s.size (P : Nat) (.slice pv qs.length cv), .nilIface]) (by simp [results, Tryz.results72, go_sem, r0, r1, r2, r3]) rfl ⟨.slice pv qs.length cv, .nilIface, by rw [HR.out, HPP.out], ?_, by rw [HR.out]; exact ErrIn.mkNil _ _ a, (((hbw.setCell (p := ⟨w.heap.size, 0, none⟩) (Nat.le_refl _) _).setCell (p := ⟨w.heap.size, 1, none⟩) (Nat.le_refl _) _).setCell (p := ⟨w.heap.size, 2, none⟩) (Nat.le_refl _) _).setCell (p := ⟨w.heap.size, 3, none⟩) (Nat.le_refl _) _⟩
      rw [HR.out]
      refine (IdsIn.of_row (base := w0.heap.size) (e := 25) ?_).low (Nat.le_of_lt hR0)
      rw [List.length_map]
      exact ownsRow_setCell_below (ownsRow_setCell_below (ownsRow_setCell_below (ownsRow_setCell_below HROW.out (a := ⟨w.heap.size, 0, none⟩) hR0 _) (a := ⟨w.heap.size, 1, none⟩) hR0 _) (a := ⟨w.heap.size, 2, none⟩) hR0 _) (a := ⟨w.heap.size, 3, none⟩) hR0 _

theorem of_all (a : Nat → Addr) (nm s : ByteArray) (hnm : nm.size ≤ maxLen) (w : World) (hE : ErrE [1, 3] w a) :
    Calls Tryz.prog 72 #[.string nm, .string s] w fun e w' => ofPost a nm s w e w' := by
  by_cases h : isName nm.data.toList = true
  · by_cases h2 : 4000 < s.size
    · exact of_bound a nm s hnm h h2 w hE
    · exact of_fine a nm s hnm h (by omega) w
  · exact of_name a nm s hnm (by simpa using h) w hE
end Go.Proofs.YtcbcjefefmbccabGreatDoor
namespace Go.Proofs.YtcbcjefefmbccabGreatDoor
open Go.RowKit Go.Maps

/- What a node answers to a file that is put, and what it is then. -/
def nPut (st : NSt) (nm s : List UInt8) : Int × Int × NSt :=
  if (ofR nm s).2 ≠ 0 then (0, (ofR nm s).2, st) else
    match nFile st.files nm with
    | some _ => (0, 6, st)
    | none => if 30 ≤ st.files.length then (0, 7, st) else
      if (putAll ((nBin st.bins (repT s)).getD []) 0 (pieces s)).2.1 ≠ 0 then (0, (putAll ((nBin st.bins (repT s)).getD []) 0 (pieces s)).2.1, st) else
        ((putAll ((nBin st.bins (repT s)).getD []) 0 (pieces s)).1, 0, ⟨(nm, s) :: st.files, (repT s, (putAll ((nBin st.bins (repT s)).getD []) 0 (pieces s)).2.2) :: st.bins.filter (fun b => !decide (b.1 = repT s))⟩)
def NPutPost (a : Nat → Addr) (w : World) (p : Addr) (F : Nat → Prop) (r : Int × Int × NSt) (e : Ending) (w' : World) : Prop :=
  ∃ ev F', e = .returned (.tuple #[.int .i64 r.1, ev]) ∧ ErrIn w.heap.size w' a ev (r.2.1, -1) ∧ PNode w' p F' r.2.2 ∧ (∀ k, F' k → F k ∨ w.heap.size ≤ k) ∧ Off F w w'
theorem NPutPost.same {a : Nat → Addr} {w w' : World} {p : Addr} {F : Nat → Prop} {st : NSt} {r : Int × Int × NSt} {ev : Value} {c : Int} (hr : r = (0, c, st)) (hP : PNode w p F st) (hb : Below w.heap.size w w') (he : ErrIn w.heap.size w' a ev (c, -1)) : NPutPost a w p F r (.returned (.tuple #[.int .i64 0, ev])) w' := by
  subst hr
  exact ⟨ev, F, rfl, he, hP.below hb, fun k hk => .inl hk, Off.of_below hb⟩
theorem nPut_bad {st : NSt} {nm s : List UInt8} (h : (ofR nm s).2 ≠ 0) : nPut st nm s = (0, (ofR nm s).2, st) := by unfold nPut; rw [if_pos h]
theorem nPut_there {st : NSt} {nm s t : List UInt8} (h : (ofR nm s).2 = 0) (h2 : nFile st.files nm = some t) : nPut st nm s = (0, 6, st) := by unfold nPut; rw [if_neg (by rw [h]; simp), h2]
theorem nPut_full {st : NSt} {nm s : List UInt8} (h : (ofR nm s).2 = 0) (h2 : nFile st.files nm = none) (h3 : 30 ≤ st.files.length) : nPut st nm s = (0, 7, st) := by unfold nPut; rw [if_neg (by rw [h]; simp), h2]; simp only; rw [if_pos h3]
theorem piece_le {s q : List UInt8} (hq : q ∈ pieces s) : 0 < q.length ∧ q.length ≤ 64 := by
  obtain ⟨i, hi, rfl⟩ := List.getElem_of_mem hq
  exact ⟨(pieces_at s i hi).1, (pieces_at s i hi).2.1⟩
theorem repT_wf (s : List UInt8) : WfID (repT s) := by
  by_cases h : idsOf s = []
  · show WfID (repOf (idsOf s))
    rw [h]
    exact ⟨by decide, by decide, by decide⟩
  · obtain ⟨q, hq, e⟩ := List.mem_map.1 (repOf_mem _ h)
    have := piece_le hq
    show WfID (repOf (idsOf s))
    have e' : repOf (idsOf s) = (pmore 2166136261 q, (q.length : Int)) := e.symm
    rw [e']
    exact ⟨pmore_lt _ (by decide) _, by simp only; omega, by simp only; omega⟩
theorem nPut_err {st : NSt} {nm s : List UInt8} {r : Nat × Int} {BL bl : List Hd} {fr ec : Int} (h : (ofR nm s).2 = 0) (h2 : nFile st.files nm = none) (h3 : ¬ 30 ≤ st.files.length) (hr : repT s = r) (hb : (nBin st.bins r).getD [] = BL) (hp : putAll BL 0 (pieces s) = (fr, ec, bl)) (hc : ec ≠ 0) : nPut st nm s = (0, ec, st) := by
  unfold nPut
  rw [if_neg (by rw [h]; simp), h2]
  simp only
  rw [if_neg h3, hr, hb, hp, if_pos hc]
theorem nPut_ok {st : NSt} {nm s : List UInt8} {r : Nat × Int} {BL bl : List Hd} {fr : Int} (h : (ofR nm s).2 = 0) (h2 : nFile st.files nm = none) (h3 : ¬ 30 ≤ st.files.length) (hr : repT s = r) (hb : (nBin st.bins r).getD [] = BL) (hp : putAll BL 0 (pieces s) = (fr, 0, bl)) : nPut st nm s = (fr, 0, ⟨(nm, s) :: st.files, (r, bl) :: st.bins.filter (fun b => !decide (b.1 = r))⟩) := by
  unfold nPut
  rw [if_neg (by rw [h]; simp), h2]
  simp only
  rw [if_neg h3, hr, hb, hp, if_neg (by simp)]
set_option maxRecDepth 100000 in
set_option maxHeartbeats 4000000 in
theorem nodePut_any (a : Nat → Addr) (nm s : ByteArray) (p : Addr) (F : Nat → Prop) (U : Int) (st : NSt) (w : World) (hnm : nm.size ≤ 50000) (hs : s.size ≤ 50000) (hU : 0 ≤ U ∧ U + 5000 ≤ 1000000) (hok : ∀ b ∈ st.bins, BinOk U b.2) (hbn : st.bins.length ≤ 1000) (hE : ErrE [1, 3, 5, 6, 9] w a) (hP : PNode w p F st) :
    Calls Tryz.prog 28 #[.pointer (some p), .string nm, .string s] w (NPutPost a w p F (nPut st nm.data.toList s.data.toList)) := by
  have HP : Hid (PNode w p F st) := hP
  have HEE : Hid (∀ W, Below w.heap.size w W → ErrE [1, 3, 5, 6, 9] W a) := fun W hb => hE.below hb (Nat.le_refl _)
  have HOK : Hid (∀ b ∈ st.bins, BinOk U b.2) := hok
  have HOF := hideN (of_all a nm s (by unfold maxLen; omega) w (hE.sub (by decide)))
  unfold ofPost at HOF
  obtain ⟨RES, hRES⟩ : ∃ RES, nPut st nm.data.toList s.data.toList = RES := ⟨_, rfl⟩
  have HRES : Hid (nPut st nm.data.toList s.data.toList = RES) := hRES
  rw [hRES]
  clear hok hE hRES
  go_enter Tryz.func28, Tryz.ntmps28
  go_wp2_with fail
  refine HOF.out.mono ?_
  rintro e w1 ⟨vi1, ev1, rfl, hi1, he1, hb1⟩
  have HB1 := hideN hb1
  have HI1 := hideN hi1
  have HE1 := hideN he1
  clear HOF hi1 he1 hb1
  by_cases hbad : (ofR nm.data.toList s.data.toList).2 = 0
  · have hnmI : isName nm.data.toList = true := by
      cases h : isName nm.data.toList with
      | true => rfl
      | false => rw [ofR_name h] at hbad; cases hbad
    have hs4 : ¬ 4000 < s.data.toList.length := fun h => by rw [ofR_bound hnmI h] at hbad; cases hbad
    have hR := ofR_fine hnmI hs4
    have HBAD := hideN hbad
    rw [hR] at HI1 HE1 ⊢
    obtain rfl := HE1.out.nil
    simp only at HI1
    obtain ⟨P, hPP⟩ : ∃ P, pmore 2166136261 s.data.toList = P := ⟨_, rfl⟩
    have HPP := hideN hPP
    have hsl : s.data.toList.length = s.size := by rw [Array.length_toList]; rfl
    obtain ⟨pv, cv, hvi, _⟩ := HI1.out
    have hrc : rcpDV (nm.data.toList, (s.data.toList.length : Int), pmore 2166136261 s.data.toList, idsOf s.data.toList) vi1 = .agg #[.string nm, .int .i64 (s.size : Int), .int .u32 (P : Nat), .slice pv (idsOf s.data.toList).length cv] := by
      rw [hvi, ← hPP, ← hsl]
    have HS4 : Hid (s.size ≤ 4000) := by show _ ≤ _; omega
    rw [hrc]
    rw [hvi] at HI1
    have HIL : Hid (idsOf s.data.toList ≠ [] → ∀ k, (Value.slice pv (idsOf s.data.toList).length cv).ownBlock = some k → w.heap.size ≤ k ∧ k < w1.heap.size) := fun hne k hk => by
      obtain ⟨p1, c1, hv1, hc1⟩ := HI1.out
      obtain ⟨b1, o1, hp1, h1, h2, _⟩ := hc1 0 (List.length_pos_iff.2 hne)
      have hpp : pv = p1 := by have := hv1; simp at this; exact this.1
      subst hpp hp1
      have : b1 = k := by simpa [Value.ownBlock] using hk
      omega
    obtain ⟨idl, hidl⟩ : ∃ idl, (idsOf s.data.toList).length = idl := ⟨_, rfl⟩
    have HIDL := hideN hidl
    rw [hidl] at HI1 HIL ⊢
    clear HE1 hR hnmI hrc hvi hPP hsl hidl hs4 hbad hP
    have hal1 := (Below.refl w1.heap.size w1).alloc (Nat.le_refl _) (.cells #[.string nm, .int .i64 (s.size : Int), .int .u32 (P : Nat), .slice pv idl cv] 40)
    have hbr1 := Blk.new w1 #[.string nm, .int .i64 (s.size : Int), .int .u32 (P : Nat), .slice pv idl cv] 40
    obtain ⟨N, mf, mb, vi, pi, Fi, rfl, hN, hFe⟩ := HP.out
    have hN1 := (hN.below HB1.out).below hal1
    have HN1 := hideN hN1
    have q0 := hN1.blk.cell (i := 0) rfl
    have HB2 : Hid (Below w.heap.size w _) := hideN (HB1.out.trans (hal1.mono HB1.out.size))
    have hnw : WfNm nm.data.toList := by show nm.data.toList.length ≤ maxLen; rw [Array.length_toList]; show nm.size ≤ maxLen; unfold maxLen; omega
    have hnmE : (⟨nm.data.toList.toArray⟩ : ByteArray) = nm := by simp
    cases hf : nFile st.files nm.data.toList with
    | some t0 =>
      have HR : Hid (RES = (0, 6, st)) := HRES.out.symm.trans (nPut_there HBAD.out hf)
      have l0 : (Instr.lookup 99 (.map (some mf)) (.string nm) true).run Tryz.prog (w1.alloc (.cells #[.string nm, .int .i64 (s.size : Int), .int .u32 (P : Nat), .slice pv idl cv] 40)) = .ok (.tuple #[rwV (rwOf (nm.data.toList, t0) (vi nm.data.toList)), .bool true]) (w1.alloc (.cells #[.string nm, .int .i64 (s.size : Int), .int .u32 (P : Nat), .slice pv idl cv] 40)) := by
        have := hN1.files.look_some Tryz.underlying99 (rcpZero _) (List.mem_map.2 ⟨_, nFile_some hf, rfl⟩)
        change (Instr.lookup _ _ (.string ⟨nm.data.toList.toArray⟩) true).run _ _ = _ at this
        rw [hnmE] at this
        exact this
      obtain ⟨pv0, cv0, hv0, _⟩ := hN.ids _ (nFile_some hf)
      obtain ⟨A0, L0, P0, n0, hrv⟩ : ∃ (A0 : ByteArray) (L0 P0 : Int) (n0 : Nat), rwV (rwOf (nm.data.toList, t0) (vi nm.data.toList)) = .agg #[.string A0, .int .i64 L0, .int .u32 P0, .slice pv0 n0 cv0] := ⟨_, _, _, _, by simp only at hv0; unfold rwOf; rw [hv0]⟩
      rw [hrv] at l0
      have hal2 := (Below.refl (w1.alloc (.cells #[.string nm, .int .i64 (s.size : Int), .int .u32 (P : Nat), .slice pv idl cv] 40)).heap.size (w1.alloc (.cells #[.string nm, .int .i64 (s.size : Int), .int .u32 (P : Nat), .slice pv idl cv] 40))).alloc (Nat.le_refl _) (.cells #[.string A0, .int .i64 L0, .int .u32 P0, .slice pv0 n0 cv0] 40)
      have HB3 : Hid (Below w.heap.size w _) := hideN (HB2.out.trans (hal2.mono HB2.out.size))
      have g5 := (HEE.out _ HB3.out).glob 5 rfl
      change World.cell? _ ⟨3, 0, none⟩ = _ at g5
      clear hN hN1 hf hal1 hbr1 hrv hv0 hal2
      go_wp2_with fail
      generalize (w1.alloc (.cells #[.string nm, .int .i64 (s.size : Int), .int .u32 (P : Nat), .slice pv idl cv] 40)).alloc (.cells #[.string A0, .int .i64 L0, .int .u32 P0, .slice pv0 n0 cv0] 40) = W at *
      go_region
      go_wp2_with fail
      go_ret2
      exact NPutPost.same HR.out HP.out HB3.out.drew (.inr (.inl ⟨5, by decide, rfl, rfl⟩))
    | none =>
      have l0 : (Instr.lookup 99 (.map (some mf)) (.string nm) true).run Tryz.prog (w1.alloc (.cells #[.string nm, .int .i64 (s.size : Int), .int .u32 (P : Nat), .slice pv idl cv] 40)) = .ok (.tuple #[.agg #[.string ⟨#[]⟩, .int .i64 0, .int .u32 0, .slice none 0 0], .bool false]) (w1.alloc (.cells #[.string nm, .int .i64 (s.size : Int), .int .u32 (P : Nat), .slice pv idl cv] 40)) := by
        have := hN1.files.look_none Tryz.underlying99 (rcpZero _) hnw (fun y hy => by
          obtain ⟨f, hfm, rfl⟩ := List.mem_map.1 hy
          exact nFile_none hf f hfm)
        change (Instr.lookup _ _ (.string ⟨nm.data.toList.toArray⟩) true).run _ _ = _ at this
        rw [hnmE] at this
        exact this
      have hal2 := (Below.refl (w1.alloc (.cells #[.string nm, .int .i64 (s.size : Int), .int .u32 (P : Nat), .slice pv idl cv] 40)).heap.size (w1.alloc (.cells #[.string nm, .int .i64 (s.size : Int), .int .u32 (P : Nat), .slice pv idl cv] 40))).alloc (Nat.le_refl _) (.cells #[.string ⟨#[]⟩, .int .i64 0, .int .u32 0, .slice none 0 0] 40)
      have HB3 : Hid (Below w.heap.size w _) := hideN (HB2.out.trans (hal2.mono HB2.out.size))
      have hN2 := hN1.below hal2
      have q2 := hN2.blk.cell (i := 0) rfl
      have hbr2 := hbr1.next hal2
      have HF := hideN hf
      have HN2 := hideN hN2
      have HI2 := hideN ((HI1.out.below hal1).below hal2)
      have hlenf : (st.files.map fun f => (f.1, rwOf f (vi f.1))).length = st.files.length := List.length_map ..
      have ln := hN2.files.len Tryz.underlying99 3
      rw [hlenf] at ln
      clear hN hN1 hf hal1 hbr1 hal2 hN2 HN1 HI1 hlenf
      by_cases hfull : 30 ≤ st.files.length
      · have hfull' : (30 : Int) ≤ (st.files.length : Int) := by omega
        have HR : Hid (RES = (0, 7, st)) := HRES.out.symm.trans (nPut_full HBAD.out HF.out hfull)
        have g6 := (HEE.out _ HB3.out).glob 6 rfl
        change World.cell? _ ⟨1, 0, none⟩ = _ at g6
        clear hfull
        go_wp2_with fail
        generalize (w1.alloc (.cells #[.string nm, .int .i64 (s.size : Int), .int .u32 (P : Nat), .slice pv idl cv] 40)).alloc (.cells #[.string ⟨#[]⟩, .int .i64 0, .int .u32 0, .slice none 0 0] 40) = W at *
        go_region
        go_wp2_with fail
        go_ret2
        exact NPutPost.same HR.out HP.out HB3.out.drew (.inr (.inl ⟨6, by decide, rfl, rfl⟩))
      have hfull' : ¬ (30 : Int) ≤ (st.files.length : Int) := by omega
      have HFULL := hideN hfull
      have hidz : (idsOf s.data.toList).length ≤ maxLen := by
        have h1 := pieces_len_le s.data.toList
        have h2 : s.data.toList.length = s.size := by rw [Array.length_toList]; rfl
        unfold idsOf maxLen
        rw [List.length_map]
        omega
      have HREP := hideN (fun W (hv : IdsAt W (.slice pv idl cv) (idsOf s.data.toList)) => rep_any nm (s.size : Int) (P : Int) (.slice pv idl cv) (idsOf s.data.toList) W hv hidz)
      have HWR := hideN (repT_wf s.data.toList)
      obtain ⟨⟨rp, rl⟩, hrep⟩ : ∃ r, repT s.data.toList = r := ⟨_, rfl⟩
      have HRP := hideN hrep
      change Hid (∀ W, _ → Calls _ _ _ W fun e w' => e = .returned (idV ((repT s.data.toList).1 : Nat) (repT s.data.toList).2) ∧ _) at HREP
      rw [hrep] at HREP HWR
      simp only at HREP
      clear hidz hrep
      go_wp2_with fail
      generalize (w1.alloc (.cells #[.string nm, .int .i64 (s.size : Int), .int .u32 (P : Nat), .slice pv idl cv] 40)).alloc (.cells #[.string ⟨#[]⟩, .int .i64 0, .int .u32 0, .slice none 0 0] 40) = W2 at *
      refine (HREP.out W2 HI2.out.at).mono ?_
      rintro e w3 ⟨rfl, hb3⟩
      have hal3 := (Below.refl w3.heap.size w3).alloc (Nat.le_refl _) (.cells #[.int .u32 (rp : Nat), .int .i64 rl] 25)
      have hbi3 := Blk.new w3 #[.int .u32 (rp : Nat), .int .i64 rl] 25
      have HB4 : Hid (Below w.heap.size w _) := hideN ((HB3.out.trans (hb3.mono HB3.out.size)).trans (hal3.mono (Nat.le_trans HB3.out.size hb3.size)))
      have HN4 := hideN ((HN2.out.below hb3).below hal3)
      have HI4 := hideN ((HI2.out.below hb3).below hal3)
      have hbr4 := (hbr2.next hb3).next hal3
      have HWW3 := hideN (Nat.le_trans HB3.out.size hb3.size)
      have hw31a : w3.heap.size ≠ w1.heap.size := by have := (hbr2.next hb3).lt; omega
      have hsz4 : w3.heap.size < (w3.alloc (.cells #[.int .u32 (rp : Nat), .int .i64 rl] 25)).heap.size := by simp
      clear hal3 hb3 HREP HN2 HI2 hbr2 ln q2 q0 l0 HB3
      go_wp2_with fail
      generalize w3.alloc (.cells #[.int .u32 (rp : Nat), .int .i64 rl] 25) = W4 at *
      have hrB : w1.heap.size < W4.heap.size := hbr4.lt
      have HW31 : Hid (w3.heap.size ≠ w1.heap.size) := hw31a
      clear hw31a
      refine (nodeBin_any (rp, rl) ⟨N, 0, none⟩ F st W4 HWR.out ⟨N, mf, mb, vi, pi, Fi, rfl, HN4.out, hFe⟩).mono ?_
      rintro e w5 ⟨hr5, hb5⟩
      have HB5 : Hid (Below w.heap.size w w5) := HB4.out.trans (hb5.mono HB4.out.size)
      have HN5 := hideN (HN4.out.below hb5)
      have HI5 := hideN (HI4.out.below hb5)
      have hbr5 := hbr4.next hb5
      have hbi5 := hbi3.next hb5
      have HW45 := hideN hb5.size
      have HWW4 := hideN HB4.out.size
      clear hb5 HN4 HI4 hbr4 hbi3 HB4
      obtain ⟨BO, hBO⟩ : ∃ BO, nBin st.bins (rp, rl) = BO := ⟨_, rfl⟩
      have HBO := hideN hBO
      rw [hBO] at hr5
      clear hBO
      have HOKB : Hid (BinOk U (BO.getD [])) := by
        show BinOk _ _
        cases hb : BO with
        | none => exact BinOk.nil _
        | some l0 => exact HOK.out _ (nBin_some (HBO.out.trans hb))
      obtain ⟨BL, hBL⟩ : ∃ BL, BO.getD [] = BL := ⟨_, rfl⟩
      have HBL : Hid ((nBin st.bins (rp, rl)).getD [] = BL) := by show _ = _; rw [HBO.out]; exact hBL
      rw [hBL] at HOKB
      cases BO with
      | none =>
        have hBL2 : ([] : List Hd) = BL := hBL
        clear hBL
        obtain rfl : e = .returned (.pointer none) := hr5
        go_wp2_with fail
        refine (pNew_any w5).mono ?_
        rintro e w6 ⟨q, Fq, rfl, hPq, hFq, hb6⟩
        have HB6 : Hid (Below w.heap.size w w6) := HB5.out.trans (hb6.mono HB5.out.size)
        have HN6 := hideN (HN5.out.below hb6)
        have HI6 := hideN (HI5.out.below hb6)
        have hbr6 := hbr5.next hb6
        have hbi6 := hbi5.next hb6
        have HPQ : Hid (PBin0 w6 q Fq BL) := by show PBin0 _ _ _ _; rw [← hBL2]; exact hPq
        have HFQ : Hid (∀ k, Fq k → W4.heap.size ≤ k) := fun k hk => Nat.le_trans HW45.out (hFq k hk)
        have HW46 : Hid (W4.heap.size ≤ w6.heap.size) := Nat.le_trans HW45.out hb6.size
        clear hb6 HN5 HI5 hbr5 hbi5 HB5 hPq hFq hBL2
        go_wp2_with fail
        refine (pieces_any s hs w6).mono ?_
        rintro e w7 ⟨vl, rfl, hrow7, hb7⟩
        have HB7 : Hid (Below w.heap.size w w7) := HB6.out.trans (hb7.mono HB6.out.size)
        have HN7 := hideN (HN6.out.below hb7)
        have HI7 := hideN (HI6.out.below hb7)
        have hbr7 := hbr6.next hb7
        have hbi7 := hbi6.next hb7
        have HB67 := hideN hb7.size
        have HPQ7 := hideN (HPQ.out.off (Off.of_below (F := fun _ => False) hb7) (fun _ _ h => h))
        have HV7 : Hid (CellsAt w7 vl ((pieces s.data.toList).map txtV)) := CellsAt.of_row hrow7
        have HRW7 : Hid (∀ k, vl.ownBlock = some k → ¬ Fq k) := fun k hk hF => by have h1 := HPQ.out.lt k hF; have h2 := (hrow7.lt k hk).1; omega
        clear hrow7 hb7 HPQ HN6 HI6 hbr6 hbi6 HB6
        go_wp2_with fail
        have hpl := pieces_len_le s.data.toList
        have hsl : s.data.toList.length = s.size := by rw [Array.length_toList]; rfl
        have hs4 := HS4.out
        refine (putPieces_any a vl (pieces s.data.toList) q Fq U BL w7 hU.1 (by omega) HOKB.out (by omega) (fun t ht => by have := piece_le ht; omega) ((HEE.out _ HB7.out).sub (by decide)) (fun i hi hF => by
          have h1 := HFQ.out _ hF
          have h2 := lt_of_cell ((HEE.out w (Below.refl _ _)).glob i (by revert hi; simp; omega))
          have h3 := HWW4.out
          omega) HV7.out HRW7.out HPQ7.out).mono ?_
        rintro e w8 ⟨ev8, F8, rfl, he8, hp8, hf8, ho8⟩
        have HB8 : Hid (Below w.heap.size w w8) := HB7.out.trans (ho8.below HB7.out.size (fun j hj hF => by have h1 := HFQ.out j hF; have h2 := HWW4.out; omega))
        have HN8 := hideN (HN7.out.off ho8 (fun k hk hF => by
          have h1 := HFQ.out k hF
          have h2 := HP.out.lt k (by rw [hFe]; exact hk)
          have h3 := HWW4.out
          omega))
        have HI8 := hideN (HI7.out.at.off ho8 (fun hne k hk hF => by
          have h1 := HFQ.out k hF
          have h2 := HIL.out hne k hk
          omega))
        have hbr8 := ho8.blk hbr7 (fun hF => by have h1 := HFQ.out _ hF; omega)
        have hbi8 := ho8.blk hbi7 (fun hF => by have h1 := HFQ.out _ hF; omega)
        have HP8 := hideN hp8
        have HF8 : Hid (∀ k, F8 k → W4.heap.size ≤ k) := fun k hk => by
          rcases hf8 k hk with h | h
          · exact HFQ.out k h
          · have h1 := HW46.out
            have h2 := HB67.out
            omega
        have HE8 := hideN he8
        have hs78 := ho8.size
        have hw7 := HB7.out.size
        clear hpl hsl hs4 ho8 hp8 hf8 he8 HN7 HI7 hbr7 hbi7 HPQ7 HV7 HRW7
        obtain ⟨⟨fr, ec, bl8⟩, hpa⟩ : ∃ r, putAll BL 0 (pieces s.data.toList) = r := ⟨_, rfl⟩
        rw [hpa] at HE8 HP8 ⊢
        simp only at HE8 HP8 ⊢
        by_cases hec : ec = 0
        · subst hec
          have HR := hideN (HRES.out.symm.trans (nPut_ok HBAD.out HF.out HFULL.out HRP.out HBL.out hpa))
          obtain rfl := HE8.out.nil
          clear hpa HE8
          have i0 := hbi8.cell (i := 0) rfl
          have i1 := hbi8.cell (i := 1) rfl
          have x0 := hbr8.cell (i := 0) rfl
          have x1 := hbr8.cell (i := 1) rfl
          have x2 := hbr8.cell (i := 2) rfl
          have x3 := hbr8.cell (i := 3) rfl
          have hal9 := (Below.refl w8.heap.size w8).alloc (Nat.le_refl _) (.cells #[.string nm, .int .i64 (s.size : Int), .int .u32 (P : Nat), .slice pv idl cv] 40)
          have hR9 := Blk.new w8 #[.string nm, .int .i64 (s.size : Int), .int .u32 (P : Nat), .slice pv idl cv] 40
          have HN9 := hideN (HN8.out.below hal9)
          have HI9 := hideN (HI8.out.below hal9)
          have HP9 := hideN (HP8.out.off (Off.of_below (F := fun _ => False) hal9) (fun _ _ h => h))
          have HB9 : Hid (Below w.heap.size w _) := hideN (HB8.out.trans (hal9.mono HB8.out.size))
          have HR9 := hideN hR9
          have HWL8 : Hid (w.heap.size ≤ w8.heap.size) := HB8.out.size
          clear hal9 hR9 HN8 HI8 HP8 HB8
          go_wp2_with fail
          obtain ⟨W9, hW9⟩ : ∃ W9, w8.alloc (.cells #[.string nm, .int .i64 (s.size : Int), .int .u32 (P : Nat), .slice pv idl cv] 40) = W9 := ⟨_, rfl⟩
          rw [hW9] at HN9 HI9 HP9 HB9 HR9 ⊢
          obtain ⟨RB, hRB⟩ : ∃ RB, w8.heap.size = RB := ⟨_, rfl⟩
          rw [hRB] at HR9 HWL8 ⊢
          clear hW9 hRB i0 i1 x0 x1 x2 x3
          have hnew := nFile_none HF.out
          have hltF : ∀ k, nFoot N mf mb vi Fi st k → k < w.heap.size := fun k hk => HP.out.lt k (by rw [hFe]; exact hk)
          have hw4 := HWW4.out
          have hmfl : mf < w.heap.size := hltF mf (.inr (.inl rfl))
          have hRV : ∀ W, Off (fun k => k = mf) W9 W → RcpsAt W (.slice (some ⟨RB, 0, none⟩) 1 1) [rcpOf (nm.data.toList, s.data.toList)] := fun W ho => by
            refine ⟨some ⟨RB, 0, none⟩, 1, rfl, fun i hi => ⟨RB, 0, .slice pv idl cv, rfl, ?_⟩⟩
            obtain rfl : i = 0 := by simp at hi; exact hi
            have hb := ho.blk HR9.out (fun e => by have := HWL8.out; omega)
            have h2 : s.data.toList.length = s.size := by rw [Array.length_toList]; rfl
            refine ⟨hb.lt, ?_, ?_, ?_, hb.cell (i := 3) rfl, HI9.out.off ho (fun hne k hk e => by have := HIL.out hne k hk; omega)⟩
            · have e : (⟨nm.data.toList.toArray⟩ : ByteArray) = nm := by simp
              show W.cell? _ = some (.string ⟨nm.data.toList.toArray⟩)
              rw [e]
              exact hb.cell (i := 0) rfl
            · show W.cell? _ = some (.int .i64 (s.data.toList.length : Int))
              rw [h2]
              exact hb.cell (i := 1) rfl
            · show W.cell? _ = some (.int .u32 ((pmore 2166136261 s.data.toList : Nat) : Int))
              rw [HPP.out]
              exact hb.cell (i := 2) rfl
          refine (keep_any N mf mb vi pi Fi (st.files.map rcpOf) st.bins (rp, rl) q F8 bl8 _ _ W9 HWR.out HN9.out.toR HP9.out (fun k hk hf => by have h1 := HF8.out k hk; have h2 := hltF k (rFoot_iff.1 hf); omega) hRV
            (fun r hr g hg => by
              rw [List.mem_singleton.1 hr]
              obtain ⟨f, hf, rfl⟩ := List.mem_map.1 hg
              exact hnew f hf)
            (List.pairwise_singleton _ _)
            (fun r hr => by
              rw [List.mem_singleton.1 hr]
              show nm.data.toList.length ≤ 50000
              rw [Array.length_toList]
              exact hnm)
            (fun r hr => by
              rw [List.mem_singleton.1 hr]
              show (idsOf s.data.toList).length ≤ 50000
              have h1 := pieces_len_le s.data.toList
              have h2 : s.data.toList.length = s.size := by rw [Array.length_toList]; rfl
              unfold idsOf
              rw [List.length_map]
              omega)
            (by simp) (by rw [List.length_map]; have := HFULL.out; omega) hbn).mono ?_
          rintro e w10 ⟨rfl, vi', pi', Fi', hR10, hF10, hO10⟩
          have HNO : Hid (PNode w10 ⟨N, 0, none⟩ (rFoot N mf mb vi' Fi' (((nm.data.toList, s.data.toList) :: st.files).map rcpOf) (((rp, rl), bl8) :: st.bins.filter (fun b => !decide (b.1 = (rp, rl))))) ⟨(nm.data.toList, s.data.toList) :: st.files, ((rp, rl), bl8) :: st.bins.filter (fun b => !decide (b.1 = (rp, rl)))⟩) := NAtR.node (fl := (nm.data.toList, s.data.toList) :: st.files) hR10
          have HFO : Hid (∀ k, rFoot N mf mb vi' Fi' (((nm.data.toList, s.data.toList) :: st.files).map rcpOf) (((rp, rl), bl8) :: st.bins.filter (fun b => !decide (b.1 = (rp, rl)))) k → F k ∨ w.heap.size ≤ k) := fun k hk => by
            rcases hF10 k hk with h | h | h
            · exact .inl (by rw [hFe]; exact rFoot_iff.1 h)
            · exact .inr (by have := HF8.out k h; omega)
            · exact .inr (Nat.le_trans HB9.out.size h)
          have HOO : Hid (Off F w w10) := (Off.of_below HB9.out).trans hO10 (fun i _ h => by
            rw [hFe]
            rcases h with h | h
            · exact .inr (.inl h)
            · exact .inr (.inr (.inl h)))
          clear hR10 hF10 hO10 hRV hnew hltF hw4 hmfl
          go_wp2_with fail
          go_ret2
          refine ⟨.nilIface, _, ?_, ?_, ?_, HFO.out, HOO.out⟩
          · rw [HR.out]
            rfl
          · rw [HR.out]
            exact .inl ⟨rfl, rfl⟩
          · rw [HR.out]
            exact HNO.out
        · have HR := hideN (HRES.out.symm.trans (nPut_err HBAD.out HF.out HFULL.out HRP.out HBL.out hpa hec))
          obtain ⟨t8, u8, rfl⟩ : ∃ t u, ev8 = .iface t u := by
            rcases HE8.out with ⟨_, hf⟩ | ⟨_, _, hv, _⟩ | ⟨_, _, _, _, _, _, hv, _⟩
            · exact (hec (Prod.mk.inj hf).1).elim
            · exact ⟨_, _, hv⟩
            · exact ⟨_, _, hv⟩
          have HRE : Hid (ErrIn w.heap.size w8 a (.iface t8 u8) (ec, -1)) := by
            rcases HE8.out with h | h | ⟨k1, pb, po, at0, h1, h2, h3, h4⟩
            · exact .inl h
            · exact .inr (.inl h)
            · exact .inr (.inr ⟨k1, pb, po, at0, h1, by omega, h3, h4⟩)
          clear hpa hec HE8
          go_wp2_with fail
          go_ret2
          exact NPutPost.same HR.out HP.out HB8.out HRE.out
      | some l0 =>
        have hBL2 : l0 = BL := hBL
        clear hBL
        obtain ⟨q, Fq, rfl, hPq, hFq⟩ := hr5
        have HB6 := HB5
        have HN6 := HN5
        have HI6 := HI5
        have hbr6 := hbr5
        have hbi6 := hbi5
        have HPQ : Hid (PBin0 w5 q Fq BL) := by show PBin0 _ _ _ _; rw [← hBL2]; exact hPq
        have HFQ := hideN hFq
        have HW46 := HW45
        clear HN5 HI5 hbr5 hbi5 HB5 hPq hFq HW45 hBL2
        go_wp2_with fail
        generalize w5 = w6 at *
        refine (pieces_any s hs w6).mono ?_
        rintro e w7 ⟨vl, rfl, hrow7, hb7⟩
        have HB7 : Hid (Below w.heap.size w w7) := HB6.out.trans (hb7.mono HB6.out.size)
        have HN7 := hideN (HN6.out.below hb7)
        have HI7 := hideN (HI6.out.below hb7)
        have hbr7 := hbr6.next hb7
        have hbi7 := hbi6.next hb7
        have HB67 := hideN hb7.size
        have HPQ7 := hideN (HPQ.out.off (Off.of_below (F := fun _ => False) hb7) (fun _ _ h => h))
        have HV7 : Hid (CellsAt w7 vl ((pieces s.data.toList).map txtV)) := CellsAt.of_row hrow7
        have HRW7 : Hid (∀ k, vl.ownBlock = some k → ¬ Fq k) := fun k hk hF => by have h1 := HPQ.out.lt k hF; have h2 := (hrow7.lt k hk).1; omega
        clear hrow7 hb7 HPQ HN6 HI6 hbr6 hbi6 HB6
        go_wp2_with fail
        have hpl := pieces_len_le s.data.toList
        have hsl : s.data.toList.length = s.size := by rw [Array.length_toList]; rfl
        have hs4 := HS4.out
        refine (putPieces_any a vl (pieces s.data.toList) q Fq U BL w7 hU.1 (by omega) HOKB.out (by omega) (fun t ht => by have := piece_le ht; omega) ((HEE.out _ HB7.out).sub (by decide)) (fun i hi hF => by
          have h1 := HFQ.out _ hF
          have h2 := lt_of_cell ((HEE.out w (Below.refl _ _)).glob i (by revert hi; simp; omega))
          have h3 := HWW4.out
          omega) HV7.out HRW7.out HPQ7.out).mono ?_
        rintro e w8 ⟨ev8, F8, rfl, he8, hp8, hf8, ho8⟩
        have HB8 : Hid (Below w.heap.size w w8) := HB7.out.trans (ho8.below HB7.out.size (fun j hj hF => by have h1 := HFQ.out j hF; have h2 := HWW4.out; omega))
        have HN8 := hideN (HN7.out.off ho8 (fun k hk hF => by
          have h1 := HFQ.out k hF
          have h2 := HP.out.lt k (by rw [hFe]; exact hk)
          have h3 := HWW4.out
          omega))
        have HI8 := hideN (HI7.out.at.off ho8 (fun hne k hk hF => by
          have h1 := HFQ.out k hF
          have h2 := HIL.out hne k hk
          omega))
        have hbr8 := ho8.blk hbr7 (fun hF => by have h1 := HFQ.out _ hF; omega)
        have hbi8 := ho8.blk hbi7 (fun hF => by have h1 := HFQ.out _ hF; omega)
        have HP8 := hideN hp8
        have HF8 : Hid (∀ k, F8 k → W4.heap.size ≤ k) := fun k hk => by
          rcases hf8 k hk with h | h
          · exact HFQ.out k h
          · have h1 := HW46.out
            have h2 := HB67.out
            omega
        have HE8 := hideN he8
        have hs78 := ho8.size
        have hw7 := HB7.out.size
        clear hpl hsl hs4 ho8 hp8 hf8 he8 HN7 HI7 hbr7 hbi7 HPQ7 HV7 HRW7
        obtain ⟨⟨fr, ec, bl8⟩, hpa⟩ : ∃ r, putAll BL 0 (pieces s.data.toList) = r := ⟨_, rfl⟩
        rw [hpa] at HE8 HP8 ⊢
        simp only at HE8 HP8 ⊢
        by_cases hec : ec = 0
        · subst hec
          have HR := hideN (HRES.out.symm.trans (nPut_ok HBAD.out HF.out HFULL.out HRP.out HBL.out hpa))
          obtain rfl := HE8.out.nil
          clear hpa HE8
          have i0 := hbi8.cell (i := 0) rfl
          have i1 := hbi8.cell (i := 1) rfl
          have x0 := hbr8.cell (i := 0) rfl
          have x1 := hbr8.cell (i := 1) rfl
          have x2 := hbr8.cell (i := 2) rfl
          have x3 := hbr8.cell (i := 3) rfl
          have hal9 := (Below.refl w8.heap.size w8).alloc (Nat.le_refl _) (.cells #[.string nm, .int .i64 (s.size : Int), .int .u32 (P : Nat), .slice pv idl cv] 40)
          have hR9 := Blk.new w8 #[.string nm, .int .i64 (s.size : Int), .int .u32 (P : Nat), .slice pv idl cv] 40
          have HN9 := hideN (HN8.out.below hal9)
          have HI9 := hideN (HI8.out.below hal9)
          have HP9 := hideN (HP8.out.off (Off.of_below (F := fun _ => False) hal9) (fun _ _ h => h))
          have HB9 : Hid (Below w.heap.size w _) := hideN (HB8.out.trans (hal9.mono HB8.out.size))
          have HR9 := hideN hR9
          have HWL8 : Hid (w.heap.size ≤ w8.heap.size) := HB8.out.size
          clear hal9 hR9 HN8 HI8 HP8 HB8
          go_wp2_with fail
          obtain ⟨W9, hW9⟩ : ∃ W9, w8.alloc (.cells #[.string nm, .int .i64 (s.size : Int), .int .u32 (P : Nat), .slice pv idl cv] 40) = W9 := ⟨_, rfl⟩
          rw [hW9] at HN9 HI9 HP9 HB9 HR9 ⊢
          obtain ⟨RB, hRB⟩ : ∃ RB, w8.heap.size = RB := ⟨_, rfl⟩
          rw [hRB] at HR9 HWL8 ⊢
          clear hW9 hRB i0 i1 x0 x1 x2 x3
          have hnew := nFile_none HF.out
          have hltF : ∀ k, nFoot N mf mb vi Fi st k → k < w.heap.size := fun k hk => HP.out.lt k (by rw [hFe]; exact hk)
          have hw4 := HWW4.out
          have hmfl : mf < w.heap.size := hltF mf (.inr (.inl rfl))
          have hRV : ∀ W, Off (fun k => k = mf) W9 W → RcpsAt W (.slice (some ⟨RB, 0, none⟩) 1 1) [rcpOf (nm.data.toList, s.data.toList)] := fun W ho => by
            refine ⟨some ⟨RB, 0, none⟩, 1, rfl, fun i hi => ⟨RB, 0, .slice pv idl cv, rfl, ?_⟩⟩
            obtain rfl : i = 0 := by simp at hi; exact hi
            have hb := ho.blk HR9.out (fun e => by have := HWL8.out; omega)
            have h2 : s.data.toList.length = s.size := by rw [Array.length_toList]; rfl
            refine ⟨hb.lt, ?_, ?_, ?_, hb.cell (i := 3) rfl, HI9.out.off ho (fun hne k hk e => by have := HIL.out hne k hk; omega)⟩
            · have e : (⟨nm.data.toList.toArray⟩ : ByteArray) = nm := by simp
              show W.cell? _ = some (.string ⟨nm.data.toList.toArray⟩)
              rw [e]
              exact hb.cell (i := 0) rfl
            · show W.cell? _ = some (.int .i64 (s.data.toList.length : Int))
              rw [h2]
              exact hb.cell (i := 1) rfl
            · show W.cell? _ = some (.int .u32 ((pmore 2166136261 s.data.toList : Nat) : Int))
              rw [HPP.out]
              exact hb.cell (i := 2) rfl
          refine (keep_any N mf mb vi pi Fi (st.files.map rcpOf) st.bins (rp, rl) q F8 bl8 _ _ W9 HWR.out HN9.out.toR HP9.out (fun k hk hf => by have h1 := HF8.out k hk; have h2 := hltF k (rFoot_iff.1 hf); omega) hRV
            (fun r hr g hg => by
              rw [List.mem_singleton.1 hr]
              obtain ⟨f, hf, rfl⟩ := List.mem_map.1 hg
              exact hnew f hf)
            (List.pairwise_singleton _ _)
            (fun r hr => by
              rw [List.mem_singleton.1 hr]
              show nm.data.toList.length ≤ 50000
              rw [Array.length_toList]
              exact hnm)
            (fun r hr => by
              rw [List.mem_singleton.1 hr]
              show (idsOf s.data.toList).length ≤ 50000
              have h1 := pieces_len_le s.data.toList
              have h2 : s.data.toList.length = s.size := by rw [Array.length_toList]; rfl
              unfold idsOf
              rw [List.length_map]
              omega)
            (by simp) (by rw [List.length_map]; have := HFULL.out; omega) hbn).mono ?_
          rintro e w10 ⟨rfl, vi', pi', Fi', hR10, hF10, hO10⟩
          have HNO : Hid (PNode w10 ⟨N, 0, none⟩ (rFoot N mf mb vi' Fi' (((nm.data.toList, s.data.toList) :: st.files).map rcpOf) (((rp, rl), bl8) :: st.bins.filter (fun b => !decide (b.1 = (rp, rl))))) ⟨(nm.data.toList, s.data.toList) :: st.files, ((rp, rl), bl8) :: st.bins.filter (fun b => !decide (b.1 = (rp, rl)))⟩) := NAtR.node (fl := (nm.data.toList, s.data.toList) :: st.files) hR10
          have HFO : Hid (∀ k, rFoot N mf mb vi' Fi' (((nm.data.toList, s.data.toList) :: st.files).map rcpOf) (((rp, rl), bl8) :: st.bins.filter (fun b => !decide (b.1 = (rp, rl)))) k → F k ∨ w.heap.size ≤ k) := fun k hk => by
            rcases hF10 k hk with h | h | h
            · exact .inl (by rw [hFe]; exact rFoot_iff.1 h)
            · exact .inr (by have := HF8.out k h; omega)
            · exact .inr (Nat.le_trans HB9.out.size h)
          have HOO : Hid (Off F w w10) := (Off.of_below HB9.out).trans hO10 (fun i _ h => by
            rw [hFe]
            rcases h with h | h
            · exact .inr (.inl h)
            · exact .inr (.inr (.inl h)))
          clear hR10 hF10 hO10 hRV hnew hltF hw4 hmfl
          go_wp2_with fail
          go_ret2
          refine ⟨.nilIface, _, ?_, ?_, ?_, HFO.out, HOO.out⟩
          · rw [HR.out]
            rfl
          · rw [HR.out]
            exact .inl ⟨rfl, rfl⟩
          · rw [HR.out]
            exact HNO.out
        · have HR := hideN (HRES.out.symm.trans (nPut_err HBAD.out HF.out HFULL.out HRP.out HBL.out hpa hec))
          obtain ⟨t8, u8, rfl⟩ : ∃ t u, ev8 = .iface t u := by
            rcases HE8.out with ⟨_, hf⟩ | ⟨_, _, hv, _⟩ | ⟨_, _, _, _, _, _, hv, _⟩
            · exact (hec (Prod.mk.inj hf).1).elim
            · exact ⟨_, _, hv⟩
            · exact ⟨_, _, hv⟩
          have HRE : Hid (ErrIn w.heap.size w8 a (.iface t8 u8) (ec, -1)) := by
            rcases HE8.out with h | h | ⟨k1, pb, po, at0, h1, h2, h3, h4⟩
            · exact .inl h
            · exact .inr (.inl h)
            · exact .inr (.inr ⟨k1, pb, po, at0, h1, by omega, h3, h4⟩)
          clear hpa hec HE8
          go_wp2_with fail
          go_ret2
          exact NPutPost.same HR.out HP.out HB8.out HRE.out
  · obtain ⟨t1, u1, rfl⟩ : ∃ t u, ev1 = .iface t u := by
      rcases HE1.out with ⟨_, hf⟩ | ⟨_, _, hv, _⟩ | ⟨_, _, _, _, _, _, hv, _⟩
      · exact (hbad (Prod.mk.inj hf).1).elim
      · exact ⟨_, _, hv⟩
      · exact ⟨_, _, hv⟩
    have HR : Hid (RES = (0, (ofR nm.data.toList s.data.toList).2, st)) := HRES.out.symm.trans (nPut_bad hbad)
    clear hbad
    generalize ofR nm.data.toList s.data.toList = R at *
    obtain ⟨⟨r1, r2, r3, r4⟩, rc⟩ := R
    simp only at HI1 HE1 HR ⊢
    obtain ⟨pv, cv, rfl, _⟩ := HI1.out
    have hal1 := (Below.refl w1.heap.size w1).alloc (Nat.le_refl _) (.cells #[.string ⟨r1.toArray⟩, .int .i64 r2, .int .u32 (r3 : Nat), .slice pv r4.length cv] 40)
    go_wp2_with fail
    go_ret2
    exact NPutPost.same HR.out HP.out (HB1.out.trans (hal1.mono HB1.out.size)) (HE1.out.below hal1)
end Go.Proofs.YtcbcjefefmbccabGreatDoor
