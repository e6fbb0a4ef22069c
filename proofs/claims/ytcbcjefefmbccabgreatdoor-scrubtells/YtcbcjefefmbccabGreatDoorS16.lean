/-
  Own text. The program's bin by contracts: All.
  Own text. The program's package bin keeps the contracts (BinSpec).
  Own text. node.putPieces by a contract: pieces are put into a bin, in order, up to the first that is refused.
  Own text. (scrub.count).add by a contract: a file's rep and pieces are counted, if they are there.
  Own text. (scrub.count).checkFile by a contract, at a file that is right: it is counted, and there is no error.
-/
import Derived.Test.YtcbcjefefmbccabGreatDoorS15
import Derived.Test.YtcbcjefefmbccabGreatDoorS13
import Derived.Test.YtcbcjefefmbccabGreatDoorS12
import Derived.Test.YtcbcjefefmbccabGreatDoorS07
import Derived.Test.YtcbcjefefmbccabGreatDoorS08
import Derived.Deep.RegionHeld3
import Derived.Sort.Walk0
namespace Go.Proofs.YtcbcjefefmbccabGreatDoor
open Go.RowKit Go.Maps Go.Sort

/- All's own memory on its way: the box of the list, the list's row. -/
structure AllSt (w wr : World) (p : Option Addr) (cp : Nat) (c : List Hd) : Prop where
  cell : wr.cell? ⟨w.heap.size, 0, none⟩ = some (.slice p c.length cp)
  free : wr.frozen? ⟨w.heap.size, 0, none⟩ = false
  row : wr.ownsRow (w.heap.size + 2) 78 4 (.slice p c.length cp) c.length (heldCells c)
  below : Below w.heap.size w wr
  size : w.heap.size + 2 ≤ wr.heap.size
theorem AllSt.grow {w wr w' : World} {p : Option Addr} {cp : Nat} {c : List Hd} {row : Option Nat} (h : AllSt w wr p cp c) (hg : wr.grownBy w' row) (hr : ∀ k, row = some k → k = w.heap.size + 1) : AllSt w w' p cp c := by
  have hne : some w.heap.size ≠ row := fun e => by have := hr _ e.symm; omega
  have hl : w.heap.size < wr.heap.size := by have := h.size; omega
  refine ⟨cell_kept h.cell hg hl hne, (World.frozen?_of_block (w := wr) (hg.block _ hl hne)).trans h.free, h.row.kept hg ?_, ?_, Nat.le_trans h.size hg.size⟩
  · cases hv : (Value.slice p c.length cp).ownBlock with
    | none => exact .inl rfl
    | some k =>
      refine .inr (fun e => ?_)
      have h1 := (h.row.lt k hv).1
      have h2 := hr k e.symm
      omega
  · exact h.below.trans ⟨hg.os, hg.tape, hg.output, hg.size, fun k hk => hg.block k (by have := h.below.size; omega) (fun e => by have := hr k e.symm; omega)⟩

/- v is a slice of pieces from block 'base' on, and may be written. -/
def HeldsOwn (base : Nat) (w : World) (v : Value) (l : List Hd) : Prop := HeldsAt w v l ∧ (l ≠ [] → ∃ g c, v = .slice (some ⟨g, 0, none⟩) l.length c ∧ base ≤ g ∧ w.frozen? ⟨g, 2, none⟩ = false)
theorem grown_grow (w : World) (os : Array Obj) : w.grownBy (grow w os) none := ⟨rfl, rfl, rfl, by simp [grow], fun k hk _ => by simp [grow, Array.getElem?_append_left hk]⟩
set_option maxRecDepth 100000 in
set_option maxHeartbeats 8000000 in
theorem pAll_own {U : Int} (p : Addr) (F : Nat → Prop) (l : List Hd) (w : World) (hok : BinOk U l) (hP : PBin0 w p F l) :
    Calls Tryz.prog 33 #[.pointer (some p)] w fun e w' => ∃ v, e = .returned v ∧ HeldsOwn w.heap.size w' v l ∧ Below w.heap.size w w' := by
  obtain ⟨B, b, rfl, hB, hM, hne, rfl⟩ := hP
  have hap := hM.apart
  have hBl := hB.lt
  have hbl := hM.lt
  have hmany := hok.many
  have HR : Hid (Rise l) := hok.rise
  have hal := (Below.refl w.heap.size w).alloc (Nat.le_refl _) (.cells #[.slice none 0 0] 56)
  have hS := Blk.new w #[.slice none 0 0] 56
  have hB1 := hB.next hal
  have hM1 := of_below hM hal
  have q0 := hB1.cell (i := 0) rfl
  have hs1 : (w.alloc (.cells #[.slice none 0 0] 56)).heap.size = w.heap.size + 1 := by simp
  obtain ⟨ti, hi, hz0, hz1, hz2⟩ := info_parts infoHeld
  go_enter Tryz.func33, Tryz.ntmps33
  go_wp2_with (first
    | (at_range; refine wp_range_kit idPieces _ rfl _ 149 rfl 153 Tryz.underlying149 b l rfl hM1 ?_; intro w0 hr0 hg0 hs0)
    | go_in)
  go_frame
  rw [hs1] at hr0 hs0 ⊢
  have A0 : AllSt w w0 none 0 [] := ⟨cell_kept (hS.cell (i := 0) rfl) hg0 hS.lt (by simp), (World.frozen?_of_block (hg0.block _ hS.lt (by simp))).trans (hS.frozen 0), World.ownsRow_nil _ _ _ _, hal.trans ((below_of_grown hg0).mono hal.size), by omega⟩
  have HB0 : Hid (w0.cell? ⟨B, 0, none⟩ = some (.map (some b))) := cell_kept q0 hg0 hB1.lt (by simp)
  clear hB hM hB1 hM1 hok hS q0
  go_loopw [11] (fun _ wr => ∃ (left : Nat × Int → Bool) (cnt cp : Nat) (c : List Hd) (p : Option Addr), idPieces.Rng wr b (w.heap.size + 1) l left cnt ∧ c.Perm (l.filter (fun h => !left h.1)) ∧ AllSt w wr p cp c) (fun _ wr => wr.rangeLeft b (w.heap.size + 1))
  case atStart =>
    refine ⟨_, _, 0, [], none, hr0, ?_, A0⟩
    rw [List.filter_eq_nil_iff.2 (fun h hm => by simp only [Bool.not_eq_true', Bool.not_eq_false, decide_eq_true_eq]; simp; exact ⟨_, _, hm⟩)]
  case round =>
    clear hr0 A0 hg0
    obtain ⟨left, cnt, cp, c, p, hrg, hcp, hA⟩ := hrel
    go_wp2_with (first
      | (at_next; refine wp_next_kit idPieces _ rfl _ rfl b (w.heap.size + 1) l left cnt rfl hrg ?_ ?_)
      | go_in)
    · intro h0
      rw [List.filter_eq_self.2 (fun h hm => by have := h0 h.1.1 h.1.2 h.2.1 h.2.2 hm; simp [this])] at hcp
      have c0 := hA.cell
      have hsz := hA.size
      obtain ⟨i, hi', hd⟩ := Option.map_eq_some_iff.1 heldsInfo
      obtain ⟨ie, hie, hmm⟩ := Option.map_eq_some_iff.1 heldInfo4
      have hlc : c.length ≤ 250 := by rw [hcp.length_eq]; exact hmany
      by_cases h2 : 2 ≤ c.length
      · obtain ⟨g, cp', hv, h3, h4⟩ := row_some hA.row (by omega)
        obtain ⟨rfl, rfl⟩ : p = some ⟨g, 0, none⟩ ∧ cp = cp' := by simpa using hv
        obtain ⟨hgl, hgs⟩ := hA.row.lt g rfl
        clear hi' hd hie hmm
        have hsrt := sortHelds w.heap.size g cp c wr c0 (by omega) h3 hgs (holdsK_of_row hA.row) h2 (by omega) ((hcp.pairwise_iff (fun {_ _} hne => Ne.symm hne)).2 hap)
        go_wp2_with (go_at_call 85; refine hsrt.mono ?_; rintro e w5 ⟨rfl, c', hp', hr', hat', hg', hfz'⟩; have c5 := cell_kept c0 hg' (by simp only; omega) (fun e => by have := Option.some.inj e; simp only at this; omega))
        go_ret
        have ec : c' = l := rise_ext hr' HR.out (fun x => by rw [hp'.mem_iff, hcp.mem_iff])
        refine ⟨_, rfl, ⟨by rw [← ec]; exact hat', fun _ => ⟨g, cp, by rw [← ec, hp'.length_eq]; rfl, by omega, hfz'⟩⟩, hA.below.trans ⟨hg'.os, hg'.tape, hg'.output, hg'.size, fun k hk => hg'.block k (by omega) (fun e => by have := Option.some.inj e; omega)⟩⟩
      · have ec : Hid (c = l) := by
          show _ = _
          match c, l, hcp, h2 with
          | [], l, h, _ => exact (List.nil_perm.1 h).symm ▸ rfl
          | [x], l, h, _ => exact (List.perm_singleton.1 h.symm).symm
          | x :: y :: r, l, h, h2 => simp at h2
        have htiny : Calls Tryz.prog 85 #[.iface 56 (.slice p c.length cp), .func (.func 88) #[] #[.pointer (some ⟨w.heap.size, 0, none⟩)]] wr fun e w' => e = .returned (.tuple #[]) ∧ ∃ os, w' = grow wr os := by
          have h01 : c.length = 0 ∨ c.length = 1 := by omega
          rcases h01 with h01 | h01
          · exact Any.sort_Slice_tiny Tryz.laysGg6 56 78 i ie hi' hd heldsPacked hie 25 heldKind p c.length cp (by omega) 183 (by rw [h01]; exact swap1) _ _ _ wr
          · exact Any.sort_Slice_tiny Tryz.laysGg6 56 78 i ie hi' hd heldsPacked hie 25 heldKind p c.length cp (by omega) 184 (by rw [h01]; exact swap2) _ _ _ wr
        clear hi' hd hie hmm
        go_wp2_with (go_at_call 85; refine htiny.mono ?_; rintro e w5 ⟨rfl, os, rfl⟩; have hgr : wr.grownBy (grow wr os) none := grown_grow wr os; have c5 := cell_kept c0 hgr (by simp only; omega) (by simp))
        go_ret
        exact ⟨_, rfl, ⟨by rw [← ec.out]; exact (HeldsAt.of_row hA.row).below (below_of_grown hgr), fun hne => by
          rw [← ec.out] at hne ⊢
          have hpos : 0 < c.length := List.length_pos_iff.2 hne
          obtain ⟨g, cp', hv, h3, h4⟩ := row_some hA.row (by omega)
          obtain ⟨rfl, rfl⟩ : p = some ⟨g, 0, none⟩ ∧ cp = cp' := by simpa using hv
          obtain ⟨hgl, hgs⟩ := hA.row.lt g rfl
          have hz := (holdsK_of_row hA.row 2 (by simp; omega)).2
          rw [Nat.zero_add] at hz
          exact ⟨g, cp, rfl, by omega, (frozen?_grow _ _ _ hgs).trans hz⟩⟩, hA.below.trans ((below_of_grown hgr).mono hA.below.size)⟩
    · intro xp xl u t w1 cnt1 hm hlx hrg1 hlt hg1 hs1' hen
      change (Instr.entry (.pointer (some ⟨w.heap.size + 1, 0, none⟩))).run Tryz.prog w1 = .ok (.tuple #[idV (xp : Nat) xl, pieceV (u, t)]) w1 at hen
      have hfl := filter_flip hap (p := left) hm hlx
      have HCP : Hid ((c ++ [((xp, xl), u, t)]).Perm (l.filter (fun y => !(left y.1 && !decide (y.1 = (xp, xl)))))) := List.perm_append_comm.trans ((hcp.cons _).trans hfl.symm)
      have hlen : c.length ≤ 250 := by rw [hcp.length_eq]; exact Nat.le_trans (List.length_filter_le _ _) hmany
      have hA1 := hA.grow hg1 (fun k hk => by cases hk; rfl)
      have hg2 := (World.grownBy_alloc w1 (.cells #[.int .u32 (xp : Nat), .int .i64 xl] 25) none).andThen (World.grownBy_alloc _ (.cells #[.string ⟨t.toArray⟩, .int .i64 u] 153) none) (fun _ hj => by cases hj)
      have hI := (Blk.new w1 #[.int .u32 (xp : Nat), .int .i64 xl] 25).next (below_of_grown (World.grownBy_alloc _ (.cells #[.string ⟨t.toArray⟩, .int .i64 u] 153) none))
      have hPc := Blk.new (w1.alloc (.cells #[.int .u32 (xp : Nat), .int .i64 xl] 25)) #[.string ⟨t.toArray⟩, .int .i64 u] 153
      have hA2 := hA1.grow hg2 (fun k hk => by cases hk)
      have hrg2 := hrg1.kept hg2 (by simp) (by simp)
      rw [hs1'] at hI
      have hs2 : (w1.alloc (.cells #[.int .u32 (xp : Nat), .int .i64 xl] 25)).heap.size = wr.heap.size + 1 := by simp [hs1']
      rw [hs2] at hPc
      have i0 := hI.cell (i := 0) rfl
      have i1 := hI.cell (i := 1) rfl
      have p0 := hPc.cell (i := 0) rfl
      have p1 := hPc.cell (i := 1) rfl
      have b0 := hA2.cell
      have HS3 : Hid (wr.heap.size + 1 + 1 = ((w1.alloc (.cells #[.int .u32 (xp : Nat), .int .i64 xl] 25)).alloc (.cells #[.string ⟨t.toArray⟩, .int .i64 u] 153)).heap.size) := by show _ = _; simp [hs1']
      have HA2 : Hid (AllSt w ((w1.alloc (.cells #[.int .u32 (xp : Nat), .int .i64 xl] 25)).alloc (.cells #[.string ⟨t.toArray⟩, .int .i64 u] 153)) p cp c) := hA2
      clear hA2 hA1 hA hrg1 hfl hI hPc
      go_wp2_with (at_builtin; (refine wpList_append_own _ rfl (.tmp 16) (.tmp 23) 56 rfl (w.heap.size + 2) 78 ti (heldV ((0, 0), 0, [])) 4 40 Tryz.underlying56 hi hz0 hz1 hz2 rfl (by decide) (.slice p c.length cp) c.length (heldCells c) rfl (HA2.out.row.alloc _) ⟨wr.heap.size + 1 + 1, 0, none⟩ 1 1 (heldCells [((xp, xl), u, t)]) rfl rfl (four_new _ ((xp, xl), u, t) _ _ HS3.out) (heldCells_one _) (by unfold maxLen; omega) (by omega) (by have := HA2.out.size; simp at this ⊢; omega) ?_; have hown := HA2.out.row.lt; have hsz2 := HA2.out.size; intro v4 w4 ho4 hg4 _; have hgA : ((w1.alloc (.cells #[.int .u32 (xp : Nat), .int .i64 xl] 25)).alloc (.cells #[.string ⟨t.toArray⟩, .int .i64 u] 153)).grownBy w4 (Value.slice p c.length cp).ownBlock := ((World.grownBy_alloc _ _ none).but _).andThen hg4 (fun _ hj => .inr hj); obtain ⟨p4, cp4, hv4, _⟩ := HeldsAt.of_row (l := c ++ [((xp, xl), u, t)]) (by rw [List.length_append, heldCells_append]; exact ho4); subst hv4; have hnS : some w.heap.size ≠ (Value.slice p c.length cp).ownBlock := (fun e => by have := (hown _ e.symm).1; omega); have c4 := cell_kept HA2.out.cell hgA (Nat.lt_of_lt_of_le (Nat.lt_add_of_pos_right (by decide)) hsz2) hnS; have f4 : w4.frozen? ⟨w.heap.size, 0, none⟩ = false := (World.frozen?_of_block (hgA.block _ (Nat.lt_of_lt_of_le (Nat.lt_add_of_pos_right (by decide)) hsz2) hnS)).trans HA2.out.free))
      have hL1 : (c ++ [((xp, xl), u, t)]).length = c.length + 1 := by simp
      rw [hL1] at ho4
      have hnR : some (w.heap.size + 1) ≠ (Value.slice p c.length cp).ownBlock := (fun e => by have := (hown _ e.symm).1; omega)
      have hnb : some b ≠ (Value.slice p c.length cp).ownBlock := (fun e => by have := (hown _ e.symm).1; omega)
      have hrg4 := hrg2.kept hgA hnb hnR
      have hgS := grown_set (grown_refl w4 (some w.heap.size)) 0 (.slice p4 (c.length + 1) cp4)
      have hrg5 := hrg4.kept hgS (fun e => by have := Option.some.inj e; omega) (fun e => by have := Option.some.inj e; omega)
      have hl4 : w.heap.size < w4.heap.size := Nat.lt_of_lt_of_le (Nat.lt_of_lt_of_le (Nat.lt_add_of_pos_right (by decide)) hsz2) hgA.size
      have HA5 : Hid (AllSt w (w4.setCell ⟨w.heap.size, 0, none⟩ (.slice p4 (c.length + 1) cp4)) p4 cp4 (c ++ [((xp, xl), u, t)])) := by
        have hb4 : Below w.heap.size w w4 := HA2.out.below.trans ⟨hgA.os, hgA.tape, hgA.output, hgA.size, fun k hk => hgA.block k (Nat.lt_of_lt_of_le hk (Nat.le_trans (Nat.le_add_right _ 2) hsz2)) (fun e => by have := (hown _ e.symm).1; omega)⟩
        refine ⟨by rw [hL1]; exact World.cell?_setCell_same _ _ _ c4, by simpa using f4, World.ownsRow.kept (w := w4) ?_ hgS ?_, hb4.setCell (p := ⟨w.heap.size, 0, none⟩) (Nat.le_refl _) _, by simpa [World.setCell] using Nat.le_trans hsz2 hgA.size⟩
        · rw [hL1, heldCells_append]
          exact ho4
        · rw [hL1]
          cases hv : (Value.slice p4 (c.length + 1) cp4).ownBlock with
          | none => exact .inl rfl
          | some k => exact .inr (fun e => by have := (ho4.lt k hv).1; have := Option.some.inj e; omega)
      go_roundw
      case rel => exact ⟨fun y => left y && !decide (y = (xp, xl)), cnt1, cp4, c ++ [((xp, xl), u, t)], p4, hrg5, HCP.out, HA5.out⟩
      case measure => rw [hrg5.left_eq, hrg.left_eq]; exact hlt
end Go.Proofs.YtcbcjefefmbccabGreatDoor
namespace Go.Proofs.YtcbcjefefmbccabGreatDoor
open Go.RowKit Go.Maps

theorem pPut_any {a : Nat → Addr} (s : ByteArray) (p : Addr) (F : Nat → Prop) (l : List Hd) (w : World) (hs : s.size ≤ 50000) (hok : BinOk 1000000 l) (hE : ErrE [1, 6, 9] w a) (hP : PBin0 w p F l) :
    Calls Tryz.prog 133 #[.pointer (some p), .string s] w (PPost a w p F (hPut l s.data.toList)) := by
  by_cases hn : 1 ≤ s.size ∧ s.size ≤ 64
  · cases hf : hFind l (idOfL s.data.toList) with
    | none =>
      by_cases hfull : 250 ≤ l.length
      · exact pPut_full s p F l w hs hE hP hn.1 hn.2 hf hfull
      · exact pPut_new s p F l w hs hE hP hn.1 hn.2 hf (by omega)
    | some k =>
      obtain ⟨hk, _⟩ := hFind_some hf
      obtain ⟨hu0, hu1⟩ := hok.uses (Int.le_refl _) _ (List.getElem_mem hk)
      by_cases ht : l[k].2.2 = s.data.toList
      · exact pPut_same s p F l w hs hE hP hn.1 hn.2 hok.many k l[k].2.1 l[k].2.2 hf hk rfl ht hu0 hu1
      · exact pPut_clash s p F l w hs hE hP hn.1 hn.2 k l[k].2.1 l[k].2.2 hf hk rfl ht
  · exact pPut_bound s p F l w hs hE hP hn
end Go.Proofs.YtcbcjefefmbccabGreatDoor
namespace Go.Proofs.YtcbcjefefmbccabGreatDoor
open Go.RowKit Go.Maps

theorem CellsAt.off {F : Nat → Prop} {w w' : World} {v : Value} {xs : List Value} (h : CellsAt w v xs) (ho : Off F w w') (hn : ∀ k, v.ownBlock = some k → ¬ F k) : CellsAt w' v xs := by
  obtain ⟨p, c, rfl, h⟩ := h
  refine ⟨p, c, rfl, fun i hi => ?_⟩
  obtain ⟨b, o, rfl, ⟨hb, hc⟩, h0⟩ := h i hi
  exact ⟨b, o, rfl, ⟨Nat.lt_of_lt_of_le hb ho.size, hc⟩, (World.cell?_of_block (w := w) (ho.block b hb (hn b rfl))).trans h0⟩
theorem ErrE.off {F : Nat → Prop} {L : List Nat} {w w' : World} {a : Nat → Addr} (h : ErrE L w a) (ho : Off F w w') (hG : ∀ i, L.contains i = true → ¬ F (errG i)) : ErrE L w' a where
  glob i hi := (World.cell?_of_block (w := w) (ho.block _ (lt_of_cell (h.glob i hi)) (hG i hi))).trans (h.glob i hi)
/- What the program makes of pieces that it puts: how many new bytes, the error, the bin. -/
def putAll (l : List Hd) (fr : Int) : List (List UInt8) → Int × Int × List Hd
  | [] => (fr, 0, l)
  | s :: r => if (hPut l s).1.2.2 = 0 then putAll (hPut l s).2 (if (hPut l s).1.2.1 = true then fr + s.length else fr) r else (0, (hPut l s).1.2.2, (hPut l s).2)
def PutsPost (a : Nat → Addr) (w : World) (p : Addr) (F : Nat → Prop) (r : Int × Int × List Hd) (e : Ending) (w' : World) : Prop :=
  ∃ ev F', e = .returned (.tuple #[.int .i64 r.1, ev]) ∧ ErrIn w.heap.size w' a ev (r.2.1, -1) ∧ PBin0 w' p F' r.2.2 ∧ (∀ k, F' k → F k ∨ w.heap.size ≤ k) ∧ Off F w w'
set_option maxRecDepth 100000 in
set_option maxHeartbeats 4000000 in
theorem putPieces_any (a : Nat → Addr) (vl : Value) (ls : List (List UInt8)) (p : Addr) (F : Nat → Prop) (U : Int) (l : List Hd) (w : World) (hU0 : 0 ≤ U) (hU : U + ls.length ≤ 1000000) (hok : BinOk U l) (hlen : ls.length ≤ 5000) (hsz : ∀ t ∈ ls, t.length ≤ 100) (hE : ErrE [1, 6, 9] w a) (hG : ∀ i, ([1, 6, 9] : List Nat).contains i = true → ¬ F (errG i))
    (hv : CellsAt w vl (ls.map txtV)) (hrow : ∀ k, vl.ownBlock = some k → ¬ F k) (hP : PBin0 w p F l) :
    Calls Tryz.prog 75 #[.pointer (some p), vl] w (PutsPost a w p F (putAll l 0 ls)) := by
  have HV : Hid (CellsAt w vl (ls.map txtV)) := hv
  have HROW : Hid (∀ k, vl.ownBlock = some k → ¬ F k) := hrow
  have HSZ : Hid (∀ t ∈ ls, t.length ≤ 100) := hsz
  have HEE : Hid (∀ W, Off F w W → ErrE [1, 6, 9] W a) := fun W ho => hE.off ho hG
  have HP : Hid (PBin0 w p F l) := hP
  have HOK : Hid (BinOk U l) := hok
  obtain ⟨RES, hRES⟩ : ∃ RES, putAll l 0 ls = RES := ⟨_, rfl⟩
  have HRES : Hid (putAll l 0 ls = RES) := hRES
  rw [hRES]
  obtain ⟨pa, ca, hvl, _⟩ := hv
  rw [List.length_map] at hvl
  subst hvl
  have hlen' : (ls.length : Int) ≤ 5000 := by omega
  clear hsz hE hG hP hok hRES hrow
  go_enter Tryz.func75, Tryz.ntmps75
  go_wp2_with fail
  go_loopw [6, 14] (fun fv iv wr => ∃ (k : Nat) (fr : Int) (bl : List Hd) (F' : Nat → Prop), k ≤ ls.length ∧ iv = .int .i64 k ∧ fv = .int .i64 fr ∧ (0 ≤ fr ∧ fr ≤ 100 * k) ∧ Hid (putAll bl fr (ls.drop k) = RES) ∧ Hid (BinOk (U + k) bl) ∧ Hid (PBin0 wr p F' bl) ∧ Hid (∀ j, F' j → F j ∨ w.heap.size ≤ j) ∧ Hid (Off F w wr)) (fun _ iv _ => ls.length - (intOf iv).toNat)
  case atStart => exact ⟨0, 0, l, F, Nat.zero_le _, rfl, rfl, ⟨Int.le_refl _, by decide⟩, by rw [List.drop_zero]; exact HRES.out, by show BinOk _ _; rw [show U + ((0 : Nat) : Int) = U by omega]; exact HOK.out, HP.out, fun j hj => .inl hj, Off.of_below (Below.refl _ _)⟩
  case round =>
    clear HRES HP HOK
    obtain ⟨k, fr, bl, F', hk, rfl, rfl, ⟨hf0, hf1⟩, HR, HOK, HP, HF, HO⟩ := hrel
    by_cases hlt : k < ls.length
    · have hlt' : (k : Int) < (ls.length : Int) := by omega
      have hk0 : (0 : Int) ≤ (k : Int) := by omega
      obtain ⟨_, _, hve, hcell⟩ := HV.out.off HO.out HROW.out
      obtain ⟨rfl, rfl⟩ : pa = _ ∧ ca = _ := by simpa using hve
      obtain ⟨b, o, rfl, _, c0⟩ := hcell k (by simpa using hlt)
      rw [List.getElem_map] at c0
      have HT := hideN (HSZ.out ls[k] (List.getElem_mem hlt))
      have hdr : ls.drop k = ls[k] :: ls.drop (k + 1) := List.drop_eq_getElem_cons hlt
      rw [hdr] at HR
      obtain ⟨t, ht⟩ : ∃ t, ls[k] = t := ⟨_, rfl⟩
      rw [ht] at c0 HT HR
      have htl : (⟨t.toArray⟩ : ByteArray).size = t.length := by simp [ByteArray.size]
      have HPUT := hideN (pPut_any (a := a) ⟨t.toArray⟩ p F' bl wr (by rw [htl]; have := HT.out; omega) (HOK.out.mono (by omega)) (HEE.out _ HO.out) HP.out)
      have HOK2 : Hid (BinOk (U + ((k + 1 : Nat) : Int)) (hPut bl t).2) := by
        show BinOk _ _
        rw [show U + ((k + 1 : Nat) : Int) = U + k + 1 by omega]
        exact hPut_ok HOK.out t (by omega)
      have e8 : (⟨t.toArray⟩ : ByteArray).data.toList = t := by simp
      rw [e8] at HPUT
      unfold PPost at HPUT
      have htx := HT.out
      clear hdr ht hcell hve e8 HOK HP
      obtain ⟨⟨⟨ri, ra, re⟩, rl⟩, hq⟩ : ∃ q, hPut bl t = q := ⟨_, rfl⟩
      rw [putAll, hq] at HR
      rw [hq] at HPUT HOK2
      simp only at HPUT HOK2 HR
      clear hq
      obtain ⟨T, hT⟩ : ∃ T : ByteArray, (⟨t.toArray⟩ : ByteArray) = T := ⟨_, rfl⟩
      change wr.cell? ⟨b, o + k, none⟩ = some (.string ⟨t.toArray⟩) at c0
      rw [hT] at htl c0 HPUT
      clear hT
      have htl' : (T.size : Int) = (t.length : Int) := by omega
      have hw1 : IntKind.i64.wrap (fr + (t.length : Int)) = fr + (t.length : Int) := by rw [IntKind.wrap_i64]; omega
      go_wp2_with fail
      refine HPUT.out.mono ?_
      rintro e w2 ⟨ev, F2, rfl, he2, hp2, hf2, ho2⟩
      have HO2 : Hid (Off F w w2) := HO.out.trans ho2 (fun j hj hF => (HF.out j hF).resolve_right (by omega))
      have HF2 : Hid (∀ j, F2 j → F j ∨ w.heap.size ≤ j) := fun j hj => by
        rcases hf2 j hj with h | h
        · exact HF.out j h
        · exact .inr (Nat.le_trans HO.out.size h)
      have hal := (Below.refl w2.heap.size w2).alloc (Nat.le_refl _) (.cells #[.int .u32 (ri.1 : Nat), .int .i64 ri.2] 25)
      have HP2 := hideN (hp2.off (Off.of_below (F := fun _ => False) hal) (fun _ _ h => h))
      have HE2 := hideN (he2.below hal)
      have HO3 : Hid (Off F w _) := hideN (HO2.out.trans (Off.of_below (F := fun _ => False) hal) (fun _ _ h => h.elim))
      have hsw := HO.out.size
      clear HPUT hp2 hf2 ho2 he2 hal
      by_cases hre : re = 0
      · subst hre
        obtain rfl := HE2.out.nil
        rw [if_pos rfl] at HR
        cases ra with
        | true =>
          simp only [if_true] at HR
          go_wp2_with fail
          go_roundw
          case rel => exact ⟨k + 1, fr + (t.length : Int), rl, F2, hlt, by go_num, rfl, ⟨by omega, by omega⟩, HR.out, HOK2.out, HP2.out, HF2.out, HO3.out⟩
          case measure => simp [intOf]; omega
        | false =>
          simp only [Bool.false_eq_true, if_false] at HR
          go_wp2_with fail
          go_roundw
          case rel => exact ⟨k + 1, fr, rl, F2, hlt, by go_num, rfl, ⟨by omega, by omega⟩, HR.out, HOK2.out, HP2.out, HF2.out, HO3.out⟩
          case measure => simp [intOf]; omega
      · rw [if_neg hre] at HR
        obtain ⟨t1, u1, rfl⟩ : ∃ t u, ev = .iface t u := by
          rcases HE2.out with ⟨_, hf⟩ | ⟨_, _, hv, _⟩ | ⟨_, _, _, _, _, _, hv, _⟩
          · exact (hre (Prod.mk.inj hf).1).elim
          · exact ⟨_, _, hv⟩
          · exact ⟨_, _, hv⟩
        have HRE : Hid (ErrIn w.heap.size (w2.alloc (.cells #[.int .u32 (ri.1 : Nat), .int .i64 ri.2] 25)) a (.iface t1 u1) (re, -1)) := by
          rcases HE2.out with h | h | ⟨k1, pb, po, at0, h1, h2, h3, h4⟩
          · exact .inl h
          · exact .inr (.inl h)
          · exact .inr (.inr ⟨k1, pb, po, at0, h1, by omega, h3, h4⟩)
        clear HE2
        go_wp2_with fail
        go_ret2
        refine ⟨.iface t1 u1, F2, ?_, ?_, ?_, HF2.out, HO3.out⟩
        · rw [← HR.out]; rfl
        · rw [← HR.out]; exact HRE.out
        · rw [← HR.out]; exact HP2.out
    · have hge : (ls.length : Int) ≤ (k : Int) := by omega
      rw [List.drop_eq_nil_of_le (by omega), putAll] at HR
      go_wp2_with fail
      go_ret2
      refine ⟨.nilIface, F', ?_, ?_, ?_, HF.out, HO.out⟩
      · rw [← HR.out]; rfl
      · rw [← HR.out]; exact .inl ⟨rfl, rfl⟩
      · rw [← HR.out]; exact HP.out
end Go.Proofs.YtcbcjefefmbccabGreatDoor
namespace Go.Proofs.YtcbcjefefmbccabGreatDoor
open Go.RowKit Go.Maps

theorem bump_some {κ : Type} [DecidableEq κ] (f : κ → Option Int) (x y : κ) : (bump f x y).isSome = (f y).isSome := by
  unfold bump
  split
  · rename_i e
    subst e
    cases f y <;> rfl
  · rfl
theorem bump_le {κ : Type} [DecidableEq κ] {f : κ → Option Int} {x : κ} {B : Int} (h : ∀ y c, f y = some c → 0 ≤ c ∧ c ≤ B) : ∀ y c, bump f x y = some c → 0 ≤ c ∧ c ≤ B + 1 := fun y c hy => by
  unfold bump at hy
  split at hy
  · cases hf : f x with
    | none => rw [hf] at hy; cases hy
    | some d =>
      rw [hf] at hy
      have := h x d hf
      simp only [Option.map_some, Option.some.injEq] at hy
      omega
  · have := h y c hy
    omega
theorem bump_eq {κ : Type} [DecidableEq κ] {f : κ → Option Int} {x : κ} {c : Int} (h : f x = some c) : (fun y => if y = x then some (c + 1) else f y) = bump f x := by
  funext y
  unfold bump
  rw [h]
  rfl
theorem addErr_noF {F : Nat × Int → Option Int} {U : Use → Option Int} {r : Rcp} (h : F (rcpRep r) = none) : addErr F U r = 5 := by
  unfold addErr
  rw [if_neg]
  rintro ⟨h1, _⟩
  rw [h] at h1
  cases h1
theorem bumpAll_snoc (r : Nat × Int) (x : Nat × Int) : ∀ (l : List (Nat × Int)) (f : Use → Option Int), bumpAll f r (l ++ [x]) = bump (bumpAll f r l) (r, x)
  | [], _ => rfl
  | y :: l, f => by
    rw [List.cons_append, bumpAll, bumpAll]
    exact bumpAll_snoc r x l (bump f (r, y))
theorem bumpAll_some (r : Nat × Int) : ∀ (l : List (Nat × Int)) (f : Use → Option Int) (y : Use), (bumpAll f r l y).isSome = (f y).isSome
  | [], _, _ => rfl
  | x :: l, f, y => by rw [bumpAll, bumpAll_some r l, bump_some]
theorem bumpAll_le (r : Nat × Int) : ∀ (l : List (Nat × Int)) {f : Use → Option Int} {B : Int}, (∀ y c, f y = some c → 0 ≤ c ∧ c ≤ B) → ∀ y c, bumpAll f r l y = some c → 0 ≤ c ∧ c ≤ B + l.length
  | [], f, B, h, y, c, hy => by
    have := h y c hy
    simp only [List.length_nil]
    omega
  | x :: l, f, B, h, y, c, hy => by
    have := bumpAll_le r l (bump_le (x := (r, x)) h) y c hy
    simp only [List.length_cons]
    omega
theorem addErr_noU {F : Nat × Int → Option Int} {U : Use → Option Int} {r : Rcp} {i : Nat × Int} (hm : i ∈ r.2.2.2) (h : U (rcpRep r, i) = none) : addErr F U r = 5 := by
  unfold addErr
  rw [if_neg]
  rintro ⟨_, h2⟩
  have := List.all_eq_true.1 h2 i hm
  rw [h] at this
  cases this
theorem addErr_ok {F : Nat × Int → Option Int} {U : Use → Option Int} {r : Rcp} (h1 : (F (rcpRep r)).isSome = true) (h2 : ∀ i ∈ r.2.2.2, (U (rcpRep r, i)).isSome = true) : addErr F U r = 0 := by
  unfold addErr
  rw [if_pos ⟨h1, List.all_eq_true.2 h2⟩]
def AddPost (a : Nat → Addr) (w : World) (mf mu nF nU : Nat) (F : Nat × Int → Option Int) (U : Use → Option Int) (r : Rcp) (e : Ending) (w' : World) : Prop :=
  ∃ ev, e = .returned ev ∧ SentOr a ev (addErr F U r) ∧ Off (fun k => k = mf ∨ k = mu) w w' ∧ (addErr F U r = 0 → idInts.Fn w' mf (nF + 1) (bump F (rcpRep r)) ∧ useInts.Fn w' mu (nU + r.2.2.2.length) (bumpAll U (rcpRep r) r.2.2.2))
set_option maxRecDepth 100000 in
set_option maxHeartbeats 8000000 in
theorem add_any (a : Nat → Addr) (nm : ByteArray) (len p : Int) (v : Value) (ids : List (Nat × Int)) (mf mu nF nU : Nat) (F : Nat × Int → Option Int) (U : Use → Option Int) (B : Int) (w : World) (hlen : ids.length ≤ 250) (hwf : ∀ i ∈ ids, WfID i) (hwr : WfID (repOf ids)) (hE : ErrE [4] w a) (hids : IdsAt w v ids) (hrow : ids ≠ [] → ∀ k, v.ownBlock = some k → k ≠ mf ∧ k ≠ mu) (hne : mf ≠ mu)
    (hG : errG 4 ≠ mf ∧ errG 4 ≠ mu) (hnF : nF ≤ 100000) (hnU : nU ≤ 200000) (hB : 0 ≤ B ∧ B ≤ 1000000) (hFB : ∀ y c, F y = some c → 0 ≤ c ∧ c ≤ B) (hUB : ∀ y c, U y = some c → 0 ≤ c ∧ c ≤ B) (hF : idInts.Fn w mf nF F) (hU : useInts.Fn w mu nU U) :
    Calls Tryz.prog 124 #[.agg #[.map (some mf), .map (some mu)], rcpV nm len p v] w (AddPost a w mf mu nF nU F U (nm.data.toList, len, p, ids)) := by
  have HI := hideN hids
  obtain ⟨pv, cv, hv, _⟩ := hids
  subst hv
  have HEO : Hid (∀ W, Off (fun k => k = mf ∨ k = mu) w W → ErrE [4] W a) := fun W ho => hE.off ho (fun i hi => by
    obtain rfl : i = 4 := by simpa using hi
    rintro (e | e)
    · exact hG.1 e
    · exact hG.2 e)
  have HF := hideN hF
  have HU := hideN hU
  have HWF := hideN hwf
  have HWR := hideN hwr
  have HFB := hideN hFB
  have HUB' := hideN hUB
  have hmfl := hF.lt
  have hmul := hU.lt
  have HROW := hideN hrow
  have HREP := hideN (fun W (hv : IdsAt W (.slice pv ids.length cv) ids) => rep_any nm len p (.slice pv ids.length cv) ids W hv (by unfold maxLen; omega))
  obtain ⟨⟨rp, rl⟩, hrep⟩ : ∃ r, repOf ids = r := ⟨_, rfl⟩
  have HRP := hideN hrep
  rw [hrep] at HREP HWR
  simp only at HREP
  obtain ⟨idl, hidl⟩ : ∃ idl, ids.length = idl := ⟨_, rfl⟩
  have HID := hideN hidl
  rw [hidl] at HI HREP HROW hlen
  have hidl' : (idl : Int) ≤ 250 := by omega
  have hal1 := (Below.refl w.heap.size w).alloc (Nat.le_refl _) (.cells #[.map (some mf), .map (some mu)] 119)
  have hbc := Blk.new w #[.map (some mf), .map (some mu)] 119
  have hal2 := (Below.refl (w.alloc (.cells #[.map (some mf), .map (some mu)] 119)).heap.size (w.alloc (.cells #[.map (some mf), .map (some mu)] 119))).alloc (Nat.le_refl _) (.cells #[.string nm, .int .i64 len, .int .u32 p, .slice pv idl cv] 40)
  have hbr := Blk.new (w.alloc (.cells #[.map (some mf), .map (some mu)] 119)) #[.string nm, .int .i64 len, .int .u32 p, .slice pv idl cv] 40
  have hbc2 := hbc.next hal2
  have hB2 : Below w.heap.size w _ := hal1.trans (hal2.mono hal1.size)
  have hs1 : (w.alloc (.cells #[.map (some mf), .map (some mu)] 119)).heap.size = w.heap.size + 1 := by simp
  rw [hs1] at hbr
  have HBC := hideN hbc2
  have HBR := hideN hbr
  have HB2 := hideN hB2
  have r0 := hbr.cell (i := 0) rfl
  have r1 := hbr.cell (i := 1) rfl
  have r2 := hbr.cell (i := 2) rfl
  have r3 := hbr.cell (i := 3) rfl
  clear hF hU hwf hwr hFB hUB hrow hE hG hrep hidl hal1 hal2 hbc hbr hbc2 hB2 hs1
  rw [HID.out]
  go_enter Tryz.func124, Tryz.ntmps124
  go_wp2_with fail
  generalize (w.alloc (.cells #[.map (some mf), .map (some mu)] 119)).alloc (.cells #[.string nm, .int .i64 len, .int .u32 p, .slice pv idl cv] 40) = W2 at *
  refine (HREP.out W2 (HI.out.below HB2.out)).mono ?_
  rintro e w3 ⟨rfl, hb3⟩
  have hal3 := (Below.refl w3.heap.size w3).alloc (Nat.le_refl _) (.cells #[.int .u32 (rp : Nat), .int .i64 rl] 25)
  have HBI := hideN (Blk.new w3 #[.int .u32 (rp : Nat), .int .i64 rl] 25)
  have HB4 : Hid (Below w.heap.size w _) := hideN ((HB2.out.trans (hb3.mono HB2.out.size)).trans (hal3.mono (Nat.le_trans HB2.out.size hb3.size)))
  have HBC4 := hideN ((HBC.out.next hb3).next hal3)
  have HBR4 := hideN ((HBR.out.next hb3).next hal3)
  have HSZ3 : Hid (w.heap.size + 1 < w3.heap.size) := Nat.lt_of_lt_of_le HBR.out.lt hb3.size
  have i0 := HBI.out.cell (i := 0) rfl
  have i1 := HBI.out.cell (i := 1) rfl
  have c0 := HBC4.out.cell (i := 0) rfl
  have c1 := HBC4.out.cell (i := 1) rfl
  have l0 := (HF.out.below HB4.out).look2 Tryz.underlying116 (intZero _) HWR.out
  change (Instr.lookup 116 (.map (some mf)) (idV (rp : Nat) rl) true).run Tryz.prog _ = .ok (.tuple #[.int .i64 ((F (rp, rl)).getD 0), .bool (F (rp, rl)).isSome]) _ at l0
  have g4 := (HEO.out _ (Off.of_below HB4.out)).glob 4 rfl
  change World.cell? _ ⟨0, 0, none⟩ = _ at g4
  have HRQ : Hid (rcpRep (nm.data.toList, len, p, ids) = (rp, rl)) := HRP.out
  clear r0 r1 r2 r3 hal3 hb3 HBC HBR HREP
  cases hf : F (rp, rl) with
  | none =>
    rw [hf] at l0
    have HR : Hid (addErr F U (nm.data.toList, len, p, ids) = 5) := addErr_noF (by rw [HRQ.out]; exact hf)
    clear hf
    go_wp2_with fail
    go_ret
    refine ⟨_, rfl, ?_, Off.of_below HB4.out, fun h => ?_⟩
    · rw [HR.out]
      exact .inr ⟨4, by decide, rfl, rfl⟩
    · rw [HR.out] at h
      cases h
  | some n0 =>
    rw [hf] at l0
    simp only [Option.getD_some, Option.isSome_some] at l0
    obtain ⟨b1, b2⟩ := HFB.out _ _ hf
    have hw1 : IntKind.i64.wrap (n0 + 1) = n0 + 1 := by rw [IntKind.wrap_i64]; omega
    go_wp2_with fail
    generalize w3.alloc (.cells #[.int .u32 (rp : Nat), .int .i64 rl] 25) = W4 at *
    generalize w3.heap.size = IB at *
    have hFd := (HF.out.below HB4.out).drew
    have l1 := hFd.look1 Tryz.underlying116 (intZero _) HWR.out
    rw [hf] at l1
    change (Instr.lookup 116 (.map (some mf)) (idV (rp : Nat) rl) false).run Tryz.prog _ = .ok (.int .i64 n0) _ at l1
    obtain ⟨v0, st, w5, hen, hst, hF5, hg5⟩ := hFd.more Tryz.underlying116 HWR.out hf (n0 + 1) (by unfold maxLen; omega)
    rw [bump_eq hf] at hF5
    change (Instr.mapEntry 116 (.map (some mf)) (idV (rp : Nat) rl)).run Tryz.prog _ = .ok (.tuple #[v0, .int .i64 (st : Nat)]) _ at hen
    change (Instr.entryStore 116 (.map (some mf)) (.int .i64 (st : Nat)) (.int .i64 (n0 + 1))).run Tryz.prog _ = .ok () _ at hst
    have ho5 : Off (fun k => k = mf) W4 w5 := off_of_grown (grown_drew hg5) rfl
    have HF5 := hideN hF5
    have HU5 := hideN ((HU.out.below HB4.out).off ho5 (fun e => hne e.symm))
    have HBC5 := hideN (ho5.blk HBC4.out (fun e => by omega))
    have hib := HSZ3.out
    have HBR5 := hideN (ho5.blk HBR4.out (fun e => by omega))
    have HBI5 := hideN (ho5.blk HBI.out (fun e => by omega))
    have HI5 := hideN ((HI.out.below HB4.out).off ho5 (fun hn k hk e => (HROW.out hn k hk).1 e))
    have HO5 : Hid (Off (fun k => k = mf ∨ k = mu) w w5) := (Off.of_below HB4.out).trans ho5 (fun k _ e => .inl e)
    clear hFd hF5 hg5 ho5 hib
    go_region
    all_goals
      have b3 := HBR5.out.cell (i := 3) rfl
      have HFS : Hid ((F (rp, rl)).isSome = true) := by show _ = _; rw [hf]; rfl
      clear l0 l1 hen hst i0 i1 c0 c1 g4 hw1 b1 b2 HBC4 HBR4 HBI HF HU HB2 HB4
      go_wp2_with fail
      clear b3
      go_loopw [35] (fun iv wr => ∃ (k : Nat), k ≤ idl ∧ iv = .int .i64 k ∧ Hid (∀ i ∈ ids.take k, (U ((rp, rl), i)).isSome = true) ∧ Hid (useInts.Fn wr mu (nU + k) (bumpAll U (rp, rl) (ids.take k))) ∧ Hid (Off (fun j => j = mu) w5 wr)) (fun iv _ => idl - (intOf iv).toNat)
      case atStart => exact ⟨0, Nat.zero_le _, rfl, fun i hi => by simp at hi, HU5.out, Off.refl _ _⟩
      case round =>
        clear HU5
        obtain ⟨k, hk, rfl, HIN, HUK, HO⟩ := hrel
        have HOW : Hid (Off (fun j => j = mf ∨ j = mu) w wr) := HO5.out.trans HO.out (fun j _ e => .inr e)
        have hib := HSZ3.out
        by_cases hlt : k < idl
        · have hlt' : (k : Int) < (idl : Int) := by omega
          have hk0 : (0 : Int) ≤ (k : Int) := by omega
          have hIr := HI5.out.off HO.out (fun hn j hj e => (HROW.out hn j hj).2 e)
          obtain ⟨pq, cq, hve, hcell⟩ := hIr
          have hkl : k < ids.length := by rw [HID.out]; exact hlt
          obtain ⟨b, o, hpq, _, d0, d1⟩ := hcell k hkl
          obtain ⟨rfl, rfl⟩ : pv = pq ∧ cv = cq := by have := hve; simp at this; exact ⟨this.1, this.2.2⟩
          subst hpq
          have HTK := hideN (List.take_succ_eq_append_getElem hkl)
          have HWX := hideN (HWF.out ids[k] (List.getElem_mem hkl))
          have HMX := hideN (List.getElem_mem hkl)
          obtain ⟨⟨xp, xl⟩, hx⟩ : ∃ x, ids[k] = x := ⟨_, rfl⟩
          rw [hx] at d0 d1 HTK HWX HMX
          simp only at d0 d1
          clear hcell hve hx hkl
          have hal1 := (Below.refl wr.heap.size wr).alloc (Nat.le_refl _) (.cells #[.int .u32 (xp : Nat), .int .i64 xl] 25)
          have HJ1 := hideN (Blk.new wr #[.int .u32 (xp : Nat), .int .i64 xl] 25)
          have HBI6 := hideN ((HO.out.blk HBI5.out (fun e => by omega)).next hal1)
          have HBC6 := hideN ((HO.out.blk HBC5.out (fun e => by omega)).next hal1)
          have HBR6 := hideN ((HO.out.blk HBR5.out (fun e => by omega)).next hal1)
          have HU6 := hideN (HUK.out.below hal1)
          have HO6 : Hid (Off (fun j => j = mu) w5 _) := hideN (HO.out.trans (Off.of_below (F := fun _ => False) hal1) (fun _ _ h => h.elim))
          have HSW : Hid (IB < wr.heap.size) := by have := (HO.out.blk HBI5.out (fun e => by omega)).lt; exact this
          have j0 := HJ1.out.cell (i := 0) rfl
          have j1 := HJ1.out.cell (i := 1) rfl
          have i0 := HBI6.out.cell (i := 0) rfl
          have i1 := HBI6.out.cell (i := 1) rfl
          obtain ⟨W1, hW1⟩ : ∃ W1, wr.alloc (.cells #[.int .u32 (xp : Nat), .int .i64 xl] 25) = W1 := ⟨_, rfl⟩
          have HW1 := hideN hW1
          rw [hW1] at HJ1 HBI6 HBC6 HBR6 HU6 HO6
          have hs1 : W1.heap.size = wr.heap.size + 1 := by rw [← hW1]; simp
          have hal2 := (Below.refl W1.heap.size W1).alloc (Nat.le_refl _) (.cells #[.int .u32 (rp : Nat), .int .i64 rl, .int .u32 (xp : Nat), .int .i64 xl] 195)
          have HUB := hideN (Blk.new W1 #[.int .u32 (rp : Nat), .int .i64 rl, .int .u32 (xp : Nat), .int .i64 xl] 195)
          rw [hs1] at HUB
          have HBC7 := hideN (HBC6.out.next hal2)
          have HBR7 := hideN (HBR6.out.next hal2)
          have HBI7 := hideN (HBI6.out.next hal2)
          have HU7 := hideN (HU6.out.below hal2)
          have HO7 : Hid (Off (fun j => j = mu) w5 _) := hideN (HO6.out.trans (Off.of_below (F := fun _ => False) hal2) (fun _ _ h => h.elim))
          have c1 := HBC7.out.cell (i := 1) rfl
          have u0 := HUB.out.cell (i := 0) rfl
          have u1 := HUB.out.cell (i := 1) rfl
          have u2 := HUB.out.cell (i := 2) rfl
          have u3 := HUB.out.cell (i := 3) rfl
          have l0 := HU7.out.look2 Tryz.underlying117 (intZero _) (x := ((rp, rl), (xp, xl))) ⟨HWR.out, HWX.out⟩
          change (Instr.lookup 117 (.map (some mu)) (.agg #[.int .u32 (rp : Nat), .int .i64 rl, .int .u32 (xp : Nat), .int .i64 xl]) true).run Tryz.prog _ = .ok (.tuple #[.int .i64 ((bumpAll U (rp, rl) (ids.take k) ((rp, rl), (xp, xl))).getD 0), .bool (bumpAll U (rp, rl) (ids.take k) ((rp, rl), (xp, xl))).isSome]) _ at l0
          have g4 := (HEO.out _ (HO5.out.trans HO7.out (fun j _ e => .inr e))).glob 4 rfl
          change World.cell? _ ⟨0, 0, none⟩ = _ at g4
          rw [← hW1] at c1 u0 u1 u2 u3 l0 g4
          rw [← hW1] at HUB HBC7 HBR7 HBI7 HU7 HO7
          clear hs1 hal1 hal2 hW1 HW1 HJ1 HBI6 HBC6 HBR6 HU6 HO6
          cases hu : bumpAll U (rp, rl) (ids.take k) ((rp, rl), (xp, xl)) with
          | none =>
            rw [hu] at l0
            simp only [Option.getD_none, Option.isSome_none] at l0
            have HR : Hid (addErr F U (nm.data.toList, len, p, ids) = 5) := addErr_noU (i := (xp, xl)) HMX.out (by
              rw [HRQ.out]
              have := bumpAll_some (rp, rl) (ids.take k) U ((rp, rl), (xp, xl))
              rw [hu] at this
              cases hq : U ((rp, rl), (xp, xl)) with
              | none => rfl
              | some z => rw [hq] at this; cases this)
            clear hu
            go_wp2_with fail
            go_ret
            refine ⟨_, rfl, ?_, HO5.out.trans HO7.out (fun j _ e => .inr e), fun h => ?_⟩
            · rw [HR.out]
              exact .inr ⟨4, by decide, rfl, rfl⟩
            · rw [HR.out] at h
              cases h
          | some n1 =>
            rw [hu] at l0
            simp only [Option.getD_some, Option.isSome_some] at l0
            obtain ⟨b1, b2⟩ := bumpAll_le (rp, rl) (ids.take k) HUB'.out _ _ hu
            have hw1 : IntKind.i64.wrap (n1 + 1) = n1 + 1 := by
              rw [List.length_take] at b2
              rw [IntKind.wrap_i64]
              omega
            have HHU := hideN hu
            go_wp2_with fail
            generalize ((wr.alloc (.cells #[.int .u32 (xp : Nat), .int .i64 xl] 25)).alloc (.cells #[.int .u32 (rp : Nat), .int .i64 rl, .int .u32 (xp : Nat), .int .i64 xl] 195)) = W2 at *
            have hUd := HU7.out.drew
            have l1 := hUd.look1 Tryz.underlying117 (intZero _) (x := ((rp, rl), (xp, xl))) ⟨HWR.out, HWX.out⟩
            rw [hu] at l1
            change (Instr.lookup 117 (.map (some mu)) (.agg #[.int .u32 (rp : Nat), .int .i64 rl, .int .u32 (xp : Nat), .int .i64 xl]) false).run Tryz.prog _ = .ok (.int .i64 n1) _ at l1
            obtain ⟨v1, st1, w8, hen, hst, hU8, hg8⟩ := hUd.more Tryz.underlying117 (x := ((rp, rl), (xp, xl))) ⟨HWR.out, HWX.out⟩ hu (n1 + 1) (by unfold maxLen; omega)
            rw [bump_eq hu, ← bumpAll_snoc, ← HTK.out] at hU8
            change (Instr.mapEntry 117 (.map (some mu)) (.agg #[.int .u32 (rp : Nat), .int .i64 rl, .int .u32 (xp : Nat), .int .i64 xl])).run Tryz.prog _ = .ok (.tuple #[v1, .int .i64 (st1 : Nat)]) _ at hen
            change (Instr.entryStore 117 (.map (some mu)) (.int .i64 (st1 : Nat)) (.int .i64 (n1 + 1))).run Tryz.prog _ = .ok () _ at hst
            have ho8 : Off (fun k => k = mu) W2 w8 := off_of_grown (grown_drew hg8) rfl
            have HU8 : Hid (useInts.Fn w8 mu (nU + (k + 1)) (bumpAll U (rp, rl) (ids.take (k + 1)))) := hU8.mono (by omega)
            have HO8 : Hid (Off (fun j => j = mu) w5 w8) := HO7.out.trans ho8 (fun _ _ e => e)
            have HIN8 : Hid (∀ i ∈ ids.take (k + 1), (U ((rp, rl), i)).isSome = true) := fun i hi => by
              rw [HTK.out] at hi
              rcases List.mem_append.1 hi with hi | hi
              · exact HIN.out i hi
              · rw [List.mem_singleton.1 hi, ← bumpAll_some (rp, rl) (ids.take k) U, HHU.out]
                rfl
            clear hUd hU8 hg8 ho8 hu b1 b2
            go_region
            all_goals
              go_wp2_with fail
              go_roundw
              case rel => exact ⟨k + 1, hlt, by go_num, HIN8.out, HU8.out, HO8.out⟩
              case measure => simp [intOf]; omega
        · have hge : (idl : Int) ≤ (k : Int) := by omega
          rw [List.take_of_length_le (by rw [HID.out]; omega)] at HIN HUK
          go_wp2_with fail
          go_ret
          have h0 : addErr F U (nm.data.toList, len, p, ids) = 0 := addErr_ok (by rw [HRQ.out]; exact HFS.out) (fun i hi => by rw [HRQ.out]; exact HIN.out i hi)
          refine ⟨_, rfl, ?_, HOW.out, fun _ => ⟨?_, ?_⟩⟩
          · rw [h0]
            exact .inl ⟨rfl, rfl⟩
          · rw [HRQ.out]
            exact HF5.out.off HO.out (fun e => hne e)
          · rw [HRQ.out]
            have hkk : k = ids.length := by rw [HID.out]; omega
            rw [hkk] at HUK
            exact HUK.out
end Go.Proofs.YtcbcjefefmbccabGreatDoor
namespace Go.Proofs.YtcbcjefefmbccabGreatDoor
open Go.RowKit Go.Maps

theorem RcpAt.off {F : Nat → Prop} {w w' : World} {b o : Nat} {v : Value} {r : Rcp} (h : RcpAt w b o v r) (ho : Off F w w') (hb : ¬ F b) (hv : r.2.2.2 ≠ [] → ∀ k, v.ownBlock = some k → ¬ F k) : RcpAt w' b o v r := by
  have e := ho.block b h.lt hb
  exact ⟨Nat.lt_of_lt_of_le h.lt ho.size, (World.cell?_of_block (w := w) e).trans h.c0, (World.cell?_of_block (w := w) e).trans h.c1, (World.cell?_of_block (w := w) e).trans h.c2, (World.cell?_of_block (w := w) e).trans h.c3, h.ids.off ho hv⟩
def OldRcps (n : Nat) (w : World) (v : Value) (fs : List Rcp) : Prop := RcpsAt w v fs ∧ ∀ W, Below n w W → RcpsAt W v fs
set_option maxRecDepth 100000 in
set_option maxHeartbeats 8000000 in
theorem checkFile_add (a : Nat → Addr) (vf : Value) (fs : List Rcp) (at' : Nat) (w0 w : World) (hat : at' < fs.length) (mf mu nF nU : Nat) (F : Nat × Int → Option Int) (U : Use → Option Int) (B : Int)
    (hv : RcpsAt w0 vf fs) (hb0 : Below w0.heap.size w0 w) (hm : w0.heap.size ≤ mf ∧ w0.heap.size ≤ mu) (hfl : fs.length ≤ 30)
    (hgood : recFault fs[at'].1 fs[at'].2.1 fs[at'].2.2.2 = (0, -1)) (hord : ∀ (h : 0 < at'), fs[at' - 1].1 < fs[at'].1) (hnm : ∀ r ∈ fs, r.1.length ≤ 50000)
    (hwf : ∀ i ∈ fs[at'].2.2.2, WfID i) (hwr : WfID (rcpRep fs[at'])) (hE : ErrE [1, 2, 3, 4, 6, 8] w0 a) (hne : mf ≠ mu) (hnF : nF ≤ 100000) (hnU : nU ≤ 200000) (hB : 0 ≤ B ∧ B ≤ 1000000) (hFB : ∀ y c, F y = some c → 0 ≤ c ∧ c ≤ B) (hUB : ∀ y c, U y = some c → 0 ≤ c ∧ c ≤ B)
    (hF : idInts.Fn w mf nF F) (hU : useInts.Fn w mu nU U) :
    Calls Tryz.prog 62 #[.agg #[.map (some mf), .map (some mu)], vf, .int .i64 at'] w (AddPost a w mf mu nF nU F U fs[at']) := by
  have HE : Hid (∀ W, Below w0.heap.size w0 W → ErrE [1, 2, 3, 4, 6, 8] W a) := fun W hb => hE.below hb (Nat.le_refl _)
  have HEG : Hid (errG 4 < w0.heap.size) := lt_of_cell (hE.glob 4 rfl)
  have HB0 := hideN hb0
  obtain ⟨pa, ca, rfl, hcell⟩ := hv
  obtain ⟨b, o, vi, rfl, hR⟩ := hcell at' hat
  have HRP : Hid (∀ W, Below w0.heap.size w0 W → RcpAt W b (o + at' * 4) vi fs[at']) := fun W hb => hR.below hb
  have HPR : Hid (∀ (h : 0 < at') W, Below w0.heap.size w0 W → W.cell? ⟨b, o + (at' - 1) * 4, none⟩ = some (.string ⟨fs[at' - 1].1.toArray⟩)) := fun h W hb => by
    obtain ⟨b', o', vi', hp, hR'⟩ := hcell (at' - 1) (by omega)
    obtain ⟨rfl, rfl⟩ : b = b' ∧ o = o' := by simpa using hp
    exact (hR'.below hb).c0
  have hat' : (at' : Int) < (fs.length : Int) := by omega
  have hat0 : (0 : Int) ≤ (at' : Int) := by omega
  have hfl' : (fs.length : Int) ≤ 30 := by omega
  have HORD := hideN hord
  have HF := hideN hF
  have HU := hideN hU
  have HNM := hideN (hnm fs[at'] (List.getElem_mem hat))
  have HROW : Hid (fs[at'].2.2.2 ≠ [] → ∀ k, vi.ownBlock = some k → k < w0.heap.size) := fun hn k hk => hR.ids.lt hn hk
  have HWF := hideN hwf
  have HWR := hideN hwr
  have HGOOD := hideN hgood
  obtain ⟨pv, cv, hvi, _⟩ := hR.ids
  have c0 := (hR.below hb0).c0
  have c1 := (hR.below hb0).c1
  have c2 := (hR.below hb0).c2
  have c3 := (hR.below hb0).c3
  have HIDS : Hid (∀ W, Below w0.heap.size w0 W → IdsAt W vi fs[at'].2.2.2) := fun W hb => (hR.below hb).ids
  obtain ⟨⟨rn, rl, rp, ri⟩, hx⟩ : ∃ x, fs[at'] = x := ⟨_, rfl⟩
  have HX := hideN hx
  rw [hx] at c0 c1 c2 HNM HROW HWF HWR HGOOD HIDS hvi ⊢
  simp only at c0 c1 c2 HNM HROW HWF HWR HGOOD HIDS hvi ⊢
  subst hvi
  have HLEN : Hid (ri.length ≤ 250) := by
    show _ ≤ _
    have := HGOOD.out
    unfold recFault at this
    split at this
    · cases this
    · split at this
      · cases this
      · split at this
        · cases this
        · omega
  obtain ⟨NM, hNM⟩ : ∃ NM : ByteArray, (⟨rn.toArray⟩ : ByteArray) = NM := ⟨_, rfl⟩
  obtain rfl : rn = NM.data.toList := by rw [← hNM]
  rw [hNM] at c0
  obtain ⟨idl, hidl⟩ : ∃ idl, ri.length = idl := ⟨_, rfl⟩
  have HIDL := hideN hidl
  rw [hidl] at c3 HIDS HLEN
  rw [hidl] at HROW
  have HNMZ : Hid (NM.size ≤ 50000) := by
    show NM.size ≤ 50000
    have := HNM.out
    rw [Array.length_toList] at this
    exact this
  clear hF hU hwf hwr hgood hord hnm hE hR hcell hx hNM HNM
  have hal1 := (Below.refl w.heap.size w).alloc (Nat.le_refl _) (.cells #[.map (some mf), .map (some mu)] 119)
  have hbc := Blk.new w #[.map (some mf), .map (some mu)] 119
  obtain ⟨W1, hW1⟩ : ∃ W1, w.alloc (.cells #[.map (some mf), .map (some mu)] 119) = W1 := ⟨_, rfl⟩
  rw [hW1] at hal1 hbc
  have hs1 : W1.heap.size = w.heap.size + 1 := by rw [← hW1]; simp
  have d0 := (hal1.cell (p := ⟨b, o + at' * 4, none⟩) (lt_of_cell c0)).trans c0
  have d1 := (hal1.cell (p := ⟨b, o + at' * 4 + 1, none⟩) (lt_of_cell c0)).trans c1
  have d2 := (hal1.cell (p := ⟨b, o + at' * 4 + 2, none⟩) (lt_of_cell c0)).trans c2
  have d3 := (hal1.cell (p := ⟨b, o + at' * 4 + 3, none⟩) (lt_of_cell c0)).trans c3
  have hal2 := (Below.refl W1.heap.size W1).alloc (Nat.le_refl _) (.cells #[.string NM, .int .i64 rl, .int .u32 rp, .slice pv idl cv] 40)
  have hbr := Blk.new W1 #[.string NM, .int .i64 rl, .int .u32 rp, .slice pv idl cv] 40
  have hbc2 := hbc.next hal2
  have hB2 : Below w.heap.size w _ := hal1.trans (hal2.mono hal1.size)
  rw [hs1] at hbr
  have HBC := hideN hbc2
  have HBR := hideN hbr
  have HB2 := hideN hB2
  have r0 := hbr.cell (i := 0) rfl
  have r1 := hbr.cell (i := 1) rfl
  have r2 := hbr.cell (i := 2) rfl
  have r3 := hbr.cell (i := 3) rfl
  rw [← hW1] at d0 d1 d2 d3 r0 r1 r2 r3
  rw [← hW1] at HBC HBR HB2
  have HSZ0 : Hid (w0.heap.size ≤ w.heap.size) := HB0.out.size
  clear hal1 hal2 hbc hbr hbc2 hB2 hs1 c0 c1 c2 c3 hW1
  go_enter Tryz.func62, Tryz.ntmps62
  go_wp2_with fail
  generalize ((w.alloc (.cells #[.map (some mf), .map (some mu)] 119)).alloc (.cells #[.string NM, .int .i64 rl, .int .u32 rp, .slice pv idl cv] 40)) = W2 at *
  have HB02 : Hid (Below w0.heap.size w0 W2) := HB0.out.trans (HB2.out.mono HSZ0.out)
  refine (check_any a NM (by unfold maxLen; have := HNMZ.out; omega) rl rp (.slice pv idl cv) ri W2 ((HE.out _ HB02.out).sub (by decide)) (HIDS.out _ HB02.out) (by rw [HIDL.out]; unfold maxLen; have := HLEN.out; omega)).mono ?_
  rintro e w3 ⟨ev3, rfl, he3, hb3⟩
  rw [HGOOD.out] at he3
  obtain rfl := he3.nil
  have HB3 : Hid (Below w.heap.size w w3) := HB2.out.trans (hb3.mono HB2.out.size)
  have HB03 : Hid (Below w0.heap.size w0 w3) := HB0.out.trans (HB3.out.mono HSZ0.out)
  have HBC3 := hideN (HBC.out.next hb3)
  have HBR3 := hideN (HBR.out.next hb3)
  clear hb3 he3 r0 r1 r2 r3 d0 d1 d2 d3 HBC HBR HB2 HB02 HGOOD
  have r0 := HBR3.out.cell (i := 0) rfl
  have r1 := HBR3.out.cell (i := 1) rfl
  have r2 := HBR3.out.cell (i := 2) rfl
  have r3 := HBR3.out.cell (i := 3) rfl
  have c0 := HBC3.out.cell (i := 0) rfl
  have c1 := HBC3.out.cell (i := 1) rfl
  by_cases h0 : 0 < at'
  · have h0' : (0 : Int) < (at' : Int) := by omega
    have hpr := HPR.out h0 w3 HB03.out
    have hlt := HORD.out h0
    obtain ⟨m, hm'⟩ : ∃ m, at' - 1 = m := ⟨_, rfl⟩
    have hwm : IntKind.i64.wrap ((at' : Int) - 1) = (m : Int) := by rw [IntKind.wrap_i64]; omega
    obtain ⟨PN, hPN⟩ : ∃ PN : ByteArray, (⟨fs[at' - 1].1.toArray⟩ : ByteArray) = PN := ⟨_, rfl⟩
    rw [hPN, hm'] at hpr
    have hml : (m : Int) < (fs.length : Int) := by omega
    have hm0 : (0 : Int) ≤ (m : Int) := by omega
    have hlt2 : PN.data.toList < NM.data.toList := by
      rw [← hPN]
      have := hlt
      rw [HX.out] at this
      exact this
    have hbl : Op.bytesLess NM.toList PN.toList = false := by
      rw [Go.Proofs.bytesLess_eq, ByteArray.toList_eq, ByteArray.toList_eq]
      exact decide_eq_false (fun h => List.lt_irrefl _ (List.lt_trans h hlt2))
    have hbe : (NM.toList == PN.toList) = false := by
      rw [ByteArray.toList_eq, ByteArray.toList_eq, beq_eq_false_iff_ne]
      intro e
      rw [e] at hlt2
      exact List.lt_irrefl _ hlt2
    clear hPN hlt hlt2
    go_wp2_with fail
    go_quiet (fail)
    have hdr := below_of_grown (grown_drewN w3 nq)
    have HBC4 := hideN (HBC3.out.next hdr)
    have HBR4 := hideN (HBR3.out.next hdr)
    have HB4 : Hid (Below w.heap.size w _) := hideN (HB3.out.trans (hdr.mono HB3.out.size))
    have HB04 : Hid (Below w0.heap.size w0 _) := hideN (HB03.out.trans (hdr.mono HB03.out.size))
    clear r0 r1 r2 r3 c0 c1 hdr HBC3 HBR3 HB3 HB03
    generalize w3.drewN nq = w4 at *
    have r0 := HBR4.out.cell (i := 0) rfl
    have r1 := HBR4.out.cell (i := 1) rfl
    have r2 := HBR4.out.cell (i := 2) rfl
    have r3 := HBR4.out.cell (i := 3) rfl
    have c0 := HBC4.out.cell (i := 0) rfl
    have c1 := HBC4.out.cell (i := 1) rfl
    have HADN := hideN (add_any a NM rl rp (.slice pv idl cv) ri mf mu nF nU F U B w4 (by rw [HIDL.out]; exact HLEN.out) HWF.out HWR.out ((HE.out _ HB04.out).sub (by decide)) (HIDS.out _ HB04.out) (fun hn k hk => by have := HROW.out hn k hk; exact ⟨by omega, by omega⟩) hne ⟨by have := HEG.out; omega, by have := HEG.out; omega⟩ hnF hnU hB hFB hUB (HF.out.below HB4.out) (HU.out.below HB4.out))
    unfold AddPost at HADN
    go_wp2_with fail
    refine HADN.out.mono ?_
    rintro e w5 ⟨ev5, rfl, he5, ho5, hadd5⟩
    have HE5 := hideN he5
    have HA5 := hideN hadd5
    have HOF := hideN ((Off.of_below (F := fun k => k = mf ∨ k = mu) HB4.out).trans ho5 (fun _ _ h => h))
    clear hadd5 he5 ho5 HADN
    go_wp2_with fail
    go_ret
    exact ⟨_, rfl, HE5.out, HOF.out, HA5.out⟩
  · have h0' : ¬ (0 : Int) < (at' : Int) := by omega
    go_wp2_with fail
    go_quiet (fail)
    have hdr := below_of_grown (grown_drewN w3 nq)
    have HBC4 := hideN (HBC3.out.next hdr)
    have HBR4 := hideN (HBR3.out.next hdr)
    have HB4 : Hid (Below w.heap.size w _) := hideN (HB3.out.trans (hdr.mono HB3.out.size))
    have HB04 : Hid (Below w0.heap.size w0 _) := hideN (HB03.out.trans (hdr.mono HB03.out.size))
    clear r0 r1 r2 r3 c0 c1 hdr HBC3 HBR3 HB3 HB03
    generalize w3.drewN nq = w4 at *
    have r0 := HBR4.out.cell (i := 0) rfl
    have r1 := HBR4.out.cell (i := 1) rfl
    have r2 := HBR4.out.cell (i := 2) rfl
    have r3 := HBR4.out.cell (i := 3) rfl
    have c0 := HBC4.out.cell (i := 0) rfl
    have c1 := HBC4.out.cell (i := 1) rfl
    have HADN := hideN (add_any a NM rl rp (.slice pv idl cv) ri mf mu nF nU F U B w4 (by rw [HIDL.out]; exact HLEN.out) HWF.out HWR.out ((HE.out _ HB04.out).sub (by decide)) (HIDS.out _ HB04.out) (fun hn k hk => by have := HROW.out hn k hk; exact ⟨by omega, by omega⟩) hne ⟨by have := HEG.out; omega, by have := HEG.out; omega⟩ hnF hnU hB hFB hUB (HF.out.below HB4.out) (HU.out.below HB4.out))
    unfold AddPost at HADN
    go_wp2_with fail
    refine HADN.out.mono ?_
    rintro e w5 ⟨ev5, rfl, he5, ho5, hadd5⟩
    have HE5 := hideN he5
    have HA5 := hideN hadd5
    have HOF := hideN ((Off.of_below (F := fun k => k = mf ∨ k = mu) HB4.out).trans ho5 (fun _ _ h => h))
    clear hadd5 he5 ho5 HADN
    go_wp2_with fail
    go_ret
    exact ⟨_, rfl, HE5.out, HOF.out, HA5.out⟩
end Go.Proofs.YtcbcjefefmbccabGreatDoor
