/-
  Own text. The program's bin by contracts: All.
-/
import Derived.Test.YtmjdgakokldliaaGreatDoorPSort
namespace Go.Proofs.YtmjdgakokldliaaGreatDoor
open Go.RowKit Go.Maps Go.Sort

/- All's own memory on its way: the box of the list, the list's row. -/
structure AllSt (w wr : World) (p : Option Addr) (cp : Nat) (c : List Hd) : Prop where
  cell : wr.cell? ⟨w.heap.size, 0, none⟩ = some (.slice p c.length cp)
  free : wr.frozen? ⟨w.heap.size, 0, none⟩ = false
  row : wr.ownsRow (w.heap.size + 2) 64 4 (.slice p c.length cp) c.length (heldCells c)
  below : Below w.heap.size w wr
  size : w.heap.size + 2 ≤ wr.heap.size
theorem AllSt.grow {w wr w' : World} {p : Option Addr} {cp : Nat} {c : List Hd} {row : Option Nat} (h : AllSt w wr p cp c) (hg : wr.grownBy w' row) (hr : ∀ k, row = some k → k = w.heap.size + 1) : AllSt w w' p cp c := by
  have hne : some w.heap.size ≠ row := fun e => by have := hr _ e.symm; omega
  have hl : w.heap.size < wr.heap.size := by have := h.size; omega
  refine ⟨cell_kept h.cell hg hl hne, (World.frozen?_of_block (w := wr) (hg.block _ hl hne)).trans h.free, h.row.kept hg ?_, ?_, Nat.le_trans h.size hg.size⟩
  · cases hv : (Value.slice p c.length cp).ownBlock with
    | none => exact .inl rfl
    | some k =>
      refine .inr (fun e => ?_)
      have h1 := (h.row.lt k hv).1
      have h2 := hr k e.symm
      omega
  · exact h.below.trans ⟨hg.os, hg.tape, hg.output, hg.size, fun k hk => hg.block k (by have := h.below.size; omega) (fun e => by have := hr k e.symm; omega)⟩

theorem grown_grow (w : World) (os : Array Obj) : w.grownBy (grow w os) none := ⟨rfl, rfl, rfl, by simp [grow], fun k hk _ => by simp [grow, Array.getElem?_append_left hk]⟩
set_option maxRecDepth 100000 in
set_option maxHeartbeats 8000000 in
theorem pAll_any {U : Int} (p : Addr) (F : Nat → Prop) (l : List Hd) (w : World) (hok : BinOk U l) (hP : PBin0 w p F l) :
    Calls Tryz.prog 43 #[.pointer (some p)] w fun e w' => ∃ v, e = .returned v ∧ HeldsAt w' v l ∧ Below w.heap.size w w' := by
  obtain ⟨B, b, rfl, hB, hM, hne, rfl⟩ := hP
  have hap := hM.apart
  have hBl := hB.lt
  have hbl := hM.lt
  have hmany := hok.many
  have HR : Hid (Rise l) := hok.rise
  have hal := (Below.refl w.heap.size w).alloc (Nat.le_refl _) (.cells #[.slice none 0 0] 61)
  have hS := Blk.new w #[.slice none 0 0] 61
  have hB1 := hB.next hal
  have hM1 := of_below hM hal
  have q0 := hB1.cell (i := 0) rfl
  have hs1 : (w.alloc (.cells #[.slice none 0 0] 61)).heap.size = w.heap.size + 1 := by simp
  obtain ⟨ti, hi, hz0, hz1, hz2⟩ := info_parts infoHeld
  go_enter Tryz.func43, Tryz.ntmps43
  go_wp2_with (first
    | (at_range; refine wp_range_kit idPieces _ rfl _ 133 rfl 137 Tryz.underlying133 b l rfl hM1 ?_; intro w0 hr0 hg0 hs0)
    | go_in)
  go_frame
  rw [hs1] at hr0 hs0 ⊢
  have A0 : AllSt w w0 none 0 [] := ⟨cell_kept (hS.cell (i := 0) rfl) hg0 hS.lt (by simp), (World.frozen?_of_block (hg0.block _ hS.lt (by simp))).trans (hS.frozen 0), World.ownsRow_nil _ _ _ _, hal.trans ((below_of_grown hg0).mono hal.size), by omega⟩
  have HB0 : Hid (w0.cell? ⟨B, 0, none⟩ = some (.map (some b))) := cell_kept q0 hg0 hB1.lt (by simp)
  clear hB hM hB1 hM1 hok hS q0
  go_loopw [11] (fun _ wr => ∃ (left : Nat × Int → Bool) (cnt cp : Nat) (c : List Hd) (p : Option Addr), idPieces.Rng wr b (w.heap.size + 1) l left cnt ∧ c.Perm (l.filter (fun h => !left h.1)) ∧ AllSt w wr p cp c) (fun _ wr => wr.rangeLeft b (w.heap.size + 1))
  case atStart =>
    refine ⟨_, _, 0, [], none, hr0, ?_, A0⟩
    rw [List.filter_eq_nil_iff.2 (fun h hm => by simp only [Bool.not_eq_true', Bool.not_eq_false, decide_eq_true_eq]; simp; exact ⟨_, _, hm⟩)]
  case round =>
    clear hr0 A0 hg0
    obtain ⟨left, cnt, cp, c, p, hrg, hcp, hA⟩ := hrel
    go_wp2_with (first
      | (at_next; refine wp_next_kit idPieces _ rfl _ rfl b (w.heap.size + 1) l left cnt rfl hrg ?_ ?_)
      | go_in)
    · intro h0
      rw [List.filter_eq_self.2 (fun h hm => by have := h0 h.1.1 h.1.2 h.2.1 h.2.2 hm; simp [this])] at hcp
      have c0 := hA.cell
      have hsz := hA.size
      obtain ⟨i, hi', hd⟩ := Option.map_eq_some_iff.1 heldsInfo
      obtain ⟨ie, hie, hmm⟩ := Option.map_eq_some_iff.1 heldInfo4
      have hlc : c.length ≤ 250 := by rw [hcp.length_eq]; exact hmany
      by_cases h2 : 2 ≤ c.length
      · obtain ⟨g, cp', hv, h3, h4⟩ := row_some hA.row (by omega)
        obtain ⟨rfl, rfl⟩ : p = some ⟨g, 0, none⟩ ∧ cp = cp' := by simpa using hv
        obtain ⟨hgl, hgs⟩ := hA.row.lt g rfl
        clear hi' hd hie hmm
        have hsrt := sortHelds w.heap.size g cp c wr c0 (by omega) h3 hgs (holdsK_of_row hA.row) h2 (by omega) ((hcp.pairwise_iff (fun {_ _} hne => Ne.symm hne)).2 hap)
        go_wp2_with (go_at_call 87; refine hsrt.mono ?_; rintro e w5 ⟨rfl, c', hp', hr', hat', hg'⟩; have c5 := cell_kept c0 hg' (by simp only; omega) (fun e => by have := Option.some.inj e; simp only at this; omega))
        go_ret
        have ec : c' = l := rise_ext hr' HR.out (fun x => by rw [hp'.mem_iff, hcp.mem_iff])
        refine ⟨_, rfl, by rw [← ec]; exact hat', hA.below.trans ⟨hg'.os, hg'.tape, hg'.output, hg'.size, fun k hk => hg'.block k (by omega) (fun e => by have := Option.some.inj e; omega)⟩⟩
      · have ec : Hid (c = l) := by
          show _ = _
          match c, l, hcp, h2 with
          | [], l, h, _ => exact (List.nil_perm.1 h).symm ▸ rfl
          | [x], l, h, _ => exact (List.perm_singleton.1 h.symm).symm
          | x :: y :: r, l, h, h2 => simp at h2
        have htiny : Calls Tryz.prog 87 #[.iface 61 (.slice p c.length cp), .func (.func 88) #[] #[.pointer (some ⟨w.heap.size, 0, none⟩)]] wr fun e w' => e = .returned (.tuple #[]) ∧ ∃ os, w' = grow wr os := by
          have h01 : c.length = 0 ∨ c.length = 1 := by omega
          rcases h01 with h01 | h01
          · exact Any.sort_Slice_tiny Tryz.laysGg6 61 64 i ie hi' hd heldsPacked hie 25 heldKind p c.length cp (by omega) 144 (by rw [h01]; exact swap1) _ _ _ wr
          · exact Any.sort_Slice_tiny Tryz.laysGg6 61 64 i ie hi' hd heldsPacked hie 25 heldKind p c.length cp (by omega) 145 (by rw [h01]; exact swap2) _ _ _ wr
        clear hi' hd hie hmm
        go_wp2_with (go_at_call 87; refine htiny.mono ?_; rintro e w5 ⟨rfl, os, rfl⟩; have hgr : wr.grownBy (grow wr os) none := grown_grow wr os; have c5 := cell_kept c0 hgr (by simp only; omega) (by simp))
        go_ret
        exact ⟨_, rfl, by rw [← ec.out]; exact (HeldsAt.of_row hA.row).below (below_of_grown hgr), hA.below.trans ((below_of_grown hgr).mono hA.below.size)⟩
    · intro xp xl u t w1 cnt1 hm hlx hrg1 hlt hg1 hs1' hen
      change (Instr.entry (.pointer (some ⟨w.heap.size + 1, 0, none⟩))).run Tryz.prog w1 = .ok (.tuple #[idV (xp : Nat) xl, pieceV (u, t)]) w1 at hen
      have hfl := filter_flip hap (p := left) hm hlx
      have HCP : Hid ((c ++ [((xp, xl), u, t)]).Perm (l.filter (fun y => !(left y.1 && !decide (y.1 = (xp, xl)))))) := List.perm_append_comm.trans ((hcp.cons _).trans hfl.symm)
      have hlen : c.length ≤ 250 := by rw [hcp.length_eq]; exact Nat.le_trans (List.length_filter_le _ _) hmany
      have hA1 := hA.grow hg1 (fun k hk => by cases hk; rfl)
      have hg2 := (World.grownBy_alloc w1 (.cells #[.int .u32 (xp : Nat), .int .i64 xl] 40) none).andThen (World.grownBy_alloc _ (.cells #[.string ⟨t.toArray⟩, .int .i64 u] 137) none) (fun _ hj => by cases hj)
      have hI := (Blk.new w1 #[.int .u32 (xp : Nat), .int .i64 xl] 40).next (below_of_grown (World.grownBy_alloc _ (.cells #[.string ⟨t.toArray⟩, .int .i64 u] 137) none))
      have hPc := Blk.new (w1.alloc (.cells #[.int .u32 (xp : Nat), .int .i64 xl] 40)) #[.string ⟨t.toArray⟩, .int .i64 u] 137
      have hA2 := hA1.grow hg2 (fun k hk => by cases hk)
      have hrg2 := hrg1.kept hg2 (by simp) (by simp)
      rw [hs1'] at hI
      have hs2 : (w1.alloc (.cells #[.int .u32 (xp : Nat), .int .i64 xl] 40)).heap.size = wr.heap.size + 1 := by simp [hs1']
      rw [hs2] at hPc
      have i0 := hI.cell (i := 0) rfl
      have i1 := hI.cell (i := 1) rfl
      have p0 := hPc.cell (i := 0) rfl
      have p1 := hPc.cell (i := 1) rfl
      have b0 := hA2.cell
      have HS3 : Hid (wr.heap.size + 1 + 1 = ((w1.alloc (.cells #[.int .u32 (xp : Nat), .int .i64 xl] 40)).alloc (.cells #[.string ⟨t.toArray⟩, .int .i64 u] 137)).heap.size) := by show _ = _; simp [hs1']
      have HA2 : Hid (AllSt w ((w1.alloc (.cells #[.int .u32 (xp : Nat), .int .i64 xl] 40)).alloc (.cells #[.string ⟨t.toArray⟩, .int .i64 u] 137)) p cp c) := hA2
      clear hA2 hA1 hA hrg1 hfl hI hPc
      go_wp2_with (at_builtin; (refine wpList_append_own _ rfl (.tmp 16) (.tmp 23) 61 rfl (w.heap.size + 2) 64 ti (heldV ((0, 0), 0, [])) 4 40 Tryz.underlying61 hi hz0 hz1 hz2 rfl (by decide) (.slice p c.length cp) c.length (heldCells c) rfl (HA2.out.row.alloc _) ⟨wr.heap.size + 1 + 1, 0, none⟩ 1 1 (heldCells [((xp, xl), u, t)]) rfl rfl (four_new _ ((xp, xl), u, t) _ _ HS3.out) (heldCells_one _) (by unfold maxLen; omega) (by omega) (by have := HA2.out.size; simp at this ⊢; omega) ?_; have hown := HA2.out.row.lt; have hsz2 := HA2.out.size; intro v4 w4 ho4 hg4 _; have hgA : ((w1.alloc (.cells #[.int .u32 (xp : Nat), .int .i64 xl] 40)).alloc (.cells #[.string ⟨t.toArray⟩, .int .i64 u] 137)).grownBy w4 (Value.slice p c.length cp).ownBlock := ((World.grownBy_alloc _ _ none).but _).andThen hg4 (fun _ hj => .inr hj); obtain ⟨p4, cp4, hv4, _⟩ := HeldsAt.of_row (l := c ++ [((xp, xl), u, t)]) (by rw [List.length_append, heldCells_append]; exact ho4); subst hv4; have hnS : some w.heap.size ≠ (Value.slice p c.length cp).ownBlock := (fun e => by have := (hown _ e.symm).1; omega); have c4 := cell_kept HA2.out.cell hgA (Nat.lt_of_lt_of_le (Nat.lt_add_of_pos_right (by decide)) hsz2) hnS; have f4 : w4.frozen? ⟨w.heap.size, 0, none⟩ = false := (World.frozen?_of_block (hgA.block _ (Nat.lt_of_lt_of_le (Nat.lt_add_of_pos_right (by decide)) hsz2) hnS)).trans HA2.out.free))
      have hL1 : (c ++ [((xp, xl), u, t)]).length = c.length + 1 := by simp
      rw [hL1] at ho4
      have hnR : some (w.heap.size + 1) ≠ (Value.slice p c.length cp).ownBlock := (fun e => by have := (hown _ e.symm).1; omega)
      have hnb : some b ≠ (Value.slice p c.length cp).ownBlock := (fun e => by have := (hown _ e.symm).1; omega)
      have hrg4 := hrg2.kept hgA hnb hnR
      have hgS := grown_set (grown_refl w4 (some w.heap.size)) 0 (.slice p4 (c.length + 1) cp4)
      have hrg5 := hrg4.kept hgS (fun e => by have := Option.some.inj e; omega) (fun e => by have := Option.some.inj e; omega)
      have hl4 : w.heap.size < w4.heap.size := Nat.lt_of_lt_of_le (Nat.lt_of_lt_of_le (Nat.lt_add_of_pos_right (by decide)) hsz2) hgA.size
      have HA5 : Hid (AllSt w (w4.setCell ⟨w.heap.size, 0, none⟩ (.slice p4 (c.length + 1) cp4)) p4 cp4 (c ++ [((xp, xl), u, t)])) := by
        have hb4 : Below w.heap.size w w4 := HA2.out.below.trans ⟨hgA.os, hgA.tape, hgA.output, hgA.size, fun k hk => hgA.block k (Nat.lt_of_lt_of_le hk (Nat.le_trans (Nat.le_add_right _ 2) hsz2)) (fun e => by have := (hown _ e.symm).1; omega)⟩
        refine ⟨by rw [hL1]; exact World.cell?_setCell_same _ _ _ c4, by simpa using f4, World.ownsRow.kept (w := w4) ?_ hgS ?_, hb4.setCell (p := ⟨w.heap.size, 0, none⟩) (Nat.le_refl _) _, by simpa [World.setCell] using Nat.le_trans hsz2 hgA.size⟩
        · rw [hL1, heldCells_append]
          exact ho4
        · rw [hL1]
          cases hv : (Value.slice p4 (c.length + 1) cp4).ownBlock with
          | none => exact .inl rfl
          | some k => exact .inr (fun e => by have := (ho4.lt k hv).1; have := Option.some.inj e; omega)
      go_roundw
      case rel => exact ⟨fun y => left y && !decide (y = (xp, xl)), cnt1, cp4, c ++ [((xp, xl), u, t)], p4, hrg5, HCP.out, HA5.out⟩
      case measure => rw [hrg5.left_eq, hrg.left_eq]; exact hlt
end Go.Proofs.YtmjdgakokldliaaGreatDoor
