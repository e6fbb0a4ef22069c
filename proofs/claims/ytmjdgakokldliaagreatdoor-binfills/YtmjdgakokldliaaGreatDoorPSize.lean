/-
  Own text. The program's bin by contracts: New, Copy, Size.
-/
import Derived.Test.YtmjdgakokldliaaGreatDoorPGet
import Derived.Shelf.SlMaps.Clone
namespace Go.Proofs.YtmjdgakokldliaaGreatDoor
open Go.RowKit Go.Maps

set_option maxRecDepth 100000 in
set_option maxHeartbeats 4000000 in
theorem pNew_any (w : World) : Calls Tryz.prog 38 #[] w fun e w' => ∃ p F, e = .returned (.pointer (some p)) ∧ PBin0 w' p F [] ∧ (∀ k, F k → w.heap.size ≤ k) ∧ Below w.heap.size w w' := by
  have hmm := @run_makeMap Tryz.prog
  have hb1 := (Below.refl w.heap.size w).alloc (Nat.le_refl _) (.map #[] 0)
  have hM := MapKit.Of.made idPieces w
  have hb2 := (Below.refl _ (w.alloc (.map #[] 0))).alloc (Nat.le_refl _) (.cells #[.map (some w.heap.size)] 135)
  have hB := Blk.new (w.alloc (.map #[] 0)) #[.map (some w.heap.size)] 135
  have hs : (w.alloc (.map #[] 0)).heap.size = w.heap.size + 1 := by simp
  rw [hs] at hB
  go_enter Tryz.func38, Tryz.ntmps38
  go_wp2_with fail
  go_ret
  exact ⟨⟨w.heap.size + 1, 0, none⟩, _, rfl, ⟨w.heap.size + 1, w.heap.size, rfl, hB, of_below hM hb2, by omega, rfl⟩, fun k hk => by rcases hk with rfl | rfl <;> omega, hb1.trans (hb2.mono hb1.size)⟩

set_option maxRecDepth 100000 in
set_option maxHeartbeats 4000000 in
theorem clone_any (b : Nat) (l : List Hd) (w : World) (h : idPieces.Of w b l) :
    Calls Tryz.prog 163 #[.map (some b)] w fun e w' => e = .returned (.map (some w.heap.size)) ∧ idPieces.Of w' w.heap.size l ∧ Below w.heap.size w w' := by
  obtain ⟨es, clock, hb⟩ := h.isMap
  have hq := fun w => run_eql_map_nil_sl (P := Tryz.prog) w 133 _ _ (some b) Tryz.underlying133
  go_enter Tryz.func163, Tryz.ntmps163
  go_wp2_with fail
  rw [run_callFunc_extern Tryz.func182 (by kernel_rfl) (by kernel_rfl) (by kernel_rfl) (e := Extern.MapsClone.clone) (by kernel_rfl), run_maps_clone_sl w 133 hb]
  simp only [Result.andThen]
  rw [Oper.upon_value]
  go_wp2_with fail
  rw [run_typeAssert_map_sl _ 133 20 _ _ _ Tryz.underlying133]
  simp only [Result.andThen]
  rw [Oper.upon_value]
  go_wp2_with fail
  go_ret
  exact ⟨rfl, h.moved ((World.alloc_heap_new w _).trans hb.symm), (Below.refl _ w).alloc (Nat.le_refl _) _⟩

set_option maxRecDepth 100000 in
set_option maxHeartbeats 4000000 in
theorem pCopy_any (p : Addr) (F : Nat → Prop) (l : List Hd) (w : World) (hP : PBin0 w p F l) :
    Calls Tryz.prog 121 #[.pointer (some p)] w fun e w' => ∃ p' F', e = .returned (.pointer (some p')) ∧ PBin0 w' p' F' l ∧ (∀ k, F' k → w.heap.size ≤ k) ∧ Below w.heap.size w w' := by
  obtain ⟨B, b, rfl, hB, hM, hne, rfl⟩ := hP
  have q0 := hB.cell (i := 0) rfl
  have hc := clone_any b l w hM
  go_enter Tryz.func121, Tryz.ntmps121
  go_wp2_with fail
  refine hc.mono ?_
  rintro e w1 ⟨rfl, hM1, hb1⟩
  have hb2 := (Below.refl _ w1).alloc (Nat.le_refl _) (.cells #[.map (some w.heap.size)] 135)
  have hB2 := Blk.new w1 #[.map (some w.heap.size)] 135
  have hM2 := of_below hM1 hb2
  have hl := hM1.lt
  go_wp2_with fail
  go_ret
  exact ⟨⟨w1.heap.size, 0, none⟩, _, rfl, ⟨w1.heap.size, w.heap.size, rfl, hB2, hM2, by omega, rfl⟩, fun k hk => by rcases hk with rfl | rfl <;> omega, hb1.trans (hb2.mono hb1.size)⟩

theorem hSize_cons (h : Hd) (l : List Hd) : hSize (h :: l) = h.1.2 + hSize l := by simp [hSize]
theorem hSize_perm {a b : List Hd} (h : a.Perm b) : hSize a = hSize b := by
  induction h with
  | nil => rfl
  | cons x _ ih => rw [hSize_cons, hSize_cons, ih]
  | swap x y l => rw [hSize_cons, hSize_cons, hSize_cons, hSize_cons]; omega
  | trans _ _ h1 h2 => rw [h1, h2]
theorem hSize_filter_bound {U : Int} {l : List Hd} (h : BinOk U l) (p : Hd → Bool) : 0 ≤ hSize (l.filter p) ∧ hSize (l.filter p) ≤ 16000 := by
  have h1 := hSize_bound (l.filter p) 64 (by decide) (fun x hx => h.lens x (List.mem_filter.1 hx).1)
  have h2 := List.length_filter_le p l
  have h3 := h.many
  omega

set_option maxRecDepth 100000 in
set_option maxHeartbeats 4000000 in
theorem pSize_any (p : Addr) (F : Nat → Prop) (l : List Hd) (w : World) (hok : BinOk 1000000 l) (hP : PBin0 w p F l) :
    Calls Tryz.prog 42 #[.pointer (some p)] w fun e w' => e = .returned (.int .i64 (hSize l)) ∧ Below w.heap.size w w' := by
  obtain ⟨B, b, rfl, hB, hM, hne, rfl⟩ := hP
  have q0 := hB.cell (i := 0) rfl
  have hap := hM.apart
  have hbl := hM.lt
  have HOK : Hid (BinOk 1000000 l) := hok
  clear hok
  go_enter Tryz.func42, Tryz.ntmps42
  go_wp2_with (first
    | (at_range; refine wp_range_kit idPieces _ rfl _ 133 rfl 137 Tryz.underlying133 b l rfl hM ?_; intro w0 hr0 hg0 hs0)
    | go_in)
  go_frame
  go_loopw [3, 10] (fun n _ wr => ∃ (left : Nat × Int → Bool) (cnt : Nat), n = .int .i64 (hSize (l.filter (fun h => !left h.1))) ∧ idPieces.Rng wr b w.heap.size l left cnt ∧ w.grownBy wr none) (fun _ _ wr => wr.rangeLeft b w.heap.size)
  case atStart =>
    refine ⟨_, _, ?_, hr0, hg0⟩
    rw [List.filter_eq_nil_iff.2 (fun h hm => by simp only [Bool.not_eq_true', Bool.not_eq_false, decide_eq_true_eq]; simp; exact ⟨_, _, hm⟩)]
    rfl
  case round =>
    obtain ⟨left, cnt, rfl, hrg, hgw⟩ := hrel
    obtain ⟨n1, n2⟩ := hSize_filter_bound HOK.out (fun h => !left h.1)
    obtain ⟨N, hN⟩ : ∃ N, hSize (l.filter (fun h => !left h.1)) = N := ⟨_, rfl⟩
    have HN : Hid (hSize (l.filter (fun h => !left h.1)) = N) := hN
    rw [hN] at n1 n2 ⊢
    clear hN
    go_wp2_with (first
      | (at_next; refine wp_next_kit idPieces _ rfl _ rfl b w.heap.size l left cnt rfl hrg ?_ ?_)
      | go_in)
    · intro h0
      go_wp2_with fail
      go_ret
      refine ⟨?_, below_of_grown hgw⟩
      rw [← HN.out, List.filter_eq_self.2 (fun h hm => by have := h0 h.1.1 h.1.2 h.2.1 h.2.2 hm; simp [this])]
      rfl
    · intro xp xl u t w1 cnt1 hm hlx hrg1 hlt hg1 hs1 hen
      change (Instr.entry (.pointer (some ⟨w.heap.size, 0, none⟩))).run Tryz.prog w1 = .ok (.tuple #[idV (xp : Nat) xl, pieceV (u, t)]) w1 at hen
      have hfl := filter_flip hap (p := left) hm hlx
      have HS : Hid (hSize (l.filter (fun y => !(left y.1 && !decide (y.1 = (xp, xl))))) = xl + N) := by
        show _ = _
        rw [hSize_perm hfl, hSize_cons, HN.out]
      obtain ⟨m1, m2⟩ := hSize_filter_bound HOK.out (fun y => !(left y.1 && !decide (y.1 = (xp, xl))))
      rw [HS.out] at m1 m2
      have hw : IntKind.i64.wrap (N + xl) = N + xl := by rw [IntKind.wrap_i64]; omega
      have hgw1 := hgw.andThen hg1 (fun j hj => by cases hj; exact .inl (Nat.le_refl _))
      have hal := World.grownBy_alloc w1 (.cells #[.int .u32 (xp : Nat), .int .i64 xl] 40) none
      have hrg2 := hrg1.kept hal (by simp) (by simp)
      have i1 := (Blk.new w1 #[.int .u32 (xp : Nat), .int .i64 xl] 40).cell (i := 1) rfl
      have hgw2 := hgw1.andThen hal (fun j hj => by cases hj)
      clear hfl hM hB hr0 hg0
      go_wp2_with fail
      go_roundw
      case rel => exact ⟨_, cnt1, by rw [HS.out, Int.add_comm], hrg2, hgw2⟩
      case measure => rw [hrg2.left_eq, hrg.left_eq]; exact hlt
end Go.Proofs.YtmjdgakokldliaaGreatDoor
