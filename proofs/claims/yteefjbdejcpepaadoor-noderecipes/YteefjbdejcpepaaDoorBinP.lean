/-
  Own text. The program's bin by contracts: Get, Drop.
  Own text. The program's bin by contracts: New, Copy, Size.
  Own text. The program's bin by contracts: Drop.
  Own text. The program's bin by contracts: Put, with isPiece, newPiece, strings.Clone.
  Own text. The program's bin by contracts: Sweep, with its closure and maps.DeleteFunc.
  Own text. The program's bin by contracts: All, its closure.
  Own text. sort.Slice of pieces by their IDs, as All calls it.
  Own text. The program's bin by contracts: All.
  Own text. The program's package bin keeps the contracts (BinSpec).
-/
import Derived.Test.YteefjbdejcpepaaDoorBinKit
import Derived.Test.YteefjbdejcpepaaDoorErrG
import Derived.Test.YteefjbdejcpepaaDoorSrtAll
import Derived.Deep.QuietTactic
import Derived.BigQuiet
import Derived.BigRegion
import Derived.Shelf.SlMaps.Clone
import Derived.Test.YteefjbdejcpepaaDoorShelf
import Derived.Test.YteefjbdejcpepaaDoorBinRef
import Derived.Shelf.GgSortFunc.Tiny
import Derived.Deep.RegionHeld3
namespace Go.Proofs.YteefjbdejcpepaaDoor
open Go.RowKit Go.Maps

theorem hFind_mem_at {l : List Hd} {x : Nat × Int} {k : Nat} (h : hFind l x = some k) : ∃ (hk : k < l.length), (x, l[k].2) ∈ l := by
  obtain ⟨hk, e⟩ := hFind_some h
  refine ⟨hk, ?_⟩
  rw [← e]
  exact List.getElem_mem hk
theorem of_below {w w' : World} {b : Nat} {l : List Hd} (h : idPieces.Of w b l) (hb : Below w.heap.size w w') : idPieces.Of w' b l := h.kept (grown_of_below hb) (by simp)
theorem of_drew {w : World} {b : Nat} {l : List Hd} (h : idPieces.Of w b l) : idPieces.Of w.drew b l := h.kept (grown_drewN w 1) (by simp)
theorem below_drew {n : Nat} {w w' : World} (h : Below n w w') : Below n w w'.drew := h.drew

set_option maxRecDepth 100000 in
set_option maxHeartbeats 4000000 in
theorem pGet_any {a : Nat → Addr} (x : Nat × Int) (p : Addr) (F : Nat → Prop) (l : List Hd) (w : World) (hx : WfID x) (hE : ErrE [4] w a) (hP : PBin0 w p F l) :
    Calls Tryd.prog 31 #[.pointer (some p), idV (x.1 : Nat) x.2] w fun e w' => ∃ ev, e = .returned (.tuple #[.string ⟨(hGet l x).1.toArray⟩, ev]) ∧ ErrIn w.heap.size w' a ev ((hGet l x).2, -1) ∧ Below w.heap.size w w' := by
  obtain ⟨B, b, rfl, hB, hM, hne, rfl⟩ := hP
  have hBl := hB.lt
  have hal := (Below.refl w.heap.size w).alloc (Nat.le_refl _) (.cells #[.int .u32 (x.1 : Nat), .int .i64 x.2] 37)
  have HG : Hid (∀ W', Below w.heap.size w W' → ∀ i, ([4] : List Nat).contains i = true → W'.cell? ⟨errG i, 0, none⟩ = some (sentV a i)) := fun W' hb i hi => (hE.below hb (Nat.le_refl _)).glob i hi
  cases hf : hFind l x with
  | none =>
    have e2 : Hid (hGet l x = ([], 5)) := by show _ = _; unfold hGet; rw [hf]
    have hn := hFind_not hf
    have hl : ∀ W : World, idPieces.Of W b l → (Instr.lookup 109 (.map (some b)) (idV (x.1 : Nat) x.2) true).run Tryd.prog W = .ok (.tuple #[pieceV (0, []), .bool false]) W := fun W h => h.look_none Tryd.underlying109 (pieceZero W) hx hn
    have hI := Blk.new w #[.int .u32 (x.1 : Nat), .int .i64 x.2] 37
    have hB1 := hB.next hal
    have hM1 := of_below hM hal
    go_enter Tryd.func31, Tryd.ntmps31
    go_wp2_with fail
    generalize hW : w.alloc (.cells #[.int .u32 (x.1 : Nat), .int .i64 x.2] 37) = W at *
    have hal2 := (Below.refl W.heap.size W).alloc (Nat.le_refl _) (.cells #[.string ⟨#[]⟩, .int .i64 0] 114)
    have hI2 := hI.next hal2
    have hB2 := hB1.next hal2
    have hM2 := of_below hM1 hal2
    have hP2 := Blk.new W #[.string ⟨#[]⟩, .int .i64 0] 114
    have hbw : Below w.heap.size w (W.alloc (.cells #[.string ⟨#[]⟩, .int .i64 0] 114)) := hal.trans (hal2.mono hal.size)
    have x0 := hI.cell (i := 0) rfl
    have x1 := hI.cell (i := 1) rfl
    have q0 := hB1.cell (i := 0) rfl
    have y0 := hI2.cell (i := 0) rfl
    have y1 := hI2.cell (i := 1) rfl
    have r0 := hB2.cell (i := 0) rfl
    have p0 := hP2.cell (i := 0) rfl
    have p1 := hP2.cell (i := 1) rfl
    have f0 := hP2.frozen 0
    have f1 := hP2.frozen 1
    have l1 := hl W.drew (of_drew hM1)
    have l2 := hl (W.alloc (.cells #[.string ⟨#[]⟩, .int .i64 0] 114)).drew (of_drew hM2)
    go_region
    all_goals
      go_wp2_with fail
      have hb3 := below_drew hbw
      have g4 : (W.alloc (.cells #[.string ⟨#[]⟩, .int .i64 0] 114)).drew.cell? ⟨4, 0, none⟩ = some (sentV a 4) := HG.out _ hb3 4 (by decide)
      generalize (W.alloc (.cells #[.string ⟨#[]⟩, .int .i64 0] 114)).drew = W3 at *
      go_region
      all_goals
        go_wp2_with fail
        go_ret2
        exact ⟨_, by rw [e2.out]; rfl, by rw [e2.out]; exact errIn_sent _ _ a 4 (by decide) rfl, below_drew hb3⟩
  | some k =>
    obtain ⟨hk, hm⟩ := hFind_mem_at hf
    have e2 : Hid (hGet l x = (l[k].2.2, 0)) := by show _ = _; unfold hGet; rw [hf]; simp [List.getElem?_eq_getElem hk]
    obtain ⟨⟨u, t⟩, hc⟩ : ∃ c, l[k].2 = c := ⟨_, rfl⟩
    rw [hc] at hm e2
    clear hc
    have hl : ∀ W : World, idPieces.Of W b l → (Instr.lookup 109 (.map (some b)) (idV (x.1 : Nat) x.2) true).run Tryd.prog W = .ok (.tuple #[pieceV (u, t), .bool true]) W := fun W h => h.look_some Tryd.underlying109 (pieceZero W) hm
    have hI := Blk.new w #[.int .u32 (x.1 : Nat), .int .i64 x.2] 37
    have hB1 := hB.next hal
    have hM1 := of_below hM hal
    go_enter Tryd.func31, Tryd.ntmps31
    go_wp2_with fail
    generalize hW : w.alloc (.cells #[.int .u32 (x.1 : Nat), .int .i64 x.2] 37) = W at *
    have hal2 := (Below.refl W.heap.size W).alloc (Nat.le_refl _) (.cells #[.string ⟨#[]⟩, .int .i64 0] 114)
    have hI2 := hI.next hal2
    have hB2 := hB1.next hal2
    have hM2 := of_below hM1 hal2
    have hP2 := Blk.new W #[.string ⟨#[]⟩, .int .i64 0] 114
    have hbw : Below w.heap.size w (W.alloc (.cells #[.string ⟨#[]⟩, .int .i64 0] 114)) := hal.trans (hal2.mono hal.size)
    have x0 := hI.cell (i := 0) rfl
    have x1 := hI.cell (i := 1) rfl
    have q0 := hB1.cell (i := 0) rfl
    have y0 := hI2.cell (i := 0) rfl
    have y1 := hI2.cell (i := 1) rfl
    have r0 := hB2.cell (i := 0) rfl
    have p0 := hP2.cell (i := 0) rfl
    have p1 := hP2.cell (i := 1) rfl
    have f0 := hP2.frozen 0
    have f1 := hP2.frozen 1
    have l1 := hl W.drew (of_drew hM1)
    have l2 := hl (W.alloc (.cells #[.string ⟨#[]⟩, .int .i64 0] 114)).drew (of_drew hM2)
    go_region
    all_goals
      have hal3 := (Below.refl W.heap.size W).alloc (Nat.le_refl _) (.cells #[.string ⟨t.toArray⟩, .int .i64 u] 114)
      have hP3 := Blk.new W #[.string ⟨t.toArray⟩, .int .i64 u] 114
      have hb3 := below_drew (hal.trans (hal3.mono hal.size))
      have t0 : (W.alloc (.cells #[.string ⟨t.toArray⟩, .int .i64 u] 114)).drew.cell? ⟨W.heap.size, 0, none⟩ = _ := hP3.cell (i := 0) rfl
      generalize (W.alloc (.cells #[.string ⟨t.toArray⟩, .int .i64 u] 114)).drew = W3 at *
      go_wp2_with fail
      go_ret2
      exact ⟨_, by rw [e2.out]; rfl, by rw [e2.out]; exact .inl ⟨rfl, rfl⟩, hb3⟩
end Go.Proofs.YteefjbdejcpepaaDoor
namespace Go.Proofs.YteefjbdejcpepaaDoor
open Go.RowKit Go.Maps

set_option maxRecDepth 100000 in
set_option maxHeartbeats 4000000 in
theorem pNew_any (w : World) : Calls Tryd.prog 28 #[] w fun e w' => ∃ p F, e = .returned (.pointer (some p)) ∧ PBin0 w' p F [] ∧ (∀ k, F k → w.heap.size ≤ k) ∧ Below w.heap.size w w' := by
  have hmm := @run_makeMap Tryd.prog
  have hb1 := (Below.refl w.heap.size w).alloc (Nat.le_refl _) (.map #[] 0)
  have hM := MapKit.Of.made idPieces w
  have hb2 := (Below.refl _ (w.alloc (.map #[] 0))).alloc (Nat.le_refl _) (.cells #[.map (some w.heap.size)] 111)
  have hB := Blk.new (w.alloc (.map #[] 0)) #[.map (some w.heap.size)] 111
  have hs : (w.alloc (.map #[] 0)).heap.size = w.heap.size + 1 := by simp
  rw [hs] at hB
  go_enter Tryd.func28, Tryd.ntmps28
  go_wp2_with fail
  go_ret
  exact ⟨⟨w.heap.size + 1, 0, none⟩, _, rfl, ⟨w.heap.size + 1, w.heap.size, rfl, hB, of_below hM hb2, by omega, rfl⟩, fun k hk => by rcases hk with rfl | rfl <;> omega, hb1.trans (hb2.mono hb1.size)⟩

set_option maxRecDepth 100000 in
set_option maxHeartbeats 4000000 in
theorem clone_any (b : Nat) (l : List Hd) (w : World) (h : idPieces.Of w b l) :
    Calls Tryd.prog 74 #[.map (some b)] w fun e w' => e = .returned (.map (some w.heap.size)) ∧ idPieces.Of w' w.heap.size l ∧ Below w.heap.size w w' := by
  obtain ⟨es, clock, hb⟩ := h.isMap
  have hq := fun w => run_eql_map_nil_sl (P := Tryd.prog) w 109 _ _ (some b) Tryd.underlying109
  go_enter Tryd.func74, Tryd.ntmps74
  go_wp2_with fail
  rw [run_callFunc_extern Tryd.func99 (by kernel_rfl) (by kernel_rfl) (by kernel_rfl) (e := Extern.MapsClone.clone) (by kernel_rfl), run_maps_clone_sl w 109 hb]
  simp only [Result.andThen]
  rw [Oper.upon_value]
  go_wp2_with fail
  rw [run_typeAssert_map_sl _ 109 20 _ _ _ Tryd.underlying109]
  simp only [Result.andThen]
  rw [Oper.upon_value]
  go_wp2_with fail
  go_ret
  exact ⟨rfl, h.moved ((World.alloc_heap_new w _).trans hb.symm), (Below.refl _ w).alloc (Nat.le_refl _) _⟩

set_option maxRecDepth 100000 in
set_option maxHeartbeats 4000000 in
theorem pCopy_any (p : Addr) (F : Nat → Prop) (l : List Hd) (w : World) (hP : PBin0 w p F l) :
    Calls Tryd.prog 43 #[.pointer (some p)] w fun e w' => ∃ p' F', e = .returned (.pointer (some p')) ∧ PBin0 w' p' F' l ∧ (∀ k, F' k → w.heap.size ≤ k) ∧ Below w.heap.size w w' := by
  obtain ⟨B, b, rfl, hB, hM, hne, rfl⟩ := hP
  have q0 := hB.cell (i := 0) rfl
  have hc := clone_any b l w hM
  go_enter Tryd.func43, Tryd.ntmps43
  go_wp2_with fail
  refine hc.mono ?_
  rintro e w1 ⟨rfl, hM1, hb1⟩
  have hb2 := (Below.refl _ w1).alloc (Nat.le_refl _) (.cells #[.map (some w.heap.size)] 111)
  have hB2 := Blk.new w1 #[.map (some w.heap.size)] 111
  have hM2 := of_below hM1 hb2
  have hl := hM1.lt
  go_wp2_with fail
  go_ret
  exact ⟨⟨w1.heap.size, 0, none⟩, _, rfl, ⟨w1.heap.size, w.heap.size, rfl, hB2, hM2, by omega, rfl⟩, fun k hk => by rcases hk with rfl | rfl <;> omega, hb1.trans (hb2.mono hb1.size)⟩

theorem hSize_cons (h : Hd) (l : List Hd) : hSize (h :: l) = h.1.2 + hSize l := by simp [hSize]
theorem hSize_perm {a b : List Hd} (h : a.Perm b) : hSize a = hSize b := by
  induction h with
  | nil => rfl
  | cons x _ ih => rw [hSize_cons, hSize_cons, ih]
  | swap x y l => rw [hSize_cons, hSize_cons, hSize_cons, hSize_cons]; omega
  | trans _ _ h1 h2 => rw [h1, h2]
theorem hSize_filter_bound {U : Int} {l : List Hd} (h : BinOk U l) (p : Hd → Bool) : 0 ≤ hSize (l.filter p) ∧ hSize (l.filter p) ≤ 16000 := by
  have h1 := hSize_bound (l.filter p) 64 (by decide) (fun x hx => h.lens x (List.mem_filter.1 hx).1)
  have h2 := List.length_filter_le p l
  have h3 := h.many
  omega

set_option maxRecDepth 100000 in
set_option maxHeartbeats 4000000 in
theorem pSize_any (p : Addr) (F : Nat → Prop) (l : List Hd) (w : World) (hok : BinOk 1000000 l) (hP : PBin0 w p F l) :
    Calls Tryd.prog 37 #[.pointer (some p)] w fun e w' => e = .returned (.int .i64 (hSize l)) ∧ Below w.heap.size w w' := by
  obtain ⟨B, b, rfl, hB, hM, hne, rfl⟩ := hP
  have q0 := hB.cell (i := 0) rfl
  have hap := hM.apart
  have hbl := hM.lt
  have HOK : Hid (BinOk 1000000 l) := hok
  clear hok
  go_enter Tryd.func37, Tryd.ntmps37
  go_wp2_with (first
    | (at_range; refine wp_range_kit idPieces _ rfl _ 109 rfl 114 Tryd.underlying109 b l rfl hM ?_; intro w0 hr0 hg0 hs0)
    | go_in)
  go_frame
  go_loopw [3, 10] (fun n _ wr => ∃ (left : Nat × Int → Bool) (cnt : Nat), n = .int .i64 (hSize (l.filter (fun h => !left h.1))) ∧ idPieces.Rng wr b w.heap.size l left cnt ∧ w.grownBy wr none) (fun _ _ wr => wr.rangeLeft b w.heap.size)
  case atStart =>
    refine ⟨_, _, ?_, hr0, hg0⟩
    rw [List.filter_eq_nil_iff.2 (fun h hm => by simp only [Bool.not_eq_true', Bool.not_eq_false, decide_eq_true_eq]; simp; exact ⟨_, _, hm⟩)]
    rfl
  case round =>
    obtain ⟨left, cnt, rfl, hrg, hgw⟩ := hrel
    obtain ⟨n1, n2⟩ := hSize_filter_bound HOK.out (fun h => !left h.1)
    obtain ⟨N, hN⟩ : ∃ N, hSize (l.filter (fun h => !left h.1)) = N := ⟨_, rfl⟩
    have HN : Hid (hSize (l.filter (fun h => !left h.1)) = N) := hN
    rw [hN] at n1 n2 ⊢
    clear hN
    go_wp2_with (first
      | (at_next; refine wp_next_kit idPieces _ rfl _ rfl b w.heap.size l left cnt rfl hrg ?_ ?_)
      | go_in)
    · intro h0
      go_wp2_with fail
      go_ret
      refine ⟨?_, below_of_grown hgw⟩
      rw [← HN.out, List.filter_eq_self.2 (fun h hm => by have := h0 h.1.1 h.1.2 h.2.1 h.2.2 hm; simp [this])]
      rfl
    · intro xp xl u t w1 cnt1 hm hlx hrg1 hlt hg1 hs1 hen
      change (Instr.entry (.pointer (some ⟨w.heap.size, 0, none⟩))).run Tryd.prog w1 = .ok (.tuple #[idV (xp : Nat) xl, pieceV (u, t)]) w1 at hen
      have hfl := filter_flip hap (p := left) hm hlx
      have HS : Hid (hSize (l.filter (fun y => !(left y.1 && !decide (y.1 = (xp, xl))))) = xl + N) := by
        show _ = _
        rw [hSize_perm hfl, hSize_cons, HN.out]
      obtain ⟨m1, m2⟩ := hSize_filter_bound HOK.out (fun y => !(left y.1 && !decide (y.1 = (xp, xl))))
      rw [HS.out] at m1 m2
      have hw : IntKind.i64.wrap (N + xl) = N + xl := by rw [IntKind.wrap_i64]; omega
      have hgw1 := hgw.andThen hg1 (fun j hj => by cases hj; exact .inl (Nat.le_refl _))
      have hal := World.grownBy_alloc w1 (.cells #[.int .u32 (xp : Nat), .int .i64 xl] 37) none
      have hrg2 := hrg1.kept hal (by simp) (by simp)
      have i1 := (Blk.new w1 #[.int .u32 (xp : Nat), .int .i64 xl] 37).cell (i := 1) rfl
      have hgw2 := hgw1.andThen hal (fun j hj => by cases hj)
      clear hfl hM hB hr0 hg0
      go_wp2_with fail
      go_roundw
      case rel => exact ⟨_, cnt1, by rw [HS.out, Int.add_comm], hrg2, hgw2⟩
      case measure => rw [hrg2.left_eq, hrg.left_eq]; exact hlt
end Go.Proofs.YteefjbdejcpepaaDoor
namespace Go.Proofs.YteefjbdejcpepaaDoor
open Go.RowKit Go.Maps

theorem grown_drew {w w' : World} {row : Option Nat} (h : w.drew.grownBy w' row) : w.grownBy w' row := ⟨h.os, h.tape, h.output, h.size, h.block⟩

set_option maxRecDepth 100000 in
set_option maxHeartbeats 4000000 in
theorem pDrop_any {a : Nat → Addr} (x : Nat × Int) (p : Addr) (F : Nat → Prop) (l : List Hd) (w : World) (hx : WfID x) (hok : BinOk 1000000 l) (hE : ErrE [4, 10] w a) (hP : PBin0 w p F l) :
    Calls Tryd.prog 36 #[.pointer (some p), idV (x.1 : Nat) x.2] w fun e w' => ∃ ev F', e = .returned ev ∧ ErrIn w.heap.size w' a ev ((hDrop l x).1, -1) ∧ PBin0 w' p F' (hDrop l x).2 ∧ (∀ k, F' k → F k ∨ w.heap.size ≤ k) ∧ Off F w w' := by
  obtain ⟨B, b, rfl, hB, hM, hne, rfl⟩ := hP
  have hBl := hB.lt
  have hal := (Below.refl w.heap.size w).alloc (Nat.le_refl _) (.cells #[.int .u32 (x.1 : Nat), .int .i64 x.2] 37)
  have HG : Hid (∀ W', Below w.heap.size w W' → ∀ i, ([4, 10] : List Nat).contains i = true → W'.cell? ⟨errG i, 0, none⟩ = some (sentV a i)) := fun W' hb i hi => (hE.below hb (Nat.le_refl _)).glob i hi
  have HB0 : Hid (∀ W, Below w.heap.size w W → PBin0 W ⟨B, 0, none⟩ (fun k => k = B ∨ k = b) l) := fun W h => PBin0.off ⟨B, b, rfl, hB, hM, hne, rfl⟩ (Off.of_below (F := fun _ => False) h) (fun _ _ h => h)
  cases hf : hFind l x with
  | none =>
    have e2 : Hid (hDrop l x = (5, l)) := by show _ = _; unfold hDrop; rw [hf]
    have hn := hFind_not hf
    have hl : ∀ W : World, idPieces.Of W b l → (Instr.lookup 109 (.map (some b)) (idV (x.1 : Nat) x.2) true).run Tryd.prog W = .ok (.tuple #[pieceV (0, []), .bool false]) W := fun W h => h.look_none Tryd.underlying109 (pieceZero W) hx hn
    have hI := Blk.new w #[.int .u32 (x.1 : Nat), .int .i64 x.2] 37
    have hB1 := hB.next hal
    have hM1 := of_below hM hal
    go_enter Tryd.func36, Tryd.ntmps36
    go_wp2_with fail
    generalize hW : w.alloc (.cells #[.int .u32 (x.1 : Nat), .int .i64 x.2] 37) = W at *
    have hal2 := (Below.refl W.heap.size W).alloc (Nat.le_refl _) (.cells #[.string ⟨#[]⟩, .int .i64 0] 114)
    have hI2 := hI.next hal2
    have hB2 := hB1.next hal2
    have hM2 := of_below hM1 hal2
    have hP2 := Blk.new W #[.string ⟨#[]⟩, .int .i64 0] 114
    have hbw : Below w.heap.size w (W.alloc (.cells #[.string ⟨#[]⟩, .int .i64 0] 114)) := hal.trans (hal2.mono hal.size)
    have x0 := hI.cell (i := 0) rfl
    have x1 := hI.cell (i := 1) rfl
    have q0 := hB1.cell (i := 0) rfl
    have y0 := hI2.cell (i := 0) rfl
    have y1 := hI2.cell (i := 1) rfl
    have r0 := hB2.cell (i := 0) rfl
    have p0 := hP2.cell (i := 0) rfl
    have p1 := hP2.cell (i := 1) rfl
    have f0 := hP2.frozen 0
    have f1 := hP2.frozen 1
    have l1 := hl W.drew (of_drew hM1)
    have l2 := hl (W.alloc (.cells #[.string ⟨#[]⟩, .int .i64 0] 114)).drew (of_drew hM2)
    go_region
    all_goals
      have hb3 := below_drew hbw
      have g4 : (W.alloc (.cells #[.string ⟨#[]⟩, .int .i64 0] 114)).drew.cell? ⟨4, 0, none⟩ = some (sentV a 4) := HG.out _ hb3 4 (by decide)
      generalize (W.alloc (.cells #[.string ⟨#[]⟩, .int .i64 0] 114)).drew = W3 at *
      go_wp2_with fail
      go_ret
      exact ⟨_, _, rfl, by rw [e2.out]; exact errIn_sent _ _ a 4 (by decide) rfl, by rw [e2.out]; exact HB0.out _ hb3, fun k hk => .inl hk, Off.of_below hb3⟩
  | some k =>
    obtain ⟨hk, hm⟩ := hFind_mem_at hf
    obtain ⟨_, hxe⟩ := hFind_some hf
    have e2 : Hid (hDrop l x = if l[k].2.1 = 0 then (11, l) else (0, l.modify k (hUse (-1)))) := by
      show _ = _
      unfold hDrop
      rw [hf]
      simp [List.getElem?_eq_getElem hk]
    have hmp := modify_perm (-1) l k hk hM.apart
    rw [hxe] at hmp
    obtain ⟨hu0, hu1⟩ := hok.uses (Int.le_refl _) _ (List.getElem_mem hk)
    have hmany := hok.many
    obtain ⟨⟨u, t⟩, hc⟩ : ∃ c, l[k].2 = c := ⟨_, rfl⟩
    rw [hc] at hm e2 hmp hu0 hu1
    simp only at e2 hmp hu0 hu1
    clear hc
    have hl : ∀ W : World, idPieces.Of W b l → (Instr.lookup 109 (.map (some b)) (idV (x.1 : Nat) x.2) true).run Tryd.prog W = .ok (.tuple #[pieceV (u, t), .bool true]) W := fun W h => h.look_some Tryd.underlying109 (pieceZero W) hm
    have hI := Blk.new w #[.int .u32 (x.1 : Nat), .int .i64 x.2] 37
    have hB1 := hB.next hal
    have hM1 := of_below hM hal
    go_enter Tryd.func36, Tryd.ntmps36
    go_wp2_with fail
    generalize hW : w.alloc (.cells #[.int .u32 (x.1 : Nat), .int .i64 x.2] 37) = W at *
    have hal2 := (Below.refl W.heap.size W).alloc (Nat.le_refl _) (.cells #[.string ⟨#[]⟩, .int .i64 0] 114)
    have hI2 := hI.next hal2
    have hB2 := hB1.next hal2
    have hM2 := of_below hM1 hal2
    have hP2 := Blk.new W #[.string ⟨#[]⟩, .int .i64 0] 114
    have hbw : Below w.heap.size w (W.alloc (.cells #[.string ⟨#[]⟩, .int .i64 0] 114)) := hal.trans (hal2.mono hal.size)
    have x0 := hI.cell (i := 0) rfl
    have x1 := hI.cell (i := 1) rfl
    have q0 := hB1.cell (i := 0) rfl
    have y0 := hI2.cell (i := 0) rfl
    have y1 := hI2.cell (i := 1) rfl
    have r0 := hB2.cell (i := 0) rfl
    have p0 := hP2.cell (i := 0) rfl
    have p1 := hP2.cell (i := 1) rfl
    have f0 := hP2.frozen 0
    have f1 := hP2.frozen 1
    have l1 := hl W.drew (of_drew hM1)
    have l2 := hl (W.alloc (.cells #[.string ⟨#[]⟩, .int .i64 0] 114)).drew (of_drew hM2)
    go_region
    all_goals
      have hal3 := (Below.refl W.heap.size W).alloc (Nat.le_refl _) (.cells #[.string ⟨t.toArray⟩, .int .i64 u] 114)
      have hP3 := Blk.new W #[.string ⟨t.toArray⟩, .int .i64 u] 114
      have hI3 := hI.next hal3
      have hB3 := hB1.next hal3
      have hM3 := of_drew (of_below hM1 hal3)
      have hb3 := below_drew (hal.trans (hal3.mono hal.size))
      have hPd : Blk (W.alloc (.cells #[.string ⟨t.toArray⟩, .int .i64 u] 114)).drew W.heap.size #[.string ⟨t.toArray⟩, .int .i64 u] 114 := hP3
      have hId : Blk (W.alloc (.cells #[.string ⟨t.toArray⟩, .int .i64 u] 114)).drew w.heap.size #[.int .u32 (x.1 : Nat), .int .i64 x.2] 37 := hI3
      have hBd : Blk (W.alloc (.cells #[.string ⟨t.toArray⟩, .int .i64 u] 114)).drew B #[.map (some b)] 111 := hB3
      generalize (W.alloc (.cells #[.string ⟨t.toArray⟩, .int .i64 u] 114)).drew = W3 at *
      have hIW : w.heap.size < W.heap.size := hI.lt
      have g10 : W3.cell? ⟨10, 0, none⟩ = some (sentV a 10) := HG.out _ hb3 10 (by decide)
      have t0 := hPd.cell (i := 0) rfl
      have t1 := hPd.cell (i := 1) rfl
      have ft := hPd.frozen 1
      clear hl l1 l2 hP2 hbw hal2 hI2 hB2 hM2 x0 x1 q0 y0 y1 r0 p0 p1 f0 f1 hP3 hI3 hB3
      by_cases hz : u = 0
      · subst hz
        have e3 : Hid (hDrop l x = (11, l)) := by show _ = _; rw [e2.out, if_pos rfl]
        clear e2
        go_wp2_with fail
        go_ret
        exact ⟨_, _, rfl, by rw [e3.out]; exact errIn_sent _ _ a 10 (by decide) rfl, by rw [e3.out]; exact HB0.out _ hb3, fun k hk => .inl hk, Off.of_below hb3⟩
      · have e3 : Hid (hDrop l x = (0, l.modify k (hUse (-1)))) := by show _ = _; rw [e2.out, if_neg hz]
        clear e2
        have hu1' : IntKind.i64.wrap (u - 1) = u - 1 := by rw [IntKind.wrap_i64]; omega
        have hS3 := hPd.set 1 (.int .i64 (u - 1))
        have hneI : w.heap.size ≠ W.heap.size := by omega
        have hneB : B ≠ W.heap.size := by omega
        have hIs := hId.other (a := ⟨W.heap.size, 1, none⟩) hneI (.int .i64 (u - 1))
        have hBs := hBd.other (a := ⟨W.heap.size, 1, none⟩) hneB (.int .i64 (u - 1))
        have hgs : W3.grownBy (W3.setCell ⟨W.heap.size, 1, none⟩ (.int .i64 (u - 1))) (some W.heap.size) := grown_set (grown_refl W3 _) 1 _
        have hbl := hM1.lt
        have hMs := of_drew (hM3.kept hgs (fun e => by have := Option.some.inj e; omega))
        have hb4 : Below w.heap.size w (W3.setCell ⟨W.heap.size, 1, none⟩ (.int .i64 (u - 1))) := hb3.setCell (p := ⟨W.heap.size, 1, none⟩) (by show w.heap.size ≤ W.heap.size; omega) _
        obtain ⟨w5, hs, hOf, hg5⟩ := hMs.store Tryd.underlying109 hx (u - 1, t) (by unfold maxLen; omega)
        change (Instr.mapUpdate 109 (.map (some b)) (idV (x.1 : Nat) x.2) (pieceV (u - 1, t))).run Tryd.prog _ = _ at hs
        have s0 := hS3.cell (i := 0) rfl
        have s1 := hS3.cell (i := 1) rfl
        have i0 := hIs.cell (i := 0) rfl
        have i1 := hIs.cell (i := 1) rfl
        have b0 := hBs.cell (i := 0) rfl
        have HOF := hOf _ hmp
        have hg5' := grown_drew hg5
        have HQ : Hid (PBin0 w5 ⟨B, 0, none⟩ (fun k => k = B ∨ k = b) (l.modify k (hUse (-1))) ∧ Off (fun k => k = B ∨ k = b) w w5) :=
          ⟨⟨B, b, rfl, (hg5'.block B hBs.lt (fun e => hne (Option.some.inj e))).trans hBs, HOF, hne, rfl⟩, (Off.of_below hb4).trans (off_of_grown hg5' (.inr rfl)) (fun _ _ h => h)⟩
        clear HOF hOf hg5 hg5' hMs hmp hS3 hIs hBs hgs
        go_wp2_with fail
        go_region
        all_goals
          go_wp2_with fail
          go_ret
          rw [e3.out]
          exact ⟨_, _, rfl, .inl ⟨rfl, rfl⟩, HQ.out.1, fun k hk => .inl hk, HQ.out.2⟩
end Go.Proofs.YteefjbdejcpepaaDoor
namespace Go.Proofs.YteefjbdejcpepaaDoor
open Go.RowKit Go.Maps

def isPc (n : Nat) : Bool := decide (1 ≤ n ∧ n ≤ 64)
set_option maxRecDepth 100000 in
set_option maxHeartbeats 4000000 in
theorem isPiece_any (s : ByteArray) (w : World) (hs : s.size ≤ 50000) : Calls Tryd.prog 66 #[.string s] w fun e w' => e = .returned (.bool (isPc s.size)) ∧ w' = w := by
  by_cases h0 : s = ⟨#[]⟩
  · subst h0
    go_enter Tryd.func66, Tryd.ntmps66
    go_wp2_with fail
    go_ret
    exact ⟨rfl, rfl⟩
  · have hn : s.size ≠ 0 := fun e => h0 (by
      have : s.data = #[] := Array.eq_empty_of_size_eq_zero e
      cases s
      simp_all)
    have hne : ¬ s.toList = [] := fun e => by
      rw [ByteArray.toList_eq] at e
      apply hn
      have : s.data.toList.length = 0 := by rw [e]; rfl
      simpa using this
    by_cases h64 : s.size ≤ 64
    · have h64' : (s.size : Int) ≤ 64 := by omega
      have hp : Hid (isPc s.size = true) := decide_eq_true ⟨by omega, h64⟩
      go_enter Tryd.func66, Tryd.ntmps66
      go_wp2_with fail
      go_ret
      refine ⟨?_, rfl⟩
      rw [hp.out]
      show Ending.returned (Value.bool (!s.toList.isEmpty)) = _
      rw [List.isEmpty_eq_false_iff.2 hne]
      rfl
    · have h64' : ¬ (s.size : Int) ≤ 64 := by omega
      have hp : Hid (isPc s.size = false) := decide_eq_false (fun h => h64 h.2)
      go_enter Tryd.func66, Tryd.ntmps66
      go_wp2_with fail
      go_ret
      exact ⟨by rw [hp.out]; rfl, rfl⟩
set_option maxRecDepth 100000 in
theorem cloneText_any (s : ByteArray) (w : World) (hs : s.size ≤ 50000) : Calls Tryd.prog 79 #[.string s] w fun e w' => e = .returned (.string s) ∧ Below w.heap.size w w' := by
  go_enter Tryd.func79, Tryd.ntmps79
  go_wp2_with (go_at_call 104; refine (Tryd.stringslite_Clone s _ (by omega)).mono ?_; rintro e w1 ⟨rfl, hb1⟩)
  go_ret
  exact ⟨rfl, hb1⟩
set_option maxRecDepth 100000 in
set_option maxHeartbeats 4000000 in
theorem newPiece_any (s : ByteArray) (u : Int) (w : World) (hs : s.size ≤ 50000) : Calls Tryd.prog 67 #[.string s, .int .i64 u] w fun e w' => e = .returned (.agg #[.string s, .int .i64 u]) ∧ Below w.heap.size w w' := by
  have hal := (Below.refl w.heap.size w).alloc (Nat.le_refl _) (.cells #[.string ⟨#[]⟩, .int .i64 0] 114)
  have hB := Blk.new w #[.string ⟨#[]⟩, .int .i64 0] 114
  go_enter Tryd.func67, Tryd.ntmps67
  go_wp2_with (go_at_call 79; refine (cloneText_any s _ hs).mono ?_; rintro e w1 ⟨rfl, hb1⟩; have hB1 := hB.next hb1; have c0 := hB1.cell (i := 0) rfl; have c1 := hB1.cell (i := 1) rfl; have f0 := hB1.frozen 0; have f1 := hB1.frozen 1)
  have hS := (hB1.set 0 (.string s)).set 1 (.int .i64 u)
  have d0 := hS.cell (i := 0) rfl
  have d1 := hS.cell (i := 1) rfl
  have hb2 : Below w.heap.size w ((w1.setCell ⟨w.heap.size, 0, none⟩ (.string s)).setCell ⟨w.heap.size, 1, none⟩ (.int .i64 u)) := ((hal.trans (hb1.mono hal.size)).setCell (p := ⟨w.heap.size, 0, none⟩) (Nat.le_refl _) _).setCell (p := ⟨w.heap.size, 1, none⟩) (Nat.le_refl _) _
  generalize ((w1.setCell ⟨w.heap.size, 0, none⟩ (.string s)).setCell ⟨w.heap.size, 1, none⟩ (.int .i64 u)) = W at *
  exact bodyPost_ret (v := .agg #[.string s, .int .i64 u]) (by simp [results, Tryd.results67, go_sem, d0, d1]) rfl ⟨rfl, hb2⟩

def PPost (a : Nat → Addr) (w : World) (p : Addr) (F : Nat → Prop) (r : ((Nat × Int) × Bool × Int) × List Hd) (e : Ending) (w' : World) : Prop :=
  ∃ ev F', e = .returned (.tuple #[idV (r.1.1.1 : Nat) r.1.1.2, .bool r.1.2.1, ev]) ∧ ErrIn w.heap.size w' a ev (r.1.2.2, -1) ∧ PBin0 w' p F' r.2 ∧ (∀ k, F' k → F k ∨ w.heap.size ≤ k) ∧ Off F w w'

theorem hIns_perm (l : List Hd) (h : Hd) : (hIns l h).Perm (h :: l) := by
  unfold hIns
  refine List.perm_middle.trans ?_
  rw [List.take_append_drop]

set_option maxRecDepth 100000 in
set_option maxHeartbeats 4000000 in
theorem pPut_bound {a : Nat → Addr} (s : ByteArray) (p : Addr) (F : Nat → Prop) (l : List Hd) (w : World) (hs : s.size ≤ 50000) (hE : ErrE [1, 6, 9] w a) (hP : PBin0 w p F l) (hn : ¬ (1 ≤ s.size ∧ s.size ≤ 64)) :
    Calls Tryd.prog 30 #[.pointer (some p), .string s] w (PPost a w p F (hPut l s.data.toList)) := by
  obtain ⟨B, b, rfl, hB, hM, hne, rfl⟩ := hP
  have hBl := hB.lt
  have hbl := hM.lt
  have hal := (Below.refl w.heap.size w).alloc (Nat.le_refl _) (.cells #[.int .u32 0, .int .i64 0] 37)
  have hR := Blk.new w #[.int .u32 0, .int .i64 0] 37
  have HG : Hid (∀ W', Below w.heap.size w W' → ∀ i, ([1, 6, 9] : List Nat).contains i = true → W'.cell? ⟨errG i, 0, none⟩ = some (sentV a i)) := fun W' hb i hi => (hE.below hb (Nat.le_refl _)).glob i hi
  have HB0 : Hid (∀ W, Below w.heap.size w W → PBin0 W ⟨B, 0, none⟩ (fun k => k = B ∨ k = b) l) := fun W h => PBin0.off ⟨B, b, rfl, hB, hM, hne, rfl⟩ (Off.of_below (F := fun _ => False) h) (fun _ _ h => h)
  have hsl : s.data.toList.length = s.size := by rw [Array.length_toList]; rfl
  have e2 : Hid (hPut l s.data.toList = (((0, 0), false, 2), l)) := by
    show _ = _
    unfold hPut
    rw [if_pos (by rw [hsl]; omega)]
  have HPC : Hid (isPc s.size = false) := decide_eq_false hn
  have g1 : (w.alloc (.cells #[.int .u32 0, .int .i64 0] 37)).cell? ⟨1, 0, none⟩ = some (sentV a 1) := HG.out _ hal 1 (by decide)
  have z0 := hR.cell (i := 0) rfl
  have z1 := hR.cell (i := 1) rfl
  have f0 := hR.frozen 0
  have f1 := hR.frozen 1
  have hip := isPiece_any s (w.alloc (.cells #[.int .u32 0, .int .i64 0] 37)) hs
  rw [HPC.out] at hip
  go_enter Tryd.func30, Tryd.ntmps30
  go_wp2_with (go_at_call 66; refine hip.mono ?_; rintro e w' ⟨rfl, rfl⟩)
  go_region
  all_goals
    have hb := below_drew hal
    go_wp2_with fail
    exact bodyPost_ret (v := .tuple #[idV 0 0, .bool false, sentV a 1]) (by simp [results, Tryd.results30, go_sem, z0, z1]) rfl ⟨_, _, by rw [e2.out]; rfl, by rw [e2.out]; exact errIn_sent _ _ a 1 (by decide) rfl, by rw [e2.out]; exact HB0.out _ hb, fun k hk => .inl hk, Off.of_below hb⟩

set_option maxRecDepth 100000 in
set_option maxHeartbeats 4000000 in
theorem pPut_full {a : Nat → Addr} (s : ByteArray) (p : Addr) (F : Nat → Prop) (l : List Hd) (w : World) (hs : s.size ≤ 50000) (hE : ErrE [1, 6, 9] w a) (hP : PBin0 w p F l) (hs1 : 1 ≤ s.size) (hs2 : s.size ≤ 64) (hf : hFind l (idOfL s.data.toList) = none) (hfull : 250 ≤ l.length) :
    Calls Tryd.prog 30 #[.pointer (some p), .string s] w (PPost a w p F (hPut l s.data.toList)) := by
  obtain ⟨B, b, rfl, hB, hM, hne, rfl⟩ := hP
  have hBl := hB.lt
  have hbl := hM.lt
  have hal := (Below.refl w.heap.size w).alloc (Nat.le_refl _) (.cells #[.int .u32 0, .int .i64 0] 37)
  have hR := Blk.new w #[.int .u32 0, .int .i64 0] 37
  have HG : Hid (∀ W', Below w.heap.size w W' → ∀ i, ([1, 6, 9] : List Nat).contains i = true → W'.cell? ⟨errG i, 0, none⟩ = some (sentV a i)) := fun W' hb i hi => (hE.below hb (Nat.le_refl _)).glob i hi
  have HB0 : Hid (∀ W, Below w.heap.size w W → PBin0 W ⟨B, 0, none⟩ (fun k => k = B ∨ k = b) l) := fun W h => PBin0.off ⟨B, b, rfl, hB, hM, hne, rfl⟩ (Off.of_below (F := fun _ => False) h) (fun _ _ h => h)
  have hsl : s.data.toList.length = s.size := by rw [Array.length_toList]; rfl
  have e2 : Hid (hPut l s.data.toList = (((0, 0), false, 7), l)) := by
    show _ = _
    unfold hPut
    rw [if_neg (by rw [hsl]; omega), hf]
    simp only [if_pos hfull]
  have HPC : Hid (isPc s.size = true) := decide_eq_true ⟨hs1, hs2⟩
  have hip := isPiece_any s (w.alloc (.cells #[.int .u32 0, .int .i64 0] 37)) hs
  rw [HPC.out] at hip
  have hid := id_any s (w.alloc (.cells #[.int .u32 0, .int .i64 0] 37)) (by unfold maxLen; omega)
  obtain ⟨P, hP⟩ : ∃ P, pmore 2166136261 s.data.toList = P := ⟨_, rfl⟩
  have HX : Hid (idOfL s.data.toList = (P, (s.size : Int))) := by show _ = _; unfold idOfL; rw [hP, hsl]
  have hxw : WfID (P, (s.size : Int)) := ⟨by rw [← hP]; exact pmore_lt _ (by decide) _, by show (-9223372036854775808 : Int) ≤ s.size; omega, by show (s.size : Int) ≤ 9223372036854775807; omega⟩
  rw [hP] at hid
  rw [HX.out] at hf
  clear hP
  have hl : ∀ W : World, idPieces.Of W b l → (Instr.lookup 109 (.map (some b)) (idV (P : Nat) (s.size : Int)) true).run Tryd.prog W = .ok (.tuple #[pieceV (0, []), .bool false]) W := fun W h => h.look_none Tryd.underlying109 (pieceZero W) hxw (hFind_not hf)
  go_enter Tryd.func30, Tryd.ntmps30
  go_wp2_with (first
    | (go_at_call 66; refine hip.mono ?_; rintro e w' ⟨rfl, rfl⟩)
    | (go_at_call 20; refine hid.mono ?_; rintro e w1 ⟨rfl, hb1⟩))
  have hal1 : Below w.heap.size w w1 := hal.trans (hb1.mono hal.size)
  have halI := (Below.refl _ w1).alloc (Nat.le_refl _) (.cells #[.int .u32 (P : Nat), .int .i64 (s.size : Int)] 37)
  have hI := Blk.new w1 #[.int .u32 (P : Nat), .int .i64 (s.size : Int)] 37
  have hR1 := (hR.next hb1).next halI
  have hB1 := hB.next (hal1.trans (halI.mono hal1.size))
  have hM1 := of_below hM (hal1.trans (halI.mono hal1.size))
  have hbW := hal1.trans (halI.mono hal1.size)
  have hRI : w.heap.size < w1.heap.size := Nat.lt_of_lt_of_le hR.lt hb1.size
  generalize hW : w1.alloc (.cells #[.int .u32 (P : Nat), .int .i64 (s.size : Int)] 37) = W at *
  have hal2 := (Below.refl W.heap.size W).alloc (Nat.le_refl _) (.cells #[.string ⟨#[]⟩, .int .i64 0] 114)
  have hI2 := hI.next hal2
  have hB2 := hB1.next hal2
  have hM2 := of_below hM1 hal2
  have hP2 := Blk.new W #[.string ⟨#[]⟩, .int .i64 0] 114
  have x0 := hI.cell (i := 0) rfl
  have x1 := hI.cell (i := 1) rfl
  have q0 := hB1.cell (i := 0) rfl
  have y0 := hI2.cell (i := 0) rfl
  have y1 := hI2.cell (i := 1) rfl
  have r0 := hB2.cell (i := 0) rfl
  have p0 := hP2.cell (i := 0) rfl
  have p1 := hP2.cell (i := 1) rfl
  have f0 := hP2.frozen 0
  have f1 := hP2.frozen 1
  have l1 := hl W.drew (of_drew hM1)
  have l2 := hl (W.alloc (.cells #[.string ⟨#[]⟩, .int .i64 0] 114)).drew (of_drew hM2)
  go_region
  all_goals
    have hal3 := (Below.refl W.heap.size W).alloc (Nat.le_refl _) (.cells #[.string ⟨#[]⟩, .int .i64 0] 114)
    have hM3 := of_drew (of_below hM1 hal3)
    have hb3 := below_drew (hbW.trans (hal3.mono hbW.size))
    have hPd : Blk (W.alloc (.cells #[.string ⟨#[]⟩, .int .i64 0] 114)).drew W.heap.size #[.string ⟨#[]⟩, .int .i64 0] 114 := Blk.new W _ _
    have hId : Blk (W.alloc (.cells #[.string ⟨#[]⟩, .int .i64 0] 114)).drew w1.heap.size #[.int .u32 (P : Nat), .int .i64 (s.size : Int)] 37 := hI.next (below_drew hal3)
    have hRd : Blk (W.alloc (.cells #[.string ⟨#[]⟩, .int .i64 0] 114)).drew w.heap.size #[.int .u32 0, .int .i64 0] 37 := hR1.next (below_drew hal3)
    have hBd : Blk (W.alloc (.cells #[.string ⟨#[]⟩, .int .i64 0] 114)).drew B #[.map (some b)] 111 := hB1.next (below_drew hal3)
    generalize (W.alloc (.cells #[.string ⟨#[]⟩, .int .i64 0] 114)).drew = W3 at *
    have hIW : w1.heap.size < W.heap.size := hI.lt
    have t0 := hPd.cell (i := 0) rfl
    have t1 := hPd.cell (i := 1) rfl
    have ft0 := hPd.frozen 0
    have ft1 := hPd.frozen 1
    have z0 := hRd.cell (i := 0) rfl
    have z1 := hRd.cell (i := 1) rfl
    have fz0 := hRd.frozen 0
    have fz1 := hRd.frozen 1
    have v0 := hBd.cell (i := 0) rfl
    clear hl l1 l2 hP2 hal2 hI2 hB2 hM2 x0 x1 q0 y0 y1 r0 p0 p1 f0 f1 hip hid
    have g6 : W3.cell? ⟨6, 0, none⟩ = some (sentV a 6) := HG.out _ hb3 6 (by decide)
    have hfull' : (250 : Int) ≤ (l.length : Int) := by omega
    go_wp2_with (first
      | (at_len; refine wp_len_kit idPieces _ rfl _ 109 rfl 114 Tryd.underlying109 b l rfl hM3 ?_)
      | go_in)
    have hgl : 6 < w.heap.size := lt_of_cell (hE.glob 6 (by decide))
    have gx : (W3.setCell ⟨w.heap.size, 0, none⟩ (.int .u32 0)).cell? ⟨6, 0, none⟩ = some (sentV a 6) := cell_kept g6 (grown_set (grown_refl W3 (some w.heap.size)) 0 _) (lt_of_cell g6) (fun e => by have := Option.some.inj e; simp only at this; omega)
    have hRs := (hRd.set 0 (.int .u32 0)).set 1 (.int .i64 0)
    have s0 := hRs.cell (i := 0) rfl
    have s1 := hRs.cell (i := 1) rfl
    have hb4 := below_drew ((hb3.setCell (p := ⟨w.heap.size, 0, none⟩) (Nat.le_refl _) (.int .u32 0)).setCell (p := ⟨w.heap.size, 1, none⟩) (Nat.le_refl _) (.int .i64 0))
    clear hgl
    go_region
    all_goals
      go_wp2_with fail
      first
        | exact bodyPost_ret (v := .tuple #[idV 0 0, .bool false, sentV a 6]) (by simp [results, Tryd.results30, go_sem, s0, s1]) rfl ⟨_, _, by rw [e2.out]; rfl, by rw [e2.out]; exact errIn_sent _ _ a 6 (by decide) rfl, by rw [e2.out]; exact HB0.out _ hb4, fun k hk => .inl hk, Off.of_below hb4⟩
        | exact bodyPost_ret (v := .tuple #[idV 0 0, .bool false, sentV a 6]) (by simp [results, Tryd.results30, go_sem, z0, z1]) rfl ⟨_, _, by rw [e2.out]; rfl, by rw [e2.out]; exact errIn_sent _ _ a 6 (by decide) rfl, by rw [e2.out]; exact HB0.out _ (below_drew hb3), fun k hk => .inl hk, Off.of_below (below_drew hb3)⟩

set_option maxRecDepth 100000 in
set_option maxHeartbeats 4000000 in
theorem pPut_clash {a : Nat → Addr} (s : ByteArray) (p : Addr) (F : Nat → Prop) (l : List Hd) (w : World) (hs : s.size ≤ 50000) (hE : ErrE [1, 6, 9] w a) (hP : PBin0 w p F l) (hs1 : 1 ≤ s.size) (hs2 : s.size ≤ 64) (k : Nat) (u : Int) (t : List UInt8) (hf : hFind l (idOfL s.data.toList) = some k) (hk : k < l.length) (hkt : l[k].2 = (u, t)) (ht : t ≠ s.data.toList) :
    Calls Tryd.prog 30 #[.pointer (some p), .string s] w (PPost a w p F (hPut l s.data.toList)) := by
  obtain ⟨B, b, rfl, hB, hM, hne, rfl⟩ := hP
  have hBl := hB.lt
  have hbl := hM.lt
  have hal := (Below.refl w.heap.size w).alloc (Nat.le_refl _) (.cells #[.int .u32 0, .int .i64 0] 37)
  have hR := Blk.new w #[.int .u32 0, .int .i64 0] 37
  have HG : Hid (∀ W', Below w.heap.size w W' → ∀ i, ([1, 6, 9] : List Nat).contains i = true → W'.cell? ⟨errG i, 0, none⟩ = some (sentV a i)) := fun W' hb i hi => (hE.below hb (Nat.le_refl _)).glob i hi
  have HB0 : Hid (∀ W, Below w.heap.size w W → PBin0 W ⟨B, 0, none⟩ (fun k => k = B ∨ k = b) l) := fun W h => PBin0.off ⟨B, b, rfl, hB, hM, hne, rfl⟩ (Off.of_below (F := fun _ => False) h) (fun _ _ h => h)
  have hsl : s.data.toList.length = s.size := by rw [Array.length_toList]; rfl
  have e2 : Hid (hPut l s.data.toList = (((0, 0), false, 10), l)) := by
    show _ = _
    unfold hPut
    rw [if_neg (by rw [hsl]; omega), hf]
    simp only [List.getElem?_eq_getElem hk, Option.map_some, hkt]
    rw [if_neg (fun e => ht (Option.some.inj e))]
  have hm : (idOfL s.data.toList, (u, t)) ∈ l := by rw [← hkt]; exact (hFind_mem_at hf).2
  have hteq : (t == s.toList) = false := by
    rw [ByteArray.toList_eq, beq_eq_false_iff_ne]
    exact ht
  have hteq2 : ¬ t = s.toList := by
    rw [ByteArray.toList_eq]
    exact ht
  have HPC : Hid (isPc s.size = true) := decide_eq_true ⟨hs1, hs2⟩
  have hip := isPiece_any s (w.alloc (.cells #[.int .u32 0, .int .i64 0] 37)) hs
  rw [HPC.out] at hip
  have hid := id_any s (w.alloc (.cells #[.int .u32 0, .int .i64 0] 37)) (by unfold maxLen; omega)
  obtain ⟨P, hP⟩ : ∃ P, pmore 2166136261 s.data.toList = P := ⟨_, rfl⟩
  have HX : Hid (idOfL s.data.toList = (P, (s.size : Int))) := by show _ = _; unfold idOfL; rw [hP, hsl]
  have hxw : WfID (P, (s.size : Int)) := ⟨by rw [← hP]; exact pmore_lt _ (by decide) _, by show (-9223372036854775808 : Int) ≤ s.size; omega, by show (s.size : Int) ≤ 9223372036854775807; omega⟩
  rw [hP] at hid
  rw [HX.out] at hf hm
  clear hP
  have hl : ∀ W : World, idPieces.Of W b l → (Instr.lookup 109 (.map (some b)) (idV (P : Nat) (s.size : Int)) true).run Tryd.prog W = .ok (.tuple #[pieceV (u, t), .bool true]) W := fun W h => h.look_some Tryd.underlying109 (pieceZero W) hm
  go_enter Tryd.func30, Tryd.ntmps30
  go_wp2_with (first
    | (go_at_call 66; refine hip.mono ?_; rintro e w' ⟨rfl, rfl⟩)
    | (go_at_call 20; refine hid.mono ?_; rintro e w1 ⟨rfl, hb1⟩))
  have hal1 : Below w.heap.size w w1 := hal.trans (hb1.mono hal.size)
  have halI := (Below.refl _ w1).alloc (Nat.le_refl _) (.cells #[.int .u32 (P : Nat), .int .i64 (s.size : Int)] 37)
  have hI := Blk.new w1 #[.int .u32 (P : Nat), .int .i64 (s.size : Int)] 37
  have hR1 := (hR.next hb1).next halI
  have hB1 := hB.next (hal1.trans (halI.mono hal1.size))
  have hM1 := of_below hM (hal1.trans (halI.mono hal1.size))
  have hbW := hal1.trans (halI.mono hal1.size)
  have hRI : w.heap.size < w1.heap.size := Nat.lt_of_lt_of_le hR.lt hb1.size
  generalize hW : w1.alloc (.cells #[.int .u32 (P : Nat), .int .i64 (s.size : Int)] 37) = W at *
  have hal2 := (Below.refl W.heap.size W).alloc (Nat.le_refl _) (.cells #[.string ⟨#[]⟩, .int .i64 0] 114)
  have hI2 := hI.next hal2
  have hB2 := hB1.next hal2
  have hM2 := of_below hM1 hal2
  have hP2 := Blk.new W #[.string ⟨#[]⟩, .int .i64 0] 114
  have x0 := hI.cell (i := 0) rfl
  have x1 := hI.cell (i := 1) rfl
  have q0 := hB1.cell (i := 0) rfl
  have y0 := hI2.cell (i := 0) rfl
  have y1 := hI2.cell (i := 1) rfl
  have r0 := hB2.cell (i := 0) rfl
  have p0 := hP2.cell (i := 0) rfl
  have p1 := hP2.cell (i := 1) rfl
  have f0 := hP2.frozen 0
  have f1 := hP2.frozen 1
  have l1 := hl W.drew (of_drew hM1)
  have l2 := hl (W.alloc (.cells #[.string ⟨#[]⟩, .int .i64 0] 114)).drew (of_drew hM2)
  go_region
  all_goals
    have hal3 := (Below.refl W.heap.size W).alloc (Nat.le_refl _) (.cells #[.string ⟨t.toArray⟩, .int .i64 u] 114)
    have hM3 := of_drew (of_below hM1 hal3)
    have hb3 := below_drew (hbW.trans (hal3.mono hbW.size))
    have hPd : Blk (W.alloc (.cells #[.string ⟨t.toArray⟩, .int .i64 u] 114)).drew W.heap.size #[.string ⟨t.toArray⟩, .int .i64 u] 114 := Blk.new W _ _
    have hId : Blk (W.alloc (.cells #[.string ⟨t.toArray⟩, .int .i64 u] 114)).drew w1.heap.size #[.int .u32 (P : Nat), .int .i64 (s.size : Int)] 37 := hI.next (below_drew hal3)
    have hRd : Blk (W.alloc (.cells #[.string ⟨t.toArray⟩, .int .i64 u] 114)).drew w.heap.size #[.int .u32 0, .int .i64 0] 37 := hR1.next (below_drew hal3)
    have hBd : Blk (W.alloc (.cells #[.string ⟨t.toArray⟩, .int .i64 u] 114)).drew B #[.map (some b)] 111 := hB1.next (below_drew hal3)
    generalize (W.alloc (.cells #[.string ⟨t.toArray⟩, .int .i64 u] 114)).drew = W3 at *
    have hIW : w1.heap.size < W.heap.size := hI.lt
    have t0 := hPd.cell (i := 0) rfl
    have t1 := hPd.cell (i := 1) rfl
    have ft0 := hPd.frozen 0
    have ft1 := hPd.frozen 1
    have z0 := hRd.cell (i := 0) rfl
    have z1 := hRd.cell (i := 1) rfl
    have fz0 := hRd.frozen 0
    have fz1 := hRd.frozen 1
    have v0 := hBd.cell (i := 0) rfl
    clear hl l1 l2 hP2 hal2 hI2 hB2 hM2 x0 x1 q0 y0 y1 r0 p0 p1 f0 f1 hip hid
    have g9 : W3.cell? ⟨9, 0, none⟩ = some (sentV a 9) := HG.out _ hb3 9 (by decide)
    go_wp2_with fail
    have hgl : 9 < w.heap.size := lt_of_cell (hE.glob 9 (by decide))
    have gx : (W3.setCell ⟨w.heap.size, 0, none⟩ (.int .u32 0)).cell? ⟨9, 0, none⟩ = some (sentV a 9) := cell_kept g9 (grown_set (grown_refl W3 (some w.heap.size)) 0 _) (lt_of_cell g9) (fun e => by have := Option.some.inj e; simp only at this; omega)
    have hRs := (hRd.set 0 (.int .u32 0)).set 1 (.int .i64 0)
    have s0 := hRs.cell (i := 0) rfl
    have s1 := hRs.cell (i := 1) rfl
    have hb4 := below_drew ((hb3.setCell (p := ⟨w.heap.size, 0, none⟩) (Nat.le_refl _) (.int .u32 0)).setCell (p := ⟨w.heap.size, 1, none⟩) (Nat.le_refl _) (.int .i64 0))
    clear hgl
    go_region
    all_goals
      go_wp2_with fail
      first
        | exact bodyPost_ret (v := .tuple #[idV 0 0, .bool false, sentV a 9]) (by simp [results, Tryd.results30, go_sem, s0, s1]) rfl ⟨_, _, by rw [e2.out]; rfl, by rw [e2.out]; exact errIn_sent _ _ a 9 (by decide) rfl, by rw [e2.out]; exact HB0.out _ hb4, fun k hk => .inl hk, Off.of_below hb4⟩
        | exact bodyPost_ret (v := .tuple #[idV 0 0, .bool false, sentV a 9]) (by simp [results, Tryd.results30, go_sem, z0, z1]) rfl ⟨_, _, by rw [e2.out]; rfl, by rw [e2.out]; exact errIn_sent _ _ a 9 (by decide) rfl, by rw [e2.out]; exact HB0.out _ (below_drew hb3), fun k hk => .inl hk, Off.of_below (below_drew hb3)⟩

set_option maxRecDepth 100000 in
set_option maxHeartbeats 4000000 in
theorem pPut_same {a : Nat → Addr} (s : ByteArray) (p : Addr) (F : Nat → Prop) (l : List Hd) (w : World) (hs : s.size ≤ 50000) (hE : ErrE [1, 6, 9] w a) (hP : PBin0 w p F l) (hs1 : 1 ≤ s.size) (hs2 : s.size ≤ 64) (hmany : l.length ≤ 250) (k : Nat) (u : Int) (t : List UInt8) (hf : hFind l (idOfL s.data.toList) = some k) (hk : k < l.length) (hkt : l[k].2 = (u, t)) (ht : t = s.data.toList) (hu0 : 0 ≤ u) (hu1 : u ≤ 1000000) :
    Calls Tryd.prog 30 #[.pointer (some p), .string s] w (PPost a w p F (hPut l s.data.toList)) := by
  obtain ⟨B, b, rfl, hB, hM, hne, rfl⟩ := hP
  have hBl := hB.lt
  have hbl := hM.lt
  have hal := (Below.refl w.heap.size w).alloc (Nat.le_refl _) (.cells #[.int .u32 0, .int .i64 0] 37)
  have hR := Blk.new w #[.int .u32 0, .int .i64 0] 37
  have HG : Hid (∀ W', Below w.heap.size w W' → ∀ i, ([1, 6, 9] : List Nat).contains i = true → W'.cell? ⟨errG i, 0, none⟩ = some (sentV a i)) := fun W' hb i hi => (hE.below hb (Nat.le_refl _)).glob i hi
  have HB0 : Hid (∀ W, Below w.heap.size w W → PBin0 W ⟨B, 0, none⟩ (fun k => k = B ∨ k = b) l) := fun W h => PBin0.off ⟨B, b, rfl, hB, hM, hne, rfl⟩ (Off.of_below (F := fun _ => False) h) (fun _ _ h => h)
  have hsl : s.data.toList.length = s.size := by rw [Array.length_toList]; rfl
  have e2 : Hid (hPut l s.data.toList = ((idOfL s.data.toList, false, 0), l.modify k (hUse 1))) := by
    show _ = _
    unfold hPut
    rw [if_neg (by rw [hsl]; omega), hf]
    simp only [List.getElem?_eq_getElem hk, Option.map_some, hkt]
    rw [if_pos (by rw [ht])]
  have hm : (idOfL s.data.toList, (u, t)) ∈ l := by rw [← hkt]; exact (hFind_mem_at hf).2
  have hperm := modify_perm 1 l k hk hM.apart
  rw [(hFind_some hf).2, hkt] at hperm
  simp only at hperm
  have hteq : (t == s.toList) = true := by
    rw [ByteArray.toList_eq, beq_iff_eq]
    exact ht
  have hteq2 : t = s.toList := by
    rw [ByteArray.toList_eq]
    exact ht
  have HT2 : Hid (t = s.toList) := hteq2
  clear hteq2 ht
  have HPC : Hid (isPc s.size = true) := decide_eq_true ⟨hs1, hs2⟩
  have hip := isPiece_any s (w.alloc (.cells #[.int .u32 0, .int .i64 0] 37)) hs
  rw [HPC.out] at hip
  have hid := id_any s (w.alloc (.cells #[.int .u32 0, .int .i64 0] 37)) (by unfold maxLen; omega)
  obtain ⟨P, hP⟩ : ∃ P, pmore 2166136261 s.data.toList = P := ⟨_, rfl⟩
  have HX : Hid (idOfL s.data.toList = (P, (s.size : Int))) := by show _ = _; unfold idOfL; rw [hP, hsl]
  have hxw : WfID (P, (s.size : Int)) := ⟨by rw [← hP]; exact pmore_lt _ (by decide) _, by show (-9223372036854775808 : Int) ≤ s.size; omega, by show (s.size : Int) ≤ 9223372036854775807; omega⟩
  rw [hP] at hid
  rw [HX.out] at hf hm hperm
  clear hP
  have hl : ∀ W : World, idPieces.Of W b l → (Instr.lookup 109 (.map (some b)) (idV (P : Nat) (s.size : Int)) true).run Tryd.prog W = .ok (.tuple #[pieceV (u, t), .bool true]) W := fun W h => h.look_some Tryd.underlying109 (pieceZero W) hm
  go_enter Tryd.func30, Tryd.ntmps30
  go_wp2_with (first
    | (go_at_call 66; refine hip.mono ?_; rintro e w' ⟨rfl, rfl⟩)
    | (go_at_call 20; refine hid.mono ?_; rintro e w1 ⟨rfl, hb1⟩))
  have hal1 : Below w.heap.size w w1 := hal.trans (hb1.mono hal.size)
  have halI := (Below.refl _ w1).alloc (Nat.le_refl _) (.cells #[.int .u32 (P : Nat), .int .i64 (s.size : Int)] 37)
  have hI := Blk.new w1 #[.int .u32 (P : Nat), .int .i64 (s.size : Int)] 37
  have hR1 := (hR.next hb1).next halI
  have hB1 := hB.next (hal1.trans (halI.mono hal1.size))
  have hM1 := of_below hM (hal1.trans (halI.mono hal1.size))
  have hbW := hal1.trans (halI.mono hal1.size)
  have hRI : w.heap.size < w1.heap.size := Nat.lt_of_lt_of_le hR.lt hb1.size
  generalize hW : w1.alloc (.cells #[.int .u32 (P : Nat), .int .i64 (s.size : Int)] 37) = W at *
  have hal2 := (Below.refl W.heap.size W).alloc (Nat.le_refl _) (.cells #[.string ⟨#[]⟩, .int .i64 0] 114)
  have hI2 := hI.next hal2
  have hB2 := hB1.next hal2
  have hM2 := of_below hM1 hal2
  have hP2 := Blk.new W #[.string ⟨#[]⟩, .int .i64 0] 114
  have x0 := hI.cell (i := 0) rfl
  have x1 := hI.cell (i := 1) rfl
  have q0 := hB1.cell (i := 0) rfl
  have y0 := hI2.cell (i := 0) rfl
  have y1 := hI2.cell (i := 1) rfl
  have r0 := hB2.cell (i := 0) rfl
  have p0 := hP2.cell (i := 0) rfl
  have p1 := hP2.cell (i := 1) rfl
  have f0 := hP2.frozen 0
  have f1 := hP2.frozen 1
  have l1 := hl W.drew (of_drew hM1)
  have l2 := hl (W.alloc (.cells #[.string ⟨#[]⟩, .int .i64 0] 114)).drew (of_drew hM2)
  go_region
  all_goals
    have hal3 := (Below.refl W.heap.size W).alloc (Nat.le_refl _) (.cells #[.string ⟨t.toArray⟩, .int .i64 u] 114)
    have hM3 := of_drew (of_below hM1 hal3)
    have hb3 := below_drew (hbW.trans (hal3.mono hbW.size))
    have hPd : Blk (W.alloc (.cells #[.string ⟨t.toArray⟩, .int .i64 u] 114)).drew W.heap.size #[.string ⟨t.toArray⟩, .int .i64 u] 114 := Blk.new W _ _
    have hId : Blk (W.alloc (.cells #[.string ⟨t.toArray⟩, .int .i64 u] 114)).drew w1.heap.size #[.int .u32 (P : Nat), .int .i64 (s.size : Int)] 37 := hI.next (below_drew hal3)
    have hRd : Blk (W.alloc (.cells #[.string ⟨t.toArray⟩, .int .i64 u] 114)).drew w.heap.size #[.int .u32 0, .int .i64 0] 37 := hR1.next (below_drew hal3)
    have hBd : Blk (W.alloc (.cells #[.string ⟨t.toArray⟩, .int .i64 u] 114)).drew B #[.map (some b)] 111 := hB1.next (below_drew hal3)
    generalize (W.alloc (.cells #[.string ⟨t.toArray⟩, .int .i64 u] 114)).drew = W3 at *
    have hIW : w1.heap.size < W.heap.size := hI.lt
    have t0 := hPd.cell (i := 0) rfl
    have t1 := hPd.cell (i := 1) rfl
    have ft0 := hPd.frozen 0
    have ft1 := hPd.frozen 1
    have z0 := hRd.cell (i := 0) rfl
    have z1 := hRd.cell (i := 1) rfl
    have fz0 := hRd.frozen 0
    have fz1 := hRd.frozen 1
    have v0 := hBd.cell (i := 0) rfl
    clear hl l1 l2 hP2 hal2 hI2 hB2 hM2 x0 x1 q0 y0 y1 r0 p0 p1 f0 f1 hip hid
    have hu1' : IntKind.i64.wrap (u + 1) = u + 1 := by rw [IntKind.wrap_i64]; omega
    have hP6 := hPd.set 1 (.int .i64 (u + 1))
    have hI6 := hId.other (a := ⟨W.heap.size, 1, none⟩) (by simp only; omega) (.int .i64 (u + 1))
    have hR6 := hRd.other (a := ⟨W.heap.size, 1, none⟩) (by simp only; omega) (.int .i64 (u + 1))
    have hB6 := hBd.other (a := ⟨W.heap.size, 1, none⟩) (by simp only; omega) (.int .i64 (u + 1))
    have hM6 := of_drew (hM3.kept (grown_set (grown_refl W3 (some W.heap.size)) 1 (.int .i64 (u + 1))) (fun e => by have := Option.some.inj e; omega))
    have hb6 := hb3.setCell (p := ⟨W.heap.size, 1, none⟩) (by simp only; omega) (.int .i64 (u + 1))
    have m0 := hP6.cell (i := 0) rfl
    have m1 := hP6.cell (i := 1) rfl
    go_wp2_with fail
    obtain ⟨w7, hst, hOf, hg7⟩ := hM6.store Tryd.underlying109 hxw (u + 1, t) (by unfold maxLen; omega)
    change (Instr.mapUpdate 109 (.map (some b)) (idV (P : Nat) (s.size : Int)) (pieceV (u + 1, t))).run Tryd.prog _ = _ at hst
    have HOF := hOf _ hperm
    have hg7' := grown_drew hg7
    have hI7 : Blk w7 w1.heap.size #[.int .u32 (P : Nat), .int .i64 (s.size : Int)] 37 := (hg7'.block _ hI6.lt (fun e => by have := Option.some.inj e; omega)).trans hI6
    have hR7 : Blk w7 w.heap.size #[.int .u32 0, .int .i64 0] 37 := (hg7'.block _ hR6.lt (fun e => by have := Option.some.inj e; omega)).trans hR6
    have hR8 := (hR7.set 0 (.int .u32 (P : Nat))).set 1 (.int .i64 (s.size : Int))
    have hB7 : Blk w7 B #[.map (some b)] 111 := (hg7'.block B hB6.lt (fun e => hne (Option.some.inj e))).trans hB6
    have hB8 := (hB7.other (a := ⟨w.heap.size, 0, none⟩) (by simp only; omega) (.int .u32 (P : Nat))).other (a := ⟨w.heap.size, 1, none⟩) (by simp only; omega) (.int .i64 (s.size : Int))
    have hgR : w7.grownBy ((w7.setCell ⟨w.heap.size, 0, none⟩ (.int .u32 (P : Nat))).setCell ⟨w.heap.size, 1, none⟩ (.int .i64 (s.size : Int))) (some w.heap.size) := grown_set (grown_set (grown_refl w7 _) 0 _) 1 _
    have hM8 := HOF.kept hgR (fun e => by have := Option.some.inj e; omega)
    have hof : Off (fun k => k = B ∨ k = b) w ((w7.setCell ⟨w.heap.size, 0, none⟩ (.int .u32 (P : Nat))).setCell ⟨w.heap.size, 1, none⟩ (.int .i64 (s.size : Int))) := (((Off.of_below hb6).trans (off_of_grown hg7' (F := fun k => k = B ∨ k = b) (.inr rfl)) (fun _ _ h => h)).setCell (p := ⟨w.heap.size, 0, none⟩) (.inr (Nat.le_refl _)) _).setCell (p := ⟨w.heap.size, 1, none⟩) (.inr (Nat.le_refl _)) _
    have i0 := hI7.cell (i := 0) rfl
    have i1 := hI7.cell (i := 1) rfl
    have c0 := hR7.cell (i := 0) rfl
    have c1 := hR7.cell (i := 1) rfl
    have k0 := hR7.frozen 0
    have k1 := hR7.frozen 1
    have d0 := hR8.cell (i := 0) rfl
    have d1 := hR8.cell (i := 1) rfl
    have j0 := hI6.cell (i := 0) rfl
    have j1 := hI6.cell (i := 1) rfl
    have b6 := hB6.cell (i := 0) rfl
    have HQ : Hid (PBin0 ((w7.setCell ⟨w.heap.size, 0, none⟩ (.int .u32 (P : Nat))).setCell ⟨w.heap.size, 1, none⟩ (.int .i64 (s.size : Int))) ⟨B, 0, none⟩ (fun k => k = B ∨ k = b) (l.modify k (hUse 1)) ∧ Off (fun k => k = B ∨ k = b) w ((w7.setCell ⟨w.heap.size, 0, none⟩ (.int .u32 (P : Nat))).setCell ⟨w.heap.size, 1, none⟩ (.int .i64 (s.size : Int)))) := ⟨⟨B, b, rfl, hB8, hM8, hne, rfl⟩, hof⟩
    clear HOF hOf hg7 hg7' hM6 hperm hI7 hR7 hR8 hB7 hB8 hgR hM8 hof
    go_region
    all_goals
      go_wp2_with fail
      exact bodyPost_ret (v := .tuple #[idV (P : Nat) (s.size : Int), .bool false, .nilIface]) (by simp [results, Tryd.results30, go_sem, d0, d1]) rfl ⟨_, _, by rw [e2.out, HX.out], by rw [e2.out]; exact .inl ⟨rfl, rfl⟩, by rw [e2.out]; exact HQ.out.1, fun k hk => .inl hk, HQ.out.2⟩

set_option maxRecDepth 100000 in
set_option maxHeartbeats 4000000 in
theorem pPut_new {a : Nat → Addr} (s : ByteArray) (p : Addr) (F : Nat → Prop) (l : List Hd) (w : World) (hs : s.size ≤ 50000) (hE : ErrE [1, 6, 9] w a) (hP : PBin0 w p F l) (hs1 : 1 ≤ s.size) (hs2 : s.size ≤ 64) (hf : hFind l (idOfL s.data.toList) = none) (hfull : l.length < 250) :
    Calls Tryd.prog 30 #[.pointer (some p), .string s] w (PPost a w p F (hPut l s.data.toList)) := by
  obtain ⟨B, b, rfl, hB, hM, hne, rfl⟩ := hP
  have hBl := hB.lt
  have hbl := hM.lt
  have hal := (Below.refl w.heap.size w).alloc (Nat.le_refl _) (.cells #[.int .u32 0, .int .i64 0] 37)
  have hR := Blk.new w #[.int .u32 0, .int .i64 0] 37
  have HG : Hid (∀ W', Below w.heap.size w W' → ∀ i, ([1, 6, 9] : List Nat).contains i = true → W'.cell? ⟨errG i, 0, none⟩ = some (sentV a i)) := fun W' hb i hi => (hE.below hb (Nat.le_refl _)).glob i hi
  have HB0 : Hid (∀ W, Below w.heap.size w W → PBin0 W ⟨B, 0, none⟩ (fun k => k = B ∨ k = b) l) := fun W h => PBin0.off ⟨B, b, rfl, hB, hM, hne, rfl⟩ (Off.of_below (F := fun _ => False) h) (fun _ _ h => h)
  have hsl : s.data.toList.length = s.size := by rw [Array.length_toList]; rfl
  have e2 : Hid (hPut l s.data.toList = ((idOfL s.data.toList, true, 0), hIns l (idOfL s.data.toList, 1, s.data.toList))) := by
    show _ = _
    unfold hPut
    rw [if_neg (by rw [hsl]; omega), hf]
    simp only [if_neg (show ¬ 250 ≤ l.length by omega)]
  have hperm : ((idOfL s.data.toList, (1 : Int), s.data.toList) :: l.filter (fun h => !decide (h.1 = idOfL s.data.toList))).Perm (hIns l (idOfL s.data.toList, 1, s.data.toList)) := by
    rw [List.filter_eq_self.2 (fun h hm => by simp [hFind_not hf h hm])]
    exact (hIns_perm l _).symm
  have HPC : Hid (isPc s.size = true) := decide_eq_true ⟨hs1, hs2⟩
  have hip := isPiece_any s (w.alloc (.cells #[.int .u32 0, .int .i64 0] 37)) hs
  rw [HPC.out] at hip
  have hid := id_any s (w.alloc (.cells #[.int .u32 0, .int .i64 0] 37)) (by unfold maxLen; omega)
  obtain ⟨P, hP⟩ : ∃ P, pmore 2166136261 s.data.toList = P := ⟨_, rfl⟩
  have HX : Hid (idOfL s.data.toList = (P, (s.size : Int))) := by show _ = _; unfold idOfL; rw [hP, hsl]
  have hxw : WfID (P, (s.size : Int)) := ⟨by rw [← hP]; exact pmore_lt _ (by decide) _, by show (-9223372036854775808 : Int) ≤ s.size; omega, by show (s.size : Int) ≤ 9223372036854775807; omega⟩
  rw [hP] at hid
  rw [HX.out] at hf hperm e2
  clear hP
  have hl : ∀ W : World, idPieces.Of W b l → (Instr.lookup 109 (.map (some b)) (idV (P : Nat) (s.size : Int)) true).run Tryd.prog W = .ok (.tuple #[pieceV (0, []), .bool false]) W := fun W h => h.look_none Tryd.underlying109 (pieceZero W) hxw (hFind_not hf)
  go_enter Tryd.func30, Tryd.ntmps30
  go_wp2_with (first
    | (go_at_call 66; refine hip.mono ?_; rintro e w' ⟨rfl, rfl⟩)
    | (go_at_call 20; refine hid.mono ?_; rintro e w1 ⟨rfl, hb1⟩))
  have hal1 : Below w.heap.size w w1 := hal.trans (hb1.mono hal.size)
  have halI := (Below.refl _ w1).alloc (Nat.le_refl _) (.cells #[.int .u32 (P : Nat), .int .i64 (s.size : Int)] 37)
  have hI := Blk.new w1 #[.int .u32 (P : Nat), .int .i64 (s.size : Int)] 37
  have hR1 := (hR.next hb1).next halI
  have hB1 := hB.next (hal1.trans (halI.mono hal1.size))
  have hM1 := of_below hM (hal1.trans (halI.mono hal1.size))
  have hbW := hal1.trans (halI.mono hal1.size)
  have hRI : w.heap.size < w1.heap.size := Nat.lt_of_lt_of_le hR.lt hb1.size
  generalize hW : w1.alloc (.cells #[.int .u32 (P : Nat), .int .i64 (s.size : Int)] 37) = W at *
  have hal2 := (Below.refl W.heap.size W).alloc (Nat.le_refl _) (.cells #[.string ⟨#[]⟩, .int .i64 0] 114)
  have hI2 := hI.next hal2
  have hB2 := hB1.next hal2
  have hM2 := of_below hM1 hal2
  have hP2 := Blk.new W #[.string ⟨#[]⟩, .int .i64 0] 114
  have x0 := hI.cell (i := 0) rfl
  have x1 := hI.cell (i := 1) rfl
  have q0 := hB1.cell (i := 0) rfl
  have y0 := hI2.cell (i := 0) rfl
  have y1 := hI2.cell (i := 1) rfl
  have r0 := hB2.cell (i := 0) rfl
  have p0 := hP2.cell (i := 0) rfl
  have p1 := hP2.cell (i := 1) rfl
  have f0 := hP2.frozen 0
  have f1 := hP2.frozen 1
  have l1 := hl W.drew (of_drew hM1)
  have l2 := hl (W.alloc (.cells #[.string ⟨#[]⟩, .int .i64 0] 114)).drew (of_drew hM2)
  go_region
  all_goals
    have hal3 := (Below.refl W.heap.size W).alloc (Nat.le_refl _) (.cells #[.string ⟨#[]⟩, .int .i64 0] 114)
    have hM3 := of_drew (of_below hM1 hal3)
    have hb3 := below_drew (hbW.trans (hal3.mono hbW.size))
    have hPd : Blk (W.alloc (.cells #[.string ⟨#[]⟩, .int .i64 0] 114)).drew W.heap.size #[.string ⟨#[]⟩, .int .i64 0] 114 := Blk.new W _ _
    have hId : Blk (W.alloc (.cells #[.string ⟨#[]⟩, .int .i64 0] 114)).drew w1.heap.size #[.int .u32 (P : Nat), .int .i64 (s.size : Int)] 37 := hI.next (below_drew hal3)
    have hRd : Blk (W.alloc (.cells #[.string ⟨#[]⟩, .int .i64 0] 114)).drew w.heap.size #[.int .u32 0, .int .i64 0] 37 := hR1.next (below_drew hal3)
    have hBd : Blk (W.alloc (.cells #[.string ⟨#[]⟩, .int .i64 0] 114)).drew B #[.map (some b)] 111 := hB1.next (below_drew hal3)
    generalize (W.alloc (.cells #[.string ⟨#[]⟩, .int .i64 0] 114)).drew = W3 at *
    have hIW : w1.heap.size < W.heap.size := hI.lt
    have t0 := hPd.cell (i := 0) rfl
    have t1 := hPd.cell (i := 1) rfl
    have ft0 := hPd.frozen 0
    have ft1 := hPd.frozen 1
    have z0 := hRd.cell (i := 0) rfl
    have z1 := hRd.cell (i := 1) rfl
    have fz0 := hRd.frozen 0
    have fz1 := hRd.frozen 1
    have v0 := hBd.cell (i := 0) rfl
    clear hl l1 l2 hP2 hal2 hI2 hB2 hM2 x0 x1 q0 y0 y1 r0 p0 p1 f0 f1 hip hid
    have hfull' : ¬ (250 : Int) ≤ (l.length : Int) := by omega
    have hnp := newPiece_any s 0 W3 hs
    go_wp2_with (first
      | (at_len; refine wp_len_kit idPieces _ rfl _ 109 rfl 114 Tryd.underlying109 b l rfl hM3 ?_)
      | (go_at_call 67; refine hnp.mono ?_; rintro e w5 ⟨rfl, hb5⟩; have hP5 := hPd.next hb5; have o0 := hP5.cell (i := 0) rfl; have o1 := hP5.cell (i := 1) rfl; have fo0 := hP5.frozen 0; have fo1 := hP5.frozen 1)
      | go_in)
    have hP6 := ((hP5.set 0 (.string s)).set 1 (.int .i64 0)).set 1 (.int .i64 1)
    have hI6 := (((hId.next hb5).other (a := ⟨W.heap.size, 0, none⟩) (by simp only; omega) (.string s)).other (a := ⟨W.heap.size, 1, none⟩) (by simp only; omega) (.int .i64 0)).other (a := ⟨W.heap.size, 1, none⟩) (by simp only; omega) (.int .i64 1)
    have hR6 := (((hRd.next hb5).other (a := ⟨W.heap.size, 0, none⟩) (by simp only; omega) (.string s)).other (a := ⟨W.heap.size, 1, none⟩) (by simp only; omega) (.int .i64 0)).other (a := ⟨W.heap.size, 1, none⟩) (by simp only; omega) (.int .i64 1)
    have hB6 := (((hBd.next hb5).other (a := ⟨W.heap.size, 0, none⟩) (by simp only; omega) (.string s)).other (a := ⟨W.heap.size, 1, none⟩) (by simp only; omega) (.int .i64 0)).other (a := ⟨W.heap.size, 1, none⟩) (by simp only; omega) (.int .i64 1)
    have hM6 := of_drew ((of_below hM3 hb5).kept (grown_set (grown_set (grown_set (grown_refl w5 (some W.heap.size)) 0 (.string s)) 1 (.int .i64 0)) 1 (.int .i64 1)) (fun e => by have := Option.some.inj e; omega))
    have hb6 := (((hb3.trans (hb5.mono hb3.size)).setCell (p := ⟨W.heap.size, 0, none⟩) (by simp only; omega) (.string s)).setCell (p := ⟨W.heap.size, 1, none⟩) (by simp only; omega) (.int .i64 0)).setCell (p := ⟨W.heap.size, 1, none⟩) (by simp only; omega) (.int .i64 1)
    have m0 := hP6.cell (i := 0) rfl
    have m1 := hP6.cell (i := 1) rfl
    obtain ⟨w7, hst, hOf, hg7⟩ := hM6.store Tryd.underlying109 hxw (1, s.data.toList) (by unfold maxLen; omega)
    change (Instr.mapUpdate 109 (.map (some b)) (idV (P : Nat) (s.size : Int)) (.agg #[.string s, .int .i64 1])).run Tryd.prog _ = _ at hst
    have HOF := hOf _ hperm
    have hg7' := grown_drew hg7
    have hI7 : Blk w7 w1.heap.size #[.int .u32 (P : Nat), .int .i64 (s.size : Int)] 37 := (hg7'.block _ hI6.lt (fun e => by have := Option.some.inj e; omega)).trans hI6
    have hR7 : Blk w7 w.heap.size #[.int .u32 0, .int .i64 0] 37 := (hg7'.block _ hR6.lt (fun e => by have := Option.some.inj e; omega)).trans hR6
    have hR8 := (hR7.set 0 (.int .u32 (P : Nat))).set 1 (.int .i64 (s.size : Int))
    have hB7 : Blk w7 B #[.map (some b)] 111 := (hg7'.block B hB6.lt (fun e => hne (Option.some.inj e))).trans hB6
    have hB8 := (hB7.other (a := ⟨w.heap.size, 0, none⟩) (by simp only; omega) (.int .u32 (P : Nat))).other (a := ⟨w.heap.size, 1, none⟩) (by simp only; omega) (.int .i64 (s.size : Int))
    have hgR : w7.grownBy ((w7.setCell ⟨w.heap.size, 0, none⟩ (.int .u32 (P : Nat))).setCell ⟨w.heap.size, 1, none⟩ (.int .i64 (s.size : Int))) (some w.heap.size) := grown_set (grown_set (grown_refl w7 _) 0 _) 1 _
    have hM8 := HOF.kept hgR (fun e => by have := Option.some.inj e; omega)
    have hof : Off (fun k => k = B ∨ k = b) w ((w7.setCell ⟨w.heap.size, 0, none⟩ (.int .u32 (P : Nat))).setCell ⟨w.heap.size, 1, none⟩ (.int .i64 (s.size : Int))) := (((Off.of_below hb6).trans (off_of_grown hg7' (F := fun k => k = B ∨ k = b) (.inr rfl)) (fun _ _ h => h)).setCell (p := ⟨w.heap.size, 0, none⟩) (.inr (Nat.le_refl _)) _).setCell (p := ⟨w.heap.size, 1, none⟩) (.inr (Nat.le_refl _)) _
    have i0 := hI7.cell (i := 0) rfl
    have i1 := hI7.cell (i := 1) rfl
    have c0 := hR7.cell (i := 0) rfl
    have c1 := hR7.cell (i := 1) rfl
    have k0 := hR7.frozen 0
    have k1 := hR7.frozen 1
    have d0 := hR8.cell (i := 0) rfl
    have d1 := hR8.cell (i := 1) rfl
    have j0 := hI6.cell (i := 0) rfl
    have j1 := hI6.cell (i := 1) rfl
    have b6 := hB6.cell (i := 0) rfl
    have HQ : Hid (PBin0 ((w7.setCell ⟨w.heap.size, 0, none⟩ (.int .u32 (P : Nat))).setCell ⟨w.heap.size, 1, none⟩ (.int .i64 (s.size : Int))) ⟨B, 0, none⟩ (fun k => k = B ∨ k = b) (hIns l ((P, (s.size : Int)), 1, s.data.toList)) ∧ Off (fun k => k = B ∨ k = b) w ((w7.setCell ⟨w.heap.size, 0, none⟩ (.int .u32 (P : Nat))).setCell ⟨w.heap.size, 1, none⟩ (.int .i64 (s.size : Int)))) := ⟨⟨B, b, rfl, hB8, hM8, hne, rfl⟩, hof⟩
    clear HOF hOf hg7 hg7' hM6 hperm hI7 hR7 hR8 hB7 hB8 hgR hM8 hof
    go_region
    all_goals
      go_wp2_with fail
      exact bodyPost_ret (v := .tuple #[idV (P : Nat) (s.size : Int), .bool true, .nilIface]) (by simp [results, Tryd.results30, go_sem, d0, d1]) rfl ⟨_, _, by rw [e2.out], by rw [e2.out]; exact .inl ⟨rfl, rfl⟩, by rw [e2.out]; exact HQ.out.1, fun k hk => .inl hk, HQ.out.2⟩
end Go.Proofs.YteefjbdejcpepaaDoor
namespace Go.Proofs.YteefjbdejcpepaaDoor
open Go.RowKit Go.Maps

/- A number that lies in a block of its own. -/
structure CntI (c : Nat) (s : Int) (w : World) : Prop where
  cell : w.cell? ⟨c, 0, none⟩ = some (.int .i64 s)
  free : w.frozen? ⟨c, 0, none⟩ = false
  lt : c < w.heap.size
theorem CntI.kept {c : Nat} {s : Int} {w w' : World} {row : Option Nat} (h : CntI c s w) (hg : w.grownBy w' row) (hr : some c ≠ row) : CntI c s w' :=
  ⟨(World.cell?_of_block (w := w) (hg.block c h.lt hr)).trans h.cell, (World.frozen?_of_block (w := w) (hg.block c h.lt hr)).trans h.free, Nat.lt_of_lt_of_le h.lt hg.size⟩
theorem CntI.set {c : Nat} {s : Int} {w : World} (h : CntI c s w) (t : Int) : CntI c t (w.setCell ⟨c, 0, none⟩ (.int .i64 t)) :=
  ⟨World.cell?_setCell_same _ _ _ h.cell, by simpa using h.free, by simpa [World.setCell] using h.lt⟩

set_option maxRecDepth 100000 in
set_option maxHeartbeats 4000000 in
theorem sweep1_any (G : Nat) (g : Int) (xp : Nat) (xl : Int) (u : Int) (t : List UInt8) (W : World) (hc : CntI G g W) (hw : IntKind.i64.wrap (g + xl) = g + xl) :
    Calls Tryd.prog 65 #[idV (xp : Nat) xl, pieceV (u, t), .pointer (some ⟨G, 0, none⟩)] W fun e w' => e = .returned (.bool (decide (u = 0))) ∧ CntI G (if u = 0 then g + xl else g) w' ∧ W.grownBy w' (some G) := by
  have hg1 := World.grownBy_alloc W (.cells #[.int .u32 (xp : Nat), .int .i64 xl] 37) none
  have hI := Blk.new W #[.int .u32 (xp : Nat), .int .i64 xl] 37
  have hc1 := hc.kept hg1 (by simp)
  have hGW : G ≠ W.heap.size := by have := hc.lt; omega
  go_enter Tryd.func65, Tryd.ntmps65
  generalize hW1 : W.alloc (.cells #[.int .u32 (xp : Nat), .int .i64 xl] 37) = W1 at *
  have hg2 := World.grownBy_alloc W1 (.cells #[.string ⟨t.toArray⟩, .int .i64 u] 114) none
  have hI2 := hI.next (below_of_grown hg2)
  have hP2 := Blk.new W1 #[.string ⟨t.toArray⟩, .int .i64 u] 114
  have hc2 := hc1.kept hg2 (by simp)
  have hgw := hg1.andThen hg2 (fun _ hj => by cases hj)
  have i1 := hI2.cell (i := 1) rfl
  have p1 := hP2.cell (i := 1) rfl
  have c0 := hc2.cell
  have f0 := hc2.free
  by_cases hu : u = 0
  · subst hu
    go_wp2_with fail
    go_ret
    exact ⟨rfl, hc2.set _, grown_set (hgw.but _) 0 _⟩
  · have hu' : (u != 0) = true := by simpa using hu
    go_wp2_with fail
    go_ret
    exact ⟨by simp, hc2, hgw.but _⟩

/- What is left of l while it is swept: those that are used, and those still to come. -/
def stay (l : List Hd) (left : Nat × Int → Bool) : List Hd := l.filter (fun h => left h.1 || !unused h)
def went (l : List Hd) (left : Nat × Int → Bool) : List Hd := (l.filter unused).filter (fun h => !left h.1)
theorem key_one {l : List Hd} (hap : l.Pairwise (fun p q => p.1 ≠ q.1)) {x y : Hd} (hx : x ∈ l) (hy : y ∈ l) (e : x.1 = y.1) : x = y := by
  induction l with
  | nil => cases hx
  | cons z s ih =>
    obtain ⟨hz, hs⟩ := List.pairwise_cons.1 hap
    rcases List.mem_cons.1 hx with rfl | hx' <;> rcases List.mem_cons.1 hy with rfl | hy'
    · rfl
    · exact absurd e (hz y hy')
    · exact absurd e.symm (hz x hx')
    · exact ih hs hx' hy'
theorem stay_used {l : List Hd} (hap : l.Pairwise (fun p q => p.1 ≠ q.1)) {left : Nat × Int → Bool} {h : Hd} (hm : h ∈ l) (hu : unused h = false) : stay l (fun y => left y && !decide (y = h.1)) = stay l left := by
  unfold stay
  refine List.filter_congr (fun y hy => ?_)
  by_cases e : y.1 = h.1
  · obtain rfl := key_one hap hy hm e
    simp [hu]
  · simp [e]
theorem went_used {l : List Hd} (hap : l.Pairwise (fun p q => p.1 ≠ q.1)) {left : Nat × Int → Bool} {h : Hd} (hm : h ∈ l) (hu : unused h = false) : went l (fun y => left y && !decide (y = h.1)) = went l left := by
  unfold went
  refine List.filter_congr (fun y hy => ?_)
  obtain ⟨hy1, hy2⟩ := List.mem_filter.1 hy
  by_cases e : y.1 = h.1
  · obtain rfl := key_one hap hy1 hm e
    rw [hu] at hy2
    cases hy2
  · simp [e]
theorem stay_gone {l : List Hd} (hap : l.Pairwise (fun p q => p.1 ≠ q.1)) {left : Nat × Int → Bool} {h : Hd} (hm : h ∈ l) (hu : unused h = true) : (stay l left).filter (fun y => !decide (y.1 = h.1)) = stay l (fun y => left y && !decide (y = h.1)) := by
  unfold stay
  rw [List.filter_filter]
  refine List.filter_congr (fun y hy => ?_)
  by_cases e : y.1 = h.1
  · obtain rfl := key_one hap hy hm e
    simp [hu]
  · simp [e]
theorem went_gone {l : List Hd} (hap : l.Pairwise (fun p q => p.1 ≠ q.1)) {left : Nat × Int → Bool} {h : Hd} (hm : h ∈ l) (hu : unused h = true) (hl : left h.1 = true) : (went l (fun y => left y && !decide (y = h.1))).Perm (h :: went l left) :=
  filter_flip (hap.filter _) (List.mem_filter.2 ⟨hm, hu⟩) hl
theorem stay_end {l : List Hd} {left : Nat × Int → Bool} (h0 : ∀ h ∈ stay l left, left h.1 = false) : stay l left = l.filter (fun h => !unused h) ∧ went l left = l.filter unused := by
  have hl : ∀ h ∈ l, left h.1 = false := fun h hm => by
    cases e : left h.1 with
    | false => rfl
    | true => rw [← e]; exact h0 h (List.mem_filter.2 ⟨hm, by simp [e]⟩)
  refine ⟨List.filter_congr (fun h hm => by simp [hl h hm]), ?_⟩
  exact List.filter_eq_self.2 (fun h hm => by simp [hl h (List.mem_filter.1 hm).1])
theorem went_bound {U : Int} {l : List Hd} (h : BinOk U l) (left : Nat × Int → Bool) : 0 ≤ hSize (went l left) ∧ hSize (went l left) ≤ 16000 := by
  unfold went
  rw [List.filter_filter]
  exact hSize_filter_bound h _

set_option maxRecDepth 100000 in
set_option maxHeartbeats 8000000 in
theorem deleteFunc_any (b G : Nat) (l : List Hd) (w : World) (hok : BinOk 1000000 l) (hM : idPieces.Of w b l) (hc : CntI G 0 w) (hbG : b ≠ G) :
    Calls Tryd.prog 64 #[.map (some b), .func (.func 65) #[] #[.pointer (some ⟨G, 0, none⟩)]] w fun e w' => e = .returned (.tuple #[]) ∧ idPieces.Of w' b (l.filter (fun h => !unused h)) ∧ CntI G (hSize (l.filter unused)) w' ∧ Off (fun k => k = b ∨ k = G) w w' := by
  have hap := hM.apart
  have hbl := hM.lt
  have hGl := hc.lt
  have HOK : Hid (BinOk 1000000 l) := hok
  clear hok
  go_enter Tryd.func64, Tryd.ntmps64
  go_wp2_with (first
    | (at_range; refine wp_range_kit idPieces _ rfl _ 109 rfl 114 Tryd.underlying109 b l rfl hM ?_; intro w0 hr0 hg0 hs0)
    | go_in)
  go_frame
  go_loopw [8] (fun _ wr => ∃ (left : Nat × Int → Bool) (cnt : Nat), idPieces.Rng wr b w.heap.size (stay l left) left cnt ∧ CntI G (hSize (went l left)) wr ∧ Off (fun k => k = b ∨ k = G) w wr) (fun _ wr => wr.rangeLeft b w.heap.size)
  case atStart =>
    have H : ∀ left : Nat × Int → Bool, (∀ h ∈ l, left h.1 = true) → idPieces.Rng w0 b w.heap.size l left l.length → ∃ (left : Nat × Int → Bool) (cnt : Nat), idPieces.Rng w0 b w.heap.size (stay l left) left cnt ∧ CntI G (hSize (went l left)) w0 ∧ Off (fun k => k = b ∨ k = G) w w0 := fun left hl hr => by
      have e1 : stay l left = l := List.filter_eq_self.2 (fun h hm => by simp [hl h hm])
      have e2 : went l left = [] := List.filter_eq_nil_iff.2 (fun h hm => by simp [hl h (List.mem_filter.1 hm).1])
      exact ⟨left, _, by rw [e1]; exact hr, by rw [e2]; exact hc.kept hg0 (by simp), Off.of_below (below_of_grown hg0)⟩
    exact H _ (fun h hm => by simp; exact ⟨_, _, hm⟩) hr0
  case round =>
    obtain ⟨left, cnt, hrg, hcn, hof⟩ := hrel
    go_wp2_with (first
      | (at_next; refine wp_next_kit idPieces _ rfl _ rfl b w.heap.size (stay l left) left cnt rfl hrg ?_ ?_)
      | go_in)
    · intro h0
      go_wp2_with fail
      go_end0
      obtain ⟨e1, e2⟩ := stay_end (l := l) (left := left) (fun h hm => h0 h.1.1 h.1.2 h.2.1 h.2.2 hm)
      exact ⟨rfl, by rw [← e1]; exact hrg.of, by rw [← e2]; exact hcn, hof⟩
    · intro xp xl u t w1 cnt1 hm hlx hrg1 hlt hg1 hs1 hen
      change (Instr.entry (.pointer (some ⟨w.heap.size, 0, none⟩))).run Tryd.prog w1 = .ok (.tuple #[idV (xp : Nat) xl, pieceV (u, t)]) w1 at hen
      have hml : ((xp, xl), u, t) ∈ l := (List.mem_filter.1 hm).1
      have hcn1 := hcn.kept hg1 (fun e => by have := Option.some.inj e; omega)
      have hof1 : Off (fun k => k = b ∨ k = G) w w1 := hof.trans (off_of_grown hg1 (F := fun k => k = w.heap.size) rfl) (fun i hi e => by omega)
      obtain ⟨n1, n2⟩ := went_bound HOK.out left
      obtain ⟨l1, l2⟩ := HOK.out.lens _ hml
      simp only at l1 l2
      have hwr : IntKind.i64.wrap (hSize (went l left) + xl) = hSize (went l left) + xl := by rw [IntKind.wrap_i64]; omega
      have hg2 := (World.grownBy_alloc w1 (.cells #[.int .u32 (xp : Nat), .int .i64 xl] 37) none).andThen (World.grownBy_alloc _ (.cells #[.string ⟨t.toArray⟩, .int .i64 u] 114) none) (fun _ hj => by cases hj)
      have hI := (Blk.new w1 #[.int .u32 (xp : Nat), .int .i64 xl] 37).next (below_of_grown (World.grownBy_alloc _ (.cells #[.string ⟨t.toArray⟩, .int .i64 u] 114) none))
      rw [hs1] at hI
      have hcn2 := hcn1.kept hg2 (by simp)
      have hrg2 := hrg1.kept hg2 (by simp) (by simp)
      have hof2 : Off (fun k => k = b ∨ k = G) w _ := hof1.trans (Off.of_below (F := fun _ => False) (below_of_grown hg2)) (fun _ _ h => h.elim)
      have hsw := sweep1_any G (hSize (went l left)) xp xl u t _ hcn2 hwr
      have hrl := hrg.lt
      have hGr : some w.heap.size ≠ some G := fun e => by have := Option.some.inj e; omega
      have hbr : some b ≠ some G := fun e => hbG (Option.some.inj e)
      have hIr : some wr.heap.size ≠ some G := fun e => by have := Option.some.inj e; have := hcn.lt; omega
      by_cases hu : u = 0
      · subst hu
        have huu : unused ((xp, xl), (0 : Int), t) = true := rfl
        rw [show decide ((0 : Int) = 0) = true from rfl, if_pos rfl] at hsw
        have e1 := stay_gone hap (left := left) hml huu
        have e2 := went_gone hap hml huu hlx
        have HE1 : Hid _ := e1
        have HE2 : Hid (hSize (went l (fun y => left y && !decide (y = (xp, xl)))) = hSize (went l left) + xl) := by
          show _ = _
          rw [hSize_perm e2, hSize_cons, Int.add_comm]
        clear e1 e2
        go_wp2_with (first
          | (go_at_call 65; refine hsw.mono ?_; rintro e w3 ⟨rfl, hcn3, hg3⟩; have hrg3 := hrg2.kept hg3 hbr hGr; have hI3 : Blk w3 wr.heap.size #[.int .u32 (xp : Nat), .int .i64 xl] 37 := (hg3.block _ hI.lt hIr).trans hI; have i0 := hI3.cell (i := 0) rfl; have i1 := hI3.cell (i := 1) rfl; have hof3 : Off (fun k => k = b ∨ k = G) w w3 := hof2.trans (off_of_grown hg3 (F := fun k => k = G) rfl) (fun _ _ e => .inr e))
          | (at_delete; refine wp_delete_kit idPieces _ rfl _ _ 109 rfl 114 Tryd.underlying109 b w.heap.size _ _ _ rfl hrg3 (xp, xl) (hM.wf _ hml) rfl ?_; intro w4 cnt4 hrg4 hle hturn; go_frame)
          | go_in)
        go_roundw
        case rel =>
          refine ⟨fun y => left y && !decide (y = (xp, xl)), cnt4, ?_, ?_, ?_⟩
          · rw [← HE1.out]
            have ef : (fun z : Nat × Int => (left z && !decide (z = (xp, xl))) && !decide (z = (xp, xl))) = fun z => left z && !decide (z = (xp, xl)) := by
              funext z
              cases left z <;> cases decide (z = (xp, xl)) <;> rfl
            rw [ef] at hrg4
            exact hrg4
          · rw [HE2.out]
            exact hcn3.kept hturn.grown (fun e => hbG (Option.some.inj e).symm)
          · exact hof3.trans (off_of_grown hturn.grown (F := fun k => k = b) rfl) (fun _ _ e => .inl e)
        case measure => rw [hrg4.left_eq, hrg.left_eq]; omega
      · have huu : unused ((xp, xl), u, t) = false := decide_eq_false hu
        rw [decide_eq_false hu, if_neg hu] at hsw
        have HE1 : Hid _ := stay_used hap (left := left) hml huu
        have HE2 : Hid _ := went_used hap (left := left) hml huu
        go_wp2_with (go_at_call 65; refine hsw.mono ?_; rintro e w3 ⟨rfl, hcn3, hg3⟩; have hrg3 := hrg2.kept hg3 hbr hGr; have hof3 : Off (fun k => k = b ∨ k = G) w w3 := hof2.trans (off_of_grown hg3 (F := fun k => k = G) rfl) (fun _ _ e => .inr e))
        go_roundw
        case rel => exact ⟨fun y => left y && !decide (y = (xp, xl)), cnt1, by rw [HE1.out]; exact hrg3, by rw [HE2.out]; exact hcn3, hof3⟩
        case measure => rw [hrg3.left_eq, hrg.left_eq]; omega

set_option maxRecDepth 100000 in
set_option maxHeartbeats 4000000 in
theorem pSweep_any (p : Addr) (F : Nat → Prop) (l : List Hd) (w : World) (hok : BinOk 1000000 l) (hP : PBin0 w p F l) :
    Calls Tryd.prog 29 #[.pointer (some p)] w fun e w' => ∃ F', e = .returned (.int .i64 (hSweep l).1) ∧ PBin0 w' p F' (hSweep l).2 ∧ (∀ k, F' k → F k ∨ w.heap.size ≤ k) ∧ Off F w w' := by
  obtain ⟨B, b, rfl, hB, hM, hne, rfl⟩ := hP
  have hBl := hB.lt
  have hbl := hM.lt
  have hal := (Below.refl w.heap.size w).alloc (Nat.le_refl _) (.cells #[.int .i64 0] 3)
  have hG := Blk.new w #[.int .i64 0] 3
  have hc : CntI w.heap.size 0 (w.alloc (.cells #[.int .i64 0] 3)) := ⟨hG.cell (i := 0) rfl, hG.frozen 0, hG.lt⟩
  have hB1 := hB.next hal
  have hM1 := of_below hM hal
  have q0 := hB1.cell (i := 0) rfl
  go_enter Tryd.func29, Tryd.ntmps29
  have hd := deleteFunc_any b w.heap.size l _ hok hM1 hc (by omega)
  go_wp2_with (go_at_call 64; go_loud (refine hd.mono ?_; rintro e w1 ⟨rfl, hM2, hc2, ho2⟩; have c2 := hc2.cell))
  go_ret
  have hB2 : Blk w1 B #[.map (some b)] 111 := ho2.blk hB1 (fun h => by rcases h with h | h <;> omega)
  exact ⟨_, rfl, ⟨B, b, rfl, hB2, hM2, hne, rfl⟩, fun k hk => .inl hk, (Off.of_below hal).trans ho2 (fun k hk h => by rcases h with h | h; exact .inr h; omega)⟩
end Go.Proofs.YteefjbdejcpepaaDoor
namespace Go.Proofs.YteefjbdejcpepaaDoor
open Go.RowKit Go.Maps

theorem less_is (x y : Nat × Int) : (if ((x.1 : Nat) : Int) = ((y.1 : Nat) : Int) then decide (x.2 < y.2) else decide (((x.1 : Nat) : Int) < ((y.1 : Nat) : Int))) = lessB x y := by
  rw [Bool.eq_iff_iff, lessB_iff]
  split <;> simp <;> omega

set_option maxRecDepth 100000 in
set_option maxHeartbeats 4000000 in
theorem all1_any (Bs blk off n c i j : Nat) (x y : Nat × Int) (W : World) (hs : W.cell? ⟨Bs, 0, none⟩ = some (.slice (some ⟨blk, off, none⟩) n c)) (hi : i < n) (hj : j < n)
    (i0 : W.cell? ⟨blk, off + i * 4, none⟩ = some (.int .u32 (x.1 : Nat))) (i1 : W.cell? ⟨blk, off + i * 4 + 1, none⟩ = some (.int .i64 x.2)) (j0 : W.cell? ⟨blk, off + j * 4, none⟩ = some (.int .u32 (y.1 : Nat))) (j1 : W.cell? ⟨blk, off + j * 4 + 1, none⟩ = some (.int .i64 y.2)) :
    Calls Tryd.prog 69 #[.int .i64 i, .int .i64 j, .pointer (some ⟨Bs, 0, none⟩)] W fun e w' => e = .returned (.bool (lessB x y)) ∧ Below W.heap.size W w' := by
  have hi' : (i : Int) < (n : Int) := by omega
  have hj' : (j : Int) < (n : Int) := by omega
  have HL := less_is x y
  have HLb : Hid _ := HL
  obtain ⟨r, hr⟩ : ∃ r, lessB x y = r := ⟨_, rfl⟩
  rw [hr] at HLb ⊢
  clear HL hr
  obtain ⟨xp, xl⟩ := x
  obtain ⟨yp, yl⟩ := y
  simp only at i0 i1 j0 j1 HLb
  have HC : Hid (∀ w', Below W.heap.size W w' → w'.cell? ⟨Bs, 0, none⟩ = some (.slice (some ⟨blk, off, none⟩) n c) ∧ w'.cell? ⟨blk, off + i * 4, none⟩ = some (.int .u32 (xp : Nat)) ∧ w'.cell? ⟨blk, off + i * 4 + 1, none⟩ = some (.int .i64 xl) ∧ w'.cell? ⟨blk, off + j * 4, none⟩ = some (.int .u32 (yp : Nat)) ∧ w'.cell? ⟨blk, off + j * 4 + 1, none⟩ = some (.int .i64 yl)) := fun w' hb => ⟨(hb.cell (p := ⟨Bs, 0, none⟩) (lt_of_cell hs)).trans hs, (hb.cell (p := ⟨blk, off + i * 4, none⟩) (lt_of_cell i0)).trans i0, (hb.cell (p := ⟨blk, off + i * 4 + 1, none⟩) (lt_of_cell i0)).trans i1, (hb.cell (p := ⟨blk, off + j * 4, none⟩) (lt_of_cell i0)).trans j0, (hb.cell (p := ⟨blk, off + j * 4 + 1, none⟩) (lt_of_cell i0)).trans j1⟩
  go_enter Tryd.func69, Tryd.ntmps69
  go_wp2_with fail
  go_region_held3 (fun w' => w'.cell? ⟨Bs, 0, none⟩ = some (.slice (some ⟨blk, off, none⟩) n c) ∧ w'.cell? ⟨blk, off + i * 4, none⟩ = some (.int .u32 (xp : Nat)) ∧ w'.cell? ⟨blk, off + i * 4 + 1, none⟩ = some (.int .i64 xl) ∧ w'.cell? ⟨blk, off + j * 4, none⟩ = some (.int .u32 (yp : Nat)) ∧ w'.cell? ⟨blk, off + j * 4 + 1, none⟩ = some (.int .i64 yl)) (go_keep) (first
    | (go_at_call 25; refine (less_any _ _ _ _ _).mono ?_; rintro e w2 ⟨rfl, hb2⟩; rw [HLb.out]; have hB2 : Below W.heap.size W w2 := (Below.refl _ W).drew.trans hb2; have HB2 : Hid (Below W.heap.size W w2) := hB2; obtain ⟨z0, z1, z2, z3, z4⟩ := HC.out w2 hB2; clear hb2 hB2))
  go_wp2_with fail
  go_ret
  exact ⟨rfl, HB2.out⟩
end Go.Proofs.YteefjbdejcpepaaDoor
namespace Go.Proofs.YteefjbdejcpepaaDoor
open Go.RowKit Go.Maps Go.Sort

def encHd (h : Hd) : List Value := [.int .u32 (h.1.1 : Nat), .int .i64 h.1.2, .int .i64 h.2.1, .string ⟨h.2.2.toArray⟩]
def ltHd (a b : Hd) : Bool := lessB a.1 b.1
theorem swo_ltHd : SWO ltHd where
  irrefl x := lessB_irrefl x.1
  trans x y z h1 h2 := lessB_trans h1 h2
  ntrans x y z h1 h2 := by
    have n1 : ¬ (ltHd x y = true) := by rw [h1]; decide
    have n2 : ¬ (ltHd y z = true) := by rw [h2]; decide
    cases h3 : ltHd x z with
    | false => rfl
    | true =>
      unfold ltHd at *
      rw [lessB_iff] at *
      omega
theorem heldsInfo : (Tryd.prog.info? 63).map (·.desc) = some (.slice 77) := by kernel_rfl
theorem heldInfo4 : (Tryd.prog.info? 77).map (fun i => (i.size, i.hasPointers, i.bytes)) = some (4, true, 40) := by kernel_rfl
theorem heldKind (w : World) : (Extern.Rtype.kind 77).run Tryd.prog w = .ok 25 w := by kernel_rfl
theorem heldAgg (w : World) : (isAgg 77).run Tryd.prog w = .ok true w := by kernel_rfl
theorem heldsPacked : Tryd.prog.packed 63 = false := by kernel_rfl
theorem swap9 : Tryd.prog.funcs.findIdx? (·.name == "internal/reflectlite" ++ ".Swapper$" ++ toString 9) = some 119 := by kernel_rfl
theorem swap1 : Tryd.prog.funcs.findIdx? (·.name == "internal/reflectlite" ++ ".Swapper$" ++ toString 1) = some 111 := by kernel_rfl
theorem swap2 : Tryd.prog.funcs.findIdx? (·.name == "internal/reflectlite" ++ ".Swapper$" ++ toString 2) = some 112 := by kernel_rfl
theorem encHd_one (x : Hd) : ∀ v ∈ encHd x, v.oneCell' = true := by
  intro v hv
  simp only [encHd, List.mem_cons, List.not_mem_nil, or_false] at hv
  rcases hv with rfl | rfl | rfl | rfl <;> rfl
theorem holdsK_cells {w : World} {g off : Nat} {d : Array Hd} (h : HoldsK encHd 4 w g off d) {i : Nat} (hi : i < d.size) :
    w.cell? ⟨g, off + i * 4, none⟩ = some (.int .u32 (d[i].1.1 : Nat)) ∧ w.cell? ⟨g, off + i * 4 + 1, none⟩ = some (.int .i64 d[i].1.2) ∧ w.cell? ⟨g, off + i * 4 + 2, none⟩ = some (.int .i64 d[i].2.1) ∧ w.cell? ⟨g, off + i * 4 + 3, none⟩ = some (.string ⟨d[i].2.2.toArray⟩) := by
  have e : d[i]! = d[i] := getElem!_pos d i hi
  have c0 := (h.cell (i := i) (c := 0) hi (by decide)).1
  have c1 := (h.cell (i := i) (c := 1) hi (by decide)).1
  have c2 := (h.cell (i := i) (c := 2) hi (by decide)).1
  have c3 := (h.cell (i := i) (c := 3) hi (by decide)).1
  rw [e] at c0 c1 c2 c3
  exact ⟨c0, c1, c2, c3⟩
/- The row of a slice of pieces that the call owns. -/
theorem holdsK_of_row {w : World} {base g cap : Nat} {c : List Hd} (h : w.ownsRow base 77 4 (.slice (some ⟨g, 0, none⟩) c.length cap) c.length (heldCells c)) : HoldsK encHd 4 w g 0 c.toArray := by
  obtain ⟨hl, ho⟩ := h
  rcases ho with ⟨he, _⟩ | ⟨g', cap', cur, he, _, hb, h1, h2, h3, h4⟩
  · cases he
  · obtain ⟨e1, e2⟩ : g = g' ∧ cap = cap' := by simpa using he
    subst e1 e2
    intro j hj
    have hj' : j < c.length * 4 := by simpa using hj
    have hi : j / 4 < c.length := by omega
    have ef : (flatK encHd 4 c.toArray)[j]! = (encHd c[j / 4])[j % 4]! := by
      rw [get_flatK _ _ _ _ (by simpa using hj')]
      rw [getElem!_pos c.toArray (j / 4) (by simpa using hi)]
      simp
    obtain ⟨a0, a1, a2, a3⟩ := heldCells_at c (j / 4) hi
    have hv : (heldCells c)[j]? = some ((encHd c[j / 4])[j % 4]!) := by
      have : j % 4 = 0 ∨ j % 4 = 1 ∨ j % 4 = 2 ∨ j % 4 = 3 := by omega
      rcases this with hm | hm | hm | hm
      · rw [show j / 4 * 4 = j by omega] at a0; rw [a0, hm]; rfl
      · rw [show j / 4 * 4 + 1 = j by omega] at a1; rw [a1, hm]; rfl
      · rw [show j / 4 * 4 + 2 = j by omega] at a2; rw [a2, hm]; rfl
      · rw [show j / 4 * 4 + 3 = j by omega] at a3; rw [a3, hm]; rfl
    have hcur : cur.toList[j]? = some ((encHd c[j / 4])[j % 4]!) := by
      rw [← hv, ← h4, List.getElem?_take, if_pos (by omega)]
    refine ⟨?_, by simp [World.frozen?, hb]⟩
    rw [Nat.zero_add, ef]
    simp only [World.cell?, hb]
    rw [← Array.getElem?_toList, hcur]
    rfl
theorem rise_of_sorted {d : Array Hd} (hap : d.toList.Pairwise (fun p q => p.1 ≠ q.1)) (hs : SortedIn ltHd 0 d.size d) : Rise d.toList := by
  unfold Rise
  rw [List.pairwise_iff_getElem] at *
  intro i j hi hj hij
  have h1 := hs i j (Nat.zero_le _) hij (by simpa using hj)
  rw [getElem!_pos d j (by simpa using hj), getElem!_pos d i (by simpa using hi)] at h1
  have h2 := hap i j hi hj hij
  simp only [Array.getElem_toList] at h2 ⊢
  exact lessB_flip h1 (fun e => h2 e.symm)

theorem sortHelds (Bs g cap : Nat) (c : List Hd) (w : World) (hs : w.cell? ⟨Bs, 0, none⟩ = some (.slice (some ⟨g, 0, none⟩) c.length cap)) (hBs : Bs ≠ g) (hcap : c.length ≤ cap) (hg : g < w.heap.size) (hH : HoldsK encHd 4 w g 0 c.toArray) (h2 : 2 ≤ c.length) (hsz : c.length ≤ 1000) (hap : c.Pairwise (fun p q => p.1 ≠ q.1)) :
    Calls Tryd.prog 68 #[.iface 63 (.slice (some ⟨g, 0, none⟩) c.length cap), .func (.func 69) #[] #[.pointer (some ⟨Bs, 0, none⟩)]] w fun e w' => e = .returned (.tuple #[]) ∧ ∃ c', c'.Perm c ∧ Rise c' ∧ HeldsAt w' (.slice (some ⟨g, 0, none⟩) c.length cap) c' ∧ w.grownBy w' (some g) := by
  obtain ⟨i, hi, hd⟩ := Option.map_eq_some_iff.1 heldsInfo
  obtain ⟨ie, hie, hm⟩ := Option.map_eq_some_iff.1 heldInfo4
  obtain ⟨m1, m2, m3⟩ : ie.size = 4 ∧ ie.hasPointers = true ∧ ie.bytes = 40 := by simpa using hm
  have hk9 : Lib.swapperK c.toArray.size ie 25 = 9 := by
    have e0 : (c.toArray.size == 0) = false := beq_eq_false_iff_ne.2 (by rw [List.size_toArray]; omega)
    have e1 : (c.toArray.size == 1) = false := beq_eq_false_iff_ne.2 (by rw [List.size_toArray]; omega)
    simp only [Lib.swapperK, e0, e1, m2, m3]
    rfl
  have hBl := lt_of_cell hs
  have hlen : c.length = c.toArray.size := by simp
  have H := srt_slice (α := Hd) Tryd.laysGg6 63 77 i ie hi hd heldsPacked hie 25 heldKind encHd 4 (fun _ => rfl) m1 heldAgg encHd_one ltHd swo_ltHd 69 #[.pointer (some ⟨Bs, 0, none⟩)]
    (enters_of Tryd.func69 (by kernel_rfl) rfl) g 0 cap c.toArray (by simpa using h2) (by simp; omega) 119 (by rw [hk9]; exact swap9) false
    (fun args W => run_callFunc_extern Tryd.func119 (by kernel_rfl) (by kernel_rfl) (by kernel_rfl) (e := Extern.ReflectliteSwapper.swap false) (by kernel_rfl) args W) w hg hH
    (fun W dk i j hgW hHk hdk hi hj => by
      have hsW : W.cell? ⟨Bs, 0, none⟩ = some (.slice (some ⟨g, 0, none⟩) c.toArray.size cap) := by
        rw [← hlen]
        exact cell_kept hs hgW hBl (fun e => hBs (Option.some.inj e))
      obtain ⟨a0, a1, _⟩ := holdsK_cells hHk (i := i) (by omega)
      obtain ⟨b0, b1, _⟩ := holdsK_cells hHk (i := j) (by omega)
      refine (all1_any Bs g 0 c.toArray.size cap i j dk[i].1 dk[j].1 W hsW hi hj a0 a1 b0 b1).mono ?_
      rintro e w' ⟨rfl, hb⟩
      refine ⟨?_, grown_of_below hb⟩
      rw [getElem!_pos dk i (by omega), getElem!_pos dk j (by omega)]
      rfl)
  rw [← hlen] at H
  refine H.mono ?_
  rintro e w' ⟨rfl, d', hp, hso, hh, hg'⟩
  have hsz' : d'.size = c.length := by rw [hp.1]; simp
  have hpm : d'.toList.Perm c := by
    have h := hp.2.2
    rw [Array.extract_eq_self_of_le (by omega), Array.extract_eq_self_of_le (by simp)] at h
    simpa using h
  refine ⟨rfl, d'.toList, hpm, rise_of_sorted (((hpm.pairwise_iff (fun {_ _} hne => Ne.symm hne))).2 hap) (by rw [hsz']; exact hso), ⟨some ⟨g, 0, none⟩, cap, by simp [hsz'], fun i hi => ?_⟩, hg'⟩
  have hi' : i < d'.size := by simpa using hi
  obtain ⟨a0, a1, a2, a3⟩ := holdsK_cells hh (i := i) hi'
  exact ⟨g, 0, rfl, ⟨Nat.lt_of_lt_of_le hg hg'.size, by simp [hsz']; omega⟩, a0, a1, a2, a3⟩
end Go.Proofs.YteefjbdejcpepaaDoor
namespace Go.Proofs.YteefjbdejcpepaaDoor
open Go.RowKit Go.Maps Go.Sort

/- All's own memory on its way: the box of the list, the list's row. -/
structure AllSt (w wr : World) (p : Option Addr) (cp : Nat) (c : List Hd) : Prop where
  cell : wr.cell? ⟨w.heap.size, 0, none⟩ = some (.slice p c.length cp)
  free : wr.frozen? ⟨w.heap.size, 0, none⟩ = false
  row : wr.ownsRow (w.heap.size + 2) 77 4 (.slice p c.length cp) c.length (heldCells c)
  below : Below w.heap.size w wr
  size : w.heap.size + 2 ≤ wr.heap.size
theorem AllSt.grow {w wr w' : World} {p : Option Addr} {cp : Nat} {c : List Hd} {row : Option Nat} (h : AllSt w wr p cp c) (hg : wr.grownBy w' row) (hr : ∀ k, row = some k → k = w.heap.size + 1) : AllSt w w' p cp c := by
  have hne : some w.heap.size ≠ row := fun e => by have := hr _ e.symm; omega
  have hl : w.heap.size < wr.heap.size := by have := h.size; omega
  refine ⟨cell_kept h.cell hg hl hne, (World.frozen?_of_block (w := wr) (hg.block _ hl hne)).trans h.free, h.row.kept hg ?_, ?_, Nat.le_trans h.size hg.size⟩
  · cases hv : (Value.slice p c.length cp).ownBlock with
    | none => exact .inl rfl
    | some k =>
      refine .inr (fun e => ?_)
      have h1 := (h.row.lt k hv).1
      have h2 := hr k e.symm
      omega
  · exact h.below.trans ⟨hg.os, hg.tape, hg.output, hg.size, fun k hk => hg.block k (by have := h.below.size; omega) (fun e => by have := hr k e.symm; omega)⟩

theorem grown_grow (w : World) (os : Array Obj) : w.grownBy (grow w os) none := ⟨rfl, rfl, rfl, by simp [grow], fun k hk _ => by simp [grow, Array.getElem?_append_left hk]⟩
set_option maxRecDepth 100000 in
set_option maxHeartbeats 8000000 in
theorem pAll_any {U : Int} (p : Addr) (F : Nat → Prop) (l : List Hd) (w : World) (hok : BinOk U l) (hP : PBin0 w p F l) :
    Calls Tryd.prog 32 #[.pointer (some p)] w fun e w' => ∃ v, e = .returned v ∧ HeldsAt w' v l ∧ Below w.heap.size w w' := by
  obtain ⟨B, b, rfl, hB, hM, hne, rfl⟩ := hP
  have hap := hM.apart
  have hBl := hB.lt
  have hbl := hM.lt
  have hmany := hok.many
  have HR : Hid (Rise l) := hok.rise
  have hal := (Below.refl w.heap.size w).alloc (Nat.le_refl _) (.cells #[.slice none 0 0] 63)
  have hS := Blk.new w #[.slice none 0 0] 63
  have hB1 := hB.next hal
  have hM1 := of_below hM hal
  have q0 := hB1.cell (i := 0) rfl
  have hs1 : (w.alloc (.cells #[.slice none 0 0] 63)).heap.size = w.heap.size + 1 := by simp
  obtain ⟨ti, hi, hz0, hz1, hz2⟩ := info_parts infoHeld
  go_enter Tryd.func32, Tryd.ntmps32
  go_wp2_with (first
    | (at_range; refine wp_range_kit idPieces _ rfl _ 109 rfl 114 Tryd.underlying109 b l rfl hM1 ?_; intro w0 hr0 hg0 hs0)
    | go_in)
  go_frame
  rw [hs1] at hr0 hs0 ⊢
  have A0 : AllSt w w0 none 0 [] := ⟨cell_kept (hS.cell (i := 0) rfl) hg0 hS.lt (by simp), (World.frozen?_of_block (hg0.block _ hS.lt (by simp))).trans (hS.frozen 0), World.ownsRow_nil _ _ _ _, hal.trans ((below_of_grown hg0).mono hal.size), by omega⟩
  have HB0 : Hid (w0.cell? ⟨B, 0, none⟩ = some (.map (some b))) := cell_kept q0 hg0 hB1.lt (by simp)
  clear hB hM hB1 hM1 hok hS q0
  go_loopw [11] (fun _ wr => ∃ (left : Nat × Int → Bool) (cnt cp : Nat) (c : List Hd) (p : Option Addr), idPieces.Rng wr b (w.heap.size + 1) l left cnt ∧ c.Perm (l.filter (fun h => !left h.1)) ∧ AllSt w wr p cp c) (fun _ wr => wr.rangeLeft b (w.heap.size + 1))
  case atStart =>
    refine ⟨_, _, 0, [], none, hr0, ?_, A0⟩
    rw [List.filter_eq_nil_iff.2 (fun h hm => by simp only [Bool.not_eq_true', Bool.not_eq_false, decide_eq_true_eq]; simp; exact ⟨_, _, hm⟩)]
  case round =>
    clear hr0 A0 hg0
    obtain ⟨left, cnt, cp, c, p, hrg, hcp, hA⟩ := hrel
    go_wp2_with (first
      | (at_next; refine wp_next_kit idPieces _ rfl _ rfl b (w.heap.size + 1) l left cnt rfl hrg ?_ ?_)
      | go_in)
    · intro h0
      rw [List.filter_eq_self.2 (fun h hm => by have := h0 h.1.1 h.1.2 h.2.1 h.2.2 hm; simp [this])] at hcp
      have c0 := hA.cell
      have hsz := hA.size
      obtain ⟨i, hi', hd⟩ := Option.map_eq_some_iff.1 heldsInfo
      obtain ⟨ie, hie, hmm⟩ := Option.map_eq_some_iff.1 heldInfo4
      have hlc : c.length ≤ 250 := by rw [hcp.length_eq]; exact hmany
      by_cases h2 : 2 ≤ c.length
      · obtain ⟨g, cp', hv, h3, h4⟩ := row_some hA.row (by omega)
        obtain ⟨rfl, rfl⟩ : p = some ⟨g, 0, none⟩ ∧ cp = cp' := by simpa using hv
        obtain ⟨hgl, hgs⟩ := hA.row.lt g rfl
        clear hi' hd hie hmm
        have hsrt := sortHelds w.heap.size g cp c wr c0 (by omega) h3 hgs (holdsK_of_row hA.row) h2 (by omega) ((hcp.pairwise_iff (fun {_ _} hne => Ne.symm hne)).2 hap)
        go_wp2_with (go_at_call 68; refine hsrt.mono ?_; rintro e w5 ⟨rfl, c', hp', hr', hat', hg'⟩; have c5 := cell_kept c0 hg' (by simp only; omega) (fun e => by have := Option.some.inj e; simp only at this; omega))
        go_ret
        have ec : c' = l := rise_ext hr' HR.out (fun x => by rw [hp'.mem_iff, hcp.mem_iff])
        refine ⟨_, rfl, by rw [← ec]; exact hat', hA.below.trans ⟨hg'.os, hg'.tape, hg'.output, hg'.size, fun k hk => hg'.block k (by omega) (fun e => by have := Option.some.inj e; omega)⟩⟩
      · have ec : Hid (c = l) := by
          show _ = _
          match c, l, hcp, h2 with
          | [], l, h, _ => exact (List.nil_perm.1 h).symm ▸ rfl
          | [x], l, h, _ => exact (List.perm_singleton.1 h.symm).symm
          | x :: y :: r, l, h, h2 => simp at h2
        have htiny : Calls Tryd.prog 68 #[.iface 63 (.slice p c.length cp), .func (.func 69) #[] #[.pointer (some ⟨w.heap.size, 0, none⟩)]] wr fun e w' => e = .returned (.tuple #[]) ∧ ∃ os, w' = grow wr os := by
          have h01 : c.length = 0 ∨ c.length = 1 := by omega
          rcases h01 with h01 | h01
          · exact Any.sort_Slice_tiny Tryd.laysGg6 63 77 i ie hi' hd heldsPacked hie 25 heldKind p c.length cp (by omega) 111 (by rw [h01]; exact swap1) _ _ _ wr
          · exact Any.sort_Slice_tiny Tryd.laysGg6 63 77 i ie hi' hd heldsPacked hie 25 heldKind p c.length cp (by omega) 112 (by rw [h01]; exact swap2) _ _ _ wr
        clear hi' hd hie hmm
        go_wp2_with (go_at_call 68; refine htiny.mono ?_; rintro e w5 ⟨rfl, os, rfl⟩; have hgr : wr.grownBy (grow wr os) none := grown_grow wr os; have c5 := cell_kept c0 hgr (by simp only; omega) (by simp))
        go_ret
        exact ⟨_, rfl, by rw [← ec.out]; exact (HeldsAt.of_row hA.row).below (below_of_grown hgr), hA.below.trans ((below_of_grown hgr).mono hA.below.size)⟩
    · intro xp xl u t w1 cnt1 hm hlx hrg1 hlt hg1 hs1' hen
      change (Instr.entry (.pointer (some ⟨w.heap.size + 1, 0, none⟩))).run Tryd.prog w1 = .ok (.tuple #[idV (xp : Nat) xl, pieceV (u, t)]) w1 at hen
      have hfl := filter_flip hap (p := left) hm hlx
      have HCP : Hid ((c ++ [((xp, xl), u, t)]).Perm (l.filter (fun y => !(left y.1 && !decide (y.1 = (xp, xl)))))) := List.perm_append_comm.trans ((hcp.cons _).trans hfl.symm)
      have hlen : c.length ≤ 250 := by rw [hcp.length_eq]; exact Nat.le_trans (List.length_filter_le _ _) hmany
      have hA1 := hA.grow hg1 (fun k hk => by cases hk; rfl)
      have hg2 := (World.grownBy_alloc w1 (.cells #[.int .u32 (xp : Nat), .int .i64 xl] 37) none).andThen (World.grownBy_alloc _ (.cells #[.string ⟨t.toArray⟩, .int .i64 u] 114) none) (fun _ hj => by cases hj)
      have hI := (Blk.new w1 #[.int .u32 (xp : Nat), .int .i64 xl] 37).next (below_of_grown (World.grownBy_alloc _ (.cells #[.string ⟨t.toArray⟩, .int .i64 u] 114) none))
      have hPc := Blk.new (w1.alloc (.cells #[.int .u32 (xp : Nat), .int .i64 xl] 37)) #[.string ⟨t.toArray⟩, .int .i64 u] 114
      have hA2 := hA1.grow hg2 (fun k hk => by cases hk)
      have hrg2 := hrg1.kept hg2 (by simp) (by simp)
      rw [hs1'] at hI
      have hs2 : (w1.alloc (.cells #[.int .u32 (xp : Nat), .int .i64 xl] 37)).heap.size = wr.heap.size + 1 := by simp [hs1']
      rw [hs2] at hPc
      have i0 := hI.cell (i := 0) rfl
      have i1 := hI.cell (i := 1) rfl
      have p0 := hPc.cell (i := 0) rfl
      have p1 := hPc.cell (i := 1) rfl
      have b0 := hA2.cell
      have HS3 : Hid (wr.heap.size + 1 + 1 = ((w1.alloc (.cells #[.int .u32 (xp : Nat), .int .i64 xl] 37)).alloc (.cells #[.string ⟨t.toArray⟩, .int .i64 u] 114)).heap.size) := by show _ = _; simp [hs1']
      have HA2 : Hid (AllSt w ((w1.alloc (.cells #[.int .u32 (xp : Nat), .int .i64 xl] 37)).alloc (.cells #[.string ⟨t.toArray⟩, .int .i64 u] 114)) p cp c) := hA2
      clear hA2 hA1 hA hrg1 hfl hI hPc
      go_wp2_with (at_builtin; (refine wpList_append_own _ rfl (.tmp 16) (.tmp 23) 63 rfl (w.heap.size + 2) 77 ti (heldV ((0, 0), 0, [])) 4 40 Tryd.underlying63 hi hz0 hz1 hz2 rfl (by decide) (.slice p c.length cp) c.length (heldCells c) rfl (HA2.out.row.alloc _) ⟨wr.heap.size + 1 + 1, 0, none⟩ 1 1 (heldCells [((xp, xl), u, t)]) rfl rfl (four_new _ ((xp, xl), u, t) _ _ HS3.out) (heldCells_one _) (by unfold maxLen; omega) (by omega) (by have := HA2.out.size; simp at this ⊢; omega) ?_; have hown := HA2.out.row.lt; have hsz2 := HA2.out.size; intro v4 w4 ho4 hg4 _; have hgA : ((w1.alloc (.cells #[.int .u32 (xp : Nat), .int .i64 xl] 37)).alloc (.cells #[.string ⟨t.toArray⟩, .int .i64 u] 114)).grownBy w4 (Value.slice p c.length cp).ownBlock := ((World.grownBy_alloc _ _ none).but _).andThen hg4 (fun _ hj => .inr hj); obtain ⟨p4, cp4, hv4, _⟩ := HeldsAt.of_row (l := c ++ [((xp, xl), u, t)]) (by rw [List.length_append, heldCells_append]; exact ho4); subst hv4; have hnS : some w.heap.size ≠ (Value.slice p c.length cp).ownBlock := (fun e => by have := (hown _ e.symm).1; omega); have c4 := cell_kept HA2.out.cell hgA (Nat.lt_of_lt_of_le (Nat.lt_add_of_pos_right (by decide)) hsz2) hnS; have f4 : w4.frozen? ⟨w.heap.size, 0, none⟩ = false := (World.frozen?_of_block (hgA.block _ (Nat.lt_of_lt_of_le (Nat.lt_add_of_pos_right (by decide)) hsz2) hnS)).trans HA2.out.free))
      have hL1 : (c ++ [((xp, xl), u, t)]).length = c.length + 1 := by simp
      rw [hL1] at ho4
      have hnR : some (w.heap.size + 1) ≠ (Value.slice p c.length cp).ownBlock := (fun e => by have := (hown _ e.symm).1; omega)
      have hnb : some b ≠ (Value.slice p c.length cp).ownBlock := (fun e => by have := (hown _ e.symm).1; omega)
      have hrg4 := hrg2.kept hgA hnb hnR
      have hgS := grown_set (grown_refl w4 (some w.heap.size)) 0 (.slice p4 (c.length + 1) cp4)
      have hrg5 := hrg4.kept hgS (fun e => by have := Option.some.inj e; omega) (fun e => by have := Option.some.inj e; omega)
      have hl4 : w.heap.size < w4.heap.size := Nat.lt_of_lt_of_le (Nat.lt_of_lt_of_le (Nat.lt_add_of_pos_right (by decide)) hsz2) hgA.size
      have HA5 : Hid (AllSt w (w4.setCell ⟨w.heap.size, 0, none⟩ (.slice p4 (c.length + 1) cp4)) p4 cp4 (c ++ [((xp, xl), u, t)])) := by
        have hb4 : Below w.heap.size w w4 := HA2.out.below.trans ⟨hgA.os, hgA.tape, hgA.output, hgA.size, fun k hk => hgA.block k (Nat.lt_of_lt_of_le hk (Nat.le_trans (Nat.le_add_right _ 2) hsz2)) (fun e => by have := (hown _ e.symm).1; omega)⟩
        refine ⟨by rw [hL1]; exact World.cell?_setCell_same _ _ _ c4, by simpa using f4, World.ownsRow.kept (w := w4) ?_ hgS ?_, hb4.setCell (p := ⟨w.heap.size, 0, none⟩) (Nat.le_refl _) _, by simpa [World.setCell] using Nat.le_trans hsz2 hgA.size⟩
        · rw [hL1, heldCells_append]
          exact ho4
        · rw [hL1]
          cases hv : (Value.slice p4 (c.length + 1) cp4).ownBlock with
          | none => exact .inl rfl
          | some k => exact .inr (fun e => by have := (ho4.lt k hv).1; have := Option.some.inj e; omega)
      go_roundw
      case rel => exact ⟨fun y => left y && !decide (y = (xp, xl)), cnt1, cp4, c ++ [((xp, xl), u, t)], p4, hrg5, HCP.out, HA5.out⟩
      case measure => rw [hrg5.left_eq, hrg.left_eq]; exact hlt
end Go.Proofs.YteefjbdejcpepaaDoor
namespace Go.Proofs.YteefjbdejcpepaaDoor
open Go.RowKit Go.Maps

theorem pPut_any {a : Nat → Addr} (s : ByteArray) (p : Addr) (F : Nat → Prop) (l : List Hd) (w : World) (hs : s.size ≤ 50000) (hok : BinOk 1000000 l) (hE : ErrE [1, 6, 9] w a) (hP : PBin0 w p F l) :
    Calls Tryd.prog 30 #[.pointer (some p), .string s] w (PPost a w p F (hPut l s.data.toList)) := by
  by_cases hn : 1 ≤ s.size ∧ s.size ≤ 64
  · cases hf : hFind l (idOfL s.data.toList) with
    | none =>
      by_cases hfull : 250 ≤ l.length
      · exact pPut_full s p F l w hs hE hP hn.1 hn.2 hf hfull
      · exact pPut_new s p F l w hs hE hP hn.1 hn.2 hf (by omega)
    | some k =>
      obtain ⟨hk, _⟩ := hFind_some hf
      obtain ⟨hu0, hu1⟩ := hok.uses (Int.le_refl _) _ (List.getElem_mem hk)
      by_cases ht : l[k].2.2 = s.data.toList
      · exact pPut_same s p F l w hs hE hP hn.1 hn.2 hok.many k l[k].2.1 l[k].2.2 hf hk rfl ht hu0 hu1
      · exact pPut_clash s p F l w hs hE hP hn.1 hn.2 k l[k].2.1 l[k].2.2 hf hk rfl ht
  · exact pPut_bound s p F l w hs hE hP hn
theorem pBinSpec (a : Nat → Addr) {Env : World → Prop} (hst : ∀ {w w' : World}, Env w → Below w.heap.size w w' → Env w') (heg : ∀ {w : World}, Env w → ErrG w a) : BinSpec a Env PBin0 where
  stable h hb := hst h hb
  lt h := h.lt
  off h ho hG := h.off ho hG
  new w _ := pNew_any w
  put s p F l w hs hok hE hP := pPut_any s p F l w hs hok ((heg hE).sub (by decide)) hP
  get x p F l w hx _ hE hP := pGet_any x p F l w hx ((heg hE).sub (by decide)) hP
  drop x p F l w hx hok hE hP := pDrop_any x p F l w hx hok ((heg hE).sub (by decide)) hP
  sweep p F l w hok _ hP := pSweep_any p F l w hok hP
  size p F l w hok _ hP := pSize_any p F l w hok hP
  copy p F l w _ _ hP := pCopy_any p F l w hP
  all p F l w hok _ hP := pAll_any p F l w hok hP
end Go.Proofs.YteefjbdejcpepaaDoor
