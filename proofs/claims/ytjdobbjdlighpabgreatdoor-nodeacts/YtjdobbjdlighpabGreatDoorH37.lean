/-
  Own text. slices.Collect(maps.Keys(m)) at a map by IDs: its keys, each once, in some order, in new memory.
  Own text. (*node.Node).Reps by a contract: its bins' reps, rising.
  Own text. slices.Sorted(maps.Keys(m)) at this program's numbers: applications of the shelf's own theorems.
  Own text. (*node.Node).Names by a contract: its files' names, sorted.
-/
import Derived.Test.YtjdobbjdlighpabGreatDoorH36
import Derived.Test.YtjdobbjdlighpabGreatDoorH06
import Derived.Test.YtjdobbjdlighpabGreatDoorH12
import Derived.LoopIn
import Derived.Test.YtjdobbjdlighpabGreatDoorH10
import Derived.Test.YtjdobbjdlighpabGreatDoorH19
import Derived.Shelf.SlIter.Nil
import Derived.Shelf.SortM.Plain
import Derived.Shelf.SortM.SortNone
import Derived.Ground.GgzProg
import Derived.Ground.SlgmProg
import Derived.Test.YtjdobbjdlighpabGreatDoorProg
namespace Go.Proofs.YtjdobbjdlighpabGreatDoor
open Go.RowKit Go.Maps Go.Shelf

attribute [local go_sem] Oper.semAt_some
theorem off_of_rowgrownK {w w' : World} {row : Option Nat} (h : w.grownBy w' row) : Off (fun k => row = some k) w w' := ⟨h.os, h.tape, h.output, h.size, fun k hk hn => h.block k hk (fun e => hn e.symm)⟩
theorem infoIDK : (Tryz.prog.info? 25).map (fun i => (i.zero, i.size, i.bytes)) = some (some (idV 0 0), 2, 16) := by kernel_rfl
set_option maxHeartbeats 1000000 in
theorem keysI_in (n : Nat) (mb : Option Nat) (w : World) :
    CallsIn Fence.wide n Tryz.prog 84 #[.map mb] w fun e w' => e = .returned (.func (.func 142) #[] #[.pointer (some ⟨w.heap.size, 0, none⟩)]) ∧ w' = w.alloc (.cells #[.map mb] 100) := by
  refine callsIn_of_wp Tryz.func84 rfl trivial ?_ rfl
  simp only [Tryz.ntmps84, List.size_toArray, List.length_cons, List.length_nil, Nat.reduceAdd, Nat.reduceSub, Array.replicate_succ, Array.replicate_zero, List.push_toArray, List.append_toArray, List.nil_append, List.cons_append]
  gi_wp2
  go_ret
  exact ⟨rfl, rfl⟩
set_option maxRecDepth 100000 in
set_option maxHeartbeats 4000000 in
theorem keysI1_in (n : Nat) (hn : 1 ≤ n) (l Bm b : Nat) (L : List ((Nat × Int) × Option Addr)) (J : List (Nat × Int) → World → Prop) (W : World) (hJ : AbidesAt W.heap.size J)
    (hY : ∀ pre x W1, J pre W1 → pre.length < L.length → YieldAt Fence.wide (n - 1) Tryz.prog l #[idV (x.1 : Nat) x.2] W1 fun e W' => e = .returned (.bool true) ∧ J (pre ++ [x]) W' ∧ KeepsWalks W1 W')
    (hm : W.cell? ⟨Bm, 0, none⟩ = some (.map (some b))) (hM : idBins.Of W b L) (h0 : J [] W) :
    CallsIn Fence.wide n Tryz.prog 142 #[.func (.yield l) #[] #[], .pointer (some ⟨Bm, 0, none⟩)] W fun e W' => (∃ v, e = .returned v) ∧ ∃ xs : List (Nat × Int), xs.Perm (L.map (·.1)) ∧ J xs W' := by
  have hap := hM.apart
  have HJ : Hid (AbidesAt W.heap.size J) := hJ
  have HY : Hid (∀ pre x W1, J pre W1 → pre.length < L.length → YieldAt Fence.wide (n - 1) Tryz.prog l #[idV (x.1 : Nat) x.2] W1 fun e W' => e = .returned (.bool true) ∧ J (pre ++ [x]) W' ∧ KeepsWalks W1 W') := hY
  clear hJ hY
  refine callsIn_of_wp Tryz.func142 rfl trivial ?_ rfl
  simp only [Tryz.ntmps142, List.size_toArray, List.length_cons, List.length_nil, Nat.reduceAdd, Nat.reduceSub, Array.replicate_succ, Array.replicate_zero, List.push_toArray, List.append_toArray, List.nil_append, List.cons_append]
  gi_wp2_with (first
    | (gi_at_range; refine wpIn_range_kit idBins _ rfl _ 100 rfl 47 Tryz.underlying100 b L rfl hM ?_; intro w0 hr0 hg0 hs0)
    | gi_in)
  go_frame
  gi_loopw [6] (fun _ wr => ∃ (left : Nat × Int → Bool) (cnt : Nat) (xs : List (Nat × Int)), idBins.Rng wr b W.heap.size L left cnt ∧ Hid (xs.Perm ((L.filter (fun y => !left y.1)).map (·.1))) ∧ J xs wr) (fun _ wr => wr.rangeLeft b W.heap.size)
  case atStart =>
    refine ⟨_, _, [], hr0, ?_, HJ.out [] W w0 none h0 hg0 (fun r e => by cases e)⟩
    show List.Perm _ _
    rw [List.filter_eq_nil_iff.2 (fun y hy => by
      simp only [Bool.not_eq_true', Bool.not_eq_false, decide_eq_true_eq]
      exact List.mem_map.2 ⟨y, hy, rfl⟩)]
    exact List.Perm.refl _
  case round =>
    obtain ⟨left, cnt, xs, hrg, HP, hJs⟩ := hrel
    gi_wp2_with (first
      | (gi_at_next; refine wpIn_next_kit idBins _ rfl _ rfl b W.heap.size L left cnt rfl hrg ?_ ?_)
      | gi_in)
    · intro h0'
      have HL0 : Hid (∀ y ∈ L, left y.1 = false) := fun y hy => h0' y.1.1 y.1.2 y.2 hy
      clear h0'
      gi_wp2
      go_end0
      refine ⟨⟨_, rfl⟩, xs, ?_, hJs⟩
      have := HP.out
      rw [List.filter_eq_self.2 (fun y hy => by rw [HL0.out y hy]; rfl)] at this
      exact this
    · intro xp xl c w2 cnt2 hmem hlx hrg2 hlt hg2 hs2 hen
      have hfl := filter_flip hap (p := left) hmem hlx
      have HP2 : Hid ((xs ++ [(xp, xl)]).Perm ((L.filter (fun y => !(left y.1 && !decide (y.1 = (xp, xl))))).map (·.1))) := by
        show List.Perm _ _
        have h1 := hfl.map (·.1)
        rw [List.map_cons] at h1
        exact (List.perm_append_comm.trans (HP.out.cons _)).trans h1.symm
      have HLN : Hid (xs.length < L.length) := by
        show _ < _
        have h1 : (L.filter (fun y : (Nat × Int) × Option Addr => !(left y.1 && !decide (y.1 = (xp, xl))))).length = (((xp, xl), c) :: L.filter (fun y => !left y.1)).length := hfl.length_eq
        have h2 := List.length_filter_le (fun y : (Nat × Int) × Option Addr => !(left y.1 && !decide (y.1 = (xp, xl)))) L
        have h3 := HP.out.length_eq
        rw [List.length_map] at h3
        rw [List.length_cons] at h1
        omega
      have hJ2 : J xs w2 := HJ.out xs wr w2 (some W.heap.size) hJs hg2 (fun r e => by cases e; exact ⟨Nat.le_refl _, hrg.iter_walk⟩)
      have hJ3 := HJ.out xs w2 _ none hJ2 (World.grownBy_alloc w2 (.cells #[.int .u32 (xp : Nat), .int .i64 xl] 25) none) (fun r e => by cases e)
      have hrg3 := hrg2.kept (World.grownBy_alloc w2 (.cells #[.int .u32 (xp : Nat), .int .i64 xl] 25) none) (by simp) (by simp)
      obtain ⟨fn, tmps, assign, body, hy, hR⟩ := HY.out xs (xp, xl) _ hJ3 HLN.out
      simp only at hy hR
      have HRR := hideN hR
      have HRG3 := hideN hrg3
      change (Instr.entry (.pointer (some ⟨W.heap.size, 0, none⟩))).run Tryz.prog w2 = .ok (.tuple #[idV (xp : Nat) xl, .pointer c]) w2 at hen
      clear hs2 hfl hJ2 hJ3 hR hrg3 hM hr0 hg0 hs0
      gi_wp2
      refine HRR.out.mono ?_
      rintro e W3 ⟨rfl, hJ4, hk4⟩
      have hrg4 := HRG3.out.of_walks hk4
      clear hen
      gi_wp2
      go_roundw
      case rel => exact ⟨_, cnt2, xs ++ [(xp, xl)], hrg4, HP2.out, hJ4⟩
      case measure => rw [hrg4.left_eq, hrg.left_eq]; exact hlt
theorem row_abides {base : Nat} {e : TypeId} {size : Nat} {v : Value} {k : Nat} {xs : List Value} {W W' : World} {row : Option Nat} (h : W.ownsRow base e size v k xs) (hg : W.grownBy W' row) (hrow : ∀ j o, row = some j → W.heap[j]? = some o → o.isCells = false) : W'.ownsRow base e size v k xs :=
  (off_of_rowgrownK hg).row h (fun j hj e => by
    rcases h.2 with ⟨rfl, _⟩ | ⟨g, cap, cur, rfl, _, hb, _⟩
    · simp [Value.ownBlock] at hj
    · have : g = j := by simpa [Value.ownBlock] using hj
      subst this
      have := hrow g _ e hb
      cases this)
set_option maxRecDepth 100000 in
set_option maxHeartbeats 4000000 in
theorem appendSeqI_in (n : Nat) (hn : 3 ≤ n) (g : Nat) (lb : Array Value) (eg : ∀ args w, (callFunc g args).run Tryz.prog w = .ok (.enter g args) w) (S : List (Nat × Int) → Prop) (N : Nat) (hN : N ≤ 50000) (w w0 : World) (hb0 : Below w0.heap.size w0 w)
    (hseq : SeqW Fence.wide (n - 1) Tryz.prog g lb (fun x : Nat × Int => #[idV (x.1 : Nat) x.2]) S N w0) :
    CallsIn Fence.wide n Tryz.prog 141 #[.slice none 0 0, .func (.func g) #[] lb] w fun e w' => ∃ v xs, e = .returned v ∧ S xs ∧ w'.ownsRow w.heap.size 25 2 v xs.length (idCells xs) ∧ Below w.heap.size w w' := by
  have h1 : 1 ≤ n := by omega
  obtain ⟨i0, hi, hz0, hz1, hz2⟩ := info_parts infoIDK
  refine callsIn_of_wp_marks Tryz.func141 rfl trivial ?_ rfl
  simp only [Tryz.ntmps141, List.size_toArray, List.length_cons, List.length_nil, Nat.reduceAdd, Nat.reduceSub, Array.replicate_succ, Array.replicate_zero, List.push_toArray, List.append_toArray, List.nil_append, List.cons_append]
  gi_wp2
  have bO := Boxed.new w 38 (.slice none 0 0)
  have hB0 : Below w.heap.size w (w.alloc (.cells #[.slice none 0 0] 38)) := (Below.refl _ w).alloc (Nat.le_refl _) _
  refine range_walk rfl h1 (gf := g) (lb := lb) rfl trivial eg hseq (hb0.trans (hB0.mono hb0.size)) (fun _ => rfl)
    (fun pre W => (∃ v, Boxed W w.heap.size 38 v ∧ W.ownsRow w.heap.size 25 2 v pre.length (idCells pre)) ∧ Below w.heap.size w W) ?abides ?put
    ⟨⟨_, bO, World.ownsRow_nil _ _ _ _⟩, hB0⟩
    (fun x a' W => ∃ Bx, w.heap.size < Bx ∧ Blk W Bx #[.int .u32 (x.1 : Nat), .int .i64 x.2] 25 ∧ a' = { tmps := #[.slice none 0 0, .func (.func g) #[] lb, .pointer (some ⟨w.heap.size, 0, none⟩), undef, .slice none 0 0, .pointer (some ⟨Bx, 0, none⟩), .func (.func g) #[] lb, idV (x.1 : Nat) x.2, undef, undef, undef, undef, undef], defers := [] }) ?ax ?assign ?body ?done
  case abides =>
    rintro s A B row ⟨⟨v, hv, hr⟩, hb⟩ hg hrow
    have hwalk : ∀ j o, row = some j → A.heap[j]? = some o → o.isCells = false := fun j o e ho => by
      obtain ⟨_, o', h1, h2⟩ := hrow j e
      rw [ho] at h1
      cases h1
      cases o <;> first | rfl | cases h2
    refine ⟨⟨v, hv.kept hg (fun e => ?_), row_abides hr hg hwalk⟩, hb.trans ⟨hg.os, hg.tape, hg.output, hg.size, fun k hk => hg.block k (by have := hb.size; omega) (fun e => ?_)⟩⟩
    · have := hwalk w.heap.size _ e.symm hv
      cases this
    · obtain ⟨h1, _⟩ := hrow k e.symm
      simp at h1
      omega
  case put =>
    rintro pre A l o o' hl ⟨⟨v, hv, hr⟩, hb⟩ ho hc
    have hl' : w.heap.size < l := by simp at hl; omega
    exact ⟨⟨v, (World.putObj_heap_other (by omega)).trans hv, ownsRow_putObj hr o' ho hc⟩, hb.trans (below_put A o' (by omega))⟩
  case ax =>
    rintro x a' A l o ⟨r, hr⟩ ⟨Bx, h1, h2, h3⟩
    refine ⟨Bx, h1, (World.putObj_heap_other (fun e => ?_)).trans h2, h3⟩
    subst e
    have : A.heap[Bx]? = some (.cells #[.int .u32 (x.1 : Nat), .int .i64 x.2] 25 (0, 0)) := h2
    rw [hr] at this
    cases this
  case assign =>
    rintro l pre x W K ⟨⟨v, hv, hr⟩, hb⟩ hK
    have hlt := hv.lt
    gi_wp2
    exact hK _ _ (KeepsOthers.alloc _ _) ⟨⟨v, hv.alloc _, hr.alloc _⟩, hb.alloc hb.size _⟩ ⟨W.heap.size, hlt, Blk.new W _ _, rfl⟩
  case body =>
    rintro l pre x a' W ⟨⟨v, hv, hrow⟩, hB⟩ ⟨Bx, hBx, hX, rfl⟩ hlt
    have hc := hv.cell
    have x0 := hX.cell (i := 0) rfl
    have x1 := hX.cell (i := 1) rfl
    gi_wp2_with (gi_at_builtin; refine wpListIn_append_own _ rfl _ _ 38 rfl w.heap.size 25 i0 (idV 0 0) 2 16 Tryz.underlying38 hi hz0 hz1 hz2 rfl (by decide) _ _ _ rfl (hrow.alloc _) ⟨W.heap.size, 0, none⟩ 1 1 [.int .u32 (x.1 : Nat), .int .i64 x.2] rfl rfl (two_new W _ _ _ _ rfl) (by simp [Value.oneCell']) (by unfold maxLen; omega) (by omega) (by have := hB.size; simp; omega) ?_; intro v' w1 hown' hgrow _; obtain ⟨g', cap', rfl⟩ := ownsRow_succ hown'; obtain ⟨hv1, hv2, hr2, hk2, hb2⟩ := hv.appended (by decide) hrow hB.size (Nat.le_refl _) hown' hgrow; have hc1 := hv1.cell; have hf1 := hv1.frozen)
    refine ⟨⟨_, hv2, ?_⟩, hB.trans hb2⟩
    rw [idCells_append]
    exact hr2
  case done =>
    rintro D ys W hD hS ⟨⟨v, hv, hrow⟩, hB⟩ hK
    have hc := hv.cell
    gi_wp2
    refine ⟨by simp, .inl ⟨_, _, rfl, run_takeDeferred hK, ?_⟩⟩
    exact ⟨_, results_tmp rfl _ _ _, v, ys, rfl, hS, ownsRow_putObj hrow _ hK rfl, hB.trans (below_put _ _ (by simp at hD; omega))⟩
set_option maxHeartbeats 1000000 in
theorem collectI_in (n : Nat) (hn : 4 ≤ n) (g : Nat) (lb : Array Value) (eg : ∀ args w, (callFunc g args).run Tryz.prog w = .ok (.enter g args) w) (S : List (Nat × Int) → Prop) (N : Nat) (hN : N ≤ 50000) (w : World)
    (hseq : SeqW Fence.wide (n - 1 - 1) Tryz.prog g lb (fun x : Nat × Int => #[idV (x.1 : Nat) x.2]) S N w) :
    CallsIn Fence.wide n Tryz.prog 83 #[.func (.func g) #[] lb] w fun e w' => ∃ v xs, e = .returned v ∧ S xs ∧ w'.ownsRow w.heap.size 25 2 v xs.length (idCells xs) ∧ Below w.heap.size w w' := by
  have h1 : 1 ≤ n := by omega
  refine callsIn_of_wp Tryz.func83 rfl trivial ?_ rfl
  simp only [Tryz.ntmps83, List.size_toArray, List.length_cons, List.length_nil, Nat.reduceAdd, Nat.reduceSub, Array.replicate_succ, Array.replicate_zero, List.push_toArray, List.append_toArray, List.nil_append, List.cons_append]
  gi_wp2_with (refine ⟨trivial, ?_⟩; gi_at_call 141; refine (appendSeqI_in (n - 1) (by omega) g lb eg S N hN _ _ (Below.refl _ _) hseq).mono ?_; rintro e w' ⟨v, xs, rfl, hS, hrow, hb⟩)
  go_ret
  exact ⟨v, xs, rfl, hS, hrow, hb⟩
end Go.Proofs.YtjdobbjdlighpabGreatDoor
namespace Go.Proofs.YtjdobbjdlighpabGreatDoor
open Go.RowKit Go.Maps Go.Sort

theorem pairwise_tiny {α : Type} {R : α → α → Prop} : ∀ (xs : List α), ¬ 2 ≤ xs.length → xs.Pairwise R
  | [], _ => List.Pairwise.nil
  | [_], _ => List.pairwise_singleton _ _
  | _ :: _ :: _, h => absurd (by simp) h
def encID (x : Nat × Int) : List Value := [.int .u32 (x.1 : Nat), .int .i64 x.2]
theorem swo_lessB : SWO lessB where
  irrefl x := lessB_irrefl x
  trans x y z h1 h2 := lessB_trans h1 h2
  ntrans x y z h1 h2 := by
    have n1 : ¬ (lessB x y = true) := by rw [h1]; decide
    have n2 : ¬ (lessB y z = true) := by rw [h2]; decide
    cases h3 : lessB x z with
    | false => rfl
    | true =>
      rw [lessB_iff] at *
      omega
theorem idsInfo : (Tryz.prog.info? 38).map (·.desc) = some (.slice 25) := by kernel_rfl
theorem idInfo2 : (Tryz.prog.info? 25).map (fun i => (i.size, i.hasPointers, i.bytes)) = some (2, false, 16) := by kernel_rfl
theorem idKindS (w : World) : (Extern.Rtype.kind 25).run Tryz.prog w = .ok 25 w := by kernel_rfl
theorem idAggS (w : World) : (isAgg 25).run Tryz.prog w = .ok true w := by kernel_rfl
theorem idsPacked : Tryz.prog.packed 38 = false := by kernel_rfl
theorem encID_one (x : Nat × Int) : ∀ v ∈ encID x, v.oneCell' = true := by
  intro v hv
  simp only [encID, List.mem_cons, List.not_mem_nil, or_false] at hv
  rcases hv with rfl | rfl <;> rfl
set_option maxRecDepth 100000 in
set_option maxHeartbeats 4000000 in
theorem reps1_any (Bs blk off n c i j : Nat) (x y : Nat × Int) (W : World) (hs : W.cell? ⟨Bs, 0, none⟩ = some (.slice (some ⟨blk, off, none⟩) n c)) (hi : i < n) (hj : j < n)
    (i0 : W.cell? ⟨blk, off + i * 2, none⟩ = some (.int .u32 (x.1 : Nat))) (i1 : W.cell? ⟨blk, off + i * 2 + 1, none⟩ = some (.int .i64 x.2)) (j0 : W.cell? ⟨blk, off + j * 2, none⟩ = some (.int .u32 (y.1 : Nat))) (j1 : W.cell? ⟨blk, off + j * 2 + 1, none⟩ = some (.int .i64 y.2)) :
    Calls Tryz.prog 86 #[.int .i64 i, .int .i64 j, .pointer (some ⟨Bs, 0, none⟩)] W fun e w' => e = .returned (.bool (lessB x y)) ∧ Below W.heap.size W w' := by
  have hi' : (i : Int) < (n : Int) := by omega
  have hj' : (j : Int) < (n : Int) := by omega
  have HL := less_is x y
  have HLb : Hid _ := HL
  obtain ⟨r, hr⟩ : ∃ r, lessB x y = r := ⟨_, rfl⟩
  rw [hr] at HLb ⊢
  clear HL hr
  obtain ⟨xp, xl⟩ := x
  obtain ⟨yp, yl⟩ := y
  simp only at i0 i1 j0 j1 HLb
  have HC : Hid (∀ w', Below W.heap.size W w' → w'.cell? ⟨Bs, 0, none⟩ = some (.slice (some ⟨blk, off, none⟩) n c) ∧ w'.cell? ⟨blk, off + i * 2, none⟩ = some (.int .u32 (xp : Nat)) ∧ w'.cell? ⟨blk, off + i * 2 + 1, none⟩ = some (.int .i64 xl) ∧ w'.cell? ⟨blk, off + j * 2, none⟩ = some (.int .u32 (yp : Nat)) ∧ w'.cell? ⟨blk, off + j * 2 + 1, none⟩ = some (.int .i64 yl)) := fun w' hb => ⟨(hb.cell (p := ⟨Bs, 0, none⟩) (lt_of_cell hs)).trans hs, (hb.cell (p := ⟨blk, off + i * 2, none⟩) (lt_of_cell i0)).trans i0, (hb.cell (p := ⟨blk, off + i * 2 + 1, none⟩) (lt_of_cell i0)).trans i1, (hb.cell (p := ⟨blk, off + j * 2, none⟩) (lt_of_cell i0)).trans j0, (hb.cell (p := ⟨blk, off + j * 2 + 1, none⟩) (lt_of_cell i0)).trans j1⟩
  go_enter Tryz.func86, Tryz.ntmps86
  go_wp2_with fail
  go_region_held3 (fun w' => w'.cell? ⟨Bs, 0, none⟩ = some (.slice (some ⟨blk, off, none⟩) n c) ∧ w'.cell? ⟨blk, off + i * 2, none⟩ = some (.int .u32 (xp : Nat)) ∧ w'.cell? ⟨blk, off + i * 2 + 1, none⟩ = some (.int .i64 xl) ∧ w'.cell? ⟨blk, off + j * 2, none⟩ = some (.int .u32 (yp : Nat)) ∧ w'.cell? ⟨blk, off + j * 2 + 1, none⟩ = some (.int .i64 yl)) (go_keep) (first
    | (go_at_call 87; refine (less_any _ _ _ _ _).mono ?_; rintro e w2 ⟨rfl, hb2⟩; rw [HLb.out]; have hB2 : Below W.heap.size W w2 := (Below.refl _ W).drew.trans hb2; have HB2 : Hid (Below W.heap.size W w2) := hB2; obtain ⟨z0, z1, z2, z3, z4⟩ := HC.out w2 hB2; clear hb2 hB2))
  go_wp2_with fail
  go_ret
  exact ⟨rfl, HB2.out⟩
theorem holdsI_cells {w : World} {g off : Nat} {d : Array (Nat × Int)} (h : HoldsK encID 2 w g off d) {i : Nat} (hi : i < d.size) :
    w.cell? ⟨g, off + i * 2, none⟩ = some (.int .u32 (d[i].1 : Nat)) ∧ w.cell? ⟨g, off + i * 2 + 1, none⟩ = some (.int .i64 d[i].2) := by
  have e : d[i]! = d[i] := getElem!_pos d i hi
  have c0 := (h.cell (i := i) (c := 0) hi (by decide)).1
  have c1 := (h.cell (i := i) (c := 1) hi (by decide)).1
  rw [e] at c0 c1
  exact ⟨c0, c1⟩
theorem holdsI_of_row {w : World} {base g cap : Nat} {c : List (Nat × Int)} (h : w.ownsRow base 25 2 (.slice (some ⟨g, 0, none⟩) c.length cap) c.length (idCells c)) : HoldsK encID 2 w g 0 c.toArray := by
  obtain ⟨hl, ho⟩ := h
  rcases ho with ⟨he, _⟩ | ⟨g', cap', cur, he, _, hb, h1, h2, h3, h4⟩
  · cases he
  · obtain ⟨e1, e2⟩ : g = g' ∧ cap = cap' := by simpa using he
    subst e1 e2
    intro j hj
    have hj' : j < c.length * 2 := by simpa using hj
    have hi : j / 2 < c.length := by omega
    have ef : (flatK encID 2 c.toArray)[j]! = (encID c[j / 2])[j % 2]! := by
      rw [get_flatK _ _ _ _ (by simpa using hj')]
      rw [getElem!_pos c.toArray (j / 2) (by simpa using hi)]
      simp
    obtain ⟨a0, a1⟩ := idCells_at c (j / 2) hi
    have hv : (idCells c)[j]? = some ((encID c[j / 2])[j % 2]!) := by
      have : j % 2 = 0 ∨ j % 2 = 1 := by omega
      rcases this with hm | hm
      · rw [show j / 2 * 2 = j by omega] at a0; rw [a0, hm]; rfl
      · rw [show j / 2 * 2 + 1 = j by omega] at a1; rw [a1, hm]; rfl
    have hcur : cur.toList[j]? = some ((encID c[j / 2])[j % 2]!) := by
      rw [← hv, ← h4, List.getElem?_take, if_pos (by omega)]
    refine ⟨?_, by simp [World.frozen?, hb]⟩
    rw [Nat.zero_add, ef]
    simp only [World.cell?, hb]
    rw [← Array.getElem?_toList, hcur]
    rfl
theorem riseI_of_sorted {d : Array (Nat × Int)} (hap : d.toList.Pairwise (fun p q => p ≠ q)) (hs : SortedIn lessB 0 d.size d) : d.toList.Pairwise (fun p q => lessB p q = true) := by
  rw [List.pairwise_iff_getElem] at *
  intro i j hi hj hij
  have h1 := hs i j (Nat.zero_le _) hij (by simpa using hj)
  rw [getElem!_pos d j (by simpa using hj), getElem!_pos d i (by simpa using hi)] at h1
  have h2 := hap i j hi hj hij
  simp only [Array.getElem_toList] at h2 ⊢
  exact lessB_flip h1 (fun e => h2 e.symm)
theorem sortIDs (Bs g cap : Nat) (c : List (Nat × Int)) (w : World) (hs : w.cell? ⟨Bs, 0, none⟩ = some (.slice (some ⟨g, 0, none⟩) c.length cap)) (hBs : Bs ≠ g) (hg : g < w.heap.size) (hH : HoldsK encID 2 w g 0 c.toArray) (h2 : 2 ≤ c.length) (hsz : c.length ≤ 1000) (hap : c.Pairwise (fun p q => p ≠ q)) :
    Calls Tryz.prog 85 #[.iface 38 (.slice (some ⟨g, 0, none⟩) c.length cap), .func (.func 86) #[] #[.pointer (some ⟨Bs, 0, none⟩)]] w fun e w' => e = .returned (.tuple #[]) ∧ ∃ c' : List (Nat × Int), c'.Perm c ∧ c'.Pairwise (fun p q => lessB p q = true) ∧ IdsAt w' (.slice (some ⟨g, 0, none⟩) c.length cap) c' ∧ w.grownBy w' (some g) := by
  obtain ⟨i, hi, hd⟩ := Option.map_eq_some_iff.1 idsInfo
  obtain ⟨ie, hie, hm⟩ := Option.map_eq_some_iff.1 idInfo2
  obtain ⟨m1, m2, m3⟩ : ie.size = 2 ∧ ie.hasPointers = false ∧ ie.bytes = 16 := by simpa using hm
  have hk9 : Lib.swapperK c.toArray.size ie 25 = 9 := by
    have e0 : (c.toArray.size == 0) = false := beq_eq_false_iff_ne.2 (by rw [List.size_toArray]; omega)
    have e1 : (c.toArray.size == 1) = false := beq_eq_false_iff_ne.2 (by rw [List.size_toArray]; omega)
    simp only [Lib.swapperK, e0, e1, m2, m3]
    rfl
  have hBl := lt_of_cell hs
  have hlen : c.length = c.toArray.size := by simp
  have H := srt_slice (α := Nat × Int) Tryz.laysGg6 38 25 i ie hi hd idsPacked hie 25 idKindS encID 2 (fun _ => rfl) m1 idAggS encID_one lessB swo_lessB 86 #[.pointer (some ⟨Bs, 0, none⟩)]
    (enters_of Tryz.func86 (by kernel_rfl) rfl) g 0 cap c.toArray (by simpa using h2) (by simp; omega) 191 (by rw [hk9]; exact swap9) false
    (fun args W => run_callFunc_extern Tryz.func191 (by kernel_rfl) (by kernel_rfl) (by kernel_rfl) (e := Extern.ReflectliteSwapper.swap false) (by kernel_rfl) args W) w hg hH
    (fun W dk i j hgW hHk hdk hi hj => by
      have hsW : W.cell? ⟨Bs, 0, none⟩ = some (.slice (some ⟨g, 0, none⟩) c.toArray.size cap) := by
        rw [← hlen]
        exact cell_kept hs hgW hBl (fun e => hBs (Option.some.inj e))
      obtain ⟨a0, a1⟩ := holdsI_cells hHk (i := i) (by omega)
      obtain ⟨b0, b1⟩ := holdsI_cells hHk (i := j) (by omega)
      refine (reps1_any Bs g 0 c.toArray.size cap i j dk[i] dk[j] W hsW hi hj a0 a1 b0 b1).mono ?_
      rintro e w' ⟨rfl, hb⟩
      refine ⟨?_, grown_of_below hb⟩
      rw [getElem!_pos dk i (by omega), getElem!_pos dk j (by omega)])
  rw [← hlen] at H
  refine H.mono ?_
  rintro e w' ⟨rfl, d', hp, hso, hh, hg'⟩
  have hsz' : d'.size = c.length := by rw [hp.1]; simp
  have hpm : d'.toList.Perm c := by
    have h := hp.2.2
    rw [Array.extract_eq_self_of_le (by omega), Array.extract_eq_self_of_le (by simp)] at h
    simpa using h
  refine ⟨rfl, d'.toList, hpm, riseI_of_sorted (((hpm.pairwise_iff (fun {_ _} hne => Ne.symm hne))).2 hap) (by rw [hsz']; exact hso), ⟨some ⟨g, 0, none⟩, cap, by simp [hsz'], fun i hi => ?_⟩, hg'⟩
  have hi' : i < d'.size := by simpa using hi
  obtain ⟨a0, a1⟩ := holdsI_cells hh (i := i) hi'
  exact ⟨g, 0, rfl, Nat.lt_of_lt_of_le hg hg'.size, a0, a1⟩
set_option maxRecDepth 100000 in
set_option maxHeartbeats 4000000 in
theorem nodeReps_any (p : Addr) (F : Nat → Prop) (st : NSt) (w : World) (hn : st.bins.length ≤ 1000) (hP : PNode w p F st) :
    Calls Tryz.prog 32 #[.pointer (some p)] w fun e w' => ∃ (v : Value) (rs : List (Nat × Int)), e = .returned v ∧ rs.Perm (st.bins.map (·.1)) ∧ rs.Pairwise (fun p q => lessB p q = true) ∧ IdsAt w' v rs ∧ Below w.heap.size w w' := by
  obtain ⟨N, mf, mb, vi, pi, Fi, rfl, h, _⟩ := hP
  have q1 := h.blk.cell (i := 1) rfl
  have hM := h.bins
  obtain ⟨L, hL⟩ : ∃ L, (st.bins.map fun b => (b.1, some (pi b.1))) = L := ⟨_, rfl⟩
  have HLK : Hid (L.map (·.1) = st.bins.map (·.1)) := by show _ = _; rw [← hL, List.map_map]; rfl
  rw [hL] at hM
  have HAP : Hid (L.Pairwise (fun p q => p.1 ≠ q.1)) := hM.apart
  have HLN : Hid (L.length ≤ 1000) := by show _ ≤ _; rw [← hL, List.length_map]; exact hn
  have hal1 := (Below.refl w.heap.size w).alloc (Nat.le_refl _) (.cells #[.map (some mb)] 100)
  have hb1 := Blk.new w #[.map (some mb)] 100
  have hM1 := ofB_below hM hal1
  have HK := hideN ((callsIn_wide (n := 8)).1 (keysI_in 8 (some mb) w))
  have HC := hideN ((callsIn_wide (n := 8)).1 (collectI_in 8 (by decide) 142 #[.pointer (some ⟨w.heap.size, 0, none⟩)] (enters_of Tryz.func142 (by kernel_rfl) rfl) (fun xs => xs.Perm (L.map (·.1))) L.length (by have := HLN.out; omega) (w.alloc (.cells #[.map (some mb)] 100))
    (fun l J W' hW hJ hY h0 => keysI1_in (8 - 1 - 1) (by decide) l w.heap.size mb L J W' hJ hY ((hb1.next hW).cell (i := 0) rfl) (ofB_below hM1 hW) h0)))
  have HB1 := hideN hal1
  clear h hM hL hal1 hb1 hM1 hn
  go_enter Tryz.func32, Tryz.ntmps32
  go_wp2_with fail
  refine HK.out.mono ?_
  rintro e w1 ⟨rfl, rfl⟩
  clear HK q1
  go_wp2_with fail
  refine HC.out.mono ?_
  rintro e w2 ⟨v, xs, rfl, hS, hrow, hb2⟩
  have HS := hideN hS
  have HB2 : Hid (Below w.heap.size w w2) := HB1.out.trans (hb2.mono HB1.out.size)
  have hxl : xs.length ≤ 1000 := by rw [HS.out.length_eq, List.length_map]; exact HLN.out
  have hxap : xs.Pairwise (fun p q => p ≠ q) := by
    refine (HS.out.pairwise_iff (fun {_ _} hne => Ne.symm hne)).2 ?_
    rw [List.pairwise_map]
    exact HAP.out
  have HXA := hideN hxap
  have hW1s : (w.alloc (.cells #[.map (some mb)] 100)).heap.size = w.heap.size + 1 := by simp
  rw [hW1s] at hrow
  obtain ⟨pv, cv, hv⟩ : ∃ p c, v = .slice p xs.length c := by
    rcases hrow.2 with ⟨rfl, e⟩ | ⟨g, cap, cur, rfl, _⟩
    · exact ⟨none, 0, by rw [e]⟩
    · exact ⟨_, _, rfl⟩
  subst hv
  have HROW := hideN hrow
  have hal3 := (Below.refl w2.heap.size w2).alloc (Nat.le_refl _) (.cells #[.slice pv xs.length cv] 38)
  have HBX := hideN (Blk.new w2 #[.slice pv xs.length cv] 38)
  have HROW3 := hideN (row_below hrow hal3)
  have HB3 : Hid (Below w.heap.size w _) := hideN (HB2.out.trans (hal3.mono HB2.out.size))
  have HGL : Hid (∀ g, (Value.slice pv xs.length cv).ownBlock = some g → w.heap.size + 1 ≤ g ∧ g < w2.heap.size) := fun g hg => by
    rcases hrow.2 with ⟨e, _⟩ | ⟨g', cap, cur, e, h1, h2, _⟩
    · rw [e] at hg; simp [Value.ownBlock] at hg
    · rw [e] at hg
      have : g' = g := by simpa [Value.ownBlock] using hg
      subst this
      exact ⟨h1, lt_of_block h2⟩
  have c0 := HBX.out.cell (i := 0) rfl
  clear hS hrow hb2 hxap hW1s hal3 HC HROW HB2
  go_wp2_with fail
  generalize w2.alloc (.cells #[.slice pv xs.length cv] 38) = W3 at *
  obtain ⟨BX, hBX⟩ : ∃ BX, w2.heap.size = BX := ⟨_, rfl⟩
  rw [hBX] at HBX HGL c0 ⊢
  clear hBX
  obtain ⟨i, hi', hd⟩ := Option.map_eq_some_iff.1 idsInfo
  obtain ⟨ie, hie, hmm⟩ := Option.map_eq_some_iff.1 idInfo2
  by_cases h2 : 2 ≤ xs.length
  · obtain ⟨g, cp', hv, h3, h4⟩ := row_some HROW3.out (by omega)
    obtain ⟨rfl, rfl⟩ : pv = some ⟨g, 0, none⟩ ∧ cv = cp' := by simpa using hv
    have hgg := HGL.out g rfl
    clear hi' hd hie hmm
    have HSRT := hideN (sortIDs BX g cv xs W3 c0 (by omega) (by have := HBX.out.lt; omega) (holdsI_of_row HROW3.out) h2 hxl HXA.out)
    refine HSRT.out.mono ?_
    rintro e w5 ⟨rfl, rs, hp, hr, hat, hg5⟩
    have c5 := cell_kept c0 hg5 (lt_of_cell c0) (fun e => by have := Option.some.inj e; simp only at this; omega)
    have HAT := hideN hat
    have HB5 : Hid (Below w.heap.size w w5) := HB3.out.trans ⟨hg5.os, hg5.tape, hg5.output, hg5.size, fun k hk => hg5.block k (by have := HB3.out.size; omega) (fun e => by have := Option.some.inj e; omega)⟩
    have HPR := hideN (And.intro (hp.trans HS.out) hr)
    clear hat hg5 hp hr HSRT
    go_wp2_with fail
    go_ret
    exact ⟨_, rs, rfl, by rw [← HLK.out]; exact HPR.out.1, HPR.out.2, HAT.out, HB5.out⟩
  · have htiny : Calls Tryz.prog 85 #[.iface 38 (.slice pv xs.length cv), .func (.func 86) #[] #[.pointer (some ⟨BX, 0, none⟩)]] W3 fun e w' => e = .returned (.tuple #[]) ∧ ∃ os, w' = grow W3 os := by
      have h01 : xs.length = 0 ∨ xs.length = 1 := by omega
      rcases h01 with h01 | h01
      · exact Any.sort_Slice_tiny Tryz.laysGg6 38 25 i ie hi' hd idsPacked hie 25 idKindS pv xs.length cv (by omega) 183 (by rw [h01]; exact swap1) _ _ _ W3
      · exact Any.sort_Slice_tiny Tryz.laysGg6 38 25 i ie hi' hd idsPacked hie 25 idKindS pv xs.length cv (by omega) 184 (by rw [h01]; exact swap2) _ _ _ W3
    have hone : xs.Pairwise (fun p q => lessB p q = true) := pairwise_tiny xs h2
    have HONE := hideN hone
    clear hi' hd hie hmm hone
    refine htiny.mono ?_
    rintro e w5 ⟨rfl, os, rfl⟩
    have hgr : W3.grownBy (grow W3 os) none := grown_grow W3 os
    have c5 := cell_kept c0 hgr (lt_of_cell c0) (by simp)
    have HAT := hideN ((IdsAt.of_row HROW3.out).below (below_of_grown hgr))
    have HB5 : Hid (Below w.heap.size w _) := hideN (HB3.out.trans ((below_of_grown hgr).mono HB3.out.size))
    clear hgr
    go_wp2_with fail
    go_ret
    exact ⟨_, xs, rfl, by rw [← HLK.out]; exact HS.out, HONE.out, HAT.out, HB5.out⟩
end Go.Proofs.YtjdobbjdlighpabGreatDoor
namespace Go.Proofs
open Go.RowKit Go.Maps Go.Sort Go.Shelf
def Tryz.keysM_ren : Go.Shelf.Ren := ⟨fun | 7 => 82 | 10 => 140 | n => n, fun | 23 => 99 | 26 => 9 | 3 => 40 | 28 => 141 | 0 => 0 | 27 => 140 | 33 => 201 | 4 => 4 | n => n, fun n => n⟩
theorem Tryz.keysM : Go.Proofs.SlLaysZ.n7 Go.Proofs.Tryz.prog Go.Proofs.Tryz.keysM_ren := {
  mixed := by kernel_rfl
  f7 := Exists.intro "maps.Keys[map[string]cornbin/api.Recipe,string,cornbin/api.Recipe]" ⟨of_decide_eq_true (by kernel_rfl), Tryz.func82.trans (congrArg some (by kernel_rfl))⟩
  f10 := Exists.intro "maps.Keys[map[string]cornbin/api.Recipe,string,cornbin/api.Recipe]$1" ⟨of_decide_eq_true (by kernel_rfl), Tryz.func140.trans (congrArg some (by kernel_rfl))⟩
  t0 := Tryz.underlying0
  a0 := Tryz.isAgg0
  z0 := Tryz.sizeOf0
  v0 := Tryz.zeroValue0
  t4 := Tryz.underlying4
  a4 := Tryz.isAgg4
  z4 := Tryz.sizeOf4
  v4 := Tryz.zeroValue4
  t23 := Tryz.underlying99
  a23 := Tryz.isAgg99
  z23 := Tryz.sizeOf99
  v23 := Tryz.zeroValue99
  t26 := Tryz.underlying9
  a26 := Tryz.isAgg9
  z26 := Tryz.sizeOf9
  v26 := Tryz.zeroValue9
  t27 := Tryz.underlying140
  a27 := Tryz.isAgg140
  z27 := Tryz.sizeOf140
  v27 := Tryz.zeroValue140
  t28 := Tryz.underlying141
  a28 := Tryz.isAgg141
  z28 := Tryz.sizeOf141
  v28 := Tryz.zeroValue141
  t33 := Tryz.underlying201
  a33 := Tryz.isAgg201
  z33 := Tryz.sizeOf201
  v33 := Tryz.zeroValue201 }
def Tryz.sortedM_ren : Go.Shelf.Ren := ⟨fun | 6 => 81 | 8 => 134 | 9 => 139 | 11 => 178 | 13 => 146 | 12 => 182 | 23 => 192 | 24 => 193 | 14 => 222 | 15 => 223 | 16 => 224 | 17 => 225 | 18 => 226 | 19 => 227 | 20 => 228 | 21 => 229 | 22 => 230 | 25 => 245 | 26 => 246 | 27 => 247 | 28 => 248 | 29 => 249 | 30 => 250 | 31 => 261 | n => n, fun | 26 => 9 | 28 => 141 | 24 => 73 | 0 => 0 | 3 => 3 | 37 => 220 | 48 => 23 | 50 => 263 | 4 => 4 | 40 => 301 | 39 => 300 | 45 => 193 | 5 => 5 | 9 => 9 | 51 => 321 | 55 => 311 | 57 => 335 | 58 => 103 | 33 => 201 | n => n, fun n => n⟩
theorem Tryz.sortedM : Go.Proofs.SlLaysZ.n6 Go.Proofs.Tryz.prog Go.Proofs.Tryz.sortedM_ren := {
  mixed := by kernel_rfl
  f6 := Exists.intro "slices.Sorted[string]" ⟨of_decide_eq_true (by kernel_rfl), Tryz.func81.trans (congrArg some (by kernel_rfl))⟩
  f8 := Exists.intro "slices.Collect[string]" ⟨of_decide_eq_true (by kernel_rfl), Tryz.func134.trans (congrArg some (by kernel_rfl))⟩
  f11 := Exists.intro "slices.AppendSeq[[]string,string]" ⟨of_decide_eq_true (by kernel_rfl), Tryz.func178.trans (congrArg some (by kernel_rfl))⟩
  t0 := Tryz.underlying0
  a0 := Tryz.isAgg0
  z0 := Tryz.sizeOf0
  v0 := Tryz.zeroValue0
  t24 := Tryz.underlying73
  a24 := Tryz.isAgg73
  z24 := Tryz.sizeOf73
  v24 := Tryz.zeroValue73
  t26 := Tryz.underlying9
  a26 := Tryz.isAgg9
  z26 := Tryz.sizeOf9
  v26 := Tryz.zeroValue9
  t28 := Tryz.underlying141
  a28 := Tryz.isAgg141
  z28 := Tryz.sizeOf141
  v28 := Tryz.zeroValue141
  i26 := by kernel_rfl }
def Tryz.sortM_ren : Go.Shelf.Ren := ⟨fun | 6 => 139 | 8 => 146 | 9 => 182 | 19 => 192 | 20 => 193 | 21 => 222 | 22 => 223 | 23 => 224 | 24 => 225 | 25 => 226 | 26 => 227 | 27 => 228 | 28 => 229 | 29 => 230 | 36 => 245 | 31 => 246 | 32 => 247 | 37 => 248 | 38 => 249 | 39 => 250 | 41 => 261 | n => n, fun | 27 => 73 | 29 => 9 | 3 => 3 | 32 => 220 | 26 => 73 | 0 => 0 | 44 => 23 | 46 => 263 | 4 => 4 | 36 => 301 | 35 => 300 | 41 => 193 | 5 => 5 | 9 => 9 | 53 => 321 | 57 => 311 | 63 => 335 | 64 => 103 | n => n, fun n => n⟩
theorem Tryz.sortM : Go.Proofs.SlLaysM.n6 Go.Proofs.Tryz.prog Go.Proofs.Tryz.sortM_ren := {
  mixed := by kernel_rfl
  f6 := Exists.intro "slices.Sort[[]string,string]" ⟨of_decide_eq_true (by kernel_rfl), Tryz.func139.trans (congrArg some (by kernel_rfl))⟩
  f8 := Tryz.func146.trans (congrArg some (by kernel_rfl))
  f9 := Exists.intro "slices.pdqsortOrdered[string]" ⟨of_decide_eq_true (by kernel_rfl), Tryz.func182.trans (congrArg some (by kernel_rfl))⟩
  f19 := Tryz.func192.trans (congrArg some (by kernel_rfl))
  f20 := Tryz.func193.trans (congrArg some (by kernel_rfl))
  f21 := Exists.intro "slices.insertionSortOrdered[string]" ⟨of_decide_eq_true (by kernel_rfl), Tryz.func222.trans (congrArg some (by kernel_rfl))⟩
  f22 := Exists.intro "slices.heapSortOrdered[string]" ⟨of_decide_eq_true (by kernel_rfl), Tryz.func223.trans (congrArg some (by kernel_rfl))⟩
  f23 := Exists.intro "slices.breakPatternsOrdered[string]" ⟨of_decide_eq_true (by kernel_rfl), Tryz.func224.trans (congrArg some (by kernel_rfl))⟩
  f24 := Exists.intro "slices.choosePivotOrdered[string]" ⟨of_decide_eq_true (by kernel_rfl), Tryz.func225.trans (congrArg some (by kernel_rfl))⟩
  f25 := Exists.intro "slices.reverseRangeOrdered[string]" ⟨of_decide_eq_true (by kernel_rfl), Tryz.func226.trans (congrArg some (by kernel_rfl))⟩
  f26 := Exists.intro "slices.partialInsertionSortOrdered[string]" ⟨of_decide_eq_true (by kernel_rfl), Tryz.func227.trans (congrArg some (by kernel_rfl))⟩
  f27 := Exists.intro "cmp.Less[string]" ⟨of_decide_eq_true (by kernel_rfl), Tryz.func228.trans (congrArg some (by kernel_rfl))⟩
  f28 := Exists.intro "slices.partitionEqualOrdered[string]" ⟨of_decide_eq_true (by kernel_rfl), Tryz.func229.trans (congrArg some (by kernel_rfl))⟩
  f29 := Exists.intro "slices.partitionOrdered[string]" ⟨of_decide_eq_true (by kernel_rfl), Tryz.func230.trans (congrArg some (by kernel_rfl))⟩
  f31 := Tryz.func246.trans (congrArg some (by kernel_rfl))
  f32 := Tryz.func247.trans (congrArg some (by kernel_rfl))
  f36 := Exists.intro "slices.siftDownOrdered[string]" ⟨of_decide_eq_true (by kernel_rfl), Tryz.func245.trans (congrArg some (by kernel_rfl))⟩
  f37 := Exists.intro "slices.medianAdjacentOrdered[string]" ⟨of_decide_eq_true (by kernel_rfl), Tryz.func248.trans (congrArg some (by kernel_rfl))⟩
  f38 := Exists.intro "slices.medianOrdered[string]" ⟨of_decide_eq_true (by kernel_rfl), Tryz.func249.trans (congrArg some (by kernel_rfl))⟩
  f39 := Exists.intro "cmp.isNaN[string]" ⟨of_decide_eq_true (by kernel_rfl), Tryz.func250.trans (congrArg some (by kernel_rfl))⟩
  f41 := Exists.intro "slices.order2Ordered[string]" ⟨of_decide_eq_true (by kernel_rfl), Tryz.func261.trans (congrArg some (by kernel_rfl))⟩
  t0 := Tryz.underlying0
  a0 := Tryz.isAgg0
  z0 := Tryz.sizeOf0
  v0 := Tryz.zeroValue0
  t3 := Tryz.underlying3
  a3 := Tryz.isAgg3
  z3 := Tryz.sizeOf3
  v3 := Tryz.zeroValue3
  t4 := Tryz.underlying4
  a4 := Tryz.isAgg4
  z4 := Tryz.sizeOf4
  v4 := Tryz.zeroValue4
  t5 := Tryz.underlying5
  a5 := Tryz.isAgg5
  z5 := Tryz.sizeOf5
  v5 := Tryz.zeroValue5
  t9 := Tryz.underlying9
  a9 := Tryz.isAgg9
  z9 := Tryz.sizeOf9
  v9 := Tryz.zeroValue9
  t26 := Tryz.underlying73
  a26 := Tryz.isAgg73
  z26 := Tryz.sizeOf73
  v26 := Tryz.zeroValue73
  t27 := Tryz.underlying73
  a27 := Tryz.isAgg73
  z27 := Tryz.sizeOf73
  v27 := Tryz.zeroValue73
  t29 := Tryz.underlying9
  a29 := Tryz.isAgg9
  z29 := Tryz.sizeOf9
  v29 := Tryz.zeroValue9
  t32 := Tryz.underlying220
  a32 := Tryz.isAgg220
  z32 := Tryz.sizeOf220
  v32 := Tryz.zeroValue220
  t35 := Tryz.underlying300
  a35 := Tryz.isAgg300
  z35 := Tryz.sizeOf300
  v35 := Tryz.zeroValue300
  t36 := Tryz.underlying301
  a36 := Tryz.isAgg301
  z36 := Tryz.sizeOf301
  v36 := Tryz.zeroValue301
  t41 := Tryz.underlying193
  a41 := Tryz.isAgg193
  z41 := Tryz.sizeOf193
  v41 := Tryz.zeroValue193
  t44 := Tryz.underlying23
  a44 := Tryz.isAgg23
  z44 := Tryz.sizeOf23
  v44 := Tryz.zeroValue23
  t46 := Tryz.underlying263
  a46 := Tryz.isAgg263
  z46 := Tryz.sizeOf263
  v46 := Tryz.zeroValue263
  t53 := Tryz.underlying321
  a53 := Tryz.isAgg321
  z53 := Tryz.sizeOf321
  v53 := Tryz.zeroValue321
  t57 := Tryz.underlying311
  a57 := Tryz.isAgg311
  z57 := Tryz.sizeOf311
  v57 := Tryz.zeroValue311
  t63 := Tryz.underlying335
  a63 := Tryz.isAgg335
  z63 := Tryz.sizeOf335
  v63 := Tryz.zeroValue335
  t64 := Tryz.underlying103
  a64 := Tryz.isAgg103
  z64 := Tryz.sizeOf103
  v64 := Tryz.zeroValue103 }
theorem Tryz.sortsM (m : Nat) : AnyZ.SortsIn Tryz.prog Tryz.sortedM_ren Fence.wide m :=
  ⟨fun blk off cap ss W hH hblk hsz => callsIn_wide.2 (AnyM.slices_Sort_string Tryz.sortM blk off cap ss W hH hblk hsz),
   fun p cap W => callsIn_wide.2 (AnyM.slices_Sort_string_none Tryz.sortM p cap W)⟩

theorem Tryz.maps_KeysM (mb : Option Nat) (W : World) : CallsIn Fence.wide 5 Tryz.prog 82 #[.map mb] W fun e w' => e = .returned (.func (.func 140) #[] #[.pointer (some ⟨W.heap.size, 0, none⟩)]) ∧ w' = W.alloc (.cells #[.map mb] 99) :=
  AnyZ.keys_in Tryz.keysM Fence.wide 5 trivial rfl mb W

set_option maxHeartbeats 1000000 in
theorem Tryz.sortedKeysM {H : Type} (b nn : Nat) (D0 : DataW H) (R : Value → Option (DataW H × List MemPlace)) (w : World) (hown : w.ownsMap Tryz.prog 9 R b nn D0) (hmax : Maps.size D0 ≤ maxLen) (hbytes : Maps.size D0 * 16 ≤ 140737488355328) :
    CallsIn Fence.wide 5 Tryz.prog 81 #[.func (.func 140) #[] #[.pointer (some ⟨w.heap.size, 0, none⟩)]] (w.alloc (.cells #[.map (some b)] 99)) fun e w' => ∃ (v : Value) (ss : List (List UInt8)), e = .returned v ∧ ss.Perm (strKeys D0) ∧
      w'.ownsRow (w.alloc (.cells #[.map (some b)] 99)).heap.size 9 1 v ss.length ((ss.mergeSort (fun x y => decide (x ≤ y))).map encStr) ∧ (v = .slice none 0 0 ↔ ss = []) ∧ Below (w.alloc (.cells #[.map (some b)] 99)).heap.size (w.alloc (.cells #[.map (some b)] 99)) w' := by
  have hbl := hown.lt
  have hseq : SeqGives Fence.wide 2 Tryz.prog 140 #[.pointer (some ⟨w.heap.size, 0, none⟩)] encStr (fun ss => ss.Perm (strKeys D0)) (Maps.size D0) (w.alloc (.cells #[.map (some b)] 99)) :=
    AnyZ.keys_gives (ρ := Tryz.keysM_ren) { Tryz.keysM with } Fence.wide _ trivial rfl (by omega) w.heap.size b nn D0 _ (by simp) (by simp) (by
      obtain ⟨es, clock, hb, Ft, hs, hD⟩ := hown
      exact ⟨es, clock, (Below.heap_alloc _ _ b hbl).trans hb, Ft, hs, hD⟩)
  exact AnyZ.sorted_in Tryz.sortedM Fence.wide 5 trivial trivial trivial trivial rfl (by omega) (Tryz.sortsM _) (enters_of Tryz.func139 (by kernel_rfl) rfl) 140 #[.pointer (some ⟨w.heap.size, 0, none⟩)] trivial (enters_of Tryz.func140 (by kernel_rfl) rfl) _ _ hmax hbytes _ hseq

set_option maxHeartbeats 1000000 in
theorem Tryz.sortedKeysNilM (w : World) :
    CallsIn Fence.wide 5 Tryz.prog 81 #[.func (.func 140) #[] #[.pointer (some ⟨w.heap.size, 0, none⟩)]] (w.alloc (.cells #[.map none] 99)) fun e w' => ∃ (v : Value) (ss : List (List UInt8)), e = .returned v ∧ ss = [] ∧
      w'.ownsRow (w.alloc (.cells #[.map none] 99)).heap.size 9 1 v ss.length ((ss.mergeSort (fun x y => decide (x ≤ y))).map encStr) ∧ (v = .slice none 0 0 ↔ ss = []) ∧ Below (w.alloc (.cells #[.map none] 99)).heap.size (w.alloc (.cells #[.map none] 99)) w' := by
  have hseq : SeqGives Fence.wide 2 Tryz.prog 140 #[.pointer (some ⟨w.heap.size, 0, none⟩)] encStr (fun ss : List (List UInt8) => ss = []) 0 (w.alloc (.cells #[.map none] 99)) :=
    AnyZ.keys_gives_nil (ρ := Tryz.keysM_ren) { Tryz.keysM with } Fence.wide _ trivial rfl w.heap.size _ (by simp) (by simp)
  exact AnyZ.sorted_in Tryz.sortedM Fence.wide 5 trivial trivial trivial trivial rfl (by omega) (Tryz.sortsM _) (enters_of Tryz.func139 (by kernel_rfl) rfl) 140 #[.pointer (some ⟨w.heap.size, 0, none⟩)] trivial (enters_of Tryz.func140 (by kernel_rfl) rfl) _ 0 (Nat.zero_le _) (by omega) _ hseq
end Go.Proofs
namespace Go.Proofs.YtjdobbjdlighpabGreatDoor
open Go.RowKit Go.Maps Go.Sort Go.Shelf

theorem strKl (x : List UInt8) (hx : WfNm x) : strRcps.kl x = .string x := by
  show (keyOf Tryz.prog 9 (.string ⟨x.toArray⟩)).getD (.bool false) = _
  rw [strKey_eq]
  unfold mapKey
  rw [Tryz.underlying9]
  have h1 : x.toArray.size = x.length := List.size_toArray
  have : (⟨x.toArray⟩ : ByteArray).size ≤ maxLen := by show x.toArray.size ≤ maxLen; rw [h1]; exact hx
  simp only [this, if_true]
  rfl
set_option maxRecDepth 100000 in
set_option maxHeartbeats 2000000 in
theorem nodeNames_any (p : Addr) (F : Nat → Prop) (st : NSt) (w : World) (hn : st.files.length ≤ 1000) (hP : PNode w p F st) :
    Calls Tryz.prog 31 #[.pointer (some p)] w fun e w' => ∃ (v : Value) (ss : List (List UInt8)), e = .returned v ∧ ss.Perm (st.files.map (·.1)) ∧
      w'.ownsRow w.heap.size 9 1 v ss.length ((ss.mergeSort (fun x y => decide (x ≤ y))).map encStr) ∧ Below w.heap.size w w' := by
  obtain ⟨N, mf, mb, vi, pi, Fi, rfl, h, _⟩ := hP
  have q0 := h.blk.cell (i := 0) rfl
  obtain ⟨ds, hown, hp⟩ := h.files.own
  have hsz : Maps.size (DataW.map ds) = st.files.length := by
    show ds.length = _
    rw [hp.length_eq, List.length_map, List.length_map]
  have hkeys : (strKeys (DataW.map ds)).Perm (st.files.map (·.1)) := by
    have h1 : (ds.map fun p => strOf p.1).Perm (((st.files.map fun f => (f.1, rwOf f (vi f.1))).map strRcps.ent).map fun p => strOf p.1) := hp.map _
    have h2 : (((st.files.map fun f => (f.1, rwOf f (vi f.1))).map strRcps.ent).map fun p => strOf p.1) = st.files.map (·.1) := by
      rw [List.map_map, List.map_map]
      refine List.map_congr_left fun f hf => ?_
      show strOf (strRcps.kl f.1) = f.1
      rw [strKl _ (h.files.wf _ (List.mem_map.2 ⟨f, hf, rfl⟩))]
      rfl
    rw [h2] at h1
    exact h1
  have hmax : Maps.size (DataW.map ds) ≤ maxLen := by rw [hsz]; unfold maxLen; omega
  have hbytes : Maps.size (DataW.map ds) * 16 ≤ 140737488355328 := by rw [hsz]; omega
  refine (callsIn_wide (n := 6)).1 ?_
  have hfK : Fence.wide.fn 82 := trivial
  have hfS : Fence.wide.fn 81 := trivial
  refine callsIn_of_wp Tryz.func31 rfl trivial ?_ rfl
  simp only [Tryz.ntmps31, List.size_toArray, List.length_cons, List.length_nil, Nat.reduceAdd, Nat.reduceSub, Array.replicate_succ, Array.replicate_zero, List.push_toArray, List.append_toArray, List.nil_append, List.cons_append]
  gi_wp2_with (first
    | (gi_at_call 82; refine (Tryz.maps_KeysM _ _).mono ?_; rintro e w' ⟨rfl, rfl⟩)
    | (gi_at_call 81; refine (Tryz.sortedKeysM mf _ (DataW.map ds) _ w hown hmax hbytes).mono ?_; rintro e w' ⟨v, ss, rfl, hS, hrow, hnil, hb⟩))
  go_ret
  exact ⟨v, ss, rfl, hS.trans hkeys, ownsRow_base_a hrow (by simp), ((Below.refl _ w).alloc (Nat.le_refl _) _).trans (hb.mono (by simp))⟩
end Go.Proofs.YtjdobbjdlighpabGreatDoor
