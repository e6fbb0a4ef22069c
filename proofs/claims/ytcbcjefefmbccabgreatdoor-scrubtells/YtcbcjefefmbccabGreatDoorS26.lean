/-
  Own text. slices.Collect(maps.Keys(m)) at a map by IDs: its keys, each once, in some order, in new memory.
  Own text. (*node.Node).Reps by a contract: its bins' reps, rising.
  Own text. scrub.binsOf by a contract: the bins of a node, by reps; each one's pieces lie in a block of their own.
  Own text. scrub.Of by a contract: a node that keeps its invariant is right.
-/
import Derived.Test.YtcbcjefefmbccabGreatDoorS25
import Derived.Test.YtcbcjefefmbccabGreatDoorS05
import Derived.Test.YtcbcjefefmbccabGreatDoorS08
import Derived.LoopIn
import Derived.Test.YtcbcjefefmbccabGreatDoorS16
import Derived.Test.YtcbcjefefmbccabGreatDoorS15
import Derived.Test.YtcbcjefefmbccabGreatDoorS11
import Derived.Test.YtcbcjefefmbccabGreatDoorS24
import Derived.Deep.AppendLies
namespace Go.Proofs.YtcbcjefefmbccabGreatDoor
open Go.RowKit Go.Maps Go.Shelf

attribute [local go_sem] Oper.semAt_some
theorem off_of_rowgrownK {w w' : World} {row : Option Nat} (h : w.grownBy w' row) : Off (fun k => row = some k) w w' := ⟨h.os, h.tape, h.output, h.size, fun k hk hn => h.block k hk (fun e => hn e.symm)⟩
theorem infoIDK : (Tryz.prog.info? 25).map (fun i => (i.zero, i.size, i.bytes)) = some (some (idV 0 0), 2, 16) := by kernel_rfl
set_option maxHeartbeats 1000000 in
theorem keysI_in (n : Nat) (mb : Option Nat) (w : World) :
    CallsIn Fence.wide n Tryz.prog 84 #[.map mb] w fun e w' => e = .returned (.func (.func 142) #[] #[.pointer (some ⟨w.heap.size, 0, none⟩)]) ∧ w' = w.alloc (.cells #[.map mb] 100) := by
  refine callsIn_of_wp Tryz.func84 rfl trivial ?_ rfl
  simp only [Tryz.ntmps84, List.size_toArray, List.length_cons, List.length_nil, Nat.reduceAdd, Nat.reduceSub, Array.replicate_succ, Array.replicate_zero, List.push_toArray, List.append_toArray, List.nil_append, List.cons_append]
  gi_wp2
  go_ret
  exact ⟨rfl, rfl⟩
set_option maxRecDepth 100000 in
set_option maxHeartbeats 4000000 in
theorem keysI1_in (n : Nat) (hn : 1 ≤ n) (l Bm b : Nat) (L : List ((Nat × Int) × Option Addr)) (J : List (Nat × Int) → World → Prop) (W : World) (hJ : AbidesAt W.heap.size J)
    (hY : ∀ pre x W1, J pre W1 → pre.length < L.length → YieldAt Fence.wide (n - 1) Tryz.prog l #[idV (x.1 : Nat) x.2] W1 fun e W' => e = .returned (.bool true) ∧ J (pre ++ [x]) W' ∧ KeepsWalks W1 W')
    (hm : W.cell? ⟨Bm, 0, none⟩ = some (.map (some b))) (hM : idBins.Of W b L) (h0 : J [] W) :
    CallsIn Fence.wide n Tryz.prog 142 #[.func (.yield l) #[] #[], .pointer (some ⟨Bm, 0, none⟩)] W fun e W' => (∃ v, e = .returned v) ∧ ∃ xs : List (Nat × Int), xs.Perm (L.map (·.1)) ∧ J xs W' := by
  have hap := hM.apart
  have HJ : Hid (AbidesAt W.heap.size J) := hJ
  have HY : Hid (∀ pre x W1, J pre W1 → pre.length < L.length → YieldAt Fence.wide (n - 1) Tryz.prog l #[idV (x.1 : Nat) x.2] W1 fun e W' => e = .returned (.bool true) ∧ J (pre ++ [x]) W' ∧ KeepsWalks W1 W') := hY
  clear hJ hY
  refine callsIn_of_wp Tryz.func142 rfl trivial ?_ rfl
  simp only [Tryz.ntmps142, List.size_toArray, List.length_cons, List.length_nil, Nat.reduceAdd, Nat.reduceSub, Array.replicate_succ, Array.replicate_zero, List.push_toArray, List.append_toArray, List.nil_append, List.cons_append]
  gi_wp2_with (first
    | (gi_at_range; refine wpIn_range_kit idBins _ rfl _ 100 rfl 47 Tryz.underlying100 b L rfl hM ?_; intro w0 hr0 hg0 hs0)
    | gi_in)
  go_frame
  gi_loopw [6] (fun _ wr => ∃ (left : Nat × Int → Bool) (cnt : Nat) (xs : List (Nat × Int)), idBins.Rng wr b W.heap.size L left cnt ∧ Hid (xs.Perm ((L.filter (fun y => !left y.1)).map (·.1))) ∧ J xs wr) (fun _ wr => wr.rangeLeft b W.heap.size)
  case atStart =>
    refine ⟨_, _, [], hr0, ?_, HJ.out [] W w0 none h0 hg0 (fun r e => by cases e)⟩
    show List.Perm _ _
    rw [List.filter_eq_nil_iff.2 (fun y hy => by
      simp only [Bool.not_eq_true', Bool.not_eq_false, decide_eq_true_eq]
      exact List.mem_map.2 ⟨y, hy, rfl⟩)]
    exact List.Perm.refl _
  case round =>
    obtain ⟨left, cnt, xs, hrg, HP, hJs⟩ := hrel
    gi_wp2_with (first
      | (gi_at_next; refine wpIn_next_kit idBins _ rfl _ rfl b W.heap.size L left cnt rfl hrg ?_ ?_)
      | gi_in)
    · intro h0'
      have HL0 : Hid (∀ y ∈ L, left y.1 = false) := fun y hy => h0' y.1.1 y.1.2 y.2 hy
      clear h0'
      gi_wp2
      go_end0
      refine ⟨⟨_, rfl⟩, xs, ?_, hJs⟩
      have := HP.out
      rw [List.filter_eq_self.2 (fun y hy => by rw [HL0.out y hy]; rfl)] at this
      exact this
    · intro xp xl c w2 cnt2 hmem hlx hrg2 hlt hg2 hs2 hen
      have hfl := filter_flip hap (p := left) hmem hlx
      have HP2 : Hid ((xs ++ [(xp, xl)]).Perm ((L.filter (fun y => !(left y.1 && !decide (y.1 = (xp, xl))))).map (·.1))) := by
        show List.Perm _ _
        have h1 := hfl.map (·.1)
        rw [List.map_cons] at h1
        exact (List.perm_append_comm.trans (HP.out.cons _)).trans h1.symm
      have HLN : Hid (xs.length < L.length) := by
        show _ < _
        have h1 : (L.filter (fun y : (Nat × Int) × Option Addr => !(left y.1 && !decide (y.1 = (xp, xl))))).length = (((xp, xl), c) :: L.filter (fun y => !left y.1)).length := hfl.length_eq
        have h2 := List.length_filter_le (fun y : (Nat × Int) × Option Addr => !(left y.1 && !decide (y.1 = (xp, xl)))) L
        have h3 := HP.out.length_eq
        rw [List.length_map] at h3
        rw [List.length_cons] at h1
        omega
      have hJ2 : J xs w2 := HJ.out xs wr w2 (some W.heap.size) hJs hg2 (fun r e => by cases e; exact ⟨Nat.le_refl _, hrg.iter_walk⟩)
      have hJ3 := HJ.out xs w2 _ none hJ2 (World.grownBy_alloc w2 (.cells #[.int .u32 (xp : Nat), .int .i64 xl] 25) none) (fun r e => by cases e)
      have hrg3 := hrg2.kept (World.grownBy_alloc w2 (.cells #[.int .u32 (xp : Nat), .int .i64 xl] 25) none) (by simp) (by simp)
      obtain ⟨fn, tmps, assign, body, hy, hR⟩ := HY.out xs (xp, xl) _ hJ3 HLN.out
      simp only at hy hR
      have HRR := hideN hR
      have HRG3 := hideN hrg3
      change (Instr.entry (.pointer (some ⟨W.heap.size, 0, none⟩))).run Tryz.prog w2 = .ok (.tuple #[idV (xp : Nat) xl, .pointer c]) w2 at hen
      clear hs2 hfl hJ2 hJ3 hR hrg3 hM hr0 hg0 hs0
      gi_wp2
      refine HRR.out.mono ?_
      rintro e W3 ⟨rfl, hJ4, hk4⟩
      have hrg4 := HRG3.out.of_walks hk4
      clear hen
      gi_wp2
      go_roundw
      case rel => exact ⟨_, cnt2, xs ++ [(xp, xl)], hrg4, HP2.out, hJ4⟩
      case measure => rw [hrg4.left_eq, hrg.left_eq]; exact hlt
theorem row_abides {base : Nat} {e : TypeId} {size : Nat} {v : Value} {k : Nat} {xs : List Value} {W W' : World} {row : Option Nat} (h : W.ownsRow base e size v k xs) (hg : W.grownBy W' row) (hrow : ∀ j o, row = some j → W.heap[j]? = some o → o.isCells = false) : W'.ownsRow base e size v k xs :=
  (off_of_rowgrownK hg).row h (fun j hj e => by
    rcases h.2 with ⟨rfl, _⟩ | ⟨g, cap, cur, rfl, _, hb, _⟩
    · simp [Value.ownBlock] at hj
    · have : g = j := by simpa [Value.ownBlock] using hj
      subst this
      have := hrow g _ e hb
      cases this)
set_option maxRecDepth 100000 in
set_option maxHeartbeats 4000000 in
theorem appendSeqI_in (n : Nat) (hn : 3 ≤ n) (g : Nat) (lb : Array Value) (eg : ∀ args w, (callFunc g args).run Tryz.prog w = .ok (.enter g args) w) (S : List (Nat × Int) → Prop) (N : Nat) (hN : N ≤ 50000) (w w0 : World) (hb0 : Below w0.heap.size w0 w)
    (hseq : SeqW Fence.wide (n - 1) Tryz.prog g lb (fun x : Nat × Int => #[idV (x.1 : Nat) x.2]) S N w0) :
    CallsIn Fence.wide n Tryz.prog 141 #[.slice none 0 0, .func (.func g) #[] lb] w fun e w' => ∃ v xs, e = .returned v ∧ S xs ∧ w'.ownsRow w.heap.size 25 2 v xs.length (idCells xs) ∧ Below w.heap.size w w' := by
  have h1 : 1 ≤ n := by omega
  obtain ⟨i0, hi, hz0, hz1, hz2⟩ := info_parts infoIDK
  refine callsIn_of_wp_marks Tryz.func141 rfl trivial ?_ rfl
  simp only [Tryz.ntmps141, List.size_toArray, List.length_cons, List.length_nil, Nat.reduceAdd, Nat.reduceSub, Array.replicate_succ, Array.replicate_zero, List.push_toArray, List.append_toArray, List.nil_append, List.cons_append]
  gi_wp2
  have bO := Boxed.new w 38 (.slice none 0 0)
  have hB0 : Below w.heap.size w (w.alloc (.cells #[.slice none 0 0] 38)) := (Below.refl _ w).alloc (Nat.le_refl _) _
  refine range_walk rfl h1 (gf := g) (lb := lb) rfl trivial eg hseq (hb0.trans (hB0.mono hb0.size)) (fun _ => rfl)
    (fun pre W => (∃ v, Boxed W w.heap.size 38 v ∧ W.ownsRow w.heap.size 25 2 v pre.length (idCells pre)) ∧ Below w.heap.size w W) ?abides ?put
    ⟨⟨_, bO, World.ownsRow_nil _ _ _ _⟩, hB0⟩
    (fun x a' W => ∃ Bx, w.heap.size < Bx ∧ Blk W Bx #[.int .u32 (x.1 : Nat), .int .i64 x.2] 25 ∧ a' = { tmps := #[.slice none 0 0, .func (.func g) #[] lb, .pointer (some ⟨w.heap.size, 0, none⟩), undef, .slice none 0 0, .pointer (some ⟨Bx, 0, none⟩), .func (.func g) #[] lb, idV (x.1 : Nat) x.2, undef, undef, undef, undef, undef], defers := [] }) ?ax ?assign ?body ?done
  case abides =>
    rintro s A B row ⟨⟨v, hv, hr⟩, hb⟩ hg hrow
    have hwalk : ∀ j o, row = some j → A.heap[j]? = some o → o.isCells = false := fun j o e ho => by
      obtain ⟨_, o', h1, h2⟩ := hrow j e
      rw [ho] at h1
      cases h1
      cases o <;> first | rfl | cases h2
    refine ⟨⟨v, hv.kept hg (fun e => ?_), row_abides hr hg hwalk⟩, hb.trans ⟨hg.os, hg.tape, hg.output, hg.size, fun k hk => hg.block k (by have := hb.size; omega) (fun e => ?_)⟩⟩
    · have := hwalk w.heap.size _ e.symm hv
      cases this
    · obtain ⟨h1, _⟩ := hrow k e.symm
      simp at h1
      omega
  case put =>
    rintro pre A l o o' hl ⟨⟨v, hv, hr⟩, hb⟩ ho hc
    have hl' : w.heap.size < l := by simp at hl; omega
    exact ⟨⟨v, (World.putObj_heap_other (by omega)).trans hv, ownsRow_putObj hr o' ho hc⟩, hb.trans (below_put A o' (by omega))⟩
  case ax =>
    rintro x a' A l o ⟨r, hr⟩ ⟨Bx, h1, h2, h3⟩
    refine ⟨Bx, h1, (World.putObj_heap_other (fun e => ?_)).trans h2, h3⟩
    subst e
    have : A.heap[Bx]? = some (.cells #[.int .u32 (x.1 : Nat), .int .i64 x.2] 25 (0, 0)) := h2
    rw [hr] at this
    cases this
  case assign =>
    rintro l pre x W K ⟨⟨v, hv, hr⟩, hb⟩ hK
    have hlt := hv.lt
    gi_wp2
    exact hK _ _ (KeepsOthers.alloc _ _) ⟨⟨v, hv.alloc _, hr.alloc _⟩, hb.alloc hb.size _⟩ ⟨W.heap.size, hlt, Blk.new W _ _, rfl⟩
  case body =>
    rintro l pre x a' W ⟨⟨v, hv, hrow⟩, hB⟩ ⟨Bx, hBx, hX, rfl⟩ hlt
    have hc := hv.cell
    have x0 := hX.cell (i := 0) rfl
    have x1 := hX.cell (i := 1) rfl
    gi_wp2_with (gi_at_builtin; refine wpListIn_append_own _ rfl _ _ 38 rfl w.heap.size 25 i0 (idV 0 0) 2 16 Tryz.underlying38 hi hz0 hz1 hz2 rfl (by decide) _ _ _ rfl (hrow.alloc _) ⟨W.heap.size, 0, none⟩ 1 1 [.int .u32 (x.1 : Nat), .int .i64 x.2] rfl rfl (two_new W _ _ _ _ rfl) (by simp [Value.oneCell']) (by unfold maxLen; omega) (by omega) (by have := hB.size; simp; omega) ?_; intro v' w1 hown' hgrow _; obtain ⟨g', cap', rfl⟩ := ownsRow_succ hown'; obtain ⟨hv1, hv2, hr2, hk2, hb2⟩ := hv.appended (by decide) hrow hB.size (Nat.le_refl _) hown' hgrow; have hc1 := hv1.cell; have hf1 := hv1.frozen)
    refine ⟨⟨_, hv2, ?_⟩, hB.trans hb2⟩
    rw [idCells_append]
    exact hr2
  case done =>
    rintro D ys W hD hS ⟨⟨v, hv, hrow⟩, hB⟩ hK
    have hc := hv.cell
    gi_wp2
    refine ⟨by simp, .inl ⟨_, _, rfl, run_takeDeferred hK, ?_⟩⟩
    exact ⟨_, results_tmp rfl _ _ _, v, ys, rfl, hS, ownsRow_putObj hrow _ hK rfl, hB.trans (below_put _ _ (by simp at hD; omega))⟩
set_option maxHeartbeats 1000000 in
theorem collectI_in (n : Nat) (hn : 4 ≤ n) (g : Nat) (lb : Array Value) (eg : ∀ args w, (callFunc g args).run Tryz.prog w = .ok (.enter g args) w) (S : List (Nat × Int) → Prop) (N : Nat) (hN : N ≤ 50000) (w : World)
    (hseq : SeqW Fence.wide (n - 1 - 1) Tryz.prog g lb (fun x : Nat × Int => #[idV (x.1 : Nat) x.2]) S N w) :
    CallsIn Fence.wide n Tryz.prog 83 #[.func (.func g) #[] lb] w fun e w' => ∃ v xs, e = .returned v ∧ S xs ∧ w'.ownsRow w.heap.size 25 2 v xs.length (idCells xs) ∧ Below w.heap.size w w' := by
  have h1 : 1 ≤ n := by omega
  refine callsIn_of_wp Tryz.func83 rfl trivial ?_ rfl
  simp only [Tryz.ntmps83, List.size_toArray, List.length_cons, List.length_nil, Nat.reduceAdd, Nat.reduceSub, Array.replicate_succ, Array.replicate_zero, List.push_toArray, List.append_toArray, List.nil_append, List.cons_append]
  gi_wp2_with (refine ⟨trivial, ?_⟩; gi_at_call 141; refine (appendSeqI_in (n - 1) (by omega) g lb eg S N hN _ _ (Below.refl _ _) hseq).mono ?_; rintro e w' ⟨v, xs, rfl, hS, hrow, hb⟩)
  go_ret
  exact ⟨v, xs, rfl, hS, hrow, hb⟩
end Go.Proofs.YtcbcjefefmbccabGreatDoor
namespace Go.Proofs.YtcbcjefefmbccabGreatDoor
open Go.RowKit Go.Maps Go.Sort

theorem pairwise_tiny {α : Type} {R : α → α → Prop} : ∀ (xs : List α), ¬ 2 ≤ xs.length → xs.Pairwise R
  | [], _ => List.Pairwise.nil
  | [_], _ => List.pairwise_singleton _ _
  | _ :: _ :: _, h => absurd (by simp) h
def encID (x : Nat × Int) : List Value := [.int .u32 (x.1 : Nat), .int .i64 x.2]
theorem swo_lessB : SWO lessB where
  irrefl x := lessB_irrefl x
  trans x y z h1 h2 := lessB_trans h1 h2
  ntrans x y z h1 h2 := by
    have n1 : ¬ (lessB x y = true) := by rw [h1]; decide
    have n2 : ¬ (lessB y z = true) := by rw [h2]; decide
    cases h3 : lessB x z with
    | false => rfl
    | true =>
      rw [lessB_iff] at *
      omega
theorem idsInfo : (Tryz.prog.info? 38).map (·.desc) = some (.slice 25) := by kernel_rfl
theorem idInfo2 : (Tryz.prog.info? 25).map (fun i => (i.size, i.hasPointers, i.bytes)) = some (2, false, 16) := by kernel_rfl
theorem idKindS (w : World) : (Extern.Rtype.kind 25).run Tryz.prog w = .ok 25 w := by kernel_rfl
theorem idAggS (w : World) : (isAgg 25).run Tryz.prog w = .ok true w := by kernel_rfl
theorem idsPacked : Tryz.prog.packed 38 = false := by kernel_rfl
theorem encID_one (x : Nat × Int) : ∀ v ∈ encID x, v.oneCell' = true := by
  intro v hv
  simp only [encID, List.mem_cons, List.not_mem_nil, or_false] at hv
  rcases hv with rfl | rfl <;> rfl
set_option maxRecDepth 100000 in
set_option maxHeartbeats 4000000 in
theorem reps1_any (Bs blk off n c i j : Nat) (x y : Nat × Int) (W : World) (hs : W.cell? ⟨Bs, 0, none⟩ = some (.slice (some ⟨blk, off, none⟩) n c)) (hi : i < n) (hj : j < n)
    (i0 : W.cell? ⟨blk, off + i * 2, none⟩ = some (.int .u32 (x.1 : Nat))) (i1 : W.cell? ⟨blk, off + i * 2 + 1, none⟩ = some (.int .i64 x.2)) (j0 : W.cell? ⟨blk, off + j * 2, none⟩ = some (.int .u32 (y.1 : Nat))) (j1 : W.cell? ⟨blk, off + j * 2 + 1, none⟩ = some (.int .i64 y.2)) :
    Calls Tryz.prog 86 #[.int .i64 i, .int .i64 j, .pointer (some ⟨Bs, 0, none⟩)] W fun e w' => e = .returned (.bool (lessB x y)) ∧ Below W.heap.size W w' := by
  have hi' : (i : Int) < (n : Int) := by omega
  have hj' : (j : Int) < (n : Int) := by omega
  have HL := less_is x y
  have HLb : Hid _ := HL
  obtain ⟨r, hr⟩ : ∃ r, lessB x y = r := ⟨_, rfl⟩
  rw [hr] at HLb ⊢
  clear HL hr
  obtain ⟨xp, xl⟩ := x
  obtain ⟨yp, yl⟩ := y
  simp only at i0 i1 j0 j1 HLb
  have HC : Hid (∀ w', Below W.heap.size W w' → w'.cell? ⟨Bs, 0, none⟩ = some (.slice (some ⟨blk, off, none⟩) n c) ∧ w'.cell? ⟨blk, off + i * 2, none⟩ = some (.int .u32 (xp : Nat)) ∧ w'.cell? ⟨blk, off + i * 2 + 1, none⟩ = some (.int .i64 xl) ∧ w'.cell? ⟨blk, off + j * 2, none⟩ = some (.int .u32 (yp : Nat)) ∧ w'.cell? ⟨blk, off + j * 2 + 1, none⟩ = some (.int .i64 yl)) := fun w' hb => ⟨(hb.cell (p := ⟨Bs, 0, none⟩) (lt_of_cell hs)).trans hs, (hb.cell (p := ⟨blk, off + i * 2, none⟩) (lt_of_cell i0)).trans i0, (hb.cell (p := ⟨blk, off + i * 2 + 1, none⟩) (lt_of_cell i0)).trans i1, (hb.cell (p := ⟨blk, off + j * 2, none⟩) (lt_of_cell i0)).trans j0, (hb.cell (p := ⟨blk, off + j * 2 + 1, none⟩) (lt_of_cell i0)).trans j1⟩
  go_enter Tryz.func86, Tryz.ntmps86
  go_wp2_with fail
  go_region_held3 (fun w' => w'.cell? ⟨Bs, 0, none⟩ = some (.slice (some ⟨blk, off, none⟩) n c) ∧ w'.cell? ⟨blk, off + i * 2, none⟩ = some (.int .u32 (xp : Nat)) ∧ w'.cell? ⟨blk, off + i * 2 + 1, none⟩ = some (.int .i64 xl) ∧ w'.cell? ⟨blk, off + j * 2, none⟩ = some (.int .u32 (yp : Nat)) ∧ w'.cell? ⟨blk, off + j * 2 + 1, none⟩ = some (.int .i64 yl)) (go_keep) (first
    | (go_at_call 87; refine (less_any _ _ _ _ _).mono ?_; rintro e w2 ⟨rfl, hb2⟩; rw [HLb.out]; have hB2 : Below W.heap.size W w2 := (Below.refl _ W).drew.trans hb2; have HB2 : Hid (Below W.heap.size W w2) := hB2; obtain ⟨z0, z1, z2, z3, z4⟩ := HC.out w2 hB2; clear hb2 hB2))
  go_wp2_with fail
  go_ret
  exact ⟨rfl, HB2.out⟩
theorem holdsI_cells {w : World} {g off : Nat} {d : Array (Nat × Int)} (h : HoldsK encID 2 w g off d) {i : Nat} (hi : i < d.size) :
    w.cell? ⟨g, off + i * 2, none⟩ = some (.int .u32 (d[i].1 : Nat)) ∧ w.cell? ⟨g, off + i * 2 + 1, none⟩ = some (.int .i64 d[i].2) := by
  have e : d[i]! = d[i] := getElem!_pos d i hi
  have c0 := (h.cell (i := i) (c := 0) hi (by decide)).1
  have c1 := (h.cell (i := i) (c := 1) hi (by decide)).1
  rw [e] at c0 c1
  exact ⟨c0, c1⟩
theorem holdsI_of_row {w : World} {base g cap : Nat} {c : List (Nat × Int)} (h : w.ownsRow base 25 2 (.slice (some ⟨g, 0, none⟩) c.length cap) c.length (idCells c)) : HoldsK encID 2 w g 0 c.toArray := by
  obtain ⟨hl, ho⟩ := h
  rcases ho with ⟨he, _⟩ | ⟨g', cap', cur, he, _, hb, h1, h2, h3, h4⟩
  · cases he
  · obtain ⟨e1, e2⟩ : g = g' ∧ cap = cap' := by simpa using he
    subst e1 e2
    intro j hj
    have hj' : j < c.length * 2 := by simpa using hj
    have hi : j / 2 < c.length := by omega
    have ef : (flatK encID 2 c.toArray)[j]! = (encID c[j / 2])[j % 2]! := by
      rw [get_flatK _ _ _ _ (by simpa using hj')]
      rw [getElem!_pos c.toArray (j / 2) (by simpa using hi)]
      simp
    obtain ⟨a0, a1⟩ := idCells_at c (j / 2) hi
    have hv : (idCells c)[j]? = some ((encID c[j / 2])[j % 2]!) := by
      have : j % 2 = 0 ∨ j % 2 = 1 := by omega
      rcases this with hm | hm
      · rw [show j / 2 * 2 = j by omega] at a0; rw [a0, hm]; rfl
      · rw [show j / 2 * 2 + 1 = j by omega] at a1; rw [a1, hm]; rfl
    have hcur : cur.toList[j]? = some ((encID c[j / 2])[j % 2]!) := by
      rw [← hv, ← h4, List.getElem?_take, if_pos (by omega)]
    refine ⟨?_, by simp [World.frozen?, hb]⟩
    rw [Nat.zero_add, ef]
    simp only [World.cell?, hb]
    rw [← Array.getElem?_toList, hcur]
    rfl
theorem riseI_of_sorted {d : Array (Nat × Int)} (hap : d.toList.Pairwise (fun p q => p ≠ q)) (hs : SortedIn lessB 0 d.size d) : d.toList.Pairwise (fun p q => lessB p q = true) := by
  rw [List.pairwise_iff_getElem] at *
  intro i j hi hj hij
  have h1 := hs i j (Nat.zero_le _) hij (by simpa using hj)
  rw [getElem!_pos d j (by simpa using hj), getElem!_pos d i (by simpa using hi)] at h1
  have h2 := hap i j hi hj hij
  simp only [Array.getElem_toList] at h2 ⊢
  exact lessB_flip h1 (fun e => h2 e.symm)
theorem sortIDs (Bs g cap : Nat) (c : List (Nat × Int)) (w : World) (hs : w.cell? ⟨Bs, 0, none⟩ = some (.slice (some ⟨g, 0, none⟩) c.length cap)) (hBs : Bs ≠ g) (hg : g < w.heap.size) (hH : HoldsK encID 2 w g 0 c.toArray) (h2 : 2 ≤ c.length) (hsz : c.length ≤ 1000) (hap : c.Pairwise (fun p q => p ≠ q)) :
    Calls Tryz.prog 85 #[.iface 38 (.slice (some ⟨g, 0, none⟩) c.length cap), .func (.func 86) #[] #[.pointer (some ⟨Bs, 0, none⟩)]] w fun e w' => e = .returned (.tuple #[]) ∧ ∃ c' : List (Nat × Int), c'.Perm c ∧ c'.Pairwise (fun p q => lessB p q = true) ∧ IdsAt w' (.slice (some ⟨g, 0, none⟩) c.length cap) c' ∧ w.grownBy w' (some g) := by
  obtain ⟨i, hi, hd⟩ := Option.map_eq_some_iff.1 idsInfo
  obtain ⟨ie, hie, hm⟩ := Option.map_eq_some_iff.1 idInfo2
  obtain ⟨m1, m2, m3⟩ : ie.size = 2 ∧ ie.hasPointers = false ∧ ie.bytes = 16 := by simpa using hm
  have hk9 : Lib.swapperK c.toArray.size ie 25 = 9 := by
    have e0 : (c.toArray.size == 0) = false := beq_eq_false_iff_ne.2 (by rw [List.size_toArray]; omega)
    have e1 : (c.toArray.size == 1) = false := beq_eq_false_iff_ne.2 (by rw [List.size_toArray]; omega)
    simp only [Lib.swapperK, e0, e1, m2, m3]
    rfl
  have hBl := lt_of_cell hs
  have hlen : c.length = c.toArray.size := by simp
  have H := srt_slice (α := Nat × Int) Tryz.laysGg6 38 25 i ie hi hd idsPacked hie 25 idKindS encID 2 (fun _ => rfl) m1 idAggS encID_one lessB swo_lessB 86 #[.pointer (some ⟨Bs, 0, none⟩)]
    (enters_of Tryz.func86 (by kernel_rfl) rfl) g 0 cap c.toArray (by simpa using h2) (by simp; omega) 191 (by rw [hk9]; exact swap9) false
    (fun args W => run_callFunc_extern Tryz.func191 (by kernel_rfl) (by kernel_rfl) (by kernel_rfl) (e := Extern.ReflectliteSwapper.swap false) (by kernel_rfl) args W) w hg hH
    (fun W dk i j hgW hHk hdk hi hj => by
      have hsW : W.cell? ⟨Bs, 0, none⟩ = some (.slice (some ⟨g, 0, none⟩) c.toArray.size cap) := by
        rw [← hlen]
        exact cell_kept hs hgW hBl (fun e => hBs (Option.some.inj e))
      obtain ⟨a0, a1⟩ := holdsI_cells hHk (i := i) (by omega)
      obtain ⟨b0, b1⟩ := holdsI_cells hHk (i := j) (by omega)
      refine (reps1_any Bs g 0 c.toArray.size cap i j dk[i] dk[j] W hsW hi hj a0 a1 b0 b1).mono ?_
      rintro e w' ⟨rfl, hb⟩
      refine ⟨?_, grown_of_below hb⟩
      rw [getElem!_pos dk i (by omega), getElem!_pos dk j (by omega)])
  rw [← hlen] at H
  refine H.mono ?_
  rintro e w' ⟨rfl, d', hp, hso, hh, hg'⟩
  have hsz' : d'.size = c.length := by rw [hp.1]; simp
  have hpm : d'.toList.Perm c := by
    have h := hp.2.2
    rw [Array.extract_eq_self_of_le (by omega), Array.extract_eq_self_of_le (by simp)] at h
    simpa using h
  refine ⟨rfl, d'.toList, hpm, riseI_of_sorted (((hpm.pairwise_iff (fun {_ _} hne => Ne.symm hne))).2 hap) (by rw [hsz']; exact hso), ⟨some ⟨g, 0, none⟩, cap, by simp [hsz'], fun i hi => ?_⟩, hg'⟩
  have hi' : i < d'.size := by simpa using hi
  obtain ⟨a0, a1⟩ := holdsI_cells hh (i := i) hi'
  exact ⟨g, 0, rfl, Nat.lt_of_lt_of_le hg hg'.size, a0, a1⟩
set_option maxRecDepth 100000 in
set_option maxHeartbeats 4000000 in
theorem nodeReps_any (p : Addr) (F : Nat → Prop) (st : NSt) (w : World) (hn : st.bins.length ≤ 1000) (hP : PNode w p F st) :
    Calls Tryz.prog 32 #[.pointer (some p)] w fun e w' => ∃ (v : Value) (rs : List (Nat × Int)), e = .returned v ∧ rs.Perm (st.bins.map (·.1)) ∧ rs.Pairwise (fun p q => lessB p q = true) ∧ IdsAt w' v rs ∧ Below w.heap.size w w' := by
  obtain ⟨N, mf, mb, vi, pi, Fi, rfl, h, _⟩ := hP
  have q1 := h.blk.cell (i := 1) rfl
  have hM := h.bins
  obtain ⟨L, hL⟩ : ∃ L, (st.bins.map fun b => (b.1, some (pi b.1))) = L := ⟨_, rfl⟩
  have HLK : Hid (L.map (·.1) = st.bins.map (·.1)) := by show _ = _; rw [← hL, List.map_map]; rfl
  rw [hL] at hM
  have HAP : Hid (L.Pairwise (fun p q => p.1 ≠ q.1)) := hM.apart
  have HLN : Hid (L.length ≤ 1000) := by show _ ≤ _; rw [← hL, List.length_map]; exact hn
  have hal1 := (Below.refl w.heap.size w).alloc (Nat.le_refl _) (.cells #[.map (some mb)] 100)
  have hb1 := Blk.new w #[.map (some mb)] 100
  have hM1 := ofB_below hM hal1
  have HK := hideN ((callsIn_wide (n := 8)).1 (keysI_in 8 (some mb) w))
  have HC := hideN ((callsIn_wide (n := 8)).1 (collectI_in 8 (by decide) 142 #[.pointer (some ⟨w.heap.size, 0, none⟩)] (enters_of Tryz.func142 (by kernel_rfl) rfl) (fun xs => xs.Perm (L.map (·.1))) L.length (by have := HLN.out; omega) (w.alloc (.cells #[.map (some mb)] 100))
    (fun l J W' hW hJ hY h0 => keysI1_in (8 - 1 - 1) (by decide) l w.heap.size mb L J W' hJ hY ((hb1.next hW).cell (i := 0) rfl) (ofB_below hM1 hW) h0)))
  have HB1 := hideN hal1
  clear h hM hL hal1 hb1 hM1 hn
  go_enter Tryz.func32, Tryz.ntmps32
  go_wp2_with fail
  refine HK.out.mono ?_
  rintro e w1 ⟨rfl, rfl⟩
  clear HK q1
  go_wp2_with fail
  refine HC.out.mono ?_
  rintro e w2 ⟨v, xs, rfl, hS, hrow, hb2⟩
  have HS := hideN hS
  have HB2 : Hid (Below w.heap.size w w2) := HB1.out.trans (hb2.mono HB1.out.size)
  have hxl : xs.length ≤ 1000 := by rw [HS.out.length_eq, List.length_map]; exact HLN.out
  have hxap : xs.Pairwise (fun p q => p ≠ q) := by
    refine (HS.out.pairwise_iff (fun {_ _} hne => Ne.symm hne)).2 ?_
    rw [List.pairwise_map]
    exact HAP.out
  have HXA := hideN hxap
  have hW1s : (w.alloc (.cells #[.map (some mb)] 100)).heap.size = w.heap.size + 1 := by simp
  rw [hW1s] at hrow
  obtain ⟨pv, cv, hv⟩ : ∃ p c, v = .slice p xs.length c := by
    rcases hrow.2 with ⟨rfl, e⟩ | ⟨g, cap, cur, rfl, _⟩
    · exact ⟨none, 0, by rw [e]⟩
    · exact ⟨_, _, rfl⟩
  subst hv
  have HROW := hideN hrow
  have hal3 := (Below.refl w2.heap.size w2).alloc (Nat.le_refl _) (.cells #[.slice pv xs.length cv] 38)
  have HBX := hideN (Blk.new w2 #[.slice pv xs.length cv] 38)
  have HROW3 := hideN (row_below hrow hal3)
  have HB3 : Hid (Below w.heap.size w _) := hideN (HB2.out.trans (hal3.mono HB2.out.size))
  have HGL : Hid (∀ g, (Value.slice pv xs.length cv).ownBlock = some g → w.heap.size + 1 ≤ g ∧ g < w2.heap.size) := fun g hg => by
    rcases hrow.2 with ⟨e, _⟩ | ⟨g', cap, cur, e, h1, h2, _⟩
    · rw [e] at hg; simp [Value.ownBlock] at hg
    · rw [e] at hg
      have : g' = g := by simpa [Value.ownBlock] using hg
      subst this
      exact ⟨h1, lt_of_block h2⟩
  have c0 := HBX.out.cell (i := 0) rfl
  clear hS hrow hb2 hxap hW1s hal3 HC HROW HB2
  go_wp2_with fail
  generalize w2.alloc (.cells #[.slice pv xs.length cv] 38) = W3 at *
  obtain ⟨BX, hBX⟩ : ∃ BX, w2.heap.size = BX := ⟨_, rfl⟩
  rw [hBX] at HBX HGL c0 ⊢
  clear hBX
  obtain ⟨i, hi', hd⟩ := Option.map_eq_some_iff.1 idsInfo
  obtain ⟨ie, hie, hmm⟩ := Option.map_eq_some_iff.1 idInfo2
  by_cases h2 : 2 ≤ xs.length
  · obtain ⟨g, cp', hv, h3, h4⟩ := row_some HROW3.out (by omega)
    obtain ⟨rfl, rfl⟩ : pv = some ⟨g, 0, none⟩ ∧ cv = cp' := by simpa using hv
    have hgg := HGL.out g rfl
    clear hi' hd hie hmm
    have HSRT := hideN (sortIDs BX g cv xs W3 c0 (by omega) (by have := HBX.out.lt; omega) (holdsI_of_row HROW3.out) h2 hxl HXA.out)
    refine HSRT.out.mono ?_
    rintro e w5 ⟨rfl, rs, hp, hr, hat, hg5⟩
    have c5 := cell_kept c0 hg5 (lt_of_cell c0) (fun e => by have := Option.some.inj e; simp only at this; omega)
    have HAT := hideN hat
    have HB5 : Hid (Below w.heap.size w w5) := HB3.out.trans ⟨hg5.os, hg5.tape, hg5.output, hg5.size, fun k hk => hg5.block k (by have := HB3.out.size; omega) (fun e => by have := Option.some.inj e; omega)⟩
    have HPR := hideN (And.intro (hp.trans HS.out) hr)
    clear hat hg5 hp hr HSRT
    go_wp2_with fail
    go_ret
    exact ⟨_, rs, rfl, by rw [← HLK.out]; exact HPR.out.1, HPR.out.2, HAT.out, HB5.out⟩
  · have htiny : Calls Tryz.prog 85 #[.iface 38 (.slice pv xs.length cv), .func (.func 86) #[] #[.pointer (some ⟨BX, 0, none⟩)]] W3 fun e w' => e = .returned (.tuple #[]) ∧ ∃ os, w' = grow W3 os := by
      have h01 : xs.length = 0 ∨ xs.length = 1 := by omega
      rcases h01 with h01 | h01
      · exact Any.sort_Slice_tiny Tryz.laysGg6 38 25 i ie hi' hd idsPacked hie 25 idKindS pv xs.length cv (by omega) 183 (by rw [h01]; exact swap1) _ _ _ W3
      · exact Any.sort_Slice_tiny Tryz.laysGg6 38 25 i ie hi' hd idsPacked hie 25 idKindS pv xs.length cv (by omega) 184 (by rw [h01]; exact swap2) _ _ _ W3
    have hone : xs.Pairwise (fun p q => lessB p q = true) := pairwise_tiny xs h2
    have HONE := hideN hone
    clear hi' hd hie hmm hone
    refine htiny.mono ?_
    rintro e w5 ⟨rfl, os, rfl⟩
    have hgr : W3.grownBy (grow W3 os) none := grown_grow W3 os
    have c5 := cell_kept c0 hgr (lt_of_cell c0) (by simp)
    have HAT := hideN ((IdsAt.of_row HROW3.out).below (below_of_grown hgr))
    have HB5 : Hid (Below w.heap.size w _) := hideN (HB3.out.trans ((below_of_grown hgr).mono HB3.out.size))
    clear hgr
    go_wp2_with fail
    go_ret
    exact ⟨_, xs, rfl, by rw [← HLK.out]; exact HS.out, HONE.out, HAT.out, HB5.out⟩
end Go.Proofs.YtcbcjefefmbccabGreatDoor
namespace Go.Proofs.YtcbcjefefmbccabGreatDoor
open Go.RowKit Go.Maps Go.Sort Go.Shelf

theorem HeldsOwn.off {F : Nat → Prop} {base : Nat} {w w' : World} {v : Value} {l : List Hd} (h : HeldsOwn base w v l) (ho : Off F w w') (hn : l ≠ [] → ∀ k, v.ownBlock = some k → ¬ F k) : HeldsOwn base w' v l := by
  by_cases hl : l = []
  · subst hl
    obtain ⟨⟨p, c, rfl, _⟩, _⟩ := h
    exact ⟨⟨p, c, rfl, fun i hi => by simp at hi⟩, fun hne => absurd rfl hne⟩
  · obtain ⟨g, c, hv, hg, hf⟩ := h.2 hl
    have hlt : g < w.heap.size := by
      obtain ⟨p, c', hv', hc⟩ := h.1
      obtain ⟨b, o, hp, ⟨hb, _⟩, _⟩ := hc 0 (List.length_pos_iff.2 hl)
      subst hp
      have : b = g := by rw [hv] at hv'; simp at hv'; exact hv'.1.1.symm
      omega
    have hgn : ¬ F g := hn hl g (by rw [hv]; rfl)
    exact ⟨h.1.off ho (hn hl), fun _ => ⟨g, c, hv, hg, (World.frozen?_of_block (w := w) (ho.block g hlt hgn)).trans hf⟩⟩
theorem HeldsOwn.below {base : Nat} {w w' : World} {v : Value} {l : List Hd} (h : HeldsOwn base w v l) (hb : Below w.heap.size w w') : HeldsOwn base w' v l :=
  h.off (Off.of_below (F := fun _ => False) hb) (fun _ _ _ h => h)
theorem HeldsOwn.mono {b b' : Nat} {w : World} {v : Value} {l : List Hd} (h : HeldsOwn b w v l) (hb : b' ≤ b) : HeldsOwn b' w v l :=
  ⟨h.1, fun hne => by obtain ⟨g, c, h1, h2, h3⟩ := h.2 hne; exact ⟨g, c, h1, Nat.le_trans hb h2, h3⟩⟩
theorem HeldsOwn.own {b : Nat} {w : World} {v : Value} {l : List Hd} (h : HeldsOwn b w v l) (hne : l ≠ []) {j : Nat} (hj : v.ownBlock = some j) : b ≤ j ∧ j < w.heap.size := by
  obtain ⟨g, c, hv, hg, _⟩ := h.2 hne
  obtain ⟨p, c', hv', hc⟩ := h.1
  obtain ⟨b', o, hp, ⟨hb, _⟩, _⟩ := hc 0 (List.length_pos_iff.2 hne)
  subst hp
  have e1 : b' = g := by rw [hv] at hv'; simp at hv'; exact hv'.1.1.symm
  have e2 : g = j := by rw [hv] at hj; simpa [Value.ownBlock] using hj
  omega
abbrev BP := NBin × Value
def ldCells : List BP → List Value
  | [] => []
  | q :: r => .int .u32 (q.1.1.1 : Nat) :: .int .i64 q.1.1.2 :: q.2 :: ldCells r
theorem ldCells_append : ∀ (a b : List BP), ldCells (a ++ b) = ldCells a ++ ldCells b
  | [], _ => rfl
  | x :: r, b => by rw [List.cons_append, ldCells, ldCells_append r b, ldCells]; rfl
theorem ldCells_at : ∀ (a : List BP) (i : Nat) (h : i < a.length), (ldCells a)[i * 3]? = some (.int .u32 (a[i].1.1.1 : Nat)) ∧ (ldCells a)[i * 3 + 1]? = some (.int .i64 a[i].1.1.2) ∧ (ldCells a)[i * 3 + 2]? = some a[i].2
  | x :: r, 0, _ => ⟨rfl, rfl, rfl⟩
  | x :: r, i + 1, h => by
    have := ldCells_at r i (by simpa using h)
    rw [ldCells, show (i + 1) * 3 = i * 3 + 1 + 1 + 1 by omega]
    simpa using this
abbrev loadV (v : Value) : Value := .agg #[.int .u32 0, .int .i64 0, v]
theorem infoLoad : (Tryz.prog.info? 60).map (fun i => (i.zero, i.size, i.bytes)) = some (some (loadV (.slice none 0 0)), 3, 40) := by kernel_rfl
/- Rows of bins as they grow. -/
structure BnsSt (base : Nat) (W : World) (v : Value) (ps : List BP) : Prop where
  row : W.ownsRow base 60 3 v ps.length (ldCells ps)
  helds : ∀ q ∈ ps, HeldsOwn base W q.2 q.1.2
  off : ∀ q ∈ ps, q.1.2 ≠ [] → ∀ j, q.2.ownBlock = some j → v.ownBlock ≠ some j
  apart : ps.Pairwise (fun a b => a.1.2 ≠ [] → b.1.2 ≠ [] → ∀ j, a.2.ownBlock = some j → b.2.ownBlock ≠ some j)
theorem row_mono {b b' : Nat} {W : World} {e : TypeId} {size : Nat} {v : Value} {n : Nat} {xs : List Value} (h : W.ownsRow b e size v n xs) (hb : b' ≤ b) : W.ownsRow b' e size v n xs := by
  obtain ⟨h0, h⟩ := h
  refine ⟨h0, ?_⟩
  rcases h with h | ⟨g, cap, cur, h1, h2, h3⟩
  · exact .inl h
  · exact .inr ⟨g, cap, cur, h1, Nat.le_trans hb h2, h3⟩
theorem BnsSt.mono {b b' : Nat} {W : World} {v : Value} {ps : List BP} (h : BnsSt b W v ps) (hb : b' ≤ b) : BnsSt b' W v ps :=
  ⟨row_mono h.row hb, fun q hq => (h.helds q hq).mono hb, h.off, h.apart⟩
theorem BnsSt.nil (base : Nat) (W : World) : BnsSt base W (.slice none 0 0) [] := ⟨World.ownsRow_nil _ _ _ _, fun q hq => by simp at hq, fun q hq => by simp at hq, List.Pairwise.nil⟩
theorem BnsSt.next {base : Nat} {W W' : World} {v : Value} {ps : List BP} (h : BnsSt base W v ps) (hb : Below W.heap.size W W') : BnsSt base W' v ps :=
  ⟨row_below h.row hb, fun q hq => (h.helds q hq).below hb, h.off, h.apart⟩
theorem BnsSt.app {base : Nat} {W W' : World} {v v' : Value} {ps : List BP} {q : BP} (h : BnsSt base W v ps) (hq : HeldsOwn base W q.2 q.1.2) (hn : q.1.2 ≠ [] → ∀ j, q.2.ownBlock = some j → v.ownBlock ≠ some j ∧ ∀ x ∈ ps, x.1.2 ≠ [] → x.2.ownBlock ≠ some j) (hg : W.grownBy W' v.ownBlock) (hr : W'.ownsRow base 60 3 v' (ps.length + 1) (ldCells (ps ++ [q]))) (hv : v'.ownBlock = v.ownBlock ∨ v'.ownBlock = some W.heap.size) : BnsSt base W' v' (ps ++ [q]) := by
  have ho := off_of_rowgrown hg
  have hall : ∀ x ∈ ps ++ [q], HeldsOwn base W x.2 x.1.2 ∧ (x.1.2 ≠ [] → ∀ j, x.2.ownBlock = some j → v.ownBlock ≠ some j) := fun x hx => by
    rcases List.mem_append.1 hx with hx | hx
    · exact ⟨h.helds x hx, h.off x hx⟩
    · rw [List.mem_singleton.1 hx]
      exact ⟨hq, fun hne j hj => (hn hne j hj).1⟩
  refine ⟨by rw [List.length_append]; exact hr, fun x hx => (hall x hx).1.off ho (fun hne j hj e => (hall x hx).2 hne j hj e), fun x hx hne j hj e => ?_, ?_⟩
  · rcases hv with hv | hv
    · exact (hall x hx).2 hne j hj (hv ▸ e)
    · have := ((hall x hx).1.own hne hj).2
      rw [hv] at e
      have := Option.some.inj e
      omega
  · rw [List.pairwise_append]
    refine ⟨h.apart, List.pairwise_singleton _ _, fun x hx y hy hx1 hy1 j hj e => ?_⟩
    rw [List.mem_singleton.1 hy] at hy1 e
    exact (hn hy1 j e).2 x hx hx1 hj
theorem BnsSt.at {base : Nat} {W : World} {v : Value} {ps : List BP} (h : BnsSt base W v ps) : LoadsAt W v (ps.map (·.1)) := by
  rcases h.row.2 with ⟨rfl, e⟩ | ⟨g, cap, cur, hv, _, hb, _⟩
  · have : ps = [] := List.length_eq_zero_iff.1 e
    subst this
    exact ⟨none, 0, rfl, fun i hi => by simp at hi⟩
  · refine ⟨some ⟨g, 0, none⟩, cap, by rw [hv, List.length_map], fun i hi => ?_⟩
    have hi' : i < ps.length := by simpa using hi
    obtain ⟨a0, a1, a2⟩ := ldCells_at ps i hi'
    have c0 := h.row.cells (g := g) (by rw [hv]; rfl) (i * 3) _ a0
    have c1 := h.row.cells (g := g) (by rw [hv]; rfl) (i * 3 + 1) _ a1
    have c2 := h.row.cells (g := g) (by rw [hv]; rfl) (i * 3 + 2) _ a2
    simp only [add_plain] at c0 c1 c2
    refine ⟨g, 0, ps[i].2, rfl, ?_⟩
    simp only [List.getElem_map, Nat.zero_add]
    exact ⟨lt_of_block hb, c0, c1, c2, (h.helds _ (List.getElem_mem hi')).1⟩
theorem bins_named {st : NSt} (hap : st.bins.Pairwise (fun f g => f.1 ≠ g.1)) {RS : List (Nat × Int)} (hp : RS.Perm (st.bins.map (·.1))) : (RS.map fun n => (n, (nBin st.bins n).getD [])).Perm st.bins := by
  refine (hp.map _).trans ?_
  rw [List.map_map]
  have : st.bins.map ((fun n => (n, (nBin st.bins n).getD [])) ∘ (·.1)) = st.bins := by
    conv => rhs; rw [← List.map_id st.bins]
    refine List.map_congr_left fun f hf => ?_
    simp only [Function.comp, id]
    rw [nBin_of_mem hap (show (f.1, f.2) ∈ st.bins from hf)]
    rfl
  rw [this]
theorem PNode.bapart {w : World} {p : Addr} {F : Nat → Prop} {st : NSt} (hP : PNode w p F st) : st.bins.Pairwise (fun f g => f.1 ≠ g.1) := by
  obtain ⟨N, mf, mb, vi, pi, Fi, _, h, _⟩ := hP
  have := h.bins.apart
  rw [List.pairwise_map] at this
  exact this
set_option maxRecDepth 100000 in
set_option maxHeartbeats 8000000 in
theorem binsOf_any (p : Addr) (F : Nat → Prop) (st : NSt) (w : World) (hbk : ∀ b ∈ st.bins, BinOk 1000000 b.2 ∧ WfID b.1) (hn : st.bins.length ≤ 100) (hP : PNode w p F st) :
    Calls Tryz.prog 71 #[.pointer (some p)] w fun e w' => ∃ (v : Value) (ps : List BP), e = .returned v ∧ (ps.map (·.1)).Perm st.bins ∧ (ps.map (·.1)).Pairwise (fun f g => lessB f.1 g.1 = true) ∧ BnsSt w.heap.size w' v ps ∧ Below w.heap.size w w' := by
  have HAP := hideN hP.bapart
  have HP := hideN hP
  have HBK := hideN hbk
  obtain ⟨iR, hiR, zR0, zR1, zR2⟩ := info_parts infoLoad
  have HNM := hideN (nodeReps_any p F st w (by omega) hP)
  clear hP hbk
  go_enter Tryz.func71, Tryz.ntmps71
  go_wp2_with fail
  refine HNM.out.mono ?_
  rintro e w1 ⟨vn, NS, rfl, hs1, hs2, hids, hb1⟩
  have HS1 := hideN hs1
  have HS2 := hideN hs2
  have HB1 := hideN hb1
  have HPE := hideN (bins_named HAP.out hs1)
  have hnl : (NS.length : Int) ≤ 100 := by have := hs1.length_eq; rw [List.length_map] at this; omega
  obtain ⟨pn, cn, hvn, hcell⟩ := hids
  have HCN := hideN hcell
  subst hvn
  clear hs1 hs2 hb1 HNM hcell
  go_wp2_with fail
  go_loopw [3, 9] (fun v iv wr => ∃ (k : Nat) (ps : List BP), k ≤ NS.length ∧ iv = .int .i64 k ∧ Hid (ps.map (·.1) = (NS.take k).map (fun n => (n, (nBin st.bins n).getD []))) ∧ Hid (BnsSt w1.heap.size wr v ps) ∧ Hid (Below w1.heap.size w1 wr)) (fun _ iv _ => NS.length - (intOf iv).toNat)
  case atStart => exact ⟨0, [], Nat.zero_le _, rfl, rfl, BnsSt.nil _ _, Below.refl _ _⟩
  case round =>
    obtain ⟨k, ps, hk, rfl, HPS, HFS, HB⟩ := hrel
    have HPL : Hid (ps.length = k) := by
      show _ = _
      have := congrArg List.length HPS.out
      rw [List.length_map, List.length_map, List.length_take] at this
      omega
    by_cases hlt : k < NS.length
    · have hlt' : (k : Int) < (NS.length : Int) := by omega
      have hk0 : (0 : Int) ≤ (k : Int) := by omega
      obtain ⟨g, og, rfl, hgl, e0, e1⟩ := HCN.out k hlt
      have d0 := (HB.out.cell (p := ⟨g, og + k * 2, none⟩) (lt_of_cell e0)).trans e0
      have d1 := (HB.out.cell (p := ⟨g, og + k * 2 + 1, none⟩) (lt_of_cell e0)).trans e1
      have HTK := hideN (List.take_succ_eq_append_getElem hlt)
      have hxm : NS[k] ∈ st.bins.map (·.1) := HS1.out.mem_iff.1 (List.getElem_mem hlt)
      obtain ⟨x, hx⟩ : ∃ x, NS[k] = x := ⟨_, rfl⟩
      rw [hx] at d0 d1 HTK hxm
      obtain ⟨⟨⟨xp, xl⟩, l⟩, hf, rfl⟩ := List.mem_map.1 hxm
      simp only at d0 d1 HTK
      have hnf := nBin_of_mem HAP.out hf
      have HNF := hideN hnf
      obtain ⟨hok, hwf⟩ := HBK.out _ hf
      have HOK := hideN hok
      have HBIN : Hid (∀ W', Below w.heap.size w W' → Calls Tryz.prog 16 #[.pointer (some p), idV (xp : Nat) xl] W' fun e w' => ∃ p' F', e = .returned (.pointer (some p')) ∧ PBin0 w' p' F' l ∧ Below W'.heap.size W' w') := fun W' hb => by
        have h := nodeBin_any (xp, xl) p F st W' hwf (HP.out.below hb)
        rw [hnf] at h
        exact h.mono fun e w' ⟨⟨p', F', h1, h2, _⟩, h4⟩ => ⟨p', F', h1, h2, h4⟩
      have hal5 := (Below.refl wr.heap.size wr).alloc (Nat.le_refl _) (.cells #[.int .u32 (xp : Nat), .int .i64 xl] 25)
      have HR5 := hideN (Blk.new wr #[.int .u32 (xp : Nat), .int .i64 xl] 25)
      have HFS5 := hideN (HFS.out.next hal5)
      have HB5 : Hid (Below w1.heap.size w1 _) := hideN (HB.out.trans (hal5.mono HB.out.size))
      have HIBN : Hid (∀ j, u3.ownBlock = some j → j ≠ wr.heap.size) := fun j hj e => by have := (HFS.out.row.lt j hj).2; omega
      clear hal5 e0 e1 hx hxm hf hnf hok hwf hgl
      have HPLN : Hid (ps.length ≤ 100) := by show _ ≤ _; rw [HPL.out]; omega
      go_wp2_with fail
      generalize wr.alloc (.cells #[.int .u32 (xp : Nat), .int .i64 xl] 25) = W5 at *
      obtain ⟨IB, hIB⟩ : ∃ IB, wr.heap.size = IB := ⟨_, rfl⟩
      rw [hIB] at HR5 HIBN ⊢
      clear hIB
      have r0 := HR5.out.cell (i := 0) rfl
      have r1 := HR5.out.cell (i := 1) rfl
      have HCE : Hid (∀ W', Blk W' IB #[.int .u32 (xp : Nat), .int .i64 xl] 25 → W'.cell? ⟨IB, 0, none⟩ = some (.int .u32 (xp : Nat)) ∧ W'.cell? ⟨IB, 1, none⟩ = some (.int .i64 xl)) := fun W' h => ⟨h.cell (i := 0) rfl, h.cell (i := 1) rfl⟩
      have HBW5 : Hid (Below w.heap.size w W5) := HB1.out.trans (HB5.out.mono HB1.out.size)
      obtain ⟨pv, cv, hv⟩ : ∃ pv cv, u3 = .slice pv ps.length cv := by
        rcases HFS5.out.row.2 with ⟨e, e2⟩ | ⟨g', cap, cur, e, _⟩
        · exact ⟨none, 0, by rw [e, e2]⟩
        · exact ⟨_, _, e⟩
      subst hv
      clear HB HFS
      go_wp2_with fail
      go_region_held3 (fun w' => w'.cell? ⟨IB, 0, none⟩ = some (.int .u32 (xp : Nat)) ∧ w'.cell? ⟨IB, 1, none⟩ = some (.int .i64 xl)) (first | exact HCE.out _ HR9.out | exact HCE.out _ HR8.out | exact HCE.out _ HR7.out | exact HCE.out _ HR6.out | go_keep) (first
        | (go_at_call 16; refine (HBIN.out _ HBW5.out.drew).mono ?_; rintro e w6 ⟨p6, F6, rfl, hp6, hb6⟩; have hB6 : Below W5.heap.size W5 w6 := (Below.refl _ W5).drew.trans hb6; have HB6 := hideN hB6; have HP6 := hideN hp6; have HR6 := hideN (HR5.out.next hB6); clear hb6 hp6 hB6)
        | (go_at_call 33; refine (pAll_own p6 F6 l w6 HOK.out HP6.out).mono ?_; rintro e w7 ⟨v7, rfl, hh7, hb7⟩; have HR7 := hideN (HR6.out.next hb7); have HH7 := hideN hh7; have HB7 := hideN hb7; have HFS7 := hideN ((HFS5.out.next HB6.out).next hb7); obtain ⟨pq, cq, hv7⟩ : ∃ pq cq, v7 = .slice pq l.length cq := (by obtain ⟨p', c', h1, _⟩ := hh7.1; exact ⟨p', c', h1⟩); subst hv7; have HR8 := hideN (HR7.out.next ((Below.refl w7.heap.size w7).alloc (Nat.le_refl _) (.cells #[.int .u32 (xp : Nat), .int .i64 xl, .slice pq l.length cq] 60))); clear hh7 hb7)
        | (refine step_append_lies _ (by rfl) _ _ _ (by rfl) w1.heap.size 60 iR _ 3 40 Tryz.underlying54 hiR zR0 zR1 zR2 rfl (by decide) (.slice pv ps.length cv) ps.length _ (by rfl) (HFS7.out.row.alloc _) ⟨w7.heap.size, 0, none⟩ 1 1 [.int .u32 (xp : Nat), .int .i64 xl, .slice pq l.length cq] (by rfl) (by rfl) (World.news_of_block (cs := #[.int .u32 (xp : Nat), .int .i64 xl, .slice pq l.length cq]) (t := 60) (fr := (0, 0)) (heap_alloc_new w7 _)) (by simp [Value.oneCell']) (by omega) (by unfold maxLen; have := HPLN.out; omega) (by have := HPLN.out; omega) (by simp; have := HB5.out.size; have := HB6.out.size; have := HB7.out.size; omega) (w7.heap.size + 1) (by simp) ?_; intro gg cap w9 hown9 hgrow hat hglt; have HR9 := hideN (show Blk w9 IB _ _ from (hgrow.block _ HR8.out.lt (fun e => HIBN.out _ e.symm rfl)).trans HR8.out)))
      have hal8 := (Below.refl w7.heap.size w7).alloc (Nat.le_refl _) (.cells #[.int .u32 (xp : Nat), .int .i64 xl, .slice pq l.length cq] 60)
      have hsz : w1.heap.size ≤ W5.heap.size := HB5.out.size
      have hsz6 : W5.heap.size ≤ w6.heap.size := HB6.out.size
      have HFS9 : Hid (BnsSt w1.heap.size w9 (.slice (some ⟨gg, 0, none⟩) (ps.length + 1) cap) (ps ++ [(((xp, xl), l), .slice pq l.length cq)])) := (HFS7.out.next hal8).app (q := (((xp, xl), l), .slice pq l.length cq)) ((HH7.out.mono (Nat.le_trans hsz hsz6)).below hal8) (fun hne j hj => by
        have h6 := (HH7.out.own hne hj).1
        refine ⟨fun e => ?_, fun x hx hxn e => ?_⟩
        · have := (HFS5.out.row.lt j e).2
          omega
        · have := ((HFS5.out.helds x hx).own hxn e).2
          omega) hgrow (by rw [ldCells_append]; exact hown9) (by
        rcases hat with h | h
        · exact .inl h.symm
        · exact .inr (by rw [h]; simp [Value.ownBlock]))
      have hB8 : Below w1.heap.size w1 _ := ((HB5.out.trans (HB6.out.mono hsz)).trans (HB7.out.mono (Nat.le_trans hsz hsz6))).trans (hal8.mono (Nat.le_trans (Nat.le_trans hsz hsz6) HB7.out.size))
      have HB9 : Hid (Below w1.heap.size w1 w9) := hB8.trans ⟨hgrow.os, hgrow.tape, hgrow.output, hgrow.size, fun j hj => hgrow.block j (Nat.lt_of_lt_of_le hj hB8.size) (fun e => by have := row_ge HFS5.out.row e.symm; omega)⟩
      have HPS9 : Hid ((ps ++ [(((xp, xl), l), Value.slice pq l.length cq)]).map (·.1) = (NS.take (k + 1)).map (fun n => (n, (nBin st.bins n).getD []))) := by
        show _ = _
        rw [List.map_append, HPS.out, HTK.out, List.map_append]
        congr 1
        simp only [List.map_cons, List.map_nil]
        rw [HNF.out]
        rfl
      clear hown9 hgrow hat hglt hal8 hB8 r0 r1 d0 d1 hsz hsz6
      go_wp2_with fail
      go_roundw
      case rel => exact ⟨k + 1, _, hlt, by go_num, HPS9.out, HFS9.out, HB9.out⟩
      case measure => simp [intOf]; omega
    · have hge : (NS.length : Int) ≤ (k : Int) := by omega
      have hke : NS.take k = NS := List.take_of_length_le (by omega)
      rw [hke] at HPS
      clear hke
      go_wp2_with fail
      go_ret
      refine ⟨_, ps, rfl, by rw [HPS.out]; exact HPE.out, ?_, ?_, HB1.out.trans (HB.out.mono HB1.out.size)⟩
      · rw [HPS.out, List.pairwise_map]
        exact HS2.out
      · exact HFS.out.mono HB1.out.size
end Go.Proofs.YtcbcjefefmbccabGreatDoor
namespace Go.Proofs.YtcbcjefefmbccabGreatDoor
open Go.RowKit Go.Maps Go.Sort Go.Shelf

theorem firstErr_none {err : Nat → Int} (h : ∀ k, err k = 0) : ∀ (n k : Nat), firstErr err k n = none
  | 0, _ => rfl
  | n + 1, k => by
    rw [firstErr, if_neg (by rw [h]; simp)]
    exact firstErr_none h n (k + 1)
theorem binErrs_zero {fs : List Rcp} {bs : List NBin} (h : ∀ b ∈ bs, usesErr (cU (zeroU bs) fs) b = 0) : firstAns (binErrs fs bs) bs.length = (0, -1) := by
  unfold firstAns
  rw [firstErr_none (fun k => ?_)]
  unfold binErrs
  split
  · exact h _ (List.getElem_mem _)
  · rfl
theorem nok_bins {U : Int} {n : Nat} {st : NSt} (hok : NOk U n st) (hU : U ≤ 1000000) (hN : NFull st) : ∀ b ∈ st.bins, BinOk 1000000 b.2 ∧ WfID b.1 := fun b hb => by
  obtain ⟨f, _, e⟩ := hN.bhas b hb
  exact ⟨(hok.bins b hb).mono hU, by rw [← e]; exact repT_wf f.2⟩
set_option maxRecDepth 100000 in
set_option maxHeartbeats 4000000 in
theorem scrubOf_right (a : Nat → Addr) (p : Addr) (F : Nat → Prop) (U : Int) (n : Nat) (st : NSt) (w : World) (hI : NInv st) (hN : NFull st) (hok : NOk U n st) (hU : U ≤ 1000000) (hn : n ≤ 100) (hE : ErrE [1, 2, 3, 4, 6, 8, 10] w a) (hP : PNode w p F st) :
    Calls Tryz.prog 27 #[.pointer (some p)] w fun e w' => e = .returned .nilIface ∧ Below w.heap.size w w' := by
  have HEE : Hid (∀ W, Below w.heap.size w W → ErrE [1, 2, 3, 4, 6, 8, 10] W a) := fun W hb => hE.below hb (Nat.le_refl _)
  have HP := hideN hP
  have HF := hideN (filesOf_any a p F st w hok.files hN.fmany (hE.sub (by decide)) hP)
  have HBI : Hid (∀ W, Below w.heap.size w W → Calls Tryz.prog 71 #[.pointer (some p)] W fun e w' => ∃ (v : Value) (ps : List BP), e = .returned v ∧ (ps.map (·.1)).Perm st.bins ∧ (ps.map (·.1)).Pairwise (fun f g => lessB f.1 g.1 = true) ∧ BnsSt W.heap.size w' v ps ∧ Below W.heap.size W w') := fun W hb => binsOf_any p F st W (nok_bins hok hU hN) (Nat.le_trans hok.many hn) (HP.out.below hb)
  have HRT := hideN (fun (fl : List NFile) (bl : List NBin) hf hb hfo hbo => right_of hI hN hok hn (fl := fl) (bl := bl) hf hb hfo hbo)
  clear hE hP hI hN hok
  go_enter Tryz.func27, Tryz.ntmps27
  go_wp2_with fail
  refine HF.out.mono ?_
  rintro e w1 ⟨v1, fl, rfl, hp1, ho1, hr1, hb1⟩
  have HRT1 := hideN (fun (bl : List NBin) hb hbo => HRT.out fl bl hp1 hb ho1 hbo)
  obtain ⟨FS, hFS⟩ : ∃ FS, fl.map rcpOf = FS := ⟨_, rfl⟩
  rw [hFS] at hr1 HRT1
  obtain ⟨q1, c1, hv1, _⟩ := id hr1
  subst hv1
  have HB1 := hideN hb1
  have HR1 := hideN hr1
  clear hp1 ho1 hr1 hb1 HF HRT hFS
  go_wp2_with fail
  refine (HBI.out w1 HB1.out).mono ?_
  rintro e w2 ⟨v2, ps, rfl, hp2, ho2, hs2, hb2⟩
  have hl2 := hs2.at
  have hrx := HRT1.out _ hp2 ho2
  obtain ⟨BS, hBS⟩ : ∃ BS, ps.map (·.1) = BS := ⟨_, rfl⟩
  rw [hBS] at hl2 hrx
  obtain ⟨q2, c2, hv2, _⟩ := id hl2
  subst hv2
  have HB2 : Hid (Below w.heap.size w w2) := HB1.out.trans (hb2.mono HB1.out.size)
  have HL2 := hideN hl2
  have HR2 := hideN (HR1.out.below hb2)
  have HRX := hideN hrx
  clear hp2 ho2 hs2 hb2 hl2 hrx hBS HBI HRT1 HR1
  have HCK := hideN (scrubCheck_any a _ _ FS BS w2 HRX.out.1 HR2.out HL2.out (HEE.out _ HB2.out))
  go_wp2_with fail
  refine HCK.out.mono ?_
  rintro e w3 ⟨ev, rfl, he, hb3⟩
  rw [binErrs_zero HRX.out.2] at he
  obtain rfl := he.nil
  have HB3 : Hid (Below w.heap.size w w3) := HB2.out.trans (hb3.mono HB2.out.size)
  clear he hb3 HCK
  go_wp2_with fail
  go_ret
  exact ⟨rfl, HB3.out⟩
end Go.Proofs.YtcbcjefefmbccabGreatDoor
