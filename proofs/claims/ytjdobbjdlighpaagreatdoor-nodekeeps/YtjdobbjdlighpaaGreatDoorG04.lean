/-
  Own text. sort.Slice where 'less' may lay blocks: a counter behind a pointer (Cnt); order2_func, median_func, medianAdjacent_func, choosePivot_func.
  Own text. The program's bin by contracts: Get, Drop.
  Own text. A node of the program's in memory: its two maps' kits (strRcps: names to recipes; idBins: reps to bins), a node as files and bins (NSt), where they lie (PNode).
  Own text. The least of a recipe's IDs, pure, and the document's RepOf by a contract.
  Own text. Hex digits written: digits.Hex and the document's HexOf by contracts.
  Own text. Decimal digits written: the document's Byte, below, Decimal by contracts.
-/
import Derived.Test.YtjdobbjdlighpaaGreatDoorG03
import Derived.Below
import Derived.Deep.QuietTactic
import Derived.BigQuiet
import Derived.BigRegion
import Derived.Test.YtjdobbjdlighpaaGreatDoorG02
import Derived.Maps.Keyed
import Derived.Deep.RegionHeld3
import Derived.RangeFuncRecord
import Derived.Laws.BytesArg
import Derived.Lib.SlBytesConst
import Derived.Laws.IdiomStrings
namespace Go.Proofs.YtjdobbjdlighpaaGreatDoor
open Go.Shelf Go.RowKit Go.Lib Go.Sort

structure Cnt (c s : Nat) (w : World) : Prop where
  cell : w.cell? ⟨c, 0, none⟩ = some (.int .i64 (s : Int))
  free : w.frozen? ⟨c, 0, none⟩ = false
  lt : c < w.heap.size
theorem Cnt.kept {c s : Nat} {w w' : World} {row : Option Nat} (h : Cnt c s w) (hg : w.grownBy w' row) (hr : some c ≠ row) : Cnt c s w' :=
  ⟨(World.cell?_of_block (w := w) (hg.block c h.lt hr)).trans h.cell, (World.frozen?_of_block (w := w) (hg.block c h.lt hr)).trans h.free, Nat.lt_of_lt_of_le h.lt hg.size⟩
theorem Cnt.set {c s : Nat} {w : World} (h : Cnt c s w) (t : Nat) {v : Int} (hv : v = (t : Int)) : Cnt c t (w.setCell ⟨c, 0, none⟩ (.int .i64 v)) := by
  subst hv
  exact ⟨World.cell?_setCell_same _ _ _ h.cell, by simpa using h.free, by simpa [World.setCell] using h.lt⟩
theorem grown_set {w w' : World} {c : Nat} (h : w.grownBy w' (some c)) (i : Nat) (v : Value) : w.grownBy (w'.setCell ⟨c, i, none⟩ v) (some c) :=
  ⟨h.os, h.tape, h.output, by simpa [World.setCell] using h.size, fun k hk hne => (RowKit.Below.heap_setCell w' ⟨c, i, none⟩ v k (fun e => hne (by rw [e]))).trans (h.block k hk hne)⟩
theorem grown_refl (w : World) (row : Option Nat) : w.grownBy w row := ⟨rfl, rfl, rfl, Nat.le_refl _, fun _ _ _ => rfl⟩
theorem grown_trans {a b c : World} {row : Option Nat} (h : a.grownBy b row) (k : b.grownBy c row) : a.grownBy c row := h.andThen k (fun _ hj => .inr hj)
theorem cell_kept {w w' : World} {row : Option Nat} {a : Addr} {v : Value} (h : w.cell? a = some v) (hg : w.grownBy w' row) (hl : a.block < w.heap.size) (hr : some a.block ≠ row) : w'.cell? a = some v := (World.cell?_of_block (w := w) (hg.block _ hl hr)).trans h

variable {P : Program} {ρ : Ren} {α : Type} [Inhabited α] {lt : α → α → Bool} {g : Nat} {lb : Array Value} {sf : Nat} {sb : Array Value} {blk n n0 : Nat} {I : World → Array α → Prop}
set_option maxHeartbeats 1000000 in
set_option maxRecDepth 100000 in
theorem srt_order2 (L : LaysGg.n39 P ρ) (S : Srt P lt g lb sf sb blk n n0 I) (a b c s : Nat) (d : Array α) (w : World) (hI : I w d) (hc : Cnt c s w) (ha : a < n) (hb : b < n) (hs : s < 4611686018427387904) :
    Calls P (ρ.f 39) #[.agg #[.func (.func g) #[] lb, .func (.func sf) #[] sb], .int .i64 a, .int .i64 b, .pointer (some ⟨c, 0, none⟩)] w fun e w' => e = .returned (.tuple #[.int .i64 (order2 lt d a b s).1, .int .i64 (order2 lt d a b s).2.1]) ∧ Cnt c (order2 lt d a b s).2.2 w' ∧ w.grownBy w' (some c) := by
  have mixed := L.mixed; have t0 := L.t0; have a0 := L.a0; have z0 := L.z0; have v0 := L.v0; have t3 := L.t3; have a3 := L.a3; have z3 := L.z3; have v3 := L.v3; have t4 := L.t4; have a4 := L.a4; have z4 := L.z4; have v4 := L.v4; have t26 := L.t26; have a26 := L.a26; have z26 := L.z26; have v26 := L.v26; have t37 := L.t37; have a37 := L.a37; have z37 := L.z37; have v37 := L.v37; have t44 := L.t44; have a44 := L.a44; have z44 := L.z44; have v44 := L.v44; have t64 := L.t64; have a64 := L.a64; have z64 := L.z64; have v64 := L.v64
  have u44 := run_underlying L.t44
  have eg := S.eg
  have hg0 : w.grownBy (w.alloc (.cells #[.func (.func g) #[] lb, .func (.func sf) #[] sb] (ρ.t 44))) none := World.grownBy_alloc w _ none
  have hl := S.less (b : Int) (a : Int) b a rfl rfl (S.keep hI hg0) hb ha
  have hc1 := hc.kept hg0 (by simp)
  go_enter L.f39, BodyGg.n39_ntmps ρ
  cases hlv : lt d[b]! d[a]! with
  | true =>
    rw [hlv] at hl
    have e2 : order2 lt d a b s = (b, a, s + 1) := by simp [order2, hlv]
    go_wp2_with (go_at_fn g; refine hl.mono ?_; rintro e w1 ⟨rfl, hg1⟩; have hc2 := hc1.kept hg1 (by simp); have cs := hc2.cell; have fs := hc2.free)
    go_ret2
    rw [e2]
    exact ⟨rfl, hc2.set (s + 1) (by simp), grown_set ((hg0.andThen hg1 (fun _ hj => by cases hj)).but _) 0 _⟩
  | false =>
    rw [hlv] at hl
    have e2 : order2 lt d a b s = (a, b, s) := by simp [order2, hlv]
    go_wp2_with (go_at_fn g; refine hl.mono ?_; rintro e w1 ⟨rfl, hg1⟩)
    go_ret2
    rw [e2]
    exact ⟨rfl, hc1.kept hg1 (by simp), (hg0.andThen hg1 (fun _ hj => by cases hj)).but _⟩

set_option maxHeartbeats 1000000 in
set_option maxRecDepth 100000 in
theorem srt_median (L : LaysGg.n38 P ρ) (S : Srt P lt g lb sf sb blk n n0 I) (a b c k s : Nat) (d : Array α) (w : World) (hI : I w d) (hk : Cnt k s w) (hn : n0 ≤ k) (ha : a < n) (hb : b < n) (hc : c < n) (hs : s + 3 < 4611686018427387904) :
    Calls P (ρ.f 38) #[.agg #[.func (.func g) #[] lb, .func (.func sf) #[] sb], .int .i64 a, .int .i64 b, .int .i64 c, .pointer (some ⟨k, 0, none⟩)] w fun e w' => e = .returned (.int .i64 (median lt d a b c s).1) ∧ Cnt k (median lt d a b c s).2 w' ∧ w.grownBy w' (some k) := by
  have mixed := L.mixed; have t0 := L.t0; have a0 := L.a0; have z0 := L.z0; have v0 := L.v0; have t3 := L.t3; have a3 := L.a3; have z3 := L.z3; have v3 := L.v3; have t4 := L.t4; have a4 := L.a4; have z4 := L.z4; have v4 := L.v4; have t26 := L.t26; have a26 := L.a26; have z26 := L.z26; have v26 := L.v26; have t37 := L.t37; have a37 := L.a37; have z37 := L.z37; have v37 := L.v37; have t44 := L.t44; have a44 := L.a44; have z44 := L.z44; have v44 := L.v44; have t64 := L.t64; have a64 := L.a64; have z64 := L.z64; have v64 := L.v64; have t67 := L.t67; have a67 := L.a67; have z67 := L.z67; have v67 := L.v67
  have u44 := run_underlying L.t44
  have e39 : ∀ args w, (callFunc (ρ.f 39) args).run P w = .ok (.enter (ρ.f 39) args) w := enters_of L.f39 (by kernel_rfl) rfl
  have l1 := order2_lt' lt d s ha hb
  have s1 := order2_swaps' lt d a b s
  have l2 := order2_lt' lt d (order2 lt d a b s).2.2 l1.2 hc
  have s2 := order2_swaps' lt d (order2 lt d a b s).2.1 c (order2 lt d a b s).2.2
  have hg0 : w.grownBy (w.alloc (.cells #[.func (.func g) #[] lb, .func (.func sf) #[] sb] (ρ.t 44))) none := World.grownBy_alloc w _ none
  have x0 : (w.alloc (.cells #[.func (.func g) #[] lb, .func (.func sf) #[] sb] (ρ.t 44))).cell? ⟨w.heap.size, 0, none⟩ = some (.func (.func g) #[] lb) := by simp
  have x1 : (w.alloc (.cells #[.func (.func g) #[] lb, .func (.func sf) #[] sb] (ρ.t 44))).cell? ⟨w.heap.size, 1, none⟩ = some (.func (.func sf) #[] sb) := by simp
  have hne : some w.heap.size ≠ some k := fun e => by have := hk.lt; have := Option.some.inj e; omega
  have hlt : w.heap.size < (w.alloc (.cells #[.func (.func g) #[] lb, .func (.func sf) #[] sb] (ρ.t 44))).heap.size := by simp
  have st1 := srt_order2 (ρ := ρ) { L with } S a b k s d _ (S.keep hI hg0) (hk.kept hg0 (by simp)) ha hb (by omega)
  go_enter L.f38, BodyGg.n38_ntmps ρ
  go_wp2_with (go_at_fn_of (ρ.f 39) (Value.int .i64 (b : Int)); refine st1.mono ?_; rintro e w1 ⟨rfl, hk1, hg1⟩; have y0 := cell_kept x0 hg1 hlt hne; have y1 := cell_kept x1 hg1 hlt hne; have hI1 := S.keepAt (S.keep hI hg0) hn hg1; have st2 := srt_order2 (ρ := ρ) { L with } S (order2 lt d a b s).2.1 c k (order2 lt d a b s).2.2 d w1 hI1 hk1 l1.2 hc (by omega))
  have hlt1 := Nat.lt_of_lt_of_le hlt hg1.size
  go_wp2_with (go_at_fn_of (ρ.f 39) (Value.int .i64 (c : Int)); refine st2.mono ?_; rintro e w2 ⟨rfl, hk2, hg2⟩; have q0 := cell_kept y0 hg2 hlt1 hne; have q1 := cell_kept y1 hg2 hlt1 hne; have hI2 := S.keepAt hI1 hn hg2; have st3 := srt_order2 (ρ := ρ) { L with } S (order2 lt d a b s).1 (order2 lt d (order2 lt d a b s).2.1 c (order2 lt d a b s).2.2).1 k (order2 lt d (order2 lt d a b s).2.1 c (order2 lt d a b s).2.2).2.2 d w2 hI2 hk2 l1.1 l2.1 (by omega))
  go_wp2_with (go_at_fn_of (ρ.f 39) (Value.int .i64 ((order2 lt d a b s).1 : Int)); refine st3.mono ?_; rintro e w3 ⟨rfl, hk3, hg3⟩)
  go_ret
  exact ⟨rfl, hk3, grown_trans (grown_trans (grown_trans (hg0.but _) hg1) hg2) hg3⟩

set_option maxHeartbeats 1000000 in
set_option maxRecDepth 100000 in
theorem srt_medAdj (L : LaysGg.n37 P ρ) (S : Srt P lt g lb sf sb blk n n0 I) (a k s : Nat) (d : Array α) (w : World) (hI : I w d) (hk : Cnt k s w) (hn : n0 ≤ k) (ha1 : 1 ≤ a) (ha2 : a + 1 < n) (hsz : n < 4611686018427387904) (hs : s + 3 < 4611686018427387904) :
    Calls P (ρ.f 37) #[.agg #[.func (.func g) #[] lb, .func (.func sf) #[] sb], .int .i64 a, .pointer (some ⟨k, 0, none⟩)] w fun e w' => e = .returned (.int .i64 (medianAdjacent lt d a s).1) ∧ Cnt k (medianAdjacent lt d a s).2 w' ∧ w.grownBy w' (some k) := by
  have mixed := L.mixed; have t0 := L.t0; have a0 := L.a0; have z0 := L.z0; have v0 := L.v0; have t3 := L.t3; have a3 := L.a3; have z3 := L.z3; have v3 := L.v3; have t4 := L.t4; have a4 := L.a4; have z4 := L.z4; have v4 := L.v4; have t26 := L.t26; have a26 := L.a26; have z26 := L.z26; have v26 := L.v26; have t37 := L.t37; have a37 := L.a37; have z37 := L.z37; have v37 := L.v37; have t44 := L.t44; have a44 := L.a44; have z44 := L.z44; have v44 := L.v44; have t64 := L.t64; have a64 := L.a64; have z64 := L.z64; have v64 := L.v64; have t67 := L.t67; have a67 := L.a67; have z67 := L.z67; have v67 := L.v67
  have u44 := run_underlying L.t44
  have e38 : ∀ args w, (callFunc (ρ.f 38) args).run P w = .ok (.enter (ρ.f 38) args) w := enters_of L.f38 (by kernel_rfl) rfl
  have hg0 : w.grownBy (w.alloc (.cells #[.func (.func g) #[] lb, .func (.func sf) #[] sb] (ρ.t 44))) none := World.grownBy_alloc w _ none
  have hm := srt_median (ρ := ρ) { L with } S (a - 1) a (a + 1) k s d _ (S.keep hI hg0) (hk.kept hg0 (by simp)) hn (by omega) (by omega) ha2 hs
  rw [show ((a - 1 : Nat) : Int) = (a : Int) - 1 by omega, show ((a + 1 : Nat) : Int) = (a : Int) + 1 by omega] at hm
  go_enter L.f37, BodyGg.n37_ntmps ρ
  go_wp2_with (go_at_fn (ρ.f 38); refine hm.mono ?_; rintro e w1 ⟨rfl, hk1, hg1⟩)
  go_ret
  exact ⟨rfl, hk1, grown_trans (hg0.but _) hg1⟩

/- What choosePivot_func's three ways end with. -/
set_option maxHeartbeats 4000000 in
set_option maxRecDepth 100000 in
theorem srt_pivot (L : LaysGg.n29 P ρ) (S : Srt P lt g lb sf sb blk n n0 I) (a b : Nat) (d : Array α) (w : World) (hI : I w d) (hab : a < b) (hb : b ≤ n) (hsz : n < 4611686018427387904) :
    Calls P (ρ.f 29) #[.agg #[.func (.func g) #[] lb, .func (.func sf) #[] sb], .int .i64 a, .int .i64 b] w fun e w' => e = .returned (.tuple #[.int .i64 (choosePivot lt d a b).1, .int .i64 (hintCode (choosePivot lt d a b).2)]) ∧ w.grownBy w' none := by
  have mixed := L.mixed; have t0 := L.t0; have a0 := L.a0; have z0 := L.z0; have v0 := L.v0; have t3 := L.t3; have a3 := L.a3; have z3 := L.z3; have v3 := L.v3; have t4 := L.t4; have a4 := L.a4; have z4 := L.z4; have v4 := L.v4; have t26 := L.t26; have a26 := L.a26; have z26 := L.z26; have v26 := L.v26; have t37 := L.t37; have a37 := L.a37; have z37 := L.z37; have v37 := L.v37; have t44 := L.t44; have a44 := L.a44; have z44 := L.z44; have v44 := L.v44; have t53 := L.t53; have a53 := L.a53; have z53 := L.z53; have v53 := L.v53; have t64 := L.t64; have a64 := L.a64; have z64 := L.z64; have v64 := L.v64; have t67 := L.t67; have a67 := L.a67; have z67 := L.z67; have v67 := L.v67
  have u44 := run_underlying L.t44
  have e37 : ∀ args w, (callFunc (ρ.f 37) args).run P w = .ok (.enter (ρ.f 37) args) w := enters_of L.f37 (by kernel_rfl) rfl
  have e38 : ∀ args w, (callFunc (ρ.f 38) args).run P w = .ok (.enter (ρ.f 38) args) w := enters_of L.f38 (by kernel_rfl) rfl
  rw [choosePivot_eq]
  have hn := Nat.le_succ_of_le (S.le hI)
  obtain ⟨W, hW⟩ : ∃ W, ((w.alloc (.cells #[.func (.func g) #[] lb, .func (.func sf) #[] sb] (ρ.t 44))).alloc (.cells #[.int .i64 0] (ρ.t 3))) = W := ⟨_, rfl⟩
  have hgW : w.grownBy W none := by rw [← hW]; exact (World.grownBy_alloc w _ none).andThen (World.grownBy_alloc _ _ none) (fun _ hj => by cases hj)
  have hIW := S.keep hI hgW
  have hK : Cnt (w.heap.size + 1) 0 W := by
    rw [← hW]
    exact ⟨by rw [World.cell?_alloc_at _ _ _ _ (by simp)]; rfl, World.frozen?_alloc_at _ _ _ _ (by simp), by simp⟩
  have bx0 : W.cell? ⟨w.heap.size, 0, none⟩ = some (.func (.func g) #[] lb) := by rw [← hW, World.cell?_alloc_past _ _ _ (by simp)]; simp
  have bx1 : W.cell? ⟨w.heap.size, 1, none⟩ = some (.func (.func sf) #[] sb) := by rw [← hW, World.cell?_alloc_past _ _ _ (by simp)]; simp
  have hbl : w.heap.size < W.heap.size := by rw [← hW]; simp; omega
  have hne : some w.heap.size ≠ some (w.heap.size + 1) := fun e => by have := Option.some.inj e; omega
  have fin : ∀ {w' : World}, W.grownBy w' (some (w.heap.size + 1)) → w.grownBy w' none := fun h => hgW.andThen h (fun j hj => by cases hj; exact .inl (Nat.le_succ _))
  have fin : Aside _ := @fin
  obtain ⟨I1, hI1⟩ : ∃ I1 : Nat, I1 = a + (b - a) / 4 * 1 := ⟨_, rfl⟩
  obtain ⟨J, hJ⟩ : ∃ J : Nat, J = a + (b - a) / 4 * 2 := ⟨_, rfl⟩
  obtain ⟨K, hKK⟩ : ∃ K : Nat, K = a + (b - a) / 4 * 3 := ⟨_, rfl⟩
  have eI : ((a : Int) + ((b : Int) - (a : Int)) / 4) = (I1 : Int) := by omega
  have eJ : ((a : Int) + ((b : Int) - (a : Int)) / 4 * 2) = (J : Int) := by omega
  have eK : ((a : Int) + ((b : Int) - (a : Int)) / 4 * 3) = (K : Int) := by omega
  by_cases h8 : b - a ≥ 8
  · by_cases h50 : b - a ≥ 50
    · obtain ⟨i1, s1, h1⟩ : ∃ i1 s1, medianAdjacent lt d I1 0 = (i1, s1) := ⟨_, _, rfl⟩
      obtain ⟨j1, s2, h2⟩ : ∃ j1 s2, medianAdjacent lt d J s1 = (j1, s2) := ⟨_, _, rfl⟩
      obtain ⟨k1, s3, h3⟩ : ∃ k1 s3, medianAdjacent lt d K s2 = (k1, s3) := ⟨_, _, rfl⟩
      obtain ⟨p, s, h4⟩ : ∃ p s, median lt d i1 j1 k1 s3 = (p, s) := ⟨_, _, rfl⟩
      have hraw : rawPivot lt d a b = (p, s) := by simp only [rawPivot, if_pos h8, if_pos h50, ← hI1, ← hJ, ← hKK, h1, h2, h3, h4]
      have m1 := medianAdjacent_mem lt d I1 0; rw [h1] at m1
      have m2 := medianAdjacent_mem lt d J s1; rw [h2] at m2
      have m3 := medianAdjacent_mem lt d K s2; rw [h3] at m3
      have n1 := medianAdjacent_count lt d I1 0; rw [h1] at n1
      have n2 := medianAdjacent_count lt d J s1; rw [h2] at n2
      have n3 := medianAdjacent_count lt d K s2; rw [h3] at n3
      simp only [] at m1 m2 m3 n1 n2 n3
      have c1 := srt_medAdj (ρ := ρ) { L with } S I1 (w.heap.size + 1) 0 d W hIW hK hn (by omega) (by omega) hsz (by omega)
      rw [h1] at c1
      have c2 : ∀ w1, Cnt (w.heap.size + 1) s1 w1 → W.grownBy w1 (some (w.heap.size + 1)) → _ := fun w1 hc hg => srt_medAdj (ρ := ρ) { L with } S J (w.heap.size + 1) s1 d w1 (S.keepAt hIW hn hg) hc hn (by omega) (by omega) hsz (by omega)
      rw [h2] at c2
      have c3 : ∀ w1, Cnt (w.heap.size + 1) s2 w1 → W.grownBy w1 (some (w.heap.size + 1)) → _ := fun w1 hc hg => srt_medAdj (ρ := ρ) { L with } S K (w.heap.size + 1) s2 d w1 (S.keepAt hIW hn hg) hc hn (by omega) (by omega) hsz (by omega)
      rw [h3] at c3
      have c4 : ∀ w1, Cnt (w.heap.size + 1) s3 w1 → W.grownBy w1 (some (w.heap.size + 1)) → _ := fun w1 hc hg => srt_median (ρ := ρ) { L with } S i1 j1 k1 (w.heap.size + 1) s3 d w1 (S.keepAt hIW hn hg) hc hn (by omega) (by omega) (by omega) (by omega)
      rw [h4] at c4
      rw [hraw]
      obtain ⟨Hc, hHc⟩ : ∃ Hc : Int, Hc = hintCode (hintOf s) := ⟨_, rfl⟩
      have hh0 : s = 0 → Hc = 1 := fun h => by rw [hHc, h]; rfl
      have hh12 : s = 12 → Hc = 2 := fun h => by rw [hHc, h]; rfl
      have hhx : s ≠ 0 → s ≠ 12 → Hc = 0 := fun h1 h2 => by rw [hHc]; unfold hintOf; rw [if_neg h1, if_neg h2]; rfl
      show Calls P (ρ.f 29) _ w fun e w' => e = .returned (.tuple #[.int .i64 (p : Int), .int .i64 (hintCode (hintOf s))]) ∧ w.grownBy w' none
      rw [← hHc]
      have C2 : Aside _ := c2
      have C3 : Aside _ := c3
      have C4 : Aside _ := c4
      clear hHc hraw h1 h2 h3 h4 hI1 hJ hKK m1 m2 m3 c2 c3 c4
      go_enter L.f29, BodyGg.n29_ntmps ρ
      go_wp2_with (first
        | (go_at_fn_of (ρ.f 37) (Value.int .i64 (I1 : Int)); refine c1.mono ?_; rintro e w1 ⟨rfl, k1', g1⟩; have y0 := cell_kept bx0 g1 hbl hne; have y1 := cell_kept bx1 g1 hbl hne)
        | (go_at_fn_of (ρ.f 37) (Value.int .i64 (J : Int)); refine (C2.out _ k1' g1).mono ?_; rintro e w2 ⟨rfl, k2, g2'⟩; have g2 := grown_trans g1 g2'; have x0 := cell_kept bx0 g2 hbl hne; have x1 := cell_kept bx1 g2 hbl hne)
        | (go_at_fn_of (ρ.f 37) (Value.int .i64 (K : Int)); refine (C3.out _ k2 g2).mono ?_; rintro e w3 ⟨rfl, k3, g3'⟩; have g3 := grown_trans g2 g3'; have q0 := cell_kept bx0 g3 hbl hne; have q1 := cell_kept bx1 g3 hbl hne)
        | (go_at_fn (ρ.f 38); refine (C4.out _ k3 g3).mono ?_; rintro e w4 ⟨rfl, k4, g4'⟩; have g4 := grown_trans g3 g4'; have u4 := k4.cell))
      all_goals
        go_ret2
        refine ⟨?_, fin.out g4⟩
        first
          | (have e0 : (s : Int) = 0 := of_beq_int (by assumption)
             rw [hh0 (by omega)]; rfl)
          | (have e1 : (s : Int) = 12 := of_beq_int (by assumption)
             rw [hh12 (by omega)]; rfl)
          | (have e0 : (s : Int) ≠ 0 := of_bne_int (by assumption)
             have e1 : (s : Int) ≠ 12 := of_bne_int (by assumption)
             rw [hhx (by omega) (by omega)]; rfl)
          | (rw [hh0 (by omega)]; rfl)
    · obtain ⟨p, s, h4⟩ : ∃ p s, median lt d I1 J K 0 = (p, s) := ⟨_, _, rfl⟩
      have hraw : rawPivot lt d a b = (p, s) := by simp only [rawPivot, if_pos h8, if_neg h50, ← hI1, ← hJ, ← hKK, h4]
      have c4 := srt_median (ρ := ρ) { L with } S I1 J K (w.heap.size + 1) 0 d W hIW hK hn (by omega) (by omega) (by omega) (by omega)
      rw [h4] at c4
      rw [hraw]
      obtain ⟨Hc, hHc⟩ : ∃ Hc : Int, Hc = hintCode (hintOf s) := ⟨_, rfl⟩
      have hh0 : s = 0 → Hc = 1 := fun h => by rw [hHc, h]; rfl
      have hh12 : s = 12 → Hc = 2 := fun h => by rw [hHc, h]; rfl
      have hhx : s ≠ 0 → s ≠ 12 → Hc = 0 := fun h1 h2 => by rw [hHc]; unfold hintOf; rw [if_neg h1, if_neg h2]; rfl
      show Calls P (ρ.f 29) _ w fun e w' => e = .returned (.tuple #[.int .i64 (p : Int), .int .i64 (hintCode (hintOf s))]) ∧ w.grownBy w' none
      rw [← hHc]
      clear hHc hraw h4 hI1 hJ hKK
      go_enter L.f29, BodyGg.n29_ntmps ρ
      go_wp2_with (first | (go_at_fn (ρ.f 38); refine c4.mono ?_; rintro e w4 ⟨rfl, k4, g4⟩; have u4 := k4.cell))
      all_goals
        go_ret2
        refine ⟨?_, fin.out g4⟩
        first
          | (have e0 : (s : Int) = 0 := of_beq_int (by assumption)
             rw [hh0 (by omega)]; rfl)
          | (have e1 : (s : Int) = 12 := of_beq_int (by assumption)
             rw [hh12 (by omega)]; rfl)
          | (have e0 : (s : Int) ≠ 0 := of_bne_int (by assumption)
             have e1 : (s : Int) ≠ 12 := of_bne_int (by assumption)
             rw [hhx (by omega) (by omega)]; rfl)
          | (rw [hh0 (by omega)]; rfl)
  · obtain ⟨p, hp⟩ : ∃ p : Nat, p = J := ⟨_, rfl⟩
    obtain ⟨s, hs⟩ : ∃ s : Nat, s = 0 := ⟨_, rfl⟩
    have hraw : rawPivot lt d a b = (p, s) := by simp only [rawPivot, if_neg h8, ← hJ, hp, hs]
    rw [hraw]
    obtain ⟨Hc, hHc⟩ : ∃ Hc : Int, Hc = hintCode (hintOf s) := ⟨_, rfl⟩
    have hh0 : s = 0 → Hc = 1 := fun h => by rw [hHc, h]; rfl
    have hh12 : s = 12 → Hc = 2 := fun h => by rw [hHc, h]; rfl
    have hhx : s ≠ 0 → s ≠ 12 → Hc = 0 := fun h1 h2 => by rw [hHc]; unfold hintOf; rw [if_neg h1, if_neg h2]; rfl
    show Calls P (ρ.f 29) _ w fun e w' => e = .returned (.tuple #[.int .i64 (p : Int), .int .i64 (hintCode (hintOf s))]) ∧ w.grownBy w' none
    rw [← hHc]
    rw [← hs] at hK
    have u4 := hK.cell
    clear hHc hraw
    subst hp
    clear hI1 hJ hKK
    go_enter L.f29, BodyGg.n29_ntmps ρ
    go_wp2
    all_goals
      go_ret2
      refine ⟨?_, hgW⟩
      first
        | (have e0 : (s : Int) = 0 := of_beq_int (by assumption)
           rw [hh0 (by omega)]; rfl)
        | (have e1 : (s : Int) = 12 := of_beq_int (by assumption)
           rw [hh12 (by omega)]; rfl)
        | (have e0 : (s : Int) ≠ 0 := of_bne_int (by assumption)
           have e1 : (s : Int) ≠ 12 := of_bne_int (by assumption)
           rw [hhx (by omega) (by omega)]; rfl)
        | (rw [hh0 (by omega)]; rfl)
end Go.Proofs.YtjdobbjdlighpaaGreatDoor
namespace Go.Proofs.YtjdobbjdlighpaaGreatDoor
open Go.RowKit Go.Maps

theorem hFind_mem_at {l : List Hd} {x : Nat × Int} {k : Nat} (h : hFind l x = some k) : ∃ (hk : k < l.length), (x, l[k].2) ∈ l := by
  obtain ⟨hk, e⟩ := hFind_some h
  refine ⟨hk, ?_⟩
  rw [← e]
  exact List.getElem_mem hk
theorem of_below {w w' : World} {b : Nat} {l : List Hd} (h : idPieces.Of w b l) (hb : Below w.heap.size w w') : idPieces.Of w' b l := h.kept (grown_of_below hb) (by simp)
theorem of_drew {w : World} {b : Nat} {l : List Hd} (h : idPieces.Of w b l) : idPieces.Of w.drew b l := h.kept (grown_drewN w 1) (by simp)
theorem below_drew {n : Nat} {w w' : World} (h : Below n w w') : Below n w w'.drew := h.drew

set_option maxRecDepth 100000 in
set_option maxHeartbeats 4000000 in
theorem pGet_any {a : Nat → Addr} (x : Nat × Int) (p : Addr) (F : Nat → Prop) (l : List Hd) (w : World) (hx : WfID x) (hE : ErrE [4] w a) (hP : PBin0 w p F l) :
    Calls Tryz.prog 79 #[.pointer (some p), idV (x.1 : Nat) x.2] w fun e w' => ∃ ev, e = .returned (.tuple #[.string ⟨(hGet l x).1.toArray⟩, ev]) ∧ ErrIn w.heap.size w' a ev ((hGet l x).2, -1) ∧ Below w.heap.size w w' := by
  obtain ⟨B, b, rfl, hB, hM, hne, rfl⟩ := hP
  have hBl := hB.lt
  have hal := (Below.refl w.heap.size w).alloc (Nat.le_refl _) (.cells #[.int .u32 (x.1 : Nat), .int .i64 x.2] 40)
  have HG : Hid (∀ W', Below w.heap.size w W' → ∀ i, ([4] : List Nat).contains i = true → W'.cell? ⟨errG i, 0, none⟩ = some (sentV a i)) := fun W' hb i hi => (hE.below hb (Nat.le_refl _)).glob i hi
  cases hf : hFind l x with
  | none =>
    have e2 : Hid (hGet l x = ([], 5)) := by show _ = _; unfold hGet; rw [hf]
    have hn := hFind_not hf
    have hl : ∀ W : World, idPieces.Of W b l → (Instr.lookup 133 (.map (some b)) (idV (x.1 : Nat) x.2) true).run Tryz.prog W = .ok (.tuple #[pieceV (0, []), .bool false]) W := fun W h => h.look_none Tryz.underlying133 (pieceZero W) hx hn
    have hI := Blk.new w #[.int .u32 (x.1 : Nat), .int .i64 x.2] 40
    have hB1 := hB.next hal
    have hM1 := of_below hM hal
    go_enter Tryz.func79, Tryz.ntmps79
    go_wp2_with fail
    generalize hW : w.alloc (.cells #[.int .u32 (x.1 : Nat), .int .i64 x.2] 40) = W at *
    have hal2 := (Below.refl W.heap.size W).alloc (Nat.le_refl _) (.cells #[.string ⟨#[]⟩, .int .i64 0] 137)
    have hI2 := hI.next hal2
    have hB2 := hB1.next hal2
    have hM2 := of_below hM1 hal2
    have hP2 := Blk.new W #[.string ⟨#[]⟩, .int .i64 0] 137
    have hbw : Below w.heap.size w (W.alloc (.cells #[.string ⟨#[]⟩, .int .i64 0] 137)) := hal.trans (hal2.mono hal.size)
    have x0 := hI.cell (i := 0) rfl
    have x1 := hI.cell (i := 1) rfl
    have q0 := hB1.cell (i := 0) rfl
    have y0 := hI2.cell (i := 0) rfl
    have y1 := hI2.cell (i := 1) rfl
    have r0 := hB2.cell (i := 0) rfl
    have p0 := hP2.cell (i := 0) rfl
    have p1 := hP2.cell (i := 1) rfl
    have f0 := hP2.frozen 0
    have f1 := hP2.frozen 1
    have l1 := hl W.drew (of_drew hM1)
    have l2 := hl (W.alloc (.cells #[.string ⟨#[]⟩, .int .i64 0] 137)).drew (of_drew hM2)
    go_region
    all_goals
      go_wp2_with fail
      have hb3 := below_drew hbw
      have g4 : (W.alloc (.cells #[.string ⟨#[]⟩, .int .i64 0] 137)).drew.cell? ⟨8, 0, none⟩ = some (sentV a 4) := HG.out _ hb3 4 (by decide)
      generalize (W.alloc (.cells #[.string ⟨#[]⟩, .int .i64 0] 137)).drew = W3 at *
      go_region
      all_goals
        go_wp2_with fail
        go_ret2
        exact ⟨_, by rw [e2.out]; rfl, by rw [e2.out]; exact errIn_sent _ _ a 4 (by decide) rfl, below_drew hb3⟩
  | some k =>
    obtain ⟨hk, hm⟩ := hFind_mem_at hf
    have e2 : Hid (hGet l x = (l[k].2.2, 0)) := by show _ = _; unfold hGet; rw [hf]; simp [List.getElem?_eq_getElem hk]
    obtain ⟨⟨u, t⟩, hc⟩ : ∃ c, l[k].2 = c := ⟨_, rfl⟩
    rw [hc] at hm e2
    clear hc
    have hl : ∀ W : World, idPieces.Of W b l → (Instr.lookup 133 (.map (some b)) (idV (x.1 : Nat) x.2) true).run Tryz.prog W = .ok (.tuple #[pieceV (u, t), .bool true]) W := fun W h => h.look_some Tryz.underlying133 (pieceZero W) hm
    have hI := Blk.new w #[.int .u32 (x.1 : Nat), .int .i64 x.2] 40
    have hB1 := hB.next hal
    have hM1 := of_below hM hal
    go_enter Tryz.func79, Tryz.ntmps79
    go_wp2_with fail
    generalize hW : w.alloc (.cells #[.int .u32 (x.1 : Nat), .int .i64 x.2] 40) = W at *
    have hal2 := (Below.refl W.heap.size W).alloc (Nat.le_refl _) (.cells #[.string ⟨#[]⟩, .int .i64 0] 137)
    have hI2 := hI.next hal2
    have hB2 := hB1.next hal2
    have hM2 := of_below hM1 hal2
    have hP2 := Blk.new W #[.string ⟨#[]⟩, .int .i64 0] 137
    have hbw : Below w.heap.size w (W.alloc (.cells #[.string ⟨#[]⟩, .int .i64 0] 137)) := hal.trans (hal2.mono hal.size)
    have x0 := hI.cell (i := 0) rfl
    have x1 := hI.cell (i := 1) rfl
    have q0 := hB1.cell (i := 0) rfl
    have y0 := hI2.cell (i := 0) rfl
    have y1 := hI2.cell (i := 1) rfl
    have r0 := hB2.cell (i := 0) rfl
    have p0 := hP2.cell (i := 0) rfl
    have p1 := hP2.cell (i := 1) rfl
    have f0 := hP2.frozen 0
    have f1 := hP2.frozen 1
    have l1 := hl W.drew (of_drew hM1)
    have l2 := hl (W.alloc (.cells #[.string ⟨#[]⟩, .int .i64 0] 137)).drew (of_drew hM2)
    go_region
    all_goals
      have hal3 := (Below.refl W.heap.size W).alloc (Nat.le_refl _) (.cells #[.string ⟨t.toArray⟩, .int .i64 u] 137)
      have hP3 := Blk.new W #[.string ⟨t.toArray⟩, .int .i64 u] 137
      have hb3 := below_drew (hal.trans (hal3.mono hal.size))
      have t0 : (W.alloc (.cells #[.string ⟨t.toArray⟩, .int .i64 u] 137)).drew.cell? ⟨W.heap.size, 0, none⟩ = _ := hP3.cell (i := 0) rfl
      generalize (W.alloc (.cells #[.string ⟨t.toArray⟩, .int .i64 u] 137)).drew = W3 at *
      go_wp2_with fail
      go_ret2
      exact ⟨_, by rw [e2.out]; rfl, by rw [e2.out]; exact .inl ⟨rfl, rfl⟩, hb3⟩
end Go.Proofs.YtjdobbjdlighpaaGreatDoor
namespace Go.Proofs.YtjdobbjdlighpaaGreatDoor
open Go.RowKit Go.Maps

/- A recipe as a map holds it: name, length, print, the IDs' slice. -/
abbrev Rw := List UInt8 × Int × Int × Value
abbrev rwV (c : Rw) : Value := rcpV ⟨c.1.toArray⟩ c.2.1 c.2.2.1 c.2.2.2
def unRw : Value → Option Rw
  | .agg cs => match cs.toList with
    | [.string s, .int .i64 l, .int .u32 p, v] => some (s.data.toList, l, p, v)
    | _ => none
  | _ => none
theorem unRw_back (v : Value) (c : Rw) (h : unRw v = some c) : v = rwV c := by
  unfold unRw at h
  split at h
  next cs =>
    split at h
    next s l p v e =>
      cases h
      have : cs = #[Value.string s, Value.int .i64 l, Value.int .u32 p, v] := by rw [← Array.toArray_toList (xs := cs), e]
      rw [this]
    next => cases h
  next => cases h
theorem strKeyed : Keyed Tryz.prog 9 := string_keyed Tryz.underlying9
theorem strKey_eq (v : Value) : keyOf Tryz.prog 9 v = mapKey Tryz.prog 9 v := by
  unfold keyOf
  rw [Tryz.underlying9]
def WfNm (x : List UInt8) : Prop := x.length ≤ maxLen
set_option maxRecDepth 100000 in
theorem strKey (x : List UInt8) (hx : WfNm x) : ∃ kl, keyOf Tryz.prog 9 (.string ⟨x.toArray⟩) = some kl := by
  refine ⟨.string x, ?_⟩
  rw [strKey_eq]
  unfold mapKey
  rw [Tryz.underlying9]
  have h1 : x.toArray.size = x.length := List.size_toArray
  have : (⟨x.toArray⟩ : ByteArray).size ≤ maxLen := by show x.toArray.size ≤ maxLen; rw [h1]; exact hx
  simp only [this, if_true]
set_option maxRecDepth 100000 in
theorem strInv (v : Value) (kl : Lit) (h : keyOf Tryz.prog 9 v = some kl) : ∃ x : List UInt8, WfNm x ∧ v = .string ⟨x.toArray⟩ := by
  rw [strKey_eq] at h
  unfold mapKey at h
  rw [Tryz.underlying9] at h
  cases v <;> simp only [reduceCtorEq] at h
  next s =>
    split at h
    · rename_i hs
      exact ⟨s.data.toList, by show s.data.toList.length ≤ maxLen; rw [Array.length_toList]; exact hs, rfl⟩
    · cases h
def strRcps : MapKit Tryz.prog 9 (List UInt8) Rw where
  mkK x := .string ⟨x.toArray⟩
  wf := WfNm
  mkV := rwV
  unV := unRw
  K := strKeyed
  key := strKey
  inv := strInv
  inj x y e := by
    have e1 : (⟨x.toArray⟩ : ByteArray) = ⟨y.toArray⟩ := Value.string.inj e
    have e2 := congrArg (fun b : ByteArray => b.data.toList) e1
    simpa using e2
  un _ := rfl
  back := unRw_back

def unPtr : Value → Option (Option Addr)
  | .pointer p => some p
  | _ => none
def idBins : MapKit Tryz.prog 40 (Nat × Int) (Option Addr) where
  mkK x := idV (x.1 : Nat) x.2
  wf := WfID
  mkV p := .pointer p
  unV := unPtr
  K := idKeyed
  key := idKey
  inv := idInv
  inj x y e := by
    have e1 := Array.mk.inj (Value.agg.inj e)
    simp at e1
    exact Prod.ext (by omega) e1.2
  un _ := rfl
  back v c h := by
    unfold unPtr at h
    split at h
    · cases h; rfl
    · cases h
theorem ptrZero (w : World) : (zeroValue 72).run Tryz.prog w = .ok (.pointer none) w := by kernel_rfl
theorem rcpZero (w : World) : (zeroValue 26).run Tryz.prog w = .ok (rwV ([], 0, 0, .slice none 0 0)) w := by kernel_rfl
theorem ofS_drew {w : World} {b : Nat} {l : List (List UInt8 × Rw)} (h : strRcps.Of w b l) : strRcps.Of w.drew b l := h.kept (grown_drewN w 1) (by simp)
theorem ofS_below {w w' : World} {b : Nat} {l : List (List UInt8 × Rw)} (h : strRcps.Of w b l) (hb : Below w.heap.size w w') : strRcps.Of w' b l := h.kept (grown_of_below hb) (by simp)
theorem ofB_drew {w : World} {b : Nat} {l : List ((Nat × Int) × Option Addr)} (h : idBins.Of w b l) : idBins.Of w.drew b l := h.kept (grown_drewN w 1) (by simp)
theorem ofB_below {w w' : World} {b : Nat} {l : List ((Nat × Int) × Option Addr)} (h : idBins.Of w b l) (hb : Below w.heap.size w w') : idBins.Of w' b l := h.kept (grown_of_below hb) (by simp)
end Go.Proofs.YtjdobbjdlighpaaGreatDoor
namespace Go.Proofs.YtjdobbjdlighpaaGreatDoor
open Go.RowKit

def lesser (m y : Nat × Int) : Nat × Int := if lessB y m = true then y else m
def repOf : List (Nat × Int) → Nat × Int
  | [] => (2166136261, 0)
  | x :: r => r.foldl lesser x
theorem repOf_snoc (l : List (Nat × Int)) (y : Nat × Int) (h : l ≠ []) : repOf (l ++ [y]) = lesser (repOf l) y := by
  cases l with
  | nil => exact (h rfl).elim
  | cons x r => show (r ++ [y]).foldl lesser x = _; rw [List.foldl_append]; rfl
theorem repOf_next (ids : List (Nat × Int)) (k : Nat) (h : k < ids.length) (h1 : 1 ≤ k) : repOf (ids.take (k + 1)) = lesser (repOf (ids.take k)) ids[k] := by
  rw [List.take_succ_eq_append_getElem h, repOf_snoc]
  intro e
  have := congrArg List.length e
  rw [List.length_take, List.length_nil] at this
  omega

/- Between two rounds: the recipe's box, the result, and the least one so far, each in a block of its own. -/
structure RepW (w W : World) (v : Value) (m : Nat × Int) : Prop where
  below : Below w.heap.size w W
  size : w.heap.size + 1 + 1 < W.heap.size
  b3 : W.cell? ⟨w.heap.size, 3, none⟩ = some v
  r0 : W.cell? ⟨w.heap.size + 1, 0, none⟩ = some (.int .u32 0)
  r1 : W.cell? ⟨w.heap.size + 1, 1, none⟩ = some (.int .i64 0)
  f0 : W.frozen? ⟨w.heap.size + 1, 0, none⟩ = false
  f1 : W.frozen? ⟨w.heap.size + 1, 1, none⟩ = false
  q0 : W.cell? ⟨w.heap.size + 1 + 1, 0, none⟩ = some (.int .u32 (m.1 : Nat))
  q1 : W.cell? ⟨w.heap.size + 1 + 1, 1, none⟩ = some (.int .i64 m.2)
  g0 : W.frozen? ⟨w.heap.size + 1 + 1, 0, none⟩ = false
  g1 : W.frozen? ⟨w.heap.size + 1 + 1, 1, none⟩ = false
theorem RepW.new (w : World) (nm : ByteArray) (len p : Int) (v : Value) (m : Nat × Int) (t t' : TypeId) : RepW w (((w.alloc (.cells #[.string nm, .int .i64 len, .int .u32 p, v] t)).alloc (.cells #[.int .u32 0, .int .i64 0] t')).alloc (.cells #[.int .u32 (m.1 : Nat), .int .i64 m.2] t')) v m where
  below := (((Below.refl _ w).alloc (Nat.le_refl _) _).alloc (by simp) _).alloc (by simp; omega) _
  size := by simp
  b3 := by rw [World.cell?_alloc_lt _ _ ⟨w.heap.size, 3, none⟩ (by simp; omega), World.cell?_alloc_lt _ _ ⟨w.heap.size, 3, none⟩ (by simp)]; simp
  r0 := by rw [World.cell?_alloc_lt _ _ ⟨w.heap.size + 1, 0, none⟩ (by simp)]; simp
  r1 := by rw [World.cell?_alloc_lt _ _ ⟨w.heap.size + 1, 1, none⟩ (by simp)]; simp
  f0 := by rw [frozen_alloc_lt' _ _ (by simp)]; simp
  f1 := by rw [frozen_alloc_lt' _ _ (by simp)]; simp
  q0 := new_cell _ _ _ rfl (by simp)
  q1 := new_cell _ _ _ rfl (by simp)
  g0 := new_frozen _ _ _ (by simp)
  g1 := new_frozen _ _ _ (by simp)
theorem RepW.next {w W W' : World} {v : Value} {m : Nat × Int} (h : RepW w W v m) (hb : Below W.heap.size W W') : RepW w W' v m := by
  have hs := h.size
  have hs' := hb.size
  exact ⟨h.below.trans (hb.mono h.below.size), by omega, (hb.cell (p := ⟨_, 3, none⟩) (by simp; omega)).trans h.b3, (hb.cell (p := ⟨_, 0, none⟩) (by simp; omega)).trans h.r0, (hb.cell (p := ⟨_, 1, none⟩) (by simp; omega)).trans h.r1, (hb.frozen (p := ⟨_, 0, none⟩) (by simp; omega)).trans h.f0, (hb.frozen (p := ⟨_, 1, none⟩) (by simp; omega)).trans h.f1,
    (hb.cell (p := ⟨_, 0, none⟩) (by simp; omega)).trans h.q0, (hb.cell (p := ⟨_, 1, none⟩) (by simp; omega)).trans h.q1, (hb.frozen (p := ⟨_, 0, none⟩) (by simp; omega)).trans h.g0, (hb.frozen (p := ⟨_, 1, none⟩) (by simp; omega)).trans h.g1⟩
theorem RepW.set {w W : World} {v : Value} {m : Nat × Int} (h : RepW w W v m) (y : Nat × Int) : RepW w ((W.setCell ⟨w.heap.size + 1 + 1, 0, none⟩ (.int .u32 (y.1 : Nat))).setCell ⟨w.heap.size + 1 + 1, 1, none⟩ (.int .i64 y.2)) v y := by
  have o : ∀ (b i : Nat), b ≠ w.heap.size + 1 + 1 → ((W.setCell ⟨w.heap.size + 1 + 1, 0, none⟩ (.int .u32 (y.1 : Nat))).setCell ⟨w.heap.size + 1 + 1, 1, none⟩ (.int .i64 y.2)).cell? ⟨b, i, none⟩ = W.cell? ⟨b, i, none⟩ := fun b i hb => by
    have hn : ∀ j, (⟨w.heap.size + 1 + 1, j, none⟩ : Addr) ≠ ⟨b, i, none⟩ := fun j e => hb (by cases e; rfl)
    rw [World.cell?_setCell_other _ _ _ _ (hn 1), World.cell?_setCell_other _ _ _ _ (hn 0)]
  refine ⟨(h.below.setCell (p := ⟨w.heap.size + 1 + 1, 0, none⟩) (by show _ ≤ w.heap.size + 1 + 1; omega) _).setCell (p := ⟨w.heap.size + 1 + 1, 1, none⟩) (by show _ ≤ w.heap.size + 1 + 1; omega) _, by simp [World.setCell]; exact h.size, (o _ _ (by omega)).trans h.b3, (o _ _ (by omega)).trans h.r0, (o _ _ (by omega)).trans h.r1, by rw [World.frozen?_setCell, World.frozen?_setCell]; exact h.f0, by rw [World.frozen?_setCell, World.frozen?_setCell]; exact h.f1, ?_, ?_, by rw [World.frozen?_setCell, World.frozen?_setCell]; exact h.g0, by rw [World.frozen?_setCell, World.frozen?_setCell]; exact h.g1⟩
  · rw [World.cell?_setCell_other _ _ _ _ (by simp), World.cell?_setCell_same' _ _ _ (by rw [h.q0]; rfl)]
  · rw [World.cell?_setCell_same' _ _ _ (by rw [World.cell?_setCell_other _ _ _ _ (by simp), h.q1]; rfl)]

set_option maxRecDepth 100000 in
set_option maxHeartbeats 4000000 in
theorem refRepOf_any (nm : ByteArray) (len p : Int) (v : Value) (ids : List (Nat × Int)) (w : World) (hv : IdsAt w v ids) (hlen : ids.length ≤ maxLen) :
    Calls Tryz.prog 25 #[rcpV nm len p v] w fun e w' => e = .returned (idV ((repOf ids).1 : Nat) (repOf ids).2) ∧ Below w.heap.size w w' := by
  obtain ⟨pa, c, rfl, hcell⟩ := hv
  have hl2 : (ids.length : Int) ≤ 9223372036854775807 := by unfold maxLen at hlen; omega
  clear hlen
  by_cases h0 : ids = []
  · subst h0
    go_enter Tryz.func25, Tryz.ntmps25
    go_wp2_with fail
    refine (idOf_any ⟨#[]⟩ _ (by unfold maxLen; decide)).mono ?_
    rintro e w1 ⟨rfl, hb1⟩
    rw [pmore_nil]
    have hs1 := hb1.size
    have k0 : w1.cell? ⟨w.heap.size + 1, 0, none⟩ = some (.int .u32 0) := (hb1.cell (p := ⟨w.heap.size + 1, 0, none⟩) (by simp)).trans (by simp)
    have k1 : w1.cell? ⟨w.heap.size + 1, 1, none⟩ = some (.int .i64 0) := (hb1.cell (p := ⟨w.heap.size + 1, 1, none⟩) (by simp)).trans (by simp)
    have f0 : w1.frozen? ⟨w.heap.size + 1, 0, none⟩ = false := (hb1.frozen (p := ⟨w.heap.size + 1, 0, none⟩) (by simp)).trans (by simp)
    have f1 : w1.frozen? ⟨w.heap.size + 1, 1, none⟩ = false := (hb1.frozen (p := ⟨w.heap.size + 1, 1, none⟩) (by simp)).trans (by simp)
    have hbw : Below w.heap.size w w1 := (((Below.refl _ w).alloc (Nat.le_refl _) _).alloc (by simp) _).trans (hb1.mono (by simp; omega))
    have hlt : w.heap.size + 1 < w1.heap.size := by simp at hs1; omega
    clear hb1 hs1
    go_wp2_with fail
    exact bodyPost_ret (v := idV (2166136261 : Nat) 0) (by simp [results, Tryz.results25, go_sem, k0, k1]) rfl ⟨rfl, (hbw.setCell (p := ⟨w.heap.size + 1, 0, none⟩) (by simp) _).setCell (p := ⟨w.heap.size + 1, 1, none⟩) (by simp) _⟩
  · have hn1 : 1 ≤ ids.length := by rcases Nat.eq_zero_or_pos ids.length with h | h; exact (h0 (List.eq_nil_of_length_eq_zero h)).elim; exact h
    have hn1' : (1 : Int) ≤ (ids.length : Int) := by omega
    have hz : ((ids.length : Int) == 0) = false := by rw [beq_eq_false_iff_ne]; omega
    clear h0
    obtain ⟨b, o, rfl, hbl, hc0, hc1⟩ := hcell 0 (by omega)
    rw [Nat.zero_mul, Nat.add_zero] at hc0 hc1
    have HCELL : Hid (∀ W', Below w.heap.size w W' → ∀ i (h : i < ids.length), W'.cell? ⟨b, o + i * 2, none⟩ = some (.int .u32 (ids[i].1 : Nat)) ∧ W'.cell? ⟨b, o + i * 2 + 1, none⟩ = some (.int .i64 ids[i].2)) := fun W' hb i hi => by
      obtain ⟨b', o', hp, hlt, h1, h2⟩ := hcell i hi
      cases hp
      exact ⟨(hb.cell (p := ⟨b, o + i * 2, none⟩) hlt).trans h1, (hb.cell (p := ⟨b, o + i * 2 + 1, none⟩) hlt).trans h2⟩
    clear hcell
    have hc0' : ∀ oo oo', ((w.alloc oo).alloc oo').cell? ⟨b, o, none⟩ = some (.int .u32 (ids[0].1 : Nat)) := fun oo oo' => by
      rw [World.cell?_alloc_lt _ _ ⟨b, o, none⟩ (by simp; omega), World.cell?_alloc_lt _ _ ⟨b, o, none⟩ hbl]; exact hc0
    have hc1' : ∀ oo oo', ((w.alloc oo).alloc oo').cell? ⟨b, o + 1, none⟩ = some (.int .i64 ids[0].2) := fun oo oo' => by
      rw [World.cell?_alloc_lt _ _ ⟨b, o + 1, none⟩ (by simp; omega), World.cell?_alloc_lt _ _ ⟨b, o + 1, none⟩ hbl]; exact hc1
    go_enter Tryz.func25, Tryz.ntmps25
    go_wp2_with fail
    have hR : RepW w (((w.alloc (.cells #[.string nm, .int .i64 len, .int .u32 p, .slice (some ⟨b, o, none⟩) ids.length c] 26)).alloc (.cells #[.int .u32 0, .int .i64 0] 40)).alloc (.cells #[.int .u32 (ids[0].1 : Nat), .int .i64 ids[0].2] 40)) (.slice (some ⟨b, o, none⟩) ids.length c) ids[0] := RepW.new w nm len p _ ids[0] _ _
    have HI0 : Hid (repOf (ids.take 1) = ids[0]) := by
      show _ = _
      cases ids with
      | nil => simp at hn1
      | cons x r => rfl
    clear hc0 hc1 hc0' hc1'
    go_loopw [4] (fun i wr => ∃ (k : Nat), 1 ≤ k ∧ k ≤ ids.length ∧ i = .int .i64 k ∧ RepW w wr (.slice (some ⟨b, o, none⟩) ids.length c) (repOf (ids.take k))) (fun i _ => ids.length - (intOf i).toNat)
    case atStart => exact ⟨1, Nat.le_refl _, hn1, rfl, by rw [HI0.out]; exact hR⟩
    case round =>
      obtain ⟨k, hk1, hk, rfl, hRW⟩ := hrel
      clear hR HI0
      have hb3 := hRW.b3
      by_cases hlt : k < ids.length
      · have hlt' : (k : Int) < (ids.length : Int) := by omega
        have hk1' : (0 : Int) ≤ (k : Int) := by omega
        obtain ⟨hd0, hd1⟩ := HCELL.out wr hRW.below k hlt
        have HNX : Hid (repOf (ids.take (k + 1)) = lesser (repOf (ids.take k)) ids[k]) := repOf_next ids k hlt hk1
        obtain ⟨m, hm⟩ : ∃ m, repOf (ids.take k) = m := ⟨_, rfl⟩
        obtain ⟨y, hy⟩ : ∃ y, ids[k] = y := ⟨_, rfl⟩
        rw [hm] at hRW HNX
        rw [hy] at HNX hd0 hd1
        have HCY : Hid (∀ W', Below w.heap.size w W' → W'.cell? ⟨b, o + k * 2, none⟩ = some (.int .u32 (y.1 : Nat)) ∧ W'.cell? ⟨b, o + k * 2 + 1, none⟩ = some (.int .i64 y.2)) := fun W' hb => by
          have := HCELL.out W' hb k hlt
          rwa [hy] at this
        clear hm hy
        have hq0 := hRW.q0
        have hq1 := hRW.q1
        obtain ⟨Lb, hL⟩ : ∃ Lb, (if (y.1 : Int) = (m.1 : Int) then decide (y.2 < m.2) else decide ((y.1 : Int) < (m.1 : Int))) = Lb := ⟨_, rfl⟩
        have HL : Hid ((if (y.1 : Int) = (m.1 : Int) then decide (y.2 < m.2) else decide ((y.1 : Int) < (m.1 : Int))) = Lb) := hL
        have HLS : Hid (lesser m y = if Lb = true then y else m) := by show _ = _; unfold lesser lessB; rw [hL]
        clear hL
        cases Lb with
        | true =>
          go_wp2_with fail
          go_region_held3 (fun w' => w'.cell? ⟨w.heap.size, 3, none⟩ = some (.slice (some ⟨b, o, none⟩) ids.length c) ∧ w'.cell? ⟨b, o + k * 2, none⟩ = some (.int .u32 (y.1 : Nat)) ∧ w'.cell? ⟨b, o + k * 2 + 1, none⟩ = some (.int .i64 y.2) ∧ w'.cell? ⟨w.heap.size + 1 + 1, 0, none⟩ = some (.int .u32 (m.1 : Nat)) ∧ w'.cell? ⟨w.heap.size + 1 + 1, 1, none⟩ = some (.int .i64 m.2)) (go_keep) (first
            | (go_at_call 73; refine (isLess_any _ _ _ _ _).mono ?_; rintro e w2 ⟨rfl, hb2⟩; rw [HL.out]; have hR2 : RepW w w2 (.slice (some ⟨b, o, none⟩) ids.length c) m := hRW.next ((Below.refl _ wr).drew.trans (hb2.mono (Nat.le_refl _))); have z0 := hR2.b3; have z1 := hR2.q0; have z2 := hR2.q1; have z3 := hR2.g0; have z4 := hR2.g1; obtain ⟨z5, z6⟩ := HCY.out w2 hR2.below))
          go_wp2_with fail
          go_roundw
          case rel => exact ⟨k + 1, by omega, by omega, by go_num, by rw [HNX.out, HLS.out]; exact hR2.set y⟩
          case measure => simp [intOf]; omega
        | false =>
          go_wp2_with fail
          go_region_held3 (fun w' => w'.cell? ⟨w.heap.size, 3, none⟩ = some (.slice (some ⟨b, o, none⟩) ids.length c) ∧ w'.cell? ⟨b, o + k * 2, none⟩ = some (.int .u32 (y.1 : Nat)) ∧ w'.cell? ⟨b, o + k * 2 + 1, none⟩ = some (.int .i64 y.2) ∧ w'.cell? ⟨w.heap.size + 1 + 1, 0, none⟩ = some (.int .u32 (m.1 : Nat)) ∧ w'.cell? ⟨w.heap.size + 1 + 1, 1, none⟩ = some (.int .i64 m.2)) (go_keep) (first
            | (go_at_call 73; refine (isLess_any _ _ _ _ _).mono ?_; rintro e w2 ⟨rfl, hb2⟩; rw [HL.out]; have hR2 : RepW w w2 (.slice (some ⟨b, o, none⟩) ids.length c) m := hRW.next ((Below.refl _ wr).drew.trans (hb2.mono (Nat.le_refl _))); have z0 := hR2.b3; have z1 := hR2.q0; have z2 := hR2.q1; have z3 := hR2.g0; have z4 := hR2.g1; obtain ⟨z5, z6⟩ := HCY.out w2 hR2.below))
          go_wp2_with fail
          go_roundw
          case rel => exact ⟨k + 1, by omega, by omega, by go_num, by rw [HNX.out, HLS.out]; exact hR2⟩
          case measure => simp [intOf]; omega
      · have hge : (ids.length : Int) ≤ (k : Int) := by omega
        rw [List.take_of_length_le (by omega)] at hRW
        obtain ⟨m, hm⟩ : ∃ m, repOf ids = m := ⟨_, rfl⟩
        have HM : Hid (repOf ids = m) := hm
        rw [hm] at hRW
        clear hm
        have hq0 := hRW.q0
        have hq1 := hRW.q1
        have k0 := hRW.r0
        have k1 := hRW.r1
        have f0 := hRW.f0
        have f1 := hRW.f1
        go_wp2_with fail
        exact bodyPost_ret (v := idV (m.1 : Nat) m.2) (by simp [results, Tryz.results25, go_sem, k0, k1]) rfl ⟨by rw [HM.out], (hRW.below.setCell (p := ⟨w.heap.size + 1, 0, none⟩) (by simp) _).setCell (p := ⟨w.heap.size + 1, 1, none⟩) (by simp) _⟩
end Go.Proofs.YtjdobbjdlighpaaGreatDoor
namespace Go.Proofs.YtjdobbjdlighpaaGreatDoor
open Go.RowKit

/- Byte j of eight behind k rounds. -/
def hexAt (z : Nat) (n k j : Nat) : Nat := if 8 ≤ j + k then (hexDig (n / 16 ^ (7 - j) % 16)).toNat else z
theorem hexLast_get (n k j : Nat) (h : j < k) : (hexLast n k)[j]? = some (hexDig (n / 16 ^ (k - 1 - j) % 16)) := by
  induction k generalizing n with
  | zero => omega
  | succ k ih =>
    rw [hexLast]
    by_cases hj : j = k
    · subst hj
      rw [List.getElem?_append_right (by rw [hexLast_length]; omega), hexLast_length]
      simp
    · rw [List.getElem?_append_left (by rw [hexLast_length]; omega), ih _ (by omega), Nat.div_div_eq_div_mul, ← Nat.pow_succ', show (k - 1 - j).succ = k + 1 - 1 - j by omega]
theorem hexs_get : ∀ d : Fin 16, ((#[48, 49, 50, 51, 52, 53, 54, 55, 56, 57, 97, 98, 99, 100, 101, 102] : Array UInt8)[d.val]'d.isLt).toNat = (hexDig d.val).toNat := by decide
theorem hexs_at (d : Nat) (h : d < 16) (hq : d < (⟨#[48, 49, 50, 51, 52, 53, 54, 55, 56, 57, 97, 98, 99, 100, 101, 102]⟩ : ByteArray).size) : ((⟨#[48, 49, 50, 51, 52, 53, 54, 55, 56, 57, 97, 98, 99, 100, 101, 102]⟩ : ByteArray)[d]'hq).toNat = (hexDig d).toNat := hexs_get ⟨d, h⟩
structure HexW (z : Nat) (w : World) (B n k : Nat) (wr : World) : Prop where
  below : Below w.heap.size w wr
  size : B < wr.heap.size
  cell : ∀ j, j < 8 → wr.cell? ⟨B, j, none⟩ = some (.int .u8 (hexAt z n k j : Nat))
  free : ∀ j, j < 8 → wr.frozen? ⟨B, j, none⟩ = false

theorem HexW.next {z : Nat} {w : World} {B n k : Nat} {wr : World} (h : HexW z w B n k wr) (hB : w.heap.size ≤ B) (hk : k < 8) {o : Nat} (ho : o = 7 - k) {d : Nat} (hd : d = (hexDig (n / 16 ^ k % 16)).toNat) :
    HexW z w B n (k + 1) (wr.setCell ⟨B, o, none⟩ (.int .u8 (d : Int))) where
  below := h.below.setCell hB _
  size := by simpa [World.setCell] using h.size
  cell j hj := by
    subst ho hd
    by_cases hjk : j = 7 - k
    · subst hjk
      rw [World.cell?_setCell_same _ _ _ (h.cell _ hj)]
      unfold hexAt
      rw [if_pos (by omega), show 7 - (7 - k) = k by omega]
    · rw [World.cell?_setCell_other _ _ _ _ (fun e => hjk (by injection e; omega)), h.cell j hj]
      unfold hexAt
      by_cases h8 : 8 ≤ j + k
      · rw [if_pos h8, if_pos (by omega)]
      · rw [if_neg h8, if_neg (by omega)]
  free j hj := by
    rw [World.frozen?_setCell]
    exact h.free j hj
theorem HexW.string {z : Nat} {w : World} {B n : Nat} {wr : World} (h : HexW z w B n 8 wr) (c : Nat) :
    (convert 124 9 (.slice (some ⟨B, 0, none⟩) 8 c)).run Tryz.prog wr = .ok (.string ⟨(hexLast n 8).toArray⟩) wr := by
  have hl := hexLast_length n 8
  have := run_convert_bytes_back (P := Tryz.prog) wr 124 9 5 ⟨B, 0, none⟩ c (hexLast n 8) Tryz.underlying124 Tryz.underlying5 Tryz.underlying9 (fun j hj => by
    have hg := hexLast_get n 8 j (by omega)
    rw [List.getElem?_eq_getElem hj] at hg
    have hp : (⟨B, 0, none⟩ : Addr).add j = ⟨B, j, none⟩ := by unfold Addr.add; split <;> simp_all
    rw [Option.some.inj hg, hp, h.cell j (by omega)]
    unfold hexAt
    rw [if_pos (by omega)])
  rw [hl] at this
  exact this
theorem frozen_mark (w : World) (C : Array Value) (t : TypeId) (lo hi j : Nat) (h : j < lo) : (w.alloc (.cells C t (lo, hi))).frozen? ⟨w.heap.size, j, none⟩ = false := by
  have e : (w.alloc (.cells C t (lo, hi))).heap[w.heap.size]? = some (.cells C t (lo, hi)) := Array.getElem?_push_size
  unfold World.frozen?
  rw [e]
  simp
  omega
theorem and15 (m : Nat) (hm : m < 4294967296) : bits .and .u32 (m : Int) 15 = ((m % 16 : Nat) : Int) := by
  have := bits_mask .u32 32 (by decide) (fun n h0 h1 => by rw [IntKind.wrap_u32]; omega) 4 (by decide) (m : Int) (by omega) (by omega)
  simpa using this
theorem div_step (n k : Nat) : n / 16 ^ k / 16 = n / 16 ^ (k + 1) := by rw [Nat.div_div_eq_div_mul, Nat.pow_succ]

set_option maxHeartbeats 1000000 in
set_option maxRecDepth 100000 in
theorem hexText_any (n : Nat) (hn : n < 4294967296) (w : World) :
    Calls Tryz.prog 58 #[.int .u32 n] w fun e w' => e = .returned (.string ⟨(hexLast n 8).toArray⟩) ∧ Below w.heap.size w w' := by
  have hmk : ∀ w, (Instr.makeSlice 124 (.int .i64 8) (.int .i64 8)).run Tryz.prog w = .ok (.slice (some ⟨w.heap.size, 0, none⟩) 8 8) (w.alloc (.cells #[.int .u8 0, .int .u8 0, .int .u8 0, .int .u8 0, .int .u8 0, .int .u8 0, .int .u8 0, .int .u8 0] 5)) := fun _ => by kernel_rfl
  go_enter Tryz.func58, Tryz.ntmps58
  go_wp2
  go_loopw [0, 8] (fun q i wr => ∃ k : Nat, k ≤ 8 ∧ i = .int .i64 k ∧ q = .int .u32 (n / 16 ^ k : Nat) ∧ HexW 0 w w.heap.size n k wr) (fun _ i _ => 8 - (intOf i).toNat)
  case atStart =>
    refine ⟨0, Nat.zero_le _, rfl, by simp, (Below.refl _ _).alloc (Nat.le_refl _) _, by simp, ?_, ?_⟩
    · intro j hj
      have : j = 0 ∨ j = 1 ∨ j = 2 ∨ j = 3 ∨ j = 4 ∨ j = 5 ∨ j = 6 ∨ j = 7 := by omega
      rcases this with rfl | rfl | rfl | rfl | rfl | rfl | rfl | rfl <;> simp [hexAt]
    · intro j hj
      simp
  case round =>
    obtain ⟨k, hk, rfl, rfl, hH⟩ := hrel
    by_cases hlt : k < 8
    · have hc := hH.cell (7 - k) (by omega)
      have hf := hH.free (7 - k) (by omega)
      have hsz := hH.size
      have hlt' : (k : Int) < 8 := by omega
      have hm : n / 16 ^ k < 4294967296 := Nat.lt_of_le_of_lt (Nat.div_le_self _ _) hn
      have hnx : ∀ d : Nat, d = (hexDig (n / 16 ^ k % 16)).toNat → HexW 0 w w.heap.size n (k + 1) (wr.setCell ⟨w.heap.size, 7 - k, none⟩ (.int .u8 (d : Int))) := fun d hd => hH.next (Nat.le_refl _) hlt rfl hd
      have HD : Hid (n / 16 ^ k / 16 = n / 16 ^ (k + 1)) := div_step n k
      generalize n / 16 ^ k = m at *
      have hand := and15 m hm
      clear hH
      go_wp2
      go_roundw
      case rel => exact ⟨k + 1, by omega, by go_num, by rw [← HD.out]; rfl, hnx _ (hexs_at _ (by omega) _)⟩
      case measure => simp [intOf]; omega
    · obtain rfl : k = 8 := by omega
      have hcv := hH.string 8
      have hbl := hH.below
      clear hH
      go_wp2
      go_ret
      exact ⟨rfl, hbl⟩

set_option maxHeartbeats 1000000 in
set_option maxRecDepth 100000 in
theorem hexOf_any (n : Nat) (hn : n < 4294967296) (w : World) :
    Calls Tryz.prog 71 #[.int .u32 n] w fun e w' => e = .returned (.string ⟨(hexLast n 8).toArray⟩) ∧ Below w.heap.size w w' := by
  have kc := fun (w : World) (C : Array Value) (n c : Nat) => Lib.run_convert_bytes_const (P := Tryz.prog) w 124 5 C n c Tryz.underlying124 Tryz.underlying5
  go_enter Tryz.func71, Tryz.ntmps71
  go_wp2
  go_loopw [3, 5] (fun q i wr => ∃ k : Nat, k ≤ 8 ∧ i = .int .i64 (7 - (k : Int)) ∧ q = .int .i64 (n / 16 ^ k : Nat) ∧ HexW 48 w w.heap.size n k wr) (fun _ i _ => (intOf i + 1).toNat)
  case atStart =>
    refine ⟨0, Nat.zero_le _, rfl, by simp, (Below.refl _ _).alloc (Nat.le_refl _) _, by simp, ?_, ?_⟩
    · intro j hj
      rw [World.cell?_alloc_mark]
      have : j = 0 ∨ j = 1 ∨ j = 2 ∨ j = 3 ∨ j = 4 ∨ j = 5 ∨ j = 6 ∨ j = 7 := by omega
      rcases this with rfl | rfl | rfl | rfl | rfl | rfl | rfl | rfl <;> simp [hexAt]
    · intro j hj
      exact frozen_mark w _ _ _ _ j (by simpa using hj)
  case round =>
    obtain ⟨k, hk, rfl, rfl, hH⟩ := hrel
    by_cases hlt : k < 8
    · have hc := hH.cell (7 - k) (by omega)
      have hf := hH.free (7 - k) (by omega)
      have hsz := hH.size
      have hlt' : (0 : Int) ≤ 7 - (k : Int) := by omega
      have htn : (7 - (k : Int)).toNat = 7 - k := by omega
      have hm : n / 16 ^ k < 4294967296 := Nat.lt_of_le_of_lt (Nat.div_le_self _ _) hn
      have hnx : ∀ d : Nat, d = (hexDig (n / 16 ^ k % 16)).toNat → HexW 48 w w.heap.size n (k + 1) (wr.setCell ⟨w.heap.size, 7 - k, none⟩ (.int .u8 (d : Int))) := fun d hd => hH.next (Nat.le_refl _) hlt rfl hd
      have HD : Hid (n / 16 ^ k / 16 = n / 16 ^ (k + 1)) := div_step n k
      generalize n / 16 ^ k = m at *
      clear hH
      go_wp2
      go_roundw
      case rel => exact ⟨k + 1, by omega, val_int (by omega), by rw [← HD.out]; rfl, hnx _ (hexs_at _ (by omega) _)⟩
      case measure => simp [intOf]; omega
    · obtain rfl : k = 8 := by omega
      have hcv := hH.string 8
      have hbl := hH.below
      clear hH
      go_wp2
      go_ret
      exact ⟨rfl, hbl⟩
end Go.Proofs.YtjdobbjdlighpaaGreatDoor
namespace Go.Proofs.YtjdobbjdlighpaaGreatDoor
open Go.RowKit

set_option maxHeartbeats 1000000 in
theorem byte_any (c : UInt8) (x : Int) (hx : x = c.toNat) (w : World) :
    Calls Tryz.prog 142 #[.int .i64 x] w fun e w' => e = .returned (.string ⟨#[c]⟩) ∧ Below w.heap.size w w' := by
  subst hx
  have hcv : (convert 124 9 (.slice (some ⟨w.heap.size, 0, none⟩) 1 1)).run Tryz.prog (w.alloc (.cells #[.int .u8 (c.toNat : Int)] 5)) = .ok (.string ⟨#[c]⟩) (w.alloc (.cells #[.int .u8 (c.toNat : Int)] 5)) := by
    have := run_convert_bytes_back (P := Tryz.prog) (w.alloc (.cells #[.int .u8 (c.toNat : Int)] 5)) 124 9 5 ⟨w.heap.size, 0, none⟩ 1 [c] Tryz.underlying124 Tryz.underlying5 Tryz.underlying9 (fun j hj => by
      have hj0 : j = 0 := by simpa using hj
      subst hj0
      have hp : (⟨w.heap.size, 0, none⟩ : Addr).add 0 = ⟨w.heap.size, 0, none⟩ := by unfold Addr.add; split <;> simp_all
      rw [hp]
      simp)
    simpa using this
  have hn := c.toNat_lt
  have hn' : (c.toNat : Int) % 256 = c.toNat := by omega
  clear hn
  go_enter Tryz.func142, Tryz.ntmps142
  go_wp2
  go_ret
  exact ⟨rfl, (Below.refl _ _).alloc (Nat.le_refl _) _⟩

theorem str_append (a b : List UInt8) : (⟨a.toArray⟩ : ByteArray) ++ ⟨b.toArray⟩ = ⟨(a ++ b).toArray⟩ := by
  apply ByteArray.ext
  simp [ByteArray.data_append]
theorem decDigits_le19 (u : Nat) (h : u ≤ 9223372036854775807) : (Lib.decDigits u).length ≤ 19 := by
  have h4 : (10 : Nat) ^ 19 = 10000000000000000000 := by decide
  exact decDigits_len_le u 19 (by decide) (by rw [h4]; omega)
theorem dig_nat : ∀ d : Fin 10, (UInt8.ofNat (48 + d.val)).toNat = 48 + d.val := by decide

set_option maxHeartbeats 1000000 in
theorem below_any (f : Nat) : ∀ (u : Nat) (x : Int) (w : World), u < f → x = -(u : Int) → u ≤ 9223372036854775807 →
    Calls Tryz.prog 112 #[.int .i64 x] w fun e w' => e = .returned (.string ⟨(Lib.decDigits u).toArray⟩) ∧ Below w.heap.size w w' := by
  induction f with
  | zero => intro u x w h; omega
  | succ f ih =>
    intro u x w hu hx hmax
    by_cases h10 : u < 10
    · have hgt : -10 < x := by omega
      have hlo : x ≤ 0 := by omega
      have HX : Hid (x = -(u : Int)) := hx
      clear hx ih
      have hdg := dig_nat ⟨u, h10⟩
      have hdd : Lib.decDigits u = [UInt8.ofNat (48 + u)] := by rw [Lib.decDigits, dif_pos h10]
      simp only at hdg
      generalize UInt8.ofNat (48 + u) = c at *
      have HG : Hid (c.toNat = 48 + u) := hdg
      have HD : Hid (Lib.decDigits u = [c]) := hdd
      clear hdg hdd
      go_enter Tryz.func112, Tryz.ntmps112
      go_wp2_with fail
      refine (byte_any c _ (by have := HX.out; have := HG.out; omega) _).mono ?_
      rintro e w' ⟨rfl, hb⟩
      go_wp2_with fail
      go_ret
      exact ⟨by rw [HD.out]; rfl, hb⟩
    · have hgt : ¬ -10 < x := by omega
      have hlo : -9223372036854775807 ≤ x := by omega
      have hhi : x ≤ 0 := by omega
      have hdg := dig_nat ⟨u % 10, by omega⟩
      have hdd : Lib.decDigits u = Lib.decDigits (u / 10) ++ [UInt8.ofNat (48 + u % 10)] := by rw [Lib.decDigits, dif_neg h10]
      simp only at hdg
      generalize UInt8.ofNat (48 + u % 10) = c at *
      have HG : Hid (c.toNat = 48 + u % 10) := hdg
      have HD : Hid (Lib.decDigits u = Lib.decDigits (u / 10) ++ [c]) := hdd
      have HX : Hid (x = -(u : Int)) := hx
      have HI : Hid _ := ih
      have ht1 : x.tdiv 10 = -((u / 10 : Nat) : Int) := by rw [hx, Int.neg_tdiv]; simp
      have ht2 : x.tmod 10 = -((u % 10 : Nat) : Int) := by rw [hx, Int.neg_tmod, Int.tmod_eq_emod_of_nonneg (by omega)]; omega
      have hl := decDigits_le19 (u / 10) (by omega)
      have hr1 : -9 ≤ x.tmod 10 := by omega
      have hr2 : x.tmod 10 ≤ 0 := by omega
      have HT1 : Hid (x.tdiv 10 = -((u / 10 : Nat) : Int)) := ht1
      have HT2 : Hid (x.tmod 10 = -((u % 10 : Nat) : Int)) := ht2
      clear hx hdg hdd ih ht1 ht2
      go_enter Tryz.func112, Tryz.ntmps112
      go_wp2_with fail
      refine (HI.out (u / 10) _ _ (by omega) HT1.out (by omega)).mono ?_
      rintro e w1 ⟨rfl, hb1⟩
      go_wp2_with fail
      refine (byte_any c _ ?_ _).mono ?_
      · have h1 := HT2.out
        have h2 := HG.out
        omega
      rintro e w2 ⟨rfl, hb2⟩
      go_wp2_with fail
      go_ret
      refine ⟨?_, hb1.trans (hb2.mono hb1.size)⟩
      rw [HD.out, ← str_append]
      rfl

theorem decimal_any (u : Nat) (hu : u ≤ 9223372036854775807) (w : World) :
    Calls Tryz.prog 70 #[.int .i64 u] w fun e w' => e = .returned (.string ⟨(Lib.decDigits u).toArray⟩) ∧ Below w.heap.size w w' := by
  have h0 : ¬ (u : Int) < 0 := by omega
  go_enter Tryz.func70, Tryz.ntmps70
  go_wp2_with fail
  refine (below_any (u + 1) u _ _ (by omega) (by omega) hu).mono ?_
  rintro e w1 ⟨rfl, hb1⟩
  go_wp2_with fail
  go_ret
  exact ⟨rfl, hb1⟩
end Go.Proofs.YtjdobbjdlighpaaGreatDoor
