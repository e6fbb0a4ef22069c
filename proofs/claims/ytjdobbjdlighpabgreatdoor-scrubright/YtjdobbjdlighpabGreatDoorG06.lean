/-
  Own text. sort.Slice where 'less' may lay blocks: a counter behind a pointer (Cnt); order2_func, median_func, medianAdjacent_func, choosePivot_func.
  Own text. The program's bin by contracts: Get, Drop.
  Own text. A node of the program's in memory: its two maps' kits (strRcps: names to recipes; idBins: reps to bins), a node as files and bins (NSt), where they lie (PNode).
-/
import Derived.Test.YtjdobbjdlighpabGreatDoorG05
import Derived.Below
import Derived.Deep.QuietTactic
import Derived.BigQuiet
import Derived.BigRegion
import Derived.Test.YtjdobbjdlighpabGreatDoorG04
import Derived.Maps.Keyed
namespace Go.Proofs.YtjdobbjdlighpabGreatDoor
open Go.Shelf Go.RowKit Go.Lib Go.Sort

structure Cnt (c s : Nat) (w : World) : Prop where
  cell : w.cell? ⟨c, 0, none⟩ = some (.int .i64 (s : Int))
  free : w.frozen? ⟨c, 0, none⟩ = false
  lt : c < w.heap.size
theorem Cnt.kept {c s : Nat} {w w' : World} {row : Option Nat} (h : Cnt c s w) (hg : w.grownBy w' row) (hr : some c ≠ row) : Cnt c s w' :=
  ⟨(World.cell?_of_block (w := w) (hg.block c h.lt hr)).trans h.cell, (World.frozen?_of_block (w := w) (hg.block c h.lt hr)).trans h.free, Nat.lt_of_lt_of_le h.lt hg.size⟩
theorem Cnt.set {c s : Nat} {w : World} (h : Cnt c s w) (t : Nat) {v : Int} (hv : v = (t : Int)) : Cnt c t (w.setCell ⟨c, 0, none⟩ (.int .i64 v)) := by
  subst hv
  exact ⟨World.cell?_setCell_same _ _ _ h.cell, by simpa using h.free, by simpa [World.setCell] using h.lt⟩
theorem grown_set {w w' : World} {c : Nat} (h : w.grownBy w' (some c)) (i : Nat) (v : Value) : w.grownBy (w'.setCell ⟨c, i, none⟩ v) (some c) :=
  ⟨h.os, h.tape, h.output, by simpa [World.setCell] using h.size, fun k hk hne => (RowKit.Below.heap_setCell w' ⟨c, i, none⟩ v k (fun e => hne (by rw [e]))).trans (h.block k hk hne)⟩
theorem grown_refl (w : World) (row : Option Nat) : w.grownBy w row := ⟨rfl, rfl, rfl, Nat.le_refl _, fun _ _ _ => rfl⟩
theorem grown_trans {a b c : World} {row : Option Nat} (h : a.grownBy b row) (k : b.grownBy c row) : a.grownBy c row := h.andThen k (fun _ hj => .inr hj)
theorem cell_kept {w w' : World} {row : Option Nat} {a : Addr} {v : Value} (h : w.cell? a = some v) (hg : w.grownBy w' row) (hl : a.block < w.heap.size) (hr : some a.block ≠ row) : w'.cell? a = some v := (World.cell?_of_block (w := w) (hg.block _ hl hr)).trans h

variable {P : Program} {ρ : Ren} {α : Type} [Inhabited α] {lt : α → α → Bool} {g : Nat} {lb : Array Value} {sf : Nat} {sb : Array Value} {blk n n0 : Nat} {I : World → Array α → Prop}
set_option maxHeartbeats 1000000 in
set_option maxRecDepth 100000 in
theorem srt_order2 (L : LaysGg.n39 P ρ) (S : Srt P lt g lb sf sb blk n n0 I) (a b c s : Nat) (d : Array α) (w : World) (hI : I w d) (hc : Cnt c s w) (ha : a < n) (hb : b < n) (hs : s < 4611686018427387904) :
    Calls P (ρ.f 39) #[.agg #[.func (.func g) #[] lb, .func (.func sf) #[] sb], .int .i64 a, .int .i64 b, .pointer (some ⟨c, 0, none⟩)] w fun e w' => e = .returned (.tuple #[.int .i64 (order2 lt d a b s).1, .int .i64 (order2 lt d a b s).2.1]) ∧ Cnt c (order2 lt d a b s).2.2 w' ∧ w.grownBy w' (some c) := by
  have mixed := L.mixed; have t0 := L.t0; have a0 := L.a0; have z0 := L.z0; have v0 := L.v0; have t3 := L.t3; have a3 := L.a3; have z3 := L.z3; have v3 := L.v3; have t4 := L.t4; have a4 := L.a4; have z4 := L.z4; have v4 := L.v4; have t26 := L.t26; have a26 := L.a26; have z26 := L.z26; have v26 := L.v26; have t37 := L.t37; have a37 := L.a37; have z37 := L.z37; have v37 := L.v37; have t44 := L.t44; have a44 := L.a44; have z44 := L.z44; have v44 := L.v44; have t64 := L.t64; have a64 := L.a64; have z64 := L.z64; have v64 := L.v64
  have u44 := run_underlying L.t44
  have eg := S.eg
  have hg0 : w.grownBy (w.alloc (.cells #[.func (.func g) #[] lb, .func (.func sf) #[] sb] (ρ.t 44))) none := World.grownBy_alloc w _ none
  have hl := S.less (b : Int) (a : Int) b a rfl rfl (S.keep hI hg0) hb ha
  have hc1 := hc.kept hg0 (by simp)
  go_enter L.f39, BodyGg.n39_ntmps ρ
  cases hlv : lt d[b]! d[a]! with
  | true =>
    rw [hlv] at hl
    have e2 : order2 lt d a b s = (b, a, s + 1) := by simp [order2, hlv]
    go_wp2_with (go_at_fn g; refine hl.mono ?_; rintro e w1 ⟨rfl, hg1⟩; have hc2 := hc1.kept hg1 (by simp); have cs := hc2.cell; have fs := hc2.free)
    go_ret2
    rw [e2]
    exact ⟨rfl, hc2.set (s + 1) (by simp), grown_set ((hg0.andThen hg1 (fun _ hj => by cases hj)).but _) 0 _⟩
  | false =>
    rw [hlv] at hl
    have e2 : order2 lt d a b s = (a, b, s) := by simp [order2, hlv]
    go_wp2_with (go_at_fn g; refine hl.mono ?_; rintro e w1 ⟨rfl, hg1⟩)
    go_ret2
    rw [e2]
    exact ⟨rfl, hc1.kept hg1 (by simp), (hg0.andThen hg1 (fun _ hj => by cases hj)).but _⟩

set_option maxHeartbeats 1000000 in
set_option maxRecDepth 100000 in
theorem srt_median (L : LaysGg.n38 P ρ) (S : Srt P lt g lb sf sb blk n n0 I) (a b c k s : Nat) (d : Array α) (w : World) (hI : I w d) (hk : Cnt k s w) (hn : n0 ≤ k) (ha : a < n) (hb : b < n) (hc : c < n) (hs : s + 3 < 4611686018427387904) :
    Calls P (ρ.f 38) #[.agg #[.func (.func g) #[] lb, .func (.func sf) #[] sb], .int .i64 a, .int .i64 b, .int .i64 c, .pointer (some ⟨k, 0, none⟩)] w fun e w' => e = .returned (.int .i64 (median lt d a b c s).1) ∧ Cnt k (median lt d a b c s).2 w' ∧ w.grownBy w' (some k) := by
  have mixed := L.mixed; have t0 := L.t0; have a0 := L.a0; have z0 := L.z0; have v0 := L.v0; have t3 := L.t3; have a3 := L.a3; have z3 := L.z3; have v3 := L.v3; have t4 := L.t4; have a4 := L.a4; have z4 := L.z4; have v4 := L.v4; have t26 := L.t26; have a26 := L.a26; have z26 := L.z26; have v26 := L.v26; have t37 := L.t37; have a37 := L.a37; have z37 := L.z37; have v37 := L.v37; have t44 := L.t44; have a44 := L.a44; have z44 := L.z44; have v44 := L.v44; have t64 := L.t64; have a64 := L.a64; have z64 := L.z64; have v64 := L.v64; have t67 := L.t67; have a67 := L.a67; have z67 := L.z67; have v67 := L.v67
  have u44 := run_underlying L.t44
  have e39 : ∀ args w, (callFunc (ρ.f 39) args).run P w = .ok (.enter (ρ.f 39) args) w := enters_of L.f39 (by kernel_rfl) rfl
  have l1 := order2_lt' lt d s ha hb
  have s1 := order2_swaps' lt d a b s
  have l2 := order2_lt' lt d (order2 lt d a b s).2.2 l1.2 hc
  have s2 := order2_swaps' lt d (order2 lt d a b s).2.1 c (order2 lt d a b s).2.2
  have hg0 : w.grownBy (w.alloc (.cells #[.func (.func g) #[] lb, .func (.func sf) #[] sb] (ρ.t 44))) none := World.grownBy_alloc w _ none
  have x0 : (w.alloc (.cells #[.func (.func g) #[] lb, .func (.func sf) #[] sb] (ρ.t 44))).cell? ⟨w.heap.size, 0, none⟩ = some (.func (.func g) #[] lb) := by simp
  have x1 : (w.alloc (.cells #[.func (.func g) #[] lb, .func (.func sf) #[] sb] (ρ.t 44))).cell? ⟨w.heap.size, 1, none⟩ = some (.func (.func sf) #[] sb) := by simp
  have hne : some w.heap.size ≠ some k := fun e => by have := hk.lt; have := Option.some.inj e; omega
  have hlt : w.heap.size < (w.alloc (.cells #[.func (.func g) #[] lb, .func (.func sf) #[] sb] (ρ.t 44))).heap.size := by simp
  have st1 := srt_order2 (ρ := ρ) { L with } S a b k s d _ (S.keep hI hg0) (hk.kept hg0 (by simp)) ha hb (by omega)
  go_enter L.f38, BodyGg.n38_ntmps ρ
  go_wp2_with (go_at_fn_of (ρ.f 39) (Value.int .i64 (b : Int)); refine st1.mono ?_; rintro e w1 ⟨rfl, hk1, hg1⟩; have y0 := cell_kept x0 hg1 hlt hne; have y1 := cell_kept x1 hg1 hlt hne; have hI1 := S.keepAt (S.keep hI hg0) hn hg1; have st2 := srt_order2 (ρ := ρ) { L with } S (order2 lt d a b s).2.1 c k (order2 lt d a b s).2.2 d w1 hI1 hk1 l1.2 hc (by omega))
  have hlt1 := Nat.lt_of_lt_of_le hlt hg1.size
  go_wp2_with (go_at_fn_of (ρ.f 39) (Value.int .i64 (c : Int)); refine st2.mono ?_; rintro e w2 ⟨rfl, hk2, hg2⟩; have q0 := cell_kept y0 hg2 hlt1 hne; have q1 := cell_kept y1 hg2 hlt1 hne; have hI2 := S.keepAt hI1 hn hg2; have st3 := srt_order2 (ρ := ρ) { L with } S (order2 lt d a b s).1 (order2 lt d (order2 lt d a b s).2.1 c (order2 lt d a b s).2.2).1 k (order2 lt d (order2 lt d a b s).2.1 c (order2 lt d a b s).2.2).2.2 d w2 hI2 hk2 l1.1 l2.1 (by omega))
  go_wp2_with (go_at_fn_of (ρ.f 39) (Value.int .i64 ((order2 lt d a b s).1 : Int)); refine st3.mono ?_; rintro e w3 ⟨rfl, hk3, hg3⟩)
  go_ret
  exact ⟨rfl, hk3, grown_trans (grown_trans (grown_trans (hg0.but _) hg1) hg2) hg3⟩

set_option maxHeartbeats 1000000 in
set_option maxRecDepth 100000 in
theorem srt_medAdj (L : LaysGg.n37 P ρ) (S : Srt P lt g lb sf sb blk n n0 I) (a k s : Nat) (d : Array α) (w : World) (hI : I w d) (hk : Cnt k s w) (hn : n0 ≤ k) (ha1 : 1 ≤ a) (ha2 : a + 1 < n) (hsz : n < 4611686018427387904) (hs : s + 3 < 4611686018427387904) :
    Calls P (ρ.f 37) #[.agg #[.func (.func g) #[] lb, .func (.func sf) #[] sb], .int .i64 a, .pointer (some ⟨k, 0, none⟩)] w fun e w' => e = .returned (.int .i64 (medianAdjacent lt d a s).1) ∧ Cnt k (medianAdjacent lt d a s).2 w' ∧ w.grownBy w' (some k) := by
  have mixed := L.mixed; have t0 := L.t0; have a0 := L.a0; have z0 := L.z0; have v0 := L.v0; have t3 := L.t3; have a3 := L.a3; have z3 := L.z3; have v3 := L.v3; have t4 := L.t4; have a4 := L.a4; have z4 := L.z4; have v4 := L.v4; have t26 := L.t26; have a26 := L.a26; have z26 := L.z26; have v26 := L.v26; have t37 := L.t37; have a37 := L.a37; have z37 := L.z37; have v37 := L.v37; have t44 := L.t44; have a44 := L.a44; have z44 := L.z44; have v44 := L.v44; have t64 := L.t64; have a64 := L.a64; have z64 := L.z64; have v64 := L.v64; have t67 := L.t67; have a67 := L.a67; have z67 := L.z67; have v67 := L.v67
  have u44 := run_underlying L.t44
  have e38 : ∀ args w, (callFunc (ρ.f 38) args).run P w = .ok (.enter (ρ.f 38) args) w := enters_of L.f38 (by kernel_rfl) rfl
  have hg0 : w.grownBy (w.alloc (.cells #[.func (.func g) #[] lb, .func (.func sf) #[] sb] (ρ.t 44))) none := World.grownBy_alloc w _ none
  have hm := srt_median (ρ := ρ) { L with } S (a - 1) a (a + 1) k s d _ (S.keep hI hg0) (hk.kept hg0 (by simp)) hn (by omega) (by omega) ha2 hs
  rw [show ((a - 1 : Nat) : Int) = (a : Int) - 1 by omega, show ((a + 1 : Nat) : Int) = (a : Int) + 1 by omega] at hm
  go_enter L.f37, BodyGg.n37_ntmps ρ
  go_wp2_with (go_at_fn (ρ.f 38); refine hm.mono ?_; rintro e w1 ⟨rfl, hk1, hg1⟩)
  go_ret
  exact ⟨rfl, hk1, grown_trans (hg0.but _) hg1⟩

/- What choosePivot_func's three ways end with. -/
set_option maxHeartbeats 4000000 in
set_option maxRecDepth 100000 in
theorem srt_pivot (L : LaysGg.n29 P ρ) (S : Srt P lt g lb sf sb blk n n0 I) (a b : Nat) (d : Array α) (w : World) (hI : I w d) (hab : a < b) (hb : b ≤ n) (hsz : n < 4611686018427387904) :
    Calls P (ρ.f 29) #[.agg #[.func (.func g) #[] lb, .func (.func sf) #[] sb], .int .i64 a, .int .i64 b] w fun e w' => e = .returned (.tuple #[.int .i64 (choosePivot lt d a b).1, .int .i64 (hintCode (choosePivot lt d a b).2)]) ∧ w.grownBy w' none := by
  have mixed := L.mixed; have t0 := L.t0; have a0 := L.a0; have z0 := L.z0; have v0 := L.v0; have t3 := L.t3; have a3 := L.a3; have z3 := L.z3; have v3 := L.v3; have t4 := L.t4; have a4 := L.a4; have z4 := L.z4; have v4 := L.v4; have t26 := L.t26; have a26 := L.a26; have z26 := L.z26; have v26 := L.v26; have t37 := L.t37; have a37 := L.a37; have z37 := L.z37; have v37 := L.v37; have t44 := L.t44; have a44 := L.a44; have z44 := L.z44; have v44 := L.v44; have t53 := L.t53; have a53 := L.a53; have z53 := L.z53; have v53 := L.v53; have t64 := L.t64; have a64 := L.a64; have z64 := L.z64; have v64 := L.v64; have t67 := L.t67; have a67 := L.a67; have z67 := L.z67; have v67 := L.v67
  have u44 := run_underlying L.t44
  have e37 : ∀ args w, (callFunc (ρ.f 37) args).run P w = .ok (.enter (ρ.f 37) args) w := enters_of L.f37 (by kernel_rfl) rfl
  have e38 : ∀ args w, (callFunc (ρ.f 38) args).run P w = .ok (.enter (ρ.f 38) args) w := enters_of L.f38 (by kernel_rfl) rfl
  rw [choosePivot_eq]
  have hn := Nat.le_succ_of_le (S.le hI)
  obtain ⟨W, hW⟩ : ∃ W, ((w.alloc (.cells #[.func (.func g) #[] lb, .func (.func sf) #[] sb] (ρ.t 44))).alloc (.cells #[.int .i64 0] (ρ.t 3))) = W := ⟨_, rfl⟩
  have hgW : w.grownBy W none := by rw [← hW]; exact (World.grownBy_alloc w _ none).andThen (World.grownBy_alloc _ _ none) (fun _ hj => by cases hj)
  have hIW := S.keep hI hgW
  have hK : Cnt (w.heap.size + 1) 0 W := by
    rw [← hW]
    exact ⟨by rw [World.cell?_alloc_at _ _ _ _ (by simp)]; rfl, World.frozen?_alloc_at _ _ _ _ (by simp), by simp⟩
  have bx0 : W.cell? ⟨w.heap.size, 0, none⟩ = some (.func (.func g) #[] lb) := by rw [← hW, World.cell?_alloc_past _ _ _ (by simp)]; simp
  have bx1 : W.cell? ⟨w.heap.size, 1, none⟩ = some (.func (.func sf) #[] sb) := by rw [← hW, World.cell?_alloc_past _ _ _ (by simp)]; simp
  have hbl : w.heap.size < W.heap.size := by rw [← hW]; simp; omega
  have hne : some w.heap.size ≠ some (w.heap.size + 1) := fun e => by have := Option.some.inj e; omega
  have fin : ∀ {w' : World}, W.grownBy w' (some (w.heap.size + 1)) → w.grownBy w' none := fun h => hgW.andThen h (fun j hj => by cases hj; exact .inl (Nat.le_succ _))
  have fin : Aside _ := @fin
  obtain ⟨I1, hI1⟩ : ∃ I1 : Nat, I1 = a + (b - a) / 4 * 1 := ⟨_, rfl⟩
  obtain ⟨J, hJ⟩ : ∃ J : Nat, J = a + (b - a) / 4 * 2 := ⟨_, rfl⟩
  obtain ⟨K, hKK⟩ : ∃ K : Nat, K = a + (b - a) / 4 * 3 := ⟨_, rfl⟩
  have eI : ((a : Int) + ((b : Int) - (a : Int)) / 4) = (I1 : Int) := by omega
  have eJ : ((a : Int) + ((b : Int) - (a : Int)) / 4 * 2) = (J : Int) := by omega
  have eK : ((a : Int) + ((b : Int) - (a : Int)) / 4 * 3) = (K : Int) := by omega
  by_cases h8 : b - a ≥ 8
  · by_cases h50 : b - a ≥ 50
    · obtain ⟨i1, s1, h1⟩ : ∃ i1 s1, medianAdjacent lt d I1 0 = (i1, s1) := ⟨_, _, rfl⟩
      obtain ⟨j1, s2, h2⟩ : ∃ j1 s2, medianAdjacent lt d J s1 = (j1, s2) := ⟨_, _, rfl⟩
      obtain ⟨k1, s3, h3⟩ : ∃ k1 s3, medianAdjacent lt d K s2 = (k1, s3) := ⟨_, _, rfl⟩
      obtain ⟨p, s, h4⟩ : ∃ p s, median lt d i1 j1 k1 s3 = (p, s) := ⟨_, _, rfl⟩
      have hraw : rawPivot lt d a b = (p, s) := by simp only [rawPivot, if_pos h8, if_pos h50, ← hI1, ← hJ, ← hKK, h1, h2, h3, h4]
      have m1 := medianAdjacent_mem lt d I1 0; rw [h1] at m1
      have m2 := medianAdjacent_mem lt d J s1; rw [h2] at m2
      have m3 := medianAdjacent_mem lt d K s2; rw [h3] at m3
      have n1 := medianAdjacent_count lt d I1 0; rw [h1] at n1
      have n2 := medianAdjacent_count lt d J s1; rw [h2] at n2
      have n3 := medianAdjacent_count lt d K s2; rw [h3] at n3
      simp only [] at m1 m2 m3 n1 n2 n3
      have c1 := srt_medAdj (ρ := ρ) { L with } S I1 (w.heap.size + 1) 0 d W hIW hK hn (by omega) (by omega) hsz (by omega)
      rw [h1] at c1
      have c2 : ∀ w1, Cnt (w.heap.size + 1) s1 w1 → W.grownBy w1 (some (w.heap.size + 1)) → _ := fun w1 hc hg => srt_medAdj (ρ := ρ) { L with } S J (w.heap.size + 1) s1 d w1 (S.keepAt hIW hn hg) hc hn (by omega) (by omega) hsz (by omega)
      rw [h2] at c2
      have c3 : ∀ w1, Cnt (w.heap.size + 1) s2 w1 → W.grownBy w1 (some (w.heap.size + 1)) → _ := fun w1 hc hg => srt_medAdj (ρ := ρ) { L with } S K (w.heap.size + 1) s2 d w1 (S.keepAt hIW hn hg) hc hn (by omega) (by omega) hsz (by omega)
      rw [h3] at c3
      have c4 : ∀ w1, Cnt (w.heap.size + 1) s3 w1 → W.grownBy w1 (some (w.heap.size + 1)) → _ := fun w1 hc hg => srt_median (ρ := ρ) { L with } S i1 j1 k1 (w.heap.size + 1) s3 d w1 (S.keepAt hIW hn hg) hc hn (by omega) (by omega) (by omega) (by omega)
      rw [h4] at c4
      rw [hraw]
      obtain ⟨Hc, hHc⟩ : ∃ Hc : Int, Hc = hintCode (hintOf s) := ⟨_, rfl⟩
      have hh0 : s = 0 → Hc = 1 := fun h => by rw [hHc, h]; rfl
      have hh12 : s = 12 → Hc = 2 := fun h => by rw [hHc, h]; rfl
      have hhx : s ≠ 0 → s ≠ 12 → Hc = 0 := fun h1 h2 => by rw [hHc]; unfold hintOf; rw [if_neg h1, if_neg h2]; rfl
      show Calls P (ρ.f 29) _ w fun e w' => e = .returned (.tuple #[.int .i64 (p : Int), .int .i64 (hintCode (hintOf s))]) ∧ w.grownBy w' none
      rw [← hHc]
      have C2 : Aside _ := c2
      have C3 : Aside _ := c3
      have C4 : Aside _ := c4
      clear hHc hraw h1 h2 h3 h4 hI1 hJ hKK m1 m2 m3 c2 c3 c4
      go_enter L.f29, BodyGg.n29_ntmps ρ
      go_wp2_with (first
        | (go_at_fn_of (ρ.f 37) (Value.int .i64 (I1 : Int)); refine c1.mono ?_; rintro e w1 ⟨rfl, k1', g1⟩; have y0 := cell_kept bx0 g1 hbl hne; have y1 := cell_kept bx1 g1 hbl hne)
        | (go_at_fn_of (ρ.f 37) (Value.int .i64 (J : Int)); refine (C2.out _ k1' g1).mono ?_; rintro e w2 ⟨rfl, k2, g2'⟩; have g2 := grown_trans g1 g2'; have x0 := cell_kept bx0 g2 hbl hne; have x1 := cell_kept bx1 g2 hbl hne)
        | (go_at_fn_of (ρ.f 37) (Value.int .i64 (K : Int)); refine (C3.out _ k2 g2).mono ?_; rintro e w3 ⟨rfl, k3, g3'⟩; have g3 := grown_trans g2 g3'; have q0 := cell_kept bx0 g3 hbl hne; have q1 := cell_kept bx1 g3 hbl hne)
        | (go_at_fn (ρ.f 38); refine (C4.out _ k3 g3).mono ?_; rintro e w4 ⟨rfl, k4, g4'⟩; have g4 := grown_trans g3 g4'; have u4 := k4.cell))
      all_goals
        go_ret2
        refine ⟨?_, fin.out g4⟩
        first
          | (have e0 : (s : Int) = 0 := of_beq_int (by assumption)
             rw [hh0 (by omega)]; rfl)
          | (have e1 : (s : Int) = 12 := of_beq_int (by assumption)
             rw [hh12 (by omega)]; rfl)
          | (have e0 : (s : Int) ≠ 0 := of_bne_int (by assumption)
             have e1 : (s : Int) ≠ 12 := of_bne_int (by assumption)
             rw [hhx (by omega) (by omega)]; rfl)
          | (rw [hh0 (by omega)]; rfl)
    · obtain ⟨p, s, h4⟩ : ∃ p s, median lt d I1 J K 0 = (p, s) := ⟨_, _, rfl⟩
      have hraw : rawPivot lt d a b = (p, s) := by simp only [rawPivot, if_pos h8, if_neg h50, ← hI1, ← hJ, ← hKK, h4]
      have c4 := srt_median (ρ := ρ) { L with } S I1 J K (w.heap.size + 1) 0 d W hIW hK hn (by omega) (by omega) (by omega) (by omega)
      rw [h4] at c4
      rw [hraw]
      obtain ⟨Hc, hHc⟩ : ∃ Hc : Int, Hc = hintCode (hintOf s) := ⟨_, rfl⟩
      have hh0 : s = 0 → Hc = 1 := fun h => by rw [hHc, h]; rfl
      have hh12 : s = 12 → Hc = 2 := fun h => by rw [hHc, h]; rfl
      have hhx : s ≠ 0 → s ≠ 12 → Hc = 0 := fun h1 h2 => by rw [hHc]; unfold hintOf; rw [if_neg h1, if_neg h2]; rfl
      show Calls P (ρ.f 29) _ w fun e w' => e = .returned (.tuple #[.int .i64 (p : Int), .int .i64 (hintCode (hintOf s))]) ∧ w.grownBy w' none
      rw [← hHc]
      clear hHc hraw h4 hI1 hJ hKK
      go_enter L.f29, BodyGg.n29_ntmps ρ
      go_wp2_with (first | (go_at_fn (ρ.f 38); refine c4.mono ?_; rintro e w4 ⟨rfl, k4, g4⟩; have u4 := k4.cell))
      all_goals
        go_ret2
        refine ⟨?_, fin.out g4⟩
        first
          | (have e0 : (s : Int) = 0 := of_beq_int (by assumption)
             rw [hh0 (by omega)]; rfl)
          | (have e1 : (s : Int) = 12 := of_beq_int (by assumption)
             rw [hh12 (by omega)]; rfl)
          | (have e0 : (s : Int) ≠ 0 := of_bne_int (by assumption)
             have e1 : (s : Int) ≠ 12 := of_bne_int (by assumption)
             rw [hhx (by omega) (by omega)]; rfl)
          | (rw [hh0 (by omega)]; rfl)
  · obtain ⟨p, hp⟩ : ∃ p : Nat, p = J := ⟨_, rfl⟩
    obtain ⟨s, hs⟩ : ∃ s : Nat, s = 0 := ⟨_, rfl⟩
    have hraw : rawPivot lt d a b = (p, s) := by simp only [rawPivot, if_neg h8, ← hJ, hp, hs]
    rw [hraw]
    obtain ⟨Hc, hHc⟩ : ∃ Hc : Int, Hc = hintCode (hintOf s) := ⟨_, rfl⟩
    have hh0 : s = 0 → Hc = 1 := fun h => by rw [hHc, h]; rfl
    have hh12 : s = 12 → Hc = 2 := fun h => by rw [hHc, h]; rfl
    have hhx : s ≠ 0 → s ≠ 12 → Hc = 0 := fun h1 h2 => by rw [hHc]; unfold hintOf; rw [if_neg h1, if_neg h2]; rfl
    show Calls P (ρ.f 29) _ w fun e w' => e = .returned (.tuple #[.int .i64 (p : Int), .int .i64 (hintCode (hintOf s))]) ∧ w.grownBy w' none
    rw [← hHc]
    rw [← hs] at hK
    have u4 := hK.cell
    clear hHc hraw
    subst hp
    clear hI1 hJ hKK
    go_enter L.f29, BodyGg.n29_ntmps ρ
    go_wp2
    all_goals
      go_ret2
      refine ⟨?_, hgW⟩
      first
        | (have e0 : (s : Int) = 0 := of_beq_int (by assumption)
           rw [hh0 (by omega)]; rfl)
        | (have e1 : (s : Int) = 12 := of_beq_int (by assumption)
           rw [hh12 (by omega)]; rfl)
        | (have e0 : (s : Int) ≠ 0 := of_bne_int (by assumption)
           have e1 : (s : Int) ≠ 12 := of_bne_int (by assumption)
           rw [hhx (by omega) (by omega)]; rfl)
        | (rw [hh0 (by omega)]; rfl)
end Go.Proofs.YtjdobbjdlighpabGreatDoor
namespace Go.Proofs.YtjdobbjdlighpabGreatDoor
open Go.RowKit Go.Maps

theorem hFind_mem_at {l : List Hd} {x : Nat × Int} {k : Nat} (h : hFind l x = some k) : ∃ (hk : k < l.length), (x, l[k].2) ∈ l := by
  obtain ⟨hk, e⟩ := hFind_some h
  refine ⟨hk, ?_⟩
  rw [← e]
  exact List.getElem_mem hk
theorem of_below {w w' : World} {b : Nat} {l : List Hd} (h : idPieces.Of w b l) (hb : Below w.heap.size w w') : idPieces.Of w' b l := h.kept (grown_of_below hb) (by simp)
theorem of_drew {w : World} {b : Nat} {l : List Hd} (h : idPieces.Of w b l) : idPieces.Of w.drew b l := h.kept (grown_drewN w 1) (by simp)
theorem below_drew {n : Nat} {w w' : World} (h : Below n w w') : Below n w w'.drew := h.drew

set_option maxRecDepth 100000 in
set_option maxHeartbeats 4000000 in
theorem pGet_any {a : Nat → Addr} (x : Nat × Int) (p : Addr) (F : Nat → Prop) (l : List Hd) (w : World) (hx : WfID x) (hE : ErrE [4] w a) (hP : PBin0 w p F l) :
    Calls Tryz.prog 96 #[.pointer (some p), idV (x.1 : Nat) x.2] w fun e w' => ∃ ev, e = .returned (.tuple #[.string ⟨(hGet l x).1.toArray⟩, ev]) ∧ ErrIn w.heap.size w' a ev ((hGet l x).2, -1) ∧ Below w.heap.size w w' := by
  obtain ⟨B, b, rfl, hB, hM, hne, rfl⟩ := hP
  have hBl := hB.lt
  have hal := (Below.refl w.heap.size w).alloc (Nat.le_refl _) (.cells #[.int .u32 (x.1 : Nat), .int .i64 x.2] 25)
  have HG : Hid (∀ W', Below w.heap.size w W' → ∀ i, ([4] : List Nat).contains i = true → W'.cell? ⟨errG i, 0, none⟩ = some (sentV a i)) := fun W' hb i hi => (hE.below hb (Nat.le_refl _)).glob i hi
  cases hf : hFind l x with
  | none =>
    have e2 : Hid (hGet l x = ([], 5)) := by show _ = _; unfold hGet; rw [hf]
    have hn := hFind_not hf
    have hl : ∀ W : World, idPieces.Of W b l → (Instr.lookup 149 (.map (some b)) (idV (x.1 : Nat) x.2) true).run Tryz.prog W = .ok (.tuple #[pieceV (0, []), .bool false]) W := fun W h => h.look_none Tryz.underlying149 (pieceZero W) hx hn
    have hI := Blk.new w #[.int .u32 (x.1 : Nat), .int .i64 x.2] 25
    have hB1 := hB.next hal
    have hM1 := of_below hM hal
    go_enter Tryz.func96, Tryz.ntmps96
    go_wp2_with fail
    generalize hW : w.alloc (.cells #[.int .u32 (x.1 : Nat), .int .i64 x.2] 25) = W at *
    have hal2 := (Below.refl W.heap.size W).alloc (Nat.le_refl _) (.cells #[.string ⟨#[]⟩, .int .i64 0] 153)
    have hI2 := hI.next hal2
    have hB2 := hB1.next hal2
    have hM2 := of_below hM1 hal2
    have hP2 := Blk.new W #[.string ⟨#[]⟩, .int .i64 0] 153
    have hbw : Below w.heap.size w (W.alloc (.cells #[.string ⟨#[]⟩, .int .i64 0] 153)) := hal.trans (hal2.mono hal.size)
    have x0 := hI.cell (i := 0) rfl
    have x1 := hI.cell (i := 1) rfl
    have q0 := hB1.cell (i := 0) rfl
    have y0 := hI2.cell (i := 0) rfl
    have y1 := hI2.cell (i := 1) rfl
    have r0 := hB2.cell (i := 0) rfl
    have p0 := hP2.cell (i := 0) rfl
    have p1 := hP2.cell (i := 1) rfl
    have f0 := hP2.frozen 0
    have f1 := hP2.frozen 1
    have l1 := hl W.drew (of_drew hM1)
    have l2 := hl (W.alloc (.cells #[.string ⟨#[]⟩, .int .i64 0] 153)).drew (of_drew hM2)
    go_region
    all_goals
      go_wp2_with fail
      have hb3 := below_drew hbw
      have g4 : (W.alloc (.cells #[.string ⟨#[]⟩, .int .i64 0] 153)).drew.cell? ⟨0, 0, none⟩ = some (sentV a 4) := HG.out _ hb3 4 (by decide)
      generalize (W.alloc (.cells #[.string ⟨#[]⟩, .int .i64 0] 153)).drew = W3 at *
      go_region
      all_goals
        go_wp2_with fail
        go_ret2
        exact ⟨_, by rw [e2.out]; rfl, by rw [e2.out]; exact errIn_sent _ _ a 4 (by decide) rfl, below_drew hb3⟩
  | some k =>
    obtain ⟨hk, hm⟩ := hFind_mem_at hf
    have e2 : Hid (hGet l x = (l[k].2.2, 0)) := by show _ = _; unfold hGet; rw [hf]; simp [List.getElem?_eq_getElem hk]
    obtain ⟨⟨u, t⟩, hc⟩ : ∃ c, l[k].2 = c := ⟨_, rfl⟩
    rw [hc] at hm e2
    clear hc
    have hl : ∀ W : World, idPieces.Of W b l → (Instr.lookup 149 (.map (some b)) (idV (x.1 : Nat) x.2) true).run Tryz.prog W = .ok (.tuple #[pieceV (u, t), .bool true]) W := fun W h => h.look_some Tryz.underlying149 (pieceZero W) hm
    have hI := Blk.new w #[.int .u32 (x.1 : Nat), .int .i64 x.2] 25
    have hB1 := hB.next hal
    have hM1 := of_below hM hal
    go_enter Tryz.func96, Tryz.ntmps96
    go_wp2_with fail
    generalize hW : w.alloc (.cells #[.int .u32 (x.1 : Nat), .int .i64 x.2] 25) = W at *
    have hal2 := (Below.refl W.heap.size W).alloc (Nat.le_refl _) (.cells #[.string ⟨#[]⟩, .int .i64 0] 153)
    have hI2 := hI.next hal2
    have hB2 := hB1.next hal2
    have hM2 := of_below hM1 hal2
    have hP2 := Blk.new W #[.string ⟨#[]⟩, .int .i64 0] 153
    have hbw : Below w.heap.size w (W.alloc (.cells #[.string ⟨#[]⟩, .int .i64 0] 153)) := hal.trans (hal2.mono hal.size)
    have x0 := hI.cell (i := 0) rfl
    have x1 := hI.cell (i := 1) rfl
    have q0 := hB1.cell (i := 0) rfl
    have y0 := hI2.cell (i := 0) rfl
    have y1 := hI2.cell (i := 1) rfl
    have r0 := hB2.cell (i := 0) rfl
    have p0 := hP2.cell (i := 0) rfl
    have p1 := hP2.cell (i := 1) rfl
    have f0 := hP2.frozen 0
    have f1 := hP2.frozen 1
    have l1 := hl W.drew (of_drew hM1)
    have l2 := hl (W.alloc (.cells #[.string ⟨#[]⟩, .int .i64 0] 153)).drew (of_drew hM2)
    go_region
    all_goals
      have hal3 := (Below.refl W.heap.size W).alloc (Nat.le_refl _) (.cells #[.string ⟨t.toArray⟩, .int .i64 u] 153)
      have hP3 := Blk.new W #[.string ⟨t.toArray⟩, .int .i64 u] 153
      have hb3 := below_drew (hal.trans (hal3.mono hal.size))
      have t0 : (W.alloc (.cells #[.string ⟨t.toArray⟩, .int .i64 u] 153)).drew.cell? ⟨W.heap.size, 0, none⟩ = _ := hP3.cell (i := 0) rfl
      generalize (W.alloc (.cells #[.string ⟨t.toArray⟩, .int .i64 u] 153)).drew = W3 at *
      go_wp2_with fail
      go_ret2
      exact ⟨_, by rw [e2.out]; rfl, by rw [e2.out]; exact .inl ⟨rfl, rfl⟩, hb3⟩
end Go.Proofs.YtjdobbjdlighpabGreatDoor
namespace Go.Proofs.YtjdobbjdlighpabGreatDoor
open Go.RowKit Go.Maps

/- A recipe as a map holds it: name, length, print, the IDs' slice. -/
abbrev Rw := List UInt8 × Int × Int × Value
abbrev rwV (c : Rw) : Value := rcpV ⟨c.1.toArray⟩ c.2.1 c.2.2.1 c.2.2.2
def unRw : Value → Option Rw
  | .agg cs => match cs.toList with
    | [.string s, .int .i64 l, .int .u32 p, v] => some (s.data.toList, l, p, v)
    | _ => none
  | _ => none
theorem unRw_back (v : Value) (c : Rw) (h : unRw v = some c) : v = rwV c := by
  unfold unRw at h
  split at h
  next cs =>
    split at h
    next s l p v e =>
      cases h
      have : cs = #[Value.string s, Value.int .i64 l, Value.int .u32 p, v] := by rw [← Array.toArray_toList (xs := cs), e]
      rw [this]
    next => cases h
  next => cases h
theorem strKeyed : Keyed Tryz.prog 9 := string_keyed Tryz.underlying9
theorem strKey_eq (v : Value) : keyOf Tryz.prog 9 v = mapKey Tryz.prog 9 v := by
  unfold keyOf
  rw [Tryz.underlying9]
def WfNm (x : List UInt8) : Prop := x.length ≤ maxLen
set_option maxRecDepth 100000 in
theorem strKey (x : List UInt8) (hx : WfNm x) : ∃ kl, keyOf Tryz.prog 9 (.string ⟨x.toArray⟩) = some kl := by
  refine ⟨.string x, ?_⟩
  rw [strKey_eq]
  unfold mapKey
  rw [Tryz.underlying9]
  have h1 : x.toArray.size = x.length := List.size_toArray
  have : (⟨x.toArray⟩ : ByteArray).size ≤ maxLen := by show x.toArray.size ≤ maxLen; rw [h1]; exact hx
  simp only [this, if_true]
set_option maxRecDepth 100000 in
theorem strInv (v : Value) (kl : Lit) (h : keyOf Tryz.prog 9 v = some kl) : ∃ x : List UInt8, WfNm x ∧ v = .string ⟨x.toArray⟩ := by
  rw [strKey_eq] at h
  unfold mapKey at h
  rw [Tryz.underlying9] at h
  cases v <;> simp only [reduceCtorEq] at h
  next s =>
    split at h
    · rename_i hs
      exact ⟨s.data.toList, by show s.data.toList.length ≤ maxLen; rw [Array.length_toList]; exact hs, rfl⟩
    · cases h
def strRcps : MapKit Tryz.prog 9 (List UInt8) Rw where
  mkK x := .string ⟨x.toArray⟩
  wf := WfNm
  mkV := rwV
  unV := unRw
  K := strKeyed
  key := strKey
  inv := strInv
  inj x y e := by
    have e1 : (⟨x.toArray⟩ : ByteArray) = ⟨y.toArray⟩ := Value.string.inj e
    have e2 := congrArg (fun b : ByteArray => b.data.toList) e1
    simpa using e2
  un _ := rfl
  back := unRw_back

def unPtr : Value → Option (Option Addr)
  | .pointer p => some p
  | _ => none
def idBins : MapKit Tryz.prog 25 (Nat × Int) (Option Addr) where
  mkK x := idV (x.1 : Nat) x.2
  wf := WfID
  mkV p := .pointer p
  unV := unPtr
  K := idKeyed
  key := idKey
  inv := idInv
  inj x y e := by
    have e1 := Array.mk.inj (Value.agg.inj e)
    simp at e1
    exact Prod.ext (by omega) e1.2
  un _ := rfl
  back v c h := by
    unfold unPtr at h
    split at h
    · cases h; rfl
    · cases h
theorem ptrZero (w : World) : (zeroValue 47).run Tryz.prog w = .ok (.pointer none) w := by kernel_rfl
theorem rcpZero (w : World) : (zeroValue 40).run Tryz.prog w = .ok (rwV ([], 0, 0, .slice none 0 0)) w := by kernel_rfl
theorem ofS_drew {w : World} {b : Nat} {l : List (List UInt8 × Rw)} (h : strRcps.Of w b l) : strRcps.Of w.drew b l := h.kept (grown_drewN w 1) (by simp)
theorem ofS_below {w w' : World} {b : Nat} {l : List (List UInt8 × Rw)} (h : strRcps.Of w b l) (hb : Below w.heap.size w w') : strRcps.Of w' b l := h.kept (grown_of_below hb) (by simp)
theorem ofB_drew {w : World} {b : Nat} {l : List ((Nat × Int) × Option Addr)} (h : idBins.Of w b l) : idBins.Of w.drew b l := h.kept (grown_drewN w 1) (by simp)
theorem ofB_below {w w' : World} {b : Nat} {l : List ((Nat × Int) × Option Addr)} (h : idBins.Of w b l) (hb : Below w.heap.size w w') : idBins.Of w' b l := h.kept (grown_of_below hb) (by simp)
end Go.Proofs.YtjdobbjdlighpabGreatDoor
