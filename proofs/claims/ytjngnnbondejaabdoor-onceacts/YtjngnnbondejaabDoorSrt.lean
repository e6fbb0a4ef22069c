/-
  Own text. sort.Slice where 'less' may lay blocks of its own (it calls a function that takes structs): what 'less' and 'swap' must do (Srt), over any predicate on a world and what the row holds there; worlds on the way (SrtAt); insertionSort_func.
-/
import Derived.Shelf.SlSortFuncK.WholeK
import Derived.Maps.RangeWalk
namespace Go.Proofs.YtjngnnbondejaabDoor
open Go.Shelf Go.RowKit Go.Lib Go.Sort
variable {P : Program} {ρ : Ren} {α : Type}

structure Srt [Inhabited α] (P : Program) (lt : α → α → Bool) (g : Nat) (lb : Array Value) (sf : Nat) (sb : Array Value) (blk n n0 : Nat) (I : World → Array α → Prop) : Prop where
  eg : ∀ args w, (callFunc g args).run P w = .ok (.enter g args) w
  blt : ∀ {W : World} {d : Array α}, I W d → blk < W.heap.size
  size : ∀ {W : World} {d : Array α}, I W d → d.size = n
  keep : ∀ {W W' : World} {d : Array α}, I W d → W.grownBy W' none → I W' d
  le : ∀ {W : World} {d : Array α}, I W d → n0 ≤ W.heap.size
  keepAt : ∀ {W W' : World} {d : Array α} {c : Nat}, I W d → n0 ≤ c → W.grownBy W' (some c) → I W' d
  less : ∀ {W : World} {d : Array α} (x y : Int) (i j : Nat), x = (i : Int) → y = (j : Int) → I W d → i < n → j < n → Calls P g (#[.int .i64 x, .int .i64 y] ++ lb) W fun e w' => e = .returned (.bool (lt d[i]! d[j]!)) ∧ W.grownBy w' none
  swap : ∀ {W : World} {d : Array α} (x y : Int) (i j : Nat), x = (i : Int) → y = (j : Int) → I W d → i < n → j < n → ∃ W', (callFunc sf (#[.int .i64 x, .int .i64 y] ++ sb)).run P W = .ok (.value (.tuple #[])) W' ∧ I W' (swp d i j) ∧ W.grownBy W' (some blk)

/- Since w0 only new blocks were laid and the row was turned; it holds d. -/
structure SrtAt (I : World → Array α → Prop) (blk : Nat) (w0 W : World) (d : Array α) : Prop where
  inv : I W d
  grown : w0.grownBy W (some blk)
theorem SrtAt.start {I : World → Array α → Prop} {blk : Nat} {w : World} {d : Array α} (h : I w d) : SrtAt I blk w w d := ⟨h, ⟨rfl, rfl, rfl, Nat.le_refl _, fun _ _ _ => rfl⟩⟩
variable {lt : α → α → Bool} {g : Nat} {lb : Array Value} {sf : Nat} {sb : Array Value} {blk n n0 : Nat} {I : World → Array α → Prop} {w0 W W' : World} {d d' : Array α}
theorem SrtAt.grow [Inhabited α] (S : Srt P lt g lb sf sb blk n n0 I) (h : SrtAt I blk w0 W d) (hg : W.grownBy W' none) : SrtAt I blk w0 W' d := ⟨S.keep h.inv hg, h.grown.andThen hg (fun j hj => by cases hj)⟩
theorem SrtAt.turn (h : SrtAt I blk w0 W d) (hi : I W' d') (hg : W.grownBy W' (some blk)) : SrtAt I blk w0 W' d' := ⟨hi, h.grown.andThen hg (fun _ hj => .inr hj)⟩
theorem grown_drewN (w : World) (q : Nat) : w.grownBy (w.drewN q) none := ⟨rfl, rfl, rfl, Nat.le_refl _, fun _ _ _ => rfl⟩
theorem SrtAt.drewN [Inhabited α] (S : Srt P lt g lb sf sb blk n n0 I) (h : SrtAt I blk w0 W d) (q : Nat) : SrtAt I blk w0 (W.drewN q) d := h.grow S (grown_drewN W q)
theorem SrtAt.alloc [Inhabited α] (S : Srt P lt g lb sf sb blk n n0 I) (h : SrtAt I blk w0 W d) (o : Obj) : SrtAt I blk w0 (W.alloc o) d := h.grow S (World.grownBy_alloc W o none)
/- What a block that is not the row's holds. -/
theorem SrtAt.cell (h : SrtAt I blk w0 W d) {a : Addr} {v : Value} (h0 : w0.cell? a = some v) (ha : a.block ≠ blk) (hl : a.block < w0.heap.size) : W.cell? a = some v :=
  (World.cell?_of_block (w := w0) (h.grown.block _ hl (fun e => ha (Option.some.inj e)))).trans h0
theorem SrtAt.box {w : World} {x y : Value} {t : TypeId} (h : SrtAt I blk (w.alloc (.cells #[x, y] t)) W d) (hb : blk < w.heap.size) : W.cell? ⟨w.heap.size, 0, none⟩ = some x ∧ W.cell? ⟨w.heap.size, 1, none⟩ = some y :=
  ⟨h.cell (by simp) (by show w.heap.size ≠ blk; omega) (by simp), h.cell (by simp) (by show w.heap.size ≠ blk; omega) (by simp)⟩
theorem SrtAt.off {w : World} {o : Obj} (h : SrtAt I blk (w.alloc o) W d) : w.grownBy W (some blk) := (World.grownBy_alloc w o (some blk)).andThen h.grown (fun _ hj => .inr hj)

set_option maxHeartbeats 2000000 in
set_option maxRecDepth 100000 in
theorem srt_insertion [Inhabited α] (L : LaysGg.n26 P ρ) (S : Srt P lt g lb sf sb blk n n0 I) (a b : Nat) (d : Array α) (w : World) (hI : I w d) (hab : a ≤ b) (hb : b ≤ n) (hsz : n < 4611686018427387904) :
    Calls P (ρ.f 26) #[.agg #[.func (.func g) #[] lb, .func (.func sf) #[] sb], .int .i64 a, .int .i64 b] w fun e w' => e = .returned (.tuple #[]) ∧ I w' (Sort.insertionSort lt d a b) ∧ w.grownBy w' (some blk) := by
  have mixed := L.mixed; have t0 := L.t0; have a0 := L.a0; have z0 := L.z0; have v0 := L.v0; have t3 := L.t3; have a3 := L.a3; have z3 := L.z3; have v3 := L.v3; have t4 := L.t4; have a4 := L.a4; have z4 := L.z4; have v4 := L.v4; have t26 := L.t26; have a26 := L.a26; have z26 := L.z26; have v26 := L.v26; have t37 := L.t37; have a37 := L.a37; have z37 := L.z37; have v37 := L.v37; have t44 := L.t44; have a44 := L.a44; have z44 := L.z44; have v44 := L.v44
  have u44 := run_underlying L.t44
  have eg := S.eg
  have hblk := S.blt hI
  have A0 : SrtAt I blk (w.alloc (.cells #[.func (.func g) #[] lb, .func (.func sf) #[] sb] (ρ.t 44))) (w.alloc (.cells #[.func (.func g) #[] lb, .func (.func sf) #[] sb] (ρ.t 44))) d := .start (S.keep hI (World.grownBy_alloc w _ none))
  go_enter L.f26, BodyGg.n26_ntmps ρ
  go_wp2
  go_loopw [6] (fun vi wr => ∃ (i : Nat) (dk : Array α), vi = .int .i64 i ∧ a < i ∧ i ≤ b + 1 ∧ SrtAt I blk (w.alloc (.cells #[.func (.func g) #[] lb, .func (.func sf) #[] sb] (ρ.t 44))) wr dk ∧ Hid (insOuter lt a b i dk = insOuter lt a b (a + 1) d)) (fun vi _ => b + 1 - (intOf vi).toNat)
  case atStart => exact ⟨a + 1, d, by go_num, by omega, by omega, A0, rfl⟩
  case round =>
    obtain ⟨i, dk, rfl, hai, hib, hA, HO⟩ := hrel
    go_wp2
    · go_loopw [7] (fun vj wr2 => ∃ (j : Nat) (dj : Array α), vj = .int .i64 j ∧ a ≤ j ∧ j ≤ i ∧ SrtAt I blk (w.alloc (.cells #[.func (.func g) #[] lb, .func (.func sf) #[] sb] (ρ.t 44))) wr2 dj ∧ Hid (insInner lt a j dj = insInner lt a i dk)) (fun vj _ => (intOf vj).toNat)
      case atStart => exact ⟨i, dk, rfl, by omega, Nat.le_refl _, hA, rfl⟩
      case round =>
        clear hA
        obtain ⟨j, dj, rfl, haj, hji, hA, HI⟩ := hrel
        have hlt : i < b := by assumption
        obtain ⟨c0, _⟩ := hA.box hblk
        have OUT : (j ≤ a ∨ lt dj[j]! dj[j - 1]! = false) → ∀ W, SrtAt I blk (w.alloc (.cells #[.func (.func g) #[] lb, .func (.func sf) #[] sb] (ρ.t 44))) W dj → ∃ (i' : Nat) (dk' : Array α), Value.int .i64 ((i : Int) + 1) = .int .i64 i' ∧ a < i' ∧ i' ≤ b + 1 ∧ SrtAt I blk (w.alloc (.cells #[.func (.func g) #[] lb, .func (.func sf) #[] sb] (ρ.t 44))) W dk' ∧ Hid (insOuter lt a b i' dk' = insOuter lt a b (a + 1) d) := fun hs W hW =>
          ⟨i + 1, dj, by go_num, by omega, by omega, hW, (show Hid _ from by rw [← HO.out, insOuter_go _ _ _ _ _ hlt, ← HI.out, insInner_stop _ _ _ _ hs]; exact rfl)⟩
        have OUT : Aside _ := OUT
        by_cases hja : a < j
        · have hl := S.less (j : Int) ((j : Int) - 1) j (j - 1) rfl (by omega) hA.inv (by omega) (by omega)
          cases hlv : lt dj[j]! dj[j - 1]! with
          | true =>
            rw [hlv] at hl
            go_wp2_with (go_at_fn g; refine hl.mono ?_; rintro e w1 ⟨rfl, hg1⟩; have hA1 := hA.grow S hg1; obtain ⟨_, c1⟩ := hA1.box hblk; obtain ⟨w2, hs, hI2, hg2⟩ := S.swap (j : Int) ((j : Int) - 1) j (j - 1) rfl (by omega) hA1.inv (by omega) (by omega))
            go_roundw
            case rel =>
              (repeat apply Exists.intro)
              exact ⟨⟨j - 1, swp dj j (j - 1), by congr 1 <;> omega, by omega, by omega, hA1.turn hI2 hg2, (show Hid _ from by rw [← HI.out, insInner_go lt a j dj hja hlv]; exact rfl)⟩, by rw [decide_eq_true hlt, show ((j - 1 : Nat) : Int) = (j : Int) - 1 by omega]⟩
            case measure => simp [intOf]; omega
          | false =>
            rw [hlv] at hl
            go_wp2_with (go_at_fn g; refine hl.mono ?_; rintro e w1 ⟨rfl, hg1⟩; have hA1 := hA.grow S hg1)
            go_roundw
            case rel => exact OUT.out (Or.inr hlv) _ hA1
            case measure => simp [intOf]; omega
        · go_wp2
          go_roundw
          case rel => exact OUT.out (Or.inl (by omega)) _ hA
          case measure => simp [intOf]; omega
    · have hge : ¬ i < b := by assumption
      go_end0
      exact ⟨rfl, by unfold Sort.insertionSort; rw [← HO.out, insOuter_stop _ _ _ _ _ hge]; exact hA.inv, hA.off⟩
end Go.Proofs.YtjngnnbondejaabDoor
