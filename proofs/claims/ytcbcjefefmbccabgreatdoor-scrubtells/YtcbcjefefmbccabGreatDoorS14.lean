/-
  Own text. sort.Slice where 'less' may lay blocks: reverseRange_func, siftDown_func, heapSort_func.
  Own text. sort.Slice where 'less' may lay blocks: partitionEqual_func, partition_func.
  Own text. sort.Slice where 'less' may lay blocks: breakPatterns_func.
-/
import Derived.Test.YtcbcjefefmbccabGreatDoorS04
namespace Go.Proofs.YtcbcjefefmbccabGreatDoor
open Go.Shelf Go.RowKit Go.Lib Go.Sort
variable {P : Program} {ρ : Ren} {α : Type} [Inhabited α] {lt : α → α → Bool} {g : Nat} {lb : Array Value} {sf : Nat} {sb : Array Value} {blk n n0 : Nat} {I : World → Array α → Prop}

set_option maxHeartbeats 2000000 in
set_option maxRecDepth 100000 in
theorem srt_reverse (L : LaysGg.n30 P ρ) (S : Srt P lt g lb sf sb blk n n0 I) (a b : Nat) (d : Array α) (w : World) (hI : I w d) (hab : a ≤ b) (hb : b ≤ n) (hsz : n < 4611686018427387904) :
    Calls P (ρ.f 30) #[.agg #[.func (.func g) #[] lb, .func (.func sf) #[] sb], .int .i64 a, .int .i64 b] w fun e w' => e = .returned (.tuple #[]) ∧ I w' (reverseRange d a b) ∧ w.grownBy w' (some blk) := by
  have mixed := L.mixed; have t0 := L.t0; have a0 := L.a0; have z0 := L.z0; have v0 := L.v0; have t3 := L.t3; have a3 := L.a3; have z3 := L.z3; have v3 := L.v3; have t4 := L.t4; have a4 := L.a4; have z4 := L.z4; have v4 := L.v4; have t26 := L.t26; have a26 := L.a26; have z26 := L.z26; have v26 := L.v26; have t37 := L.t37; have a37 := L.a37; have z37 := L.z37; have v37 := L.v37; have t44 := L.t44; have a44 := L.a44; have z44 := L.z44; have v44 := L.v44
  have u44 := run_underlying L.t44
  have hblk := S.blt hI
  have A0 : SrtAt I blk (w.alloc (.cells #[.func (.func g) #[] lb, .func (.func sf) #[] sb] (ρ.t 44))) (w.alloc (.cells #[.func (.func g) #[] lb, .func (.func sf) #[] sb] (ρ.t 44))) d := .start (S.keep hI (World.grownBy_alloc w _ none))
  go_enter L.f30, BodyGg.n30_ntmps ρ
  go_wp2
  go_loopg [6, 7] (b - a) (fun kx s6 s7 wr => ∃ (i jn : Nat) (jz : Int) (dk : Array α), s6 = .int .i64 i ∧ s7 = .int .i64 jz ∧ ((i : Int) < jz → jz = jn ∧ jn < n) ∧ (¬ (i : Int) < jz → ¬ i < jn) ∧ jn - i ≤ kx ∧ SrtAt I blk (w.alloc (.cells #[.func (.func g) #[] lb, .func (.func sf) #[] sb] (ρ.t 44))) wr dk ∧ Hid (reverseLoop i jn dk = reverseLoop a (b - 1) d))
  case atStart => exact ⟨a, b - 1, (b : Int) - 1, d, rfl, rfl, fun h => ⟨by omega, by omega⟩, fun h => by omega, by omega, A0, rfl⟩
  case round =>
    obtain ⟨i, jn, jz, dk, rfl, rfl, h1, h2, hkx, hA, HE⟩ := hrel
    by_cases hlt : (i : Int) < jz
    · obtain ⟨rfl, hjn⟩ := h1 hlt
      have hij : i < jn := by omega
      obtain ⟨_, c1⟩ := hA.box hblk
      obtain ⟨w2, hs, hI2, hg2⟩ := S.swap (i : Int) (jn : Int) i jn rfl rfl hA.inv (by omega) (by omega)
      clear h1 h2
      go_wp2
      go_roundg (jn - 1 - (i + 1))
      case measure => omega
      case rel =>
        have heq := HE.out
        rw [reverseLoop, if_pos hij] at heq
        exact ⟨i + 1, jn - 1, (jn : Int) - 1, swp dk i jn, by simp, rfl, fun h => ⟨by omega, by omega⟩, fun h => by omega, Nat.le_refl _, hA.turn hI2 hg2, heq⟩
    · have hnot := h2 hlt
      go_wp2
      go_end0
      have heq := HE.out
      rw [reverseLoop, if_neg hnot] at heq
      exact ⟨rfl, by rw [reverseRange, ← heq]; exact hA.inv, hA.off⟩

set_option maxHeartbeats 4000000 in
set_option maxRecDepth 1000000 in
theorem srt_sift (L : LaysGg.n34 P ρ) (S : Srt P lt g lb sf sb blk n n0 I) (lo hi first : Nat) (d : Array α) (w : World) (hI : I w d) (hlo : lo ≤ hi) (hb : first + hi ≤ n) (hsz : n < 4611686018427387904) :
    Calls P (ρ.f 34) #[.agg #[.func (.func g) #[] lb, .func (.func sf) #[] sb], .int .i64 lo, .int .i64 hi, .int .i64 first] w fun e w' => e = .returned (.tuple #[]) ∧ I w' (siftDown lt hi first lo d) ∧ w.grownBy w' (some blk) := by
  have mixed := L.mixed; have t0 := L.t0; have a0 := L.a0; have z0 := L.z0; have v0 := L.v0; have t3 := L.t3; have a3 := L.a3; have z3 := L.z3; have v3 := L.v3; have t4 := L.t4; have a4 := L.a4; have z4 := L.z4; have v4 := L.v4; have t26 := L.t26; have a26 := L.a26; have z26 := L.z26; have v26 := L.v26; have t37 := L.t37; have a37 := L.a37; have z37 := L.z37; have v37 := L.v37; have t44 := L.t44; have a44 := L.a44; have z44 := L.z44; have v44 := L.v44
  have u44 := run_underlying L.t44
  have eg := S.eg
  have hblk := S.blt hI
  have A0 : SrtAt I blk (w.alloc (.cells #[.func (.func g) #[] lb, .func (.func sf) #[] sb] (ρ.t 44))) (w.alloc (.cells #[.func (.func g) #[] lb, .func (.func sf) #[] sb] (ρ.t 44))) d := .start (S.keep hI (World.grownBy_alloc w _ none))
  go_enter L.f34, BodyGg.n34_ntmps ρ
  go_wp2
  go_loopg [8] (hi - lo) (fun kx s8 wr => ∃ (root : Nat) (dk : Array α), s8 = .int .i64 root ∧ root ≤ hi ∧ hi - root ≤ kx ∧ SrtAt I blk (w.alloc (.cells #[.func (.func g) #[] lb, .func (.func sf) #[] sb] (ρ.t 44))) wr dk ∧ Hid (siftDown lt hi first root dk = siftDown lt hi first lo d))
  case atStart => exact ⟨lo, d, rfl, hlo, Nat.le_refl _, A0, rfl⟩
  case round =>
    obtain ⟨root, dk, rfl, hr, hkx, hA, HE⟩ := hrel
    obtain ⟨c0, _⟩ := hA.box hblk
    by_cases h0 : hi ≤ 2 * root + 1
    · have h0z : (hi : Int) ≤ 2 * (root : Int) + 1 := by omega
      go_wp2
      go_end0
      exact ⟨rfl, by rw [← HE.out, sd_end lt dk h0]; exact hA.inv, hA.off⟩
    · have h0z : ¬ ((hi : Int) ≤ 2 * (root : Int) + 1) := by omega
      by_cases h1 : 2 * root + 2 < hi
      · have h1z : 2 * (root : Int) + 1 + 1 < (hi : Int) := by omega
        have hl1 := S.less ((first : Int) + (2 * (root : Int) + 1)) ((first : Int) + (2 * (root : Int) + 1) + 1) (first + (2 * root + 1)) (first + (2 * root + 2)) (by omega) (by omega) hA.inv (by omega) (by omega)
        cases hL : lt dk[first + (2 * root + 1)]! dk[first + (2 * root + 2)]! with
        | true =>
          rw [hL] at hl1
          have tok : True := trivial
          cases hG : lt dk[first + root]! dk[first + (2 * root + 2)]! with
          | true =>
            go_wp2_with (first
              | (go_at_fn g; have _t := tok; refine hl1.mono ?_; rintro e w1 ⟨rfl, hg1⟩; clear tok; have hA1 := hA.grow S hg1; obtain ⟨c01, _⟩ := hA1.box hblk; have hl2 := S.less ((first : Int) + (root : Int)) ((first : Int) + (2 * (root : Int) + 1 + 1)) (first + root) (first + (2 * root + 2)) (by omega) (by omega) hA1.inv (by omega) (by omega); rw [hG] at hl2)
              | (go_at_fn g; refine hl2.mono ?_; rintro e w2 ⟨rfl, hg2⟩; have hA2 := hA1.grow S hg2; obtain ⟨_, c12⟩ := hA2.box hblk; obtain ⟨w3, hs, hI3, hg3⟩ := S.swap ((first : Int) + (root : Int)) ((first : Int) + (2 * (root : Int) + 1 + 1)) (first + root) (first + (2 * root + 2)) (by omega) (by omega) hA2.inv (by omega) (by omega)))
            go_roundg (hi - (2 * root + 2))
            case measure => omega
            case rel => exact ⟨2 * root + 2, swp dk (first + root) (first + (2 * root + 2)), by go_num, by omega, Nat.le_refl _, hA2.turn hI3 hg3, (show Hid _ from by rw [← HE.out, sd_right_go lt dk h1 hL hG]; exact rfl)⟩
          | false =>
            go_wp2_with (first
              | (go_at_fn g; have _t := tok; refine hl1.mono ?_; rintro e w1 ⟨rfl, hg1⟩; clear tok; have hA1 := hA.grow S hg1; obtain ⟨c01, _⟩ := hA1.box hblk; have hl2 := S.less ((first : Int) + (root : Int)) ((first : Int) + (2 * (root : Int) + 1 + 1)) (first + root) (first + (2 * root + 2)) (by omega) (by omega) hA1.inv (by omega) (by omega); rw [hG] at hl2)
              | (go_at_fn g; refine hl2.mono ?_; rintro e w2 ⟨rfl, hg2⟩; have hA2 := hA1.grow S hg2))
            (try simp only [Exit.inBlock, Exit.then]); refine bodyPost_ret (results_none rfl _ _ _) rfl ?_
            exact ⟨rfl, by rw [← HE.out, sd_right_stop lt dk h1 hL hG]; exact hA2.inv, hA2.off⟩
        | false =>
          rw [hL] at hl1
          have tok : True := trivial
          cases hG : lt dk[first + root]! dk[first + (2 * root + 1)]! with
          | true =>
            go_wp2_with (first
              | (go_at_fn g; have _t := tok; refine hl1.mono ?_; rintro e w1 ⟨rfl, hg1⟩; clear tok; have hA1 := hA.grow S hg1; obtain ⟨c01, _⟩ := hA1.box hblk; have hl2 := S.less ((first : Int) + (root : Int)) ((first : Int) + (2 * (root : Int) + 1)) (first + root) (first + (2 * root + 1)) (by omega) (by omega) hA1.inv (by omega) (by omega); rw [hG] at hl2)
              | (go_at_fn g; refine hl2.mono ?_; rintro e w2 ⟨rfl, hg2⟩; have hA2 := hA1.grow S hg2; obtain ⟨_, c12⟩ := hA2.box hblk; obtain ⟨w3, hs, hI3, hg3⟩ := S.swap ((first : Int) + (root : Int)) ((first : Int) + (2 * (root : Int) + 1)) (first + root) (first + (2 * root + 1)) (by omega) (by omega) hA2.inv (by omega) (by omega)))
            go_roundg (hi - (2 * root + 1))
            case measure => omega
            case rel => exact ⟨2 * root + 1, swp dk (first + root) (first + (2 * root + 1)), by go_num, by omega, Nat.le_refl _, hA2.turn hI3 hg3, (show Hid _ from by rw [← HE.out, sd_left_go lt dk (by omega) (fun _ => hL) hG]; exact rfl)⟩
          | false =>
            go_wp2_with (first
              | (go_at_fn g; have _t := tok; refine hl1.mono ?_; rintro e w1 ⟨rfl, hg1⟩; clear tok; have hA1 := hA.grow S hg1; obtain ⟨c01, _⟩ := hA1.box hblk; have hl2 := S.less ((first : Int) + (root : Int)) ((first : Int) + (2 * (root : Int) + 1)) (first + root) (first + (2 * root + 1)) (by omega) (by omega) hA1.inv (by omega) (by omega); rw [hG] at hl2)
              | (go_at_fn g; refine hl2.mono ?_; rintro e w2 ⟨rfl, hg2⟩; have hA2 := hA1.grow S hg2))
            (try simp only [Exit.inBlock, Exit.then]); refine bodyPost_ret (results_none rfl _ _ _) rfl ?_
            exact ⟨rfl, by rw [← HE.out, sd_left_stop lt dk (by omega) (fun _ => hL) hG]; exact hA2.inv, hA2.off⟩
      · have h1z : ¬ (2 * (root : Int) + 1 + 1 < (hi : Int)) := by omega
        have hl2 := S.less ((first : Int) + (root : Int)) ((first : Int) + (2 * (root : Int) + 1)) (first + root) (first + (2 * root + 1)) (by omega) (by omega) hA.inv (by omega) (by omega)
        cases hG : lt dk[first + root]! dk[first + (2 * root + 1)]! with
        | true =>
          rw [hG] at hl2
          go_wp2_with (go_at_fn g; refine hl2.mono ?_; rintro e w2 ⟨rfl, hg2⟩; have hA2 := hA.grow S hg2; obtain ⟨_, c12⟩ := hA2.box hblk; obtain ⟨w3, hs, hI3, hg3⟩ := S.swap ((first : Int) + (root : Int)) ((first : Int) + (2 * (root : Int) + 1)) (first + root) (first + (2 * root + 1)) (by omega) (by omega) hA2.inv (by omega) (by omega))
          go_roundg (hi - (2 * root + 1))
          case measure => omega
          case rel => exact ⟨2 * root + 1, swp dk (first + root) (first + (2 * root + 1)), by go_num, by omega, Nat.le_refl _, hA2.turn hI3 hg3, (show Hid _ from by rw [← HE.out, sd_left_go lt dk (by omega) (fun h => absurd h h1) hG]; exact rfl)⟩
        | false =>
          rw [hG] at hl2
          go_wp2_with (go_at_fn g; refine hl2.mono ?_; rintro e w2 ⟨rfl, hg2⟩; have hA2 := hA.grow S hg2)
          (try simp only [Exit.inBlock, Exit.then]); refine bodyPost_ret (results_none rfl _ _ _) rfl ?_
          exact ⟨rfl, by rw [← HE.out, sd_left_stop lt dk (by omega) (fun h => absurd h h1) hG]; exact hA2.inv, hA2.off⟩

set_option maxHeartbeats 4000000 in
set_option maxRecDepth 1000000 in
theorem srt_heap (L : LaysGg.n27 P ρ) (S : Srt P lt g lb sf sb blk n n0 I) (a b : Nat) (d : Array α) (w : World) (hI : I w d) (hab : a ≤ b) (hb : b ≤ n) (hsz : n < 4611686018427387904) :
    Calls P (ρ.f 27) #[.agg #[.func (.func g) #[] lb, .func (.func sf) #[] sb], .int .i64 a, .int .i64 b] w fun e w' => e = .returned (.tuple #[]) ∧ I w' (heapSort lt d a b) ∧ w.grownBy w' (some blk) := by
  have mixed := L.mixed; have t0 := L.t0; have a0 := L.a0; have z0 := L.z0; have v0 := L.v0; have t3 := L.t3; have a3 := L.a3; have z3 := L.z3; have v3 := L.v3; have t4 := L.t4; have a4 := L.a4; have z4 := L.z4; have v4 := L.v4; have t26 := L.t26; have a26 := L.a26; have z26 := L.z26; have v26 := L.v26; have t37 := L.t37; have a37 := L.a37; have z37 := L.z37; have v37 := L.v37; have t44 := L.t44; have a44 := L.a44; have z44 := L.z44; have v44 := L.v44
  have u44 := run_underlying L.t44
  have e34 : ∀ args w, (callFunc (ρ.f 34) args).run P w = .ok (.enter (ρ.f 34) args) w := enters_of L.f34 (by kernel_rfl) rfl
  have ecast : ((b - a : Nat) : Int) = (b : Int) - (a : Int) := by omega
  have hblk := S.blt hI
  have A0 : SrtAt I blk (w.alloc (.cells #[.func (.func g) #[] lb, .func (.func sf) #[] sb] (ρ.t 44))) (w.alloc (.cells #[.func (.func g) #[] lb, .func (.func sf) #[] sb] (ρ.t 44))) d := .start (S.keep hI (World.grownBy_alloc w _ none))
  go_enter L.f27, BodyGg.n27_ntmps ρ
  go_wp2
  go_loopg [9] ((b - a - 1) / 2 + 1) (fun kx s9 wr => s9 = .int .i64 ((kx : Int) - 1) ∧ kx ≤ (b - a - 1) / 2 + 1 ∧ ∃ (dk : Array α), SrtAt I blk (w.alloc (.cells #[.func (.func g) #[] lb, .func (.func sf) #[] sb] (ρ.t 44))) wr dk ∧ Hid (heapBuild lt (b - a) a kx dk = heapBuild lt (b - a) a ((b - a - 1) / 2 + 1) d))
  case atStart => exact ⟨by rw [half_start hab], Nat.le_refl _, d, A0, rfl⟩
  case round =>
    obtain ⟨rfl, hkk, dk, hA, HE⟩ := hrel
    obtain ⟨c0, c1⟩ := hA.box hblk
    cases gk with
    | zero =>
      have hB : Hid (dk = heapBuild lt (b - a) a ((b - a - 1) / 2 + 1) d) := HE.out
      clear HE hkk
      go_wp2
      go_loopg [10] (b - a) (fun kx s10 wr2 => s10 = .int .i64 ((kx : Int) - 1) ∧ kx ≤ b - a ∧ ∃ (dj : Array α), SrtAt I blk (w.alloc (.cells #[.func (.func g) #[] lb, .func (.func sf) #[] sb] (ρ.t 44))) wr2 dj ∧ Hid (heapPop lt a kx dj = heapPop lt a (b - a) dk))
      case atStart => exact ⟨by rw [ecast], Nat.le_refl _, dk, hA, rfl⟩
      case round =>
        clear hA c0 c1
        obtain ⟨rfl, hkk, dj, hA, HE2⟩ := hrel
        obtain ⟨c0, c1⟩ := hA.box hblk
        cases gk with
        | zero =>
          go_wp2
          go_end0
          have e : dj = heapSort lt d a b := by rw [heapSort, ← hB.out, ← HE2.out]; rfl
          rw [← e]
          exact ⟨rfl, hA.inv, hA.off⟩
        | succ kx =>
          obtain ⟨w2, hs, hI2, hg2⟩ := S.swap (a : Int) ((a : Int) + (kx : Int)) a (a + kx) rfl (by omega) hA.inv (by omega) (by omega)
          have hA2 := hA.turn hI2 hg2
          obtain ⟨c02, c12⟩ := hA2.box hblk
          have hcall := srt_sift (ρ := ρ) { L with } S 0 kx a (swp dj a (a + kx)) w2 hI2 (Nat.zero_le _) (by omega) hsz
          go_wp2_with (go_at_fn (ρ.f 34); refine hcall.mono ?_; rintro e w3 ⟨rfl, hI3, hg3⟩)
          go_roundg kx
          case measure => omega
          case rel => exact ⟨by simp, by omega, siftDown lt kx a 0 (swp dj a (a + kx)), hA2.turn hI3 hg3, HE2⟩
    | succ kx =>
      have hcall := srt_sift (ρ := ρ) { L with } S kx (b - a) a dk wr hA.inv (by omega) (by omega) hsz
      rw [ecast] at hcall
      go_wp2_with (go_at_fn (ρ.f 34); refine hcall.mono ?_; rintro e w3 ⟨rfl, hI3, hg3⟩)
      go_roundg kx
      case measure => omega
      case rel => exact ⟨by simp, by omega, siftDown lt (b - a) a kx dk, hA.turn hI3 hg3, HE⟩
end Go.Proofs.YtcbcjefefmbccabGreatDoor
namespace Go.Proofs.YtcbcjefefmbccabGreatDoor
open Go.Shelf Go.RowKit Go.Lib Go.Sort
variable {P : Program} {ρ : Ren} {α : Type} [Inhabited α] {lt : α → α → Bool} {g : Nat} {lb : Array Value} {sf : Nat} {sb : Array Value} {blk n n0 : Nat} {I : World → Array α → Prop}
set_option maxHeartbeats 6400000 in
set_option maxRecDepth 100000 in
theorem srt_partEq (L : LaysGg.n32 P ρ) (S : Srt P lt g lb sf sb blk n n0 I) (a b pivot : Nat) (d : Array α) (w : World) (hI : I w d) (hap : a ≤ pivot) (hpb : pivot < b) (hb : b ≤ n) (hsz : n < 4611686018427387904) :
    Calls P (ρ.f 32) #[.agg #[.func (.func g) #[] lb, .func (.func sf) #[] sb], .int .i64 a, .int .i64 b, .int .i64 pivot] w fun e w' => e = .returned (.int .i64 (partitionEqual lt d a b pivot).1) ∧ I w' (partitionEqual lt d a b pivot).2 ∧ w.grownBy w' (some blk) := by
  have mixed := L.mixed; have t0 := L.t0; have a0 := L.a0; have z0 := L.z0; have v0 := L.v0; have t3 := L.t3; have a3 := L.a3; have z3 := L.z3; have v3 := L.v3; have t4 := L.t4; have a4 := L.a4; have z4 := L.z4; have v4 := L.v4; have t26 := L.t26; have a26 := L.a26; have z26 := L.z26; have v26 := L.v26; have t37 := L.t37; have a37 := L.a37; have z37 := L.z37; have v37 := L.v37; have t44 := L.t44; have a44 := L.a44; have z44 := L.z44; have v44 := L.v44
  have u44 := run_underlying L.t44
  have eg := S.eg
  have hblk := S.blt hI
  have A0 : SrtAt I blk (w.alloc (.cells #[.func (.func g) #[] lb, .func (.func sf) #[] sb] (ρ.t 44))) (w.alloc (.cells #[.func (.func g) #[] lb, .func (.func sf) #[] sb] (ρ.t 44))) d := .start (S.keep hI (World.grownBy_alloc w _ none))
  obtain ⟨_, c1⟩ := A0.box hblk
  obtain ⟨w1, hs0, hI1, hg1⟩ := S.swap (a : Int) (pivot : Int) a pivot rfl rfl A0.inv (by omega) (by omega)
  have A1 := A0.turn hI1 hg1
  go_enter L.f32, BodyGg.n32_ntmps ρ
  go_wp2
  clear hs0 c1 A0
  go_loopw [9, 10] (fun vi vj wr => ∃ (i j : Nat) (dk : Array α), vi = .int .i64 i ∧ vj = .int .i64 j ∧ a < i ∧ i ≤ j + 1 ∧ j < b ∧ SrtAt I blk (w.alloc (.cells #[.func (.func g) #[] lb, .func (.func sf) #[] sb] (ρ.t 44))) wr dk ∧ Hid (partEqLoop lt a i j dk = partEqLoop lt a (a + 1) (b - 1) (swp d a pivot))) (fun vi vj _ => (intOf vj).toNat + 1 - (intOf vi).toNat)
  case atStart => exact ⟨a + 1, b - 1, swp d a pivot, by go_num, by go_num, by omega, by omega, by omega, A1, rfl⟩
  case round =>
    clear A1 hI1 hg1
    obtain ⟨i, j, dk, rfl, rfl, hai, hij, hjb, hA0, AE⟩ := hrel
    go_wp2
    go_loopw [9] (fun vi w1 => ∃ (i' : Nat), vi = .int .i64 i' ∧ i ≤ i' ∧ i' ≤ j + 1 ∧ SrtAt I blk (w.alloc (.cells #[.func (.func g) #[] lb, .func (.func sf) #[] sb] (ρ.t 44))) w1 dk ∧ Hid (scanUp (fun x => !lt dk[a]! x) dk j i' = scanUp (fun x => !lt dk[a]! x) dk j i)) (fun vi _ => j + 1 - (intOf vi).toNat)
    case atStart => exact ⟨i, rfl, Nat.le_refl _, hij, hA0, rfl⟩
    case round =>
      clear hA0
      obtain ⟨i', rfl, hii, hij', hA, hsc⟩ := hrel
      obtain ⟨c0, _⟩ := hA.box hblk
      by_cases hle : i' ≤ j
      · have hl := S.less (a : Int) (i' : Int) a i' rfl rfl hA.inv (by omega) (by omega)
        cases hlv : lt dk[a]! dk[i']! with
        | false =>
          rw [hlv] at hl
          go_wp2_with (go_at_fn g; refine hl.mono ?_; rintro e w2 ⟨rfl, hg2⟩; have hA1 := hA.grow S hg2)
          go_roundw
          case rel => exact ⟨i' + 1, by go_num, by omega, by omega, hA1, (scanUp_go (fun x => !lt dk[a]! x) dk j i' hle (by simp [hlv])).symm.trans hsc.out⟩
          case measure => simp [intOf]; omega
        | true =>
          rw [hlv] at hl
          have hi2 : Hid (i' = scanUp (fun x => !lt dk[a]! x) dk j i) := (scanUp_end (fun x => !lt dk[a]! x) dk j i' (Or.inr (by simp [hlv]))).symm.trans hsc.out
          go_wp2_with (go_at_fn g; refine hl.mono ?_; rintro e w2 ⟨rfl, hg2⟩; have hA1 := hA.grow S hg2)
          clear c0 hsc hl hA hg2
          go_loopw [10] (fun vj w2 => ∃ (j' : Nat), vj = .int .i64 j' ∧ j' ≤ j ∧ i' ≤ j' + 1 ∧ SrtAt I blk (w.alloc (.cells #[.func (.func g) #[] lb, .func (.func sf) #[] sb] (ρ.t 44))) w2 dk ∧ Hid (scanDown (fun x => lt dk[a]! x) dk i' j' = scanDown (fun x => lt dk[a]! x) dk i' j)) (fun vj _ => (intOf vj).toNat)
          case atStart => exact ⟨j, rfl, Nat.le_refl _, hij', hA1, rfl⟩
          case round =>
            clear hA1
            obtain ⟨j', rfl, hjj, hij2, hB, hsd⟩ := hrel
            obtain ⟨c0, c1⟩ := hB.box hblk
            by_cases hle2 : i' ≤ j'
            · have hl := S.less (a : Int) (j' : Int) a j' rfl rfl hB.inv (by omega) (by omega)
              cases hlv2 : lt dk[a]! dk[j']! with
              | true =>
                rw [hlv2] at hl
                go_wp2_with (go_at_fn g; refine hl.mono ?_; rintro e w3 ⟨rfl, hg3⟩; have hB1 := hB.grow S hg3)
                go_roundw
                case rel => exact ⟨j' - 1, by go_num, by omega, by omega, hB1, (scanDown_go (fun x => lt dk[a]! x) dk i' j' hle2 (by omega) hlv2).symm.trans hsd.out⟩
                case measure => simp [intOf]; omega
              | false =>
                rw [hlv2] at hl
                have hj2 : Hid (j' = scanDown (fun x => lt dk[a]! x) dk i' j) := (scanDown_end (fun x => lt dk[a]! x) dk i' j' (Or.inr hlv2)).symm.trans hsd.out
                have hlt3 := scans_lt lt a i j dk (by omega) hi2.out hj2.out hle2
                go_wp2_with (go_at_fn g; refine hl.mono ?_; rintro e w3 ⟨rfl, hg3⟩; have hB1 := hB.grow S hg3; obtain ⟨_, c13⟩ := hB1.box hblk; obtain ⟨w4, hs4, hI4, hg4⟩ := S.swap (i' : Int) (j' : Int) i' j' rfl rfl hB1.inv (by omega) (by omega))
                go_roundw
                case rel => exact ⟨i' + 1, j' - 1, swp dk i' j', by go_num, by go_num, by omega, by omega, by omega, hB1.turn hI4 hg4, (show Hid _ from by rw [← AE.out]; exact (partEq_go lt a i j dk hi2.out hj2.out (by omega)).symm)⟩
                case measure => simp [intOf]; omega
            · have hj2 : Hid (j' = scanDown (fun x => lt dk[a]! x) dk i' j) := (scanDown_end (fun x => lt dk[a]! x) dk i' j' (Or.inl hle2)).symm.trans hsd.out
              go_wp2
              go_ret
              have e := partEq_break lt a i j dk hi2.out hj2.out (by omega)
              exact ⟨by unfold partitionEqual; rw [← AE.out, e]; rfl, by unfold partitionEqual; rw [← AE.out, e]; exact hB.inv, hB.off⟩
      · have hi2 : Hid (i' = scanUp (fun x => !lt dk[a]! x) dk j i) := (scanUp_end (fun x => !lt dk[a]! x) dk j i' (Or.inl hle)).symm.trans hsc.out
        go_wp2
        clear c0 hsc
        go_loopw [10] (fun vj w2 => ∃ (j' : Nat), vj = .int .i64 j' ∧ j' ≤ j ∧ i' ≤ j' + 1 ∧ SrtAt I blk (w.alloc (.cells #[.func (.func g) #[] lb, .func (.func sf) #[] sb] (ρ.t 44))) w2 dk ∧ Hid (scanDown (fun x => lt dk[a]! x) dk i' j' = scanDown (fun x => lt dk[a]! x) dk i' j)) (fun vj _ => (intOf vj).toNat)
        case atStart => exact ⟨j, rfl, Nat.le_refl _, hij', hA, rfl⟩
        case round =>
          clear hA
          obtain ⟨j', rfl, hjj, hij2, hB, hsd⟩ := hrel
          obtain ⟨c0, c1⟩ := hB.box hblk
          by_cases hle2 : i' ≤ j'
          · exfalso; omega
          · have hj2 : Hid (j' = scanDown (fun x => lt dk[a]! x) dk i' j) := (scanDown_end (fun x => lt dk[a]! x) dk i' j' (Or.inl hle2)).symm.trans hsd.out
            go_wp2
            go_ret
            have e := partEq_break lt a i j dk hi2.out hj2.out (by omega)
            exact ⟨by unfold partitionEqual; rw [← AE.out, e]; rfl, by unfold partitionEqual; rw [← AE.out, e]; exact hB.inv, hB.off⟩

set_option maxHeartbeats 12800000 in
set_option maxRecDepth 100000 in
theorem srt_part (L : LaysGg.n33 P ρ) (S : Srt P lt g lb sf sb blk n n0 I) (a b pivot : Nat) (d : Array α) (w : World) (hI : I w d) (hap : a ≤ pivot) (hpb : pivot < b) (hb : b ≤ n) (hsz : n < 4611686018427387904) :
    Calls P (ρ.f 33) #[.agg #[.func (.func g) #[] lb, .func (.func sf) #[] sb], .int .i64 a, .int .i64 b, .int .i64 pivot] w fun e w' => e = .returned (.tuple #[.int .i64 (partition lt d a b pivot).1, .bool (partition lt d a b pivot).2.1]) ∧ I w' (partition lt d a b pivot).2.2 ∧ w.grownBy w' (some blk) := by
  have mixed := L.mixed; have t0 := L.t0; have a0 := L.a0; have z0 := L.z0; have v0 := L.v0; have t3 := L.t3; have a3 := L.a3; have z3 := L.z3; have v3 := L.v3; have t4 := L.t4; have a4 := L.a4; have z4 := L.z4; have v4 := L.v4; have t26 := L.t26; have a26 := L.a26; have z26 := L.z26; have v26 := L.v26; have t37 := L.t37; have a37 := L.a37; have z37 := L.z37; have v37 := L.v37; have t44 := L.t44; have a44 := L.a44; have z44 := L.z44; have v44 := L.v44
  have u44 := run_underlying L.t44
  have eg := S.eg
  have hblk := S.blt hI
  have A0 : SrtAt I blk (w.alloc (.cells #[.func (.func g) #[] lb, .func (.func sf) #[] sb] (ρ.t 44))) (w.alloc (.cells #[.func (.func g) #[] lb, .func (.func sf) #[] sb] (ρ.t 44))) d := .start (S.keep hI (World.grownBy_alloc w _ none))
  obtain ⟨_, c1⟩ := A0.box hblk
  obtain ⟨w1, hs0, hI1, hg1⟩ := S.swap (a : Int) (pivot : Int) a pivot rfl rfl A0.inv (by omega) (by omega)
  have hA0 := A0.turn hI1 hg1
  obtain ⟨i, hi⟩ : ∃ i : Nat, i = a + 1 := ⟨_, rfl⟩
  obtain ⟨j, hj⟩ : ∃ j : Nat, j = b - 1 := ⟨_, rfl⟩
  obtain ⟨dk, hdk⟩ : ∃ dk : Array α, dk = swp d a pivot := ⟨_, rfl⟩
  rw [← hdk] at hA0
  have hai : a < i := by omega
  have hij : i ≤ j + 1 := by omega
  have hjb : j < b := by omega
  have Hi : Hid (i = a + 1) := hi
  have Hj : Hid (j = b - 1) := hj
  have Hdk : Hid (dk = swp d a pivot) := hdk
  clear hi hj hdk hI1 hg1
  go_enter L.f33, BodyGg.n33_ntmps ρ
  go_wp2
  rw [show ((a : Int) + 1) = (i : Int) by have := Hi.out; omega, show ((b : Int) - 1) = (j : Int) by have := Hj.out; omega]
  clear hs0 c1 A0
  go_loopw [10] (fun vi w1 => ∃ (i' : Nat), vi = .int .i64 i' ∧ i ≤ i' ∧ i' ≤ j + 1 ∧ SrtAt I blk (w.alloc (.cells #[.func (.func g) #[] lb, .func (.func sf) #[] sb] (ρ.t 44))) w1 dk ∧ Hid (scanUp (fun x => lt x dk[a]!) dk j i' = scanUp (fun x => lt x dk[a]!) dk j i)) (fun vi _ => j + 1 - (intOf vi).toNat)
  case atStart => exact ⟨i, rfl, Nat.le_refl _, hij, hA0, rfl⟩
  case round =>
    clear hA0
    obtain ⟨i', rfl, hii, hij', hA, hsc⟩ := hrel
    obtain ⟨c0, _⟩ := hA.box hblk
    by_cases hle : i' ≤ j
    · have hl := S.less (i' : Int) (a : Int) i' a rfl rfl hA.inv (by omega) (by omega)
      cases hlv : lt dk[i']! dk[a]! with
      | true =>
        rw [hlv] at hl
        go_wp2_with (go_at_fn g; refine hl.mono ?_; rintro e w2 ⟨rfl, hg2⟩; have hA1 := hA.grow S hg2)
        go_roundw
        case rel => exact ⟨i' + 1, by go_num, by omega, by omega, hA1, (scanUp_go (fun x => lt x dk[a]!) dk j i' hle hlv).symm.trans hsc.out⟩
        case measure => simp [intOf]; omega
      | false =>
        rw [hlv] at hl
        have hi2 : Hid (i' = scanUp (fun x => lt x dk[a]!) dk j i) := (scanUp_end (fun x => lt x dk[a]!) dk j i' (Or.inr hlv)).symm.trans hsc.out
        go_wp2_with (go_at_fn g; refine hl.mono ?_; rintro e w2 ⟨rfl, hg2⟩; have hA1 := hA.grow S hg2)
        clear c0 hsc hl hA hg2
        go_loopw [11] (fun vj w2 => ∃ (j' : Nat), vj = .int .i64 j' ∧ j' ≤ j ∧ i' ≤ j' + 1 ∧ SrtAt I blk (w.alloc (.cells #[.func (.func g) #[] lb, .func (.func sf) #[] sb] (ρ.t 44))) w2 dk ∧ Hid (scanDown (fun x => !lt x dk[a]!) dk i' j' = scanDown (fun x => !lt x dk[a]!) dk i' j)) (fun vj _ => (intOf vj).toNat)
        case atStart => exact ⟨j, rfl, Nat.le_refl _, hij', hA1, rfl⟩
        case round =>
          clear hA1
          obtain ⟨j', rfl, hjj, hij2, hB, hsd⟩ := hrel
          obtain ⟨c0, c1⟩ := hB.box hblk
          by_cases hle2 : i' ≤ j'
          · have hl := S.less (j' : Int) (a : Int) j' a rfl rfl hB.inv (by omega) (by omega)
            cases hlv2 : lt dk[j']! dk[a]! with
            | false =>
              rw [hlv2] at hl
              go_wp2_with (go_at_fn g; refine hl.mono ?_; rintro e w3 ⟨rfl, hg3⟩; have hB1 := hB.grow S hg3)
              go_roundw
              case rel => exact ⟨j' - 1, by go_num, by omega, by omega, hB1, (scanDown_go (fun x => !lt x dk[a]!) dk i' j' hle2 (by omega) (by simp [hlv2])).symm.trans hsd.out⟩
              case measure => simp [intOf]; omega
            | true =>
              rw [hlv2] at hl
              have hj2 : Hid (j' = scanDown (fun x => !lt x dk[a]!) dk i' j) := (scanDown_end (fun x => !lt x dk[a]!) dk i' j' (Or.inr (by simp [hlv2]))).symm.trans hsd.out
              have hlt3 := part_scans_lt lt a i j dk (by omega) hi2.out hj2.out hle2
              go_wp2_with (go_at_fn g; refine hl.mono ?_; rintro e w3 ⟨rfl, hg3⟩; have hB1 := hB.grow S hg3; obtain ⟨_, c13⟩ := hB1.box hblk; obtain ⟨w4, hs4, hI4, hg4⟩ := S.swap (i' : Int) (j' : Int) i' j' rfl rfl hB1.inv (by omega) (by omega))
              rw [decide_eq_false (show ¬ j' < i' by omega)]
              obtain ⟨I0, hI0⟩ : ∃ I0 : Nat, I0 = i' + 1 := ⟨_, rfl⟩
              obtain ⟨J0, hJ0⟩ : ∃ J0 : Nat, J0 = j' - 1 := ⟨_, rfl⟩
              obtain ⟨D0, hD0⟩ : ∃ D0 : Array α, D0 = swp dk i' j' := ⟨_, rfl⟩
              have PF : Hid (partition lt d a b pivot = ((partLoop lt a I0 J0 D0).1, false, swp (partLoop lt a I0 J0 D0).2 (partLoop lt a I0 J0 D0).1 a)) := by
                rw [hI0, hJ0, hD0]; exact part_first_go lt d a b pivot Hi.out Hj.out Hdk.out hi2.out hj2.out (by omega)
              have hB4 := hB1.turn hI4 hg4
              go_loopw [10, 11] (fun vi vj wr => ∃ (i j : Nat) (dk : Array α), vi = .int .i64 i ∧ vj = .int .i64 j ∧ a < i ∧ i ≤ j + 1 ∧ j < b ∧ SrtAt I blk (w.alloc (.cells #[.func (.func g) #[] lb, .func (.func sf) #[] sb] (ρ.t 44))) wr dk ∧ Hid (partLoop lt a i j dk = partLoop lt a I0 J0 D0)) (fun vi vj _ => (intOf vj).toNat + 1 - (intOf vi).toNat)
              case atStart => exact ⟨i' + 1, j' - 1, swp dk i' j', by go_num, by go_num, by omega, by omega, by omega, hB4, (show Hid _ from by rw [hI0, hJ0, hD0]; exact rfl)⟩
              case round =>
                clear hI0 hJ0 hD0 hB4 hs4 hI4 hg4 hB1 hg3 hB hj2 hi2 hlt3 hl c0 c1 c13 Hi Hj Hdk hsd
                obtain ⟨i, j, dk, rfl, rfl, hai, hij, hjb, hA0, AE⟩ := hrel
                go_wp2
                go_loopw [10] (fun vi w1 => ∃ (i' : Nat), vi = .int .i64 i' ∧ i ≤ i' ∧ i' ≤ j + 1 ∧ SrtAt I blk (w.alloc (.cells #[.func (.func g) #[] lb, .func (.func sf) #[] sb] (ρ.t 44))) w1 dk ∧ Hid (scanUp (fun x => lt x dk[a]!) dk j i' = scanUp (fun x => lt x dk[a]!) dk j i)) (fun vi _ => j + 1 - (intOf vi).toNat)
                case atStart => exact ⟨i, rfl, Nat.le_refl _, hij, hA0, rfl⟩
                case round =>
                  clear hA0
                  obtain ⟨i', rfl, hii, hij', hA, hsc⟩ := hrel
                  obtain ⟨c0, _⟩ := hA.box hblk
                  by_cases hle : i' ≤ j
                  · have hl := S.less (i' : Int) (a : Int) i' a rfl rfl hA.inv (by omega) (by omega)
                    cases hlv : lt dk[i']! dk[a]! with
                    | true =>
                      rw [hlv] at hl
                      go_wp2_with (go_at_fn g; refine hl.mono ?_; rintro e w2 ⟨rfl, hg2⟩; have hA1 := hA.grow S hg2)
                      go_roundw
                      case rel => exact ⟨i' + 1, by go_num, by omega, by omega, hA1, (scanUp_go (fun x => lt x dk[a]!) dk j i' hle hlv).symm.trans hsc.out⟩
                      case measure => simp [intOf]; omega
                    | false =>
                      rw [hlv] at hl
                      have hi2 : Hid (i' = scanUp (fun x => lt x dk[a]!) dk j i) := (scanUp_end (fun x => lt x dk[a]!) dk j i' (Or.inr hlv)).symm.trans hsc.out
                      go_wp2_with (go_at_fn g; refine hl.mono ?_; rintro e w2 ⟨rfl, hg2⟩; have hA1 := hA.grow S hg2)
                      clear c0 hsc hl hA hg2
                      go_loopw [11] (fun vj w2 => ∃ (j' : Nat), vj = .int .i64 j' ∧ j' ≤ j ∧ i' ≤ j' + 1 ∧ SrtAt I blk (w.alloc (.cells #[.func (.func g) #[] lb, .func (.func sf) #[] sb] (ρ.t 44))) w2 dk ∧ Hid (scanDown (fun x => !lt x dk[a]!) dk i' j' = scanDown (fun x => !lt x dk[a]!) dk i' j)) (fun vj _ => (intOf vj).toNat)
                      case atStart => exact ⟨j, rfl, Nat.le_refl _, hij', hA1, rfl⟩
                      case round =>
                        clear hA1
                        obtain ⟨j', rfl, hjj, hij2, hB, hsd⟩ := hrel
                        obtain ⟨c0, c1⟩ := hB.box hblk
                        by_cases hle2 : i' ≤ j'
                        · have hl := S.less (j' : Int) (a : Int) j' a rfl rfl hB.inv (by omega) (by omega)
                          cases hlv2 : lt dk[j']! dk[a]! with
                          | false =>
                            rw [hlv2] at hl
                            go_wp2_with (go_at_fn g; refine hl.mono ?_; rintro e w3 ⟨rfl, hg3⟩; have hB1 := hB.grow S hg3)
                            go_roundw
                            case rel => exact ⟨j' - 1, by go_num, by omega, by omega, hB1, (scanDown_go (fun x => !lt x dk[a]!) dk i' j' hle2 (by omega) (by simp [hlv2])).symm.trans hsd.out⟩
                            case measure => simp [intOf]; omega
                          | true =>
                            rw [hlv2] at hl
                            have hj2 : Hid (j' = scanDown (fun x => !lt x dk[a]!) dk i' j) := (scanDown_end (fun x => !lt x dk[a]!) dk i' j' (Or.inr (by simp [hlv2]))).symm.trans hsd.out
                            have hlt3 := part_scans_lt lt a i j dk (by omega) hi2.out hj2.out hle2
                            go_wp2_with (go_at_fn g; refine hl.mono ?_; rintro e w3 ⟨rfl, hg3⟩; have hB1 := hB.grow S hg3; obtain ⟨_, c13⟩ := hB1.box hblk; obtain ⟨w4, hs4, hI4, hg4⟩ := S.swap (i' : Int) (j' : Int) i' j' rfl rfl hB1.inv (by omega) (by omega))
                            go_roundw
                            case rel => exact ⟨i' + 1, j' - 1, swp dk i' j', by go_num, by go_num, by omega, by omega, by omega, hB1.turn hI4 hg4, (show Hid _ from by rw [← AE.out]; exact (part_go lt a i j dk hi2.out hj2.out (by omega)).symm)⟩
                            case measure => simp [intOf]; omega
                        · have hj2 : Hid (j' = scanDown (fun x => !lt x dk[a]!) dk i' j) := (scanDown_end (fun x => !lt x dk[a]!) dk i' j' (Or.inl hle2)).symm.trans hsd.out
                          obtain ⟨w5, hs5, hI5, hg5⟩ := S.swap (j' : Int) (a : Int) j' a rfl rfl hB.inv (by omega) (by omega)
                          have hB5 := hB.turn hI5 hg5
                          clear hsd
                          go_wp2
                          go_ret2
                          have e := part_break lt a i j dk hi2.out hj2.out (by omega)
                          rw [PF.out, ← AE.out, e]
                          exact ⟨rfl, hB5.inv, hB5.off⟩
                  · have hi2 : Hid (i' = scanUp (fun x => lt x dk[a]!) dk j i) := (scanUp_end (fun x => lt x dk[a]!) dk j i' (Or.inl hle)).symm.trans hsc.out
                    go_wp2
                    clear c0 hsc
                    go_loopw [11] (fun vj w2 => ∃ (j' : Nat), vj = .int .i64 j' ∧ j' ≤ j ∧ i' ≤ j' + 1 ∧ SrtAt I blk (w.alloc (.cells #[.func (.func g) #[] lb, .func (.func sf) #[] sb] (ρ.t 44))) w2 dk ∧ Hid (scanDown (fun x => !lt x dk[a]!) dk i' j' = scanDown (fun x => !lt x dk[a]!) dk i' j)) (fun vj _ => (intOf vj).toNat)
                    case atStart => exact ⟨j, rfl, Nat.le_refl _, hij', hA, rfl⟩
                    case round =>
                      clear hA
                      obtain ⟨j', rfl, hjj, hij2, hB, hsd⟩ := hrel
                      obtain ⟨c0, c1⟩ := hB.box hblk
                      by_cases hle2 : i' ≤ j'
                      · exfalso; omega
                      · have hj2 : Hid (j' = scanDown (fun x => !lt x dk[a]!) dk i' j) := (scanDown_end (fun x => !lt x dk[a]!) dk i' j' (Or.inl hle2)).symm.trans hsd.out
                        obtain ⟨w5, hs5, hI5, hg5⟩ := S.swap (j' : Int) (a : Int) j' a rfl rfl hB.inv (by omega) (by omega)
                        have hB5 := hB.turn hI5 hg5
                        clear hsd
                        go_wp2
                        go_ret2
                        have e := part_break lt a i j dk hi2.out hj2.out (by omega)
                        rw [PF.out, ← AE.out, e]
                        exact ⟨rfl, hB5.inv, hB5.off⟩
          · have hj2 : Hid (j' = scanDown (fun x => !lt x dk[a]!) dk i' j) := (scanDown_end (fun x => !lt x dk[a]!) dk i' j' (Or.inl hle2)).symm.trans hsd.out
            obtain ⟨w5, hs5, hI5, hg5⟩ := S.swap (j' : Int) (a : Int) j' a rfl rfl hB.inv (by omega) (by omega)
            have hB5 := hB.turn hI5 hg5
            clear hsd
            go_wp2
            go_ret2
            have e := part_first_break lt d a b pivot Hi.out Hj.out Hdk.out hi2.out hj2.out (by omega)
            rw [e]
            exact ⟨rfl, hB5.inv, hB5.off⟩
    · have hi2 : Hid (i' = scanUp (fun x => lt x dk[a]!) dk j i) := (scanUp_end (fun x => lt x dk[a]!) dk j i' (Or.inl hle)).symm.trans hsc.out
      go_wp2
      clear c0 hsc
      go_loopw [11] (fun vj w2 => ∃ (j' : Nat), vj = .int .i64 j' ∧ j' ≤ j ∧ i' ≤ j' + 1 ∧ SrtAt I blk (w.alloc (.cells #[.func (.func g) #[] lb, .func (.func sf) #[] sb] (ρ.t 44))) w2 dk ∧ Hid (scanDown (fun x => !lt x dk[a]!) dk i' j' = scanDown (fun x => !lt x dk[a]!) dk i' j)) (fun vj _ => (intOf vj).toNat)
      case atStart => exact ⟨j, rfl, Nat.le_refl _, hij', hA, rfl⟩
      case round =>
        clear hA
        obtain ⟨j', rfl, hjj, hij2, hB, hsd⟩ := hrel
        obtain ⟨c0, c1⟩ := hB.box hblk
        by_cases hle2 : i' ≤ j'
        · exfalso; omega
        · have hj2 : Hid (j' = scanDown (fun x => !lt x dk[a]!) dk i' j) := (scanDown_end (fun x => !lt x dk[a]!) dk i' j' (Or.inl hle2)).symm.trans hsd.out
          obtain ⟨w5, hs5, hI5, hg5⟩ := S.swap (j' : Int) (a : Int) j' a rfl rfl hB.inv (by omega) (by omega)
          have hB5 := hB.turn hI5 hg5
          clear hsd
          go_wp2
          go_ret2
          have e := part_first_break lt d a b pivot Hi.out Hj.out Hdk.out hi2.out hj2.out (by omega)
          rw [e]
          exact ⟨rfl, hB5.inv, hB5.off⟩
end Go.Proofs.YtcbcjefefmbccabGreatDoor
namespace Go.Proofs.YtcbcjefefmbccabGreatDoor
open Go.Shelf Go.RowKit Go.Lib Go.Sort
variable {P : Program} {ρ : Ren} {α : Type} [Inhabited α] {lt : α → α → Bool} {g : Nat} {lb : Array Value} {sf : Nat} {sb : Array Value} {blk n n0 : Nat} {I : World → Array α → Prop}

set_option maxHeartbeats 4000000 in
set_option maxRecDepth 1000000 in
theorem srt_break_go (L' : LaysGg.n28 P ρ) (S : Srt P lt g lb sf sb blk n n0 I) (a L : Nat) (d : Array α) (w : World) (hI : I w d) (hb : a + L ≤ n) (hsz : n < 4611686018427387904) (h8 : 8 ≤ L) :
    Calls P (ρ.f 28) #[.agg #[.func (.func g) #[] lb, .func (.func sf) #[] sb], .int .i64 a, .int .i64 ((a + L : Nat) : Int)] w fun e w' => e = .returned (.tuple #[]) ∧ I w' (breakPatterns d a (a + L)) ∧ w.grownBy w' (some blk) := by
  have mixed := L'.mixed; have t0 := L'.t0; have a0 := L'.a0; have z0 := L'.z0; have v0 := L'.v0; have t3 := L'.t3; have a3 := L'.a3; have z3 := L'.z3; have v3 := L'.v3; have t4 := L'.t4; have a4 := L'.a4; have z4 := L'.z4; have v4 := L'.v4; have t5 := L'.t5; have a5 := L'.a5; have z5 := L'.z5; have v5 := L'.v5; have t9 := L'.t9; have a9 := L'.a9; have z9 := L'.z9; have v9 := L'.v9; have t26 := L'.t26; have a26 := L'.a26; have z26 := L'.z26; have v26 := L'.v26; have t37 := L'.t37; have a37 := L'.a37; have z37 := L'.z37; have v37 := L'.v37; have t41 := L'.t41; have a41 := L'.a41; have z41 := L'.z41; have v41 := L'.v41; have t44 := L'.t44; have a44 := L'.a44; have z44 := L'.z44; have v44 := L'.v44; have t49 := L'.t49; have a49 := L'.a49; have z49 := L'.z49; have v49 := L'.v49; have t51 := L'.t51; have a51 := L'.a51; have z51 := L'.z51; have v51 := L'.v51; have t60 := L'.t60; have a60 := L'.a60; have z60 := L'.z60; have v60 := L'.v60; have t66 := L'.t66; have a66 := L'.a66; have z66 := L'.z66; have v66 := L'.v66
  have u44 := run_underlying L'.t44
  have e35 : ∀ args w, (callFunc (ρ.f 35) args).run P w = .ok (.enter (ρ.f 35) args) w := enters_of L'.f35 (by kernel_rfl) rfl
  have e36 : ∀ args w, (callFunc (ρ.f 36) args).run P w = .ok (.enter (ρ.f 36) args) w := enters_of L'.f36 (by kernel_rfl) rfl
  rw [breakPatterns_eq d a L h8]
  obtain ⟨M, hM⟩ : ∃ M : Nat, M = 1 <<< bitsLen L := ⟨_, rfl⟩
  have hM1 : 1 ≤ M := by rw [hM, Nat.one_shiftLeft]; exact Nat.two_pow_pos _
  have hM2 : M ≤ 2 * L := by rw [hM, Nat.one_shiftLeft]; exact two_pow_bitsLen_le (by omega)
  have hNP : ∀ w, Calls P (ρ.f 35) #[.int .i64 (L : Int)] w fun e w' => e = .returned (.int .u64 (M : Int)) ∧ w' = w := by rw [hM]; exact fun w => Any.nextPowerOfTwo { L' with } L (by omega) w
  rw [← hM]
  clear hM
  have hLz : ((a : Int) + (L : Int) - (a : Int)) = (L : Int) := by omega
  have h8z : (8 : Int) ≤ (L : Int) := by omega
  have hblk := S.blt hI
  have hn0 := S.le hI
  have hgB : ∀ o o', w.grownBy ((w.alloc o).alloc o') none := fun o o' => (World.grownBy_alloc w o none).andThen (World.grownBy_alloc _ o' none) (fun _ hj => by cases hj)
  have hgB : Aside _ := hgB
  go_enter L'.f28, BodyGg.n28_ntmps ρ
  go_wp2_with (first | (go_at_fn (ρ.f 35); refine (hNP _).mono ?_; rintro e w' ⟨rfl, rfl⟩))
  go_loopg [9] 3 (fun g1 vi wr => ∃ (t : Nat) (r : UInt64) (dk : Array α), vi = .int .i64 ((a : Int) + (L : Int) / 4 * 2 - 1 + (t : Int)) ∧ t ≤ 3 ∧ 3 - t ≤ g1 ∧ Aside (I wr dk ∧ w.grownBy wr (some blk)) ∧ w.heap.size + 1 < wr.heap.size ∧
      wr.cell? ⟨w.heap.size, 1, none⟩ = some (.func (.func sf) #[] sb) ∧ wr.cell? ⟨w.heap.size + 1, 0, none⟩ = some (.int .u64 (r.toNat : Int)) ∧ wr.frozen? ⟨w.heap.size + 1, 0, none⟩ = false ∧
      Hid (bpRest a L M (a + L / 4 * 2 - 1) (3 - t) t (r, dk) = bpRest a L M (a + L / 4 * 2 - 1) 3 0 (UInt64.ofNat L, d)))
  case atStart =>
    refine ⟨0, UInt64.ofNat L, d, by simp, by omega, by omega, ⟨S.keep hI (hgB.out _ _), (hgB.out _ _).but _⟩, by simp, by simp, ?_, by simp, rfl⟩
    rw [show (UInt64.ofNat L).toNat = L from by simp; omega]
    simp
  case round =>
    obtain ⟨t, r, dk, rfl, ht, hg1, A, hsw, c1, cR, fR, HR⟩ := hrel
    by_cases ht3 : t < 3
    · have hle : (a : Int) + (L : Int) / 4 * 2 - 1 + (t : Int) ≤ (a : Int) + (L : Int) / 4 * 2 + 1 := by omega
      obtain ⟨R, hRr⟩ : ∃ R : Nat, R = r.toNat := ⟨_, rfl⟩
      have lR : R < 18446744073709551616 := by rw [hRr]; exact r.toNat_lt
      obtain ⟨R', hR'⟩ : ∃ R' : Nat, R' = xorNextN R := ⟨_, rfl⟩
      have lR' : R' < 18446744073709551616 := by rw [hR']; exact xorNextN_lt R lR
      obtain ⟨O, hO⟩ : ∃ O : Nat, O = R' &&& (M - 1) := ⟨_, rfl⟩
      have lO : O ≤ M - 1 := by rw [hO]; exact Nat.and_le_right
      have eAnd : bits .and .u64 (R' : Int) ((M : Int) - 1) = (O : Int) := by
        rw [show ((M : Int) - 1) = ((M - 1 : Nat) : Int) by omega, bits_and_u64_nat _ _ lR' (by omega), hO]
      rw [← hRr] at cR
      have hNext : Calls P (ρ.f 36) #[.pointer (some ⟨w.heap.size + 1, 0, none⟩)] wr fun e w' => e = .returned (.int .u64 (R' : Int)) ∧ w' = (wr.setCell ⟨w.heap.size + 1, 0, none⟩ (.int .u64 (R' : Int))).drewN 3 := by
        rw [hR']; exact Any.xorshift_Next { L' with } _ _ R lR wr cR fR
      have HN : Hid (R' = (xorNext r).toNat ∧ O = (xorNext r).toNat &&& (M - 1)) := by
        have e : R' = (xorNext r).toNat := by rw [hR', hRr, xorNext_toNat]
        exact ⟨e, by rw [hO, e]⟩
      clear hRr hR' hO
      have hgN : wr.grownBy ((wr.setCell ⟨w.heap.size + 1, 0, none⟩ (.int .u64 (R' : Int))).drewN 3) (some (w.heap.size + 1)) := grown_trans (grown_set (grown_refl wr _) 0 _) ((grown_drewN _ 3).but _)
      have cR' : ((wr.setCell ⟨w.heap.size + 1, 0, none⟩ (.int .u64 (R' : Int))).drewN 3).cell? ⟨w.heap.size + 1, 0, none⟩ = some (.int .u64 (R' : Int)) := by
        rw [World.cell?_drewN]; exact World.cell?_setCell_same _ _ _ cR
      have fR' : ((wr.setCell ⟨w.heap.size + 1, 0, none⟩ (.int .u64 (R' : Int))).drewN 3).frozen? ⟨w.heap.size + 1, 0, none⟩ = false := by
        rw [World.frozen?_drewN]; simpa using fR
      have c1' := cell_kept c1 hgN (Nat.lt_of_succ_lt hsw) (fun e => by have := Option.some.inj e; simp only at this; omega)
      have hI2 := S.keepAt A.out.1 (Nat.le_succ_of_le hn0) hgN
      have hgw2 : w.grownBy ((wr.setCell ⟨w.heap.size + 1, 0, none⟩ (.int .u64 (R' : Int))).drewN 3) (some blk) := A.out.2.andThen hgN (fun j hj => by cases hj; exact .inl (Nat.le_succ _))
      have hsw2 := Nat.lt_of_lt_of_le hsw hgN.size
      generalize (wr.setCell ⟨w.heap.size + 1, 0, none⟩ (.int .u64 (R' : Int))).drewN 3 = w2 at hNext hgN cR' fR' c1' hI2 hgw2 hsw2
      clear c1 cR fR
      have KEEP : ∀ {w3 : World}, w2.grownBy w3 (some blk) → w.heap.size + 1 < w3.heap.size ∧ w3.cell? ⟨w.heap.size, 1, none⟩ = some (.func (.func sf) #[] sb) ∧ w3.cell? ⟨w.heap.size + 1, 0, none⟩ = some (.int .u64 (R' : Int)) ∧ w3.frozen? ⟨w.heap.size + 1, 0, none⟩ = false := fun h =>
        ⟨Nat.lt_of_lt_of_le hsw2 h.size, cell_kept c1' h (Nat.lt_of_succ_lt hsw2) (fun e => by have := Option.some.inj e; simp only at this; omega), cell_kept cR' h hsw2 (fun e => by have := Option.some.inj e; simp only at this; omega),
          (World.frozen?_of_block (w := w2) (h.block (w.heap.size + 1) hsw2 (fun e => by have := Option.some.inj e; omega))).trans fR'⟩
      have KEEP : Aside _ := @KEEP
      by_cases hLO : L ≤ O
      · have hLOz : (L : Int) ≤ (O : Int) := by omega
        obtain ⟨w3, hs, hI3, hg3⟩ := S.swap ((a : Int) + (L : Int) / 4 * 2 - 1 + (t : Int)) ((a : Int) + ((O : Int) - (L : Int))) (a + L / 4 * 2 - 1 + t) (a + (O - L)) (by omega) (by omega) hI2 (by omega) (by omega)
        go_wp2_with (go_at_fn (ρ.f 36); refine hNext.mono ?_; rintro e w' ⟨rfl, rfl⟩)
        go_roundg (3 - (t + 1))
        case measure => omega
        case rel =>
          obtain ⟨k0, k1, k2, k3⟩ := KEEP.out hg3
          exact ⟨t + 1, xorNext r, swp dk (a + L / 4 * 2 - 1 + t) (a + (O - L)), by congr 1; push_cast; omega, by omega, Nat.le_refl _, ⟨hI3, grown_trans hgw2 hg3⟩, k0, k1, by rw [← HN.out.1]; exact k2, k3,
            (show Hid _ from by rw [← HR.out, bp_step a L M _ t r dk (O - L) ht3 (by rw [← HN.out.2, if_pos (by omega)])]; exact rfl)⟩
      · have hLOz : ¬ (L : Int) ≤ (O : Int) := by omega
        obtain ⟨w3, hs, hI3, hg3⟩ := S.swap ((a : Int) + (L : Int) / 4 * 2 - 1 + (t : Int)) ((a : Int) + (O : Int)) (a + L / 4 * 2 - 1 + t) (a + O) (by omega) (by omega) hI2 (by omega) (by omega)
        go_wp2_with (go_at_fn (ρ.f 36); refine hNext.mono ?_; rintro e w' ⟨rfl, rfl⟩)
        go_roundg (3 - (t + 1))
        case measure => omega
        case rel =>
          obtain ⟨k0, k1, k2, k3⟩ := KEEP.out hg3
          exact ⟨t + 1, xorNext r, swp dk (a + L / 4 * 2 - 1 + t) (a + O), by congr 1; push_cast; omega, by omega, Nat.le_refl _, ⟨hI3, grown_trans hgw2 hg3⟩, k0, k1, by rw [← HN.out.1]; exact k2, k3,
            (show Hid _ from by rw [← HR.out, bp_step a L M _ t r dk O ht3 (by rw [← HN.out.2, if_neg (by omega)])]; exact rfl)⟩
    · obtain rfl : t = 3 := by omega
      have hle : ¬ ((a : Int) + (L : Int) / 4 * 2 - 1 + ((3 : Nat) : Int) ≤ (a : Int) + (L : Int) / 4 * 2 + 1) := by omega
      go_wp2
      go_end0
      rw [← HR.out]
      exact ⟨rfl, A.out.1, A.out.2⟩

set_option maxHeartbeats 4000000 in
set_option maxRecDepth 1000000 in
theorem srt_break (L' : LaysGg.n28 P ρ) (S : Srt P lt g lb sf sb blk n n0 I) (a b : Nat) (d : Array α) (w : World) (hI : I w d) (hab : a ≤ b) (hb : b ≤ n) (hsz : n < 4611686018427387904) :
    Calls P (ρ.f 28) #[.agg #[.func (.func g) #[] lb, .func (.func sf) #[] sb], .int .i64 a, .int .i64 b] w fun e w' => e = .returned (.tuple #[]) ∧ I w' (breakPatterns d a b) ∧ w.grownBy w' (some blk) := by
  obtain ⟨L, rfl⟩ : ∃ L, b = a + L := ⟨b - a, by omega⟩
  by_cases h8 : 8 ≤ L
  · exact srt_break_go L' S a L d w hI hb hsz h8
  · have hv : breakPatterns d a (a + L) = d := by unfold breakPatterns; simp only [Nat.add_sub_cancel_left]; rw [if_neg h8]
    rw [hv]
    have mixed := L'.mixed; have t0 := L'.t0; have a0 := L'.a0; have z0 := L'.z0; have v0 := L'.v0; have t3 := L'.t3; have a3 := L'.a3; have z3 := L'.z3; have v3 := L'.v3; have t4 := L'.t4; have a4 := L'.a4; have z4 := L'.z4; have v4 := L'.v4; have t5 := L'.t5; have a5 := L'.a5; have z5 := L'.z5; have v5 := L'.v5; have t9 := L'.t9; have a9 := L'.a9; have z9 := L'.z9; have v9 := L'.v9; have t26 := L'.t26; have a26 := L'.a26; have z26 := L'.z26; have v26 := L'.v26; have t37 := L'.t37; have a37 := L'.a37; have z37 := L'.z37; have v37 := L'.v37; have t41 := L'.t41; have a41 := L'.a41; have z41 := L'.z41; have v41 := L'.v41; have t44 := L'.t44; have a44 := L'.a44; have z44 := L'.z44; have v44 := L'.v44; have t49 := L'.t49; have a49 := L'.a49; have z49 := L'.z49; have v49 := L'.v49; have t51 := L'.t51; have a51 := L'.a51; have z51 := L'.z51; have v51 := L'.v51; have t60 := L'.t60; have a60 := L'.a60; have z60 := L'.z60; have v60 := L'.v60; have t66 := L'.t66; have a66 := L'.a66; have z66 := L'.z66; have v66 := L'.v66
    have u44 := run_underlying L'.t44
    have hLz : ((a : Int) + (L : Int) - (a : Int)) = (L : Int) := by omega
    have h8z : ¬ (8 : Int) ≤ (L : Int) := by omega
    have hg0 : w.grownBy (w.alloc (.cells #[.func (.func g) #[] lb, .func (.func sf) #[] sb] (ρ.t 44))) none := World.grownBy_alloc w _ none
    go_enter L'.f28, BodyGg.n28_ntmps ρ
    go_wp2
    go_end0
    exact ⟨rfl, S.keep hI hg0, hg0.but _⟩
end Go.Proofs.YtcbcjefefmbccabGreatDoor
