/-
  Own text. sort.Slice where 'less' may lay blocks: partialInsertionSort_func.
  Own text. sort.Slice where 'less' may lay blocks: pdqsort_func.
  Own text. sort.Slice at a slice of structs, where 'less' may lay blocks: it holds a permutation of what it held, sorted; nothing else that lay has turned.
  Own text. The program's bin by contracts: All, its closure.
  Own text. sort.Slice of pieces by their IDs, as All calls it.
-/
import Derived.Test.YtcbcjefefmbccabGreatDoorS04
import Derived.Test.YtcbcjefefmbccabGreatDoorS14
import Derived.Test.YtcbcjefefmbccabGreatDoorS08
import Derived.Test.YtcbcjefefmbccabGreatDoorS06
import Derived.Test.YtcbcjefefmbccabGreatDoorS10
import Derived.Shelf.GgSortFunc.Tiny
import Derived.Deep.RegionHeld3
namespace Go.Proofs.YtcbcjefefmbccabGreatDoor
open Go.Shelf Go.RowKit Go.Lib Go.Sort
variable {P : Program} {ρ : Ren} {α : Type} [Inhabited α] {lt : α → α → Bool} {g : Nat} {lb : Array Value} {sf : Nat} {sb : Array Value} {blk n n0 : Nat} {I : World → Array α → Prop}

set_option maxHeartbeats 16000000 in
set_option maxRecDepth 1000000 in
theorem srt_partial (L : LaysGg.n31 P ρ) (S : Srt P lt g lb sf sb blk n n0 I) (a b : Nat) (d : Array α) (w : World) (hI : I w d) (hab : a < b) (hb : b ≤ n) (hsz : n < 4611686018427387904) :
    Calls P (ρ.f 31) #[.agg #[.func (.func g) #[] lb, .func (.func sf) #[] sb], .int .i64 a, .int .i64 b] w fun e w' => e = .returned (.bool (Sort.partialInsertionSort lt d a b).2) ∧ I w' (Sort.partialInsertionSort lt d a b).1 ∧ w.grownBy w' (some blk) := by
  have mixed := L.mixed; have t0 := L.t0; have a0 := L.a0; have z0 := L.z0; have v0 := L.v0; have t3 := L.t3; have a3 := L.a3; have z3 := L.z3; have v3 := L.v3; have t4 := L.t4; have a4 := L.a4; have z4 := L.z4; have v4 := L.v4; have t26 := L.t26; have a26 := L.a26; have z26 := L.z26; have v26 := L.v26; have t37 := L.t37; have a37 := L.a37; have z37 := L.z37; have v37 := L.v37; have t44 := L.t44; have a44 := L.a44; have z44 := L.z44; have v44 := L.v44
  have u44 := run_underlying L.t44
  have eg := S.eg
  have hblk := S.blt hI
  have A0 : SrtAt I blk (w.alloc (.cells #[.func (.func g) #[] lb, .func (.func sf) #[] sb] (ρ.t 44))) (w.alloc (.cells #[.func (.func g) #[] lb, .func (.func sf) #[] sb] (ρ.t 44))) d := .start (S.keep hI (World.grownBy_alloc w _ none))
  go_enter L.f31, BodyGg.n31_ntmps ρ
  go_wp2
  go_loopg [7, 8] 5 (fun g1 vi vs wr => ∃ (i s : Nat) (dk : Array α), vi = .int .i64 i ∧ vs = .int .i64 s ∧ s ≤ 5 ∧ 5 - s ≤ g1 ∧ a < i ∧ i ≤ b ∧ SrtAt I blk (w.alloc (.cells #[.func (.func g) #[] lb, .func (.func sf) #[] sb] (ρ.t 44))) wr dk ∧ Hid (partialIns lt a b (5 - s) i dk = partialIns lt a b 5 (a + 1) d))
  case atStart => exact ⟨a + 1, 0, d, by go_num, rfl, by omega, by omega, by omega, by omega, A0, rfl⟩
  case round =>
    clear A0
    obtain ⟨i, s, dk, rfl, rfl, hs5, hg1, hai, hib, hA0, HO⟩ := hrel
    by_cases hs : s < 5
    · have hsz5 : (s : Int) < 5 := by omega
      go_wp2
      go_loopg [7] (b - i) (fun g2 vi wr2 => ∃ (kx : Nat), vi = .int .i64 kx ∧ i ≤ kx ∧ kx ≤ b ∧ b - kx ≤ g2 ∧ SrtAt I blk (w.alloc (.cells #[.func (.func g) #[] lb, .func (.func sf) #[] sb] (ρ.t 44))) wr2 dk ∧ Hid (scanSorted lt dk b kx = scanSorted lt dk b i))
      case atStart => exact ⟨i, rfl, Nat.le_refl _, hib, Nat.le_refl _, hA0, rfl⟩
      case round =>
        clear hA0
        obtain ⟨kx, rfl, hik, hkb, hg2, hA, HSc⟩ := hrel
        obtain ⟨c0, _⟩ := hA.box hblk
        by_cases hkb' : kx < b
        · have hkz : (kx : Int) < (b : Int) := by omega
          have hl := S.less (kx : Int) ((kx : Int) - 1) kx (kx - 1) rfl (by omega) hA.inv (by omega) (by omega)
          cases hlv : lt dk[kx]! dk[kx - 1]! with
          | false =>
            rw [hlv] at hl
            go_wp2_with (go_at_fn g; refine hl.mono ?_; rintro e w1 ⟨rfl, hw1⟩; have hA1 := hA.grow S hw1)
            go_roundg (b - (kx + 1))
            case measure => omega
            case rel => exact ⟨kx + 1, by go_num, by omega, by omega, Nat.le_refl _, hA1, (show Hid _ from by rw [← HSc.out, scanSorted_go lt dk b kx hkb' hlv]; exact rfl)⟩
          | true =>
            rw [hlv] at hl
            have HK : Hid (scanSorted lt dk b i = kx) := by show _ = _; rw [← HSc.out, scanSorted_stop lt dk b kx (Or.inr hlv)]
            have hkne : ((kx : Int) == (b : Int)) = false := beq_eq_false_iff_ne.2 (by omega)
            by_cases h50 : b - a < 50
            · have h50z : (b : Int) - (a : Int) < 50 := by omega
              go_wp2_with (go_at_fn g; refine hl.mono ?_; rintro e w1 ⟨rfl, hw1⟩; have hA1 := hA.grow S hw1)
              have hv : Sort.partialInsertionSort lt d a b = (dk, false) := by
                unfold Sort.partialInsertionSort
                rw [← HO.out, pi_short lt a b s i dk hs (by rw [HK.out]; omega) h50]
              rw [hv]
              go_ret
              exact ⟨rfl, hA1.inv, hA1.off⟩
            · have h50z : ¬ ((b : Int) - (a : Int) < 50) := by omega
              by_cases hka : kx - a ≥ 2
              · have hkaz : (2 : Int) ≤ (kx : Int) - (a : Int) := by omega
                go_wp2_with (go_at_fn g; refine hl.mono ?_; rintro e w1 ⟨rfl, hw1⟩; have hA1 := hA.grow S hw1; obtain ⟨_, c1⟩ := hA1.box hblk; obtain ⟨w2, hs2, hI2, hg2w⟩ := S.swap (kx : Int) ((kx : Int) - 1) kx (kx - 1) rfl (by omega) hA1.inv (by omega) (by omega))
                have hA2 := hA1.turn hI2 hg2w
                clear hA1 hI2 hg2w hs2 c1 c0 hw1 hA hl
                go_loopg [9] (kx - 1) (fun g3 vj wr3 => ∃ (j : Nat) (dj : Array α), vj = .int .i64 j ∧ j ≤ kx - 1 ∧ j ≤ g3 ∧ SrtAt I blk (w.alloc (.cells #[.func (.func g) #[] lb, .func (.func sf) #[] sb] (ρ.t 44))) wr3 dj ∧ Hid (shiftDown lt j dj = shiftDown lt (kx - 1) (swp dk kx (kx - 1))))
                case atStart => exact ⟨kx - 1, (swp dk kx (kx - 1)), by congr 1; omega, Nat.le_refl _, Nat.le_refl _, hA2, rfl⟩
                case round =>
                  clear hA2
                  obtain ⟨j, dj, rfl, hjk, hg3, hB, HDn⟩ := hrel
                  obtain ⟨d0, _⟩ := hB.box hblk
                  by_cases hj1 : 1 ≤ j
                  · have hj1z : (1 : Int) ≤ (j : Int) := by omega
                    have hl2 := S.less (j : Int) ((j : Int) - 1) j (j - 1) rfl (by omega) hB.inv (by omega) (by omega)
                    cases hlv2 : lt dj[j]! dj[j - 1]! with
                    | true =>
                      rw [hlv2] at hl2
                      go_wp2_with (go_at_fn g; refine hl2.mono ?_; rintro e w3 ⟨rfl, hg3w⟩; have hB1 := hB.grow S hg3w; obtain ⟨_, d1⟩ := hB1.box hblk; obtain ⟨w4, hs4, hI4, hg4w⟩ := S.swap (j : Int) ((j : Int) - 1) j (j - 1) rfl (by omega) hB1.inv (by omega) (by omega))
                      go_roundg (j - 1)
                      case measure => omega
                      case rel => exact ⟨j - 1, swp dj j (j - 1), by congr 1; omega, by omega, Nat.le_refl _, hB1.turn hI4 hg4w, (show Hid _ from by rw [← HDn.out, shiftDown_go lt j dj hj1 hlv2]; exact rfl)⟩
                    | false =>
                      rw [hlv2] at hl2
                      have HD : Hid (fixDown lt a kx (swp dk kx (kx - 1)) = dj) := by show _ = _; unfold fixDown; rw [if_pos hka, ← HDn.out, shiftDown_stop lt j dj (Or.inr hlv2)]
                      by_cases hbk : b - kx ≥ 2
                      · have hbkz : (2 : Int) ≤ (b : Int) - (kx : Int) := by omega
                        go_wp2_with (go_at_fn g; refine hl2.mono ?_; rintro e w3 ⟨rfl, hg3w⟩; have hB1 := hB.grow S hg3w)
                        have hC0 := hB1
                        go_loopg [10] (b - (kx + 1)) (fun g4 vj wr4 => ∃ (ju : Nat) (du : Array α), vj = .int .i64 ju ∧ kx + 1 ≤ ju ∧ ju ≤ b ∧ b - ju ≤ g4 ∧ SrtAt I blk (w.alloc (.cells #[.func (.func g) #[] lb, .func (.func sf) #[] sb] (ρ.t 44))) wr4 du ∧ Hid (shiftUp lt b ju du = shiftUp lt b (kx + 1) dj))
                        case atStart => exact ⟨kx + 1, dj, by go_num, Nat.le_refl _, by omega, Nat.le_refl _, hC0, rfl⟩
                        case round =>
                          clear hC0
                          obtain ⟨ju, du, rfl, hkj, hjb, hg4, hC, HU⟩ := hrel
                          obtain ⟨e0, _⟩ := hC.box hblk
                          by_cases hjb' : ju < b
                          · have hjz : (ju : Int) < (b : Int) := by omega
                            have hl3 := S.less (ju : Int) ((ju : Int) - 1) ju (ju - 1) rfl (by omega) hC.inv (by omega) (by omega)
                            cases hlv3 : lt du[ju]! du[ju - 1]! with
                            | true =>
                              rw [hlv3] at hl3
                              go_wp2_with (go_at_fn g; refine hl3.mono ?_; rintro e w7 ⟨rfl, hg7⟩; have hC1 := hC.grow S hg7; obtain ⟨_, e1⟩ := hC1.box hblk; obtain ⟨w8, hs8, hI8, hg8⟩ := S.swap (ju : Int) ((ju : Int) - 1) ju (ju - 1) rfl (by omega) hC1.inv (by omega) (by omega))
                              go_roundg (b - (ju + 1))
                              case measure => omega
                              case rel => exact ⟨ju + 1, swp du ju (ju - 1), by go_num, by omega, by omega, Nat.le_refl _, hC1.turn hI8 hg8, (show Hid _ from by rw [← HU.out, shiftUp_go lt b ju du hjb' hlv3]; exact rfl)⟩
                            | false =>
                              rw [hlv3] at hl3
                              go_wp2_with (go_at_fn g; refine hl3.mono ?_; rintro e w7 ⟨rfl, hg7⟩; have hC1 := hC.grow S hg7)
                              go_roundg (5 - (s + 1))
                              case measure => omega
                              case rel => exact ⟨kx, s + 1, du, rfl, by go_num, by omega, Nat.le_refl _, by omega, by omega, hC1, (show Hid _ from by rw [← HO.out, pi_go lt a b s i kx dk hs HK.out (by omega) h50, HD.out, show fixUp lt b kx dj = du from by unfold fixUp; rw [if_pos hbk, ← HU.out, shiftUp_stop lt b ju du (Or.inr hlv3)]]; exact rfl)⟩
                          · have hjz : ¬ (ju : Int) < (b : Int) := by omega
                            go_wp2
                            go_roundg (5 - (s + 1))
                            case measure => omega
                            case rel => exact ⟨kx, s + 1, du, rfl, by go_num, by omega, Nat.le_refl _, by omega, by omega, hC, (show Hid _ from by rw [← HO.out, pi_go lt a b s i kx dk hs HK.out (by omega) h50, HD.out, show fixUp lt b kx dj = du from by unfold fixUp; rw [if_pos hbk, ← HU.out, shiftUp_stop lt b ju du (Or.inl hjb')]]; exact rfl)⟩
                      · have hbkz : ¬ (2 : Int) ≤ (b : Int) - (kx : Int) := by omega
                        go_wp2_with (go_at_fn g; refine hl2.mono ?_; rintro e w3 ⟨rfl, hg3w⟩; have hB1 := hB.grow S hg3w)
                        go_roundg (5 - (s + 1))
                        case measure => omega
                        case rel => exact ⟨kx, s + 1, dj, rfl, by go_num, by omega, Nat.le_refl _, by omega, by omega, hB1, (show Hid _ from by rw [← HO.out, pi_go lt a b s i kx dk hs HK.out (by omega) h50, HD.out, show fixUp lt b kx dj = dj from by unfold fixUp; rw [if_neg hbk]]; exact rfl)⟩
                  · have hj1z : ¬ (1 : Int) ≤ (j : Int) := by omega
                    have HD : Hid (fixDown lt a kx (swp dk kx (kx - 1)) = dj) := by show _ = _; unfold fixDown; rw [if_pos hka, ← HDn.out, shiftDown_stop lt j dj (Or.inl (by omega))]
                    by_cases hbk : b - kx ≥ 2
                    · have hbkz : (2 : Int) ≤ (b : Int) - (kx : Int) := by omega
                      go_wp2
                      have hC0 := hB
                      go_loopg [10] (b - (kx + 1)) (fun g4 vj wr4 => ∃ (ju : Nat) (du : Array α), vj = .int .i64 ju ∧ kx + 1 ≤ ju ∧ ju ≤ b ∧ b - ju ≤ g4 ∧ SrtAt I blk (w.alloc (.cells #[.func (.func g) #[] lb, .func (.func sf) #[] sb] (ρ.t 44))) wr4 du ∧ Hid (shiftUp lt b ju du = shiftUp lt b (kx + 1) dj))
                      case atStart => exact ⟨kx + 1, dj, by go_num, Nat.le_refl _, by omega, Nat.le_refl _, hC0, rfl⟩
                      case round =>
                        clear hC0
                        obtain ⟨ju, du, rfl, hkj, hjb, hg4, hC, HU⟩ := hrel
                        obtain ⟨e0, _⟩ := hC.box hblk
                        by_cases hjb' : ju < b
                        · have hjz : (ju : Int) < (b : Int) := by omega
                          have hl3 := S.less (ju : Int) ((ju : Int) - 1) ju (ju - 1) rfl (by omega) hC.inv (by omega) (by omega)
                          cases hlv3 : lt du[ju]! du[ju - 1]! with
                          | true =>
                            rw [hlv3] at hl3
                            go_wp2_with (go_at_fn g; refine hl3.mono ?_; rintro e w7 ⟨rfl, hg7⟩; have hC1 := hC.grow S hg7; obtain ⟨_, e1⟩ := hC1.box hblk; obtain ⟨w8, hs8, hI8, hg8⟩ := S.swap (ju : Int) ((ju : Int) - 1) ju (ju - 1) rfl (by omega) hC1.inv (by omega) (by omega))
                            go_roundg (b - (ju + 1))
                            case measure => omega
                            case rel => exact ⟨ju + 1, swp du ju (ju - 1), by go_num, by omega, by omega, Nat.le_refl _, hC1.turn hI8 hg8, (show Hid _ from by rw [← HU.out, shiftUp_go lt b ju du hjb' hlv3]; exact rfl)⟩
                          | false =>
                            rw [hlv3] at hl3
                            go_wp2_with (go_at_fn g; refine hl3.mono ?_; rintro e w7 ⟨rfl, hg7⟩; have hC1 := hC.grow S hg7)
                            go_roundg (5 - (s + 1))
                            case measure => omega
                            case rel => exact ⟨kx, s + 1, du, rfl, by go_num, by omega, Nat.le_refl _, by omega, by omega, hC1, (show Hid _ from by rw [← HO.out, pi_go lt a b s i kx dk hs HK.out (by omega) h50, HD.out, show fixUp lt b kx dj = du from by unfold fixUp; rw [if_pos hbk, ← HU.out, shiftUp_stop lt b ju du (Or.inr hlv3)]]; exact rfl)⟩
                        · have hjz : ¬ (ju : Int) < (b : Int) := by omega
                          go_wp2
                          go_roundg (5 - (s + 1))
                          case measure => omega
                          case rel => exact ⟨kx, s + 1, du, rfl, by go_num, by omega, Nat.le_refl _, by omega, by omega, hC, (show Hid _ from by rw [← HO.out, pi_go lt a b s i kx dk hs HK.out (by omega) h50, HD.out, show fixUp lt b kx dj = du from by unfold fixUp; rw [if_pos hbk, ← HU.out, shiftUp_stop lt b ju du (Or.inl hjb')]]; exact rfl)⟩
                    · have hbkz : ¬ (2 : Int) ≤ (b : Int) - (kx : Int) := by omega
                      go_wp2
                      go_roundg (5 - (s + 1))
                      case measure => omega
                      case rel => exact ⟨kx, s + 1, dj, rfl, by go_num, by omega, Nat.le_refl _, by omega, by omega, hB, (show Hid _ from by rw [← HO.out, pi_go lt a b s i kx dk hs HK.out (by omega) h50, HD.out, show fixUp lt b kx dj = dj from by unfold fixUp; rw [if_neg hbk]]; exact rfl)⟩
              · have hkaz : ¬ (2 : Int) ≤ (kx : Int) - (a : Int) := by omega
                have HD : Hid (fixDown lt a kx (swp dk kx (kx - 1)) = (swp dk kx (kx - 1))) := by show _ = _; unfold fixDown; rw [if_neg hka]
                by_cases hbk : b - kx ≥ 2
                · have hbkz : (2 : Int) ≤ (b : Int) - (kx : Int) := by omega
                  go_wp2_with (go_at_fn g; refine hl.mono ?_; rintro e w1 ⟨rfl, hw1⟩; have hA1 := hA.grow S hw1; obtain ⟨_, c1⟩ := hA1.box hblk; obtain ⟨w2, hs2, hI2, hg2w⟩ := S.swap (kx : Int) ((kx : Int) - 1) kx (kx - 1) rfl (by omega) hA1.inv (by omega) (by omega))
                  have hC0 := (hA1.turn hI2 hg2w)
                  go_loopg [10] (b - (kx + 1)) (fun g4 vj wr4 => ∃ (ju : Nat) (du : Array α), vj = .int .i64 ju ∧ kx + 1 ≤ ju ∧ ju ≤ b ∧ b - ju ≤ g4 ∧ SrtAt I blk (w.alloc (.cells #[.func (.func g) #[] lb, .func (.func sf) #[] sb] (ρ.t 44))) wr4 du ∧ Hid (shiftUp lt b ju du = shiftUp lt b (kx + 1) (swp dk kx (kx - 1))))
                  case atStart => exact ⟨kx + 1, (swp dk kx (kx - 1)), by go_num, Nat.le_refl _, by omega, Nat.le_refl _, hC0, rfl⟩
                  case round =>
                    clear hC0
                    obtain ⟨ju, du, rfl, hkj, hjb, hg4, hC, HU⟩ := hrel
                    obtain ⟨e0, _⟩ := hC.box hblk
                    by_cases hjb' : ju < b
                    · have hjz : (ju : Int) < (b : Int) := by omega
                      have hl3 := S.less (ju : Int) ((ju : Int) - 1) ju (ju - 1) rfl (by omega) hC.inv (by omega) (by omega)
                      cases hlv3 : lt du[ju]! du[ju - 1]! with
                      | true =>
                        rw [hlv3] at hl3
                        go_wp2_with (go_at_fn g; refine hl3.mono ?_; rintro e w7 ⟨rfl, hg7⟩; have hC1 := hC.grow S hg7; obtain ⟨_, e1⟩ := hC1.box hblk; obtain ⟨w8, hs8, hI8, hg8⟩ := S.swap (ju : Int) ((ju : Int) - 1) ju (ju - 1) rfl (by omega) hC1.inv (by omega) (by omega))
                        go_roundg (b - (ju + 1))
                        case measure => omega
                        case rel => exact ⟨ju + 1, swp du ju (ju - 1), by go_num, by omega, by omega, Nat.le_refl _, hC1.turn hI8 hg8, (show Hid _ from by rw [← HU.out, shiftUp_go lt b ju du hjb' hlv3]; exact rfl)⟩
                      | false =>
                        rw [hlv3] at hl3
                        go_wp2_with (go_at_fn g; refine hl3.mono ?_; rintro e w7 ⟨rfl, hg7⟩; have hC1 := hC.grow S hg7)
                        go_roundg (5 - (s + 1))
                        case measure => omega
                        case rel => exact ⟨kx, s + 1, du, rfl, by go_num, by omega, Nat.le_refl _, by omega, by omega, hC1, (show Hid _ from by rw [← HO.out, pi_go lt a b s i kx dk hs HK.out (by omega) h50, HD.out, show fixUp lt b kx (swp dk kx (kx - 1)) = du from by unfold fixUp; rw [if_pos hbk, ← HU.out, shiftUp_stop lt b ju du (Or.inr hlv3)]]; exact rfl)⟩
                    · have hjz : ¬ (ju : Int) < (b : Int) := by omega
                      go_wp2
                      go_roundg (5 - (s + 1))
                      case measure => omega
                      case rel => exact ⟨kx, s + 1, du, rfl, by go_num, by omega, Nat.le_refl _, by omega, by omega, hC, (show Hid _ from by rw [← HO.out, pi_go lt a b s i kx dk hs HK.out (by omega) h50, HD.out, show fixUp lt b kx (swp dk kx (kx - 1)) = du from by unfold fixUp; rw [if_pos hbk, ← HU.out, shiftUp_stop lt b ju du (Or.inl hjb')]]; exact rfl)⟩
                · exfalso; omega
        · obtain rfl : kx = b := by omega
          have hkz : ¬ (kx : Int) < (kx : Int) := by omega
          go_wp2
          have hv : Sort.partialInsertionSort lt d a kx = (dk, true) := by
            unfold Sort.partialInsertionSort
            rw [← HO.out, pi_true lt a kx s i dk hs (by rw [← HSc.out, scanSorted_stop lt dk kx kx (Or.inl (by omega))])]
          rw [hv]
          go_ret
          exact ⟨rfl, hA.inv, hA.off⟩
    · obtain rfl : s = 5 := by omega
      go_wp2
      have hv : Sort.partialInsertionSort lt d a b = (dk, false) := by
        unfold Sort.partialInsertionSort
        rw [← HO.out, pi_end]
      rw [hv]
      go_ret
      exact ⟨rfl, hA0.inv, hA0.off⟩
end Go.Proofs.YtcbcjefefmbccabGreatDoor
namespace Go.Proofs.YtcbcjefefmbccabGreatDoor
open Go.Shelf Go.RowKit Go.Lib Go.Sort
variable {P : Program} {ρ : Ren} {α : Type} [Inhabited α] {lt : α → α → Bool} {g : Nat} {lb : Array Value} {sf : Nat} {sb : Array Value} {blk n n0 : Nat} {I : World → Array α → Prop}

set_option maxHeartbeats 12800000 in
set_option maxRecDepth 1000000 in
theorem srt_pdq (L : LaysGg.n14 P ρ) (S : Srt P lt g lb sf sb blk n n0 I) (hO : SWO lt) (hsz : n < 4611686018427387904) : ∀ (N a b limit : Nat) (d : Array α) (w : World), b - a < N → I w d → a ≤ b → b ≤ n → limit < 4611686018427387904 → Sort.Below lt a b d →
    Calls P (ρ.f 14) #[.agg #[.func (.func g) #[] lb, .func (.func sf) #[] sb], .int .i64 a, .int .i64 b, .int .i64 limit] w fun e w' => e = .returned (.tuple #[]) ∧ I w' (pdq lt d a b limit true true) ∧ w.grownBy w' (some blk) := by
  have mixed := L.mixed; have t0 := L.t0; have a0 := L.a0; have z0 := L.z0; have v0 := L.v0; have t3 := L.t3; have a3 := L.a3; have z3 := L.z3; have v3 := L.v3; have t4 := L.t4; have a4 := L.a4; have z4 := L.z4; have v4 := L.v4; have t5 := L.t5; have a5 := L.a5; have z5 := L.z5; have v5 := L.v5; have t9 := L.t9; have a9 := L.a9; have z9 := L.z9; have v9 := L.v9; have t26 := L.t26; have a26 := L.a26; have z26 := L.z26; have v26 := L.v26; have t37 := L.t37; have a37 := L.a37; have z37 := L.z37; have v37 := L.v37; have t41 := L.t41; have a41 := L.a41; have z41 := L.z41; have v41 := L.v41; have t44 := L.t44; have a44 := L.a44; have z44 := L.z44; have v44 := L.v44; have t49 := L.t49; have a49 := L.a49; have z49 := L.z49; have v49 := L.v49; have t51 := L.t51; have a51 := L.a51; have z51 := L.z51; have v51 := L.v51; have t53 := L.t53; have a53 := L.a53; have z53 := L.z53; have v53 := L.v53; have t54 := L.t54; have a54 := L.a54; have z54 := L.z54; have v54 := L.v54; have t58 := L.t58; have a58 := L.a58; have z58 := L.z58; have v58 := L.v58; have t60 := L.t60; have a60 := L.a60; have z60 := L.z60; have v60 := L.v60; have t64 := L.t64; have a64 := L.a64; have z64 := L.z64; have v64 := L.v64; have t66 := L.t66; have a66 := L.a66; have z66 := L.z66; have v66 := L.v66; have t67 := L.t67; have a67 := L.a67; have z67 := L.z67; have v67 := L.v67
  have u44 := run_underlying L.t44
  have eg := S.eg
  have e26 : ∀ args w, (callFunc (ρ.f 26) args).run P w = .ok (.enter (ρ.f 26) args) w := enters_of L.f26 (by kernel_rfl) rfl
  have e27 : ∀ args w, (callFunc (ρ.f 27) args).run P w = .ok (.enter (ρ.f 27) args) w := enters_of L.f27 (by kernel_rfl) rfl
  have e28 : ∀ args w, (callFunc (ρ.f 28) args).run P w = .ok (.enter (ρ.f 28) args) w := enters_of L.f28 (by kernel_rfl) rfl
  have e29 : ∀ args w, (callFunc (ρ.f 29) args).run P w = .ok (.enter (ρ.f 29) args) w := enters_of L.f29 (by kernel_rfl) rfl
  have e30 : ∀ args w, (callFunc (ρ.f 30) args).run P w = .ok (.enter (ρ.f 30) args) w := enters_of L.f30 (by kernel_rfl) rfl
  have e31 : ∀ args w, (callFunc (ρ.f 31) args).run P w = .ok (.enter (ρ.f 31) args) w := enters_of L.f31 (by kernel_rfl) rfl
  have e32 : ∀ args w, (callFunc (ρ.f 32) args).run P w = .ok (.enter (ρ.f 32) args) w := enters_of L.f32 (by kernel_rfl) rfl
  have e33 : ∀ args w, (callFunc (ρ.f 33) args).run P w = .ok (.enter (ρ.f 33) args) w := enters_of L.f33 (by kernel_rfl) rfl
  have e14 : ∀ args w, (callFunc (ρ.f 14) args).run P w = .ok (.enter (ρ.f 14) args) w := enters_of L.f14 (by kernel_rfl) rfl
  intro N
  induction N with
  | zero => intro _ _ _ _ _ h; exact absurd h (Nat.not_lt_zero _)
  | succ N ih =>
    intro a b limit d w hN hI hab hb hlimit hBel0
    have hblk := S.blt hI
    have A0 : SrtAt I blk (w.alloc (.cells #[.func (.func g) #[] lb, .func (.func sf) #[] sb] (ρ.t 44))) (w.alloc (.cells #[.func (.func g) #[] lb, .func (.func sf) #[] sb] (ρ.t 44))) d := .start (S.keep hI (World.grownBy_alloc w _ none))
    go_enter L.f14, BodyGg.n14_ntmps ρ
    go_wp2
    go_loopg [1, 2, 3, 8, 9] (b - a) (fun kx s1 s2 s3 s8 s9 wr => ∃ (a' b' lim : Nat) (wb wp : Bool) (dk : Array α), s1 = .int .i64 a' ∧ s2 = .int .i64 b' ∧ s3 = .int .i64 lim ∧ s8 = .bool wb ∧ s9 = .bool wp ∧
      a' ≤ b' ∧ b' ≤ n ∧ b' - a' ≤ kx ∧ kx ≤ b - a ∧ lim ≤ limit ∧ Sort.Below lt a' b' dk ∧ SrtAt I blk (w.alloc (.cells #[.func (.func g) #[] lb, .func (.func sf) #[] sb] (ρ.t 44))) wr dk ∧ pdq lt dk a' b' lim wb wp = pdq lt d a b limit true true)
    case atStart => exact ⟨a, b, limit, true, true, d, rfl, rfl, rfl, rfl, rfl, hab, hb, Nat.le_refl _, Nat.le_refl _, Nat.le_refl _, hBel0, A0, rfl⟩
    case round =>
      clear A0
      obtain ⟨a', b', lim, wb, wp, dk, rfl, rfl, rfl, rfl, rfl, hab', hb', hkx, hkN, hlim, hBel, hA, heq⟩ := hrel
      have hds := S.size hA.inv
      obtain ⟨x0, x1⟩ := hA.box hblk
      have A : Aside (pdq lt dk a' b' lim wb wp = pdq lt d a b limit true true) := heq
      clear heq
      by_cases h12 : b' - a' ≤ 12
      · have h12z : (b' : Int) - (a' : Int) ≤ 12 := by omega
        have hc := srt_insertion (ρ := ρ) { L with } S a' b' dk wr hA.inv hab' hb' hsz
        go_wp2_with (go_at_fn (ρ.f 26); refine hc.mono ?_; rintro e w1 ⟨rfl, hI1, hg1⟩)
        (try simp only [Exit.inBlock, Exit.then]); refine bodyPost_ret (results_none rfl _ _ _) rfl ?_
        rw [← A.out, pdq_small h12]
        have hA1 := hA.turn hI1 hg1
        exact ⟨rfl, hA1.inv, hA1.off⟩
      · have h12z : ¬ ((b' : Int) - (a' : Int) ≤ 12) := by omega
        by_cases hl0 : lim = 0
        · subst hl0
          have hc := srt_heap (ρ := ρ) { L with } S a' b' dk wr hA.inv hab' hb' hsz
          go_wp2_with (go_at_fn (ρ.f 27); refine hc.mono ?_; rintro e w1 ⟨rfl, hI1, hg1⟩)
          (try simp only [Exit.inBlock, Exit.then]); refine bodyPost_ret (results_none rfl _ _ _) rfl ?_
          rw [← A.out, pdq_heap h12 rfl]
          have hA1 := hA.turn hI1 hg1
          exact ⟨rfl, hA1.inv, hA1.off⟩
        · have hl0z : ¬ ((lim : Int) = 0) := by omega
          obtain ⟨s1, B1, hc1, s2, B2, hpv, s3, B3⟩ := rd_facts (lt := lt) (limit := lim) (wb := wb) (wp := wp) hO partialInsertionSort_holds reverseRange_holds (show a' < b' by omega) (show b' ≤ dk.size by omega) hBel
          go_upto_if 35 with fail
          go_cut [3] from 19 (fun s3 wc => s3 = .int .i64 (rd lt dk a' b' lim wb wp).lim ∧ SrtAt I blk (w.alloc (.cells #[.func (.func g) #[] lb, .func (.func sf) #[] sb] (ρ.t 44))) wc (rd lt dk a' b' lim wb wp).d1)
          case first =>
            cases wb
            · have hc := srt_break (ρ := ρ) { L with } S a' b' dk wr hA.inv hab' hb' hsz
              go_wp2_with (go_at_fn (ρ.f 28); refine hc.mono ?_; rintro e w1 ⟨rfl, hI1, hg1⟩)
              go_meet
              case rel =>
                refine ⟨?_, hA.turn hI1 hg1⟩
                show Value.int .i64 ((lim : Int) - 1) = Value.int .i64 ((lim - 1 : Nat) : Int)
                congr 1
                omega
            · go_wp2_with fail
              go_meet
              case rel => exact ⟨rfl, hA⟩
          case rest =>
            obtain ⟨rfl, hA1⟩ := hcut
            clear x0 x1 hA
            obtain ⟨y0, y1⟩ := hA1.box hblk
            have hc17 : Calls P (ρ.f 29) #[.agg #[.func (.func g) #[] lb, .func (.func sf) #[] sb], .int .i64 a', .int .i64 b'] wc fun e w' => e = .returned (.tuple #[.int .i64 (rd lt dk a' b' lim wb wp).c.1, .int .i64 (hintCode (rd lt dk a' b' lim wb wp).c.2)]) ∧ wc.grownBy w' none := srt_pivot (ρ := ρ) { L with } S a' b' (rd lt dk a' b' lim wb wp).d1 wc hA1.inv (by omega) hb' hsz
            go_upto_if 50 with (go_at_fn (ρ.f 29); refine hc17.mono ?_; rintro e w2 ⟨rfl, hw2⟩)
            have hA2 := hA1.grow S hw2
            clear y0 y1 hA1 hw2 hc17
            obtain ⟨z0, z1⟩ := hA2.box hblk
            go_cut [11, 12] from 19 (fun s11 s12 wc => s11 = .int .i64 (rd lt dk a' b' lim wb wp).pivot ∧ s12 = .int .i64 (hintCode (rd lt dk a' b' lim wb wp).hint) ∧ SrtAt I blk (w.alloc (.cells #[.func (.func g) #[] lb, .func (.func sf) #[] sb] (ρ.t 44))) wc (rd lt dk a' b' lim wb wp).d2)
            case first =>
              by_cases hh : (rd lt dk a' b' lim wb wp).c.2 = .decreasing
              · have hcode : hintCode (rd lt dk a' b' lim wb wp).c.2 = 2 := by rw [hh]; rfl
                obtain ⟨e2, epv, eht⟩ := rd_dec hh
                have hc18 := srt_reverse (ρ := ρ) { L with } S a' b' (rd lt dk a' b' lim wb wp).d1 w2 hA2.inv hab' hb' hsz
                go_wp2_with (go_at_fn (ρ.f 30); refine hc18.mono ?_; rintro e w3 ⟨rfl, hI3, hg3⟩)
                go_meet
                case rel =>
                  refine ⟨?_, by rw [eht]; rfl, by rw [e2]; exact hA2.turn hI3 hg3⟩
                  rw [epv]
                  congr 1
                  omega
              · have hcode : ¬ (hintCode (rd lt dk a' b' lim wb wp).c.2 = 2) := fun h => hh (hintCode_two h)
                obtain ⟨e2, epv, eht⟩ := rd_not hh
                go_wp2_with fail
                go_meet
                case rel => exact ⟨by rw [epv], by rw [eht], by rw [e2]; exact hA2⟩
            case rest =>
              obtain ⟨rfl, rfl, hA3⟩ := hcut
              clear z0 z1 hA2
              obtain ⟨v0, v1⟩ := hA3.box hblk
              go_upto_region 16 with fail
              go_cut [12, 68] from 19 (fun s12 s68 wx => s12 = .int .i64 (hintCode (rd lt dk a' b' lim wb wp).hint) ∧ s68 = .bool (wb && wp && decide ((rd lt dk a' b' lim wb wp).hint = .increasing)) ∧ wx = wc)
              case first =>
                cases wb <;> cases wp <;> cases hh3 : (rd lt dk a' b' lim _ _).hint <;>
                  (have hcode3 := congrArg hintCode hh3
                   simp only [hintCode] at hcode3
                   go_wp2_with fail
                   go_meet
                   exact ⟨by simp [hh3, hintCode], by simp [hh3, hintCode], rfl⟩)
              case rest =>
                obtain ⟨rfl, rfl, rfl⟩ := hcut
                go_upto_if 68 with fail
                go_cut [] from 19 (fun wx => (rd lt dk a' b' lim wb wp).pi.2 = false ∧ SrtAt I blk (w.alloc (.cells #[.func (.func g) #[] lb, .func (.func sf) #[] sb] (ρ.t 44))) wx (rd lt dk a' b' lim wb wp).pi.1)
                case first =>
                  cases h68 : (wb && wp && decide ((rd lt dk a' b' lim wb wp).hint = .increasing))
                  · have epi := rd_pi_no h68
                    go_wp2_with fail
                    go_meet
                    case rel => exact ⟨by rw [epi], by rw [epi]; exact hA3⟩
                  · have epi := rd_pi_yes h68
                    have hc19 := srt_partial (ρ := ρ) { L with } S a' b' (rd lt dk a' b' lim wb wp).d2 wc hA3.inv (by omega) hb' hsz
                    rw [← epi] at hc19
                    go_wp2_with (go_at_fn (ρ.f 31); refine hc19.mono ?_; rintro e w4 ⟨rfl, hI4, hg4⟩)
                    all_goals first
                      | (have hp2 : (rd lt dk a' b' lim wb wp).pi.2 = false := by rw [epi]; assumption
                         go_meet
                         exact ⟨hp2, hA3.turn hI4 hg4⟩)
                      | (have hp2 : (rd lt dk a' b' lim wb wp).pi.2 = true := by rw [epi]; assumption
                         (try simp only [Exit.inBlock, Exit.then]); refine bodyPost_ret (results_none rfl _ _ _) rfl ?_
                         rw [← A.out, pdq_done h12 hl0 hp2]
                         exact ⟨rfl, hI4, (hA3.turn hI4 hg4).off⟩)
                case rest =>
                  obtain ⟨hp2, hA5⟩ := hcut
                  clear v0 v1 hA3
                  have h5s := S.size hA5.inv
                  obtain ⟨t0, t1⟩ := hA5.box hblk
                  go_upto_region 18 with fail
                  go_cut [83] from 19 (fun s83 wx => s83 = .bool (decide (a' > 0) && !lt (rd lt dk a' b' lim wb wp).pi.1[a' - 1]! (rd lt dk a' b' lim wb wp).pi.1[(rd lt dk a' b' lim wb wp).pivot]!) ∧ SrtAt I blk (w.alloc (.cells #[.func (.func g) #[] lb, .func (.func sf) #[] sb] (ρ.t 44))) wx (rd lt dk a' b' lim wb wp).pi.1)
                  case first =>
                    rcases Nat.eq_zero_or_pos a' with ha0 | ha0
                    · have ha0z : decide ((a' : Int) > 0) = false := decide_eq_false (by omega)
                      go_wp2_with fail
                      go_meet
                      case rel => exact ⟨by simp [ha0], hA5⟩
                    · have ha0z : (a' : Int) > 0 := by omega
                      have hl := S.less ((a' : Int) - 1) ((rd lt dk a' b' lim wb wp).pivot : Int) (a' - 1) (rd lt dk a' b' lim wb wp).pivot (by omega) rfl hA5.inv (by omega) (by omega)
                      cases hlv : lt (rd lt dk a' b' lim wb wp).pi.1[a' - 1]! (rd lt dk a' b' lim wb wp).pi.1[(rd lt dk a' b' lim wb wp).pivot]! <;>
                        (rw [hlv] at hl
                         go_wp2_with (go_at_fn g; refine hl.mono ?_; rintro e w6 ⟨rfl, hg6⟩)
                         go_meet
                         exact ⟨by simp [ha0, hlv], hA5.grow S hg6⟩)
                  case rest =>
                    obtain ⟨rfl, hA6⟩ := hcut
                    clear t0 t1 hA5
                    obtain ⟨q0, q1⟩ := hA6.box hblk
                    cases h87 : (decide (a' > 0) && !lt (rd lt dk a' b' lim wb wp).pi.1[a' - 1]! (rd lt dk a' b' lim wb wp).pi.1[(rd lt dk a' b' lim wb wp).pivot]!)
                    · obtain ⟨mid, ap, d4, hx⟩ : ∃ mid ap d4, partition lt (rd lt dk a' b' lim wb wp).pi.1 a' b' (rd lt dk a' b' lim wb wp).pivot = (mid, ap, d4) := ⟨(partition lt (rd lt dk a' b' lim wb wp).pi.1 a' b' (rd lt dk a' b' lim wb wp).pivot).1, (partition lt (rd lt dk a' b' lim wb wp).pi.1 a' b' (rd lt dk a' b' lim wb wp).pivot).2.1, (partition lt (rd lt dk a' b' lim wb wp).pi.1 a' b' (rd lt dk a' b' lim wb wp).pivot).2.2, rfl⟩
                      obtain ⟨r1, r2, r3, r4, r5, r6, r7⟩ := round_part hO (partition_holds lt) hpv.1 hpv.2 (show b' ≤ (rd lt dk a' b' lim wb wp).pi.1.size by omega) B3 hx
                      have hc22 := srt_part (ρ := ρ) { L with } S a' b' (rd lt dk a' b' lim wb wp).pivot (rd lt dk a' b' lim wb wp).pi.1 wc hA6.inv hpv.1 hpv.2 hb' hsz
                      rw [hx] at hc22
                      have X : Aside (partition lt (rd lt dk a' b' lim wb wp).pi.1 a' b' (rd lt dk a' b' lim wb wp).pivot = (mid, ap, d4)) := hx
                      clear hx
                      go_upto_if 109 with (go_at_fn (ρ.f 33); refine hc22.mono ?_; rintro e w7 ⟨rfl, hI7, hg7⟩)
                      have hx := X.out
                      have hA7 := hA6.turn hI7 hg7
                      clear q0 q1 hA6
                      obtain ⟨p0, p1⟩ := hA7.box hblk
                      by_cases h4 : mid - a' < b' - mid
                      · have h4z : (mid : Int) - (a' : Int) < (b' : Int) - (mid : Int) := by omega
                        have hih := ih a' mid (rd lt dk a' b' lim wb wp).lim d4 w7 (by omega) hA7.inv (by omega) (by omega) (Nat.lt_of_le_of_lt (Nat.le_trans rd_lim_le hlim) hlimit) r4
                        obtain ⟨pL, sL⟩ := pdq_sorts lt hO d4 a' mid (rd lt dk a' b' lim wb wp).lim true true (by omega) (by omega) r4
                        go_wp2_with (go_at_fn (ρ.f 14); refine hih.mono ?_; rintro e w8 ⟨rfl, hI8, hg8⟩)
                        go_roundg (b' - (mid + 1))
                        case measure => omega
                        case rel =>
                          refine ⟨mid + 1, b', (rd lt dk a' b' lim wb wp).lim, decide (mid - a' ≥ (b' - a') / 8), ap, pdq lt d4 a' mid (rd lt dk a' b' lim wb wp).lim true true, by simp, rfl, rfl, ?_, rfl, by omega, by omega, Nat.le_refl _, by omega, Nat.le_trans rd_lim_le hlim, (r6 _ pL sL).1, hA7.turn hI8 hg8, ?_⟩
                          · exact congrArg Value.bool (eighth (by omega) (by omega))
                          · rw [← A.out, pdq_left h12 hl0 hp2 h87 (by rw [hx]; exact ⟨r1, r2⟩) (by rw [hx]; exact h4), hx]
                      · have h4z : ¬ ((mid : Int) - (a' : Int) < (b' : Int) - (mid : Int)) := by omega
                        have hih := ih (mid + 1) b' (rd lt dk a' b' lim wb wp).lim d4 w7 (by omega) hA7.inv (by omega) (by omega) (Nat.lt_of_le_of_lt (Nat.le_trans rd_lim_le hlim) hlimit) r5
                        rw [show ((mid + 1 : Nat) : Int) = (mid : Int) + 1 by omega] at hih
                        obtain ⟨pL, sL⟩ := pdq_sorts lt hO d4 (mid + 1) b' (rd lt dk a' b' lim wb wp).lim true true (by omega) (by omega) r5
                        go_wp2_with (go_at_fn (ρ.f 14); refine hih.mono ?_; rintro e w8 ⟨rfl, hI8, hg8⟩)
                        go_roundg (mid - a')
                        case measure => omega
                        case rel =>
                          refine ⟨a', mid, (rd lt dk a' b' lim wb wp).lim, decide (b' - mid ≥ (b' - a') / 8), ap, pdq lt d4 (mid + 1) b' (rd lt dk a' b' lim wb wp).lim true true, rfl, rfl, rfl, ?_, rfl, by omega, by omega, Nat.le_refl _, by omega, Nat.le_trans rd_lim_le hlim, (r7 _ pL sL).1, hA7.turn hI8 hg8, ?_⟩
                          · exact congrArg Value.bool (eighth (by omega) (by omega))
                          · rw [← A.out, pdq_right h12 hl0 hp2 h87 (by rw [hx]; exact ⟨r1, r2⟩) (by rw [hx]; exact h4), hx]
                    · have h87' := h87
                      simp only [Bool.and_eq_true, decide_eq_true_eq, Bool.not_eq_true'] at h87'
                      obtain ⟨mid, d4, hx⟩ : ∃ mid d4, partitionEqual lt (rd lt dk a' b' lim wb wp).pi.1 a' b' (rd lt dk a' b' lim wb wp).pivot = (mid, d4) := ⟨(partitionEqual lt (rd lt dk a' b' lim wb wp).pi.1 a' b' (rd lt dk a' b' lim wb wp).pivot).1, (partitionEqual lt (rd lt dk a' b' lim wb wp).pi.1 a' b' (rd lt dk a' b' lim wb wp).pivot).2, rfl⟩
                      obtain ⟨r1, r2, r3, r4, _⟩ := round_eq hO (partitionEqual_holds lt) h87'.1 hpv.1 hpv.2 (show b' ≤ (rd lt dk a' b' lim wb wp).pi.1.size by omega) B3 h87'.2 hx
                      have hc21 := srt_partEq (ρ := ρ) { L with } S a' b' (rd lt dk a' b' lim wb wp).pivot (rd lt dk a' b' lim wb wp).pi.1 wc hA6.inv hpv.1 hpv.2 hb' hsz
                      rw [hx] at hc21
                      have X : Aside (partitionEqual lt (rd lt dk a' b' lim wb wp).pi.1 a' b' (rd lt dk a' b' lim wb wp).pivot = (mid, d4)) := hx
                      clear hx
                      go_wp2_with (go_at_fn (ρ.f 32); refine hc21.mono ?_; rintro e w7 ⟨rfl, hI7, hg7⟩)
                      go_roundg (b' - mid)
                      case measure => omega
                      case rel =>
                        have hx := X.out
                        exact ⟨mid, b', (rd lt dk a' b' lim wb wp).lim, wb, wp, d4, rfl, rfl, rfl, rfl, rfl, r2, hb', Nat.le_refl _, by omega, Nat.le_trans rd_lim_le hlim, r4, hA6.turn hI7 hg7, by rw [← A.out, pdq_eq h12 hl0 hp2 h87 (by rw [hx]; exact ⟨r1, r2⟩), hx]⟩
end Go.Proofs.YtcbcjefefmbccabGreatDoor
namespace Go.Proofs.YtcbcjefefmbccabGreatDoor
open Go.Shelf Go.RowKit Go.Lib Go.Sort
variable {P : Program} {ρ : Ren} {α : Type} [Inhabited α]

theorem grown_setCells (b : Nat) : ∀ (vs : List Value) (o : Nat) (w w' : World), w.grownBy w' (some b) → w.grownBy (w'.setCells b o vs) (some b)
  | [], _, _, _, h => h
  | v :: r, o, w, w', h => by rw [World.setCells]; exact grown_setCells b r (o + 1) w _ (grown_set h o v)
theorem holdsK_kept {enc : α → List Value} {k : Nat} {w w' : World} {blk off : Nat} {d : Array α} (h : HoldsK enc k w blk off d) {row : Option Nat} (hg : w.grownBy w' row) (hl : blk < w.heap.size) (hr : some blk ≠ row) : HoldsK enc k w' blk off d := fun j hj =>
  ⟨(World.cell?_of_block (w := w) (hg.block blk hl hr)).trans (h j hj).1, (World.frozen?_of_block (w := w) (hg.block blk hl hr)).trans (h j hj).2⟩

theorem srt_slice (L : LaysGg.n6 P ρ) (t e : TypeId) (i ie : TypeInfo) (hi : P.info? t = some i) (hd : i.desc = .slice e) (hpk : P.packed t = false) (hie : P.info? e = some ie) (ke : Nat) (hke : ∀ w, (Extern.Rtype.kind e).run P w = .ok ke w)
    (enc : α → List Value) (k : Nat) (hk : ∀ x, (enc x).length = k) (hs1 : ie.size = k) (hagg : ∀ w, (isAgg e).run P w = .ok true w) (h1 : ∀ x, ∀ v ∈ enc x, v.oneCell' = true) (lt : α → α → Bool) (hO : SWO lt) (g : Nat) (lb : Array Value)
    (eg : ∀ args w, (callFunc g args).run P w = .ok (.enter g args) w) (blk off c : Nat) (d : Array α) (h2 : 2 ≤ d.size) (hsz : d.size < 4611686018427387904)
    (f : Nat) (hf : P.funcs.findIdx? (·.name == "internal/reflectlite" ++ ".Swapper$" ++ toString (swapperK d.size ie ke)) = some f)
    (gS : Bool) (hx : ∀ args W, (callFunc f args).run P W = ((Extern.ReflectliteSwapper.swap gS args).run P W).andThen fun v w' => .ok (.value v) w')
    (w : World) (hblk : blk < w.heap.size) (hH : HoldsK enc k w blk off d)
    (hless : ∀ (W : World) (dk : Array α) (i j : Nat), w.grownBy W (some blk) → HoldsK enc k W blk off dk → dk.size = d.size → i < d.size → j < d.size → Calls P g (#[.int .i64 i, .int .i64 j] ++ lb) W fun e w' => e = .returned (.bool (lt dk[i]! dk[j]!)) ∧ W.grownBy w' none) :
    Calls P (ρ.f 6) #[.iface t (.slice (some ⟨blk, off, none⟩) d.size c), .func (.func g) #[] lb] w fun e w' => e = .returned (.tuple #[]) ∧ ∃ d', PermIn 0 d.size d d' ∧ SortedIn lt 0 d.size d' ∧ HoldsK enc k w' blk off d' ∧ w.grownBy w' (some blk) := by
  refine Any.sort_Slice_of_pdq L t e i ie hi hd hpk hie ke hke _ d.size c hsz f hf (.func g) #[] lb w _ ?_
  have hB : sliceBound P e ie ke (some ⟨blk, off, none⟩) d.size c = #[.slice (some ⟨blk, off, none⟩) d.size c, typeHandle P e] := by
    unfold sliceBound; rw [if_neg (swapperK_gt _ _ _ h2)]
  have hg0 : w.grownBy (sliceWorld P ρ t (some ⟨blk, off, none⟩) d.size c w) none := by
    unfold sliceWorld
    exact (World.grownBy_alloc w _ none).andThen (World.grownBy_alloc _ _ none) (fun _ hj => by cases hj)
  generalize sliceWorld P ρ t (some ⟨blk, off, none⟩) d.size c w = w0 at hg0
  rw [hB]
  have hsw := swapSwapsK_of_literal gS f hx e ie hie enc k hk hs1 hagg h1 blk off d.size c
  have S : Srt P lt g lb f #[.slice (some ⟨blk, off, none⟩) d.size c, typeHandle P e] blk d.size w.heap.size (fun W dk => w.grownBy W (some blk) ∧ HoldsK enc k W blk off dk ∧ dk.size = d.size) :=
    { eg := eg
      blt := fun h => Nat.lt_of_lt_of_le hblk h.1.size
      size := fun h => h.2.2
      keep := fun h hg => ⟨h.1.andThen hg (fun _ hj => by cases hj), holdsK_kept h.2.1 hg (Nat.lt_of_lt_of_le hblk h.1.size) (by simp), h.2.2⟩
      le := fun h => h.1.size
      keepAt := fun h hc hg => ⟨h.1.andThen hg (fun _ hj => by cases hj; exact .inl hc), holdsK_kept h.2.1 hg (Nat.lt_of_lt_of_le hblk h.1.size) (fun e => by have := Option.some.inj e; omega), h.2.2⟩
      less := fun x y i j hx hy h hi hj => by subst hx hy; exact hless _ _ i j h.1 h.2.1 h.2.2 hi hj
      swap := fun {W dk} x y i j hx hy h hi hj => by
        subst hx hy
        refine ⟨_, hsw W dk h.2.1 h.2.2 i j hi hj, ⟨h.1.andThen (grown_setCells blk _ _ _ _ (grown_setCells blk _ _ _ _ (grown_refl W _))) (fun _ hj => .inr hj), ?_, by rw [size_swp]; exact h.2.2⟩, grown_setCells blk _ _ _ _ (grown_setCells blk _ _ _ _ (grown_refl W _))⟩
        have e := putRowK_swp enc k hk W blk off dk i j (by omega) (by omega)
        rw [putRowK_self _ _ _ blk off dk h.2.1] at e
        rw [e]
        exact holdsK_putRowK _ _ _ _ _ dk _ h.2.1 (size_swp _ _ _) }
  have hlim : Lib.bitLen d.size < 4611686018427387904 := Nat.lt_of_le_of_lt (Lib.bitLen_le d.size 62 (by omega) (by omega)) (by omega)
  refine (srt_pdq (P := P) (ρ := ρ) { L with } S hO hsz (d.size + 1) 0 d.size (Lib.bitLen d.size) d w0 (by omega) ⟨hg0.but _, holdsK_kept hH hg0 hblk (by simp), rfl⟩ (Nat.zero_le _) (Nat.le_refl _) hlim (Or.inl rfl)).mono ?_
  rintro e w' ⟨rfl, ⟨hg, hh, _⟩, _⟩
  have hp := pdq_sorts lt hO d 0 d.size (Lib.bitLen d.size) true true (Nat.zero_le _) (Nat.le_refl _) (Or.inl rfl)
  exact ⟨rfl, _, hp.1, hp.2, hh, hg⟩
end Go.Proofs.YtcbcjefefmbccabGreatDoor
namespace Go.Proofs.YtcbcjefefmbccabGreatDoor
open Go.RowKit Go.Maps

theorem less_is (x y : Nat × Int) : (if ((x.1 : Nat) : Int) = ((y.1 : Nat) : Int) then decide (x.2 < y.2) else decide (((x.1 : Nat) : Int) < ((y.1 : Nat) : Int))) = lessB x y := by
  rw [Bool.eq_iff_iff, lessB_iff]
  split <;> simp <;> omega

set_option maxRecDepth 100000 in
set_option maxHeartbeats 4000000 in
theorem all1_any (Bs blk off n c i j : Nat) (x y : Nat × Int) (W : World) (hs : W.cell? ⟨Bs, 0, none⟩ = some (.slice (some ⟨blk, off, none⟩) n c)) (hi : i < n) (hj : j < n)
    (i0 : W.cell? ⟨blk, off + i * 4, none⟩ = some (.int .u32 (x.1 : Nat))) (i1 : W.cell? ⟨blk, off + i * 4 + 1, none⟩ = some (.int .i64 x.2)) (j0 : W.cell? ⟨blk, off + j * 4, none⟩ = some (.int .u32 (y.1 : Nat))) (j1 : W.cell? ⟨blk, off + j * 4 + 1, none⟩ = some (.int .i64 y.2)) :
    Calls Tryz.prog 88 #[.int .i64 i, .int .i64 j, .pointer (some ⟨Bs, 0, none⟩)] W fun e w' => e = .returned (.bool (lessB x y)) ∧ Below W.heap.size W w' := by
  have hi' : (i : Int) < (n : Int) := by omega
  have hj' : (j : Int) < (n : Int) := by omega
  have HL := less_is x y
  have HLb : Hid _ := HL
  obtain ⟨r, hr⟩ : ∃ r, lessB x y = r := ⟨_, rfl⟩
  rw [hr] at HLb ⊢
  clear HL hr
  obtain ⟨xp, xl⟩ := x
  obtain ⟨yp, yl⟩ := y
  simp only at i0 i1 j0 j1 HLb
  have HC : Hid (∀ w', Below W.heap.size W w' → w'.cell? ⟨Bs, 0, none⟩ = some (.slice (some ⟨blk, off, none⟩) n c) ∧ w'.cell? ⟨blk, off + i * 4, none⟩ = some (.int .u32 (xp : Nat)) ∧ w'.cell? ⟨blk, off + i * 4 + 1, none⟩ = some (.int .i64 xl) ∧ w'.cell? ⟨blk, off + j * 4, none⟩ = some (.int .u32 (yp : Nat)) ∧ w'.cell? ⟨blk, off + j * 4 + 1, none⟩ = some (.int .i64 yl)) := fun w' hb => ⟨(hb.cell (p := ⟨Bs, 0, none⟩) (lt_of_cell hs)).trans hs, (hb.cell (p := ⟨blk, off + i * 4, none⟩) (lt_of_cell i0)).trans i0, (hb.cell (p := ⟨blk, off + i * 4 + 1, none⟩) (lt_of_cell i0)).trans i1, (hb.cell (p := ⟨blk, off + j * 4, none⟩) (lt_of_cell i0)).trans j0, (hb.cell (p := ⟨blk, off + j * 4 + 1, none⟩) (lt_of_cell i0)).trans j1⟩
  go_enter Tryz.func88, Tryz.ntmps88
  go_wp2_with fail
  go_region_held3 (fun w' => w'.cell? ⟨Bs, 0, none⟩ = some (.slice (some ⟨blk, off, none⟩) n c) ∧ w'.cell? ⟨blk, off + i * 4, none⟩ = some (.int .u32 (xp : Nat)) ∧ w'.cell? ⟨blk, off + i * 4 + 1, none⟩ = some (.int .i64 xl) ∧ w'.cell? ⟨blk, off + j * 4, none⟩ = some (.int .u32 (yp : Nat)) ∧ w'.cell? ⟨blk, off + j * 4 + 1, none⟩ = some (.int .i64 yl)) (go_keep) (first
    | (go_at_call 87; refine (less_any _ _ _ _ _).mono ?_; rintro e w2 ⟨rfl, hb2⟩; rw [HLb.out]; have hB2 : Below W.heap.size W w2 := (Below.refl _ W).drew.trans hb2; have HB2 : Hid (Below W.heap.size W w2) := hB2; obtain ⟨z0, z1, z2, z3, z4⟩ := HC.out w2 hB2; clear hb2 hB2))
  go_wp2_with fail
  go_ret
  exact ⟨rfl, HB2.out⟩
end Go.Proofs.YtcbcjefefmbccabGreatDoor
namespace Go.Proofs.YtcbcjefefmbccabGreatDoor
open Go.RowKit Go.Maps Go.Sort

def encHd (h : Hd) : List Value := [.int .u32 (h.1.1 : Nat), .int .i64 h.1.2, .int .i64 h.2.1, .string ⟨h.2.2.toArray⟩]
def ltHd (a b : Hd) : Bool := lessB a.1 b.1
theorem swo_ltHd : SWO ltHd where
  irrefl x := lessB_irrefl x.1
  trans x y z h1 h2 := lessB_trans h1 h2
  ntrans x y z h1 h2 := by
    have n1 : ¬ (ltHd x y = true) := by rw [h1]; decide
    have n2 : ¬ (ltHd y z = true) := by rw [h2]; decide
    cases h3 : ltHd x z with
    | false => rfl
    | true =>
      unfold ltHd at *
      rw [lessB_iff] at *
      omega
theorem heldsInfo : (Tryz.prog.info? 56).map (·.desc) = some (.slice 78) := by kernel_rfl
theorem heldInfo4 : (Tryz.prog.info? 78).map (fun i => (i.size, i.hasPointers, i.bytes)) = some (4, true, 40) := by kernel_rfl
theorem heldKind (w : World) : (Extern.Rtype.kind 78).run Tryz.prog w = .ok 25 w := by kernel_rfl
theorem heldAgg (w : World) : (isAgg 78).run Tryz.prog w = .ok true w := by kernel_rfl
theorem heldsPacked : Tryz.prog.packed 56 = false := by kernel_rfl
theorem swap9 : Tryz.prog.funcs.findIdx? (·.name == "internal/reflectlite" ++ ".Swapper$" ++ toString 9) = some 191 := by kernel_rfl
theorem swap1 : Tryz.prog.funcs.findIdx? (·.name == "internal/reflectlite" ++ ".Swapper$" ++ toString 1) = some 183 := by kernel_rfl
theorem swap2 : Tryz.prog.funcs.findIdx? (·.name == "internal/reflectlite" ++ ".Swapper$" ++ toString 2) = some 184 := by kernel_rfl
theorem encHd_one (x : Hd) : ∀ v ∈ encHd x, v.oneCell' = true := by
  intro v hv
  simp only [encHd, List.mem_cons, List.not_mem_nil, or_false] at hv
  rcases hv with rfl | rfl | rfl | rfl <;> rfl
theorem holdsK_cells {w : World} {g off : Nat} {d : Array Hd} (h : HoldsK encHd 4 w g off d) {i : Nat} (hi : i < d.size) :
    w.cell? ⟨g, off + i * 4, none⟩ = some (.int .u32 (d[i].1.1 : Nat)) ∧ w.cell? ⟨g, off + i * 4 + 1, none⟩ = some (.int .i64 d[i].1.2) ∧ w.cell? ⟨g, off + i * 4 + 2, none⟩ = some (.int .i64 d[i].2.1) ∧ w.cell? ⟨g, off + i * 4 + 3, none⟩ = some (.string ⟨d[i].2.2.toArray⟩) := by
  have e : d[i]! = d[i] := getElem!_pos d i hi
  have c0 := (h.cell (i := i) (c := 0) hi (by decide)).1
  have c1 := (h.cell (i := i) (c := 1) hi (by decide)).1
  have c2 := (h.cell (i := i) (c := 2) hi (by decide)).1
  have c3 := (h.cell (i := i) (c := 3) hi (by decide)).1
  rw [e] at c0 c1 c2 c3
  exact ⟨c0, c1, c2, c3⟩
/- The row of a slice of pieces that the call owns. -/
theorem holdsK_of_row {w : World} {base g cap : Nat} {c : List Hd} (h : w.ownsRow base 78 4 (.slice (some ⟨g, 0, none⟩) c.length cap) c.length (heldCells c)) : HoldsK encHd 4 w g 0 c.toArray := by
  obtain ⟨hl, ho⟩ := h
  rcases ho with ⟨he, _⟩ | ⟨g', cap', cur, he, _, hb, h1, h2, h3, h4⟩
  · cases he
  · obtain ⟨e1, e2⟩ : g = g' ∧ cap = cap' := by simpa using he
    subst e1 e2
    intro j hj
    have hj' : j < c.length * 4 := by simpa using hj
    have hi : j / 4 < c.length := by omega
    have ef : (flatK encHd 4 c.toArray)[j]! = (encHd c[j / 4])[j % 4]! := by
      rw [get_flatK _ _ _ _ (by simpa using hj')]
      rw [getElem!_pos c.toArray (j / 4) (by simpa using hi)]
      simp
    obtain ⟨a0, a1, a2, a3⟩ := heldCells_at c (j / 4) hi
    have hv : (heldCells c)[j]? = some ((encHd c[j / 4])[j % 4]!) := by
      have : j % 4 = 0 ∨ j % 4 = 1 ∨ j % 4 = 2 ∨ j % 4 = 3 := by omega
      rcases this with hm | hm | hm | hm
      · rw [show j / 4 * 4 = j by omega] at a0; rw [a0, hm]; rfl
      · rw [show j / 4 * 4 + 1 = j by omega] at a1; rw [a1, hm]; rfl
      · rw [show j / 4 * 4 + 2 = j by omega] at a2; rw [a2, hm]; rfl
      · rw [show j / 4 * 4 + 3 = j by omega] at a3; rw [a3, hm]; rfl
    have hcur : cur.toList[j]? = some ((encHd c[j / 4])[j % 4]!) := by
      rw [← hv, ← h4, List.getElem?_take, if_pos (by omega)]
    refine ⟨?_, by simp [World.frozen?, hb]⟩
    rw [Nat.zero_add, ef]
    simp only [World.cell?, hb]
    rw [← Array.getElem?_toList, hcur]
    rfl
theorem rise_of_sorted {d : Array Hd} (hap : d.toList.Pairwise (fun p q => p.1 ≠ q.1)) (hs : SortedIn ltHd 0 d.size d) : Rise d.toList := by
  unfold Rise
  rw [List.pairwise_iff_getElem] at *
  intro i j hi hj hij
  have h1 := hs i j (Nat.zero_le _) hij (by simpa using hj)
  rw [getElem!_pos d j (by simpa using hj), getElem!_pos d i (by simpa using hi)] at h1
  have h2 := hap i j hi hj hij
  simp only [Array.getElem_toList] at h2 ⊢
  exact lessB_flip h1 (fun e => h2 e.symm)

theorem sortHelds (Bs g cap : Nat) (c : List Hd) (w : World) (hs : w.cell? ⟨Bs, 0, none⟩ = some (.slice (some ⟨g, 0, none⟩) c.length cap)) (hBs : Bs ≠ g) (hcap : c.length ≤ cap) (hg : g < w.heap.size) (hH : HoldsK encHd 4 w g 0 c.toArray) (h2 : 2 ≤ c.length) (hsz : c.length ≤ 1000) (hap : c.Pairwise (fun p q => p.1 ≠ q.1)) :
    Calls Tryz.prog 85 #[.iface 56 (.slice (some ⟨g, 0, none⟩) c.length cap), .func (.func 88) #[] #[.pointer (some ⟨Bs, 0, none⟩)]] w fun e w' => e = .returned (.tuple #[]) ∧ ∃ c', c'.Perm c ∧ Rise c' ∧ HeldsAt w' (.slice (some ⟨g, 0, none⟩) c.length cap) c' ∧ w.grownBy w' (some g) ∧ w'.frozen? ⟨g, 2, none⟩ = false := by
  obtain ⟨i, hi, hd⟩ := Option.map_eq_some_iff.1 heldsInfo
  obtain ⟨ie, hie, hm⟩ := Option.map_eq_some_iff.1 heldInfo4
  obtain ⟨m1, m2, m3⟩ : ie.size = 4 ∧ ie.hasPointers = true ∧ ie.bytes = 40 := by simpa using hm
  have hk9 : Lib.swapperK c.toArray.size ie 25 = 9 := by
    have e0 : (c.toArray.size == 0) = false := beq_eq_false_iff_ne.2 (by rw [List.size_toArray]; omega)
    have e1 : (c.toArray.size == 1) = false := beq_eq_false_iff_ne.2 (by rw [List.size_toArray]; omega)
    simp only [Lib.swapperK, e0, e1, m2, m3]
    rfl
  have hBl := lt_of_cell hs
  have hlen : c.length = c.toArray.size := by simp
  have H := srt_slice (α := Hd) Tryz.laysGg6 56 78 i ie hi hd heldsPacked hie 25 heldKind encHd 4 (fun _ => rfl) m1 heldAgg encHd_one ltHd swo_ltHd 88 #[.pointer (some ⟨Bs, 0, none⟩)]
    (enters_of Tryz.func88 (by kernel_rfl) rfl) g 0 cap c.toArray (by simpa using h2) (by simp; omega) 191 (by rw [hk9]; exact swap9) false
    (fun args W => run_callFunc_extern Tryz.func191 (by kernel_rfl) (by kernel_rfl) (by kernel_rfl) (e := Extern.ReflectliteSwapper.swap false) (by kernel_rfl) args W) w hg hH
    (fun W dk i j hgW hHk hdk hi hj => by
      have hsW : W.cell? ⟨Bs, 0, none⟩ = some (.slice (some ⟨g, 0, none⟩) c.toArray.size cap) := by
        rw [← hlen]
        exact cell_kept hs hgW hBl (fun e => hBs (Option.some.inj e))
      obtain ⟨a0, a1, _⟩ := holdsK_cells hHk (i := i) (by omega)
      obtain ⟨b0, b1, _⟩ := holdsK_cells hHk (i := j) (by omega)
      refine (all1_any Bs g 0 c.toArray.size cap i j dk[i].1 dk[j].1 W hsW hi hj a0 a1 b0 b1).mono ?_
      rintro e w' ⟨rfl, hb⟩
      refine ⟨?_, grown_of_below hb⟩
      rw [getElem!_pos dk i (by omega), getElem!_pos dk j (by omega)]
      rfl)
  rw [← hlen] at H
  refine H.mono ?_
  rintro e w' ⟨rfl, d', hp, hso, hh, hg'⟩
  have hsz' : d'.size = c.length := by rw [hp.1]; simp
  have hpm : d'.toList.Perm c := by
    have h := hp.2.2
    rw [Array.extract_eq_self_of_le (by omega), Array.extract_eq_self_of_le (by simp)] at h
    simpa using h
  refine ⟨rfl, d'.toList, hpm, rise_of_sorted (((hpm.pairwise_iff (fun {_ _} hne => Ne.symm hne))).2 hap) (by rw [hsz']; exact hso), ⟨some ⟨g, 0, none⟩, cap, by simp [hsz'], fun i hi => ?_⟩, hg', by have := (hh 2 (by simp; omega)).2; rwa [Nat.zero_add] at this⟩
  have hi' : i < d'.size := by simpa using hi
  obtain ⟨a0, a1, a2, a3⟩ := holdsK_cells hh (i := i) hi'
  exact ⟨g, 0, rfl, ⟨Nat.lt_of_lt_of_le hg hg'.size, by simp [hsz']; omega⟩, a0, a1, a2, a3⟩
end Go.Proofs.YtcbcjefefmbccabGreatDoor
