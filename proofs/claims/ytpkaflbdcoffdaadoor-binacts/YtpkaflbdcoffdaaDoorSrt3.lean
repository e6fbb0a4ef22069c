/-
  Own text. sort.Slice where 'less' may lay blocks: partitionEqual_func, partition_func.
-/
import Derived.Test.YtpkaflbdcoffdaaDoorSrt
namespace Go.Proofs.YtpkaflbdcoffdaaDoor
open Go.Shelf Go.RowKit Go.Lib Go.Sort
variable {P : Program} {ρ : Ren} {α : Type} [Inhabited α] {lt : α → α → Bool} {g : Nat} {lb : Array Value} {sf : Nat} {sb : Array Value} {blk n n0 : Nat} {I : World → Array α → Prop}
set_option maxHeartbeats 6400000 in
set_option maxRecDepth 100000 in
theorem srt_partEq (L : LaysGg.n32 P ρ) (S : Srt P lt g lb sf sb blk n n0 I) (a b pivot : Nat) (d : Array α) (w : World) (hI : I w d) (hap : a ≤ pivot) (hpb : pivot < b) (hb : b ≤ n) (hsz : n < 4611686018427387904) :
    Calls P (ρ.f 32) #[.agg #[.func (.func g) #[] lb, .func (.func sf) #[] sb], .int .i64 a, .int .i64 b, .int .i64 pivot] w fun e w' => e = .returned (.int .i64 (partitionEqual lt d a b pivot).1) ∧ I w' (partitionEqual lt d a b pivot).2 ∧ w.grownBy w' (some blk) := by
  have mixed := L.mixed; have t0 := L.t0; have a0 := L.a0; have z0 := L.z0; have v0 := L.v0; have t3 := L.t3; have a3 := L.a3; have z3 := L.z3; have v3 := L.v3; have t4 := L.t4; have a4 := L.a4; have z4 := L.z4; have v4 := L.v4; have t26 := L.t26; have a26 := L.a26; have z26 := L.z26; have v26 := L.v26; have t37 := L.t37; have a37 := L.a37; have z37 := L.z37; have v37 := L.v37; have t44 := L.t44; have a44 := L.a44; have z44 := L.z44; have v44 := L.v44
  have u44 := run_underlying L.t44
  have eg := S.eg
  have hblk := S.blt hI
  have A0 : SrtAt I blk (w.alloc (.cells #[.func (.func g) #[] lb, .func (.func sf) #[] sb] (ρ.t 44))) (w.alloc (.cells #[.func (.func g) #[] lb, .func (.func sf) #[] sb] (ρ.t 44))) d := .start (S.keep hI (World.grownBy_alloc w _ none))
  obtain ⟨_, c1⟩ := A0.box hblk
  obtain ⟨w1, hs0, hI1, hg1⟩ := S.swap (a : Int) (pivot : Int) a pivot rfl rfl A0.inv (by omega) (by omega)
  have A1 := A0.turn hI1 hg1
  go_enter L.f32, BodyGg.n32_ntmps ρ
  go_wp2
  clear hs0 c1 A0
  go_loopw [9, 10] (fun vi vj wr => ∃ (i j : Nat) (dk : Array α), vi = .int .i64 i ∧ vj = .int .i64 j ∧ a < i ∧ i ≤ j + 1 ∧ j < b ∧ SrtAt I blk (w.alloc (.cells #[.func (.func g) #[] lb, .func (.func sf) #[] sb] (ρ.t 44))) wr dk ∧ Hid (partEqLoop lt a i j dk = partEqLoop lt a (a + 1) (b - 1) (swp d a pivot))) (fun vi vj _ => (intOf vj).toNat + 1 - (intOf vi).toNat)
  case atStart => exact ⟨a + 1, b - 1, swp d a pivot, by go_num, by go_num, by omega, by omega, by omega, A1, rfl⟩
  case round =>
    clear A1 hI1 hg1
    obtain ⟨i, j, dk, rfl, rfl, hai, hij, hjb, hA0, AE⟩ := hrel
    go_wp2
    go_loopw [9] (fun vi w1 => ∃ (i' : Nat), vi = .int .i64 i' ∧ i ≤ i' ∧ i' ≤ j + 1 ∧ SrtAt I blk (w.alloc (.cells #[.func (.func g) #[] lb, .func (.func sf) #[] sb] (ρ.t 44))) w1 dk ∧ Hid (scanUp (fun x => !lt dk[a]! x) dk j i' = scanUp (fun x => !lt dk[a]! x) dk j i)) (fun vi _ => j + 1 - (intOf vi).toNat)
    case atStart => exact ⟨i, rfl, Nat.le_refl _, hij, hA0, rfl⟩
    case round =>
      clear hA0
      obtain ⟨i', rfl, hii, hij', hA, hsc⟩ := hrel
      obtain ⟨c0, _⟩ := hA.box hblk
      by_cases hle : i' ≤ j
      · have hl := S.less (a : Int) (i' : Int) a i' rfl rfl hA.inv (by omega) (by omega)
        cases hlv : lt dk[a]! dk[i']! with
        | false =>
          rw [hlv] at hl
          go_wp2_with (go_at_fn g; refine hl.mono ?_; rintro e w2 ⟨rfl, hg2⟩; have hA1 := hA.grow S hg2)
          go_roundw
          case rel => exact ⟨i' + 1, by go_num, by omega, by omega, hA1, (scanUp_go (fun x => !lt dk[a]! x) dk j i' hle (by simp [hlv])).symm.trans hsc.out⟩
          case measure => simp [intOf]; omega
        | true =>
          rw [hlv] at hl
          have hi2 : Hid (i' = scanUp (fun x => !lt dk[a]! x) dk j i) := (scanUp_end (fun x => !lt dk[a]! x) dk j i' (Or.inr (by simp [hlv]))).symm.trans hsc.out
          go_wp2_with (go_at_fn g; refine hl.mono ?_; rintro e w2 ⟨rfl, hg2⟩; have hA1 := hA.grow S hg2)
          clear c0 hsc hl hA hg2
          go_loopw [10] (fun vj w2 => ∃ (j' : Nat), vj = .int .i64 j' ∧ j' ≤ j ∧ i' ≤ j' + 1 ∧ SrtAt I blk (w.alloc (.cells #[.func (.func g) #[] lb, .func (.func sf) #[] sb] (ρ.t 44))) w2 dk ∧ Hid (scanDown (fun x => lt dk[a]! x) dk i' j' = scanDown (fun x => lt dk[a]! x) dk i' j)) (fun vj _ => (intOf vj).toNat)
          case atStart => exact ⟨j, rfl, Nat.le_refl _, hij', hA1, rfl⟩
          case round =>
            clear hA1
            obtain ⟨j', rfl, hjj, hij2, hB, hsd⟩ := hrel
            obtain ⟨c0, c1⟩ := hB.box hblk
            by_cases hle2 : i' ≤ j'
            · have hl := S.less (a : Int) (j' : Int) a j' rfl rfl hB.inv (by omega) (by omega)
              cases hlv2 : lt dk[a]! dk[j']! with
              | true =>
                rw [hlv2] at hl
                go_wp2_with (go_at_fn g; refine hl.mono ?_; rintro e w3 ⟨rfl, hg3⟩; have hB1 := hB.grow S hg3)
                go_roundw
                case rel => exact ⟨j' - 1, by go_num, by omega, by omega, hB1, (scanDown_go (fun x => lt dk[a]! x) dk i' j' hle2 (by omega) hlv2).symm.trans hsd.out⟩
                case measure => simp [intOf]; omega
              | false =>
                rw [hlv2] at hl
                have hj2 : Hid (j' = scanDown (fun x => lt dk[a]! x) dk i' j) := (scanDown_end (fun x => lt dk[a]! x) dk i' j' (Or.inr hlv2)).symm.trans hsd.out
                have hlt3 := scans_lt lt a i j dk (by omega) hi2.out hj2.out hle2
                go_wp2_with (go_at_fn g; refine hl.mono ?_; rintro e w3 ⟨rfl, hg3⟩; have hB1 := hB.grow S hg3; obtain ⟨_, c13⟩ := hB1.box hblk; obtain ⟨w4, hs4, hI4, hg4⟩ := S.swap (i' : Int) (j' : Int) i' j' rfl rfl hB1.inv (by omega) (by omega))
                go_roundw
                case rel => exact ⟨i' + 1, j' - 1, swp dk i' j', by go_num, by go_num, by omega, by omega, by omega, hB1.turn hI4 hg4, (show Hid _ from by rw [← AE.out]; exact (partEq_go lt a i j dk hi2.out hj2.out (by omega)).symm)⟩
                case measure => simp [intOf]; omega
            · have hj2 : Hid (j' = scanDown (fun x => lt dk[a]! x) dk i' j) := (scanDown_end (fun x => lt dk[a]! x) dk i' j' (Or.inl hle2)).symm.trans hsd.out
              go_wp2
              go_ret
              have e := partEq_break lt a i j dk hi2.out hj2.out (by omega)
              exact ⟨by unfold partitionEqual; rw [← AE.out, e]; rfl, by unfold partitionEqual; rw [← AE.out, e]; exact hB.inv, hB.off⟩
      · have hi2 : Hid (i' = scanUp (fun x => !lt dk[a]! x) dk j i) := (scanUp_end (fun x => !lt dk[a]! x) dk j i' (Or.inl hle)).symm.trans hsc.out
        go_wp2
        clear c0 hsc
        go_loopw [10] (fun vj w2 => ∃ (j' : Nat), vj = .int .i64 j' ∧ j' ≤ j ∧ i' ≤ j' + 1 ∧ SrtAt I blk (w.alloc (.cells #[.func (.func g) #[] lb, .func (.func sf) #[] sb] (ρ.t 44))) w2 dk ∧ Hid (scanDown (fun x => lt dk[a]! x) dk i' j' = scanDown (fun x => lt dk[a]! x) dk i' j)) (fun vj _ => (intOf vj).toNat)
        case atStart => exact ⟨j, rfl, Nat.le_refl _, hij', hA, rfl⟩
        case round =>
          clear hA
          obtain ⟨j', rfl, hjj, hij2, hB, hsd⟩ := hrel
          obtain ⟨c0, c1⟩ := hB.box hblk
          by_cases hle2 : i' ≤ j'
          · exfalso; omega
          · have hj2 : Hid (j' = scanDown (fun x => lt dk[a]! x) dk i' j) := (scanDown_end (fun x => lt dk[a]! x) dk i' j' (Or.inl hle2)).symm.trans hsd.out
            go_wp2
            go_ret
            have e := partEq_break lt a i j dk hi2.out hj2.out (by omega)
            exact ⟨by unfold partitionEqual; rw [← AE.out, e]; rfl, by unfold partitionEqual; rw [← AE.out, e]; exact hB.inv, hB.off⟩

set_option maxHeartbeats 12800000 in
set_option maxRecDepth 100000 in
theorem srt_part (L : LaysGg.n33 P ρ) (S : Srt P lt g lb sf sb blk n n0 I) (a b pivot : Nat) (d : Array α) (w : World) (hI : I w d) (hap : a ≤ pivot) (hpb : pivot < b) (hb : b ≤ n) (hsz : n < 4611686018427387904) :
    Calls P (ρ.f 33) #[.agg #[.func (.func g) #[] lb, .func (.func sf) #[] sb], .int .i64 a, .int .i64 b, .int .i64 pivot] w fun e w' => e = .returned (.tuple #[.int .i64 (partition lt d a b pivot).1, .bool (partition lt d a b pivot).2.1]) ∧ I w' (partition lt d a b pivot).2.2 ∧ w.grownBy w' (some blk) := by
  have mixed := L.mixed; have t0 := L.t0; have a0 := L.a0; have z0 := L.z0; have v0 := L.v0; have t3 := L.t3; have a3 := L.a3; have z3 := L.z3; have v3 := L.v3; have t4 := L.t4; have a4 := L.a4; have z4 := L.z4; have v4 := L.v4; have t26 := L.t26; have a26 := L.a26; have z26 := L.z26; have v26 := L.v26; have t37 := L.t37; have a37 := L.a37; have z37 := L.z37; have v37 := L.v37; have t44 := L.t44; have a44 := L.a44; have z44 := L.z44; have v44 := L.v44
  have u44 := run_underlying L.t44
  have eg := S.eg
  have hblk := S.blt hI
  have A0 : SrtAt I blk (w.alloc (.cells #[.func (.func g) #[] lb, .func (.func sf) #[] sb] (ρ.t 44))) (w.alloc (.cells #[.func (.func g) #[] lb, .func (.func sf) #[] sb] (ρ.t 44))) d := .start (S.keep hI (World.grownBy_alloc w _ none))
  obtain ⟨_, c1⟩ := A0.box hblk
  obtain ⟨w1, hs0, hI1, hg1⟩ := S.swap (a : Int) (pivot : Int) a pivot rfl rfl A0.inv (by omega) (by omega)
  have hA0 := A0.turn hI1 hg1
  obtain ⟨i, hi⟩ : ∃ i : Nat, i = a + 1 := ⟨_, rfl⟩
  obtain ⟨j, hj⟩ : ∃ j : Nat, j = b - 1 := ⟨_, rfl⟩
  obtain ⟨dk, hdk⟩ : ∃ dk : Array α, dk = swp d a pivot := ⟨_, rfl⟩
  rw [← hdk] at hA0
  have hai : a < i := by omega
  have hij : i ≤ j + 1 := by omega
  have hjb : j < b := by omega
  have Hi : Hid (i = a + 1) := hi
  have Hj : Hid (j = b - 1) := hj
  have Hdk : Hid (dk = swp d a pivot) := hdk
  clear hi hj hdk hI1 hg1
  go_enter L.f33, BodyGg.n33_ntmps ρ
  go_wp2
  rw [show ((a : Int) + 1) = (i : Int) by have := Hi.out; omega, show ((b : Int) - 1) = (j : Int) by have := Hj.out; omega]
  clear hs0 c1 A0
  go_loopw [10] (fun vi w1 => ∃ (i' : Nat), vi = .int .i64 i' ∧ i ≤ i' ∧ i' ≤ j + 1 ∧ SrtAt I blk (w.alloc (.cells #[.func (.func g) #[] lb, .func (.func sf) #[] sb] (ρ.t 44))) w1 dk ∧ Hid (scanUp (fun x => lt x dk[a]!) dk j i' = scanUp (fun x => lt x dk[a]!) dk j i)) (fun vi _ => j + 1 - (intOf vi).toNat)
  case atStart => exact ⟨i, rfl, Nat.le_refl _, hij, hA0, rfl⟩
  case round =>
    clear hA0
    obtain ⟨i', rfl, hii, hij', hA, hsc⟩ := hrel
    obtain ⟨c0, _⟩ := hA.box hblk
    by_cases hle : i' ≤ j
    · have hl := S.less (i' : Int) (a : Int) i' a rfl rfl hA.inv (by omega) (by omega)
      cases hlv : lt dk[i']! dk[a]! with
      | true =>
        rw [hlv] at hl
        go_wp2_with (go_at_fn g; refine hl.mono ?_; rintro e w2 ⟨rfl, hg2⟩; have hA1 := hA.grow S hg2)
        go_roundw
        case rel => exact ⟨i' + 1, by go_num, by omega, by omega, hA1, (scanUp_go (fun x => lt x dk[a]!) dk j i' hle hlv).symm.trans hsc.out⟩
        case measure => simp [intOf]; omega
      | false =>
        rw [hlv] at hl
        have hi2 : Hid (i' = scanUp (fun x => lt x dk[a]!) dk j i) := (scanUp_end (fun x => lt x dk[a]!) dk j i' (Or.inr hlv)).symm.trans hsc.out
        go_wp2_with (go_at_fn g; refine hl.mono ?_; rintro e w2 ⟨rfl, hg2⟩; have hA1 := hA.grow S hg2)
        clear c0 hsc hl hA hg2
        go_loopw [11] (fun vj w2 => ∃ (j' : Nat), vj = .int .i64 j' ∧ j' ≤ j ∧ i' ≤ j' + 1 ∧ SrtAt I blk (w.alloc (.cells #[.func (.func g) #[] lb, .func (.func sf) #[] sb] (ρ.t 44))) w2 dk ∧ Hid (scanDown (fun x => !lt x dk[a]!) dk i' j' = scanDown (fun x => !lt x dk[a]!) dk i' j)) (fun vj _ => (intOf vj).toNat)
        case atStart => exact ⟨j, rfl, Nat.le_refl _, hij', hA1, rfl⟩
        case round =>
          clear hA1
          obtain ⟨j', rfl, hjj, hij2, hB, hsd⟩ := hrel
          obtain ⟨c0, c1⟩ := hB.box hblk
          by_cases hle2 : i' ≤ j'
          · have hl := S.less (j' : Int) (a : Int) j' a rfl rfl hB.inv (by omega) (by omega)
            cases hlv2 : lt dk[j']! dk[a]! with
            | false =>
              rw [hlv2] at hl
              go_wp2_with (go_at_fn g; refine hl.mono ?_; rintro e w3 ⟨rfl, hg3⟩; have hB1 := hB.grow S hg3)
              go_roundw
              case rel => exact ⟨j' - 1, by go_num, by omega, by omega, hB1, (scanDown_go (fun x => !lt x dk[a]!) dk i' j' hle2 (by omega) (by simp [hlv2])).symm.trans hsd.out⟩
              case measure => simp [intOf]; omega
            | true =>
              rw [hlv2] at hl
              have hj2 : Hid (j' = scanDown (fun x => !lt x dk[a]!) dk i' j) := (scanDown_end (fun x => !lt x dk[a]!) dk i' j' (Or.inr (by simp [hlv2]))).symm.trans hsd.out
              have hlt3 := part_scans_lt lt a i j dk (by omega) hi2.out hj2.out hle2
              go_wp2_with (go_at_fn g; refine hl.mono ?_; rintro e w3 ⟨rfl, hg3⟩; have hB1 := hB.grow S hg3; obtain ⟨_, c13⟩ := hB1.box hblk; obtain ⟨w4, hs4, hI4, hg4⟩ := S.swap (i' : Int) (j' : Int) i' j' rfl rfl hB1.inv (by omega) (by omega))
              rw [decide_eq_false (show ¬ j' < i' by omega)]
              obtain ⟨I0, hI0⟩ : ∃ I0 : Nat, I0 = i' + 1 := ⟨_, rfl⟩
              obtain ⟨J0, hJ0⟩ : ∃ J0 : Nat, J0 = j' - 1 := ⟨_, rfl⟩
              obtain ⟨D0, hD0⟩ : ∃ D0 : Array α, D0 = swp dk i' j' := ⟨_, rfl⟩
              have PF : Hid (partition lt d a b pivot = ((partLoop lt a I0 J0 D0).1, false, swp (partLoop lt a I0 J0 D0).2 (partLoop lt a I0 J0 D0).1 a)) := by
                rw [hI0, hJ0, hD0]; exact part_first_go lt d a b pivot Hi.out Hj.out Hdk.out hi2.out hj2.out (by omega)
              have hB4 := hB1.turn hI4 hg4
              go_loopw [10, 11] (fun vi vj wr => ∃ (i j : Nat) (dk : Array α), vi = .int .i64 i ∧ vj = .int .i64 j ∧ a < i ∧ i ≤ j + 1 ∧ j < b ∧ SrtAt I blk (w.alloc (.cells #[.func (.func g) #[] lb, .func (.func sf) #[] sb] (ρ.t 44))) wr dk ∧ Hid (partLoop lt a i j dk = partLoop lt a I0 J0 D0)) (fun vi vj _ => (intOf vj).toNat + 1 - (intOf vi).toNat)
              case atStart => exact ⟨i' + 1, j' - 1, swp dk i' j', by go_num, by go_num, by omega, by omega, by omega, hB4, (show Hid _ from by rw [hI0, hJ0, hD0]; exact rfl)⟩
              case round =>
                clear hI0 hJ0 hD0 hB4 hs4 hI4 hg4 hB1 hg3 hB hj2 hi2 hlt3 hl c0 c1 c13 Hi Hj Hdk hsd
                obtain ⟨i, j, dk, rfl, rfl, hai, hij, hjb, hA0, AE⟩ := hrel
                go_wp2
                go_loopw [10] (fun vi w1 => ∃ (i' : Nat), vi = .int .i64 i' ∧ i ≤ i' ∧ i' ≤ j + 1 ∧ SrtAt I blk (w.alloc (.cells #[.func (.func g) #[] lb, .func (.func sf) #[] sb] (ρ.t 44))) w1 dk ∧ Hid (scanUp (fun x => lt x dk[a]!) dk j i' = scanUp (fun x => lt x dk[a]!) dk j i)) (fun vi _ => j + 1 - (intOf vi).toNat)
                case atStart => exact ⟨i, rfl, Nat.le_refl _, hij, hA0, rfl⟩
                case round =>
                  clear hA0
                  obtain ⟨i', rfl, hii, hij', hA, hsc⟩ := hrel
                  obtain ⟨c0, _⟩ := hA.box hblk
                  by_cases hle : i' ≤ j
                  · have hl := S.less (i' : Int) (a : Int) i' a rfl rfl hA.inv (by omega) (by omega)
                    cases hlv : lt dk[i']! dk[a]! with
                    | true =>
                      rw [hlv] at hl
                      go_wp2_with (go_at_fn g; refine hl.mono ?_; rintro e w2 ⟨rfl, hg2⟩; have hA1 := hA.grow S hg2)
                      go_roundw
                      case rel => exact ⟨i' + 1, by go_num, by omega, by omega, hA1, (scanUp_go (fun x => lt x dk[a]!) dk j i' hle hlv).symm.trans hsc.out⟩
                      case measure => simp [intOf]; omega
                    | false =>
                      rw [hlv] at hl
                      have hi2 : Hid (i' = scanUp (fun x => lt x dk[a]!) dk j i) := (scanUp_end (fun x => lt x dk[a]!) dk j i' (Or.inr hlv)).symm.trans hsc.out
                      go_wp2_with (go_at_fn g; refine hl.mono ?_; rintro e w2 ⟨rfl, hg2⟩; have hA1 := hA.grow S hg2)
                      clear c0 hsc hl hA hg2
                      go_loopw [11] (fun vj w2 => ∃ (j' : Nat), vj = .int .i64 j' ∧ j' ≤ j ∧ i' ≤ j' + 1 ∧ SrtAt I blk (w.alloc (.cells #[.func (.func g) #[] lb, .func (.func sf) #[] sb] (ρ.t 44))) w2 dk ∧ Hid (scanDown (fun x => !lt x dk[a]!) dk i' j' = scanDown (fun x => !lt x dk[a]!) dk i' j)) (fun vj _ => (intOf vj).toNat)
                      case atStart => exact ⟨j, rfl, Nat.le_refl _, hij', hA1, rfl⟩
                      case round =>
                        clear hA1
                        obtain ⟨j', rfl, hjj, hij2, hB, hsd⟩ := hrel
                        obtain ⟨c0, c1⟩ := hB.box hblk
                        by_cases hle2 : i' ≤ j'
                        · have hl := S.less (j' : Int) (a : Int) j' a rfl rfl hB.inv (by omega) (by omega)
                          cases hlv2 : lt dk[j']! dk[a]! with
                          | false =>
                            rw [hlv2] at hl
                            go_wp2_with (go_at_fn g; refine hl.mono ?_; rintro e w3 ⟨rfl, hg3⟩; have hB1 := hB.grow S hg3)
                            go_roundw
                            case rel => exact ⟨j' - 1, by go_num, by omega, by omega, hB1, (scanDown_go (fun x => !lt x dk[a]!) dk i' j' hle2 (by omega) (by simp [hlv2])).symm.trans hsd.out⟩
                            case measure => simp [intOf]; omega
                          | true =>
                            rw [hlv2] at hl
                            have hj2 : Hid (j' = scanDown (fun x => !lt x dk[a]!) dk i' j) := (scanDown_end (fun x => !lt x dk[a]!) dk i' j' (Or.inr (by simp [hlv2]))).symm.trans hsd.out
                            have hlt3 := part_scans_lt lt a i j dk (by omega) hi2.out hj2.out hle2
                            go_wp2_with (go_at_fn g; refine hl.mono ?_; rintro e w3 ⟨rfl, hg3⟩; have hB1 := hB.grow S hg3; obtain ⟨_, c13⟩ := hB1.box hblk; obtain ⟨w4, hs4, hI4, hg4⟩ := S.swap (i' : Int) (j' : Int) i' j' rfl rfl hB1.inv (by omega) (by omega))
                            go_roundw
                            case rel => exact ⟨i' + 1, j' - 1, swp dk i' j', by go_num, by go_num, by omega, by omega, by omega, hB1.turn hI4 hg4, (show Hid _ from by rw [← AE.out]; exact (part_go lt a i j dk hi2.out hj2.out (by omega)).symm)⟩
                            case measure => simp [intOf]; omega
                        · have hj2 : Hid (j' = scanDown (fun x => !lt x dk[a]!) dk i' j) := (scanDown_end (fun x => !lt x dk[a]!) dk i' j' (Or.inl hle2)).symm.trans hsd.out
                          obtain ⟨w5, hs5, hI5, hg5⟩ := S.swap (j' : Int) (a : Int) j' a rfl rfl hB.inv (by omega) (by omega)
                          have hB5 := hB.turn hI5 hg5
                          clear hsd
                          go_wp2
                          go_ret2
                          have e := part_break lt a i j dk hi2.out hj2.out (by omega)
                          rw [PF.out, ← AE.out, e]
                          exact ⟨rfl, hB5.inv, hB5.off⟩
                  · have hi2 : Hid (i' = scanUp (fun x => lt x dk[a]!) dk j i) := (scanUp_end (fun x => lt x dk[a]!) dk j i' (Or.inl hle)).symm.trans hsc.out
                    go_wp2
                    clear c0 hsc
                    go_loopw [11] (fun vj w2 => ∃ (j' : Nat), vj = .int .i64 j' ∧ j' ≤ j ∧ i' ≤ j' + 1 ∧ SrtAt I blk (w.alloc (.cells #[.func (.func g) #[] lb, .func (.func sf) #[] sb] (ρ.t 44))) w2 dk ∧ Hid (scanDown (fun x => !lt x dk[a]!) dk i' j' = scanDown (fun x => !lt x dk[a]!) dk i' j)) (fun vj _ => (intOf vj).toNat)
                    case atStart => exact ⟨j, rfl, Nat.le_refl _, hij', hA, rfl⟩
                    case round =>
                      clear hA
                      obtain ⟨j', rfl, hjj, hij2, hB, hsd⟩ := hrel
                      obtain ⟨c0, c1⟩ := hB.box hblk
                      by_cases hle2 : i' ≤ j'
                      · exfalso; omega
                      · have hj2 : Hid (j' = scanDown (fun x => !lt x dk[a]!) dk i' j) := (scanDown_end (fun x => !lt x dk[a]!) dk i' j' (Or.inl hle2)).symm.trans hsd.out
                        obtain ⟨w5, hs5, hI5, hg5⟩ := S.swap (j' : Int) (a : Int) j' a rfl rfl hB.inv (by omega) (by omega)
                        have hB5 := hB.turn hI5 hg5
                        clear hsd
                        go_wp2
                        go_ret2
                        have e := part_break lt a i j dk hi2.out hj2.out (by omega)
                        rw [PF.out, ← AE.out, e]
                        exact ⟨rfl, hB5.inv, hB5.off⟩
          · have hj2 : Hid (j' = scanDown (fun x => !lt x dk[a]!) dk i' j) := (scanDown_end (fun x => !lt x dk[a]!) dk i' j' (Or.inl hle2)).symm.trans hsd.out
            obtain ⟨w5, hs5, hI5, hg5⟩ := S.swap (j' : Int) (a : Int) j' a rfl rfl hB.inv (by omega) (by omega)
            have hB5 := hB.turn hI5 hg5
            clear hsd
            go_wp2
            go_ret2
            have e := part_first_break lt d a b pivot Hi.out Hj.out Hdk.out hi2.out hj2.out (by omega)
            rw [e]
            exact ⟨rfl, hB5.inv, hB5.off⟩
    · have hi2 : Hid (i' = scanUp (fun x => lt x dk[a]!) dk j i) := (scanUp_end (fun x => lt x dk[a]!) dk j i' (Or.inl hle)).symm.trans hsc.out
      go_wp2
      clear c0 hsc
      go_loopw [11] (fun vj w2 => ∃ (j' : Nat), vj = .int .i64 j' ∧ j' ≤ j ∧ i' ≤ j' + 1 ∧ SrtAt I blk (w.alloc (.cells #[.func (.func g) #[] lb, .func (.func sf) #[] sb] (ρ.t 44))) w2 dk ∧ Hid (scanDown (fun x => !lt x dk[a]!) dk i' j' = scanDown (fun x => !lt x dk[a]!) dk i' j)) (fun vj _ => (intOf vj).toNat)
      case atStart => exact ⟨j, rfl, Nat.le_refl _, hij', hA, rfl⟩
      case round =>
        clear hA
        obtain ⟨j', rfl, hjj, hij2, hB, hsd⟩ := hrel
        obtain ⟨c0, c1⟩ := hB.box hblk
        by_cases hle2 : i' ≤ j'
        · exfalso; omega
        · have hj2 : Hid (j' = scanDown (fun x => !lt x dk[a]!) dk i' j) := (scanDown_end (fun x => !lt x dk[a]!) dk i' j' (Or.inl hle2)).symm.trans hsd.out
          obtain ⟨w5, hs5, hI5, hg5⟩ := S.swap (j' : Int) (a : Int) j' a rfl rfl hB.inv (by omega) (by omega)
          have hB5 := hB.turn hI5 hg5
          clear hsd
          go_wp2
          go_ret2
          have e := part_first_break lt d a b pivot Hi.out Hj.out Hdk.out hi2.out hj2.out (by omega)
          rw [e]
          exact ⟨rfl, hB5.inv, hB5.off⟩
end Go.Proofs.YtpkaflbdcoffdaaDoor
