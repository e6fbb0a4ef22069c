/-
  Own text. coded (at the right number) and SameInts (of one list twice) by contracts.
-/
import Derived.Test.YthgajeobenagjaaDoorCode
import Derived.Deep.QuietTactic
import Derived.BigQuiet
namespace Go.Proofs.YthgajeobenagjaaDoor
open Go.RowKit Go.Extern.Stop Go.Stop Go.Extern

theorem coded_nil (code : Int) (hc : code = 0) (w : World) :
    Calls Tryd.prog 8 #[.nilIface, .int .i64 code] w fun e w' => e = .returned (.bool true) ∧ w' = w := by
  subst hc
  go_enter Tryd.func8, Tryd.ntmps8
  go_wp2_with fail
  refine (code_nil _).mono ?_
  rintro e w' ⟨rfl, rfl⟩
  go_wp2_with fail
  go_ret
  exact ⟨rfl, rfl⟩

theorem coded_sent (a : Nat → Addr) (k : Nat) (hk : k < 12) (code : Int) (hc : code = (k : Int) + 1) (w : World) (hE : ErrW w a) :
    Calls Tryd.prog 8 #[sentV a k, .int .i64 code] w fun e w' => e = .returned (.bool true) ∧ Below w.heap.size w w' := by
  subst hc
  have hkk : ((k : Int) + 1 == (k : Int) + 1) = true := by simp
  go_enter Tryd.func8, Tryd.ntmps8
  go_wp2_with fail
  refine (code_sent a k hk _ hE).mono ?_
  rintro e w' ⟨rfl, hb⟩
  go_wp2_with fail
  go_ret
  exact ⟨rfl, hb⟩

/- A slice of ints that holds xs. -/
def IntsAt (w : World) (v : Value) (xs : List Int) : Prop :=
  ∃ (p : Option Addr) (c : Nat), v = .slice p xs.length c ∧ ∀ i (h : i < xs.length), ∃ b o, p = some ⟨b, o, none⟩ ∧ w.cell? ⟨b, o + i, none⟩ = some (.int .i64 xs[i])

theorem sameInts_true (va vb : Value) (xs : List Int) (w : World) (hn : (xs.length : Int) ≤ 9223372036854775807) (ha : IntsAt w va xs) (hb : IntsAt w vb xs) :
    Calls Tryd.prog 6 #[va, vb] w fun e w' => e = .returned (.bool true) ∧ ∃ m, w' = w.drewN m := by
  obtain ⟨pa, ca, rfl, ha⟩ := ha
  obtain ⟨pb, cb, rfl, hb⟩ := hb
  go_enter Tryd.func6, Tryd.ntmps6
  go_wp2_with fail
  go_loopw [5] (fun i wr => ∃ j m : Nat, j ≤ xs.length ∧ i = .int .i64 j ∧ wr = w.drewN m) (fun i _ => xs.length - (intOf i).toNat)
  case atStart => exact ⟨0, 0, Nat.zero_le _, rfl, rfl⟩
  case round =>
    obtain ⟨j, m, hj, rfl, rfl⟩ := hrel
    by_cases hlt : j < xs.length
    · obtain ⟨ba, oa, rfl, hca⟩ := ha j hlt
      obtain ⟨bb, ob, rfl, hcb⟩ := hb j hlt
      have hlt' : (j : Int) < (xs.length : Int) := by omega
      go_wp2_with fail
      go_quiet (fail)
      go_wp2_with fail
      go_roundw
      case rel => exact ⟨j + 1, _, by omega, by go_num, rfl⟩
      case measure => simp [intOf]; omega
    · have hge : (xs.length : Int) ≤ (j : Int) := by omega
      go_wp2_with fail
      go_ret
      exact ⟨rfl, _, rfl⟩
end Go.Proofs.YthgajeobenagjaaDoor
