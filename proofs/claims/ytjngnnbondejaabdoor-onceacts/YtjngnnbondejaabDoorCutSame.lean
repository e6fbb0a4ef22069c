/-
  Own text. The document's SameTexts and SameInts of two slices that hold the same, by contracts: true; no old memory turns.
-/
import Derived.Test.YtjngnnbondejaabDoorChecked
import Derived.Deep.QuietTactic
import Derived.BigQuiet
import Derived.WalkKit
namespace Go.Proofs.YtjngnnbondejaabDoor
open Go.RowKit

abbrev txtV (p : List UInt8) : Value := .string ⟨p.toArray⟩
/- v is a slice whose elements are xs. -/
def CellsAt (w : World) (v : Value) (xs : List Value) : Prop :=
  ∃ (p : Option Addr) (c : Nat), v = .slice p xs.length c ∧ ∀ i (h : i < xs.length), ∃ b o, p = some ⟨b, o, none⟩ ∧ (b < w.heap.size ∧ xs.length ≤ c) ∧ w.cell? ⟨b, o + i, none⟩ = some xs[i]
theorem CellsAt.below {w w' : World} {v : Value} {xs : List Value} (h : CellsAt w v xs) (hb : Below w.heap.size w w') : CellsAt w' v xs := by
  obtain ⟨p, c, rfl, h⟩ := h
  refine ⟨p, c, rfl, fun i hi => ?_⟩
  obtain ⟨b, o, hp, ⟨hlt, hcap⟩, hc⟩ := h i hi
  exact ⟨b, o, hp, ⟨Nat.lt_of_lt_of_le hlt hb.size, hcap⟩, (hb.cell (p := ⟨b, o + i, none⟩) hlt).trans hc⟩
theorem CellsAt.of_row {w : World} {base : Nat} {e : TypeId} {v : Value} {n : Nat} {xs : List Value} (h : w.ownsRow base e 1 v n xs) : CellsAt w v xs := by
  obtain ⟨hl, h⟩ := h
  rw [Nat.mul_one] at hl
  rcases h with ⟨rfl, h0⟩ | ⟨g, cap, cur, rfl, hg, hb, h1, h2, h3, h4⟩
  · exact ⟨none, 0, by rw [hl, h0], fun i hi => by omega⟩
  · refine ⟨some ⟨g, 0, none⟩, cap, by rw [hl], fun i hi => ⟨g, 0, rfl, ⟨?_, by omega⟩, ?_⟩⟩
    · rcases Nat.lt_or_ge g w.heap.size with h' | h'
      · exact h'
      · simp [Array.getElem?_eq_none h'] at hb
    · have e1 : cur.toList[i]? = xs[i]? := by
        rw [← h4, List.getElem?_take, if_pos (by omega)]
      simp only [World.cell?, hb, Nat.zero_add]
      rw [← Array.getElem?_toList, e1, List.getElem?_eq_getElem hi]
      simp

/- A row that holds something: its slice written out. -/
theorem row_open {w : World} {base : Nat} {e : TypeId} {v : Value} {n : Nat} {xs : List Value} (h : w.ownsRow base e 1 v n xs) (hn : 1 ≤ n) :
    ∃ g cap, v = .slice (some ⟨g, 0, none⟩) n cap ∧ n ≤ cap ∧ cap ≤ maxLen ∧ g < w.heap.size ∧ ∀ j (hj : j < xs.length), w.cell? ⟨g, j, none⟩ = some xs[j] := by
  obtain ⟨p, c, hv, hc⟩ := CellsAt.of_row h
  obtain ⟨hl, h⟩ := h
  rw [Nat.mul_one] at hl
  rcases h with ⟨_, h0⟩ | ⟨g, cap, cur, rfl, hg, hb, h1, h2, h3, h4⟩
  · omega
  have hp : p = some ⟨g, 0, none⟩ := by
    have := hv
    simp at this
    exact this.1.symm
  refine ⟨g, cap, rfl, h1, h2, ?_, fun j hj => ?_⟩
  · obtain ⟨b, o, hp', ⟨hlt, _⟩, _⟩ := hc 0 (by omega)
    rw [hp] at hp'
    cases hp'
    exact hlt
  · obtain ⟨b, o, hp', _, hcell⟩ := hc j hj
    rw [hp] at hp'
    cases hp'
    rw [Nat.zero_add] at hcell
    exact hcell
set_option maxHeartbeats 2000000 in
theorem sameIntsC (va vb : Value) (xs : List Int) (w : World) (hn : (xs.length : Int) ≤ 9223372036854775807) (ha : CellsAt w va (xs.map (Value.int .i64))) (hb : CellsAt w vb (xs.map (Value.int .i64))) :
    Calls Tryd.prog 13 #[va, vb] w fun e w' => e = .returned (.bool true) ∧ Below w.heap.size w w' := by
  obtain ⟨pa, ca, rfl, ha⟩ := ha
  obtain ⟨pb, cb, rfl, hb⟩ := hb
  simp only [List.length_map, List.getElem_map] at ha hb ⊢
  go_enter Tryd.func13, Tryd.ntmps13
  go_wp2_with fail
  go_loopw [5] (fun i wr => ∃ j m : Nat, j ≤ xs.length ∧ i = .int .i64 j ∧ wr = w.drewN m) (fun i _ => xs.length - (intOf i).toNat)
  case atStart => exact ⟨0, 0, Nat.zero_le _, rfl, rfl⟩
  case round =>
    obtain ⟨j, m, hj, rfl, rfl⟩ := hrel
    by_cases hlt : j < xs.length
    · obtain ⟨ba, oa, rfl, _, hca⟩ := ha j hlt
      obtain ⟨bb, ob, rfl, _, hcb⟩ := hb j hlt
      have hlt' : (j : Int) < (xs.length : Int) := by omega
      go_wp2_with fail
      go_quiet (fail)
      go_wp2_with fail
      go_roundw
      case rel => exact ⟨j + 1, _, by omega, by go_num, rfl⟩
      case measure => simp [intOf]; omega
    · have hge : (xs.length : Int) ≤ (j : Int) := by omega
      go_wp2_with fail
      go_ret
      exact ⟨rfl, ⟨rfl, rfl, rfl, Nat.le_refl _, fun _ _ => rfl⟩⟩

set_option maxHeartbeats 2000000 in
theorem sameTextsC (va vb : Value) (xs : List (List UInt8)) (w : World) (hn : (xs.length : Int) ≤ 9223372036854775807) (ha : CellsAt w va (xs.map txtV)) (hb : CellsAt w vb (xs.map txtV)) :
    Calls Tryd.prog 31 #[va, vb] w fun e w' => e = .returned (.bool true) ∧ Below w.heap.size w w' := by
  obtain ⟨pa, ca, rfl, ha⟩ := ha
  obtain ⟨pb, cb, rfl, hb⟩ := hb
  simp only [List.length_map, List.getElem_map] at ha hb ⊢
  go_enter Tryd.func31, Tryd.ntmps31
  go_wp2_with fail
  go_loopw [5] (fun i wr => ∃ j m : Nat, j ≤ xs.length ∧ i = .int .i64 j ∧ wr = w.drewN m) (fun i _ => xs.length - (intOf i).toNat)
  case atStart => exact ⟨0, 0, Nat.zero_le _, rfl, rfl⟩
  case round =>
    obtain ⟨j, m, hj, rfl, rfl⟩ := hrel
    by_cases hlt : j < xs.length
    · obtain ⟨ba, oa, rfl, _, hca⟩ := ha j hlt
      obtain ⟨bb, ob, rfl, _, hcb⟩ := hb j hlt
      have hlt' : (j : Int) < (xs.length : Int) := by omega
      go_wp2_with fail
      go_quiet (fail)
      go_wp2_with fail
      go_roundw
      case rel => exact ⟨j + 1, _, by omega, by go_num, rfl⟩
      case measure => simp [intOf]; omega
    · have hge : (xs.length : Int) ≤ (j : Int) := by omega
      go_wp2_with fail
      go_ret
      exact ⟨rfl, ⟨rfl, rfl, rfl, Nat.le_refl _, fun _ _ => rfl⟩⟩
end Go.Proofs.YtjngnnbondejaabDoor
