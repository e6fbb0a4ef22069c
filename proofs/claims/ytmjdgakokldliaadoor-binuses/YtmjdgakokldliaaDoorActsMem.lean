/-
  Own text. Acts on a bin in memory; longActs by a contract.
-/
import Derived.Test.YtmjdgakokldliaaDoorMem
import Derived.WalkKit
namespace Go.Proofs.YtmjdgakokldliaaDoor
open Go.RowKit

/- An act: its kind, its text, its ID. -/
abbrev Act4 := ByteArray × ByteArray × (Nat × Int)
def ActsAt (w : World) (v : Value) (l : List Act4) : Prop :=
  ∃ (p : Option Addr) (c : Nat), v = .slice p l.length c ∧ ∀ i (h : i < l.length), ∃ b o, p = some ⟨b, o, none⟩ ∧ b < w.heap.size ∧ w.cell? ⟨b, o + i * 4, none⟩ = some (.string l[i].1) ∧ w.cell? ⟨b, o + i * 4 + 1, none⟩ = some (.string l[i].2.1) ∧
    w.cell? ⟨b, o + i * 4 + 2, none⟩ = some (.int .u32 (l[i].2.2.1 : Nat)) ∧ w.cell? ⟨b, o + i * 4 + 3, none⟩ = some (.int .i64 l[i].2.2.2)
theorem ActsAt.below {w w' : World} {v : Value} {l : List Act4} (h : ActsAt w v l) (hb : Below w.heap.size w w') : ActsAt w' v l := by
  obtain ⟨p, c, rfl, h⟩ := h
  refine ⟨p, c, rfl, fun i hi => ?_⟩
  obtain ⟨b, o, hp, hlt, h1, h2, h3, h4⟩ := h i hi
  exact ⟨b, o, hp, Nat.lt_of_lt_of_le hlt hb.size, (hb.cell (p := ⟨b, o + i * 4, none⟩) hlt).trans h1, (hb.cell (p := ⟨b, o + i * 4 + 1, none⟩) hlt).trans h2, (hb.cell (p := ⟨b, o + i * 4 + 2, none⟩) hlt).trans h3, (hb.cell (p := ⟨b, o + i * 4 + 3, none⟩) hlt).trans h4⟩

def LongPost (w : World) (l : List Act4) (e : Ending) (w' : World) : Prop := ∃ b, e = .returned (.bool b) ∧ w' = w ∧ (b = false → l.length ≤ 80 ∧ ∀ i (h : i < l.length), l[i].1.size ≤ 20 ∧ l[i].2.1.size ≤ 100)

set_option maxRecDepth 100000 in
set_option maxHeartbeats 4000000 in
theorem longActs_any (v : Value) (l : List Act4) (w : World) (hv : ActsAt w v l) :
    Calls Tryd.prog 27 #[v] w (LongPost w l) := by
  obtain ⟨p, c, rfl, hcell⟩ := hv
  by_cases hl : l.length ≤ 80
  · have hl' : ¬ (80 : Int) < (l.length : Int) := by omega
    go_enter Tryd.func27, Tryd.ntmps27
    go_wp2_with fail
    go_loopw [3] (fun i wr => ∃ j : Nat, j ≤ l.length ∧ i = .int .i64 j ∧ wr = w ∧ ∀ k (hk : k < l.length), k < j → l[k].1.size ≤ 20 ∧ l[k].2.1.size ≤ 100) (fun i _ => l.length - (intOf i).toNat)
    case atStart => exact ⟨0, Nat.zero_le _, rfl, rfl, fun k _ h => by omega⟩
    case round =>
      obtain ⟨j, hj, rfl, rfl, hall⟩ := hrel
      have HA : Hid (∀ k (hk : k < l.length), k < j → l[k].1.size ≤ 20 ∧ l[k].2.1.size ≤ 100) := hall
      clear hall
      by_cases hlt : j < l.length
      · have hlt' : (j : Int) < (l.length : Int) := by omega
        obtain ⟨b, o, rfl, _, c0, c1, _, _⟩ := hcell j hlt
        have HNX : Hid (l[j].1.size ≤ 20 ∧ l[j].2.1.size ≤ 100 → ∀ k (hk : k < l.length), k < j + 1 → l[k].1.size ≤ 20 ∧ l[k].2.1.size ≤ 100) := fun h k hk hkj => by
          rcases Nat.lt_or_ge k j with h' | h'
          · exact HA.out k hk h'
          · obtain rfl : k = j := by omega
            exact h
        obtain ⟨y, hy⟩ : ∃ y, l[j] = y := ⟨_, rfl⟩
        rw [hy] at c0 c1 HNX
        clear hy
        obtain ⟨y1, y2, y3⟩ := y
        by_cases h1 : y1.size ≤ 20
        · have h1' : ¬ (20 : Int) < (y1.size : Int) := by omega
          by_cases h2 : y2.size ≤ 100
          · have h2' : ¬ (100 : Int) < (y2.size : Int) := by omega
            have HN2 := HNX.out ⟨h1, h2⟩
            have HN3 : Hid (∀ k (hk : k < l.length), k < j + 1 → l[k].1.size ≤ 20 ∧ l[k].2.1.size ≤ 100) := HN2
            clear HN2 HNX
            go_wp2_with fail
            go_roundw
            case rel => exact ⟨j + 1, by omega, by go_num, trivial, HN3.out⟩
            case measure => simp [intOf]; omega
          · have h2' : (100 : Int) < (y2.size : Int) := by omega
            go_wp2_with fail
            go_ret
            exact ⟨true, rfl, rfl, fun h => by cases h⟩
        · have h1' : (20 : Int) < (y1.size : Int) := by omega
          go_wp2_with fail
          go_ret
          exact ⟨true, rfl, rfl, fun h => by cases h⟩
      · have hge : ¬ ((j : Int) < (l.length : Int)) := by omega
        go_wp2_with fail
        go_ret
        exact ⟨false, rfl, rfl, fun _ => ⟨hl, fun i hi => HA.out i hi (by omega)⟩⟩
  · have hl' : (80 : Int) < (l.length : Int) := by omega
    go_enter Tryd.func27, Tryd.ntmps27
    go_wp2_with fail
    go_ret
    exact ⟨true, rfl, rfl, fun h => by cases h⟩
end Go.Proofs.YtmjdgakokldliaaDoor
