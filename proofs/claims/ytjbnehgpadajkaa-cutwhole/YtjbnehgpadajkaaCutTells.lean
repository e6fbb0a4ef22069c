/-
  Own text. cutted and CutTells by contracts: they return true; no old memory turns.
-/
import Derived.Test.YtjbnehgpadajkaaCutEndsOf
namespace Go.Proofs.Ytjbnehgpadajkaa
open Go.RowKit

theorem cuts70 : cuts (List.replicate 70 97) = [64, 70] := by kernel_rfl
theorem cuts70' (l : List UInt8) (h : l = List.replicate 70 97) : cuts l = [64, 70] := by rw [h, cuts70]

set_option maxRecDepth 100000 in
set_option maxHeartbeats 4000000 in
theorem cutted_true (w : World) :
    Calls Try.prog 5 #[] w fun e w' => e = .returned (.bool true) ∧ Below w.heap.size w w' := by
  go_enter Try.func5, Try.ntmps5
  go_wp2_with fail
  refine (cuts_any _ (by decide) _).mono ?_
  rintro e w1 ⟨v, rfl, hown, hb⟩
  rw [cuts70' _ (by rfl)] at hown
  have hc := CellsAt.of_row hown
  clear hown
  have hc1 : CellsAt (w1.alloc (.cells #[.int .i64 64, .int .i64 70] 3)) v ([64, 70].map (Value.int .i64)) := hc.below ((Below.refl _ _).alloc (Nat.le_refl _) _)
  have hc2 : CellsAt (w1.alloc (.cells #[.int .i64 64, .int .i64 70] 3)) (.slice (some ⟨w1.heap.size, 0, none⟩) 2 2) ([64, 70].map (Value.int .i64)) := by
    refine ⟨_, _, rfl, fun i hi => ⟨w1.heap.size, 0, rfl, by simp, ?_⟩⟩
    match i, hi with
    | 0, _ => simp
    | 1, _ => simp
  have hb2 : Below w.heap.size w (w1.alloc (.cells #[.int .i64 64, .int .i64 70] 3)) := hb.alloc hb.size _
  have H1 : Hid (CellsAt (w1.alloc (.cells #[.int .i64 64, .int .i64 70] 3)) v ([64, 70].map (Value.int .i64))) := hc1
  have H2 : Hid (CellsAt (w1.alloc (.cells #[.int .i64 64, .int .i64 70] 3)) (.slice (some ⟨w1.heap.size, 0, none⟩) 2 2) ([64, 70].map (Value.int .i64))) := hc2
  clear hc hc1 hc2
  go_wp2_with fail
  refine (sameIntsC _ _ [64, 70] _ (by decide) H1.out H2.out).mono ?_
  rintro e w2 ⟨rfl, hb3⟩
  go_wp2_with fail
  go_ret
  exact ⟨rfl, hb2.trans (hb3.mono hb2.size)⟩

theorem cells_below2 {w1 w2 : World} {base : Nat} {e : TypeId} {v : Value} {n : Nat} {xs : List Value} (h : w1.ownsRow base e 1 v n xs) (hb : Below w1.heap.size w1 w2) : CellsAt w2 v xs := (CellsAt.of_row h).below hb

set_option maxRecDepth 100000 in
set_option maxHeartbeats 4000000 in
theorem cutTells_true (s : ByteArray) (w : World) :
    Calls Try.prog 4 #[.string s] w fun e w' => e = .returned (.bool true) ∧ Below w.heap.size w w' := by
  go_enter Try.func4, Try.ntmps4
  go_wp2_with fail
  refine (cutted_true _).mono ?_
  rintro e w1 ⟨rfl, hb1⟩
  by_cases hs : s.size ≤ 1500
  · have hs' : ¬ (1500 : Int) < (s.size : Int) := by omega
    have HS : Hid (s.size ≤ 50000) := Nat.le_trans hs (by decide)
    have HL : Hid ((pieces s.data.toList).length ≤ 50000) := Nat.le_trans (pieces_len_le _) (by rw [Array.length_toList]; exact HS.out)
    clear hs
    go_wp2_with fail
    refine (cuts_any s HS.out _).mono ?_
    rintro e w2 ⟨v2, rfl, ho2, hb2⟩
    have hc2 := CellsAt.of_row ho2
    clear ho2
    go_wp2_with fail
    refine (cutsOf_any s HS.out _).mono ?_
    rintro e w3 ⟨v3, rfl, ho3, hb3⟩
    have hc3 := CellsAt.of_row ho3
    have hc2' := hc2.below hb3
    clear ho3 hc2
    have HA : Hid (CellsAt w3 v2 (((cuts s.data.toList).map fun n => ((n : Nat) : Int)).map (Value.int .i64))) := by show CellsAt _ _ _; rw [List.map_map]; exact hc2'
    have HB : Hid (CellsAt w3 v3 (((cuts s.data.toList).map fun n => ((n : Nat) : Int)).map (Value.int .i64))) := by show CellsAt _ _ _; rw [List.map_map]; exact hc3
    clear hc2' hc3
    go_wp2_with fail
    refine (sameIntsC _ _ ((cuts s.data.toList).map fun n => ((n : Nat) : Int)) _ (by rw [List.length_map, cuts_length]; have := HL.out; omega) HA.out HB.out).mono ?_
    rintro e w4 ⟨rfl, hb4⟩
    clear HA HB
    go_wp2_with fail
    refine (pieces_any s HS.out _).mono ?_
    rintro e w5 ⟨v5, rfl, ho5, hb5⟩
    have hc5 := CellsAt.of_row ho5
    clear ho5
    go_wp2_with fail
    refine (piecesOf_any s HS.out _).mono ?_
    rintro e w6 ⟨v6, rfl, ho6, hb6⟩
    have HA : Hid (CellsAt w6 v5 ((pieces s.data.toList).map txtV)) := hc5.below hb6
    have HB : Hid (CellsAt w6 v6 ((pieces s.data.toList).map txtV)) := CellsAt.of_row ho6
    clear ho6 hc5
    go_wp2_with fail
    refine (sameTextsC _ _ (pieces s.data.toList) _ (by have := HL.out; omega) HA.out HB.out).mono ?_
    rintro e w7 ⟨rfl, hb7⟩
    go_wp2_with fail
    go_ret
    have b2 := hb1.trans (hb2.mono hb1.size)
    have b3 := b2.trans (hb3.mono b2.size)
    have b4 := b3.trans (hb4.mono b3.size)
    have b5 := b4.trans (hb5.mono b4.size)
    have b6 := b5.trans (hb6.mono b5.size)
    exact ⟨rfl, b6.trans (hb7.mono b6.size)⟩
  · have hs' : (1500 : Int) < (s.size : Int) := by omega
    go_wp2_with fail
    go_ret
    exact ⟨rfl, hb1⟩
end Go.Proofs.Ytjbnehgpadajkaa
