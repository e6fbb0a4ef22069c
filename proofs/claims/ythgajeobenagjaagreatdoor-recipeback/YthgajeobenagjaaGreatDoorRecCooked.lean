/-
  Own text. cooked, over whatever answers as RecSpec says: it returns true; no old memory turns.
-/
import Derived.Test.YthgajeobenagjaaGreatDoorRecSpec
namespace Go.Proofs.YthgajeobenagjaaGreatDoor
open Go.RowKit

theorem ErrIn.nil {base : Nat} {w : World} {a : Nat → Addr} {v : Value} {x : Int} (h : ErrIn base w a v (0, x)) : v = .nilIface := by
  rcases h with h | ⟨k, _, _, hf⟩ | ⟨k, pb, po, at0, _, _, _, _, _, hf⟩
  · exact h.1
  · have := congrArg Prod.fst hf
    simp only at this
    omega
  · have := congrArg Prod.fst hf
    simp only at this
    omega
def helloL : List UInt8 := [104, 101, 108, 108, 111]
theorem hello_pieces : pieces helloL = [helloL] := by kernel_rfl
theorem hello_ids : idsOf helloL = [(pmore 2166136261 helloL, 5)] := by
  rw [idsOf, hello_pieces]
  rfl
theorem a_name : isName [97] = true := by decide
theorem hello_of : ofR [97] helloL = (([97], 5, pmore 2166136261 helloL, [(pmore 2166136261 helloL, 5)]), 0) := by
  unfold ofR
  rw [if_neg (by rw [a_name]; simp), if_neg (by decide), hello_ids]
  rfl
theorem hello_join : joinOf [97] 5 (pmore 2166136261 helloL) [(pmore 2166136261 helloL, 5)] [helloL] = (helloL, (0, -1)) := by
  have h := joinOf_pieces [97] helloL a_name (by decide)
  rw [hello_ids, hello_pieces] at h
  exact h

set_option maxRecDepth 100000 in
set_option maxHeartbeats 4000000 in
theorem cooked_true {a : Nat → Addr} {Env : World → Prop} (S : RecSpec a Env) (w : World) (hE : Env w) :
    Calls Tryz.prog 5 #[] w fun e w' => e = .returned (.bool true) ∧ Below w.heap.size w w' := by
  have HO : Hid (ofR (⟨#[97]⟩ : ByteArray).data.toList (⟨#[104, 101, 108, 108, 111]⟩ : ByteArray).data.toList = (([97], 5, pmore 2166136261 helloL, [(pmore 2166136261 helloL, 5)]), 0)) := hello_of
  have HJ := hello_join
  obtain ⟨P, hP⟩ : ∃ P, pmore 2166136261 helloL = P := ⟨_, rfl⟩
  have HID : Hid (pmore 2166136261 (⟨#[104, 101, 108, 108, 111]⟩ : ByteArray).data.toList = P) := hP
  rw [hP] at HO HJ
  have HJN : Hid (joinOf (⟨#[97]⟩ : ByteArray).data.toList 5 P [(P, 5)] [helloL] = (helloL, (0, -1))) := HJ
  clear hP HJ
  go_enter Tryz.func5, Tryz.ntmps5
  go_wp2_with fail
  refine (S.of' ⟨#[97]⟩ ⟨#[104, 101, 108, 108, 111]⟩ _ (by decide) (by decide) hE).mono ?_
  rintro e w1 ⟨vx, ex, rfl, hx, hex, hb1⟩
  rw [HO.out] at hx hex ⊢
  simp only [rcpDV] at hx hex ⊢
  obtain rfl := hex.nil
  clear hex HO
  have hB : Below w.heap.size w w1 := hb1
  have hE1 := S.stable hE hb1
  clear hb1
  obtain ⟨px, cx, hxv, _⟩ := id hx
  subst hxv
  have hal : Below w1.heap.size w1 (w1.alloc (.cells #[.string ⟨#[97]⟩, .int .i64 5, .int .u32 (P : Nat), .slice px 1 cx] 26)) := (Below.refl _ w1).alloc (Nat.le_refl _) _
  have hX := Blk.new w1 #[.string ⟨#[97]⟩, .int .i64 5, .int .u32 (P : Nat), .slice px 1 cx] 26
  replace hx := hx.below hal
  replace hE1 := S.stable hE1 hal
  replace hB := hB.trans (hal.mono hB.size)
  have hal2 : ∀ W : World, Below W.heap.size W (W.alloc (.cells #[.string ⟨#[104, 101, 108, 108, 111]⟩] 9)) := fun W => (Below.refl _ W).alloc (Nat.le_refl _) _
  have HCL : Hid (∀ W : World, CellsAt (W.alloc (.cells #[.string ⟨#[104, 101, 108, 108, 111]⟩] 9)) (.slice (some ⟨W.heap.size, 0, none⟩) 1 1) ([helloL].map txtV)) := fun W => by
    refine ⟨some ⟨W.heap.size, 0, none⟩, 1, rfl, fun i hi => ⟨W.heap.size, 0, rfl, by simp, ?_⟩⟩
    match i, hi with
    | 0, _ => exact new_cell W _ _ rfl rfl
  have x0 := hX.cell (i := 0) rfl
  have x1 := hX.cell (i := 1) rfl
  have x2 := hX.cell (i := 2) rfl
  have x3 := hX.cell (i := 3) rfl
  go_wp2_with fail
  have hal3 := hal2 (w1.alloc (.cells #[.string ⟨#[97]⟩, .int .i64 5, .int .u32 (P : Nat), .slice px 1 cx] 26))
  have hL := HCL.out (w1.alloc (.cells #[.string ⟨#[97]⟩, .int .i64 5, .int .u32 (P : Nat), .slice px 1 cx] 26))
  have hsz : ∀ (W : World) (o : Obj), (W.alloc o).heap.size = W.heap.size + 1 := fun W o => Array.size_push _
  rw [hsz] at hL
  replace hx := hx.below hal3
  replace hE1 := S.stable hE1 hal3
  replace hB := hB.trans (hal3.mono hB.size)
  replace hX := hX.next hal3
  clear hal3 hal2 HCL hal x0 x1 x2 x3
  refine (S.join ⟨#[97]⟩ 5 P _ _ [(P, 5)] [helloL] _ (by decide) (by simp) (by decide) (by intro i h; match i, h with | 0, _ => exact Nat.le_of_ble_eq_true rfl) hE1 hx.at hL).mono ?_
  rintro e w2 ⟨ev, rfl, hev, hb2⟩
  rw [HJN.out] at hev ⊢
  obtain rfl := hev.nil
  replace hx := hx.below hb2
  replace hE1 := S.stable hE1 hb2
  replace hB := hB.trans (hb2.mono hB.size)
  replace hX := hX.next hb2
  clear hev hb2 HJN hL
  have x0 := hX.cell (i := 0) rfl
  have x1 := hX.cell (i := 1) rfl
  have x2 := hX.cell (i := 2) rfl
  have x3 := hX.cell (i := 3) rfl
  go_wp2_with fail
  refine (S.rep ⟨#[97]⟩ 5 P _ [(P, 5)] _ (by simp) hE1 hx.at).mono ?_
  rintro e w3 ⟨rfl, hb3⟩
  rw [show repOf [(P, 5)] = (P, 5) from rfl]
  obtain ⟨Q, hQ⟩ : ∃ Q : Int, ((P : Nat) : Int) = Q := ⟨_, rfl⟩
  have HQ : Hid (((P : Nat) : Int) = Q) := hQ
  simp only [hQ]
  clear hQ
  replace hB := hB.trans (hb3.mono hB.size)
  clear hb3
  go_wp2_with fail
  refine (id_any ⟨#[104, 101, 108, 108, 111]⟩ _ (by decide)).mono ?_
  rintro e w4 ⟨rfl, hb4⟩
  rw [HID.out, HQ.out, show (((⟨#[104, 101, 108, 108, 111]⟩ : ByteArray).size : Nat) : Int) = 5 from rfl]
  replace hB := hB.trans (hb4.mono hB.size)
  clear hb4 HID HQ hx hE1 hX x0 x1 x2 x3
  have hP0 : (Q == Q) = true := by simp
  go_wp2_with fail
  go_ret
  exact ⟨rfl, hB⟩
end Go.Proofs.YthgajeobenagjaaGreatDoor
