/-
  Own text. bin.readFirst by a contract, at a text that begins with a piece's text.
-/
import Derived.Test.YtmjdgakokldliaaGreatDoorHsText
import Derived.Test.YtmjdgakokldliaaGreatDoorUsesMem
import Derived.Test.YtmjdgakokldliaaGreatDoorRead
import Derived.Test.YtmjdgakokldliaaGreatDoorShelf
import Derived.Deep.RegionHeld3
import Derived.Deep.QuietTactic
namespace Go.Proofs.YtmjdgakokldliaaGreatDoor
open Go.RowKit

theorem below_drewN {n : Nat} (w : World) (k : Nat) : Below n w (w.drewN k) := ⟨rfl, rfl, rfl, Nat.le_refl _, fun _ _ => rfl⟩
set_option maxRecDepth 100000 in
set_option maxHeartbeats 2000000 in
theorem readFirst_any (h : Hd) (r : List UInt8) (s : ByteArray) (m : Int) (v : Value) (w : World) (hs : s.data.toList = hText h ++ r) (hsz : s.size ≤ 50000) (h0 : h.1.2 = (h.2.2.length : Int)) (h1 : h.2.2.length ≤ 64) (h2 : h.1.1 < 4294967296) (h3 : 0 ≤ h.2.1 ∧ h.2.1 < 1000000)
    (hm : w.cell? ⟨13, 0, none⟩ = some (.int .i64 m)) (hv : w.cell? ⟨5, 0, none⟩ = some v) :
    Calls Tryz.prog 82 #[.string s] w fun e w' => e = .returned (.tuple #[heldV h, .string ⟨r.toArray⟩, .bool true]) ∧ Below w.heap.size w w' := by
  obtain ⟨⟨xp, xl⟩, u, t⟩ := h
  simp only at h0 h1 h2 h3
  subst h0
  have hcut1 : Lib.cut s.data.toList [10] = (hHead ((xp, (t.length : Int)), u, t), t ++ 10 :: r, true) := by rw [hs]; exact cut_head _ r
  have e1 : (⟨#[10]⟩ : ByteArray).data.toList = [10] := rfl
  have e2 : (⟨#[32]⟩ : ByteArray).data.toList = [32] := rfl
  obtain ⟨H, hH⟩ : ∃ H : ByteArray, (⟨(hHead ((xp, (t.length : Int)), u, t)).toArray⟩ : ByteArray) = H := ⟨_, rfl⟩
  obtain ⟨R, hR⟩ : ∃ R : ByteArray, (⟨(t ++ 10 :: r).toArray⟩ : ByteArray) = R := ⟨_, rfl⟩
  obtain ⟨N, hN⟩ : ∃ N : ByteArray, (⟨(idText xp (t.length : Int).toNat).toArray⟩ : ByteArray) = N := ⟨_, rfl⟩
  obtain ⟨D, hD⟩ : ∃ D : ByteArray, (⟨(Lib.decDigits u.toNat).toArray⟩ : ByteArray) = D := ⟨_, rfl⟩
  have HC1 : Hid (∀ W, W.cell? ⟨13, 0, none⟩ = some (.int .i64 m) → Calls Tryz.prog 114 #[.string s, .string ⟨#[10]⟩] W fun e w' => e = .returned (.tuple #[.string H, .string R, .bool true]) ∧ ∃ n, w' = W.drewN n) := fun W hmW => by
    have hc1 := Tryz.strings_Cut s ⟨#[10]⟩ m W (by omega) hmW
    rw [e1, hcut1] at hc1
    simp only at hc1
    rw [hH, hR] at hc1
    exact hc1
  have hHl : H.data.toList = hHead ((xp, (t.length : Int)), u, t) := by rw [← hH]
  have hRl : R.data.toList = t ++ 10 :: r := by rw [← hR]
  have hNl : N.data.toList = idText xp (t.length : Int).toNat := by rw [← hN]
  have hDl : D.data.toList = Lib.decDigits u.toNat := by rw [← hD]
  have hsl : s.data.toList.length = s.size := by rw [Array.length_toList]; rfl
  have hHs : H.data.toList.length = H.size := by rw [Array.length_toList]; rfl
  have hRs : R.data.toList.length = R.size := by rw [Array.length_toList]; rfl
  have hNs : N.data.toList.length = N.size := by rw [Array.length_toList]; rfl
  have hDs : D.data.toList.length = D.size := by rw [Array.length_toList]; rfl
  have hall : s.size = H.size + 1 + R.size := by
    rw [← hsl, hs, ← hHs, ← hRs, hHl, hRl]
    simp [hText]; omega
  have hHN : H.size = N.size + 1 + D.size := by
    rw [← hHs, ← hNs, ← hDs, hHl, hNl, hDl]
    simp [hHead]; omega
  have HC2 : Hid (∀ W, W.cell? ⟨13, 0, none⟩ = some (.int .i64 m) → Calls Tryz.prog 114 #[.string H, .string ⟨#[32]⟩] W fun e w' => e = .returned (.tuple #[.string N, .string D, .bool true]) ∧ ∃ n, w' = W.drewN n) := fun W hmW => by
    have hc2 := Tryz.strings_Cut H ⟨#[32]⟩ m W (by omega) hmW
    rw [e2, hHl, cut_name] at hc2
    simp only at hc2
    rw [hN, hD] at hc2
    exact hc2
  have HRD : Hid (∀ W, W.cell? ⟨5, 0, none⟩ = some v → Calls Tryz.prog 106 #[.string N] W fun e w' => e = .returned (.tuple #[idV (xp : Nat) (t.length : Int), .nilIface]) ∧ Below W.heap.size W w') := fun W hvW => by
    have hr := read_any N (by unfold maxLen; omega) v W hvW
    rw [hNl, idRead_idText xp (t.length : Int).toNat h2 (by omega)] at hr
    have e : (((t.length : Int).toNat : Nat) : Int) = (t.length : Int) := by omega
    simp only [readRes, e] at hr
    exact hr
  have HDG : Hid (∀ W, Calls Tryz.prog 115 #[.string D, .int .i64 6] W fun e w' => e = .returned (.tuple #[.int .i64 u, .bool true]) ∧ w' = W) := fun W => by
    have hr := digRead6 D (by unfold maxLen; omega) W
    rw [hDl, numOf_decDigits u.toNat 6 (by decide) (by omega)] at hr
    have e : ((u.toNat : Nat) : Int) = u := by omega
    simp only [lenRes, e] at hr
    exact hr
  clear hcut1 e1 e2 hH hN hD hHl hNl hDl hHs hNs hDs hsl
  go_enter Tryz.func82, Tryz.ntmps82
  have hlt : t.length < R.size := by rw [← hRs, hRl]; simp
  have hlt2 : (t.length : Int) < (R.size : Int) := by omega
  have hlt3 : ((t.length : Int) + 1) ≤ (R.size : Int) := by omega
  have hRM : (R.size : Int) ≤ 50000 := by omega
  have h10 : R[t.length].toNat = 10 := by
    have e : R[t.length] = R.data.toList[t.length]'(by rw [hRs]; exact hlt) := by rw [Array.getElem_toList]; rfl
    rw [e]
    simp [hRl]
  have hw5 : IntKind.i64.wrap ((t.length : Int) + 1) = (t.length : Int) + 1 := by rw [IntKind.wrap_i64]; omega
  have HRL : Hid (R.data.toList = t ++ 10 :: r) := hRl
  have HRS : Hid (R.data.toList.length = R.size) := hRs
  clear hRl hRs hR hall hHN
  have HGL : Hid (∀ W, Below w.heap.size w W → W.cell? ⟨13, 0, none⟩ = some (.int .i64 m) ∧ W.cell? ⟨5, 0, none⟩ = some v) := fun W hb => ⟨(hb.cell (p := ⟨13, 0, none⟩) (lt_of_cell hm)).trans hm, (hb.cell (p := ⟨5, 0, none⟩) (lt_of_cell hv)).trans hv⟩
  have hal := (Below.refl w.heap.size w).alloc (Nat.le_refl _) (.cells #[.int .u32 0, .int .i64 0, .int .i64 0, .string ⟨#[]⟩] 64)
  have hblk := Blk.new w #[.int .u32 0, .int .i64 0, .int .i64 0, .string ⟨#[]⟩] 64
  clear hm hv
  go_wp2_with fail
  obtain ⟨W, hW⟩ : ∃ W, (w.alloc (.cells #[.int .u32 0, .int .i64 0, .int .i64 0, .string ⟨#[]⟩] 64)) = W := ⟨_, rfl⟩
  rw [hW] at hal hblk ⊢
  clear hW
  refine (HC1.out W (HGL.out _ hal).1).mono ?_
  rintro e w1 ⟨rfl, n1, hw1⟩
  have hB1 : Below w.heap.size w w1 := by rw [hw1]; exact hal.trans (below_drewN _ _)
  have hblk1 : Blk w1 w.heap.size #[.int .u32 0, .int .i64 0, .int .i64 0, .string ⟨#[]⟩] 64 := by rw [hw1]; exact hblk
  clear hw1 hal hblk HC1
  go_wp2_with fail
  refine (HC2.out w1 (HGL.out _ hB1).1).mono ?_
  rintro e w2 ⟨rfl, n2, hw2⟩
  have hB2 : Below w.heap.size w w2 := by rw [hw2]; exact hB1.trans (below_drewN _ _)
  have hblk2 : Blk w2 w.heap.size #[.int .u32 0, .int .i64 0, .int .i64 0, .string ⟨#[]⟩] 64 := by rw [hw2]; exact hblk1
  clear hw2 hB1 hblk1 HC2
  go_wp2_with fail
  refine (HRD.out w2 (HGL.out _ hB2).2).mono ?_
  rintro e w3 ⟨rfl, hb3⟩
  have hB3 : Below w.heap.size w w3 := hB2.trans (hb3.mono hB2.size)
  have hblk3 := hblk2.next hb3
  clear hb3 hB2 hblk2 HRD
  have hal3 := (Below.refl w3.heap.size w3).alloc (Nat.le_refl _) (.cells #[.int .u32 (xp : Nat), .int .i64 (t.length : Int)] 40)
  have hblk4 := hblk3.next hal3
  have hne1 : ¬ (w3.heap.size = w.heap.size) := by have := hblk3.lt; omega
  have hne2 : ¬ (w.heap.size = w3.heap.size) := by have := hblk3.lt; omega
  have hid4 := Blk.new w3 #[.int .u32 (xp : Nat), .int .i64 (t.length : Int)] 40
  have hB4 := hB3.trans (hal3.mono hB3.size)
  go_wp2_with fail
  refine (HDG.out _).mono ?_
  rintro e w4 ⟨rfl, hw4⟩
  rw [← hw4] at hblk4 hid4 hB4
  clear HDG hw4 hal3 hblk3 hB3
  have f0 := hblk4.cell (i := 0) rfl
  have f1 := hblk4.cell (i := 1) rfl
  have f2 := hblk4.cell (i := 2) rfl
  have f3 := hblk4.cell (i := 3) rfl
  have g0 := hid4.cell (i := 0) rfl
  have g1 := hid4.cell (i := 1) rfl
  have z0 := hblk4.frozen 0
  have z1 := hblk4.frozen 1
  have z2 := hblk4.frozen 2
  have z3 := hblk4.frozen 3
  have hw6 : ((t.length : Int) + 1).toNat = t.length + 1 := by omega
  go_wp2_with fail
  go_region
  go_wp2_with fail
  have hRs := (((hblk4.set 0 (.int .u32 (xp : Nat))).set 1 (.int .i64 (t.length : Int))).set 2 (.int .i64 u)).set 3 (.string (R.extract 0 t.length))
  have s0 := hRs.cell (i := 0) rfl
  have s1 := hRs.cell (i := 1) rfl
  have s2 := hRs.cell (i := 2) rfl
  have s3 := hRs.cell (i := 3) rfl
  have ht0 : R.extract 0 t.length = ⟨t.toArray⟩ := by
    apply ByteArray.ext
    apply Array.toList_inj.1
    rw [Lib.extract_data, HRL.out]
    simp
  have hr0 : R.extract (t.length + 1) R.size = ⟨r.toArray⟩ := by
    apply ByteArray.ext
    apply Array.toList_inj.1
    rw [Lib.extract_data, ← HRS.out, HRL.out]
    have e : (t ++ 10 :: r).drop (t.length + 1) = r := by
      rw [show t ++ 10 :: r = (t ++ [10]) ++ r by simp, show t.length + 1 = (t ++ [10]).length by simp, List.drop_left]
    rw [e, List.take_of_length_le (by simp; omega)]
  exact bodyPost_ret (v := .tuple #[.agg #[.int .u32 (xp : Nat), .int .i64 (t.length : Int), .int .i64 u, .string (R.extract 0 t.length)], .string (R.extract (t.length + 1) R.size), .bool true]) (by simp [results, Tryz.results82, go_sem, s0, s1, s2, s3]) rfl ⟨by rw [ht0, hr0], ((((hB4.setCell (p := ⟨w.heap.size, 0, none⟩) (Nat.le_refl _) _).setCell (p := ⟨w.heap.size, 1, none⟩) (Nat.le_refl _) _).setCell (p := ⟨w.heap.size, 2, none⟩) (Nat.le_refl _) _).setCell (p := ⟨w.heap.size, 3, none⟩) (Nat.le_refl _) _).drew⟩
end Go.Proofs.YtmjdgakokldliaaGreatDoor
