/-
  Own text. bin.readFirst by a contract, at any text.
-/
import Derived.Test.YtmjdgakokldliaaGreatDoorPFirst
import Derived.Test.YtmjdgakokldliaaGreatDoorHeldRd
import Derived.Test.YtmjdgakokldliaaGreatDoorErrG
namespace Go.Proofs.YtmjdgakokldliaaGreatDoor
open Go.RowKit

def firstRes : Option (Hd × List UInt8) → Value
  | some x => .tuple #[heldV x.1, .string ⟨x.2.toArray⟩, .bool true]
  | none => .tuple #[heldV ((0, 0), 0, []), .string ⟨#[]⟩, .bool false]
theorem cut_len (s : List UInt8) (c : UInt8) : (Lib.cut s [c]).1.length ≤ s.length ∧ (Lib.cut s [c]).2.1.length ≤ s.length := by
  by_cases hm : c ∈ s
  · obtain ⟨p, q, rfl, hp⟩ := List.eq_append_cons_of_mem hm
    rw [cut_one p q c hp]
    simp
    omega
  · rw [cut_miss s c hm]
    simp
theorem numOf_bound {l : List UInt8} {n : Nat} (h : numOf l 6 = some n) : n < 1000000 := by
  unfold numOf at h
  split at h
  · cases h
  · rename_i hn
    have h1 := undec_lt l 0 n h
    have h2 : 10 ^ l.length ≤ 10 ^ 6 := Nat.pow_le_pow_right (by decide) (by omega)
    omega
theorem idRead_bound {t : List UInt8} {x : Nat × Nat} (h : idRead t = some x) : x.1 < 4294967296 ∧ x.2 < 1000000 := by
  refine ⟨idRead_lt h, ?_⟩
  unfold idRead at h
  split at h
  · cases h
  · split at h
    · rename_i n m _ hm
      cases h
      exact numOf_bound hm
    · cases h
set_option maxRecDepth 100000 in
set_option maxHeartbeats 4000000 in
theorem readFirst_all (a : Nat → Addr) (s : ByteArray) (m : Int) (w : World) (hsz : s.size ≤ 50000)
    (hm : w.cell? ⟨13, 0, none⟩ = some (.int .i64 m)) (hv : w.cell? ⟨5, 0, none⟩ = some (sentV a 0)) :
    Calls Tryz.prog 82 #[.string s] w fun e w' => e = .returned (firstRes (hFirst s.data.toList)) ∧ Below w.heap.size w w' := by
  obtain ⟨F, hF⟩ : ∃ F, hFirst s.data.toList = F := ⟨_, rfl⟩
  have HF : Hid (hFirst s.data.toList = F) := hF
  rw [hF]
  clear hF
  have e1 : (⟨#[10]⟩ : ByteArray).data.toList = [10] := rfl
  have e2 : (⟨#[32]⟩ : ByteArray).data.toList = [32] := rfl
  obtain ⟨b1, hb1⟩ : ∃ b, (Lib.cut s.data.toList [10]).2.2 = b := ⟨_, rfl⟩
  obtain ⟨H, hH⟩ : ∃ H : ByteArray, (⟨(Lib.cut s.data.toList [10]).1.toArray⟩ : ByteArray) = H := ⟨_, rfl⟩
  obtain ⟨R, hR⟩ : ∃ R : ByteArray, (⟨(Lib.cut s.data.toList [10]).2.1.toArray⟩ : ByteArray) = R := ⟨_, rfl⟩
  have hHl : H.data.toList = (Lib.cut s.data.toList [10]).1 := by rw [← hH]
  have hRl : R.data.toList = (Lib.cut s.data.toList [10]).2.1 := by rw [← hR]
  obtain ⟨b2, hb2⟩ : ∃ b, (Lib.cut H.data.toList [32]).2.2 = b := ⟨_, rfl⟩
  obtain ⟨N, hN⟩ : ∃ N : ByteArray, (⟨(Lib.cut H.data.toList [32]).1.toArray⟩ : ByteArray) = N := ⟨_, rfl⟩
  obtain ⟨D, hD⟩ : ∃ D : ByteArray, (⟨(Lib.cut H.data.toList [32]).2.1.toArray⟩ : ByteArray) = D := ⟨_, rfl⟩
  have hNl : N.data.toList = (Lib.cut H.data.toList [32]).1 := by rw [← hN]
  have hDl : D.data.toList = (Lib.cut H.data.toList [32]).2.1 := by rw [← hD]
  have HC1 : Hid (∀ W, W.cell? ⟨13, 0, none⟩ = some (.int .i64 m) → Calls Tryz.prog 114 #[.string s, .string ⟨#[10]⟩] W fun e w' => e = .returned (.tuple #[.string H, .string R, .bool b1]) ∧ ∃ n, w' = W.drewN n) := fun W hmW => by
    have hc1 := Tryz.strings_Cut s ⟨#[10]⟩ m W (by omega) hmW
    rw [e1] at hc1
    rw [hH, hR, hb1] at hc1
    exact hc1
  have hsl : s.data.toList.length = s.size := by rw [Array.length_toList]; rfl
  have hHs : H.data.toList.length = H.size := by rw [Array.length_toList]; rfl
  have hRs : R.data.toList.length = R.size := by rw [Array.length_toList]; rfl
  have hNs : N.data.toList.length = N.size := by rw [Array.length_toList]; rfl
  have hDs : D.data.toList.length = D.size := by rw [Array.length_toList]; rfl
  have k1 := cut_len s.data.toList 10
  have k2 := cut_len H.data.toList 32
  rw [← hHl, ← hRl] at k1
  rw [← hNl, ← hDl] at k2
  have HC2 : Hid (∀ W, W.cell? ⟨13, 0, none⟩ = some (.int .i64 m) → Calls Tryz.prog 114 #[.string H, .string ⟨#[32]⟩] W fun e w' => e = .returned (.tuple #[.string N, .string D, .bool b2]) ∧ ∃ n, w' = W.drewN n) := fun W hmW => by
    have hc2 := Tryz.strings_Cut H ⟨#[32]⟩ m W (by omega) hmW
    rw [e2] at hc2
    rw [hN, hD, hb2] at hc2
    exact hc2
  obtain ⟨X, hX⟩ : ∃ X, idRead N.data.toList = X := ⟨_, rfl⟩
  obtain ⟨Y, hY⟩ : ∃ Y, numOf D.data.toList 6 = Y := ⟨_, rfl⟩
  have HFE : Hid (F = match (generalizing := false) X, Y with | some x, some u => if R.data.toList[x.2]? = some 10 then some (((x.1, (x.2 : Int)), (u : Int), R.data.toList.take x.2), R.data.toList.drop (x.2 + 1)) else none | _, _ => none) := by
    show _ = _
    rw [← HF.out, ← hX, ← hY, hNl, hDl, hHl, hRl]
    rfl
  have HRD : Hid (∀ W, W.cell? ⟨5, 0, none⟩ = some (sentV a 0) → Calls Tryz.prog 106 #[.string N] W fun e w' => e = .returned (readRes (sentV a 0) X) ∧ Below W.heap.size W w') := fun W hvW => by
    have hr := read_any N (by unfold maxLen; omega) (sentV a 0) W hvW
    rw [hX] at hr
    exact hr
  have HDG : Hid (∀ W, Calls Tryz.prog 115 #[.string D, .int .i64 6] W fun e w' => e = .returned (lenRes Y) ∧ w' = W) := fun W => by
    have hr := digRead6 D (by unfold maxLen; omega) W
    rw [hY] at hr
    exact hr
  have HXB : Hid (∀ x, X = some x → x.1 < 4294967296 ∧ x.2 < 1000000) := fun x e => idRead_bound (hX.trans e)
  have hRM : (R.size : Int) ≤ 50000 := by omega
  have HRS : Hid (R.data.toList.length = R.size) := hRs
  clear e1 e2 hH hN hD hHl hNl hDl hHs hNs hDs hsl k1 k2 hX hY hRl hRs hR HF hb1 hb2
  go_enter Tryz.func82, Tryz.ntmps82
  have HGL : Hid (∀ W, Below w.heap.size w W → W.cell? ⟨13, 0, none⟩ = some (.int .i64 m) ∧ W.cell? ⟨5, 0, none⟩ = some (sentV a 0)) := fun W hb => ⟨(hb.cell (p := ⟨13, 0, none⟩) (lt_of_cell hm)).trans hm, (hb.cell (p := ⟨5, 0, none⟩) (lt_of_cell hv)).trans hv⟩
  have hal := (Below.refl w.heap.size w).alloc (Nat.le_refl _) (.cells #[.int .u32 0, .int .i64 0, .int .i64 0, .string ⟨#[]⟩] 64)
  have hblk := Blk.new w #[.int .u32 0, .int .i64 0, .int .i64 0, .string ⟨#[]⟩] 64
  clear hm hv
  go_wp2_with fail
  obtain ⟨W, hW⟩ : ∃ W, (w.alloc (.cells #[.int .u32 0, .int .i64 0, .int .i64 0, .string ⟨#[]⟩] 64)) = W := ⟨_, rfl⟩
  rw [hW] at hal hblk ⊢
  clear hW
  refine (HC1.out W (HGL.out _ hal).1).mono ?_
  rintro e w1 ⟨rfl, n1, hw1⟩
  have hB1 : Below w.heap.size w w1 := by rw [hw1]; exact hal.trans (below_drewN _ _)
  have hblk1 : Blk w1 w.heap.size #[.int .u32 0, .int .i64 0, .int .i64 0, .string ⟨#[]⟩] 64 := by rw [hw1]; exact hblk
  clear hw1 hal hblk HC1
  go_wp2_with fail
  refine (HC2.out w1 (HGL.out _ hB1).1).mono ?_
  rintro e w2 ⟨rfl, n2, hw2⟩
  have hB2 : Below w.heap.size w w2 := by rw [hw2]; exact hB1.trans (below_drewN _ _)
  have hblk2 : Blk w2 w.heap.size #[.int .u32 0, .int .i64 0, .int .i64 0, .string ⟨#[]⟩] 64 := by rw [hw2]; exact hblk1
  clear hw2 hB1 hblk1 HC2
  go_wp2_with fail
  refine (HRD.out w2 (HGL.out _ hB2).2).mono ?_
  rintro e w3 ⟨rfl, hb3⟩
  have hB3 : Below w.heap.size w w3 := hB2.trans (hb3.mono hB2.size)
  have hblk3 := hblk2.next hb3
  have hlt3 := hblk3.lt
  have hne1 : ¬ (w3.heap.size = w.heap.size) := by omega
  have hne2 : ¬ (w.heap.size = w3.heap.size) := by omega
  clear hb3 hB2 hblk2 HRD
  cases X with
  | none =>
    have HFN : Hid (F = none) := HFE.out
    have hal3 := (Below.refl w3.heap.size w3).alloc (Nat.le_refl _) (.cells #[.int .u32 0, .int .i64 0] 40)
    have hblk4 := hblk3.next hal3
    have hB4 := hB3.trans (hal3.mono hB3.size)
    clear hal3 hblk3 hB3 hlt3
    simp only [readRes]
    go_wp2_with fail
    refine (HDG.out _).mono ?_
    rintro e w4 ⟨rfl, hw4⟩
    rw [← hw4] at hblk4 hB4
    clear HDG hw4
    have f0 := hblk4.cell (i := 0) rfl
    have f1 := hblk4.cell (i := 1) rfl
    have f2 := hblk4.cell (i := 2) rfl
    have f3 := hblk4.cell (i := 3) rfl
    have z0 := hblk4.frozen 0
    have z1 := hblk4.frozen 1
    have z2 := hblk4.frozen 2
    have z3 := hblk4.frozen 3
    cases Y
    all_goals
      simp only [lenRes]
      go_wp2_with fail
      have hRs := (((hblk4.set 0 (.int .u32 0)).set 1 (.int .i64 0)).set 2 (.int .i64 0)).set 3 (.string ⟨#[]⟩)
      have s0 := hRs.cell (i := 0) rfl
      have s1 := hRs.cell (i := 1) rfl
      have s2 := hRs.cell (i := 2) rfl
      have s3 := hRs.cell (i := 3) rfl
      exact bodyPost_ret (v := .tuple #[.agg #[.int .u32 0, .int .i64 0, .int .i64 0, .string ⟨#[]⟩], .string ⟨#[]⟩, .bool false]) (by simp [results, Tryz.results82, go_sem, s0, s1, s2, s3]) rfl ⟨by rw [HFN.out]; rfl, ((((hB4.setCell (p := ⟨w.heap.size, 0, none⟩) (Nat.le_refl _) _).setCell (p := ⟨w.heap.size, 1, none⟩) (Nat.le_refl _) _).setCell (p := ⟨w.heap.size, 2, none⟩) (Nat.le_refl _) _).setCell (p := ⟨w.heap.size, 3, none⟩) (Nat.le_refl _) _)⟩
  | some x =>
    obtain ⟨xp, xn⟩ := x
    obtain ⟨hxp, hxn⟩ := HXB.out (xp, xn) rfl
    simp only at hxp hxn
    have hal3 := (Below.refl w3.heap.size w3).alloc (Nat.le_refl _) (.cells #[.int .u32 (xp : Nat), .int .i64 (xn : Int)] 40)
    have hblk4 := hblk3.next hal3
    have hid4 := Blk.new w3 #[.int .u32 (xp : Nat), .int .i64 (xn : Int)] 40
    have hB4 := hB3.trans (hal3.mono hB3.size)
    clear hal3 hblk3 hB3 hlt3
    simp only [readRes]
    go_wp2_with fail
    refine (HDG.out _).mono ?_
    rintro e w4 ⟨rfl, hw4⟩
    rw [← hw4] at hblk4 hid4 hB4
    clear HDG hw4
    have f0 := hblk4.cell (i := 0) rfl
    have f1 := hblk4.cell (i := 1) rfl
    have f2 := hblk4.cell (i := 2) rfl
    have f3 := hblk4.cell (i := 3) rfl
    have g0 := hid4.cell (i := 0) rfl
    have g1 := hid4.cell (i := 1) rfl
    have z0 := hblk4.frozen 0
    have z1 := hblk4.frozen 1
    have z2 := hblk4.frozen 2
    have z3 := hblk4.frozen 3
    cases Y with
    | none =>
      have HFN : Hid (F = none) := HFE.out
      simp only [lenRes]
      go_wp2_with fail
      have hRs := (((hblk4.set 0 (.int .u32 0)).set 1 (.int .i64 0)).set 2 (.int .i64 0)).set 3 (.string ⟨#[]⟩)
      have s0 := hRs.cell (i := 0) rfl
      have s1 := hRs.cell (i := 1) rfl
      have s2 := hRs.cell (i := 2) rfl
      have s3 := hRs.cell (i := 3) rfl
      exact bodyPost_ret (v := .tuple #[.agg #[.int .u32 0, .int .i64 0, .int .i64 0, .string ⟨#[]⟩], .string ⟨#[]⟩, .bool false]) (by simp [results, Tryz.results82, go_sem, s0, s1, s2, s3]) rfl ⟨by rw [HFN.out]; rfl, ((((hB4.setCell (p := ⟨w.heap.size, 0, none⟩) (Nat.le_refl _) _).setCell (p := ⟨w.heap.size, 1, none⟩) (Nat.le_refl _) _).setCell (p := ⟨w.heap.size, 2, none⟩) (Nat.le_refl _) _).setCell (p := ⟨w.heap.size, 3, none⟩) (Nat.le_refl _) _)⟩
    | some u =>
      simp only [lenRes]
      by_cases hC : xn < R.size
      · have hlt2 : (xn : Int) < (R.size : Int) := by omega
        have hn2 : ¬ (R.size : Int) ≤ (xn : Int) := by omega
        have hget : R.data.toList[xn]? = some (R[xn]) := by
          rw [List.getElem?_eq_getElem (by rw [HRS.out]; exact hC), Array.getElem_toList]
          rfl
        by_cases h10 : R[xn].toNat = 10
        · have hb : R[xn] = 10 := UInt8.toNat_inj.1 h10
          have HFN : Hid (F = some (((xp, (xn : Int)), (u : Int), R.data.toList.take xn), R.data.toList.drop (xn + 1))) := by
            show _ = _
            rw [HFE.out]
            simp only [hget, hb, if_true]
          clear hget hb
          have hlt3 : ((xn : Int) + 1) ≤ (R.size : Int) := by omega
          have hw5 : IntKind.i64.wrap ((xn : Int) + 1) = (xn : Int) + 1 := by rw [IntKind.wrap_i64]; omega
          have hw6 : ((xn : Int) + 1).toNat = xn + 1 := by omega
          go_wp2_with fail
          go_region
          go_wp2_with fail
          have hRs := (((hblk4.set 0 (.int .u32 (xp : Nat))).set 1 (.int .i64 (xn : Int))).set 2 (.int .i64 (u : Int))).set 3 (.string (R.extract 0 xn))
          have s0 := hRs.cell (i := 0) rfl
          have s1 := hRs.cell (i := 1) rfl
          have s2 := hRs.cell (i := 2) rfl
          have s3 := hRs.cell (i := 3) rfl
          have ht0 : R.extract 0 xn = ⟨(R.data.toList.take xn).toArray⟩ := by
            apply ByteArray.ext
            apply Array.toList_inj.1
            rw [Lib.extract_data]
            simp
          have hr0 : R.extract (xn + 1) R.size = ⟨(R.data.toList.drop (xn + 1)).toArray⟩ := by
            apply ByteArray.ext
            apply Array.toList_inj.1
            rw [Lib.extract_data, ← HRS.out, List.take_of_length_le (by simp)]
          exact bodyPost_ret (v := .tuple #[.agg #[.int .u32 (xp : Nat), .int .i64 (xn : Int), .int .i64 (u : Int), .string (R.extract 0 xn)], .string (R.extract (xn + 1) R.size), .bool true]) (by simp [results, Tryz.results82, go_sem, s0, s1, s2, s3]) rfl ⟨by rw [HFN.out, ht0, hr0]; rfl, ((((hB4.setCell (p := ⟨w.heap.size, 0, none⟩) (Nat.le_refl _) _).setCell (p := ⟨w.heap.size, 1, none⟩) (Nat.le_refl _) _).setCell (p := ⟨w.heap.size, 2, none⟩) (Nat.le_refl _) _).setCell (p := ⟨w.heap.size, 3, none⟩) (Nat.le_refl _) _).drew⟩
        · have HFN : Hid (F = none) := by
            show _ = _
            rw [HFE.out]
            simp only [hget]
            rw [if_neg]
            intro e
            have e' : R[xn] = 10 := Option.some.inj e
            exact h10 (by rw [e']; rfl)
          clear hget
          go_wp2_with fail
          have hRs := (((hblk4.set 0 (.int .u32 0)).set 1 (.int .i64 0)).set 2 (.int .i64 0)).set 3 (.string ⟨#[]⟩)
          have s0 := hRs.cell (i := 0) rfl
          have s1 := hRs.cell (i := 1) rfl
          have s2 := hRs.cell (i := 2) rfl
          have s3 := hRs.cell (i := 3) rfl
          exact bodyPost_ret (v := .tuple #[.agg #[.int .u32 0, .int .i64 0, .int .i64 0, .string ⟨#[]⟩], .string ⟨#[]⟩, .bool false]) (by simp [results, Tryz.results82, go_sem, s0, s1, s2, s3]) rfl ⟨by rw [HFN.out]; rfl, ((((hB4.setCell (p := ⟨w.heap.size, 0, none⟩) (Nat.le_refl _) _).setCell (p := ⟨w.heap.size, 1, none⟩) (Nat.le_refl _) _).setCell (p := ⟨w.heap.size, 2, none⟩) (Nat.le_refl _) _).setCell (p := ⟨w.heap.size, 3, none⟩) (Nat.le_refl _) _)⟩
      · have hn2 : (R.size : Int) ≤ (xn : Int) := by omega
        have HFN : Hid (F = none) := by
          show _ = _
          rw [HFE.out]
          have hget : R.data.toList[xn]? = none := List.getElem?_eq_none (by rw [HRS.out]; omega)
          simp only [hget]
          rfl
        go_wp2_with fail
        have hRs := (((hblk4.set 0 (.int .u32 0)).set 1 (.int .i64 0)).set 2 (.int .i64 0)).set 3 (.string ⟨#[]⟩)
        have s0 := hRs.cell (i := 0) rfl
        have s1 := hRs.cell (i := 1) rfl
        have s2 := hRs.cell (i := 2) rfl
        have s3 := hRs.cell (i := 3) rfl
        exact bodyPost_ret (v := .tuple #[.agg #[.int .u32 0, .int .i64 0, .int .i64 0, .string ⟨#[]⟩], .string ⟨#[]⟩, .bool false]) (by simp [results, Tryz.results82, go_sem, s0, s1, s2, s3]) rfl ⟨by rw [HFN.out]; rfl, ((((hB4.setCell (p := ⟨w.heap.size, 0, none⟩) (Nat.le_refl _) _).setCell (p := ⟨w.heap.size, 1, none⟩) (Nat.le_refl _) _).setCell (p := ⟨w.heap.size, 2, none⟩) (Nat.le_refl _) _).setCell (p := ⟨w.heap.size, 3, none⟩) (Nat.le_refl _) _)⟩
end Go.Proofs.YtmjdgakokldliaaGreatDoor
