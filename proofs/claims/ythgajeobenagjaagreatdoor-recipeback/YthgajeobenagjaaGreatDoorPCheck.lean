/-
  Own text. The program's recipe.Check by a contract.
-/
import Derived.Test.YthgajeobenagjaaGreatDoorPName
import Derived.Test.YthgajeobenagjaaGreatDoorRecErr
import Derived.Test.YthgajeobenagjaaGreatDoorRecBlk
namespace Go.Proofs.YthgajeobenagjaaGreatDoor
open Go.RowKit

theorem ErrIn.mkNil (base : Nat) (w : World) (a : Nat → Addr) : ErrIn base w a .nilIface (0, -1) := .inl ⟨rfl, rfl⟩
theorem ErrIn.sent (base : Nat) (w : World) (a : Nat → Addr) (k : Nat) (hk : k < 12) {c : Int} (hc : c = (k : Int) + 1) : ErrIn base w a (sentV a k) (c, -1) := .inr (.inl ⟨k, hk, rfl, by rw [hc]⟩)

set_option maxRecDepth 100000 in
set_option maxHeartbeats 4000000 in
theorem check_any (a : Nat → Addr) (nm : ByteArray) (hnm : nm.size ≤ maxLen) (len p : Int) (v : Value) (ids : List (Nat × Int)) (w : World) (hE : ErrW w a) (hv : IdsAt w v ids) (hlen : ids.length ≤ maxLen) :
    Calls Tryz.prog 12 #[rcpV nm len p v] w fun e w' => ∃ ev, e = .returned ev ∧ ErrIn w.heap.size w' a ev (recFault nm.data.toList len ids) ∧ Below w.heap.size w w' := by
  obtain ⟨pa, c, rfl, hcell⟩ := hv
  have HN : Hid (nm.size ≤ maxLen) := hnm
  have hl2 : (ids.length : Int) ≤ 9223372036854775807 := by unfold maxLen at hlen; omega
  have HG : Hid (∀ W', Below w.heap.size w W' → ∀ i, i < 12 → W'.cell? ⟨errG i, 0, none⟩ = some (sentV a i)) := fun W' hb i hi => (hE.below hb (Nat.le_refl _)).glob i hi
  have HC : Hid (∀ W', Below w.heap.size w W' → ∀ i (h : i < ids.length), ∃ b o, pa = some ⟨b, o, none⟩ ∧ W'.cell? ⟨b, o + i * 2, none⟩ = some (.int .u32 (ids[i].1 : Nat)) ∧ W'.cell? ⟨b, o + i * 2 + 1, none⟩ = some (.int .i64 ids[i].2)) := fun W' hb i hi => by
    obtain ⟨b, o, hp, hlt, h1, h2⟩ := hcell i hi
    exact ⟨b, o, hp, (hb.cell (p := ⟨b, o + i * 2, none⟩) hlt).trans h1, (hb.cell (p := ⟨b, o + i * 2 + 1, none⟩) hlt).trans h2⟩
  clear hnm hlen hcell hE
  go_enter Tryz.func12, Tryz.ntmps12
  go_wp2_with fail
  refine (name_any nm HN.out _).mono ?_
  rintro e w1 ⟨rfl, hw1⟩
  subst hw1
  have hX := Blk.new w #[.string nm, .int .i64 len, .int .u32 p, .slice pa ids.length c] 26
  have hb : Below w.heap.size w (w.alloc (.cells #[.string nm, .int .i64 len, .int .u32 p, .slice pa ids.length c] 26)) := (Below.refl _ w).alloc (Nat.le_refl _) _
  obtain ⟨W, hW⟩ : ∃ W, w.alloc (.cells #[.string nm, .int .i64 len, .int .u32 p, .slice pa ids.length c] 26) = W := ⟨_, rfl⟩
  rw [hW] at hX hb ⊢
  clear hW
  have x1 := hX.cell (i := 1) rfl
  have x3 := hX.cell (i := 3) rfl
  have g0 := HG.out W hb 0 (by decide)
  have g1 := HG.out W hb 1 (by decide)
  have g3 := HG.out W hb 3 (by decide)
  have g6 := HG.out W hb 6 (by decide)
  dsimp only [errG] at g0 g1 g3 g6
  by_cases h1 : isName nm.data.toList = true
  · rw [h1]
    have H1 : Hid (isName nm.data.toList = true) := h1
    clear h1
    by_cases h2a : len < 0
    · have HR : Hid (recFault nm.data.toList len ids = (2, -1)) := recFault_len ids H1.out (.inl h2a)
      go_wp2_with fail
      go_ret
      exact ⟨_, rfl, by rw [HR.out]; exact ErrIn.sent _ _ a 1 (by decide) rfl, hb⟩
    · by_cases h2b : 4000 < len
      · have HR : Hid (recFault nm.data.toList len ids = (2, -1)) := recFault_len ids H1.out (.inr h2b)
        go_wp2_with fail
        go_ret
        exact ⟨_, rfl, by rw [HR.out]; exact ErrIn.sent _ _ a 1 (by decide) rfl, hb⟩
      · have H2 : Hid (¬ (len < 0 ∨ 4000 < len)) := fun h => h.elim h2a h2b
        by_cases h3 : 250 < ids.length
        · have h3' : (250 : Int) < (ids.length : Int) := by omega
          have HR : Hid (recFault nm.data.toList len ids = (7, -1)) := recFault_many H1.out H2.out h3
          clear h3
          go_wp2_with fail
          go_ret
          exact ⟨_, rfl, by rw [HR.out]; exact ErrIn.sent _ _ a 6 (by decide) rfl, hb⟩
        · have h3' : ¬ (250 : Int) < (ids.length : Int) := by omega
          have H3 : Hid (¬ 250 < ids.length) := h3
          clear h3 g0 g1 g3 g6
          go_wp2_with fail
          go_loopw [3, 28] (fun t i wr => ∃ (k : Nat), k ≤ ids.length ∧ i = .int .i64 k ∧ t = .int .i64 (lenSum (ids.take k)) ∧ (∀ j (hj : j < ids.length), j < k → idOk ids[j] = true) ∧ 0 ≤ lenSum (ids.take k) ∧ lenSum (ids.take k) ≤ 64 * (k : Int) ∧ Below w.heap.size w wr ∧ Blk wr w.heap.size #[.string nm, .int .i64 len, .int .u32 p, .slice pa ids.length c] 26) (fun _ i _ => ids.length - (intOf i).toNat)
          case atStart => exact ⟨0, Nat.zero_le _, rfl, by simp [lenSum], fun j _ h => by omega, by simp [lenSum], by simp [lenSum], hb, hX⟩
          case round =>
            clear hX hb x1 x3
            obtain ⟨k, hk, rfl, rfl, hok, hs0, hs1, hb, hX⟩ := hrel
            have HOK : Hid (∀ j (hj : j < ids.length), j < k → idOk ids[j] = true) := hok
            clear hok
            have x1 := hX.cell (i := 1) rfl
            have g2 := HG.out wr hb 2 (by decide)
            have g8 := HG.out wr hb 8 (by decide)
            dsimp only [errG] at g2 g8
            have hlg2 := lt_of_cell g2
            by_cases hlt : k < ids.length
            · have hlt' : (k : Int) < (ids.length : Int) := by omega
              obtain ⟨b, o, rfl, hc0, hc1⟩ := HC.out wr hb k hlt
              have HSN : Hid (lenSum (ids.take (k + 1)) = lenSum (ids.take k) + ids[k].2) := lenSum_snoc ids k hlt
              obtain ⟨x, hx⟩ : ∃ x, ids[k].2 = x := ⟨_, rfl⟩
              obtain ⟨y, hy⟩ : ∃ y : Int, ((ids[k].1 : Nat) : Int) = y := ⟨_, rfl⟩
              obtain ⟨t, ht⟩ : ∃ t, lenSum (ids.take k) = t := ⟨_, rfl⟩
              have HOX : Hid (idOk ids[k] = decide (1 ≤ x ∧ x ≤ 64)) := by show _ = _; rw [← hx]; rfl
              rw [hx] at hc1 HSN
              rw [hy] at hc0
              rw [ht] at HSN hs0 hs1
              rw [ht]
              clear hx ht hy
              have hal : Below wr.heap.size wr (wr.alloc (.cells #[.int .u32 y, .int .i64 x] 40)) := (Below.refl _ wr).alloc (Nat.le_refl _) _
              by_cases hx1 : x < 1
              · have HB : Hid (firstBad 0 ids = some k) := by
                  have := firstBad_at ids 0 k hlt (fun j hj => HOK.out j (by omega) hj) (by rw [HOX.out]; simp; omega)
                  rwa [Nat.zero_add] at this
                have HR : Hid (recFault nm.data.toList len ids = (3, (k : Int))) := recFault_shape H1.out H2.out H3.out HB.out
                go_wp2_with fail
                go_ret
                refine ⟨_, rfl, ?_, (hb.trans (hal.mono hb.size)).alloc (Nat.le_trans hb.size hal.size) _⟩
                rw [HR.out]
                refine .inr (.inr ⟨2, wr.heap.size + 1, 0, (k : Int), by decide, by have := hb.size; omega, rfl, ?_, ?_, rfl⟩)
                · simp
                · simp
              · by_cases hx2 : 64 < x
                · have HB : Hid (firstBad 0 ids = some k) := by
                    have := firstBad_at ids 0 k hlt (fun j hj => HOK.out j (by omega) hj) (by rw [HOX.out]; simp; omega)
                    rwa [Nat.zero_add] at this
                  have HR : Hid (recFault nm.data.toList len ids = (3, (k : Int))) := recFault_shape H1.out H2.out H3.out HB.out
                  go_wp2_with fail
                  go_ret
                  refine ⟨_, rfl, ?_, (hb.trans (hal.mono hb.size)).alloc (Nat.le_trans hb.size hal.size) _⟩
                  rw [HR.out]
                  refine .inr (.inr ⟨2, wr.heap.size + 1, 0, (k : Int), by decide, by have := hb.size; omega, rfl, ?_, ?_, rfl⟩)
                  · simp
                  · simp
                · go_wp2_with fail
                  go_roundw
                  case rel => exact ⟨k + 1, by omega, by go_num, by rw [HSN.out], fun j hj h => by
                    by_cases e : j = k
                    · subst e; rw [HOX.out]; simp; omega
                    · exact HOK.out j hj (by omega), by rw [HSN.out]; omega, by rw [HSN.out]; omega, hb.trans (hal.mono hb.size), hX.next hal⟩
                  case measure => simp [intOf]; omega
            · have hge : (ids.length : Int) ≤ (k : Int) := by omega
              have hall : ids.take k = ids := List.take_of_length_le (by omega)
              rw [hall] at hs0 hs1 ⊢
              have HB : Hid (firstBad 0 ids = none) := firstBad_none ids 0 (fun j hj => HOK.out j hj (by omega))
              obtain ⟨t, ht⟩ : ∃ t, lenSum ids = t := ⟨_, rfl⟩
              have HLS : Hid (lenSum ids = t) := ht
              rw [ht] at hs0 hs1 ⊢
              clear ht hall
              by_cases hsum : t = len
              · have HR : Hid (recFault nm.data.toList len ids = (0, -1)) := recFault_fine H1.out H2.out H3.out HB.out (by rw [HLS.out]; exact hsum)
                have hq : (t == len) = true := by rw [beq_iff_eq]; exact hsum
                have hq2 : (t != len) = false := by rw [bne, hq]; rfl
                clear hsum
                go_wp2_with fail
                go_ret
                exact ⟨_, rfl, by rw [HR.out]; exact ErrIn.mkNil _ _ a, hb⟩
              · have HR : Hid (recFault nm.data.toList len ids = (9, -1)) := recFault_sum H1.out H2.out H3.out HB.out (by rw [HLS.out]; exact hsum)
                have hq : (t == len) = false := by rw [beq_eq_false_iff_ne]; exact hsum
                have hq2 : (t != len) = true := by rw [bne, hq]; rfl
                clear hsum
                go_wp2_with fail
                go_ret
                exact ⟨_, rfl, by rw [HR.out]; exact ErrIn.sent _ _ a 8 (by decide) rfl, hb⟩
  · have h1' : isName nm.data.toList = false := by simpa using h1
    rw [h1']
    have HR : Hid (recFault nm.data.toList len ids = (4, -1)) := recFault_name len ids h1'
    clear h1 h1'
    go_wp2_with fail
    go_ret
    exact ⟨_, rfl, by rw [HR.out]; exact ErrIn.sent _ _ a 3 (by decide) rfl, hb⟩
end Go.Proofs.YthgajeobenagjaaGreatDoor
