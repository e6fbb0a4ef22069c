/-
  Own text. The document's bin by contracts: SameHelds of pieces that are the same; Find; Size.
-/
import Derived.Test.YtpkaflbdcoffdaaDoorBinMem
import Derived.Deep.QuietTactic
import Derived.BigQuiet
import Derived.Deep.RegionHeld3
namespace Go.Proofs.YtpkaflbdcoffdaaDoor
open Go.RowKit

set_option maxRecDepth 100000 in
set_option maxHeartbeats 4000000 in
theorem sameHelds_true (va vb : Value) (l : List Hd) (w : World) (hn : (l.length : Int) ≤ 9223372036854775807) (ha : HeldsAt w va l) (hb : HeldsAt w vb l) :
    Calls Tryd.prog 34 #[va, vb] w fun e w' => e = .returned (.bool true) ∧ Below w.heap.size w w' := by
  obtain ⟨pa, ca, rfl, ha⟩ := ha
  obtain ⟨pb, cb, rfl, hb⟩ := hb
  go_enter Tryd.func34, Tryd.ntmps34
  go_wp2_with fail
  go_loopw [5] (fun i wr => ∃ j m : Nat, j ≤ l.length ∧ i = .int .i64 j ∧ wr = w.drewN m) (fun i _ => l.length - (intOf i).toNat)
  case atStart => exact ⟨0, 0, Nat.zero_le _, rfl, rfl⟩
  case round =>
    obtain ⟨j, m, hj, rfl, rfl⟩ := hrel
    by_cases hlt : j < l.length
    · obtain ⟨ba, oa, rfl, _, a0, a1, a2, a3⟩ := ha j hlt
      obtain ⟨bb, ob, rfl, _, b0, b1, b2, b3⟩ := hb j hlt
      have hlt' : (j : Int) < (l.length : Int) := by omega
      obtain ⟨y, hy⟩ : ∃ y, l[j] = y := ⟨_, rfl⟩
      rw [hy] at a0 a1 a2 a3 b0 b1 b2 b3
      clear hy
      go_wp2_with fail
      go_quiet (fail)
      go_wp2_with fail
      go_roundw
      case rel => exact ⟨j + 1, _, by omega, by go_num, rfl⟩
      case measure => simp [intOf]; omega
    · have hge : (l.length : Int) ≤ (j : Int) := by omega
      go_wp2_with fail
      go_ret
      exact ⟨rfl, ⟨rfl, rfl, rfl, Nat.le_refl _, fun _ _ => rfl⟩⟩

set_option maxRecDepth 100000 in
set_option maxHeartbeats 4000000 in
theorem rFind_any (B : Nat) (v : Value) (l : List Hd) (x : Nat × Int) (w : World) (hn : l.length ≤ maxLen) (h : RBin w B v l) :
    Calls Tryd.prog 40 #[.pointer (some ⟨B, 0, none⟩), idV (x.1 : Nat) x.2] w fun e w' => e = .returned (.int .i64 (findI l x)) ∧ Below w.heap.size w w' := by
  obtain ⟨pa, c, hv, hcell⟩ := h.at
  have hB0 := h.blk.cell (i := 0) rfl
  rw [hv] at hB0
  have hBl := h.blk.lt
  have hl2 : (l.length : Int) ≤ 9223372036854775807 := by unfold maxLen at hn; omega
  have HC : Hid (∀ i (h : i < l.length), ∃ b o, pa = some ⟨b, o, none⟩ ∧ (b < w.heap.size ∧ l.length ≤ c) ∧ w.cell? ⟨b, o + i * 4, none⟩ = some (.int .u32 (l[i].1.1 : Nat)) ∧ w.cell? ⟨b, o + i * 4 + 1, none⟩ = some (.int .i64 l[i].1.2) ∧
    w.cell? ⟨b, o + i * 4 + 2, none⟩ = some (.int .i64 l[i].2.1) ∧ w.cell? ⟨b, o + i * 4 + 3, none⟩ = some (.string ⟨l[i].2.2.toArray⟩)) := hcell
  clear hcell h hn hv
  have hx := Blk.new w #[.int .u32 (x.1 : Nat), .int .i64 x.2] 37
  have hal : Below w.heap.size w (w.alloc (.cells #[.int .u32 (x.1 : Nat), .int .i64 x.2] 37)) := (Below.refl _ w).alloc (Nat.le_refl _) _
  go_enter Tryd.func40, Tryd.ntmps40
  go_wp2_with fail
  obtain ⟨W, hW⟩ : ∃ W, w.alloc (.cells #[.int .u32 (x.1 : Nat), .int .i64 x.2] 37) = W := ⟨_, rfl⟩
  rw [hW] at hx hal ⊢
  have x0 := hx.cell (i := 0) rfl
  have x1 := hx.cell (i := 1) rfl
  have q0 := (hal.cell (p := ⟨B, 0, none⟩) hBl).trans hB0
  clear hW hB0
  go_loopw [5] (fun i wr => ∃ j m : Nat, j ≤ l.length ∧ i = .int .i64 j ∧ wr = W.drewN m ∧ ∀ k (hk : k < l.length), k < j → l[k].1 ≠ x) (fun i _ => l.length - (intOf i).toNat)
  case atStart => exact ⟨0, 0, Nat.zero_le _, rfl, rfl, fun k _ h => by omega⟩
  case round =>
    obtain ⟨j, m, hj, rfl, rfl, hno⟩ := hrel
    have HNO : Hid (∀ k (hk : k < l.length), k < j → l[k].1 ≠ x) := hno
    clear hno
    by_cases hlt : j < l.length
    · obtain ⟨ba, oa, rfl, ⟨hbl, _⟩, a0, a1, _, _⟩ := HC.out j hlt
      have hlt' : (j : Int) < (l.length : Int) := by omega
      have a0' := (hal.cell (p := ⟨ba, oa + j * 4, none⟩) hbl).trans a0
      have a1' := (hal.cell (p := ⟨ba, oa + j * 4 + 1, none⟩) hbl).trans a1
      have HNX : Hid (l[j].1 ≠ x → ∀ k (hk : k < l.length), k < j + 1 → l[k].1 ≠ x) := fun hne k hk hkj => by
        rcases Nat.lt_or_ge k j with h' | h'
        · exact HNO.out k hk h'
        · obtain rfl : k = j := by omega
          exact hne
      have HAT : Hid (l[j].1 = x → findI l x = (j : Int)) := fun he => by unfold findI; rw [hFind_at l x j hlt HNO.out he]
      obtain ⟨y, hy⟩ : ∃ y, l[j].1 = y := ⟨_, rfl⟩
      rw [hy] at a0' a1' HNX HAT
      clear hy a0 a1
      obtain ⟨yp, yl⟩ := y
      obtain ⟨xp, xl⟩ := x
      simp only at a0' a1' x0 x1
      by_cases e1 : (yp : Int) = (xp : Int)
      · by_cases e2 : yl = xl
        · have HE : Hid (findI l (xp, xl) = (j : Int)) := HAT.out (by rw [e2, show yp = xp by omega])
          clear HAT HNX
          subst e2
          obtain rfl : yp = xp := by omega
          go_wp2_with fail
          go_quiet (fail)
          go_wp2_with fail
          go_ret
          exact ⟨by rw [HE.out]; rfl, ⟨hal.os, hal.tape, hal.output, hal.size, fun k hk => hal.block k hk⟩⟩
        · have HE : Hid (∀ k (hk : k < l.length), k < j + 1 → l[k].1 ≠ (xp, xl)) := HNX.out (fun e => e2 (Prod.mk.inj e).2)
          clear HAT HNX
          obtain rfl : yp = xp := by omega
          have e2' : (yl == xl) = false := beq_eq_false_iff_ne.2 e2
          go_wp2_with fail
          go_quiet (fail)
          go_wp2_with fail
          go_roundw
          case rel => exact ⟨j + 1, _, by omega, by go_num, rfl, HE.out⟩
          case measure => simp [intOf]; omega
      · have HE : Hid (∀ k (hk : k < l.length), k < j + 1 → l[k].1 ≠ (xp, xl)) := HNX.out (fun e => e1 (by rw [(Prod.mk.inj e).1]))
        clear HAT HNX
        have e1' : ((yp : Int) == (xp : Int)) = false := beq_eq_false_iff_ne.2 e1
        go_wp2_with fail
        go_quiet (fail)
        go_wp2_with fail
        go_roundw
        case rel => exact ⟨j + 1, _, by omega, by go_num, rfl, HE.out⟩
        case measure => simp [intOf]; omega
    · have hge : (l.length : Int) ≤ (j : Int) := by omega
      have HE : Hid (findI l x = -1) := by
        show _ = _
        unfold findI
        rw [hFind_none l x (fun k hk => HNO.out k hk (by omega))]
      go_wp2_with fail
      go_ret
      exact ⟨by rw [HE.out]; rfl, ⟨hal.os, hal.tape, hal.output, hal.size, fun k hk => hal.block k hk⟩⟩

set_option maxRecDepth 100000 in
set_option maxHeartbeats 4000000 in
theorem rSize_any (B : Nat) (v : Value) (l : List Hd) (w : World) (hn : l.length ≤ 250) (hs : ∀ h ∈ l, 0 ≤ h.1.2 ∧ h.1.2 ≤ 64) (h : RBin w B v l) :
    Calls Tryd.prog 41 #[.pointer (some ⟨B, 0, none⟩)] w fun e w' => e = .returned (.int .i64 (hSize l)) ∧ w' = w := by
  obtain ⟨pa, c, hv, hcell⟩ := h.at
  have hB0 := h.blk.cell (i := 0) rfl
  rw [hv] at hB0
  have hl2 : (l.length : Int) ≤ 250 := by omega
  have HC : Hid (∀ i (h : i < l.length), ∃ b o, pa = some ⟨b, o, none⟩ ∧ (b < w.heap.size ∧ l.length ≤ c) ∧ w.cell? ⟨b, o + i * 4, none⟩ = some (.int .u32 (l[i].1.1 : Nat)) ∧ w.cell? ⟨b, o + i * 4 + 1, none⟩ = some (.int .i64 l[i].1.2) ∧
    w.cell? ⟨b, o + i * 4 + 2, none⟩ = some (.int .i64 l[i].2.1) ∧ w.cell? ⟨b, o + i * 4 + 3, none⟩ = some (.string ⟨l[i].2.2.toArray⟩)) := hcell
  have HB : Hid (∀ k, k ≤ l.length → 0 ≤ hSize (l.take k) ∧ hSize (l.take k) ≤ 16000) := fun k hk => by
    have := hSize_bound (l.take k) 64 (by decide) (fun h hm => hs h (List.mem_of_mem_take hm))
    rw [List.length_take, Nat.min_eq_left hk] at this
    omega
  clear hcell h hn hv hs
  go_enter Tryd.func41, Tryd.ntmps41
  go_wp2_with fail
  go_loopw [3, 4] (fun n i wr => ∃ j : Nat, j ≤ l.length ∧ i = .int .i64 j ∧ n = .int .i64 (hSize (l.take j)) ∧ wr = w) (fun _ i _ => l.length - (intOf i).toNat)
  case atStart => exact ⟨0, Nat.zero_le _, rfl, rfl, rfl⟩
  case round =>
    obtain ⟨j, hj, rfl, rfl, rfl⟩ := hrel
    by_cases hlt : j < l.length
    · obtain ⟨ba, oa, rfl, _, _, a1, _, _⟩ := HC.out j hlt
      have hlt' : (j : Int) < (l.length : Int) := by omega
      obtain ⟨n1, n2⟩ := HB.out j hj
      obtain ⟨m1, m2⟩ := HB.out (j + 1) hlt
      have HSN := hSize_snoc l j hlt
      have HSN' : Hid (hSize (l.take (j + 1)) = hSize (l.take j) + l[j].1.2) := HSN
      rw [HSN] at m1 m2
      clear HSN
      generalize hSize (l.take j) = n at *
      obtain ⟨y, hy⟩ : ∃ y, l[j].1.2 = y := ⟨_, rfl⟩
      rw [hy] at a1 m1 m2 HSN'
      clear hy
      have HW : IntKind.i64.wrap (n + y) = n + y := by rw [IntKind.wrap_i64]; omega
      go_wp2_with fail
      go_roundw
      case rel => exact ⟨j + 1, by omega, by go_num, by rw [HSN'.out], trivial⟩
      case measure => simp [intOf]; omega
    · have hge : (l.length : Int) ≤ (j : Int) := by omega
      rw [List.take_of_length_le (by omega)]
      obtain ⟨n, hn⟩ : ∃ n, hSize l = n := ⟨_, rfl⟩
      have HN : Hid (hSize l = n) := hn
      rw [hn]
      clear hn
      go_wp2_with fail
      go_ret
      exact ⟨by rw [HN.out]; rfl, rfl⟩
end Go.Proofs.YtpkaflbdcoffdaaDoor
