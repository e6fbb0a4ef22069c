/-
  Own text. The program's recipe.ofName and recipe.Name by contracts.
  Own text. The program's recipe.Check by a contract.
  Own text. The program's recipe.Of by a contract.
  Own text. A range over a function whose iterator keeps state of its own in cells: a law for a loop body that writes one block of the caller's (Br) and new ones alone, and whose invariant hangs on blocks below the loop's beginning.
  Own text. The program's recipe.falling, its iterator, and recipe.Rep by contracts.
  Own text. The program's recipe.Text by a contract.
  Own text. The program's recipe.Join by a contract.
-/
import Derived.Test.YteefjbdejcpepaaDoorRecName
import Derived.Test.YteefjbdejcpepaaDoorErrE
import Derived.Test.YteefjbdejcpepaaDoorRecAll
import Derived.Test.YteefjbdejcpepaaDoorCutAll
import Derived.Deep.RegionLaw
import Derived.Deep.AppendLies
import Derived.RangeFuncNested
import Derived.RangeFuncLeaves
import Derived.RangeFuncCalls
import Derived.Below
import Derived.Test.YteefjbdejcpepaaDoorShelf
import Derived.Laws.OwnMore
import Derived.Deep.RegionHeld3
namespace Go.Proofs.YteefjbdejcpepaaDoor
open Go.RowKit

set_option maxRecDepth 100000 in
set_option maxHeartbeats 4000000 in
theorem ofName_any (c : UInt8) (w : World) :
    Calls Tryd.prog 105 #[.int .u8 (c.toNat : Int)] w fun e w' => e = .returned (.bool (nameByte c)) ∧ w' = w := by
  have HY0 : Hid (nameByte c = decide ((97 ≤ c.toNat ∧ c.toNat ≤ 122) ∨ (48 ≤ c.toNat ∧ c.toNat ≤ 57) ∨ c.toNat = 46 ∨ c.toNat = 45)) := rfl
  obtain ⟨x, hxx⟩ : ∃ x : Int, (c.toNat : Int) = x := ⟨_, rfl⟩
  have HX : Hid ((c.toNat : Int) = x) := hxx
  rw [hxx]
  clear hxx
  rcases cases8 x with hx | hx | hx | hx | hx | hx | hx | hx
  · -- x < 45
    have e1 : decide (97 ≤ x) = false := by simp; omega
    have e2 : decide (x ≤ 122) = true := by simp; omega
    have e3 : decide (48 ≤ x) = false := by simp; omega
    have e4 : decide (x ≤ 57) = true := by simp; omega
    have f1 : x < 97 := by omega
    have f2 : x ≤ 122 := by omega
    have f3 : x < 48 := by omega
    have f4 : x ≤ 57 := by omega
    have f5 : (x == 46) = false := by rw [beq_eq_false_iff_ne]; omega
    have f6 : (x == 45) = false := by rw [beq_eq_false_iff_ne]; omega
    have HY : Hid (nameByte c = false) := by show _ = _; rw [HY0.out]; have := HX.out; simp; omega
    clear hx
    go_enter Tryd.func105, Tryd.ntmps105
    go_wp2_with fail
    go_ret
    exact ⟨by rw [HY.out]; rfl, rfl⟩
  · -- x = 45
    have e1 : decide (97 ≤ x) = false := by simp; omega
    have e2 : decide (x ≤ 122) = true := by simp; omega
    have e3 : decide (48 ≤ x) = false := by simp; omega
    have e4 : decide (x ≤ 57) = true := by simp; omega
    have f1 : x < 97 := by omega
    have f2 : x ≤ 122 := by omega
    have f3 : x < 48 := by omega
    have f4 : x ≤ 57 := by omega
    have f5 : (x == 46) = false := by rw [beq_eq_false_iff_ne]; omega
    have f6 : (x == 45) = true := by rw [beq_iff_eq]; omega
    have HY : Hid (nameByte c = true) := by show _ = _; rw [HY0.out]; have := HX.out; simp; omega
    clear hx
    go_enter Tryd.func105, Tryd.ntmps105
    go_wp2_with fail
    go_ret
    exact ⟨by rw [HY.out]; rfl, rfl⟩
  · -- x = 46
    have e1 : decide (97 ≤ x) = false := by simp; omega
    have e2 : decide (x ≤ 122) = true := by simp; omega
    have e3 : decide (48 ≤ x) = false := by simp; omega
    have e4 : decide (x ≤ 57) = true := by simp; omega
    have f1 : x < 97 := by omega
    have f2 : x ≤ 122 := by omega
    have f3 : x < 48 := by omega
    have f4 : x ≤ 57 := by omega
    have f5 : (x == 46) = true := by rw [beq_iff_eq]; omega
    have f6 : (x == 45) = false := by rw [beq_eq_false_iff_ne]; omega
    have HY : Hid (nameByte c = true) := by show _ = _; rw [HY0.out]; have := HX.out; simp; omega
    clear hx
    go_enter Tryd.func105, Tryd.ntmps105
    go_wp2_with fail
    go_ret
    exact ⟨by rw [HY.out]; rfl, rfl⟩
  · -- x = 47
    have e1 : decide (97 ≤ x) = false := by simp; omega
    have e2 : decide (x ≤ 122) = true := by simp; omega
    have e3 : decide (48 ≤ x) = false := by simp; omega
    have e4 : decide (x ≤ 57) = true := by simp; omega
    have f1 : x < 97 := by omega
    have f2 : x ≤ 122 := by omega
    have f3 : x < 48 := by omega
    have f4 : x ≤ 57 := by omega
    have f5 : (x == 46) = false := by rw [beq_eq_false_iff_ne]; omega
    have f6 : (x == 45) = false := by rw [beq_eq_false_iff_ne]; omega
    have HY : Hid (nameByte c = false) := by show _ = _; rw [HY0.out]; have := HX.out; simp; omega
    clear hx
    go_enter Tryd.func105, Tryd.ntmps105
    go_wp2_with fail
    go_ret
    exact ⟨by rw [HY.out]; rfl, rfl⟩
  · -- 48..57
    have e1 : decide (97 ≤ x) = false := by simp; omega
    have e2 : decide (x ≤ 122) = true := by simp; omega
    have e3 : decide (48 ≤ x) = true := by simp; omega
    have e4 : decide (x ≤ 57) = true := by simp; omega
    have f1 : x < 97 := by omega
    have f2 : x ≤ 122 := by omega
    have f3 : 48 ≤ x := by omega
    have f4 : x ≤ 57 := by omega
    have f5 : (x == 46) = false := by rw [beq_eq_false_iff_ne]; omega
    have f6 : (x == 45) = false := by rw [beq_eq_false_iff_ne]; omega
    have HY : Hid (nameByte c = true) := by show _ = _; rw [HY0.out]; have := HX.out; simp; omega
    clear hx
    go_enter Tryd.func105, Tryd.ntmps105
    go_wp2_with fail
    go_ret
    exact ⟨by rw [HY.out]; rfl, rfl⟩
  · -- 58..96
    have e1 : decide (97 ≤ x) = false := by simp; omega
    have e2 : decide (x ≤ 122) = true := by simp; omega
    have e3 : decide (48 ≤ x) = true := by simp; omega
    have e4 : decide (x ≤ 57) = false := by simp; omega
    have f1 : x < 97 := by omega
    have f2 : x ≤ 122 := by omega
    have f3 : 48 ≤ x := by omega
    have f4 : 57 < x := by omega
    have f5 : (x == 46) = false := by rw [beq_eq_false_iff_ne]; omega
    have f6 : (x == 45) = false := by rw [beq_eq_false_iff_ne]; omega
    have HY : Hid (nameByte c = false) := by show _ = _; rw [HY0.out]; have := HX.out; simp; omega
    clear hx
    go_enter Tryd.func105, Tryd.ntmps105
    go_wp2_with fail
    go_ret
    exact ⟨by rw [HY.out]; rfl, rfl⟩
  · -- 97..122
    have e1 : decide (97 ≤ x) = true := by simp; omega
    have e2 : decide (x ≤ 122) = true := by simp; omega
    have e3 : decide (48 ≤ x) = true := by simp; omega
    have e4 : decide (x ≤ 57) = false := by simp; omega
    have f1 : 97 ≤ x := by omega
    have f2 : x ≤ 122 := by omega
    have f3 : 48 ≤ x := by omega
    have f4 : 57 < x := by omega
    have f5 : (x == 46) = false := by rw [beq_eq_false_iff_ne]; omega
    have f6 : (x == 45) = false := by rw [beq_eq_false_iff_ne]; omega
    have HY : Hid (nameByte c = true) := by show _ = _; rw [HY0.out]; have := HX.out; simp; omega
    clear hx
    go_enter Tryd.func105, Tryd.ntmps105
    go_wp2_with fail
    go_ret
    exact ⟨by rw [HY.out]; rfl, rfl⟩
  · -- 123..
    have e1 : decide (97 ≤ x) = true := by simp; omega
    have e2 : decide (x ≤ 122) = false := by simp; omega
    have e3 : decide (48 ≤ x) = true := by simp; omega
    have e4 : decide (x ≤ 57) = false := by simp; omega
    have f1 : 97 ≤ x := by omega
    have f2 : 122 < x := by omega
    have f3 : 48 ≤ x := by omega
    have f4 : 57 < x := by omega
    have f5 : (x == 46) = false := by rw [beq_eq_false_iff_ne]; omega
    have f6 : (x == 45) = false := by rw [beq_eq_false_iff_ne]; omega
    have HY : Hid (nameByte c = false) := by show _ = _; rw [HY0.out]; have := HX.out; simp; omega
    clear hx
    go_enter Tryd.func105, Tryd.ntmps105
    go_wp2_with fail
    go_ret
    exact ⟨by rw [HY.out]; rfl, rfl⟩

theorem nameEmpty (s : ByteArray) (h : s.size < 1) : s = ⟨#[]⟩ := by
  apply ByteArray.ext; apply Array.eq_empty_of_size_eq_zero; have : s.data.size = s.size := rfl; omega
theorem notEmpty {s : ByteArray} (h : 1 ≤ s.size) : s.toList.isEmpty = false := by
  rw [← decide_eq_emptyBytes, decide_eq_false_iff_not]
  rintro rfl
  simp at h
set_option maxRecDepth 100000 in
set_option maxHeartbeats 4000000 in
theorem name_any (s : ByteArray) (hs : s.size ≤ maxLen) (w : World) :
    Calls Tryd.prog 81 #[.string s] w fun e w' => e = .returned (.bool (isName s.data.toList)) ∧ w' = w := by
  have HSL : Hid (s.data.toList.length = s.size) := by show _ = _; rw [Array.length_toList]; rfl
  have hs2 : (s.size : Int) ≤ 9223372036854775807 := by unfold maxLen at hs; omega
  clear hs
  by_cases h1 : s.size < 1
  · have e := nameEmpty s h1
    subst e
    clear h1
    go_enter Tryd.func81, Tryd.ntmps81
    go_wp2_with fail
    go_ret
    exact ⟨rfl, rfl⟩
  have he := notEmpty (show 1 ≤ s.size by omega)
  by_cases h12 : 12 < s.size
  · have h12' : (12 : Int) < (s.size : Int) := by omega
    have HV : Hid (isName s.data.toList = false) := by show _ = _; unfold isName; rw [HSL.out]; simp; omega
    clear h1 h12
    go_enter Tryd.func81, Tryd.ntmps81
    go_wp2_with fail
    go_ret
    exact ⟨by rw [HV.out]; rfl, rfl⟩
  have h12' : ¬ (12 : Int) < (s.size : Int) := by omega
  have h12d : decide ((12 : Int) < (s.size : Int)) = false := by simp; omega
  have HLE : Hid (1 ≤ s.size ∧ s.size ≤ 12) := ⟨by omega, by omega⟩
  clear h1 h12
  go_enter Tryd.func81, Tryd.ntmps81
  go_wp2_with fail
  go_loopw [13] (fun i wr => ∃ (k : Nat), k ≤ s.size ∧ i = .int .i64 k ∧ (s.data.toList.take k).all nameByte = true ∧ wr = w) (fun i _ => s.size - (intOf i).toNat)
  case atStart => exact ⟨0, Nat.zero_le _, rfl, rfl, rfl⟩
  case round =>
    obtain ⟨k, hk, rfl, ht, rfl⟩ := hrel
    have HT : Hid ((s.data.toList.take k).all nameByte = true) := ht
    clear ht
    by_cases hlt : k < s.size
    · have HG : Hid (s.data.toList[k]? = some s[k]) := by show _ = _; rw [List.getElem?_eq_getElem (by rw [HSL.out]; exact hlt)]; rfl
      have hlt' : (k : Int) < (s.size : Int) := by omega
      obtain ⟨bv, hbv⟩ : ∃ b, nameByte s[k] = b := ⟨_, rfl⟩
      have HB : Hid (nameByte s[k] = bv) := hbv
      clear hbv
      go_wp2_with fail
      refine (ofName_any s[k] _).mono ?_
      rintro e w1 ⟨rfl, hw1⟩
      subst hw1
      rw [HB.out]
      cases bv with
      | true =>
        go_wp2_with fail
        go_roundw
        case rel => exact ⟨k + 1, by omega, by go_num, nameTo_next HT.out HG.out HB.out, trivial⟩
        case measure => simp [intOf]; omega
      | false =>
        go_wp2_with fail
        go_ret
        exact ⟨by rw [isName_bad (HG.out) HB.out]; rfl, rfl⟩
    · have hge : (s.size : Int) ≤ (k : Int) := by omega
      have HV : Hid (isName s.data.toList = true) := by
        show _ = _
        have hall := HT.out
        rw [List.take_of_length_le (by rw [HSL.out]; omega)] at hall
        unfold isName
        rw [hall, HSL.out]
        have := HLE.out
        simp
        omega
      go_wp2_with fail
      go_ret
      exact ⟨by rw [HV.out]; rfl, rfl⟩
end Go.Proofs.YteefjbdejcpepaaDoor
namespace Go.Proofs.YteefjbdejcpepaaDoor
open Go.RowKit

theorem ErrIn.mkNil (base : Nat) (w : World) (a : Nat → Addr) : ErrIn base w a .nilIface (0, -1) := .inl ⟨rfl, rfl⟩
theorem ErrIn.sent (base : Nat) (w : World) (a : Nat → Addr) (k : Nat) (hk : k < 12) {c : Int} (hc : c = (k : Int) + 1) : ErrIn base w a (sentV a k) (c, -1) := .inr (.inl ⟨k, hk, rfl, by rw [hc]⟩)

set_option maxRecDepth 100000 in
set_option maxHeartbeats 4000000 in
theorem check_any (a : Nat → Addr) (nm : ByteArray) (hnm : nm.size ≤ maxLen) (len p : Int) (v : Value) (ids : List (Nat × Int)) (w : World) (hE : ErrE [1, 2, 3, 6, 8] w a) (hv : IdsAt w v ids) (hlen : ids.length ≤ maxLen) :
    Calls Tryd.prog 132 #[rcpV nm len p v] w fun e w' => ∃ ev, e = .returned ev ∧ ErrIn w.heap.size w' a ev (recFault nm.data.toList len ids) ∧ Below w.heap.size w w' := by
  obtain ⟨pa, c, rfl, hcell⟩ := hv
  have HN : Hid (nm.size ≤ maxLen) := hnm
  have hl2 : (ids.length : Int) ≤ 9223372036854775807 := by unfold maxLen at hlen; omega
  have HG : Hid (∀ W', Below w.heap.size w W' → ∀ i, ([1, 2, 3, 6, 8] : List Nat).contains i = true → W'.cell? ⟨errG i, 0, none⟩ = some (sentV a i)) := fun W' hb i hi => (hE.below hb (Nat.le_refl _)).glob i hi
  have HC : Hid (∀ W', Below w.heap.size w W' → ∀ i (h : i < ids.length), ∃ b o, pa = some ⟨b, o, none⟩ ∧ W'.cell? ⟨b, o + i * 2, none⟩ = some (.int .u32 (ids[i].1 : Nat)) ∧ W'.cell? ⟨b, o + i * 2 + 1, none⟩ = some (.int .i64 ids[i].2)) := fun W' hb i hi => by
    obtain ⟨b, o, hp, hlt, h1, h2⟩ := hcell i hi
    exact ⟨b, o, hp, (hb.cell (p := ⟨b, o + i * 2, none⟩) hlt).trans h1, (hb.cell (p := ⟨b, o + i * 2 + 1, none⟩) hlt).trans h2⟩
  clear hnm hlen hcell hE
  go_enter Tryd.func132, Tryd.ntmps132
  go_wp2_with fail
  refine (name_any nm HN.out _).mono ?_
  rintro e w1 ⟨rfl, hw1⟩
  subst hw1
  have hX := Blk.new w #[.string nm, .int .i64 len, .int .u32 p, .slice pa ids.length c] 87
  have hb : Below w.heap.size w (w.alloc (.cells #[.string nm, .int .i64 len, .int .u32 p, .slice pa ids.length c] 87)) := (Below.refl _ w).alloc (Nat.le_refl _) _
  obtain ⟨W, hW⟩ : ∃ W, w.alloc (.cells #[.string nm, .int .i64 len, .int .u32 p, .slice pa ids.length c] 87) = W := ⟨_, rfl⟩
  rw [hW] at hX hb ⊢
  clear hW
  have x1 := hX.cell (i := 1) rfl
  have x3 := hX.cell (i := 3) rfl
  have g1 := HG.out W hb 1 (by decide)
  have g3 := HG.out W hb 3 (by decide)
  have g6 := HG.out W hb 6 (by decide)
  dsimp only [errG] at g1 g3 g6
  by_cases h1 : isName nm.data.toList = true
  · rw [h1]
    have H1 : Hid (isName nm.data.toList = true) := h1
    clear h1
    by_cases h2a : len < 0
    · have HR : Hid (recFault nm.data.toList len ids = (2, -1)) := recFault_len ids H1.out (.inl h2a)
      go_wp2_with fail
      go_ret
      exact ⟨_, rfl, by rw [HR.out]; exact ErrIn.sent _ _ a 1 (by decide) rfl, hb⟩
    · by_cases h2b : 4000 < len
      · have HR : Hid (recFault nm.data.toList len ids = (2, -1)) := recFault_len ids H1.out (.inr h2b)
        go_wp2_with fail
        go_ret
        exact ⟨_, rfl, by rw [HR.out]; exact ErrIn.sent _ _ a 1 (by decide) rfl, hb⟩
      · have H2 : Hid (¬ (len < 0 ∨ 4000 < len)) := fun h => h.elim h2a h2b
        by_cases h3 : 250 < ids.length
        · have h3' : (250 : Int) < (ids.length : Int) := by omega
          have HR : Hid (recFault nm.data.toList len ids = (7, -1)) := recFault_many H1.out H2.out h3
          clear h3
          go_wp2_with fail
          go_ret
          exact ⟨_, rfl, by rw [HR.out]; exact ErrIn.sent _ _ a 6 (by decide) rfl, hb⟩
        · have h3' : ¬ (250 : Int) < (ids.length : Int) := by omega
          have H3 : Hid (¬ 250 < ids.length) := h3
          clear h3 g1 g3 g6
          go_wp2_with fail
          go_loopw [3, 28] (fun t i wr => ∃ (k : Nat), k ≤ ids.length ∧ i = .int .i64 k ∧ t = .int .i64 (lenSum (ids.take k)) ∧ (∀ j (hj : j < ids.length), j < k → idOk ids[j] = true) ∧ 0 ≤ lenSum (ids.take k) ∧ lenSum (ids.take k) ≤ 64 * (k : Int) ∧ Below w.heap.size w wr ∧ Blk wr w.heap.size #[.string nm, .int .i64 len, .int .u32 p, .slice pa ids.length c] 87) (fun _ i _ => ids.length - (intOf i).toNat)
          case atStart => exact ⟨0, Nat.zero_le _, rfl, by simp [lenSum], fun j _ h => by omega, by simp [lenSum], by simp [lenSum], hb, hX⟩
          case round =>
            clear hX hb x1 x3
            obtain ⟨k, hk, rfl, rfl, hok, hs0, hs1, hb, hX⟩ := hrel
            have HOK : Hid (∀ j (hj : j < ids.length), j < k → idOk ids[j] = true) := hok
            clear hok
            have x1 := hX.cell (i := 1) rfl
            have g2 := HG.out wr hb 2 (by decide)
            have g8 := HG.out wr hb 8 (by decide)
            dsimp only [errG] at g2 g8
            have hlg2 := lt_of_cell g2
            by_cases hlt : k < ids.length
            · have hlt' : (k : Int) < (ids.length : Int) := by omega
              obtain ⟨b, o, rfl, hc0, hc1⟩ := HC.out wr hb k hlt
              have HSN : Hid (lenSum (ids.take (k + 1)) = lenSum (ids.take k) + ids[k].2) := lenSum_snoc ids k hlt
              obtain ⟨x, hx⟩ : ∃ x, ids[k].2 = x := ⟨_, rfl⟩
              obtain ⟨y, hy⟩ : ∃ y : Int, ((ids[k].1 : Nat) : Int) = y := ⟨_, rfl⟩
              obtain ⟨t, ht⟩ : ∃ t, lenSum (ids.take k) = t := ⟨_, rfl⟩
              have HOX : Hid (idOk ids[k] = decide (1 ≤ x ∧ x ≤ 64)) := by show _ = _; rw [← hx]; rfl
              rw [hx] at hc1 HSN
              rw [hy] at hc0
              rw [ht] at HSN hs0 hs1
              rw [ht]
              clear hx ht hy
              have hal : Below wr.heap.size wr (wr.alloc (.cells #[.int .u32 y, .int .i64 x] 37)) := (Below.refl _ wr).alloc (Nat.le_refl _) _
              by_cases hx1 : x < 1
              · have HB : Hid (firstBad 0 ids = some k) := by
                  have := firstBad_at ids 0 k hlt (fun j hj => HOK.out j (by omega) hj) (by rw [HOX.out]; simp; omega)
                  rwa [Nat.zero_add] at this
                have HR : Hid (recFault nm.data.toList len ids = (3, (k : Int))) := recFault_shape H1.out H2.out H3.out HB.out
                go_wp2_with fail
                go_ret
                refine ⟨_, rfl, ?_, (hb.trans (hal.mono hb.size)).alloc (Nat.le_trans hb.size hal.size) _⟩
                rw [HR.out]
                refine .inr (.inr ⟨2, wr.heap.size + 1, 0, (k : Int), by decide, by have := hb.size; omega, rfl, ?_, ?_, rfl⟩)
                · simp
                · simp
              · by_cases hx2 : 64 < x
                · have HB : Hid (firstBad 0 ids = some k) := by
                    have := firstBad_at ids 0 k hlt (fun j hj => HOK.out j (by omega) hj) (by rw [HOX.out]; simp; omega)
                    rwa [Nat.zero_add] at this
                  have HR : Hid (recFault nm.data.toList len ids = (3, (k : Int))) := recFault_shape H1.out H2.out H3.out HB.out
                  go_wp2_with fail
                  go_ret
                  refine ⟨_, rfl, ?_, (hb.trans (hal.mono hb.size)).alloc (Nat.le_trans hb.size hal.size) _⟩
                  rw [HR.out]
                  refine .inr (.inr ⟨2, wr.heap.size + 1, 0, (k : Int), by decide, by have := hb.size; omega, rfl, ?_, ?_, rfl⟩)
                  · simp
                  · simp
                · go_wp2_with fail
                  go_roundw
                  case rel => exact ⟨k + 1, by omega, by go_num, by rw [HSN.out], fun j hj h => by
                    by_cases e : j = k
                    · subst e; rw [HOX.out]; simp; omega
                    · exact HOK.out j hj (by omega), by rw [HSN.out]; omega, by rw [HSN.out]; omega, hb.trans (hal.mono hb.size), hX.next hal⟩
                  case measure => simp [intOf]; omega
            · have hge : (ids.length : Int) ≤ (k : Int) := by omega
              have hall : ids.take k = ids := List.take_of_length_le (by omega)
              rw [hall] at hs0 hs1 ⊢
              have HB : Hid (firstBad 0 ids = none) := firstBad_none ids 0 (fun j hj => HOK.out j hj (by omega))
              obtain ⟨t, ht⟩ : ∃ t, lenSum ids = t := ⟨_, rfl⟩
              have HLS : Hid (lenSum ids = t) := ht
              rw [ht] at hs0 hs1 ⊢
              clear ht hall
              by_cases hsum : t = len
              · have HR : Hid (recFault nm.data.toList len ids = (0, -1)) := recFault_fine H1.out H2.out H3.out HB.out (by rw [HLS.out]; exact hsum)
                have hq : (t == len) = true := by rw [beq_iff_eq]; exact hsum
                have hq2 : (t != len) = false := by rw [bne, hq]; rfl
                clear hsum
                go_wp2_with fail
                go_ret
                exact ⟨_, rfl, by rw [HR.out]; exact ErrIn.mkNil _ _ a, hb⟩
              · have HR : Hid (recFault nm.data.toList len ids = (9, -1)) := recFault_sum H1.out H2.out H3.out HB.out (by rw [HLS.out]; exact hsum)
                have hq : (t == len) = false := by rw [beq_eq_false_iff_ne]; exact hsum
                have hq2 : (t != len) = true := by rw [bne, hq]; rfl
                clear hsum
                go_wp2_with fail
                go_ret
                exact ⟨_, rfl, by rw [HR.out]; exact ErrIn.sent _ _ a 8 (by decide) rfl, hb⟩
  · have h1' : isName nm.data.toList = false := by simpa using h1
    rw [h1']
    have HR : Hid (recFault nm.data.toList len ids = (4, -1)) := recFault_name len ids h1'
    clear h1 h1'
    go_wp2_with fail
    go_ret
    exact ⟨_, rfl, by rw [HR.out]; exact ErrIn.sent _ _ a 3 (by decide) rfl, hb⟩
end Go.Proofs.YteefjbdejcpepaaDoor
namespace Go.Proofs.YteefjbdejcpepaaDoor
open Go.RowKit

/- A call of a function of one argument, at a step of a region that draws its order. -/
theorem step_call_one {P : Program} {ops : Array Oper} {o : Oper} {a : Act} {w : World} {K : Act → World → Prop} {Q : Exit → Act → World → Prop} {E : Prop} (hgd : o.guard = none) (f : FuncId) (x : Operand) (t : TypeId)
    (ho : o.op = .call { callee := .value (.func f), args := #[x], argTypes := #[t] }) (eg : ∀ args w, (callFunc f args).run P w = .ok (.enter f args) w) (vx : Value) (hx : a.eval x = vx) {R : Value → World → Prop}
    (hc : Calls P f #[vx] w fun e w' => ∃ v, e = .returned v ∧ R v w') (h : ∀ v w', R v w' → K (a.put o.dst v) w') :
    if Region.wanted o (yielded ops a.tmps) = true then Oper.wp P o a w K Q else E := by
  have hw : Region.wanted o (yielded ops a.tmps) = true := by simp [Region.wanted, hgd]
  rw [if_pos hw]
  unfold Oper.wp execOp
  have hf : a.eval (.func f) = .func (.func f) #[] #[] := rfl
  have hc2 : Calls P f #[vx] w fun | .returned v, w'' => K (a.put o.dst v) w'' | .panicked chain, w'' => Q (.panic chain) a w'' | .outgrown, _ => LetsOut Q := hc.mono (by rintro e w' ⟨v, rfl, hR⟩; exact h v w' hR)
  simp only [ho, resolve, invoke, Sem.run_bind, Sem.run_pure, Result.andThen_ok, List.map_toArray, List.map_cons, List.map_nil, hf, hx, Deferred.ofValue, eg, Array.append_empty]
  exact hc2

theorem ofR_name {nm l : List UInt8} (h : isName nm = false) : ofR nm l = (([], 0, 0, []), 4) := by unfold ofR; rw [if_pos h]
theorem ofR_bound {nm l : List UInt8} (h : isName nm = true) (h2 : 4000 < l.length) : ofR nm l = (([], 0, 0, []), 2) := by unfold ofR; rw [if_neg (by rw [h]; simp), if_pos h2]
theorem ofR_fine {nm l : List UInt8} (h : isName nm = true) (h2 : ¬ 4000 < l.length) : ofR nm l = ((nm, (l.length : Int), pmore 2166136261 l, idsOf l), 0) := by unfold ofR; rw [if_neg (by rw [h]; simp), if_neg h2]
def ofPost (a : Nat → Addr) (nm s : ByteArray) (w : World) (e : Ending) (w' : World) : Prop := ∃ v ev, e = .returned (.tuple #[rcpDV (ofR nm.data.toList s.data.toList).1 v, ev]) ∧ IdsIn w.heap.size w' v (ofR nm.data.toList s.data.toList).1.2.2.2 ∧ ErrIn w.heap.size w' a ev ((ofR nm.data.toList s.data.toList).2, -1) ∧ Below w.heap.size w w'

set_option maxRecDepth 100000 in
set_option maxHeartbeats 4000000 in
theorem of_name (a : Nat → Addr) (nm s : ByteArray) (hnm : nm.size ≤ maxLen) (h : isName nm.data.toList = false) (w : World) (hE : ErrE [1, 3] w a) :
    Calls Tryd.prog 49 #[.string nm, .string s] w fun e w' => ofPost a nm s w e w' := by
  have HN : Hid (nm.size ≤ maxLen) := hnm
  have HR : Hid (ofR nm.data.toList s.data.toList = (([], 0, 0, []), 4)) := ofR_name h
  have HH : Hid (isName nm.data.toList = false) := h
  have hb : ∀ o, Below w.heap.size w (w.alloc o) := fun o => (Below.refl _ w).alloc (Nat.le_refl _) o
  have hg : ∀ o, (w.alloc o).cell? ⟨errG 3, 0, none⟩ = some (sentV a 3) := fun o => (hE.below (hb o) (Nat.le_refl _)).glob 3 (by decide)
  dsimp only [errG] at hg
  clear hnm h hE
  go_enter Tryd.func49, Tryd.ntmps49
  go_wp2_with fail
  refine (name_any nm HN.out _).mono ?_
  rintro e w1 ⟨rfl, hw1⟩
  subst hw1
  rw [HH.out]
  go_wp2_with fail
  go_region
  all_goals go_wp2
  all_goals refine bodyPost_ret (v := .tuple #[rcpV ⟨#[]⟩ 0 0 (.slice none 0 0), sentV a 3]) (by simp [results, Tryd.results49, go_sem]) rfl ?_
  all_goals exact ⟨.slice none 0 0, sentV a 3, by rw [HR.out]; rfl, by rw [HR.out]; exact IdsIn.nil _ _, by rw [HR.out]; exact ErrIn.sent _ _ a 3 (by decide) rfl, (hb _).drew⟩

set_option maxRecDepth 100000 in
set_option maxHeartbeats 4000000 in
theorem of_bound (a : Nat → Addr) (nm s : ByteArray) (hnm : nm.size ≤ maxLen) (h : isName nm.data.toList = true) (hs : 4000 < s.size) (w : World) (hE : ErrE [1, 3] w a) :
    Calls Tryd.prog 49 #[.string nm, .string s] w fun e w' => ofPost a nm s w e w' := by
  have HN : Hid (nm.size ≤ maxLen) := hnm
  have HR : Hid (ofR nm.data.toList s.data.toList = (([], 0, 0, []), 2)) := ofR_bound h (by rw [Array.length_toList]; exact hs)
  have HH : Hid (isName nm.data.toList = true) := h
  have hs' : (4000 : Int) < (s.size : Int) := by omega
  have hb : ∀ o, Below w.heap.size w (w.alloc o) := fun o => (Below.refl _ w).alloc (Nat.le_refl _) o
  have hg : ∀ o, (w.alloc o).cell? ⟨errG 1, 0, none⟩ = some (sentV a 1) := fun o => (hE.below (hb o) (Nat.le_refl _)).glob 1 (by decide)
  dsimp only [errG] at hg
  clear hnm h hE hs
  go_enter Tryd.func49, Tryd.ntmps49
  go_wp2_with fail
  refine (name_any nm HN.out _).mono ?_
  rintro e w1 ⟨rfl, hw1⟩
  subst hw1
  rw [HH.out]
  go_wp2_with fail
  go_region
  all_goals go_wp2
  all_goals refine bodyPost_ret (v := .tuple #[rcpV ⟨#[]⟩ 0 0 (.slice none 0 0), sentV a 1]) (by simp [results, Tryd.results49, go_sem]) rfl ?_
  all_goals exact ⟨.slice none 0 0, sentV a 1, by rw [HR.out]; rfl, by rw [HR.out]; exact IdsIn.nil _ _, by rw [HR.out]; exact ErrIn.sent _ _ a 1 (by decide) rfl, (hb _).drew⟩

set_option maxRecDepth 100000 in
set_option maxHeartbeats 4000000 in
theorem of_fine (a : Nat → Addr) (nm s : ByteArray) (hnm : nm.size ≤ maxLen) (h : isName nm.data.toList = true) (hs : s.size ≤ 4000) (w : World) :
    Calls Tryd.prog 49 #[.string nm, .string s] w fun e w' => ofPost a nm s w e w' := by
  obtain ⟨i0, hi, hz0, hz1, hz2⟩ := info_parts infoID
  have HN : Hid (nm.size ≤ maxLen) := hnm
  have HH : Hid (isName nm.data.toList = true) := h
  have hs' : ¬ (4000 : Int) < (s.size : Int) := by omega
  have HS : Hid (s.size ≤ 4000) := hs
  have HSM : Hid (s.size ≤ maxLen) := by show _ ≤ _; unfold maxLen; omega
  have HPL : Hid ((pieces s.data.toList).length ≤ 4000) := Nat.le_trans (pieces_len_le _) (by rw [Array.length_toList]; exact hs)
  have HPS : Hid (∀ i (h : i < (pieces s.data.toList).length), ((pieces s.data.toList)[i]).length ≤ 64) := fun i h => (pieces_at _ i h).2.1
  have HR : Hid (ofR nm.data.toList s.data.toList = ((nm.data.toList, (s.size : Int), pmore 2166136261 s.data.toList, (pieces s.data.toList).map fun p => (pmore 2166136261 p, (p.length : Int))), 0)) := by
    show _ = _
    rw [ofR_fine h (by rw [Array.length_toList]; show ¬ 4000 < s.size; omega), Array.length_toList]
    rfl
  clear hnm hs h
  have hP := pieces_any s (by have := HS.out; omega)
  generalize pieces s.data.toList = qs at *
  have HP : Hid (∀ (w : World), Calls Tryd.prog 78 #[.string s] w fun e w' => ∃ v, e = .returned v ∧ w'.ownsRow w.heap.size 9 1 v qs.length (qs.map strW) ∧ Below w.heap.size w w') := hP
  clear hP
  go_enter Tryd.func49, Tryd.ntmps49
  go_wp2_with fail
  refine (name_any nm HN.out _).mono ?_
  rintro e w1 ⟨rfl, hw1⟩
  subst hw1
  rw [HH.out]
  go_wp2_with fail
  refine (of_any s _ HSM.out).mono ?_
  rintro e w1 ⟨rfl, hw1⟩
  subst hw1
  obtain ⟨P, hP⟩ : ∃ P, pmore 2166136261 s.data.toList = P := ⟨_, rfl⟩
  have HPP : Hid (pmore 2166136261 s.data.toList = P) := hP
  rw [hP]
  clear hP
  go_wp2_with fail
  refine (HP.out _).mono ?_
  clear HP
  rintro e w0 ⟨v0, rfl, ho0, hb0⟩
  have hR1 := Blk.new w #[.string ⟨#[]⟩, .int .i64 0, .int .u32 0, .slice none 0 0] 87
  have hX1 := Blk.new (w.alloc (.cells #[.string ⟨#[]⟩, .int .i64 0, .int .u32 0, .slice none 0 0] 87)) #[.string nm, .int .i64 (s.size : Int), .int .u32 (P : Nat), .slice none 0 0] 87
  rw [World.size_alloc] at hX1
  have hal1 : Below w.heap.size w (w.alloc (.cells #[.string ⟨#[]⟩, .int .i64 0, .int .u32 0, .slice none 0 0] 87)) := (Below.refl _ w).alloc (Nat.le_refl _) _
  have hal2 := (Below.refl (w.alloc (.cells #[.string ⟨#[]⟩, .int .i64 0, .int .u32 0, .slice none 0 0] 87)).heap.size (w.alloc (.cells #[.string ⟨#[]⟩, .int .i64 0, .int .u32 0, .slice none 0 0] 87))).alloc (Nat.le_refl _) (.cells #[.string nm, .int .i64 (s.size : Int), .int .u32 (P : Nat), .slice none 0 0] 87)
  replace hR1 := (hR1.next hal2).next hb0
  replace hX1 := hX1.next hb0
  have hbw0 : Below w.heap.size w w0 := (hal1.trans (hal2.mono (by simp))).trans (hb0.mono (by simp; omega))
  have hszz : w.heap.size + 2 ≤ w0.heap.size := by have := hb0.size; simp at this; omega
  obtain ⟨p0, c0, rfl, hcell⟩ := CellsAt.of_row ho0
  simp only [List.length_map, List.getElem_map] at hcell ⊢
  have hnew : ∀ i (h : i < qs.length), ∃ b o, p0 = some ⟨b, o, none⟩ ∧ w.heap.size + 2 ≤ b ∧ b < w0.heap.size ∧ w0.cell? ⟨b, o + i, none⟩ = some (strW qs[i]) := fun i hi => by
    obtain ⟨b, o, hp, hl, hc⟩ := hcell i hi
    refine ⟨b, o, hp, ?_, hl.1, hc⟩
    have := own_base ho0 (j := b) (by rw [hp]; rfl)
    simpa using this
  have HCELL : Hid (∀ i (h : i < qs.length), ∃ b o, p0 = some ⟨b, o, none⟩ ∧ ∀ W', SameIn (w.heap.size + 2) w0.heap.size w0 W' → W'.cell? ⟨b, o + i, none⟩ = some (strW qs[i])) := fun i hi => by
    obtain ⟨b, o, hp, h1, h2, hc⟩ := hnew i hi
    exact ⟨b, o, hp, fun W' hb => (hb.cell h1 h2 _).trans hc⟩
  have hql : (qs.length : Int) ≤ 4000 := by have := HPL.out; omega
  clear hcell ho0 hb0 hal1 hal2 hnew
  go_wp2_with fail
  go_loopw [28] (fun i wr => ∃ (k : Nat) (v : Value), k ≤ qs.length ∧ i = .int .i64 k ∧ wr.ownsRow w0.heap.size 37 2 v k (idCells ((qs.take k).map fun p => (pmore 2166136261 p, (p.length : Int)))) ∧ Below (w.heap.size + 1) w0 wr ∧ SameIn (w.heap.size + 2) w0.heap.size w0 wr ∧ Blk wr (w.heap.size + 1) #[.string nm, .int .i64 (s.size : Int), .int .u32 (P : Nat), v] 87) (fun i _ => qs.length - (intOf i).toNat)
  case atStart => exact ⟨0, .slice none 0 0, Nat.zero_le _, rfl, World.ownsRow_nil _ _ _ _, Below.refl _ _, SameIn.refl _ _ _, hX1⟩
  case round =>
    obtain ⟨k, v, hk, rfl, hown, hbr, hsm, hX⟩ := hrel
    clear hX1
    by_cases hlt : k < qs.length
    · have hlt' : (k : Int) < (qs.length : Int) := by omega
      obtain ⟨b, o, rfl, hc⟩ := HCELL.out k hlt
      have hc' := hc wr hsm
      have HNX : Hid (idCells ((qs.take (k + 1)).map fun p => (pmore 2166136261 p, (p.length : Int))) = idCells ((qs.take k).map fun p => (pmore 2166136261 p, (p.length : Int))) ++ [.int .u32 (pmore 2166136261 qs[k] : Nat), .int .i64 (qs[k].length : Int)]) := by
        show _ = _
        rw [List.take_succ_eq_append_getElem hlt, List.map_append, idCells_append]
        rfl
      obtain ⟨q, hq⟩ : ∃ q : ByteArray, (⟨qs[k].toArray⟩ : ByteArray) = q := ⟨_, rfl⟩
      have hqd : q.data.toList = qs[k] := by rw [← hq]
      have hqs : (q.size : Int) = (qs[k].length : Int) := by rw [← hq]; rfl
      have HQM : Hid (q.size ≤ maxLen) := by
        show _ ≤ _
        have := HPS.out k hlt
        unfold maxLen
        omega
      rw [strW, hq] at hc'
      rw [← hqd] at HNX
      obtain ⟨Q, hQ⟩ : ∃ Q, pmore 2166136261 q.data.toList = Q := ⟨_, rfl⟩
      have HQQ : Hid (pmore 2166136261 q.data.toList = Q) := hQ
      rw [hQ] at HNX
      rw [hqd, ← hqs] at HNX
      obtain ⟨L, hL⟩ : ∃ L : Int, (q.size : Int) = L := ⟨_, rfl⟩
      have HLL : Hid ((q.size : Int) = L) := hL
      rw [hL] at HNX
      clear hc hqs hqd hq hQ hL
      obtain ⟨pv, cv, rfl⟩ : ∃ pv cv, v = .slice pv k cv := by
        obtain ⟨_, h⟩ := hown
        rcases h with ⟨rfl, h0⟩ | ⟨g, cap, cur, rfl, _⟩
        · exact ⟨none, 0, by rw [h0]⟩
        · exact ⟨_, _, rfl⟩
      have x3 := hX.cell (i := 3) rfl
      have f3 := hX.frozen 3
      have hXl := hX.lt
      have hwz : w0.heap.size ≤ wr.heap.size := hbr.size
      have hne : (Value.slice pv k cv).ownBlock ≠ some (w.heap.size + 1) := fun e => by have := own_base hown e; omega
      go_wp2_with fail
      have HID : Hid (∀ W : World, Calls Tryd.prog 20 #[.string q] W fun e w' => ∃ u, e = .returned u ∧ (u = idV (Q : Nat) L ∧ Below W.heap.size W w')) := fun W => (id_any q W HQM.out).mono fun e w' ⟨h1, h2⟩ => ⟨_, h1, by rw [HQQ.out, HLL.out], h2⟩
      go_region_law (first
        | (refine step_call_one (by rfl) 20 _ _ (by rfl) (enters_of Tryd.func20 (by kernel_rfl) rfl) (.string q) (by rfl) (HID.out _) ?_; rintro u w2 ⟨rfl, hb2⟩; have hw2 : w.heap.size + 1 < w2.heap.size := Nat.lt_of_lt_of_le hXl hb2.size; have hw3 : w0.heap.size ≤ w2.heap.size := Nat.le_trans hwz hb2.size; have hX2 := Blk.next (W := wr.drew) hX hb2; have hX2a := fun o => hX2.next ((Below.refl _ w2).alloc (Nat.le_refl _) o); have x32 := hX2.cell (i := 3) rfl; have f32 := hX2.frozen 3)
        | (refine step_append_lies _ (by rfl) _ _ _ (by rfl) w0.heap.size 37 i0 _ 2 16 Tryd.underlying55 hi hz0 hz1 hz2 rfl (by decide) (.slice pv k cv) k _ (by rfl) (((row_below hown.drew hb2).alloc _)) ⟨w2.heap.size, 0, none⟩ 1 1 [.int .u32 (Q : Nat), .int .i64 L] (by rfl) (by rfl) (World.news_of_block (cs := #[.int .u32 (Q : Nat), .int .i64 L]) (t := 37) (fr := (0, 0)) (heap_alloc_new w2 _)) (by simp [Value.oneCell']) (by omega) (by unfold maxLen; omega) (by omega) (by simp; omega) (w2.heap.size + 1) (by simp) ?_; intro gg cap w3 hown3 hgrow hat hglt; have hX3 : Blk w3 (w.heap.size + 1) #[.string nm, .int .i64 (s.size : Int), .int .u32 (P : Nat), .slice pv k cv] 87 := (hgrow.block _ (by rw [World.size_alloc]; exact Nat.lt_succ_of_lt hw2) (fun e => hne e.symm)).trans (hX2a _); have x33 := hX3.cell (i := 3) rfl; have f33 := hX3.frozen 3))
      all_goals
        have hB3 : Below w0.heap.size wr w3 := (((Below.refl w0.heap.size wr).drew.trans (hb2.mono hwz)).alloc hw3 _).grown hgrow (by rw [World.size_alloc]; omega) (fun j e => own_base hown e)
        have hX4 := hX3.set 3 (.slice (some ⟨gg, 0, none⟩) (k + 1) cap)
        have hr4 := ownsRow_setCell_below hown3 (a := ⟨w.heap.size + 1, 3, none⟩) (show w.heap.size + 1 < w0.heap.size by omega) (.slice (some ⟨gg, 0, none⟩) (k + 1) cap)
        have hb4 := (hbr.trans (hB3.mono (by omega))).setCell (p := ⟨w.heap.size + 1, 3, none⟩) (Nat.le_refl _) (.slice (some ⟨gg, 0, none⟩) (k + 1) cap)
        have hs4 := (hsm.below (Nat.le_refl _) hB3).setCell (a := ⟨w.heap.size + 1, 3, none⟩) (.inl (Nat.lt_succ_self _)) (.slice (some ⟨gg, 0, none⟩) (k + 1) cap)
        obtain ⟨W4, hW4⟩ : ∃ W4, w3.setCell ⟨w.heap.size + 1, 3, none⟩ (.slice (some ⟨gg, 0, none⟩) (k + 1) cap) = W4 := ⟨_, rfl⟩
        rw [hW4] at hX4 hr4 hb4 hs4 ⊢
        clear hW4 hX3 hX2 hX2a x32 f32 x33 f33 hgrow hown3 hb2 hB3 x3 f3 hX hown
        go_wp2_with fail
        go_roundw
        case rel => exact ⟨k + 1, .slice (some ⟨gg, 0, none⟩) (k + 1) cap, by omega, by go_num, by rw [HNX.out]; exact hr4, hb4, hs4, hX4⟩
        case measure => simp [intOf]; omega
    · have hge : (qs.length : Int) ≤ (k : Int) := by omega
      rw [List.take_of_length_le (by omega)] at hown
      obtain rfl : k = qs.length := by omega
      have hRr := hR1.below hbr (Nat.lt_succ_self _)
      have x0 := hX.cell (i := 0) rfl
      have x1 := hX.cell (i := 1) rfl
      have x2 := hX.cell (i := 2) rfl
      have x3 := hX.cell (i := 3) rfl
      have r0 := hRr.cell (i := 0) rfl
      have r1 := hRr.cell (i := 1) rfl
      have r2 := hRr.cell (i := 2) rfl
      have r3 := hRr.cell (i := 3) rfl
      have g0 := hRr.frozen 0
      have g1 := hRr.frozen 1
      have g2 := hRr.frozen 2
      have g3 := hRr.frozen 3
      have hRl := hRr.lt
      obtain ⟨pv, cv, rfl⟩ : ∃ pv cv, v = .slice pv qs.length cv := by
        obtain ⟨_, h⟩ := hown
        rcases h with ⟨rfl, h0⟩ | ⟨g, cap, cur, rfl, _⟩
        · exact ⟨none, 0, by rw [h0]⟩
        · exact ⟨_, _, rfl⟩
      have HROW : Hid (wr.ownsRow w0.heap.size 37 2 (.slice pv qs.length cv) qs.length (idCells (qs.map fun p => (pmore 2166136261 p, (p.length : Int))))) := hown
      have hbw : Below w.heap.size w wr := hbw0.trans (hbr.mono (Nat.le_succ _))
      have hR0 : w.heap.size < w0.heap.size := by omega
      clear hown hRr
      go_wp2_with fail
      refine bodyPost_ret (v := .tuple #[rcpV nm s.size (P : Nat) (.slice pv qs.length cv), .nilIface]) (by simp [results, Tryd.results49, go_sem, r0, r1, r2, r3]) rfl ⟨.slice pv qs.length cv, .nilIface, by rw [HR.out, HPP.out], ?_, by rw [HR.out]; exact ErrIn.mkNil _ _ a, (((hbw.setCell (p := ⟨w.heap.size, 0, none⟩) (Nat.le_refl _) _).setCell (p := ⟨w.heap.size, 1, none⟩) (Nat.le_refl _) _).setCell (p := ⟨w.heap.size, 2, none⟩) (Nat.le_refl _) _).setCell (p := ⟨w.heap.size, 3, none⟩) (Nat.le_refl _) _⟩
      rw [HR.out]
      refine (IdsIn.of_row (base := w0.heap.size) (e := 37) ?_).low (Nat.le_of_lt hR0)
      rw [List.length_map]
      exact ownsRow_setCell_below (ownsRow_setCell_below (ownsRow_setCell_below (ownsRow_setCell_below HROW.out (a := ⟨w.heap.size, 0, none⟩) hR0 _) (a := ⟨w.heap.size, 1, none⟩) hR0 _) (a := ⟨w.heap.size, 2, none⟩) hR0 _) (a := ⟨w.heap.size, 3, none⟩) hR0 _

theorem of_all (a : Nat → Addr) (nm s : ByteArray) (hnm : nm.size ≤ maxLen) (w : World) (hE : ErrE [1, 3] w a) :
    Calls Tryd.prog 49 #[.string nm, .string s] w fun e w' => ofPost a nm s w e w' := by
  by_cases h : isName nm.data.toList = true
  · by_cases h2 : 4000 < s.size
    · exact of_bound a nm s hnm h h2 w hE
    · exact of_fine a nm s hnm h (by omega) w
  · exact of_name a nm s hnm (by simpa using h) w hE
end Go.Proofs.YteefjbdejcpepaaDoor
namespace Go.Proofs.YteefjbdejcpepaaDoor
open Go.RowKit

def KeptBut (Br : Nat) (W W' : World) : Prop := ∀ b o, W.heap[b]? = some o → b ≠ Br → W'.heap[b]? = some o
theorem KeptBut.refl (Br : Nat) (W : World) : KeptBut Br W W := fun _ _ h _ => h
theorem KeptBut.trans {Br : Nat} {A B C : World} (h : KeptBut Br A B) (k : KeptBut Br B C) : KeptBut Br A C := fun b o hb hn => k b o (h b o hb hn) hn
theorem KeptBut.alloc (Br : Nat) (W : World) (o : Obj) : KeptBut Br W (W.alloc o) := fun b _ hb _ => (Below.heap_alloc W o b (Array.getElem?_eq_some_iff.1 hb).1).trans hb
theorem KeptBut.setCell (W : World) (a : Addr) (u : Value) : KeptBut a.block W (W.setCell a u) := fun b _ hb hn => (Below.heap_setCell W a u b hn).trans hb
def KeptCells (Br : Nat) (W W' : World) : Prop := ∀ b o, W.heap[b]? = some o → o.isCells = true → b ≠ Br → W'.heap[b]? = some o
theorem below_put {B l : Nat} (A : World) (o : Obj) (h : B ≤ l) : Below B A (A.putObj l o) := ⟨rfl, rfl, rfl, by simp, fun k hk => World.putObj_heap_other (by omega)⟩

/- What an iterator owes: J hangs on blocks below the world in which the iterator began; a round keeps all cells but those of block Br. -/
def SeqLow {α : Type} (F : Fence) (n : Nat) (P : Program) (g : Nat) (lb : Array Value) (encs : α → Array Value) (Br : Nat) (S : List α → Prop) (N : Nat) (w : World) : Prop :=
  ∀ (l : Nat) (J : List α → World → Prop) (W : World), Below w.heap.size w W → (∀ pre A B, J pre A → Below W.heap.size A B → J pre B) →
    (∀ pre x W1, J pre W1 → pre.length < N → YieldAt F (n - 1) P l (encs x) W1 fun e W' => e = .returned (.bool true) ∧ J (pre ++ [x]) W' ∧ KeptCells Br W1 W') →
    J [] W → CallsIn F n P g (#[.func (.yield l) #[] #[]] ++ lb) W fun e W' => (∃ v, e = .returned v) ∧ ∃ xs, S xs ∧ J xs W'

theorem range_low {α : Type} {F : Fence} {n : Nat} {P : Program} {g : Operand} {ps : Array Tmp} {assign body : Code} {Q : Exit → Act → World → Prop} {a : Act} {w : World}
    (hro : F.round = none) (h1 : 1 ≤ n) {gf : Nat} {lb : Array Value} (hg : a.eval g = .func (.func gf) #[] lb) (hFg : F.fn gf) (eg : ∀ args w, (callFunc gf args).run P w = .ok (.enter gf args) w)
    {encs : α → Array Value} {Br : Nat} {S : List α → Prop} {N : Nat} {w0 : World} (hseq : SeqLow F (n - 1) P gf lb encs Br S N w0)
    (hBr : Br < w.heap.size) (hb0 : Below w0.heap.size w0 w) (hps : ∀ x, (encs x).size = ps.size)
    (I : List α → World → Prop) (hI : ∀ pre A B, I pre A → Below w.heap.size A B → I pre B) (h0 : I [] w)
    (Ax : α → Act → World → Prop) (hAx : ∀ x a' A l o, (∃ r, A.heap[l]? = some (.loop r)) → Ax x a' A → Ax x a' (A.putObj l o))
    (hassign : ∀ (l : Nat) (pre : List α) (x : α) (W : World) (K : Act → World → Prop), w.heap.size ≤ W.heap.size → I pre W → (∀ a' W', KeptBut Br W W' → I pre W' → Ax x a' W' → K a' W') →
      assign.wpIn (F.inRound l) (n - 1 - 1) P (Exit.then K (fun _ _ _ => False)) { tmps := (ps.zip (encs x)).foldl (fun t (p, v) => t.setIfInBounds p v) a.tmps, defers := [] } W)
    (hbody : ∀ (l : Nat) (pre : List α) (x : α) (a' : Act) (W : World), I pre W → Ax x a' W → pre.length < N → body.wpIn (F.inRound l) (n - 1 - 1) P (fun e _ W' => e = .normal ∧ KeptBut Br W W' ∧ I (pre ++ [x]) W') a' W)
    (hdone : ∀ (D : Nat) (xs : List α) (W : World), w.heap.size ≤ D → S xs → I xs W → W.heap[D]? = some (.deferred (some [])) → Q .normal { a with defers := { target := .collected D, args := #[] } :: a.defers } W) :
    (Code.rangeFunc g ps assign body).wpIn F n P Q a w := by
  refine wpIn_rangeFunc ?_
  intro fn hfn
  rw [hro]
  obtain ⟨lp, hlp⟩ : ∃ lp : LoopState → Loop, lp = fun st => { state := st, pending := none, fn, tmps := a.tmps, params := ps, assign, body, defers := w.heap.size } := ⟨_, rfl⟩
  obtain ⟨V, hV⟩ : ∃ V, (w.alloc (.deferred (some []))).alloc (.loop (lp .ready)) = V := ⟨_, rfl⟩
  have hVs : V.heap.size = w.heap.size + 2 := by rw [← hV]; simp
  have hVl : V.heap[w.heap.size + 1]? = some (.loop (lp .ready)) := by
    rw [← hV]
    have := World.alloc_heap_new (w.alloc (.deferred (some []))) (.loop (lp .ready))
    rwa [World.size_alloc] at this
  have hVd : V.heap[w.heap.size]? = some (.deferred (some [])) := by
    rw [← hV]
    exact (Below.heap_alloc _ _ _ (by simp)).trans (World.alloc_heap_new w _)
  have hVb : Below w.heap.size w V := by rw [← hV]; exact ((Below.refl _ w).alloc (Nat.le_refl _) _).alloc (by simp) _
  refine ⟨w.heap.size + 1, [{ target := .collected w.heap.size, args := #[] }], V, { target := .fn (.func gf) lb, args := #[.func (.yield (w.heap.size + 1)) #[] #[]] }, V, gf,
    #[.func (.yield (w.heap.size + 1)) #[] #[]] ++ lb, V, ?_, ?_, ?_, ?_, fun _ => h1, ?_⟩
  · rw [← hV, hlp]
    exact run_enterLoop_outer _ _ _ _ _
  · simp only [resolve, hg]
    simp [go_sem]
  · intro f' hf'
    simp [Target.leads] at hf'
    subst hf'
    exact hFg
  · simp [invoke, go_sem, eg]
  refine (hseq (w.heap.size + 1) (fun pre W => I pre W ∧ W.heap[w.heap.size + 1]? = some (.loop (lp .ready)) ∧ W.heap[w.heap.size]? = some (.deferred (some []))) V (hb0.trans (hVb.mono hb0.size))
    (fun pre A B h hb => ⟨hI pre A B h.1 (hb.mono (by omega)), (hb.block _ (by omega)).trans h.2.1, (hb.block _ (by omega)).trans h.2.2⟩) ?_ ⟨hI [] w V h0 hVb, hVl, hVd⟩).mono ?_
  · rintro pre x W ⟨hi, hl, hd⟩ hlen
    have hlt : w.heap.size + 1 < W.heap.size := (Array.getElem?_eq_some_iff.1 hl).1
    have hy := run_yield (P := P) (args := encs x) hl (by rw [hlp]; exact hps x)
    rw [hlp] at hy
    refine ⟨fn, _, assign, body, hy, roundIn_of_wpIn hfn (hassign _ pre x W _ (by omega) hi ?_)⟩
    clear hy
    intro a' Wa hka hia hax
    have hla := hka _ _ hl (by omega)
    have hda := hka _ _ hd (by omega)
    have hlta : w.heap.size + 1 < Wa.heap.size := (Array.getElem?_eq_some_iff.1 hla).1
    refine ⟨_, run_beginRound hla (by rw [hlp]), ?_⟩
    refine wpIn_mono (hbody _ pre x a' _ (hI _ _ _ hia (below_put Wa _ (by omega))) (hAx x a' Wa _ _ ⟨_, hla⟩ hax) hlen) ?_
    rintro e a3 W3 ⟨rfl, hkb, hi3⟩
    have hlb := hkb _ _ (World.putObj_heap_same hlta) (by omega)
    have hdb := hkb _ _ ((World.putObj_heap_other (w := Wa) (r := w.heap.size + 1) (k := w.heap.size) (by omega)).trans hda) (by omega)
    have hr := run_endRound (P := P) none hlb
    have hlt3 : w.heap.size + 1 < W3.heap.size := (Array.getElem?_eq_some_iff.1 hlb).1
    refine ⟨_, _, hr, rfl, ⟨hI _ _ _ hi3 (below_put W3 _ (by omega)), ?_, (World.putObj_heap_other (by omega)).trans hdb⟩, ?_⟩
    · rw [World.putObj_heap_same hlt3, hlp]
      rfl
    · intro b o hb hc hn
      have hbl : b ≠ w.heap.size + 1 := fun e => by
        subst e
        rw [hl] at hb
        cases hb
        cases hc
      exact (World.putObj_heap_other hbl).trans (hkb _ _ ((World.putObj_heap_other hbl).trans (hka _ _ hb hn)) hn)
  · rintro e W2 ⟨⟨v, rfl⟩, xs, hS, hi, hl, hd⟩
    have he := run_endLoop (P := P) hl (by rw [hlp]; simp)
    rw [hlp] at he
    exact ⟨none, _, he, hdone _ xs _ (Nat.le_refl _) hS (hI _ _ _ hi (below_put W2 _ (by omega))) ((World.putObj_heap_other (by omega)).trans hd)⟩
end Go.Proofs.YteefjbdejcpepaaDoor
namespace Go.Proofs.YteefjbdejcpepaaDoor
open Go.RowKit Go.Shelf

attribute [local go_sem] Oper.semAt_some

theorem KeptCells.blk {Br : Nat} {W W' : World} (h : KeptCells Br W W') {B : Nat} {cs : Array Value} {t : TypeId} (hB : Blk W B cs t) (hn : B ≠ Br) : Blk W' B cs t := h B _ hB rfl hn
theorem KeptCells.cell {Br : Nat} {W W' : World} (h : KeptCells Br W W') {b o : Nat} {v : Value} (hc : W.cell? ⟨b, o, none⟩ = some v) (hn : b ≠ Br) : W'.cell? ⟨b, o, none⟩ = some v := by
  have hb : ∃ x, W.heap[b]? = some x ∧ x.isCells = true := by
    cases hx : W.heap[b]? with
    | none => simp [World.cell?, hx] at hc
    | some x =>
      refine ⟨x, rfl, ?_⟩
      cases x with
      | cells => rfl
      | _ => simp [World.cell?, hx] at hc
  obtain ⟨x, hx, hi⟩ := hb
  exact (World.cell?_of_block (w := W) ((h b x hx hi hn).trans hx.symm)).trans hc

def zeroRep : Nat × Int := (2166136261, 0)
def lastOf (l : List (Nat × Int)) : Nat × Int := l.getLastD zeroRep
theorem lastOf_snoc (l : List (Nat × Int)) (x : Nat × Int) : lastOf (l ++ [x]) = x := by simp [lastOf]

set_option maxHeartbeats 1000000 in
theorem falling_in (n : Nat) (v : Value) (w : World) (p : Option Addr) (k c : Nat) (hv : v = .slice p k c) :
    CallsIn Fence.wide n Tryd.prog 83 #[v] w fun e w' => e = .returned (.func (.func 106) #[] #[.pointer (some ⟨w.heap.size, 0, none⟩)]) ∧ w' = w.alloc (.cells #[v] 55) := by
  subst hv
  refine callsIn_of_wp Tryd.func83 rfl trivial ?_ rfl
  simp only [Tryd.ntmps83, List.size_toArray, List.length_cons, List.length_nil, Nat.reduceAdd, Nat.reduceSub, Array.replicate_succ, Array.replicate_zero, List.push_toArray, List.append_toArray, List.nil_append, List.cons_append]
  gi_wp2
  go_ret
  exact ⟨rfl, rfl⟩

set_option maxRecDepth 100000 in
set_option maxHeartbeats 4000000 in
theorem falling1_in (n : Nat) (hn : 1 ≤ n) (l Bs Br : Nat) (pa : Option Addr) (c : Nat) (ids : List (Nat × Int)) (hlen : ids.length ≤ maxLen) (J : List (Nat × Int) → World → Prop) (W : World)
    (hJ : ∀ pre A B, J pre A → Below W.heap.size A B → J pre B)
    (hY : ∀ pre x W1, J pre W1 → pre.length < ids.length → YieldAt Fence.wide (n - 1) Tryd.prog l #[idV (x.1 : Nat) x.2] W1 fun e W' => e = .returned (.bool true) ∧ J (pre ++ [x]) W' ∧ KeptCells Br W1 W')
    (hs : W.cell? ⟨Bs, 0, none⟩ = some (.slice pa ids.length c)) (hBr : Br < W.heap.size)
    (hids : ∀ i (h : i < ids.length), ∃ b o, pa = some ⟨b, o, none⟩ ∧ b ≠ Br ∧ W.cell? ⟨b, o + i * 2, none⟩ = some (.int .u32 (ids[i].1 : Nat)) ∧ W.cell? ⟨b, o + i * 2 + 1, none⟩ = some (.int .i64 ids[i].2)) (h0 : J [] W) :
    CallsIn Fence.wide n Tryd.prog 106 #[.func (.yield l) #[] #[], .pointer (some ⟨Bs, 0, none⟩)] W fun e W' => (∃ v, e = .returned v) ∧ ∃ xs, lastOf xs = repOf ids ∧ J xs W' := by
  have hl2 : (ids.length : Int) ≤ 9223372036854775807 := by unfold maxLen at hlen; omega
  have HJ : Hid (∀ pre A B, J pre A → Below W.heap.size A B → J pre B) := hJ
  have HY : Hid (∀ pre x W1, J pre W1 → pre.length < ids.length → YieldAt Fence.wide (n - 1) Tryd.prog l #[idV (x.1 : Nat) x.2] W1 fun e W' => e = .returned (.bool true) ∧ J (pre ++ [x]) W' ∧ KeptCells Br W1 W') := hY
  have hBl := lt_of_cell hs
  have HID : Hid (∀ i (h : i < ids.length), ∃ b o, pa = some ⟨b, o, none⟩ ∧ b ≠ Br ∧ b < W.heap.size) := fun i h => by
    obtain ⟨b, o, h1, h2, h3, _⟩ := hids i h
    exact ⟨b, o, h1, h2, lt_of_cell h3⟩
  have hal : Below W.heap.size W (W.alloc (.cells #[.int .u32 0, .int .i64 0] 37)) := (Below.refl _ W).alloc (Nat.le_refl _) _
  have hL0 := Blk.new W #[.int .u32 0, .int .i64 0] 37
  have HIA : Hid (∀ i (h : i < ids.length), ∃ b o, pa = some ⟨b, o, none⟩ ∧ b ≠ Br ∧ b < W.heap.size ∧ (W.alloc (.cells #[.int .u32 0, .int .i64 0] 37)).cell? ⟨b, o + i * 2, none⟩ = some (.int .u32 (ids[i].1 : Nat)) ∧ (W.alloc (.cells #[.int .u32 0, .int .i64 0] 37)).cell? ⟨b, o + i * 2 + 1, none⟩ = some (.int .i64 ids[i].2)) := fun i h => by
    obtain ⟨b, o, h1, h2, h3, h4⟩ := hids i h
    exact ⟨b, o, h1, h2, lt_of_cell h3, (hal.cell (p := ⟨b, o + i * 2, none⟩) (lt_of_cell h3)).trans h3, (hal.cell (p := ⟨b, o + i * 2 + 1, none⟩) (lt_of_cell h4)).trans h4⟩
  have h0' := hJ _ _ _ h0 hal
  clear hJ hY hids hlen
  refine callsIn_of_wp Tryd.func106 rfl trivial ?_ rfl
  simp only [Tryd.ntmps106, List.size_toArray, List.length_cons, List.length_nil, Nat.reduceAdd, Nat.reduceSub, Array.replicate_succ, Array.replicate_zero, List.push_toArray, List.append_toArray, List.nil_append, List.cons_append]
  gi_wp2
  gi_loopw [8] (fun i wr => ∃ (k : Nat) (pre : List (Nat × Int)) (m : Nat × Int), k ≤ ids.length ∧ i = .int .i64 k ∧ pre.length ≤ k ∧ lastOf pre = repOf (ids.take k) ∧ (1 ≤ k → m = repOf (ids.take k)) ∧ Blk wr W.heap.size #[.int .u32 (m.1 : Nat), .int .i64 m.2] 37 ∧
      (∀ i (h : i < ids.length), ∃ b o, pa = some ⟨b, o, none⟩ ∧ b ≠ Br ∧ b < W.heap.size ∧ wr.cell? ⟨b, o + i * 2, none⟩ = some (.int .u32 (ids[i].1 : Nat)) ∧ wr.cell? ⟨b, o + i * 2 + 1, none⟩ = some (.int .i64 ids[i].2)) ∧ J pre wr) (fun i _ => ids.length - (intOf i).toNat)
  case atStart => exact ⟨0, [], (0, 0), Nat.zero_le _, rfl, Nat.le_refl _, rfl, fun h => by omega, hL0, HIA.out, h0'⟩
  case round =>
    clear hL0 h0 h0' hs hal HIA
    obtain ⟨k, pre, m, hk, rfl, hpl, hlast, hm, hL, hcell, hJp⟩ := hrel
    have HLA : Hid (lastOf pre = repOf (ids.take k)) := hlast
    have HM : Hid (1 ≤ k → m = repOf (ids.take k)) := hm
    have HPL : Hid (pre.length ≤ k) := hpl
    have HC : Hid (∀ i (h : i < ids.length), ∃ b o, pa = some ⟨b, o, none⟩ ∧ b ≠ Br ∧ b < W.heap.size ∧ wr.cell? ⟨b, o + i * 2, none⟩ = some (.int .u32 (ids[i].1 : Nat)) ∧ wr.cell? ⟨b, o + i * 2 + 1, none⟩ = some (.int .i64 ids[i].2)) := hcell
    clear hlast hm hpl hcell
    by_cases hlt : k < ids.length
    · have hlt' : (k : Int) < (ids.length : Int) := by omega
      obtain ⟨b, o, rfl, hbr, hbw, hc0, hc1⟩ := HC.out k hlt
      have HRN : Hid (1 ≤ k → repOf (ids.take (k + 1)) = lesser (repOf (ids.take k)) ids[k]) := fun h => repOf_next ids k hlt h
      have HR1 : Hid (k = 0 → repOf (ids.take (k + 1)) = ids[k]) := fun h => by
        subst h
        cases ids with
        | nil => simp at hlt
        | cons x r => rfl
      obtain ⟨y, hy⟩ : ∃ y, ids[k] = y := ⟨_, rfl⟩
      rw [hy] at hc0 hc1 HRN HR1
      clear hy
      have hLl := hL.lt
      have q0 := hL.cell (i := 0) rfl
      have q1 := hL.cell (i := 1) rfl
      have g0 := hL.frozen 0
      have g1 := hL.frozen 1
      have hLn : W.heap.size ≠ wr.heap.size := by omega
      have hwz : W.heap.size ≤ wr.heap.size := by omega
      have hpk : pre.length < ids.length := by have := HPL.out; omega
      /- the world in which yield is called, behind the store of what is told -/
      have HW : Hid (∀ V, Below wr.heap.size wr V → (Blk ((V.setCell ⟨W.heap.size, 0, none⟩ (.int .u32 (y.1 : Nat))).setCell ⟨W.heap.size, 1, none⟩ (.int .i64 y.2)) W.heap.size #[.int .u32 (y.1 : Nat), .int .i64 y.2] 37) ∧ Below W.heap.size wr ((V.setCell ⟨W.heap.size, 0, none⟩ (.int .u32 (y.1 : Nat))).setCell ⟨W.heap.size, 1, none⟩ (.int .i64 y.2))) := fun V hb =>
        ⟨((hL.next hb).set 0 (.int .u32 (y.1 : Nat))).set 1 (.int .i64 y.2), (((Below.refl W.heap.size wr).trans (hb.mono hwz)).setCell (p := ⟨W.heap.size, 0, none⟩) (Nat.le_refl _) _).setCell (p := ⟨W.heap.size, 1, none⟩) (Nat.le_refl _) _⟩
      have HN : Hid (∀ V W3, Below W.heap.size wr V → KeptCells Br V W3 → ∀ i (h : i < ids.length), ∃ b' o', (some ⟨b, o, none⟩ : Option Addr) = some ⟨b', o', none⟩ ∧ b' ≠ Br ∧ b' < W.heap.size ∧ W3.cell? ⟨b', o' + i * 2, none⟩ = some (.int .u32 (ids[i].1 : Nat)) ∧ W3.cell? ⟨b', o' + i * 2 + 1, none⟩ = some (.int .i64 ids[i].2)) := fun V W3 hb hk i hi => by
        obtain ⟨b', o', h1, h2, h3, h4, h5⟩ := HC.out i hi
        exact ⟨b', o', h1, h2, h3, hk.cell ((hb.cell (p := ⟨b', o' + i * 2, none⟩) h3).trans h4) h2, hk.cell ((hb.cell (p := ⟨b', o' + i * 2 + 1, none⟩) h3).trans h5) h2⟩
      have HS : Hid (∀ V, Below W.heap.size wr V → ∀ i (h : i < ids.length), ∃ b' o', (some ⟨b, o, none⟩ : Option Addr) = some ⟨b', o', none⟩ ∧ b' ≠ Br ∧ b' < W.heap.size ∧ V.cell? ⟨b', o' + i * 2, none⟩ = some (.int .u32 (ids[i].1 : Nat)) ∧ V.cell? ⟨b', o' + i * 2 + 1, none⟩ = some (.int .i64 ids[i].2)) := fun V hb i hi => by
        obtain ⟨b', o', h1, h2, h3, h4, h5⟩ := HC.out i hi
        exact ⟨b', o', h1, h2, h3, (hb.cell (p := ⟨b', o' + i * 2, none⟩) h3).trans h4, (hb.cell (p := ⟨b', o' + i * 2 + 1, none⟩) h3).trans h5⟩
      have hLB : W.heap.size ≠ Br := by omega
      have hal : Below wr.heap.size wr (wr.alloc (.cells #[.int .u32 (y.1 : Nat), .int .i64 y.2] 37)) := (Below.refl _ wr).alloc (Nat.le_refl _) _
      by_cases hk0 : k = 0
      · have hz : ¬ (0 : Int) < (k : Int) := by omega
        have HRR : Hid (repOf (ids.take (k + 1)) = y) := HR1.out hk0
        clear hk0
        gi_wp2
        refine ⟨trivial, ?_⟩
        have hI0 := Blk.new wr #[.int .u32 (y.1 : Nat), .int .i64 y.2] 37
        obtain ⟨V, hV⟩ : ∃ V, wr.alloc (.cells #[.int .u32 (y.1 : Nat), .int .i64 y.2] 37) = V := ⟨_, rfl⟩
        rw [hV] at hI0 hal ⊢
        obtain ⟨Bi, hBi⟩ : ∃ Bi, wr.heap.size = Bi := ⟨_, rfl⟩
        rw [hBi] at hI0 hLn ⊢
        have i0 := hI0.cell (i := 0) rfl
        have i1 := hI0.cell (i := 1) rfl
        have hLV := hL.next hal
        have u0 := hLV.cell (i := 0) rfl
        have u1 := hLV.cell (i := 1) rfl
        have v0 := hLV.frozen 0
        have v1 := hLV.frozen 1
        have hVl := hLV.lt
        obtain ⟨hLy, hBy⟩ := HW.out V hal
        obtain ⟨fn, tmps, assign, body, hy, hR⟩ := HY.out pre y _ (HJ.out _ _ _ hJp hBy) hpk
        dsimp only [idV] at hy
        have HLY : Hid (Blk ((V.setCell ⟨W.heap.size, 0, none⟩ (.int .u32 (y.1 : Nat))).setCell ⟨W.heap.size, 1, none⟩ (.int .i64 y.2)) W.heap.size #[.int .u32 (y.1 : Nat), .int .i64 y.2] 37) := hLy
        have HBY : Hid (Below W.heap.size wr ((V.setCell ⟨W.heap.size, 0, none⟩ (.int .u32 (y.1 : Nat))).setCell ⟨W.heap.size, 1, none⟩ (.int .i64 y.2))) := hBy
        clear hLy hBy hV hLV hI0 hal hBi q0 q1 g0 g1 hc0 hc1 hL hJp
        gi_wp2
        refine hR.mono ?_
        rintro e W3 ⟨rfl, hJ3, hk3⟩
        gi_wp2
        go_roundw
        case rel => exact ⟨k + 1, pre ++ [y], y, by omega, by go_num, by have := HPL.out; simp; omega, by rw [lastOf_snoc, HRR.out], fun _ => HRR.out.symm, hk3.blk HLY.out hLB, HN.out _ _ HBY.out hk3, hJ3⟩
        case measure => simp [intOf]; omega
      · have hz : (0 : Int) < (k : Int) := by omega
        obtain rfl := HM.out (by omega)
        have HRR : Hid (repOf (ids.take (k + 1)) = lesser (repOf (ids.take k)) y) := HRN.out (by omega)
        clear hk0
        generalize repOf (ids.take k) = m at *
        have hI0 := Blk.new wr #[.int .u32 (y.1 : Nat), .int .i64 y.2] 37
        obtain ⟨Lb, hLb⟩ : ∃ Lb, (if (y.1 : Int) = (m.1 : Int) then decide (y.2 < m.2) else decide ((y.1 : Int) < (m.1 : Int))) = Lb := ⟨_, rfl⟩
        have HLB : Hid ((if (y.1 : Int) = (m.1 : Int) then decide (y.2 < m.2) else decide ((y.1 : Int) < (m.1 : Int))) = Lb) := hLb
        have HLS : Hid (lesser m y = if Lb = true then y else m) := by show _ = _; unfold lesser lessB; rw [hLb]
        clear hLb
        cases Lb with
        | true =>
          gi_wp2_with (refine ⟨trivial, ?_⟩; gi_at_call 25; refine (callsIn_wide.2 (less_any _ _ _ _ _)).mono ?_; rintro e w1 ⟨rfl, hb1⟩; rw [HLB.out]; have hB1 : Below wr.heap.size wr w1 := hal.trans (hb1.mono hal.size); have hI1 := hI0.next hb1; have i0 := hI1.cell (i := 0) rfl; have i1 := hI1.cell (i := 1) rfl; have hLV := hL.next hB1; have u0 := hLV.cell (i := 0) rfl; have u1 := hLV.cell (i := 1) rfl; have v0 := hLV.frozen 0; have v1 := hLV.frozen 1; have hVl := hLV.lt; obtain ⟨hLy, hBy⟩ := HW.out w1 hB1; obtain ⟨fn, tmps, assign, body, hy, hR⟩ := HY.out pre y _ (HJ.out _ _ _ hJp hBy) hpk; dsimp only [idV] at hy)
          refine hR.mono ?_
          rintro e W3 ⟨rfl, hJ3, hk3⟩
          have HLY : Hid (Blk W3 W.heap.size #[.int .u32 (y.1 : Nat), .int .i64 y.2] 37) := hk3.blk hLy hLB
          have HNN := HN.out _ _ hBy hk3
          have HN2 : Hid (∀ i (h : i < ids.length), ∃ b' o', (some ⟨b, o, none⟩ : Option Addr) = some ⟨b', o', none⟩ ∧ b' ≠ Br ∧ b' < W.heap.size ∧ W3.cell? ⟨b', o' + i * 2, none⟩ = some (.int .u32 (ids[i].1 : Nat)) ∧ W3.cell? ⟨b', o' + i * 2 + 1, none⟩ = some (.int .i64 ids[i].2)) := HNN
          clear hLy hBy hLV hI1 hI0 hal q0 q1 g0 g1 hc0 hc1 hL hJp hb1 hB1 HNN hk3 i0 i1 u0 u1 v0 v1
          gi_wp2
          go_roundw
          case rel => exact ⟨k + 1, pre ++ [y], y, by omega, by go_num, by have := HPL.out; simp; omega, by rw [lastOf_snoc, HRR.out, HLS.out]; rfl, fun _ => by rw [HRR.out, HLS.out]; rfl, HLY.out, HN2.out, hJ3⟩
          case measure => simp [intOf]; omega
        | false =>
          gi_wp2_with (refine ⟨trivial, ?_⟩; gi_at_call 25; refine (callsIn_wide.2 (less_any _ _ _ _ _)).mono ?_; rintro e w1 ⟨rfl, hb1⟩; rw [HLB.out]; have hB1 : Below wr.heap.size wr w1 := hal.trans (hb1.mono hal.size); have hLV := hL.next hB1)
          have hBW : Below W.heap.size wr w1 := hB1.mono hwz
          have hJ1 := HJ.out _ _ _ hJp hBW
          have HS1 := HS.out _ hBW
          go_roundw
          case rel => exact ⟨k + 1, pre, m, by omega, by go_num, by have := HPL.out; omega, by rw [HLA.out, HRR.out, HLS.out]; rfl, fun _ => by rw [HRR.out, HLS.out]; rfl, hLV, HS1, hJ1⟩
          case measure => simp [intOf]; omega
    · have hge : (ids.length : Int) ≤ (k : Int) := by omega
      gi_wp2
      go_end0
      refine ⟨⟨_, rfl⟩, pre, ?_, hJp⟩
      have := HLA.out
      rwa [List.take_of_length_le (by omega)] at this

def RepI (w : World) (R Br : Nat) (pre : List (Nat × Int)) (W : World) : Prop :=
  Below w.heap.size w W ∧ Blk W R #[.int .u32 0, .int .i64 0] 37 ∧ Blk W Br #[.int .u32 ((lastOf pre).1 : Nat), .int .i64 (lastOf pre).2] 37

set_option maxRecDepth 100000 in
set_option maxHeartbeats 4000000 in
theorem rep_any (nm : ByteArray) (len p : Int) (v : Value) (ids : List (Nat × Int)) (w : World) (hv : IdsAt w v ids) (hlen : ids.length ≤ maxLen) :
    Calls Tryd.prog 52 #[rcpV nm len p v] w fun e w' => e = .returned (idV ((repOf ids).1 : Nat) (repOf ids).2) ∧ Below w.heap.size w w' := by
  obtain ⟨pa, c, rfl, hcell⟩ := hv
  have HC : Hid (∀ W', Below w.heap.size w W' → ∀ i (h : i < ids.length), ∃ b o, pa = some ⟨b, o, none⟩ ∧ b < w.heap.size ∧ W'.cell? ⟨b, o + i * 2, none⟩ = some (.int .u32 (ids[i].1 : Nat)) ∧ W'.cell? ⟨b, o + i * 2 + 1, none⟩ = some (.int .i64 ids[i].2)) := fun W' hb i hi => by
    obtain ⟨b, o, hp, hlt, h1, h2⟩ := hcell i hi
    exact ⟨b, o, hp, hlt, (hb.cell (p := ⟨b, o + i * 2, none⟩) hlt).trans h1, (hb.cell (p := ⟨b, o + i * 2 + 1, none⟩) hlt).trans h2⟩
  have HLEN : Hid (ids.length ≤ maxLen) := hlen
  clear hcell hlen
  refine (callsIn_wide (n := 8)).1 ?_
  refine callsIn_of_wp_marks Tryd.func52 rfl trivial ?_ rfl
  simp only [Tryd.ntmps52, List.size_toArray, List.length_cons, List.length_nil, Nat.reduceAdd, Nat.reduceSub, Array.replicate_succ, Array.replicate_zero, List.push_toArray, List.append_toArray, List.nil_append, List.cons_append]
  gi_wp2_with (first
    | (refine ⟨trivial, ?_⟩; gi_at_call 20; refine (callsIn_wide.2 (id_any ⟨#[]⟩ _ (by unfold maxLen; decide))).mono ?_; rintro e w1 ⟨rfl, hb1⟩; have hX1 := ((Blk.new w #[.string nm, .int .i64 len, .int .u32 p, .slice pa ids.length c] 87).next ((Below.refl _ _).alloc (Nat.le_refl _) (.cells #[.int .u32 0, .int .i64 0] 37))).next hb1; have x3 := hX1.cell (i := 3) rfl; have hXl := hX1.lt)
    | (refine ⟨trivial, ?_⟩; gi_at_call 83; refine (falling_in _ _ _ pa ids.length c rfl).mono ?_; rintro e w2 ⟨rfl, rfl⟩))
  have hz : pmore 2166136261 [] = 2166136261 := pmore_nil _
  rw [hz]
  have hR1 := (Blk.new (w.alloc (.cells #[.string nm, .int .i64 len, .int .u32 p, .slice pa ids.length c] 87)) #[.int .u32 0, .int .i64 0] 37).next hb1
  rw [World.size_alloc] at hR1
  have hB1 : Below w.heap.size w w1 := (((Below.refl _ w).alloc (Nat.le_refl _) (.cells #[.string nm, .int .i64 len, .int .u32 p, .slice pa ids.length c] 87)).alloc (by simp) (.cells #[.int .u32 0, .int .i64 0] 37)).trans (hb1.mono (by simp; omega))
  have hal1 : Below w1.heap.size w1 (w1.alloc (.cells #[.int .u32 (2166136261 : Nat), .int .i64 0] 37)) := (Below.refl _ w1).alloc (Nat.le_refl _) _
  have hQ1 := Blk.new w1 #[.int .u32 (2166136261 : Nat), .int .i64 0] 37
  have hal2 := (Below.refl (w1.alloc (.cells #[.int .u32 (2166136261 : Nat), .int .i64 0] 37)).heap.size (w1.alloc (.cells #[.int .u32 (2166136261 : Nat), .int .i64 0] 37))).alloc (Nat.le_refl _) (.cells #[.slice pa ids.length c] 55)
  have hQ2 := hQ1.next hal2
  have hS2 := Blk.new (w1.alloc (.cells #[.int .u32 (2166136261 : Nat), .int .i64 0] 37)) #[.slice pa ids.length c] 55
  rw [World.size_alloc] at hS2
  have hR2 := (hR1.next hal1).next hal2
  have hB2 : Below w.heap.size w ((w1.alloc (.cells #[.int .u32 (2166136261 : Nat), .int .i64 0] 37)).alloc (.cells #[.slice pa ids.length c] 55)) := (hB1.trans (hal1.mono hB1.size)).trans (hal2.mono (Nat.le_trans hB1.size hal1.size))
  have hsz : ((w1.alloc (.cells #[.int .u32 (2166136261 : Nat), .int .i64 0] 37)).alloc (.cells #[.slice pa ids.length c] 55)).heap.size = w1.heap.size + 2 := by simp
  obtain ⟨V, hV⟩ : ∃ V, (w1.alloc (.cells #[.int .u32 (2166136261 : Nat), .int .i64 0] 37)).alloc (.cells #[.slice pa ids.length c] 55) = V := ⟨_, rfl⟩
  have hRl := hR1.lt
  have hwz : w.heap.size ≤ w1.heap.size := hB1.size
  rw [hV] at hQ2 hS2 hR2 hB2 hsz ⊢
  clear hV hal1 hal2 hQ1 hR1 hX1 x3 hXl hb1
  have hI0 : RepI w (w.heap.size + 1) w1.heap.size [] V := ⟨hB2, hR2, hQ2⟩
  have hstab : ∀ (pre : List (Nat × Int)) (A B : World), RepI w (w.heap.size + 1) w1.heap.size pre A → Below V.heap.size A B → RepI w (w.heap.size + 1) w1.heap.size pre B := fun pre A B h hb => ⟨h.1.trans (hb.mono (by omega)), h.2.1.below hb (by omega), h.2.2.below hb (by omega)⟩
  have hseq : SeqLow Fence.wide (8 - 1) Tryd.prog 106 #[.pointer (some ⟨w1.heap.size + 1, 0, none⟩)] (fun x : Nat × Int => #[idV (x.1 : Nat) x.2]) w1.heap.size (fun xs => lastOf xs = repOf ids) ids.length V := fun l J W hW hJ hY h0 => by
    have hBW : Below w.heap.size w W := hB2.trans (hW.mono (by omega))
    refine falling1_in (8 - 1) (by decide) l (w1.heap.size + 1) w1.heap.size pa c ids HLEN.out J W hJ hY ((hS2.next hW).cell (i := 0) rfl) (by have := hW.size; omega) (fun i hi => ?_) h0
    obtain ⟨b, o, h1, h2, h3, h4⟩ := HC.out W hBW i hi
    exact ⟨b, o, h1, by omega, h3, h4⟩
  refine range_low rfl (by decide) (gf := 106) (lb := #[.pointer (some ⟨w1.heap.size + 1, 0, none⟩)]) rfl trivial (enters_of Tryd.func106 (by kernel_rfl) rfl) hseq (by omega) (Below.refl _ _) (fun _ => rfl)
    (RepI w (w.heap.size + 1) w1.heap.size) hstab hI0
    (fun x a' W => ∃ Bx, V.heap.size ≤ Bx ∧ Blk W Bx #[.int .u32 (x.1 : Nat), .int .i64 x.2] 37 ∧ a' = { tmps := #[rcpV nm len p (.slice pa ids.length c), .pointer (some ⟨w.heap.size, 0, none⟩), .pointer (some ⟨w.heap.size + 1, 0, none⟩), .pointer (some ⟨w1.heap.size, 0, none⟩), .pointer (some ⟨Bx, 0, none⟩), idV (2166136261 : Nat) 0, .pointer (some ⟨w.heap.size, 3, none⟩), .slice pa ids.length c, .func (.func 106) #[] #[.pointer (some ⟨w1.heap.size + 1, 0, none⟩)], idV (x.1 : Nat) x.2, undef, undef], defers := [] }) ?ax ?assign ?body ?done
  case ax =>
    rintro x a' A l o ⟨r, hr⟩ ⟨Bx, h1, h2, h3⟩
    refine ⟨Bx, h1, (World.putObj_heap_other (fun e => ?_)).trans h2, h3⟩
    subst e
    have : A.heap[Bx]? = some (.cells #[.int .u32 (x.1 : Nat), .int .i64 x.2] 37 (0, 0)) := h2
    rw [hr] at this
    cases this
  case assign =>
    intro l pre x W K hW hi hK
    gi_wp2
    exact hK _ _ (KeptBut.alloc _ _ _) (hstab _ _ _ hi ((Below.refl _ W).alloc hW _)) ⟨W.heap.size, hW, Blk.new W _ _, rfl⟩
  case body =>
    rintro l pre x a' W ⟨hi1, hi2, hi3⟩ ⟨Bx, hBx, hX, rfl⟩ _
    have x0 := hX.cell (i := 0) rfl
    have x1 := hX.cell (i := 1) rfl
    have q0 := hi3.cell (i := 0) rfl
    have q1 := hi3.cell (i := 1) rfl
    have g0 := hi3.frozen 0
    have g1 := hi3.frozen 1
    gi_wp2
    refine ⟨(KeptBut.setCell W ⟨w1.heap.size, 0, none⟩ _).trans (KeptBut.setCell _ ⟨w1.heap.size, 1, none⟩ _), (hi1.setCell (p := ⟨w1.heap.size, 0, none⟩) hwz _).setCell (p := ⟨w1.heap.size, 1, none⟩) hwz _, (hi2.other (a := ⟨w1.heap.size, 0, none⟩) (show w.heap.size + 1 ≠ w1.heap.size by omega) _).other (a := ⟨w1.heap.size, 1, none⟩) (show w.heap.size + 1 ≠ w1.heap.size by omega) _, ?_⟩
    rw [lastOf_snoc]
    exact (hi3.set 0 (.int .u32 (x.1 : Nat))).set 1 (.int .i64 x.2)
  case done =>
    rintro D xs W hD hS ⟨hi1, hi2, hi3⟩ hd
    have hS' : lastOf xs = repOf ids := hS
    rw [hS'] at hi3
    obtain ⟨m, hm⟩ : ∃ m, repOf ids = m := ⟨_, rfl⟩
    have HM : Hid (repOf ids = m) := hm
    rw [hm] at hi3
    clear hm hS hS'
    have q0 := hi3.cell (i := 0) rfl
    have q1 := hi3.cell (i := 1) rfl
    have r0 := hi2.cell (i := 0) rfl
    have r1 := hi2.cell (i := 1) rfl
    have g0 := hi2.frozen 0
    have g1 := hi2.frozen 1
    have hR4 := (hi2.set 0 (.int .u32 (m.1 : Nat))).set 1 (.int .i64 m.2)
    have hb4 := (hi1.setCell (p := ⟨w.heap.size + 1, 0, none⟩) (Nat.le_succ _) (.int .u32 (m.1 : Nat))).setCell (p := ⟨w.heap.size + 1, 1, none⟩) (Nat.le_succ _) (.int .i64 m.2)
    have hd4 : ((W.setCell ⟨w.heap.size + 1, 0, none⟩ (.int .u32 (m.1 : Nat))).setCell ⟨w.heap.size + 1, 1, none⟩ (.int .i64 m.2)).heap[D]? = some (.deferred (some [])) := (Below.heap_setCell _ ⟨w.heap.size + 1, 1, none⟩ _ D (show D ≠ w.heap.size + 1 by omega)).trans ((Below.heap_setCell _ ⟨w.heap.size + 1, 0, none⟩ _ D (show D ≠ w.heap.size + 1 by omega)).trans hd)
    gi_wp2
    refine ⟨by simp, .inl ⟨_, _, rfl, run_takeDeferred hd4, ?_⟩⟩
    have hR5 : Blk (((W.setCell ⟨w.heap.size + 1, 0, none⟩ (.int .u32 (m.1 : Nat))).setCell ⟨w.heap.size + 1, 1, none⟩ (.int .i64 m.2)).putObj D (.deferred none)) (w.heap.size + 1) #[.int .u32 (m.1 : Nat), .int .i64 m.2] 37 := (World.putObj_heap_other (show w.heap.size + 1 ≠ D by omega)).trans hR4
    have c0 := hR5.cell (i := 0) rfl
    have c1 := hR5.cell (i := 1) rfl
    refine ⟨idV (m.1 : Nat) m.2, by simp [results, Tryd.results52, go_sem, c0, c1], by rw [HM.out], hb4.trans (below_put _ _ (by omega))⟩
end Go.Proofs.YteefjbdejcpepaaDoor
namespace Go.Proofs.YteefjbdejcpepaaDoor
open Go.RowKit

theorem ErrIn.not_nil {base : Nat} {w : World} {a : Nat → Addr} {v : Value} {f : Int × Int} (h : ErrIn base w a v f) (hf : 0 < f.1) : ∃ t u, v = .iface t u := by
  rcases h with ⟨_, rfl⟩ | ⟨k, _, rfl, _⟩ | ⟨k, pb, po, at0, _, _, rfl, _⟩
  · simp at hf
  · exact ⟨_, _, rfl⟩
  · exact ⟨_, _, rfl⟩
theorem ErrIn.is_nil {base : Nat} {w : World} {a : Nat → Addr} {v : Value} (h : ErrIn base w a v (0, -1)) : v = .nilIface := by
  rcases h with ⟨rfl, _⟩ | ⟨k, _, _, hf⟩ | ⟨k, pb, po, at0, _, _, _, _, _, hf⟩
  · rfl
  · have := congrArg Prod.fst hf; simp at this; omega
  · have := congrArg Prod.fst hf; simp at this; omega
theorem ErrIn.low {base base' : Nat} {w : World} {a : Nat → Addr} {v : Value} {f : Int × Int} (h : ErrIn base w a v f) (hb : base' ≤ base) : ErrIn base' w a v f := by
  rcases h with h | h | ⟨k, pb, po, at0, hk, hl, hv, h0, h1, hf⟩
  · exact .inl h
  · exact .inr (.inl h)
  · exact .inr (.inr ⟨k, pb, po, at0, hk, Nat.le_trans hb hl, hv, h0, h1, hf⟩)
theorem idsText_le : ∀ (ids : List (Nat × Int)), (∀ x ∈ ids, x.2.toNat ≤ 9223372036854775807) → (idsText ids).length ≤ 29 * ids.length
  | [], _ => by simp [idsText]
  | x :: r, h => by
    have ih := idsText_le r fun y hy => h y (by simp [hy])
    have h1 := idText_len x.1 x.2.toNat (h x (by simp))
    have e : idsText (x :: r) = 32 :: idText x.1 x.2.toNat ++ idsText r := rfl
    rw [e, List.length_append, List.length_cons, List.length_cons]
    omega
def idTexts (ids : List (Nat × Int)) : List (List UInt8) := ids.map fun x => idText x.1 x.2.toNat
theorem join_rcp (nm : List UInt8) (len : Int) (p : Nat) (ids : List (Nat × Int)) : Lib.join (nm :: Lib.decDigits len.toNat :: hexLast p 8 :: idTexts ids) [32] = rcpText nm len p ids := by
  rw [Lib.join_cons]
  unfold Lib.joinTail rcpText idsText idTexts
  rw [List.map_cons, List.map_cons, List.map_map, List.flatten_cons, List.flatten_cons]
  have e : ((fun x => [32] ++ x) ∘ fun (x : Nat × Int) => idText x.1 x.2.toNat) = fun (x : Nat × Int) => (32 : UInt8) :: idText x.1 x.2.toNat := rfl
  rw [e]
  simp
def textPost (a : Nat → Addr) (nm : ByteArray) (len : Int) (p : Nat) (ids : List (Nat × Int)) (w : World) (e : Ending) (w' : World) : Prop := ∃ ev, e = .returned (.tuple #[.string ⟨(textR nm.data.toList len p ids).toArray⟩, ev]) ∧ ErrIn w.heap.size w' a ev (recFault nm.data.toList len ids) ∧ Below w.heap.size w w'

def wordsOf (nm D X : ByteArray) (ids : List (Nat × Int)) : List ByteArray := nm :: D :: X :: (idTexts ids).map fun l => ⟨l.toArray⟩
theorem wordsOf_length (nm D X : ByteArray) (ids : List (Nat × Int)) : (wordsOf nm D X ids).length = ids.length + 3 := by simp [wordsOf, idTexts]
theorem wordsOf_snoc (nm D X : ByteArray) (ids : List (Nat × Int)) (k : Nat) (h : k < ids.length) : (wordsOf nm D X (ids.take (k + 1))).map Value.string = (wordsOf nm D X (ids.take k)).map Value.string ++ [.string ⟨(idText ids[k].1 ids[k].2.toNat).toArray⟩] := by
  rw [List.take_succ_eq_append_getElem h]
  simp only [wordsOf, idTexts, List.map_append, List.map_cons, List.map_nil, List.cons_append]

end Go.Proofs.YteefjbdejcpepaaDoor
namespace Go.Proofs.YteefjbdejcpepaaDoor
open Go.RowKit

theorem join_none (l : List (List UInt8)) : Lib.join l [] = l.flatten := by
  cases l with
  | nil => rfl
  | cons x r =>
    rw [Lib.join_cons]
    unfold Lib.joinTail
    simp
theorem flatten_le : ∀ (l : List (List UInt8)), (∀ i (h : i < l.length), l[i].length ≤ 100) → l.flatten.length ≤ 100 * l.length
  | [], _ => by simp
  | x :: r, h => by
    have ih := flatten_le r fun i hi => by have := h (i + 1) (by simpa using hi); simpa using this
    have h0 := h 0 (by simp)
    rw [List.flatten_cons, List.length_append, List.length_cons]
    simp at h0
    omega
def joinPost (a : Nat → Addr) (nm : ByteArray) (len : Int) (p : Nat) (ids : List (Nat × Int)) (ls : List (List UInt8)) (w : World) (e : Ending) (w' : World) : Prop := ∃ ev, e = .returned (.tuple #[.string ⟨(joinOf nm.data.toList len p ids ls).1.toArray⟩, ev]) ∧ ErrIn w.heap.size w' a ev (joinOf nm.data.toList len p ids ls).2 ∧ Below w.heap.size w w'

/- strings.Join of a slice of texts with nothing between. -/
theorem joinTexts (vl : Value) (ls : List (List UInt8)) (w : World) (hl : CellsAt w vl (ls.map txtV)) (hn : ls.length ≤ 50000) (hsz : ∀ i (h : i < ls.length), ls[i].length ≤ 100) :
    Calls Tryd.prog 133 #[vl, .string ⟨#[]⟩] w fun e w' => e = .returned (.string ⟨ls.flatten.toArray⟩) ∧ Below w.heap.size w w' := by
  obtain ⟨p, c, rfl, hc⟩ := hl
  rw [List.length_map]
  by_cases h0 : ls.length = 0
  · have e : ls = [] := List.eq_nil_of_length_eq_zero h0
    subst e
    exact (Tryd.strings_Join_none p c ⟨#[]⟩ w).mono fun e w' ⟨h1, h2⟩ => ⟨h1, by rw [h2]; exact Below.refl _ _⟩
  · obtain ⟨b, o, rfl, ⟨hb, hcap⟩, _⟩ := hc 0 (by rw [List.length_map]; omega)
    rw [List.length_map] at hcap
    have hx : (ls.map fun l => (⟨l.toArray⟩ : ByteArray)).length = ls.length := List.length_map _
    have e1 : Lib.join ((ls.map fun l => (⟨l.toArray⟩ : ByteArray)).map (·.data.toList)) [] = ls.flatten := by
      rw [List.map_map]
      have : ((fun (x : ByteArray) => x.data.toList) ∘ fun (l : List UInt8) => (⟨l.toArray⟩ : ByteArray)) = id := by funext l; simp
      rw [this, List.map_id, join_none]
    have hfl := flatten_le ls hsz
    have hj := Tryd.strings_Join b o c (ls.map fun l => (⟨l.toArray⟩ : ByteArray)) ⟨#[]⟩ w (fun j x hj => by
      have hjl : j < ls.length := by rw [← hx]; exact (List.getElem?_eq_some_iff.1 hj).1
      obtain ⟨b', o', hp, _, hcell⟩ := hc j (by rw [List.length_map]; exact hjl)
      cases hp
      rw [hcell, List.getElem_map]
      rw [List.getElem?_eq_getElem (by rw [hx]; exact hjl), List.getElem_map] at hj
      rw [← Option.some.inj hj]) hb (by rw [hx]; omega) (by rw [hx]; exact hcap) (by show (Lib.join _ []).length ≤ _; rw [e1]; omega)
    rw [hx] at hj
    refine hj.mono fun e w' ⟨h1, h2⟩ => ⟨?_, h2⟩
    rw [h1]
    exact congrArg (fun l : List UInt8 => Ending.returned (.string ⟨l.toArray⟩)) e1

set_option maxRecDepth 100000 in
set_option maxHeartbeats 4000000 in
theorem rjoin_any (a : Nat → Addr) (nm : ByteArray) (hnm : nm.size ≤ maxLen) (len : Int) (p : Nat) (v vl : Value) (ids : List (Nat × Int)) (ls : List (List UInt8)) (w : World) (hE : ErrE [1, 2, 3, 6, 8] w a) (hv : IdsAt w v ids) (hlen : ids.length ≤ maxLen) (hl : CellsAt w vl (ls.map txtV)) (hll : ls.length ≤ 50000)
    (hsz : ∀ i (h : i < ls.length), ls[i].length ≤ 100) :
    Calls Tryd.prog 100 #[rcpV nm len (p : Nat) v, vl] w fun e w' => joinPost a nm len p ids ls w e w' := by
  have HB : Hid (∀ o, Below w.heap.size w (w.alloc o)) := fun o => (Below.refl _ w).alloc (Nat.le_refl _) o
  have HC : Hid (∀ o, Calls Tryd.prog 132 #[rcpV nm len (p : Nat) v] (w.alloc o) fun e w' => ∃ ev, e = .returned ev ∧ ErrIn (w.alloc o).heap.size w' a ev (recFault nm.data.toList len ids) ∧ Below (w.alloc o).heap.size (w.alloc o) w') := fun o => check_any a nm hnm len p v ids _ (hE.below (HB.out o) (Nat.le_refl _)) (hv.below (HB.out o)) hlen
  have HG : Hid (∀ W', Below w.heap.size w W' → ∀ i, ([1, 2, 3, 6, 8] : List Nat).contains i = true → W'.cell? ⟨errG i, 0, none⟩ = some (sentV a i)) := fun W' hb i hi => (hE.below hb (Nat.le_refl _)).glob i hi
  have HJT : Hid (∀ W', Below w.heap.size w W' → Calls Tryd.prog 133 #[vl, .string ⟨#[]⟩] W' fun e w' => e = .returned (.string ⟨ls.flatten.toArray⟩) ∧ Below W'.heap.size W' w') := fun W' hb => joinTexts vl ls W' (hl.below hb) hll hsz
  obtain ⟨pa, ca, rfl, hcell⟩ := hv
  obtain ⟨pb, cb, rfl, hcl⟩ := hl
  simp only [List.length_map, List.getElem_map] at hcl ⊢
  simp only [List.length_map] at HJT
  have HSZ : Hid (∀ i (h : i < ls.length), ls[i].length ≤ 100) := hsz
  have hl2 : (ids.length : Int) ≤ 9223372036854775807 := by unfold maxLen at hlen; omega
  have hl3 : (ls.length : Int) ≤ 50000 := by omega
  have HCI : Hid (∀ W', Below w.heap.size w W' → ∀ i (h : i < ids.length), ∃ b o, pa = some ⟨b, o, none⟩ ∧ W'.cell? ⟨b, o + i * 2, none⟩ = some (.int .u32 (ids[i].1 : Nat)) ∧ W'.cell? ⟨b, o + i * 2 + 1, none⟩ = some (.int .i64 ids[i].2)) := fun W' hb i hi => by
    obtain ⟨b, o, hp, hlt, h1, h2⟩ := hcell i hi
    exact ⟨b, o, hp, (hb.cell (p := ⟨b, o + i * 2, none⟩) hlt).trans h1, (hb.cell (p := ⟨b, o + i * 2 + 1, none⟩) hlt).trans h2⟩
  have HCL : Hid (∀ W', Below w.heap.size w W' → ∀ i (h : i < ls.length), ∃ b o, pb = some ⟨b, o, none⟩ ∧ W'.cell? ⟨b, o + i, none⟩ = some (txtV ls[i])) := fun W' hb i hi => by
    obtain ⟨b, o, hp, hlt, h1⟩ := hcl i hi
    exact ⟨b, o, hp, (hb.cell (p := ⟨b, o + i, none⟩) hlt.1).trans h1⟩
  clear hcell hcl hnm hlen hll hsz hE
  go_enter Tryd.func100, Tryd.ntmps100
  go_wp2_with fail
  refine (HC.out _).mono ?_
  rintro e w1 ⟨ev, rfl, he, hb1⟩
  have hbx := HB.out (.cells #[.string nm, .int .i64 len, .int .u32 (p : Nat), .slice pa ids.length ca] 87)
  have hX0 := Blk.new w #[.string nm, .int .i64 len, .int .u32 (p : Nat), .slice pa ids.length ca] 87
  have hX1 := hX0.next hb1
  have hB1 : Below w.heap.size w w1 := hbx.trans (hb1.mono hbx.size)
  replace he := he.low hbx.size
  clear hb1 hX0 hbx HC
  rcases recFault_code nm.data.toList len ids with hf | hf
  · rw [hf] at he
    obtain rfl := he.is_nil
    have HF : Hid (recFault nm.data.toList len ids = (0, -1)) := hf
    obtain ⟨_, _, h250, _, _⟩ := recFault_zero hf
    have H250 : Hid (ids.length ≤ 250) := h250
    clear he hf h250
    have b3 := hX1.cell (i := 3) rfl
    by_cases hll : ls.length = ids.length
    · have HLL : Hid (ls.length = ids.length) := hll
      have hq : ((ls.length : Int) == (ids.length : Int)) = true := by rw [beq_iff_eq]; omega
      have hqn : ((ls.length : Int) != (ids.length : Int)) = false := by rw [bne, hq]; rfl
      clear hll
      go_wp2_with fail
      clear b3
      go_loopw [24] (fun i wr => ∃ (k : Nat), k ≤ ls.length ∧ i = .int .i64 k ∧ (∀ j (hj : j < ls.length) (hj' : j < ids.length), j < k → idOfL ls[j] = ids[j]) ∧ Below w.heap.size w wr ∧ Blk wr w.heap.size #[.string nm, .int .i64 len, .int .u32 (p : Nat), .slice pa ids.length ca] 87) (fun i _ => ls.length - (intOf i).toNat)
      case atStart => exact ⟨0, Nat.zero_le _, rfl, fun j _ _ h => by omega, hB1, hX1⟩
      case round =>
        obtain ⟨k, hk, rfl, hsame, hbr, hX⟩ := hrel
        have HSM : Hid (∀ j (hj : j < ls.length) (hj' : j < ids.length), j < k → idOfL ls[j] = ids[j]) := hsame
        clear hsame hB1 hX1
        have b2 := hX.cell (i := 2) rfl
        have b3 := hX.cell (i := 3) rfl
        by_cases hlt : k < ls.length
        · have hlt' : (k : Int) < (ls.length : Int) := by omega
          have hki : k < ids.length := by have := HLL.out; omega
          have hki' : (k : Int) < (ids.length : Int) := by omega
          have hk0 : (0 : Int) ≤ (k : Int) := by omega
          obtain ⟨bi, oi, rfl, hi0, hi1⟩ := HCI.out wr hbr k hki
          obtain ⟨bl, ol, rfl, hl0⟩ := HCL.out wr hbr k hlt
          have HCI2 : Hid (∀ W', Below w.heap.size w W' → W'.cell? ⟨bi, oi + k * 2, none⟩ = some (.int .u32 (ids[k].1 : Nat)) ∧ W'.cell? ⟨bi, oi + k * 2 + 1, none⟩ = some (.int .i64 ids[k].2)) := fun W' hb => by
            obtain ⟨b, o, hp, h1, h2⟩ := HCI.out W' hb k hki
            cases hp
            exact ⟨h1, h2⟩
          have HLS : Hid (ls[k].length ≤ 100) := HSZ.out k hlt
          have HID : Hid (idOfL ls[k] = (pmore 2166136261 ls[k], (ls[k].length : Int))) := rfl
          have HST : Hid (idOfL ls[k] = ids[k] → ∀ j (hj : j < ls.length) (hj' : j < ids.length), j < k + 1 → idOfL ls[j] = ids[j]) := fun e j hj hj' h => by
            by_cases ej : j = k
            · subst ej; exact e
            · exact HSM.out j hj hj' (by omega)
          have HOD : Hid (idOfL ls[k] ≠ ids[k] → firstOdd 0 ls ids = some k) := fun e => by
            have := firstOdd_at ls ids 0 k hlt hki (fun j hj hj' h => HSM.out j hj hj' h) e
            rwa [Nat.zero_add] at this
          obtain ⟨q, hq⟩ : ∃ q : ByteArray, (⟨ls[k].toArray⟩ : ByteArray) = q := ⟨_, rfl⟩
          have hqd : q.data.toList = ls[k] := by rw [← hq]
          have hqs : (ls[k].length : Int) = (q.size : Int) := by rw [← hq]; rfl
          have hqn : q.size ≤ 100 := by have := HLS.out; omega
          rw [txtV, hq] at hl0
          rw [hqs, ← hqd] at HID
          obtain ⟨P, hP⟩ : ∃ P, pmore 2166136261 q.data.toList = P := ⟨_, rfl⟩
          have HPP : Hid (pmore 2166136261 q.data.toList = P) := hP
          obtain ⟨L, hL⟩ : ∃ L : Int, (q.size : Int) = L := ⟨_, rfl⟩
          have HQL : Hid ((q.size : Int) = L) := hL
          rw [hP, hL] at HID
          obtain ⟨⟨n, l⟩, hy⟩ : ∃ y, ids[k] = y := ⟨_, rfl⟩
          obtain ⟨z, hz⟩ : ∃ z, idOfL ls[k] = z := ⟨_, rfl⟩
          rw [hy] at hi0 hi1 HCI2 HST HOD
          rw [hqd, hz] at HID
          rw [hz] at HST HOD
          have HQM : Hid (q.size ≤ maxLen) := by show _ ≤ _; unfold maxLen; omega
          clear hqs hq hqd hP hL hy hz HLS hqn
          have HBN : Hid (Blk wr w.heap.size #[.string nm, .int .i64 len, .int .u32 (p : Nat), .slice (some ⟨bi, oi, none⟩) ids.length ca] 87) := hX
          by_cases hid : P = n ∧ L = l
          · obtain ⟨rfl, rfl⟩ := hid
            go_wp2_with fail
            go_region_held3 (fun w' => w'.cell? ⟨w.heap.size, 3, none⟩ = some (.slice (some ⟨bi, oi, none⟩) ids.length ca) ∧ w'.cell? ⟨bi, oi + k * 2, none⟩ = some (.int .u32 (P : Nat)) ∧ w'.cell? ⟨bi, oi + k * 2 + 1, none⟩ = some (.int .i64 L)) (first | exact ⟨hX4.cell (i := 3) rfl, y0, y1⟩ | go_keep) (first
              | (go_at_call 20; refine (id_any q _ HQM.out).mono ?_; rintro e w4 ⟨rfl, hb4⟩; rw [HPP.out, HQL.out]; have hB4 : Below w.heap.size w w4 := hbr.drew.trans (hb4.mono hbr.size); have hX4 := Blk.next (W := wr.drew) HBN.out hb4; obtain ⟨y0, y1⟩ := HCI2.out w4 hB4))
            go_wp2_with fail
            go_roundw
            case rel => exact ⟨k + 1, by omega, by go_num, HST.out HID.out, hB4, hX4⟩
            case measure => simp [intOf]; omega
          · have HR : Hid (joinOf nm.data.toList len p ids ls = ([], (9, (k : Int)))) := by
              show _ = _
              unfold joinOf
              rw [if_neg (by rw [HF.out]; simp), if_neg (by rw [HLL.out]; simp), HOD.out (by rw [HID.out]; intro e; cases e; exact hid ⟨rfl, rfl⟩)]
            have hdis : ((P : Int) == (n : Int)) = false ∨ (((P : Int) == (n : Int)) = true ∧ (L == l) = false) := by
              by_cases h : P = n
              · exact .inr ⟨by rw [beq_iff_eq]; omega, by rw [beq_eq_false_iff_ne]; exact fun e => hid ⟨h, e⟩⟩
              · exact .inl (by rw [beq_eq_false_iff_ne]; omega)
            clear hid
            rcases hdis with hPn | ⟨hPn, hLl⟩
            all_goals
              go_wp2_with fail
              go_region_held3 (fun w' => w'.cell? ⟨w.heap.size, 3, none⟩ = some (.slice (some ⟨bi, oi, none⟩) ids.length ca) ∧ w'.cell? ⟨bi, oi + k * 2, none⟩ = some (.int .u32 (n : Nat)) ∧ w'.cell? ⟨bi, oi + k * 2 + 1, none⟩ = some (.int .i64 l)) (first | exact ⟨hX4.cell (i := 3) rfl, y0, y1⟩ | go_keep) (first
                | (go_at_call 20; refine (id_any q _ HQM.out).mono ?_; rintro e w4 ⟨rfl, hb4⟩; rw [HPP.out, HQL.out]; have hB4 : Below w.heap.size w w4 := hbr.drew.trans (hb4.mono hbr.size); have hX4 := Blk.next (W := wr.drew) HBN.out hb4; obtain ⟨y0, y1⟩ := HCI2.out w4 hB4))
              have g8 := HG.out w4 hB4 8 (by decide)
              dsimp only [errG] at g8
              go_wp2_with fail
              go_region
              all_goals go_wp2_with fail
              all_goals go_ret2
              all_goals refine ⟨.iface 29 (.pointer (some ⟨w4.heap.size, 0, none⟩)), by rw [HR.out]; rfl, ?_, ?_⟩
              all_goals first
                | exact (hB4.drew).alloc hB4.size _
                | (rw [HR.out]; exact .inr (.inr ⟨8, w4.heap.size, 0, (k : Int), by decide, hB4.size, rfl, by simp, by simp, rfl⟩))
        · have hge : (ls.length : Int) ≤ (k : Int) := by omega
          have HNO : Hid (firstOdd 0 ls ids = none) := firstOdd_none ls ids 0 (fun j hj hj' => HSM.out j hj hj' (by omega))
          obtain ⟨T, hT⟩ : ∃ T : ByteArray, (⟨ls.flatten.toArray⟩ : ByteArray) = T := ⟨_, rfl⟩
          have HTT : Hid ((⟨ls.flatten.toArray⟩ : ByteArray) = T) := hT
          have hTd : T.data.toList = ls.flatten := by rw [← hT]
          have HJN : Hid (joinOf nm.data.toList len p ids ls = if pmore 2166136261 T.data.toList = p then (T.data.toList, (0, -1)) else ([], (9, -1))) := by
            show _ = _
            unfold joinOf
            rw [if_neg (by rw [HF.out]; simp), if_neg (by rw [HLL.out]; simp), HNO.out, hTd]
          have HAM : Hid (T.size ≤ maxLen) := by
            show _ ≤ _
            have h1 : T.size = ls.flatten.length := by rw [← hTd, Array.length_toList]; rfl
            have h2 := flatten_le ls HSZ.out
            have h3 := HLL.out
            have h4 := H250.out
            unfold maxLen
            omega
          obtain ⟨P, hP⟩ : ∃ P, pmore 2166136261 T.data.toList = P := ⟨_, rfl⟩
          have HPP : Hid (pmore 2166136261 T.data.toList = P) := hP
          rw [hP] at HJN
          clear hP hTd hT HNO b2 b3
          go_wp2_with fail
          refine (HJT.out wr hbr).mono ?_
          rintro e w5 ⟨rfl, hb5⟩
          rw [HTT.out]
          have hX5 := hX.next hb5
          have hB5 : Below w.heap.size w w5 := hbr.trans (hb5.mono hbr.size)
          have b2 := hX5.cell (i := 2) rfl
          have g8 := HG.out w5 hB5 8 (by decide)
          dsimp only [errG] at g8
          clear hb5
          by_cases hPp : P = p
          · subst hPp
            have HR : Hid (joinOf nm.data.toList len P ids ls = (T.data.toList, (0, -1))) := by show _ = _; rw [HJN.out, if_pos rfl]
            clear HJN
            go_wp2_with fail
            go_region_held3 (fun w' => w'.cell? ⟨w.heap.size, 2, none⟩ = some (.int .u32 (P : Nat))) (go_keep) (first
              | (go_at_call 15; refine (of_any T _ HAM.out).mono ?_; rintro e w6 ⟨rfl, hw6⟩; subst hw6; rw [HPP.out]))
            go_wp2_with fail
            go_ret2
            have HAE : Hid (T = ⟨T.data.toList.toArray⟩) := bytes_eq rfl
            exact ⟨.nilIface, by rw [HR.out, ← HAE.out]; rfl, by rw [HR.out]; exact ErrIn.mkNil _ _ a, hB5.drew⟩
          · have HR : Hid (joinOf nm.data.toList len p ids ls = ([], (9, -1))) := by show _ = _; rw [HJN.out, if_neg hPp]
            have hb : ((P : Int) == (p : Int)) = false := by rw [beq_eq_false_iff_ne]; omega
            have hbn : ((P : Int) != (p : Int)) = true := by rw [bne, hb]; rfl
            clear HJN hPp
            go_wp2_with fail
            go_region_held3 (fun w' => w'.cell? ⟨w.heap.size, 2, none⟩ = some (.int .u32 (p : Nat))) (go_keep) (first
              | (go_at_call 15; refine (of_any T _ HAM.out).mono ?_; rintro e w6 ⟨rfl, hw6⟩; subst hw6; rw [HPP.out]))
            go_wp2_with fail
            go_region
            all_goals go_wp2_with fail
            all_goals go_ret2
            all_goals exact ⟨sentV a 8, by rw [HR.out]; rfl, by rw [HR.out]; exact ErrIn.sent _ _ a 8 (by decide) rfl, hB5.drew.drew⟩
    · have HR : Hid (joinOf nm.data.toList len p ids ls = ([], (3, -1))) := by
        show _ = _
        unfold joinOf
        rw [if_neg (by rw [HF.out]; simp), if_pos hll]
      have hq : ((ls.length : Int) == (ids.length : Int)) = false := by rw [beq_eq_false_iff_ne]; omega
      have hqn : ((ls.length : Int) != (ids.length : Int)) = true := by rw [bne, hq]; rfl
      have g2 := HG.out w1 hB1 2 (by decide)
      dsimp only [errG] at g2
      clear hll
      go_wp2_with fail
      go_region
      all_goals go_wp2_with fail
      all_goals go_ret2
      all_goals exact ⟨sentV a 2, by rw [HR.out]; rfl, by rw [HR.out]; exact ErrIn.sent _ _ a 2 (by decide) rfl, hB1.drew⟩
  · have HR : Hid (joinOf nm.data.toList len p ids ls = ([], recFault nm.data.toList len ids)) := by
      show _ = _
      unfold joinOf
      rw [if_pos (by intro e; rw [e] at hf; simp at hf)]
    obtain ⟨t, u, rfl⟩ := he.not_nil hf
    have HE : Hid (ErrIn w.heap.size w1 a (.iface t u) (recFault nm.data.toList len ids)) := he
    clear he hf
    go_wp2_with fail
    go_ret2
    exact ⟨.iface t u, by rw [HR.out]; rfl, by rw [HR.out]; exact HE.out, hB1⟩
end Go.Proofs.YteefjbdejcpepaaDoor
