/-
  Own text. The program's recipe.ofName and recipe.Name by contracts.
  Own text. IDs in memory that is followed through calls.
  Own text. The program's recipe.Check by a contract.
  Own text. What is joined of a recipe and pieces, pure, and the document's JoinOf by a contract.
  Own text. The document's Cut of a text by a byte, by a contract: it returns the pieces, in new memory.
-/
import Derived.Test.YtcbcjefefmbccaaDoorG02
import Derived.Test.YtcbcjefefmbccaaDoorG08
import Derived.Test.YtcbcjefefmbccaaDoorG04
import Derived.Test.YtcbcjefefmbccaaDoorG03
import Derived.Lib.Strings
namespace Go.Proofs.YtcbcjefefmbccaaDoor
open Go.RowKit

set_option maxRecDepth 100000 in
set_option maxHeartbeats 4000000 in
theorem ofName_any (c : UInt8) (w : World) :
    Calls Tryd.prog 106 #[.int .u8 (c.toNat : Int)] w fun e w' => e = .returned (.bool (nameByte c)) ∧ w' = w := by
  have HY0 : Hid (nameByte c = decide ((97 ≤ c.toNat ∧ c.toNat ≤ 122) ∨ (48 ≤ c.toNat ∧ c.toNat ≤ 57) ∨ c.toNat = 46 ∨ c.toNat = 45)) := rfl
  obtain ⟨x, hxx⟩ : ∃ x : Int, (c.toNat : Int) = x := ⟨_, rfl⟩
  have HX : Hid ((c.toNat : Int) = x) := hxx
  rw [hxx]
  clear hxx
  rcases cases8 x with hx | hx | hx | hx | hx | hx | hx | hx
  · -- x < 45
    have e1 : decide (97 ≤ x) = false := by simp; omega
    have e2 : decide (x ≤ 122) = true := by simp; omega
    have e3 : decide (48 ≤ x) = false := by simp; omega
    have e4 : decide (x ≤ 57) = true := by simp; omega
    have f1 : x < 97 := by omega
    have f2 : x ≤ 122 := by omega
    have f3 : x < 48 := by omega
    have f4 : x ≤ 57 := by omega
    have f5 : (x == 46) = false := by rw [beq_eq_false_iff_ne]; omega
    have f6 : (x == 45) = false := by rw [beq_eq_false_iff_ne]; omega
    have HY : Hid (nameByte c = false) := by show _ = _; rw [HY0.out]; have := HX.out; simp; omega
    clear hx
    go_enter Tryd.func106, Tryd.ntmps106
    go_wp2_with fail
    go_ret
    exact ⟨by rw [HY.out]; rfl, rfl⟩
  · -- x = 45
    have e1 : decide (97 ≤ x) = false := by simp; omega
    have e2 : decide (x ≤ 122) = true := by simp; omega
    have e3 : decide (48 ≤ x) = false := by simp; omega
    have e4 : decide (x ≤ 57) = true := by simp; omega
    have f1 : x < 97 := by omega
    have f2 : x ≤ 122 := by omega
    have f3 : x < 48 := by omega
    have f4 : x ≤ 57 := by omega
    have f5 : (x == 46) = false := by rw [beq_eq_false_iff_ne]; omega
    have f6 : (x == 45) = true := by rw [beq_iff_eq]; omega
    have HY : Hid (nameByte c = true) := by show _ = _; rw [HY0.out]; have := HX.out; simp; omega
    clear hx
    go_enter Tryd.func106, Tryd.ntmps106
    go_wp2_with fail
    go_ret
    exact ⟨by rw [HY.out]; rfl, rfl⟩
  · -- x = 46
    have e1 : decide (97 ≤ x) = false := by simp; omega
    have e2 : decide (x ≤ 122) = true := by simp; omega
    have e3 : decide (48 ≤ x) = false := by simp; omega
    have e4 : decide (x ≤ 57) = true := by simp; omega
    have f1 : x < 97 := by omega
    have f2 : x ≤ 122 := by omega
    have f3 : x < 48 := by omega
    have f4 : x ≤ 57 := by omega
    have f5 : (x == 46) = true := by rw [beq_iff_eq]; omega
    have f6 : (x == 45) = false := by rw [beq_eq_false_iff_ne]; omega
    have HY : Hid (nameByte c = true) := by show _ = _; rw [HY0.out]; have := HX.out; simp; omega
    clear hx
    go_enter Tryd.func106, Tryd.ntmps106
    go_wp2_with fail
    go_ret
    exact ⟨by rw [HY.out]; rfl, rfl⟩
  · -- x = 47
    have e1 : decide (97 ≤ x) = false := by simp; omega
    have e2 : decide (x ≤ 122) = true := by simp; omega
    have e3 : decide (48 ≤ x) = false := by simp; omega
    have e4 : decide (x ≤ 57) = true := by simp; omega
    have f1 : x < 97 := by omega
    have f2 : x ≤ 122 := by omega
    have f3 : x < 48 := by omega
    have f4 : x ≤ 57 := by omega
    have f5 : (x == 46) = false := by rw [beq_eq_false_iff_ne]; omega
    have f6 : (x == 45) = false := by rw [beq_eq_false_iff_ne]; omega
    have HY : Hid (nameByte c = false) := by show _ = _; rw [HY0.out]; have := HX.out; simp; omega
    clear hx
    go_enter Tryd.func106, Tryd.ntmps106
    go_wp2_with fail
    go_ret
    exact ⟨by rw [HY.out]; rfl, rfl⟩
  · -- 48..57
    have e1 : decide (97 ≤ x) = false := by simp; omega
    have e2 : decide (x ≤ 122) = true := by simp; omega
    have e3 : decide (48 ≤ x) = true := by simp; omega
    have e4 : decide (x ≤ 57) = true := by simp; omega
    have f1 : x < 97 := by omega
    have f2 : x ≤ 122 := by omega
    have f3 : 48 ≤ x := by omega
    have f4 : x ≤ 57 := by omega
    have f5 : (x == 46) = false := by rw [beq_eq_false_iff_ne]; omega
    have f6 : (x == 45) = false := by rw [beq_eq_false_iff_ne]; omega
    have HY : Hid (nameByte c = true) := by show _ = _; rw [HY0.out]; have := HX.out; simp; omega
    clear hx
    go_enter Tryd.func106, Tryd.ntmps106
    go_wp2_with fail
    go_ret
    exact ⟨by rw [HY.out]; rfl, rfl⟩
  · -- 58..96
    have e1 : decide (97 ≤ x) = false := by simp; omega
    have e2 : decide (x ≤ 122) = true := by simp; omega
    have e3 : decide (48 ≤ x) = true := by simp; omega
    have e4 : decide (x ≤ 57) = false := by simp; omega
    have f1 : x < 97 := by omega
    have f2 : x ≤ 122 := by omega
    have f3 : 48 ≤ x := by omega
    have f4 : 57 < x := by omega
    have f5 : (x == 46) = false := by rw [beq_eq_false_iff_ne]; omega
    have f6 : (x == 45) = false := by rw [beq_eq_false_iff_ne]; omega
    have HY : Hid (nameByte c = false) := by show _ = _; rw [HY0.out]; have := HX.out; simp; omega
    clear hx
    go_enter Tryd.func106, Tryd.ntmps106
    go_wp2_with fail
    go_ret
    exact ⟨by rw [HY.out]; rfl, rfl⟩
  · -- 97..122
    have e1 : decide (97 ≤ x) = true := by simp; omega
    have e2 : decide (x ≤ 122) = true := by simp; omega
    have e3 : decide (48 ≤ x) = true := by simp; omega
    have e4 : decide (x ≤ 57) = false := by simp; omega
    have f1 : 97 ≤ x := by omega
    have f2 : x ≤ 122 := by omega
    have f3 : 48 ≤ x := by omega
    have f4 : 57 < x := by omega
    have f5 : (x == 46) = false := by rw [beq_eq_false_iff_ne]; omega
    have f6 : (x == 45) = false := by rw [beq_eq_false_iff_ne]; omega
    have HY : Hid (nameByte c = true) := by show _ = _; rw [HY0.out]; have := HX.out; simp; omega
    clear hx
    go_enter Tryd.func106, Tryd.ntmps106
    go_wp2_with fail
    go_ret
    exact ⟨by rw [HY.out]; rfl, rfl⟩
  · -- 123..
    have e1 : decide (97 ≤ x) = true := by simp; omega
    have e2 : decide (x ≤ 122) = false := by simp; omega
    have e3 : decide (48 ≤ x) = true := by simp; omega
    have e4 : decide (x ≤ 57) = false := by simp; omega
    have f1 : 97 ≤ x := by omega
    have f2 : 122 < x := by omega
    have f3 : 48 ≤ x := by omega
    have f4 : 57 < x := by omega
    have f5 : (x == 46) = false := by rw [beq_eq_false_iff_ne]; omega
    have f6 : (x == 45) = false := by rw [beq_eq_false_iff_ne]; omega
    have HY : Hid (nameByte c = false) := by show _ = _; rw [HY0.out]; have := HX.out; simp; omega
    clear hx
    go_enter Tryd.func106, Tryd.ntmps106
    go_wp2_with fail
    go_ret
    exact ⟨by rw [HY.out]; rfl, rfl⟩

theorem nameEmpty (s : ByteArray) (h : s.size < 1) : s = ⟨#[]⟩ := by
  apply ByteArray.ext; apply Array.eq_empty_of_size_eq_zero; have : s.data.size = s.size := rfl; omega
theorem notEmpty {s : ByteArray} (h : 1 ≤ s.size) : s.toList.isEmpty = false := by
  rw [← decide_eq_emptyBytes, decide_eq_false_iff_not]
  rintro rfl
  simp at h
set_option maxRecDepth 100000 in
set_option maxHeartbeats 4000000 in
theorem name_any (s : ByteArray) (hs : s.size ≤ maxLen) (w : World) :
    Calls Tryd.prog 81 #[.string s] w fun e w' => e = .returned (.bool (isName s.data.toList)) ∧ w' = w := by
  have HSL : Hid (s.data.toList.length = s.size) := by show _ = _; rw [Array.length_toList]; rfl
  have hs2 : (s.size : Int) ≤ 9223372036854775807 := by unfold maxLen at hs; omega
  clear hs
  by_cases h1 : s.size < 1
  · have e := nameEmpty s h1
    subst e
    clear h1
    go_enter Tryd.func81, Tryd.ntmps81
    go_wp2_with fail
    go_ret
    exact ⟨rfl, rfl⟩
  have he := notEmpty (show 1 ≤ s.size by omega)
  by_cases h12 : 12 < s.size
  · have h12' : (12 : Int) < (s.size : Int) := by omega
    have HV : Hid (isName s.data.toList = false) := by show _ = _; unfold isName; rw [HSL.out]; simp; omega
    clear h1 h12
    go_enter Tryd.func81, Tryd.ntmps81
    go_wp2_with fail
    go_ret
    exact ⟨by rw [HV.out]; rfl, rfl⟩
  have h12' : ¬ (12 : Int) < (s.size : Int) := by omega
  have h12d : decide ((12 : Int) < (s.size : Int)) = false := by simp; omega
  have HLE : Hid (1 ≤ s.size ∧ s.size ≤ 12) := ⟨by omega, by omega⟩
  clear h1 h12
  go_enter Tryd.func81, Tryd.ntmps81
  go_wp2_with fail
  go_loopw [13] (fun i wr => ∃ (k : Nat), k ≤ s.size ∧ i = .int .i64 k ∧ (s.data.toList.take k).all nameByte = true ∧ wr = w) (fun i _ => s.size - (intOf i).toNat)
  case atStart => exact ⟨0, Nat.zero_le _, rfl, rfl, rfl⟩
  case round =>
    obtain ⟨k, hk, rfl, ht, rfl⟩ := hrel
    have HT : Hid ((s.data.toList.take k).all nameByte = true) := ht
    clear ht
    by_cases hlt : k < s.size
    · have HG : Hid (s.data.toList[k]? = some s[k]) := by show _ = _; rw [List.getElem?_eq_getElem (by rw [HSL.out]; exact hlt)]; rfl
      have hlt' : (k : Int) < (s.size : Int) := by omega
      obtain ⟨bv, hbv⟩ : ∃ b, nameByte s[k] = b := ⟨_, rfl⟩
      have HB : Hid (nameByte s[k] = bv) := hbv
      clear hbv
      go_wp2_with fail
      refine (ofName_any s[k] _).mono ?_
      rintro e w1 ⟨rfl, hw1⟩
      subst hw1
      rw [HB.out]
      cases bv with
      | true =>
        go_wp2_with fail
        go_roundw
        case rel => exact ⟨k + 1, by omega, by go_num, nameTo_next HT.out HG.out HB.out, trivial⟩
        case measure => simp [intOf]; omega
      | false =>
        go_wp2_with fail
        go_ret
        exact ⟨by rw [isName_bad (HG.out) HB.out]; rfl, rfl⟩
    · have hge : (s.size : Int) ≤ (k : Int) := by omega
      have HV : Hid (isName s.data.toList = true) := by
        show _ = _
        have hall := HT.out
        rw [List.take_of_length_le (by rw [HSL.out]; omega)] at hall
        unfold isName
        rw [hall, HSL.out]
        have := HLE.out
        simp
        omega
      go_wp2_with fail
      go_ret
      exact ⟨by rw [HV.out]; rfl, rfl⟩
end Go.Proofs.YtcbcjefefmbccaaDoor
namespace Go.Proofs.YtcbcjefefmbccaaDoor
open Go.RowKit

theorem IdsIn.same {lo : Nat} {W W' : World} {v : Value} {ids : List (Nat × Int)} (h : IdsIn lo W v ids) (hs : SameIn lo W.heap.size W W') (hz : W.heap.size ≤ W'.heap.size) : IdsIn lo W' v ids := by
  obtain ⟨p, c, hv, h⟩ := h
  refine ⟨p, c, hv, fun i hi => ?_⟩
  obtain ⟨b, o, hp, hl, hlt, h1, h2⟩ := h i hi
  have hc : ∀ j, W'.cell? ⟨b, j, none⟩ = W.cell? ⟨b, j, none⟩ := fun j => World.cell?_of_block (w := W) (hs b hl hlt)
  exact ⟨b, o, hp, hl, Nat.lt_of_lt_of_le hlt hz, (hc _).trans h1, (hc _).trans h2⟩
end Go.Proofs.YtcbcjefefmbccaaDoor
namespace Go.Proofs.YtcbcjefefmbccaaDoor
open Go.RowKit

theorem ErrIn.mkNil (base : Nat) (w : World) (a : Nat → Addr) : ErrIn base w a .nilIface (0, -1) := .inl ⟨rfl, rfl⟩
theorem ErrIn.sent (base : Nat) (w : World) (a : Nat → Addr) (k : Nat) (hk : k < 12) {c : Int} (hc : c = (k : Int) + 1) : ErrIn base w a (sentV a k) (c, -1) := .inr (.inl ⟨k, hk, rfl, by rw [hc]⟩)

set_option maxRecDepth 100000 in
set_option maxHeartbeats 4000000 in
theorem check_any (a : Nat → Addr) (nm : ByteArray) (hnm : nm.size ≤ maxLen) (len p : Int) (v : Value) (ids : List (Nat × Int)) (w : World) (hE : ErrE [1, 2, 3, 6, 8] w a) (hv : IdsAt w v ids) (hlen : ids.length ≤ maxLen) :
    Calls Tryd.prog 134 #[rcpV nm len p v] w fun e w' => ∃ ev, e = .returned ev ∧ ErrIn w.heap.size w' a ev (recFault nm.data.toList len ids) ∧ Below w.heap.size w w' := by
  obtain ⟨pa, c, rfl, hcell⟩ := hv
  have HN : Hid (nm.size ≤ maxLen) := hnm
  have hl2 : (ids.length : Int) ≤ 9223372036854775807 := by unfold maxLen at hlen; omega
  have HG : Hid (∀ W', Below w.heap.size w W' → ∀ i, ([1, 2, 3, 6, 8] : List Nat).contains i = true → W'.cell? ⟨errG i, 0, none⟩ = some (sentV a i)) := fun W' hb i hi => (hE.below hb (Nat.le_refl _)).glob i hi
  have HC : Hid (∀ W', Below w.heap.size w W' → ∀ i (h : i < ids.length), ∃ b o, pa = some ⟨b, o, none⟩ ∧ W'.cell? ⟨b, o + i * 2, none⟩ = some (.int .u32 (ids[i].1 : Nat)) ∧ W'.cell? ⟨b, o + i * 2 + 1, none⟩ = some (.int .i64 ids[i].2)) := fun W' hb i hi => by
    obtain ⟨b, o, hp, hlt, h1, h2⟩ := hcell i hi
    exact ⟨b, o, hp, (hb.cell (p := ⟨b, o + i * 2, none⟩) hlt).trans h1, (hb.cell (p := ⟨b, o + i * 2 + 1, none⟩) hlt).trans h2⟩
  clear hnm hlen hcell hE
  go_enter Tryd.func134, Tryd.ntmps134
  go_wp2_with fail
  refine (name_any nm HN.out _).mono ?_
  rintro e w1 ⟨rfl, hw1⟩
  subst hw1
  have hX := Blk.new w #[.string nm, .int .i64 len, .int .u32 p, .slice pa ids.length c] 87
  have hb : Below w.heap.size w (w.alloc (.cells #[.string nm, .int .i64 len, .int .u32 p, .slice pa ids.length c] 87)) := (Below.refl _ w).alloc (Nat.le_refl _) _
  obtain ⟨W, hW⟩ : ∃ W, w.alloc (.cells #[.string nm, .int .i64 len, .int .u32 p, .slice pa ids.length c] 87) = W := ⟨_, rfl⟩
  rw [hW] at hX hb ⊢
  clear hW
  have x1 := hX.cell (i := 1) rfl
  have x3 := hX.cell (i := 3) rfl
  have g1 := HG.out W hb 1 (by decide)
  have g3 := HG.out W hb 3 (by decide)
  have g6 := HG.out W hb 6 (by decide)
  dsimp only [errG] at g1 g3 g6
  by_cases h1 : isName nm.data.toList = true
  · rw [h1]
    have H1 : Hid (isName nm.data.toList = true) := h1
    clear h1
    by_cases h2a : len < 0
    · have HR : Hid (recFault nm.data.toList len ids = (2, -1)) := recFault_len ids H1.out (.inl h2a)
      go_wp2_with fail
      go_ret
      exact ⟨_, rfl, by rw [HR.out]; exact ErrIn.sent _ _ a 1 (by decide) rfl, hb⟩
    · by_cases h2b : 4000 < len
      · have HR : Hid (recFault nm.data.toList len ids = (2, -1)) := recFault_len ids H1.out (.inr h2b)
        go_wp2_with fail
        go_ret
        exact ⟨_, rfl, by rw [HR.out]; exact ErrIn.sent _ _ a 1 (by decide) rfl, hb⟩
      · have H2 : Hid (¬ (len < 0 ∨ 4000 < len)) := fun h => h.elim h2a h2b
        by_cases h3 : 250 < ids.length
        · have h3' : (250 : Int) < (ids.length : Int) := by omega
          have HR : Hid (recFault nm.data.toList len ids = (7, -1)) := recFault_many H1.out H2.out h3
          clear h3
          go_wp2_with fail
          go_ret
          exact ⟨_, rfl, by rw [HR.out]; exact ErrIn.sent _ _ a 6 (by decide) rfl, hb⟩
        · have h3' : ¬ (250 : Int) < (ids.length : Int) := by omega
          have H3 : Hid (¬ 250 < ids.length) := h3
          clear h3 g1 g3 g6
          go_wp2_with fail
          go_loopw [3, 28] (fun t i wr => ∃ (k : Nat), k ≤ ids.length ∧ i = .int .i64 k ∧ t = .int .i64 (lenSum (ids.take k)) ∧ (∀ j (hj : j < ids.length), j < k → idOk ids[j] = true) ∧ 0 ≤ lenSum (ids.take k) ∧ lenSum (ids.take k) ≤ 64 * (k : Int) ∧ Below w.heap.size w wr ∧ Blk wr w.heap.size #[.string nm, .int .i64 len, .int .u32 p, .slice pa ids.length c] 87) (fun _ i _ => ids.length - (intOf i).toNat)
          case atStart => exact ⟨0, Nat.zero_le _, rfl, by simp [lenSum], fun j _ h => by omega, by simp [lenSum], by simp [lenSum], hb, hX⟩
          case round =>
            clear hX hb x1 x3
            obtain ⟨k, hk, rfl, rfl, hok, hs0, hs1, hb, hX⟩ := hrel
            have HOK : Hid (∀ j (hj : j < ids.length), j < k → idOk ids[j] = true) := hok
            clear hok
            have x1 := hX.cell (i := 1) rfl
            have g2 := HG.out wr hb 2 (by decide)
            have g8 := HG.out wr hb 8 (by decide)
            dsimp only [errG] at g2 g8
            have hlg2 := lt_of_cell g2
            by_cases hlt : k < ids.length
            · have hlt' : (k : Int) < (ids.length : Int) := by omega
              obtain ⟨b, o, rfl, hc0, hc1⟩ := HC.out wr hb k hlt
              have HSN : Hid (lenSum (ids.take (k + 1)) = lenSum (ids.take k) + ids[k].2) := lenSum_snoc ids k hlt
              obtain ⟨x, hx⟩ : ∃ x, ids[k].2 = x := ⟨_, rfl⟩
              obtain ⟨y, hy⟩ : ∃ y : Int, ((ids[k].1 : Nat) : Int) = y := ⟨_, rfl⟩
              obtain ⟨t, ht⟩ : ∃ t, lenSum (ids.take k) = t := ⟨_, rfl⟩
              have HOX : Hid (idOk ids[k] = decide (1 ≤ x ∧ x ≤ 64)) := by show _ = _; rw [← hx]; rfl
              rw [hx] at hc1 HSN
              rw [hy] at hc0
              rw [ht] at HSN hs0 hs1
              rw [ht]
              clear hx ht hy
              have hal : Below wr.heap.size wr (wr.alloc (.cells #[.int .u32 y, .int .i64 x] 37)) := (Below.refl _ wr).alloc (Nat.le_refl _) _
              by_cases hx1 : x < 1
              · have HB : Hid (firstBad 0 ids = some k) := by
                  have := firstBad_at ids 0 k hlt (fun j hj => HOK.out j (by omega) hj) (by rw [HOX.out]; simp; omega)
                  rwa [Nat.zero_add] at this
                have HR : Hid (recFault nm.data.toList len ids = (3, (k : Int))) := recFault_shape H1.out H2.out H3.out HB.out
                go_wp2_with fail
                go_ret
                refine ⟨_, rfl, ?_, (hb.trans (hal.mono hb.size)).alloc (Nat.le_trans hb.size hal.size) _⟩
                rw [HR.out]
                refine .inr (.inr ⟨2, wr.heap.size + 1, 0, (k : Int), by decide, by have := hb.size; omega, rfl, ?_, ?_, rfl⟩)
                · simp
                · simp
              · by_cases hx2 : 64 < x
                · have HB : Hid (firstBad 0 ids = some k) := by
                    have := firstBad_at ids 0 k hlt (fun j hj => HOK.out j (by omega) hj) (by rw [HOX.out]; simp; omega)
                    rwa [Nat.zero_add] at this
                  have HR : Hid (recFault nm.data.toList len ids = (3, (k : Int))) := recFault_shape H1.out H2.out H3.out HB.out
                  go_wp2_with fail
                  go_ret
                  refine ⟨_, rfl, ?_, (hb.trans (hal.mono hb.size)).alloc (Nat.le_trans hb.size hal.size) _⟩
                  rw [HR.out]
                  refine .inr (.inr ⟨2, wr.heap.size + 1, 0, (k : Int), by decide, by have := hb.size; omega, rfl, ?_, ?_, rfl⟩)
                  · simp
                  · simp
                · go_wp2_with fail
                  go_roundw
                  case rel => exact ⟨k + 1, by omega, by go_num, by rw [HSN.out], fun j hj h => by
                    by_cases e : j = k
                    · subst e; rw [HOX.out]; simp; omega
                    · exact HOK.out j hj (by omega), by rw [HSN.out]; omega, by rw [HSN.out]; omega, hb.trans (hal.mono hb.size), hX.next hal⟩
                  case measure => simp [intOf]; omega
            · have hge : (ids.length : Int) ≤ (k : Int) := by omega
              have hall : ids.take k = ids := List.take_of_length_le (by omega)
              rw [hall] at hs0 hs1 ⊢
              have HB : Hid (firstBad 0 ids = none) := firstBad_none ids 0 (fun j hj => HOK.out j hj (by omega))
              obtain ⟨t, ht⟩ : ∃ t, lenSum ids = t := ⟨_, rfl⟩
              have HLS : Hid (lenSum ids = t) := ht
              rw [ht] at hs0 hs1 ⊢
              clear ht hall
              by_cases hsum : t = len
              · have HR : Hid (recFault nm.data.toList len ids = (0, -1)) := recFault_fine H1.out H2.out H3.out HB.out (by rw [HLS.out]; exact hsum)
                have hq : (t == len) = true := by rw [beq_iff_eq]; exact hsum
                have hq2 : (t != len) = false := by rw [bne, hq]; rfl
                clear hsum
                go_wp2_with fail
                go_ret
                exact ⟨_, rfl, by rw [HR.out]; exact ErrIn.mkNil _ _ a, hb⟩
              · have HR : Hid (recFault nm.data.toList len ids = (9, -1)) := recFault_sum H1.out H2.out H3.out HB.out (by rw [HLS.out]; exact hsum)
                have hq : (t == len) = false := by rw [beq_eq_false_iff_ne]; exact hsum
                have hq2 : (t != len) = true := by rw [bne, hq]; rfl
                clear hsum
                go_wp2_with fail
                go_ret
                exact ⟨_, rfl, by rw [HR.out]; exact ErrIn.sent _ _ a 8 (by decide) rfl, hb⟩
  · have h1' : isName nm.data.toList = false := by simpa using h1
    rw [h1']
    have HR : Hid (recFault nm.data.toList len ids = (4, -1)) := recFault_name len ids h1'
    clear h1 h1'
    go_wp2_with fail
    go_ret
    exact ⟨_, rfl, by rw [HR.out]; exact ErrIn.sent _ _ a 3 (by decide) rfl, hb⟩
end Go.Proofs.YtcbcjefefmbccaaDoor
namespace Go.Proofs.YtcbcjefefmbccaaDoor
open Go.RowKit

/- The first piece that has another ID. -/
def firstOdd : Nat → List (List UInt8) → List (Nat × Int) → Option Nat
  | i, p :: l, x :: r => if idOfL p = x then firstOdd (i + 1) l r else some i
  | _, _, _ => none
def joinOf (nm : List UInt8) (len : Int) (p : Nat) (ids : List (Nat × Int)) (ls : List (List UInt8)) : List UInt8 × (Int × Int) :=
  if recFault nm len ids ≠ (0, -1) then ([], recFault nm len ids) else if ls.length ≠ ids.length then ([], (3, -1)) else
    match firstOdd 0 ls ids with
    | some i => ([], (9, (i : Int)))
    | none => if pmore 2166136261 ls.flatten = p then (ls.flatten, (0, -1)) else ([], (9, -1))
theorem recFault_code (nm : List UInt8) (len : Int) (ids : List (Nat × Int)) : recFault nm len ids = (0, -1) ∨ 0 < (recFault nm len ids).1 := by
  unfold recFault
  split
  · exact .inr (by decide)
  · split
    · exact .inr (by decide)
    · split
      · exact .inr (by decide)
      · split
        · exact .inr (by show (0 : Int) < 3; decide)
        · split
          · exact .inl rfl
          · exact .inr (by decide)
theorem recFault_zero {nm : List UInt8} {len : Int} {ids : List (Nat × Int)} (h : recFault nm len ids = (0, -1)) : isName nm = true ∧ (0 ≤ len ∧ len ≤ 4000) ∧ ids.length ≤ 250 ∧ firstBad 0 ids = none ∧ lenSum ids = len := by
  unfold recFault at h
  split at h
  · cases h
  · rename_i h1
    split at h
    · cases h
    · rename_i h2
      split at h
      · cases h
      · rename_i h3
        split at h
        · cases h
        · rename_i h4
          split at h
          · rename_i h5
            exact ⟨by simpa using h1, by omega, by omega, h4, h5⟩
          · cases h
theorem firstOdd_at : ∀ (ls : List (List UInt8)) (ids : List (Nat × Int)) (i k : Nat) (h : k < ls.length) (h' : k < ids.length), (∀ j (hj : j < ls.length) (hj' : j < ids.length), j < k → idOfL ls[j] = ids[j]) → idOfL ls[k] ≠ ids[k] → firstOdd i ls ids = some (i + k)
  | [], _, _, _, h, _, _, _ => by simp at h
  | _ :: _, [], _, _, _, h', _, _ => by simp at h'
  | p :: l, x :: r, i, 0, _, _, _, hb => by
    have hb' : idOfL p ≠ x := hb
    rw [firstOdd, if_neg hb']
    rfl
  | p :: l, x :: r, i, k + 1, h, h', ha, hb => by
    have h0 : idOfL p = x := ha 0 (by simp) (by simp) (by omega)
    rw [firstOdd, if_pos h0, firstOdd_at l r (i + 1) k (by simpa using h) (by simpa using h') (fun j hj hj' hk => by have := ha (j + 1) (by simpa using hj) (by simpa using hj') (by omega); simpa using this) (by simpa using hb)]
    congr 1
    omega
theorem firstOdd_none : ∀ (ls : List (List UInt8)) (ids : List (Nat × Int)) (i : Nat), (∀ j (hj : j < ls.length) (hj' : j < ids.length), idOfL ls[j] = ids[j]) → firstOdd i ls ids = none
  | [], _, _, _ => by simp [firstOdd]
  | _ :: _, [], _, _ => by simp [firstOdd]
  | p :: l, x :: r, i, ha => by
    have h0 : idOfL p = x := ha 0 (by simp) (by simp)
    rw [firstOdd, if_pos h0, firstOdd_none l r (i + 1) (fun j hj hj' => by have := ha (j + 1) (by simpa using hj) (by simpa using hj'); simpa using this)]

/- The recipe's box, the result, and a fault in a block of its own. -/
structure JoinW (w W : World) (nm : ByteArray) (len p : Int) (v : Value) (B : Nat) (c a : Int) : Prop where
  fault : FaultW w W nm len p v
  lo : w.heap.size + 1 < B
  hi : B < W.heap.size
  q0 : W.cell? ⟨B, 0, none⟩ = some (.int .i64 c)
  q1 : W.cell? ⟨B, 1, none⟩ = some (.int .i64 a)
theorem JoinW.next {w W W' : World} {nm : ByteArray} {len p : Int} {v : Value} {B : Nat} {c a : Int} (h : JoinW w W nm len p v B c a) (hb : Below W.heap.size W W') : JoinW w W' nm len p v B c a :=
  ⟨h.fault.next hb, h.lo, Nat.lt_of_lt_of_le h.hi hb.size, (hb.cell (p := ⟨B, 0, none⟩) h.hi).trans h.q0, (hb.cell (p := ⟨B, 1, none⟩) h.hi).trans h.q1⟩
theorem JoinW.new {w W : World} {nm : ByteArray} {len p : Int} {v : Value} (h : FaultW w W nm len p v) (c a : Int) (t : TypeId) : JoinW w (W.alloc (.cells #[.int .i64 c, .int .i64 a] t)) nm len p v W.heap.size c a :=
  ⟨h.next ((Below.refl _ W).alloc (Nat.le_refl _) _), h.size, by simp, new_cell W _ _ rfl rfl, new_cell W _ _ rfl rfl⟩

end Go.Proofs.YtcbcjefefmbccaaDoor
namespace Go.Proofs.YtcbcjefefmbccaaDoor
open Go.RowKit

def cutBy (c : UInt8) : List UInt8 → List (List UInt8)
  | [] => [[]]
  | x :: l => if x = c then [] :: cutBy c l else match cutBy c l with | p :: r => (x :: p) :: r | [] => [[x]]
theorem cutBy_noc (c : UInt8) (l : List UInt8) (h : c ∉ l) : cutBy c l = [l] := by
  induction l with
  | nil => rfl
  | cons x l ih =>
    simp only [List.mem_cons, not_or] at h
    rw [cutBy, if_neg (fun e => h.1 e.symm), ih h.2]
theorem cutBy_split (c : UInt8) (p r : List UInt8) (h : c ∉ p) : cutBy c (p ++ c :: r) = p :: cutBy c r := by
  induction p with
  | nil => rw [List.nil_append, cutBy, if_pos rfl]
  | cons x p ih =>
    simp only [List.mem_cons, not_or] at h
    rw [List.cons_append, cutBy, if_neg (fun e => h.1 e.symm), ih h.2]
abbrev strV (p : List UInt8) : Value := .string ⟨p.toArray⟩
theorem extract_str (s : ByteArray) (a b : Nat) : s.extract a b = ⟨((s.data.toList.drop a).take (b - a)).toArray⟩ := by
  apply ByteArray.ext
  apply Array.toList_inj.1
  rw [Lib.extract_data]
theorem not_mem_seg (l : List UInt8) (c : UInt8) (f k : Nat) (h : ∀ j, f ≤ j → j < k → l[j]? ≠ some c) : c ∉ (l.drop f).take (k - f) := by
  intro hm
  obtain ⟨i, hi, e⟩ := List.getElem_of_mem hm
  have hi' : i < k - f := by simp at hi; omega
  have := h (f + i) (by omega) (by omega)
  apply this
  have e2 : ((l.drop f).take (k - f))[i]? = some c := by rw [List.getElem?_eq_getElem hi, e]
  rw [List.getElem?_take, if_pos hi', List.getElem?_drop] at e2
  exact e2
/- One more byte: it is not c. -/
theorem seg_next (l : List UInt8) (c : UInt8) (f k : Nat) (h : ∀ j, f ≤ j → j < k → l[j]? ≠ some c) (hk : l[k]? ≠ some c) : ∀ j, f ≤ j → j < k + 1 → l[j]? ≠ some c := by
  intro j h1 h2
  by_cases e : j = k
  · subst e; exact hk
  · exact h j h1 (by omega)
/- One more piece. -/
theorem cut_next (l : List UInt8) (c : UInt8) (ps : List (List UInt8)) (f k : Nat) (hf : f ≤ k) (hc : cutBy c l = ps ++ cutBy c (l.drop f)) (h : ∀ j, f ≤ j → j < k → l[j]? ≠ some c) (hk : l[k]? = some c) :
    cutBy c l = (ps ++ [(l.drop f).take (k - f)]) ++ cutBy c (l.drop (k + 1)) := by
  have e : l.drop f = (l.drop f).take (k - f) ++ c :: l.drop (k + 1) := by
    have h1 := List.take_append_drop (k - f) (l.drop f)
    rw [List.drop_drop, show f + (k - f) = k by omega] at h1
    have hkl : k < l.length := (List.getElem?_eq_some_iff.1 hk).1
    have h2 : l.drop k = c :: l.drop (k + 1) := by
      rw [List.drop_eq_getElem_cons hkl]
      rw [List.getElem?_eq_getElem hkl] at hk
      rw [Option.some.inj hk]
    rw [h2] at h1
    exact h1.symm
  rw [hc]
  conv => lhs; rw [e]
  rw [cutBy_split _ _ _ (not_mem_seg l c f k h)]
  simp
theorem cut_last (l : List UInt8) (c : UInt8) (ps : List (List UInt8)) (f k : Nat) (hkl : l.length ≤ k) (hc : cutBy c l = ps ++ cutBy c (l.drop f)) (h : ∀ j, f ≤ j → j < k → l[j]? ≠ some c) :
    cutBy c l = ps ++ [l.drop f] := by
  rw [hc, cutBy_noc]
  have := not_mem_seg l c f k h
  rw [List.take_of_length_le (by rw [List.length_drop]; omega)] at this
  exact this

theorem own_ge {w : World} {base : Nat} {e : TypeId} {size : Nat} {v : Value} {n : Nat} {xs : List Value} (h : w.ownsRow base e size v n xs) {j : Nat} (hj : v.ownBlock = some j) : base ≤ j := by
  obtain ⟨_, h⟩ := h
  rcases h with ⟨rfl, _⟩ | ⟨g, cap, cur, rfl, hg, _⟩
  · simp [Value.ownBlock] at hj
  · simp [Value.ownBlock] at hj; omega
theorem infoStr : (Tryd.prog.info? 9).map (fun i => (i.zero, i.size, i.bytes)) = some (some (.string ⟨#[]⟩), 1, 16) := by kernel_rfl

set_option maxHeartbeats 2000000 in
theorem cut_any (s : ByteArray) (c : UInt8) (w : World) (hs : s.size ≤ 50000) :
    Calls Tryd.prog 61 #[.string s, .int .u8 c.toNat] w fun e w' => ∃ v, e = .returned v ∧ w'.ownsRow w.heap.size 9 1 v (cutBy c s.data.toList).length ((cutBy c s.data.toList).map strV) ∧ Below w.heap.size w w' := by
  obtain ⟨i0, hi, hz0, hz1, hz2⟩ := info_parts infoStr
  go_enter Tryd.func61, Tryd.ntmps61
  go_wp2
  go_loopw [5, 6, 7] (fun v q i wr => ∃ (k f : Nat) (ps : List (List UInt8)), k ≤ s.size ∧ f ≤ k ∧ i = .int .i64 k ∧ q = .int .i64 f ∧ cutBy c s.data.toList = ps ++ cutBy c (s.data.toList.drop f) ∧ (∀ j, f ≤ j → j < k → s.data.toList[j]? ≠ some c) ∧ ps.length ≤ k ∧ wr.ownsRow w.heap.size 9 1 v ps.length (ps.map strV) ∧ Below w.heap.size w wr) (fun _ _ i _ => s.size - (intOf i).toNat)
  case atStart => exact ⟨0, 0, [], Nat.zero_le _, Nat.le_refl _, rfl, rfl, by simp, fun j h1 h2 => by omega, Nat.le_refl _, World.ownsRow_nil _ _ _ _, Below.refl _ _⟩
  case round =>
    obtain ⟨k, f, ps, hk, hf, rfl, rfl, hcut, hno, hlen, hown, hbw⟩ := hrel
    have HC : Hid (cutBy c s.data.toList = ps ++ cutBy c (s.data.toList.drop f)) := hcut
    have HN : Hid (∀ j, f ≤ j → j < k → s.data.toList[j]? ≠ some c) := hno
    clear hcut hno
    by_cases hlt : k < s.size
    · have hget : s.data.toList[k]? = some s[k] := by rw [List.getElem?_eq_getElem (by rw [Array.length_toList]; exact hlt)]; rfl
      have HG : Hid (s.data.toList[k]? = some s[k]) := hget
      clear hget
      by_cases hc : s[k] = c
      · have hq : ((s[k].toNat : Int) == (c.toNat : Int)) = true := by rw [hc]; simp
        have HQ : Hid (s[k] = c) := hc
        clear hc
        go_wp2_with (at_builtin; refine wpList_append_own _ rfl (.tmp 19) (.tmp 24) 54 rfl w.heap.size 9 i0 (.string ⟨#[]⟩) 1 16 Tryd.underlying54 hi hz0 hz1 hz2 rfl (by decide) _ _ _ rfl (hown.alloc _) ⟨wr.heap.size, 0, none⟩ 1 1 [.string (s.extract f k)] rfl rfl ?c1 ?c2 ?c3 ?c4 ?c5 ?_)
        case c1 =>
          intro j u hj
          match j, hj with
          | 0, hj => simp at hj; subst hj; simp [Addr.add]
        case c2 => intro u hu; simp at hu; subst hu; rfl
        case c3 => unfold maxLen; omega
        case c4 => omega
        case c5 => have := hbw.size; simp; omega
        intro v' w1 hown' hgrow _
        have hbw' : Below w.heap.size w w1 := (hbw.alloc hbw.size _).grown hgrow (by have := hbw.size; simp; omega) (fun j e => own_ge hown e)
        clear hgrow hown
        rw [extract_str] at hown'
        go_wp2_with fail
        go_roundw
        case rel => exact ⟨k + 1, k + 1, ps ++ [(s.data.toList.drop f).take (k - f)], by omega, Nat.le_refl _, by go_num, by go_num, cut_next _ _ _ _ _ hf HC.out HN.out (HG.out.trans (by rw [HQ.out])), fun j h1 h2 => by omega, by simp; omega, by simpa using hown', hbw'⟩
        case measure => simp [intOf]; omega
      · have hq : ((s[k].toNat : Int) == (c.toNat : Int)) = false := by
          simp
          intro e
          exact hc (UInt8.toNat_inj.1 (by omega))
        have HQ : Hid (s[k] ≠ c) := hc
        clear hc
        go_wp2_with fail
        go_roundw
        case rel => exact ⟨k + 1, f, ps, by omega, by omega, by go_num, rfl, HC.out, seg_next _ _ _ _ HN.out (by rw [HG.out]; intro e; exact HQ.out (Option.some.inj e)), by omega, hown, hbw⟩
        case measure => simp [intOf]; omega
    · go_wp2_with (at_builtin; refine wpList_append_own _ rfl (.tmp 28) (.tmp 32) 54 rfl w.heap.size 9 i0 (.string ⟨#[]⟩) 1 16 Tryd.underlying54 hi hz0 hz1 hz2 rfl (by decide) _ _ _ rfl (hown.alloc _) ⟨wr.heap.size, 0, none⟩ 1 1 [.string (s.extract f s.size)] rfl rfl ?c1 ?c2 ?c3 ?c4 ?c5 ?_)
      case c1 =>
        intro j u hj
        match j, hj with
        | 0, hj => simp at hj; subst hj; simp [Addr.add]
      case c2 => intro u hu; simp at hu; subst hu; rfl
      case c3 => unfold maxLen; omega
      case c4 => omega
      case c5 => have := hbw.size; simp; omega
      intro v' w1 hown' hgrow _
      have hbw' : Below w.heap.size w w1 := (hbw.alloc hbw.size _).grown hgrow (by have := hbw.size; simp; omega) (fun j e => own_ge hown e)
      clear hgrow hown
      rw [extract_str] at hown'
      go_wp2_with fail
      go_ret
      refine ⟨_, rfl, ?_, hbw'⟩
      rw [cut_last _ _ ps f k (by rw [Array.length_toList]; have : s.data.size = s.size := rfl; omega) HC.out HN.out]
      rw [List.take_of_length_le (by rw [List.length_drop, Array.length_toList]; exact Nat.le_refl _)] at hown'
      simpa using hown'
end Go.Proofs.YtcbcjefefmbccaaDoor
