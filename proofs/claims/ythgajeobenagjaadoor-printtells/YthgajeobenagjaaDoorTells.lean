/-
  Own text. The walk of PrintTells: it returns true at every argument, where strconv's table, the sentinels and errors' handle lie as the program's text lays them.
-/
import Derived.Test.YthgajeobenagjaaDoorPrinted
import Derived.Test.YthgajeobenagjaaDoorReadID
import Derived.Test.YthgajeobenagjaaDoorCoded
namespace Go.Proofs.YthgajeobenagjaaDoor
open Go.RowKit

theorem has_next {W W' : World} {B b o : Nat} {v : Value} (h : W.cell? ⟨b, o, none⟩ = some v) (hb : Below B W W') (hB : W.heap.size ≤ B) : W'.cell? ⟨b, o, none⟩ = some v := by
  rw [hb.cell (p := ⟨b, o, none⟩) (Nat.lt_of_lt_of_le (lt_of_cell h) hB)]; exact h
theorem has_alloc {W : World} {b o : Nat} {v : Value} (h : W.cell? ⟨b, o, none⟩ = some v) (x : Obj) : (W.alloc x).cell? ⟨b, o, none⟩ = some v := by
  rw [World.cell?_alloc_lt _ _ ⟨b, o, none⟩ (lt_of_cell h)]; exact h

/- The text of an ID, whatever its length. -/
def textOf (n : Nat) (l : Int) : ByteArray := if l < 0 then ⟨#[]⟩ else ⟨(idText n l.toNat).toArray⟩
theorem text_all (n : Nat) (hn : n < 4294967296) (l : Int) (hl : l ≤ 9223372036854775807) (w : World) (ht : Pow10 w) :
    Calls Tryd.prog 14 #[idV n l] w fun e w' => e = .returned (.string (textOf n l)) ∧ Below w.heap.size w w' := by
  unfold textOf
  by_cases h : l < 0
  · rw [if_pos h]; exact text_neg n l h w
  · rw [if_neg h]
    have := text_any n l.toNat hn (by omega) w ht
    rw [Int.toNat_of_nonneg (by omega)] at this
    exact this
theorem idText_all (n : Nat) (hn : n < 4294967296) (l : Int) (hl : l ≤ 9223372036854775807) (w : World) :
    Calls Tryd.prog 19 #[idV n l] w fun e w' => e = .returned (.string (textOf n l)) ∧ Below w.heap.size w w' := by
  unfold textOf
  by_cases h : l < 0
  · rw [if_pos h]; exact idText_neg n l h w
  · rw [if_neg h]
    have := idText_any n l.toNat hn (by omega) w
    rw [Int.toNat_of_nonneg (by omega)] at this
    exact this

set_option maxHeartbeats 4000000 in
theorem tells_long (s t : ByteArray) (n a1 l1 a2 l2 : Int) (v : Value) (w : World) (hv : w.cell? ⟨0, 0, none⟩ = some v) (ht : Pow10 w) (h : 500 < s.size ∨ (s.size ≤ 500 ∧ 40 < t.size)) :
    Calls Tryd.prog 5 #[.string s, .int .u32 n, idV a1 l1, idV a2 l2, .string t] w fun e w' => e = .returned (.bool true) ∧ Below w.heap.size w w' := by
  rcases h with h | ⟨h1, h⟩
  all_goals
    go_enter Tryd.func5, Tryd.ntmps5
    go_wp2_with fail
    refine (printed_any v _ (has_alloc (has_alloc hv _) _) (ht.below (((Below.refl _ _).alloc (Nat.le_refl _) _).alloc (by simp) _) (Nat.le_refl _))).mono ?_
    rintro e w1 ⟨rfl, hb1⟩
    go_wp2_with fail
    go_ret
    exact ⟨rfl, (((Below.refl _ _).alloc (Nat.le_refl _) _).alloc (by simp) _).trans (hb1.mono (by simp; omega))⟩

set_option maxHeartbeats 4000000 in
theorem tells_walk (s t : ByteArray) (hs : s.size ≤ 500) (htl : t.size ≤ 40) (n a1 : Nat) (hn : n < 4294967296) (ha1 : a1 < 4294967296) (l1 : Int) (hl1 : l1 ≤ 9223372036854775807) (a2 l2 : Int) (aE : Nat → Addr) (w : World) (hE : ErrW w aE) (ht : Pow10 w) :
    Calls Tryd.prog 5 #[.string s, .int .u32 n, idV a1 l1, idV a2 l2, .string t] w fun e w' => e = .returned (.bool true) ∧ Below w.heap.size w w' := by
  have HP : Hid (∀ w' B, Below B w w' → w.heap.size ≤ B → Pow10 w') := fun w' B hb hB => ht.below hb hB
  have HE : Hid (∀ w', Below w.heap.size w w' → ErrW w' aE) := fun w' hb => hE.below hb (Nat.le_refl _)
  have hv := hE.glob 0 (by omega)
  simp only [errG] at hv
  have hz : s.size ≤ maxLen := by unfold maxLen; omega
  have hz2 : t.size ≤ maxLen := by unfold maxLen; omega
  have HZ : Hid (s.size ≤ maxLen) := hz
  have HZ2 : Hid (t.size ≤ maxLen) := hz2
  have HT : Hid _ := fun W hp => text_all a1 ha1 l1 hl1 W hp
  have HT2 : Hid _ := fun W => idText_all a1 ha1 l1 hl1 W
  have HM : Hid (n < 4294967296) := hn
  clear hE ht hz hz2 hn ha1 hl1
  generalize textOf a1 l1 = tv at *
  go_enter Tryd.func5, Tryd.ntmps5
  go_wp2_with fail
  refine (printed_any _ _ (has_alloc (has_alloc hv _) _) (HP.out _ _ (((Below.refl _ _).alloc (Nat.le_refl _) _).alloc (by simp) _) (Nat.le_refl _))).mono ?_
  rintro e w1 ⟨rfl, hb1⟩
  have hbw : Below w.heap.size w w1 := (((Below.refl _ _).alloc (Nat.le_refl _) _).alloc (by simp) _).trans (hb1.mono (by simp; omega))
  have pa0 : w1.cell? ⟨w.heap.size, 0, none⟩ = some (.int .u32 a1) := has_next (by rw [World.cell?_alloc_lt _ _ ⟨w.heap.size, 0, none⟩ (by simp)]; simp) hb1 (Nat.le_refl _)
  have pa1 : w1.cell? ⟨w.heap.size, 1, none⟩ = some (.int .i64 l1) := has_next (by rw [World.cell?_alloc_lt _ _ ⟨w.heap.size, 1, none⟩ (by simp)]; simp) hb1 (Nat.le_refl _)
  have pb0 : w1.cell? ⟨w.heap.size + 1, 0, none⟩ = some (.int .u32 a2) := has_next (by simp) hb1 (Nat.le_refl _)
  have pb1 : w1.cell? ⟨w.heap.size + 1, 1, none⟩ = some (.int .i64 l2) := has_next (by simp) hb1 (Nat.le_refl _)
  clear hb1 hv
  have h500 : ¬ (500 : Int) < s.size := by omega
  have h40 : ¬ (40 : Int) < t.size := by omega
  go_wp2_with fail
  go_region_with (first
    | (go_at_call 12; refine (of_any s _ HZ.out).mono ?_; rintro e wx ⟨rfl, hwx⟩; subst hwx)
    | (go_at_call 15; refine (printOf_any s _ HZ.out).mono ?_; rintro e wx ⟨rfl, hwx⟩; subst hwx)
    | (go_at_call 11; refine (more_any n HM.out s _ HZ.out).mono ?_; rintro e wx ⟨rfl, hwx⟩; subst hwx)
    | (go_at_call 16; refine (printFrom_any n HM.out s _ HZ.out).mono ?_; rintro e wx ⟨rfl, hwx⟩; subst hwx)
    | (go_at_call 17; refine (id_any s _ HZ.out).mono ?_; rintro e w2 ⟨rfl, hb2⟩; have hbw2 := hbw.trans (((Below.refl _ _).drew.trans (hb2.mono (Nat.le_refl _))).mono hbw.size); have qa0 := has_next pa0 ((Below.refl _ _).drew.trans hb2) (Nat.le_refl _); have qa1 := has_next pa1 ((Below.refl _ _).drew.trans hb2) (Nat.le_refl _); have qb0 := has_next pb0 ((Below.refl _ _).drew.trans hb2) (Nat.le_refl _); have qb1 := has_next pb1 ((Below.refl _ _).drew.trans hb2) (Nat.le_refl _))
    | (go_at_call 18; refine (idOf_any s _ HZ.out).mono ?_; rintro e w3 ⟨rfl, hb3⟩; have hbw3 := hbw2.trans (hb3.mono hbw2.size); have ra0 := has_next qa0 hb3 (Nat.le_refl _); have ra1 := has_next qa1 hb3 (Nat.le_refl _); have rb0 := has_next qb0 hb3 (Nat.le_refl _); have rb1 := has_next qb1 hb3 (Nat.le_refl _))
    | (go_at_call 14; refine (HT.out _ (HP.out _ _ hbw3 (Nat.le_refl _))).mono ?_; rintro e w4 ⟨rfl, hb4⟩; have hbw4 := hbw3.trans (hb4.mono hbw3.size); have sa0 := has_next ra0 hb4 (Nat.le_refl _); have sa1 := has_next ra1 hb4 (Nat.le_refl _); have sb0 := has_next rb0 hb4 (Nat.le_refl _); have sb1 := has_next rb1 hb4 (Nat.le_refl _))
    | (go_at_call 19; refine (HT2.out _).mono ?_; rintro e w5 ⟨rfl, hb5⟩; have hbw5 := hbw4.trans (hb5.mono hbw4.size); have ta0 := has_next sa0 hb5 (Nat.le_refl _); have ta1 := has_next sa1 hb5 (Nat.le_refl _); have tb0 := has_next sb0 hb5 (Nat.le_refl _); have tb1 := has_next sb1 hb5 (Nat.le_refl _)))
  all_goals
    have HL : Hid (∃ Lb, (if (a1 : Int) = a2 then decide (l1 < l2) else decide ((a1 : Int) < a2)) = Lb) := ⟨_, rfl⟩
    clear pa0 pa1 pb0 pb1 qa0 qa1 qb0 qb1 ra0 ra1 rb0 rb1 sa0 sa1 sb0 sb1 HT HT2 HZ HM HP hb2 hb3 hb4 hb5 hbw hbw2 hbw3 hbw4
    go_wp2_with fail
    refine (isLess_any _ _ _ _ _).mono ?_
    rintro e w6 ⟨rfl, hb6⟩
    obtain ⟨Lb, hL⟩ := HL.out
    rw [hL]
    have HLb : Hid ((if (a1 : Int) = a2 then decide (l1 < l2) else decide ((a1 : Int) < a2)) = Lb) := hL
    have hLL : (Lb == Lb) = true := by simp
    have hbw6 := hbw5.trans (hb6.mono hbw5.size)
    have ua0 := has_next ta0 hb6 (Nat.le_refl _)
    have ua1 := has_next ta1 hb6 (Nat.le_refl _)
    have ub0 := has_next tb0 hb6 (Nat.le_refl _)
    have ub1 := has_next tb1 hb6 (Nat.le_refl _)
    clear hL HL ta0 ta1 tb0 tb1 hb6 hbw5
    go_wp2_with fail
    refine (read_any t HZ2.out (sentV aE 0) _ ((HE.out _ hbw6).glob 0 (by omega))).mono ?_
    rintro e w7 ⟨rfl, hb7⟩
    have hbw7 := hbw6.trans (hb7.mono hbw6.size)
    have va0 := has_next ua0 hb7 (Nat.le_refl _)
    have va1 := has_next ua1 hb7 (Nat.le_refl _)
    have vb0 := has_next ub0 hb7 (Nat.le_refl _)
    have vb1 := has_next ub1 hb7 (Nat.le_refl _)
    clear ua0 ua1 ub0 ub1 hb7 hbw6
    generalize hoid : idRead t.data.toList = oid
    have HO : Hid (idRead t.data.toList = oid) := hoid
    clear hoid
    cases oid with
    | none =>
      unfold readRes
      go_wp2_with fail
      refine (readID_any t (by omega) _).mono ?_
      rintro e w8 ⟨rfl, hb8⟩
      rw [refRead_eq, HO.out]
      unfold refRes
      have hbx := (hbw7.alloc hbw7.size (.cells #[.int .u32 0, .int .i64 0] 37))
      have hbw8 := hbx.trans (hb8.mono hbx.size)
      have xa0 := has_next (has_alloc va0 (.cells #[.int .u32 0, .int .i64 0] 37)) hb8 (Nat.le_refl _)
      have xa1 := has_next (has_alloc va1 (.cells #[.int .u32 0, .int .i64 0] 37)) hb8 (Nat.le_refl _)
      have xb0 := has_next (has_alloc vb0 (.cells #[.int .u32 0, .int .i64 0] 37)) hb8 (Nat.le_refl _)
      have xb1 := has_next (has_alloc vb1 (.cells #[.int .u32 0, .int .i64 0] 37)) hb8 (Nat.le_refl _)
      have xx0 : w8.cell? ⟨w7.heap.size, 0, none⟩ = some (.int .u32 0) := has_next (by simp) hb8 (Nat.le_refl _)
      have xx1 : w8.cell? ⟨w7.heap.size, 1, none⟩ = some (.int .i64 0) := has_next (by simp) hb8 (Nat.le_refl _)
      have xa0' := fun o => has_alloc xa0 o
      have xa1' := fun o => has_alloc xa1 o
      have xb0' := fun o => has_alloc xb0 o
      have xb1' := fun o => has_alloc xb1 o
      clear va0 va1 vb0 vb1 hb8 hbw7 hbx
      go_wp2_with fail
      refine (less_any _ _ _ _ _).mono ?_
      rintro e w9 ⟨rfl, hb9⟩
      rw [HLb.out]
      have hby := (hbw8.alloc hbw8.size (.cells #[.int .u32 0, .int .i64 0] 37))
      have hbw9 := hby.trans (hb9.mono hby.size)
      have yx0 := has_next (has_alloc xx0 (.cells #[.int .u32 0, .int .i64 0] 37)) hb9 (Nat.le_refl _)
      have yx1 := has_next (has_alloc xx1 (.cells #[.int .u32 0, .int .i64 0] 37)) hb9 (Nat.le_refl _)
      have yy0 : w9.cell? ⟨w8.heap.size, 0, none⟩ = some (.int .u32 0) := has_next (by simp) hb9 (Nat.le_refl _)
      have yy1 : w9.cell? ⟨w8.heap.size, 1, none⟩ = some (.int .i64 0) := has_next (by simp) hb9 (Nat.le_refl _)
      clear xa0 xa1 xb0 xb1 xx0 xx1 xa0' xa1' xb0' xb1' hb9 hbw8 hby
      go_wp2_with fail
      refine (coded_sent aE 0 (by omega) _ (by simp) _ (HE.out _ hbw9)).mono ?_
      rintro e w10 ⟨rfl, hb10⟩
      have hbw10 := hbw9.trans (hb10.mono hbw9.size)
      have zx0 := has_next yx0 hb10 (Nat.le_refl _)
      have zx1 := has_next yx1 hb10 (Nat.le_refl _)
      have zy0 := has_next yy0 hb10 (Nat.le_refl _)
      have zy1 := has_next yy1 hb10 (Nat.le_refl _)
      clear yx0 yx1 yy0 yy1 hb10
      go_wp2_with fail
      go_ret
      exact ⟨rfl, hbw10⟩
    | some r =>
      unfold readRes
      go_wp2_with fail
      refine (readID_any t (by omega) _).mono ?_
      rintro e w8 ⟨rfl, hb8⟩
      rw [refRead_eq, HO.out]
      unfold refRes
      have hbx := (hbw7.alloc hbw7.size (.cells #[.int .u32 (r.1 : Int), .int .i64 (r.2 : Int)] 37))
      have hbw8 := hbx.trans (hb8.mono hbx.size)
      have xa0 := has_next (has_alloc va0 (.cells #[.int .u32 (r.1 : Int), .int .i64 (r.2 : Int)] 37)) hb8 (Nat.le_refl _)
      have xa1 := has_next (has_alloc va1 (.cells #[.int .u32 (r.1 : Int), .int .i64 (r.2 : Int)] 37)) hb8 (Nat.le_refl _)
      have xb0 := has_next (has_alloc vb0 (.cells #[.int .u32 (r.1 : Int), .int .i64 (r.2 : Int)] 37)) hb8 (Nat.le_refl _)
      have xb1 := has_next (has_alloc vb1 (.cells #[.int .u32 (r.1 : Int), .int .i64 (r.2 : Int)] 37)) hb8 (Nat.le_refl _)
      have xx0 : w8.cell? ⟨w7.heap.size, 0, none⟩ = some (.int .u32 (r.1 : Int)) := has_next (by simp) hb8 (Nat.le_refl _)
      have xx1 : w8.cell? ⟨w7.heap.size, 1, none⟩ = some (.int .i64 (r.2 : Int)) := has_next (by simp) hb8 (Nat.le_refl _)
      have xa0' := fun o => has_alloc xa0 o
      have xa1' := fun o => has_alloc xa1 o
      have xb0' := fun o => has_alloc xb0 o
      have xb1' := fun o => has_alloc xb1 o
      clear va0 va1 vb0 vb1 hb8 hbw7 hbx
      go_wp2_with fail
      refine (less_any _ _ _ _ _).mono ?_
      rintro e w9 ⟨rfl, hb9⟩
      rw [HLb.out]
      have hby := (hbw8.alloc hbw8.size (.cells #[.int .u32 (r.1 : Int), .int .i64 (r.2 : Int)] 37))
      have hbw9 := hby.trans (hb9.mono hby.size)
      have yx0 := has_next (has_alloc xx0 (.cells #[.int .u32 (r.1 : Int), .int .i64 (r.2 : Int)] 37)) hb9 (Nat.le_refl _)
      have yx1 := has_next (has_alloc xx1 (.cells #[.int .u32 (r.1 : Int), .int .i64 (r.2 : Int)] 37)) hb9 (Nat.le_refl _)
      have yy0 : w9.cell? ⟨w8.heap.size, 0, none⟩ = some (.int .u32 (r.1 : Int)) := has_next (by simp) hb9 (Nat.le_refl _)
      have yy1 : w9.cell? ⟨w8.heap.size, 1, none⟩ = some (.int .i64 (r.2 : Int)) := has_next (by simp) hb9 (Nat.le_refl _)
      clear xa0 xa1 xb0 xb1 xx0 xx1 xa0' xa1' xb0' xb1' hb9 hbw8 hby
      go_wp2_with fail
      refine (coded_nil _ rfl _).mono ?_
      rintro e w10 ⟨rfl, hw10⟩
      subst hw10
      go_wp2_with fail
      go_ret
      exact ⟨rfl, hbw9⟩
end Go.Proofs.YthgajeobenagjaaDoor
