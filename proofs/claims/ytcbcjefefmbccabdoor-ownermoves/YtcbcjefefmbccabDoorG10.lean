/-
  Own text. Texts of IDs: print.Text and the document's IDText by contracts. Condition of print.Text: strconv's table of powers of ten lies as the program's text lays it.
  Own text. Scores by contracts: owner.Score and the document's ScoreOf, at any ID and any node that is not below 0.
-/
import Derived.Test.YtcbcjefefmbccabDoorG09
import Derived.Deep.RegionWith
import Derived.Lib.SmallJoins
import Derived.Lib.ItoaMem
import Derived.Test.YtcbcjefefmbccabDoorG05
import Derived.Test.YtcbcjefefmbccabDoorG08
import Derived.Test.YtcbcjefefmbccabDoorG03
import Derived.Test.YtcbcjefefmbccabDoorG06
namespace Go.Proofs.YtcbcjefefmbccabDoor
open Go.RowKit

theorem bcell {B : Nat} {W w1 : World} (hb : Below B W w1) : (∀ b o, b < B → w1.cell? ⟨b, o, none⟩ = W.cell? ⟨b, o, none⟩) ∧ (∀ b o, b < B → w1.frozen? ⟨b, o, none⟩ = W.frozen? ⟨b, o, none⟩) :=
  ⟨fun b o h => hb.cell (p := ⟨b, o, none⟩) h, fun b o h => hb.frozen (p := ⟨b, o, none⟩) h⟩

theorem idText_str (n l : Nat) : (⟨(hexLast n 8).toArray⟩ : ByteArray) ++ ⟨#[45]⟩ ++ ⟨(Lib.decDigits l).toArray⟩ = ⟨(idText n l).toArray⟩ := by
  have h : (⟨#[45]⟩ : ByteArray) = ⟨[45].toArray⟩ := rfl
  rw [h, str_append, str_append]
  simp [idText]
theorem idText_neg (n l : Int) (hl : l < 0) (w : World) :
    Calls Tryd.prog 35 #[idV n l] w fun e w' => e = .returned (.string ⟨#[]⟩) ∧ Below w.heap.size w w' := by
  go_enter Tryd.func35, Tryd.ntmps35
  go_wp2
  go_ret
  exact ⟨rfl, (Below.refl _ _).alloc (Nat.le_refl _) _⟩
theorem text_neg (n l : Int) (hl : l < 0) (w : World) :
    Calls Tryd.prog 32 #[idV n l] w fun e w' => e = .returned (.string ⟨#[]⟩) ∧ Below w.heap.size w w' := by
  go_enter Tryd.func32, Tryd.ntmps32
  go_wp2
  go_ret
  exact ⟨rfl, (Below.refl _ _).alloc (Nat.le_refl _) _⟩

set_option maxHeartbeats 2000000 in
theorem idText_any (n l : Nat) (hn : n < 4294967296) (hl : l ≤ 9223372036854775807) (w : World) :
    Calls Tryd.prog 35 #[idV n l] w fun e w' => e = .returned (.string ⟨(idText n l).toArray⟩) ∧ Below w.heap.size w w' := by
  have h0 : ¬ (l : Int) < 0 := by omega
  have hlx := hexLast_length n 8
  have hld := decDigits_le19 l hl
  go_enter Tryd.func35, Tryd.ntmps35
  go_wp2_with fail
  go_region_with (first
    | (go_at_call 48; refine (hexOf_any n hn _).mono ?_; rintro e w1 ⟨rfl, hb1⟩; obtain ⟨hc1, hf1⟩ := bcell hb1)
    | (go_at_call 36; refine (decimal_any l hl _).mono ?_; rintro e w2 ⟨rfl, hb2⟩; obtain ⟨hc2, hf2⟩ := bcell hb2))
  all_goals go_wp2
  all_goals go_ret
  all_goals refine ⟨?_, ?_⟩
  all_goals first
    | (rw [← idText_str]; rfl)
    | exact (((Below.refl _ _).alloc (Nat.le_refl _) _).trans ((Below.drew (Below.refl _ _)).trans (hb1.mono (by simp)))).trans (hb2.mono (by have := hb1.size; simp at this; omega))

theorem below_grow (w : World) (k : Nat) (os : Array Obj) : Below w.heap.size w (Go.Sort.grow (w.drewN k) os) :=
  ⟨rfl, rfl, rfl, by simp [Go.Sort.grow, World.drewN], fun j hj => by
    show ((w.drewN k).heap ++ os)[j]? = _
    have e : (w.drewN k).heap = w.heap := rfl
    rw [e, Array.getElem?_append_left hj]⟩
abbrev Pow10 (w : World) : Prop := Lib.TabIs Tryd.prog w "internal/strconv.uint64pow10" .u64 Lib.pow10Tab
theorem gPow10 : Tryd.prog.globalNamed "internal/strconv.uint64pow10" = some 13 := by kernel_rfl
theorem Pow10.below {B : Nat} {w w' : World} (h : Pow10 w) (hb : Below B w w') (hB : w.heap.size ≤ B) : Pow10 w' := Joins.tab_stays gPow10 h hb hB
theorem itoa_any (l : Nat) (hl : l ≤ 9223372036854775807) (w : World) (ht : Pow10 w) :
    Calls Tryd.prog 33 #[.int .i64 l] w fun e w' => e = .returned (.string ⟨(Lib.decDigits l).toArray⟩) ∧ Below w.heap.size w w' := by
  refine (Tryd.strconv_Itoa l (by omega) (by omega) w ht).mono ?_
  rintro e w' ⟨rfl, k, os, rfl⟩
  exact ⟨by rw [Lib.itoa_nonneg], below_grow w k os⟩

set_option maxHeartbeats 2000000 in
theorem text_any (n l : Nat) (hn : n < 4294967296) (hl : l ≤ 9223372036854775807) (w : World) (ht : Pow10 w) :
    Calls Tryd.prog 32 #[idV n l] w fun e w' => e = .returned (.string ⟨(idText n l).toArray⟩) ∧ Below w.heap.size w w' := by
  have h0 : ¬ (l : Int) < 0 := by omega
  have hlx := hexLast_length n 8
  have hld := decDigits_le19 l hl
  have HP : Hid (∀ w' B, Below B w w' → w.heap.size ≤ B → Pow10 w') := fun w' B hb hB => ht.below hb hB
  clear ht
  go_enter Tryd.func32, Tryd.ntmps32
  go_wp2_with fail
  go_region_with (first
    | (go_at_call 45; refine (hexText_any n hn _).mono ?_; rintro e w1 ⟨rfl, hb1⟩; obtain ⟨hc1, hf1⟩ := bcell hb1)
    | (go_at_call 33; refine (itoa_any l hl _ ?_).mono ?_; exact HP.out _ _ (((Below.refl _ _).alloc (Nat.le_refl _) _).trans ((Below.drew (Below.refl _ _)).trans (hb1.mono (by simp)))) (Nat.le_refl _); rintro e w2 ⟨rfl, hb2⟩; obtain ⟨hc2, hf2⟩ := bcell hb2))
  all_goals go_wp2
  all_goals go_ret
  all_goals refine ⟨?_, ?_⟩
  all_goals first
    | (rw [← idText_str]; rfl)
    | exact (((Below.refl _ _).alloc (Nat.le_refl _) _).trans ((Below.drew (Below.refl _ _)).trans (hb1.mono (by simp)))).trans (hb2.mono (by have := hb1.size; simp at this; omega))
end Go.Proofs.YtcbcjefefmbccabDoor
namespace Go.Proofs.YtcbcjefefmbccabDoor
open Go.RowKit

theorem idText_len (p l : Nat) (hl : l ≤ 9223372036854775807) : (idText p l).length ≤ 30 := by
  unfold idText
  rw [List.length_append, List.length_cons, hexLast_length]
  have := decDigits_le19 l hl
  omega
theorem idTx_len (i : Nat × Int) (hl : i.2 ≤ 9223372036854775807) : (idTx i.1 i.2).length ≤ 30 := by
  unfold idTx
  split
  · simp
  · exact idText_len _ _ (by omega)
theorem text_all (i : Nat × Int) (hp : i.1 < 4294967296) (hl : i.2 ≤ 9223372036854775807) (w : World) (ht : Pow10 w) :
    Calls Tryd.prog 32 #[idV (i.1 : Nat) i.2] w fun e w' => e = .returned (.string ⟨(idTx i.1 i.2).toArray⟩) ∧ Below w.heap.size w w' := by
  by_cases h : i.2 < 0
  · have e : idTx i.1 i.2 = [] := by unfold idTx; rw [if_pos h]
    rw [e]
    exact text_neg _ _ h w
  · have e : idTx i.1 i.2 = idText i.1 i.2.toNat := by unfold idTx; rw [if_neg h]
    rw [e]
    have e2 : i.2 = ((i.2.toNat : Nat) : Int) := by omega
    rw [e2, show (((i.2.toNat : Nat) : Int).toNat) = i.2.toNat by omega]
    exact text_any _ _ hp (by omega) w ht
theorem refText_all (i : Nat × Int) (hp : i.1 < 4294967296) (hl : i.2 ≤ 9223372036854775807) (w : World) :
    Calls Tryd.prog 35 #[idV (i.1 : Nat) i.2] w fun e w' => e = .returned (.string ⟨(idTx i.1 i.2).toArray⟩) ∧ Below w.heap.size w w' := by
  by_cases h : i.2 < 0
  · have e : idTx i.1 i.2 = [] := by unfold idTx; rw [if_pos h]
    rw [e]
    exact idText_neg _ _ h w
  · have e : idTx i.1 i.2 = idText i.1 i.2.toNat := by unfold idTx; rw [if_neg h]
    rw [e]
    have e2 : i.2 = ((i.2.toNat : Nat) : Int) := by omega
    rw [e2, show (((i.2.toNat : Nat) : Int).toNat) = i.2.toNat by omega]
    exact idText_any _ _ hp (by omega) w
/- The three parts of a score's text. -/
theorem score_str (a d : List UInt8) (ha : a.length ≤ 30) (hd : d.length ≤ 19) (A D : ByteArray) (hA : (⟨a.toArray⟩ : ByteArray) = A) (hD : (⟨d.toArray⟩ : ByteArray) = D) :
    A.size ≤ 30 ∧ D.size ≤ 19 ∧ (A ++ ⟨#[64]⟩).size ≤ 31 ∧ (A ++ ⟨#[64]⟩ ++ D).size ≤ 50 ∧ pmore 2166136261 (A ++ ⟨#[64]⟩ ++ D).data.toList = pmore 2166136261 (a ++ 64 :: d) := by
  subst hA hD
  have h64 : (⟨#[64]⟩ : ByteArray) = ⟨[64].toArray⟩ := rfl
  have hsz : ∀ l : List UInt8, (⟨l.toArray⟩ : ByteArray).size = l.length := fun l => by show l.toArray.size = _; simp
  rw [h64, str_append, str_append, hsz, hsz, hsz, hsz]
  refine ⟨ha, hd, ?_, ?_, ?_⟩
  · simp; omega
  · simp; omega
  · simp
set_option maxHeartbeats 2000000 in
theorem score_any (i : Nat × Int) (hp : i.1 < 4294967296) (hl : i.2 ≤ 9223372036854775807) (n : Int) (hn0 : 0 ≤ n) (hn : n ≤ 9223372036854775807) (w : World) (ht : Pow10 w) :
    Calls Tryd.prog 14 #[.int .i64 n, idV (i.1 : Nat) i.2] w fun e w' => e = .returned (.int .u32 (score i n : Nat)) ∧ Below w.heap.size w w' := by
  have hal := (Below.refl w.heap.size w).alloc (Nat.le_refl _) (.cells #[.int .u32 (i.1 : Nat), .int .i64 i.2] 25)
  have HT := hideN (text_all i hp hl _ (ht.below hal (Nat.le_refl _)))
  have HI : Hid (∀ w2, Below w.heap.size w w2 → Calls Tryd.prog 33 #[.int .i64 n] w2 fun e w' => e = .returned (.string ⟨(Lib.decDigits n.toNat).toArray⟩) ∧ Below w2.heap.size w2 w') := fun w2 hb => by
    have := itoa_any n.toNat (by omega) w2 (ht.below hb (Nat.le_refl _))
    rwa [show ((n.toNat : Nat) : Int) = n by omega] at this
  obtain ⟨A, hA⟩ : ∃ A : ByteArray, (⟨(idTx i.1 i.2).toArray⟩ : ByteArray) = A := ⟨_, rfl⟩
  obtain ⟨D, hD⟩ : ∃ D : ByteArray, (⟨(Lib.decDigits n.toNat).toArray⟩ : ByteArray) = D := ⟨_, rfl⟩
  obtain ⟨hA1, hD1, hA2, hA3, hsum⟩ := score_str (idTx i.1 i.2) (Lib.decDigits n.toNat) (idTx_len i hl) (decDigits_le19 _ (by omega)) A D hA hD
  rw [hA] at HT
  rw [hD] at HI
  have HS : Hid (pmore 2166136261 (A ++ ⟨#[64]⟩ ++ D).data.toList = score i n) := hsum
  have HBA := hideN hal
  clear hA hD hsum ht hal hl hn0 hn hp
  go_enter Tryd.func14, Tryd.ntmps14
  go_wp2_with fail
  refine HT.out.mono ?_
  rintro e w1 ⟨rfl, hb1⟩
  have HB1 : Hid (Below w.heap.size w w1) := HBA.out.trans (hb1.mono HBA.out.size)
  clear hb1
  go_wp2_with fail
  refine (HI.out w1 HB1.out).mono ?_
  rintro e w2 ⟨rfl, hb2⟩
  have HB2 : Hid (Below w.heap.size w w2) := HB1.out.trans (hb2.mono HB1.out.size)
  clear hb2
  go_wp2_with fail
  refine (of_any _ _ ?_).mono ?_
  · unfold maxLen; omega
  rintro e w3 ⟨rfl, rfl⟩
  rw [HS.out]
  go_wp2_with fail
  go_ret
  exact ⟨rfl, HB2.out⟩
set_option maxHeartbeats 2000000 in
theorem refScore_any (i : Nat × Int) (hp : i.1 < 4294967296) (hl : i.2 ≤ 9223372036854775807) (n : Int) (hn0 : 0 ≤ n) (hn : n ≤ 9223372036854775807) (w : World) :
    Calls Tryd.prog 15 #[.int .i64 n, idV (i.1 : Nat) i.2] w fun e w' => e = .returned (.int .u32 (score i n : Nat)) ∧ Below w.heap.size w w' := by
  have hal := (Below.refl w.heap.size w).alloc (Nat.le_refl _) (.cells #[.int .u32 (i.1 : Nat), .int .i64 i.2] 25)
  have HT := hideN (refText_all i hp hl (w.alloc (.cells #[.int .u32 (i.1 : Nat), .int .i64 i.2] 25)))
  have HI : Hid (∀ w2, Calls Tryd.prog 36 #[.int .i64 n] w2 fun e w' => e = .returned (.string ⟨(Lib.decDigits n.toNat).toArray⟩) ∧ Below w2.heap.size w2 w') := fun w2 => by
    have := decimal_any n.toNat (by omega) w2
    rwa [show ((n.toNat : Nat) : Int) = n by omega] at this
  obtain ⟨A, hA⟩ : ∃ A : ByteArray, (⟨(idTx i.1 i.2).toArray⟩ : ByteArray) = A := ⟨_, rfl⟩
  obtain ⟨D, hD⟩ : ∃ D : ByteArray, (⟨(Lib.decDigits n.toNat).toArray⟩ : ByteArray) = D := ⟨_, rfl⟩
  obtain ⟨hA1, hD1, hA2, hA3, hsum⟩ := score_str (idTx i.1 i.2) (Lib.decDigits n.toNat) (idTx_len i hl) (decDigits_le19 _ (by omega)) A D hA hD
  rw [hA] at HT
  rw [hD] at HI
  have HS : Hid (pmore 2166136261 (A ++ ⟨#[64]⟩ ++ D).data.toList = score i n) := hsum
  have HBA := hideN hal
  clear hA hD hsum hal hl hn0 hn hp
  go_enter Tryd.func15, Tryd.ntmps15
  go_wp2_with fail
  refine HT.out.mono ?_
  rintro e w1 ⟨rfl, hb1⟩
  have HB1 : Hid (Below w.heap.size w w1) := HBA.out.trans (hb1.mono HBA.out.size)
  clear hb1
  go_wp2_with fail
  refine (HI.out w1).mono ?_
  rintro e w2 ⟨rfl, hb2⟩
  have HB2 : Hid (Below w.heap.size w w2) := HB1.out.trans (hb2.mono HB1.out.size)
  clear hb2
  go_wp2_with fail
  refine (printOf_any _ _ ?_).mono ?_
  · unfold maxLen; omega
  rintro e w3 ⟨rfl, rfl⟩
  rw [HS.out]
  go_wp2_with fail
  go_ret
  exact ⟨rfl, HB2.out⟩
end Go.Proofs.YtcbcjefefmbccabDoor
