/-
  Own text. Contracts of the library at this program's numbers, each one application of the shelf's own theorem: strconv_Itoa.
  Own text. Texts of IDs: print.Text and the document's IDText by contracts. Condition of print.Text: strconv's table of powers of ten lies as the program's text lays it.
  Own text. Scores by contracts: owner.Score and the document's ScoreOf, at any ID and any node that is not below 0.
  Own text. owner.Of by a contract: whose it is.
-/
import Derived.Shelf.Strconv.Itoa0
import Derived.Shelf.Strconv.Itoa1
import Derived.Shelf.LaysM
import Derived.Shelf.Strconv.Itoa2
import Derived.Shelf.Strconv.Itoa3
import Derived.Test.YtcbcjefefmbccabDoorProg
import Derived.Test.YtcbcjefefmbccabDoorT04
import Derived.Deep.RegionWith
import Derived.Lib.SmallJoins
import Derived.Lib.ItoaMem
import Derived.Test.YtcbcjefefmbccabDoorT02
import Derived.Test.YtcbcjefefmbccabDoorT03
import Derived.Deep.RegionHeld3
namespace Go.Proofs
open Go.Shelf
def Tryd.laysM171_ren : Go.Shelf.Ren := ⟨fun | 171 => 33 | 243 => 46 | 246 => 56 | 283 => 60 | 284 => 61 | 285 => 62 | 286 => 63 | 129 => 65 | 317 => 64 | 318 => 66 | 319 => 67 | 320 => 68 | 337 => 69 | 338 => 70 | n => n, fun | 3 => 3 | 9 => 9 | 2 => 2 | 4 => 4 | 171 => 108 | 0 => 0 | 53 => 109 | 37 => 91 | 5 => 5 | 173 => 112 | 212 => 116 | 51 => 23 | 20 => 20 | 213 => 117 | 46 => 76 | 232 => 120 | 233 => 121 | n => n, fun | 17 => 13 | 18 => 14 | 19 => 15 | n => n⟩
theorem Tryd.laysM171 : Go.Proofs.LaysM.n171 Tryd.prog Tryd.laysM171_ren := {
  mixed := by kernel_rfl
  f129 := Tryd.func65.trans (congrArg some (by kernel_rfl))
  f171 := Tryd.func33.trans (congrArg some (by kernel_rfl))
  f243 := Tryd.func46.trans (congrArg some (by kernel_rfl))
  f246 := Tryd.func56.trans (congrArg some (by kernel_rfl))
  f283 := Tryd.func60.trans (congrArg some (by kernel_rfl))
  f284 := Tryd.func61.trans (congrArg some (by kernel_rfl))
  f285 := Tryd.func62.trans (congrArg some (by kernel_rfl))
  f286 := Tryd.func63.trans (congrArg some (by kernel_rfl))
  f317 := Tryd.func64.trans (congrArg some (by kernel_rfl))
  f318 := Tryd.func66.trans (congrArg some (by kernel_rfl))
  f319 := Tryd.func67.trans (congrArg some (by kernel_rfl))
  f320 := Tryd.func68.trans (congrArg some (by kernel_rfl))
  f337 := Tryd.func69.trans (congrArg some (by kernel_rfl))
  f338 := Tryd.func70.trans (congrArg some (by kernel_rfl))
  t0 := Tryd.underlying0
  a0 := Tryd.isAgg0
  z0 := Tryd.sizeOf0
  v0 := Tryd.zeroValue0
  t2 := Tryd.underlying2
  a2 := Tryd.isAgg2
  z2 := Tryd.sizeOf2
  v2 := Tryd.zeroValue2
  t3 := Tryd.underlying3
  a3 := Tryd.isAgg3
  z3 := Tryd.sizeOf3
  v3 := Tryd.zeroValue3
  t4 := Tryd.underlying4
  a4 := Tryd.isAgg4
  z4 := Tryd.sizeOf4
  v4 := Tryd.zeroValue4
  t5 := Tryd.underlying5
  a5 := Tryd.isAgg5
  z5 := Tryd.sizeOf5
  v5 := Tryd.zeroValue5
  t9 := Tryd.underlying9
  a9 := Tryd.isAgg9
  z9 := Tryd.sizeOf9
  v9 := Tryd.zeroValue9
  t20 := Tryd.underlying20
  a20 := Tryd.isAgg20
  z20 := Tryd.sizeOf20
  v20 := Tryd.zeroValue20
  t37 := Tryd.underlying91
  a37 := Tryd.isAgg91
  z37 := Tryd.sizeOf91
  v37 := Tryd.zeroValue91
  t46 := Tryd.underlying76
  a46 := Tryd.isAgg76
  z46 := Tryd.sizeOf76
  v46 := Tryd.zeroValue76
  t51 := Tryd.underlying23
  a51 := Tryd.isAgg23
  z51 := Tryd.sizeOf23
  v51 := Tryd.zeroValue23
  t53 := Tryd.underlying109
  a53 := Tryd.isAgg109
  z53 := Tryd.sizeOf109
  v53 := Tryd.zeroValue109
  t171 := Tryd.underlying108
  a171 := Tryd.isAgg108
  z171 := Tryd.sizeOf108
  v171 := Tryd.zeroValue108
  t173 := Tryd.underlying112
  a173 := Tryd.isAgg112
  z173 := Tryd.sizeOf112
  v173 := Tryd.zeroValue112
  t212 := Tryd.underlying116
  a212 := Tryd.isAgg116
  z212 := Tryd.sizeOf116
  v212 := Tryd.zeroValue116
  t213 := Tryd.underlying117
  a213 := Tryd.isAgg117
  z213 := Tryd.sizeOf117
  t232 := Tryd.underlying120
  a232 := Tryd.isAgg120
  z232 := Tryd.sizeOf120
  v232 := Tryd.zeroValue120
  t233 := Tryd.underlying121
  a233 := Tryd.isAgg121
  z233 := Tryd.sizeOf121
  v233 := Tryd.zeroValue121
  g17 := by kernel_rfl
  g18 := by kernel_rfl
  g19 := by kernel_rfl
  i0 := by kernel_rfl
  i2 := by kernel_rfl
  i3 := by kernel_rfl
  i4 := by kernel_rfl
  i5 := by kernel_rfl
  i9 := by kernel_rfl
  i20 := by kernel_rfl
  i37 := by kernel_rfl
  i46 := by kernel_rfl
  i51 := by kernel_rfl
  i53 := by kernel_rfl
  i171 := by kernel_rfl
  i173 := by kernel_rfl
  i212 := by kernel_rfl
  i232 := by kernel_rfl
  i233 := by kernel_rfl
  m17 := by kernel_rfl
  m18 := by kernel_rfl
  m19 := by kernel_rfl }
open Go.RowKit Go.Sort Go.Lib in
theorem Tryd.strconv_Itoa (n : Int) (h0 : -9223372036854775808 ≤ n) (h1 : n ≤ 9223372036854775807) (w : World) (htab : Lib.TabIs Tryd.prog w "internal/strconv.uint64pow10" .u64 Lib.pow10Tab) :
    Calls Tryd.prog 33 #[.int .i64 n] w fun e w' => e = .returned (.string ⟨(Lib.itoa n).toArray⟩) ∧ ∃ k os, w' = grow (w.drewN k) os := Any.strconv_Itoa Tryd.laysM171 n h0 h1 w htab
end Go.Proofs
namespace Go.Proofs.YtcbcjefefmbccabDoor
open Go.RowKit

theorem bcell {B : Nat} {W w1 : World} (hb : Below B W w1) : (∀ b o, b < B → w1.cell? ⟨b, o, none⟩ = W.cell? ⟨b, o, none⟩) ∧ (∀ b o, b < B → w1.frozen? ⟨b, o, none⟩ = W.frozen? ⟨b, o, none⟩) :=
  ⟨fun b o h => hb.cell (p := ⟨b, o, none⟩) h, fun b o h => hb.frozen (p := ⟨b, o, none⟩) h⟩

theorem idText_str (n l : Nat) : (⟨(hexLast n 8).toArray⟩ : ByteArray) ++ ⟨#[45]⟩ ++ ⟨(Lib.decDigits l).toArray⟩ = ⟨(idText n l).toArray⟩ := by
  have h : (⟨#[45]⟩ : ByteArray) = ⟨[45].toArray⟩ := rfl
  rw [h, str_append, str_append]
  simp [idText]
theorem idText_neg (n l : Int) (hl : l < 0) (w : World) :
    Calls Tryd.prog 35 #[idV n l] w fun e w' => e = .returned (.string ⟨#[]⟩) ∧ Below w.heap.size w w' := by
  go_enter Tryd.func35, Tryd.ntmps35
  go_wp2
  go_ret
  exact ⟨rfl, (Below.refl _ _).alloc (Nat.le_refl _) _⟩
theorem text_neg (n l : Int) (hl : l < 0) (w : World) :
    Calls Tryd.prog 32 #[idV n l] w fun e w' => e = .returned (.string ⟨#[]⟩) ∧ Below w.heap.size w w' := by
  go_enter Tryd.func32, Tryd.ntmps32
  go_wp2
  go_ret
  exact ⟨rfl, (Below.refl _ _).alloc (Nat.le_refl _) _⟩

set_option maxHeartbeats 2000000 in
theorem idText_any (n l : Nat) (hn : n < 4294967296) (hl : l ≤ 9223372036854775807) (w : World) :
    Calls Tryd.prog 35 #[idV n l] w fun e w' => e = .returned (.string ⟨(idText n l).toArray⟩) ∧ Below w.heap.size w w' := by
  have h0 : ¬ (l : Int) < 0 := by omega
  have hlx := hexLast_length n 8
  have hld := decDigits_le19 l hl
  go_enter Tryd.func35, Tryd.ntmps35
  go_wp2_with fail
  go_region_with (first
    | (go_at_call 48; refine (hexOf_any n hn _).mono ?_; rintro e w1 ⟨rfl, hb1⟩; obtain ⟨hc1, hf1⟩ := bcell hb1)
    | (go_at_call 36; refine (decimal_any l hl _).mono ?_; rintro e w2 ⟨rfl, hb2⟩; obtain ⟨hc2, hf2⟩ := bcell hb2))
  all_goals go_wp2
  all_goals go_ret
  all_goals refine ⟨?_, ?_⟩
  all_goals first
    | (rw [← idText_str]; rfl)
    | exact (((Below.refl _ _).alloc (Nat.le_refl _) _).trans ((Below.drew (Below.refl _ _)).trans (hb1.mono (by simp)))).trans (hb2.mono (by have := hb1.size; simp at this; omega))

theorem below_grow (w : World) (k : Nat) (os : Array Obj) : Below w.heap.size w (Go.Sort.grow (w.drewN k) os) :=
  ⟨rfl, rfl, rfl, by simp [Go.Sort.grow, World.drewN], fun j hj => by
    show ((w.drewN k).heap ++ os)[j]? = _
    have e : (w.drewN k).heap = w.heap := rfl
    rw [e, Array.getElem?_append_left hj]⟩
abbrev Pow10 (w : World) : Prop := Lib.TabIs Tryd.prog w "internal/strconv.uint64pow10" .u64 Lib.pow10Tab
theorem gPow10 : Tryd.prog.globalNamed "internal/strconv.uint64pow10" = some 13 := by kernel_rfl
theorem Pow10.below {B : Nat} {w w' : World} (h : Pow10 w) (hb : Below B w w') (hB : w.heap.size ≤ B) : Pow10 w' := Joins.tab_stays gPow10 h hb hB
theorem itoa_any (l : Nat) (hl : l ≤ 9223372036854775807) (w : World) (ht : Pow10 w) :
    Calls Tryd.prog 33 #[.int .i64 l] w fun e w' => e = .returned (.string ⟨(Lib.decDigits l).toArray⟩) ∧ Below w.heap.size w w' := by
  refine (Tryd.strconv_Itoa l (by omega) (by omega) w ht).mono ?_
  rintro e w' ⟨rfl, k, os, rfl⟩
  exact ⟨by rw [Lib.itoa_nonneg], below_grow w k os⟩

set_option maxHeartbeats 2000000 in
theorem text_any (n l : Nat) (hn : n < 4294967296) (hl : l ≤ 9223372036854775807) (w : World) (ht : Pow10 w) :
    Calls Tryd.prog 32 #[idV n l] w fun e w' => e = .returned (.string ⟨(idText n l).toArray⟩) ∧ Below w.heap.size w w' := by
  have h0 : ¬ (l : Int) < 0 := by omega
  have hlx := hexLast_length n 8
  have hld := decDigits_le19 l hl
  have HP : Hid (∀ w' B, Below B w w' → w.heap.size ≤ B → Pow10 w') := fun w' B hb hB => ht.below hb hB
  clear ht
  go_enter Tryd.func32, Tryd.ntmps32
  go_wp2_with fail
  go_region_with (first
    | (go_at_call 45; refine (hexText_any n hn _).mono ?_; rintro e w1 ⟨rfl, hb1⟩; obtain ⟨hc1, hf1⟩ := bcell hb1)
    | (go_at_call 33; refine (itoa_any l hl _ ?_).mono ?_; exact HP.out _ _ (((Below.refl _ _).alloc (Nat.le_refl _) _).trans ((Below.drew (Below.refl _ _)).trans (hb1.mono (by simp)))) (Nat.le_refl _); rintro e w2 ⟨rfl, hb2⟩; obtain ⟨hc2, hf2⟩ := bcell hb2))
  all_goals go_wp2
  all_goals go_ret
  all_goals refine ⟨?_, ?_⟩
  all_goals first
    | (rw [← idText_str]; rfl)
    | exact (((Below.refl _ _).alloc (Nat.le_refl _) _).trans ((Below.drew (Below.refl _ _)).trans (hb1.mono (by simp)))).trans (hb2.mono (by have := hb1.size; simp at this; omega))
end Go.Proofs.YtcbcjefefmbccabDoor
namespace Go.Proofs.YtcbcjefefmbccabDoor
open Go.RowKit

theorem idText_len (p l : Nat) (hl : l ≤ 9223372036854775807) : (idText p l).length ≤ 30 := by
  unfold idText
  rw [List.length_append, List.length_cons, hexLast_length]
  have := decDigits_le19 l hl
  omega
theorem idTx_len (i : Nat × Int) (hl : i.2 ≤ 9223372036854775807) : (idTx i.1 i.2).length ≤ 30 := by
  unfold idTx
  split
  · simp
  · exact idText_len _ _ (by omega)
theorem text_all (i : Nat × Int) (hp : i.1 < 4294967296) (hl : i.2 ≤ 9223372036854775807) (w : World) (ht : Pow10 w) :
    Calls Tryd.prog 32 #[idV (i.1 : Nat) i.2] w fun e w' => e = .returned (.string ⟨(idTx i.1 i.2).toArray⟩) ∧ Below w.heap.size w w' := by
  by_cases h : i.2 < 0
  · have e : idTx i.1 i.2 = [] := by unfold idTx; rw [if_pos h]
    rw [e]
    exact text_neg _ _ h w
  · have e : idTx i.1 i.2 = idText i.1 i.2.toNat := by unfold idTx; rw [if_neg h]
    rw [e]
    have e2 : i.2 = ((i.2.toNat : Nat) : Int) := by omega
    rw [e2, show (((i.2.toNat : Nat) : Int).toNat) = i.2.toNat by omega]
    exact text_any _ _ hp (by omega) w ht
theorem refText_all (i : Nat × Int) (hp : i.1 < 4294967296) (hl : i.2 ≤ 9223372036854775807) (w : World) :
    Calls Tryd.prog 35 #[idV (i.1 : Nat) i.2] w fun e w' => e = .returned (.string ⟨(idTx i.1 i.2).toArray⟩) ∧ Below w.heap.size w w' := by
  by_cases h : i.2 < 0
  · have e : idTx i.1 i.2 = [] := by unfold idTx; rw [if_pos h]
    rw [e]
    exact idText_neg _ _ h w
  · have e : idTx i.1 i.2 = idText i.1 i.2.toNat := by unfold idTx; rw [if_neg h]
    rw [e]
    have e2 : i.2 = ((i.2.toNat : Nat) : Int) := by omega
    rw [e2, show (((i.2.toNat : Nat) : Int).toNat) = i.2.toNat by omega]
    exact idText_any _ _ hp (by omega) w
/- The three parts of a score's text. -/
theorem score_str (a d : List UInt8) (ha : a.length ≤ 30) (hd : d.length ≤ 19) (A D : ByteArray) (hA : (⟨a.toArray⟩ : ByteArray) = A) (hD : (⟨d.toArray⟩ : ByteArray) = D) :
    A.size ≤ 30 ∧ D.size ≤ 19 ∧ (A ++ ⟨#[64]⟩).size ≤ 31 ∧ (A ++ ⟨#[64]⟩ ++ D).size ≤ 50 ∧ pmore 2166136261 (A ++ ⟨#[64]⟩ ++ D).data.toList = pmore 2166136261 (a ++ 64 :: d) := by
  subst hA hD
  have h64 : (⟨#[64]⟩ : ByteArray) = ⟨[64].toArray⟩ := rfl
  have hsz : ∀ l : List UInt8, (⟨l.toArray⟩ : ByteArray).size = l.length := fun l => by show l.toArray.size = _; simp
  rw [h64, str_append, str_append, hsz, hsz, hsz, hsz]
  refine ⟨ha, hd, ?_, ?_, ?_⟩
  · simp; omega
  · simp; omega
  · simp
set_option maxHeartbeats 2000000 in
theorem score_any (i : Nat × Int) (hp : i.1 < 4294967296) (hl : i.2 ≤ 9223372036854775807) (n : Int) (hn0 : 0 ≤ n) (hn : n ≤ 9223372036854775807) (w : World) (ht : Pow10 w) :
    Calls Tryd.prog 14 #[.int .i64 n, idV (i.1 : Nat) i.2] w fun e w' => e = .returned (.int .u32 (score i n : Nat)) ∧ Below w.heap.size w w' := by
  have hal := (Below.refl w.heap.size w).alloc (Nat.le_refl _) (.cells #[.int .u32 (i.1 : Nat), .int .i64 i.2] 25)
  have HT := hideN (text_all i hp hl _ (ht.below hal (Nat.le_refl _)))
  have HI : Hid (∀ w2, Below w.heap.size w w2 → Calls Tryd.prog 33 #[.int .i64 n] w2 fun e w' => e = .returned (.string ⟨(Lib.decDigits n.toNat).toArray⟩) ∧ Below w2.heap.size w2 w') := fun w2 hb => by
    have := itoa_any n.toNat (by omega) w2 (ht.below hb (Nat.le_refl _))
    rwa [show ((n.toNat : Nat) : Int) = n by omega] at this
  obtain ⟨A, hA⟩ : ∃ A : ByteArray, (⟨(idTx i.1 i.2).toArray⟩ : ByteArray) = A := ⟨_, rfl⟩
  obtain ⟨D, hD⟩ : ∃ D : ByteArray, (⟨(Lib.decDigits n.toNat).toArray⟩ : ByteArray) = D := ⟨_, rfl⟩
  obtain ⟨hA1, hD1, hA2, hA3, hsum⟩ := score_str (idTx i.1 i.2) (Lib.decDigits n.toNat) (idTx_len i hl) (decDigits_le19 _ (by omega)) A D hA hD
  rw [hA] at HT
  rw [hD] at HI
  have HS : Hid (pmore 2166136261 (A ++ ⟨#[64]⟩ ++ D).data.toList = score i n) := hsum
  have HBA := hideN hal
  clear hA hD hsum ht hal hl hn0 hn hp
  go_enter Tryd.func14, Tryd.ntmps14
  go_wp2_with fail
  refine HT.out.mono ?_
  rintro e w1 ⟨rfl, hb1⟩
  have HB1 : Hid (Below w.heap.size w w1) := HBA.out.trans (hb1.mono HBA.out.size)
  clear hb1
  go_wp2_with fail
  refine (HI.out w1 HB1.out).mono ?_
  rintro e w2 ⟨rfl, hb2⟩
  have HB2 : Hid (Below w.heap.size w w2) := HB1.out.trans (hb2.mono HB1.out.size)
  clear hb2
  go_wp2_with fail
  refine (of_any _ _ ?_).mono ?_
  · unfold maxLen; omega
  rintro e w3 ⟨rfl, rfl⟩
  rw [HS.out]
  go_wp2_with fail
  go_ret
  exact ⟨rfl, HB2.out⟩
set_option maxHeartbeats 2000000 in
theorem refScore_any (i : Nat × Int) (hp : i.1 < 4294967296) (hl : i.2 ≤ 9223372036854775807) (n : Int) (hn0 : 0 ≤ n) (hn : n ≤ 9223372036854775807) (w : World) :
    Calls Tryd.prog 15 #[.int .i64 n, idV (i.1 : Nat) i.2] w fun e w' => e = .returned (.int .u32 (score i n : Nat)) ∧ Below w.heap.size w w' := by
  have hal := (Below.refl w.heap.size w).alloc (Nat.le_refl _) (.cells #[.int .u32 (i.1 : Nat), .int .i64 i.2] 25)
  have HT := hideN (refText_all i hp hl (w.alloc (.cells #[.int .u32 (i.1 : Nat), .int .i64 i.2] 25)))
  have HI : Hid (∀ w2, Calls Tryd.prog 36 #[.int .i64 n] w2 fun e w' => e = .returned (.string ⟨(Lib.decDigits n.toNat).toArray⟩) ∧ Below w2.heap.size w2 w') := fun w2 => by
    have := decimal_any n.toNat (by omega) w2
    rwa [show ((n.toNat : Nat) : Int) = n by omega] at this
  obtain ⟨A, hA⟩ : ∃ A : ByteArray, (⟨(idTx i.1 i.2).toArray⟩ : ByteArray) = A := ⟨_, rfl⟩
  obtain ⟨D, hD⟩ : ∃ D : ByteArray, (⟨(Lib.decDigits n.toNat).toArray⟩ : ByteArray) = D := ⟨_, rfl⟩
  obtain ⟨hA1, hD1, hA2, hA3, hsum⟩ := score_str (idTx i.1 i.2) (Lib.decDigits n.toNat) (idTx_len i hl) (decDigits_le19 _ (by omega)) A D hA hD
  rw [hA] at HT
  rw [hD] at HI
  have HS : Hid (pmore 2166136261 (A ++ ⟨#[64]⟩ ++ D).data.toList = score i n) := hsum
  have HBA := hideN hal
  clear hA hD hsum hal hl hn0 hn hp
  go_enter Tryd.func15, Tryd.ntmps15
  go_wp2_with fail
  refine HT.out.mono ?_
  rintro e w1 ⟨rfl, hb1⟩
  have HB1 : Hid (Below w.heap.size w w1) := HBA.out.trans (hb1.mono HBA.out.size)
  clear hb1
  go_wp2_with fail
  refine (HI.out w1).mono ?_
  rintro e w2 ⟨rfl, hb2⟩
  have HB2 : Hid (Below w.heap.size w w2) := HB1.out.trans (hb2.mono HB1.out.size)
  clear hb2
  go_wp2_with fail
  refine (printOf_any _ _ ?_).mono ?_
  · unfold maxLen; omega
  rintro e w3 ⟨rfl, rfl⟩
  rw [HS.out]
  go_wp2_with fail
  go_ret
  exact ⟨rfl, HB2.out⟩
end Go.Proofs.YtcbcjefefmbccabDoor
namespace Go.Proofs.YtcbcjefefmbccabDoor
open Go.RowKit

def cmpI (x y : Nat) : Int := if x < y then -1 else if y < x then 1 else 0
theorem isNaN_any (x : Int) (w : World) : Calls Tryd.prog 37 #[.int .u32 x] w fun e w' => e = .returned (.bool false) ∧ w' = w := by
  have hx : (x != x) = false := by simp
  go_enter Tryd.func37, Tryd.ntmps37
  go_wp2
  go_ret
  exact ⟨rfl, rfl⟩
theorem compare_any (x y : Nat) (w : World) : Calls Tryd.prog 25 #[.int .u32 (x : Nat), .int .u32 (y : Nat)] w fun e w' => e = .returned (.int .i64 (cmpI x y)) ∧ w' = w := by
  unfold cmpI
  by_cases h1 : x < y
  · have h1' : (x : Int) < (y : Int) := by omega
    rw [if_pos h1]
    go_enter Tryd.func25, Tryd.ntmps25
    go_wp2_with fail
    refine (isNaN_any _ _).mono ?_
    rintro e w1 ⟨rfl, hw1⟩
    subst hw1
    go_wp2_with fail
    refine (isNaN_any _ _).mono ?_
    rintro e w2 ⟨rfl, hw2⟩
    subst hw2
    go_wp2_with fail
    go_ret
    exact ⟨rfl, rfl⟩
  · have h1' : ¬ (x : Int) < (y : Int) := by omega
    rw [if_neg h1]
    by_cases h2 : y < x
    · have h2' : (y : Int) < (x : Int) := by omega
      rw [if_pos h2]
      go_enter Tryd.func25, Tryd.ntmps25
      go_wp2_with fail
      refine (isNaN_any _ _).mono ?_
      rintro e w1 ⟨rfl, hw1⟩
      subst hw1
      go_wp2_with fail
      refine (isNaN_any _ _).mono ?_
      rintro e w2 ⟨rfl, hw2⟩
      subst hw2
      go_wp2_with fail
      go_ret
      exact ⟨rfl, rfl⟩
    · have h2' : ¬ (y : Int) < (x : Int) := by omega
      rw [if_neg h2]
      go_enter Tryd.func25, Tryd.ntmps25
      go_wp2_with fail
      refine (isNaN_any _ _).mono ?_
      rintro e w1 ⟨rfl, hw1⟩
      subst hw1
      go_wp2_with fail
      refine (isNaN_any _ _).mono ?_
      rintro e w2 ⟨rfl, hw2⟩
      subst hw2
      go_wp2_with fail
      go_ret
      exact ⟨rfl, rfl⟩
set_option maxRecDepth 100000 in
set_option maxHeartbeats 4000000 in
theorem ownOf1_any (i : Nat × Int) (hp : i.1 < 4294967296) (hl : i.2 ≤ 9223372036854775807) (x y : Int) (hx : 0 ≤ x ∧ x ≤ 9223372036854775807) (hy : 0 ≤ y ∧ y ≤ 9223372036854775807) (IB : Nat) (w : World) (hI : Blk w IB #[.int .u32 (i.1 : Nat), .int .i64 i.2] 25) (ht : Pow10 w) :
    Calls Tryd.prog 24 (#[.int .i64 x, .int .i64 y] ++ #[.pointer (some ⟨IB, 0, none⟩)]) w fun e w' => e = .returned (.int .i64 (cmpI (score i x) (score i y))) ∧ Below w.heap.size w w' := by
  have HX : Hid (∀ W, Below w.heap.size w W → Calls Tryd.prog 14 #[.int .i64 x, idV (i.1 : Nat) i.2] W fun e w' => e = .returned (.int .u32 (score i x : Nat)) ∧ Below W.heap.size W w') := fun W hb => score_any i hp hl x hx.1 hx.2 W (ht.below hb (Nat.le_refl _))
  have HY : Hid (∀ W, Below w.heap.size w W → Calls Tryd.prog 14 #[.int .i64 y, idV (i.1 : Nat) i.2] W fun e w' => e = .returned (.int .u32 (score i y : Nat)) ∧ Below W.heap.size W w') := fun W hb => score_any i hp hl y hy.1 hy.2 W (ht.below hb (Nat.le_refl _))
  have HC : Hid (∀ W, Below w.heap.size w W → W.cell? ⟨IB, 0, none⟩ = some (.int .u32 (i.1 : Nat)) ∧ W.cell? ⟨IB, 1, none⟩ = some (.int .i64 i.2)) := fun W hb => by
    have h := hI.below hb hI.lt
    exact ⟨h.cell (i := 0) rfl, h.cell (i := 1) rfl⟩
  obtain ⟨sx, hsx⟩ : ∃ s, score i x = s := ⟨_, rfl⟩
  obtain ⟨sy, hsy⟩ : ∃ s, score i y = s := ⟨_, rfl⟩
  rw [hsx] at HX ⊢
  rw [hsy] at HY ⊢
  obtain ⟨c0, c1⟩ := HC.out w (Below.refl _ _)
  clear hp hl hx hy hI ht hsx hsy
  simp only [List.append_toArray, List.cons_append, List.nil_append]
  go_enter Tryd.func24, Tryd.ntmps24
  go_wp2_with fail
  go_region_held3 (fun W => W.cell? ⟨IB, 0, none⟩ = some (.int .u32 (i.1 : Nat)) ∧ W.cell? ⟨IB, 1, none⟩ = some (.int .i64 i.2)) (first | exact HC.out _ HWN.out | go_keep) (first
    | (go_at_call 25; refine (compare_any _ _ _).mono ?_; rintro e wc ⟨rfl, rfl⟩)
    | (go_at_call 14; refine (HY.out wa HWN.out).mono ?_; rintro e wb ⟨rfl, hbb⟩; have HWB : Hid (Below w.heap.size w wb) := HWN.out.trans (hbb.mono HWN.out.size); have HWN := HWB; clear hbb)
    | (go_at_call 14; refine (HX.out _ (Below.refl _ w).drew).mono ?_; rintro e wa ⟨rfl, hba⟩; have HWN : Hid (Below w.heap.size w wa) := (Below.refl _ w).drew.trans hba; clear hba))
  go_wp2_with fail
  go_ret
  exact ⟨rfl, HWB.out⟩
set_option maxRecDepth 100000 in
set_option maxHeartbeats 4000000 in
theorem maxFunc_any (i : Nat × Int) (hp : i.1 < 4294967296) (hl : i.2 ≤ 9223372036854775807) (vl : Value) (l : List Int) (hn : Nodes l) (hne : l ≠ []) (IB : Nat) (w : World) (hv : IntsC w vl l) (hI : Blk w IB #[.int .u32 (i.1 : Nat), .int .i64 i.2] 25) (ht : Pow10 w) :
    Calls Tryd.prog 23 #[vl, .func (.func 24) #[] #[.pointer (some ⟨IB, 0, none⟩)]] w fun e w' => e = .returned (.int .i64 (bestOf (score i) l)) ∧ Below w.heap.size w w' := by
  have HCB : Hid (∀ x y W, x ∈ l → y ∈ l → Below w.heap.size w W → Calls Tryd.prog 24 (#[.int .i64 x, .int .i64 y] ++ #[.pointer (some ⟨IB, 0, none⟩)]) W fun e w' => e = .returned (.int .i64 (cmpI (score i x) (score i y))) ∧ Below W.heap.size W w') := fun x y W hx hy hb => by
    have h1 := hn.1 x hx
    have h2 := hn.1 y hy
    exact ownOf1_any i hp hl x y ⟨by omega, by omega⟩ ⟨by omega, by omega⟩ IB W (hI.below hb hI.lt) (ht.below hb (Nat.le_refl _))
  have HMEM : Hid (∀ k, 1 ≤ k → k ≤ l.length → bestOf (score i) (l.take k) ∈ l) := fun k h1 h2 => List.mem_of_mem_take (bestOf_is (score i) hn k h1 h2).1
  have HTK : Hid (∀ k (h : k < l.length), 1 ≤ k → bestOf (score i) (l.take (k + 1)) = pick1 (score i) (bestOf (score i) (l.take k)) l[k]) := fun k h h1 => bestOf_take (score i) l k h1 h
  have HONE : Hid (∀ h : 0 < l.length, bestOf (score i) (l.take 1) = l[0]) := fun h => by
    cases l with
    | nil => simp at h
    | cons x r => simp [bestOf]
  have HIN : Hid (∀ k (h : k < l.length), l[k] ∈ l) := fun k h => List.getElem_mem h
  have hlen := hn.length
  have hpos : 0 < l.length := List.length_pos_iff.2 hne
  obtain ⟨p, c, rfl, hcell⟩ := hv
  simp only [List.length_map, List.getElem_map] at hcell ⊢
  obtain ⟨b, o, rfl, ⟨hlt0, _⟩, hc0⟩ := hcell 0 hpos
  have HC : Hid (∀ W, Below w.heap.size w W → ∀ k (h : k < l.length), W.cell? ⟨b, o + k, none⟩ = some (.int .i64 l[k])) := fun W hb k h => by
    obtain ⟨b', o', hp, ⟨hlt, _⟩, hc⟩ := hcell k h
    obtain ⟨rfl, rfl⟩ : b = b' ∧ o = o' := by simpa using hp
    exact (hb.cell (p := ⟨b, o + k, none⟩) hlt).trans hc
  have hll : (l.length : Int) ≤ 6 := by omega
  have hll1 : ¬ (l.length : Int) < 1 := by omega
  have hpos' : (0 : Int) < (l.length : Int) := by omega
  have HPOS := hideN hpos
  rw [Nat.add_zero] at hc0
  obtain ⟨x0, hx0⟩ : ∃ x0, l[0]'hpos = x0 := ⟨_, rfl⟩
  have HON : Hid (bestOf (score i) (l.take 1) = x0) := by rw [← hx0]; exact HONE.out hpos
  rw [hx0] at hc0
  clear hx0 HONE
  clear hcell hn hne hI ht hp hl hlen hlt0
  go_enter Tryd.func23, Tryd.ntmps23
  go_wp2_with fail
  go_loopw [5, 6] (fun mv iv wr => ∃ k : Nat, 1 ≤ k ∧ k ≤ l.length ∧ iv = .int .i64 k ∧ mv = .int .i64 (bestOf (score i) (l.take k)) ∧ Hid (Below w.heap.size w wr)) (fun _ iv _ => l.length - (intOf iv).toNat)
  case atStart => exact ⟨1, Nat.le_refl _, HPOS.out, rfl, by rw [HON.out], Below.refl _ _⟩
  case round =>
    clear hc0 hpos
    obtain ⟨k, hk1, hk, rfl, rfl, HB⟩ := hrel
    by_cases hlt : k < l.length
    · have hlt' : (k : Int) < (l.length : Int) := by omega
      have hk0 : (0 : Int) ≤ (k : Int) := by omega
      have hck := HC.out wr HB.out k hlt
      have HCK := hideN (HCB.out l[k] (bestOf (score i) (l.take k)) wr (HIN.out k hlt) (HMEM.out k hk1 hk) HB.out)
      have HT := hideN (HTK.out k hlt hk1)
      obtain ⟨x, hx⟩ : ∃ x, l[k] = x := ⟨_, rfl⟩
      obtain ⟨m, hm⟩ : ∃ m, bestOf (score i) (l.take k) = m := ⟨_, rfl⟩
      rw [hx] at hck HCK HT
      rw [hm] at HCK HT ⊢
      have HKL : Hid (k < l.length) := hlt
      have HXE := hideN hx
      clear hx hm
      go_wp2_with fail
      refine HCK.out.mono ?_
      rintro e w2 ⟨rfl, hb2⟩
      have HB2 : Hid (Below w.heap.size w w2) := HB.out.trans (hb2.mono HB.out.size)
      have HC2 : Hid (w2.cell? ⟨b, o + k, none⟩ = some (.int .i64 x)) := by show _ = _; rw [← HXE.out]; exact HC.out w2 HB2.out k HKL.out
      clear hb2 hck
      unfold pick1 at HT
      unfold cmpI
      by_cases hs : score i m < score i x
      · rw [if_pos hs] at HT
        rw [if_neg (show ¬ score i x < score i m by omega), if_pos hs]
        have hc2 := HC2.out
        clear hs
        go_wp2_with fail
        go_roundw
        case rel => exact ⟨k + 1, by omega, HKL.out, by go_num, by rw [HT.out], HB2.out⟩
        case measure => simp [intOf]; omega
      · rw [if_neg hs] at HT
        obtain ⟨cv, hcv, hcv2⟩ : ∃ cv : Int, (if score i x < score i m then -1 else if score i m < score i x then 1 else 0) = cv ∧ ¬ 0 < cv := by
          rw [if_neg hs]
          split
          · exact ⟨_, rfl, by omega⟩
          · exact ⟨_, rfl, by omega⟩
        rw [hcv]
        clear hs hcv
        go_wp2_with fail
        go_roundw
        case rel => exact ⟨k + 1, by omega, HKL.out, by go_num, by rw [HT.out], HB2.out⟩
        case measure => simp [intOf]; omega
    · have hge : (l.length : Int) ≤ (k : Int) := by omega
      rw [List.take_of_length_le (show l.length ≤ k by omega)]
      go_wp2_with fail
      go_ret
      exact ⟨rfl, HB.out⟩
set_option maxRecDepth 100000 in
set_option maxHeartbeats 4000000 in
theorem ownOf_bad (a : Nat → Addr) (i : Nat × Int) (vl : Value) (l : List Int) (w : World) (hlen : l.length ≤ 1000) (hb : (checkAns' l).1 ≠ 0) (hv : IntsC w vl l) (hE : ErrE [1, 4, 7] w a) :
    Calls Tryd.prog 7 #[vl, idV (i.1 : Nat) i.2] w fun e w' => ∃ ev, e = .returned (.tuple #[.int .i64 0, ev]) ∧ ErrIn w.heap.size w' a ev (checkAns' l) ∧ Below w.heap.size w w' := by
  have hal := (Below.refl w.heap.size w).alloc (Nat.le_refl _) (.cells #[.int .u32 (i.1 : Nat), .int .i64 i.2] 25)
  have HF := hideN (ownCheck_any a vl l (w.alloc (.cells #[.int .u32 (i.1 : Nat), .int .i64 i.2] 25)) hlen (hv.below hal) (hE.below hal (Nat.le_refl _)))
  have HAL := hideN hal
  obtain ⟨c, hc⟩ : ∃ c, checkAns' l = c := ⟨_, rfl⟩
  rw [hc] at HF hb ⊢
  have HBD := hideN hb
  clear hal hv hE hc hb
  go_enter Tryd.func7, Tryd.ntmps7
  go_wp2_with fail
  refine HF.out.mono ?_
  rintro e w1 ⟨ev, rfl, hev, hb⟩
  have HEV : Hid (ErrIn w.heap.size w1 a ev c) := by
    rcases hev with h | h | ⟨k, pb, po, at0, h1, h2, h3⟩
    · exact .inl h
    · exact .inr (.inl h)
    · exact .inr (.inr ⟨k, pb, po, at0, h1, Nat.le_trans HAL.out.size h2, h3⟩)
  have HB : Hid (Below w.heap.size w w1) := HAL.out.trans (hb.mono HAL.out.size)
  have hif : ∃ T A, ev = .iface T A := by
    rcases hev with ⟨_, h⟩ | ⟨k, _, h, _⟩ | ⟨k, pb, po, at0, _, _, h, _⟩
    · exact absurd (congrArg Prod.fst h) HBD.out
    · exact ⟨_, _, h⟩
    · exact ⟨_, _, h⟩
  obtain ⟨T, A, rfl⟩ := hif
  clear hev hb HF
  go_wp2_with fail
  go_ret2
  exact ⟨_, rfl, HEV.out, HB.out⟩
/- What owner.Of answers, and its error. -/
def ownAns (i : Nat × Int) (l : List Int) : Int × (Int × Int) := if (checkAns' l).1 ≠ 0 then (0, checkAns' l) else if i.2 < 0 then (0, (3, -1)) else (bestOf (score i) l, (0, -1))
set_option maxRecDepth 100000 in
set_option maxHeartbeats 4000000 in
theorem ownOf_any (a : Nat → Addr) (i : Nat × Int) (hp : i.1 < 4294967296) (hl : i.2 ≤ 9223372036854775807) (vl : Value) (l : List Int) (w : World) (hlen : l.length ≤ 1000) (hv : IntsC w vl l) (hE : ErrE [1, 2, 4, 7] w a) (ht : Pow10 w) :
    Calls Tryd.prog 7 #[vl, idV (i.1 : Nat) i.2] w fun e w' => ∃ ev, e = .returned (.tuple #[.int .i64 (ownAns i l).1, ev]) ∧ ErrIn w.heap.size w' a ev (ownAns i l).2 ∧ Below w.heap.size w w' := by
  by_cases hbad : (checkAns' l).1 ≠ 0
  · have e : ownAns i l = (0, checkAns' l) := by unfold ownAns; rw [if_pos hbad]
    rw [e]
    exact ownOf_bad a i vl l w hlen hbad hv (hE.sub (by decide))
  have hc0 : checkAns' l = (0, (checkAns' l).2) := Prod.ext (Classical.not_not.1 hbad) rfl
  obtain ⟨hn, hne⟩ := checkAns_of hc0
  have hc1 := checkAns_ok hn hne
  have hal := (Below.refl w.heap.size w).alloc (Nat.le_refl _) (.cells #[.int .u32 (i.1 : Nat), .int .i64 i.2] 25)
  have HF := hideN (ownCheck_any a vl l (w.alloc (.cells #[.int .u32 (i.1 : Nat), .int .i64 i.2] 25)) hlen (hv.below hal) ((hE.sub (M := [1, 4, 7]) (by decide)).below hal (Nat.le_refl _)))
  rw [hc1] at HF
  have HAL := hideN hal
  have HBX := hideN (Blk.new w #[.int .u32 (i.1 : Nat), .int .i64 i.2] 25)
  have HG : Hid (∀ W, Below w.heap.size w W → W.cell? ⟨errG 2, 0, none⟩ = some (sentV a 2)) := fun W hb => (hE.below hb (Nat.le_refl _)).glob 2 (by decide)
  have HM : Hid (∀ W, Below (w.heap.size + 1) (w.alloc (.cells #[.int .u32 (i.1 : Nat), .int .i64 i.2] 25)) W → Calls Tryd.prog 23 #[vl, .func (.func 24) #[] #[.pointer (some ⟨w.heap.size, 0, none⟩)]] W fun e w' => e = .returned (.int .i64 (bestOf (score i) l)) ∧ Below W.heap.size W w') := fun W hb => by
    have hb2 : Below w.heap.size w W := hal.trans (hb.mono (Nat.le_succ _))
    exact maxFunc_any i hp hl vl l hn hne w.heap.size W (hv.below hb2) (HBX.out.below hb (Nat.lt_succ_self _)) (ht.below hb2 (Nat.le_refl _))
  have hans : ownAns i l = if i.2 < 0 then (0, (3, -1)) else (bestOf (score i) l, (0, -1)) := by
    unfold ownAns
    rw [hc1, if_neg (by simp)]
  obtain ⟨B, hB⟩ : ∃ B, bestOf (score i) l = B := ⟨_, rfl⟩
  rw [hB] at HM hans
  have HANS := hideN hans
  obtain ⟨RES, hRES⟩ : ∃ R, ownAns i l = R := ⟨_, rfl⟩
  rw [hRES] at HANS ⊢
  clear hal hv hE ht hn hne hc1 hc0 hbad hB hans hRES hp
  go_enter Tryd.func7, Tryd.ntmps7
  go_wp2_with fail
  refine HF.out.mono ?_
  rintro e w1 ⟨ev, rfl, hev, hb⟩
  obtain rfl := hev.nil
  have HB1 : Hid (Below (w.heap.size + 1) (w.alloc (.cells #[.int .u32 (i.1 : Nat), .int .i64 i.2] 25)) w1) := hideN (hb.mono (by simp))
  have HB : Hid (Below w.heap.size w w1) := HAL.out.trans (HB1.out.mono (Nat.le_succ _))
  have HX1 := hideN (HBX.out.below HB1.out (Nat.lt_succ_self _))
  have x1 := HX1.out.cell (i := 1) rfl
  have g2 := HG.out w1 HB.out
  dsimp only [errG] at g2
  clear hev hb HF
  by_cases hneg : i.2 < 0
  · have HR : Hid (RES = (0, (3, -1))) := by show _ = _; rw [HANS.out, if_pos hneg]
    clear HANS
    go_wp2_with fail
    try (go_quiet (fail); go_wp2_with fail)
    go_ret2
    refine ⟨sentV a 2, by rw [HR.out]; rfl, ?_, ?_⟩
    · rw [HR.out]; exact .inr (.inl ⟨2, by decide, rfl, rfl⟩)
    · first | exact HB.out | exact HB.out.trans ((below_drew_n _ _).mono HB.out.size)
  · have HR : Hid (RES = (B, (0, -1))) := by show _ = _; rw [HANS.out, if_neg hneg]
    have HMM := hideN (HM.out w1 HB1.out)
    clear HANS HM g2
    go_wp2_with fail
    refine HMM.out.mono ?_
    rintro e w2 ⟨rfl, hb2⟩
    have HB2 : Hid (Below w.heap.size w w2) := HB.out.trans (hb2.mono HB.out.size)
    clear hb2
    go_wp2_with fail
    go_ret2
    exact ⟨.nilIface, by rw [HR.out]; rfl, by rw [HR.out]; exact .inl ⟨rfl, rfl⟩, HB2.out⟩
end Go.Proofs.YtcbcjefefmbccabDoor
