/-
  Own text. What the program's package bin is to answer, as contracts (BinSpec), over what the world holds (Env) and an abstract bin in memory (PB: the pointer, the bin's own blocks, its pieces in order); two bins side by side (TwoBins); binned.
  Own text. The program's bins: a map by IDs of pieces, its kit (idPieces); a bin in memory (PBin0): a block with a map's place, and the map.
  Own text. Some of the sentinels, as the world holds them: those of a list (ErrE), whatever the others are.
  Own text. The sentinels that package bin names, as the world holds them: less than ErrW (which has all twelve, and errors' handle).
  Own text. sort.Slice where 'less' may lay blocks of its own (it calls a function that takes structs): what 'less' and 'swap' must do (Srt), over any predicate on a world and what the row holds there; worlds on the way (SrtAt); insertionSort_func.
  Own text. sort.Slice where 'less' may lay blocks: a counter behind a pointer (Cnt); order2_func, median_func, medianAdjacent_func, choosePivot_func.
  Own text. The program's bin by contracts: Get, Drop.
-/
import Derived.Test.YtcbcjefefmbccabGreatDoorS02
import Derived.Test.YtcbcjefefmbccabGreatDoorS03
import Derived.DeepKeys4
import Derived.Shelf.SlSortFuncK.WholeK
import Derived.Maps.RangeWalk
import Derived.Below
import Derived.Deep.QuietTactic
import Derived.BigQuiet
import Derived.BigRegion
namespace Go.Proofs.YtcbcjefefmbccabGreatDoor
open Go.RowKit

def hGet (l : List Hd) (x : Nat × Int) : List UInt8 × Int := match hFind l x with | some k => ((l[k]?.map (·.2.2)).getD [], 0) | none => ([], 5)
abbrev PBin := World → Addr → (Nat → Prop) → List Hd → Prop
structure BinSpec (a : Nat → Addr) (Env : World → Prop) (PB : PBin) : Prop where
  stable : ∀ {w w' : World}, Env w → Below w.heap.size w w' → Env w'
  lt : ∀ {w : World} {p : Addr} {F : Nat → Prop} {l : List Hd}, PB w p F l → ∀ k, F k → k < w.heap.size
  off : ∀ {w w' : World} {p : Addr} {F G : Nat → Prop} {l : List Hd}, PB w p F l → Off G w w' → (∀ k, F k → ¬ G k) → PB w' p F l
  new : ∀ (w : World), Env w → Calls Tryz.prog 74 #[] w fun e w' => ∃ p F, e = .returned (.pointer (some p)) ∧ PB w' p F [] ∧ (∀ k, F k → w.heap.size ≤ k) ∧ Below w.heap.size w w'
  put : ∀ (s : ByteArray) (p : Addr) (F : Nat → Prop) (l : List Hd) (w : World), s.size ≤ 50000 → BinOk 1000000 l → Env w → PB w p F l → Calls Tryz.prog 133 #[.pointer (some p), .string s] w fun e w' => ∃ ev F', e = .returned (.tuple #[idV ((hPut l s.data.toList).1.1.1 : Nat) (hPut l s.data.toList).1.1.2, .bool (hPut l s.data.toList).1.2.1, ev]) ∧ ErrIn w.heap.size w' a ev ((hPut l s.data.toList).1.2.2, -1) ∧ PB w' p F' (hPut l s.data.toList).2 ∧ (∀ k, F' k → F k ∨ w.heap.size ≤ k) ∧ Off F w w'
  get : ∀ (x : Nat × Int) (p : Addr) (F : Nat → Prop) (l : List Hd) (w : World), WfID x → BinOk 1000000 l → Env w → PB w p F l → Calls Tryz.prog 96 #[.pointer (some p), idV (x.1 : Nat) x.2] w fun e w' => ∃ ev, e = .returned (.tuple #[.string ⟨(hGet l x).1.toArray⟩, ev]) ∧ ErrIn w.heap.size w' a ev ((hGet l x).2, -1) ∧ Below w.heap.size w w'
  drop : ∀ (x : Nat × Int) (p : Addr) (F : Nat → Prop) (l : List Hd) (w : World), WfID x → BinOk 1000000 l → Env w → PB w p F l → Calls Tryz.prog 79 #[.pointer (some p), idV (x.1 : Nat) x.2] w fun e w' => ∃ ev F', e = .returned ev ∧ ErrIn w.heap.size w' a ev ((hDrop l x).1, -1) ∧ PB w' p F' (hDrop l x).2 ∧ (∀ k, F' k → F k ∨ w.heap.size ≤ k) ∧ Off F w w'
  sweep : ∀ (p : Addr) (F : Nat → Prop) (l : List Hd) (w : World), BinOk 1000000 l → Env w → PB w p F l → Calls Tryz.prog 80 #[.pointer (some p)] w fun e w' => ∃ F', e = .returned (.int .i64 (hSweep l).1) ∧ PB w' p F' (hSweep l).2 ∧ (∀ k, F' k → F k ∨ w.heap.size ≤ k) ∧ Off F w w'
  size : ∀ (p : Addr) (F : Nat → Prop) (l : List Hd) (w : World), BinOk 1000000 l → Env w → PB w p F l → Calls Tryz.prog 109 #[.pointer (some p)] w fun e w' => e = .returned (.int .i64 (hSize l)) ∧ Below w.heap.size w w'
  copy : ∀ (p : Addr) (F : Nat → Prop) (l : List Hd) (w : World), BinOk 1000000 l → Env w → PB w p F l → Calls Tryz.prog 57 #[.pointer (some p)] w fun e w' => ∃ p' F', e = .returned (.pointer (some p')) ∧ PB w' p' F' l ∧ (∀ k, F' k → w.heap.size ≤ k) ∧ Below w.heap.size w w'
  all : ∀ (p : Addr) (F : Nat → Prop) (l : List Hd) (w : World), BinOk 1000000 l → Env w → PB w p F l → Calls Tryz.prog 33 #[.pointer (some p)] w fun e w' => ∃ v, e = .returned v ∧ HeldsAt w' v l ∧ Below w.heap.size w w'

theorem BinSpec.below {a : Nat → Addr} {Env : World → Prop} {PB : PBin} (S : BinSpec a Env PB) {w w' : World} {p : Addr} {F : Nat → Prop} {l : List Hd} (h : PB w p F l) (hb : Below w.heap.size w w') : PB w' p F l := S.off h (Off.of_below (F := fun _ => False) hb) (fun _ _ h => h)

/- The program's bin and the document's, side by side, in memory that is new since w. -/
structure TwoBins (PB : PBin) (w W : World) (p : Addr) (F : Nat → Prop) (lp : List Hd) (B : Nat) (v : Value) (lr : List Hd) : Prop where
  below : Below w.heap.size w W
  pb : PB W p F lp
  rb : RBin W B v lr
  apart : ∀ k, F k → ¬ RBin.Of B v k
  pnew : ∀ k, F k → w.heap.size ≤ k
  rnew : ∀ k, RBin.Of B v k → w.heap.size ≤ k
theorem TwoBins.next {a : Nat → Addr} {Env : World → Prop} {PB : PBin} (S : BinSpec a Env PB) {w W W' : World} {p : Addr} {F : Nat → Prop} {lp : List Hd} {B : Nat} {v : Value} {lr : List Hd} (h : TwoBins PB w W p F lp B v lr) (hb : Below W.heap.size W W') : TwoBins PB w W' p F lp B v lr :=
  ⟨h.below.trans (hb.mono h.below.size), S.below h.pb hb, h.rb.below hb, h.apart, h.pnew, h.rnew⟩
theorem TwoBins.prog {PB : PBin} {w W W' : World} {p : Addr} {F F' : Nat → Prop} {lp lp' : List Hd} {B : Nat} {v : Value} {lr : List Hd} (h : TwoBins PB w W p F lp B v lr) (hp : PB W' p F' lp') (hF : ∀ k, F' k → F k ∨ W.heap.size ≤ k) (ho : Off F W W') : TwoBins PB w W' p F' lp' B v lr := by
  refine ⟨h.below.trans (ho.below h.below.size (fun k hk hf => by have := h.pnew k hf; omega)), hp, h.rb.off ho (fun k hk hf => h.apart k hf hk), fun k hk hr => ?_, fun k hk => ?_, h.rnew⟩
  · rcases hF k hk with hk | hk
    · exact h.apart k hk hr
    · have := h.rb.lt hr; omega
  · rcases hF k hk with hk | hk
    · exact h.pnew k hk
    · exact Nat.le_trans h.below.size hk
end Go.Proofs.YtcbcjefefmbccabGreatDoor
namespace Go.Proofs.YtcbcjefefmbccabGreatDoor
open Go.RowKit Go.Maps

theorem Tryz.laidOut : laidOutB Tryz.prog = true := by kernel_rfl
theorem idRow : (25 : TypeId) < Tryz.prog.types.size := of_decide_eq_true (by kernel_rfl)
theorem idWide : (match Tryz.prog.underlying 25 with | some (.array _ _) | some (.struct _) => true | _ => false) = true := by rw [Tryz.underlying25]
set_option maxRecDepth 100000 in
theorem idDeep : Tryz.prog.keyTypeAt 2 25 = true := by kernel_rfl
set_option maxRecDepth 100000 in
theorem idLaw : WideMaps.KeyLaw Tryz.prog 25 := deep_law_laid Tryz.laidOut (m := 2) (Nat.le_of_ble_eq_true rfl) idRow idDeep idWide
theorem idKeyed : Keyed Tryz.prog 25 := Keyed.of_law idLaw
theorem idCellsK : Tryz.prog.cellsOf 25 = 2 := by kernel_rfl
theorem u32Cells : Tryz.prog.cellsOf 23 = 1 := by kernel_rfl
theorem intCells : Tryz.prog.cellsOf 3 = 1 := by kernel_rfl
theorem idKeyType : Tryz.prog.keyType 25 = true := by kernel_rfl
theorem typesSize : Tryz.prog.types.size = 385 := by kernel_rfl
theorem idFormed (a b : Value) : (Value.agg #[a, b]).formed Tryz.prog 25 = true := by simp [Value.formed, Tryz.underlying25, idCellsK]

theorem wf_u32 (n : Int) : (Lit.int .u32 n).wf = true ↔ 0 ≤ n ∧ n < 4294967296 := by
  show (decide (IntKind.u32.min ≤ n) && decide (n ≤ IntKind.u32.max)) = true ↔ _
  rw [show IntKind.u32.min = 0 from rfl, show IntKind.u32.max = 4294967295 from rfl, Bool.and_eq_true, decide_eq_true_eq, decide_eq_true_eq]
  omega
theorem wf_i64' (n : Int) : (Lit.int .i64 n).wf = true ↔ -9223372036854775808 ≤ n ∧ n ≤ 9223372036854775807 := by
  show (decide (IntKind.i64.min ≤ n) && decide (n ≤ IntKind.i64.max)) = true ↔ _
  rw [show IntKind.i64.min = -9223372036854775808 from rfl, show IntKind.i64.max = 9223372036854775807 from rfl, Bool.and_eq_true, decide_eq_true_eq, decide_eq_true_eq]
set_option maxRecDepth 100000 in
theorem u32Lits (d : Nat) (a : Value) (x : List Lit) (h : Tryz.prog.keyLits (d + 1) 23 [a] = some x) : ∃ n : Int, a = .int .u32 n ∧ (Lit.int .u32 n).wf = true ∧ x = [.int .u32 n] := by
  unfold Program.keyLits at h
  rw [Tryz.underlying23] at h
  cases a <;> simp at h
  obtain ⟨⟨rfl, hw⟩, rfl⟩ := h
  exact ⟨_, rfl, hw, rfl⟩
set_option maxRecDepth 100000 in
theorem intLits (d : Nat) (a : Value) (x : List Lit) (h : Tryz.prog.keyLits (d + 1) 3 [a] = some x) : ∃ n : Int, a = .int .i64 n ∧ (Lit.int .i64 n).wf = true ∧ x = [.int .i64 n] := by
  unfold Program.keyLits at h
  rw [Tryz.underlying3] at h
  cases a <;> simp at h
  obtain ⟨⟨rfl, hw⟩, rfl⟩ := h
  exact ⟨_, rfl, hw, rfl⟩
set_option maxRecDepth 100000 in
theorem idLits (d : Nat) (a b : Value) : Tryz.prog.keyLits (d + 1) 25 [a, b] = (Tryz.prog.keyLits d 23 [a]).bind fun x => (Tryz.prog.keyLits d 3 [b]).bind fun y => some (x ++ y) := by
  conv => lhs; unfold Program.keyLits
  rw [Tryz.underlying25]
  simp only [idCellsK]
  cases h1 : Tryz.prog.keyLits d 23 [a] <;> cases h2 : Tryz.prog.keyLits d 3 [b] <;> simp [u32Cells, intCells, h1, h2]
theorem idKey_eq (v0 v1 : Value) : keyOf Tryz.prog 25 (.agg #[v0, v1]) = (Tryz.prog.keyLits (385 + 1) 25 [v0, v1]).map fun ls => .string (keyBytes ls) := by
  unfold keyOf
  rw [Tryz.underlying25]
  simp only [idKeyType, idFormed, Bool.and_true, if_true, typesSize]
  rfl
set_option maxRecDepth 100000 in
theorem u32Lits_mk (d : Nat) (n : Int) (h : (Lit.int .u32 n).wf = true) : Tryz.prog.keyLits (d + 1) 23 [.int .u32 n] = some [.int .u32 n] := by
  unfold Program.keyLits
  rw [Tryz.underlying23]
  simp [h]
set_option maxRecDepth 100000 in
theorem intLits_mk (d : Nat) (n : Int) (h : (Lit.int .i64 n).wf = true) : Tryz.prog.keyLits (d + 1) 3 [.int .i64 n] = some [.int .i64 n] := by
  unfold Program.keyLits
  rw [Tryz.underlying3]
  simp [h]
theorem ntSucc : 385 = (385 - 1) + 1 := rfl
set_option maxRecDepth 100000 in
theorem idKey (x : Nat × Int) (h : WfID x) : ∃ kl, keyOf Tryz.prog 25 (idV (x.1 : Nat) x.2) = some kl := by
  obtain ⟨h1, h2⟩ := h
  refine ⟨.string (keyBytes [.int .u32 (x.1 : Nat), .int .i64 x.2]), ?_⟩
  rw [idKey_eq, idLits, ntSucc, u32Lits_mk _ _ ((wf_u32 _).2 (by omega)), intLits_mk _ _ ((wf_i64' _).2 h2)]
  rfl
set_option maxRecDepth 100000 in
theorem idInv (v : Value) (kl : Lit) (h : keyOf Tryz.prog 25 v = some kl) : ∃ x : Nat × Int, WfID x ∧ v = idV (x.1 : Nat) x.2 := by
  have hf : v.formed Tryz.prog 25 = true := by
    unfold keyOf at h
    rw [Tryz.underlying25] at h
    cases hv : v.formed Tryz.prog 25 with
    | true => rfl
    | false => simp [hv] at h
  obtain ⟨cs, rfl, hs⟩ : ∃ cs, v = .agg cs ∧ cs.size = 2 := by
    cases v <;> simp [Value.formed, Tryz.underlying25, idCellsK] at hf
    exact ⟨_, rfl, hf⟩
  obtain ⟨v0, v1, rfl⟩ : ∃ v0 v1, cs = #[v0, v1] := by
    obtain ⟨l⟩ := cs
    match l, hs with
    | [v0, v1], _ => exact ⟨v0, v1, rfl⟩
  rw [idKey_eq, idLits, ntSucc] at h
  cases h0 : Tryz.prog.keyLits (385 - 1 + 1) 23 [v0] with
  | none => rw [h0] at h; cases h
  | some a =>
    cases h1 : Tryz.prog.keyLits (385 - 1 + 1) 3 [v1] with
    | none => rw [h0, h1] at h; cases h
    | some b =>
      obtain ⟨n, rfl, hn, _⟩ := u32Lits _ _ _ h0
      obtain ⟨m, rfl, hm, _⟩ := intLits _ _ _ h1
      rw [wf_u32] at hn
      rw [wf_i64'] at hm
      have e : ((n.toNat : Nat) : Int) = n := by omega
      refine ⟨(n.toNat, m), ⟨by omega, hm⟩, ?_⟩
      simp only [e]

/- A piece as the map holds it. -/
abbrev pieceV (c : Int × List UInt8) : Value := .agg #[.string ⟨c.2.toArray⟩, .int .i64 c.1]
def unPiece : Value → Option (Int × List UInt8)
  | .agg cs => match cs.toList with
    | [.string s, .int .i64 u] => some (u, s.data.toList)
    | _ => none
  | _ => none
theorem unPiece_back (v : Value) (c : Int × List UInt8) (h : unPiece v = some c) : v = pieceV c := by
  unfold unPiece at h
  split at h
  next cs =>
    split at h
    next s u e =>
      cases h
      have : cs = #[Value.string s, Value.int .i64 u] := by rw [← Array.toArray_toList (xs := cs), e]
      rw [this]
    next => cases h
  next => cases h
def idPieces : MapKit Tryz.prog 25 (Nat × Int) (Int × List UInt8) where
  mkK x := idV (x.1 : Nat) x.2
  wf := WfID
  mkV := pieceV
  unV := unPiece
  K := idKeyed
  key := idKey
  inv := idInv
  inj x y e := by
    have e1 := Array.mk.inj (Value.agg.inj e)
    simp at e1
    exact Prod.ext (by omega) e1.2
  un _ := rfl
  back := unPiece_back

theorem pieceZero (w : World) : (zeroValue 153).run Tryz.prog w = .ok (pieceV (0, [])) w := by kernel_rfl

/- A bin of the program's in memory. -/
def PBin0 (w : World) (p : Addr) (F : Nat → Prop) (l : List Hd) : Prop :=
  ∃ B b, p = ⟨B, 0, none⟩ ∧ Blk w B #[.map (some b)] 151 ∧ idPieces.Of w b l ∧ B ≠ b ∧ F = fun k => k = B ∨ k = b
theorem PBin0.lt {w : World} {p : Addr} {F : Nat → Prop} {l : List Hd} (h : PBin0 w p F l) : ∀ k, F k → k < w.heap.size := by
  obtain ⟨B, b, rfl, hB, hb, _, rfl⟩ := h
  rintro k (rfl | rfl)
  · exact hB.lt
  · exact hb.lt
theorem PBin0.off {w w' : World} {p : Addr} {F G : Nat → Prop} {l : List Hd} (h : PBin0 w p F l) (ho : Off G w w') (hG : ∀ k, F k → ¬ G k) : PBin0 w' p F l := by
  obtain ⟨B, b, rfl, hB, hb, hne, rfl⟩ := h
  exact ⟨B, b, rfl, ho.blk hB (hG B (.inl rfl)), hb.moved (ho.block b hb.lt (hG b (.inr rfl))), hne, rfl⟩
theorem errIn_sent (base : Nat) (w : World) (a : Nat → Addr) (k : Nat) (hk : k < 12) {c : Int} (hc : c = (k : Int) + 1) : ErrIn base w a (sentV a k) (c, -1) := .inr (.inl ⟨k, hk, rfl, by rw [hc]⟩)
theorem off_of_grown {w w' : World} {b : Nat} {F : Nat → Prop} (h : w.grownBy w' (some b)) (hF : F b) : Off F w w' := ⟨h.os, h.tape, h.output, h.size, fun k hk hf => h.block k hk (fun e => hf (by cases e; exact hF))⟩
/- A use more or less, as the map has it. -/
theorem modify_perm (d : Int) : ∀ (l : List Hd) (k : Nat) (hk : k < l.length), l.Pairwise (fun p q => p.1 ≠ q.1) → ((l[k].1, l[k].2.1 + d, l[k].2.2) :: l.filter (fun h => !decide (h.1 = l[k].1))).Perm (l.modify k (hUse d))
  | [], _, hk, _ => by simp at hk
  | y :: r, 0, _, hp => by
    obtain ⟨hy, _⟩ := List.pairwise_cons.1 hp
    have e : r.filter (fun h => !decide (h.1 = y.1)) = r := List.filter_eq_self.2 (fun h hm => by simp [Ne.symm (hy h hm)])
    show ((y.1, y.2.1 + d, y.2.2) :: List.filter (fun h => !decide (h.1 = y.1)) (y :: r)).Perm (hUse d y :: r)
    rw [List.filter_cons, if_neg (by simp), e]
    exact List.Perm.refl _
  | y :: r, k + 1, hk, hp => by
    obtain ⟨hy, hr⟩ := List.pairwise_cons.1 hp
    have hk' : k < r.length := by simpa using hk
    have ih := modify_perm d r k hk' hr
    have hne : y.1 ≠ r[k].1 := hy _ (List.getElem_mem hk')
    show ((r[k].1, r[k].2.1 + d, r[k].2.2) :: List.filter (fun h => !decide (h.1 = r[k].1)) (y :: r)).Perm (y :: r.modify k (hUse d))
    rw [List.filter_cons, if_pos (by simpa using hne)]
    exact (List.Perm.swap _ _ _).trans (ih.cons y)
end Go.Proofs.YtcbcjefefmbccabGreatDoor
namespace Go.Proofs.YtcbcjefefmbccabGreatDoor
open Go.RowKit

structure ErrE (L : List Nat) (w : World) (a : Nat → Addr) : Prop where
  glob : ∀ i, L.contains i = true → w.cell? ⟨errG i, 0, none⟩ = some (sentV a i)
theorem ErrE.below {L : List Nat} {w0 w w' : World} {a : Nat → Addr} (h : ErrE L w a) (hb : Below w0.heap.size w w') (hle : w.heap.size ≤ w0.heap.size) : ErrE L w' a where
  glob i hi := by rw [hb.cell (p := ⟨errG i, 0, none⟩) (Nat.lt_of_lt_of_le (lt_of_cell (h.glob i hi)) hle)]; exact h.glob i hi
theorem ErrE.sub {L M : List Nat} {w : World} {a : Nat → Addr} (h : ErrE L w a) (hs : (M.all fun i => L.contains i) = true) : ErrE M w a where
  glob i hi := h.glob i (List.all_eq_true.1 hs i (List.contains_iff_mem.1 hi))
theorem ErrW.on {L : List Nat} {w : World} {a : Nat → Addr} (h : ErrW w a) (hl : (L.all fun i => decide (i < 12)) = true) : ErrE L w a where
  glob i hi := h.glob i (by simpa using List.all_eq_true.1 hl i (List.contains_iff_mem.1 hi))
end Go.Proofs.YtcbcjefefmbccabGreatDoor
namespace Go.Proofs.YtcbcjefefmbccabGreatDoor
open Go.RowKit

abbrev ErrG (w : World) (a : Nat → Addr) : Prop := ErrE [0, 1, 4, 6, 7, 8, 9, 10] w a
theorem ErrW.some {w : World} {a : Nat → Addr} (h : ErrW w a) : ErrG w a := h.on (by decide)
end Go.Proofs.YtcbcjefefmbccabGreatDoor
namespace Go.Proofs.YtcbcjefefmbccabGreatDoor
open Go.Shelf Go.RowKit Go.Lib Go.Sort
variable {P : Program} {ρ : Ren} {α : Type}

structure Srt [Inhabited α] (P : Program) (lt : α → α → Bool) (g : Nat) (lb : Array Value) (sf : Nat) (sb : Array Value) (blk n n0 : Nat) (I : World → Array α → Prop) : Prop where
  eg : ∀ args w, (callFunc g args).run P w = .ok (.enter g args) w
  blt : ∀ {W : World} {d : Array α}, I W d → blk < W.heap.size
  size : ∀ {W : World} {d : Array α}, I W d → d.size = n
  keep : ∀ {W W' : World} {d : Array α}, I W d → W.grownBy W' none → I W' d
  le : ∀ {W : World} {d : Array α}, I W d → n0 ≤ W.heap.size
  keepAt : ∀ {W W' : World} {d : Array α} {c : Nat}, I W d → n0 ≤ c → W.grownBy W' (some c) → I W' d
  less : ∀ {W : World} {d : Array α} (x y : Int) (i j : Nat), x = (i : Int) → y = (j : Int) → I W d → i < n → j < n → Calls P g (#[.int .i64 x, .int .i64 y] ++ lb) W fun e w' => e = .returned (.bool (lt d[i]! d[j]!)) ∧ W.grownBy w' none
  swap : ∀ {W : World} {d : Array α} (x y : Int) (i j : Nat), x = (i : Int) → y = (j : Int) → I W d → i < n → j < n → ∃ W', (callFunc sf (#[.int .i64 x, .int .i64 y] ++ sb)).run P W = .ok (.value (.tuple #[])) W' ∧ I W' (swp d i j) ∧ W.grownBy W' (some blk)

/- Since w0 only new blocks were laid and the row was turned; it holds d. -/
structure SrtAt (I : World → Array α → Prop) (blk : Nat) (w0 W : World) (d : Array α) : Prop where
  inv : I W d
  grown : w0.grownBy W (some blk)
theorem SrtAt.start {I : World → Array α → Prop} {blk : Nat} {w : World} {d : Array α} (h : I w d) : SrtAt I blk w w d := ⟨h, ⟨rfl, rfl, rfl, Nat.le_refl _, fun _ _ _ => rfl⟩⟩
variable {lt : α → α → Bool} {g : Nat} {lb : Array Value} {sf : Nat} {sb : Array Value} {blk n n0 : Nat} {I : World → Array α → Prop} {w0 W W' : World} {d d' : Array α}
theorem SrtAt.grow [Inhabited α] (S : Srt P lt g lb sf sb blk n n0 I) (h : SrtAt I blk w0 W d) (hg : W.grownBy W' none) : SrtAt I blk w0 W' d := ⟨S.keep h.inv hg, h.grown.andThen hg (fun j hj => by cases hj)⟩
theorem SrtAt.turn (h : SrtAt I blk w0 W d) (hi : I W' d') (hg : W.grownBy W' (some blk)) : SrtAt I blk w0 W' d' := ⟨hi, h.grown.andThen hg (fun _ hj => .inr hj)⟩
theorem grown_drewN (w : World) (q : Nat) : w.grownBy (w.drewN q) none := ⟨rfl, rfl, rfl, Nat.le_refl _, fun _ _ _ => rfl⟩
theorem SrtAt.drewN [Inhabited α] (S : Srt P lt g lb sf sb blk n n0 I) (h : SrtAt I blk w0 W d) (q : Nat) : SrtAt I blk w0 (W.drewN q) d := h.grow S (grown_drewN W q)
theorem SrtAt.alloc [Inhabited α] (S : Srt P lt g lb sf sb blk n n0 I) (h : SrtAt I blk w0 W d) (o : Obj) : SrtAt I blk w0 (W.alloc o) d := h.grow S (World.grownBy_alloc W o none)
/- What a block that is not the row's holds. -/
theorem SrtAt.cell (h : SrtAt I blk w0 W d) {a : Addr} {v : Value} (h0 : w0.cell? a = some v) (ha : a.block ≠ blk) (hl : a.block < w0.heap.size) : W.cell? a = some v :=
  (World.cell?_of_block (w := w0) (h.grown.block _ hl (fun e => ha (Option.some.inj e)))).trans h0
theorem SrtAt.box {w : World} {x y : Value} {t : TypeId} (h : SrtAt I blk (w.alloc (.cells #[x, y] t)) W d) (hb : blk < w.heap.size) : W.cell? ⟨w.heap.size, 0, none⟩ = some x ∧ W.cell? ⟨w.heap.size, 1, none⟩ = some y :=
  ⟨h.cell (by simp) (by show w.heap.size ≠ blk; omega) (by simp), h.cell (by simp) (by show w.heap.size ≠ blk; omega) (by simp)⟩
theorem SrtAt.off {w : World} {o : Obj} (h : SrtAt I blk (w.alloc o) W d) : w.grownBy W (some blk) := (World.grownBy_alloc w o (some blk)).andThen h.grown (fun _ hj => .inr hj)

set_option maxHeartbeats 2000000 in
set_option maxRecDepth 100000 in
theorem srt_insertion [Inhabited α] (L : LaysGg.n26 P ρ) (S : Srt P lt g lb sf sb blk n n0 I) (a b : Nat) (d : Array α) (w : World) (hI : I w d) (hab : a ≤ b) (hb : b ≤ n) (hsz : n < 4611686018427387904) :
    Calls P (ρ.f 26) #[.agg #[.func (.func g) #[] lb, .func (.func sf) #[] sb], .int .i64 a, .int .i64 b] w fun e w' => e = .returned (.tuple #[]) ∧ I w' (Sort.insertionSort lt d a b) ∧ w.grownBy w' (some blk) := by
  have mixed := L.mixed; have t0 := L.t0; have a0 := L.a0; have z0 := L.z0; have v0 := L.v0; have t3 := L.t3; have a3 := L.a3; have z3 := L.z3; have v3 := L.v3; have t4 := L.t4; have a4 := L.a4; have z4 := L.z4; have v4 := L.v4; have t26 := L.t26; have a26 := L.a26; have z26 := L.z26; have v26 := L.v26; have t37 := L.t37; have a37 := L.a37; have z37 := L.z37; have v37 := L.v37; have t44 := L.t44; have a44 := L.a44; have z44 := L.z44; have v44 := L.v44
  have u44 := run_underlying L.t44
  have eg := S.eg
  have hblk := S.blt hI
  have A0 : SrtAt I blk (w.alloc (.cells #[.func (.func g) #[] lb, .func (.func sf) #[] sb] (ρ.t 44))) (w.alloc (.cells #[.func (.func g) #[] lb, .func (.func sf) #[] sb] (ρ.t 44))) d := .start (S.keep hI (World.grownBy_alloc w _ none))
  go_enter L.f26, BodyGg.n26_ntmps ρ
  go_wp2
  go_loopw [6] (fun vi wr => ∃ (i : Nat) (dk : Array α), vi = .int .i64 i ∧ a < i ∧ i ≤ b + 1 ∧ SrtAt I blk (w.alloc (.cells #[.func (.func g) #[] lb, .func (.func sf) #[] sb] (ρ.t 44))) wr dk ∧ Hid (insOuter lt a b i dk = insOuter lt a b (a + 1) d)) (fun vi _ => b + 1 - (intOf vi).toNat)
  case atStart => exact ⟨a + 1, d, by go_num, by omega, by omega, A0, rfl⟩
  case round =>
    obtain ⟨i, dk, rfl, hai, hib, hA, HO⟩ := hrel
    go_wp2
    · go_loopw [7] (fun vj wr2 => ∃ (j : Nat) (dj : Array α), vj = .int .i64 j ∧ a ≤ j ∧ j ≤ i ∧ SrtAt I blk (w.alloc (.cells #[.func (.func g) #[] lb, .func (.func sf) #[] sb] (ρ.t 44))) wr2 dj ∧ Hid (insInner lt a j dj = insInner lt a i dk)) (fun vj _ => (intOf vj).toNat)
      case atStart => exact ⟨i, dk, rfl, by omega, Nat.le_refl _, hA, rfl⟩
      case round =>
        clear hA
        obtain ⟨j, dj, rfl, haj, hji, hA, HI⟩ := hrel
        have hlt : i < b := by assumption
        obtain ⟨c0, _⟩ := hA.box hblk
        have OUT : (j ≤ a ∨ lt dj[j]! dj[j - 1]! = false) → ∀ W, SrtAt I blk (w.alloc (.cells #[.func (.func g) #[] lb, .func (.func sf) #[] sb] (ρ.t 44))) W dj → ∃ (i' : Nat) (dk' : Array α), Value.int .i64 ((i : Int) + 1) = .int .i64 i' ∧ a < i' ∧ i' ≤ b + 1 ∧ SrtAt I blk (w.alloc (.cells #[.func (.func g) #[] lb, .func (.func sf) #[] sb] (ρ.t 44))) W dk' ∧ Hid (insOuter lt a b i' dk' = insOuter lt a b (a + 1) d) := fun hs W hW =>
          ⟨i + 1, dj, by go_num, by omega, by omega, hW, (show Hid _ from by rw [← HO.out, insOuter_go _ _ _ _ _ hlt, ← HI.out, insInner_stop _ _ _ _ hs]; exact rfl)⟩
        have OUT : Aside _ := OUT
        by_cases hja : a < j
        · have hl := S.less (j : Int) ((j : Int) - 1) j (j - 1) rfl (by omega) hA.inv (by omega) (by omega)
          cases hlv : lt dj[j]! dj[j - 1]! with
          | true =>
            rw [hlv] at hl
            go_wp2_with (go_at_fn g; refine hl.mono ?_; rintro e w1 ⟨rfl, hg1⟩; have hA1 := hA.grow S hg1; obtain ⟨_, c1⟩ := hA1.box hblk; obtain ⟨w2, hs, hI2, hg2⟩ := S.swap (j : Int) ((j : Int) - 1) j (j - 1) rfl (by omega) hA1.inv (by omega) (by omega))
            go_roundw
            case rel =>
              (repeat apply Exists.intro)
              exact ⟨⟨j - 1, swp dj j (j - 1), by congr 1 <;> omega, by omega, by omega, hA1.turn hI2 hg2, (show Hid _ from by rw [← HI.out, insInner_go lt a j dj hja hlv]; exact rfl)⟩, by rw [decide_eq_true hlt, show ((j - 1 : Nat) : Int) = (j : Int) - 1 by omega]⟩
            case measure => simp [intOf]; omega
          | false =>
            rw [hlv] at hl
            go_wp2_with (go_at_fn g; refine hl.mono ?_; rintro e w1 ⟨rfl, hg1⟩; have hA1 := hA.grow S hg1)
            go_roundw
            case rel => exact OUT.out (Or.inr hlv) _ hA1
            case measure => simp [intOf]; omega
        · go_wp2
          go_roundw
          case rel => exact OUT.out (Or.inl (by omega)) _ hA
          case measure => simp [intOf]; omega
    · have hge : ¬ i < b := by assumption
      go_end0
      exact ⟨rfl, by unfold Sort.insertionSort; rw [← HO.out, insOuter_stop _ _ _ _ _ hge]; exact hA.inv, hA.off⟩
end Go.Proofs.YtcbcjefefmbccabGreatDoor
namespace Go.Proofs.YtcbcjefefmbccabGreatDoor
open Go.Shelf Go.RowKit Go.Lib Go.Sort

structure Cnt (c s : Nat) (w : World) : Prop where
  cell : w.cell? ⟨c, 0, none⟩ = some (.int .i64 (s : Int))
  free : w.frozen? ⟨c, 0, none⟩ = false
  lt : c < w.heap.size
theorem Cnt.kept {c s : Nat} {w w' : World} {row : Option Nat} (h : Cnt c s w) (hg : w.grownBy w' row) (hr : some c ≠ row) : Cnt c s w' :=
  ⟨(World.cell?_of_block (w := w) (hg.block c h.lt hr)).trans h.cell, (World.frozen?_of_block (w := w) (hg.block c h.lt hr)).trans h.free, Nat.lt_of_lt_of_le h.lt hg.size⟩
theorem Cnt.set {c s : Nat} {w : World} (h : Cnt c s w) (t : Nat) {v : Int} (hv : v = (t : Int)) : Cnt c t (w.setCell ⟨c, 0, none⟩ (.int .i64 v)) := by
  subst hv
  exact ⟨World.cell?_setCell_same _ _ _ h.cell, by simpa using h.free, by simpa [World.setCell] using h.lt⟩
theorem grown_set {w w' : World} {c : Nat} (h : w.grownBy w' (some c)) (i : Nat) (v : Value) : w.grownBy (w'.setCell ⟨c, i, none⟩ v) (some c) :=
  ⟨h.os, h.tape, h.output, by simpa [World.setCell] using h.size, fun k hk hne => (RowKit.Below.heap_setCell w' ⟨c, i, none⟩ v k (fun e => hne (by rw [e]))).trans (h.block k hk hne)⟩
theorem grown_refl (w : World) (row : Option Nat) : w.grownBy w row := ⟨rfl, rfl, rfl, Nat.le_refl _, fun _ _ _ => rfl⟩
theorem grown_trans {a b c : World} {row : Option Nat} (h : a.grownBy b row) (k : b.grownBy c row) : a.grownBy c row := h.andThen k (fun _ hj => .inr hj)
theorem cell_kept {w w' : World} {row : Option Nat} {a : Addr} {v : Value} (h : w.cell? a = some v) (hg : w.grownBy w' row) (hl : a.block < w.heap.size) (hr : some a.block ≠ row) : w'.cell? a = some v := (World.cell?_of_block (w := w) (hg.block _ hl hr)).trans h

variable {P : Program} {ρ : Ren} {α : Type} [Inhabited α] {lt : α → α → Bool} {g : Nat} {lb : Array Value} {sf : Nat} {sb : Array Value} {blk n n0 : Nat} {I : World → Array α → Prop}
set_option maxHeartbeats 1000000 in
set_option maxRecDepth 100000 in
theorem srt_order2 (L : LaysGg.n39 P ρ) (S : Srt P lt g lb sf sb blk n n0 I) (a b c s : Nat) (d : Array α) (w : World) (hI : I w d) (hc : Cnt c s w) (ha : a < n) (hb : b < n) (hs : s < 4611686018427387904) :
    Calls P (ρ.f 39) #[.agg #[.func (.func g) #[] lb, .func (.func sf) #[] sb], .int .i64 a, .int .i64 b, .pointer (some ⟨c, 0, none⟩)] w fun e w' => e = .returned (.tuple #[.int .i64 (order2 lt d a b s).1, .int .i64 (order2 lt d a b s).2.1]) ∧ Cnt c (order2 lt d a b s).2.2 w' ∧ w.grownBy w' (some c) := by
  have mixed := L.mixed; have t0 := L.t0; have a0 := L.a0; have z0 := L.z0; have v0 := L.v0; have t3 := L.t3; have a3 := L.a3; have z3 := L.z3; have v3 := L.v3; have t4 := L.t4; have a4 := L.a4; have z4 := L.z4; have v4 := L.v4; have t26 := L.t26; have a26 := L.a26; have z26 := L.z26; have v26 := L.v26; have t37 := L.t37; have a37 := L.a37; have z37 := L.z37; have v37 := L.v37; have t44 := L.t44; have a44 := L.a44; have z44 := L.z44; have v44 := L.v44; have t64 := L.t64; have a64 := L.a64; have z64 := L.z64; have v64 := L.v64
  have u44 := run_underlying L.t44
  have eg := S.eg
  have hg0 : w.grownBy (w.alloc (.cells #[.func (.func g) #[] lb, .func (.func sf) #[] sb] (ρ.t 44))) none := World.grownBy_alloc w _ none
  have hl := S.less (b : Int) (a : Int) b a rfl rfl (S.keep hI hg0) hb ha
  have hc1 := hc.kept hg0 (by simp)
  go_enter L.f39, BodyGg.n39_ntmps ρ
  cases hlv : lt d[b]! d[a]! with
  | true =>
    rw [hlv] at hl
    have e2 : order2 lt d a b s = (b, a, s + 1) := by simp [order2, hlv]
    go_wp2_with (go_at_fn g; refine hl.mono ?_; rintro e w1 ⟨rfl, hg1⟩; have hc2 := hc1.kept hg1 (by simp); have cs := hc2.cell; have fs := hc2.free)
    go_ret2
    rw [e2]
    exact ⟨rfl, hc2.set (s + 1) (by simp), grown_set ((hg0.andThen hg1 (fun _ hj => by cases hj)).but _) 0 _⟩
  | false =>
    rw [hlv] at hl
    have e2 : order2 lt d a b s = (a, b, s) := by simp [order2, hlv]
    go_wp2_with (go_at_fn g; refine hl.mono ?_; rintro e w1 ⟨rfl, hg1⟩)
    go_ret2
    rw [e2]
    exact ⟨rfl, hc1.kept hg1 (by simp), (hg0.andThen hg1 (fun _ hj => by cases hj)).but _⟩

set_option maxHeartbeats 1000000 in
set_option maxRecDepth 100000 in
theorem srt_median (L : LaysGg.n38 P ρ) (S : Srt P lt g lb sf sb blk n n0 I) (a b c k s : Nat) (d : Array α) (w : World) (hI : I w d) (hk : Cnt k s w) (hn : n0 ≤ k) (ha : a < n) (hb : b < n) (hc : c < n) (hs : s + 3 < 4611686018427387904) :
    Calls P (ρ.f 38) #[.agg #[.func (.func g) #[] lb, .func (.func sf) #[] sb], .int .i64 a, .int .i64 b, .int .i64 c, .pointer (some ⟨k, 0, none⟩)] w fun e w' => e = .returned (.int .i64 (median lt d a b c s).1) ∧ Cnt k (median lt d a b c s).2 w' ∧ w.grownBy w' (some k) := by
  have mixed := L.mixed; have t0 := L.t0; have a0 := L.a0; have z0 := L.z0; have v0 := L.v0; have t3 := L.t3; have a3 := L.a3; have z3 := L.z3; have v3 := L.v3; have t4 := L.t4; have a4 := L.a4; have z4 := L.z4; have v4 := L.v4; have t26 := L.t26; have a26 := L.a26; have z26 := L.z26; have v26 := L.v26; have t37 := L.t37; have a37 := L.a37; have z37 := L.z37; have v37 := L.v37; have t44 := L.t44; have a44 := L.a44; have z44 := L.z44; have v44 := L.v44; have t64 := L.t64; have a64 := L.a64; have z64 := L.z64; have v64 := L.v64; have t67 := L.t67; have a67 := L.a67; have z67 := L.z67; have v67 := L.v67
  have u44 := run_underlying L.t44
  have e39 : ∀ args w, (callFunc (ρ.f 39) args).run P w = .ok (.enter (ρ.f 39) args) w := enters_of L.f39 (by kernel_rfl) rfl
  have l1 := order2_lt' lt d s ha hb
  have s1 := order2_swaps' lt d a b s
  have l2 := order2_lt' lt d (order2 lt d a b s).2.2 l1.2 hc
  have s2 := order2_swaps' lt d (order2 lt d a b s).2.1 c (order2 lt d a b s).2.2
  have hg0 : w.grownBy (w.alloc (.cells #[.func (.func g) #[] lb, .func (.func sf) #[] sb] (ρ.t 44))) none := World.grownBy_alloc w _ none
  have x0 : (w.alloc (.cells #[.func (.func g) #[] lb, .func (.func sf) #[] sb] (ρ.t 44))).cell? ⟨w.heap.size, 0, none⟩ = some (.func (.func g) #[] lb) := by simp
  have x1 : (w.alloc (.cells #[.func (.func g) #[] lb, .func (.func sf) #[] sb] (ρ.t 44))).cell? ⟨w.heap.size, 1, none⟩ = some (.func (.func sf) #[] sb) := by simp
  have hne : some w.heap.size ≠ some k := fun e => by have := hk.lt; have := Option.some.inj e; omega
  have hlt : w.heap.size < (w.alloc (.cells #[.func (.func g) #[] lb, .func (.func sf) #[] sb] (ρ.t 44))).heap.size := by simp
  have st1 := srt_order2 (ρ := ρ) { L with } S a b k s d _ (S.keep hI hg0) (hk.kept hg0 (by simp)) ha hb (by omega)
  go_enter L.f38, BodyGg.n38_ntmps ρ
  go_wp2_with (go_at_fn_of (ρ.f 39) (Value.int .i64 (b : Int)); refine st1.mono ?_; rintro e w1 ⟨rfl, hk1, hg1⟩; have y0 := cell_kept x0 hg1 hlt hne; have y1 := cell_kept x1 hg1 hlt hne; have hI1 := S.keepAt (S.keep hI hg0) hn hg1; have st2 := srt_order2 (ρ := ρ) { L with } S (order2 lt d a b s).2.1 c k (order2 lt d a b s).2.2 d w1 hI1 hk1 l1.2 hc (by omega))
  have hlt1 := Nat.lt_of_lt_of_le hlt hg1.size
  go_wp2_with (go_at_fn_of (ρ.f 39) (Value.int .i64 (c : Int)); refine st2.mono ?_; rintro e w2 ⟨rfl, hk2, hg2⟩; have q0 := cell_kept y0 hg2 hlt1 hne; have q1 := cell_kept y1 hg2 hlt1 hne; have hI2 := S.keepAt hI1 hn hg2; have st3 := srt_order2 (ρ := ρ) { L with } S (order2 lt d a b s).1 (order2 lt d (order2 lt d a b s).2.1 c (order2 lt d a b s).2.2).1 k (order2 lt d (order2 lt d a b s).2.1 c (order2 lt d a b s).2.2).2.2 d w2 hI2 hk2 l1.1 l2.1 (by omega))
  go_wp2_with (go_at_fn_of (ρ.f 39) (Value.int .i64 ((order2 lt d a b s).1 : Int)); refine st3.mono ?_; rintro e w3 ⟨rfl, hk3, hg3⟩)
  go_ret
  exact ⟨rfl, hk3, grown_trans (grown_trans (grown_trans (hg0.but _) hg1) hg2) hg3⟩

set_option maxHeartbeats 1000000 in
set_option maxRecDepth 100000 in
theorem srt_medAdj (L : LaysGg.n37 P ρ) (S : Srt P lt g lb sf sb blk n n0 I) (a k s : Nat) (d : Array α) (w : World) (hI : I w d) (hk : Cnt k s w) (hn : n0 ≤ k) (ha1 : 1 ≤ a) (ha2 : a + 1 < n) (hsz : n < 4611686018427387904) (hs : s + 3 < 4611686018427387904) :
    Calls P (ρ.f 37) #[.agg #[.func (.func g) #[] lb, .func (.func sf) #[] sb], .int .i64 a, .pointer (some ⟨k, 0, none⟩)] w fun e w' => e = .returned (.int .i64 (medianAdjacent lt d a s).1) ∧ Cnt k (medianAdjacent lt d a s).2 w' ∧ w.grownBy w' (some k) := by
  have mixed := L.mixed; have t0 := L.t0; have a0 := L.a0; have z0 := L.z0; have v0 := L.v0; have t3 := L.t3; have a3 := L.a3; have z3 := L.z3; have v3 := L.v3; have t4 := L.t4; have a4 := L.a4; have z4 := L.z4; have v4 := L.v4; have t26 := L.t26; have a26 := L.a26; have z26 := L.z26; have v26 := L.v26; have t37 := L.t37; have a37 := L.a37; have z37 := L.z37; have v37 := L.v37; have t44 := L.t44; have a44 := L.a44; have z44 := L.z44; have v44 := L.v44; have t64 := L.t64; have a64 := L.a64; have z64 := L.z64; have v64 := L.v64; have t67 := L.t67; have a67 := L.a67; have z67 := L.z67; have v67 := L.v67
  have u44 := run_underlying L.t44
  have e38 : ∀ args w, (callFunc (ρ.f 38) args).run P w = .ok (.enter (ρ.f 38) args) w := enters_of L.f38 (by kernel_rfl) rfl
  have hg0 : w.grownBy (w.alloc (.cells #[.func (.func g) #[] lb, .func (.func sf) #[] sb] (ρ.t 44))) none := World.grownBy_alloc w _ none
  have hm := srt_median (ρ := ρ) { L with } S (a - 1) a (a + 1) k s d _ (S.keep hI hg0) (hk.kept hg0 (by simp)) hn (by omega) (by omega) ha2 hs
  rw [show ((a - 1 : Nat) : Int) = (a : Int) - 1 by omega, show ((a + 1 : Nat) : Int) = (a : Int) + 1 by omega] at hm
  go_enter L.f37, BodyGg.n37_ntmps ρ
  go_wp2_with (go_at_fn (ρ.f 38); refine hm.mono ?_; rintro e w1 ⟨rfl, hk1, hg1⟩)
  go_ret
  exact ⟨rfl, hk1, grown_trans (hg0.but _) hg1⟩

/- What choosePivot_func's three ways end with. -/
set_option maxHeartbeats 4000000 in
set_option maxRecDepth 100000 in
theorem srt_pivot (L : LaysGg.n29 P ρ) (S : Srt P lt g lb sf sb blk n n0 I) (a b : Nat) (d : Array α) (w : World) (hI : I w d) (hab : a < b) (hb : b ≤ n) (hsz : n < 4611686018427387904) :
    Calls P (ρ.f 29) #[.agg #[.func (.func g) #[] lb, .func (.func sf) #[] sb], .int .i64 a, .int .i64 b] w fun e w' => e = .returned (.tuple #[.int .i64 (choosePivot lt d a b).1, .int .i64 (hintCode (choosePivot lt d a b).2)]) ∧ w.grownBy w' none := by
  have mixed := L.mixed; have t0 := L.t0; have a0 := L.a0; have z0 := L.z0; have v0 := L.v0; have t3 := L.t3; have a3 := L.a3; have z3 := L.z3; have v3 := L.v3; have t4 := L.t4; have a4 := L.a4; have z4 := L.z4; have v4 := L.v4; have t26 := L.t26; have a26 := L.a26; have z26 := L.z26; have v26 := L.v26; have t37 := L.t37; have a37 := L.a37; have z37 := L.z37; have v37 := L.v37; have t44 := L.t44; have a44 := L.a44; have z44 := L.z44; have v44 := L.v44; have t53 := L.t53; have a53 := L.a53; have z53 := L.z53; have v53 := L.v53; have t64 := L.t64; have a64 := L.a64; have z64 := L.z64; have v64 := L.v64; have t67 := L.t67; have a67 := L.a67; have z67 := L.z67; have v67 := L.v67
  have u44 := run_underlying L.t44
  have e37 : ∀ args w, (callFunc (ρ.f 37) args).run P w = .ok (.enter (ρ.f 37) args) w := enters_of L.f37 (by kernel_rfl) rfl
  have e38 : ∀ args w, (callFunc (ρ.f 38) args).run P w = .ok (.enter (ρ.f 38) args) w := enters_of L.f38 (by kernel_rfl) rfl
  rw [choosePivot_eq]
  have hn := Nat.le_succ_of_le (S.le hI)
  obtain ⟨W, hW⟩ : ∃ W, ((w.alloc (.cells #[.func (.func g) #[] lb, .func (.func sf) #[] sb] (ρ.t 44))).alloc (.cells #[.int .i64 0] (ρ.t 3))) = W := ⟨_, rfl⟩
  have hgW : w.grownBy W none := by rw [← hW]; exact (World.grownBy_alloc w _ none).andThen (World.grownBy_alloc _ _ none) (fun _ hj => by cases hj)
  have hIW := S.keep hI hgW
  have hK : Cnt (w.heap.size + 1) 0 W := by
    rw [← hW]
    exact ⟨by rw [World.cell?_alloc_at _ _ _ _ (by simp)]; rfl, World.frozen?_alloc_at _ _ _ _ (by simp), by simp⟩
  have bx0 : W.cell? ⟨w.heap.size, 0, none⟩ = some (.func (.func g) #[] lb) := by rw [← hW, World.cell?_alloc_past _ _ _ (by simp)]; simp
  have bx1 : W.cell? ⟨w.heap.size, 1, none⟩ = some (.func (.func sf) #[] sb) := by rw [← hW, World.cell?_alloc_past _ _ _ (by simp)]; simp
  have hbl : w.heap.size < W.heap.size := by rw [← hW]; simp; omega
  have hne : some w.heap.size ≠ some (w.heap.size + 1) := fun e => by have := Option.some.inj e; omega
  have fin : ∀ {w' : World}, W.grownBy w' (some (w.heap.size + 1)) → w.grownBy w' none := fun h => hgW.andThen h (fun j hj => by cases hj; exact .inl (Nat.le_succ _))
  have fin : Aside _ := @fin
  obtain ⟨I1, hI1⟩ : ∃ I1 : Nat, I1 = a + (b - a) / 4 * 1 := ⟨_, rfl⟩
  obtain ⟨J, hJ⟩ : ∃ J : Nat, J = a + (b - a) / 4 * 2 := ⟨_, rfl⟩
  obtain ⟨K, hKK⟩ : ∃ K : Nat, K = a + (b - a) / 4 * 3 := ⟨_, rfl⟩
  have eI : ((a : Int) + ((b : Int) - (a : Int)) / 4) = (I1 : Int) := by omega
  have eJ : ((a : Int) + ((b : Int) - (a : Int)) / 4 * 2) = (J : Int) := by omega
  have eK : ((a : Int) + ((b : Int) - (a : Int)) / 4 * 3) = (K : Int) := by omega
  by_cases h8 : b - a ≥ 8
  · by_cases h50 : b - a ≥ 50
    · obtain ⟨i1, s1, h1⟩ : ∃ i1 s1, medianAdjacent lt d I1 0 = (i1, s1) := ⟨_, _, rfl⟩
      obtain ⟨j1, s2, h2⟩ : ∃ j1 s2, medianAdjacent lt d J s1 = (j1, s2) := ⟨_, _, rfl⟩
      obtain ⟨k1, s3, h3⟩ : ∃ k1 s3, medianAdjacent lt d K s2 = (k1, s3) := ⟨_, _, rfl⟩
      obtain ⟨p, s, h4⟩ : ∃ p s, median lt d i1 j1 k1 s3 = (p, s) := ⟨_, _, rfl⟩
      have hraw : rawPivot lt d a b = (p, s) := by simp only [rawPivot, if_pos h8, if_pos h50, ← hI1, ← hJ, ← hKK, h1, h2, h3, h4]
      have m1 := medianAdjacent_mem lt d I1 0; rw [h1] at m1
      have m2 := medianAdjacent_mem lt d J s1; rw [h2] at m2
      have m3 := medianAdjacent_mem lt d K s2; rw [h3] at m3
      have n1 := medianAdjacent_count lt d I1 0; rw [h1] at n1
      have n2 := medianAdjacent_count lt d J s1; rw [h2] at n2
      have n3 := medianAdjacent_count lt d K s2; rw [h3] at n3
      simp only [] at m1 m2 m3 n1 n2 n3
      have c1 := srt_medAdj (ρ := ρ) { L with } S I1 (w.heap.size + 1) 0 d W hIW hK hn (by omega) (by omega) hsz (by omega)
      rw [h1] at c1
      have c2 : ∀ w1, Cnt (w.heap.size + 1) s1 w1 → W.grownBy w1 (some (w.heap.size + 1)) → _ := fun w1 hc hg => srt_medAdj (ρ := ρ) { L with } S J (w.heap.size + 1) s1 d w1 (S.keepAt hIW hn hg) hc hn (by omega) (by omega) hsz (by omega)
      rw [h2] at c2
      have c3 : ∀ w1, Cnt (w.heap.size + 1) s2 w1 → W.grownBy w1 (some (w.heap.size + 1)) → _ := fun w1 hc hg => srt_medAdj (ρ := ρ) { L with } S K (w.heap.size + 1) s2 d w1 (S.keepAt hIW hn hg) hc hn (by omega) (by omega) hsz (by omega)
      rw [h3] at c3
      have c4 : ∀ w1, Cnt (w.heap.size + 1) s3 w1 → W.grownBy w1 (some (w.heap.size + 1)) → _ := fun w1 hc hg => srt_median (ρ := ρ) { L with } S i1 j1 k1 (w.heap.size + 1) s3 d w1 (S.keepAt hIW hn hg) hc hn (by omega) (by omega) (by omega) (by omega)
      rw [h4] at c4
      rw [hraw]
      obtain ⟨Hc, hHc⟩ : ∃ Hc : Int, Hc = hintCode (hintOf s) := ⟨_, rfl⟩
      have hh0 : s = 0 → Hc = 1 := fun h => by rw [hHc, h]; rfl
      have hh12 : s = 12 → Hc = 2 := fun h => by rw [hHc, h]; rfl
      have hhx : s ≠ 0 → s ≠ 12 → Hc = 0 := fun h1 h2 => by rw [hHc]; unfold hintOf; rw [if_neg h1, if_neg h2]; rfl
      show Calls P (ρ.f 29) _ w fun e w' => e = .returned (.tuple #[.int .i64 (p : Int), .int .i64 (hintCode (hintOf s))]) ∧ w.grownBy w' none
      rw [← hHc]
      have C2 : Aside _ := c2
      have C3 : Aside _ := c3
      have C4 : Aside _ := c4
      clear hHc hraw h1 h2 h3 h4 hI1 hJ hKK m1 m2 m3 c2 c3 c4
      go_enter L.f29, BodyGg.n29_ntmps ρ
      go_wp2_with (first
        | (go_at_fn_of (ρ.f 37) (Value.int .i64 (I1 : Int)); refine c1.mono ?_; rintro e w1 ⟨rfl, k1', g1⟩; have y0 := cell_kept bx0 g1 hbl hne; have y1 := cell_kept bx1 g1 hbl hne)
        | (go_at_fn_of (ρ.f 37) (Value.int .i64 (J : Int)); refine (C2.out _ k1' g1).mono ?_; rintro e w2 ⟨rfl, k2, g2'⟩; have g2 := grown_trans g1 g2'; have x0 := cell_kept bx0 g2 hbl hne; have x1 := cell_kept bx1 g2 hbl hne)
        | (go_at_fn_of (ρ.f 37) (Value.int .i64 (K : Int)); refine (C3.out _ k2 g2).mono ?_; rintro e w3 ⟨rfl, k3, g3'⟩; have g3 := grown_trans g2 g3'; have q0 := cell_kept bx0 g3 hbl hne; have q1 := cell_kept bx1 g3 hbl hne)
        | (go_at_fn (ρ.f 38); refine (C4.out _ k3 g3).mono ?_; rintro e w4 ⟨rfl, k4, g4'⟩; have g4 := grown_trans g3 g4'; have u4 := k4.cell))
      all_goals
        go_ret2
        refine ⟨?_, fin.out g4⟩
        first
          | (have e0 : (s : Int) = 0 := of_beq_int (by assumption)
             rw [hh0 (by omega)]; rfl)
          | (have e1 : (s : Int) = 12 := of_beq_int (by assumption)
             rw [hh12 (by omega)]; rfl)
          | (have e0 : (s : Int) ≠ 0 := of_bne_int (by assumption)
             have e1 : (s : Int) ≠ 12 := of_bne_int (by assumption)
             rw [hhx (by omega) (by omega)]; rfl)
          | (rw [hh0 (by omega)]; rfl)
    · obtain ⟨p, s, h4⟩ : ∃ p s, median lt d I1 J K 0 = (p, s) := ⟨_, _, rfl⟩
      have hraw : rawPivot lt d a b = (p, s) := by simp only [rawPivot, if_pos h8, if_neg h50, ← hI1, ← hJ, ← hKK, h4]
      have c4 := srt_median (ρ := ρ) { L with } S I1 J K (w.heap.size + 1) 0 d W hIW hK hn (by omega) (by omega) (by omega) (by omega)
      rw [h4] at c4
      rw [hraw]
      obtain ⟨Hc, hHc⟩ : ∃ Hc : Int, Hc = hintCode (hintOf s) := ⟨_, rfl⟩
      have hh0 : s = 0 → Hc = 1 := fun h => by rw [hHc, h]; rfl
      have hh12 : s = 12 → Hc = 2 := fun h => by rw [hHc, h]; rfl
      have hhx : s ≠ 0 → s ≠ 12 → Hc = 0 := fun h1 h2 => by rw [hHc]; unfold hintOf; rw [if_neg h1, if_neg h2]; rfl
      show Calls P (ρ.f 29) _ w fun e w' => e = .returned (.tuple #[.int .i64 (p : Int), .int .i64 (hintCode (hintOf s))]) ∧ w.grownBy w' none
      rw [← hHc]
      clear hHc hraw h4 hI1 hJ hKK
      go_enter L.f29, BodyGg.n29_ntmps ρ
      go_wp2_with (first | (go_at_fn (ρ.f 38); refine c4.mono ?_; rintro e w4 ⟨rfl, k4, g4⟩; have u4 := k4.cell))
      all_goals
        go_ret2
        refine ⟨?_, fin.out g4⟩
        first
          | (have e0 : (s : Int) = 0 := of_beq_int (by assumption)
             rw [hh0 (by omega)]; rfl)
          | (have e1 : (s : Int) = 12 := of_beq_int (by assumption)
             rw [hh12 (by omega)]; rfl)
          | (have e0 : (s : Int) ≠ 0 := of_bne_int (by assumption)
             have e1 : (s : Int) ≠ 12 := of_bne_int (by assumption)
             rw [hhx (by omega) (by omega)]; rfl)
          | (rw [hh0 (by omega)]; rfl)
  · obtain ⟨p, hp⟩ : ∃ p : Nat, p = J := ⟨_, rfl⟩
    obtain ⟨s, hs⟩ : ∃ s : Nat, s = 0 := ⟨_, rfl⟩
    have hraw : rawPivot lt d a b = (p, s) := by simp only [rawPivot, if_neg h8, ← hJ, hp, hs]
    rw [hraw]
    obtain ⟨Hc, hHc⟩ : ∃ Hc : Int, Hc = hintCode (hintOf s) := ⟨_, rfl⟩
    have hh0 : s = 0 → Hc = 1 := fun h => by rw [hHc, h]; rfl
    have hh12 : s = 12 → Hc = 2 := fun h => by rw [hHc, h]; rfl
    have hhx : s ≠ 0 → s ≠ 12 → Hc = 0 := fun h1 h2 => by rw [hHc]; unfold hintOf; rw [if_neg h1, if_neg h2]; rfl
    show Calls P (ρ.f 29) _ w fun e w' => e = .returned (.tuple #[.int .i64 (p : Int), .int .i64 (hintCode (hintOf s))]) ∧ w.grownBy w' none
    rw [← hHc]
    rw [← hs] at hK
    have u4 := hK.cell
    clear hHc hraw
    subst hp
    clear hI1 hJ hKK
    go_enter L.f29, BodyGg.n29_ntmps ρ
    go_wp2
    all_goals
      go_ret2
      refine ⟨?_, hgW⟩
      first
        | (have e0 : (s : Int) = 0 := of_beq_int (by assumption)
           rw [hh0 (by omega)]; rfl)
        | (have e1 : (s : Int) = 12 := of_beq_int (by assumption)
           rw [hh12 (by omega)]; rfl)
        | (have e0 : (s : Int) ≠ 0 := of_bne_int (by assumption)
           have e1 : (s : Int) ≠ 12 := of_bne_int (by assumption)
           rw [hhx (by omega) (by omega)]; rfl)
        | (rw [hh0 (by omega)]; rfl)
end Go.Proofs.YtcbcjefefmbccabGreatDoor
namespace Go.Proofs.YtcbcjefefmbccabGreatDoor
open Go.RowKit Go.Maps

theorem hFind_mem_at {l : List Hd} {x : Nat × Int} {k : Nat} (h : hFind l x = some k) : ∃ (hk : k < l.length), (x, l[k].2) ∈ l := by
  obtain ⟨hk, e⟩ := hFind_some h
  refine ⟨hk, ?_⟩
  rw [← e]
  exact List.getElem_mem hk
theorem of_below {w w' : World} {b : Nat} {l : List Hd} (h : idPieces.Of w b l) (hb : Below w.heap.size w w') : idPieces.Of w' b l := h.kept (grown_of_below hb) (by simp)
theorem of_drew {w : World} {b : Nat} {l : List Hd} (h : idPieces.Of w b l) : idPieces.Of w.drew b l := h.kept (grown_drewN w 1) (by simp)
theorem below_drew {n : Nat} {w w' : World} (h : Below n w w') : Below n w w'.drew := h.drew

end Go.Proofs.YtcbcjefefmbccabGreatDoor
