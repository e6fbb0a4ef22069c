/-
  Own text. The program's bins: a map by IDs of pieces, its kit (idPieces); a bin in memory (PBin0): a block with a map's place, and the map.
-/
import Derived.Test.YteefjbdejcpepaaDoorMapKit
import Derived.Test.YteefjbdejcpepaaDoorBinSpec
import Derived.DeepKeys4
namespace Go.Proofs.YteefjbdejcpepaaDoor
open Go.RowKit Go.Maps

theorem Tryd.laidOut : laidOutB Tryd.prog = true := by kernel_rfl
theorem idRow : (37 : TypeId) < Tryd.prog.types.size := of_decide_eq_true (by kernel_rfl)
theorem idWide : (match Tryd.prog.underlying 37 with | some (.array _ _) | some (.struct _) => true | _ => false) = true := by rw [Tryd.underlying37]
set_option maxRecDepth 100000 in
theorem idDeep : Tryd.prog.keyTypeAt 2 37 = true := by kernel_rfl
set_option maxRecDepth 100000 in
theorem idLaw : WideMaps.KeyLaw Tryd.prog 37 := deep_law_laid Tryd.laidOut (m := 2) (Nat.le_of_ble_eq_true rfl) idRow idDeep idWide
theorem idKeyed : Keyed Tryd.prog 37 := Keyed.of_law idLaw
theorem idCellsK : Tryd.prog.cellsOf 37 = 2 := by kernel_rfl
theorem u32Cells : Tryd.prog.cellsOf 35 = 1 := by kernel_rfl
theorem intCells : Tryd.prog.cellsOf 3 = 1 := by kernel_rfl
theorem idKeyType : Tryd.prog.keyType 37 = true := by kernel_rfl
theorem typesSize : Tryd.prog.types.size = 264 := by kernel_rfl
theorem idFormed (a b : Value) : (Value.agg #[a, b]).formed Tryd.prog 37 = true := by simp [Value.formed, Tryd.underlying37, idCellsK]

theorem wf_u32 (n : Int) : (Lit.int .u32 n).wf = true ↔ 0 ≤ n ∧ n < 4294967296 := by
  show (decide (IntKind.u32.min ≤ n) && decide (n ≤ IntKind.u32.max)) = true ↔ _
  rw [show IntKind.u32.min = 0 from rfl, show IntKind.u32.max = 4294967295 from rfl, Bool.and_eq_true, decide_eq_true_eq, decide_eq_true_eq]
  omega
theorem wf_i64' (n : Int) : (Lit.int .i64 n).wf = true ↔ -9223372036854775808 ≤ n ∧ n ≤ 9223372036854775807 := by
  show (decide (IntKind.i64.min ≤ n) && decide (n ≤ IntKind.i64.max)) = true ↔ _
  rw [show IntKind.i64.min = -9223372036854775808 from rfl, show IntKind.i64.max = 9223372036854775807 from rfl, Bool.and_eq_true, decide_eq_true_eq, decide_eq_true_eq]
set_option maxRecDepth 100000 in
theorem u32Lits (d : Nat) (a : Value) (x : List Lit) (h : Tryd.prog.keyLits (d + 1) 35 [a] = some x) : ∃ n : Int, a = .int .u32 n ∧ (Lit.int .u32 n).wf = true ∧ x = [.int .u32 n] := by
  unfold Program.keyLits at h
  rw [Tryd.underlying35] at h
  cases a <;> simp at h
  obtain ⟨⟨rfl, hw⟩, rfl⟩ := h
  exact ⟨_, rfl, hw, rfl⟩
set_option maxRecDepth 100000 in
theorem intLits (d : Nat) (a : Value) (x : List Lit) (h : Tryd.prog.keyLits (d + 1) 3 [a] = some x) : ∃ n : Int, a = .int .i64 n ∧ (Lit.int .i64 n).wf = true ∧ x = [.int .i64 n] := by
  unfold Program.keyLits at h
  rw [Tryd.underlying3] at h
  cases a <;> simp at h
  obtain ⟨⟨rfl, hw⟩, rfl⟩ := h
  exact ⟨_, rfl, hw, rfl⟩
set_option maxRecDepth 100000 in
theorem idLits (d : Nat) (a b : Value) : Tryd.prog.keyLits (d + 1) 37 [a, b] = (Tryd.prog.keyLits d 35 [a]).bind fun x => (Tryd.prog.keyLits d 3 [b]).bind fun y => some (x ++ y) := by
  conv => lhs; unfold Program.keyLits
  rw [Tryd.underlying37]
  simp only [idCellsK]
  cases h1 : Tryd.prog.keyLits d 35 [a] <;> cases h2 : Tryd.prog.keyLits d 3 [b] <;> simp [u32Cells, intCells, h1, h2]
theorem idKey_eq (v0 v1 : Value) : keyOf Tryd.prog 37 (.agg #[v0, v1]) = (Tryd.prog.keyLits (264 + 1) 37 [v0, v1]).map fun ls => .string (keyBytes ls) := by
  unfold keyOf
  rw [Tryd.underlying37]
  simp only [idKeyType, idFormed, Bool.and_true, if_true, typesSize]
  rfl
set_option maxRecDepth 100000 in
theorem u32Lits_mk (d : Nat) (n : Int) (h : (Lit.int .u32 n).wf = true) : Tryd.prog.keyLits (d + 1) 35 [.int .u32 n] = some [.int .u32 n] := by
  unfold Program.keyLits
  rw [Tryd.underlying35]
  simp [h]
set_option maxRecDepth 100000 in
theorem intLits_mk (d : Nat) (n : Int) (h : (Lit.int .i64 n).wf = true) : Tryd.prog.keyLits (d + 1) 3 [.int .i64 n] = some [.int .i64 n] := by
  unfold Program.keyLits
  rw [Tryd.underlying3]
  simp [h]
theorem ntSucc : 264 = (264 - 1) + 1 := rfl
set_option maxRecDepth 100000 in
theorem idKey (x : Nat × Int) (h : WfID x) : ∃ kl, keyOf Tryd.prog 37 (idV (x.1 : Nat) x.2) = some kl := by
  obtain ⟨h1, h2⟩ := h
  refine ⟨.string (keyBytes [.int .u32 (x.1 : Nat), .int .i64 x.2]), ?_⟩
  rw [idKey_eq, idLits, ntSucc, u32Lits_mk _ _ ((wf_u32 _).2 (by omega)), intLits_mk _ _ ((wf_i64' _).2 h2)]
  rfl
set_option maxRecDepth 100000 in
theorem idInv (v : Value) (kl : Lit) (h : keyOf Tryd.prog 37 v = some kl) : ∃ x : Nat × Int, WfID x ∧ v = idV (x.1 : Nat) x.2 := by
  have hf : v.formed Tryd.prog 37 = true := by
    unfold keyOf at h
    rw [Tryd.underlying37] at h
    cases hv : v.formed Tryd.prog 37 with
    | true => rfl
    | false => simp [hv] at h
  obtain ⟨cs, rfl, hs⟩ : ∃ cs, v = .agg cs ∧ cs.size = 2 := by
    cases v <;> simp [Value.formed, Tryd.underlying37, idCellsK] at hf
    exact ⟨_, rfl, hf⟩
  obtain ⟨v0, v1, rfl⟩ : ∃ v0 v1, cs = #[v0, v1] := by
    obtain ⟨l⟩ := cs
    match l, hs with
    | [v0, v1], _ => exact ⟨v0, v1, rfl⟩
  rw [idKey_eq, idLits, ntSucc] at h
  cases h0 : Tryd.prog.keyLits (264 - 1 + 1) 35 [v0] with
  | none => rw [h0] at h; cases h
  | some a =>
    cases h1 : Tryd.prog.keyLits (264 - 1 + 1) 3 [v1] with
    | none => rw [h0, h1] at h; cases h
    | some b =>
      obtain ⟨n, rfl, hn, _⟩ := u32Lits _ _ _ h0
      obtain ⟨m, rfl, hm, _⟩ := intLits _ _ _ h1
      rw [wf_u32] at hn
      rw [wf_i64'] at hm
      have e : ((n.toNat : Nat) : Int) = n := by omega
      refine ⟨(n.toNat, m), ⟨by omega, hm⟩, ?_⟩
      simp only [e]

/- A piece as the map holds it. -/
abbrev pieceV (c : Int × List UInt8) : Value := .agg #[.string ⟨c.2.toArray⟩, .int .i64 c.1]
def unPiece : Value → Option (Int × List UInt8)
  | .agg cs => match cs.toList with
    | [.string s, .int .i64 u] => some (u, s.data.toList)
    | _ => none
  | _ => none
theorem unPiece_back (v : Value) (c : Int × List UInt8) (h : unPiece v = some c) : v = pieceV c := by
  unfold unPiece at h
  split at h
  next cs =>
    split at h
    next s u e =>
      cases h
      have : cs = #[Value.string s, Value.int .i64 u] := by rw [← Array.toArray_toList (xs := cs), e]
      rw [this]
    next => cases h
  next => cases h
def idPieces : MapKit Tryd.prog 37 (Nat × Int) (Int × List UInt8) where
  mkK x := idV (x.1 : Nat) x.2
  wf := WfID
  mkV := pieceV
  unV := unPiece
  K := idKeyed
  key := idKey
  inv := idInv
  inj x y e := by
    have e1 := Array.mk.inj (Value.agg.inj e)
    simp at e1
    exact Prod.ext (by omega) e1.2
  un _ := rfl
  back := unPiece_back

theorem pieceZero (w : World) : (zeroValue 114).run Tryd.prog w = .ok (pieceV (0, [])) w := by kernel_rfl

/- A bin of the program's in memory. -/
def PBin0 (w : World) (p : Addr) (F : Nat → Prop) (l : List Hd) : Prop :=
  ∃ B b, p = ⟨B, 0, none⟩ ∧ Blk w B #[.map (some b)] 111 ∧ idPieces.Of w b l ∧ B ≠ b ∧ F = fun k => k = B ∨ k = b
theorem PBin0.lt {w : World} {p : Addr} {F : Nat → Prop} {l : List Hd} (h : PBin0 w p F l) : ∀ k, F k → k < w.heap.size := by
  obtain ⟨B, b, rfl, hB, hb, _, rfl⟩ := h
  rintro k (rfl | rfl)
  · exact hB.lt
  · exact hb.lt
theorem PBin0.off {w w' : World} {p : Addr} {F G : Nat → Prop} {l : List Hd} (h : PBin0 w p F l) (ho : Off G w w') (hG : ∀ k, F k → ¬ G k) : PBin0 w' p F l := by
  obtain ⟨B, b, rfl, hB, hb, hne, rfl⟩ := h
  exact ⟨B, b, rfl, ho.blk hB (hG B (.inl rfl)), hb.moved (ho.block b hb.lt (hG b (.inr rfl))), hne, rfl⟩
theorem BinOk.wfs {U : Int} {l : List Hd} (h : BinOk U l) : ∀ x ∈ l, WfID x.1 := fun x hx => by
  obtain ⟨e, h1, _⟩ := h.each x hx
  rw [e]
  exact ⟨pmore_lt _ (by decide) _, by simp only [idOfL]; omega, by simp only [idOfL]; omega⟩
theorem errIn_sent (base : Nat) (w : World) (a : Nat → Addr) (k : Nat) (hk : k < 12) {c : Int} (hc : c = (k : Int) + 1) : ErrIn base w a (sentV a k) (c, -1) := .inr (.inl ⟨k, hk, rfl, by rw [hc]⟩)
theorem off_of_grown {w w' : World} {b : Nat} {F : Nat → Prop} (h : w.grownBy w' (some b)) (hF : F b) : Off F w w' := ⟨h.os, h.tape, h.output, h.size, fun k hk hf => h.block k hk (fun e => hf (by cases e; exact hF))⟩
/- A use more or less, as the map has it. -/
theorem modify_perm (d : Int) : ∀ (l : List Hd) (k : Nat) (hk : k < l.length), l.Pairwise (fun p q => p.1 ≠ q.1) → ((l[k].1, l[k].2.1 + d, l[k].2.2) :: l.filter (fun h => !decide (h.1 = l[k].1))).Perm (l.modify k (hUse d))
  | [], _, hk, _ => by simp at hk
  | y :: r, 0, _, hp => by
    obtain ⟨hy, _⟩ := List.pairwise_cons.1 hp
    have e : r.filter (fun h => !decide (h.1 = y.1)) = r := List.filter_eq_self.2 (fun h hm => by simp [Ne.symm (hy h hm)])
    show ((y.1, y.2.1 + d, y.2.2) :: List.filter (fun h => !decide (h.1 = y.1)) (y :: r)).Perm (hUse d y :: r)
    rw [List.filter_cons, if_neg (by simp), e]
    exact List.Perm.refl _
  | y :: r, k + 1, hk, hp => by
    obtain ⟨hy, hr⟩ := List.pairwise_cons.1 hp
    have hk' : k < r.length := by simpa using hk
    have ih := modify_perm d r k hk' hr
    have hne : y.1 ≠ r[k].1 := hy _ (List.getElem_mem hk')
    show ((r[k].1, r[k].2.1 + d, r[k].2.2) :: List.filter (fun h => !decide (h.1 = r[k].1)) (y :: r)).Perm (y :: r.modify k (hUse d))
    rw [List.filter_cons, if_pos (by simpa using hne)]
    exact (List.Perm.swap _ _ _).trans (ih.cons y)
end Go.Proofs.YteefjbdejcpepaaDoor
