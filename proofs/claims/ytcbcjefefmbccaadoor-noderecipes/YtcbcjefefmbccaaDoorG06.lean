/-
  Own text. The program's bin by contracts: Get, Drop.
  Own text. A node of the program's in memory: its two maps' kits (strRcps: names to recipes; idBins: reps to bins), a node as files and bins (NSt), where they lie (PNode).
  Own text. The least of a recipe's IDs, pure, and the document's RepOf by a contract.
  Own text. Hex digits written: digits.Hex and the document's HexOf by contracts.
  Own text. Decimal digits written: the document's Byte, below, Decimal by contracts.
-/
import Derived.Test.YtcbcjefefmbccaaDoorG05
import Derived.Deep.QuietTactic
import Derived.BigQuiet
import Derived.BigRegion
import Derived.Test.YtcbcjefefmbccaaDoorG02
import Derived.Maps.Keyed
import Derived.Test.YtcbcjefefmbccaaDoorG04
import Derived.Test.YtcbcjefefmbccaaDoorG03
import Derived.Deep.RegionHeld3
import Derived.RangeFuncRecord
import Derived.Laws.BytesArg
import Derived.Lib.SlBytesConst
import Derived.Laws.IdiomStrings
namespace Go.Proofs.YtcbcjefefmbccaaDoor
open Go.RowKit Go.Maps

theorem hFind_mem_at {l : List Hd} {x : Nat × Int} {k : Nat} (h : hFind l x = some k) : ∃ (hk : k < l.length), (x, l[k].2) ∈ l := by
  obtain ⟨hk, e⟩ := hFind_some h
  refine ⟨hk, ?_⟩
  rw [← e]
  exact List.getElem_mem hk
theorem of_below {w w' : World} {b : Nat} {l : List Hd} (h : idPieces.Of w b l) (hb : Below w.heap.size w w') : idPieces.Of w' b l := h.kept (grown_of_below hb) (by simp)
theorem of_drew {w : World} {b : Nat} {l : List Hd} (h : idPieces.Of w b l) : idPieces.Of w.drew b l := h.kept (grown_drewN w 1) (by simp)
theorem below_drew {n : Nat} {w w' : World} (h : Below n w w') : Below n w w'.drew := h.drew

set_option maxRecDepth 100000 in
set_option maxHeartbeats 4000000 in
theorem pGet_any {a : Nat → Addr} (x : Nat × Int) (p : Addr) (F : Nat → Prop) (l : List Hd) (w : World) (hx : WfID x) (hE : ErrE [4] w a) (hP : PBin0 w p F l) :
    Calls Tryd.prog 31 #[.pointer (some p), idV (x.1 : Nat) x.2] w fun e w' => ∃ ev, e = .returned (.tuple #[.string ⟨(hGet l x).1.toArray⟩, ev]) ∧ ErrIn w.heap.size w' a ev ((hGet l x).2, -1) ∧ Below w.heap.size w w' := by
  obtain ⟨B, b, rfl, hB, hM, hne, rfl⟩ := hP
  have hBl := hB.lt
  have hal := (Below.refl w.heap.size w).alloc (Nat.le_refl _) (.cells #[.int .u32 (x.1 : Nat), .int .i64 x.2] 37)
  have HG : Hid (∀ W', Below w.heap.size w W' → ∀ i, ([4] : List Nat).contains i = true → W'.cell? ⟨errG i, 0, none⟩ = some (sentV a i)) := fun W' hb i hi => (hE.below hb (Nat.le_refl _)).glob i hi
  cases hf : hFind l x with
  | none =>
    have e2 : Hid (hGet l x = ([], 5)) := by show _ = _; unfold hGet; rw [hf]
    have hn := hFind_not hf
    have hl : ∀ W : World, idPieces.Of W b l → (Instr.lookup 109 (.map (some b)) (idV (x.1 : Nat) x.2) true).run Tryd.prog W = .ok (.tuple #[pieceV (0, []), .bool false]) W := fun W h => h.look_none Tryd.underlying109 (pieceZero W) hx hn
    have hI := Blk.new w #[.int .u32 (x.1 : Nat), .int .i64 x.2] 37
    have hB1 := hB.next hal
    have hM1 := of_below hM hal
    go_enter Tryd.func31, Tryd.ntmps31
    go_wp2_with fail
    generalize hW : w.alloc (.cells #[.int .u32 (x.1 : Nat), .int .i64 x.2] 37) = W at *
    have hal2 := (Below.refl W.heap.size W).alloc (Nat.le_refl _) (.cells #[.string ⟨#[]⟩, .int .i64 0] 114)
    have hI2 := hI.next hal2
    have hB2 := hB1.next hal2
    have hM2 := of_below hM1 hal2
    have hP2 := Blk.new W #[.string ⟨#[]⟩, .int .i64 0] 114
    have hbw : Below w.heap.size w (W.alloc (.cells #[.string ⟨#[]⟩, .int .i64 0] 114)) := hal.trans (hal2.mono hal.size)
    have x0 := hI.cell (i := 0) rfl
    have x1 := hI.cell (i := 1) rfl
    have q0 := hB1.cell (i := 0) rfl
    have y0 := hI2.cell (i := 0) rfl
    have y1 := hI2.cell (i := 1) rfl
    have r0 := hB2.cell (i := 0) rfl
    have p0 := hP2.cell (i := 0) rfl
    have p1 := hP2.cell (i := 1) rfl
    have f0 := hP2.frozen 0
    have f1 := hP2.frozen 1
    have l1 := hl W.drew (of_drew hM1)
    have l2 := hl (W.alloc (.cells #[.string ⟨#[]⟩, .int .i64 0] 114)).drew (of_drew hM2)
    go_region
    all_goals
      go_wp2_with fail
      have hb3 := below_drew hbw
      have g4 : (W.alloc (.cells #[.string ⟨#[]⟩, .int .i64 0] 114)).drew.cell? ⟨4, 0, none⟩ = some (sentV a 4) := HG.out _ hb3 4 (by decide)
      generalize (W.alloc (.cells #[.string ⟨#[]⟩, .int .i64 0] 114)).drew = W3 at *
      go_region
      all_goals
        go_wp2_with fail
        go_ret2
        exact ⟨_, by rw [e2.out]; rfl, by rw [e2.out]; exact errIn_sent _ _ a 4 (by decide) rfl, below_drew hb3⟩
  | some k =>
    obtain ⟨hk, hm⟩ := hFind_mem_at hf
    have e2 : Hid (hGet l x = (l[k].2.2, 0)) := by show _ = _; unfold hGet; rw [hf]; simp [List.getElem?_eq_getElem hk]
    obtain ⟨⟨u, t⟩, hc⟩ : ∃ c, l[k].2 = c := ⟨_, rfl⟩
    rw [hc] at hm e2
    clear hc
    have hl : ∀ W : World, idPieces.Of W b l → (Instr.lookup 109 (.map (some b)) (idV (x.1 : Nat) x.2) true).run Tryd.prog W = .ok (.tuple #[pieceV (u, t), .bool true]) W := fun W h => h.look_some Tryd.underlying109 (pieceZero W) hm
    have hI := Blk.new w #[.int .u32 (x.1 : Nat), .int .i64 x.2] 37
    have hB1 := hB.next hal
    have hM1 := of_below hM hal
    go_enter Tryd.func31, Tryd.ntmps31
    go_wp2_with fail
    generalize hW : w.alloc (.cells #[.int .u32 (x.1 : Nat), .int .i64 x.2] 37) = W at *
    have hal2 := (Below.refl W.heap.size W).alloc (Nat.le_refl _) (.cells #[.string ⟨#[]⟩, .int .i64 0] 114)
    have hI2 := hI.next hal2
    have hB2 := hB1.next hal2
    have hM2 := of_below hM1 hal2
    have hP2 := Blk.new W #[.string ⟨#[]⟩, .int .i64 0] 114
    have hbw : Below w.heap.size w (W.alloc (.cells #[.string ⟨#[]⟩, .int .i64 0] 114)) := hal.trans (hal2.mono hal.size)
    have x0 := hI.cell (i := 0) rfl
    have x1 := hI.cell (i := 1) rfl
    have q0 := hB1.cell (i := 0) rfl
    have y0 := hI2.cell (i := 0) rfl
    have y1 := hI2.cell (i := 1) rfl
    have r0 := hB2.cell (i := 0) rfl
    have p0 := hP2.cell (i := 0) rfl
    have p1 := hP2.cell (i := 1) rfl
    have f0 := hP2.frozen 0
    have f1 := hP2.frozen 1
    have l1 := hl W.drew (of_drew hM1)
    have l2 := hl (W.alloc (.cells #[.string ⟨#[]⟩, .int .i64 0] 114)).drew (of_drew hM2)
    go_region
    all_goals
      have hal3 := (Below.refl W.heap.size W).alloc (Nat.le_refl _) (.cells #[.string ⟨t.toArray⟩, .int .i64 u] 114)
      have hP3 := Blk.new W #[.string ⟨t.toArray⟩, .int .i64 u] 114
      have hb3 := below_drew (hal.trans (hal3.mono hal.size))
      have t0 : (W.alloc (.cells #[.string ⟨t.toArray⟩, .int .i64 u] 114)).drew.cell? ⟨W.heap.size, 0, none⟩ = _ := hP3.cell (i := 0) rfl
      generalize (W.alloc (.cells #[.string ⟨t.toArray⟩, .int .i64 u] 114)).drew = W3 at *
      go_wp2_with fail
      go_ret2
      exact ⟨_, by rw [e2.out]; rfl, by rw [e2.out]; exact .inl ⟨rfl, rfl⟩, hb3⟩
end Go.Proofs.YtcbcjefefmbccaaDoor
namespace Go.Proofs.YtcbcjefefmbccaaDoor
open Go.RowKit Go.Maps

/- A recipe as a map holds it: name, length, print, the IDs' slice. -/
abbrev Rw := List UInt8 × Int × Int × Value
abbrev rwV (c : Rw) : Value := rcpV ⟨c.1.toArray⟩ c.2.1 c.2.2.1 c.2.2.2
def unRw : Value → Option Rw
  | .agg cs => match cs.toList with
    | [.string s, .int .i64 l, .int .u32 p, v] => some (s.data.toList, l, p, v)
    | _ => none
  | _ => none
theorem unRw_back (v : Value) (c : Rw) (h : unRw v = some c) : v = rwV c := by
  unfold unRw at h
  split at h
  next cs =>
    split at h
    next s l p v e =>
      cases h
      have : cs = #[Value.string s, Value.int .i64 l, Value.int .u32 p, v] := by rw [← Array.toArray_toList (xs := cs), e]
      rw [this]
    next => cases h
  next => cases h
theorem strKeyed : Keyed Tryd.prog 9 := string_keyed Tryd.underlying9
theorem strKey_eq (v : Value) : keyOf Tryd.prog 9 v = mapKey Tryd.prog 9 v := by
  unfold keyOf
  rw [Tryd.underlying9]
def WfNm (x : List UInt8) : Prop := x.length ≤ maxLen
set_option maxRecDepth 100000 in
theorem strKey (x : List UInt8) (hx : WfNm x) : ∃ kl, keyOf Tryd.prog 9 (.string ⟨x.toArray⟩) = some kl := by
  refine ⟨.string x, ?_⟩
  rw [strKey_eq]
  unfold mapKey
  rw [Tryd.underlying9]
  have h1 : x.toArray.size = x.length := List.size_toArray
  have : (⟨x.toArray⟩ : ByteArray).size ≤ maxLen := by show x.toArray.size ≤ maxLen; rw [h1]; exact hx
  simp only [this, if_true]
set_option maxRecDepth 100000 in
theorem strInv (v : Value) (kl : Lit) (h : keyOf Tryd.prog 9 v = some kl) : ∃ x : List UInt8, WfNm x ∧ v = .string ⟨x.toArray⟩ := by
  rw [strKey_eq] at h
  unfold mapKey at h
  rw [Tryd.underlying9] at h
  cases v <;> simp only [reduceCtorEq] at h
  next s =>
    split at h
    · rename_i hs
      exact ⟨s.data.toList, by show s.data.toList.length ≤ maxLen; rw [Array.length_toList]; exact hs, rfl⟩
    · cases h
def strRcps : MapKit Tryd.prog 9 (List UInt8) Rw where
  mkK x := .string ⟨x.toArray⟩
  wf := WfNm
  mkV := rwV
  unV := unRw
  K := strKeyed
  key := strKey
  inv := strInv
  inj x y e := by
    have e1 : (⟨x.toArray⟩ : ByteArray) = ⟨y.toArray⟩ := Value.string.inj e
    have e2 := congrArg (fun b : ByteArray => b.data.toList) e1
    simpa using e2
  un _ := rfl
  back := unRw_back

def unPtr : Value → Option (Option Addr)
  | .pointer p => some p
  | _ => none
def idBins : MapKit Tryd.prog 37 (Nat × Int) (Option Addr) where
  mkK x := idV (x.1 : Nat) x.2
  wf := WfID
  mkV p := .pointer p
  unV := unPtr
  K := idKeyed
  key := idKey
  inv := idInv
  inj x y e := by
    have e1 := Array.mk.inj (Value.agg.inj e)
    simp at e1
    exact Prod.ext (by omega) e1.2
  un _ := rfl
  back v c h := by
    unfold unPtr at h
    split at h
    · cases h; rfl
    · cases h
theorem ptrZero (w : World) : (zeroValue 52).run Tryd.prog w = .ok (.pointer none) w := by kernel_rfl
theorem rcpZero (w : World) : (zeroValue 87).run Tryd.prog w = .ok (rwV ([], 0, 0, .slice none 0 0)) w := by kernel_rfl
theorem ofS_drew {w : World} {b : Nat} {l : List (List UInt8 × Rw)} (h : strRcps.Of w b l) : strRcps.Of w.drew b l := h.kept (grown_drewN w 1) (by simp)
theorem ofS_below {w w' : World} {b : Nat} {l : List (List UInt8 × Rw)} (h : strRcps.Of w b l) (hb : Below w.heap.size w w') : strRcps.Of w' b l := h.kept (grown_of_below hb) (by simp)
theorem ofB_drew {w : World} {b : Nat} {l : List ((Nat × Int) × Option Addr)} (h : idBins.Of w b l) : idBins.Of w.drew b l := h.kept (grown_drewN w 1) (by simp)
theorem ofB_below {w w' : World} {b : Nat} {l : List ((Nat × Int) × Option Addr)} (h : idBins.Of w b l) (hb : Below w.heap.size w w') : idBins.Of w' b l := h.kept (grown_of_below hb) (by simp)
end Go.Proofs.YtcbcjefefmbccaaDoor
namespace Go.Proofs.YtcbcjefefmbccaaDoor
open Go.RowKit

def lesser (m y : Nat × Int) : Nat × Int := if lessB y m = true then y else m
def repOf : List (Nat × Int) → Nat × Int
  | [] => (2166136261, 0)
  | x :: r => r.foldl lesser x
theorem repOf_snoc (l : List (Nat × Int)) (y : Nat × Int) (h : l ≠ []) : repOf (l ++ [y]) = lesser (repOf l) y := by
  cases l with
  | nil => exact (h rfl).elim
  | cons x r => show (r ++ [y]).foldl lesser x = _; rw [List.foldl_append]; rfl
theorem repOf_next (ids : List (Nat × Int)) (k : Nat) (h : k < ids.length) (h1 : 1 ≤ k) : repOf (ids.take (k + 1)) = lesser (repOf (ids.take k)) ids[k] := by
  rw [List.take_succ_eq_append_getElem h, repOf_snoc]
  intro e
  have := congrArg List.length e
  rw [List.length_take, List.length_nil] at this
  omega

/- Between two rounds: the recipe's box, the result, and the least one so far, each in a block of its own. -/
structure RepW (w W : World) (v : Value) (m : Nat × Int) : Prop where
  below : Below w.heap.size w W
  size : w.heap.size + 1 + 1 < W.heap.size
  b3 : W.cell? ⟨w.heap.size, 3, none⟩ = some v
  r0 : W.cell? ⟨w.heap.size + 1, 0, none⟩ = some (.int .u32 0)
  r1 : W.cell? ⟨w.heap.size + 1, 1, none⟩ = some (.int .i64 0)
  f0 : W.frozen? ⟨w.heap.size + 1, 0, none⟩ = false
  f1 : W.frozen? ⟨w.heap.size + 1, 1, none⟩ = false
  q0 : W.cell? ⟨w.heap.size + 1 + 1, 0, none⟩ = some (.int .u32 (m.1 : Nat))
  q1 : W.cell? ⟨w.heap.size + 1 + 1, 1, none⟩ = some (.int .i64 m.2)
  g0 : W.frozen? ⟨w.heap.size + 1 + 1, 0, none⟩ = false
  g1 : W.frozen? ⟨w.heap.size + 1 + 1, 1, none⟩ = false
theorem RepW.new (w : World) (nm : ByteArray) (len p : Int) (v : Value) (m : Nat × Int) (t t' : TypeId) : RepW w (((w.alloc (.cells #[.string nm, .int .i64 len, .int .u32 p, v] t)).alloc (.cells #[.int .u32 0, .int .i64 0] t')).alloc (.cells #[.int .u32 (m.1 : Nat), .int .i64 m.2] t')) v m where
  below := (((Below.refl _ w).alloc (Nat.le_refl _) _).alloc (by simp) _).alloc (by simp; omega) _
  size := by simp
  b3 := by rw [World.cell?_alloc_lt _ _ ⟨w.heap.size, 3, none⟩ (by simp; omega), World.cell?_alloc_lt _ _ ⟨w.heap.size, 3, none⟩ (by simp)]; simp
  r0 := by rw [World.cell?_alloc_lt _ _ ⟨w.heap.size + 1, 0, none⟩ (by simp)]; simp
  r1 := by rw [World.cell?_alloc_lt _ _ ⟨w.heap.size + 1, 1, none⟩ (by simp)]; simp
  f0 := by rw [frozen_alloc_lt' _ _ (by simp)]; simp
  f1 := by rw [frozen_alloc_lt' _ _ (by simp)]; simp
  q0 := new_cell _ _ _ rfl (by simp)
  q1 := new_cell _ _ _ rfl (by simp)
  g0 := new_frozen _ _ _ (by simp)
  g1 := new_frozen _ _ _ (by simp)
theorem RepW.next {w W W' : World} {v : Value} {m : Nat × Int} (h : RepW w W v m) (hb : Below W.heap.size W W') : RepW w W' v m := by
  have hs := h.size
  have hs' := hb.size
  exact ⟨h.below.trans (hb.mono h.below.size), by omega, (hb.cell (p := ⟨_, 3, none⟩) (by simp; omega)).trans h.b3, (hb.cell (p := ⟨_, 0, none⟩) (by simp; omega)).trans h.r0, (hb.cell (p := ⟨_, 1, none⟩) (by simp; omega)).trans h.r1, (hb.frozen (p := ⟨_, 0, none⟩) (by simp; omega)).trans h.f0, (hb.frozen (p := ⟨_, 1, none⟩) (by simp; omega)).trans h.f1,
    (hb.cell (p := ⟨_, 0, none⟩) (by simp; omega)).trans h.q0, (hb.cell (p := ⟨_, 1, none⟩) (by simp; omega)).trans h.q1, (hb.frozen (p := ⟨_, 0, none⟩) (by simp; omega)).trans h.g0, (hb.frozen (p := ⟨_, 1, none⟩) (by simp; omega)).trans h.g1⟩
theorem RepW.set {w W : World} {v : Value} {m : Nat × Int} (h : RepW w W v m) (y : Nat × Int) : RepW w ((W.setCell ⟨w.heap.size + 1 + 1, 0, none⟩ (.int .u32 (y.1 : Nat))).setCell ⟨w.heap.size + 1 + 1, 1, none⟩ (.int .i64 y.2)) v y := by
  have o : ∀ (b i : Nat), b ≠ w.heap.size + 1 + 1 → ((W.setCell ⟨w.heap.size + 1 + 1, 0, none⟩ (.int .u32 (y.1 : Nat))).setCell ⟨w.heap.size + 1 + 1, 1, none⟩ (.int .i64 y.2)).cell? ⟨b, i, none⟩ = W.cell? ⟨b, i, none⟩ := fun b i hb => by
    have hn : ∀ j, (⟨w.heap.size + 1 + 1, j, none⟩ : Addr) ≠ ⟨b, i, none⟩ := fun j e => hb (by cases e; rfl)
    rw [World.cell?_setCell_other _ _ _ _ (hn 1), World.cell?_setCell_other _ _ _ _ (hn 0)]
  refine ⟨(h.below.setCell (p := ⟨w.heap.size + 1 + 1, 0, none⟩) (by show _ ≤ w.heap.size + 1 + 1; omega) _).setCell (p := ⟨w.heap.size + 1 + 1, 1, none⟩) (by show _ ≤ w.heap.size + 1 + 1; omega) _, by simp [World.setCell]; exact h.size, (o _ _ (by omega)).trans h.b3, (o _ _ (by omega)).trans h.r0, (o _ _ (by omega)).trans h.r1, by rw [World.frozen?_setCell, World.frozen?_setCell]; exact h.f0, by rw [World.frozen?_setCell, World.frozen?_setCell]; exact h.f1, ?_, ?_, by rw [World.frozen?_setCell, World.frozen?_setCell]; exact h.g0, by rw [World.frozen?_setCell, World.frozen?_setCell]; exact h.g1⟩
  · rw [World.cell?_setCell_other _ _ _ _ (by simp), World.cell?_setCell_same' _ _ _ (by rw [h.q0]; rfl)]
  · rw [World.cell?_setCell_same' _ _ _ (by rw [World.cell?_setCell_other _ _ _ _ (by simp), h.q1]; rfl)]

end Go.Proofs.YtcbcjefefmbccaaDoor
namespace Go.Proofs.YtcbcjefefmbccaaDoor
open Go.RowKit

/- Byte j of eight behind k rounds. -/
def hexAt (z : Nat) (n k j : Nat) : Nat := if 8 ≤ j + k then (hexDig (n / 16 ^ (7 - j) % 16)).toNat else z
theorem hexLast_get (n k j : Nat) (h : j < k) : (hexLast n k)[j]? = some (hexDig (n / 16 ^ (k - 1 - j) % 16)) := by
  induction k generalizing n with
  | zero => omega
  | succ k ih =>
    rw [hexLast]
    by_cases hj : j = k
    · subst hj
      rw [List.getElem?_append_right (by rw [hexLast_length]; omega), hexLast_length]
      simp
    · rw [List.getElem?_append_left (by rw [hexLast_length]; omega), ih _ (by omega), Nat.div_div_eq_div_mul, ← Nat.pow_succ', show (k - 1 - j).succ = k + 1 - 1 - j by omega]
theorem hexs_get : ∀ d : Fin 16, ((#[48, 49, 50, 51, 52, 53, 54, 55, 56, 57, 97, 98, 99, 100, 101, 102] : Array UInt8)[d.val]'d.isLt).toNat = (hexDig d.val).toNat := by decide
theorem hexs_at (d : Nat) (h : d < 16) (hq : d < (⟨#[48, 49, 50, 51, 52, 53, 54, 55, 56, 57, 97, 98, 99, 100, 101, 102]⟩ : ByteArray).size) : ((⟨#[48, 49, 50, 51, 52, 53, 54, 55, 56, 57, 97, 98, 99, 100, 101, 102]⟩ : ByteArray)[d]'hq).toNat = (hexDig d).toNat := hexs_get ⟨d, h⟩
structure HexW (z : Nat) (w : World) (B n k : Nat) (wr : World) : Prop where
  below : Below w.heap.size w wr
  size : B < wr.heap.size
  cell : ∀ j, j < 8 → wr.cell? ⟨B, j, none⟩ = some (.int .u8 (hexAt z n k j : Nat))
  free : ∀ j, j < 8 → wr.frozen? ⟨B, j, none⟩ = false

theorem HexW.next {z : Nat} {w : World} {B n k : Nat} {wr : World} (h : HexW z w B n k wr) (hB : w.heap.size ≤ B) (hk : k < 8) {o : Nat} (ho : o = 7 - k) {d : Nat} (hd : d = (hexDig (n / 16 ^ k % 16)).toNat) :
    HexW z w B n (k + 1) (wr.setCell ⟨B, o, none⟩ (.int .u8 (d : Int))) where
  below := h.below.setCell hB _
  size := by simpa [World.setCell] using h.size
  cell j hj := by
    subst ho hd
    by_cases hjk : j = 7 - k
    · subst hjk
      rw [World.cell?_setCell_same _ _ _ (h.cell _ hj)]
      unfold hexAt
      rw [if_pos (by omega), show 7 - (7 - k) = k by omega]
    · rw [World.cell?_setCell_other _ _ _ _ (fun e => hjk (by injection e; omega)), h.cell j hj]
      unfold hexAt
      by_cases h8 : 8 ≤ j + k
      · rw [if_pos h8, if_pos (by omega)]
      · rw [if_neg h8, if_neg (by omega)]
  free j hj := by
    rw [World.frozen?_setCell]
    exact h.free j hj
theorem HexW.string {z : Nat} {w : World} {B n : Nat} {wr : World} (h : HexW z w B n 8 wr) (c : Nat) :
    (convert 43 9 (.slice (some ⟨B, 0, none⟩) 8 c)).run Tryd.prog wr = .ok (.string ⟨(hexLast n 8).toArray⟩) wr := by
  have hl := hexLast_length n 8
  have := run_convert_bytes_back (P := Tryd.prog) wr 43 9 5 ⟨B, 0, none⟩ c (hexLast n 8) Tryd.underlying43 Tryd.underlying5 Tryd.underlying9 (fun j hj => by
    have hg := hexLast_get n 8 j (by omega)
    rw [List.getElem?_eq_getElem hj] at hg
    have hp : (⟨B, 0, none⟩ : Addr).add j = ⟨B, j, none⟩ := by unfold Addr.add; split <;> simp_all
    rw [Option.some.inj hg, hp, h.cell j (by omega)]
    unfold hexAt
    rw [if_pos (by omega)])
  rw [hl] at this
  exact this
theorem frozen_mark (w : World) (C : Array Value) (t : TypeId) (lo hi j : Nat) (h : j < lo) : (w.alloc (.cells C t (lo, hi))).frozen? ⟨w.heap.size, j, none⟩ = false := by
  have e : (w.alloc (.cells C t (lo, hi))).heap[w.heap.size]? = some (.cells C t (lo, hi)) := Array.getElem?_push_size
  unfold World.frozen?
  rw [e]
  simp
  omega
theorem and15 (m : Nat) (hm : m < 4294967296) : bits .and .u32 (m : Int) 15 = ((m % 16 : Nat) : Int) := by
  have := bits_mask .u32 32 (by decide) (fun n h0 h1 => by rw [IntKind.wrap_u32]; omega) 4 (by decide) (m : Int) (by omega) (by omega)
  simpa using this
theorem div_step (n k : Nat) : n / 16 ^ k / 16 = n / 16 ^ (k + 1) := by rw [Nat.div_div_eq_div_mul, Nat.pow_succ]

set_option maxHeartbeats 1000000 in
set_option maxRecDepth 100000 in
theorem hexText_any (n : Nat) (hn : n < 4294967296) (w : World) :
    Calls Tryd.prog 57 #[.int .u32 n] w fun e w' => e = .returned (.string ⟨(hexLast n 8).toArray⟩) ∧ Below w.heap.size w w' := by
  have hmk : ∀ w, (Instr.makeSlice 43 (.int .i64 8) (.int .i64 8)).run Tryd.prog w = .ok (.slice (some ⟨w.heap.size, 0, none⟩) 8 8) (w.alloc (.cells #[.int .u8 0, .int .u8 0, .int .u8 0, .int .u8 0, .int .u8 0, .int .u8 0, .int .u8 0, .int .u8 0] 5)) := fun _ => by kernel_rfl
  go_enter Tryd.func57, Tryd.ntmps57
  go_wp2
  go_loopw [0, 8] (fun q i wr => ∃ k : Nat, k ≤ 8 ∧ i = .int .i64 k ∧ q = .int .u32 (n / 16 ^ k : Nat) ∧ HexW 0 w w.heap.size n k wr) (fun _ i _ => 8 - (intOf i).toNat)
  case atStart =>
    refine ⟨0, Nat.zero_le _, rfl, by simp, (Below.refl _ _).alloc (Nat.le_refl _) _, by simp, ?_, ?_⟩
    · intro j hj
      have : j = 0 ∨ j = 1 ∨ j = 2 ∨ j = 3 ∨ j = 4 ∨ j = 5 ∨ j = 6 ∨ j = 7 := by omega
      rcases this with rfl | rfl | rfl | rfl | rfl | rfl | rfl | rfl <;> simp [hexAt]
    · intro j hj
      simp
  case round =>
    obtain ⟨k, hk, rfl, rfl, hH⟩ := hrel
    by_cases hlt : k < 8
    · have hc := hH.cell (7 - k) (by omega)
      have hf := hH.free (7 - k) (by omega)
      have hsz := hH.size
      have hlt' : (k : Int) < 8 := by omega
      have hm : n / 16 ^ k < 4294967296 := Nat.lt_of_le_of_lt (Nat.div_le_self _ _) hn
      have hnx : ∀ d : Nat, d = (hexDig (n / 16 ^ k % 16)).toNat → HexW 0 w w.heap.size n (k + 1) (wr.setCell ⟨w.heap.size, 7 - k, none⟩ (.int .u8 (d : Int))) := fun d hd => hH.next (Nat.le_refl _) hlt rfl hd
      have HD : Hid (n / 16 ^ k / 16 = n / 16 ^ (k + 1)) := div_step n k
      generalize n / 16 ^ k = m at *
      have hand := and15 m hm
      clear hH
      go_wp2
      go_roundw
      case rel => exact ⟨k + 1, by omega, by go_num, by rw [← HD.out]; rfl, hnx _ (hexs_at _ (by omega) _)⟩
      case measure => simp [intOf]; omega
    · obtain rfl : k = 8 := by omega
      have hcv := hH.string 8
      have hbl := hH.below
      clear hH
      go_wp2
      go_ret
      exact ⟨rfl, hbl⟩

set_option maxHeartbeats 1000000 in
set_option maxRecDepth 100000 in
theorem hexOf_any (n : Nat) (hn : n < 4294967296) (w : World) :
    Calls Tryd.prog 59 #[.int .u32 n] w fun e w' => e = .returned (.string ⟨(hexLast n 8).toArray⟩) ∧ Below w.heap.size w w' := by
  have kc := fun (w : World) (C : Array Value) (n c : Nat) => Lib.run_convert_bytes_const (P := Tryd.prog) w 43 5 C n c Tryd.underlying43 Tryd.underlying5
  go_enter Tryd.func59, Tryd.ntmps59
  go_wp2
  go_loopw [3, 5] (fun q i wr => ∃ k : Nat, k ≤ 8 ∧ i = .int .i64 (7 - (k : Int)) ∧ q = .int .i64 (n / 16 ^ k : Nat) ∧ HexW 48 w w.heap.size n k wr) (fun _ i _ => (intOf i + 1).toNat)
  case atStart =>
    refine ⟨0, Nat.zero_le _, rfl, by simp, (Below.refl _ _).alloc (Nat.le_refl _) _, by simp, ?_, ?_⟩
    · intro j hj
      rw [World.cell?_alloc_mark]
      have : j = 0 ∨ j = 1 ∨ j = 2 ∨ j = 3 ∨ j = 4 ∨ j = 5 ∨ j = 6 ∨ j = 7 := by omega
      rcases this with rfl | rfl | rfl | rfl | rfl | rfl | rfl | rfl <;> simp [hexAt]
    · intro j hj
      exact frozen_mark w _ _ _ _ j (by simpa using hj)
  case round =>
    obtain ⟨k, hk, rfl, rfl, hH⟩ := hrel
    by_cases hlt : k < 8
    · have hc := hH.cell (7 - k) (by omega)
      have hf := hH.free (7 - k) (by omega)
      have hsz := hH.size
      have hlt' : (0 : Int) ≤ 7 - (k : Int) := by omega
      have htn : (7 - (k : Int)).toNat = 7 - k := by omega
      have hm : n / 16 ^ k < 4294967296 := Nat.lt_of_le_of_lt (Nat.div_le_self _ _) hn
      have hnx : ∀ d : Nat, d = (hexDig (n / 16 ^ k % 16)).toNat → HexW 48 w w.heap.size n (k + 1) (wr.setCell ⟨w.heap.size, 7 - k, none⟩ (.int .u8 (d : Int))) := fun d hd => hH.next (Nat.le_refl _) hlt rfl hd
      have HD : Hid (n / 16 ^ k / 16 = n / 16 ^ (k + 1)) := div_step n k
      generalize n / 16 ^ k = m at *
      clear hH
      go_wp2
      go_roundw
      case rel => exact ⟨k + 1, by omega, val_int (by omega), by rw [← HD.out]; rfl, hnx _ (hexs_at _ (by omega) _)⟩
      case measure => simp [intOf]; omega
    · obtain rfl : k = 8 := by omega
      have hcv := hH.string 8
      have hbl := hH.below
      clear hH
      go_wp2
      go_ret
      exact ⟨rfl, hbl⟩
end Go.Proofs.YtcbcjefefmbccaaDoor
namespace Go.Proofs.YtcbcjefefmbccaaDoor
open Go.RowKit

set_option maxHeartbeats 1000000 in
theorem byte_any (c : UInt8) (x : Int) (hx : x = c.toNat) (w : World) :
    Calls Tryd.prog 111 #[.int .i64 x] w fun e w' => e = .returned (.string ⟨#[c]⟩) ∧ Below w.heap.size w w' := by
  subst hx
  have hcv : (convert 43 9 (.slice (some ⟨w.heap.size, 0, none⟩) 1 1)).run Tryd.prog (w.alloc (.cells #[.int .u8 (c.toNat : Int)] 5)) = .ok (.string ⟨#[c]⟩) (w.alloc (.cells #[.int .u8 (c.toNat : Int)] 5)) := by
    have := run_convert_bytes_back (P := Tryd.prog) (w.alloc (.cells #[.int .u8 (c.toNat : Int)] 5)) 43 9 5 ⟨w.heap.size, 0, none⟩ 1 [c] Tryd.underlying43 Tryd.underlying5 Tryd.underlying9 (fun j hj => by
      have hj0 : j = 0 := by simpa using hj
      subst hj0
      have hp : (⟨w.heap.size, 0, none⟩ : Addr).add 0 = ⟨w.heap.size, 0, none⟩ := by unfold Addr.add; split <;> simp_all
      rw [hp]
      simp)
    simpa using this
  have hn := c.toNat_lt
  have hn' : (c.toNat : Int) % 256 = c.toNat := by omega
  clear hn
  go_enter Tryd.func111, Tryd.ntmps111
  go_wp2
  go_ret
  exact ⟨rfl, (Below.refl _ _).alloc (Nat.le_refl _) _⟩

theorem str_append (a b : List UInt8) : (⟨a.toArray⟩ : ByteArray) ++ ⟨b.toArray⟩ = ⟨(a ++ b).toArray⟩ := by
  apply ByteArray.ext
  simp [ByteArray.data_append]
theorem decDigits_le19 (u : Nat) (h : u ≤ 9223372036854775807) : (Lib.decDigits u).length ≤ 19 := by
  have h4 : (10 : Nat) ^ 19 = 10000000000000000000 := by decide
  exact decDigits_len_le u 19 (by decide) (by rw [h4]; omega)
theorem dig_nat : ∀ d : Fin 10, (UInt8.ofNat (48 + d.val)).toNat = 48 + d.val := by decide

set_option maxHeartbeats 1000000 in
theorem below_any (f : Nat) : ∀ (u : Nat) (x : Int) (w : World), u < f → x = -(u : Int) → u ≤ 9223372036854775807 →
    Calls Tryd.prog 92 #[.int .i64 x] w fun e w' => e = .returned (.string ⟨(Lib.decDigits u).toArray⟩) ∧ Below w.heap.size w w' := by
  induction f with
  | zero => intro u x w h; omega
  | succ f ih =>
    intro u x w hu hx hmax
    by_cases h10 : u < 10
    · have hgt : -10 < x := by omega
      have hlo : x ≤ 0 := by omega
      have HX : Hid (x = -(u : Int)) := hx
      clear hx ih
      have hdg := dig_nat ⟨u, h10⟩
      have hdd : Lib.decDigits u = [UInt8.ofNat (48 + u)] := by rw [Lib.decDigits, dif_pos h10]
      simp only at hdg
      generalize UInt8.ofNat (48 + u) = c at *
      have HG : Hid (c.toNat = 48 + u) := hdg
      have HD : Hid (Lib.decDigits u = [c]) := hdd
      clear hdg hdd
      go_enter Tryd.func92, Tryd.ntmps92
      go_wp2_with fail
      refine (byte_any c _ (by have := HX.out; have := HG.out; omega) _).mono ?_
      rintro e w' ⟨rfl, hb⟩
      go_wp2_with fail
      go_ret
      exact ⟨by rw [HD.out]; rfl, hb⟩
    · have hgt : ¬ -10 < x := by omega
      have hlo : -9223372036854775807 ≤ x := by omega
      have hhi : x ≤ 0 := by omega
      have hdg := dig_nat ⟨u % 10, by omega⟩
      have hdd : Lib.decDigits u = Lib.decDigits (u / 10) ++ [UInt8.ofNat (48 + u % 10)] := by rw [Lib.decDigits, dif_neg h10]
      simp only at hdg
      generalize UInt8.ofNat (48 + u % 10) = c at *
      have HG : Hid (c.toNat = 48 + u % 10) := hdg
      have HD : Hid (Lib.decDigits u = Lib.decDigits (u / 10) ++ [c]) := hdd
      have HX : Hid (x = -(u : Int)) := hx
      have HI : Hid _ := ih
      have ht1 : x.tdiv 10 = -((u / 10 : Nat) : Int) := by rw [hx, Int.neg_tdiv]; simp
      have ht2 : x.tmod 10 = -((u % 10 : Nat) : Int) := by rw [hx, Int.neg_tmod, Int.tmod_eq_emod_of_nonneg (by omega)]; omega
      have hl := decDigits_le19 (u / 10) (by omega)
      have hr1 : -9 ≤ x.tmod 10 := by omega
      have hr2 : x.tmod 10 ≤ 0 := by omega
      have HT1 : Hid (x.tdiv 10 = -((u / 10 : Nat) : Int)) := ht1
      have HT2 : Hid (x.tmod 10 = -((u % 10 : Nat) : Int)) := ht2
      clear hx hdg hdd ih ht1 ht2
      go_enter Tryd.func92, Tryd.ntmps92
      go_wp2_with fail
      refine (HI.out (u / 10) _ _ (by omega) HT1.out (by omega)).mono ?_
      rintro e w1 ⟨rfl, hb1⟩
      go_wp2_with fail
      refine (byte_any c _ ?_ _).mono ?_
      · have h1 := HT2.out
        have h2 := HG.out
        omega
      rintro e w2 ⟨rfl, hb2⟩
      go_wp2_with fail
      go_ret
      refine ⟨?_, hb1.trans (hb2.mono hb1.size)⟩
      rw [HD.out, ← str_append]
      rfl

theorem decimal_any (u : Nat) (hu : u ≤ 9223372036854775807) (w : World) :
    Calls Tryd.prog 60 #[.int .i64 u] w fun e w' => e = .returned (.string ⟨(Lib.decDigits u).toArray⟩) ∧ Below w.heap.size w w' := by
  have h0 : ¬ (u : Int) < 0 := by omega
  go_enter Tryd.func60, Tryd.ntmps60
  go_wp2_with fail
  refine (below_any (u + 1) u _ _ (by omega) (by omega) hu).mono ?_
  rintro e w1 ⟨rfl, hb1⟩
  go_wp2_with fail
  go_ret
  exact ⟨rfl, hb1⟩
end Go.Proofs.YtcbcjefefmbccaaDoor
