/-
  Own text. A node of the program's in memory: its two maps' kits (strRcps: names to recipes; idBins: reps to bins), a node as files and bins (NSt), where they lie (PNode).
  Own text. The maps of a scrub: reps to numbers (idInts), uses (a rep and an ID) to numbers (useInts); a map in memory as a function (MapKit.Fn): look-up, store, one more.
  Own text. The least of a recipe's IDs, pure, and the document's RepOf by a contract.
  Own text. Hex digits written: digits.Hex and the document's HexOf by contracts.
  Own text. Decimal digits written: the document's Byte, below, Decimal by contracts.
-/
import Derived.Test.YtcbcjefefmbccabGreatDoorS04
import Derived.Test.YtcbcjefefmbccabGreatDoorS03
import Derived.Maps.Keyed
import Derived.WideKeyEntry
import Derived.Test.YtcbcjefefmbccabGreatDoorS02
import Derived.Deep.RegionHeld3
import Derived.RangeFuncRecord
import Derived.Laws.BytesArg
import Derived.Lib.SlBytesConst
import Derived.Laws.IdiomStrings
namespace Go.Proofs.YtcbcjefefmbccabGreatDoor
open Go.RowKit Go.Maps

/- A recipe as a map holds it: name, length, print, the IDs' slice. -/
abbrev Rw := List UInt8 × Int × Int × Value
abbrev rwV (c : Rw) : Value := rcpV ⟨c.1.toArray⟩ c.2.1 c.2.2.1 c.2.2.2
def unRw : Value → Option Rw
  | .agg cs => match cs.toList with
    | [.string s, .int .i64 l, .int .u32 p, v] => some (s.data.toList, l, p, v)
    | _ => none
  | _ => none
theorem unRw_back (v : Value) (c : Rw) (h : unRw v = some c) : v = rwV c := by
  unfold unRw at h
  split at h
  next cs =>
    split at h
    next s l p v e =>
      cases h
      have : cs = #[Value.string s, Value.int .i64 l, Value.int .u32 p, v] := by rw [← Array.toArray_toList (xs := cs), e]
      rw [this]
    next => cases h
  next => cases h
theorem strKeyed : Keyed Tryz.prog 9 := string_keyed Tryz.underlying9
theorem strKey_eq (v : Value) : keyOf Tryz.prog 9 v = mapKey Tryz.prog 9 v := by
  unfold keyOf
  rw [Tryz.underlying9]
def WfNm (x : List UInt8) : Prop := x.length ≤ maxLen
set_option maxRecDepth 100000 in
theorem strKey (x : List UInt8) (hx : WfNm x) : ∃ kl, keyOf Tryz.prog 9 (.string ⟨x.toArray⟩) = some kl := by
  refine ⟨.string x, ?_⟩
  rw [strKey_eq]
  unfold mapKey
  rw [Tryz.underlying9]
  have h1 : x.toArray.size = x.length := List.size_toArray
  have : (⟨x.toArray⟩ : ByteArray).size ≤ maxLen := by show x.toArray.size ≤ maxLen; rw [h1]; exact hx
  simp only [this, if_true]
set_option maxRecDepth 100000 in
theorem strInv (v : Value) (kl : Lit) (h : keyOf Tryz.prog 9 v = some kl) : ∃ x : List UInt8, WfNm x ∧ v = .string ⟨x.toArray⟩ := by
  rw [strKey_eq] at h
  unfold mapKey at h
  rw [Tryz.underlying9] at h
  cases v <;> simp only [reduceCtorEq] at h
  next s =>
    split at h
    · rename_i hs
      exact ⟨s.data.toList, by show s.data.toList.length ≤ maxLen; rw [Array.length_toList]; exact hs, rfl⟩
    · cases h
def strRcps : MapKit Tryz.prog 9 (List UInt8) Rw where
  mkK x := .string ⟨x.toArray⟩
  wf := WfNm
  mkV := rwV
  unV := unRw
  K := strKeyed
  key := strKey
  inv := strInv
  inj x y e := by
    have e1 : (⟨x.toArray⟩ : ByteArray) = ⟨y.toArray⟩ := Value.string.inj e
    have e2 := congrArg (fun b : ByteArray => b.data.toList) e1
    simpa using e2
  un _ := rfl
  back := unRw_back

def unPtr : Value → Option (Option Addr)
  | .pointer p => some p
  | _ => none
def idBins : MapKit Tryz.prog 25 (Nat × Int) (Option Addr) where
  mkK x := idV (x.1 : Nat) x.2
  wf := WfID
  mkV p := .pointer p
  unV := unPtr
  K := idKeyed
  key := idKey
  inv := idInv
  inj x y e := by
    have e1 := Array.mk.inj (Value.agg.inj e)
    simp at e1
    exact Prod.ext (by omega) e1.2
  un _ := rfl
  back v c h := by
    unfold unPtr at h
    split at h
    · cases h; rfl
    · cases h
theorem ptrZero (w : World) : (zeroValue 47).run Tryz.prog w = .ok (.pointer none) w := by kernel_rfl
theorem rcpZero (w : World) : (zeroValue 40).run Tryz.prog w = .ok (rwV ([], 0, 0, .slice none 0 0)) w := by kernel_rfl
theorem ofS_drew {w : World} {b : Nat} {l : List (List UInt8 × Rw)} (h : strRcps.Of w b l) : strRcps.Of w.drew b l := h.kept (grown_drewN w 1) (by simp)
theorem ofB_drew {w : World} {b : Nat} {l : List ((Nat × Int) × Option Addr)} (h : idBins.Of w b l) : idBins.Of w.drew b l := h.kept (grown_drewN w 1) (by simp)
theorem ofB_below {w w' : World} {b : Nat} {l : List ((Nat × Int) × Option Addr)} (h : idBins.Of w b l) (hb : Below w.heap.size w w') : idBins.Of w' b l := h.kept (grown_of_below hb) (by simp)
end Go.Proofs.YtcbcjefefmbccabGreatDoor
namespace Go.Proofs.YtcbcjefefmbccabGreatDoor
open Go.RowKit Go.Maps

def unInt : Value → Option Int
  | .int .i64 n => some n
  | _ => none
theorem unInt_back (v : Value) (c : Int) (h : unInt v = some c) : v = .int .i64 c := by
  unfold unInt at h
  split at h
  · cases h; rfl
  · cases h
def idInts : MapKit Tryz.prog 25 (Nat × Int) Int where
  mkK x := idV (x.1 : Nat) x.2
  wf := WfID
  mkV c := .int .i64 c
  unV := unInt
  K := idKeyed
  key := idKey
  inv := idInv
  inj := idBins.inj
  un _ := rfl
  back := unInt_back
theorem useRow : (195 : TypeId) < Tryz.prog.types.size := of_decide_eq_true (by kernel_rfl)
theorem useWide : (match Tryz.prog.underlying 195 with | some (.array _ _) | some (.struct _) => true | _ => false) = true := by rw [Tryz.underlying195]
set_option maxRecDepth 100000 in
theorem useDeep : Tryz.prog.keyTypeAt 3 195 = true := by kernel_rfl
set_option maxRecDepth 100000 in
theorem useLaw : WideMaps.KeyLaw Tryz.prog 195 := deep_law_laid Tryz.laidOut (m := 3) (Nat.le_of_ble_eq_true rfl) useRow useDeep useWide
theorem useKeyed : Keyed Tryz.prog 195 := Keyed.of_law useLaw
theorem useCells : Tryz.prog.cellsOf 195 = 4 := by kernel_rfl
theorem useKeyType : Tryz.prog.keyType 195 = true := by kernel_rfl
theorem useFormed (a b c d : Value) : (Value.agg #[a, b, c, d]).formed Tryz.prog 195 = true := by simp [Value.formed, Tryz.underlying195, useCells]
set_option maxRecDepth 100000 in
theorem useLits (n : Nat) (a b c d : Value) : Tryz.prog.keyLits (n + 1) 195 [a, b, c, d] = (Tryz.prog.keyLits n 25 [a, b]).bind fun x => (Tryz.prog.keyLits n 25 [c, d]).bind fun y => some (x ++ y) := by
  conv => lhs; unfold Program.keyLits
  rw [Tryz.underlying195]
  simp only [useCells]
  cases h1 : Tryz.prog.keyLits n 25 [a, b] <;> cases h2 : Tryz.prog.keyLits n 25 [c, d] <;> simp [idCellsK, h1, h2]
theorem useKey_eq (v0 v1 v2 v3 : Value) : keyOf Tryz.prog 195 (.agg #[v0, v1, v2, v3]) = (Tryz.prog.keyLits (385 + 1) 195 [v0, v1, v2, v3]).map fun ls => .string (keyBytes ls) := by
  unfold keyOf
  rw [Tryz.underlying195]
  simp only [useKeyType, useFormed, Bool.and_true, if_true, typesSize]
  rfl
abbrev Use := (Nat × Int) × (Nat × Int)
abbrev useV (u : Use) : Value := .agg #[.int .u32 (u.1.1 : Nat), .int .i64 u.1.2, .int .u32 (u.2.1 : Nat), .int .i64 u.2.2]
def WfUse (u : Use) : Prop := WfID u.1 ∧ WfID u.2
theorem ntSucc2 : 385 - 1 = (385 - 2) + 1 := rfl
set_option maxRecDepth 100000 in
theorem useKey (u : Use) (h : WfUse u) : ∃ kl, keyOf Tryz.prog 195 (useV u) = some kl := by
  obtain ⟨⟨h1, h2⟩, h3, h4⟩ := h
  refine ⟨.string (keyBytes [.int .u32 (u.1.1 : Nat), .int .i64 u.1.2, .int .u32 (u.2.1 : Nat), .int .i64 u.2.2]), ?_⟩
  rw [useKey_eq, useLits, ntSucc, idLits, idLits, ntSucc2, u32Lits_mk _ _ ((wf_u32 _).2 (by omega)), intLits_mk _ _ ((wf_i64' _).2 h2), u32Lits_mk _ _ ((wf_u32 _).2 (by omega)), intLits_mk _ _ ((wf_i64' _).2 h4)]
  rfl
set_option maxRecDepth 100000 in
theorem useInv (v : Value) (kl : Lit) (h : keyOf Tryz.prog 195 v = some kl) : ∃ u : Use, WfUse u ∧ v = useV u := by
  have hf : v.formed Tryz.prog 195 = true := by
    unfold keyOf at h
    rw [Tryz.underlying195] at h
    cases hv : v.formed Tryz.prog 195 with
    | true => rfl
    | false => simp [hv] at h
  obtain ⟨cs, rfl, hs⟩ : ∃ cs, v = .agg cs ∧ cs.size = 4 := by
    cases v <;> simp [Value.formed, Tryz.underlying195, useCells] at hf
    exact ⟨_, rfl, hf⟩
  obtain ⟨v0, v1, v2, v3, rfl⟩ : ∃ v0 v1 v2 v3, cs = #[v0, v1, v2, v3] := by
    obtain ⟨l⟩ := cs
    match l, hs with
    | [v0, v1, v2, v3], _ => exact ⟨v0, v1, v2, v3, rfl⟩
  have hid : ∀ a b x, Tryz.prog.keyLits 385 25 [a, b] = some x → ∃ y : Nat × Int, WfID y ∧ a = .int .u32 (y.1 : Nat) ∧ b = .int .i64 y.2 := fun a b x h => by
    rw [ntSucc, idLits, ntSucc2] at h
    cases h0 : Tryz.prog.keyLits (385 - 2 + 1) 23 [a] with
    | none => rw [h0] at h; cases h
    | some p =>
      cases h1 : Tryz.prog.keyLits (385 - 2 + 1) 3 [b] with
      | none => rw [h0, h1] at h; cases h
      | some q =>
        obtain ⟨n, rfl, hn, _⟩ := u32Lits _ _ _ h0
        obtain ⟨m, rfl, hm, _⟩ := intLits _ _ _ h1
        rw [wf_u32] at hn
        rw [wf_i64'] at hm
        have e : ((n.toNat : Nat) : Int) = n := by omega
        exact ⟨(n.toNat, m), ⟨by omega, hm⟩, by simp only [e], rfl⟩
  rw [useKey_eq, useLits] at h
  cases h0 : Tryz.prog.keyLits 385 25 [v0, v1] with
  | none => rw [h0] at h; cases h
  | some p =>
    cases h1 : Tryz.prog.keyLits 385 25 [v2, v3] with
    | none => rw [h0, h1] at h; cases h
    | some q =>
      obtain ⟨y, hy, rfl, rfl⟩ := hid _ _ _ h0
      obtain ⟨z, hz, rfl, rfl⟩ := hid _ _ _ h1
      exact ⟨(y, z), ⟨hy, hz⟩, rfl⟩
def useInts : MapKit Tryz.prog 195 Use Int where
  mkK := useV
  wf := WfUse
  mkV c := .int .i64 c
  unV := unInt
  K := useKeyed
  key := useKey
  inv := useInv
  inj x y e := by
    have e1 := Array.mk.inj (Value.agg.inj e)
    simp at e1
    exact Prod.ext (Prod.ext (by omega) e1.2.1) (Prod.ext (by omega) e1.2.2.2)
  un _ := rfl
  back := unInt_back
theorem intZero (w : World) : (zeroValue 3).run Tryz.prog w = .ok (.int .i64 0) w := by kernel_rfl

/- A map in memory as a function. -/
section
variable {P : Program} {k : TypeId} {κ β : Type}
structure MapKit.Fn (M : MapKit P k κ β) (w : World) (b n : Nat) (f : κ → Option β) : Prop where
  of : ∃ l, M.Of w b l ∧ l.length ≤ n ∧ ∀ x c, (x, c) ∈ l ↔ f x = some c
variable {M : MapKit P k κ β} {w w' : World} {b n : Nat} {f : κ → Option β}
theorem MapKit.Fn.lt (h : M.Fn w b n f) : b < w.heap.size := by
  obtain ⟨l, hl, _⟩ := h.of
  exact hl.lt
theorem MapKit.Fn.made (M : MapKit P k κ β) (w : World) : M.Fn (w.alloc (.map #[] 0)) w.heap.size 0 (fun _ => none) :=
  ⟨⟨[], MapKit.Of.made M w, Nat.le_refl _, fun x c => by simp⟩⟩
theorem MapKit.Fn.moved (h : M.Fn w b n f) (e : w'.heap[b]? = w.heap[b]?) : M.Fn w' b n f := by
  obtain ⟨l, hl, h1, h2⟩ := h.of
  exact ⟨⟨l, hl.moved e, h1, h2⟩⟩
theorem MapKit.Fn.below (h : M.Fn w b n f) (hb : Below w.heap.size w w') : M.Fn w' b n f := h.moved (hb.block b h.lt)
theorem MapKit.Fn.off {F : Nat → Prop} (h : M.Fn w b n f) (ho : Off F w w') (hn : ¬ F b) : M.Fn w' b n f := h.moved (ho.block b h.lt hn)
theorem MapKit.Fn.drew (h : M.Fn w b n f) : M.Fn w.drew b n f := h.below (Below.refl _ w).drew
theorem MapKit.Fn.mono {m : Nat} (h : M.Fn w b n f) (hm : n ≤ m) : M.Fn w b m f := by
  obtain ⟨l, hl, h1, h2⟩ := h.of
  exact ⟨⟨l, hl, Nat.le_trans h1 hm, h2⟩⟩
theorem MapKit.Fn.look2 {t e : TypeId} {c0 : β} (h : M.Fn w b n f) (ht : P.underlying t = some (.map k e)) (hz : (zeroValue e).run P w = .ok (M.mkV c0) w) {x : κ} (hx : M.wf x) :
    (Instr.lookup t (.map (some b)) (M.mkK x) true).run P w = .ok (.tuple #[M.mkV ((f x).getD c0), .bool (f x).isSome]) w := by
  obtain ⟨l, hl, _, h2⟩ := h.of
  cases hf : f x with
  | none =>
    refine hl.look_none ht hz hx (fun y hy e => ?_)
    have := (h2 y.1 y.2).1 hy
    rw [e, hf] at this
    cases this
  | some c => exact hl.look_some ht hz ((h2 x c).2 hf)
theorem MapKit.Fn.store [DecidableEq κ] {t e : TypeId} (h : M.Fn w b n f) (ht : P.underlying t = some (.map k e)) {x : κ} (hx : M.wf x) (c : β) (hn : n < maxLen) :
    ∃ w', (Instr.mapUpdate t (.map (some b)) (M.mkK x) (M.mkV c)).run P w = .ok () w' ∧ M.Fn w' b (n + 1) (fun y => if y = x then some c else f y) ∧ w.grownBy w' (some b) := by
  obtain ⟨l, hl, h1, h2⟩ := h.of
  obtain ⟨w', hr, hO, hg⟩ := hl.store ht hx c (by omega)
  refine ⟨w', hr, ⟨⟨_, hO _ (List.Perm.refl _), ?_, fun y d => ?_⟩⟩, hg⟩
  · have := List.length_filter_le (fun h : κ × β => !decide (h.1 = x)) l
    rw [List.length_cons]
    omega
  · rw [List.mem_cons, List.mem_filter]
    by_cases e : y = x
    · subst e
      simp only [if_true]
      constructor
      · rintro (h | ⟨_, h⟩)
        · rw [(Prod.mk.inj h).2]
        · simp at h
      · intro h
        exact .inl (by rw [Option.some.inj h])
    · simp only [if_neg e]
      rw [h2]
      constructor
      · rintro (h | ⟨h, _⟩)
        · exact absurd (Prod.mk.inj h).1 e
        · exact h
      · exact fun h => .inr ⟨h, by simp [e]⟩
theorem MapKit.Fn.look1 {t e : TypeId} {c0 : β} (h : M.Fn w b n f) (ht : P.underlying t = some (.map k e)) (hz : (zeroValue e).run P w = .ok (M.mkV c0) w) {x : κ} (hx : M.wf x) :
    (Instr.lookup t (.map (some b)) (M.mkK x) false).run P w = .ok (M.mkV ((f x).getD c0)) w := by
  obtain ⟨l, hl, _, h2⟩ := h.of
  obtain ⟨ds, ho, hp⟩ := hl.own
  obtain ⟨v, ps, hrun, hv⟩ := ho.lookup M.K ht hz (M.R_mk c0) (M.key_kl hx)
  cases hf : f x with
  | none =>
    have hno : ∀ p ∈ ds, p.1 ≠ M.kl x := fun p hm e => by
      obtain ⟨y, hy, rfl⟩ := List.mem_map.1 (hp.mem_iff.1 hm)
      have e1 : y.1 = x := M.kl_inj (hl.wf y hy) hx e
      have := (h2 y.1 y.2).1 hy
      rw [e1, hf] at this
      cases this
    rw [WideAt.atKey_none _ hno] at hv
    obtain ⟨c, rfl, e⟩ := M.R_inv hv
    have ev : M.mkV c0 = M.mkV c := DataW.held.inj (Prod.mk.inj e).1
    rw [hrun, ← ev]
    rfl
  | some c =>
    obtain ⟨es, e, hap, _⟩ := ho.entries M.K
    cases e
    have hd : (M.kl x, DataW.held (M.mkV c)) ∈ ds := hp.mem_iff.2 (List.mem_map.2 ⟨_, (h2 x c).2 hf, rfl⟩)
    rw [WideAt.atKey_mem _ (M.isKey hx) hap hd] at hv
    obtain ⟨c', rfl, e⟩ := M.R_inv hv
    have ev : M.mkV c = M.mkV c' := DataW.held.inj (Prod.mk.inj e).1
    rw [hrun, ← ev]
    rfl
theorem setBlock_same {w : World} {b : Nat} {o : Obj} (h : w.heap[b]? = some o) : ChangeMaps.setBlock w b o = w := by
  unfold ChangeMaps.setBlock
  have : w.heap.setIfInBounds b o = w.heap := by
    apply Array.ext_getElem?
    intro i
    by_cases e : b = i
    · subst e
      rw [Array.getElem?_setIfInBounds_self_of_lt (Array.getElem?_eq_some_iff.1 h).1, h]
    · rw [Array.getElem?_setIfInBounds_ne e]
  rw [this]
open Go.WideElems Go.MapKept Go.ChangeMaps in
theorem entry_there {H : Type} {t e : TypeId} {R : Value → Option (DataW H × List MemPlace)} {es : Array MapEntry} {clock : Nat} (K : Keyed P k) (ht : P.underlying t = some (.map k e)) (hb : w.heap[b]? = some (.map es clock)) (F : Fit P k R es clock)
    {key : Value} {kl : Lit} (hkey : keyOf P k key = some kl) (hex : ∃ e0 ∈ es.toList, e0.key = key) :
    ∃ (v0 : Value) (st : Nat), (Instr.mapEntry t (.map (some b)) key).run P w = .ok (.tuple #[v0, goInt st]) w ∧ ∀ val, ∃ w', (Instr.entryStore t (.map (some b)) (goInt st) val).run P w = .ok () w' ∧ (Instr.mapUpdate t (.map (some b)) key val).run P w = .ok () w' := by
  obtain ⟨s1, s2, _⟩ := F.stamped
  have hks : ∀ x ∈ es.toList, ∃ l, keyOf P k x.key = some l := fun x hx => by
    obtain ⟨y, hy⟩ := F.reads x hx
    exact ⟨_, rd_key hy⟩
  rcases K.find w hkey es.toList hks with ⟨_, h2⟩ | ⟨j, e0, h1, h2, h3⟩
  · obtain ⟨e0, he, h3⟩ := hex
    exact absurd h3 (h2 e0 he)
  · have hj : es[j]? = some e0 := by simpa using h2
    have hsame : es.modify j (fun e => { e with key := key }) = es := by
      apply Array.ext'
      rw [Array.toList_modify, modify_eq_set _ _ _ _ h2]
      have : ({ e0 with key := key } : MapEntry) = e0 := by rw [← h3]
      rw [this]
      exact set_self _ _ _ h2
    refine ⟨e0.val, e0.born, ?_, fun val => ⟨setBlock w b (.map (es.modify j (fun e' => { e' with key := key, val := val })) clock), ?_, ?_⟩⟩
    · have h : (Instr.mapEntry t (.map (some b)) key).run P w = .ok (.tuple #[e0.val, goInt e0.born]) (setBlock w b (.map es clock)) := by
        simp [Instr.mapEntry, run_underlying ht, MapKept.run_getObj_map hb, K.check w false hkey, h1, hj, h3, K.stays w hkey, hsame, MapKept.run_setObj_map _ hb, Result.andThen, setBlock]
      rw [h, setBlock_same hb]
    · have hidx : es.findIdx? (fun e => ((e.born : Nat) : Int) == ((e0.born : Nat) : Int)) = some j := by
        rw [findIdx_arr]
        exact findIdx_born s2 h2
      have hmod : es.modify j (fun e => { e with val := val }) = es.modify j (fun e' => { e' with key := key, val := val }) := by
        apply Array.ext'
        rw [Array.toList_modify, Array.toList_modify, modify_eq_set _ _ _ _ h2, modify_eq_set _ _ _ _ h2, ← h3]
      simp [Instr.entryStore, MapKept.run_getObj_map hb, asInt, asIntOf, goInt, hidx, hmod, MapKept.run_setObj_map _ hb, Result.andThen, setBlock]
    · simp [Instr.mapUpdate, run_underlying ht, MapKept.run_getObj_map hb, K.check w false hkey, h1, hj, h3, K.stays w hkey, MapKept.run_setObj_map _ hb, Result.andThen, setBlock]
/- One more at a key that is there: the entry is met, and written. -/
theorem MapKit.Fn.more [DecidableEq κ] {t e : TypeId} (h : M.Fn w b n f) (ht : P.underlying t = some (.map k e)) {x : κ} (hx : M.wf x) {c0 : β} (hc : f x = some c0) (c : β) (hn : n < maxLen) :
    ∃ (v0 : Value) (st : Nat) (w' : World), (Instr.mapEntry t (.map (some b)) (M.mkK x)).run P w = .ok (.tuple #[v0, goInt st]) w ∧ (Instr.entryStore t (.map (some b)) (goInt st) (M.mkV c)).run P w = .ok () w' ∧ M.Fn w' b (n + 1) (fun y => if y = x then some c else f y) ∧ w.grownBy w' (some b) := by
  obtain ⟨w', hr, hF, hg⟩ := h.store ht hx c hn
  obtain ⟨l, hl, h1, h2⟩ := h.of
  obtain ⟨ds, ⟨es, clock, hb, F, hs, hD⟩, hp⟩ := hl.own
  have hex : ∃ e0 ∈ es.toList, e0.key = M.mkK x := by
    have hd : (M.kl x, DataW.held (M.mkV c0)) ∈ ds := hp.mem_iff.2 (List.mem_map.2 ⟨_, (h2 x c0).2 hc, rfl⟩)
    have e : ds = (es.toList.map (WideElems.rg P k M.R)).foldr DataW.insert [] := DataW.map.inj hD
    rw [e] at hd
    obtain ⟨y, hy, hye⟩ := List.mem_map.1 (mem_sorted.1 hd)
    obtain ⟨z, hz⟩ := F.reads y hy
    rw [WideElems.rg_of hz] at hye
    have hk := WideElems.rd_key hz
    rw [hye] at hk
    exact ⟨y, hy, M.K.inj hk (M.key_kl hx)⟩
  obtain ⟨v0, st, hent, hst⟩ := entry_there M.K ht hb F (M.key_kl hx) hex
  obtain ⟨w'', h3, h4⟩ := hst (M.mkV c)
  have e : w'' = w' := by
    rw [hr] at h4
    injection h4 with _ h5
    exact h5.symm
  exact ⟨v0, st, w', hent, by rw [h3, e], hF, hg⟩
end
end Go.Proofs.YtcbcjefefmbccabGreatDoor
namespace Go.Proofs.YtcbcjefefmbccabGreatDoor
open Go.RowKit

def lesser (m y : Nat × Int) : Nat × Int := if lessB y m = true then y else m
def repOf : List (Nat × Int) → Nat × Int
  | [] => (2166136261, 0)
  | x :: r => r.foldl lesser x
theorem repOf_snoc (l : List (Nat × Int)) (y : Nat × Int) (h : l ≠ []) : repOf (l ++ [y]) = lesser (repOf l) y := by
  cases l with
  | nil => exact (h rfl).elim
  | cons x r => show (r ++ [y]).foldl lesser x = _; rw [List.foldl_append]; rfl
theorem repOf_next (ids : List (Nat × Int)) (k : Nat) (h : k < ids.length) (h1 : 1 ≤ k) : repOf (ids.take (k + 1)) = lesser (repOf (ids.take k)) ids[k] := by
  rw [List.take_succ_eq_append_getElem h, repOf_snoc]
  intro e
  have := congrArg List.length e
  rw [List.length_take, List.length_nil] at this
  omega

/- Between two rounds: the recipe's box, the result, and the least one so far, each in a block of its own. -/
structure RepW (w W : World) (v : Value) (m : Nat × Int) : Prop where
  below : Below w.heap.size w W
  size : w.heap.size + 1 + 1 < W.heap.size
  b3 : W.cell? ⟨w.heap.size, 3, none⟩ = some v
  r0 : W.cell? ⟨w.heap.size + 1, 0, none⟩ = some (.int .u32 0)
  r1 : W.cell? ⟨w.heap.size + 1, 1, none⟩ = some (.int .i64 0)
  f0 : W.frozen? ⟨w.heap.size + 1, 0, none⟩ = false
  f1 : W.frozen? ⟨w.heap.size + 1, 1, none⟩ = false
  q0 : W.cell? ⟨w.heap.size + 1 + 1, 0, none⟩ = some (.int .u32 (m.1 : Nat))
  q1 : W.cell? ⟨w.heap.size + 1 + 1, 1, none⟩ = some (.int .i64 m.2)
  g0 : W.frozen? ⟨w.heap.size + 1 + 1, 0, none⟩ = false
  g1 : W.frozen? ⟨w.heap.size + 1 + 1, 1, none⟩ = false
theorem RepW.new (w : World) (nm : ByteArray) (len p : Int) (v : Value) (m : Nat × Int) (t t' : TypeId) : RepW w (((w.alloc (.cells #[.string nm, .int .i64 len, .int .u32 p, v] t)).alloc (.cells #[.int .u32 0, .int .i64 0] t')).alloc (.cells #[.int .u32 (m.1 : Nat), .int .i64 m.2] t')) v m where
  below := (((Below.refl _ w).alloc (Nat.le_refl _) _).alloc (by simp) _).alloc (by simp; omega) _
  size := by simp
  b3 := by rw [World.cell?_alloc_lt _ _ ⟨w.heap.size, 3, none⟩ (by simp; omega), World.cell?_alloc_lt _ _ ⟨w.heap.size, 3, none⟩ (by simp)]; simp
  r0 := by rw [World.cell?_alloc_lt _ _ ⟨w.heap.size + 1, 0, none⟩ (by simp)]; simp
  r1 := by rw [World.cell?_alloc_lt _ _ ⟨w.heap.size + 1, 1, none⟩ (by simp)]; simp
  f0 := by rw [frozen_alloc_lt' _ _ (by simp)]; simp
  f1 := by rw [frozen_alloc_lt' _ _ (by simp)]; simp
  q0 := new_cell _ _ _ rfl (by simp)
  q1 := new_cell _ _ _ rfl (by simp)
  g0 := new_frozen _ _ _ (by simp)
  g1 := new_frozen _ _ _ (by simp)
theorem RepW.next {w W W' : World} {v : Value} {m : Nat × Int} (h : RepW w W v m) (hb : Below W.heap.size W W') : RepW w W' v m := by
  have hs := h.size
  have hs' := hb.size
  exact ⟨h.below.trans (hb.mono h.below.size), by omega, (hb.cell (p := ⟨_, 3, none⟩) (by simp; omega)).trans h.b3, (hb.cell (p := ⟨_, 0, none⟩) (by simp; omega)).trans h.r0, (hb.cell (p := ⟨_, 1, none⟩) (by simp; omega)).trans h.r1, (hb.frozen (p := ⟨_, 0, none⟩) (by simp; omega)).trans h.f0, (hb.frozen (p := ⟨_, 1, none⟩) (by simp; omega)).trans h.f1,
    (hb.cell (p := ⟨_, 0, none⟩) (by simp; omega)).trans h.q0, (hb.cell (p := ⟨_, 1, none⟩) (by simp; omega)).trans h.q1, (hb.frozen (p := ⟨_, 0, none⟩) (by simp; omega)).trans h.g0, (hb.frozen (p := ⟨_, 1, none⟩) (by simp; omega)).trans h.g1⟩
theorem RepW.set {w W : World} {v : Value} {m : Nat × Int} (h : RepW w W v m) (y : Nat × Int) : RepW w ((W.setCell ⟨w.heap.size + 1 + 1, 0, none⟩ (.int .u32 (y.1 : Nat))).setCell ⟨w.heap.size + 1 + 1, 1, none⟩ (.int .i64 y.2)) v y := by
  have o : ∀ (b i : Nat), b ≠ w.heap.size + 1 + 1 → ((W.setCell ⟨w.heap.size + 1 + 1, 0, none⟩ (.int .u32 (y.1 : Nat))).setCell ⟨w.heap.size + 1 + 1, 1, none⟩ (.int .i64 y.2)).cell? ⟨b, i, none⟩ = W.cell? ⟨b, i, none⟩ := fun b i hb => by
    have hn : ∀ j, (⟨w.heap.size + 1 + 1, j, none⟩ : Addr) ≠ ⟨b, i, none⟩ := fun j e => hb (by cases e; rfl)
    rw [World.cell?_setCell_other _ _ _ _ (hn 1), World.cell?_setCell_other _ _ _ _ (hn 0)]
  refine ⟨(h.below.setCell (p := ⟨w.heap.size + 1 + 1, 0, none⟩) (by show _ ≤ w.heap.size + 1 + 1; omega) _).setCell (p := ⟨w.heap.size + 1 + 1, 1, none⟩) (by show _ ≤ w.heap.size + 1 + 1; omega) _, by simp [World.setCell]; exact h.size, (o _ _ (by omega)).trans h.b3, (o _ _ (by omega)).trans h.r0, (o _ _ (by omega)).trans h.r1, by rw [World.frozen?_setCell, World.frozen?_setCell]; exact h.f0, by rw [World.frozen?_setCell, World.frozen?_setCell]; exact h.f1, ?_, ?_, by rw [World.frozen?_setCell, World.frozen?_setCell]; exact h.g0, by rw [World.frozen?_setCell, World.frozen?_setCell]; exact h.g1⟩
  · rw [World.cell?_setCell_other _ _ _ _ (by simp), World.cell?_setCell_same' _ _ _ (by rw [h.q0]; rfl)]
  · rw [World.cell?_setCell_same' _ _ _ (by rw [World.cell?_setCell_other _ _ _ _ (by simp), h.q1]; rfl)]

set_option maxRecDepth 100000 in
set_option maxHeartbeats 4000000 in
theorem refRepOf_any (nm : ByteArray) (len p : Int) (v : Value) (ids : List (Nat × Int)) (w : World) (hv : IdsAt w v ids) (hlen : ids.length ≤ maxLen) :
    Calls Tryz.prog 105 #[rcpV nm len p v] w fun e w' => e = .returned (idV ((repOf ids).1 : Nat) (repOf ids).2) ∧ Below w.heap.size w w' := by
  obtain ⟨pa, c, rfl, hcell⟩ := hv
  have hl2 : (ids.length : Int) ≤ 9223372036854775807 := by unfold maxLen at hlen; omega
  clear hlen
  by_cases h0 : ids = []
  · subst h0
    go_enter Tryz.func105, Tryz.ntmps105
    go_wp2_with fail
    refine (idOf_any ⟨#[]⟩ _ (by unfold maxLen; decide)).mono ?_
    rintro e w1 ⟨rfl, hb1⟩
    rw [pmore_nil]
    have hs1 := hb1.size
    have k0 : w1.cell? ⟨w.heap.size + 1, 0, none⟩ = some (.int .u32 0) := (hb1.cell (p := ⟨w.heap.size + 1, 0, none⟩) (by simp)).trans (by simp)
    have k1 : w1.cell? ⟨w.heap.size + 1, 1, none⟩ = some (.int .i64 0) := (hb1.cell (p := ⟨w.heap.size + 1, 1, none⟩) (by simp)).trans (by simp)
    have f0 : w1.frozen? ⟨w.heap.size + 1, 0, none⟩ = false := (hb1.frozen (p := ⟨w.heap.size + 1, 0, none⟩) (by simp)).trans (by simp)
    have f1 : w1.frozen? ⟨w.heap.size + 1, 1, none⟩ = false := (hb1.frozen (p := ⟨w.heap.size + 1, 1, none⟩) (by simp)).trans (by simp)
    have hbw : Below w.heap.size w w1 := (((Below.refl _ w).alloc (Nat.le_refl _) _).alloc (by simp) _).trans (hb1.mono (by simp; omega))
    have hlt : w.heap.size + 1 < w1.heap.size := by simp at hs1; omega
    clear hb1 hs1
    go_wp2_with fail
    exact bodyPost_ret (v := idV (2166136261 : Nat) 0) (by simp [results, Tryz.results105, go_sem, k0, k1]) rfl ⟨rfl, (hbw.setCell (p := ⟨w.heap.size + 1, 0, none⟩) (by simp) _).setCell (p := ⟨w.heap.size + 1, 1, none⟩) (by simp) _⟩
  · have hn1 : 1 ≤ ids.length := by rcases Nat.eq_zero_or_pos ids.length with h | h; exact (h0 (List.eq_nil_of_length_eq_zero h)).elim; exact h
    have hn1' : (1 : Int) ≤ (ids.length : Int) := by omega
    have hz : ((ids.length : Int) == 0) = false := by rw [beq_eq_false_iff_ne]; omega
    clear h0
    obtain ⟨b, o, rfl, hbl, hc0, hc1⟩ := hcell 0 (by omega)
    rw [Nat.zero_mul, Nat.add_zero] at hc0 hc1
    have HCELL : Hid (∀ W', Below w.heap.size w W' → ∀ i (h : i < ids.length), W'.cell? ⟨b, o + i * 2, none⟩ = some (.int .u32 (ids[i].1 : Nat)) ∧ W'.cell? ⟨b, o + i * 2 + 1, none⟩ = some (.int .i64 ids[i].2)) := fun W' hb i hi => by
      obtain ⟨b', o', hp, hlt, h1, h2⟩ := hcell i hi
      cases hp
      exact ⟨(hb.cell (p := ⟨b, o + i * 2, none⟩) hlt).trans h1, (hb.cell (p := ⟨b, o + i * 2 + 1, none⟩) hlt).trans h2⟩
    clear hcell
    have hc0' : ∀ oo oo', ((w.alloc oo).alloc oo').cell? ⟨b, o, none⟩ = some (.int .u32 (ids[0].1 : Nat)) := fun oo oo' => by
      rw [World.cell?_alloc_lt _ _ ⟨b, o, none⟩ (by simp; omega), World.cell?_alloc_lt _ _ ⟨b, o, none⟩ hbl]; exact hc0
    have hc1' : ∀ oo oo', ((w.alloc oo).alloc oo').cell? ⟨b, o + 1, none⟩ = some (.int .i64 ids[0].2) := fun oo oo' => by
      rw [World.cell?_alloc_lt _ _ ⟨b, o + 1, none⟩ (by simp; omega), World.cell?_alloc_lt _ _ ⟨b, o + 1, none⟩ hbl]; exact hc1
    go_enter Tryz.func105, Tryz.ntmps105
    go_wp2_with fail
    have hR : RepW w (((w.alloc (.cells #[.string nm, .int .i64 len, .int .u32 p, .slice (some ⟨b, o, none⟩) ids.length c] 40)).alloc (.cells #[.int .u32 0, .int .i64 0] 25)).alloc (.cells #[.int .u32 (ids[0].1 : Nat), .int .i64 ids[0].2] 25)) (.slice (some ⟨b, o, none⟩) ids.length c) ids[0] := RepW.new w nm len p _ ids[0] _ _
    have HI0 : Hid (repOf (ids.take 1) = ids[0]) := by
      show _ = _
      cases ids with
      | nil => simp at hn1
      | cons x r => rfl
    clear hc0 hc1 hc0' hc1'
    go_loopw [4] (fun i wr => ∃ (k : Nat), 1 ≤ k ∧ k ≤ ids.length ∧ i = .int .i64 k ∧ RepW w wr (.slice (some ⟨b, o, none⟩) ids.length c) (repOf (ids.take k))) (fun i _ => ids.length - (intOf i).toNat)
    case atStart => exact ⟨1, Nat.le_refl _, hn1, rfl, by rw [HI0.out]; exact hR⟩
    case round =>
      obtain ⟨k, hk1, hk, rfl, hRW⟩ := hrel
      clear hR HI0
      have hb3 := hRW.b3
      by_cases hlt : k < ids.length
      · have hlt' : (k : Int) < (ids.length : Int) := by omega
        have hk1' : (0 : Int) ≤ (k : Int) := by omega
        obtain ⟨hd0, hd1⟩ := HCELL.out wr hRW.below k hlt
        have HNX : Hid (repOf (ids.take (k + 1)) = lesser (repOf (ids.take k)) ids[k]) := repOf_next ids k hlt hk1
        obtain ⟨m, hm⟩ : ∃ m, repOf (ids.take k) = m := ⟨_, rfl⟩
        obtain ⟨y, hy⟩ : ∃ y, ids[k] = y := ⟨_, rfl⟩
        rw [hm] at hRW HNX
        rw [hy] at HNX hd0 hd1
        have HCY : Hid (∀ W', Below w.heap.size w W' → W'.cell? ⟨b, o + k * 2, none⟩ = some (.int .u32 (y.1 : Nat)) ∧ W'.cell? ⟨b, o + k * 2 + 1, none⟩ = some (.int .i64 y.2)) := fun W' hb => by
          have := HCELL.out W' hb k hlt
          rwa [hy] at this
        clear hm hy
        have hq0 := hRW.q0
        have hq1 := hRW.q1
        obtain ⟨Lb, hL⟩ : ∃ Lb, (if (y.1 : Int) = (m.1 : Int) then decide (y.2 < m.2) else decide ((y.1 : Int) < (m.1 : Int))) = Lb := ⟨_, rfl⟩
        have HL : Hid ((if (y.1 : Int) = (m.1 : Int) then decide (y.2 < m.2) else decide ((y.1 : Int) < (m.1 : Int))) = Lb) := hL
        have HLS : Hid (lesser m y = if Lb = true then y else m) := by show _ = _; unfold lesser lessB; rw [hL]
        clear hL
        cases Lb with
        | true =>
          go_wp2_with fail
          go_region_held3 (fun w' => w'.cell? ⟨w.heap.size, 3, none⟩ = some (.slice (some ⟨b, o, none⟩) ids.length c) ∧ w'.cell? ⟨b, o + k * 2, none⟩ = some (.int .u32 (y.1 : Nat)) ∧ w'.cell? ⟨b, o + k * 2 + 1, none⟩ = some (.int .i64 y.2) ∧ w'.cell? ⟨w.heap.size + 1 + 1, 0, none⟩ = some (.int .u32 (m.1 : Nat)) ∧ w'.cell? ⟨w.heap.size + 1 + 1, 1, none⟩ = some (.int .i64 m.2)) (go_keep) (first
            | (go_at_call 68; refine (isLess_any _ _ _ _ _).mono ?_; rintro e w2 ⟨rfl, hb2⟩; rw [HL.out]; have hR2 : RepW w w2 (.slice (some ⟨b, o, none⟩) ids.length c) m := hRW.next ((Below.refl _ wr).drew.trans (hb2.mono (Nat.le_refl _))); have z0 := hR2.b3; have z1 := hR2.q0; have z2 := hR2.q1; have z3 := hR2.g0; have z4 := hR2.g1; obtain ⟨z5, z6⟩ := HCY.out w2 hR2.below))
          go_wp2_with fail
          go_roundw
          case rel => exact ⟨k + 1, by omega, by omega, by go_num, by rw [HNX.out, HLS.out]; exact hR2.set y⟩
          case measure => simp [intOf]; omega
        | false =>
          go_wp2_with fail
          go_region_held3 (fun w' => w'.cell? ⟨w.heap.size, 3, none⟩ = some (.slice (some ⟨b, o, none⟩) ids.length c) ∧ w'.cell? ⟨b, o + k * 2, none⟩ = some (.int .u32 (y.1 : Nat)) ∧ w'.cell? ⟨b, o + k * 2 + 1, none⟩ = some (.int .i64 y.2) ∧ w'.cell? ⟨w.heap.size + 1 + 1, 0, none⟩ = some (.int .u32 (m.1 : Nat)) ∧ w'.cell? ⟨w.heap.size + 1 + 1, 1, none⟩ = some (.int .i64 m.2)) (go_keep) (first
            | (go_at_call 68; refine (isLess_any _ _ _ _ _).mono ?_; rintro e w2 ⟨rfl, hb2⟩; rw [HL.out]; have hR2 : RepW w w2 (.slice (some ⟨b, o, none⟩) ids.length c) m := hRW.next ((Below.refl _ wr).drew.trans (hb2.mono (Nat.le_refl _))); have z0 := hR2.b3; have z1 := hR2.q0; have z2 := hR2.q1; have z3 := hR2.g0; have z4 := hR2.g1; obtain ⟨z5, z6⟩ := HCY.out w2 hR2.below))
          go_wp2_with fail
          go_roundw
          case rel => exact ⟨k + 1, by omega, by omega, by go_num, by rw [HNX.out, HLS.out]; exact hR2⟩
          case measure => simp [intOf]; omega
      · have hge : (ids.length : Int) ≤ (k : Int) := by omega
        rw [List.take_of_length_le (by omega)] at hRW
        obtain ⟨m, hm⟩ : ∃ m, repOf ids = m := ⟨_, rfl⟩
        have HM : Hid (repOf ids = m) := hm
        rw [hm] at hRW
        clear hm
        have hq0 := hRW.q0
        have hq1 := hRW.q1
        have k0 := hRW.r0
        have k1 := hRW.r1
        have f0 := hRW.f0
        have f1 := hRW.f1
        go_wp2_with fail
        exact bodyPost_ret (v := idV (m.1 : Nat) m.2) (by simp [results, Tryz.results105, go_sem, k0, k1]) rfl ⟨by rw [HM.out], (hRW.below.setCell (p := ⟨w.heap.size + 1, 0, none⟩) (by simp) _).setCell (p := ⟨w.heap.size + 1, 1, none⟩) (by simp) _⟩
end Go.Proofs.YtcbcjefefmbccabGreatDoor
namespace Go.Proofs.YtcbcjefefmbccabGreatDoor
open Go.RowKit

/- Byte j of eight behind k rounds. -/
def hexAt (z : Nat) (n k j : Nat) : Nat := if 8 ≤ j + k then (hexDig (n / 16 ^ (7 - j) % 16)).toNat else z
theorem hexLast_get (n k j : Nat) (h : j < k) : (hexLast n k)[j]? = some (hexDig (n / 16 ^ (k - 1 - j) % 16)) := by
  induction k generalizing n with
  | zero => omega
  | succ k ih =>
    rw [hexLast]
    by_cases hj : j = k
    · subst hj
      rw [List.getElem?_append_right (by rw [hexLast_length]; omega), hexLast_length]
      simp
    · rw [List.getElem?_append_left (by rw [hexLast_length]; omega), ih _ (by omega), Nat.div_div_eq_div_mul, ← Nat.pow_succ', show (k - 1 - j).succ = k + 1 - 1 - j by omega]
structure HexW (z : Nat) (w : World) (B n k : Nat) (wr : World) : Prop where
  below : Below w.heap.size w wr
  size : B < wr.heap.size
  cell : ∀ j, j < 8 → wr.cell? ⟨B, j, none⟩ = some (.int .u8 (hexAt z n k j : Nat))
  free : ∀ j, j < 8 → wr.frozen? ⟨B, j, none⟩ = false

theorem HexW.next {z : Nat} {w : World} {B n k : Nat} {wr : World} (h : HexW z w B n k wr) (hB : w.heap.size ≤ B) (hk : k < 8) {o : Nat} (ho : o = 7 - k) {d : Nat} (hd : d = (hexDig (n / 16 ^ k % 16)).toNat) :
    HexW z w B n (k + 1) (wr.setCell ⟨B, o, none⟩ (.int .u8 (d : Int))) where
  below := h.below.setCell hB _
  size := by simpa [World.setCell] using h.size
  cell j hj := by
    subst ho hd
    by_cases hjk : j = 7 - k
    · subst hjk
      rw [World.cell?_setCell_same _ _ _ (h.cell _ hj)]
      unfold hexAt
      rw [if_pos (by omega), show 7 - (7 - k) = k by omega]
    · rw [World.cell?_setCell_other _ _ _ _ (fun e => hjk (by injection e; omega)), h.cell j hj]
      unfold hexAt
      by_cases h8 : 8 ≤ j + k
      · rw [if_pos h8, if_pos (by omega)]
      · rw [if_neg h8, if_neg (by omega)]
  free j hj := by
    rw [World.frozen?_setCell]
    exact h.free j hj
theorem HexW.string {z : Nat} {w : World} {B n : Nat} {wr : World} (h : HexW z w B n 8 wr) (c : Nat) :
    (convert 82 9 (.slice (some ⟨B, 0, none⟩) 8 c)).run Tryz.prog wr = .ok (.string ⟨(hexLast n 8).toArray⟩) wr := by
  have hl := hexLast_length n 8
  have := run_convert_bytes_back (P := Tryz.prog) wr 82 9 5 ⟨B, 0, none⟩ c (hexLast n 8) Tryz.underlying82 Tryz.underlying5 Tryz.underlying9 (fun j hj => by
    have hg := hexLast_get n 8 j (by omega)
    rw [List.getElem?_eq_getElem hj] at hg
    have hp : (⟨B, 0, none⟩ : Addr).add j = ⟨B, j, none⟩ := by unfold Addr.add; split <;> simp_all
    rw [Option.some.inj hg, hp, h.cell j (by omega)]
    unfold hexAt
    rw [if_pos (by omega)])
  rw [hl] at this
  exact this
end Go.Proofs.YtcbcjefefmbccabGreatDoor
namespace Go.Proofs.YtcbcjefefmbccabGreatDoor
open Go.RowKit

end Go.Proofs.YtcbcjefefmbccabGreatDoor
