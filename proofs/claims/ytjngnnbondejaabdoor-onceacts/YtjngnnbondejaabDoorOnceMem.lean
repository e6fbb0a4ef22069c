/-
  Own text. A table of answers in the program's memory: its map's kit (strLast), where it lies (OTab); New by a contract.
-/
import Derived.Test.YtjngnnbondejaabDoorStrKit
import Derived.Test.YtjngnnbondejaabDoorOncePure
import Derived.Test.YtjngnnbondejaabDoorBinMem
namespace Go.Proofs.YtjngnnbondejaabDoor
open Go.RowKit Go.Maps

abbrev lsV (c : Int × List UInt8) : Value := .agg #[.int .i64 c.1, .string ⟨c.2.toArray⟩]
def unLs : Value → Option (Int × List UInt8)
  | .agg cs => match cs.toList with
    | [.int .i64 n, .string s] => some (n, s.data.toList)
    | _ => none
  | _ => none
theorem unLs_back (v : Value) (c : Int × List UInt8) (h : unLs v = some c) : v = lsV c := by
  unfold unLs at h
  split at h
  next cs =>
    split at h
    next n s e =>
      cases h
      have : cs = #[Value.int .i64 n, Value.string s] := by rw [← Array.toArray_toList (xs := cs), e]
      rw [this]
    next => cases h
  next => cases h
def strLast : MapKit Tryd.prog 9 (List UInt8) (Int × List UInt8) where
  mkK x := .string ⟨x.toArray⟩
  wf := WfNm
  mkV := lsV
  unV := unLs
  K := strKeyed
  key := strKey
  inv := strInv
  inj x y e := by
    have e1 : (⟨x.toArray⟩ : ByteArray) = ⟨y.toArray⟩ := Value.string.inj e
    have e2 := congrArg (fun b : ByteArray => b.data.toList) e1
    simpa using e2
  un _ := rfl
  back := unLs_back
theorem lastZero (w : World) : (zeroValue 87).run Tryd.prog w = .ok (lsV (0, [])) w := by kernel_rfl
structure OTab (w : World) (T m : Nat) (l : OL) : Prop where
  blk : Blk w T #[.map (some m)] 84
  map : strLast.Of w m l
  ne : T ≠ m
theorem OTab.off {G : Nat → Prop} {w w' : World} {T m : Nat} {l : OL} (h : OTab w T m l) (ho : Off G w w') (hT : ¬ G T) (hm : ¬ G m) : OTab w' T m l := ⟨ho.blk h.blk hT, h.map.moved (ho.block m h.map.lt hm), h.ne⟩
theorem OTab.below {w w' : World} {T m : Nat} {l : OL} (h : OTab w T m l) (hb : Below w.heap.size w w') : OTab w' T m l := h.off (Off.of_below (F := fun _ => False) hb) (fun h => h) (fun h => h)
theorem ofL_below {w w' : World} {b : Nat} {l : OL} (h : strLast.Of w b l) (hb : Below w.heap.size w w') : strLast.Of w' b l := h.kept (grown_of_below hb) (by simp)
theorem ofL_drew {w : World} {b : Nat} {l : OL} (h : strLast.Of w b l) : strLast.Of w.drew b l := ofL_below h (Below.refl _ w).drew
theorem wf_bytes {s : ByteArray} (h : s.size ≤ 50000) : WfNm s.data.toList := by
  show s.data.toList.length ≤ maxLen
  rw [Array.length_toList]
  show s.size ≤ maxLen
  unfold maxLen
  omega
theorem back_bytes (s : ByteArray) : (⟨s.data.toList.toArray⟩ : ByteArray) = s := by
  apply ByteArray.ext
  simp
/- What a look-up of a client answers. -/
theorem look_one {W : World} {m : Nat} {l : OL} (h : strLast.Of W m l) (c : ByteArray) {v : Int × List UInt8} (hg : oGet l c.data.toList = some v) :
    (Instr.lookup 82 (.map (some m)) (.string c) true).run Tryd.prog W = .ok (.tuple #[lsV v, .bool true]) W := by
  have := h.look_some Tryd.underlying82 (lastZero _) (oGet_some hg)
  change (Instr.lookup _ _ (.string ⟨c.data.toList.toArray⟩) true).run _ _ = _ at this
  rw [back_bytes] at this
  exact this
theorem look_no {W : World} {m : Nat} {l : OL} (h : strLast.Of W m l) (c : ByteArray) (hc : c.size ≤ 50000) (hg : oGet l c.data.toList = none) :
    (Instr.lookup 82 (.map (some m)) (.string c) true).run Tryd.prog W = .ok (.tuple #[lsV (0, []), .bool false]) W := by
  have := h.look_none Tryd.underlying82 (lastZero _) (wf_bytes hc) (kFind_not (oGet_none hg))
  change (Instr.lookup _ _ (.string ⟨c.data.toList.toArray⟩) true).run _ _ = _ at this
  rw [back_bytes] at this
  exact this
set_option maxRecDepth 100000 in
theorem onceNew_any (w : World) : Calls Tryd.prog 23 #[] w fun e w' => e = .returned (.pointer (some ⟨w.heap.size + 1, 0, none⟩)) ∧ OTab w' (w.heap.size + 1) w.heap.size [] ∧ Below w.heap.size w w' := by
  have hmm := @run_makeMap Tryd.prog
  have hb1 := (Below.refl w.heap.size w).alloc (Nat.le_refl _) (.map #[] 0)
  have hM1 := MapKit.Of.made strLast w
  have hb2 := (Below.refl _ (w.alloc (.map #[] 0))).alloc (Nat.le_refl _) (.cells #[.map (some w.heap.size)] 84)
  have hB := Blk.new (w.alloc (.map #[] 0)) #[.map (some w.heap.size)] 84
  have hs1 : (w.alloc (.map #[] 0)).heap.size = w.heap.size + 1 := by simp
  rw [hs1] at hB
  go_enter Tryd.func23, Tryd.ntmps23
  go_wp2_with fail
  go_ret
  exact ⟨by first | rfl | rw [hs1], ⟨hB, ofL_below hM1 hb2, by omega⟩, hb1.trans (hb2.mono hb1.size)⟩
end Go.Proofs.YtjngnnbondejaabDoor
