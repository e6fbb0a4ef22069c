/-
  Own text. cut.each and the iterator that it hands back: the pieces of a text come, one by one, in their order.
-/
import Derived.RangeFuncBox
import Derived.RangeFuncLeaves
import Derived.RangeFuncCalls
import Derived.Shelf.Abstract
import Derived.OwnWalkIn
import Derived.TacticsInMore
import Derived.LoopNIn
import Derived.LoopIn
import Derived.Maps.AppendAt
import Derived.Lib.Strings
import Derived.Test.YthgajeobenagjaaGreatDoorCutFirst
namespace Go.Proofs.YthgajeobenagjaaGreatDoor
open Go.RowKit Go.Shelf

attribute [local go_sem] Oper.semAt_some

abbrev strW (p : List UInt8) : Value := .string ⟨p.toArray⟩
theorem extract_strW (s : ByteArray) (a b : Nat) : s.extract a b = ⟨((s.data.toList.drop a).take (b - a)).toArray⟩ := by
  apply ByteArray.ext
  apply Array.toList_inj.1
  rw [Lib.extract_data]
theorem behind_data (s : ByteArray) (k : Nat) : (s.extract k s.size).data.toList = s.data.toList.drop k := by
  rw [extract_strW]
  show (s.data.toList.drop k).take (s.size - k) = _
  rw [List.take_of_length_le (by rw [List.length_drop, Array.length_toList]; exact Nat.le_refl _)]
def strLen : Value → Nat
  | .string b => b.size
  | _ => 0
theorem grown_of_below {w w' : World} (h : Below w.heap.size w w') : w.grownBy w' none := ⟨h.os, h.tape, h.output, h.size, fun k hk _ => h.block k hk⟩

set_option maxHeartbeats 1000000 in
theorem each_in (n : Nat) (s : ByteArray) (w : World) :
    CallsIn Fence.wide n Tryz.prog 30 #[.string s] w fun e w' => e = .returned (.func (.func 56) #[] #[.pointer (some ⟨w.heap.size, 0, none⟩)]) ∧ w' = w.alloc (.cells #[.string s] 9) := by
  refine callsIn_of_wp Tryz.func30 rfl trivial ?_ rfl
  simp only [Tryz.ntmps30, List.size_toArray, List.length_cons, List.length_nil, Nat.reduceAdd, Nat.reduceSub, Array.replicate_succ, Array.replicate_zero, List.push_toArray, List.append_toArray, List.nil_append, List.cons_append]
  gi_wp2
  go_ret
  exact ⟨rfl, rfl⟩

set_option maxRecDepth 100000 in
set_option maxHeartbeats 4000000 in
theorem each1_in (n : Nat) (hn : 1 ≤ n) (l Bs : Nat) (s : ByteArray) (hs : s.size ≤ 50000) (J Jx : List (List UInt8) → World → Prop) (W : World)
    (hJ : AbidesFrom W.heap.size J)
    (hY : ∀ pre x W1, J pre W1 → pre.length < (pieces s.data.toList).length → YieldAt Fence.wide (n - 1) Tryz.prog l #[strW x] W1 fun e W' =>
      (e = .returned (.bool true) ∧ J (pre ++ [x]) W' ∧ True) ∨ (e = .returned (.bool false) ∧ Jx (pre ++ [x]) W'))
    (hB : W.cell? ⟨Bs, 0, none⟩ = some (.string s)) (h0 : J [] W) :
    CallsIn Fence.wide n Tryz.prog 56 #[.func (.yield l) #[] #[], .pointer (some ⟨Bs, 0, none⟩)] W fun e W' => (∃ v, e = .returned v) ∧
      ((∃ ys, ys = pieces s.data.toList ∧ J ys W') ∨ (∃ pre, pre <+: pieces s.data.toList ∧ Jx pre W')) := by
  refine callsIn_of_wp Tryz.func56 rfl trivial ?_ rfl
  simp only [Tryz.ntmps56, List.size_toArray, List.length_cons, List.length_nil, Nat.reduceAdd, Nat.reduceSub, Array.replicate_succ, Array.replicate_zero, List.push_toArray, List.append_toArray, List.nil_append, List.cons_append]
  gi_wp2
  gi_loopw [3] (fun v wr => ∃ (pre : List (List UInt8)) (rest : ByteArray), v = .string rest ∧ pieces s.data.toList = pre ++ pieces rest.data.toList ∧ rest.size ≤ 50000 ∧ J pre wr)
    (fun v _ => strLen v)
  case atStart =>
    exact ⟨[], s, rfl, rfl, hs, h0⟩
  case round =>
    obtain ⟨pre, rest, rfl, hx, hr, hJs⟩ := hrel
    have HX : Hid (pieces s.data.toList = pre ++ pieces rest.data.toList) := hx
    clear hx
    by_cases he : rest = ⟨#[]⟩
    · subst he
      gi_wp2
      go_end0
      have e := HX.out
      rw [pieces_nil, List.append_nil] at e
      exact ⟨⟨_, rfl⟩, .inl (by rw [e]; exact hJs)⟩
    · have hne : rest.toList.isEmpty = false := by
        rw [Lib.toList_data, List.isEmpty_eq_false_iff]
        intro e
        exact he (ByteArray.ext (Array.toList_inj.1 e))
      have HNE : Hid (rest.data.toList ≠ []) := fun e => he (ByteArray.ext (Array.toList_inj.1 e))
      have HSZ : Hid (rest.data.toList.length = rest.size) := by show _ = _; rw [Array.length_toList]; rfl
      clear he
      obtain ⟨k, hk⟩ : ∃ k, first rest.data.toList = k := ⟨_, rfl⟩
      have hk1 : k ≤ rest.size := by rw [← hk, ← HSZ.out]; exact first_le _
      have hk0 : 0 < k := by rw [← hk]; exact first_pos _ HNE.out
      have HK : Hid (first rest.data.toList = k) := hk
      have hex : rest.extract 0 k = ⟨(rest.data.toList.take k).toArray⟩ := by rw [extract_strW, List.drop_zero, Nat.sub_zero]
      have HP : Hid (pieces s.data.toList = (pre ++ [rest.data.toList.take k]) ++ pieces (rest.data.toList.drop k)) := by
        show _ = _
        rw [HX.out, pieces_ne _ HNE.out, hk]
        simp
      have HLT : Hid (pre.length < (pieces s.data.toList).length) := by show _ < _; rw [HP.out]; simp
      clear hk
      gi_wp2_with (refine ⟨trivial, ?_⟩; gi_at_call 57; refine (callsIn_wide.2 (first_any _ _ hr)).mono ?_; rintro e w1 ⟨rfl, hb1⟩; rw [HK.out]; have hJ1 := hJ pre wr w1 none hJs (grown_of_below hb1) (fun r e => by cases e); obtain ⟨fn, tmps, assign, body, hy, hR⟩ := hY pre (rest.data.toList.take k) w1 hJ1 HLT.out; dsimp only [strW] at hy)
      refine hR.mono ?_
      rintro e W3 (⟨rfl, hJ3, _⟩ | ⟨rfl, hJx3⟩)
      · gi_wp2
        go_roundw
        case rel => exact ⟨pre ++ [rest.data.toList.take k], rest.extract k rest.size, rfl, by rw [behind_data]; exact HP.out, by simp; omega, hJ3⟩
        case measure => simp [strLen]; omega
      · gi_wp2
        refine bodyPost_ret (results_none rfl _ _ _) rfl ?_
        exact ⟨⟨_, rfl⟩, .inr ⟨pre ++ [rest.data.toList.take k], ⟨pieces (rest.data.toList.drop k), HP.out.symm⟩, hJx3⟩⟩

/- The iterator's word. -/
theorem each_stops (n : Nat) (hn : 1 ≤ n) (Bs : Nat) (s : ByteArray) (hs : s.size ≤ 50000) (w : World) (hB : Bs < w.heap.size) (hc : w.cell? ⟨Bs, 0, none⟩ = some (.string s)) :
    SeqStopsK Fence.wide n Tryz.prog 56 #[.pointer (some ⟨Bs, 0, none⟩)] (fun x : List UInt8 => #[strW x]) (fun _ _ => True) (fun ys => ys = pieces s.data.toList) (fun pre => pre <+: pieces s.data.toList) (pieces s.data.toList).length w := fun l J Jx W hW hJ _ hY h0 =>
  each1_in n hn l Bs s hs J Jx W hJ hY ((hW.cell (p := ⟨Bs, 0, none⟩) hB).trans hc) h0
end Go.Proofs.YthgajeobenagjaaGreatDoor
