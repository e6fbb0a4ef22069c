/-
  Own text. The window's two methods by contracts: take (the bytes move by one, the new one stands last) and ends (the low four bits of the bytes' sum are all 1).
  Own text. cut.first by a contract: how many bytes the first piece of a text has; no old memory turns.
  Own text. cut.each and the iterator that it hands back: the pieces of a text come, one by one, in their order.
  Own text. slices.AppendSeq, slices.Collect over an iterator of texts, and cut.Pieces: the pieces of a text, in new memory.
  Own text. The document's SameTexts and SameInts of two slices that hold the same, by contracts: true; no old memory turns.
  Own text. The document's PiecesOf by a contract: the pieces, in new memory.
-/
import Derived.Test.YtcbcjefefmbccabGreatDoorChecked
import Derived.Test.YtcbcjefefmbccabGreatDoorS06
import Derived.Deep.QuietTactic
import Derived.BigQuiet
import Derived.WalkKit
import Derived.Laws.CopyOwn
import Derived.Deep.RegionLaw
import Derived.RangeFuncRecord
import Derived.RangeFuncBox
import Derived.Test.YtcbcjefefmbccabGreatDoorS03
import Derived.RangeFuncLeaves
import Derived.RangeFuncCalls
import Derived.Shelf.Abstract
import Derived.OwnWalkIn
import Derived.TacticsInMore
import Derived.LoopNIn
import Derived.LoopIn
import Derived.Maps.AppendAt
import Derived.Lib.Strings
import Derived.RangeFuncNested
namespace Go.Proofs.YtcbcjefefmbccabGreatDoor
open Go.RowKit

abbrev u8V (c : UInt8) : Value := .int .u8 c.toNat
/- Block b is a window that holds xs. -/
def WinAt (w : World) (b : Nat) (xs : List UInt8) : Prop := w.heap[b]? = some (.cells (xs.map u8V).toArray 297 (0, 0))
theorem WinAt.cell {w : World} {b : Nat} {xs : List UInt8} (h : WinAt w b xs) {i : Nat} (hi : i < xs.length) : w.cell? ⟨b, i, none⟩ = some (u8V xs[i]) := by
  simp [World.cell?, show w.heap[b]? = _ from h, hi]
theorem WinAt.frozen {w : World} {b : Nat} {xs : List UInt8} (h : WinAt w b xs) (i : Nat) : w.frozen? ⟨b, i, none⟩ = false := by
  simp [World.frozen?, show w.heap[b]? = _ from h]
theorem WinAt.set {w : World} {b : Nat} {xs : List UInt8} (h : WinAt w b xs) (i : Nat) (c : UInt8) : WinAt (w.setCell ⟨b, i, none⟩ (u8V c)) b (xs.set i c) := by
  obtain ⟨hlt, hk⟩ := Array.getElem?_eq_some_iff.1 h
  show (w.heap.modify b _)[b]? = _
  rw [Array.getElem?_eq_getElem (by rw [Array.size_modify]; exact hlt), Array.getElem_modify_self, hk]
  simp [List.map_set]
theorem set_last (l : List UInt8) (x c : UInt8) (h : l.length = 7) : (l ++ [x]).set 7 c = l ++ [c] := by
  rw [List.set_append_right _ _ (by omega), h]
  rfl
theorem infoByte : (Tryz.prog.info? 5).map (·.size) = some 1 := by kernel_rfl

set_option maxRecDepth 100000 in
set_option maxHeartbeats 2000000 in
theorem take_any (b : Nat) (c : UInt8) (xs : List UInt8) (hx : xs.length = 8) (w : World) (hw : WinAt w b xs) :
    Calls Tryz.prog 220 #[.pointer (some ⟨b, 0, none⟩), u8V c] w fun e w' => (∃ v, e = .returned v) ∧ WinAt w' b (xs.drop 1 ++ [c]) ∧ Below b w w' := by
  have H : Hid (w.drew.heap[b]? = some (.cells (xs.map u8V).toArray 297 (0, 0))) := hw
  have HX : Hid (xs.length = 8) := hx
  have HN : Hid (((xs.drop 1).map u8V).length = Nat.min 7 8) := by show _ = _; simp; omega
  have HS : Hid (∀ j v, ((xs.drop 1).map u8V)[j]? = some v → w.drew.cell? ((⟨b, 1, none⟩ : Addr).add j) = some v) := by
    intro j v h
    have hj : j + 1 < xs.length := by
      have := (List.getElem?_eq_some_iff.1 h).1
      simp at this
      omega
    have e1 := WinAt.cell (w := w.drew) hw hj
    rw [List.getElem?_map, List.getElem?_drop, Nat.add_comm 1 j, List.getElem?_eq_getElem hj] at h
    simp at h
    subst h
    have e2 : (⟨b, 1, none⟩ : Addr).add j = ⟨b, j + 1, none⟩ := by unfold Addr.add; split <;> simp_all [Nat.add_comm]
    rw [e2]
    exact e1
  have H1 : Hid (∀ v ∈ (xs.drop 1).map u8V, v.oneCell' = true) := by
    intro v h
    simp only [List.mem_map] at h
    obtain ⟨u, _, rfl⟩ := h
    rfl
  have HF : Hid (0 + ((xs.drop 1).map u8V).length ≤ (xs.map u8V).length) := by show _ ≤ _; simp
  clear hw hx
  go_enter Tryz.func220, Tryz.ntmps220
  go_wp2
  go_region_law (refine step_copy_splice rfl (.tmp 6) (.tmp 9) 82 82 rfl 5 Tryz.underlying82 infoByte (some ⟨b, 0, none⟩) (some ⟨b, 1, none⟩) 8 8 7 7 (by simp [Act.eval, Act.put]) (by simp [Act.eval, Act.put]) b 0 (xs.map u8V) 297 H.out ((xs.drop 1).map u8V) HN.out (fun _ => ⟨rfl, _, rfl, HS.out⟩) HF.out H1.out b w (Below.refl b w).drew (Nat.le_refl _) ?_; intro w4 hg4 hb4)
  obtain ⟨ys, hys, hw4, hset⟩ : ∃ ys : List UInt8, ys.length = 8 ∧ WinAt w4 b ys ∧ ys.set 7 c = xs.drop 1 ++ [c] := by
    have hx := HX.out
    refine ⟨xs.drop 1 ++ [xs[7]'(by omega)], by simp; omega, ?_, set_last _ _ _ (by simp; omega)⟩
    have := hg4.out
    show w4.heap[b]? = _
    rw [this]
    congr 3
    rw [splice]
    simp [hx]
    rw [List.drop_eq_getElem_cons (by simp; omega)]
    simp [hx]
  obtain ⟨U, hc4⟩ : ∃ U, w4.cell? ⟨b, 7, none⟩ = some (.int .u8 U) := ⟨_, hw4.cell (i := 7) (by omega)⟩
  have hf4 := hw4.frozen 7
  have HW : Hid (WinAt w4 b ys) := hw4
  have HT : Hid (ys.set 7 c = xs.drop 1 ++ [c]) := hset
  clear hw4 hg4 hset
  go_wp2
  go_end0
  refine ⟨⟨_, rfl⟩, ?_, hb4.setCell (p := ⟨b, 7, none⟩) (Nat.le_refl _) _⟩
  have := HW.out.set 7 c
  rwa [HT.out] at this

theorem sumB_snoc (xs : List UInt8) (j : Nat) (h : j < xs.length) : sumB (xs.take (j + 1)) = sumB (xs.take j) + xs[j].toNat := by
  rw [List.take_succ_eq_append_getElem h, sumB, List.map_append, List.sum_append]
  simp [sumB]
set_option maxRecDepth 100000 in
set_option maxHeartbeats 2000000 in
theorem ends_any (b : Nat) (xs : List UInt8) (hx : xs.length = 8) (w : World) (hw : WinAt w b xs) :
    Calls Tryz.prog 221 #[.pointer (some ⟨b, 0, none⟩)] w fun e w' => e = .returned (.bool (sumB xs % 16 == 15)) ∧ w' = w := by
  have HW : Hid (WinAt w b xs) := hw
  clear hw
  go_enter Tryz.func221, Tryz.ntmps221
  go_wp2
  go_loopw [3, 7] (fun v i wr => ∃ (j : Nat), j ≤ 8 ∧ i = .int .i64 j ∧ v = .int .u8 ((sumB (xs.take j) % 256 : Nat) : Int) ∧ wr = w) (fun _ i _ => 8 - (intOf i).toNat)
  case atStart => exact ⟨0, Nat.zero_le _, rfl, rfl, rfl⟩
  case round =>
    obtain ⟨j, hj, rfl, rfl, rfl⟩ := hrel
    by_cases hlt : j < 8
    · have hc := HW.out.cell (i := j) (by omega)
      go_wp2
      go_roundw
      case rel => exact ⟨j + 1, by omega, by go_num, by rw [sumB_snoc xs j (by omega)]; congr 1; omega, trivial⟩
      case measure => simp [intOf]; omega
    · go_wp2
      go_ret
      obtain rfl : j = 8 := by omega
      rw [List.take_of_length_le (by omega)]
      refine ⟨?_, rfl⟩
      show Ending.returned (.bool _) = _
      congr 2
      rw [Bool.eq_iff_iff]
      simp
      omega
end Go.Proofs.YtcbcjefefmbccabGreatDoor
namespace Go.Proofs.YtcbcjefefmbccabGreatDoor
open Go.RowKit

theorem WinAt.new (w : World) : WinAt (w.alloc (.cells #[.int .u8 0, .int .u8 0, .int .u8 0, .int .u8 0, .int .u8 0, .int .u8 0, .int .u8 0, .int .u8 0] 297)) w.heap.size zs8 := World.alloc_heap_new w _
theorem endsAt_64 (l : List UInt8) : endsAt l 64 = true := rfl
theorem endsAt_low (l : List UInt8) (n : Nat) (h : n < 16) : endsAt l n = false := by simp [endsAt]; omega
theorem endsAt_mid (l : List UInt8) (n : Nat) (h : 16 ≤ n) (h' : n ≠ 64) : endsAt l n = (sumB (win l n) % 16 == 15) := by simp [endsAt, h, h']
theorem firstNext {l : List UInt8} {k : Nat} (h : ∀ j, 0 < j → j ≤ k → endsAt l j = false) (h' : endsAt l (k + 1) = false) : ∀ j, 0 < j → j ≤ k + 1 → endsAt l j = false := fun j h1 h2 => by
  by_cases e : j = k + 1
  · rw [e]; exact h'
  · exact h j h1 (by omega)

set_option maxRecDepth 100000 in
set_option maxHeartbeats 4000000 in
theorem first_any (s : ByteArray) (w : World) (hs : s.size ≤ 50000) :
    Calls Tryz.prog 180 #[.string s] w fun e w' => e = .returned (.int .i64 (first s.data.toList : Nat)) ∧ Below w.heap.size w w' := by
  have hsl : s.data.toList.length = s.size := by rw [Array.length_toList]; rfl
  have HSL : Hid (s.data.toList.length = s.size) := hsl
  clear hsl
  go_enter Tryz.func180, Tryz.ntmps180
  go_wp2
  have hb0 : Below w.heap.size w (w.alloc (.cells #[.int .u8 0, .int .u8 0, .int .u8 0, .int .u8 0, .int .u8 0, .int .u8 0, .int .u8 0, .int .u8 0] 297)) := (Below.refl _ w).alloc (Nat.le_refl _) _
  have hw0 := WinAt.new w
  go_loopw [8] (fun i wr => ∃ (k : Nat), k ≤ s.size ∧ i = .int .i64 k ∧ (∀ j, 0 < j → j ≤ k → endsAt s.data.toList j = false) ∧ WinAt wr w.heap.size (win s.data.toList k) ∧ Below w.heap.size w wr) (fun i _ => s.size - (intOf i).toNat)
  case atStart => exact ⟨0, Nat.zero_le _, rfl, fun j h1 h2 => by omega, by rw [win_zero]; exact hw0, hb0⟩
  case round =>
    obtain ⟨k, hk, rfl, hno, hwin, hbw⟩ := hrel
    have HN : Hid (∀ j, 0 < j → j ≤ k → endsAt s.data.toList j = false) := hno
    have HW : Hid (WinAt wr w.heap.size (win s.data.toList k)) := hwin
    clear hno hwin hb0 hw0
    by_cases hlt : k < s.size
    · have HT : Hid (win s.data.toList (k + 1) = (win s.data.toList k).drop 1 ++ [s[k]]) := win_succ _ _ (by rw [HSL.out]; exact hlt)
      have HK : Hid ((win s.data.toList k).length = 8) := win_length _ _ (by rw [HSL.out]; omega)
      have HK1 : Hid ((win s.data.toList (k + 1)).length = 8) := win_length _ _ (by rw [HSL.out]; omega)
      go_wp2_with fail
      refine (take_any _ s[k] _ HK.out _ HW.out).mono ?_
      rintro e w1 ⟨⟨v, rfl⟩, hw1, hb1⟩
      rw [← HT.out] at hw1
      have hbw1 := hbw.trans hb1
      have HW1 : Hid (WinAt w1 w.heap.size (win s.data.toList (k + 1))) := hw1
      clear hw1 HW hbw hb1
      by_cases h64 : k = 63
      · subst h64
        go_wp2_with fail
        go_ret
        have hsl := HSL.out
        exact ⟨by rw [IsFirst.eq (n := 64) ⟨by omega, by omega, fun j h1 h2 => HN.out j h1 (by omega), .inl (endsAt_64 _)⟩]; rfl, hbw1⟩
      · by_cases h16 : k < 15
        · go_wp2_with fail
          go_roundw
          case rel => exact ⟨k + 1, by omega, by go_num, firstNext HN.out (endsAt_low _ _ (by omega)), HW1.out, hbw1⟩
          case measure => simp [intOf]; omega
        · by_cases he : (sumB (win s.data.toList (k + 1)) % 16 == 15) = true
          · go_wp2_with fail
            refine (ends_any _ _ HK1.out _ HW1.out).mono ?_
            rintro e w2 ⟨rfl, rfl⟩
            go_wp2_with fail
            go_ret
            have hsl := HSL.out
            exact ⟨by rw [IsFirst.eq (n := k + 1) ⟨by omega, by omega, fun j h1 h2 => HN.out j h1 (by omega), .inl ((endsAt_mid _ _ (by omega) (by omega)).trans he)⟩]; go_num, hbw1⟩
          · have he' : (sumB (win s.data.toList (k + 1)) % 16 == 15) = false := by simpa using he
            go_wp2_with fail
            refine (ends_any _ _ HK1.out _ HW1.out).mono ?_
            rintro e w2 ⟨rfl, rfl⟩
            go_wp2_with fail
            go_roundw
            case rel => exact ⟨k + 1, by omega, by go_num, firstNext HN.out ((endsAt_mid _ _ (by omega) (by omega)).trans he'), HW1.out, hbw1⟩
            case measure => simp [intOf]; omega
    · go_wp2_with fail
      go_ret
      have hsl := HSL.out
      refine ⟨?_, hbw⟩
      obtain rfl : k = s.size := by omega
      by_cases h0 : s.size = 0
      · rw [h0, show s.data.toList = [] from List.eq_nil_of_length_eq_zero (by omega), first_nil]
        rfl
      · rw [IsFirst.eq (n := s.size) ⟨by omega, by omega, fun j h1 h2 => HN.out j h1 (by omega), .inr hsl.symm⟩]
        rfl
end Go.Proofs.YtcbcjefefmbccabGreatDoor
namespace Go.Proofs.YtcbcjefefmbccabGreatDoor
open Go.RowKit Go.Shelf

attribute [local go_sem] Oper.semAt_some

abbrev strW (p : List UInt8) : Value := .string ⟨p.toArray⟩
theorem extract_strW (s : ByteArray) (a b : Nat) : s.extract a b = ⟨((s.data.toList.drop a).take (b - a)).toArray⟩ := by
  apply ByteArray.ext
  apply Array.toList_inj.1
  rw [Lib.extract_data]
theorem behind_data (s : ByteArray) (k : Nat) : (s.extract k s.size).data.toList = s.data.toList.drop k := by
  rw [extract_strW]
  show (s.data.toList.drop k).take (s.size - k) = _
  rw [List.take_of_length_le (by rw [List.length_drop, Array.length_toList]; exact Nat.le_refl _)]
def strLen : Value → Nat
  | .string b => b.size
  | _ => 0

set_option maxHeartbeats 1000000 in
theorem each_in (n : Nat) (s : ByteArray) (w : World) :
    CallsIn Fence.wide n Tryz.prog 135 #[.string s] w fun e w' => e = .returned (.func (.func 179) #[] #[.pointer (some ⟨w.heap.size, 0, none⟩)]) ∧ w' = w.alloc (.cells #[.string s] 9) := by
  refine callsIn_of_wp Tryz.func135 rfl trivial ?_ rfl
  simp only [Tryz.ntmps135, List.size_toArray, List.length_cons, List.length_nil, Nat.reduceAdd, Nat.reduceSub, Array.replicate_succ, Array.replicate_zero, List.push_toArray, List.append_toArray, List.nil_append, List.cons_append]
  gi_wp2
  go_ret
  exact ⟨rfl, rfl⟩

set_option maxRecDepth 100000 in
set_option maxHeartbeats 4000000 in
theorem each1_in (n : Nat) (hn : 1 ≤ n) (l Bs : Nat) (s : ByteArray) (hs : s.size ≤ 50000) (J Jx : List (List UInt8) → World → Prop) (W : World)
    (hJ : AbidesFrom W.heap.size J)
    (hY : ∀ pre x W1, J pre W1 → pre.length < (pieces s.data.toList).length → YieldAt Fence.wide (n - 1) Tryz.prog l #[strW x] W1 fun e W' =>
      (e = .returned (.bool true) ∧ J (pre ++ [x]) W' ∧ True) ∨ (e = .returned (.bool false) ∧ Jx (pre ++ [x]) W'))
    (hB : W.cell? ⟨Bs, 0, none⟩ = some (.string s)) (h0 : J [] W) :
    CallsIn Fence.wide n Tryz.prog 179 #[.func (.yield l) #[] #[], .pointer (some ⟨Bs, 0, none⟩)] W fun e W' => (∃ v, e = .returned v) ∧
      ((∃ ys, ys = pieces s.data.toList ∧ J ys W') ∨ (∃ pre, pre <+: pieces s.data.toList ∧ Jx pre W')) := by
  refine callsIn_of_wp Tryz.func179 rfl trivial ?_ rfl
  simp only [Tryz.ntmps179, List.size_toArray, List.length_cons, List.length_nil, Nat.reduceAdd, Nat.reduceSub, Array.replicate_succ, Array.replicate_zero, List.push_toArray, List.append_toArray, List.nil_append, List.cons_append]
  gi_wp2
  gi_loopw [3] (fun v wr => ∃ (pre : List (List UInt8)) (rest : ByteArray), v = .string rest ∧ pieces s.data.toList = pre ++ pieces rest.data.toList ∧ rest.size ≤ 50000 ∧ J pre wr)
    (fun v _ => strLen v)
  case atStart =>
    exact ⟨[], s, rfl, rfl, hs, h0⟩
  case round =>
    obtain ⟨pre, rest, rfl, hx, hr, hJs⟩ := hrel
    have HX : Hid (pieces s.data.toList = pre ++ pieces rest.data.toList) := hx
    clear hx
    by_cases he : rest = ⟨#[]⟩
    · subst he
      gi_wp2
      go_end0
      have e := HX.out
      rw [pieces_nil, List.append_nil] at e
      exact ⟨⟨_, rfl⟩, .inl (by rw [e]; exact hJs)⟩
    · have hne : rest.toList.isEmpty = false := by
        rw [Lib.toList_data, List.isEmpty_eq_false_iff]
        intro e
        exact he (ByteArray.ext (Array.toList_inj.1 e))
      have HNE : Hid (rest.data.toList ≠ []) := fun e => he (ByteArray.ext (Array.toList_inj.1 e))
      have HSZ : Hid (rest.data.toList.length = rest.size) := by show _ = _; rw [Array.length_toList]; rfl
      clear he
      obtain ⟨k, hk⟩ : ∃ k, first rest.data.toList = k := ⟨_, rfl⟩
      have hk1 : k ≤ rest.size := by rw [← hk, ← HSZ.out]; exact first_le _
      have hk0 : 0 < k := by rw [← hk]; exact first_pos _ HNE.out
      have HK : Hid (first rest.data.toList = k) := hk
      have hex : rest.extract 0 k = ⟨(rest.data.toList.take k).toArray⟩ := by rw [extract_strW, List.drop_zero, Nat.sub_zero]
      have HP : Hid (pieces s.data.toList = (pre ++ [rest.data.toList.take k]) ++ pieces (rest.data.toList.drop k)) := by
        show _ = _
        rw [HX.out, pieces_ne _ HNE.out, hk]
        simp
      have HLT : Hid (pre.length < (pieces s.data.toList).length) := by show _ < _; rw [HP.out]; simp
      clear hk
      gi_wp2_with (refine ⟨trivial, ?_⟩; gi_at_call 180; refine (callsIn_wide.2 (first_any _ _ hr)).mono ?_; rintro e w1 ⟨rfl, hb1⟩; rw [HK.out]; have hJ1 := hJ pre wr w1 none hJs (grown_of_below hb1) (fun r e => by cases e); obtain ⟨fn, tmps, assign, body, hy, hR⟩ := hY pre (rest.data.toList.take k) w1 hJ1 HLT.out; dsimp only [strW] at hy)
      refine hR.mono ?_
      rintro e W3 (⟨rfl, hJ3, _⟩ | ⟨rfl, hJx3⟩)
      · gi_wp2
        go_roundw
        case rel => exact ⟨pre ++ [rest.data.toList.take k], rest.extract k rest.size, rfl, by rw [behind_data]; exact HP.out, by simp; omega, hJ3⟩
        case measure => simp [strLen]; omega
      · gi_wp2
        refine bodyPost_ret (results_none rfl _ _ _) rfl ?_
        exact ⟨⟨_, rfl⟩, .inr ⟨pre ++ [rest.data.toList.take k], ⟨pieces (rest.data.toList.drop k), HP.out.symm⟩, hJx3⟩⟩

/- The iterator's word. -/
theorem each_stops (n : Nat) (hn : 1 ≤ n) (Bs : Nat) (s : ByteArray) (hs : s.size ≤ 50000) (w : World) (hB : Bs < w.heap.size) (hc : w.cell? ⟨Bs, 0, none⟩ = some (.string s)) :
    SeqStopsK Fence.wide n Tryz.prog 179 #[.pointer (some ⟨Bs, 0, none⟩)] (fun x : List UInt8 => #[strW x]) (fun _ _ => True) (fun ys => ys = pieces s.data.toList) (fun pre => pre <+: pieces s.data.toList) (pieces s.data.toList).length w := fun l J Jx W hW hJ _ hY h0 =>
  each1_in n hn l Bs s hs J Jx W hJ hY ((hW.cell (p := ⟨Bs, 0, none⟩) hB).trans hc) h0
end Go.Proofs.YtcbcjefefmbccabGreatDoor
namespace Go.Proofs.YtcbcjefefmbccabGreatDoor
open Go.RowKit Go.Shelf

attribute [local go_sem] Oper.semAt_some

theorem infoText : (Tryz.prog.info? 9).map (fun i => (i.zero, i.size, i.bytes)) = some (some (.string ⟨#[]⟩), 1, 16) := by kernel_rfl
theorem row_base {W : World} {base base' : Nat} {e : TypeId} {size : Nat} {v : Value} {k : Nat} {xs : List Value} (h : W.ownsRow base e size v k xs) (hb : base' ≤ base) : W.ownsRow base' e size v k xs := by
  refine ⟨h.1, ?_⟩
  rcases h.2 with hn | ⟨g, cap, cur, hv, hbg, rest⟩
  · exact .inl hn
  · exact .inr ⟨g, cap, cur, hv, Nat.le_trans hb hbg, rest⟩
theorem own_base {w : World} {base : Nat} {e : TypeId} {size : Nat} {v : Value} {n : Nat} {xs : List Value} (h : w.ownsRow base e size v n xs) {j : Nat} (hj : v.ownBlock = some j) : base ≤ j := by
  obtain ⟨_, h⟩ := h
  rcases h with ⟨rfl, _⟩ | ⟨g, cap, cur, rfl, hg, _⟩
  · simp [Value.ownBlock] at hj
  · simp [Value.ownBlock] at hj; omega

set_option maxRecDepth 100000 in
set_option maxHeartbeats 4000000 in
theorem appendSeq_in (n : Nat) (hn : 3 ≤ n) (g : Nat) (lb : Array Value) (eg : ∀ args w, (callFunc g args).run Tryz.prog w = .ok (.enter g args) w) (xs : List (List UInt8)) (Sp : List (List UInt8) → Prop) (hN : xs.length ≤ 50000) (w w0 : World) (hb0 : Below w0.heap.size w0 w)
    (hseq : SeqStopsK Fence.wide (n - 1) Tryz.prog g lb (fun x : List UInt8 => #[strW x]) (fun _ _ => True) (fun ys => ys = xs) Sp xs.length w0) :
    CallsIn Fence.wide n Tryz.prog 178 #[.slice none 0 0, .func (.func g) #[] lb] w fun e w' => ∃ v, e = .returned v ∧ w'.ownsRow w.heap.size 9 1 v xs.length (xs.map strW) ∧ Below w.heap.size w w' := by
  have h1 : 1 ≤ n := by omega
  obtain ⟨i0, hi, hz0, hz1, hz2⟩ := info_parts infoText
  refine callsIn_of_wp_marks Tryz.func178 rfl trivial ?_ rfl
  simp only [Tryz.ntmps178, List.size_toArray, List.length_cons, List.length_nil, Nat.reduceAdd, Nat.reduceSub, Array.replicate_succ, Array.replicate_zero, List.push_toArray, List.append_toArray, List.nil_append, List.cons_append]
  gi_wp2
  have bO := Boxed.new w 73 (.slice none 0 0)
  have hB0 : Below w.heap.size w (w.alloc (.cells #[.slice none 0 0] 73)) := (Below.refl _ w).alloc (Nat.le_refl _) _
  refine wpIn_rangeFunc_ownG rfl h1 (gf := g) (lb := lb) rfl trivial eg hseq (fun _ _ => trivial) (fun _ _ _ _ _ _ _ _ => trivial) (hb0.trans (hB0.mono hb0.size)) (fun _ => rfl)
    (fun pre W => (∃ v, Boxed W w.heap.size 73 v ∧ W.ownsRow w.heap.size 9 1 v pre.length (pre.map strW) ∧ True) ∧ Below w.heap.size w W)
    (fun _ _ _ => False)
    (OwnFrom.and (Own.from (holdsRow_own w.heap.size w.heap.size 73 9 1 (fun pre : List (List UInt8) => pre.length) (fun pre => pre.map strW) (fun _ _ => True)) _) (ownFrom_below (Nat.le_refl _) (by simp)))
    (fun _ _ _ _ _ hs _ _ => hs)
    ⟨⟨_, bO, World.ownsRow_nil _ _ _ _, trivial⟩, hB0⟩
    (fun x => { tmps := #[.slice none 0 0, .func (.func g) #[] lb, .pointer (some ⟨w.heap.size, 0, none⟩), undef, .slice none 0 0, strW x, .func (.func g) #[] lb, strW x, undef, undef, undef, undef, undef], defers := [] }) ?assign ?body ?done ?stop
  case assign =>
    intro l x W K hK
    gi_wp2
    exact hK
  case body =>
    rintro l pre x W ⟨⟨v, hv, hrow, _⟩, hB⟩ hlt
    have hc := hv.cell
    gi_wp2_with (gi_at_builtin; refine wpListIn_append_own _ rfl _ _ 73 rfl w.heap.size 9 i0 (.string ⟨#[]⟩) 1 16 Tryz.underlying73 hi hz0 hz1 hz2 rfl (by decide) _ _ _ rfl (hrow.alloc _) ⟨W.heap.size, 0, none⟩ 1 1 [strW x] rfl rfl (cell_one_new _ _ _) (by simp [Value.oneCell']) (by unfold maxLen; omega) (by omega) (by have := hB.size; simp; omega) ?_; intro v' w1 hown' hgrow _; obtain ⟨g', cap', rfl⟩ := ownsRow_succ hown'; obtain ⟨hv1, hv2, hr2, hk2, hb2⟩ := hv.appended (by decide) hrow hB.size (Nat.le_refl _) hown' hgrow; have hc1 := hv1.cell; have hf1 := hv1.frozen)
    exact ⟨hk2.from _, trivial, ⟨_, hv2, by simpa using hr2, trivial⟩, hB.trans hb2⟩
  case done =>
    rintro D ys W hD rfl ⟨⟨v, hv, hrow, hnil⟩, hB⟩ hK
    have hc := hv.cell
    gi_wp2
    refine ⟨by simp, .inl ⟨_, _, rfl, run_takeDeferred hK, ?_⟩⟩
    exact ⟨_, results_tmp rfl _ _ _, v, rfl, ownsRow_putObj hrow _ hK rfl, hB.trans (belowK_b (w := w) (Nat.le_refl _) W D _ _ (by simp at hD; omega) hK rfl rfl)⟩
  case stop =>
    rintro D c pre W _ _ h _
    exact h.elim

set_option maxHeartbeats 1000000 in
theorem collect_in (n : Nat) (hn : 4 ≤ n) (g : Nat) (lb : Array Value) (eg : ∀ args w, (callFunc g args).run Tryz.prog w = .ok (.enter g args) w) (xs : List (List UInt8)) (Sp : List (List UInt8) → Prop) (hN : xs.length ≤ 50000) (w : World)
    (hseq : SeqStopsK Fence.wide (n - 1 - 1) Tryz.prog g lb (fun x : List UInt8 => #[strW x]) (fun _ _ => True) (fun ys => ys = xs) Sp xs.length w) :
    CallsIn Fence.wide n Tryz.prog 134 #[.func (.func g) #[] lb] w fun e w' => ∃ v, e = .returned v ∧ w'.ownsRow w.heap.size 9 1 v xs.length (xs.map strW) ∧ Below w.heap.size w w' := by
  have h1 : 1 ≤ n := by omega
  refine callsIn_of_wp Tryz.func134 rfl trivial ?_ rfl
  simp only [Tryz.ntmps134, List.size_toArray, List.length_cons, List.length_nil, Nat.reduceAdd, Nat.reduceSub, Array.replicate_succ, Array.replicate_zero, List.push_toArray, List.append_toArray, List.nil_append, List.cons_append]
  gi_wp2_with (refine ⟨trivial, ?_⟩; gi_at_call 178; refine (appendSeq_in (n - 1) (by omega) g lb eg xs Sp hN _ _ (Below.refl _ _) hseq).mono ?_; rintro e w' ⟨v, rfl, hrow, hb⟩)
  go_ret
  exact ⟨v, rfl, hrow, hb⟩

set_option maxHeartbeats 1000000 in
theorem pieces_any (s : ByteArray) (hs : s.size ≤ 50000) (w : World) :
    Calls Tryz.prog 76 #[.string s] w fun e w' => ∃ v, e = .returned v ∧ w'.ownsRow w.heap.size 9 1 v (pieces s.data.toList).length ((pieces s.data.toList).map strW) ∧ Below w.heap.size w w' := by
  refine (callsIn_wide (n := 8)).1 ?_
  have hlen : (pieces s.data.toList).length ≤ 50000 := Nat.le_trans (pieces_len_le _) (by rw [Array.length_toList]; exact hs)
  have HLEN : Hid ((pieces s.data.toList).length ≤ 50000) := hlen
  clear hlen
  refine callsIn_of_wp Tryz.func76 rfl trivial ?_ rfl
  simp only [Tryz.ntmps76, List.size_toArray, List.length_cons, List.length_nil, Nat.reduceAdd, Nat.reduceSub, Array.replicate_succ, Array.replicate_zero, List.push_toArray, List.append_toArray, List.nil_append, List.cons_append]
  gi_wp2_with (first
    | (refine ⟨trivial, ?_⟩; gi_at_call 135; refine (each_in _ s _).mono ?_; rintro e w' ⟨rfl, rfl⟩)
    | (refine ⟨trivial, ?_⟩; gi_at_call 134; refine (collect_in _ (by omega) 179 _ (enters_of Tryz.func179 (by kernel_rfl) rfl) (pieces s.data.toList) _ HLEN.out _ (each_stops _ (by omega) w.heap.size s hs _ (by simp) (Boxed.new w 9 (.string s)).cell)).mono ?_; rintro e w' ⟨v, rfl, hrow, hb⟩))
  go_ret
  exact ⟨v, rfl, row_base hrow (by simp), ((Below.refl _ w).alloc (Nat.le_refl _) _).trans (hb.mono (by simp))⟩
end Go.Proofs.YtcbcjefefmbccabGreatDoor
namespace Go.Proofs.YtcbcjefefmbccabGreatDoor
open Go.RowKit

abbrev txtV (p : List UInt8) : Value := .string ⟨p.toArray⟩
/- v is a slice whose elements are xs. -/
def CellsAt (w : World) (v : Value) (xs : List Value) : Prop :=
  ∃ (p : Option Addr) (c : Nat), v = .slice p xs.length c ∧ ∀ i (h : i < xs.length), ∃ b o, p = some ⟨b, o, none⟩ ∧ (b < w.heap.size ∧ xs.length ≤ c) ∧ w.cell? ⟨b, o + i, none⟩ = some xs[i]
theorem CellsAt.below {w w' : World} {v : Value} {xs : List Value} (h : CellsAt w v xs) (hb : Below w.heap.size w w') : CellsAt w' v xs := by
  obtain ⟨p, c, rfl, h⟩ := h
  refine ⟨p, c, rfl, fun i hi => ?_⟩
  obtain ⟨b, o, hp, ⟨hlt, hcap⟩, hc⟩ := h i hi
  exact ⟨b, o, hp, ⟨Nat.lt_of_lt_of_le hlt hb.size, hcap⟩, (hb.cell (p := ⟨b, o + i, none⟩) hlt).trans hc⟩
theorem CellsAt.of_row {w : World} {base : Nat} {e : TypeId} {v : Value} {n : Nat} {xs : List Value} (h : w.ownsRow base e 1 v n xs) : CellsAt w v xs := by
  obtain ⟨hl, h⟩ := h
  rw [Nat.mul_one] at hl
  rcases h with ⟨rfl, h0⟩ | ⟨g, cap, cur, rfl, hg, hb, h1, h2, h3, h4⟩
  · exact ⟨none, 0, by rw [hl, h0], fun i hi => by omega⟩
  · refine ⟨some ⟨g, 0, none⟩, cap, by rw [hl], fun i hi => ⟨g, 0, rfl, ⟨?_, by omega⟩, ?_⟩⟩
    · rcases Nat.lt_or_ge g w.heap.size with h' | h'
      · exact h'
      · simp [Array.getElem?_eq_none h'] at hb
    · have e1 : cur.toList[i]? = xs[i]? := by
        rw [← h4, List.getElem?_take, if_pos (by omega)]
      simp only [World.cell?, hb, Nat.zero_add]
      rw [← Array.getElem?_toList, e1, List.getElem?_eq_getElem hi]
      simp

/- A row that holds something: its slice written out. -/
end Go.Proofs.YtcbcjefefmbccabGreatDoor
namespace Go.Proofs.YtcbcjefefmbccabGreatDoor
open Go.RowKit

end Go.Proofs.YtcbcjefefmbccabGreatDoor
