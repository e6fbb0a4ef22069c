/-
  Own text. The document's Cut of a text by a byte, by a contract: it returns the pieces, in new memory.
-/
import Derived.Test.YteefjbdejcpepaaDoorPrint
import Derived.Lib.Strings
namespace Go.Proofs.YteefjbdejcpepaaDoor
open Go.RowKit

def cutBy (c : UInt8) : List UInt8 → List (List UInt8)
  | [] => [[]]
  | x :: l => if x = c then [] :: cutBy c l else match cutBy c l with | p :: r => (x :: p) :: r | [] => [[x]]
theorem cutBy_noc (c : UInt8) (l : List UInt8) (h : c ∉ l) : cutBy c l = [l] := by
  induction l with
  | nil => rfl
  | cons x l ih =>
    simp only [List.mem_cons, not_or] at h
    rw [cutBy, if_neg (fun e => h.1 e.symm), ih h.2]
theorem cutBy_split (c : UInt8) (p r : List UInt8) (h : c ∉ p) : cutBy c (p ++ c :: r) = p :: cutBy c r := by
  induction p with
  | nil => rw [List.nil_append, cutBy, if_pos rfl]
  | cons x p ih =>
    simp only [List.mem_cons, not_or] at h
    rw [List.cons_append, cutBy, if_neg (fun e => h.1 e.symm), ih h.2]
abbrev strV (p : List UInt8) : Value := .string ⟨p.toArray⟩
theorem extract_str (s : ByteArray) (a b : Nat) : s.extract a b = ⟨((s.data.toList.drop a).take (b - a)).toArray⟩ := by
  apply ByteArray.ext
  apply Array.toList_inj.1
  rw [Lib.extract_data]
theorem not_mem_seg (l : List UInt8) (c : UInt8) (f k : Nat) (h : ∀ j, f ≤ j → j < k → l[j]? ≠ some c) : c ∉ (l.drop f).take (k - f) := by
  intro hm
  obtain ⟨i, hi, e⟩ := List.getElem_of_mem hm
  have hi' : i < k - f := by simp at hi; omega
  have := h (f + i) (by omega) (by omega)
  apply this
  have e2 : ((l.drop f).take (k - f))[i]? = some c := by rw [List.getElem?_eq_getElem hi, e]
  rw [List.getElem?_take, if_pos hi', List.getElem?_drop] at e2
  exact e2
/- One more byte: it is not c. -/
theorem seg_next (l : List UInt8) (c : UInt8) (f k : Nat) (h : ∀ j, f ≤ j → j < k → l[j]? ≠ some c) (hk : l[k]? ≠ some c) : ∀ j, f ≤ j → j < k + 1 → l[j]? ≠ some c := by
  intro j h1 h2
  by_cases e : j = k
  · subst e; exact hk
  · exact h j h1 (by omega)
/- One more piece. -/
theorem cut_next (l : List UInt8) (c : UInt8) (ps : List (List UInt8)) (f k : Nat) (hf : f ≤ k) (hc : cutBy c l = ps ++ cutBy c (l.drop f)) (h : ∀ j, f ≤ j → j < k → l[j]? ≠ some c) (hk : l[k]? = some c) :
    cutBy c l = (ps ++ [(l.drop f).take (k - f)]) ++ cutBy c (l.drop (k + 1)) := by
  have e : l.drop f = (l.drop f).take (k - f) ++ c :: l.drop (k + 1) := by
    have h1 := List.take_append_drop (k - f) (l.drop f)
    rw [List.drop_drop, show f + (k - f) = k by omega] at h1
    have hkl : k < l.length := (List.getElem?_eq_some_iff.1 hk).1
    have h2 : l.drop k = c :: l.drop (k + 1) := by
      rw [List.drop_eq_getElem_cons hkl]
      rw [List.getElem?_eq_getElem hkl] at hk
      rw [Option.some.inj hk]
    rw [h2] at h1
    exact h1.symm
  rw [hc]
  conv => lhs; rw [e]
  rw [cutBy_split _ _ _ (not_mem_seg l c f k h)]
  simp
theorem cut_last (l : List UInt8) (c : UInt8) (ps : List (List UInt8)) (f k : Nat) (hkl : l.length ≤ k) (hc : cutBy c l = ps ++ cutBy c (l.drop f)) (h : ∀ j, f ≤ j → j < k → l[j]? ≠ some c) :
    cutBy c l = ps ++ [l.drop f] := by
  rw [hc, cutBy_noc]
  have := not_mem_seg l c f k h
  rw [List.take_of_length_le (by rw [List.length_drop]; omega)] at this
  exact this

theorem own_ge {w : World} {base : Nat} {e : TypeId} {size : Nat} {v : Value} {n : Nat} {xs : List Value} (h : w.ownsRow base e size v n xs) {j : Nat} (hj : v.ownBlock = some j) : base ≤ j := by
  obtain ⟨_, h⟩ := h
  rcases h with ⟨rfl, _⟩ | ⟨g, cap, cur, rfl, hg, _⟩
  · simp [Value.ownBlock] at hj
  · simp [Value.ownBlock] at hj; omega
theorem infoStr : (Tryd.prog.info? 9).map (fun i => (i.zero, i.size, i.bytes)) = some (some (.string ⟨#[]⟩), 1, 16) := by kernel_rfl

set_option maxHeartbeats 2000000 in
theorem cut_any (s : ByteArray) (c : UInt8) (w : World) (hs : s.size ≤ 50000) :
    Calls Tryd.prog 61 #[.string s, .int .u8 c.toNat] w fun e w' => ∃ v, e = .returned v ∧ w'.ownsRow w.heap.size 9 1 v (cutBy c s.data.toList).length ((cutBy c s.data.toList).map strV) ∧ Below w.heap.size w w' := by
  obtain ⟨i0, hi, hz0, hz1, hz2⟩ := info_parts infoStr
  go_enter Tryd.func61, Tryd.ntmps61
  go_wp2
  go_loopw [5, 6, 7] (fun v q i wr => ∃ (k f : Nat) (ps : List (List UInt8)), k ≤ s.size ∧ f ≤ k ∧ i = .int .i64 k ∧ q = .int .i64 f ∧ cutBy c s.data.toList = ps ++ cutBy c (s.data.toList.drop f) ∧ (∀ j, f ≤ j → j < k → s.data.toList[j]? ≠ some c) ∧ ps.length ≤ k ∧ wr.ownsRow w.heap.size 9 1 v ps.length (ps.map strV) ∧ Below w.heap.size w wr) (fun _ _ i _ => s.size - (intOf i).toNat)
  case atStart => exact ⟨0, 0, [], Nat.zero_le _, Nat.le_refl _, rfl, rfl, by simp, fun j h1 h2 => by omega, Nat.le_refl _, World.ownsRow_nil _ _ _ _, Below.refl _ _⟩
  case round =>
    obtain ⟨k, f, ps, hk, hf, rfl, rfl, hcut, hno, hlen, hown, hbw⟩ := hrel
    have HC : Hid (cutBy c s.data.toList = ps ++ cutBy c (s.data.toList.drop f)) := hcut
    have HN : Hid (∀ j, f ≤ j → j < k → s.data.toList[j]? ≠ some c) := hno
    clear hcut hno
    by_cases hlt : k < s.size
    · have hget : s.data.toList[k]? = some s[k] := by rw [List.getElem?_eq_getElem (by rw [Array.length_toList]; exact hlt)]; rfl
      have HG : Hid (s.data.toList[k]? = some s[k]) := hget
      clear hget
      by_cases hc : s[k] = c
      · have hq : ((s[k].toNat : Int) == (c.toNat : Int)) = true := by rw [hc]; simp
        have HQ : Hid (s[k] = c) := hc
        clear hc
        go_wp2_with (at_builtin; refine wpList_append_own _ rfl (.tmp 19) (.tmp 24) 54 rfl w.heap.size 9 i0 (.string ⟨#[]⟩) 1 16 Tryd.underlying54 hi hz0 hz1 hz2 rfl (by decide) _ _ _ rfl (hown.alloc _) ⟨wr.heap.size, 0, none⟩ 1 1 [.string (s.extract f k)] rfl rfl ?c1 ?c2 ?c3 ?c4 ?c5 ?_)
        case c1 =>
          intro j u hj
          match j, hj with
          | 0, hj => simp at hj; subst hj; simp [Addr.add]
        case c2 => intro u hu; simp at hu; subst hu; rfl
        case c3 => unfold maxLen; omega
        case c4 => omega
        case c5 => have := hbw.size; simp; omega
        intro v' w1 hown' hgrow _
        have hbw' : Below w.heap.size w w1 := (hbw.alloc hbw.size _).grown hgrow (by have := hbw.size; simp; omega) (fun j e => own_ge hown e)
        clear hgrow hown
        rw [extract_str] at hown'
        go_wp2_with fail
        go_roundw
        case rel => exact ⟨k + 1, k + 1, ps ++ [(s.data.toList.drop f).take (k - f)], by omega, Nat.le_refl _, by go_num, by go_num, cut_next _ _ _ _ _ hf HC.out HN.out (HG.out.trans (by rw [HQ.out])), fun j h1 h2 => by omega, by simp; omega, by simpa using hown', hbw'⟩
        case measure => simp [intOf]; omega
      · have hq : ((s[k].toNat : Int) == (c.toNat : Int)) = false := by
          simp
          intro e
          exact hc (UInt8.toNat_inj.1 (by omega))
        have HQ : Hid (s[k] ≠ c) := hc
        clear hc
        go_wp2_with fail
        go_roundw
        case rel => exact ⟨k + 1, f, ps, by omega, by omega, by go_num, rfl, HC.out, seg_next _ _ _ _ HN.out (by rw [HG.out]; intro e; exact HQ.out (Option.some.inj e)), by omega, hown, hbw⟩
        case measure => simp [intOf]; omega
    · go_wp2_with (at_builtin; refine wpList_append_own _ rfl (.tmp 28) (.tmp 32) 54 rfl w.heap.size 9 i0 (.string ⟨#[]⟩) 1 16 Tryd.underlying54 hi hz0 hz1 hz2 rfl (by decide) _ _ _ rfl (hown.alloc _) ⟨wr.heap.size, 0, none⟩ 1 1 [.string (s.extract f s.size)] rfl rfl ?c1 ?c2 ?c3 ?c4 ?c5 ?_)
      case c1 =>
        intro j u hj
        match j, hj with
        | 0, hj => simp at hj; subst hj; simp [Addr.add]
      case c2 => intro u hu; simp at hu; subst hu; rfl
      case c3 => unfold maxLen; omega
      case c4 => omega
      case c5 => have := hbw.size; simp; omega
      intro v' w1 hown' hgrow _
      have hbw' : Below w.heap.size w w1 := (hbw.alloc hbw.size _).grown hgrow (by have := hbw.size; simp; omega) (fun j e => own_ge hown e)
      clear hgrow hown
      rw [extract_str] at hown'
      go_wp2_with fail
      go_ret
      refine ⟨_, rfl, ?_, hbw'⟩
      rw [cut_last _ _ ps f k (by rw [Array.length_toList]; have : s.data.size = s.size := rfl; omega) HC.out HN.out]
      rw [List.take_of_length_le (by rw [List.length_drop, Array.length_toList]; exact Nat.le_refl _)] at hown'
      simpa using hown'
end Go.Proofs.YteefjbdejcpepaaDoor
