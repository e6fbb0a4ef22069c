/-
  Own text. The document's ReadID by a contract: it reads just what print.Read reads.
  Own text. A recipe out of a text, pure, and the document's ReadRecipe by a contract.
  Own text. Recipes, pure: a text's recipe has no fault; what is joined of it and its pieces is the text, with another piece none; it is read as it was written; its rep is one of its IDs, and none is less.
  Own text. The document's SameIDs and SameRecipe of two that hold the same, by contracts: true; no old memory turns.
  Own text. What the program's package recipe is to answer, as contracts (RecSpec), over what the world holds (Env); blocks that are followed through calls (Blk); the document's RecipeOf in one word.
-/
import Derived.Test.YtcbcjefefmbccaaDoorG19
import Derived.Test.YtcbcjefefmbccaaDoorG20
import Derived.Test.YtcbcjefefmbccaaDoorG02
import Derived.Test.YtcbcjefefmbccaaDoorG03
import Derived.Deep.QuietTactic
import Derived.BigQuiet
import Derived.Test.YtcbcjefefmbccaaDoorG09
namespace Go.Proofs.YtcbcjefefmbccaaDoor
open Go.RowKit

theorem str_size (L : List UInt8) : (⟨L.toArray⟩ : ByteArray).size = L.length := by simp [ByteArray.size]
theorem str_list (L : List UInt8) : (⟨L.toArray⟩ : ByteArray).data.toList = L := by simp
def refRead (t : List UInt8) : Option (Nat × Nat) :=
  match cutBy 45 t with
  | [p, q] => if p.length = 8 then (match unhex 0 p, numOf q 6 with | some n, some l => some (n, l) | _, _ => none) else none
  | _ => none
theorem undec_no45 (q : List UInt8) : ∀ (n v : Nat), undec n q = some v → (45 : UInt8) ∉ q := by
  induction q with
  | nil => intro n v _; simp
  | cons c q ih =>
    intro n v h hm
    simp only [undec] at h
    rcases List.mem_cons.1 hm with e | e
    · subst e
      have : undec1 45 = none := by decide
      rw [this] at h
      cases h
    · cases hd : undec1 c with
      | none => rw [hd] at h; cases h
      | some d => rw [hd] at h; exact ih _ _ h e
theorem unhex_no45 (q : List UInt8) : ∀ (n v : Nat), unhex n q = some v → (45 : UInt8) ∉ q := by
  induction q with
  | nil => intro n v _; simp
  | cons c q ih =>
    intro n v h hm
    simp only [unhex] at h
    rcases List.mem_cons.1 hm with e | e
    · subst e
      have : unhex1 45 = none := by decide
      rw [this] at h
      cases h
    · cases hd : unhex1 c with
      | none => rw [hd] at h; cases h
      | some d => rw [hd] at h; exact ih _ _ h e
theorem numOf_no45 (q : List UInt8) (k v : Nat) (h : numOf q k = some v) : (45 : UInt8) ∉ q := by
  unfold numOf at h
  split at h
  · cases h
  · exact undec_no45 q 0 v h
theorem first_of (c : UInt8) (t : List UInt8) (h : c ∈ t) : ∃ a b, t = a ++ c :: b ∧ c ∉ a := by
  induction t with
  | nil => simp at h
  | cons x t ih =>
    by_cases hx : c = x
    · subst hx
      exact ⟨[], t, rfl, by simp⟩
    · rcases List.mem_cons.1 h with e | e
      · exact absurd e hx
      · obtain ⟨a, b, rfl, ha⟩ := ih e
        exact ⟨x :: a, b, rfl, by simp [hx, ha]⟩
theorem cutBy_pos (c : UInt8) (t : List UInt8) : 1 ≤ (cutBy c t).length := by
  cases t with
  | nil => simp [cutBy]
  | cons x t =>
    rw [cutBy]
    split
    · simp
    · split <;> simp
/- Where a text has no such byte it is one piece; where it has one, its pieces are those of what is ahead and behind. -/
theorem cutBy_two (t p q : List UInt8) (h : cutBy 45 t = [p, q]) : t = p ++ 45 :: q := by
  by_cases hm : (45 : UInt8) ∈ t
  · obtain ⟨a, b, rfl, ha⟩ := first_of (45 : UInt8) t hm
    rw [cutBy_split _ _ _ ha] at h
    simp only [List.cons.injEq] at h
    obtain ⟨rfl, h2⟩ := h
    by_cases hb : (45 : UInt8) ∈ b
    · obtain ⟨c, d, rfl, hc⟩ := first_of (45 : UInt8) b hb
      rw [cutBy_split _ _ _ hc] at h2
      have := congrArg List.length h2
      have h3 := cutBy_pos 45 d
      simp only [List.length_cons, List.length_nil] at this
      omega
    · rw [cutBy_noc _ _ hb] at h2
      simp at h2
      rw [h2]
  · rw [cutBy_noc _ _ hm] at h
    simp at h
theorem own_cell {w : World} {base : Nat} {e : TypeId} {v : Value} {n : Nat} {xs : List Value} (h : w.ownsRow base e 1 v n xs) (hn : 1 ≤ n) :
    ∃ g cap, v = .slice (some ⟨g, 0, none⟩) n cap ∧ base ≤ g ∧ g < w.heap.size ∧ ∀ j (hj : j < xs.length), w.cell? ⟨g, j, none⟩ = some xs[j] := by
  obtain ⟨hl, h⟩ := h
  rcases h with ⟨_, h0⟩ | ⟨g, cap, cur, rfl, hg, hb, h1, h2, h3, h4⟩
  · omega
  refine ⟨g, cap, rfl, hg, ?_, fun j hj => ?_⟩
  · rcases Nat.lt_or_ge g w.heap.size with h' | h'
    · exact h'
    · simp [Array.getElem?_eq_none h'] at hb
  · have e1 : cur.toList[j]? = xs[j]? := by
      rw [← h4, List.getElem?_take, if_pos (by omega)]
    simp only [World.cell?, hb]
    rw [← Array.getElem?_toList, e1, List.getElem?_eq_getElem hj]
    simp
theorem refRead_eq (t : List UInt8) : refRead t = idRead t := by
  by_cases hok : 8 < t.length ∧ t[8]? = some 45
  · obtain ⟨h1, h2⟩ := hok
    have hsp : t = t.take 8 ++ 45 :: t.drop 9 := by
      have h3 := List.take_append_drop 8 t
      rw [List.drop_eq_getElem_cons h1] at h3
      rw [List.getElem?_eq_getElem h1] at h2
      rw [Option.some.inj h2] at h3
      exact h3.symm
    have hl8 : (t.take 8).length = 8 := by rw [List.length_take]; omega
    have hid : idRead t = (match unhex 0 (t.take 8), numOf (t.drop 9) 6 with | some n, some l => some (n, l) | _, _ => none) := by
      have hneg : ¬ (t.length ≤ 8 ∨ t[8]? ≠ some 45) := by
        rintro (h | h)
        · omega
        · exact h h2
      unfold idRead
      rw [if_neg hneg]
      cases unhex 0 (t.take 8) <;> cases numOf (t.drop 9) 6 <;> rfl
    rw [hid]
    by_cases hA : (45 : UInt8) ∈ t.take 8
    · have hu : unhex 0 (t.take 8) = none := by
        cases hh : unhex 0 (t.take 8) with
        | none => rfl
        | some v => exact absurd hA (unhex_no45 _ _ _ hh)
      rw [hu]
      unfold refRead
      split
      · rename_i p q hpq
        have e := cutBy_two t p q hpq
        split
        · rename_i hp
          have : t.take 8 = p := by rw [e, List.take_append_of_le_length (by omega), List.take_of_length_le (by omega)]
          rw [← this, hu]
        · rfl
      · rfl
    · by_cases hB : (45 : UInt8) ∈ t.drop 9
      · have hu : numOf (t.drop 9) 6 = none := by
          cases hh : numOf (t.drop 9) 6 with
          | none => rfl
          | some v => exact absurd hB (numOf_no45 _ _ _ hh)
        rw [hu]
        have hc : cutBy 45 t = t.take 8 :: cutBy 45 (t.drop 9) := by
          conv => lhs; rw [hsp]
          exact cutBy_split _ _ _ hA
        unfold refRead
        rw [hc]
        obtain ⟨a, b, e, ha⟩ := first_of (45 : UInt8) _ hB
        rw [e, cutBy_split _ _ _ ha]
        have hp := cutBy_pos 45 b
        cases hcb : cutBy 45 b with
        | nil => rw [hcb] at hp; simp at hp
        | cons x r => cases unhex 0 (t.take 8) <;> rfl
      · have hc : cutBy 45 t = [t.take 8, t.drop 9] := by
          conv => lhs; rw [hsp]
          rw [cutBy_split _ _ _ hA, cutBy_noc _ _ hB]
        unfold refRead
        rw [hc]
        simp only [hl8, if_true]
  · have hid : idRead t = none := by
      unfold idRead
      rw [if_pos]
      by_cases h1 : t.length ≤ 8
      · exact Or.inl h1
      · exact Or.inr (fun h2 => hok ⟨by omega, h2⟩)
    rw [hid]
    unfold refRead
    split
    · rename_i p q hpq
      have e := cutBy_two t p q hpq
      split
      · rename_i hp
        exfalso
        apply hok
        rw [e]
        refine ⟨by simp; omega, ?_⟩
        rw [List.getElem?_append_right (by omega), hp]
        rfl
      · rfl
    · rfl

/- A result's block of two cells, behind a call that leaves it. -/
theorem res_keep {w w1 : World} {c0 c1 : Value} {t : TypeId} (hb : Below (w.alloc (.cells #[c0, c1] t)).heap.size (w.alloc (.cells #[c0, c1] t)) w1) :
    Below w.heap.size w w1 ∧ w.heap.size < w1.heap.size ∧ w1.cell? ⟨w.heap.size, 0, none⟩ = some c0 ∧ w1.cell? ⟨w.heap.size, 1, none⟩ = some c1 ∧ w1.frozen? ⟨w.heap.size, 0, none⟩ = false ∧ w1.frozen? ⟨w.heap.size, 1, none⟩ = false := by
  have hs := hb.size
  refine ⟨((Below.refl _ _).alloc (Nat.le_refl _) _).trans (hb.mono (by simp)), by simp at hs; omega, ?_, ?_, ?_, ?_⟩
  · rw [hb.cell (p := ⟨w.heap.size, 0, none⟩) (by simp)]; simp
  · rw [hb.cell (p := ⟨w.heap.size, 1, none⟩) (by simp)]; simp
  · rw [hb.frozen (p := ⟨w.heap.size, 0, none⟩) (by simp)]; simp
  · rw [hb.frozen (p := ⟨w.heap.size, 1, none⟩) (by simp)]; simp
def refRes : Option (Nat × Nat) → Value
  | some x => .tuple #[idV x.1 x.2, .int .i64 0]
  | none => .tuple #[idV 0 0, .int .i64 1]
theorem refRes_none : refRes none = .tuple #[idV 0 0, .int .i64 1] := rfl
theorem refRead_long (t : List UInt8) (h : (cutBy 45 t).length ≠ 2) : refRead t = none := by
  unfold refRead
  split
  · rename_i p q e; rw [e] at h; exact absurd rfl h
  · rfl

set_option maxHeartbeats 2000000 in
theorem readID_any (s : ByteArray) (hs : s.size ≤ 50000) (w : World) :
    Calls Tryd.prog 24 #[.string s] w fun e w' => e = .returned (refRes (refRead s.data.toList)) ∧ Below w.heap.size w w' := by
  have hpos := cutBy_pos 45 s.data.toList
  by_cases h2 : (cutBy 45 s.data.toList).length = 2
  · match hcs : cutBy 45 s.data.toList, h2 with
    | [p, q], _ =>
      have hcut := cut_any s 45
      have hrr : refRead s.data.toList = if p.length = 8 then (match unhex 0 p, numOf q 6 with | some n, some l => some (n, l) | _, _ => none) else none := by
        unfold refRead; rw [hcs]
      have hql : q.length ≤ 50000 := by
        have e := congrArg List.length (cutBy_two _ _ _ hcs)
        rw [len_toList, List.length_append, List.length_cons] at e
        omega
      rw [hrr]
      rw [hcs] at hcut
      clear hrr hcs h2 hpos
      have HC : Hid _ := hcut
      clear hcut
      have HS : Hid (s.size ≤ 50000) := hs
      clear hs
      have hun : ∀ W, Calls Tryd.prog 62 #[strV p] W fun e w' => e = .returned (hexRes (if p.length = 8 then unhex 0 p else none)) ∧ w' = W := by
        intro W
        by_cases h8 : p.length = 8
        · rw [if_pos h8]
          have := refUnhex_any ⟨p.toArray⟩ (by rw [str_size]; exact h8) W
          rw [str_list] at this
          exact this
        · rw [if_neg h8]
          exact refUnhex_no ⟨p.toArray⟩ (by rw [str_size]; exact h8) W
      have hnu : ∀ W, Calls Tryd.prog 63 #[strV q, .int .i64 6] W fun e w' => e = .returned (.int .i64 (numRes (numOf q 6))) ∧ w' = W := by
        intro W
        have := numberOf_any ⟨q.toArray⟩ (by rw [str_size]; unfold maxLen; omega) 6 (by decide) W
        rw [str_list] at this
        exact this
      have hgoal : (if p.length = 8 then (match unhex 0 p, numOf q 6 with | some n, some l => some (n, l) | _, _ => none) else none) = (match (if p.length = 8 then unhex 0 p else none), numOf q 6 with | some n, some l => some (n, l) | _, _ => none) := by
        by_cases h8 : p.length = 8
        · rw [if_pos h8, if_pos h8]
        · rw [if_neg h8, if_neg h8]
      rw [hgoal]
      clear hgoal hql
      generalize (if p.length = 8 then unhex 0 p else none) = oh at *
      generalize numOf q 6 = ol at *
      have HU : Hid _ := hun
      have HN : Hid _ := hnu
      clear hun hnu
      go_enter Tryd.func24, Tryd.ntmps24
      go_wp2_with fail
      refine (HC.out _ HS.out).mono ?_
      rintro e w1 ⟨v, rfl, hown, hb⟩
      obtain ⟨g, cap, rfl, hg, hgl, hcell⟩ := own_cell hown (by simp)
      obtain ⟨hbw, hsz, k0, k1, f0, f1⟩ := res_keep hb
      have hp := hcell 0 (by simp)
      have hq := hcell 1 (by simp)
      simp only [List.map_cons, List.getElem_cons_zero, List.getElem_cons_succ] at hp hq
      clear hcell hown hb HC HS
      go_wp2_with fail
      refine (HU.out _).mono ?_
      rintro e w2 ⟨rfl, hw2⟩
      subst hw2
      cases oh with
      | none =>
        unfold hexRes
        go_wp2_with fail
        refine (HN.out _).mono ?_
        rintro e w2 ⟨rfl, hw2⟩
        subst hw2
        go_wp2_with fail
        exact bodyPost_ret (v := .tuple #[idV 0 0, .int .i64 1]) (by simp [results, Tryd.results24, go_sem, k0, k1]) rfl ⟨rfl, (hbw.setCell (Nat.le_refl _) _).setCell (Nat.le_refl _) _⟩
      | some n =>
        unfold hexRes
        go_wp2_with fail
        refine (HN.out _).mono ?_
        rintro e w2 ⟨rfl, hw2⟩
        subst hw2
        cases ol with
        | none =>
          unfold numRes
          go_wp2_with fail
          exact bodyPost_ret (v := .tuple #[idV 0 0, .int .i64 1]) (by simp [results, Tryd.results24, go_sem, k0, k1]) rfl ⟨rfl, (hbw.setCell (Nat.le_refl _) _).setCell (Nat.le_refl _) _⟩
        | some l =>
          unfold numRes
          have hl0 : ¬ (l : Int) < 0 := by omega
          go_wp2_with fail
          exact bodyPost_ret (v := .tuple #[idV n l, .int .i64 0]) (by simp [results, Tryd.results24, go_sem, k0, k1]) rfl ⟨rfl, (hbw.setCell (Nat.le_refl _) _).setCell (Nat.le_refl _) _⟩
  · rw [refRead_long _ h2, refRes_none]
    have hcut := cut_any s 45
    generalize cutBy 45 s.data.toList = cs at *
    have hne : ((cs.length : Int) != 2) = true := by simp; omega
    have HC : Hid _ := hcut
    clear hcut
    go_enter Tryd.func24, Tryd.ntmps24
    go_wp2_with fail
    refine (HC.out _ hs).mono ?_
    rintro e w1 ⟨v, rfl, hown, hb⟩
    obtain ⟨g, cap, rfl, hg, hgl, hcell⟩ := own_cell hown (by omega)
    obtain ⟨hbw, hsz, k0, k1, f0, f1⟩ := res_keep hb
    clear hcell hown hb
    go_wp2_with fail
    exact bodyPost_ret (v := .tuple #[idV 0 0, .int .i64 1]) (by simp [results, Tryd.results24, go_sem, k0, k1]) rfl ⟨rfl, (hbw.setCell (Nat.le_refl _) _).setCell (Nat.le_refl _) _⟩
end Go.Proofs.YtcbcjefefmbccaaDoor
namespace Go.Proofs.YtcbcjefefmbccaaDoor
open Go.RowKit

def readIds : List (List UInt8) → Option (List (Nat × Int))
  | [] => some []
  | t :: r => match idRead t, readIds r with
    | some x, some ids => some ((x.1, (x.2 : Int)) :: ids)
    | _, _ => none
abbrev RcpD := List UInt8 × Int × Nat × List (Nat × Int)
def rcpRead (t : List UInt8) : RcpD × (Int × Int) :=
  match cutBy 32 t with
  | nm :: ln :: pr :: r => match numOf ln 6, unhex8 pr, readIds r with
    | some n, some p, some ids => if recFault nm n ids = (0, -1) then ((nm, (n : Int), p, ids), (0, -1)) else (([], 0, 0, []), recFault nm n ids)
    | _, _, _ => (([], 0, 0, []), (1, -1))
  | _ => (([], 0, 0, []), (1, -1))
theorem readIds_snoc : ∀ (l : List (List UInt8)) (t : List UInt8) (ids : List (Nat × Int)) (x : Nat × Nat), readIds l = some ids → idRead t = some x → readIds (l ++ [t]) = some (ids ++ [(x.1, (x.2 : Int))])
  | [], t, ids, x, h, hx => by
    cases h
    simp [readIds, hx]
  | u :: r, t, ids, x, h, hx => by
    rw [readIds] at h
    rw [List.cons_append, readIds]
    split at h
    · rename_i y js hy hj
      cases h
      rw [hy, readIds_snoc r t js x hj hx]
      rfl
    · cases h
theorem readIds_none : ∀ (l : List (List UInt8)) (k : Nat) (h : k < l.length), idRead l[k] = none → readIds l = none
  | u :: r, 0, _, hx => by
    have hx' : idRead u = none := hx
    rw [readIds, hx']
  | u :: r, k + 1, h, hx => by
    rw [readIds, readIds_none r k (by simpa using h) (by simpa using hx)]
    cases idRead u <;> rfl
theorem cutBy_len (c : UInt8) : ∀ (l : List UInt8), (cutBy c l).length ≤ l.length + 1 ∧ ∀ p ∈ cutBy c l, p.length ≤ l.length
  | [] => by simp [cutBy]
  | x :: l => by
    have ih := cutBy_len c l
    rw [cutBy]
    split
    · refine ⟨by simp; exact ih.1, fun p hp => ?_⟩
      rcases List.mem_cons.1 hp with rfl | hp
      · simp
      · exact Nat.le_trans (ih.2 p hp) (by simp)
    · split
      · rename_i p r he
        rw [he] at ih
        refine ⟨by simp at ih ⊢; omega, fun q hq => ?_⟩
        rcases List.mem_cons.1 hq with rfl | hq
        · have := ih.2 p (by simp)
          simp
          omega
        · exact Nat.le_trans (ih.2 q (by simp [hq])) (by simp)
      · exact ⟨by simp, fun q hq => by simp at hq; subst hq; simp⟩
theorem rcpRead_short (t : List UInt8) (h : (cutBy 32 t).length < 3) : rcpRead t = (([], 0, 0, []), (1, -1)) := by
  unfold rcpRead
  split
  · rename_i e
    rw [e] at h
    simp at h
    omega
  · rfl

theorem rcpRead_parts {t nm ln pr : List UInt8} {rs : List (List UInt8)} (h : cutBy 32 t = nm :: ln :: pr :: rs) : rcpRead t = match numOf ln 6, unhex8 pr, readIds rs with
    | some n, some p, some ids => if recFault nm n ids = (0, -1) then ((nm, (n : Int), p, ids), (0, -1)) else (([], 0, 0, []), recFault nm n ids)
    | _, _, _ => (([], 0, 0, []), (1, -1)) := by
  unfold rcpRead
  rw [h]
theorem rcpRead_num {t nm ln pr : List UInt8} {rs : List (List UInt8)} (h : cutBy 32 t = nm :: ln :: pr :: rs) (hn : numOf ln 6 = none) : rcpRead t = (([], 0, 0, []), (1, -1)) := by
  rw [rcpRead_parts h, hn]
theorem rcpRead_hex {t nm ln pr : List UInt8} {rs : List (List UInt8)} (h : cutBy 32 t = nm :: ln :: pr :: rs) {n : Nat} (hn : numOf ln 6 = some n) (hu : unhex8 pr = none) : rcpRead t = (([], 0, 0, []), (1, -1)) := by
  rw [rcpRead_parts h, hn, hu]
theorem rcpRead_ids {t nm ln pr : List UInt8} {rs : List (List UInt8)} (h : cutBy 32 t = nm :: ln :: pr :: rs) {n p : Nat} (hn : numOf ln 6 = some n) (hu : unhex8 pr = some p) (hi : readIds rs = none) : rcpRead t = (([], 0, 0, []), (1, -1)) := by
  rw [rcpRead_parts h, hn, hu, hi]
theorem rcpRead_all {t nm ln pr : List UInt8} {rs : List (List UInt8)} (h : cutBy 32 t = nm :: ln :: pr :: rs) {n p : Nat} (hn : numOf ln 6 = some n) (hu : unhex8 pr = some p) {ids : List (Nat × Int)} (hi : readIds rs = some ids) : rcpRead t = if recFault nm n ids = (0, -1) then ((nm, (n : Int), p, ids), (0, -1)) else (([], 0, 0, []), recFault nm n ids) := by
  rw [rcpRead_parts h, hn, hu, hi]
theorem unhex8_any (p : List UInt8) (w : World) : Calls Tryd.prog 62 #[strV p] w fun e w' => e = .returned (hexRes (unhex8 p)) ∧ w' = w := by
  by_cases h : p.length = 8
  · have := refUnhex_any ⟨p.toArray⟩ (by rw [str_size]; exact h) w
    rw [str_list] at this
    rw [unhex8, if_pos h]
    exact this
  · have := refUnhex_no ⟨p.toArray⟩ (by rw [str_size]; exact h) w
    rw [unhex8, if_neg h]
    exact this
/- The two results, in blocks of their own, still empty. -/
structure ReadW (w W : World) : Prop where
  below : Below w.heap.size w W
  size : w.heap.size + 1 < W.heap.size
  r0 : W.cell? ⟨w.heap.size, 0, none⟩ = some (.string ⟨#[]⟩)
  r1 : W.cell? ⟨w.heap.size, 1, none⟩ = some (.int .i64 0)
  r2 : W.cell? ⟨w.heap.size, 2, none⟩ = some (.int .u32 0)
  r3 : W.cell? ⟨w.heap.size, 3, none⟩ = some (.slice none 0 0)
  k0 : W.cell? ⟨w.heap.size + 1, 0, none⟩ = some (.int .i64 0)
  k1 : W.cell? ⟨w.heap.size + 1, 1, none⟩ = some (.int .i64 0)
  g : ∀ i, W.frozen? ⟨w.heap.size, i, none⟩ = false
  f : ∀ i, W.frozen? ⟨w.heap.size + 1, i, none⟩ = false
theorem ReadW.new (w : World) (t t' : TypeId) : ReadW w ((w.alloc (.cells #[.string ⟨#[]⟩, .int .i64 0, .int .u32 0, .slice none 0 0] t)).alloc (.cells #[.int .i64 0, .int .i64 0] t')) where
  below := ((Below.refl _ w).alloc (Nat.le_refl _) _).alloc (by simp) _
  size := by simp
  r0 := by rw [World.cell?_alloc_lt _ _ ⟨w.heap.size, 0, none⟩ (by simp)]; simp
  r1 := by rw [World.cell?_alloc_lt _ _ ⟨w.heap.size, 1, none⟩ (by simp)]; simp
  r2 := by rw [World.cell?_alloc_lt _ _ ⟨w.heap.size, 2, none⟩ (by simp)]; simp
  r3 := by rw [World.cell?_alloc_lt _ _ ⟨w.heap.size, 3, none⟩ (by simp)]; simp
  k0 := by simp
  k1 := by simp
  g := fun i => by rw [frozen_alloc_lt' _ _ (by simp)]; exact new_frozen w _ _ rfl
  f := fun i => new_frozen _ _ _ (by simp)
theorem ReadW.next {w W W' : World} (h : ReadW w W) (hb : Below W.heap.size W W') : ReadW w W' := by
  have hs := h.size
  have hs' := hb.size
  exact ⟨h.below.trans (hb.mono h.below.size), by omega, (hb.cell (p := ⟨_, 0, none⟩) (by simp; omega)).trans h.r0, (hb.cell (p := ⟨_, 1, none⟩) (by simp; omega)).trans h.r1, (hb.cell (p := ⟨_, 2, none⟩) (by simp; omega)).trans h.r2, (hb.cell (p := ⟨_, 3, none⟩) (by simp; omega)).trans h.r3,
    (hb.cell (p := ⟨_, 0, none⟩) (by simp; omega)).trans h.k0, (hb.cell (p := ⟨_, 1, none⟩) (by simp; omega)).trans h.k1, fun i => (hb.frozen (p := ⟨_, i, none⟩) (by simp; omega)).trans (h.g i), fun i => (hb.frozen (p := ⟨_, i, none⟩) (by simp; omega)).trans (h.f i)⟩

/- A refusal: both results stored. -/
def readPost (s : ByteArray) (w : World) (e : Ending) (w' : World) : Prop := ∃ v, e = .returned (.tuple #[rcpV ⟨(rcpRead s.data.toList).1.1.toArray⟩ (rcpRead s.data.toList).1.2.1 ((rcpRead s.data.toList).1.2.2.1 : Nat) v, faultV (rcpRead s.data.toList).2.1 (rcpRead s.data.toList).2.2]) ∧ IdsIn w.heap.size w' v (rcpRead s.data.toList).1.2.2.2 ∧ Below w.heap.size w w'
abbrev stored (W : World) (h : Nat) (c a : Int) : World := (((((W.setCell ⟨h, 0, none⟩ (.string ⟨#[]⟩)).setCell ⟨h, 1, none⟩ (.int .i64 0)).setCell ⟨h, 2, none⟩ (.int .u32 0)).setCell ⟨h, 3, none⟩ (.slice none 0 0)).setCell ⟨h + 1, 0, none⟩ (.int .i64 c)).setCell ⟨h + 1, 1, none⟩ (.int .i64 a)
theorem readBad {s : ByteArray} {w W : World} {c a : Int} (h : ReadW w W) (hr : rcpRead s.data.toList = (([], 0, 0, []), (c, a))) : readPost s w (.returned (.tuple #[rcpV ⟨#[]⟩ 0 0 (.slice none 0 0), faultV c a])) (stored W w.heap.size c a) := by
  refine ⟨.slice none 0 0, by rw [hr]; rfl, by rw [hr]; exact IdsIn.nil _ _, ?_⟩
  exact (((((h.below.setCell (p := ⟨w.heap.size, 0, none⟩) (Nat.le_refl _) _).setCell (p := ⟨w.heap.size, 1, none⟩) (Nat.le_refl _) _).setCell (p := ⟨w.heap.size, 2, none⟩) (Nat.le_refl _) _).setCell (p := ⟨w.heap.size, 3, none⟩) (Nat.le_refl _) _).setCell (p := ⟨w.heap.size + 1, 0, none⟩) (by simp) _).setCell (p := ⟨w.heap.size + 1, 1, none⟩) (by simp) _

theorem readPost.drew {s : ByteArray} {w w' : World} {e : Ending} (h : readPost s w e w') : readPost s w e w'.drew := by
  obtain ⟨v, h1, h2, h3⟩ := h
  exact ⟨v, h1, h2.below (Below.refl _ _).drew, h3.drew⟩
abbrev stored4 (W : World) (h : Nat) (a b c d : Value) (x y : Int) : World := (((((W.setCell ⟨h, 0, none⟩ a).setCell ⟨h, 1, none⟩ b).setCell ⟨h, 2, none⟩ c).setCell ⟨h, 3, none⟩ d).setCell ⟨h + 1, 0, none⟩ (.int .i64 x)).setCell ⟨h + 1, 1, none⟩ (.int .i64 y)
theorem readGood {s : ByteArray} {w W : World} {nm : ByteArray} {n : Int} {p : Nat} {ids : List (Nat × Int)} {v : Value} {base : Nat} {e : TypeId} (h : ReadW w W) (hb : w.heap.size + 1 < base) (ho : W.ownsRow base e 2 v ids.length (idCells ids)) (hr : rcpRead s.data.toList = ((nm.data.toList, n, p, ids), (0, -1))) :
    readPost s w (.returned (.tuple #[rcpV nm n (p : Nat) v, faultV 0 (-1)])) (stored4 W w.heap.size (.string nm) (.int .i64 n) (.int .u32 (p : Nat)) v 0 (-1)) := by
  refine ⟨v, ?_, ?_, ?_⟩
  · rw [hr, show (⟨nm.data.toList.toArray⟩ : ByteArray) = nm from (bytes_eq rfl).symm]
  · rw [hr]
    refine (IdsIn.of_row (base := base) (e := e) ?_).low (by omega)
    have h0 : w.heap.size < base := by omega
    exact ownsRow_setCell_below (ownsRow_setCell_below (ownsRow_setCell_below (ownsRow_setCell_below (ownsRow_setCell_below (ownsRow_setCell_below ho (a := ⟨w.heap.size, 0, none⟩) h0 _) (a := ⟨w.heap.size, 1, none⟩) h0 _) (a := ⟨w.heap.size, 2, none⟩) h0 _) (a := ⟨w.heap.size, 3, none⟩) h0 _) (a := ⟨w.heap.size + 1, 0, none⟩) hb _) (a := ⟨w.heap.size + 1, 1, none⟩) hb _
  · exact (((((h.below.setCell (p := ⟨w.heap.size, 0, none⟩) (Nat.le_refl _) _).setCell (p := ⟨w.heap.size, 1, none⟩) (Nat.le_refl _) _).setCell (p := ⟨w.heap.size, 2, none⟩) (Nat.le_refl _) _).setCell (p := ⟨w.heap.size, 3, none⟩) (Nat.le_refl _) _).setCell (p := ⟨w.heap.size + 1, 0, none⟩) (by simp) _).setCell (p := ⟨w.heap.size + 1, 1, none⟩) (by simp) _

end Go.Proofs.YtcbcjefefmbccaaDoor
namespace Go.Proofs.YtcbcjefefmbccaaDoor

theorem pieces_many : ∀ (l : List UInt8), l ≠ [] → 16 * ((pieces l).length - 1) + 1 ≤ l.length := by
  refine pieces_rec (fun h => (h rfl).elim) ?_
  intro l hl ih _
  have hp := first_pos l hl
  have hle := first_le l
  rw [pieces_ne l hl, List.length_cons, Nat.add_sub_cancel]
  by_cases hd : l.drop (first l) = []
  · rw [hd, pieces_nil]
    have := List.length_pos_iff.2 hl
    simp
    omega
  · have h16 := first_ge16 l (drop_ne_nil hd)
    have hlt := drop_ne_nil hd
    have := ih hd
    rw [List.length_drop] at this
    have hn : 1 ≤ (pieces (l.drop (first l))).length := by
      rcases Nat.eq_zero_or_pos (pieces (l.drop (first l))).length with h | h
      · exact (hd ((pieces_eq_nil _).1 (List.eq_nil_of_length_eq_zero h))).elim
      · exact h
    omega
theorem pieces_250 (l : List UInt8) (h : l.length ≤ 4000) : (pieces l).length ≤ 250 := by
  by_cases e : l = []
  · subst e; decide
  · have := pieces_many l e
    omega
theorem idsOf_length (l : List UInt8) : (idsOf l).length = (pieces l).length := List.length_map _
theorem idsOf_at (l : List UInt8) (i : Nat) (h : i < (idsOf l).length) : (idsOf l)[i] = idOfL ((pieces l)[i]'(by rw [← idsOf_length]; exact h)) := by
  simp only [idsOf, List.getElem_map]
  rfl
theorem lenSum_pieces : ∀ (ps : List (List UInt8)), lenSum (ps.map fun p => (pmore 2166136261 p, (p.length : Int))) = (ps.flatten.length : Int)
  | [] => rfl
  | p :: r => by
    have ih := lenSum_pieces r
    simp only [lenSum, List.map_cons, List.sum_cons, List.flatten_cons, List.length_append] at ih ⊢
    rw [ih]
    omega
theorem recFault_of (nm l : List UInt8) (hn : isName nm = true) (hl : l.length ≤ 4000) : recFault nm l.length (idsOf l) = (0, -1) := by
  refine recFault_fine hn (by omega) (by have := pieces_250 l hl; rw [idsOf_length]; omega) (firstBad_none _ _ fun j hj => ?_) ?_
  · have hj' : j < (pieces l).length := by rw [← idsOf_length]; exact hj
    have := pieces_at l j hj'
    rw [idsOf_at]
    unfold idOk idOfL
    exact decide_eq_true ⟨by show (1 : Int) ≤ ((pieces l)[j].length : Int); omega, by show ((pieces l)[j].length : Int) ≤ 64; omega⟩
  · rw [idsOf, lenSum_pieces, pieces_flatten]
theorem joinOf_pieces (nm l : List UInt8) (hn : isName nm = true) (hl : l.length ≤ 4000) : joinOf nm l.length (pmore 2166136261 l) (idsOf l) (pieces l) = (l, (0, -1)) := by
  unfold joinOf
  rw [if_neg (by rw [recFault_of nm l hn hl]; simp), if_neg (by rw [idsOf_length]; simp), firstOdd_none (pieces l) (idsOf l) 0 (fun j hj hj' => (idsOf_at l j hj').symm), pieces_flatten]
  simp
theorem joinOf_other (nm l p : List UInt8) (hn : isName nm = true) (hl : l.length ≤ 4000) (k : Nat) (hk : k < (pieces l).length) (hp : idOfL p ≠ idOfL (pieces l)[k]) : joinOf nm l.length (pmore 2166136261 l) (idsOf l) ((pieces l).set k p) = ([], (9, (k : Int))) := by
  have hf : firstOdd 0 ((pieces l).set k p) (idsOf l) = some k := by
    have := firstOdd_at ((pieces l).set k p) (idsOf l) 0 k (by rw [List.length_set]; exact hk) (by rw [idsOf_length]; exact hk) (fun j hj hj' h => ?_) ?_
    · rwa [Nat.zero_add] at this
    · rw [List.getElem_set_ne (by omega), idsOf_at]
    · rw [List.getElem_set_self, idsOf_at]
      exact hp
  unfold joinOf
  rw [if_neg (by rw [recFault_of nm l hn hl]; simp), if_neg (by rw [idsOf_length, List.length_set]; simp), hf]

theorem undec_no (c : UInt8) (hc : undec1 c = none) : ∀ (q : List UInt8) (n v : Nat), undec n q = some v → c ∉ q
  | [], _, _, _ => by simp
  | x :: q, n, v, h => by
    rw [undec] at h
    split at h
    · rename_i d hd
      have ih := undec_no c hc q _ _ h
      intro hm
      rcases List.mem_cons.1 hm with e | hm
      · rw [← e, hc] at hd
        cases hd
      · exact ih hm
    · cases h
theorem unhex_no (c : UInt8) (hc : unhex1 c = none) : ∀ (q : List UInt8) (n v : Nat), unhex n q = some v → c ∉ q
  | [], _, _, _ => by simp
  | x :: q, n, v, h => by
    rw [unhex] at h
    split at h
    · rename_i d hd
      have ih := unhex_no c hc q _ _ h
      intro hm
      rcases List.mem_cons.1 hm with e | hm
      · rw [← e, hc] at hd
        cases hd
      · exact ih hm
    · cases h
theorem blank_dec (u : Nat) : (32 : UInt8) ∉ Lib.decDigits u := undec_no 32 (by decide) _ 0 u (undec_decDigits u)
theorem pow16 : (16 : Nat) ^ 8 = 4294967296 := by decide
theorem unhex_hex (n : Nat) (h : n < 4294967296) : unhex 0 (hexLast n 8) = some n := by
  rw [unhex_hexLast 0 n 8 (by rw [pow16]; exact h), Nat.zero_mul, Nat.zero_add]
theorem blank_hex (n : Nat) (h : n < 4294967296) : (32 : UInt8) ∉ hexLast n 8 := unhex_no 32 (by decide) _ 0 n (unhex_hex n h)
theorem blank_id (n l : Nat) (h : n < 4294967296) : (32 : UInt8) ∉ idText n l := by
  intro hm
  rcases List.mem_append.1 hm with hm | hm
  · exact blank_hex n h hm
  · rcases List.mem_cons.1 hm with e | hm
    · exact absurd e (by decide)
    · exact blank_dec l hm
theorem blank_name (nm : List UInt8) (h : isName nm = true) : (32 : UInt8) ∉ nm := by
  intro hm
  unfold isName at h
  rw [Bool.and_eq_true] at h
  have := List.all_eq_true.1 h.1 32 hm
  exact absurd this (by decide)
theorem cut_ids : ∀ (ids : List (Nat × Int)) (X : List UInt8), (32 : UInt8) ∉ X → (∀ x ∈ ids, x.1 < 4294967296) → cutBy 32 (X ++ idsText ids) = X :: ids.map fun x => idText x.1 x.2.toNat
  | [], X, hX, _ => by
    rw [show idsText [] = [] from rfl, List.append_nil, cutBy_noc _ _ hX]
    rfl
  | x :: r, X, hX, h => by
    rw [show idsText (x :: r) = 32 :: (idText x.1 x.2.toNat ++ idsText r) from rfl, cutBy_split _ _ _ hX, cut_ids r _ (blank_id _ _ (h x (by simp))) (fun y hy => h y (by simp [hy]))]
    rfl
theorem read_ids : ∀ (ids : List (Nat × Int)), (∀ x ∈ ids, x.1 < 4294967296) → (∀ x ∈ ids, idOk x = true) → readIds (ids.map fun x => idText x.1 x.2.toNat) = some ids
  | [], _, _ => rfl
  | x :: r, h, ho => by
    have h0 := ho x (by simp)
    simp only [idOk, decide_eq_true_eq] at h0
    have e := idRead_idText x.1 x.2.toNat (h x (by simp)) (by omega)
    rw [List.map_cons, readIds, e, read_ids r (fun y hy => h y (by simp [hy])) (fun y hy => ho y (by simp [hy]))]
    simp only [Option.some.injEq, List.cons.injEq, and_true]
    apply Prod.ext
    · rfl
    · simp only
      omega
theorem firstBad_all : ∀ (ids : List (Nat × Int)) (i : Nat), firstBad i ids = none → ∀ x ∈ ids, idOk x = true
  | [], _, _, x, hx => by simp at hx
  | y :: r, i, h, x, hx => by
    rw [firstBad] at h
    split at h
    · rename_i hy
      rcases List.mem_cons.1 hx with e | hx
      · rw [e]; exact hy
      · exact firstBad_all r (i + 1) h x hx
    · cases h
theorem rcpRead_text (nm : List UInt8) (len : Int) (p : Nat) (ids : List (Nat × Int)) (hf : recFault nm len ids = (0, -1)) (hp : p < 4294967296) (h32 : ∀ x ∈ ids, x.1 < 4294967296) : rcpRead (rcpText nm len p ids) = ((nm, len, p, ids), (0, -1)) := by
  obtain ⟨h1, ⟨h2, h2'⟩, _, h4, _⟩ := recFault_zero hf
  have hcut : cutBy 32 (rcpText nm len p ids) = nm :: Lib.decDigits len.toNat :: hexLast p 8 :: ids.map fun x => idText x.1 x.2.toNat := by
    have e : rcpText nm len p ids = nm ++ 32 :: (Lib.decDigits len.toNat ++ 32 :: (hexLast p 8 ++ idsText ids)) := by
      simp [rcpText]
    rw [e, cutBy_split _ _ _ (blank_name nm h1), cutBy_split _ _ _ (blank_dec _), cut_ids ids _ (blank_hex p hp) h32]
  have hlen : ((len.toNat : Nat) : Int) = len := Int.toNat_of_nonneg h2
  have h6 : (10 : Nat) ^ 6 = 1000000 := by decide
  have hn : numOf (Lib.decDigits len.toNat) 6 = some len.toNat := numOf_decDigits len.toNat 6 (by decide) (by rw [h6]; omega)
  have hu : unhex8 (hexLast p 8) = some p := by rw [unhex8, if_pos (hexLast_length p 8), unhex_hex p hp]
  have hr := read_ids ids h32 (firstBad_all ids 0 h4)
  rw [rcpRead_all hcut hn hu hr, hlen, if_pos hf]

theorem lesser_mem (m y : Nat × Int) : lesser m y = m ∨ lesser m y = y := by
  unfold lesser
  split
  · exact .inr rfl
  · exact .inl rfl
theorem lesser_least (m y x : Nat × Int) (h : lessB x m = false) : lessB x (lesser m y) = false := by
  unfold lesser
  split
  · rename_i hy
    have h1 : ¬ lessB x m = true := by rw [h]; simp
    rw [lessB_iff] at h1 hy
    have h2 : ¬ lessB x y = true := by rw [lessB_iff]; omega
    simpa using h2
  · exact h
theorem lesser_self (m y : Nat × Int) : lessB y (lesser m y) = false := by
  unfold lesser
  split
  · have h2 : ¬ lessB y y = true := by rw [lessB_iff]; omega
    simpa using h2
  · rename_i h
    simpa using h
theorem fold_least : ∀ (r : List (Nat × Int)) (m x : Nat × Int), lessB x m = false → lessB x (r.foldl lesser m) = false
  | [], _, _, h => h
  | y :: r, m, x, h => fold_least r (lesser m y) x (lesser_least m y x h)
theorem fold_all : ∀ (r : List (Nat × Int)) (m x : Nat × Int), x ∈ r → lessB x (r.foldl lesser m) = false
  | y :: r, m, x, h => by
    rcases List.mem_cons.1 h with e | h
    · rw [e]
      exact fold_least r (lesser m y) y (lesser_self m y)
    · exact fold_all r (lesser m y) x h
theorem fold_mem : ∀ (r : List (Nat × Int)) (m : Nat × Int), r.foldl lesser m = m ∨ r.foldl lesser m ∈ r
  | [], _ => .inl rfl
  | y :: r, m => by
    rcases fold_mem r (lesser m y) with h | h
    · rcases lesser_mem m y with e | e
      · exact .inl (h.trans e)
      · exact .inr (by rw [List.foldl_cons, h, e]; simp)
    · exact .inr (List.mem_cons.2 (.inr h))
theorem repOf_mem (ids : List (Nat × Int)) (h : ids ≠ []) : repOf ids ∈ ids := by
  cases ids with
  | nil => exact (h rfl).elim
  | cons x r =>
    rcases fold_mem r x with e | e
    · exact List.mem_cons.2 (.inl e)
    · exact List.mem_cons.2 (.inr e)
theorem repOf_least (ids : List (Nat × Int)) (x : Nat × Int) (h : x ∈ ids) : lessB x (repOf ids) = false := by
  cases ids with
  | nil => simp at h
  | cons y r =>
    rcases List.mem_cons.1 h with e | h
    · rw [e]
      refine fold_least r y y ?_
      have h2 : ¬ lessB y y = true := by rw [lessB_iff]; omega
      simpa using h2
    · exact fold_all r y x h
end Go.Proofs.YtcbcjefefmbccaaDoor
namespace Go.Proofs.YtcbcjefefmbccaaDoor
open Go.RowKit

set_option maxRecDepth 100000 in
set_option maxHeartbeats 4000000 in
theorem sameIDs_true (va vb : Value) (ids : List (Nat × Int)) (w : World) (hn : (ids.length : Int) ≤ 9223372036854775807) (ha : IdsAt w va ids) (hb : IdsAt w vb ids) :
    Calls Tryd.prog 82 #[va, vb] w fun e w' => e = .returned (.bool true) ∧ Below w.heap.size w w' := by
  obtain ⟨pa, ca, rfl, ha⟩ := ha
  obtain ⟨pb, cb, rfl, hb⟩ := hb
  go_enter Tryd.func82, Tryd.ntmps82
  go_wp2_with fail
  go_loopw [5] (fun i wr => ∃ j m : Nat, j ≤ ids.length ∧ i = .int .i64 j ∧ wr = w.drewN m) (fun i _ => ids.length - (intOf i).toNat)
  case atStart => exact ⟨0, 0, Nat.zero_le _, rfl, rfl⟩
  case round =>
    obtain ⟨j, m, hj, rfl, rfl⟩ := hrel
    by_cases hlt : j < ids.length
    · obtain ⟨ba, oa, rfl, _, hca, hca'⟩ := ha j hlt
      obtain ⟨bb, ob, rfl, _, hcb, hcb'⟩ := hb j hlt
      have hlt' : (j : Int) < (ids.length : Int) := by omega
      obtain ⟨y, hy⟩ : ∃ y, ids[j] = y := ⟨_, rfl⟩
      rw [hy] at hca hca' hcb hcb'
      clear hy
      go_wp2_with fail
      go_quiet (fail)
      go_wp2_with fail
      go_roundw
      case rel => exact ⟨j + 1, _, by omega, by go_num, rfl⟩
      case measure => simp [intOf]; omega
    · have hge : (ids.length : Int) ≤ (j : Int) := by omega
      go_wp2_with fail
      go_ret
      exact ⟨rfl, ⟨rfl, rfl, rfl, Nat.le_refl _, fun _ _ => rfl⟩⟩

set_option maxRecDepth 100000 in
set_option maxHeartbeats 4000000 in
theorem sameRecipe_true (nm : ByteArray) (len p : Int) (va vb : Value) (ids : List (Nat × Int)) (w : World) (hn : (ids.length : Int) ≤ 9223372036854775807) (ha : IdsAt w va ids) (hb : IdsAt w vb ids) :
    Calls Tryd.prog 50 #[rcpV nm len p va, rcpV nm len p vb] w fun e w' => e = .returned (.bool true) ∧ Below w.heap.size w w' := by
  have HA : Hid (IdsAt w va ids) := ha
  have HB : Hid (IdsAt w vb ids) := hb
  have HN : Hid ((ids.length : Int) ≤ 9223372036854775807) := hn
  obtain ⟨pa, ca, rfl, _⟩ := ha
  obtain ⟨pb, cb, rfl, _⟩ := hb
  clear hn
  go_enter Tryd.func50, Tryd.ntmps50
  go_wp2_with fail
  have hbw : ∀ oo oo', Below w.heap.size w ((w.alloc oo).alloc oo') := fun oo oo' => ((Below.refl _ w).alloc (Nat.le_refl _) _).alloc (by simp) _
  refine (sameIDs_true _ _ ids _ HN.out (HA.out.below (hbw _ _)) (HB.out.below (hbw _ _))).mono ?_
  rintro e w2 ⟨rfl, hb2⟩
  go_wp2_with fail
  go_ret
  exact ⟨rfl, (hbw _ _).trans (hb2.mono (by simp; omega))⟩
end Go.Proofs.YtcbcjefefmbccaaDoor
namespace Go.Proofs.YtcbcjefefmbccaaDoor
open Go.RowKit

abbrev rcpDV (d : RcpD) (v : Value) : Value := rcpV ⟨d.1.toArray⟩ d.2.1 (d.2.2.1 : Nat) v
def ofR (nm l : List UInt8) : RcpD × Int := if isName nm = false then (([], 0, 0, []), 4) else if 4000 < l.length then (([], 0, 0, []), 2) else ((nm, (l.length : Int), pmore 2166136261 l, idsOf l), 0)
def textR (nm : List UInt8) (len : Int) (p : Nat) (ids : List (Nat × Int)) : List UInt8 := if recFault nm len ids = (0, -1) then rcpText nm len p ids else []
end Go.Proofs.YtcbcjefefmbccaaDoor
