/-
  Own text. The document's ReadID by a contract: it reads just what print.Read reads.
-/
import Derived.Test.YtjdobbjdlighpabGreatDoorG25
namespace Go.Proofs.YtjdobbjdlighpabGreatDoor
open Go.RowKit

theorem str_size (L : List UInt8) : (⟨L.toArray⟩ : ByteArray).size = L.length := by simp [ByteArray.size]
theorem str_list (L : List UInt8) : (⟨L.toArray⟩ : ByteArray).data.toList = L := by simp
def refRead (t : List UInt8) : Option (Nat × Nat) :=
  match cutBy 45 t with
  | [p, q] => if p.length = 8 then (match unhex 0 p, numOf q 6 with | some n, some l => some (n, l) | _, _ => none) else none
  | _ => none
theorem undec_no45 (q : List UInt8) : ∀ (n v : Nat), undec n q = some v → (45 : UInt8) ∉ q := by
  induction q with
  | nil => intro n v _; simp
  | cons c q ih =>
    intro n v h hm
    simp only [undec] at h
    rcases List.mem_cons.1 hm with e | e
    · subst e
      have : undec1 45 = none := by decide
      rw [this] at h
      cases h
    · cases hd : undec1 c with
      | none => rw [hd] at h; cases h
      | some d => rw [hd] at h; exact ih _ _ h e
theorem unhex_no45 (q : List UInt8) : ∀ (n v : Nat), unhex n q = some v → (45 : UInt8) ∉ q := by
  induction q with
  | nil => intro n v _; simp
  | cons c q ih =>
    intro n v h hm
    simp only [unhex] at h
    rcases List.mem_cons.1 hm with e | e
    · subst e
      have : unhex1 45 = none := by decide
      rw [this] at h
      cases h
    · cases hd : unhex1 c with
      | none => rw [hd] at h; cases h
      | some d => rw [hd] at h; exact ih _ _ h e
theorem numOf_no45 (q : List UInt8) (k v : Nat) (h : numOf q k = some v) : (45 : UInt8) ∉ q := by
  unfold numOf at h
  split at h
  · cases h
  · exact undec_no45 q 0 v h
theorem first_of (c : UInt8) (t : List UInt8) (h : c ∈ t) : ∃ a b, t = a ++ c :: b ∧ c ∉ a := by
  induction t with
  | nil => simp at h
  | cons x t ih =>
    by_cases hx : c = x
    · subst hx
      exact ⟨[], t, rfl, by simp⟩
    · rcases List.mem_cons.1 h with e | e
      · exact absurd e hx
      · obtain ⟨a, b, rfl, ha⟩ := ih e
        exact ⟨x :: a, b, rfl, by simp [hx, ha]⟩
theorem cutBy_pos (c : UInt8) (t : List UInt8) : 1 ≤ (cutBy c t).length := by
  cases t with
  | nil => simp [cutBy]
  | cons x t =>
    rw [cutBy]
    split
    · simp
    · split <;> simp
/- Where a text has no such byte it is one piece; where it has one, its pieces are those of what is ahead and behind. -/
theorem cutBy_two (t p q : List UInt8) (h : cutBy 45 t = [p, q]) : t = p ++ 45 :: q := by
  by_cases hm : (45 : UInt8) ∈ t
  · obtain ⟨a, b, rfl, ha⟩ := first_of (45 : UInt8) t hm
    rw [cutBy_split _ _ _ ha] at h
    simp only [List.cons.injEq] at h
    obtain ⟨rfl, h2⟩ := h
    by_cases hb : (45 : UInt8) ∈ b
    · obtain ⟨c, d, rfl, hc⟩ := first_of (45 : UInt8) b hb
      rw [cutBy_split _ _ _ hc] at h2
      have := congrArg List.length h2
      have h3 := cutBy_pos 45 d
      simp only [List.length_cons, List.length_nil] at this
      omega
    · rw [cutBy_noc _ _ hb] at h2
      simp at h2
      rw [h2]
  · rw [cutBy_noc _ _ hm] at h
    simp at h
theorem own_cell {w : World} {base : Nat} {e : TypeId} {v : Value} {n : Nat} {xs : List Value} (h : w.ownsRow base e 1 v n xs) (hn : 1 ≤ n) :
    ∃ g cap, v = .slice (some ⟨g, 0, none⟩) n cap ∧ base ≤ g ∧ g < w.heap.size ∧ ∀ j (hj : j < xs.length), w.cell? ⟨g, j, none⟩ = some xs[j] := by
  obtain ⟨hl, h⟩ := h
  rcases h with ⟨_, h0⟩ | ⟨g, cap, cur, rfl, hg, hb, h1, h2, h3, h4⟩
  · omega
  refine ⟨g, cap, rfl, hg, ?_, fun j hj => ?_⟩
  · rcases Nat.lt_or_ge g w.heap.size with h' | h'
    · exact h'
    · simp [Array.getElem?_eq_none h'] at hb
  · have e1 : cur.toList[j]? = xs[j]? := by
      rw [← h4, List.getElem?_take, if_pos (by omega)]
    simp only [World.cell?, hb]
    rw [← Array.getElem?_toList, e1, List.getElem?_eq_getElem hj]
    simp
theorem refRead_eq (t : List UInt8) : refRead t = idRead t := by
  by_cases hok : 8 < t.length ∧ t[8]? = some 45
  · obtain ⟨h1, h2⟩ := hok
    have hsp : t = t.take 8 ++ 45 :: t.drop 9 := by
      have h3 := List.take_append_drop 8 t
      rw [List.drop_eq_getElem_cons h1] at h3
      rw [List.getElem?_eq_getElem h1] at h2
      rw [Option.some.inj h2] at h3
      exact h3.symm
    have hl8 : (t.take 8).length = 8 := by rw [List.length_take]; omega
    have hid : idRead t = (match unhex 0 (t.take 8), numOf (t.drop 9) 6 with | some n, some l => some (n, l) | _, _ => none) := by
      have hneg : ¬ (t.length ≤ 8 ∨ t[8]? ≠ some 45) := by
        rintro (h | h)
        · omega
        · exact h h2
      unfold idRead
      rw [if_neg hneg]
      cases unhex 0 (t.take 8) <;> cases numOf (t.drop 9) 6 <;> rfl
    rw [hid]
    by_cases hA : (45 : UInt8) ∈ t.take 8
    · have hu : unhex 0 (t.take 8) = none := by
        cases hh : unhex 0 (t.take 8) with
        | none => rfl
        | some v => exact absurd hA (unhex_no45 _ _ _ hh)
      rw [hu]
      unfold refRead
      split
      · rename_i p q hpq
        have e := cutBy_two t p q hpq
        split
        · rename_i hp
          have : t.take 8 = p := by rw [e, List.take_append_of_le_length (by omega), List.take_of_length_le (by omega)]
          rw [← this, hu]
        · rfl
      · rfl
    · by_cases hB : (45 : UInt8) ∈ t.drop 9
      · have hu : numOf (t.drop 9) 6 = none := by
          cases hh : numOf (t.drop 9) 6 with
          | none => rfl
          | some v => exact absurd hB (numOf_no45 _ _ _ hh)
        rw [hu]
        have hc : cutBy 45 t = t.take 8 :: cutBy 45 (t.drop 9) := by
          conv => lhs; rw [hsp]
          exact cutBy_split _ _ _ hA
        unfold refRead
        rw [hc]
        obtain ⟨a, b, e, ha⟩ := first_of (45 : UInt8) _ hB
        rw [e, cutBy_split _ _ _ ha]
        have hp := cutBy_pos 45 b
        cases hcb : cutBy 45 b with
        | nil => rw [hcb] at hp; simp at hp
        | cons x r => cases unhex 0 (t.take 8) <;> rfl
      · have hc : cutBy 45 t = [t.take 8, t.drop 9] := by
          conv => lhs; rw [hsp]
          rw [cutBy_split _ _ _ hA, cutBy_noc _ _ hB]
        unfold refRead
        rw [hc]
        simp only [hl8, if_true]
  · have hid : idRead t = none := by
      unfold idRead
      rw [if_pos]
      by_cases h1 : t.length ≤ 8
      · exact Or.inl h1
      · exact Or.inr (fun h2 => hok ⟨by omega, h2⟩)
    rw [hid]
    unfold refRead
    split
    · rename_i p q hpq
      have e := cutBy_two t p q hpq
      split
      · rename_i hp
        exfalso
        apply hok
        rw [e]
        refine ⟨by simp; omega, ?_⟩
        rw [List.getElem?_append_right (by omega), hp]
        rfl
      · rfl
    · rfl

/- A result's block of two cells, behind a call that leaves it. -/
theorem res_keep {w w1 : World} {c0 c1 : Value} {t : TypeId} (hb : Below (w.alloc (.cells #[c0, c1] t)).heap.size (w.alloc (.cells #[c0, c1] t)) w1) :
    Below w.heap.size w w1 ∧ w.heap.size < w1.heap.size ∧ w1.cell? ⟨w.heap.size, 0, none⟩ = some c0 ∧ w1.cell? ⟨w.heap.size, 1, none⟩ = some c1 ∧ w1.frozen? ⟨w.heap.size, 0, none⟩ = false ∧ w1.frozen? ⟨w.heap.size, 1, none⟩ = false := by
  have hs := hb.size
  refine ⟨((Below.refl _ _).alloc (Nat.le_refl _) _).trans (hb.mono (by simp)), by simp at hs; omega, ?_, ?_, ?_, ?_⟩
  · rw [hb.cell (p := ⟨w.heap.size, 0, none⟩) (by simp)]; simp
  · rw [hb.cell (p := ⟨w.heap.size, 1, none⟩) (by simp)]; simp
  · rw [hb.frozen (p := ⟨w.heap.size, 0, none⟩) (by simp)]; simp
  · rw [hb.frozen (p := ⟨w.heap.size, 1, none⟩) (by simp)]; simp
def refRes : Option (Nat × Nat) → Value
  | some x => .tuple #[idV x.1 x.2, .int .i64 0]
  | none => .tuple #[idV 0 0, .int .i64 1]
theorem refRes_none : refRes none = .tuple #[idV 0 0, .int .i64 1] := rfl
theorem refRead_long (t : List UInt8) (h : (cutBy 45 t).length ≠ 2) : refRead t = none := by
  unfold refRead
  split
  · rename_i p q e; rw [e] at h; exact absurd rfl h
  · rfl

set_option maxHeartbeats 2000000 in
theorem readID_any (s : ByteArray) (hs : s.size ≤ 50000) (w : World) :
    Calls Tryz.prog 217 #[.string s] w fun e w' => e = .returned (refRes (refRead s.data.toList)) ∧ Below w.heap.size w w' := by
  have hpos := cutBy_pos 45 s.data.toList
  by_cases h2 : (cutBy 45 s.data.toList).length = 2
  · match hcs : cutBy 45 s.data.toList, h2 with
    | [p, q], _ =>
      have hcut := cut_any s 45
      have hrr : refRead s.data.toList = if p.length = 8 then (match unhex 0 p, numOf q 6 with | some n, some l => some (n, l) | _, _ => none) else none := by
        unfold refRead; rw [hcs]
      have hql : q.length ≤ 50000 := by
        have e := congrArg List.length (cutBy_two _ _ _ hcs)
        rw [len_toList, List.length_append, List.length_cons] at e
        omega
      rw [hrr]
      rw [hcs] at hcut
      clear hrr hcs h2 hpos
      have HC : Hid _ := hcut
      clear hcut
      have HS : Hid (s.size ≤ 50000) := hs
      clear hs
      have hun : ∀ W, Calls Tryz.prog 162 #[strV p] W fun e w' => e = .returned (hexRes (if p.length = 8 then unhex 0 p else none)) ∧ w' = W := by
        intro W
        by_cases h8 : p.length = 8
        · rw [if_pos h8]
          have := refUnhex_any ⟨p.toArray⟩ (by rw [str_size]; exact h8) W
          rw [str_list] at this
          exact this
        · rw [if_neg h8]
          exact refUnhex_no ⟨p.toArray⟩ (by rw [str_size]; exact h8) W
      have hnu : ∀ W, Calls Tryz.prog 164 #[strV q, .int .i64 6] W fun e w' => e = .returned (.int .i64 (numRes (numOf q 6))) ∧ w' = W := by
        intro W
        have := numberOf_any ⟨q.toArray⟩ (by rw [str_size]; unfold maxLen; omega) 6 (by decide) W
        rw [str_list] at this
        exact this
      have hgoal : (if p.length = 8 then (match unhex 0 p, numOf q 6 with | some n, some l => some (n, l) | _, _ => none) else none) = (match (if p.length = 8 then unhex 0 p else none), numOf q 6 with | some n, some l => some (n, l) | _, _ => none) := by
        by_cases h8 : p.length = 8
        · rw [if_pos h8, if_pos h8]
        · rw [if_neg h8, if_neg h8]
      rw [hgoal]
      clear hgoal hql
      generalize (if p.length = 8 then unhex 0 p else none) = oh at *
      generalize numOf q 6 = ol at *
      have HU : Hid _ := hun
      have HN : Hid _ := hnu
      clear hun hnu
      go_enter Tryz.func217, Tryz.ntmps217
      go_wp2_with fail
      refine (HC.out _ HS.out).mono ?_
      rintro e w1 ⟨v, rfl, hown, hb⟩
      obtain ⟨g, cap, rfl, hg, hgl, hcell⟩ := own_cell hown (by simp)
      obtain ⟨hbw, hsz, k0, k1, f0, f1⟩ := res_keep hb
      have hp := hcell 0 (by simp)
      have hq := hcell 1 (by simp)
      simp only [List.map_cons, List.getElem_cons_zero, List.getElem_cons_succ] at hp hq
      clear hcell hown hb HC HS
      go_wp2_with fail
      refine (HU.out _).mono ?_
      rintro e w2 ⟨rfl, hw2⟩
      subst hw2
      cases oh with
      | none =>
        unfold hexRes
        go_wp2_with fail
        refine (HN.out _).mono ?_
        rintro e w2 ⟨rfl, hw2⟩
        subst hw2
        go_wp2_with fail
        exact bodyPost_ret (v := .tuple #[idV 0 0, .int .i64 1]) (by simp [results, Tryz.results217, go_sem, k0, k1]) rfl ⟨rfl, (hbw.setCell (Nat.le_refl _) _).setCell (Nat.le_refl _) _⟩
      | some n =>
        unfold hexRes
        go_wp2_with fail
        refine (HN.out _).mono ?_
        rintro e w2 ⟨rfl, hw2⟩
        subst hw2
        cases ol with
        | none =>
          unfold numRes
          go_wp2_with fail
          exact bodyPost_ret (v := .tuple #[idV 0 0, .int .i64 1]) (by simp [results, Tryz.results217, go_sem, k0, k1]) rfl ⟨rfl, (hbw.setCell (Nat.le_refl _) _).setCell (Nat.le_refl _) _⟩
        | some l =>
          unfold numRes
          have hl0 : ¬ (l : Int) < 0 := by omega
          go_wp2_with fail
          exact bodyPost_ret (v := .tuple #[idV n l, .int .i64 0]) (by simp [results, Tryz.results217, go_sem, k0, k1]) rfl ⟨rfl, (hbw.setCell (Nat.le_refl _) _).setCell (Nat.le_refl _) _⟩
  · rw [refRead_long _ h2, refRes_none]
    have hcut := cut_any s 45
    generalize cutBy 45 s.data.toList = cs at *
    have hne : ((cs.length : Int) != 2) = true := by simp; omega
    have HC : Hid _ := hcut
    clear hcut
    go_enter Tryz.func217, Tryz.ntmps217
    go_wp2_with fail
    refine (HC.out _ hs).mono ?_
    rintro e w1 ⟨v, rfl, hown, hb⟩
    obtain ⟨g, cap, rfl, hg, hgl, hcell⟩ := own_cell hown (by omega)
    obtain ⟨hbw, hsz, k0, k1, f0, f1⟩ := res_keep hb
    clear hcell hown hb
    go_wp2_with fail
    exact bodyPost_ret (v := .tuple #[idV 0 0, .int .i64 1]) (by simp [results, Tryz.results217, go_sem, k0, k1]) rfl ⟨rfl, (hbw.setCell (Nat.le_refl _) _).setCell (Nat.le_refl _) _⟩
end Go.Proofs.YtjdobbjdlighpabGreatDoor
