/-
  Own text. Tables of answers, pure: by clients, in the order of their names, the last number and its answer (OL); what ask and note make of them (oAsk, oNote).
-/
import Derived.Test.YtjngnnbondejaabDoorKList
import Derived.Test.YtjngnnbondejaabDoorRecName
namespace Go.Proofs.YtjngnnbondejaabDoor

abbrev OL := List (List UInt8 × (Int × List UInt8))
def oGet (l : OL) (c : List UInt8) : Option (Int × List UInt8) := (kFind l c).bind fun k => l[k]?.map (·.2)
def oAsk (l : OL) (c : List UInt8) (n : Int) : List UInt8 × Bool × Int :=
  if isName c = false then ([], false, 4) else
    match oGet l c with
    | some v => if n = v.1 then (v.2, true, 0) else if n = v.1 + 1 then ([], false, 0) else ([], false, 8)
    | none => if n = 1 then ([], false, 0) else ([], false, 8)
def oSet (l : OL) (c : List UInt8) (v : Int × List UInt8) : OL :=
  match kFind l c with
  | some k => l.set k (c, v)
  | none => kIns ltN l (c, v)
def oNote (l : OL) (c : List UInt8) (n : Int) (s : List UInt8) : Int × OL :=
  if isName c = false then (4, l) else
    match oGet l c with
    | some v => if n = v.1 + 1 then (0, oSet l c (n, s)) else (8, l)
    | none => if n = 1 then (if 20 ≤ l.length then (7, l) else (0, oSet l c (n, s))) else (8, l)
/- What holds after at most k calls. -/
structure OOk (k : Int) (l : OL) : Prop where
  len : l.length ≤ 20
  num : ∀ h ∈ l, 1 ≤ h.2.1 ∧ h.2.1 ≤ k
  srt : l.Pairwise (fun a b => ltN a.1 b.1 = true)
  nm : ∀ h ∈ l, isName h.1 = true
theorem OOk.nil : OOk 0 [] := ⟨by simp, fun h hm => by simp at hm, List.Pairwise.nil, fun h hm => by simp at hm⟩
theorem OOk.more {k j : Int} {l : OL} (h : OOk k l) (hk : k ≤ j) : OOk j l := ⟨h.len, fun x hx => ⟨(h.num x hx).1, by have := (h.num x hx).2; omega⟩, h.srt, h.nm⟩
theorem OOk.ne {k : Int} {l : OL} (h : OOk k l) : l.Pairwise (fun a b => a.1 ≠ b.1) := kord_ne ord_N h.srt
theorem oGet_kind {l : OL} {c : List UInt8} : (∃ k, ∃ h : k < l.length, kFind l c = some k ∧ l[k].1 = c ∧ oGet l c = some l[k].2) ∨ (kFind l c = none ∧ oGet l c = none) := by
  cases hk : kFind l c with
  | none => exact .inr ⟨rfl, by unfold oGet; rw [hk]; rfl⟩
  | some k =>
    obtain ⟨h1, h2⟩ := kFind_some hk
    exact .inl ⟨k, h1, rfl, h2, by unfold oGet; rw [hk]; simp [h1]⟩
theorem oGet_some {l : OL} {c : List UInt8} {v : Int × List UInt8} (h : oGet l c = some v) : (c, v) ∈ l := by
  rcases oGet_kind (l := l) (c := c) with ⟨k, hk, _, h2, h3⟩ | ⟨_, h3⟩
  · rw [h3] at h
    cases h
    rw [← h2]
    exact List.getElem_mem hk
  · rw [h3] at h
    cases h
theorem oGet_none {l : OL} {c : List UInt8} (h : oGet l c = none) : kFind l c = none := by
  rcases oGet_kind (l := l) (c := c) with ⟨k, hk, _, h2, h3⟩ | ⟨h2, _⟩
  · rw [h3] at h
    cases h
  · exact h2
theorem pair_one {l : OL} (hp : l.Pairwise (fun a b => a.1 ≠ b.1)) {c : List UInt8} {v u : Int × List UInt8} (h1 : (c, v) ∈ l) (h2 : (c, u) ∈ l) : v = u := by
  induction l with
  | nil => simp at h1
  | cons z r ih =>
    obtain ⟨hz, hr⟩ := List.pairwise_cons.1 hp
    rcases List.mem_cons.1 h1 with rfl | h1
    · rcases List.mem_cons.1 h2 with h2 | h2
      · exact (Prod.mk.inj h2).2.symm
      · exact absurd (rfl : c = c) (hz _ h2)
    · rcases List.mem_cons.1 h2 with h2 | h2
      · exact absurd (congrArg Prod.fst h2).symm (hz (c, v) h1)
      · exact ih hr h1 h2
theorem oGet_mem {l : OL} (hp : l.Pairwise (fun a b => a.1 ≠ b.1)) {c : List UInt8} {v : Int × List UInt8} (h : (c, v) ∈ l) : oGet l c = some v := by
  cases hg : oGet l c with
  | none => exact absurd rfl (kFind_not (oGet_none hg) _ h)
  | some u => rw [pair_one hp h (oGet_some hg)]
theorem filter_ne {l : OL} {c : List UInt8} (h : ∀ y ∈ l, y.1 ≠ c) : l.filter (fun y => !decide (y.1 = c)) = l := List.filter_eq_self.2 fun y hy => by simp [h y hy]
theorem set_perm : ∀ {l : OL} {c : List UInt8} {v : Int × List UInt8} {k : Nat}, l.Pairwise (fun a b => a.1 ≠ b.1) → (hk : k < l.length) → l[k].1 = c → (l.set k (c, v)).Perm ((c, v) :: l.filter (fun y => !decide (y.1 = c)))
  | [], _, _, _, _, hk, _ => by simp at hk
  | y :: r, c, v, 0, hp, _, h => by
    have h' : y.1 = c := h
    subst h'
    obtain ⟨h1, _⟩ := List.pairwise_cons.1 hp
    rw [List.set_cons_zero, List.filter_cons, if_neg (by simp), filter_ne (fun z hz => Ne.symm (h1 z hz))]
  | y :: r, c, v, k + 1, hp, hk, h => by
    obtain ⟨h1, h2⟩ := List.pairwise_cons.1 hp
    have hk' : k < r.length := by simpa using hk
    have h' : r[k].1 = c := by simpa using h
    have hy : y.1 ≠ c := fun e => h1 _ (List.getElem_mem hk') (by rw [h', e])
    rw [List.set_cons_succ, List.filter_cons, if_pos (by simp [hy])]
    exact ((set_perm h2 hk' h').cons y).trans (List.Perm.swap _ _ _)
theorem oSet_perm {l : OL} (hp : l.Pairwise (fun a b => a.1 ≠ b.1)) (c : List UInt8) (v : Int × List UInt8) : (oSet l c v).Perm ((c, v) :: l.filter (fun y => !decide (y.1 = c))) := by
  unfold oSet
  cases hk : kFind l c with
  | none =>
    rw [filter_ne (kFind_not hk)]
    exact kIns_perm _ _ _
  | some k =>
    obtain ⟨h1, h2⟩ := kFind_some hk
    exact set_perm hp h1 h2
theorem set_srt : ∀ {l : OL} {c : List UInt8} {v : Int × List UInt8} {k : Nat}, l.Pairwise (fun a b => ltN a.1 b.1 = true) → (hk : k < l.length) → l[k].1 = c → (l.set k (c, v)).Pairwise (fun a b => ltN a.1 b.1 = true)
  | [], _, _, _, _, hk, _ => by simp at hk
  | y :: r, c, v, 0, hp, _, h => by
    have h' : y.1 = c := h
    subst h'
    obtain ⟨h1, h2⟩ := List.pairwise_cons.1 hp
    rw [List.set_cons_zero]
    exact List.pairwise_cons.2 ⟨fun z hz => h1 z hz, h2⟩
  | y :: r, c, v, k + 1, hp, hk, h => by
    obtain ⟨h1, h2⟩ := List.pairwise_cons.1 hp
    have hk' : k < r.length := by simpa using hk
    have h' : r[k].1 = c := by simpa using h
    rw [List.set_cons_succ]
    refine List.pairwise_cons.2 ⟨fun z hz => ?_, set_srt h2 hk' h'⟩
    rcases List.mem_or_eq_of_mem_set hz with hz | rfl
    · exact h1 z hz
    · have := h1 _ (List.getElem_mem hk')
      rw [h'] at this
      exact this
theorem OOk.set {k n : Int} {l : OL} {c s : List UInt8} (h : OOk k l) (hc : isName c = true) (hn : 1 ≤ n ∧ n ≤ k + 1) (hl : oGet l c = none → l.length < 20) : OOk (k + 1) (oSet l c (n, s)) := by
  have hp := oSet_perm h.ne c (n, s)
  have hmem : ∀ x ∈ oSet l c (n, s), x = (c, (n, s)) ∨ x ∈ l := fun x hx => by
    rcases List.mem_cons.1 (hp.mem_iff.1 hx) with hx | hx
    · exact .inl hx
    · exact .inr (List.mem_filter.1 hx).1
  refine ⟨?_, fun x hx => ?_, ?_, fun x hx => ?_⟩
  · unfold oSet
    cases hk : kFind l c with
    | none =>
      have := hl (by unfold oGet; rw [hk]; rfl)
      simp only
      rw [(kIns_perm ltN l (c, (n, s))).length_eq]
      simp only [List.length_cons]
      omega
    | some j =>
      simp only [List.length_set]
      exact h.len
  · rcases hmem x hx with rfl | hx
    · exact hn
    · have := h.num x hx
      exact ⟨this.1, by omega⟩
  · unfold oSet
    cases hk : kFind l c with
    | none => exact kIns_sorted ord_N _ _ h.srt (kFind_not hk)
    | some j =>
      obtain ⟨h1, h2⟩ := kFind_some hk
      exact set_srt h.srt h1 h2
  · rcases hmem x hx with rfl | hx
    · exact hc
    · exact h.nm x hx
/- The kinds of a call. -/
inductive OKind (k : Int) (l : OL) (c : List UInt8) (n : Int) : Prop
  | name (h : isName c = false) (ha : oAsk l c n = ([], false, 4)) (hn : ∀ s, oNote l c n s = (4, l))
  | again (v : Int × List UInt8) (hc : isName c = true) (hg : oGet l c = some v) (hv : n = v.1) (ha : oAsk l c n = (v.2, true, 0)) (hn : ∀ s, oNote l c n s = (8, l))
  | next (v : Int × List UInt8) (hc : isName c = true) (hg : oGet l c = some v) (hv : n = v.1 + 1) (ha : oAsk l c n = ([], false, 0)) (hn : ∀ s, oNote l c n s = (0, oSet l c (n, s)))
  | new (hc : isName c = true) (hg : oGet l c = none) (hv : n = 1) (hl : l.length < 20) (ha : oAsk l c n = ([], false, 0)) (hn : ∀ s, oNote l c n s = (0, oSet l c (n, s)))
  | full (hc : isName c = true) (hg : oGet l c = none) (hv : n = 1) (hl : 20 ≤ l.length) (ha : oAsk l c n = ([], false, 0)) (hn : ∀ s, oNote l c n s = (7, l))
  | other (v : Int × List UInt8) (hc : isName c = true) (hg : oGet l c = some v) (h1 : n ≠ v.1) (h2 : n ≠ v.1 + 1) (ha : oAsk l c n = ([], false, 8)) (hn : ∀ s, oNote l c n s = (8, l))
  | off (hc : isName c = true) (hg : oGet l c = none) (h1 : n ≠ 1) (ha : oAsk l c n = ([], false, 8)) (hn : ∀ s, oNote l c n s = (8, l))
theorem oKind (k : Int) (l : OL) (c : List UInt8) (n : Int) : OKind k l c n := by
  cases hc : isName c with
  | false => exact .name hc (by unfold oAsk; rw [if_pos hc]) (fun s => by unfold oNote; rw [if_pos hc])
  | true =>
    have hc' : ¬ isName c = false := by rw [hc]; simp
    cases hg : oGet l c with
    | none =>
      by_cases h1 : n = 1
      · by_cases h2 : 20 ≤ l.length
        · exact .full hc hg h1 h2 (by unfold oAsk; rw [if_neg hc', hg]; simp only; rw [if_pos h1]) (fun s => by unfold oNote; rw [if_neg hc', hg]; simp only; rw [if_pos h1, if_pos h2])
        · exact .new hc hg h1 (by omega) (by unfold oAsk; rw [if_neg hc', hg]; simp only; rw [if_pos h1]) (fun s => by unfold oNote; rw [if_neg hc', hg]; simp only; rw [if_pos h1, if_neg h2])
      · exact .off hc hg h1 (by unfold oAsk; rw [if_neg hc', hg]; simp only; rw [if_neg h1]) (fun s => by unfold oNote; rw [if_neg hc', hg]; simp only; rw [if_neg h1])
    | some v =>
      by_cases h1 : n = v.1
      · exact .again v hc hg h1 (by unfold oAsk; rw [if_neg hc', hg]; simp only; rw [if_pos h1]) (fun s => by unfold oNote; rw [if_neg hc', hg]; simp only; rw [if_neg (by omega)])
      · by_cases h2 : n = v.1 + 1
        · exact .next v hc hg h2 (by unfold oAsk; rw [if_neg hc', hg]; simp only; rw [if_neg h1, if_pos h2]) (fun s => by unfold oNote; rw [if_neg hc', hg]; simp only; rw [if_pos h2])
        · exact .other v hc hg h1 h2 (by unfold oAsk; rw [if_neg hc', hg]; simp only; rw [if_neg h1, if_neg h2]) (fun s => by unfold oNote; rw [if_neg hc', hg]; simp only; rw [if_neg h2])
theorem OOk.note {k n : Int} {l : OL} {c s : List UInt8} (h : OOk k l) (hk : 0 ≤ k) : OOk (k + 1) (oNote l c n s).2 := by
  have h0 : OOk (k + 1) l := h.more (by omega)
  rcases oKind k l c n with ⟨_, _, hn⟩ | ⟨v, _, _, _, _, hn⟩ | ⟨v, hc, hg, hv, _, hn⟩ | ⟨hc, hg, hv, hl, _, hn⟩ | ⟨_, _, _, _, _, hn⟩ | ⟨v, _, _, _, _, _, hn⟩ | ⟨_, _, _, _, hn⟩
  · rw [hn]; exact h0
  · rw [hn]; exact h0
  · rw [hn]
    have := h.num _ (oGet_some hg)
    simp only at this
    exact h.set hc (by omega) (fun e => by rw [hg] at e; cases e)
  · rw [hn]
    exact h.set hc (by omega) (fun _ => hl)
  · rw [hn]; exact h0
  · rw [hn]; exact h0
  · rw [hn]; exact h0
/- What is noted is given again, is noted no second time, and the next number is free. -/
theorem noted_then {l : OL} {c s : List UInt8} {n : Int} (hp : l.Pairwise (fun a b => a.1 ≠ b.1)) (hc : isName c = true) : oAsk (oSet l c (n, s)) c n = (s, true, 0) ∧ (∀ x, oNote (oSet l c (n, s)) c n x = (8, oSet l c (n, s))) ∧ oAsk (oSet l c (n, s)) c (n + 1) = ([], false, 0) := by
  have hperm := oSet_perm hp c (n, s)
  have hap : (oSet l c (n, s)).Pairwise (fun a b => a.1 ≠ b.1) := by
    refine (hperm.pairwise_iff (fun {_ _} h => Ne.symm h)).2 (List.pairwise_cons.2 ⟨fun y hy => ?_, hp.filter _⟩)
    have := (List.mem_filter.1 hy).2
    simp only [Bool.not_eq_true', decide_eq_false_iff_not] at this
    exact fun e => this e.symm
  have hg : oGet (oSet l c (n, s)) c = some (n, s) := oGet_mem hap (hperm.mem_iff.2 (List.mem_cons_self ..))
  have hc' : ¬ isName c = false := by rw [hc]; simp
  refine ⟨?_, fun x => ?_, ?_⟩
  · unfold oAsk; rw [if_neg hc', hg]; simp only; rw [if_pos trivial]
  · unfold oNote; rw [if_neg hc', hg]; simp only; rw [if_neg (by omega)]
  · unfold oAsk; rw [if_neg hc', hg]; simp only; rw [if_neg (by omega), if_pos trivial]
/- A number that is asked for and then noted: what comes of it. -/
theorem oCases {k : Int} {l : OL} (h : OOk k l) (hk0 : 0 ≤ k) (c s : List UInt8) (n : Int) :
    (∃ x, x ≠ 0 ∧ oAsk l c n = ([], false, x) ∧ oNote l c n s = (x, l)) ∨ (∃ t, oAsk l c n = (t, true, 0) ∧ oNote l c n s = (8, l)) ∨ (oAsk l c n = ([], false, 0) ∧ oNote l c n s = (7, l)) ∨
    (∃ l', oAsk l c n = ([], false, 0) ∧ oNote l c n s = (0, l') ∧ oAsk l' c n = (s, true, 0) ∧ (∀ x, oNote l' c n x = (8, l')) ∧ oAsk l' c (n + 1) = ([], false, 0) ∧ 1 ≤ n ∧ n ≤ k + 1) := by
  rcases oKind k l c n with ⟨_, ha, hn⟩ | ⟨v, _, _, _, ha, hn⟩ | ⟨v, hc, hg, hv, ha, hn⟩ | ⟨hc, hg, hv, hl, ha, hn⟩ | ⟨_, _, _, hl, ha, hn⟩ | ⟨v, _, _, _, _, ha, hn⟩ | ⟨_, _, _, ha, hn⟩
  · exact .inl ⟨_, by decide, ha, hn s⟩
  · exact .inr (.inl ⟨_, ha, hn s⟩)
  · obtain ⟨h1, h2, h3⟩ := noted_then (s := s) (n := n) h.ne hc
    have := h.num _ (oGet_some hg)
    simp only at this
    exact .inr (.inr (.inr ⟨_, ha, hn s, h1, h2, h3, by omega, by omega⟩))
  · obtain ⟨h1, h2, h3⟩ := noted_then (s := s) (n := n) h.ne hc
    exact .inr (.inr (.inr ⟨_, ha, hn s, h1, h2, h3, by omega, by omega⟩))
  · exact .inr (.inr (.inl ⟨ha, hn s⟩))
  · exact .inl ⟨_, by decide, ha, hn s⟩
  · exact .inl ⟨_, by decide, ha, hn s⟩
end Go.Proofs.YtjngnnbondejaabDoor
