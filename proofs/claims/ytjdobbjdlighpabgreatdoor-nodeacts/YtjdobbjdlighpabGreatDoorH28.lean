/-
  Own text. The document's node, pure: files in the order of their names, bins in that of their reps (NRel beside the program's); where a new one comes; what put, drop, sweep make of both.
  Own text. NodeKeeps' memory: a node and rows of texts beside it, all new since w; how each step leaves them.
  Own text. The document's node by contracts: Find, FindBin.
-/
import Derived.Test.YtjdobbjdlighpabGreatDoorH12
import Derived.Test.YtjdobbjdlighpabGreatDoorH27
import Derived.Test.YtjdobbjdlighpabGreatDoorH10
namespace Go.Proofs.YtjdobbjdlighpabGreatDoor
open Go.RowKit Go.Maps

def kPlace {κ β : Type} (lt : κ → κ → Bool) : List (κ × β) → κ → Nat
  | [], _ => 0
  | h :: r, x => if lt h.1 x = true then kPlace lt r x + 1 else 0
def kIns {κ β : Type} (lt : κ → κ → Bool) (l : List (κ × β)) (h : κ × β) : List (κ × β) := l.take (kPlace lt l h.1) ++ h :: l.drop (kPlace lt l h.1)
theorem kPlace_le {κ β : Type} (lt : κ → κ → Bool) : ∀ (l : List (κ × β)) (x : κ), kPlace lt l x ≤ l.length
  | [], _ => Nat.le_refl _
  | h :: r, x => by
    rw [kPlace]
    split
    · have := kPlace_le lt r x; simp; omega
    · simp
theorem kPlace_at {κ β : Type} (lt : κ → κ → Bool) : ∀ (l : List (κ × β)) (x : κ) (k : Nat), k ≤ l.length → (∀ j (hj : j < l.length), j < k → lt l[j].1 x = true) → (∀ h : k < l.length, lt l[k].1 x = false) → kPlace lt l x = k
  | [], _, k, h, _, _ => by simp at h; simp [kPlace, h]
  | y :: r, x, 0, _, _, he => by
    have he' : lt y.1 x = false := he (by simp)
    rw [kPlace, he']
    rfl
  | y :: r, x, k + 1, h, ha, he => by
    have h0 : lt y.1 x = true := ha 0 (by simp) (by omega)
    rw [kPlace, if_pos h0, kPlace_at lt r x k (by simpa using h) (fun j hj hk => by have := ha (j + 1) (by simpa using hj) (by omega); simpa using this) (fun h' => by have := he (by simpa using h'); simpa using this)]
theorem kIns_nil {κ β : Type} (lt : κ → κ → Bool) (h : κ × β) : kIns lt [] h = [h] := rfl
theorem kIns_lt {κ β : Type} (lt : κ → κ → Bool) (y : κ × β) (r : List (κ × β)) (h : κ × β) (e : lt y.1 h.1 = true) : kIns lt (y :: r) h = y :: kIns lt r h := by
  unfold kIns
  rw [kPlace, if_pos e]
  rfl
theorem kIns_ge {κ β : Type} (lt : κ → κ → Bool) (y : κ × β) (r : List (κ × β)) (h : κ × β) (e : lt y.1 h.1 = false) : kIns lt (y :: r) h = h :: y :: r := by
  unfold kIns
  rw [kPlace, e]
  rfl
theorem kIns_perm {κ β : Type} (lt : κ → κ → Bool) (l : List (κ × β)) (h : κ × β) : (kIns lt l h).Perm (h :: l) := by
  unfold kIns
  refine List.perm_middle.trans ?_
  rw [List.take_append_drop]
/- An order of keys that is whole. -/
structure KOrd {κ : Type} (lt : κ → κ → Bool) : Prop where
  trans : ∀ a b c, lt a b = true → lt b c = true → lt a c = true
  conn : ∀ a b, a ≠ b → lt a b = false → lt b a = true
  ne : ∀ a b, lt a b = true → a ≠ b
theorem kIns_sorted {κ β : Type} {lt : κ → κ → Bool} (O : KOrd lt) (h : κ × β) : ∀ (l : List (κ × β)), l.Pairwise (fun a b => lt a.1 b.1 = true) → (∀ y ∈ l, y.1 ≠ h.1) → (kIns lt l h).Pairwise (fun a b => lt a.1 b.1 = true)
  | [], _, _ => by rw [kIns_nil]; exact List.pairwise_singleton _ _
  | y :: r, hp, hn => by
    obtain ⟨h1, h2⟩ := List.pairwise_cons.1 hp
    cases e : lt y.1 h.1 with
    | true =>
      rw [kIns_lt lt y r h e]
      refine List.pairwise_cons.2 ⟨fun z hz => ?_, kIns_sorted O h r h2 (fun z hz => hn z (List.mem_cons_of_mem _ hz))⟩
      rcases List.mem_cons.1 ((kIns_perm lt r h).mem_iff.1 hz) with rfl | hz
      · exact e
      · exact h1 z hz
    | false =>
      rw [kIns_ge lt y r h e]
      have hy := O.conn _ _ (hn y (List.mem_cons_self ..)) e
      refine List.pairwise_cons.2 ⟨fun z hz => ?_, hp⟩
      rcases List.mem_cons.1 hz with rfl | hz
      · exact hy
      · exact O.trans _ _ _ hy (h1 z hz)
theorem kord_ne {κ β : Type} {lt : κ → κ → Bool} (O : KOrd lt) {l : List (κ × β)} (h : l.Pairwise (fun a b => lt a.1 b.1 = true)) : l.Pairwise (fun a b => a.1 ≠ b.1) := h.imp fun {_ _} e => O.ne _ _ e
abbrev ltN (a b : List UInt8) : Bool := decide (a < b)
theorem ord_N : KOrd ltN where
  trans a b c h1 h2 := by
    simp only [ltN, decide_eq_true_eq] at *
    exact List.lt_trans h1 h2
  conn a b hn h := by
    simp only [ltN, decide_eq_true_eq, decide_eq_false_iff_not] at *
    have h1 : b ≤ a := h
    exact (List.le_iff_lt_or_eq.1 h1).resolve_right (fun e => hn e.symm)
  ne a b h e := by
    subst e
    simp only [ltN, decide_eq_true_eq] at h
    exact List.lt_irrefl a h
theorem ord_I : KOrd lessB where
  trans a b c h1 h2 := by
    unfold lessB at *
    split at h1 <;> split at h2 <;> simp only [decide_eq_true_eq] at h1 h2
    · rw [if_pos (by omega)]; simp only [decide_eq_true_eq]; omega
    · rw [if_neg (by omega)]; simp only [decide_eq_true_eq]; omega
    · rw [if_neg (by omega)]; simp only [decide_eq_true_eq]; omega
    · rw [if_neg (by omega)]; simp only [decide_eq_true_eq]; omega
  conn a b hn h := by
    obtain ⟨a1, a2⟩ := a
    obtain ⟨b1, b2⟩ := b
    unfold lessB at *
    split at h <;> simp only [decide_eq_false_iff_not] at h
    · rename_i e
      simp only at e h ⊢
      rw [if_pos (by omega)]
      simp only [decide_eq_true_eq]
      have : a2 ≠ b2 := fun e2 => hn (by rw [e2, show a1 = b1 by omega])
      omega
    · rename_i e
      simp only at e h ⊢
      rw [if_neg (by omega)]
      simp only [decide_eq_true_eq]
      omega
  ne a b h e := by
    subst e
    simp [lessB] at h
/- A bin of a rep, in place of the one that is there, or new. -/
def kSet (l : List NBin) (x : Nat × Int) (b : List Hd) : List NBin := match kFind l x with | some k => l.set k (x, b) | none => kIns lessB l (x, b)
theorem filter_none {κ β : Type} [DecidableEq κ] {l : List (κ × β)} {x : κ} (h : ∀ y ∈ l, y.1 ≠ x) : l.filter (fun y => !decide (y.1 = x)) = l := List.filter_eq_self.2 fun y hy => by simp [h y hy]
theorem set_perm {κ β : Type} [DecidableEq κ] : ∀ {l : List (κ × β)} {x : κ} {k : Nat} (b : β), l.Pairwise (fun a b => a.1 ≠ b.1) → kFind l x = some k → (l.set k (x, b)).Perm ((x, b) :: l.filter (fun y => !decide (y.1 = x)))
  | [], _, _, _, _, h => by cases h
  | y :: r, x, k, b, hp, h => by
    obtain ⟨h1, h2⟩ := List.pairwise_cons.1 hp
    rw [kFind] at h
    split at h
    · rename_i e
      cases h
      subst e
      rw [List.set_cons_zero, List.filter_cons, if_neg (by simp), filter_none (fun z hz => Ne.symm (h1 z hz))]
    · rename_i e
      cases hr : kFind r x with
      | none => rw [hr] at h; cases h
      | some j =>
        rw [hr] at h
        cases h
        rw [List.set_cons_succ, List.filter_cons, if_pos (by simp [e])]
        exact ((set_perm b h2 hr).cons y).trans (List.Perm.swap _ _ _)
theorem kSet_perm {l : List NBin} (x : Nat × Int) (b : List Hd) (hp : l.Pairwise (fun a b => a.1 ≠ b.1)) : (kSet l x b).Perm ((x, b) :: l.filter (fun y => !decide (y.1 = x))) := by
  unfold kSet
  cases h : kFind l x with
  | some k => exact set_perm b hp h
  | none =>
    rw [filter_none (kFind_not h)]
    exact kIns_perm _ _ _
theorem set_keys {κ β : Type} {R : κ → κ → Prop} : ∀ {l : List (κ × β)} {k : Nat} (hk : k < l.length) (b : β), l.Pairwise (fun a b => R a.1 b.1) → (l.set k (l[k].1, b)).Pairwise (fun a b => R a.1 b.1)
  | [], _, h, _, _ => by simp at h
  | y :: r, 0, _, b, hp => by
    obtain ⟨h1, h2⟩ := List.pairwise_cons.1 hp
    exact List.pairwise_cons.2 ⟨h1, h2⟩
  | y :: r, k + 1, h, b, hp => by
    obtain ⟨h1, h2⟩ := List.pairwise_cons.1 hp
    have hk : k < r.length := by simpa using h
    refine List.pairwise_cons.2 ⟨fun z hz => ?_, set_keys hk b h2⟩
    rcases List.mem_or_eq_of_mem_set hz with hz | rfl
    · exact h1 z hz
    · exact h1 r[k] (List.getElem_mem hk)
theorem kSet_sorted {l : List NBin} (x : Nat × Int) (b : List Hd) (hp : l.Pairwise (fun a b => lessB a.1 b.1 = true)) : (kSet l x b).Pairwise (fun a b => lessB a.1 b.1 = true) := by
  unfold kSet
  cases h : kFind l x with
  | some k =>
    obtain ⟨hk, e⟩ := kFind_some h
    simp only
    rw [← e]
    exact set_keys (R := fun a b => lessB a b = true) hk b hp
  | none => exact kIns_sorted ord_I _ _ hp (kFind_not h)
/- The document's node beside the program's. -/
structure NRel (st sm : NSt) : Prop where
  files : sm.files.Perm st.files
  bins : sm.bins.Perm st.bins
  fsort : sm.files.Pairwise (fun a b => ltN a.1 b.1 = true)
  bsort : sm.bins.Pairwise (fun a b => lessB a.1 b.1 = true)
theorem NRel.empty : NRel ⟨[], []⟩ ⟨[], []⟩ := ⟨List.Perm.nil, List.Perm.nil, List.Pairwise.nil, List.Pairwise.nil⟩
theorem NRel.fne {st sm : NSt} (h : NRel st sm) : sm.files.Pairwise (fun a b => a.1 ≠ b.1) := kord_ne ord_N h.fsort
theorem NRel.bne {st sm : NSt} (h : NRel st sm) : sm.bins.Pairwise (fun a b => a.1 ≠ b.1) := kord_ne ord_I h.bsort
theorem NRel.fne' {st sm : NSt} (h : NRel st sm) : st.files.Pairwise (fun a b => a.1 ≠ b.1) := (h.files.pairwise_iff (fun {_ _} hne => Ne.symm hne)).1 h.fne
theorem NRel.bne' {st sm : NSt} (h : NRel st sm) : st.bins.Pairwise (fun a b => a.1 ≠ b.1) := (h.bins.pairwise_iff (fun {_ _} hne => Ne.symm hne)).1 h.bne
theorem NRel.file {st sm : NSt} (h : NRel st sm) (x : List UInt8) : nFile sm.files x = nFile st.files x := by
  cases e : nFile sm.files x with
  | some s => exact (nFile_of_mem h.fne' (h.files.mem_iff.1 (nFile_some e))).symm
  | none =>
    cases e2 : nFile st.files x with
    | none => rfl
    | some s => exact absurd rfl (nFile_none e _ (h.files.mem_iff.2 (nFile_some e2)))
theorem NRel.bin {st sm : NSt} (h : NRel st sm) (x : Nat × Int) : nBin sm.bins x = nBin st.bins x := by
  cases e : nBin sm.bins x with
  | some s => exact (nBin_of_mem h.bne' (h.bins.mem_iff.1 (nBin_some e))).symm
  | none =>
    cases e2 : nBin st.bins x with
    | none => rfl
    | some s => exact absurd rfl (nBin_none e _ (h.bins.mem_iff.2 (nBin_some e2)))
/- What the document's node answers to a file that is put, and what it is then. -/
def mPut (st : NSt) (nm s : List UInt8) : Int × Int × NSt :=
  if (nPut st nm s).2.1 ≠ 0 then nPut st nm s else
    ((nPut st nm s).1, 0, ⟨kIns ltN st.files (nm, s), kSet st.bins (repT s) (putAll ((nBin st.bins (repT s)).getD []) 0 (pieces s)).2.2⟩)
theorem NRel.put {st sm : NSt} (h : NRel st sm) (nm s : List UInt8) : (mPut sm nm s).1 = (nPut st nm s).1 ∧ (mPut sm nm s).2.1 = (nPut st nm s).2.1 ∧ NRel (nPut st nm s).2.2 (mPut sm nm s).2.2 := by
  have hf := h.file nm
  have hb := h.bin (repT s)
  have hl := h.files.length_eq
  have hc := nPut_cases' st nm s
  have hm := nPut_cases' sm nm s
  have e1 : (nPut sm nm s).1 = (nPut st nm s).1 ∧ (nPut sm nm s).2.1 = (nPut st nm s).2.1 := by
    unfold nPut
    rw [hf, hb, hl]
    split
    · exact ⟨rfl, rfl⟩
    · cases nFile st.files nm with
      | some t => exact ⟨rfl, rfl⟩
      | none =>
        simp only
        split
        · exact ⟨rfl, rfl⟩
        · split <;> exact ⟨rfl, rfl⟩
  unfold mPut
  by_cases hz : (nPut sm nm s).2.1 = 0
  · rw [if_neg (by rw [hz]; simp)]
    refine ⟨e1.1, by rw [← e1.2, hz], ?_⟩
    rcases hc with ⟨h1, _⟩ | ⟨h1, h2, h3, h4⟩
    · rw [← e1.2, hz] at h1
      exact absurd rfl h1
    · rw [h4, hb]
      have hno : ∀ y ∈ sm.files, y.1 ≠ nm := nFile_none (by rw [hf]; exact h2)
      refine ⟨?_, ?_, kIns_sorted ord_N _ _ h.fsort hno, kSet_sorted _ _ h.bsort⟩
      · exact (kIns_perm ltN sm.files (nm, s)).trans (h.files.cons _)
      · exact (kSet_perm _ _ h.bne).trans ((h.bins.filter _).cons _)
  · rw [if_pos hz]
    refine ⟨e1.1, e1.2, ?_⟩
    have h4 : (nPut sm nm s).2.2 = sm := by
      rcases hm with ⟨_, _, e⟩ | ⟨h1, h2, h3, e⟩
      · exact e
      · rw [e] at hz
        exact absurd rfl hz
    have h5 : (nPut st nm s).2.2 = st := by
      rcases hc with ⟨_, _, e⟩ | ⟨h1, h2, h3, e⟩
      · exact e
      · rw [e1.2, e] at hz
        exact absurd rfl hz
    rw [h4, h5]
    exact h
theorem nDrop_same (st : NSt) (nm : List UInt8) : (nDrop st nm).1 = (match nFile st.files nm with | none => 5 | some _ => 0) := by
  unfold nDrop
  cases nFile st.files nm with
  | none => rfl
  | some s =>
    simp only
    split <;> rfl
theorem NRel.drop {st sm : NSt} (h : NRel st sm) (nm : List UInt8) : (nDrop sm nm).1 = (nDrop st nm).1 ∧ NRel (nDrop st nm).2 (nDrop sm nm).2 := by
  refine ⟨by rw [nDrop_same, nDrop_same, h.file], ?_⟩
  unfold nDrop
  rw [h.file]
  cases nFile st.files nm with
  | none => exact h
  | some s =>
    simp only
    have hp := h.files.filter (fun f => !decide (f.1 = nm))
    have ha : (sm.files.filter (fun f => !decide (f.1 = nm))).any (fun f => decide (repT f.2 = repT s)) = (st.files.filter (fun f => !decide (f.1 = nm))).any (fun f => decide (repT f.2 = repT s)) := hp.any_eq
    rw [ha]
    split
    · refine ⟨hp, h.bins.map _, h.fsort.filter _, ?_⟩
      rw [List.pairwise_map]
      refine h.bsort.imp fun {a b} e => ?_
      have ea : (if a.1 = repT s then (a.1, dropAll a.2 (idsOf s)) else a).1 = a.1 := by split <;> rfl
      have eb : (if b.1 = repT s then (b.1, dropAll b.2 (idsOf s)) else b).1 = b.1 := by split <;> rfl
      rw [ea, eb]
      exact e
    · exact ⟨hp, h.bins.filter _, h.fsort.filter _, h.bsort.filter _⟩
theorem isum_perm {a b : List Int} (h : a.Perm b) : a.sum = b.sum := by
  induction h with
  | nil => rfl
  | cons x _ ih => rw [List.sum_cons, List.sum_cons, ih]
  | swap x y l => rw [List.sum_cons, List.sum_cons, List.sum_cons, List.sum_cons]; omega
  | trans _ _ h1 h2 => rw [h1, h2]
theorem NRel.sweep {st sm : NSt} (h : NRel st sm) : (nSweep sm).1 = (nSweep st).1 ∧ NRel (nSweep st).2 (nSweep sm).2 := by
  refine ⟨isum_perm (h.bins.map _), h.files, h.bins.map _, h.fsort, ?_⟩
  show List.Pairwise _ (sm.bins.map _)
  rw [List.pairwise_map]
  exact h.bsort
/- What holds of the one holds of the other. -/
theorem NRel.inv {st sm : NSt} (h : NRel st sm) (hI : NInv st) : NInv sm :=
  ⟨h.fne, h.bne, fun f hf => by
    obtain ⟨l, hl⟩ := hI.has f (h.files.mem_iff.1 hf)
    exact ⟨l, h.bins.mem_iff.2 hl⟩, fun b hb => (hI.log b (h.bins.mem_iff.1 hb)).perm (logOf_perm h.files.symm _)⟩
theorem NRel.ok {st sm : NSt} (h : NRel st sm) {U : Int} {n : Nat} (hO : NOk U n st) : NOk U n sm :=
  ⟨fun b hb => hO.bins b (h.bins.mem_iff.1 hb), by rw [h.bins.length_eq]; exact hO.many, fun f hf => hO.files f (h.files.mem_iff.1 hf)⟩
end Go.Proofs.YtjdobbjdlighpabGreatDoor
namespace Go.Proofs.YtjdobbjdlighpabGreatDoor
open Go.RowKit Go.Maps

structure TRows (w W : World) (F : Nat → Prop) (rs : List (Value × List (List UInt8))) : Prop where
  own : ∀ r ∈ rs, W.ownsRow w.heap.size 9 1 r.1 r.2.length (r.2.map strB)
  off : ∀ r ∈ rs, ∀ k, F k → r.1.ownBlock ≠ some k
  two : rs.Pairwise (fun a b => ∀ k, a.1.ownBlock = some k → b.1.ownBlock ≠ some k)
theorem TRows.nil (w W : World) (F : Nat → Prop) : TRows w W F [] := ⟨fun r hr => by simp at hr, fun r hr => by simp at hr, List.Pairwise.nil⟩
theorem TRows.snoc {w W : World} {F : Nat → Prop} {rs : List (Value × List (List UInt8))} (h : TRows w W F rs) : TRows w W F (rs ++ [(.slice none 0 0, [])]) := by
  refine ⟨fun r hr => ?_, fun r hr k hk => ?_, List.pairwise_append.2 ⟨h.two, List.pairwise_singleton _ _, fun a _ b hb k _ e => ?_⟩⟩
  · rcases List.mem_append.1 hr with hr | hr
    · exact h.own r hr
    · rw [List.mem_singleton.1 hr]
      exact World.ownsRow_nil _ _ _ _
  · rcases List.mem_append.1 hr with hr | hr
    · exact h.off r hr k hk
    · rw [List.mem_singleton.1 hr]
      simp [Value.ownBlock]
  · rw [List.mem_singleton.1 hb] at e
    simp [Value.ownBlock] at e
theorem TRows.sub {w W : World} {F : Nat → Prop} {rs rs' : List (Value × List (List UInt8))} (h : TRows w W F rs) (hs : rs'.Sublist rs) : TRows w W F rs' :=
  ⟨fun r hr => h.own r (hs.subset hr), fun r hr => h.off r (hs.subset hr), h.two.sublist hs⟩
theorem TRows.below {w W W' : World} {F : Nat → Prop} {rs : List (Value × List (List UInt8))} (h : TRows w W F rs) (hb : Below W.heap.size W W') : TRows w W' F rs :=
  ⟨fun r hr => row_below (h.own r hr) hb, h.off, h.two⟩
theorem TRows.prog {w W W' : World} {F F' : Nat → Prop} {rs : List (Value × List (List UInt8))} (h : TRows w W F rs) (ho : Off F W W') (hF : ∀ k, F' k → F k ∨ W.heap.size ≤ k) : TRows w W' F' rs := by
  refine ⟨fun r hr => ho.row (h.own r hr) (fun k hk hf => h.off r hr k hf hk), fun r hr k hk e => ?_, h.two⟩
  rcases hF k hk with hk | hk
  · exact h.off r hr k hk e
  · have := row_lt (h.own r hr) e
    omega
theorem TRows.app {w W W' : World} {F : Nat → Prop} {A B : List (Value × List (List UInt8))} {v v' : Value} {t t' : List (List UInt8)} (h : TRows w W F (A ++ (v, t) :: B)) (hF : ∀ k, F k → k < W.heap.size) (hg : W.grownBy W' v.ownBlock) (hr : W'.ownsRow w.heap.size 9 1 v' t'.length (t'.map strB)) (hv : v'.ownBlock = v.ownBlock ∨ v'.ownBlock = some W.heap.size) : TRows w W' F (A ++ (v', t') :: B) := by
  have ho := off_of_rowgrown hg
  obtain ⟨tA, tB, tAB⟩ := List.pairwise_append.1 h.two
  obtain ⟨tv, tB⟩ := List.pairwise_cons.1 tB
  have hvm : (v, t) ∈ A ++ (v, t) :: B := List.mem_append_right _ (List.mem_cons_self ..)
  have hother : ∀ r, r ∈ A ∨ r ∈ B → r ∈ A ++ (v, t) :: B ∧ ∀ k, v.ownBlock = some k → r.1.ownBlock ≠ some k := fun r hr => by
    rcases hr with hr | hr
    · exact ⟨List.mem_append_left _ hr, fun k hk e => tAB r hr _ (List.mem_cons_self ..) k e hk⟩
    · exact ⟨List.mem_append_right _ (List.mem_cons_of_mem _ hr), fun k hk => tv r hr k hk⟩
  have hnew : ∀ r, r ∈ A ∨ r ∈ B → ∀ k, v'.ownBlock = some k → r.1.ownBlock ≠ some k := fun r hr k hk e => by
    rcases hv with hv | hv
    · exact (hother r hr).2 k (hv ▸ hk) e
    · have := row_lt (h.own r (hother r hr).1) e
      rw [hv] at hk
      have := Option.some.inj hk
      omega
  have hmem : ∀ r, r ∈ A ++ (v', t') :: B → r = (v', t') ∨ (r ∈ A ∨ r ∈ B) := fun r hr => by
    rcases List.mem_append.1 hr with hr | hr
    · exact .inr (.inl hr)
    · rcases List.mem_cons.1 hr with hr | hr
      · exact .inl hr
      · exact .inr (.inr hr)
  refine ⟨fun r hm => ?_, fun r hm k hk e => ?_, List.pairwise_append.2 ⟨tA, List.pairwise_cons.2 ⟨fun b hb k hk => hnew b (.inr hb) k hk, tB⟩, fun a ha b hb k hk => ?_⟩⟩
  · rcases hmem r hm with rfl | hm
    · exact hr
    · obtain ⟨h1, h2⟩ := hother r hm
      exact ho.row (h.own r h1) (fun k hk e => h2 k e hk)
  · rcases hmem r hm with rfl | hm
    · rcases hv with hv | hv
      · exact h.off _ hvm k hk (hv ▸ e)
      · have := hF k hk
        simp only at e
        rw [hv] at e
        have := Option.some.inj e
        omega
    · exact h.off r (hother r hm).1 k hk e
  · rcases List.mem_cons.1 hb with rfl | hb
    · exact fun e => hnew a (.inl ha) k e hk
    · exact tAB a ha b (List.mem_cons_of_mem _ hb) k hk
theorem TRows.cell {w W : World} {F : Nat → Prop} {rs : List (Value × List (List UInt8))} (h : TRows w W F rs) {v : Value} {t : List (List UInt8)} (hm : (v, t) ∈ rs) (hn : t ≠ []) : ∃ g c, v = .slice (some ⟨g, 0, none⟩) t.length c ∧ ∀ i (hi : i < t.length), W.cell? ⟨g, i, none⟩ = some (strB t[i]) := by
  have h1 := h.own _ hm
  have k1 := h1.2
  simp only at h1 k1
  rcases k1 with ⟨_, hz⟩ | ⟨g, cap, cur, hv, _⟩
  · exact absurd (List.length_eq_zero_iff.1 hz) hn
  · refine ⟨g, cap, hv, fun i hi => ?_⟩
    have c1 := h1.cells (g := g) (by rw [hv]; rfl) i (strB t[i]) (by simp [hi])
    simp only [add_plain] at c1
    exact c1
theorem TRows.shape {w W : World} {F : Nat → Prop} {rs : List (Value × List (List UInt8))} (h : TRows w W F rs) {v : Value} {t : List (List UInt8)} (hm : (v, t) ∈ rs) : ∃ p c, v = .slice p t.length c := by
  rcases (h.own _ hm).2 with ⟨e, e2⟩ | ⟨g, cap, cur, e, _⟩
  · simp only at e e2
    exact ⟨_, _, by rw [e, e2]⟩
  · exact ⟨_, _, e⟩
theorem infoStrK : (Tryz.prog.info? 9).map (fun i => (i.zero, i.size, i.bytes)) = some (some (.string ⟨#[]⟩), 1, 16) := by kernel_rfl
theorem str_backK (t : ByteArray) : (⟨t.data.toList.toArray⟩ : ByteArray) = t := by
  apply ByteArray.ext
  simp
theorem cell_one_atK {W : World} {B : Nat} {x : Value} {t : TypeId} (hB : B = W.heap.size) : ∀ j u, [x][j]? = some u → (W.alloc (.cells #[x] t)).cell? ((⟨B, 0, none⟩ : Addr).add j) = some u := by
  subst hB
  intro j u hj
  rw [add_plain]
  exact new_cell W #[x] t (by rw [← hj]; simp) rfl
theorem text_rowK {W : World} {base : Nat} {v : Value} {log : List (List UInt8)} {t : ByteArray} (h : W.ownsRow base 9 1 v (log.length + 1) (log.map strB ++ [.string t])) : W.ownsRow base 9 1 v (log ++ [t.data.toList]).length ((log ++ [t.data.toList]).map strB) := by
  rw [List.length_append, List.map_append, List.map_singleton, strB, str_backK]
  exact h
theorem isName_len {x : List UInt8} (h : isName x = true) : x.length ≤ 12 := by
  unfold isName at h
  simp only [Bool.and_eq_true, decide_eq_true_eq] at h
  exact h.2.2
theorem strK_ne {s t : ByteArray} (h : s ≠ t) : (s.toList == t.toList) = false := by
  rw [ByteArray.toList_eq, ByteArray.toList_eq, beq_eq_false_iff_ne]
  exact fun e => h (WideShapes.bytes_inj e)
theorem strK_ne_lit {s : ByteArray} {l : List UInt8} (h : s ≠ ⟨l.toArray⟩) : (s.toList == l) = false := by
  rw [ByteArray.toList_eq, beq_eq_false_iff_ne]
  exact fun e => h (WideShapes.bytes_inj (by rw [e]))
theorem row_shapeK {W : World} {base : Nat} {e : TypeId} {size : Nat} {v : Value} {n : Nat} {xs : List Value} (h : W.ownsRow base e size v n xs) : ∃ p c, v = .slice p n c := by
  rcases h.2 with ⟨rfl, rfl⟩ | ⟨g, cap, cur, rfl, _⟩
  · exact ⟨_, _, rfl⟩
  · exact ⟨_, _, rfl⟩
structure KeepSt (w W : World) (p : Addr) (F : Nat → Prop) (st : NSt) (rs : List (Value × List (List UInt8))) : Prop where
  below : Below w.heap.size w W
  node : PNode W p F st
  new : ∀ k, F k → w.heap.size ≤ k
  rows : TRows w W F rs
theorem KeepSt.next {w W W' : World} {p : Addr} {F : Nat → Prop} {st : NSt} {rs : List (Value × List (List UInt8))} (h : KeepSt w W p F st rs) (hb : Below W.heap.size W W') : KeepSt w W' p F st rs :=
  ⟨h.below.trans (hb.mono h.below.size), h.node.below hb, h.new, h.rows.below hb⟩
theorem KeepSt.prog {w W W' : World} {p : Addr} {F F' : Nat → Prop} {st st' : NSt} {rs : List (Value × List (List UInt8))} (h : KeepSt w W p F st rs) (hp : PNode W' p F' st') (hF : ∀ k, F' k → F k ∨ W.heap.size ≤ k) (ho : Off F W W') : KeepSt w W' p F' st' rs :=
  ⟨h.below.trans (ho.below h.below.size (fun k hk hf => by have := h.new k hf; omega)), hp, fun k hk => (hF k hk).elim (h.new k) (fun h2 => Nat.le_trans h.below.size h2), h.rows.prog ho hF⟩
theorem KeepSt.app {w W W' : World} {p : Addr} {F : Nat → Prop} {st : NSt} {A B : List (Value × List (List UInt8))} {v v' : Value} {t t' : List (List UInt8)} (h : KeepSt w W p F st (A ++ (v, t) :: B)) (hg : W.grownBy W' v.ownBlock) (hr : W'.ownsRow w.heap.size 9 1 v' t'.length (t'.map strB)) (hv : v'.ownBlock = v.ownBlock ∨ v'.ownBlock = some W.heap.size) : KeepSt w W' p F st (A ++ (v', t') :: B) := by
  have ho := off_of_rowgrown hg
  have hvm : (v, t) ∈ A ++ (v, t) :: B := List.mem_append_right _ (List.mem_cons_self ..)
  exact ⟨h.below.trans (ho.below h.below.size (fun k hk e => by have := row_ge (h.rows.own _ hvm) e; omega)), h.node.off ho (fun k hk e => h.rows.off _ hvm k hk e), h.new, h.rows.app h.node.lt hg hr hv⟩
end Go.Proofs.YtjdobbjdlighpabGreatDoor
namespace Go.Proofs.YtjdobbjdlighpabGreatDoor
open Go.RowKit Go.Maps

set_option maxRecDepth 100000 in
set_option maxHeartbeats 4000000 in
theorem mFind_any (M : Nat) (vf vb : Value) (ps : List MF) (bs : List MB) (nm : ByteArray) (w : World) (hn : ps.length ≤ 1000) (h : MSt w M vf vb ps bs) :
    Calls Tryz.prog 15 #[.pointer (some ⟨M, 0, none⟩), .string nm] w fun e w' => e = .returned (.int .i64 (kFindI (mFs ps) nm.data.toList)) ∧ w' = w := by
  obtain ⟨pf, cf, rfl, hcell⟩ := h.files
  have q0 := h.blk.cell (i := 0) rfl
  have HC := hideN hcell
  have hl2 : (ps.length : Int) ≤ 1000 := by omega
  clear hcell h hn
  go_enter Tryz.func15, Tryz.ntmps15
  go_wp2_with fail
  go_loopw [5] (fun i wr => ∃ j : Nat, j ≤ ps.length ∧ i = .int .i64 j ∧ wr = w ∧ Hid (∀ k (hk : k < (mFs ps).length), k < j → (mFs ps)[k].1 ≠ nm.data.toList)) (fun i _ => ps.length - (intOf i).toNat)
  case atStart => exact ⟨0, Nat.zero_le _, rfl, rfl, fun k _ h => by omega⟩
  case round =>
    obtain ⟨j, hj, rfl, rfl, HNO⟩ := hrel
    by_cases hlt : j < ps.length
    · have hlt' : (j : Int) < (ps.length : Int) := by omega
      have hj0 : (0 : Int) ≤ (j : Int) := by omega
      obtain ⟨b, o, rfl, ⟨hb, hc⟩, a0, _⟩ := HC.out j hlt
      obtain ⟨X, hX⟩ : ∃ X : ByteArray, (⟨ps[j].1.1.toArray⟩ : ByteArray) = X := ⟨_, rfl⟩
      have hXd : X.data.toList = ps[j].1.1 := by rw [← hX]
      rw [hX] at a0
      by_cases hx : X = nm
      · have HE : Hid (kFindI (mFs ps) nm.data.toList = (j : Int)) := by
          show _ = _
          unfold kFindI
          rw [kFind_at (mFs ps) nm.data.toList j (by first | (rw [mFs_length]; exact hlt) | (rw [mBs_length]; exact hlt)) HNO.out (by rw [mFs_get, ← hx, hXd])]
        subst hx
        clear hX hXd
        go_wp2_with fail
        go_ret
        exact ⟨by rw [HE.out]; rfl, rfl⟩
      · have HNX : Hid (∀ k (hk : k < (mFs ps).length), k < j + 1 → (mFs ps)[k].1 ≠ nm.data.toList) := fun k hk hkj => by
          rcases Nat.lt_or_ge k j with h' | h'
          · exact HNO.out k hk h'
          · obtain rfl : k = j := by omega
            rw [mFs_get, ← hXd]
            exact fun e => hx (WideShapes.bytes_inj e)
        have hne := strK_ne hx
        clear hX hXd hx
        go_wp2_with fail
        go_roundw
        case rel => exact ⟨j + 1, hlt, by go_num, by first | rfl | trivial, HNX.out⟩
        case measure => simp [intOf]; omega
    · have hge : (ps.length : Int) ≤ (j : Int) := by omega
      have HE : Hid (kFindI (mFs ps) nm.data.toList = -1) := by
        show _ = _
        unfold kFindI
        rw [kFind_none _ _ (fun k hk => HNO.out k hk (by first | (rw [mFs_length] at hk; omega) | (rw [mBs_length] at hk; omega)))]
      go_wp2_with fail
      go_ret
      exact ⟨by rw [HE.out]; rfl, rfl⟩
set_option maxRecDepth 100000 in
set_option maxHeartbeats 4000000 in
theorem mFindBin_any (M : Nat) (vf vb : Value) (ps : List MF) (bs : List MB) (x : Nat × Int) (w : World) (hn : bs.length ≤ 1000) (h : MSt w M vf vb ps bs) :
    Calls Tryz.prog 17 #[.pointer (some ⟨M, 0, none⟩), idV (x.1 : Nat) x.2] w fun e w' => e = .returned (.int .i64 (kFindI (mBs bs) x)) ∧ Below w.heap.size w w' := by
  obtain ⟨pa, c, rfl, hcell⟩ := h.reps
  have hB0 := h.blk.cell (i := 1) rfl
  have hBl := h.blk.lt
  have hl2 : (bs.length : Int) ≤ 1000 := by omega
  have HC := hideN hcell
  clear hcell h hn
  have hx := Blk.new w #[.int .u32 (x.1 : Nat), .int .i64 x.2] 25
  have hal : Below w.heap.size w (w.alloc (.cells #[.int .u32 (x.1 : Nat), .int .i64 x.2] 25)) := (Below.refl _ w).alloc (Nat.le_refl _) _
  go_enter Tryz.func17, Tryz.ntmps17
  go_wp2_with fail
  obtain ⟨W, hW⟩ : ∃ W, w.alloc (.cells #[.int .u32 (x.1 : Nat), .int .i64 x.2] 25) = W := ⟨_, rfl⟩
  rw [hW] at hx hal ⊢
  have x0 := hx.cell (i := 0) rfl
  have x1 := hx.cell (i := 1) rfl
  have q0 := (hal.cell (p := ⟨M, 1, none⟩) hBl).trans hB0
  clear hW hB0
  go_loopw [5] (fun i wr => ∃ j m : Nat, j ≤ bs.length ∧ i = .int .i64 j ∧ wr = W.drewN m ∧ ∀ k (hk : k < (mBs bs).length), k < j → (mBs bs)[k].1 ≠ x) (fun i _ => bs.length - (intOf i).toNat)
  case atStart => exact ⟨0, 0, Nat.zero_le _, rfl, rfl, fun k _ h => by omega⟩
  case round =>
    obtain ⟨j, m, hj, rfl, rfl, hno⟩ := hrel
    have HNO : Hid (∀ k (hk : k < (mBs bs).length), k < j → (mBs bs)[k].1 ≠ x) := hno
    clear hno
    by_cases hlt : j < bs.length
    · obtain ⟨ba, oa, rfl, ⟨hbl, _⟩, a0, a1, _⟩ := HC.out j hlt
      have hlt' : (j : Int) < (bs.length : Int) := by omega
      have a0' := (hal.cell (p := ⟨ba, oa + j * 3, none⟩) hbl).trans a0
      have a1' := (hal.cell (p := ⟨ba, oa + j * 3 + 1, none⟩) hbl).trans a1
      have HNX : Hid (bs[j].1.1 ≠ x → ∀ k (hk : k < (mBs bs).length), k < j + 1 → (mBs bs)[k].1 ≠ x) := fun hne k hk hkj => by
        rcases Nat.lt_or_ge k j with h' | h'
        · exact HNO.out k hk h'
        · obtain rfl : k = j := by omega
          rw [mBs_get]
          exact hne
      have HAT : Hid (bs[j].1.1 = x → kFindI (mBs bs) x = (j : Int)) := fun he => by unfold kFindI; rw [kFind_at (mBs bs) x j (by first | (rw [mFs_length]; exact hlt) | (rw [mBs_length]; exact hlt)) HNO.out (by rw [mBs_get]; exact he)]
      obtain ⟨y, hy⟩ : ∃ y, bs[j].1.1 = y := ⟨_, rfl⟩
      rw [hy] at a0' a1' HNX HAT
      clear hy a0 a1
      obtain ⟨yp, yl⟩ := y
      obtain ⟨xp, xl⟩ := x
      simp only at a0' a1' x0 x1
      by_cases e1 : (yp : Int) = (xp : Int)
      · by_cases e2 : yl = xl
        · have HE : Hid (kFindI (mBs bs) (xp, xl) = (j : Int)) := HAT.out (by rw [e2, show yp = xp by omega])
          clear HAT HNX
          subst e2
          obtain rfl : yp = xp := by omega
          go_wp2_with fail
          go_quiet (fail)
          go_wp2_with fail
          go_ret
          exact ⟨by rw [HE.out]; rfl, ⟨hal.os, hal.tape, hal.output, hal.size, fun k hk => hal.block k hk⟩⟩
        · have HE : Hid (∀ k (hk : k < (mBs bs).length), k < j + 1 → (mBs bs)[k].1 ≠ (xp, xl)) := HNX.out (fun e => e2 (Prod.mk.inj e).2)
          clear HAT HNX
          obtain rfl : yp = xp := by omega
          have e2' : (yl == xl) = false := beq_eq_false_iff_ne.2 e2
          go_wp2_with fail
          go_quiet (fail)
          go_wp2_with fail
          go_roundw
          case rel => exact ⟨j + 1, _, by omega, by go_num, rfl, HE.out⟩
          case measure => simp [intOf]; omega
      · have HE : Hid (∀ k (hk : k < (mBs bs).length), k < j + 1 → (mBs bs)[k].1 ≠ (xp, xl)) := HNX.out (fun e => e1 (by rw [(Prod.mk.inj e).1]))
        clear HAT HNX
        have e1' : ((yp : Int) == (xp : Int)) = false := beq_eq_false_iff_ne.2 e1
        go_wp2_with fail
        go_quiet (fail)
        go_wp2_with fail
        go_roundw
        case rel => exact ⟨j + 1, _, by omega, by go_num, rfl, HE.out⟩
        case measure => simp [intOf]; omega
    · have hge : (bs.length : Int) ≤ (j : Int) := by omega
      have HE : Hid (kFindI (mBs bs) x = -1) := by
        show _ = _
        unfold kFindI
        rw [kFind_none _ _ (fun k hk => HNO.out k hk (by first | (rw [mFs_length] at hk; omega) | (rw [mBs_length] at hk; omega)))]
      go_wp2_with fail
      go_ret
      exact ⟨by rw [HE.out]; rfl, ⟨hal.os, hal.tape, hal.output, hal.size, fun k hk => hal.block k hk⟩⟩
end Go.Proofs.YtjdobbjdlighpabGreatDoor
