/-
  Own text. A node's bins and its files, pure: of each rep, its bin has the pieces of its files, each used as often as they have it (WLog, NInv); what put, drop, sweep make of it.
  Own text. A node in memory behind a file that was dropped, a bin that went, a bin that was turned; delete of a map's entry outside a range.
  Own text. (*node.Node).hasFileOf by a contract.
  Own text. (*node.Node).Drop by a contract.
-/
import Derived.Test.YtjdobbjdlighpaaGreatDoorG16
import Derived.Test.YtjdobbjdlighpaaGreatDoorG07
import Derived.Test.YtjdobbjdlighpaaGreatDoorG14
import Derived.Deep.RegionHeld3
namespace Go.Proofs.YtjdobbjdlighpaaGreatDoor
open Go.RowKit Go.Maps

/- As Log, but pieces that nobody uses may stay. -/
structure WLog (l : List Hd) (log : List (List UInt8)) : Prop where
  cnt : ∀ h ∈ l, h.2.1 = ((log.count h.2.2 : Nat) : Int)
  has : ∀ s ∈ log, ∃ u, (idOfL s, u, s) ∈ l
theorem WLog.nil : WLog [] [] := ⟨fun h hm => by simp at hm, fun s hm => by simp at hm⟩
theorem WLog.perm {l : List Hd} {a b : List (List UInt8)} (h : WLog l a) (hp : a.Perm b) : WLog l b :=
  ⟨fun x hx => by rw [h.cnt x hx, hp.count_eq], fun s hs => h.has s (hp.mem_iff.2 hs)⟩
theorem WLog.one {U : Int} {l : List Hd} {log : List (List UInt8)} (hok : BinOk U l) (h : WLog l log) {s : List UInt8} (hs : s ∈ log) : ∃ (k : Nat) (hk : k < l.length), hFind l (idOfL s) = some k ∧ l[k].1 = idOfL s ∧ l[k].2.2 = s := by
  obtain ⟨u, hu⟩ := h.has s hs
  obtain ⟨k, hk⟩ := hFind_mem hu
  obtain ⟨hkl, he⟩ := hFind_some hk
  have e := rise_inj hok.rise (List.getElem_mem hkl) hu he
  exact ⟨k, hkl, hk, he, by rw [e]⟩
theorem WLog.get {U : Int} {l : List Hd} {log : List (List UInt8)} (hok : BinOk U l) (h : WLog l log) {s : List UInt8} (hs : s ∈ log) : hGet l (idOfL s) = (s, 0) := by
  obtain ⟨k, hk, hf, _, ht⟩ := h.one hok hs
  simp only [hGet, hf, List.getElem?_eq_getElem hk, Option.map_some, Option.getD_some, ht]
theorem WLog.put {U : Int} {l : List Hd} {log : List (List UInt8)} (hok : BinOk U l) (h : WLog l log) {s : List UInt8} (he : (hPut l s).1.2.2 = 0) : WLog (hPut l s).2 (log ++ [s]) := by
  revert he
  unfold hPut
  split
  · exact fun h => by simp at h
  · split
    · rename_i k hf
      obtain ⟨hk, hid⟩ := hFind_some hf
      split
      · rename_i ht
        intro _
        rw [List.getElem?_eq_getElem hk, Option.map_some] at ht
        have ht : l[k].2.2 = s := Option.some.inj ht
        refine ⟨fun z hz => ?_, fun t hm => ?_⟩
        · rcases modify_all hok.rise hk hz with ⟨hm, hn⟩ | rfl
          · have hne : s ≠ z.2.2 := fun e => hn (((hok.each z hm).1.trans (by rw [← e])).trans hid.symm)
            rw [h.cnt z hm, List.count_append, List.count_singleton]
            simp [hne]
          · show l[k].2.1 + 1 = ((log ++ [s]).count l[k].2.2 : Nat)
            rw [h.cnt _ (List.getElem_mem hk), ht, List.count_append, List.count_singleton_self]
            omega
        · by_cases e : t = s
          · subst e
            refine ⟨l[k].2.1 + 1, ?_⟩
            have := modify_own (d := 1) hk
            rw [hUse, hid, ht] at this
            exact this
          · have hm : t ∈ log := by
              rcases List.mem_append.1 hm with hm | hm
              · exact hm
              · exact absurd (List.mem_singleton.1 hm) e
            obtain ⟨u, hu⟩ := h.has t hm
            refine ⟨u, modify_other hk hu fun e2 => ?_⟩
            have := rise_inj hok.rise hu (List.getElem_mem hk) e2
            exact e (by rw [← ht, ← this])
      · exact fun h => by simp at h
    · rename_i hf
      split
      · exact fun h => by simp at h
      · intro _
        have hno : s ∉ log := fun hs => by
          obtain ⟨u, hu⟩ := h.has s hs
          exact hFind_not hf _ hu rfl
        refine ⟨fun z hz => ?_, fun t hm => ?_⟩
        · rcases hIns_mem hz with rfl | hm
          · show (1 : Int) = ((log ++ [s]).count s : Nat)
            rw [List.count_append, List.count_singleton_self, List.count_eq_zero.2 hno]
            rfl
          · have hne : s ≠ z.2.2 := fun e => hFind_not hf z hm ((hok.each z hm).1.trans (by rw [← e]))
            rw [h.cnt z hm, List.count_append, List.count_singleton]
            simp [hne]
        · rcases List.mem_append.1 hm with hm | hm
          · obtain ⟨u, hu⟩ := h.has t hm
            exact ⟨u, mem_hIns (.inr hu)⟩
          · rw [List.mem_singleton.1 hm]
            exact ⟨1, mem_hIns (.inl rfl)⟩
theorem WLog.there {U : Int} {l : List Hd} {log : List (List UInt8)} (hok : BinOk U l) (h : WLog l log) {s : List UInt8} (hs : s ∈ log) : (hPut l s).1.2.1 = false := by
  obtain ⟨k, hk, hf, _, ht⟩ := h.one hok hs
  unfold hPut
  split
  · rfl
  · rw [hf]
    simp only
    split <;> rfl
theorem WLog.drop {U : Int} {l : List Hd} {s : List UInt8} {r : List (List UInt8)} (hok : BinOk U l) (h : WLog l (s :: r)) : WLog (hDrop l (idOfL s)).2 r := by
  obtain ⟨k, hk, hf, hid, ht⟩ := h.one hok (List.mem_cons_self ..)
  have hc : l[k].2.1 = ((r.count s : Nat) : Int) + 1 := by
    rw [h.cnt _ (List.getElem_mem hk), ht, List.count_cons_self]
    omega
  have e : hDrop l (idOfL s) = (0, l.modify k (hUse (-1))) := by
    have hn : ¬ (l[k]?.map (·.2.1)) = some 0 := fun e => by
      rw [List.getElem?_eq_getElem hk, Option.map_some] at e
      have := Option.some.inj e
      omega
    simp only [hDrop, hf, if_neg hn]
  rw [e]
  refine ⟨fun z hz => ?_, fun t hm => ?_⟩
  · rcases modify_all hok.rise hk hz with ⟨hm, hn⟩ | rfl
    · have hne : s ≠ z.2.2 := fun e => hn (((hok.each z hm).1.trans (by rw [← e])).trans hid.symm)
      rw [h.cnt z hm, List.count_cons_of_ne hne]
    · show l[k].2.1 + -1 = ((r.count l[k].2.2 : Nat) : Int)
      rw [hc, ht]
      omega
  · obtain ⟨u, hu⟩ := h.has t (List.mem_cons_of_mem _ hm)
    by_cases e : t = s
    · subst e
      have ho := modify_own (d := -1) hk
      rw [hUse, hid, ht, hc] at ho
      exact ⟨_, ho⟩
    · refine ⟨u, modify_other hk hu fun e2 => ?_⟩
      have := rise_inj hok.rise hu (List.getElem_mem hk) e2
      exact e (by rw [← ht, ← this])
theorem WLog.sweep {l : List Hd} {log : List (List UInt8)} (h : WLog l log) : WLog (hSweep l).2 log := by
  refine ⟨fun z hz => h.cnt z (List.mem_filter.1 hz).1, fun s hs => ?_⟩
  obtain ⟨u, hu⟩ := h.has s hs
  refine ⟨u, List.mem_filter.2 ⟨hu, ?_⟩⟩
  have h1 : u = ((log.count s : Nat) : Int) := h.cnt _ hu
  have h2 := List.count_pos_iff.2 hs
  have hn : ¬ u = 0 := by omega
  simp [unused, hn]
theorem WLog.puts : ∀ (ls : List (List UInt8)) {U : Int} {l : List Hd} {fr : Int} {log : List (List UInt8)}, 0 ≤ U → BinOk U l → WLog l log → (putAll l fr ls).2.1 = 0 → WLog (putAll l fr ls).2.2 (log ++ ls)
  | [], U, l, fr, log, _, _, h, _ => by
    rw [putAll, List.append_nil]
    exact h
  | s :: r, U, l, fr, log, hU, hok, h, he => by
    rw [putAll] at he ⊢
    by_cases hp : (hPut l s).1.2.2 = 0
    · rw [if_pos hp] at he ⊢
      have := WLog.puts r (by omega) (hPut_ok hok s hU) (h.put hok hp) he
      rw [List.append_assoc] at this
      exact this
    · rw [if_neg hp] at he
      exact absurd he hp
theorem WLog.fresh : ∀ (ls : List (List UInt8)) {U : Int} {l : List Hd} {fr : Int} {log : List (List UInt8)}, 0 ≤ U → BinOk U l → WLog l log → (∀ t ∈ ls, t ∈ log) → (putAll l fr ls).2.1 = 0 → (putAll l fr ls).1 = fr
  | [], U, l, fr, log, _, _, _, _, _ => rfl
  | s :: r, U, l, fr, log, hU, hok, h, hin, he => by
    rw [putAll] at he ⊢
    by_cases hp : (hPut l s).1.2.2 = 0
    · rw [if_pos hp] at he ⊢
      have hs := h.there hok (hin s (List.mem_cons_self ..))
      rw [hs] at he ⊢
      simp only [Bool.false_eq_true, if_false] at he ⊢
      exact WLog.fresh r (by omega) (hPut_ok hok s hU) (h.put hok hp) (fun t ht => List.mem_append_left _ (hin t (List.mem_cons_of_mem _ ht))) he
    · rw [if_neg hp] at he
      exact absurd he hp
/- What is dropped of a bin, one by one. -/
def dropAll (l : List Hd) : List (Nat × Int) → List Hd
  | [] => l
  | x :: r => dropAll (hDrop l x).2 r
theorem dropAll_ok : ∀ (ids : List (Nat × Int)) {U : Int} {l : List Hd}, BinOk U l → BinOk U (dropAll l ids)
  | [], _, _, h => h
  | x :: r, _, _, h => dropAll_ok r (hDrop_ok h x)
theorem WLog.drops : ∀ (ls : List (List UInt8)) {U : Int} {l : List Hd} {r : List (List UInt8)}, BinOk U l → WLog l (ls ++ r) → WLog (dropAll l (ls.map idOfL)) r
  | [], _, _, _, _, h => h
  | s :: t, _, _, _, hok, h => WLog.drops t (hDrop_ok hok (idOfL s)) (h.drop hok)
def nDrop (st : NSt) (nm : List UInt8) : Int × NSt :=
  match nFile st.files nm with
  | none => (5, st)
  | some s =>
    if (st.files.filter (fun f => !decide (f.1 = nm))).any (fun f => decide (repT f.2 = repT s)) = true then (0, ⟨st.files.filter (fun f => !decide (f.1 = nm)), st.bins.map (fun b => if b.1 = repT s then (b.1, dropAll b.2 (idsOf s)) else b)⟩)
    else (0, ⟨st.files.filter (fun f => !decide (f.1 = nm)), st.bins.filter (fun b => !decide (b.1 = repT s))⟩)
def nSweep (st : NSt) : Int × NSt := ((st.bins.map fun b => (hSweep b.2).1).sum, ⟨st.files, st.bins.map (fun b => (b.1, (hSweep b.2).2))⟩)
/- The texts' pieces of a rep. -/
def logOf (files : List NFile) (r : Nat × Int) : List (List UInt8) := files.flatMap (fun f => if repT f.2 = r then pieces f.2 else [])
theorem logOf_cons (f : NFile) (fs : List NFile) (r : Nat × Int) : logOf (f :: fs) r = (if repT f.2 = r then pieces f.2 else []) ++ logOf fs r := by simp [logOf]
theorem logOf_none {fs : List NFile} {r : Nat × Int} (h : ∀ f ∈ fs, repT f.2 ≠ r) : logOf fs r = [] := by
  unfold logOf
  rw [List.flatMap_eq_nil_iff]
  intro f hf
  rw [if_neg (h f hf)]
theorem logOf_perm {a b : List NFile} (h : a.Perm b) (r : Nat × Int) : (logOf a r).Perm (logOf b r) := by
  unfold logOf
  exact h.flatMap_right _
structure NInv (st : NSt) : Prop where
  fap : st.files.Pairwise (fun f g => f.1 ≠ g.1)
  bap : st.bins.Pairwise (fun f g => f.1 ≠ g.1)
  has : ∀ f ∈ st.files, ∃ l, (repT f.2, l) ∈ st.bins
  log : ∀ b ∈ st.bins, WLog b.2 (logOf st.files b.1)
theorem NInv.empty : NInv ⟨[], []⟩ := ⟨List.Pairwise.nil, List.Pairwise.nil, fun f hf => by simp at hf, fun f hf => by simp at hf⟩
theorem nBin_of_mem : ∀ {l : List NBin} {x : Nat × Int} {h : List Hd}, l.Pairwise (fun f g => f.1 ≠ g.1) → (x, h) ∈ l → nBin l x = some h
  | b :: r, x, h, hp, hm => by
    rw [nBin]
    rcases List.mem_cons.1 hm with rfl | hm
    · simp
    · rw [if_neg ((List.pairwise_cons.1 hp).1 _ hm)]
      exact nBin_of_mem (List.pairwise_cons.1 hp).2 hm
theorem nFile_of_mem : ∀ {l : List NFile} {x h : List UInt8}, l.Pairwise (fun f g => f.1 ≠ g.1) → (x, h) ∈ l → nFile l x = some h
  | b :: r, x, h, hp, hm => by
    rw [nFile]
    rcases List.mem_cons.1 hm with rfl | hm
    · simp
    · rw [if_neg ((List.pairwise_cons.1 hp).1 _ hm)]
      exact nFile_of_mem (List.pairwise_cons.1 hp).2 hm
theorem nPut_cases' (st : NSt) (nm s : List UInt8) : ((nPut st nm s).2.1 ≠ 0 ∧ (nPut st nm s).1 = 0 ∧ (nPut st nm s).2.2 = st) ∨ ((ofR nm s).2 = 0 ∧ nFile st.files nm = none ∧ (putAll ((nBin st.bins (repT s)).getD []) 0 (pieces s)).2.1 = 0 ∧ nPut st nm s = ((putAll ((nBin st.bins (repT s)).getD []) 0 (pieces s)).1, 0, ⟨(nm, s) :: st.files, (repT s, (putAll ((nBin st.bins (repT s)).getD []) 0 (pieces s)).2.2) :: st.bins.filter (fun b => !decide (b.1 = repT s))⟩)) := by
  by_cases h1 : (ofR nm s).2 = 0
  · cases h2 : nFile st.files nm with
    | some t =>
      rw [nPut_there h1 h2]
      exact .inl ⟨by simp, rfl, rfl⟩
    | none =>
      by_cases h3 : 30 ≤ st.files.length
      · rw [nPut_full h1 h2 h3]
        exact .inl ⟨by simp, rfl, rfl⟩
      · obtain ⟨⟨fr, ec, bl⟩, hp⟩ : ∃ r, putAll ((nBin st.bins (repT s)).getD []) 0 (pieces s) = r := ⟨_, rfl⟩
        by_cases h4 : ec = 0
        · subst h4
          rw [nPut_ok h1 h2 h3 rfl rfl hp, hp]
          exact .inr ⟨h1, rfl, rfl, rfl⟩
        · rw [nPut_err h1 h2 h3 rfl rfl hp h4]
          exact .inl ⟨h4, rfl, rfl⟩
  · rw [nPut_bad h1]
    exact .inl ⟨h1, rfl, rfl⟩
theorem NInv.put {U : Int} {n : Nat} {st : NSt} (h : NInv st) (hok : NOk U n st) (hU : 0 ≤ U) (nm s : List UInt8) : NInv (nPut st nm s).2.2 := by
  have hno : ∀ {r : Nat × Int}, nBin st.bins r = none → logOf st.files r = [] := fun {r} hn => logOf_none fun f hf e => by
    obtain ⟨l, hl⟩ := h.has f hf
    exact nBin_none hn _ hl e
  rcases nPut_cases' st nm s with ⟨_, _, e⟩ | ⟨h1, h2, hec, e⟩
  · rw [e]
    exact h
  · rw [e]
    have hpf := nFile_none h2
    have hold : WLog ((nBin st.bins (repT s)).getD []) (logOf st.files (repT s)) ∧ BinOk U ((nBin st.bins (repT s)).getD []) := by
      cases hb : nBin st.bins (repT s) with
      | none => exact ⟨by rw [hno hb]; exact WLog.nil, BinOk.nil _⟩
      | some l0 => exact ⟨h.log _ (nBin_some hb), hok.bins _ (nBin_some hb)⟩
    refine ⟨List.pairwise_cons.2 ⟨fun f hf e => hpf f hf e.symm, h.fap⟩, List.pairwise_cons.2 ⟨fun b hb e => ?_, h.bap.filter _⟩, fun f hf => ?_, fun b hb => ?_⟩
    · have := (List.mem_filter.1 hb).2
      simp at this
      exact this e.symm
    · rcases List.mem_cons.1 hf with rfl | hf
      · exact ⟨_, List.mem_cons_self ..⟩
      · obtain ⟨l, hl⟩ := h.has f hf
        by_cases e : repT f.2 = repT s
        · exact ⟨_, by rw [e]; exact List.mem_cons_self ..⟩
        · exact ⟨l, List.mem_cons_of_mem _ (List.mem_filter.2 ⟨hl, by simp [e]⟩)⟩
    · rw [logOf_cons]
      rcases List.mem_cons.1 hb with rfl | hb
      · simp only [if_true]
        exact (WLog.puts (pieces s) hU hold.2 hold.1 hec).perm List.perm_append_comm
      · obtain ⟨hb1, hb2⟩ := List.mem_filter.1 hb
        have hne : ¬ repT s = b.1 := fun e => by simp [e] at hb2
        simp only [if_neg hne, List.nil_append]
        exact h.log b hb1
theorem files_out {fs : List NFile} {nm s : List UInt8} (hp : fs.Pairwise (fun f g => f.1 ≠ g.1)) (hm : (nm, s) ∈ fs) : ((nm, s) :: fs.filter (fun f => !decide (f.1 = nm))).Perm fs := by
  induction fs with
  | nil => simp at hm
  | cons f r ih =>
    obtain ⟨h1, h2⟩ := List.pairwise_cons.1 hp
    rcases List.mem_cons.1 hm with e | hm
    · subst e
      have : r.filter (fun f => !decide (f.1 = nm)) = r := List.filter_eq_self.2 fun g hg => by
        have := h1 g hg
        simp only [Bool.not_eq_true', decide_eq_false_iff_not]
        exact fun e => this e.symm
      simp [this]
    · have hn : f.1 ≠ nm := h1 _ hm
      rw [List.filter_cons, if_pos (by simp [hn])]
      exact (List.Perm.swap _ _ _).trans ((ih h2 hm).cons f)
theorem NInv.drop {U : Int} {n : Nat} {st : NSt} (h : NInv st) (hok : NOk U n st) (nm : List UInt8) : NInv (nDrop st nm).2 := by
  unfold nDrop
  cases hf : nFile st.files nm with
  | none => exact h
  | some s =>
    simp only
    have hm := nFile_some hf
    have hp := files_out h.fap hm
    have hlog : ∀ r, (logOf st.files r).Perm ((if repT s = r then pieces s else []) ++ logOf (st.files.filter (fun f => !decide (f.1 = nm))) r) := fun r => by
      have := (logOf_perm hp r).symm
      rw [logOf_cons] at this
      exact this
    split
    · refine ⟨h.fap.filter _, ?_, fun f hf => ?_, fun b hb => ?_⟩
      · rw [List.pairwise_map]
        refine h.bap.imp fun {a b} hne => ?_
        have ea : (if a.1 = repT s then (a.1, dropAll a.2 (idsOf s)) else a).1 = a.1 := by split <;> rfl
        have eb : (if b.1 = repT s then (b.1, dropAll b.2 (idsOf s)) else b).1 = b.1 := by split <;> rfl
        rw [ea, eb]
        exact hne
      · obtain ⟨l, hl⟩ := h.has f (List.mem_filter.1 hf).1
        by_cases e : repT f.2 = repT s
        · exact ⟨dropAll l (idsOf s), List.mem_map.2 ⟨_, hl, by simp only [if_pos e]⟩⟩
        · exact ⟨l, List.mem_map.2 ⟨_, hl, by simp only [if_neg e]⟩⟩
      · obtain ⟨c, hc, rfl⟩ := List.mem_map.1 hb
        have hw := (h.log c hc).perm (hlog c.1)
        by_cases e : c.1 = repT s
        · simp only [if_pos e]
          rw [if_pos e.symm] at hw
          have := WLog.drops (pieces s) (hok.bins c hc) hw
          exact this
        · simp only [if_neg e]
          rw [if_neg (fun e' => e e'.symm), List.nil_append] at hw
          exact hw
    · rename_i hany
      have hnone : ∀ f ∈ st.files.filter (fun f => !decide (f.1 = nm)), repT f.2 ≠ repT s := fun f hf e => hany (List.any_eq_true.2 ⟨f, hf, by simp [e]⟩)
      refine ⟨h.fap.filter _, h.bap.filter _, fun f hf => ?_, fun b hb => ?_⟩
      · obtain ⟨l, hl⟩ := h.has f (List.mem_filter.1 hf).1
        exact ⟨l, List.mem_filter.2 ⟨hl, by simp [hnone f hf]⟩⟩
      · obtain ⟨hb1, hb2⟩ := List.mem_filter.1 hb
        have hne : ¬ repT s = b.1 := fun e => by simp [e] at hb2
        have hw := (h.log b hb1).perm (hlog b.1)
        rw [if_neg hne, List.nil_append] at hw
        exact hw
theorem NInv.sweep {st : NSt} (h : NInv st) : NInv (nSweep st).2 := by
  refine ⟨h.fap, ?_, fun f hf => ?_, fun b hb => ?_⟩
  · show (st.bins.map _).Pairwise _
    rw [List.pairwise_map]
    exact h.bap
  · obtain ⟨l, hl⟩ := h.has f hf
    exact ⟨_, List.mem_map.2 ⟨_, hl, rfl⟩⟩
  · obtain ⟨c, hc, rfl⟩ := List.mem_map.1 hb
    exact (h.log c hc).sweep
theorem NOk.drop {U : Int} {n : Nat} {st : NSt} (h : NOk U n st) (nm : List UInt8) : NOk U n (nDrop st nm).2 := by
  unfold nDrop
  cases hf : nFile st.files nm with
  | none => exact h
  | some s =>
    simp only
    split
    · refine ⟨fun b hb => ?_, by rw [List.length_map]; exact h.many, fun f hf => h.files f (List.mem_filter.1 hf).1⟩
      obtain ⟨c, hc, rfl⟩ := List.mem_map.1 hb
      split
      · exact dropAll_ok _ (h.bins c hc)
      · exact h.bins c hc
    · exact ⟨fun b hb => h.bins b (List.mem_filter.1 hb).1, Nat.le_trans (List.length_filter_le _ _) h.many, fun f hf => h.files f (List.mem_filter.1 hf).1⟩
theorem NOk.sweep {U : Int} {n : Nat} {st : NSt} (h : NOk U n st) : NOk U n (nSweep st).2 := by
  refine ⟨fun b hb => ?_, by show (st.bins.map _).length ≤ n; rw [List.length_map]; exact h.many, h.files⟩
  obtain ⟨c, hc, rfl⟩ := List.mem_map.1 hb
  exact hSweep_ok (h.bins c hc)
theorem hSize_parts (l : List Hd) : hSize l = (hSweep l).1 + hSize (hSweep l).2 := by
  show hSize l = hSize (l.filter unused) + hSize (l.filter (fun h => !unused h))
  induction l with
  | nil => rfl
  | cons x r ih =>
    rw [hSize_cons, ih, List.filter_cons, List.filter_cons]
    cases unused x
    · simp only [Bool.false_eq_true, if_false, Bool.not_false, if_true, hSize_cons]
      omega
    · simp only [if_true, Bool.not_true, Bool.false_eq_true, if_false, hSize_cons]
      omega
theorem nSweep_size (st : NSt) : nSize st.bins - (nSweep st).1 = nSize (nSweep st).2.bins := by
  show nSize st.bins - (st.bins.map fun b => (hSweep b.2).1).sum = nSize (st.bins.map (fun b => (b.1, (hSweep b.2).2)))
  generalize st.bins = l
  induction l with
  | nil => rfl
  | cons x r ih =>
    rw [List.map_cons, List.map_cons, nSize_cons, nSize_cons, List.sum_cons, hSize_parts x.2]
    simp only
    omega
/- What is put is got. -/
theorem NInv.got {U : Int} {n : Nat} {st : NSt} (h : NInv st) (hok : NOk U n st) {nm s : List UInt8} (hm : (nm, s) ∈ st.files) : nFile st.files nm = some s ∧ ∃ l, nBin st.bins (repT s) = some l ∧ ∀ t ∈ pieces s, hGet l (idOfL t) = (t, 0) := by
  obtain ⟨l, hl⟩ := h.has _ hm
  refine ⟨nFile_of_mem h.fap hm, l, nBin_of_mem h.bap hl, fun t ht => (h.log _ hl).get (hok.bins _ hl) ?_⟩
  exact List.mem_flatMap.2 ⟨_, hm, by rw [if_pos rfl]; exact ht⟩
/- A text that is there has no new byte. -/
theorem NInv.again {U : Int} {n : Nat} {st : NSt} (h : NInv st) (hok : NOk U n st) (hU : 0 ≤ U) {nm s : List UInt8} (hm : (nm, s) ∈ st.files) (x : List UInt8) : (nPut st x s).1 = 0 := by
  obtain ⟨l, hl⟩ := h.has _ hm
  rcases nPut_cases' st x s with ⟨_, e, _⟩ | ⟨_, _, hec, e⟩
  · exact e
  · rw [e]
    rw [nBin_of_mem h.bap hl, Option.getD_some] at hec ⊢
    exact WLog.fresh (pieces s) hU (hok.bins _ hl) (h.log _ hl) (fun t ht => List.mem_flatMap.2 ⟨_, hm, by rw [if_pos rfl]; exact ht⟩) hec
end Go.Proofs.YtjdobbjdlighpaaGreatDoor
namespace Go.Proofs.YtjdobbjdlighpaaGreatDoor
open Go.RowKit Go.Maps

section
variable {P : Program} {k : TypeId} {κ β : Type}
variable {ops : Array Oper} {rest : List Oper} {o : Oper} {a : Act} {Q : Exit → Act → World → Prop}
theorem wp_del_kit [DecidableEq κ] (M : MapKit P k κ β) (w : World) (hg : o.guard = none) (m x : Operand) (t : TypeId) (hop : o.op = Op.call { callee := Callee.builtin Builtin.delete, args := #[m, x], argTypes := #[t, k] })
    (e : TypeId) (ht : P.underlying t = some (.map k e)) (b : Nat) (l : List (κ × β)) (hm : a.eval m = .map (some b)) (h : M.Of w b l) (y : κ) (hy : M.wf y) (hx : a.eval x = M.mkK y)
    (hK : ∀ w', M.Of w' b (l.filter (fun h => !decide (h.1 = y))) → w.grownBy w' (some b) → wpList P ops Q rest (a.put o.dst (.tuple #[])) w') :
    wpList P ops Q (o :: rest) a w := by
  obtain ⟨ds, ho, hp⟩ := h.own
  refine wpList_delete_own w hg m x t k hop e M.K ht M.R b ds.length (.map ds) hm ho _ _ hx (M.key_kl hy) fun w' ho' hturn => hK w' ⟨⟨_, ownsMap_tight ho', ?_⟩, fun z hz => h.wf z (List.mem_filter.1 hz).1⟩ hturn.grown
  rw [← filter_ents hy l h.wf]
  exact hp.filter _
end
variable {w w' : World} {N mf mb : Nat} {vi : List UInt8 → Value} {pi : Nat × Int → Addr} {Fi : Nat × Int → Nat → Prop} {st : NSt}
/- One bin turned, in place. -/
def binTo (l : List NBin) (r : Nat × Int) (bl : List Hd) : List NBin := l.map (fun b => if b.1 = r then (b.1, bl) else b)
theorem binTo_key (r : Nat × Int) (bl : List Hd) (b : NBin) : (if b.1 = r then (b.1, bl) else b).1 = b.1 := by split <;> rfl
theorem NAt.bin1 {r : Nat × Int} {bl bl' : List Hd} {F' : Nat → Prop} (h : NAt w N mf mb vi pi Fi st) (hm : (r, bl) ∈ st.bins) (ho : Off (Fi r) w w') (hq : PBin0 w' (pi r) F' bl') (hF : ∀ k, F' k → Fi r k ∨ w.heap.size ≤ k) :
    NAt w' N mf mb vi pi (fun x => if x = r then F' else Fi x) ⟨st.files, binTo st.bins r bl'⟩ := by
  obtain ⟨a1, a2, a3⟩ := h.apart _ hm
  have hFl : ∀ k, F' k → k < w.heap.size → Fi r k := fun k hk hl => (hF k hk).resolve_right (by omega)
  refine ⟨ho.blk h.blk a1, h.files.moved (ho.block mf h.files.lt a2), ?_, fun f hf => (h.ids f hf).off ho (fun hi k hk => (h.rows f hf hi k hk).2.2.2.2 _ hm), fun f hf hi k hk => ?_, fun b hb => ?_, h.ne, fun b hb => ?_, fun b hb c hc hne k => ?_⟩
  · have e : (binTo st.bins r bl').map (fun b => (b.1, some (pi b.1))) = st.bins.map (fun b => (b.1, some (pi b.1))) := by
      unfold binTo
      rw [List.map_map]
      refine List.map_congr_left fun b _ => ?_
      simp only [Function.comp, binTo_key]
    rw [e]
    exact h.bins.moved (ho.block mb h.bins.lt a3)
  · obtain ⟨h1, h2, h3, h4, h5⟩ := h.rows f hf hi k hk
    refine ⟨Nat.lt_of_lt_of_le h1 ho.size, h2, h3, h4, fun b hb => ?_⟩
    obtain ⟨c, hc, rfl⟩ := List.mem_map.1 hb
    rw [binTo_key]
    by_cases e : c.1 = r
    · simp only [if_pos e]
      exact fun hk' => h5 _ hm (hFl k hk' h1)
    · simp only [if_neg e]
      exact h5 c hc
  · obtain ⟨c, hc, rfl⟩ := List.mem_map.1 hb
    by_cases e : c.1 = r
    · simp only [if_pos e]
      rw [e]
      exact hq
    · simp only [if_neg e]
      exact (h.bin c hc).off ho (fun k hk hr => h.two c hc _ hm e k hk hr)
  · obtain ⟨c, hc, rfl⟩ := List.mem_map.1 hb
    rw [binTo_key]
    by_cases e : c.1 = r
    · simp only [if_pos e]
      exact ⟨fun hk => a1 (hFl _ hk h.blk.lt), fun hk => a2 (hFl _ hk h.files.lt), fun hk => a3 (hFl _ hk h.bins.lt)⟩
    · simp only [if_neg e]
      exact h.apart c hc
  · obtain ⟨b', hb', rfl⟩ := List.mem_map.1 hb
    obtain ⟨c', hc', rfl⟩ := List.mem_map.1 hc
    rw [binTo_key, binTo_key] at *
    by_cases e : b'.1 = r
    · by_cases e2 : c'.1 = r
      · exact absurd (e.trans e2.symm) hne
      · simp only [if_pos e, if_neg e2]
        exact fun hk hc2 => h.two c' hc' _ hm e2 k hc2 (hFl k hk ((h.bin c' hc').lt k hc2))
    · by_cases e2 : c'.1 = r
      · simp only [if_neg e, if_pos e2]
        exact fun hk hc2 => h.two b' hb' _ hm e k hk (hFl k hc2 ((h.bin b' hb').lt k hk))
      · simp only [if_neg e, if_neg e2]
        exact h.two b' hb' c' hc' hne k
theorem nFoot_bin1 {r : Nat × Int} {bl bl' : List Hd} {F' : Nat → Prop} {s : Nat} (hm : (r, bl) ∈ st.bins) (hF : ∀ k, F' k → Fi r k ∨ s ≤ k) {k : Nat} (h : nFoot N mf mb vi (fun x => if x = r then F' else Fi x) ⟨st.files, binTo st.bins r bl'⟩ k) : nFoot N mf mb vi Fi st k ∨ s ≤ k := by
  rcases h with e | e | e | ⟨b, hb, hk⟩ | h
  · exact .inl (.inl e)
  · exact .inl (.inr (.inl e))
  · exact .inl (.inr (.inr (.inl e)))
  · obtain ⟨c, hc, rfl⟩ := List.mem_map.1 hb
    rw [binTo_key] at hk
    by_cases e : c.1 = r
    · simp only [if_pos e] at hk
      rcases hF k hk with h | h
      · exact .inl (.inr (.inr (.inr (.inl ⟨_, hm, h⟩))))
      · exact .inr h
    · simp only [if_neg e] at hk
      exact .inl (.inr (.inr (.inr (.inl ⟨c, hc, hk⟩))))
  · exact .inl (.inr (.inr (.inr (.inr h))))
theorem NAt.unfile {nm : List UInt8} (h : NAt w N mf mb vi pi Fi st) (ho : Off (fun k => k = mf) w w') (hfiles : strRcps.Of w' mf ((st.files.map fun f => (f.1, rwOf f (vi f.1))).filter (fun h => !decide (h.1 = nm)))) :
    NAt w' N mf mb vi pi Fi ⟨st.files.filter (fun f => !decide (f.1 = nm)), st.bins⟩ := by
  obtain ⟨n1, n2, n3⟩ := h.ne
  refine ⟨ho.blk h.blk (fun e => n1 e), ?_, h.bins.moved (ho.block mb h.bins.lt (fun e => n3 e.symm)), fun f hf => ?_, fun f hf hi k hk => ?_, fun b hb => (h.bin b hb).off ho (fun k hk e => (h.apart b hb).2.1 (e ▸ hk)), h.ne, h.apart, h.two⟩
  · rw [List.filter_map] at hfiles
    exact hfiles
  · have hf' := (List.mem_filter.1 hf).1
    exact (h.ids f hf').off ho (fun hi k hk => (h.rows f hf' hi k hk).2.2.1)
  · obtain ⟨h1, h2⟩ := h.rows f (List.mem_filter.1 hf).1 hi k hk
    exact ⟨Nat.lt_of_lt_of_le h1 ho.size, h2⟩
theorem nFoot_unfile {nm : List UInt8} {k : Nat} (h : nFoot N mf mb vi Fi ⟨st.files.filter (fun f => !decide (f.1 = nm)), st.bins⟩ k) : nFoot N mf mb vi Fi st k := by
  rcases h with e | e | e | h | ⟨f, hf, h⟩
  · exact .inl e
  · exact .inr (.inl e)
  · exact .inr (.inr (.inl e))
  · exact .inr (.inr (.inr (.inl h)))
  · exact .inr (.inr (.inr (.inr ⟨f, (List.mem_filter.1 hf).1, h⟩)))
theorem NAt.unbin {r : Nat × Int} (h : NAt w N mf mb vi pi Fi st) (ho : Off (fun k => k = mb) w w') (hbins : idBins.Of w' mb ((st.bins.map fun b => (b.1, some (pi b.1))).filter (fun h => !decide (h.1 = r)))) :
    NAt w' N mf mb vi pi Fi ⟨st.files, st.bins.filter (fun b => !decide (b.1 = r))⟩ := by
  obtain ⟨n1, n2, n3⟩ := h.ne
  refine ⟨ho.blk h.blk (fun e => n2 e), h.files.moved (ho.block mf h.files.lt (fun e => n3 e)), ?_, fun f hf => (h.ids f hf).off ho (fun hi k hk => (h.rows f hf hi k hk).2.2.2.1), fun f hf hi k hk => ?_, fun b hb => ?_, h.ne, fun b hb => h.apart b (List.mem_filter.1 hb).1, fun b hb c hc => h.two b (List.mem_filter.1 hb).1 c (List.mem_filter.1 hc).1⟩
  · rw [List.filter_map] at hbins
    exact hbins
  · obtain ⟨h1, h2, h3, h4, h5⟩ := h.rows f hf hi k hk
    exact ⟨Nat.lt_of_lt_of_le h1 ho.size, h2, h3, h4, fun b hb => h5 b (List.mem_filter.1 hb).1⟩
  · have hb' := (List.mem_filter.1 hb).1
    exact (h.bin b hb').off ho (fun k hk e => (h.apart b hb').2.2 (e ▸ hk))
theorem nFoot_unbin {r : Nat × Int} {k : Nat} (h : nFoot N mf mb vi Fi ⟨st.files, st.bins.filter (fun b => !decide (b.1 = r))⟩ k) : nFoot N mf mb vi Fi st k := by
  rcases h with e | e | e | ⟨b, hb, h⟩ | h
  · exact .inl e
  · exact .inr (.inl e)
  · exact .inr (.inr (.inl e))
  · exact .inr (.inr (.inr (.inl ⟨b, (List.mem_filter.1 hb).1, h⟩)))
  · exact .inr (.inr (.inr (.inr h)))
end Go.Proofs.YtjdobbjdlighpaaGreatDoor
namespace Go.Proofs.YtjdobbjdlighpaaGreatDoor
open Go.RowKit Go.Maps

set_option maxRecDepth 100000 in
set_option maxHeartbeats 4000000 in
theorem hasFileOf_any (x : Nat × Int) (p : Addr) (F : Nat → Prop) (st : NSt) (w : World) (hlen : ∀ f ∈ st.files, (idsOf f.2).length ≤ 4000) (hP : PNode w p F st) :
    Calls Tryz.prog 92 #[.pointer (some p), idV (x.1 : Nat) x.2] w fun e w' => e = .returned (.bool (st.files.any (fun f => decide (repT f.2 = x)))) ∧ Below w.heap.size w w' := by
  obtain ⟨N, mf, mb, vi, pi, Fi, rfl, h, _⟩ := hP
  obtain ⟨xp, xl⟩ := x
  simp only
  have hal := (Below.refl w.heap.size w).alloc (Nat.le_refl _) (.cells #[.int .u32 (xp : Nat), .int .i64 xl] 40)
  have hbx := Blk.new w #[.int .u32 (xp : Nat), .int .i64 xl] 40
  have h1 := h.below hal
  have q0 := h1.blk.cell (i := 0) rfl
  have hM := h1.files
  have HH := hideN h1
  have HLEN := hideN hlen
  have HB0 := hideN hal
  have HBX := hideN hbx
  obtain ⟨L, hL⟩ : ∃ L, (st.files.map fun f => (f.1, rwOf f (vi f.1))) = L := ⟨_, rfl⟩
  have HL : Hid ((st.files.map fun f => (f.1, rwOf f (vi f.1))) = L) := hL
  rw [hL] at hM
  clear h h1 hL hlen hal hbx
  obtain ⟨RES, hRES⟩ : ∃ RES, st.files.any (fun f => decide (repT f.2 = (xp, xl))) = RES := ⟨_, rfl⟩
  have HRES := hideN hRES
  rw [hRES]
  clear hRES
  go_enter Tryz.func92, Tryz.ntmps92
  go_wp2_with (first
    | (at_range; refine wp_range_kit strRcps _ rfl _ 142 rfl 26 Tryz.underlying142 mf L rfl hM ?_; intro w0 hr0 hg0 hs0)
    | go_in)
  go_frame
  generalize w.alloc (.cells #[.int .u32 (xp : Nat), .int .i64 xl] 40) = W at *
  go_loopw [12] (fun _ wr => ∃ (left : List UInt8 → Bool) (cnt : Nat), strRcps.Rng wr mf W.heap.size L left cnt ∧ Hid (∀ f ∈ st.files, left f.1 = false → repT f.2 ≠ (xp, xl)) ∧ Hid (W.grownBy wr none)) (fun _ wr => wr.rangeLeft mf W.heap.size)
  case atStart =>
    refine ⟨_, _, hr0, fun f hf hl => ?_, hg0⟩
    have hm : f.1 ∈ L.map (·.1) := List.mem_map.2 ⟨(f.1, rwOf f (vi f.1)), by rw [← HL.out]; exact List.mem_map.2 ⟨f, hf, rfl⟩, rfl⟩
    simp only [decide_eq_false_iff_not] at hl
    exact absurd hm hl
  case round =>
    obtain ⟨left, cnt, hrg, HNO, HG⟩ := hrel
    go_wp2_with (first
      | (at_next; refine wp_next_kit strRcps _ rfl _ rfl mf W.heap.size L left cnt rfl hrg ?_ ?_)
      | go_in)
    · intro h0
      have HR0 : Hid (RES = false) := by
        show _ = _
        rw [← HRES.out, List.any_eq_false]
        intro f hf
        have := HNO.out f hf (h0 f.1 _ _ _ _ (by rw [← HL.out]; exact List.mem_map.2 ⟨f, hf, rfl⟩))
        simp [this]
      clear h0
      go_wp2_with fail
      go_ret
      exact ⟨by rw [HR0.out]; rfl, HB0.out.trans ((below_of_grown HG.out).mono HB0.out.size)⟩
    · intro fn c1 c2 c3 c4 w1 cnt1 hm hlx hrg1 hlt hg1 hs1 hen
      clear hs1
      rw [← HL.out] at hm
      obtain ⟨⟨fn', s⟩, hf, hfe⟩ := List.mem_map.1 hm
      obtain ⟨rfl, rfl, rfl, rfl, rfl⟩ : fn' = fn ∧ fn' = c1 ∧ (s.length : Int) = c2 ∧ ((pmore 2166136261 s : Nat) : Int) = c3 ∧ vi fn' = c4 := by simpa [rwOf] using hfe
      obtain ⟨pv0, cv0, hv0, _⟩ := HH.out.ids _ hf
      have HI := hideN (HH.out.ids _ hf)
      have HF := hideN hf
      have HLX := hideN hlx
      simp only at hv0 HI
      change (Instr.entry (.pointer (some ⟨W.heap.size, 0, none⟩))).run Tryz.prog w1 = .ok (.tuple #[.string ⟨fn'.toArray⟩, .agg #[.string ⟨fn'.toArray⟩, .int .i64 (s.length : Int), .int .u32 ((pmore 2166136261 s : Nat) : Int), vi fn']]) w1 at hen
      rw [hv0] at hen HI
      have HLS := hideN (HLEN.out _ hf)
      simp only at HLS
      obtain ⟨P, hPP⟩ : ∃ P, pmore 2166136261 s = P := ⟨_, rfl⟩
      obtain ⟨LL, hLL⟩ : ∃ LL, (s.length : Int) = LL := ⟨_, rfl⟩
      obtain ⟨idl, hidl⟩ : ∃ idl, (idsOf s).length = idl := ⟨_, rfl⟩
      obtain ⟨⟨rp, rl⟩, hrep⟩ : ∃ r, repT s = r := ⟨_, rfl⟩
      obtain ⟨FN, hFN⟩ : ∃ FN : ByteArray, (⟨fn'.toArray⟩ : ByteArray) = FN := ⟨_, rfl⟩
      have HID := hideN hidl
      have HRP := hideN hrep
      have HREP := hideN (fun W (hv : IdsAt W (.slice pv0 idl cv0) (idsOf s)) => rep_any FN LL (P : Int) (.slice pv0 idl cv0) (idsOf s) W hv (by have := HLS.out; unfold maxLen; omega))
      change Hid (∀ W, _ → Calls _ _ _ W fun e w' => e = .returned (idV ((repT s).1 : Nat) (repT s).2) ∧ _) at HREP
      rw [hrep] at HREP
      simp only at HREP
      rw [hPP, hLL, hidl, hFN] at hen
      rw [hidl] at HI
      have HG1 : Hid (W.grownBy w1 none) := HG.out.andThen hg1 (fun j hj => by cases hj; exact .inl (Nat.le_refl _))
      clear hfe hv0 hPP hLL hidl hrep hFN hf hm hlx
      have hal := (Below.refl w1.heap.size w1).alloc (Nat.le_refl _) (.cells #[.string FN, .int .i64 LL, .int .u32 (P : Nat), .slice pv0 idl cv0] 26)
      have hbr := Blk.new w1 #[.string FN, .int .i64 LL, .int .u32 (P : Nat), .slice pv0 idl cv0] 26
      have hB1 := below_of_grown HG1.out
      have HI1 := hideN ((HI.out.below hB1).below hal)
      have HBX1 := hideN ((HBX.out.next hB1).next hal)
      have hrg2 := hrg1.kept (grown_of_below hal) (by simp) (by simp)
      have HG2 : Hid (W.grownBy _ none) := hideN (HG1.out.andThen (grown_of_below hal) (fun j hj => by cases hj))
      have hc : (rp = xp ∧ rl = xl) ∨ ((rp : Int) == (xp : Int)) = false ∨ (((rp : Int) == (xp : Int)) = true ∧ (rl == xl) = false) := by
        by_cases h : rp = xp
        · by_cases h2 : rl = xl
          · exact .inl ⟨h, h2⟩
          · exact .inr (.inr ⟨by rw [beq_iff_eq]; omega, by rw [beq_eq_false_iff_ne]; exact h2⟩)
        · exact .inr (.inl (by rw [beq_eq_false_iff_ne]; omega))
      have HNEW : Hid ((rp, rl) ≠ (xp, xl) → ∀ f ∈ st.files, (left f.1 && !decide (f.1 = fn')) = false → repT f.2 ≠ (xp, xl)) := fun hne f hf hl => by
        by_cases e : f.1 = fn'
        · have hap : st.files.Pairwise (fun p q => p.1 ≠ q.1) := by
            have := HH.out.files.apart
            rw [List.pairwise_map] at this
            exact this
          obtain ⟨f1, f2⟩ := f
          simp only at e
          subst e
          have h1 := nFile_of_mem hap hf
          rw [nFile_of_mem hap HF.out] at h1
          rw [← Option.some.inj h1, HRP.out]
          exact hne
        · exact HNO.out f hf (by simpa [e] using hl)
      have HCE : Hid (∀ W', Blk W' w1.heap.size #[.string FN, .int .i64 LL, .int .u32 (P : Nat), .slice pv0 idl cv0] 26 → Blk W' w.heap.size #[.int .u32 (xp : Nat), .int .i64 xl] 40 → W'.cell? ⟨w1.heap.size, 0, none⟩ = some (.string FN) ∧ W'.cell? ⟨w1.heap.size, 1, none⟩ = some (.int .i64 LL) ∧ W'.cell? ⟨w1.heap.size, 2, none⟩ = some (.int .u32 (P : Nat)) ∧ W'.cell? ⟨w1.heap.size, 3, none⟩ = some (.slice pv0 idl cv0) ∧ W'.cell? ⟨w.heap.size, 0, none⟩ = some (.int .u32 (xp : Nat)) ∧ W'.cell? ⟨w.heap.size, 1, none⟩ = some (.int .i64 xl)) := fun W' h1 h2 => ⟨h1.cell (i := 0) rfl, h1.cell (i := 1) rfl, h1.cell (i := 2) rfl, h1.cell (i := 3) rfl, h2.cell (i := 0) rfl, h2.cell (i := 1) rfl⟩
      have HBR := hideN hbr
      have HTRUE : Hid ((rp, rl) = (xp, xl) → RES = true) := fun e => by
        rw [← HRES.out, List.any_eq_true]
        exact ⟨_, HF.out, by simp only; rw [HRP.out, e]; simp⟩
      clear hal hbr hB1 HI HBX HF
      go_wp2_with fail
      generalize w1.alloc (.cells #[.string FN, .int .i64 LL, .int .u32 (P : Nat), .slice pv0 idl cv0] 26) = W2 at *
      generalize w1.heap.size = RB at *
      obtain ⟨z0, z1, z2, z3, z4, z5⟩ := HCE.out _ HBR.out HBX1.out
      rcases hc with ⟨rfl, rfl⟩ | hc | ⟨hc, hd⟩
      · go_region_held3 (fun w' => w'.cell? ⟨RB, 0, none⟩ = some (.string FN) ∧ w'.cell? ⟨RB, 1, none⟩ = some (.int .i64 LL) ∧ w'.cell? ⟨RB, 2, none⟩ = some (.int .u32 (P : Nat)) ∧ w'.cell? ⟨RB, 3, none⟩ = some (.slice pv0 idl cv0) ∧ w'.cell? ⟨w.heap.size, 0, none⟩ = some (.int .u32 (rp : Nat)) ∧ w'.cell? ⟨w.heap.size, 1, none⟩ = some (.int .i64 rl)) (first | exact HCE.out _ HBR3.out HBX3.out | go_keep) (first
          | (go_at_call 15; refine (HREP.out _ (HI1.out.below (Below.refl _ W2).drew)).mono ?_; rintro e w3 ⟨rfl, hb3⟩; have hB3 : Below W2.heap.size W2 w3 := (Below.refl _ W2).drew.trans hb3; have HBR3 := hideN (HBR.out.next hB3); have HBX3 := hideN (HBX1.out.next hB3); have HG3 : Hid (W.grownBy w3 none) := HG2.out.andThen (grown_of_below hB3) (fun j hj => by cases hj); clear hb3 hB3))
        go_wp2_with fail
        go_ret
        exact ⟨by rw [HTRUE.out (by trivial)]; rfl, HB0.out.trans ((below_of_grown HG3.out).mono HB0.out.size)⟩
      all_goals
        go_region_held3 (fun w' => w'.cell? ⟨RB, 0, none⟩ = some (.string FN) ∧ w'.cell? ⟨RB, 1, none⟩ = some (.int .i64 LL) ∧ w'.cell? ⟨RB, 2, none⟩ = some (.int .u32 (P : Nat)) ∧ w'.cell? ⟨RB, 3, none⟩ = some (.slice pv0 idl cv0) ∧ w'.cell? ⟨w.heap.size, 0, none⟩ = some (.int .u32 (xp : Nat)) ∧ w'.cell? ⟨w.heap.size, 1, none⟩ = some (.int .i64 xl)) (first | exact HCE.out _ HBR3.out HBX3.out | go_keep) (first
          | (go_at_call 15; refine (HREP.out _ (HI1.out.below (Below.refl _ W2).drew)).mono ?_; rintro e w3 ⟨rfl, hb3⟩; have hB3 : Below W2.heap.size W2 w3 := (Below.refl _ W2).drew.trans hb3; have HBR3 := hideN (HBR.out.next hB3); have HBX3 := hideN (HBX1.out.next hB3); have HG3 : Hid (W.grownBy w3 none) := HG2.out.andThen (grown_of_below hB3) (fun j hj => by cases hj); have hrg3 := hrg2.kept (grown_of_below hB3) (by simp) (by simp); clear hb3 hB3))
        have HNE : Hid ((rp, rl) ≠ (xp, xl)) := fun e => by
          obtain ⟨e1, e2⟩ := Prod.mk.inj e
          subst e1 e2
          simp at *
        go_wp2_with fail
        go_roundw
        case rel => exact ⟨_, cnt1, hrg3, HNEW.out HNE.out, HG3.out⟩
        case measure => rw [hrg3.left_eq, hrg.left_eq]; exact hlt
end Go.Proofs.YtjdobbjdlighpaaGreatDoor
namespace Go.Proofs.YtjdobbjdlighpaaGreatDoor
open Go.RowKit Go.Maps

theorem MapKit.Of.drop {P : Program} {k : TypeId} {κ β : Type} {M : MapKit P k κ β} [DecidableEq κ] {w : World} {b : Nat} {l : List (κ × β)} {t e : TypeId} (h : M.Of w b l) (ht : P.underlying t = some (.map k e)) {x : κ} (hx : M.wf x) :
    ∃ w', (∀ ty, (Builtin.delete_ #[t, k] ty #[.map (some b), M.mkK x]).run P w = .ok (.tuple #[]) w') ∧ M.Of w' b (l.filter (fun h => !decide (h.1 = x))) ∧ w.grownBy w' (some b) := by
  obtain ⟨ds, ho, hp⟩ := h.own
  obtain ⟨w', hrun, ho', hturn⟩ := ho.drop M.K ht (M.key_kl hx) 0
  refine ⟨w', fun ty => hrun, ⟨⟨_, ownsMap_tight ho', ?_⟩, fun z hz => h.wf z (List.mem_filter.1 hz).1⟩, hturn.grown⟩
  rw [← filter_ents hx l h.wf]
  exact hp.filter _
theorem nDrop_none {st : NSt} {nm : List UInt8} (h : nFile st.files nm = none) : nDrop st nm = (5, st) := by unfold nDrop; rw [h]
theorem nDrop_last {st : NSt} {nm s : List UInt8} (h : nFile st.files nm = some s) (ha : (st.files.filter (fun f => !decide (f.1 = nm))).any (fun f => decide (repT f.2 = repT s)) = false) : nDrop st nm = (0, ⟨st.files.filter (fun f => !decide (f.1 = nm)), st.bins.filter (fun b => !decide (b.1 = repT s))⟩) := by
  unfold nDrop
  rw [h]
  simp only
  rw [if_neg (by rw [ha]; simp)]
theorem nDrop_more {st : NSt} {nm s : List UInt8} {l : List Hd} (h : nFile st.files nm = some s) (hap : st.bins.Pairwise (fun f g => f.1 ≠ g.1)) (hm : (repT s, l) ∈ st.bins) (ha : (st.files.filter (fun f => !decide (f.1 = nm))).any (fun f => decide (repT f.2 = repT s)) = true) : nDrop st nm = (0, ⟨st.files.filter (fun f => !decide (f.1 = nm)), binTo st.bins (repT s) (dropAll l (idsOf s))⟩) := by
  unfold nDrop
  rw [h]
  simp only
  rw [if_pos ha]
  have e : st.bins.map (fun b => if b.1 = repT s then (b.1, dropAll b.2 (idsOf s)) else b) = binTo st.bins (repT s) (dropAll l (idsOf s)) := List.map_congr_left fun b hb => by
    by_cases e : b.1 = repT s
    · obtain ⟨b1, b2⟩ := b
      simp only at e
      subst e
      have h1 := nBin_of_mem hap hb
      rw [nBin_of_mem hap hm] at h1
      rw [Option.some.inj h1]
    · simp only [if_neg e]
  rw [e]
def NDropPost (a : Nat → Addr) (w : World) (p : Addr) (F : Nat → Prop) (r : Int × NSt) (e : Ending) (w' : World) : Prop :=
  ∃ ev F', e = .returned ev ∧ ErrIn w.heap.size w' a ev (r.1, -1) ∧ PNode w' p F' r.2 ∧ (∀ k, F' k → F k ∨ w.heap.size ≤ k) ∧ Off F w w'
set_option maxRecDepth 100000 in
set_option maxHeartbeats 8000000 in
theorem nodeDrop_any (a : Nat → Addr) (nm : ByteArray) (p : Addr) (F : Nat → Prop) (st : NSt) (w : World) (hnm : nm.size ≤ 50000) (hok : ∀ b ∈ st.bins, BinOk 1000000 b.2) (hfl : ∀ f ∈ st.files, f.2.length ≤ 4000) (hhas : ∀ f ∈ st.files, ∃ l, (repT f.2, l) ∈ st.bins) (hE : ErrE [4, 10] w a) (hG : ∀ i, ([4, 10] : List Nat).contains i = true → ¬ F (errG i)) (hP : PNode w p F st) :
    Calls Tryz.prog 48 #[.pointer (some p), .string nm] w (NDropPost a w p F (nDrop st nm.data.toList)) := by
  have HP := hideN hP
  have HEO : Hid (∀ W, Off F w W → ErrE [4, 10] W a) := fun W ho => hE.off ho hG
  have HOK := hideN hok
  have HLEN : Hid (∀ f ∈ st.files, (idsOf f.2).length ≤ 4000) := fun f hf => by
    have h1 := pieces_len_le f.2
    have h2 := hfl f hf
    unfold idsOf
    rw [List.length_map]
    omega
  obtain ⟨N, mf, mb, vi, pi, Fi, rfl, h, hFe⟩ := hP
  have HH := hideN h
  have HFE := hideN hFe
  have q0 := h.blk.cell (i := 0) rfl
  have hnw : WfNm nm.data.toList := by show nm.data.toList.length ≤ maxLen; rw [Array.length_toList]; show nm.size ≤ maxLen; unfold maxLen; omega
  have hnmE : (⟨nm.data.toList.toArray⟩ : ByteArray) = nm := by simp
  obtain ⟨RES, hRES⟩ : ∃ RES, nDrop st nm.data.toList = RES := ⟨_, rfl⟩
  have HRES := hideN hRES
  rw [hRES]
  clear hRES hok hfl hE hG hFe
  cases hf : nFile st.files nm.data.toList with
  | none =>
    have HR : Hid (RES = (5, st)) := HRES.out.symm.trans (nDrop_none hf)
    have l0 : (Instr.lookup 142 (.map (some mf)) (.string nm) true).run Tryz.prog w = .ok (.tuple #[.agg #[.string ⟨#[]⟩, .int .i64 0, .int .u32 0, .slice none 0 0], .bool false]) w := by
      have := h.files.look_none Tryz.underlying142 (rcpZero _) hnw (fun y hy => by
        obtain ⟨f, hfm, rfl⟩ := List.mem_map.1 hy
        exact nFile_none hf f hfm)
      change (Instr.lookup _ _ (.string ⟨nm.data.toList.toArray⟩) true).run _ _ = _ at this
      rw [hnmE] at this
      exact this
    have hal := (Below.refl w.heap.size w).alloc (Nat.le_refl _) (.cells #[.string ⟨#[]⟩, .int .i64 0, .int .u32 0, .slice none 0 0] 26)
    have HB := hideN hal
    have g4 := (HEO.out _ (Off.of_below hal)).glob 4 rfl
    change World.cell? _ ⟨8, 0, none⟩ = _ at g4
    clear h hf hnmE hal
    go_enter Tryz.func48, Tryz.ntmps48
    go_wp2_with fail
    go_ret
    refine ⟨_, F, rfl, ?_, ?_, fun k hk => .inl hk, Off.of_below HB.out⟩
    · rw [HR.out]
      exact .inr (.inl ⟨4, by decide, rfl, rfl⟩)
    · rw [HR.out]
      exact HP.out.below HB.out
  | some s =>
    obtain ⟨pv0, cv0, hv0, _⟩ := h.ids _ (nFile_some hf)
    have HMEM := hideN (nFile_some hf)
    have HI := hideN (h.ids _ (nFile_some hf))
    have HROW := hideN (h.rows _ (nFile_some hf))
    have HLS := hideN (HLEN.out _ (nFile_some hf))
    have HF := hideN hf
    obtain ⟨bl0, hbl0⟩ := hhas _ (nFile_some hf)
    have hapB : st.bins.Pairwise (fun p q => p.1 ≠ q.1) := by
      have := h.bins.apart
      rw [List.pairwise_map] at this
      exact this
    have HAPB := hideN hapB
    simp only at hv0 HI HROW HLS hbl0
    have l0 : (Instr.lookup 142 (.map (some mf)) (.string nm) true).run Tryz.prog w = .ok (.tuple #[.agg #[.string nm, .int .i64 (s.length : Int), .int .u32 ((pmore 2166136261 s : Nat) : Int), .slice pv0 (idsOf s).length cv0], .bool true]) w := by
      have := h.files.look_some Tryz.underlying142 (rcpZero _) (List.mem_map.2 ⟨_, nFile_some hf, rfl⟩)
      change (Instr.lookup _ _ (.string ⟨nm.data.toList.toArray⟩) true).run _ _ = .ok (.tuple #[rcpV ⟨nm.data.toList.toArray⟩ (s.length : Int) ((pmore 2166136261 s : Nat) : Int) (vi nm.data.toList), .bool true]) _ at this
      rw [hnmE, hv0] at this
      exact this
    rw [hv0] at HI HROW
    obtain ⟨P, hPP⟩ : ∃ P, pmore 2166136261 s = P := ⟨_, rfl⟩
    obtain ⟨LL, hLL⟩ : ∃ LL, (s.length : Int) = LL := ⟨_, rfl⟩
    obtain ⟨idl, hidl⟩ : ∃ idl, (idsOf s).length = idl := ⟨_, rfl⟩
    obtain ⟨⟨rp, rl⟩, hrep⟩ : ∃ r, repT s = r := ⟨_, rfl⟩
    have HID := hideN hidl
    have HRP := hideN hrep
    have HWR := hideN (repT_wf s)
    have HREP := hideN (fun W (hv : IdsAt W (.slice pv0 idl cv0) (idsOf s)) => rep_any nm LL (P : Int) (.slice pv0 idl cv0) (idsOf s) W hv (by have := HLS.out; unfold maxLen; omega))
    change Hid (∀ W, _ → Calls _ _ _ W fun e w' => e = .returned (idV ((repT s).1 : Nat) (repT s).2) ∧ _) at HREP
    rw [hrep] at HREP HWR hbl0
    simp only at HREP
    have HBL0 := hideN hbl0
    rw [hPP, hLL, hidl] at l0
    rw [hidl] at HI HROW HLS
    have hal := (Below.refl w.heap.size w).alloc (Nat.le_refl _) (.cells #[.string nm, .int .i64 LL, .int .u32 (P : Nat), .slice pv0 idl cv0] 26)
    have hbr := Blk.new w #[.string nm, .int .i64 LL, .int .u32 (P : Nat), .slice pv0 idl cv0] 26
    have h1 := h.below hal
    have q1 := h1.blk.cell (i := 0) rfl
    obtain ⟨w2, hdel, hof2, hg2⟩ := h1.files.drop Tryz.underlying142 hnw
    change ∀ ty, (Builtin.delete_ _ ty #[.map (some mf), .string ⟨nm.data.toList.toArray⟩]).run _ _ = _ at hdel
    rw [hnmE] at hdel
    have ho2 : Off (fun k => k = mf) (w.alloc (.cells #[.string nm, .int .i64 LL, .int .u32 (P : Nat), .slice pv0 idl cv0] 26)) w2 := off_of_grown hg2 rfl
    have HN2 := hideN (h1.unfile ho2 hof2)
    have hmfl : mf < w.heap.size := h.files.lt
    have HBR2 := hideN (ho2.blk hbr (fun e => by omega))
    have HI2 := hideN ((HI.out.below hal).off ho2 (fun hne k hk e => (HROW.out hne k hk).2.2.1 e))
    have HO2 : Hid (Off F w w2) := (Off.of_below hal).trans ho2 (fun k hk e => by rw [HFE.out, e]; exact .inr (.inl rfl))
    have HSZ2 : Hid (w.heap.size < w2.heap.size) := Nat.lt_of_lt_of_le hbr.lt ho2.size
    have b0 := HBR2.out.cell (i := 0) rfl
    have b1 := HBR2.out.cell (i := 1) rfl
    have b2 := HBR2.out.cell (i := 2) rfl
    have b3 := HBR2.out.cell (i := 3) rfl
    clear h hf hhas hv0 hPP hLL hidl hrep hbl0 hal hbr h1 hof2 hg2 ho2 hnmE
    go_enter Tryz.func48, Tryz.ntmps48
    go_wp2_with fail
    refine (HREP.out w2 HI2.out).mono ?_
    rintro e w3 ⟨rfl, hb3⟩
    have hal3 := (Below.refl w3.heap.size w3).alloc (Nat.le_refl _) (.cells #[.int .u32 (rp : Nat), .int .i64 rl] 40)
    have HBI4 := hideN (Blk.new w3 #[.int .u32 (rp : Nat), .int .i64 rl] 40)
    have HN4 := hideN ((HN2.out.below hb3).below hal3)
    have HBR4 := hideN ((HBR2.out.next hb3).next hal3)
    have HI4 := hideN ((HI2.out.below hb3).below hal3)
    have HO4 : Hid (Off F w _) := hideN ((HO2.out.trans (Off.of_below (F := fun _ => False) hb3) (fun _ _ h => h.elim)).trans (Off.of_below (F := fun _ => False) hal3) (fun _ _ h => h.elim))
    have HSZ3 : Hid (w.heap.size < w3.heap.size) := Nat.lt_of_lt_of_le HSZ2.out hb3.size
    have i0 := HBI4.out.cell (i := 0) rfl
    have i1 := HBI4.out.cell (i := 1) rfl
    clear b0 b1 b2 b3 hal3 hb3 HN2 HBR2 HI2 HO2 HREP l0 hdel q0 q1
    obtain ⟨FS, hFS⟩ : ∃ FS, st.files.filter (fun f => !decide (f.1 = nm.data.toList)) = FS := ⟨_, rfl⟩
    have HFS := hideN hFS
    rw [hFS] at HN4
    obtain ⟨AN, hAN⟩ : ∃ AN, FS.any (fun f => decide (repT f.2 = (rp, rl))) = AN := ⟨_, rfl⟩
    have HAN := hideN hAN
    clear hFS hAN
    go_wp2_with fail
    generalize w3.alloc (.cells #[.int .u32 (rp : Nat), .int .i64 rl] 40) = W4 at *
    generalize w3.heap.size = IB at *
    have HHAS := hideN (hasFileOf_any (rp, rl) ⟨N, 0, none⟩ (nFoot N mf mb vi Fi ⟨FS, st.bins⟩) ⟨FS, st.bins⟩ W4 (fun f hf => by rw [← HFS.out] at hf; exact HLEN.out f (List.mem_filter.1 hf).1) ⟨N, mf, mb, vi, pi, Fi, rfl, HN4.out, rfl⟩)
    simp only at HHAS
    rw [HAN.out] at HHAS
    refine HHAS.out.mono ?_
    rintro e w5 ⟨rfl, hb5⟩
    have HN5 := hideN (HN4.out.below hb5)
    have HBR5 := hideN (HBR4.out.next hb5)
    have HI5 := hideN (HI4.out.below hb5)
    have HBI5 := hideN (HBI4.out.next hb5)
    have HO5 : Hid (Off F w w5) := HO4.out.trans (Off.of_below (F := fun _ => False) hb5) (fun _ _ h => h.elim)
    clear i0 i1 hb5 HN4 HBR4 HI4 HBI4 HO4 HHAS
    have i0 := HBI5.out.cell (i := 0) rfl
    have i1 := HBI5.out.cell (i := 1) rfl
    have q1 := HN5.out.blk.cell (i := 1) rfl
    have b3 := HBR5.out.cell (i := 3) rfl
    have HLF : Hid (∀ k, nFoot N mf mb vi Fi st k → k < w.heap.size) := HH.out.lt
    have HSUB : Hid (∀ k, nFoot N mf mb vi Fi ⟨FS, st.bins⟩ k → F k) := fun k hk => by rw [HFE.out]; rw [← HFS.out] at hk; exact nFoot_unfile hk
    cases AN with
    | false =>
      have HR : Hid (RES = (0, ⟨FS, st.bins.filter (fun b => !decide (b.1 = (rp, rl)))⟩)) := by
        show _ = _
        rw [← HRES.out, nDrop_last HF.out (by rw [HFS.out, HRP.out]; exact HAN.out), HFS.out, HRP.out]
      obtain ⟨w6, hdel6, hof6, hg6⟩ := (ofB_drew HN5.out.bins).drop Tryz.underlying143 HWR.out
      change ∀ ty, (Builtin.delete_ _ ty #[.map (some mb), idV (rp : Nat) rl]).run _ _ = _ at hdel6
      have ho6 : Off (fun k => k = mb) w5 w6 := off_of_grown (grown_drew hg6) rfl
      have HN6 := hideN (HN5.out.unbin ho6 hof6)
      have HO6 : Hid (Off F w w6) := HO5.out.trans ho6 (fun k _ e => by rw [HFE.out, e]; exact .inr (.inr (.inl rfl)))
      clear hof6 hg6 ho6
      go_wp2_with fail
      go_region
      all_goals
        go_wp2_with fail
        go_ret
        refine ⟨.nilIface, nFoot N mf mb vi Fi ⟨FS, st.bins.filter (fun b => !decide (b.1 = (rp, rl)))⟩, rfl, ?_, ?_, fun k hk => .inl (HSUB.out k (nFoot_unbin (st := ⟨FS, st.bins⟩) hk)), HO6.out⟩
        · rw [HR.out]
          exact .inl ⟨rfl, rfl⟩
        · rw [HR.out]
          exact ⟨N, mf, mb, vi, pi, Fi, rfl, HN6.out, rfl⟩
    | true =>
      obtain ⟨RR, hRR⟩ : ∃ RR, dropAll bl0 (idsOf s) = RR := ⟨_, rfl⟩
      have HRR := hideN hRR
      have HR : Hid (RES = (0, ⟨FS, binTo st.bins (rp, rl) RR⟩)) := by
        show _ = _
        rw [← HRES.out, nDrop_more HF.out HAPB.out (by rw [HRP.out]; exact HBL0.out) (by rw [HFS.out, HRP.out]; exact HAN.out), HFS.out, HRP.out, HRR.out]
      have HPB := hideN (HN5.out.bin _ HBL0.out)
      obtain ⟨q, hq⟩ : ∃ q, pi (rp, rl) = q := ⟨_, rfl⟩
      have HQ := hideN hq
      simp only at HPB
      rw [hq] at HPB
      have HAPF := hideN (HN5.out.apart _ HBL0.out)
      simp only at HAPF
      have HOK0 := hideN (HOK.out _ HBL0.out)
      have HFR : Hid (∀ k, Fi (rp, rl) k → k < w.heap.size ∧ F k) := fun k hk => by
        have h1 : nFoot N mf mb vi Fi st k := .inr (.inr (.inr (.inl ⟨_, HBL0.out, hk⟩)))
        exact ⟨HLF.out k h1, by rw [HFE.out]; exact h1⟩
      have hidl4 : (idl : Int) ≤ 4000 := by have := HLS.out; omega
      have HPL : Hid ((pieces s).length = idl) := by
        show _ = _
        rw [← HID.out]
        unfold idsOf
        rw [List.length_map]
      clear hRR hq HRES HAN
      go_wp2_with fail
      clear i0 i1 q1 b3
      go_loopw [41] (fun iv wr => ∃ (k : Nat) (bl : List Hd) (Fj : Nat → Prop), k ≤ idl ∧ iv = .int .i64 k ∧ Hid (dropAll bl ((idsOf s).drop k) = RR) ∧ Hid (BinOk 1000000 bl) ∧ Hid (PBin0 wr q Fj bl) ∧ Hid (∀ j, Fj j → Fi (rp, rl) j ∨ w5.heap.size ≤ j) ∧ Hid (Off (Fi (rp, rl)) w5 wr)) (fun iv _ => idl - (intOf iv).toNat)
      case atStart => exact ⟨0, bl0, Fi (rp, rl), Nat.zero_le _, rfl, by rw [List.drop_zero]; exact HRR.out, HOK0.out, HPB.out, fun j hj => .inl hj, Off.refl _ _⟩
      case round =>
        clear HRR HOK0 HPB
        obtain ⟨k, bl, Fj, hk, rfl, HRD, HOKB, HPB, HFJ, HO⟩ := hrel
        by_cases hlt : k < idl
        · have hlt' : (k : Int) < (idl : Int) := by omega
          have hk0 : (0 : Int) ≤ (k : Int) := by omega
          have hIr := HI5.out.off HO.out (fun hne j hj hf => (HROW.out hne j hj).2.2.2.2 _ HBL0.out hf)
          obtain ⟨pq, cq, hve, hcell⟩ := hIr
          obtain ⟨b, o, hpq, hbl, c0, c1⟩ := hcell k (by rw [HID.out]; exact hlt)
          obtain ⟨rfl, rfl⟩ : pv0 = pq ∧ cv0 = cq := by have := hve; simp at this; exact ⟨this.1, this.2.2⟩
          subst hpq
          have hkp : k < (pieces s).length := by rw [HPL.out]; exact hlt
          obtain ⟨t, ht⟩ : ∃ t, (pieces s)[k] = t := ⟨_, rfl⟩
          have hid : (idsOf s)[k]'(by rw [HID.out]; exact hlt) = (pmore 2166136261 t, (t.length : Int)) := by
            unfold idsOf
            rw [List.getElem_map, ht]
          rw [hid] at c0 c1
          simp only at c0 c1
          have HTL := hideN (piece_le (s := s) (q := t) (by rw [← ht]; exact List.getElem_mem hkp))
          have hdr : (idsOf s).drop k = (idsOf s)[k]'(by rw [HID.out]; exact hlt) :: (idsOf s).drop (k + 1) := List.drop_eq_getElem_cons (by rw [HID.out]; exact hlt)
          rw [hdr, hid, dropAll] at HRD
          obtain ⟨xp, hxp⟩ : ∃ xp, pmore 2166136261 t = xp := ⟨_, rfl⟩
          obtain ⟨xl, hxl⟩ : ∃ xl, (t.length : Int) = xl := ⟨_, rfl⟩
          have HXW : Hid (WfID (xp, xl)) := ⟨by rw [← hxp]; exact pmore_lt _ (by decide) _, by rw [← hxl]; simp only; omega, by rw [← hxl]; have := HTL.out; simp only; omega⟩
          rw [hxp] at c0 HRD
          rw [hxl] at c1 HRD
          clear hcell hve hid ht hkp hxp hxl hdr hbl
          have hal4 := (Below.refl wr.heap.size wr).alloc (Nat.le_refl _) (.cells #[.int .u32 (xp : Nat), .int .i64 xl] 40)
          have HBJ := hideN (Blk.new wr #[.int .u32 (xp : Nat), .int .i64 xl] 40)
          have HPB4 := hideN (HPB.out.off (Off.of_below (F := fun _ => False) hal4) (fun _ _ h => h))
          have HO4 : Hid (Off (Fi (rp, rl)) w5 _) := hideN (HO.out.trans (Off.of_below (F := fun _ => False) hal4) (fun _ _ h => h.elim))
          have HSZO := hideN HO.out.size
          have HJN0 : Hid (¬ Fj wr.heap.size) := fun hf => by have := HPB.out.lt _ hf; omega
          clear hal4
          go_wp2_with fail
          generalize wr.alloc (.cells #[.int .u32 (xp : Nat), .int .i64 xl] 40) = W at *
          have HJB : Hid (w5.heap.size ≤ wr.heap.size) := HSZO.out
          generalize wr.heap.size = JB at *
          have HJN : Hid (¬ Fj JB) := HJN0.out
          have HIBL : Hid (w.heap.size < IB) := HSZ3.out
          have HCE : Hid (∀ W', Off (Fi (rp, rl)) w5 W' → Blk W' JB #[.int .u32 (xp : Nat), .int .i64 xl] 40 → (W'.cell? ⟨N, 1, none⟩ = some (.map (some mb)) ∧ W'.cell? ⟨IB, 0, none⟩ = some (.int .u32 (rp : Nat)) ∧ W'.cell? ⟨IB, 1, none⟩ = some (.int .i64 rl) ∧ W'.cell? ⟨JB, 0, none⟩ = some (.int .u32 (xp : Nat)) ∧ W'.cell? ⟨JB, 1, none⟩ = some (.int .i64 xl))) := fun W' h1 h2 => by
            have hN := h1.blk HN5.out.blk HAPF.out.1
            have hI := h1.blk HBI5.out (fun hf => by have := (HFR.out _ hf).1; have := HIBL.out; omega)
            exact ⟨hN.cell (i := 1) rfl, hI.cell (i := 0) rfl, hI.cell (i := 1) rfl, h2.cell (i := 0) rfl, h2.cell (i := 1) rfl⟩
          have HLK : Hid (∀ W', Off (Fi (rp, rl)) w5 W' → (Instr.lookup 143 (.map (some mb)) (idV (rp : Nat) rl) false).run Tryz.prog W' = .ok (.pointer (some q)) W') := fun W' h1 => by
            have := look1 (HN5.out.bins.moved (h1.block mb HN5.out.bins.lt HAPF.out.2.2)) Tryz.underlying143 (ptrZero W') (List.mem_map.2 ⟨_, HBL0.out, rfl⟩)
            change (Instr.lookup 143 (.map (some mb)) (idV (rp : Nat) rl) false).run Tryz.prog W' = .ok (.pointer (some (pi (rp, rl)))) W' at this
            rw [HQ.out] at this
            exact this
          have hod : Off (Fi (rp, rl)) w5 W.drew := HO4.out.trans (Off.of_below (F := fun _ => False) (Below.refl _ W).drew) (fun _ _ h => h.elim)
          have HOD := hideN hod
          have l0 := HLK.out W HO4.out
          have l1 := HLK.out W.drew hod
          obtain ⟨z1, z2, z3, z4, z5⟩ := HCE.out W HO4.out HBJ.out
          have HEW : Hid (ErrE [4, 10] W.drew a) := HEO.out _ (HO5.out.trans hod (fun j _ hf => (HFR.out j hf).2))
          have HDR := hideN (pDrop_any (a := a) (xp, xl) q Fj bl W.drew HXW.out HOKB.out HEW.out (HPB4.out.off (Off.of_below (F := fun _ => False) (Below.refl _ W).drew) (fun _ _ h => h)))
          have HOK2 := hideN (hDrop_ok HOKB.out (xp, xl))
          have HSZW : Hid (w5.heap.size ≤ W.heap.size) := HO4.out.size
          clear hod c0 c1
          go_region_held3 (fun W' => W'.cell? ⟨N, 1, none⟩ = some (.map (some mb)) ∧ W'.cell? ⟨IB, 0, none⟩ = some (.int .u32 (rp : Nat)) ∧ W'.cell? ⟨IB, 1, none⟩ = some (.int .i64 rl) ∧ W'.cell? ⟨JB, 0, none⟩ = some (.int .u32 (xp : Nat)) ∧ W'.cell? ⟨JB, 1, none⟩ = some (.int .i64 xl)) (first | exact HCE.out _ HO6.out HBJ6.out | go_keep) (first
            | (go_at_call 93; refine HDR.out.mono ?_; rintro e w6 ⟨ev6, F6, rfl, _, hp6, hf6, ho6⟩; have HP6 := hideN hp6; have HO6 : Hid (Off (Fi (rp, rl)) w5 w6) := HOD.out.trans ho6 (fun j hj hf => (HFJ.out j hf).resolve_right (by omega)); have HBJ6 : Hid (Blk w6 JB #[.int .u32 (xp : Nat), .int .i64 xl] 40) := ho6.blk (Blk.next (W := W) HBJ.out (Below.refl _ W).drew) (fun hf => HJN.out hf); have HF6 : Hid (∀ j, F6 j → Fi (rp, rl) j ∨ w5.heap.size ≤ j) := fun j hj => (hf6 j hj).elim (HFJ.out j) (fun h => .inr (Nat.le_trans HSZW.out h)); clear hp6 hf6 ho6))
          go_wp2_with fail
          go_roundw
          case rel => exact ⟨k + 1, _, F6, hlt, by go_num, HRD.out, HOK2.out, HP6.out, HF6.out, HO6.out⟩
          case measure => simp [intOf]; omega
        · have hge : (idl : Int) ≤ (k : Int) := by omega
          rw [List.drop_eq_nil_of_le (by rw [HID.out]; omega), dropAll] at HRD
          go_wp2_with fail
          go_ret
          have hn := HN5.out.bin1 HBL0.out HO.out (by rw [HQ.out]; exact HPB.out) HFJ.out
          rw [HRD.out] at hn
          have hsz5 := HO5.out.size
          refine ⟨.nilIface, nFoot N mf mb vi (fun x => if x = (rp, rl) then Fj else Fi x) ⟨FS, binTo st.bins (rp, rl) RR⟩, rfl, ?_, ?_, fun j hj => ?_, HO5.out.trans HO.out (fun j _ hf => (HFR.out j hf).2)⟩
          · rw [HR.out]
            exact .inl ⟨rfl, rfl⟩
          · rw [HR.out]
            exact ⟨N, mf, mb, vi, pi, _, rfl, hn, rfl⟩
          · rcases nFoot_bin1 (st := ⟨FS, st.bins⟩) HBL0.out HFJ.out hj with h | h
            · exact .inl (HSUB.out j h)
            · exact .inr (by omega)
end Go.Proofs.YtjdobbjdlighpaaGreatDoor
