/-
  Own text. What putting a file makes of a node, pure: its bins stay right, the file is there, its rep has a bin; the closed example of the law.
  Own text. A node's bins and its files, pure: of each rep, its bin has the pieces of its files, each used as often as they have it (WLog, NInv); what put, drop, sweep make of it.
  Own text. Each bin of a node has a file, and there are not too many (NFull), whatever is done.
  Own text. A node's files and bins are right, pure: uses are counted as files have them.
  Own text. NodeKeeps' memory: a node and rows of texts beside it, all new since w; how each step leaves them.
  Own text. What a node has, in order, is right; each piece is used as often as its files have it.
-/
import Derived.Test.YtcbcjefefmbccabGreatDoorS23
import Derived.Test.YtcbcjefefmbccabGreatDoorS10
import Derived.Test.YtcbcjefefmbccabGreatDoorS21
import Derived.Test.YtcbcjefefmbccabGreatDoorS18
import Derived.Test.YtcbcjefefmbccabGreatDoorS08
import Derived.Test.YtcbcjefefmbccabGreatDoorS11
namespace Go.Proofs.YtcbcjefefmbccabGreatDoor
open Go.RowKit Go.Maps

theorem putAll_ok : ∀ (ls : List (List UInt8)) {U : Int} {l : List Hd} {fr : Int}, 0 ≤ U → BinOk U l → BinOk (U + ls.length) (putAll l fr ls).2.2
  | [], U, l, fr, _, h => by
    rw [putAll]
    simpa using h
  | s :: r, U, l, fr, hU, h => by
    rw [putAll]
    have h1 := hPut_ok h s hU
    split
    · have := putAll_ok r (fr := if (hPut l s).1.2.1 = true then fr + s.length else fr) (by omega) h1
      have e : U + ((s :: r).length : Nat) = U + 1 + (r.length : Nat) := by rw [List.length_cons]; omega
      rw [e]
      exact this
    · exact h1.mono (by rw [List.length_cons]; omega)
structure NOk (U : Int) (n : Nat) (st : NSt) : Prop where
  bins : ∀ b ∈ st.bins, BinOk U b.2
  many : st.bins.length ≤ n
  files : ∀ f ∈ st.files, f.2.length ≤ 4000 ∧ isName f.1 = true
theorem NOk.empty : NOk 0 0 ⟨[], []⟩ := ⟨fun b hb => by simp at hb, Nat.le_refl _, fun f hf => by simp at hf⟩
theorem NOk.mono {U V : Int} {n m : Nat} {st : NSt} (h : NOk U n st) (hU : U ≤ V) (hn : n ≤ m) : NOk V m st := ⟨fun b hb => (h.bins b hb).mono hU, Nat.le_trans h.many hn, h.files⟩
theorem nPut_cases (st : NSt) (nm s : List UInt8) : ((nPut st nm s).2.1 ≠ 0 ∧ (nPut st nm s).1 = 0 ∧ (nPut st nm s).2.2 = st) ∨ ((ofR nm s).2 = 0 ∧ nFile st.files nm = none ∧ nPut st nm s = ((putAll ((nBin st.bins (repT s)).getD []) 0 (pieces s)).1, 0, ⟨(nm, s) :: st.files, (repT s, (putAll ((nBin st.bins (repT s)).getD []) 0 (pieces s)).2.2) :: st.bins.filter (fun b => !decide (b.1 = repT s))⟩)) := by
  by_cases h1 : (ofR nm s).2 = 0
  · cases h2 : nFile st.files nm with
    | some t =>
      rw [nPut_there h1 h2]
      exact .inl ⟨by simp, rfl, rfl⟩
    | none =>
      by_cases h3 : 30 ≤ st.files.length
      · rw [nPut_full h1 h2 h3]
        exact .inl ⟨by simp, rfl, rfl⟩
      · obtain ⟨⟨fr, ec, bl⟩, hp⟩ : ∃ r, putAll ((nBin st.bins (repT s)).getD []) 0 (pieces s) = r := ⟨_, rfl⟩
        by_cases h4 : ec = 0
        · subst h4
          rw [nPut_ok h1 h2 h3 rfl rfl hp, hp]
          exact .inr ⟨h1, rfl, rfl⟩
        · rw [nPut_err h1 h2 h3 rfl rfl hp h4]
          exact .inl ⟨h4, rfl, rfl⟩
  · rw [nPut_bad h1]
    exact .inl ⟨h1, rfl, rfl⟩
theorem ofR_ok {nm s : List UInt8} (h : (ofR nm s).2 = 0) : isName nm = true ∧ s.length ≤ 4000 := by
  have hn : isName nm = true := by
    cases hn : isName nm with
    | true => rfl
    | false => rw [ofR_name hn] at h; cases h
  refine ⟨hn, ?_⟩
  by_cases hl : 4000 < s.length
  · rw [ofR_bound hn hl] at h
    cases h
  · omega
theorem NOk.put {U : Int} {n : Nat} {st : NSt} (h : NOk U n st) (hU : 0 ≤ U) (nm s : List UInt8) : NOk (U + 4000) (n + 1) (nPut st nm s).2.2 := by
  rcases nPut_cases st nm s with ⟨_, _, e⟩ | ⟨h1, _, e⟩
  · rw [e]
    exact h.mono (by omega) (by omega)
  · rw [e]
    obtain ⟨hn, hl⟩ := ofR_ok h1
    have hp := pieces_len_le s
    refine ⟨fun b hb => ?_, ?_, fun f hf => ?_⟩
    · rcases List.mem_cons.1 hb with rfl | hb
      · have hb0 : BinOk U ((nBin st.bins (repT s)).getD []) := by
          cases hb : nBin st.bins (repT s) with
          | none => exact BinOk.nil _
          | some l0 => exact h.bins _ (nBin_some hb)
        exact (putAll_ok (pieces s) hU hb0).mono (by omega)
      · exact (h.bins b (List.mem_filter.1 hb).1).mono (by omega)
    · have h2 := List.length_filter_le (fun b : NBin => !decide (b.1 = repT s)) st.bins
      have h3 := h.many
      simp only [List.length_cons]
      omega
    · rcases List.mem_cons.1 hf with rfl | hf
      · exact ⟨hl, hn⟩
      · exact h.files f hf
/- The closed example. -/
abbrev helloL : List UInt8 := [104, 101, 108, 108, 111]
theorem helloPieces : pieces helloL = [helloL] := by decide
def helloR : Nat × Int := repT helloL
def st1 : NSt := ⟨[([97], helloL)], [(repT helloL, [(idOfL helloL, 1, helloL)])]⟩
def st2 : NSt := ⟨[([98], helloL), ([97], helloL)], [(repT helloL, [(idOfL helloL, 2, helloL)])]⟩
theorem put1 : nPut ⟨[], []⟩ [97] helloL = (5, 0, st1) := by
  have e : putAll [] 0 (pieces helloL) = (5, 0, [(idOfL helloL, 1, helloL)]) := by rw [helloPieces]; rfl
  exact nPut_ok (st := ⟨[], []⟩) (nm := [97]) (s := helloL) (r := repT helloL) (BL := []) (by decide) rfl (by decide) rfl rfl e
end Go.Proofs.YtcbcjefefmbccabGreatDoor
namespace Go.Proofs.YtcbcjefefmbccabGreatDoor
open Go.RowKit Go.Maps

/- As Log, but pieces that nobody uses may stay. -/
structure WLog (l : List Hd) (log : List (List UInt8)) : Prop where
  cnt : ∀ h ∈ l, h.2.1 = ((log.count h.2.2 : Nat) : Int)
  has : ∀ s ∈ log, ∃ u, (idOfL s, u, s) ∈ l
theorem WLog.nil : WLog [] [] := ⟨fun h hm => by simp at hm, fun s hm => by simp at hm⟩
theorem WLog.perm {l : List Hd} {a b : List (List UInt8)} (h : WLog l a) (hp : a.Perm b) : WLog l b :=
  ⟨fun x hx => by rw [h.cnt x hx, hp.count_eq], fun s hs => h.has s (hp.mem_iff.2 hs)⟩
theorem WLog.one {U : Int} {l : List Hd} {log : List (List UInt8)} (hok : BinOk U l) (h : WLog l log) {s : List UInt8} (hs : s ∈ log) : ∃ (k : Nat) (hk : k < l.length), hFind l (idOfL s) = some k ∧ l[k].1 = idOfL s ∧ l[k].2.2 = s := by
  obtain ⟨u, hu⟩ := h.has s hs
  obtain ⟨k, hk⟩ := hFind_mem hu
  obtain ⟨hkl, he⟩ := hFind_some hk
  have e := rise_inj hok.rise (List.getElem_mem hkl) hu he
  exact ⟨k, hkl, hk, he, by rw [e]⟩
theorem WLog.get {U : Int} {l : List Hd} {log : List (List UInt8)} (hok : BinOk U l) (h : WLog l log) {s : List UInt8} (hs : s ∈ log) : hGet l (idOfL s) = (s, 0) := by
  obtain ⟨k, hk, hf, _, ht⟩ := h.one hok hs
  simp only [hGet, hf, List.getElem?_eq_getElem hk, Option.map_some, Option.getD_some, ht]
theorem WLog.put {U : Int} {l : List Hd} {log : List (List UInt8)} (hok : BinOk U l) (h : WLog l log) {s : List UInt8} (he : (hPut l s).1.2.2 = 0) : WLog (hPut l s).2 (log ++ [s]) := by
  revert he
  unfold hPut
  split
  · exact fun h => by simp at h
  · split
    · rename_i k hf
      obtain ⟨hk, hid⟩ := hFind_some hf
      split
      · rename_i ht
        intro _
        rw [List.getElem?_eq_getElem hk, Option.map_some] at ht
        have ht : l[k].2.2 = s := Option.some.inj ht
        refine ⟨fun z hz => ?_, fun t hm => ?_⟩
        · rcases modify_all hok.rise hk hz with ⟨hm, hn⟩ | rfl
          · have hne : s ≠ z.2.2 := fun e => hn (((hok.each z hm).1.trans (by rw [← e])).trans hid.symm)
            rw [h.cnt z hm, List.count_append, List.count_singleton]
            simp [hne]
          · show l[k].2.1 + 1 = ((log ++ [s]).count l[k].2.2 : Nat)
            rw [h.cnt _ (List.getElem_mem hk), ht, List.count_append, List.count_singleton_self]
            omega
        · by_cases e : t = s
          · subst e
            refine ⟨l[k].2.1 + 1, ?_⟩
            have := modify_own (d := 1) hk
            rw [hUse, hid, ht] at this
            exact this
          · have hm : t ∈ log := by
              rcases List.mem_append.1 hm with hm | hm
              · exact hm
              · exact absurd (List.mem_singleton.1 hm) e
            obtain ⟨u, hu⟩ := h.has t hm
            refine ⟨u, modify_other hk hu fun e2 => ?_⟩
            have := rise_inj hok.rise hu (List.getElem_mem hk) e2
            exact e (by rw [← ht, ← this])
      · exact fun h => by simp at h
    · rename_i hf
      split
      · exact fun h => by simp at h
      · intro _
        have hno : s ∉ log := fun hs => by
          obtain ⟨u, hu⟩ := h.has s hs
          exact hFind_not hf _ hu rfl
        refine ⟨fun z hz => ?_, fun t hm => ?_⟩
        · rcases hIns_mem hz with rfl | hm
          · show (1 : Int) = ((log ++ [s]).count s : Nat)
            rw [List.count_append, List.count_singleton_self, List.count_eq_zero.2 hno]
            rfl
          · have hne : s ≠ z.2.2 := fun e => hFind_not hf z hm ((hok.each z hm).1.trans (by rw [← e]))
            rw [h.cnt z hm, List.count_append, List.count_singleton]
            simp [hne]
        · rcases List.mem_append.1 hm with hm | hm
          · obtain ⟨u, hu⟩ := h.has t hm
            exact ⟨u, mem_hIns (.inr hu)⟩
          · rw [List.mem_singleton.1 hm]
            exact ⟨1, mem_hIns (.inl rfl)⟩
theorem WLog.there {U : Int} {l : List Hd} {log : List (List UInt8)} (hok : BinOk U l) (h : WLog l log) {s : List UInt8} (hs : s ∈ log) : (hPut l s).1.2.1 = false := by
  obtain ⟨k, hk, hf, _, ht⟩ := h.one hok hs
  unfold hPut
  split
  · rfl
  · rw [hf]
    simp only
    split <;> rfl
theorem WLog.drop {U : Int} {l : List Hd} {s : List UInt8} {r : List (List UInt8)} (hok : BinOk U l) (h : WLog l (s :: r)) : WLog (hDrop l (idOfL s)).2 r := by
  obtain ⟨k, hk, hf, hid, ht⟩ := h.one hok (List.mem_cons_self ..)
  have hc : l[k].2.1 = ((r.count s : Nat) : Int) + 1 := by
    rw [h.cnt _ (List.getElem_mem hk), ht, List.count_cons_self]
    omega
  have e : hDrop l (idOfL s) = (0, l.modify k (hUse (-1))) := by
    have hn : ¬ (l[k]?.map (·.2.1)) = some 0 := fun e => by
      rw [List.getElem?_eq_getElem hk, Option.map_some] at e
      have := Option.some.inj e
      omega
    simp only [hDrop, hf, if_neg hn]
  rw [e]
  refine ⟨fun z hz => ?_, fun t hm => ?_⟩
  · rcases modify_all hok.rise hk hz with ⟨hm, hn⟩ | rfl
    · have hne : s ≠ z.2.2 := fun e => hn (((hok.each z hm).1.trans (by rw [← e])).trans hid.symm)
      rw [h.cnt z hm, List.count_cons_of_ne hne]
    · show l[k].2.1 + -1 = ((r.count l[k].2.2 : Nat) : Int)
      rw [hc, ht]
      omega
  · obtain ⟨u, hu⟩ := h.has t (List.mem_cons_of_mem _ hm)
    by_cases e : t = s
    · subst e
      have ho := modify_own (d := -1) hk
      rw [hUse, hid, ht, hc] at ho
      exact ⟨_, ho⟩
    · refine ⟨u, modify_other hk hu fun e2 => ?_⟩
      have := rise_inj hok.rise hu (List.getElem_mem hk) e2
      exact e (by rw [← ht, ← this])
theorem WLog.sweep {l : List Hd} {log : List (List UInt8)} (h : WLog l log) : WLog (hSweep l).2 log := by
  refine ⟨fun z hz => h.cnt z (List.mem_filter.1 hz).1, fun s hs => ?_⟩
  obtain ⟨u, hu⟩ := h.has s hs
  refine ⟨u, List.mem_filter.2 ⟨hu, ?_⟩⟩
  have h1 : u = ((log.count s : Nat) : Int) := h.cnt _ hu
  have h2 := List.count_pos_iff.2 hs
  have hn : ¬ u = 0 := by omega
  simp [unused, hn]
theorem WLog.puts : ∀ (ls : List (List UInt8)) {U : Int} {l : List Hd} {fr : Int} {log : List (List UInt8)}, 0 ≤ U → BinOk U l → WLog l log → (putAll l fr ls).2.1 = 0 → WLog (putAll l fr ls).2.2 (log ++ ls)
  | [], U, l, fr, log, _, _, h, _ => by
    rw [putAll, List.append_nil]
    exact h
  | s :: r, U, l, fr, log, hU, hok, h, he => by
    rw [putAll] at he ⊢
    by_cases hp : (hPut l s).1.2.2 = 0
    · rw [if_pos hp] at he ⊢
      have := WLog.puts r (by omega) (hPut_ok hok s hU) (h.put hok hp) he
      rw [List.append_assoc] at this
      exact this
    · rw [if_neg hp] at he
      exact absurd he hp
/- What is dropped of a bin, one by one. -/
def dropAll (l : List Hd) : List (Nat × Int) → List Hd
  | [] => l
  | x :: r => dropAll (hDrop l x).2 r
theorem dropAll_ok : ∀ (ids : List (Nat × Int)) {U : Int} {l : List Hd}, BinOk U l → BinOk U (dropAll l ids)
  | [], _, _, h => h
  | x :: r, _, _, h => dropAll_ok r (hDrop_ok h x)
theorem WLog.drops : ∀ (ls : List (List UInt8)) {U : Int} {l : List Hd} {r : List (List UInt8)}, BinOk U l → WLog l (ls ++ r) → WLog (dropAll l (ls.map idOfL)) r
  | [], _, _, _, _, h => h
  | s :: t, _, _, _, hok, h => WLog.drops t (hDrop_ok hok (idOfL s)) (h.drop hok)
def nDrop (st : NSt) (nm : List UInt8) : Int × NSt :=
  match nFile st.files nm with
  | none => (5, st)
  | some s =>
    if (st.files.filter (fun f => !decide (f.1 = nm))).any (fun f => decide (repT f.2 = repT s)) = true then (0, ⟨st.files.filter (fun f => !decide (f.1 = nm)), st.bins.map (fun b => if b.1 = repT s then (b.1, dropAll b.2 (idsOf s)) else b)⟩)
    else (0, ⟨st.files.filter (fun f => !decide (f.1 = nm)), st.bins.filter (fun b => !decide (b.1 = repT s))⟩)
def nSweep (st : NSt) : Int × NSt := ((st.bins.map fun b => (hSweep b.2).1).sum, ⟨st.files, st.bins.map (fun b => (b.1, (hSweep b.2).2))⟩)
/- The texts' pieces of a rep. -/
def logOf (files : List NFile) (r : Nat × Int) : List (List UInt8) := files.flatMap (fun f => if repT f.2 = r then pieces f.2 else [])
theorem logOf_cons (f : NFile) (fs : List NFile) (r : Nat × Int) : logOf (f :: fs) r = (if repT f.2 = r then pieces f.2 else []) ++ logOf fs r := by simp [logOf]
theorem logOf_none {fs : List NFile} {r : Nat × Int} (h : ∀ f ∈ fs, repT f.2 ≠ r) : logOf fs r = [] := by
  unfold logOf
  rw [List.flatMap_eq_nil_iff]
  intro f hf
  rw [if_neg (h f hf)]
theorem logOf_perm {a b : List NFile} (h : a.Perm b) (r : Nat × Int) : (logOf a r).Perm (logOf b r) := by
  unfold logOf
  exact h.flatMap_right _
structure NInv (st : NSt) : Prop where
  fap : st.files.Pairwise (fun f g => f.1 ≠ g.1)
  bap : st.bins.Pairwise (fun f g => f.1 ≠ g.1)
  has : ∀ f ∈ st.files, ∃ l, (repT f.2, l) ∈ st.bins
  log : ∀ b ∈ st.bins, WLog b.2 (logOf st.files b.1)
theorem NInv.empty : NInv ⟨[], []⟩ := ⟨List.Pairwise.nil, List.Pairwise.nil, fun f hf => by simp at hf, fun f hf => by simp at hf⟩
theorem nBin_of_mem : ∀ {l : List NBin} {x : Nat × Int} {h : List Hd}, l.Pairwise (fun f g => f.1 ≠ g.1) → (x, h) ∈ l → nBin l x = some h
  | b :: r, x, h, hp, hm => by
    rw [nBin]
    rcases List.mem_cons.1 hm with rfl | hm
    · simp
    · rw [if_neg ((List.pairwise_cons.1 hp).1 _ hm)]
      exact nBin_of_mem (List.pairwise_cons.1 hp).2 hm
theorem nFile_of_mem : ∀ {l : List NFile} {x h : List UInt8}, l.Pairwise (fun f g => f.1 ≠ g.1) → (x, h) ∈ l → nFile l x = some h
  | b :: r, x, h, hp, hm => by
    rw [nFile]
    rcases List.mem_cons.1 hm with rfl | hm
    · simp
    · rw [if_neg ((List.pairwise_cons.1 hp).1 _ hm)]
      exact nFile_of_mem (List.pairwise_cons.1 hp).2 hm
theorem nPut_cases' (st : NSt) (nm s : List UInt8) : ((nPut st nm s).2.1 ≠ 0 ∧ (nPut st nm s).1 = 0 ∧ (nPut st nm s).2.2 = st) ∨ ((ofR nm s).2 = 0 ∧ nFile st.files nm = none ∧ (putAll ((nBin st.bins (repT s)).getD []) 0 (pieces s)).2.1 = 0 ∧ nPut st nm s = ((putAll ((nBin st.bins (repT s)).getD []) 0 (pieces s)).1, 0, ⟨(nm, s) :: st.files, (repT s, (putAll ((nBin st.bins (repT s)).getD []) 0 (pieces s)).2.2) :: st.bins.filter (fun b => !decide (b.1 = repT s))⟩)) := by
  by_cases h1 : (ofR nm s).2 = 0
  · cases h2 : nFile st.files nm with
    | some t =>
      rw [nPut_there h1 h2]
      exact .inl ⟨by simp, rfl, rfl⟩
    | none =>
      by_cases h3 : 30 ≤ st.files.length
      · rw [nPut_full h1 h2 h3]
        exact .inl ⟨by simp, rfl, rfl⟩
      · obtain ⟨⟨fr, ec, bl⟩, hp⟩ : ∃ r, putAll ((nBin st.bins (repT s)).getD []) 0 (pieces s) = r := ⟨_, rfl⟩
        by_cases h4 : ec = 0
        · subst h4
          rw [nPut_ok h1 h2 h3 rfl rfl hp, hp]
          exact .inr ⟨h1, rfl, rfl, rfl⟩
        · rw [nPut_err h1 h2 h3 rfl rfl hp h4]
          exact .inl ⟨h4, rfl, rfl⟩
  · rw [nPut_bad h1]
    exact .inl ⟨h1, rfl, rfl⟩
theorem NInv.put {U : Int} {n : Nat} {st : NSt} (h : NInv st) (hok : NOk U n st) (hU : 0 ≤ U) (nm s : List UInt8) : NInv (nPut st nm s).2.2 := by
  have hno : ∀ {r : Nat × Int}, nBin st.bins r = none → logOf st.files r = [] := fun {r} hn => logOf_none fun f hf e => by
    obtain ⟨l, hl⟩ := h.has f hf
    exact nBin_none hn _ hl e
  rcases nPut_cases' st nm s with ⟨_, _, e⟩ | ⟨h1, h2, hec, e⟩
  · rw [e]
    exact h
  · rw [e]
    have hpf := nFile_none h2
    have hold : WLog ((nBin st.bins (repT s)).getD []) (logOf st.files (repT s)) ∧ BinOk U ((nBin st.bins (repT s)).getD []) := by
      cases hb : nBin st.bins (repT s) with
      | none => exact ⟨by rw [hno hb]; exact WLog.nil, BinOk.nil _⟩
      | some l0 => exact ⟨h.log _ (nBin_some hb), hok.bins _ (nBin_some hb)⟩
    refine ⟨List.pairwise_cons.2 ⟨fun f hf e => hpf f hf e.symm, h.fap⟩, List.pairwise_cons.2 ⟨fun b hb e => ?_, h.bap.filter _⟩, fun f hf => ?_, fun b hb => ?_⟩
    · have := (List.mem_filter.1 hb).2
      simp at this
      exact this e.symm
    · rcases List.mem_cons.1 hf with rfl | hf
      · exact ⟨_, List.mem_cons_self ..⟩
      · obtain ⟨l, hl⟩ := h.has f hf
        by_cases e : repT f.2 = repT s
        · exact ⟨_, by rw [e]; exact List.mem_cons_self ..⟩
        · exact ⟨l, List.mem_cons_of_mem _ (List.mem_filter.2 ⟨hl, by simp [e]⟩)⟩
    · rw [logOf_cons]
      rcases List.mem_cons.1 hb with rfl | hb
      · simp only [if_true]
        exact (WLog.puts (pieces s) hU hold.2 hold.1 hec).perm List.perm_append_comm
      · obtain ⟨hb1, hb2⟩ := List.mem_filter.1 hb
        have hne : ¬ repT s = b.1 := fun e => by simp [e] at hb2
        simp only [if_neg hne, List.nil_append]
        exact h.log b hb1
theorem files_out {fs : List NFile} {nm s : List UInt8} (hp : fs.Pairwise (fun f g => f.1 ≠ g.1)) (hm : (nm, s) ∈ fs) : ((nm, s) :: fs.filter (fun f => !decide (f.1 = nm))).Perm fs := by
  induction fs with
  | nil => simp at hm
  | cons f r ih =>
    obtain ⟨h1, h2⟩ := List.pairwise_cons.1 hp
    rcases List.mem_cons.1 hm with e | hm
    · subst e
      have : r.filter (fun f => !decide (f.1 = nm)) = r := List.filter_eq_self.2 fun g hg => by
        have := h1 g hg
        simp only [Bool.not_eq_true', decide_eq_false_iff_not]
        exact fun e => this e.symm
      simp [this]
    · have hn : f.1 ≠ nm := h1 _ hm
      rw [List.filter_cons, if_pos (by simp [hn])]
      exact (List.Perm.swap _ _ _).trans ((ih h2 hm).cons f)
theorem NInv.drop {U : Int} {n : Nat} {st : NSt} (h : NInv st) (hok : NOk U n st) (nm : List UInt8) : NInv (nDrop st nm).2 := by
  unfold nDrop
  cases hf : nFile st.files nm with
  | none => exact h
  | some s =>
    simp only
    have hm := nFile_some hf
    have hp := files_out h.fap hm
    have hlog : ∀ r, (logOf st.files r).Perm ((if repT s = r then pieces s else []) ++ logOf (st.files.filter (fun f => !decide (f.1 = nm))) r) := fun r => by
      have := (logOf_perm hp r).symm
      rw [logOf_cons] at this
      exact this
    split
    · refine ⟨h.fap.filter _, ?_, fun f hf => ?_, fun b hb => ?_⟩
      · rw [List.pairwise_map]
        refine h.bap.imp fun {a b} hne => ?_
        have ea : (if a.1 = repT s then (a.1, dropAll a.2 (idsOf s)) else a).1 = a.1 := by split <;> rfl
        have eb : (if b.1 = repT s then (b.1, dropAll b.2 (idsOf s)) else b).1 = b.1 := by split <;> rfl
        rw [ea, eb]
        exact hne
      · obtain ⟨l, hl⟩ := h.has f (List.mem_filter.1 hf).1
        by_cases e : repT f.2 = repT s
        · exact ⟨dropAll l (idsOf s), List.mem_map.2 ⟨_, hl, by simp only [if_pos e]⟩⟩
        · exact ⟨l, List.mem_map.2 ⟨_, hl, by simp only [if_neg e]⟩⟩
      · obtain ⟨c, hc, rfl⟩ := List.mem_map.1 hb
        have hw := (h.log c hc).perm (hlog c.1)
        by_cases e : c.1 = repT s
        · simp only [if_pos e]
          rw [if_pos e.symm] at hw
          have := WLog.drops (pieces s) (hok.bins c hc) hw
          exact this
        · simp only [if_neg e]
          rw [if_neg (fun e' => e e'.symm), List.nil_append] at hw
          exact hw
    · rename_i hany
      have hnone : ∀ f ∈ st.files.filter (fun f => !decide (f.1 = nm)), repT f.2 ≠ repT s := fun f hf e => hany (List.any_eq_true.2 ⟨f, hf, by simp [e]⟩)
      refine ⟨h.fap.filter _, h.bap.filter _, fun f hf => ?_, fun b hb => ?_⟩
      · obtain ⟨l, hl⟩ := h.has f (List.mem_filter.1 hf).1
        exact ⟨l, List.mem_filter.2 ⟨hl, by simp [hnone f hf]⟩⟩
      · obtain ⟨hb1, hb2⟩ := List.mem_filter.1 hb
        have hne : ¬ repT s = b.1 := fun e => by simp [e] at hb2
        have hw := (h.log b hb1).perm (hlog b.1)
        rw [if_neg hne, List.nil_append] at hw
        exact hw
theorem NInv.sweep {st : NSt} (h : NInv st) : NInv (nSweep st).2 := by
  refine ⟨h.fap, ?_, fun f hf => ?_, fun b hb => ?_⟩
  · show (st.bins.map _).Pairwise _
    rw [List.pairwise_map]
    exact h.bap
  · obtain ⟨l, hl⟩ := h.has f hf
    exact ⟨_, List.mem_map.2 ⟨_, hl, rfl⟩⟩
  · obtain ⟨c, hc, rfl⟩ := List.mem_map.1 hb
    exact (h.log c hc).sweep
theorem NOk.drop {U : Int} {n : Nat} {st : NSt} (h : NOk U n st) (nm : List UInt8) : NOk U n (nDrop st nm).2 := by
  unfold nDrop
  cases hf : nFile st.files nm with
  | none => exact h
  | some s =>
    simp only
    split
    · refine ⟨fun b hb => ?_, by rw [List.length_map]; exact h.many, fun f hf => h.files f (List.mem_filter.1 hf).1⟩
      obtain ⟨c, hc, rfl⟩ := List.mem_map.1 hb
      split
      · exact dropAll_ok _ (h.bins c hc)
      · exact h.bins c hc
    · exact ⟨fun b hb => h.bins b (List.mem_filter.1 hb).1, Nat.le_trans (List.length_filter_le _ _) h.many, fun f hf => h.files f (List.mem_filter.1 hf).1⟩
theorem NOk.sweep {U : Int} {n : Nat} {st : NSt} (h : NOk U n st) : NOk U n (nSweep st).2 := by
  refine ⟨fun b hb => ?_, by show (st.bins.map _).length ≤ n; rw [List.length_map]; exact h.many, h.files⟩
  obtain ⟨c, hc, rfl⟩ := List.mem_map.1 hb
  exact hSweep_ok (h.bins c hc)
/- What is put is got. -/
theorem NInv.got {U : Int} {n : Nat} {st : NSt} (h : NInv st) (hok : NOk U n st) {nm s : List UInt8} (hm : (nm, s) ∈ st.files) : nFile st.files nm = some s ∧ ∃ l, nBin st.bins (repT s) = some l ∧ ∀ t ∈ pieces s, hGet l (idOfL t) = (t, 0) := by
  obtain ⟨l, hl⟩ := h.has _ hm
  refine ⟨nFile_of_mem h.fap hm, l, nBin_of_mem h.bap hl, fun t ht => (h.log _ hl).get (hok.bins _ hl) ?_⟩
  exact List.mem_flatMap.2 ⟨_, hm, by rw [if_pos rfl]; exact ht⟩
/- A text that is there has no new byte. -/
end Go.Proofs.YtcbcjefefmbccabGreatDoor
namespace Go.Proofs.YtcbcjefefmbccabGreatDoor
open Go.RowKit Go.Maps

/- Each bin has a file; there are not too many. -/
structure NFull (st : NSt) : Prop where
  bhas : ∀ b ∈ st.bins, ∃ f ∈ st.files, repT f.2 = b.1
  fmany : st.files.length ≤ 30
theorem NFull.empty : NFull ⟨[], []⟩ := ⟨fun b hb => by simp at hb, by simp⟩
theorem NFull.put {st : NSt} (h : NFull st) (nm s : List UInt8) : NFull (nPut st nm s).2.2 := by
  by_cases h1 : (ofR nm s).2 = 0
  · cases h2 : nFile st.files nm with
    | some t => rw [nPut_there h1 h2]; exact h
    | none =>
      by_cases h3 : 30 ≤ st.files.length
      · rw [nPut_full h1 h2 h3]; exact h
      · obtain ⟨⟨fr, ec, bl⟩, hp⟩ : ∃ r, putAll ((nBin st.bins (repT s)).getD []) 0 (pieces s) = r := ⟨_, rfl⟩
        by_cases h4 : ec = 0
        · subst h4
          rw [nPut_ok h1 h2 h3 rfl rfl hp]
          refine ⟨fun b hb => ?_, by simp only [List.length_cons]; omega⟩
          rcases List.mem_cons.1 hb with rfl | hb
          · exact ⟨_, List.mem_cons_self .., rfl⟩
          · obtain ⟨f, hf, e⟩ := h.bhas b (List.mem_filter.1 hb).1
            exact ⟨f, List.mem_cons_of_mem _ hf, e⟩
        · rw [nPut_err h1 h2 h3 rfl rfl hp h4]; exact h
  · rw [nPut_bad h1]; exact h
theorem file_of {st : NSt} (hI : NInv st) {nm s : List UInt8} (hf : nFile st.files nm = some s) {f : NFile} (hm : f ∈ st.files) (e : f.1 = nm) : f.2 = s := by
  obtain ⟨f1, f2⟩ := f
  simp only at e
  subst e
  have := nFile_of_mem hI.fap hm
  rw [hf] at this
  exact (Option.some.inj this).symm
theorem NFull.drop {st : NSt} (h : NFull st) (hI : NInv st) (nm : List UInt8) : NFull (nDrop st nm).2 := by
  unfold nDrop
  cases hf : nFile st.files nm with
  | none => exact h
  | some s =>
    simp only
    have hstay : ∀ b ∈ st.bins, b.1 ≠ repT s → ∃ f ∈ st.files.filter (fun f => !decide (f.1 = nm)), repT f.2 = b.1 := fun b hb hne => by
      obtain ⟨f, hf', e2⟩ := h.bhas b hb
      refine ⟨f, List.mem_filter.2 ⟨hf', ?_⟩, e2⟩
      by_cases e3 : f.1 = nm
      · rw [file_of hI hf hf' e3] at e2
        exact absurd e2.symm hne
      · simp [e3]
    split
    · rename_i hany
      obtain ⟨g, hg, he⟩ := List.any_eq_true.1 hany
      simp only [decide_eq_true_eq] at he
      refine ⟨fun b hb => ?_, Nat.le_trans (List.length_filter_le _ _) h.fmany⟩
      obtain ⟨c, hc, rfl⟩ := List.mem_map.1 hb
      have ek : (if c.1 = repT s then (c.1, dropAll c.2 (idsOf s)) else c).1 = c.1 := by split <;> rfl
      rw [ek]
      by_cases e : c.1 = repT s
      · exact ⟨g, hg, he.trans e.symm⟩
      · exact hstay c hc e
    · refine ⟨fun b hb => ?_, Nat.le_trans (List.length_filter_le _ _) h.fmany⟩
      obtain ⟨hb1, hb2⟩ := List.mem_filter.1 hb
      exact hstay b hb1 (fun e => by simp [e] at hb2)
theorem NFull.sweep {st : NSt} (h : NFull st) : NFull (nSweep st).2 := by
  refine ⟨fun b hb => ?_, h.fmany⟩
  obtain ⟨c, hc, rfl⟩ := List.mem_map.1 hb
  exact h.bhas c hc
end Go.Proofs.YtcbcjefefmbccabGreatDoor
namespace Go.Proofs.YtcbcjefefmbccabGreatDoor
open Go.RowKit Go.Maps

/- How often files of a rep have an ID; how many files have a rep. -/
def cntU (fs : List Rcp) (r i : Nat × Int) : Int := (fs.map fun x => if rcpRep x = r then ((x.2.2.2.count i : Nat) : Int) else 0).sum
def cntF (fs : List Rcp) (r : Nat × Int) : Int := (fs.map fun x => if rcpRep x = r then (1 : Int) else 0).sum
theorem omap_add (o : Option Int) (a b : Int) : (o.map (· + a)).map (· + b) = o.map (· + (a + b)) := by
  cases o with
  | none => rfl
  | some x => simp only [Option.map_some]; congr 1; omega
theorem omap_zero (o : Option Int) : o.map (· + 0) = o := by cases o <;> simp
theorem bump_val (f : Use → Option Int) (r0 x r i : Nat × Int) : bump f (r0, x) (r, i) = (f (r, i)).map (· + if r0 = r ∧ x = i then 1 else 0) := by
  unfold bump
  by_cases e : (r, i) = (r0, x)
  · obtain ⟨e1, e2⟩ := Prod.mk.inj e
    subst e1 e2
    simp
  · have hn : ¬ (r0 = r ∧ x = i) := fun ⟨h1, h2⟩ => e (by rw [h1, h2])
    rw [if_neg e, if_neg hn, omap_zero]
theorem bumpAll_val (r0 r i : Nat × Int) : ∀ (l : List (Nat × Int)) (f : Use → Option Int), bumpAll f r0 l (r, i) = (f (r, i)).map (· + if r0 = r then ((l.count i : Nat) : Int) else 0)
  | [], f => by
    have : (if r0 = r then ((([] : List (Nat × Int)).count i : Nat) : Int) else 0) = 0 := by split <;> simp
    rw [bumpAll, this, omap_zero]
  | x :: l, f => by
    rw [bumpAll, bumpAll_val r0 r i l, bump_val, omap_add]
    congr 1
    funext y
    congr 1
    rw [List.count_cons]
    by_cases e : r0 = r
    · by_cases e2 : x = i
      · simp [e, e2]; omega
      · have e3 : (x == i) = false := beq_eq_false_iff_ne.2 e2
        simp [e, e2, e3]
    · simp [e]
theorem cU_val (r i : Nat × Int) : ∀ (fs : List Rcp) (f : Use → Option Int), cU f fs (r, i) = (f (r, i)).map (· + cntU fs r i)
  | [], f => by
    rw [cU]
    have : cntU [] r i = 0 := rfl
    rw [this, omap_zero]
  | x :: l, f => by
    rw [cU, cU_val r i l, bumpAll_val, omap_add]
    congr 1
theorem cF_val (r : Nat × Int) : ∀ (fs : List Rcp) (f : Nat × Int → Option Int), cF f fs r = (f r).map (· + cntF fs r)
  | [], f => by
    rw [cF]
    have : cntF [] r = 0 := rfl
    rw [this, omap_zero]
  | x :: l, f => by
    have hb : bump f (rcpRep x) r = (f r).map (· + if rcpRep x = r then 1 else 0) := by
      unfold bump
      by_cases e : r = rcpRep x
      · subst e; simp
      · have e' : ¬ rcpRep x = r := fun h => e h.symm
        rw [if_neg e, if_neg e', omap_zero]
    rw [cF, cF_val r l, hb, omap_add]
    congr 1
theorem cntU_of (r i : Nat × Int) : ∀ (fl : List NFile), cntU (fl.map rcpOf) r i = ((((logOf fl r).map idOfL).count i : Nat) : Int)
  | [] => rfl
  | f :: l => by
    have ih := cntU_of r i l
    rw [logOf_cons, List.map_append, List.count_append, Int.natCast_add, ← ih]
    have e1 : cntU ((f :: l).map rcpOf) r i = (if rcpRep (rcpOf f) = r then (((rcpOf f).2.2.2.count i : Nat) : Int) else 0) + cntU (l.map rcpOf) r i := rfl
    rw [e1]
    congr 1
    have e2 : rcpRep (rcpOf f) = repT f.2 := rfl
    have e3 : (rcpOf f).2.2.2 = (pieces f.2).map idOfL := rfl
    rw [e2, e3]
    by_cases e : repT f.2 = r
    · simp [e]
    · simp [e]
theorem cntF_pos {fl : List NFile} {r : Nat × Int} (h : ∃ f ∈ fl, repT f.2 = r) : 0 < cntF (fl.map rcpOf) r := by
  have hall : ∀ l : List NFile, 0 ≤ cntF (l.map rcpOf) r := by
    intro l
    induction l with
    | nil => exact Int.le_refl _
    | cons f l ih =>
      have e1 : cntF ((f :: l).map rcpOf) r = (if rcpRep (rcpOf f) = r then (1 : Int) else 0) + cntF (l.map rcpOf) r := rfl
      rw [e1]
      split <;> omega
  induction fl with
  | nil => obtain ⟨f, hf, _⟩ := h; simp at hf
  | cons g l ih =>
    have e1 : cntF ((g :: l).map rcpOf) r = (if rcpRep (rcpOf g) = r then (1 : Int) else 0) + cntF (l.map rcpOf) r := rfl
    rw [e1]
    obtain ⟨f, hf, e⟩ := h
    have h0 := hall l
    rcases List.mem_cons.1 hf with rfl | hf
    · have e2 : rcpRep (rcpOf f) = r := e
      rw [if_pos e2]
      omega
    · have := ih ⟨f, hf, e⟩
      split <;> omega
/- IDs tell texts apart within a bin. -/
theorem count_ids {U : Int} {l : List Hd} {log : List (List UInt8)} (hok : BinOk U l) (h : WLog l log) {x : Hd} (hx : x ∈ l) : (log.map idOfL).count x.1 = log.count x.2.2 := by
  have hiff : ∀ t ∈ log, (idOfL t == x.1) = (t == x.2.2) := fun t ht => by
    obtain ⟨u, hu⟩ := h.has t ht
    by_cases e : idOfL t = x.1
    · have := rise_inj hok.rise hu hx e
      rw [e, ← this]
      simp
    · have e2 : ¬ t = x.2.2 := fun e2 => e (by rw [e2]; exact (hok.each x hx).1.symm)
      rw [beq_eq_false_iff_ne.2 e, beq_eq_false_iff_ne.2 e2]
  rw [List.count, List.countP_map, List.count]
  exact List.countP_congr fun t ht => by simp only [Function.comp]; rw [hiff t ht]
end Go.Proofs.YtcbcjefefmbccabGreatDoor
namespace Go.Proofs.YtcbcjefefmbccabGreatDoor
open Go.RowKit Go.Maps

structure TRows (w W : World) (F : Nat → Prop) (rs : List (Value × List (List UInt8))) : Prop where
  own : ∀ r ∈ rs, W.ownsRow w.heap.size 9 1 r.1 r.2.length (r.2.map strB)
  off : ∀ r ∈ rs, ∀ k, F k → r.1.ownBlock ≠ some k
  two : rs.Pairwise (fun a b => ∀ k, a.1.ownBlock = some k → b.1.ownBlock ≠ some k)
theorem TRows.nil (w W : World) (F : Nat → Prop) : TRows w W F [] := ⟨fun r hr => by simp at hr, fun r hr => by simp at hr, List.Pairwise.nil⟩
theorem TRows.sub {w W : World} {F : Nat → Prop} {rs rs' : List (Value × List (List UInt8))} (h : TRows w W F rs) (hs : rs'.Sublist rs) : TRows w W F rs' :=
  ⟨fun r hr => h.own r (hs.subset hr), fun r hr => h.off r (hs.subset hr), h.two.sublist hs⟩
theorem TRows.below {w W W' : World} {F : Nat → Prop} {rs : List (Value × List (List UInt8))} (h : TRows w W F rs) (hb : Below W.heap.size W W') : TRows w W' F rs :=
  ⟨fun r hr => row_below (h.own r hr) hb, h.off, h.two⟩
theorem TRows.prog {w W W' : World} {F F' : Nat → Prop} {rs : List (Value × List (List UInt8))} (h : TRows w W F rs) (ho : Off F W W') (hF : ∀ k, F' k → F k ∨ W.heap.size ≤ k) : TRows w W' F' rs := by
  refine ⟨fun r hr => ho.row (h.own r hr) (fun k hk hf => h.off r hr k hf hk), fun r hr k hk e => ?_, h.two⟩
  rcases hF k hk with hk | hk
  · exact h.off r hr k hk e
  · have := row_lt (h.own r hr) e
    omega
theorem TRows.app {w W W' : World} {F : Nat → Prop} {A B : List (Value × List (List UInt8))} {v v' : Value} {t t' : List (List UInt8)} (h : TRows w W F (A ++ (v, t) :: B)) (hF : ∀ k, F k → k < W.heap.size) (hg : W.grownBy W' v.ownBlock) (hr : W'.ownsRow w.heap.size 9 1 v' t'.length (t'.map strB)) (hv : v'.ownBlock = v.ownBlock ∨ v'.ownBlock = some W.heap.size) : TRows w W' F (A ++ (v', t') :: B) := by
  have ho := off_of_rowgrown hg
  obtain ⟨tA, tB, tAB⟩ := List.pairwise_append.1 h.two
  obtain ⟨tv, tB⟩ := List.pairwise_cons.1 tB
  have hvm : (v, t) ∈ A ++ (v, t) :: B := List.mem_append_right _ (List.mem_cons_self ..)
  have hother : ∀ r, r ∈ A ∨ r ∈ B → r ∈ A ++ (v, t) :: B ∧ ∀ k, v.ownBlock = some k → r.1.ownBlock ≠ some k := fun r hr => by
    rcases hr with hr | hr
    · exact ⟨List.mem_append_left _ hr, fun k hk e => tAB r hr _ (List.mem_cons_self ..) k e hk⟩
    · exact ⟨List.mem_append_right _ (List.mem_cons_of_mem _ hr), fun k hk => tv r hr k hk⟩
  have hnew : ∀ r, r ∈ A ∨ r ∈ B → ∀ k, v'.ownBlock = some k → r.1.ownBlock ≠ some k := fun r hr k hk e => by
    rcases hv with hv | hv
    · exact (hother r hr).2 k (hv ▸ hk) e
    · have := row_lt (h.own r (hother r hr).1) e
      rw [hv] at hk
      have := Option.some.inj hk
      omega
  have hmem : ∀ r, r ∈ A ++ (v', t') :: B → r = (v', t') ∨ (r ∈ A ∨ r ∈ B) := fun r hr => by
    rcases List.mem_append.1 hr with hr | hr
    · exact .inr (.inl hr)
    · rcases List.mem_cons.1 hr with hr | hr
      · exact .inl hr
      · exact .inr (.inr hr)
  refine ⟨fun r hm => ?_, fun r hm k hk e => ?_, List.pairwise_append.2 ⟨tA, List.pairwise_cons.2 ⟨fun b hb k hk => hnew b (.inr hb) k hk, tB⟩, fun a ha b hb k hk => ?_⟩⟩
  · rcases hmem r hm with rfl | hm
    · exact hr
    · obtain ⟨h1, h2⟩ := hother r hm
      exact ho.row (h.own r h1) (fun k hk e => h2 k e hk)
  · rcases hmem r hm with rfl | hm
    · rcases hv with hv | hv
      · exact h.off _ hvm k hk (hv ▸ e)
      · have := hF k hk
        simp only at e
        rw [hv] at e
        have := Option.some.inj e
        omega
    · exact h.off r (hother r hm).1 k hk e
  · rcases List.mem_cons.1 hb with rfl | hb
    · exact fun e => hnew a (.inl ha) k e hk
    · exact tAB a ha b (List.mem_cons_of_mem _ hb) k hk
theorem TRows.cell {w W : World} {F : Nat → Prop} {rs : List (Value × List (List UInt8))} (h : TRows w W F rs) {v : Value} {t : List (List UInt8)} (hm : (v, t) ∈ rs) (hn : t ≠ []) : ∃ g c, v = .slice (some ⟨g, 0, none⟩) t.length c ∧ ∀ i (hi : i < t.length), W.cell? ⟨g, i, none⟩ = some (strB t[i]) := by
  have h1 := h.own _ hm
  have k1 := h1.2
  simp only at h1 k1
  rcases k1 with ⟨_, hz⟩ | ⟨g, cap, cur, hv, _⟩
  · exact absurd (List.length_eq_zero_iff.1 hz) hn
  · refine ⟨g, cap, hv, fun i hi => ?_⟩
    have c1 := h1.cells (g := g) (by rw [hv]; rfl) i (strB t[i]) (by simp [hi])
    simp only [add_plain] at c1
    exact c1
theorem isName_len {x : List UInt8} (h : isName x = true) : x.length ≤ 12 := by
  unfold isName at h
  simp only [Bool.and_eq_true, decide_eq_true_eq] at h
  exact h.2.2
theorem row_shapeK {W : World} {base : Nat} {e : TypeId} {size : Nat} {v : Value} {n : Nat} {xs : List Value} (h : W.ownsRow base e size v n xs) : ∃ p c, v = .slice p n c := by
  rcases h.2 with ⟨rfl, rfl⟩ | ⟨g, cap, cur, rfl, _⟩
  · exact ⟨_, _, rfl⟩
  · exact ⟨_, _, rfl⟩
structure KeepSt (w W : World) (p : Addr) (F : Nat → Prop) (st : NSt) (rs : List (Value × List (List UInt8))) : Prop where
  below : Below w.heap.size w W
  node : PNode W p F st
  new : ∀ k, F k → w.heap.size ≤ k
  rows : TRows w W F rs
theorem KeepSt.next {w W W' : World} {p : Addr} {F : Nat → Prop} {st : NSt} {rs : List (Value × List (List UInt8))} (h : KeepSt w W p F st rs) (hb : Below W.heap.size W W') : KeepSt w W' p F st rs :=
  ⟨h.below.trans (hb.mono h.below.size), h.node.below hb, h.new, h.rows.below hb⟩
theorem KeepSt.prog {w W W' : World} {p : Addr} {F F' : Nat → Prop} {st st' : NSt} {rs : List (Value × List (List UInt8))} (h : KeepSt w W p F st rs) (hp : PNode W' p F' st') (hF : ∀ k, F' k → F k ∨ W.heap.size ≤ k) (ho : Off F W W') : KeepSt w W' p F' st' rs :=
  ⟨h.below.trans (ho.below h.below.size (fun k hk hf => by have := h.new k hf; omega)), hp, fun k hk => (hF k hk).elim (h.new k) (fun h2 => Nat.le_trans h.below.size h2), h.rows.prog ho hF⟩
theorem KeepSt.app {w W W' : World} {p : Addr} {F : Nat → Prop} {st : NSt} {A B : List (Value × List (List UInt8))} {v v' : Value} {t t' : List (List UInt8)} (h : KeepSt w W p F st (A ++ (v, t) :: B)) (hg : W.grownBy W' v.ownBlock) (hr : W'.ownsRow w.heap.size 9 1 v' t'.length (t'.map strB)) (hv : v'.ownBlock = v.ownBlock ∨ v'.ownBlock = some W.heap.size) : KeepSt w W' p F st (A ++ (v', t') :: B) := by
  have ho := off_of_rowgrown hg
  have hvm : (v, t) ∈ A ++ (v, t) :: B := List.mem_append_right _ (List.mem_cons_self ..)
  exact ⟨h.below.trans (ho.below h.below.size (fun k hk e => by have := row_ge (h.rows.own _ hvm) e; omega)), h.node.off ho (fun k hk e => h.rows.off _ hvm k hk e), h.new, h.rows.app h.node.lt hg hr hv⟩
end Go.Proofs.YtcbcjefefmbccabGreatDoor
namespace Go.Proofs.YtcbcjefefmbccabGreatDoor
open Go.RowKit Go.Maps

theorem wfID_piece {s t : List UInt8} (h : t ∈ pieces s) : WfID (idOfL t) := by
  have := piece_le h
  refine ⟨pmore_lt _ (by decide) _, ?_, ?_⟩
  · show _ ≤ ((t.length : Nat) : Int); omega
  · show ((t.length : Nat) : Int) ≤ _; omega
theorem wfID_held {U : Int} {l : List Hd} (hok : BinOk U l) {h : Hd} (hm : h ∈ l) : WfID h.1 := by
  obtain ⟨h1, h2, _⟩ := hok.each h hm
  rw [h1]
  refine ⟨pmore_lt _ (by decide) _, ?_, ?_⟩
  · show _ ≤ ((h.2.2.length : Nat) : Int); omega
  · show ((h.2.2.length : Nat) : Int) ≤ _; omega
theorem zeroU_some {bl : List NBin} (hap : bl.Pairwise (fun f g => f.1 ≠ g.1)) {r : Nat × Int} {l : List Hd} (hm : (r, l) ∈ bl) {h : Hd} (hh : h ∈ l) : zeroU bl (r, h.1) = some 0 := by
  unfold zeroU
  rw [nBin_of_mem hap hm]
  simp only
  rw [if_pos (List.any_eq_true.2 ⟨h, hh, by simp⟩)]
theorem zeroF_some {bl : List NBin} {r : Nat × Int} {l : List Hd} (hm : (r, l) ∈ bl) : zeroF bl r = some 0 := by
  unfold zeroF
  rw [if_pos (List.any_eq_true.2 ⟨_, hm, by simp⟩)]
theorem right_of {U : Int} {n : Nat} {st : NSt} (hI : NInv st) (hN : NFull st) (hok : NOk U n st) (hn : n ≤ 100) {fl : List NFile} {bl : List NBin} (hf : fl.Perm st.files) (hb : bl.Perm st.bins) (hfo : fl.Pairwise (fun f g => f.1 < g.1)) (hbo : bl.Pairwise (fun b c => lessB b.1 c.1 = true)) :
    RightIn (fl.map rcpOf) bl ∧ ∀ b ∈ bl, usesErr (cU (zeroU bl) (fl.map rcpOf)) b = 0 := by
  have hap : bl.Pairwise (fun f g => f.1 ≠ g.1) := hbo.imp fun {_ _} h => lessB_ne h
  have hfm : ∀ f ∈ fl, f ∈ st.files := fun f h => hf.mem_iff.1 h
  have hbm : ∀ b ∈ bl, b ∈ st.bins := fun b h => hb.mem_iff.1 h
  have hlog : ∀ b ∈ bl, WLog b.2 (logOf fl b.1) := fun b h => (hI.log b (hbm b h)).perm (logOf_perm hf.symm b.1)
  have hbin : ∀ f ∈ fl, ∃ l, (repT f.2, l) ∈ bl := fun f h => by
    obtain ⟨l, hl⟩ := hI.has f (hfm f h)
    exact ⟨l, hb.mem_iff.2 hl⟩
  refine ⟨⟨⟨?_, ?_, ?_, ?_, ?_, ?_⟩, ?_, ?_, ?_, ?_, ?_, ?_, ?_, ?_⟩, fun b hb' => ?_⟩
  · rw [List.length_map, hf.length_eq]
    exact hN.fmany
  · intro r hr
    obtain ⟨f, hf', rfl⟩ := List.mem_map.1 hr
    obtain ⟨h1, h2⟩ := hok.files f (hfm f hf')
    exact recFault_of f.1 f.2 h2 h1
  · intro r hr
    obtain ⟨f, hf', rfl⟩ := List.mem_map.1 hr
    show (idsOf f.2).length ≤ 250
    rw [idsOf_length]
    exact pieces_250 _ (hok.files f (hfm f hf')).1
  · intro i hi h0
    rw [List.length_map] at hi
    simp only [List.getElem_map]
    rw [List.pairwise_iff_getElem] at hfo
    exact hfo (i - 1) i (by omega) hi (by omega)
  · intro r hr
    obtain ⟨f, hf', rfl⟩ := List.mem_map.1 hr
    have := isName_len (hok.files f (hfm f hf')).2
    show f.1.length ≤ 50000
    omega
  · intro r hr
    obtain ⟨f, hf', rfl⟩ := List.mem_map.1 hr
    refine ⟨fun i hi => ?_, repT_wf f.2⟩
    obtain ⟨t, ht, rfl⟩ := List.mem_map.1 hi
    exact wfID_piece ht
  · intro r hr
    obtain ⟨f, hf', rfl⟩ := List.mem_map.1 hr
    obtain ⟨l, hl⟩ := hbin f hf'
    refine addErr_ok ?_ fun i hi => ?_
    · show (zeroF bl (repT f.2)).isSome = true
      rw [zeroF_some hl]
      rfl
    · obtain ⟨t, ht, rfl⟩ := List.mem_map.1 hi
      obtain ⟨u, hu⟩ := (hlog _ hl).has t (List.mem_flatMap.2 ⟨f, hf', by rw [if_pos rfl]; exact ht⟩)
      show (zeroU bl (repT f.2, idOfL t)).isSome = true
      have := zeroU_some hap hl hu
      simp only at this
      rw [this]
      rfl
  · rw [hb.length_eq]
    exact Nat.le_trans hok.many hn
  · intro b hb'
    have := (hok.bins b (hbm b hb')).many
    omega
  · intro b hb'
    obtain ⟨f, _, e⟩ := hN.bhas b (hbm b hb')
    exact ⟨by rw [← e]; exact repT_wf f.2, fun h hh => wfID_held (hok.bins b (hbm b hb')) hh⟩
  · intro i hi h0
    rw [List.pairwise_iff_getElem] at hbo
    exact hbo (i - 1) i (by omega) hi (by omega)
  · intro b hb'
    obtain ⟨f, hf', e⟩ := hN.bhas b (hbm b hb')
    obtain ⟨r, l⟩ := b
    rw [cF_val, zeroF_some hb']
    have := cntF_pos (fl := fl) (r := r) ⟨f, hf.mem_iff.2 hf', e⟩
    show (0 : Int) + cntF (fl.map rcpOf) r ≠ 0
    omega
  · intro b hb' h hh
    obtain ⟨h1, h2, _⟩ := (hok.bins b (hbm b hb')).each h hh
    exact ⟨h1, by omega⟩
  · intro b hb'
    exact (hok.bins b (hbm b hb')).rise
  · refine usesErr_ok fun x hx => ?_
    obtain ⟨r, l⟩ := b
    simp only at hx ⊢
    rw [cU_val, zeroU_some hap hb' hx]
    show (0 : Int) + cntU (fl.map rcpOf) r x.1 = x.2.1
    rw [cntU_of, count_ids (hok.bins _ (hbm _ hb')) (hlog _ hb') hx, (hlog _ hb').cnt x hx]
    omega
end Go.Proofs.YtcbcjefefmbccabGreatDoor
