/-
  Own text. (*node.Node).Bin by a contract: a copy of the bin of a rep, or nil.
  Own text. A bin and the texts that were put into it (a log), pure: each piece is used as often as its text is in the log; what put, get, drop with sweep make of it.
  Own text. BinUses' memory: a bin and two rows (texts, IDs) beside it, all new since w; how each step leaves them.
  Own text. The document's node in memory: a block with two slices, the row of its files, the row of its bins (MSt, MNode); what each step leaves of it.
-/
import Derived.Test.YtjdobbjdlighpabGreatDoorH10
import Derived.Test.YtjdobbjdlighpabGreatDoorH04
import Derived.Maps.AppendAt
import Derived.Test.YtjdobbjdlighpabGreatDoorH11
namespace Go.Proofs.YtjdobbjdlighpabGreatDoor
open Go.RowKit Go.Maps

theorem hideN {q : Prop} (h : q) : Hid q := h
def BinPost (w : World) (r : Option (List Hd)) (e : Ending) (w' : World) : Prop :=
  (match r with
    | none => e = .returned (.pointer none)
    | some l => ∃ p' F', e = .returned (.pointer (some p')) ∧ PBin0 w' p' F' l ∧ ∀ k, F' k → w.heap.size ≤ k) ∧ Below w.heap.size w w'
set_option maxRecDepth 100000 in
set_option maxHeartbeats 2000000 in
theorem nodeBin_any (x : Nat × Int) (p : Addr) (F : Nat → Prop) (st : NSt) (w : World) (hx : WfID x) (hP : PNode w p F st) :
    Calls Tryz.prog 16 #[.pointer (some p), idV (x.1 : Nat) x.2] w (BinPost w (nBin st.bins x)) := by
  obtain ⟨N, mf, mb, vi, pi, Fi, rfl, h, _⟩ := hP
  have hal := (Below.refl w.heap.size w).alloc (Nat.le_refl _) (.cells #[.int .u32 (x.1 : Nat), .int .i64 x.2] 25)
  have hI := Blk.new w #[.int .u32 (x.1 : Nat), .int .i64 x.2] 25
  have h1 := h.below hal
  have hN := h1.blk
  have HH := hideN h1
  cases hf : nBin st.bins x with
  | none =>
    have hl : ∀ W : World, idBins.Of W mb (st.bins.map fun b => (b.1, some (pi b.1))) → (Instr.lookup 100 (.map (some mb)) (idV (x.1 : Nat) x.2) true).run Tryz.prog W = .ok (.tuple #[.pointer none, .bool false]) W := fun W h => h.look_none Tryz.underlying100 (ptrZero W) hx (fun y hy => by
      obtain ⟨b, hb, rfl⟩ := List.mem_map.1 hy
      exact nBin_none hf b hb)
    clear h h1
    go_enter Tryz.func16, Tryz.ntmps16
    go_wp2_with fail
    generalize w.alloc (.cells #[.int .u32 (x.1 : Nat), .int .i64 x.2] 25) = W at *
    have x0 := hI.cell (i := 0) rfl
    have x1 := hI.cell (i := 1) rfl
    have q0 := hN.cell (i := 0) rfl
    have q1 := hN.cell (i := 1) rfl
    have l1 := hl W.drew (ofB_drew HH.out.bins)
    have l0 := hl W HH.out.bins
    go_wp2_with fail
    go_region
    all_goals
      have hb3 := below_drew hal
      generalize W.drew = W3 at *
      go_wp2_with fail
      go_ret
      exact ⟨rfl, hb3⟩
  | some l =>
    have hm := nBin_some hf
    have HB := hideN (h1.bin _ hm)
    have hl : ∀ W : World, idBins.Of W mb (st.bins.map fun b => (b.1, some (pi b.1))) → (Instr.lookup 100 (.map (some mb)) (idV (x.1 : Nat) x.2) true).run Tryz.prog W = .ok (.tuple #[.pointer (some (pi x)), .bool true]) W := fun W h => h.look_some Tryz.underlying100 (ptrZero W) (List.mem_map.2 ⟨_, hm, rfl⟩)
    clear h h1 hm
    generalize pi x = q at *
    simp only at HB
    go_enter Tryz.func16, Tryz.ntmps16
    go_wp2_with fail
    generalize w.alloc (.cells #[.int .u32 (x.1 : Nat), .int .i64 x.2] 25) = W at *
    have x0 := hI.cell (i := 0) rfl
    have x1 := hI.cell (i := 1) rfl
    have q0 := hN.cell (i := 0) rfl
    have q1 := hN.cell (i := 1) rfl
    have l1 := hl W.drew (ofB_drew HH.out.bins)
    have l0 := hl W HH.out.bins
    go_wp2_with fail
    go_region
    all_goals
      have hb3 := below_drew hal
      have HC := hideN (pCopy_any q (Fi x) l W.drew (HB.out.off (Off.of_below (F := fun _ => False) (Below.refl _ W).drew) (fun _ _ h => h)))
      generalize W.drew = W3 at *
      go_wp2_with fail
      refine HC.out.mono ?_
      rintro e w4 ⟨p', F', rfl, hp4, hf4, hb4⟩
      go_wp2_with fail
      go_ret
      exact ⟨⟨p', F', rfl, hp4, fun k hk => Nat.le_trans hb3.size (hf4 k hk)⟩, hb3.trans (hb4.mono hb3.size)⟩
end Go.Proofs.YtjdobbjdlighpabGreatDoor
namespace Go.Proofs.YtjdobbjdlighpabGreatDoor
open Go.RowKit

theorem rise_at_ne {l : List Hd} (hr : Rise l) {i k : Nat} (hi : i < l.length) (hk : k < l.length) (h : i ≠ k) : l[i].1 ≠ l[k].1 := by
  unfold Rise at hr
  rw [List.pairwise_iff_getElem] at hr
  rcases Nat.lt_or_gt_of_ne h with h | h
  · exact lessB_ne (hr i k hi hk h)
  · exact fun e => lessB_ne (hr k i hk hi h) e.symm
theorem modify_all {l : List Hd} {k : Nat} {d : Int} (hr : Rise l) (hk : k < l.length) {z : Hd} (hz : z ∈ l.modify k (hUse d)) : (z ∈ l ∧ z.1 ≠ l[k].1) ∨ z = hUse d l[k] := by
  obtain ⟨i, hi, rfl⟩ := List.getElem_of_mem hz
  rw [List.length_modify] at hi
  rw [List.getElem_modify]
  split
  · rename_i e
    subst e
    exact .inr rfl
  · rename_i e
    exact .inl ⟨List.getElem_mem _, rise_at_ne hr hi hk (fun h => e h.symm)⟩
theorem modify_other {l : List Hd} {k : Nat} {d : Int} (hk : k < l.length) {z : Hd} (hz : z ∈ l) (hn : z.1 ≠ l[k].1) : z ∈ l.modify k (hUse d) := by
  obtain ⟨i, hi, rfl⟩ := List.getElem_of_mem hz
  have hik : ¬ k = i := fun e => by subst e; exact hn rfl
  have h : (l.modify k (hUse d))[i]'(by rw [List.length_modify]; exact hi) = l[i] := by rw [List.getElem_modify, if_neg hik]
  rw [← h]
  exact List.getElem_mem _
theorem modify_own {l : List Hd} {k : Nat} {d : Int} (hk : k < l.length) : hUse d l[k] ∈ l.modify k (hUse d) := by
  have h : (l.modify k (hUse d))[k]'(by rw [List.length_modify]; exact hk) = hUse d l[k] := by rw [List.getElem_modify, if_pos rfl]
  rw [← h]
  exact List.getElem_mem _

structure Log (l : List Hd) (log : List (List UInt8)) : Prop where
  cnt : ∀ h ∈ l, h.2.1 = ((log.count h.2.2 : Nat) : Int)
  has : ∀ s ∈ log, ∃ u, (idOfL s, u, s) ∈ l
  only : ∀ h ∈ l, h.2.2 ∈ log
theorem Log.nil : Log [] [] := ⟨fun h hm => by simp at hm, fun s hm => by simp at hm, fun h hm => by simp at hm⟩
theorem Log.none {l : List Hd} (h : Log l []) : l = [] := by
  cases l with
  | nil => rfl
  | cons x r => have := h.only x (List.mem_cons_self ..); simp at this
theorem Log.used {l : List Hd} {log : List (List UInt8)} (h : Log l log) : ∀ x ∈ l, 1 ≤ x.2.1 := fun x hx => by
  have h1 := List.count_pos_iff.2 (h.only x hx)
  rw [h.cnt x hx]
  omega
theorem Log.sweep {l : List Hd} {log : List (List UInt8)} (h : Log l log) : (hSweep l).2 = l := by
  show l.filter _ = l
  rw [List.filter_eq_self]
  intro x hx
  have := h.used x hx
  have hn : ¬ x.2.1 = 0 := by omega
  simp [unused, hn]
theorem Log.one {U : Int} {l : List Hd} {log : List (List UInt8)} (hok : BinOk U l) (h : Log l log) {s : List UInt8} (hs : s ∈ log) : ∃ (k : Nat) (hk : k < l.length), hFind l (idOfL s) = some k ∧ l[k].1 = idOfL s ∧ l[k].2.2 = s := by
  obtain ⟨u, hu⟩ := h.has s hs
  obtain ⟨k, hk⟩ := hFind_mem hu
  obtain ⟨hkl, he⟩ := hFind_some hk
  have e := rise_inj hok.rise (List.getElem_mem hkl) hu he
  exact ⟨k, hkl, hk, he, by rw [e]⟩
theorem Log.get {U : Int} {l : List Hd} {log : List (List UInt8)} (hok : BinOk U l) (h : Log l log) {s : List UInt8} (hs : s ∈ log) : hGet l (idOfL s) = (s, 0) := by
  obtain ⟨k, hk, hf, _, ht⟩ := h.one hok hs
  simp only [hGet, hf, List.getElem?_eq_getElem hk, Option.map_some, Option.getD_some, ht]
theorem Log.miss {U : Int} {l : List Hd} {log : List (List UInt8)} (hok : BinOk U l) (h : Log l log) {x : Nat × Int} (hs : ∀ t ∈ log, idOfL t ≠ x) : hGet l x = ([], 5) := by
  have hf : hFind l x = .none := hFind_none l x fun j hj e => by
    have hm := List.getElem_mem hj
    exact hs _ (h.only _ hm) ((hok.each _ hm).1.symm.trans e)
  simp only [hGet, hf]
theorem Log.same {U : Int} {l : List Hd} {log : List (List UInt8)} (hok : BinOk U l) (h : Log l log) {s t : List UInt8} (hs : s ∈ log) (ht : t ∈ log) (e : idOfL s = idOfL t) : s = t := by
  have h1 := h.get hok hs
  have h2 := h.get hok ht
  rw [e, h2] at h1
  exact (Prod.ext_iff.1 h1).1.symm
theorem Log.unput {l : List Hd} {s : List UInt8} (he : (hPut l s).1.2.2 ≠ 0) : (hPut l s).2 = l := by
  revert he
  unfold hPut
  split
  · exact fun _ => rfl
  · split
    · split
      · exact fun h => absurd rfl h
      · exact fun _ => rfl
    · split
      · exact fun _ => rfl
      · exact fun h => absurd rfl h
theorem Log.put {U : Int} {l : List Hd} {log : List (List UInt8)} (hok : BinOk U l) (h : Log l log) {s : List UInt8} (he : (hPut l s).1.2.2 = 0) : (hPut l s).1.1 = idOfL s ∧ Log (hPut l s).2 (log ++ [s]) := by
  revert he
  unfold hPut
  split
  · exact fun h => by simp at h
  · split
    · rename_i k hf
      obtain ⟨hk, hid⟩ := hFind_some hf
      split
      · rename_i ht
        intro _
        rw [List.getElem?_eq_getElem hk, Option.map_some] at ht
        have ht : l[k].2.2 = s := Option.some.inj ht
        refine ⟨rfl, fun z hz => ?_, fun t hm => ?_, fun z hz => ?_⟩
        · rcases modify_all hok.rise hk hz with ⟨hm, hn⟩ | rfl
          · have hne : s ≠ z.2.2 := fun e => hn (((hok.each z hm).1.trans (by rw [← e])).trans hid.symm)
            rw [h.cnt z hm, List.count_append, List.count_singleton]
            simp [hne]
          · show l[k].2.1 + 1 = ((log ++ [s]).count l[k].2.2 : Nat)
            rw [h.cnt _ (List.getElem_mem hk), ht, List.count_append, List.count_singleton_self]
            omega
        · by_cases e : t = s
          · subst e
            refine ⟨l[k].2.1 + 1, ?_⟩
            have := modify_own (d := 1) hk
            rw [hUse, hid, ht] at this
            exact this
          · have hm : t ∈ log := by
              rcases List.mem_append.1 hm with hm | hm
              · exact hm
              · exact absurd (List.mem_singleton.1 hm) e
            obtain ⟨u, hu⟩ := h.has t hm
            refine ⟨u, modify_other hk hu fun e2 => ?_⟩
            have := rise_inj hok.rise hu (List.getElem_mem hk) e2
            exact e (by rw [← ht, ← this])
        · rcases modify_all hok.rise hk hz with ⟨hm, hn⟩ | rfl
          · exact List.mem_append_left _ (h.only z hm)
          · exact List.mem_append_left _ (h.only l[k] (List.getElem_mem hk))
      · exact fun h => by simp at h
    · rename_i hf
      split
      · exact fun h => by simp at h
      · intro _
        have hno : s ∉ log := fun hs => by
          obtain ⟨u, hu⟩ := h.has s hs
          exact hFind_not hf _ hu rfl
        refine ⟨rfl, fun z hz => ?_, fun t hm => ?_, fun z hz => ?_⟩
        · rcases hIns_mem hz with rfl | hm
          · show (1 : Int) = ((log ++ [s]).count s : Nat)
            rw [List.count_append, List.count_singleton_self, List.count_eq_zero.2 hno]
            rfl
          · have hne : s ≠ z.2.2 := fun e => hno (e ▸ h.only z hm)
            rw [h.cnt z hm, List.count_append, List.count_singleton]
            simp [hne]
        · rcases List.mem_append.1 hm with hm | hm
          · obtain ⟨u, hu⟩ := h.has t hm
            exact ⟨u, mem_hIns (.inr hu)⟩
          · rw [List.mem_singleton.1 hm]
            exact ⟨1, mem_hIns (.inl rfl)⟩
        · rcases hIns_mem hz with rfl | hm
          · exact List.mem_append_right _ (List.mem_singleton.2 rfl)
          · exact List.mem_append_left _ (h.only z hm)
theorem Log.drop {U : Int} {l : List Hd} {s : List UInt8} {r : List (List UInt8)} (hok : BinOk U l) (h : Log l (s :: r)) : (hDrop l (idOfL s)).1 = 0 ∧ Log (hSweep (hDrop l (idOfL s)).2).2 r := by
  obtain ⟨k, hk, hf, hid, ht⟩ := h.one hok (List.mem_cons_self ..)
  have hc : l[k].2.1 = ((r.count s : Nat) : Int) + 1 := by
    rw [h.cnt _ (List.getElem_mem hk), ht, List.count_cons_self]
    omega
  have e : hDrop l (idOfL s) = (0, l.modify k (hUse (-1))) := by
    have hn : ¬ (l[k]?.map (·.2.1)) = some 0 := fun e => by
      rw [List.getElem?_eq_getElem hk, Option.map_some] at e
      have := Option.some.inj e
      omega
    simp only [hDrop, hf, if_neg hn]
  rw [e]
  refine ⟨rfl, fun z hz => ?_, fun t hm => ?_, fun z hz => ?_⟩
  · obtain ⟨hz, hu⟩ := List.mem_filter.1 hz
    rcases modify_all hok.rise hk hz with ⟨hm, hn⟩ | rfl
    · have hne : s ≠ z.2.2 := fun e => hn (((hok.each z hm).1.trans (by rw [← e])).trans hid.symm)
      rw [h.cnt z hm, List.count_cons_of_ne hne]
    · show l[k].2.1 + -1 = ((r.count l[k].2.2 : Nat) : Int)
      rw [hc, ht]
      omega
  · obtain ⟨u, hu⟩ := h.has t (List.mem_cons_of_mem _ hm)
    have hcp : 1 ≤ r.count t := List.count_pos_iff.2 hm
    by_cases e : t = s
    · subst e
      have ho := modify_own (d := -1) hk
      rw [hUse, hid, ht, hc] at ho
      refine ⟨_, List.mem_filter.2 ⟨ho, ?_⟩⟩
      have : ¬ (((r.count t : Nat) : Int) + 1 + -1) = 0 := by omega
      simp [unused, this]
    · refine ⟨u, List.mem_filter.2 ⟨modify_other hk hu fun e2 => ?_, ?_⟩⟩
      · have := rise_inj hok.rise hu (List.getElem_mem hk) e2
        exact e (by rw [← ht, ← this])
      · have := h.used _ hu
        have hn : ¬ u = 0 := by have h1 : 1 ≤ u := this; omega
        simp [unused, hn]
  · obtain ⟨hz, hu⟩ := List.mem_filter.1 hz
    rcases modify_all hok.rise hk hz with ⟨hm, hn⟩ | rfl
    · have hne : z.2.2 ≠ s := fun e => hn (((hok.each z hm).1.trans (by rw [e])).trans hid.symm)
      rcases List.mem_cons.1 (h.only z hm) with e | hm
      · exact absurd e hne
      · exact hm
    · show l[k].2.2 ∈ r
      rw [ht]
      have hnz : ¬ (l[k].2.1 + -1 = 0) := by
        intro e
        have : unused (hUse (-1) l[k]) = true := by simp only [unused, hUse, e]; rfl
        rw [this] at hu
        cases hu
      exact List.count_pos_iff.1 (by omega)
end Go.Proofs.YtjdobbjdlighpabGreatDoor
namespace Go.Proofs.YtjdobbjdlighpabGreatDoor
open Go.RowKit

abbrev strB (s : List UInt8) : Value := .string ⟨s.toArray⟩
def idC : List (Nat × Int) → List Value
  | [] => []
  | x :: r => .int .u32 (x.1 : Nat) :: .int .i64 x.2 :: idC r
theorem idC_append : ∀ (a b : List (Nat × Int)), idC (a ++ b) = idC a ++ idC b
  | [], _ => rfl
  | x :: r, b => by rw [List.cons_append, idC, idC_append r b, idC]; rfl
theorem idC_at : ∀ (a : List (Nat × Int)) (i : Nat) (h : i < a.length), (idC a)[i * 2]? = some (.int .u32 (a[i].1 : Nat)) ∧ (idC a)[i * 2 + 1]? = some (.int .i64 a[i].2)
  | x :: r, 0, _ => ⟨rfl, rfl⟩
  | x :: r, i + 1, h => by
    have := idC_at r i (by simpa using h)
    rw [idC, show (i + 1) * 2 = i * 2 + 1 + 1 by omega]
    simpa using this

structure UseSt (PB : PBin) (w W : World) (p : Addr) (F : Nat → Prop) (l : List Hd) (vt vi : Value) (lt li : List (List UInt8)) : Prop where
  below : Below w.heap.size w W
  pb : PB W p F l
  pnew : ∀ k, F k → w.heap.size ≤ k
  rt : W.ownsRow w.heap.size 9 1 vt lt.length (lt.map strB)
  ri : W.ownsRow w.heap.size 25 2 vi li.length (idC (li.map idOfL))
  pt : ∀ k, F k → vt.ownBlock ≠ some k
  pi : ∀ k, F k → vi.ownBlock ≠ some k
  ti : ∀ k, vt.ownBlock = some k → vi.ownBlock ≠ some k
theorem row_lt {w : World} {base : Nat} {e : TypeId} {size : Nat} {v : Value} {n : Nat} {xs : List Value} (h : w.ownsRow base e size v n xs) {j : Nat} (hj : v.ownBlock = some j) : j < w.heap.size := by
  obtain ⟨_, h⟩ := h
  rcases h with ⟨rfl, _⟩ | ⟨g, cap, cur, rfl, _, hh, _⟩
  · simp [Value.ownBlock] at hj
  · simp [Value.ownBlock] at hj
    subst hj
    exact lt_of_block hh
theorem row_ge {w : World} {base : Nat} {e : TypeId} {size : Nat} {v : Value} {n : Nat} {xs : List Value} (h : w.ownsRow base e size v n xs) {j : Nat} (hj : v.ownBlock = some j) : base ≤ j := by
  obtain ⟨_, h⟩ := h
  rcases h with ⟨rfl, _⟩ | ⟨g, cap, cur, rfl, hg, _⟩
  · simp [Value.ownBlock] at hj
  · simp [Value.ownBlock] at hj; omega
theorem UseSt.start {PB : PBin} {w W : World} {p : Addr} {F : Nat → Prop} (hb : Below w.heap.size w W) (hP : PB W p F []) (hF : ∀ k, F k → w.heap.size ≤ k) : UseSt PB w W p F [] (.slice none 0 0) (.slice none 0 0) [] [] :=
  ⟨hb, hP, hF, World.ownsRow_nil _ _ _ _, World.ownsRow_nil _ _ _ _, fun _ _ h => by simp [Value.ownBlock] at h, fun _ _ h => by simp [Value.ownBlock] at h, fun _ h => by simp [Value.ownBlock] at h⟩
theorem UseSt.next {a : Nat → Addr} {Env : World → Prop} {PB : PBin} (S : BinSpec a Env PB) {w W W' : World} {p : Addr} {F : Nat → Prop} {l : List Hd} {vt vi : Value} {lt li : List (List UInt8)} (h : UseSt PB w W p F l vt vi lt li) (hb : Below W.heap.size W W') : UseSt PB w W' p F l vt vi lt li :=
  ⟨h.below.trans (hb.mono h.below.size), S.below h.pb hb, h.pnew, row_below h.rt hb, row_below h.ri hb, h.pt, h.pi, h.ti⟩
theorem UseSt.prog {PB : PBin} {w W W' : World} {p : Addr} {F F' : Nat → Prop} {l l' : List Hd} {vt vi : Value} {lt li : List (List UInt8)} (h : UseSt PB w W p F l vt vi lt li) (hp : PB W' p F' l') (hF : ∀ k, F' k → F k ∨ W.heap.size ≤ k) (ho : Off F W W') : UseSt PB w W' p F' l' vt vi lt li := by
  refine ⟨h.below.trans (ho.below h.below.size (fun k hk hf => by have := h.pnew k hf; omega)), hp, fun k hk => ?_, ho.row h.rt (fun k hk hf => h.pt k hf hk), ho.row h.ri (fun k hk hf => h.pi k hf hk), fun k hk e => ?_, fun k hk e => ?_, h.ti⟩
  · rcases hF k hk with hk | hk
    · exact h.pnew k hk
    · exact Nat.le_trans h.below.size hk
  · rcases hF k hk with hk | hk
    · exact h.pt k hk e
    · have := row_lt h.rt e; omega
  · rcases hF k hk with hk | hk
    · exact h.pi k hk e
    · have := row_lt h.ri e; omega
theorem off_of_rowgrown {w w' : World} {row : Option Nat} (h : w.grownBy w' row) : Off (fun k => row = some k) w w' := ⟨h.os, h.tape, h.output, h.size, fun k hk hn => h.block k hk (fun e => hn e.symm)⟩
theorem UseSt.text {a : Nat → Addr} {Env : World → Prop} {PB : PBin} (S : BinSpec a Env PB) {w W W' : World} {p : Addr} {F : Nat → Prop} {l : List Hd} {vt vi vt' : Value} {lt li lt' : List (List UInt8)} (h : UseSt PB w W p F l vt vi lt li) (hg : W.grownBy W' vt.ownBlock) (hr : W'.ownsRow w.heap.size 9 1 vt' lt'.length (lt'.map strB)) (hv : vt'.ownBlock = vt.ownBlock ∨ vt'.ownBlock = some W.heap.size) : UseSt PB w W' p F l vt' vi lt' li := by
  have ho := off_of_rowgrown hg
  refine ⟨h.below.trans (ho.below h.below.size (fun k hk e => by have := row_ge h.rt e; omega)), S.off h.pb ho (fun k hk e => h.pt k hk e), h.pnew, hr, ho.row h.ri (fun k hk e => h.ti k e hk), fun k hk e => ?_, h.pi, fun k e e2 => ?_⟩
  · rcases hv with hv | hv
    · exact h.pt k hk (hv ▸ e)
    · have := S.lt h.pb k hk
      rw [hv] at e
      have := Option.some.inj e
      omega
  · rcases hv with hv | hv
    · exact h.ti k (hv ▸ e) e2
    · have := row_lt h.ri e2
      rw [hv] at e
      have := Option.some.inj e
      omega
theorem UseSt.id {a : Nat → Addr} {Env : World → Prop} {PB : PBin} (S : BinSpec a Env PB) {w W W' : World} {p : Addr} {F : Nat → Prop} {l : List Hd} {vt vi vi' : Value} {lt li li' : List (List UInt8)} (h : UseSt PB w W p F l vt vi lt li) (hg : W.grownBy W' vi.ownBlock) (hr : W'.ownsRow w.heap.size 25 2 vi' li'.length (idC (li'.map idOfL))) (hv : vi'.ownBlock = vi.ownBlock ∨ vi'.ownBlock = some W.heap.size) : UseSt PB w W' p F l vt vi' lt li' := by
  have ho := off_of_rowgrown hg
  refine ⟨h.below.trans (ho.below h.below.size (fun k hk e => by have := row_ge h.ri e; omega)), S.off h.pb ho (fun k hk e => h.pi k hk e), h.pnew, ho.row h.rt (fun k hk e => h.ti k hk e), hr, h.pt, fun k hk e => ?_, fun k e e2 => ?_⟩
  · rcases hv with hv | hv
    · exact h.pi k hk (hv ▸ e)
    · have := S.lt h.pb k hk
      rw [hv] at e
      have := Option.some.inj e
      omega
  · rcases hv with hv | hv
    · exact h.ti k e (hv ▸ e2)
    · have := row_lt h.rt e
      rw [hv] at e2
      have := Option.some.inj e2
      omega
theorem add_plain (g j : Nat) : (⟨g, 0, none⟩ : Addr).add j = ⟨g, j, none⟩ := by
  by_cases h : j = 0
  · subst h; rfl
  · simp [Addr.add, h]
/- Element i of both rows, as the walks ask it: where the row lies. -/
theorem UseSt.cells {PB : PBin} {w W : World} {p : Addr} {F : Nat → Prop} {l : List Hd} {vt vi : Value} {lt li : List (List UInt8)} (h : UseSt PB w W p F l vt vi lt li) (hn : li ≠ []) (hl : lt = li) : ∃ gt ct gi ci, vt = .slice (some ⟨gt, 0, none⟩) li.length ct ∧ vi = .slice (some ⟨gi, 0, none⟩) li.length ci ∧ ∀ i (hi : i < li.length), W.cell? ⟨gt, i, none⟩ = some (strB li[i]) ∧ W.cell? ⟨gi, i * 2, none⟩ = some (.int .u32 ((idOfL li[i]).1 : Nat)) ∧ W.cell? ⟨gi, i * 2 + 1, none⟩ = some (.int .i64 (idOfL li[i]).2) := by
  subst hl
  have hpos : lt.length ≠ 0 := by simpa using hn
  have h1 := h.rt
  have h2 := h.ri
  have k1 := h1.2
  have k2 := h2.2
  rcases k1 with ⟨_, hz⟩ | ⟨g, cap, cur, hv, _⟩
  · exact absurd hz hpos
  · rcases k2 with ⟨_, hz⟩ | ⟨g2, cap2, cur2, hv2, _⟩
    · exact absurd hz hpos
    · refine ⟨g, cap, g2, cap2, hv, hv2, fun i hi => ?_⟩
      have c1 := h1.cells (g := g) (by rw [hv]; rfl) i (strB lt[i]) (by simp [hi])
      have hm : i < (lt.map idOfL).length := by simpa using hi
      obtain ⟨e1, e2⟩ := idC_at (lt.map idOfL) i hm
      have c2 := h2.cells (g := g2) (by rw [hv2]; rfl) (i * 2) _ e1
      have c3 := h2.cells (g := g2) (by rw [hv2]; rfl) (i * 2 + 1) _ e2
      simp only [add_plain, List.getElem_map] at c1 c2 c3
      exact ⟨c1, c2, c3⟩
end Go.Proofs.YtjdobbjdlighpabGreatDoor
namespace Go.Proofs.YtjdobbjdlighpabGreatDoor
open Go.RowKit Go.Maps

/- Where a key is in a list. -/
def kFind {κ β : Type} [DecidableEq κ] : List (κ × β) → κ → Option Nat
  | [], _ => none
  | h :: r, x => if h.1 = x then some 0 else (kFind r x).map (· + 1)
def kFindI {κ β : Type} [DecidableEq κ] (l : List (κ × β)) (x : κ) : Int := match kFind l x with | some k => (k : Int) | none => -1
theorem kFind_at {κ β : Type} [DecidableEq κ] : ∀ (l : List (κ × β)) (x : κ) (k : Nat) (h : k < l.length), (∀ j (hj : j < l.length), j < k → l[j].1 ≠ x) → l[k].1 = x → kFind l x = some k
  | [], _, _, h, _, _ => by simp at h
  | y :: r, x, 0, _, _, he => by
    have he' : y.1 = x := he
    rw [kFind, if_pos he']
  | y :: r, x, k + 1, h, ha, he => by
    have h0 : y.1 ≠ x := ha 0 (by simp) (by omega)
    rw [kFind, if_neg h0, kFind_at r x k (by simpa using h) (fun j hj hk => by have := ha (j + 1) (by simpa using hj) (by omega); simpa using this) (by simpa using he)]
    rfl
theorem kFind_none {κ β : Type} [DecidableEq κ] : ∀ (l : List (κ × β)) (x : κ), (∀ j (hj : j < l.length), l[j].1 ≠ x) → kFind l x = none
  | [], _, _ => rfl
  | y :: r, x, ha => by
    have h0 : y.1 ≠ x := ha 0 (by simp)
    rw [kFind, if_neg h0, kFind_none r x (fun j hj => by have := ha (j + 1) (by simpa using hj); simpa using this)]
    rfl
theorem kFind_some {κ β : Type} [DecidableEq κ] : ∀ {l : List (κ × β)} {x : κ} {k : Nat}, kFind l x = some k → ∃ h : k < l.length, l[k].1 = x
  | [], _, _, h => by cases h
  | y :: r, x, k, h => by
    rw [kFind] at h
    split at h
    · rename_i he
      cases h
      exact ⟨by simp, he⟩
    · cases hr : kFind r x with
      | none => rw [hr] at h; cases h
      | some j =>
        rw [hr] at h
        cases h
        obtain ⟨hj, he⟩ := kFind_some hr
        exact ⟨by simpa using hj, by simpa using he⟩
theorem kFind_not {κ β : Type} [DecidableEq κ] {l : List (κ × β)} {x : κ} (h : kFind l x = none) : ∀ y ∈ l, y.1 ≠ x := by
  induction l with
  | nil => intro y hy; simp at hy
  | cons z r ih =>
    rw [kFind] at h
    split at h
    · cases h
    · rename_i hz
      have hr : kFind r x = none := by
        cases hk : kFind r x with
        | none => rfl
        | some k => rw [hk] at h; cases h
      intro y hy
      rcases List.mem_cons.1 hy with rfl | hy
      · exact hz
      · exact ih hr y hy
theorem nFile_kFind : ∀ (l : List NFile) (x : List UInt8), nFile l x = (kFind l x).bind (fun k => l[k]?.map (·.2))
  | [], _ => rfl
  | b :: r, x => by
    rw [nFile, kFind]
    by_cases e : b.1 = x
    · rw [if_pos e, if_pos e]; rfl
    · rw [if_neg e, if_neg e, nFile_kFind r x]
      cases kFind r x with
      | none => rfl
      | some k => simp
theorem nBin_kFind : ∀ (l : List NBin) (x : Nat × Int), nBin l x = (kFind l x).bind (fun k => l[k]?.map (·.2))
  | [], _ => rfl
  | b :: r, x => by
    rw [nBin, kFind]
    by_cases e : b.1 = x
    · rw [if_pos e, if_pos e]; rfl
    · rw [if_neg e, if_neg e, nBin_kFind r x]
      cases kFind r x with
      | none => rfl
      | some k => simp

/- Rows: a file with the slice of its IDs; a bin with its block and the slice of its pieces. -/
abbrev MF := NFile × Value
def mfCells : List MF → List Value
  | [] => []
  | q :: r => .string ⟨q.1.1.toArray⟩ :: .int .i64 (q.1.2.length : Int) :: .int .u32 ((pmore 2166136261 q.1.2 : Nat) : Int) :: q.2 :: mfCells r
theorem mfCells_append : ∀ (a b : List MF), mfCells (a ++ b) = mfCells a ++ mfCells b
  | [], _ => rfl
  | x :: r, b => by rw [List.cons_append, mfCells, mfCells_append r b, mfCells]; rfl
theorem mfCells_length : ∀ (a : List MF), (mfCells a).length = a.length * 4
  | [] => rfl
  | x :: r => by simp only [mfCells, List.length_cons, mfCells_length r]; omega
theorem mfCells_at : ∀ (a : List MF) (i : Nat) (h : i < a.length), (mfCells a)[i * 4]? = some (.string ⟨a[i].1.1.toArray⟩) ∧ (mfCells a)[i * 4 + 1]? = some (.int .i64 (a[i].1.2.length : Int)) ∧ (mfCells a)[i * 4 + 2]? = some (.int .u32 ((pmore 2166136261 a[i].1.2 : Nat) : Int)) ∧ (mfCells a)[i * 4 + 3]? = some a[i].2
  | x :: r, 0, _ => ⟨rfl, rfl, rfl, rfl⟩
  | x :: r, i + 1, h => by
    have := mfCells_at r i (by simpa using h)
    rw [mfCells, show (i + 1) * 4 = i * 4 + 1 + 1 + 1 + 1 by omega]
    simpa using this
abbrev MB := NBin × Nat × Value
def mbCells : List MB → List Value
  | [] => []
  | q :: r => .int .u32 (q.1.1.1 : Nat) :: .int .i64 q.1.1.2 :: .pointer (some ⟨q.2.1, 0, none⟩) :: mbCells r
theorem mbCells_append : ∀ (a b : List MB), mbCells (a ++ b) = mbCells a ++ mbCells b
  | [], _ => rfl
  | x :: r, b => by rw [List.cons_append, mbCells, mbCells_append r b, mbCells]; rfl
theorem mbCells_length : ∀ (a : List MB), (mbCells a).length = a.length * 3
  | [] => rfl
  | x :: r => by simp only [mbCells, List.length_cons, mbCells_length r]; omega
theorem mbCells_at : ∀ (a : List MB) (i : Nat) (h : i < a.length), (mbCells a)[i * 3]? = some (.int .u32 (a[i].1.1.1 : Nat)) ∧ (mbCells a)[i * 3 + 1]? = some (.int .i64 a[i].1.1.2) ∧ (mbCells a)[i * 3 + 2]? = some (.pointer (some ⟨a[i].2.1, 0, none⟩))
  | x :: r, 0, _ => ⟨rfl, rfl, rfl⟩
  | x :: r, i + 1, h => by
    have := mbCells_at r i (by simpa using h)
    rw [mbCells, show (i + 1) * 3 = i * 3 + 1 + 1 + 1 by omega]
    simpa using this
theorem mbCells_one (l : List MB) : ∀ u ∈ mbCells l, u.oneCell' = true := by
  induction l with
  | nil => simp [mbCells]
  | cons x r ih =>
    intro u hu
    simp only [mbCells, List.mem_cons] at hu
    rcases hu with rfl | rfl | rfl | hu
    · rfl
    · rfl
    · rfl
    · exact ih u hu
def mFs (ps : List MF) : List NFile := ps.map (fun q => q.1)
def mBs (bs : List MB) : List NBin := bs.map (fun q => q.1)
theorem mFs_length (ps : List MF) : (mFs ps).length = ps.length := by unfold mFs; rw [List.length_map]
theorem mBs_length (bs : List MB) : (mBs bs).length = bs.length := by unfold mBs; rw [List.length_map]
theorem mFs_get (ps : List MF) (i : Nat) (h : i < (mFs ps).length) : (mFs ps)[i] = (ps[i]'(by rw [mFs_length] at h; exact h)).1 := by simp [mFs]
theorem mBs_get (bs : List MB) (i : Nat) (h : i < (mBs bs).length) : (mBs bs)[i] = (bs[i]'(by rw [mBs_length] at h; exact h)).1 := by simp [mBs]
/- A slice of files, of bins, as it is read. -/
def FilesAt (w : World) (v : Value) (ps : List MF) : Prop :=
  ∃ (p : Option Addr) (c : Nat), v = .slice p ps.length c ∧ ∀ i (h : i < ps.length), ∃ b o, p = some ⟨b, o, none⟩ ∧ (b < w.heap.size ∧ ps.length ≤ c) ∧ w.cell? ⟨b, o + i * 4, none⟩ = some (.string ⟨ps[i].1.1.toArray⟩) ∧ w.cell? ⟨b, o + i * 4 + 1, none⟩ = some (.int .i64 (ps[i].1.2.length : Int)) ∧
    w.cell? ⟨b, o + i * 4 + 2, none⟩ = some (.int .u32 ((pmore 2166136261 ps[i].1.2 : Nat) : Int)) ∧ w.cell? ⟨b, o + i * 4 + 3, none⟩ = some ps[i].2
def BinsAt (w : World) (v : Value) (bs : List MB) : Prop :=
  ∃ (p : Option Addr) (c : Nat), v = .slice p bs.length c ∧ ∀ i (h : i < bs.length), ∃ b o, p = some ⟨b, o, none⟩ ∧ (b < w.heap.size ∧ bs.length ≤ c) ∧ w.cell? ⟨b, o + i * 3, none⟩ = some (.int .u32 (bs[i].1.1.1 : Nat)) ∧ w.cell? ⟨b, o + i * 3 + 1, none⟩ = some (.int .i64 bs[i].1.1.2) ∧
    w.cell? ⟨b, o + i * 3 + 2, none⟩ = some (.pointer (some ⟨bs[i].2.1, 0, none⟩))
theorem FilesAt.of_row {w : World} {base : Nat} {e : TypeId} {v : Value} {ps : List MF} (h : w.ownsRow base e 4 v ps.length (mfCells ps)) : FilesAt w v ps := by
  have h0 := h
  rcases h.2 with ⟨rfl, e0⟩ | ⟨g, cap, cur, hv, _, hb, hc, _⟩
  · exact ⟨none, 0, by rw [e0], fun i hi => by omega⟩
  · refine ⟨some ⟨g, 0, none⟩, cap, hv, fun i hi => ?_⟩
    obtain ⟨a0, a1, a2, a3⟩ := mfCells_at ps i hi
    have c0 := h0.cells (g := g) (by rw [hv]; rfl) (i * 4) _ a0
    have c1 := h0.cells (g := g) (by rw [hv]; rfl) (i * 4 + 1) _ a1
    have c2 := h0.cells (g := g) (by rw [hv]; rfl) (i * 4 + 2) _ a2
    have c3 := h0.cells (g := g) (by rw [hv]; rfl) (i * 4 + 3) _ a3
    simp only [add_plain] at c0 c1 c2 c3
    exact ⟨g, 0, rfl, ⟨lt_of_block hb, hc⟩, by rw [Nat.zero_add]; exact c0, by rw [Nat.zero_add]; exact c1, by rw [Nat.zero_add]; exact c2, by rw [Nat.zero_add]; exact c3⟩
theorem BinsAt.of_row {w : World} {base : Nat} {e : TypeId} {v : Value} {bs : List MB} (h : w.ownsRow base e 3 v bs.length (mbCells bs)) : BinsAt w v bs := by
  have h0 := h
  rcases h.2 with ⟨rfl, e0⟩ | ⟨g, cap, cur, hv, _, hb, hc, _⟩
  · exact ⟨none, 0, by rw [e0], fun i hi => by omega⟩
  · refine ⟨some ⟨g, 0, none⟩, cap, hv, fun i hi => ?_⟩
    obtain ⟨a0, a1, a2⟩ := mbCells_at bs i hi
    have c0 := h0.cells (g := g) (by rw [hv]; rfl) (i * 3) _ a0
    have c1 := h0.cells (g := g) (by rw [hv]; rfl) (i * 3 + 1) _ a1
    have c2 := h0.cells (g := g) (by rw [hv]; rfl) (i * 3 + 2) _ a2
    simp only [add_plain] at c0 c1 c2
    exact ⟨g, 0, rfl, ⟨lt_of_block hb, hc⟩, by rw [Nat.zero_add]; exact c0, by rw [Nat.zero_add]; exact c1, by rw [Nat.zero_add]; exact c2⟩
theorem FilesAt.below {w w' : World} {v : Value} {ps : List MF} (h : FilesAt w v ps) (hb : Below w.heap.size w w') : FilesAt w' v ps := by
  obtain ⟨p, c, hv, h⟩ := h
  refine ⟨p, c, hv, fun i hi => ?_⟩
  obtain ⟨b, o, hp, ⟨hl, hc⟩, h0, h1, h2, h3⟩ := h i hi
  exact ⟨b, o, hp, ⟨Nat.lt_of_lt_of_le hl hb.size, hc⟩, (hb.cell (p := ⟨b, o + i * 4, none⟩) hl).trans h0, (hb.cell (p := ⟨b, o + i * 4 + 1, none⟩) hl).trans h1, (hb.cell (p := ⟨b, o + i * 4 + 2, none⟩) hl).trans h2, (hb.cell (p := ⟨b, o + i * 4 + 3, none⟩) hl).trans h3⟩
theorem BinsAt.below {w w' : World} {v : Value} {bs : List MB} (h : BinsAt w v bs) (hb : Below w.heap.size w w') : BinsAt w' v bs := by
  obtain ⟨p, c, hv, h⟩ := h
  refine ⟨p, c, hv, fun i hi => ?_⟩
  obtain ⟨b, o, hp, ⟨hl, hc⟩, h0, h1, h2⟩ := h i hi
  exact ⟨b, o, hp, ⟨Nat.lt_of_lt_of_le hl hb.size, hc⟩, (hb.cell (p := ⟨b, o + i * 3, none⟩) hl).trans h0, (hb.cell (p := ⟨b, o + i * 3 + 1, none⟩) hl).trans h1, (hb.cell (p := ⟨b, o + i * 3 + 2, none⟩) hl).trans h2⟩
/- The node: its block M; vf, vb its slices. -/
def mIds (ps : List MF) (k : Nat) : Prop := ∃ q ∈ ps, idsOf q.1.2 ≠ [] ∧ q.2.ownBlock = some k
def mBins (bs : List MB) (k : Nat) : Prop := ∃ x ∈ bs, RBin.Of x.2.1 x.2.2 k
structure MSt (w : World) (M : Nat) (vf vb : Value) (ps : List MF) (bs : List MB) : Prop where
  blk : Blk w M #[vf, vb] 34
  frow : w.ownsRow 0 40 4 vf ps.length (mfCells ps)
  brow : w.ownsRow 0 92 3 vb bs.length (mbCells bs)
  ids : ∀ q ∈ ps, IdsAt w q.2 (idsOf q.1.2)
  bins : ∀ x ∈ bs, RBin w x.2.1 x.2.2 x.1.2
  mf : vf.ownBlock ≠ some M
  mb : vb.ownBlock ≠ some M
  fb : ∀ k, vf.ownBlock = some k → vb.ownBlock ≠ some k
  bm : ∀ k, mBins bs k → k ≠ M ∧ vf.ownBlock ≠ some k ∧ vb.ownBlock ≠ some k
  bb : bs.Pairwise (fun x y => ∀ k, RBin.Of x.2.1 x.2.2 k → ¬ RBin.Of y.2.1 y.2.2 k)
  io : ∀ k, mIds ps k → k ≠ M ∧ vf.ownBlock ≠ some k ∧ vb.ownBlock ≠ some k ∧ ¬ mBins bs k
def mFoot (M : Nat) (vf vb : Value) (ps : List MF) (bs : List MB) (k : Nat) : Prop := k = M ∨ vf.ownBlock = some k ∨ vb.ownBlock = some k ∨ mBins bs k ∨ mIds ps k
def MNode (w : World) (m : Addr) (G : Nat → Prop) (st : NSt) : Prop := ∃ M vf vb ps bs, m = ⟨M, 0, none⟩ ∧ MSt w M vf vb ps bs ∧ st = ⟨mFs ps, mBs bs⟩ ∧ G = mFoot M vf vb ps bs
theorem MSt.lt {w : World} {M : Nat} {vf vb : Value} {ps : List MF} {bs : List MB} (h : MSt w M vf vb ps bs) : ∀ k, mFoot M vf vb ps bs k → k < w.heap.size := by
  rintro k (rfl | hk | hk | ⟨x, hx, hk⟩ | ⟨q, hq, hne, hk⟩)
  · exact h.blk.lt
  · exact (h.frow.lt k hk).2
  · exact (h.brow.lt k hk).2
  · exact (h.bins x hx).lt hk
  · exact (h.ids q hq).lt hne hk
theorem MSt.off {w w' : World} {M : Nat} {vf vb : Value} {ps : List MF} {bs : List MB} {F : Nat → Prop} (h : MSt w M vf vb ps bs) (ho : Off F w w') (hF : ∀ k, mFoot M vf vb ps bs k → ¬ F k) : MSt w' M vf vb ps bs where
  blk := ho.blk h.blk (hF M (.inl rfl))
  frow := ho.row h.frow (fun k hk => hF k (.inr (.inl hk)))
  brow := ho.row h.brow (fun k hk => hF k (.inr (.inr (.inl hk))))
  ids q hq := (h.ids q hq).off ho (fun hne k hk => hF k (.inr (.inr (.inr (.inr ⟨q, hq, hne, hk⟩)))))
  bins x hx := (h.bins x hx).off ho (fun k hk => hF k (.inr (.inr (.inr (.inl ⟨x, hx, hk⟩)))))
  mf := h.mf
  mb := h.mb
  fb := h.fb
  bm := h.bm
  bb := h.bb
  io := h.io
theorem MSt.below {w w' : World} {M : Nat} {vf vb : Value} {ps : List MF} {bs : List MB} (h : MSt w M vf vb ps bs) (hb : Below w.heap.size w w') : MSt w' M vf vb ps bs := h.off (Off.of_below (F := fun _ => False) hb) (fun _ _ h => h)
theorem MNode.lt {w : World} {m : Addr} {G : Nat → Prop} {st : NSt} (h : MNode w m G st) : ∀ k, G k → k < w.heap.size := by
  obtain ⟨M, vf, vb, ps, bs, _, h, _, rfl⟩ := h
  exact h.lt
theorem MNode.off {w w' : World} {m : Addr} {G F : Nat → Prop} {st : NSt} (h : MNode w m G st) (ho : Off F w w') (hF : ∀ k, G k → ¬ F k) : MNode w' m G st := by
  obtain ⟨M, vf, vb, ps, bs, hm, h, hs, rfl⟩ := h
  exact ⟨M, vf, vb, ps, bs, hm, h.off ho hF, hs, rfl⟩
theorem MNode.below {w w' : World} {m : Addr} {G : Nat → Prop} {st : NSt} (h : MNode w m G st) (hb : Below w.heap.size w w') : MNode w' m G st := h.off (Off.of_below (F := fun _ => False) hb) (fun _ _ h => h)
theorem MSt.files {w : World} {M : Nat} {vf vb : Value} {ps : List MF} {bs : List MB} (h : MSt w M vf vb ps bs) : FilesAt w vf ps := FilesAt.of_row h.frow
theorem MSt.reps {w : World} {M : Nat} {vf vb : Value} {ps : List MF} {bs : List MB} (h : MSt w M vf vb ps bs) : BinsAt w vb bs := BinsAt.of_row h.brow
theorem infoMf : (Tryz.prog.info? 40).map (fun i => (i.zero, i.size, i.bytes)) = some (some (rcpV ⟨#[]⟩ 0 0 (.slice none 0 0)), 4, 56) := by kernel_rfl
theorem infoMb : (Tryz.prog.info? 92).map (fun i => (i.zero, i.size, i.bytes)) = some (some (.agg #[.int .u32 0, .int .i64 0, .pointer none]), 3, 24) := by kernel_rfl
end Go.Proofs.YtjdobbjdlighpabGreatDoor
