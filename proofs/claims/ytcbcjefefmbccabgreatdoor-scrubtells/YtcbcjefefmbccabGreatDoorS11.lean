/-
  Own text. BinUses' memory: a bin and two rows (texts, IDs) beside it, all new since w; how each step leaves them.
  Own text. The document's node in memory: a block with two slices, the row of its files, the row of its bins (MSt, MNode); what each step leaves of it.
  Own text. The document's scrub, from below: findBin, times by contracts.
  Own text. A range over a function whose iterator keeps state of its own in cells: a law for a loop body that writes one block of the caller's (Br) and new ones alone, and whose invariant hangs on blocks below the loop's beginning.
  Own text. The program's recipe.ofName and recipe.Name by contracts.
  Own text. IDs in memory that is followed through calls.
-/
import Derived.Test.YtcbcjefefmbccabGreatDoorS10
import Derived.Maps.AppendAt
import Derived.Test.YtcbcjefefmbccabGreatDoorS08
import Derived.Deep.QuietTactic
import Derived.RangeFuncNested
import Derived.RangeFuncLeaves
import Derived.RangeFuncCalls
import Derived.Below
import Derived.Test.YtcbcjefefmbccabGreatDoorS03
namespace Go.Proofs.YtcbcjefefmbccabGreatDoor
open Go.RowKit

abbrev strB (s : List UInt8) : Value := .string ⟨s.toArray⟩
def idC : List (Nat × Int) → List Value
  | [] => []
  | x :: r => .int .u32 (x.1 : Nat) :: .int .i64 x.2 :: idC r
theorem idC_at : ∀ (a : List (Nat × Int)) (i : Nat) (h : i < a.length), (idC a)[i * 2]? = some (.int .u32 (a[i].1 : Nat)) ∧ (idC a)[i * 2 + 1]? = some (.int .i64 a[i].2)
  | x :: r, 0, _ => ⟨rfl, rfl⟩
  | x :: r, i + 1, h => by
    have := idC_at r i (by simpa using h)
    rw [idC, show (i + 1) * 2 = i * 2 + 1 + 1 by omega]
    simpa using this

structure UseSt (PB : PBin) (w W : World) (p : Addr) (F : Nat → Prop) (l : List Hd) (vt vi : Value) (lt li : List (List UInt8)) : Prop where
  below : Below w.heap.size w W
  pb : PB W p F l
  pnew : ∀ k, F k → w.heap.size ≤ k
  rt : W.ownsRow w.heap.size 9 1 vt lt.length (lt.map strB)
  ri : W.ownsRow w.heap.size 25 2 vi li.length (idC (li.map idOfL))
  pt : ∀ k, F k → vt.ownBlock ≠ some k
  pi : ∀ k, F k → vi.ownBlock ≠ some k
  ti : ∀ k, vt.ownBlock = some k → vi.ownBlock ≠ some k
theorem row_lt {w : World} {base : Nat} {e : TypeId} {size : Nat} {v : Value} {n : Nat} {xs : List Value} (h : w.ownsRow base e size v n xs) {j : Nat} (hj : v.ownBlock = some j) : j < w.heap.size := by
  obtain ⟨_, h⟩ := h
  rcases h with ⟨rfl, _⟩ | ⟨g, cap, cur, rfl, _, hh, _⟩
  · simp [Value.ownBlock] at hj
  · simp [Value.ownBlock] at hj
    subst hj
    exact lt_of_block hh
theorem row_ge {w : World} {base : Nat} {e : TypeId} {size : Nat} {v : Value} {n : Nat} {xs : List Value} (h : w.ownsRow base e size v n xs) {j : Nat} (hj : v.ownBlock = some j) : base ≤ j := by
  obtain ⟨_, h⟩ := h
  rcases h with ⟨rfl, _⟩ | ⟨g, cap, cur, rfl, hg, _⟩
  · simp [Value.ownBlock] at hj
  · simp [Value.ownBlock] at hj; omega
theorem UseSt.start {PB : PBin} {w W : World} {p : Addr} {F : Nat → Prop} (hb : Below w.heap.size w W) (hP : PB W p F []) (hF : ∀ k, F k → w.heap.size ≤ k) : UseSt PB w W p F [] (.slice none 0 0) (.slice none 0 0) [] [] :=
  ⟨hb, hP, hF, World.ownsRow_nil _ _ _ _, World.ownsRow_nil _ _ _ _, fun _ _ h => by simp [Value.ownBlock] at h, fun _ _ h => by simp [Value.ownBlock] at h, fun _ h => by simp [Value.ownBlock] at h⟩
theorem UseSt.next {a : Nat → Addr} {Env : World → Prop} {PB : PBin} (S : BinSpec a Env PB) {w W W' : World} {p : Addr} {F : Nat → Prop} {l : List Hd} {vt vi : Value} {lt li : List (List UInt8)} (h : UseSt PB w W p F l vt vi lt li) (hb : Below W.heap.size W W') : UseSt PB w W' p F l vt vi lt li :=
  ⟨h.below.trans (hb.mono h.below.size), S.below h.pb hb, h.pnew, row_below h.rt hb, row_below h.ri hb, h.pt, h.pi, h.ti⟩
theorem UseSt.prog {PB : PBin} {w W W' : World} {p : Addr} {F F' : Nat → Prop} {l l' : List Hd} {vt vi : Value} {lt li : List (List UInt8)} (h : UseSt PB w W p F l vt vi lt li) (hp : PB W' p F' l') (hF : ∀ k, F' k → F k ∨ W.heap.size ≤ k) (ho : Off F W W') : UseSt PB w W' p F' l' vt vi lt li := by
  refine ⟨h.below.trans (ho.below h.below.size (fun k hk hf => by have := h.pnew k hf; omega)), hp, fun k hk => ?_, ho.row h.rt (fun k hk hf => h.pt k hf hk), ho.row h.ri (fun k hk hf => h.pi k hf hk), fun k hk e => ?_, fun k hk e => ?_, h.ti⟩
  · rcases hF k hk with hk | hk
    · exact h.pnew k hk
    · exact Nat.le_trans h.below.size hk
  · rcases hF k hk with hk | hk
    · exact h.pt k hk e
    · have := row_lt h.rt e; omega
  · rcases hF k hk with hk | hk
    · exact h.pi k hk e
    · have := row_lt h.ri e; omega
theorem off_of_rowgrown {w w' : World} {row : Option Nat} (h : w.grownBy w' row) : Off (fun k => row = some k) w w' := ⟨h.os, h.tape, h.output, h.size, fun k hk hn => h.block k hk (fun e => hn e.symm)⟩
theorem UseSt.text {a : Nat → Addr} {Env : World → Prop} {PB : PBin} (S : BinSpec a Env PB) {w W W' : World} {p : Addr} {F : Nat → Prop} {l : List Hd} {vt vi vt' : Value} {lt li lt' : List (List UInt8)} (h : UseSt PB w W p F l vt vi lt li) (hg : W.grownBy W' vt.ownBlock) (hr : W'.ownsRow w.heap.size 9 1 vt' lt'.length (lt'.map strB)) (hv : vt'.ownBlock = vt.ownBlock ∨ vt'.ownBlock = some W.heap.size) : UseSt PB w W' p F l vt' vi lt' li := by
  have ho := off_of_rowgrown hg
  refine ⟨h.below.trans (ho.below h.below.size (fun k hk e => by have := row_ge h.rt e; omega)), S.off h.pb ho (fun k hk e => h.pt k hk e), h.pnew, hr, ho.row h.ri (fun k hk e => h.ti k e hk), fun k hk e => ?_, h.pi, fun k e e2 => ?_⟩
  · rcases hv with hv | hv
    · exact h.pt k hk (hv ▸ e)
    · have := S.lt h.pb k hk
      rw [hv] at e
      have := Option.some.inj e
      omega
  · rcases hv with hv | hv
    · exact h.ti k (hv ▸ e) e2
    · have := row_lt h.ri e2
      rw [hv] at e
      have := Option.some.inj e
      omega
theorem UseSt.id {a : Nat → Addr} {Env : World → Prop} {PB : PBin} (S : BinSpec a Env PB) {w W W' : World} {p : Addr} {F : Nat → Prop} {l : List Hd} {vt vi vi' : Value} {lt li li' : List (List UInt8)} (h : UseSt PB w W p F l vt vi lt li) (hg : W.grownBy W' vi.ownBlock) (hr : W'.ownsRow w.heap.size 25 2 vi' li'.length (idC (li'.map idOfL))) (hv : vi'.ownBlock = vi.ownBlock ∨ vi'.ownBlock = some W.heap.size) : UseSt PB w W' p F l vt vi' lt li' := by
  have ho := off_of_rowgrown hg
  refine ⟨h.below.trans (ho.below h.below.size (fun k hk e => by have := row_ge h.ri e; omega)), S.off h.pb ho (fun k hk e => h.pi k hk e), h.pnew, ho.row h.rt (fun k hk e => h.ti k hk e), hr, h.pt, fun k hk e => ?_, fun k e e2 => ?_⟩
  · rcases hv with hv | hv
    · exact h.pi k hk (hv ▸ e)
    · have := S.lt h.pb k hk
      rw [hv] at e
      have := Option.some.inj e
      omega
  · rcases hv with hv | hv
    · exact h.ti k e (hv ▸ e2)
    · have := row_lt h.rt e
      rw [hv] at e2
      have := Option.some.inj e2
      omega
theorem add_plain (g j : Nat) : (⟨g, 0, none⟩ : Addr).add j = ⟨g, j, none⟩ := by
  by_cases h : j = 0
  · subst h; rfl
  · simp [Addr.add, h]
/- Element i of both rows, as the walks ask it: where the row lies. -/
theorem UseSt.cells {PB : PBin} {w W : World} {p : Addr} {F : Nat → Prop} {l : List Hd} {vt vi : Value} {lt li : List (List UInt8)} (h : UseSt PB w W p F l vt vi lt li) (hn : li ≠ []) (hl : lt = li) : ∃ gt ct gi ci, vt = .slice (some ⟨gt, 0, none⟩) li.length ct ∧ vi = .slice (some ⟨gi, 0, none⟩) li.length ci ∧ ∀ i (hi : i < li.length), W.cell? ⟨gt, i, none⟩ = some (strB li[i]) ∧ W.cell? ⟨gi, i * 2, none⟩ = some (.int .u32 ((idOfL li[i]).1 : Nat)) ∧ W.cell? ⟨gi, i * 2 + 1, none⟩ = some (.int .i64 (idOfL li[i]).2) := by
  subst hl
  have hpos : lt.length ≠ 0 := by simpa using hn
  have h1 := h.rt
  have h2 := h.ri
  have k1 := h1.2
  have k2 := h2.2
  rcases k1 with ⟨_, hz⟩ | ⟨g, cap, cur, hv, _⟩
  · exact absurd hz hpos
  · rcases k2 with ⟨_, hz⟩ | ⟨g2, cap2, cur2, hv2, _⟩
    · exact absurd hz hpos
    · refine ⟨g, cap, g2, cap2, hv, hv2, fun i hi => ?_⟩
      have c1 := h1.cells (g := g) (by rw [hv]; rfl) i (strB lt[i]) (by simp [hi])
      have hm : i < (lt.map idOfL).length := by simpa using hi
      obtain ⟨e1, e2⟩ := idC_at (lt.map idOfL) i hm
      have c2 := h2.cells (g := g2) (by rw [hv2]; rfl) (i * 2) _ e1
      have c3 := h2.cells (g := g2) (by rw [hv2]; rfl) (i * 2 + 1) _ e2
      simp only [add_plain, List.getElem_map] at c1 c2 c3
      exact ⟨c1, c2, c3⟩
end Go.Proofs.YtcbcjefefmbccabGreatDoor
namespace Go.Proofs.YtcbcjefefmbccabGreatDoor
open Go.RowKit Go.Maps

/- Where a key is in a list. -/
def kFind {κ β : Type} [DecidableEq κ] : List (κ × β) → κ → Option Nat
  | [], _ => none
  | h :: r, x => if h.1 = x then some 0 else (kFind r x).map (· + 1)
def kFindI {κ β : Type} [DecidableEq κ] (l : List (κ × β)) (x : κ) : Int := match kFind l x with | some k => (k : Int) | none => -1
theorem kFind_at {κ β : Type} [DecidableEq κ] : ∀ (l : List (κ × β)) (x : κ) (k : Nat) (h : k < l.length), (∀ j (hj : j < l.length), j < k → l[j].1 ≠ x) → l[k].1 = x → kFind l x = some k
  | [], _, _, h, _, _ => by simp at h
  | y :: r, x, 0, _, _, he => by
    have he' : y.1 = x := he
    rw [kFind, if_pos he']
  | y :: r, x, k + 1, h, ha, he => by
    have h0 : y.1 ≠ x := ha 0 (by simp) (by omega)
    rw [kFind, if_neg h0, kFind_at r x k (by simpa using h) (fun j hj hk => by have := ha (j + 1) (by simpa using hj) (by omega); simpa using this) (by simpa using he)]
    rfl
theorem kFind_none {κ β : Type} [DecidableEq κ] : ∀ (l : List (κ × β)) (x : κ), (∀ j (hj : j < l.length), l[j].1 ≠ x) → kFind l x = none
  | [], _, _ => rfl
  | y :: r, x, ha => by
    have h0 : y.1 ≠ x := ha 0 (by simp)
    rw [kFind, if_neg h0, kFind_none r x (fun j hj => by have := ha (j + 1) (by simpa using hj); simpa using this)]
    rfl
theorem kFind_some {κ β : Type} [DecidableEq κ] : ∀ {l : List (κ × β)} {x : κ} {k : Nat}, kFind l x = some k → ∃ h : k < l.length, l[k].1 = x
  | [], _, _, h => by cases h
  | y :: r, x, k, h => by
    rw [kFind] at h
    split at h
    · rename_i he
      cases h
      exact ⟨by simp, he⟩
    · cases hr : kFind r x with
      | none => rw [hr] at h; cases h
      | some j =>
        rw [hr] at h
        cases h
        obtain ⟨hj, he⟩ := kFind_some hr
        exact ⟨by simpa using hj, by simpa using he⟩
theorem nBin_kFind : ∀ (l : List NBin) (x : Nat × Int), nBin l x = (kFind l x).bind (fun k => l[k]?.map (·.2))
  | [], _ => rfl
  | b :: r, x => by
    rw [nBin, kFind]
    by_cases e : b.1 = x
    · rw [if_pos e, if_pos e]; rfl
    · rw [if_neg e, if_neg e, nBin_kFind r x]
      cases kFind r x with
      | none => rfl
      | some k => simp

/- Rows: a file with the slice of its IDs; a bin with its block and the slice of its pieces. -/
abbrev MF := NFile × Value
def mfCells : List MF → List Value
  | [] => []
  | q :: r => .string ⟨q.1.1.toArray⟩ :: .int .i64 (q.1.2.length : Int) :: .int .u32 ((pmore 2166136261 q.1.2 : Nat) : Int) :: q.2 :: mfCells r
theorem mfCells_at : ∀ (a : List MF) (i : Nat) (h : i < a.length), (mfCells a)[i * 4]? = some (.string ⟨a[i].1.1.toArray⟩) ∧ (mfCells a)[i * 4 + 1]? = some (.int .i64 (a[i].1.2.length : Int)) ∧ (mfCells a)[i * 4 + 2]? = some (.int .u32 ((pmore 2166136261 a[i].1.2 : Nat) : Int)) ∧ (mfCells a)[i * 4 + 3]? = some a[i].2
  | x :: r, 0, _ => ⟨rfl, rfl, rfl, rfl⟩
  | x :: r, i + 1, h => by
    have := mfCells_at r i (by simpa using h)
    rw [mfCells, show (i + 1) * 4 = i * 4 + 1 + 1 + 1 + 1 by omega]
    simpa using this
abbrev MB := NBin × Nat × Value
def mbCells : List MB → List Value
  | [] => []
  | q :: r => .int .u32 (q.1.1.1 : Nat) :: .int .i64 q.1.1.2 :: .pointer (some ⟨q.2.1, 0, none⟩) :: mbCells r
theorem mbCells_at : ∀ (a : List MB) (i : Nat) (h : i < a.length), (mbCells a)[i * 3]? = some (.int .u32 (a[i].1.1.1 : Nat)) ∧ (mbCells a)[i * 3 + 1]? = some (.int .i64 a[i].1.1.2) ∧ (mbCells a)[i * 3 + 2]? = some (.pointer (some ⟨a[i].2.1, 0, none⟩))
  | x :: r, 0, _ => ⟨rfl, rfl, rfl⟩
  | x :: r, i + 1, h => by
    have := mbCells_at r i (by simpa using h)
    rw [mbCells, show (i + 1) * 3 = i * 3 + 1 + 1 + 1 by omega]
    simpa using this
def mFs (ps : List MF) : List NFile := ps.map (fun q => q.1)
def mBs (bs : List MB) : List NBin := bs.map (fun q => q.1)
/- A slice of files, of bins, as it is read. -/
def FilesAt (w : World) (v : Value) (ps : List MF) : Prop :=
  ∃ (p : Option Addr) (c : Nat), v = .slice p ps.length c ∧ ∀ i (h : i < ps.length), ∃ b o, p = some ⟨b, o, none⟩ ∧ (b < w.heap.size ∧ ps.length ≤ c) ∧ w.cell? ⟨b, o + i * 4, none⟩ = some (.string ⟨ps[i].1.1.toArray⟩) ∧ w.cell? ⟨b, o + i * 4 + 1, none⟩ = some (.int .i64 (ps[i].1.2.length : Int)) ∧
    w.cell? ⟨b, o + i * 4 + 2, none⟩ = some (.int .u32 ((pmore 2166136261 ps[i].1.2 : Nat) : Int)) ∧ w.cell? ⟨b, o + i * 4 + 3, none⟩ = some ps[i].2
def BinsAt (w : World) (v : Value) (bs : List MB) : Prop :=
  ∃ (p : Option Addr) (c : Nat), v = .slice p bs.length c ∧ ∀ i (h : i < bs.length), ∃ b o, p = some ⟨b, o, none⟩ ∧ (b < w.heap.size ∧ bs.length ≤ c) ∧ w.cell? ⟨b, o + i * 3, none⟩ = some (.int .u32 (bs[i].1.1.1 : Nat)) ∧ w.cell? ⟨b, o + i * 3 + 1, none⟩ = some (.int .i64 bs[i].1.1.2) ∧
    w.cell? ⟨b, o + i * 3 + 2, none⟩ = some (.pointer (some ⟨bs[i].2.1, 0, none⟩))
theorem FilesAt.of_row {w : World} {base : Nat} {e : TypeId} {v : Value} {ps : List MF} (h : w.ownsRow base e 4 v ps.length (mfCells ps)) : FilesAt w v ps := by
  have h0 := h
  rcases h.2 with ⟨rfl, e0⟩ | ⟨g, cap, cur, hv, _, hb, hc, _⟩
  · exact ⟨none, 0, by rw [e0], fun i hi => by omega⟩
  · refine ⟨some ⟨g, 0, none⟩, cap, hv, fun i hi => ?_⟩
    obtain ⟨a0, a1, a2, a3⟩ := mfCells_at ps i hi
    have c0 := h0.cells (g := g) (by rw [hv]; rfl) (i * 4) _ a0
    have c1 := h0.cells (g := g) (by rw [hv]; rfl) (i * 4 + 1) _ a1
    have c2 := h0.cells (g := g) (by rw [hv]; rfl) (i * 4 + 2) _ a2
    have c3 := h0.cells (g := g) (by rw [hv]; rfl) (i * 4 + 3) _ a3
    simp only [add_plain] at c0 c1 c2 c3
    exact ⟨g, 0, rfl, ⟨lt_of_block hb, hc⟩, by rw [Nat.zero_add]; exact c0, by rw [Nat.zero_add]; exact c1, by rw [Nat.zero_add]; exact c2, by rw [Nat.zero_add]; exact c3⟩
theorem BinsAt.of_row {w : World} {base : Nat} {e : TypeId} {v : Value} {bs : List MB} (h : w.ownsRow base e 3 v bs.length (mbCells bs)) : BinsAt w v bs := by
  have h0 := h
  rcases h.2 with ⟨rfl, e0⟩ | ⟨g, cap, cur, hv, _, hb, hc, _⟩
  · exact ⟨none, 0, by rw [e0], fun i hi => by omega⟩
  · refine ⟨some ⟨g, 0, none⟩, cap, hv, fun i hi => ?_⟩
    obtain ⟨a0, a1, a2⟩ := mbCells_at bs i hi
    have c0 := h0.cells (g := g) (by rw [hv]; rfl) (i * 3) _ a0
    have c1 := h0.cells (g := g) (by rw [hv]; rfl) (i * 3 + 1) _ a1
    have c2 := h0.cells (g := g) (by rw [hv]; rfl) (i * 3 + 2) _ a2
    simp only [add_plain] at c0 c1 c2
    exact ⟨g, 0, rfl, ⟨lt_of_block hb, hc⟩, by rw [Nat.zero_add]; exact c0, by rw [Nat.zero_add]; exact c1, by rw [Nat.zero_add]; exact c2⟩
theorem FilesAt.below {w w' : World} {v : Value} {ps : List MF} (h : FilesAt w v ps) (hb : Below w.heap.size w w') : FilesAt w' v ps := by
  obtain ⟨p, c, hv, h⟩ := h
  refine ⟨p, c, hv, fun i hi => ?_⟩
  obtain ⟨b, o, hp, ⟨hl, hc⟩, h0, h1, h2, h3⟩ := h i hi
  exact ⟨b, o, hp, ⟨Nat.lt_of_lt_of_le hl hb.size, hc⟩, (hb.cell (p := ⟨b, o + i * 4, none⟩) hl).trans h0, (hb.cell (p := ⟨b, o + i * 4 + 1, none⟩) hl).trans h1, (hb.cell (p := ⟨b, o + i * 4 + 2, none⟩) hl).trans h2, (hb.cell (p := ⟨b, o + i * 4 + 3, none⟩) hl).trans h3⟩
theorem BinsAt.below {w w' : World} {v : Value} {bs : List MB} (h : BinsAt w v bs) (hb : Below w.heap.size w w') : BinsAt w' v bs := by
  obtain ⟨p, c, hv, h⟩ := h
  refine ⟨p, c, hv, fun i hi => ?_⟩
  obtain ⟨b, o, hp, ⟨hl, hc⟩, h0, h1, h2⟩ := h i hi
  exact ⟨b, o, hp, ⟨Nat.lt_of_lt_of_le hl hb.size, hc⟩, (hb.cell (p := ⟨b, o + i * 3, none⟩) hl).trans h0, (hb.cell (p := ⟨b, o + i * 3 + 1, none⟩) hl).trans h1, (hb.cell (p := ⟨b, o + i * 3 + 2, none⟩) hl).trans h2⟩
/- The node: its block M; vf, vb its slices. -/
def mIds (ps : List MF) (k : Nat) : Prop := ∃ q ∈ ps, idsOf q.1.2 ≠ [] ∧ q.2.ownBlock = some k
def mBins (bs : List MB) (k : Nat) : Prop := ∃ x ∈ bs, RBin.Of x.2.1 x.2.2 k
structure MSt (w : World) (M : Nat) (vf vb : Value) (ps : List MF) (bs : List MB) : Prop where
  blk : Blk w M #[vf, vb] 34
  frow : w.ownsRow 0 40 4 vf ps.length (mfCells ps)
  brow : w.ownsRow 0 92 3 vb bs.length (mbCells bs)
  ids : ∀ q ∈ ps, IdsAt w q.2 (idsOf q.1.2)
  bins : ∀ x ∈ bs, RBin w x.2.1 x.2.2 x.1.2
  mf : vf.ownBlock ≠ some M
  mb : vb.ownBlock ≠ some M
  fb : ∀ k, vf.ownBlock = some k → vb.ownBlock ≠ some k
  bm : ∀ k, mBins bs k → k ≠ M ∧ vf.ownBlock ≠ some k ∧ vb.ownBlock ≠ some k
  bb : bs.Pairwise (fun x y => ∀ k, RBin.Of x.2.1 x.2.2 k → ¬ RBin.Of y.2.1 y.2.2 k)
  io : ∀ k, mIds ps k → k ≠ M ∧ vf.ownBlock ≠ some k ∧ vb.ownBlock ≠ some k ∧ ¬ mBins bs k
def mFoot (M : Nat) (vf vb : Value) (ps : List MF) (bs : List MB) (k : Nat) : Prop := k = M ∨ vf.ownBlock = some k ∨ vb.ownBlock = some k ∨ mBins bs k ∨ mIds ps k
def MNode (w : World) (m : Addr) (G : Nat → Prop) (st : NSt) : Prop := ∃ M vf vb ps bs, m = ⟨M, 0, none⟩ ∧ MSt w M vf vb ps bs ∧ st = ⟨mFs ps, mBs bs⟩ ∧ G = mFoot M vf vb ps bs
theorem MSt.lt {w : World} {M : Nat} {vf vb : Value} {ps : List MF} {bs : List MB} (h : MSt w M vf vb ps bs) : ∀ k, mFoot M vf vb ps bs k → k < w.heap.size := by
  rintro k (rfl | hk | hk | ⟨x, hx, hk⟩ | ⟨q, hq, hne, hk⟩)
  · exact h.blk.lt
  · exact (h.frow.lt k hk).2
  · exact (h.brow.lt k hk).2
  · exact (h.bins x hx).lt hk
  · exact (h.ids q hq).lt hne hk
theorem MSt.off {w w' : World} {M : Nat} {vf vb : Value} {ps : List MF} {bs : List MB} {F : Nat → Prop} (h : MSt w M vf vb ps bs) (ho : Off F w w') (hF : ∀ k, mFoot M vf vb ps bs k → ¬ F k) : MSt w' M vf vb ps bs where
  blk := ho.blk h.blk (hF M (.inl rfl))
  frow := ho.row h.frow (fun k hk => hF k (.inr (.inl hk)))
  brow := ho.row h.brow (fun k hk => hF k (.inr (.inr (.inl hk))))
  ids q hq := (h.ids q hq).off ho (fun hne k hk => hF k (.inr (.inr (.inr (.inr ⟨q, hq, hne, hk⟩)))))
  bins x hx := (h.bins x hx).off ho (fun k hk => hF k (.inr (.inr (.inr (.inl ⟨x, hx, hk⟩)))))
  mf := h.mf
  mb := h.mb
  fb := h.fb
  bm := h.bm
  bb := h.bb
  io := h.io
theorem MSt.below {w w' : World} {M : Nat} {vf vb : Value} {ps : List MF} {bs : List MB} (h : MSt w M vf vb ps bs) (hb : Below w.heap.size w w') : MSt w' M vf vb ps bs := h.off (Off.of_below (F := fun _ => False) hb) (fun _ _ h => h)
theorem MNode.lt {w : World} {m : Addr} {G : Nat → Prop} {st : NSt} (h : MNode w m G st) : ∀ k, G k → k < w.heap.size := by
  obtain ⟨M, vf, vb, ps, bs, _, h, _, rfl⟩ := h
  exact h.lt
theorem MNode.off {w w' : World} {m : Addr} {G F : Nat → Prop} {st : NSt} (h : MNode w m G st) (ho : Off F w w') (hF : ∀ k, G k → ¬ F k) : MNode w' m G st := by
  obtain ⟨M, vf, vb, ps, bs, hm, h, hs, rfl⟩ := h
  exact ⟨M, vf, vb, ps, bs, hm, h.off ho hF, hs, rfl⟩
theorem MNode.below {w w' : World} {m : Addr} {G : Nat → Prop} {st : NSt} (h : MNode w m G st) (hb : Below w.heap.size w w') : MNode w' m G st := h.off (Off.of_below (F := fun _ => False) hb) (fun _ _ h => h)
theorem MSt.files {w : World} {M : Nat} {vf vb : Value} {ps : List MF} {bs : List MB} (h : MSt w M vf vb ps bs) : FilesAt w vf ps := FilesAt.of_row h.frow
theorem MSt.reps {w : World} {M : Nat} {vf vb : Value} {ps : List MF} {bs : List MB} (h : MSt w M vf vb ps bs) : BinsAt w vb bs := BinsAt.of_row h.brow
end Go.Proofs.YtcbcjefefmbccabGreatDoor
namespace Go.Proofs.YtcbcjefefmbccabGreatDoor
open Go.RowKit Go.Maps

set_option maxRecDepth 100000 in
set_option maxHeartbeats 4000000 in
theorem findBin_any (v : Value) (bs : List NBin) (x : Nat × Int) (w : World) (hn : bs.length ≤ 1000) (hv : LoadsAt w v bs) :
    Calls Tryz.prog 127 #[v, idV (x.1 : Nat) x.2] w fun e w' => e = .returned (.int .i64 (kFindI bs x)) ∧ Below w.heap.size w w' := by
  obtain ⟨pa, c, rfl, hcell⟩ := hv
  have hl2 : (bs.length : Int) ≤ 1000 := by omega
  have HC := hideN hcell
  clear hcell hn
  have hx := Blk.new w #[.int .u32 (x.1 : Nat), .int .i64 x.2] 25
  have hal : Below w.heap.size w (w.alloc (.cells #[.int .u32 (x.1 : Nat), .int .i64 x.2] 25)) := (Below.refl _ w).alloc (Nat.le_refl _) _
  go_enter Tryz.func127, Tryz.ntmps127
  go_wp2_with fail
  obtain ⟨W, hW⟩ : ∃ W, w.alloc (.cells #[.int .u32 (x.1 : Nat), .int .i64 x.2] 25) = W := ⟨_, rfl⟩
  rw [hW] at hx hal ⊢
  have x0 := hx.cell (i := 0) rfl
  have x1 := hx.cell (i := 1) rfl
  clear hW
  go_loopw [5] (fun i wr => ∃ j m : Nat, j ≤ bs.length ∧ i = .int .i64 j ∧ wr = W.drewN m ∧ ∀ k (hk : k < bs.length), k < j → bs[k].1 ≠ x) (fun i _ => bs.length - (intOf i).toNat)
  case atStart => exact ⟨0, 0, Nat.zero_le _, rfl, rfl, fun k _ h => by omega⟩
  case round =>
    obtain ⟨j, m, hj, rfl, rfl, hno⟩ := hrel
    have HNO : Hid (∀ k (hk : k < bs.length), k < j → bs[k].1 ≠ x) := hno
    clear hno
    by_cases hlt : j < bs.length
    · obtain ⟨ba, oa, vi, rfl, hL⟩ := HC.out j hlt
      have hlt' : (j : Int) < (bs.length : Int) := by omega
      have a0' := (hal.cell (p := ⟨ba, oa + j * 3, none⟩) hL.lt).trans hL.c0
      have a1' := (hal.cell (p := ⟨ba, oa + j * 3 + 1, none⟩) hL.lt).trans hL.c1
      have HNX : Hid (bs[j].1 ≠ x → ∀ k (hk : k < bs.length), k < j + 1 → bs[k].1 ≠ x) := fun hne k hk hkj => by
        rcases Nat.lt_or_ge k j with h' | h'
        · exact HNO.out k hk h'
        · obtain rfl : k = j := by omega
          exact hne
      have HAT : Hid (bs[j].1 = x → kFindI bs x = (j : Int)) := fun he => by unfold kFindI; rw [kFind_at bs x j hlt HNO.out he]
      obtain ⟨y, hy⟩ : ∃ y, bs[j].1 = y := ⟨_, rfl⟩
      rw [hy] at a0' a1' HNX HAT
      clear hy hL
      obtain ⟨yp, yl⟩ := y
      obtain ⟨xp, xl⟩ := x
      simp only at a0' a1' x0 x1
      by_cases e1 : (yp : Int) = (xp : Int)
      · by_cases e2 : yl = xl
        · have HE : Hid (kFindI bs (xp, xl) = (j : Int)) := HAT.out (by rw [e2, show yp = xp by omega])
          clear HAT HNX
          subst e2
          obtain rfl : yp = xp := by omega
          go_wp2_with fail
          go_quiet (fail)
          go_wp2_with fail
          go_ret
          exact ⟨by rw [HE.out]; rfl, ⟨hal.os, hal.tape, hal.output, hal.size, fun k hk => hal.block k hk⟩⟩
        · have HE : Hid (∀ k (hk : k < bs.length), k < j + 1 → bs[k].1 ≠ (xp, xl)) := HNX.out (fun e => e2 (Prod.mk.inj e).2)
          clear HAT HNX
          obtain rfl : yp = xp := by omega
          have e2' : (yl == xl) = false := beq_eq_false_iff_ne.2 e2
          go_wp2_with fail
          go_quiet (fail)
          go_wp2_with fail
          go_roundw
          case rel => exact ⟨j + 1, _, by omega, by go_num, rfl, HE.out⟩
          case measure => simp [intOf]; omega
      · have HE : Hid (∀ k (hk : k < bs.length), k < j + 1 → bs[k].1 ≠ (xp, xl)) := HNX.out (fun e => e1 (by rw [(Prod.mk.inj e).1]))
        clear HAT HNX
        have e1' : ((yp : Int) == (xp : Int)) = false := beq_eq_false_iff_ne.2 e1
        go_wp2_with fail
        go_quiet (fail)
        go_wp2_with fail
        go_roundw
        case rel => exact ⟨j + 1, _, by omega, by go_num, rfl, HE.out⟩
        case measure => simp [intOf]; omega
    · have hge : (bs.length : Int) ≤ (j : Int) := by omega
      have HE : Hid (kFindI bs x = -1) := by
        show _ = _
        unfold kFindI
        rw [kFind_none _ _ (fun k hk => HNO.out k hk (by omega))]
      go_wp2_with fail
      go_ret
      exact ⟨by rw [HE.out]; rfl, ⟨hal.os, hal.tape, hal.output, hal.size, fun k hk => hal.block k hk⟩⟩
set_option maxRecDepth 100000 in
set_option maxHeartbeats 4000000 in
theorem times_any (nm : ByteArray) (len p : Int) (v : Value) (ids : List (Nat × Int)) (x : Nat × Int) (w : World) (hn : ids.length ≤ 1000) (hv : IdsAt w v ids) :
    Calls Tryz.prog 129 #[rcpV nm len p v, idV (x.1 : Nat) x.2] w fun e w' => e = .returned (.int .i64 (ids.count x : Nat)) ∧ Below w.heap.size w w' := by
  obtain ⟨pa, c, rfl, hcell⟩ := hv
  have hl2 : (ids.length : Int) ≤ 1000 := by omega
  have HC := hideN hcell
  have hal1 := (Below.refl w.heap.size w).alloc (Nat.le_refl _) (.cells #[.string nm, .int .i64 len, .int .u32 p, .slice pa ids.length c] 40)
  have hr1 := Blk.new w #[.string nm, .int .i64 len, .int .u32 p, .slice pa ids.length c] 40
  have hal2 := (Below.refl _ (w.alloc (.cells #[.string nm, .int .i64 len, .int .u32 p, .slice pa ids.length c] 40))).alloc (Nat.le_refl _) (.cells #[.int .u32 (x.1 : Nat), .int .i64 x.2] 25)
  have hx := Blk.new (w.alloc (.cells #[.string nm, .int .i64 len, .int .u32 p, .slice pa ids.length c] 40)) #[.int .u32 (x.1 : Nat), .int .i64 x.2] 25
  have hs1 : (w.alloc (.cells #[.string nm, .int .i64 len, .int .u32 p, .slice pa ids.length c] 40)).heap.size = w.heap.size + 1 := by simp
  rw [hs1] at hx
  have hr := hr1.next hal2
  have hal : Below w.heap.size w _ := hal1.trans (hal2.mono hal1.size)
  have HLN := hideN hn
  clear hcell hn hal1 hr1 hal2 hs1
  go_enter Tryz.func129, Tryz.ntmps129
  go_wp2_with fail
  obtain ⟨W, hW⟩ : ∃ W, (w.alloc (.cells #[.string nm, .int .i64 len, .int .u32 p, .slice pa ids.length c] 40)).alloc (.cells #[.int .u32 (x.1 : Nat), .int .i64 x.2] 25) = W := ⟨_, rfl⟩
  rw [hW] at hx hal hr ⊢
  have x0 := hx.cell (i := 0) rfl
  have x1 := hx.cell (i := 1) rfl
  have r3 := hr.cell (i := 3) rfl
  clear hW
  go_loopw [5, 6] (fun n i wr => ∃ j m : Nat, j ≤ ids.length ∧ i = .int .i64 j ∧ n = .int .i64 ((ids.take j).count x : Nat) ∧ wr = W.drewN m) (fun _ i _ => ids.length - (intOf i).toNat)
  case atStart => exact ⟨0, 0, Nat.zero_le _, rfl, rfl, rfl⟩
  case round =>
    obtain ⟨j, m, hj, rfl, rfl, rfl⟩ := hrel
    by_cases hlt : j < ids.length
    · obtain ⟨ba, oa, rfl, hlb, a0, a1⟩ := HC.out j hlt
      have hlt' : (j : Int) < (ids.length : Int) := by omega
      have a0' := (hal.cell (p := ⟨ba, oa + j * 2, none⟩) hlb).trans a0
      have a1' := (hal.cell (p := ⟨ba, oa + j * 2 + 1, none⟩) hlb).trans a1
      have HTK : Hid ((ids.take (j + 1)).count x = (ids.take j).count x + if ids[j] = x then 1 else 0) := by
        show _ = _
        rw [List.take_succ_eq_append_getElem hlt, List.count_append, List.count_singleton]
        congr 1
        by_cases e : ids[j] = x <;> simp [e]
      have hcl : ((ids.take j).count x : Int) ≤ 1000 := by have h1 := List.count_le_length (a := x) (l := ids.take j); rw [List.length_take] at h1; have := HLN.out; omega
      have hc0 : (0 : Int) ≤ ((ids.take j).count x : Int) := by omega
      obtain ⟨n, hnn⟩ : ∃ n : Nat, (ids.take j).count x = n := ⟨_, rfl⟩
      rw [hnn] at HTK hcl hc0 ⊢
      obtain ⟨y, hy⟩ : ∃ y, ids[j] = y := ⟨_, rfl⟩
      rw [hy] at a0' a1' HTK
      clear hy a0 a1 hlb hnn
      obtain ⟨yp, yl⟩ := y
      obtain ⟨xp, xl⟩ := x
      simp only at a0' a1' x0 x1
      by_cases e1 : (yp : Int) = (xp : Int)
      · by_cases e2 : yl = xl
        · subst e2
          obtain rfl : yp = xp := by omega
          have HE : Hid ((ids.take (j + 1)).count (yp, yl) = n + 1) := by have := HTK.out; rw [if_pos rfl] at this; exact this
          clear HTK
          go_wp2_with fail
          go_quiet (fail)
          go_wp2_with fail
          go_roundw
          case rel => exact ⟨j + 1, _, by omega, by go_num, by rw [HE.out]; go_num, rfl⟩
          case measure => simp [intOf]; omega
        · have HE : Hid ((ids.take (j + 1)).count (xp, xl) = n) := by have := HTK.out; rw [if_neg (fun e => e2 (Prod.mk.inj e).2)] at this; exact this
          clear HTK
          obtain rfl : yp = xp := by omega
          have e2' : (yl == xl) = false := beq_eq_false_iff_ne.2 e2
          go_wp2_with fail
          go_quiet (fail)
          go_wp2_with fail
          go_roundw
          case rel => exact ⟨j + 1, _, by omega, by go_num, by rw [HE.out], rfl⟩
          case measure => simp [intOf]; omega
      · have HE : Hid ((ids.take (j + 1)).count (xp, xl) = n) := by have := HTK.out; rw [if_neg (fun e => e1 (by rw [(Prod.mk.inj e).1]))] at this; exact this
        clear HTK
        have e1' : ((yp : Int) == (xp : Int)) = false := beq_eq_false_iff_ne.2 e1
        go_wp2_with fail
        go_quiet (fail)
        go_wp2_with fail
        go_roundw
        case rel => exact ⟨j + 1, _, by omega, by go_num, by rw [HE.out], rfl⟩
        case measure => simp [intOf]; omega
    · have hge : (ids.length : Int) ≤ (j : Int) := by omega
      rw [List.take_of_length_le (by omega)]
      go_wp2_with fail
      go_ret
      exact ⟨rfl, ⟨hal.os, hal.tape, hal.output, hal.size, fun k hk => hal.block k hk⟩⟩
end Go.Proofs.YtcbcjefefmbccabGreatDoor
namespace Go.Proofs.YtcbcjefefmbccabGreatDoor
open Go.RowKit

def KeptBut (Br : Nat) (W W' : World) : Prop := ∀ b o, W.heap[b]? = some o → b ≠ Br → W'.heap[b]? = some o
theorem KeptBut.refl (Br : Nat) (W : World) : KeptBut Br W W := fun _ _ h _ => h
theorem KeptBut.trans {Br : Nat} {A B C : World} (h : KeptBut Br A B) (k : KeptBut Br B C) : KeptBut Br A C := fun b o hb hn => k b o (h b o hb hn) hn
theorem KeptBut.alloc (Br : Nat) (W : World) (o : Obj) : KeptBut Br W (W.alloc o) := fun b _ hb _ => (Below.heap_alloc W o b (Array.getElem?_eq_some_iff.1 hb).1).trans hb
theorem KeptBut.setCell (W : World) (a : Addr) (u : Value) : KeptBut a.block W (W.setCell a u) := fun b _ hb hn => (Below.heap_setCell W a u b hn).trans hb
def KeptCells (Br : Nat) (W W' : World) : Prop := ∀ b o, W.heap[b]? = some o → o.isCells = true → b ≠ Br → W'.heap[b]? = some o
theorem below_put {B l : Nat} (A : World) (o : Obj) (h : B ≤ l) : Below B A (A.putObj l o) := ⟨rfl, rfl, rfl, by simp, fun k hk => World.putObj_heap_other (by omega)⟩

/- What an iterator owes: J hangs on blocks below the world in which the iterator began; a round keeps all cells but those of block Br. -/
def SeqLow {α : Type} (F : Fence) (n : Nat) (P : Program) (g : Nat) (lb : Array Value) (encs : α → Array Value) (Br : Nat) (S : List α → Prop) (N : Nat) (w : World) : Prop :=
  ∀ (l : Nat) (J : List α → World → Prop) (W : World), Below w.heap.size w W → (∀ pre A B, J pre A → Below W.heap.size A B → J pre B) →
    (∀ pre x W1, J pre W1 → pre.length < N → YieldAt F (n - 1) P l (encs x) W1 fun e W' => e = .returned (.bool true) ∧ J (pre ++ [x]) W' ∧ KeptCells Br W1 W') →
    J [] W → CallsIn F n P g (#[.func (.yield l) #[] #[]] ++ lb) W fun e W' => (∃ v, e = .returned v) ∧ ∃ xs, S xs ∧ J xs W'

theorem range_low {α : Type} {F : Fence} {n : Nat} {P : Program} {g : Operand} {ps : Array Tmp} {assign body : Code} {Q : Exit → Act → World → Prop} {a : Act} {w : World}
    (hro : F.round = none) (h1 : 1 ≤ n) {gf : Nat} {lb : Array Value} (hg : a.eval g = .func (.func gf) #[] lb) (hFg : F.fn gf) (eg : ∀ args w, (callFunc gf args).run P w = .ok (.enter gf args) w)
    {encs : α → Array Value} {Br : Nat} {S : List α → Prop} {N : Nat} {w0 : World} (hseq : SeqLow F (n - 1) P gf lb encs Br S N w0)
    (hBr : Br < w.heap.size) (hb0 : Below w0.heap.size w0 w) (hps : ∀ x, (encs x).size = ps.size)
    (I : List α → World → Prop) (hI : ∀ pre A B, I pre A → Below w.heap.size A B → I pre B) (h0 : I [] w)
    (Ax : α → Act → World → Prop) (hAx : ∀ x a' A l o, (∃ r, A.heap[l]? = some (.loop r)) → Ax x a' A → Ax x a' (A.putObj l o))
    (hassign : ∀ (l : Nat) (pre : List α) (x : α) (W : World) (K : Act → World → Prop), w.heap.size ≤ W.heap.size → I pre W → (∀ a' W', KeptBut Br W W' → I pre W' → Ax x a' W' → K a' W') →
      assign.wpIn (F.inRound l) (n - 1 - 1) P (Exit.then K (fun _ _ _ => False)) { tmps := (ps.zip (encs x)).foldl (fun t (p, v) => t.setIfInBounds p v) a.tmps, defers := [] } W)
    (hbody : ∀ (l : Nat) (pre : List α) (x : α) (a' : Act) (W : World), I pre W → Ax x a' W → pre.length < N → body.wpIn (F.inRound l) (n - 1 - 1) P (fun e _ W' => e = .normal ∧ KeptBut Br W W' ∧ I (pre ++ [x]) W') a' W)
    (hdone : ∀ (D : Nat) (xs : List α) (W : World), w.heap.size ≤ D → S xs → I xs W → W.heap[D]? = some (.deferred (some [])) → Q .normal { a with defers := { target := .collected D, args := #[] } :: a.defers } W) :
    (Code.rangeFunc g ps assign body).wpIn F n P Q a w := by
  refine wpIn_rangeFunc ?_
  intro fn hfn
  rw [hro]
  obtain ⟨lp, hlp⟩ : ∃ lp : LoopState → Loop, lp = fun st => { state := st, pending := none, fn, tmps := a.tmps, params := ps, assign, body, defers := w.heap.size } := ⟨_, rfl⟩
  obtain ⟨V, hV⟩ : ∃ V, (w.alloc (.deferred (some []))).alloc (.loop (lp .ready)) = V := ⟨_, rfl⟩
  have hVs : V.heap.size = w.heap.size + 2 := by rw [← hV]; simp
  have hVl : V.heap[w.heap.size + 1]? = some (.loop (lp .ready)) := by
    rw [← hV]
    have := World.alloc_heap_new (w.alloc (.deferred (some []))) (.loop (lp .ready))
    rwa [World.size_alloc] at this
  have hVd : V.heap[w.heap.size]? = some (.deferred (some [])) := by
    rw [← hV]
    exact (Below.heap_alloc _ _ _ (by simp)).trans (World.alloc_heap_new w _)
  have hVb : Below w.heap.size w V := by rw [← hV]; exact ((Below.refl _ w).alloc (Nat.le_refl _) _).alloc (by simp) _
  refine ⟨w.heap.size + 1, [{ target := .collected w.heap.size, args := #[] }], V, { target := .fn (.func gf) lb, args := #[.func (.yield (w.heap.size + 1)) #[] #[]] }, V, gf,
    #[.func (.yield (w.heap.size + 1)) #[] #[]] ++ lb, V, ?_, ?_, ?_, ?_, fun _ => h1, ?_⟩
  · rw [← hV, hlp]
    exact run_enterLoop_outer _ _ _ _ _
  · simp only [resolve, hg]
    simp [go_sem]
  · intro f' hf'
    simp [Target.leads] at hf'
    subst hf'
    exact hFg
  · simp [invoke, go_sem, eg]
  refine (hseq (w.heap.size + 1) (fun pre W => I pre W ∧ W.heap[w.heap.size + 1]? = some (.loop (lp .ready)) ∧ W.heap[w.heap.size]? = some (.deferred (some []))) V (hb0.trans (hVb.mono hb0.size))
    (fun pre A B h hb => ⟨hI pre A B h.1 (hb.mono (by omega)), (hb.block _ (by omega)).trans h.2.1, (hb.block _ (by omega)).trans h.2.2⟩) ?_ ⟨hI [] w V h0 hVb, hVl, hVd⟩).mono ?_
  · rintro pre x W ⟨hi, hl, hd⟩ hlen
    have hlt : w.heap.size + 1 < W.heap.size := (Array.getElem?_eq_some_iff.1 hl).1
    have hy := run_yield (P := P) (args := encs x) hl (by rw [hlp]; exact hps x)
    rw [hlp] at hy
    refine ⟨fn, _, assign, body, hy, roundIn_of_wpIn hfn (hassign _ pre x W _ (by omega) hi ?_)⟩
    clear hy
    intro a' Wa hka hia hax
    have hla := hka _ _ hl (by omega)
    have hda := hka _ _ hd (by omega)
    have hlta : w.heap.size + 1 < Wa.heap.size := (Array.getElem?_eq_some_iff.1 hla).1
    refine ⟨_, run_beginRound hla (by rw [hlp]), ?_⟩
    refine wpIn_mono (hbody _ pre x a' _ (hI _ _ _ hia (below_put Wa _ (by omega))) (hAx x a' Wa _ _ ⟨_, hla⟩ hax) hlen) ?_
    rintro e a3 W3 ⟨rfl, hkb, hi3⟩
    have hlb := hkb _ _ (World.putObj_heap_same hlta) (by omega)
    have hdb := hkb _ _ ((World.putObj_heap_other (w := Wa) (r := w.heap.size + 1) (k := w.heap.size) (by omega)).trans hda) (by omega)
    have hr := run_endRound (P := P) none hlb
    have hlt3 : w.heap.size + 1 < W3.heap.size := (Array.getElem?_eq_some_iff.1 hlb).1
    refine ⟨_, _, hr, rfl, ⟨hI _ _ _ hi3 (below_put W3 _ (by omega)), ?_, (World.putObj_heap_other (by omega)).trans hdb⟩, ?_⟩
    · rw [World.putObj_heap_same hlt3, hlp]
      rfl
    · intro b o hb hc hn
      have hbl : b ≠ w.heap.size + 1 := fun e => by
        subst e
        rw [hl] at hb
        cases hb
        cases hc
      exact (World.putObj_heap_other hbl).trans (hkb _ _ ((World.putObj_heap_other hbl).trans (hka _ _ hb hn)) hn)
  · rintro e W2 ⟨⟨v, rfl⟩, xs, hS, hi, hl, hd⟩
    have he := run_endLoop (P := P) hl (by rw [hlp]; simp)
    rw [hlp] at he
    exact ⟨none, _, he, hdone _ xs _ (Nat.le_refl _) hS (hI _ _ _ hi (below_put W2 _ (by omega))) ((World.putObj_heap_other (by omega)).trans hd)⟩
end Go.Proofs.YtcbcjefefmbccabGreatDoor
namespace Go.Proofs.YtcbcjefefmbccabGreatDoor
open Go.RowKit

set_option maxRecDepth 100000 in
set_option maxHeartbeats 4000000 in
theorem ofName_any (c : UInt8) (w : World) :
    Calls Tryz.prog 173 #[.int .u8 (c.toNat : Int)] w fun e w' => e = .returned (.bool (nameByte c)) ∧ w' = w := by
  have HY0 : Hid (nameByte c = decide ((97 ≤ c.toNat ∧ c.toNat ≤ 122) ∨ (48 ≤ c.toNat ∧ c.toNat ≤ 57) ∨ c.toNat = 46 ∨ c.toNat = 45)) := rfl
  obtain ⟨x, hxx⟩ : ∃ x : Int, (c.toNat : Int) = x := ⟨_, rfl⟩
  have HX : Hid ((c.toNat : Int) = x) := hxx
  rw [hxx]
  clear hxx
  rcases cases8 x with hx | hx | hx | hx | hx | hx | hx | hx
  · -- x < 45
    have e1 : decide (97 ≤ x) = false := by simp; omega
    have e2 : decide (x ≤ 122) = true := by simp; omega
    have e3 : decide (48 ≤ x) = false := by simp; omega
    have e4 : decide (x ≤ 57) = true := by simp; omega
    have f1 : x < 97 := by omega
    have f2 : x ≤ 122 := by omega
    have f3 : x < 48 := by omega
    have f4 : x ≤ 57 := by omega
    have f5 : (x == 46) = false := by rw [beq_eq_false_iff_ne]; omega
    have f6 : (x == 45) = false := by rw [beq_eq_false_iff_ne]; omega
    have HY : Hid (nameByte c = false) := by show _ = _; rw [HY0.out]; have := HX.out; simp; omega
    clear hx
    go_enter Tryz.func173, Tryz.ntmps173
    go_wp2_with fail
    go_ret
    exact ⟨by rw [HY.out]; rfl, rfl⟩
  · -- x = 45
    have e1 : decide (97 ≤ x) = false := by simp; omega
    have e2 : decide (x ≤ 122) = true := by simp; omega
    have e3 : decide (48 ≤ x) = false := by simp; omega
    have e4 : decide (x ≤ 57) = true := by simp; omega
    have f1 : x < 97 := by omega
    have f2 : x ≤ 122 := by omega
    have f3 : x < 48 := by omega
    have f4 : x ≤ 57 := by omega
    have f5 : (x == 46) = false := by rw [beq_eq_false_iff_ne]; omega
    have f6 : (x == 45) = true := by rw [beq_iff_eq]; omega
    have HY : Hid (nameByte c = true) := by show _ = _; rw [HY0.out]; have := HX.out; simp; omega
    clear hx
    go_enter Tryz.func173, Tryz.ntmps173
    go_wp2_with fail
    go_ret
    exact ⟨by rw [HY.out]; rfl, rfl⟩
  · -- x = 46
    have e1 : decide (97 ≤ x) = false := by simp; omega
    have e2 : decide (x ≤ 122) = true := by simp; omega
    have e3 : decide (48 ≤ x) = false := by simp; omega
    have e4 : decide (x ≤ 57) = true := by simp; omega
    have f1 : x < 97 := by omega
    have f2 : x ≤ 122 := by omega
    have f3 : x < 48 := by omega
    have f4 : x ≤ 57 := by omega
    have f5 : (x == 46) = true := by rw [beq_iff_eq]; omega
    have f6 : (x == 45) = false := by rw [beq_eq_false_iff_ne]; omega
    have HY : Hid (nameByte c = true) := by show _ = _; rw [HY0.out]; have := HX.out; simp; omega
    clear hx
    go_enter Tryz.func173, Tryz.ntmps173
    go_wp2_with fail
    go_ret
    exact ⟨by rw [HY.out]; rfl, rfl⟩
  · -- x = 47
    have e1 : decide (97 ≤ x) = false := by simp; omega
    have e2 : decide (x ≤ 122) = true := by simp; omega
    have e3 : decide (48 ≤ x) = false := by simp; omega
    have e4 : decide (x ≤ 57) = true := by simp; omega
    have f1 : x < 97 := by omega
    have f2 : x ≤ 122 := by omega
    have f3 : x < 48 := by omega
    have f4 : x ≤ 57 := by omega
    have f5 : (x == 46) = false := by rw [beq_eq_false_iff_ne]; omega
    have f6 : (x == 45) = false := by rw [beq_eq_false_iff_ne]; omega
    have HY : Hid (nameByte c = false) := by show _ = _; rw [HY0.out]; have := HX.out; simp; omega
    clear hx
    go_enter Tryz.func173, Tryz.ntmps173
    go_wp2_with fail
    go_ret
    exact ⟨by rw [HY.out]; rfl, rfl⟩
  · -- 48..57
    have e1 : decide (97 ≤ x) = false := by simp; omega
    have e2 : decide (x ≤ 122) = true := by simp; omega
    have e3 : decide (48 ≤ x) = true := by simp; omega
    have e4 : decide (x ≤ 57) = true := by simp; omega
    have f1 : x < 97 := by omega
    have f2 : x ≤ 122 := by omega
    have f3 : 48 ≤ x := by omega
    have f4 : x ≤ 57 := by omega
    have f5 : (x == 46) = false := by rw [beq_eq_false_iff_ne]; omega
    have f6 : (x == 45) = false := by rw [beq_eq_false_iff_ne]; omega
    have HY : Hid (nameByte c = true) := by show _ = _; rw [HY0.out]; have := HX.out; simp; omega
    clear hx
    go_enter Tryz.func173, Tryz.ntmps173
    go_wp2_with fail
    go_ret
    exact ⟨by rw [HY.out]; rfl, rfl⟩
  · -- 58..96
    have e1 : decide (97 ≤ x) = false := by simp; omega
    have e2 : decide (x ≤ 122) = true := by simp; omega
    have e3 : decide (48 ≤ x) = true := by simp; omega
    have e4 : decide (x ≤ 57) = false := by simp; omega
    have f1 : x < 97 := by omega
    have f2 : x ≤ 122 := by omega
    have f3 : 48 ≤ x := by omega
    have f4 : 57 < x := by omega
    have f5 : (x == 46) = false := by rw [beq_eq_false_iff_ne]; omega
    have f6 : (x == 45) = false := by rw [beq_eq_false_iff_ne]; omega
    have HY : Hid (nameByte c = false) := by show _ = _; rw [HY0.out]; have := HX.out; simp; omega
    clear hx
    go_enter Tryz.func173, Tryz.ntmps173
    go_wp2_with fail
    go_ret
    exact ⟨by rw [HY.out]; rfl, rfl⟩
  · -- 97..122
    have e1 : decide (97 ≤ x) = true := by simp; omega
    have e2 : decide (x ≤ 122) = true := by simp; omega
    have e3 : decide (48 ≤ x) = true := by simp; omega
    have e4 : decide (x ≤ 57) = false := by simp; omega
    have f1 : 97 ≤ x := by omega
    have f2 : x ≤ 122 := by omega
    have f3 : 48 ≤ x := by omega
    have f4 : 57 < x := by omega
    have f5 : (x == 46) = false := by rw [beq_eq_false_iff_ne]; omega
    have f6 : (x == 45) = false := by rw [beq_eq_false_iff_ne]; omega
    have HY : Hid (nameByte c = true) := by show _ = _; rw [HY0.out]; have := HX.out; simp; omega
    clear hx
    go_enter Tryz.func173, Tryz.ntmps173
    go_wp2_with fail
    go_ret
    exact ⟨by rw [HY.out]; rfl, rfl⟩
  · -- 123..
    have e1 : decide (97 ≤ x) = true := by simp; omega
    have e2 : decide (x ≤ 122) = false := by simp; omega
    have e3 : decide (48 ≤ x) = true := by simp; omega
    have e4 : decide (x ≤ 57) = false := by simp; omega
    have f1 : 97 ≤ x := by omega
    have f2 : 122 < x := by omega
    have f3 : 48 ≤ x := by omega
    have f4 : 57 < x := by omega
    have f5 : (x == 46) = false := by rw [beq_eq_false_iff_ne]; omega
    have f6 : (x == 45) = false := by rw [beq_eq_false_iff_ne]; omega
    have HY : Hid (nameByte c = false) := by show _ = _; rw [HY0.out]; have := HX.out; simp; omega
    clear hx
    go_enter Tryz.func173, Tryz.ntmps173
    go_wp2_with fail
    go_ret
    exact ⟨by rw [HY.out]; rfl, rfl⟩

theorem nameEmpty (s : ByteArray) (h : s.size < 1) : s = ⟨#[]⟩ := by
  apply ByteArray.ext; apply Array.eq_empty_of_size_eq_zero; have : s.data.size = s.size := rfl; omega
theorem notEmpty {s : ByteArray} (h : 1 ≤ s.size) : s.toList.isEmpty = false := by
  rw [← decide_eq_emptyBytes, decide_eq_false_iff_not]
  rintro rfl
  simp at h
set_option maxRecDepth 100000 in
set_option maxHeartbeats 4000000 in
theorem name_any (s : ByteArray) (hs : s.size ≤ maxLen) (w : World) :
    Calls Tryz.prog 130 #[.string s] w fun e w' => e = .returned (.bool (isName s.data.toList)) ∧ w' = w := by
  have HSL : Hid (s.data.toList.length = s.size) := by show _ = _; rw [Array.length_toList]; rfl
  have hs2 : (s.size : Int) ≤ 9223372036854775807 := by unfold maxLen at hs; omega
  clear hs
  by_cases h1 : s.size < 1
  · have e := nameEmpty s h1
    subst e
    clear h1
    go_enter Tryz.func130, Tryz.ntmps130
    go_wp2_with fail
    go_ret
    exact ⟨rfl, rfl⟩
  have he := notEmpty (show 1 ≤ s.size by omega)
  by_cases h12 : 12 < s.size
  · have h12' : (12 : Int) < (s.size : Int) := by omega
    have HV : Hid (isName s.data.toList = false) := by show _ = _; unfold isName; rw [HSL.out]; simp; omega
    clear h1 h12
    go_enter Tryz.func130, Tryz.ntmps130
    go_wp2_with fail
    go_ret
    exact ⟨by rw [HV.out]; rfl, rfl⟩
  have h12' : ¬ (12 : Int) < (s.size : Int) := by omega
  have h12d : decide ((12 : Int) < (s.size : Int)) = false := by simp; omega
  have HLE : Hid (1 ≤ s.size ∧ s.size ≤ 12) := ⟨by omega, by omega⟩
  clear h1 h12
  go_enter Tryz.func130, Tryz.ntmps130
  go_wp2_with fail
  go_loopw [13] (fun i wr => ∃ (k : Nat), k ≤ s.size ∧ i = .int .i64 k ∧ (s.data.toList.take k).all nameByte = true ∧ wr = w) (fun i _ => s.size - (intOf i).toNat)
  case atStart => exact ⟨0, Nat.zero_le _, rfl, rfl, rfl⟩
  case round =>
    obtain ⟨k, hk, rfl, ht, rfl⟩ := hrel
    have HT : Hid ((s.data.toList.take k).all nameByte = true) := ht
    clear ht
    by_cases hlt : k < s.size
    · have HG : Hid (s.data.toList[k]? = some s[k]) := by show _ = _; rw [List.getElem?_eq_getElem (by rw [HSL.out]; exact hlt)]; rfl
      have hlt' : (k : Int) < (s.size : Int) := by omega
      obtain ⟨bv, hbv⟩ : ∃ b, nameByte s[k] = b := ⟨_, rfl⟩
      have HB : Hid (nameByte s[k] = bv) := hbv
      clear hbv
      go_wp2_with fail
      refine (ofName_any s[k] _).mono ?_
      rintro e w1 ⟨rfl, hw1⟩
      subst hw1
      rw [HB.out]
      cases bv with
      | true =>
        go_wp2_with fail
        go_roundw
        case rel => exact ⟨k + 1, by omega, by go_num, nameTo_next HT.out HG.out HB.out, trivial⟩
        case measure => simp [intOf]; omega
      | false =>
        go_wp2_with fail
        go_ret
        exact ⟨by rw [isName_bad (HG.out) HB.out]; rfl, rfl⟩
    · have hge : (s.size : Int) ≤ (k : Int) := by omega
      have HV : Hid (isName s.data.toList = true) := by
        show _ = _
        have hall := HT.out
        rw [List.take_of_length_le (by rw [HSL.out]; omega)] at hall
        unfold isName
        rw [hall, HSL.out]
        have := HLE.out
        simp
        omega
      go_wp2_with fail
      go_ret
      exact ⟨by rw [HV.out]; rfl, rfl⟩
end Go.Proofs.YtcbcjefefmbccabGreatDoor
namespace Go.Proofs.YtcbcjefefmbccabGreatDoor
open Go.RowKit

theorem IdsIn.same {lo : Nat} {W W' : World} {v : Value} {ids : List (Nat × Int)} (h : IdsIn lo W v ids) (hs : SameIn lo W.heap.size W W') (hz : W.heap.size ≤ W'.heap.size) : IdsIn lo W' v ids := by
  obtain ⟨p, c, hv, h⟩ := h
  refine ⟨p, c, hv, fun i hi => ?_⟩
  obtain ⟨b, o, hp, hl, hlt, h1, h2⟩ := h i hi
  have hc : ∀ j, W'.cell? ⟨b, j, none⟩ = W.cell? ⟨b, j, none⟩ := fun j => World.cell?_of_block (w := W) (hs b hl hlt)
  exact ⟨b, o, hp, hl, Nat.lt_of_lt_of_le hlt hz, (hc _).trans h1, (hc _).trans h2⟩
end Go.Proofs.YtcbcjefefmbccabGreatDoor
