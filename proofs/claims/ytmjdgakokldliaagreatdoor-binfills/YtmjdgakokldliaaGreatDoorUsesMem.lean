/-
  Own text. BinUses' memory: a bin and two rows (texts, IDs) beside it, all new since w; how each step leaves them.
-/
import Derived.Test.YtmjdgakokldliaaGreatDoorBinLog
import Derived.Maps.AppendAt
namespace Go.Proofs.YtmjdgakokldliaaGreatDoor
open Go.RowKit

abbrev strB (s : List UInt8) : Value := .string ⟨s.toArray⟩
def idC : List (Nat × Int) → List Value
  | [] => []
  | x :: r => .int .u32 (x.1 : Nat) :: .int .i64 x.2 :: idC r
theorem idC_append : ∀ (a b : List (Nat × Int)), idC (a ++ b) = idC a ++ idC b
  | [], _ => rfl
  | x :: r, b => by rw [List.cons_append, idC, idC_append r b, idC]; rfl
theorem idC_at : ∀ (a : List (Nat × Int)) (i : Nat) (h : i < a.length), (idC a)[i * 2]? = some (.int .u32 (a[i].1 : Nat)) ∧ (idC a)[i * 2 + 1]? = some (.int .i64 a[i].2)
  | x :: r, 0, _ => ⟨rfl, rfl⟩
  | x :: r, i + 1, h => by
    have := idC_at r i (by simpa using h)
    rw [idC, show (i + 1) * 2 = i * 2 + 1 + 1 by omega]
    simpa using this

structure UseSt (PB : PBin) (w W : World) (p : Addr) (F : Nat → Prop) (l : List Hd) (vt vi : Value) (lt li : List (List UInt8)) : Prop where
  below : Below w.heap.size w W
  pb : PB W p F l
  pnew : ∀ k, F k → w.heap.size ≤ k
  rt : W.ownsRow w.heap.size 9 1 vt lt.length (lt.map strB)
  ri : W.ownsRow w.heap.size 40 2 vi li.length (idC (li.map idOfL))
  pt : ∀ k, F k → vt.ownBlock ≠ some k
  pi : ∀ k, F k → vi.ownBlock ≠ some k
  ti : ∀ k, vt.ownBlock = some k → vi.ownBlock ≠ some k
theorem row_lt {w : World} {base : Nat} {e : TypeId} {size : Nat} {v : Value} {n : Nat} {xs : List Value} (h : w.ownsRow base e size v n xs) {j : Nat} (hj : v.ownBlock = some j) : j < w.heap.size := by
  obtain ⟨_, h⟩ := h
  rcases h with ⟨rfl, _⟩ | ⟨g, cap, cur, rfl, _, hh, _⟩
  · simp [Value.ownBlock] at hj
  · simp [Value.ownBlock] at hj
    subst hj
    exact lt_of_block hh
theorem row_ge {w : World} {base : Nat} {e : TypeId} {size : Nat} {v : Value} {n : Nat} {xs : List Value} (h : w.ownsRow base e size v n xs) {j : Nat} (hj : v.ownBlock = some j) : base ≤ j := by
  obtain ⟨_, h⟩ := h
  rcases h with ⟨rfl, _⟩ | ⟨g, cap, cur, rfl, hg, _⟩
  · simp [Value.ownBlock] at hj
  · simp [Value.ownBlock] at hj; omega
theorem UseSt.start {PB : PBin} {w W : World} {p : Addr} {F : Nat → Prop} (hb : Below w.heap.size w W) (hP : PB W p F []) (hF : ∀ k, F k → w.heap.size ≤ k) : UseSt PB w W p F [] (.slice none 0 0) (.slice none 0 0) [] [] :=
  ⟨hb, hP, hF, World.ownsRow_nil _ _ _ _, World.ownsRow_nil _ _ _ _, fun _ _ h => by simp [Value.ownBlock] at h, fun _ _ h => by simp [Value.ownBlock] at h, fun _ h => by simp [Value.ownBlock] at h⟩
theorem UseSt.next {a : Nat → Addr} {Env : World → Prop} {PB : PBin} (S : BinSpec a Env PB) {w W W' : World} {p : Addr} {F : Nat → Prop} {l : List Hd} {vt vi : Value} {lt li : List (List UInt8)} (h : UseSt PB w W p F l vt vi lt li) (hb : Below W.heap.size W W') : UseSt PB w W' p F l vt vi lt li :=
  ⟨h.below.trans (hb.mono h.below.size), S.below h.pb hb, h.pnew, row_below h.rt hb, row_below h.ri hb, h.pt, h.pi, h.ti⟩
theorem UseSt.prog {PB : PBin} {w W W' : World} {p : Addr} {F F' : Nat → Prop} {l l' : List Hd} {vt vi : Value} {lt li : List (List UInt8)} (h : UseSt PB w W p F l vt vi lt li) (hp : PB W' p F' l') (hF : ∀ k, F' k → F k ∨ W.heap.size ≤ k) (ho : Off F W W') : UseSt PB w W' p F' l' vt vi lt li := by
  refine ⟨h.below.trans (ho.below h.below.size (fun k hk hf => by have := h.pnew k hf; omega)), hp, fun k hk => ?_, ho.row h.rt (fun k hk hf => h.pt k hf hk), ho.row h.ri (fun k hk hf => h.pi k hf hk), fun k hk e => ?_, fun k hk e => ?_, h.ti⟩
  · rcases hF k hk with hk | hk
    · exact h.pnew k hk
    · exact Nat.le_trans h.below.size hk
  · rcases hF k hk with hk | hk
    · exact h.pt k hk e
    · have := row_lt h.rt e; omega
  · rcases hF k hk with hk | hk
    · exact h.pi k hk e
    · have := row_lt h.ri e; omega
theorem off_of_rowgrown {w w' : World} {row : Option Nat} (h : w.grownBy w' row) : Off (fun k => row = some k) w w' := ⟨h.os, h.tape, h.output, h.size, fun k hk hn => h.block k hk (fun e => hn e.symm)⟩
theorem UseSt.text {a : Nat → Addr} {Env : World → Prop} {PB : PBin} (S : BinSpec a Env PB) {w W W' : World} {p : Addr} {F : Nat → Prop} {l : List Hd} {vt vi vt' : Value} {lt li lt' : List (List UInt8)} (h : UseSt PB w W p F l vt vi lt li) (hg : W.grownBy W' vt.ownBlock) (hr : W'.ownsRow w.heap.size 9 1 vt' lt'.length (lt'.map strB)) (hv : vt'.ownBlock = vt.ownBlock ∨ vt'.ownBlock = some W.heap.size) : UseSt PB w W' p F l vt' vi lt' li := by
  have ho := off_of_rowgrown hg
  refine ⟨h.below.trans (ho.below h.below.size (fun k hk e => by have := row_ge h.rt e; omega)), S.off h.pb ho (fun k hk e => h.pt k hk e), h.pnew, hr, ho.row h.ri (fun k hk e => h.ti k e hk), fun k hk e => ?_, h.pi, fun k e e2 => ?_⟩
  · rcases hv with hv | hv
    · exact h.pt k hk (hv ▸ e)
    · have := S.lt h.pb k hk
      rw [hv] at e
      have := Option.some.inj e
      omega
  · rcases hv with hv | hv
    · exact h.ti k (hv ▸ e) e2
    · have := row_lt h.ri e2
      rw [hv] at e
      have := Option.some.inj e
      omega
theorem UseSt.id {a : Nat → Addr} {Env : World → Prop} {PB : PBin} (S : BinSpec a Env PB) {w W W' : World} {p : Addr} {F : Nat → Prop} {l : List Hd} {vt vi vi' : Value} {lt li li' : List (List UInt8)} (h : UseSt PB w W p F l vt vi lt li) (hg : W.grownBy W' vi.ownBlock) (hr : W'.ownsRow w.heap.size 40 2 vi' li'.length (idC (li'.map idOfL))) (hv : vi'.ownBlock = vi.ownBlock ∨ vi'.ownBlock = some W.heap.size) : UseSt PB w W' p F l vt vi' lt li' := by
  have ho := off_of_rowgrown hg
  refine ⟨h.below.trans (ho.below h.below.size (fun k hk e => by have := row_ge h.ri e; omega)), S.off h.pb ho (fun k hk e => h.pi k hk e), h.pnew, ho.row h.rt (fun k hk e => h.ti k hk e), hr, h.pt, fun k hk e => ?_, fun k e e2 => ?_⟩
  · rcases hv with hv | hv
    · exact h.pi k hk (hv ▸ e)
    · have := S.lt h.pb k hk
      rw [hv] at e
      have := Option.some.inj e
      omega
  · rcases hv with hv | hv
    · exact h.ti k e (hv ▸ e2)
    · have := row_lt h.rt e
      rw [hv] at e2
      have := Option.some.inj e2
      omega
theorem add_plain (g j : Nat) : (⟨g, 0, none⟩ : Addr).add j = ⟨g, j, none⟩ := by
  by_cases h : j = 0
  · subst h; rfl
  · simp [Addr.add, h]
/- Element i of both rows, as the walks ask it: where the row lies. -/
theorem UseSt.cells {PB : PBin} {w W : World} {p : Addr} {F : Nat → Prop} {l : List Hd} {vt vi : Value} {lt li : List (List UInt8)} (h : UseSt PB w W p F l vt vi lt li) (hn : li ≠ []) (hl : lt = li) : ∃ gt ct gi ci, vt = .slice (some ⟨gt, 0, none⟩) li.length ct ∧ vi = .slice (some ⟨gi, 0, none⟩) li.length ci ∧ ∀ i (hi : i < li.length), W.cell? ⟨gt, i, none⟩ = some (strB li[i]) ∧ W.cell? ⟨gi, i * 2, none⟩ = some (.int .u32 ((idOfL li[i]).1 : Nat)) ∧ W.cell? ⟨gi, i * 2 + 1, none⟩ = some (.int .i64 (idOfL li[i]).2) := by
  subst hl
  have hpos : lt.length ≠ 0 := by simpa using hn
  have h1 := h.rt
  have h2 := h.ri
  have k1 := h1.2
  have k2 := h2.2
  rcases k1 with ⟨_, hz⟩ | ⟨g, cap, cur, hv, _⟩
  · exact absurd hz hpos
  · rcases k2 with ⟨_, hz⟩ | ⟨g2, cap2, cur2, hv2, _⟩
    · exact absurd hz hpos
    · refine ⟨g, cap, g2, cap2, hv, hv2, fun i hi => ?_⟩
      have c1 := h1.cells (g := g) (by rw [hv]; rfl) i (strB lt[i]) (by simp [hi])
      have hm : i < (lt.map idOfL).length := by simpa using hi
      obtain ⟨e1, e2⟩ := idC_at (lt.map idOfL) i hm
      have c2 := h2.cells (g := g2) (by rw [hv2]; rfl) (i * 2) _ e1
      have c3 := h2.cells (g := g2) (by rw [hv2]; rfl) (i * 2 + 1) _ e2
      simp only [add_plain, List.getElem_map] at c1 c2 c3
      exact ⟨c1, c2, c3⟩
end Go.Proofs.YtmjdgakokldliaaGreatDoor
