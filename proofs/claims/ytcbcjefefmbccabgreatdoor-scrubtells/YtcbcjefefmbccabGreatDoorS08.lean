/-
  Own text. A text's recipe, pure, and the document's RecipeOf by a contract: the IDs in new memory.
  Own text. The program's bin by contracts: New, Copy, Size.
  Own text. A node as files and bins (NSt), and where it lies in the program's memory (NAt, PNode).
  Own text. Recipes in memory, one behind the other (RcpsAt): name, length, print, IDs.
  Own text. (*node.Node).Bin by a contract: a copy of the bin of a rep, or nil.
  Own text. What a scrub is handed, in memory: files (RcpsAt), bins (LoadsAt); what it answers, pure (chk).
  Own text. The document's bin by contracts: SameHelds of pieces that are the same; Find; Size.
-/
import Derived.Test.YtcbcjefefmbccabGreatDoorS06
import Derived.Test.YtcbcjefefmbccabGreatDoorS07
import Derived.Test.YtcbcjefefmbccabGreatDoorS04
import Derived.Shelf.SlMaps.Clone
import Derived.Test.YtcbcjefefmbccabGreatDoorS05
import Derived.Test.YtcbcjefefmbccabGreatDoorS03
import Derived.Deep.QuietTactic
import Derived.BigQuiet
import Derived.Deep.RegionHeld3
namespace Go.Proofs.YtcbcjefefmbccabGreatDoor
open Go.RowKit

def idsOf (l : List UInt8) : List (Nat × Int) := (pieces l).map fun p => (pmore 2166136261 p, (p.length : Int))
def idCells : List (Nat × Int) → List Value
  | [] => []
  | x :: r => .int .u32 (x.1 : Nat) :: .int .i64 x.2 :: idCells r
theorem idCells_append : ∀ (a b : List (Nat × Int)), idCells (a ++ b) = idCells a ++ idCells b
  | [], _ => rfl
  | x :: r, b => by rw [List.cons_append, idCells, idCells_append r b, idCells]; rfl
theorem idCells_length : ∀ (a : List (Nat × Int)), (idCells a).length = a.length * 2
  | [] => rfl
  | x :: r => by rw [idCells, List.length_cons, List.length_cons, idCells_length r, List.length_cons]; omega
theorem idCells_at : ∀ (a : List (Nat × Int)) (i : Nat) (h : i < a.length), (idCells a)[i * 2]? = some (.int .u32 (a[i].1 : Nat)) ∧ (idCells a)[i * 2 + 1]? = some (.int .i64 a[i].2)
  | x :: r, 0, _ => ⟨rfl, rfl⟩
  | x :: r, i + 1, h => by
    have := idCells_at r i (by simpa using h)
    rw [show (i + 1) * 2 = i * 2 + 1 + 1 by omega]
    exact this
/- The same, and the IDs lie from block 'base' on. -/
def IdsIn (base : Nat) (w : World) (v : Value) (ids : List (Nat × Int)) : Prop :=
  ∃ (p : Option Addr) (c : Nat), v = .slice p ids.length c ∧ ∀ i (h : i < ids.length), ∃ b o, p = some ⟨b, o, none⟩ ∧ base ≤ b ∧ b < w.heap.size ∧ w.cell? ⟨b, o + i * 2, none⟩ = some (.int .u32 (ids[i].1 : Nat)) ∧ w.cell? ⟨b, o + i * 2 + 1, none⟩ = some (.int .i64 ids[i].2)
theorem IdsIn.at {base : Nat} {w : World} {v : Value} {ids : List (Nat × Int)} (h : IdsIn base w v ids) : IdsAt w v ids := by
  obtain ⟨p, c, hv, h⟩ := h
  refine ⟨p, c, hv, fun i hi => ?_⟩
  obtain ⟨b, o, hp, _, hlt, h1, h2⟩ := h i hi
  exact ⟨b, o, hp, hlt, h1, h2⟩
theorem IdsIn.low {base base' : Nat} {w : World} {v : Value} {ids : List (Nat × Int)} (h : IdsIn base w v ids) (hb : base' ≤ base) : IdsIn base' w v ids := by
  obtain ⟨p, c, hv, h⟩ := h
  refine ⟨p, c, hv, fun i hi => ?_⟩
  obtain ⟨b, o, hp, hl, h⟩ := h i hi
  exact ⟨b, o, hp, Nat.le_trans hb hl, h⟩
theorem IdsIn.below {base : Nat} {w w' : World} {v : Value} {ids : List (Nat × Int)} (h : IdsIn base w v ids) (hb : Below w.heap.size w w') : IdsIn base w' v ids := by
  obtain ⟨p, c, hv, h⟩ := h
  refine ⟨p, c, hv, fun i hi => ?_⟩
  obtain ⟨b, o, hp, hl, hlt, h1, h2⟩ := h i hi
  exact ⟨b, o, hp, hl, Nat.lt_of_lt_of_le hlt hb.size, (hb.cell (p := ⟨b, o + i * 2, none⟩) hlt).trans h1, (hb.cell (p := ⟨b, o + i * 2 + 1, none⟩) hlt).trans h2⟩
theorem IdsIn.setCell {base : Nat} {w : World} {v : Value} {ids : List (Nat × Int)} (h : IdsIn base w v ids) {a : Addr} (ha : a.block < base) (u : Value) : IdsIn base (w.setCell a u) v ids := by
  obtain ⟨p, c, hv, h⟩ := h
  refine ⟨p, c, hv, fun i hi => ?_⟩
  obtain ⟨b, o, hp, hl, hlt, h1, h2⟩ := h i hi
  have hn : ∀ j, a ≠ ⟨b, j, none⟩ := fun j e => by rw [e] at ha; simp at ha; omega
  exact ⟨b, o, hp, hl, by simp [World.setCell]; exact hlt, by rw [World.cell?_setCell_other _ _ _ _ (hn _)]; exact h1, by rw [World.cell?_setCell_other _ _ _ _ (hn _)]; exact h2⟩
theorem IdsIn.nil (base : Nat) (w : World) : IdsIn base w (.slice none 0 0) [] := ⟨none, 0, rfl, fun i hi => by simp at hi⟩
theorem IdsIn.of_row {w : World} {base : Nat} {e : TypeId} {v : Value} {ids : List (Nat × Int)} (h : w.ownsRow base e 2 v ids.length (idCells ids)) : IdsIn base w v ids := by
  obtain ⟨hl, h⟩ := h
  rcases h with ⟨rfl, h0⟩ | ⟨g, cap, cur, rfl, hg, hb, h1, h2, h3, h4⟩
  · exact ⟨none, 0, by rw [h0], fun i hi => by omega⟩
  · have hgl : g < w.heap.size := by
      rcases Nat.lt_or_ge g w.heap.size with h' | h'
      · exact h'
      · simp [Array.getElem?_eq_none h'] at hb
    have hc : ∀ j u, (idCells ids)[j]? = some u → w.cell? ⟨g, 0 + j, none⟩ = some u := fun j u hj => by
      have hjl : j < (idCells ids).length := (List.getElem?_eq_some_iff.1 hj).1
      have e1 : cur.toList[j]? = some u := by
        rw [← hj, ← h4, List.getElem?_take, if_pos (by omega)]
      rw [Nat.zero_add]
      simp only [World.cell?, hb]
      rw [← Array.getElem?_toList, e1]
      simp
    exact ⟨some ⟨g, 0, none⟩, cap, rfl, fun i hi => ⟨g, 0, rfl, hg, hgl, hc _ _ (idCells_at ids i hi).1, hc _ _ (idCells_at ids i hi).2⟩⟩
theorem IdsAt.of_row {w : World} {base : Nat} {e : TypeId} {v : Value} {ids : List (Nat × Int)} (h : w.ownsRow base e 2 v ids.length (idCells ids)) : IdsAt w v ids := (IdsIn.of_row h).at
theorem IdsAt.nil (w : World) : IdsAt w (.slice none 0 0) [] := ⟨none, 0, rfl, fun i hi => by simp at hi⟩
theorem two_new (W : World) (a b : Value) (t : TypeId) (B : Nat) (hB : B = W.heap.size) : ∀ j u, [a, b][j]? = some u → (W.alloc (.cells #[a, b] t)).cell? ((⟨B, 0, none⟩ : Addr).add j) = some u := by
  intro j u hj
  match j, hj with
  | 0, hj =>
    have : (⟨B, 0, none⟩ : Addr).add 0 = ⟨B, 0, none⟩ := rfl
    rw [this]
    exact new_cell W #[a, b] t (by simpa using hj) hB
  | 1, hj =>
    have : (⟨B, 0, none⟩ : Addr).add 1 = ⟨B, 1, none⟩ := rfl
    rw [this]
    exact new_cell W #[a, b] t (by simpa using hj) hB
  | j + 2, hj => simp at hj
theorem infoID : (Tryz.prog.info? 25).map (fun i => (i.zero, i.size, i.bytes)) = some (some (idV 0 0), 2, 16) := by kernel_rfl

end Go.Proofs.YtcbcjefefmbccabGreatDoor
namespace Go.Proofs.YtcbcjefefmbccabGreatDoor
open Go.RowKit Go.Maps

set_option maxRecDepth 100000 in
set_option maxHeartbeats 4000000 in
theorem pNew_any (w : World) : Calls Tryz.prog 74 #[] w fun e w' => ∃ p F, e = .returned (.pointer (some p)) ∧ PBin0 w' p F [] ∧ (∀ k, F k → w.heap.size ≤ k) ∧ Below w.heap.size w w' := by
  have hmm := @run_makeMap Tryz.prog
  have hb1 := (Below.refl w.heap.size w).alloc (Nat.le_refl _) (.map #[] 0)
  have hM := MapKit.Of.made idPieces w
  have hb2 := (Below.refl _ (w.alloc (.map #[] 0))).alloc (Nat.le_refl _) (.cells #[.map (some w.heap.size)] 151)
  have hB := Blk.new (w.alloc (.map #[] 0)) #[.map (some w.heap.size)] 151
  have hs : (w.alloc (.map #[] 0)).heap.size = w.heap.size + 1 := by simp
  rw [hs] at hB
  go_enter Tryz.func74, Tryz.ntmps74
  go_wp2_with fail
  go_ret
  exact ⟨⟨w.heap.size + 1, 0, none⟩, _, rfl, ⟨w.heap.size + 1, w.heap.size, rfl, hB, of_below hM hb2, by omega, rfl⟩, fun k hk => by rcases hk with rfl | rfl <;> omega, hb1.trans (hb2.mono hb1.size)⟩

set_option maxRecDepth 100000 in
set_option maxHeartbeats 4000000 in
theorem clone_any (b : Nat) (l : List Hd) (w : World) (h : idPieces.Of w b l) :
    Calls Tryz.prog 120 #[.map (some b)] w fun e w' => e = .returned (.map (some w.heap.size)) ∧ idPieces.Of w' w.heap.size l ∧ Below w.heap.size w w' := by
  obtain ⟨es, clock, hb⟩ := h.isMap
  have hq := fun w => run_eql_map_nil_sl (P := Tryz.prog) w 149 _ _ (some b) Tryz.underlying149
  go_enter Tryz.func120, Tryz.ntmps120
  go_wp2_with fail
  rw [run_callFunc_extern Tryz.func119 (by kernel_rfl) (by kernel_rfl) (by kernel_rfl) (e := Extern.MapsClone.clone) (by kernel_rfl), run_maps_clone_sl w 149 hb]
  simp only [Result.andThen]
  rw [Oper.upon_value]
  go_wp2_with fail
  rw [run_typeAssert_map_sl _ 149 20 _ _ _ Tryz.underlying149]
  simp only [Result.andThen]
  rw [Oper.upon_value]
  go_wp2_with fail
  go_ret
  exact ⟨rfl, h.moved ((World.alloc_heap_new w _).trans hb.symm), (Below.refl _ w).alloc (Nat.le_refl _) _⟩

set_option maxRecDepth 100000 in
set_option maxHeartbeats 4000000 in
theorem pCopy_any (p : Addr) (F : Nat → Prop) (l : List Hd) (w : World) (hP : PBin0 w p F l) :
    Calls Tryz.prog 57 #[.pointer (some p)] w fun e w' => ∃ p' F', e = .returned (.pointer (some p')) ∧ PBin0 w' p' F' l ∧ (∀ k, F' k → w.heap.size ≤ k) ∧ Below w.heap.size w w' := by
  obtain ⟨B, b, rfl, hB, hM, hne, rfl⟩ := hP
  have q0 := hB.cell (i := 0) rfl
  have hc := clone_any b l w hM
  go_enter Tryz.func57, Tryz.ntmps57
  go_wp2_with fail
  refine hc.mono ?_
  rintro e w1 ⟨rfl, hM1, hb1⟩
  have hb2 := (Below.refl _ w1).alloc (Nat.le_refl _) (.cells #[.map (some w.heap.size)] 151)
  have hB2 := Blk.new w1 #[.map (some w.heap.size)] 151
  have hM2 := of_below hM1 hb2
  have hl := hM1.lt
  go_wp2_with fail
  go_ret
  exact ⟨⟨w1.heap.size, 0, none⟩, _, rfl, ⟨w1.heap.size, w.heap.size, rfl, hB2, hM2, by omega, rfl⟩, fun k hk => by rcases hk with rfl | rfl <;> omega, hb1.trans (hb2.mono hb1.size)⟩

end Go.Proofs.YtcbcjefefmbccabGreatDoor
namespace Go.Proofs.YtcbcjefefmbccabGreatDoor
open Go.RowKit Go.Maps

abbrev NFile := List UInt8 × List UInt8
abbrev NBin := (Nat × Int) × List Hd
structure NSt where
  files : List NFile
  bins : List NBin
abbrev repT (s : List UInt8) : Nat × Int := repOf (idsOf s)
def rwOf (f : NFile) (v : Value) : Rw := (f.1, (f.2.length : Int), ((pmore 2166136261 f.2 : Nat) : Int), v)
theorem IdsAt.off {F : Nat → Prop} {w w' : World} {v : Value} {ids : List (Nat × Int)} (h : IdsAt w v ids) (ho : Off F w w') (hn : ids ≠ [] → ∀ k, v.ownBlock = some k → ¬ F k) : IdsAt w' v ids := by
  obtain ⟨p, c, rfl, h⟩ := h
  refine ⟨p, c, rfl, fun i hi => ?_⟩
  obtain ⟨b, o, rfl, hb, h0, h1⟩ := h i hi
  have he : w'.heap[b]? = w.heap[b]? := ho.block b hb (hn (fun e => by rw [e] at hi; simp at hi) b rfl)
  exact ⟨b, o, rfl, Nat.lt_of_lt_of_le hb ho.size, (World.cell?_of_block (w := w) he).trans h0, (World.cell?_of_block (w := w) he).trans h1⟩
theorem IdsAt.lt {w : World} {v : Value} {ids : List (Nat × Int)} (h : IdsAt w v ids) (hne : ids ≠ []) {k : Nat} (hk : v.ownBlock = some k) : k < w.heap.size := by
  obtain ⟨p, c, rfl, h⟩ := h
  have hl : 0 < ids.length := List.length_pos_iff.2 hne
  obtain ⟨b, o, rfl, hb, _⟩ := h 0 hl
  have : b = k := by simpa [Value.ownBlock] using hk
  omega

/- Where a node lies: its block N, its maps mf and mb, of each name the slice of its IDs, of each rep its bin's place and blocks. -/
structure NAt (w : World) (N mf mb : Nat) (vi : List UInt8 → Value) (pi : Nat × Int → Addr) (Fi : Nat × Int → Nat → Prop) (st : NSt) : Prop where
  blk : Blk w N #[.map (some mf), .map (some mb)] 102
  files : strRcps.Of w mf (st.files.map fun f => (f.1, rwOf f (vi f.1)))
  bins : idBins.Of w mb (st.bins.map fun b => (b.1, some (pi b.1)))
  ids : ∀ f ∈ st.files, IdsAt w (vi f.1) (idsOf f.2)
  rows : ∀ f ∈ st.files, idsOf f.2 ≠ [] → ∀ k, (vi f.1).ownBlock = some k → k < w.heap.size ∧ k ≠ N ∧ k ≠ mf ∧ k ≠ mb ∧ ∀ b ∈ st.bins, ¬ Fi b.1 k
  bin : ∀ b ∈ st.bins, PBin0 w (pi b.1) (Fi b.1) b.2
  ne : N ≠ mf ∧ N ≠ mb ∧ mf ≠ mb
  apart : ∀ b ∈ st.bins, ¬ Fi b.1 N ∧ ¬ Fi b.1 mf ∧ ¬ Fi b.1 mb
  two : ∀ b ∈ st.bins, ∀ c ∈ st.bins, b.1 ≠ c.1 → ∀ k, Fi b.1 k → ¬ Fi c.1 k
def nFoot (N mf mb : Nat) (vi : List UInt8 → Value) (Fi : Nat × Int → Nat → Prop) (st : NSt) (k : Nat) : Prop :=
  k = N ∨ k = mf ∨ k = mb ∨ (∃ b ∈ st.bins, Fi b.1 k) ∨ ∃ f ∈ st.files, idsOf f.2 ≠ [] ∧ (vi f.1).ownBlock = some k
def PNode (w : World) (p : Addr) (F : Nat → Prop) (st : NSt) : Prop := ∃ N mf mb vi pi Fi, p = ⟨N, 0, none⟩ ∧ NAt w N mf mb vi pi Fi st ∧ F = nFoot N mf mb vi Fi st
theorem NAt.lt {w : World} {N mf mb : Nat} {vi : List UInt8 → Value} {pi : Nat × Int → Addr} {Fi : Nat × Int → Nat → Prop} {st : NSt} (h : NAt w N mf mb vi pi Fi st) : ∀ k, nFoot N mf mb vi Fi st k → k < w.heap.size := by
  rintro k (rfl | rfl | rfl | ⟨b, hb, hk⟩ | ⟨f, hf, hi, hk⟩)
  · exact h.blk.lt
  · exact h.files.lt
  · exact h.bins.lt
  · exact (h.bin b hb).lt k hk
  · exact (h.rows f hf hi k hk).1
theorem NAt.off {w w' : World} {N mf mb : Nat} {vi : List UInt8 → Value} {pi : Nat × Int → Addr} {Fi : Nat × Int → Nat → Prop} {st : NSt} {G : Nat → Prop} (h : NAt w N mf mb vi pi Fi st) (ho : Off G w w') (hG : ∀ k, nFoot N mf mb vi Fi st k → ¬ G k) : NAt w' N mf mb vi pi Fi st where
  blk := ho.blk h.blk (hG N (.inl rfl))
  files := h.files.moved (ho.block mf h.files.lt (hG mf (.inr (.inl rfl))))
  bins := h.bins.moved (ho.block mb h.bins.lt (hG mb (.inr (.inr (.inl rfl)))))
  ids f hf := (h.ids f hf).off ho (fun hi k hk => hG k (.inr (.inr (.inr (.inr ⟨f, hf, hi, hk⟩)))))
  rows f hf hi k hk := by
    obtain ⟨h1, h2⟩ := h.rows f hf hi k hk
    exact ⟨Nat.lt_of_lt_of_le h1 ho.size, h2⟩
  bin b hb := (h.bin b hb).off ho (fun k hk => hG k (.inr (.inr (.inr (.inl ⟨b, hb, hk⟩)))))
  ne := h.ne
  apart := h.apart
  two := h.two
theorem NAt.below {w w' : World} {N mf mb : Nat} {vi : List UInt8 → Value} {pi : Nat × Int → Addr} {Fi : Nat × Int → Nat → Prop} {st : NSt} (h : NAt w N mf mb vi pi Fi st) (hb : Below w.heap.size w w') : NAt w' N mf mb vi pi Fi st := h.off (Off.of_below (F := fun _ => False) hb) (fun _ _ h => h)
theorem PNode.lt {w : World} {p : Addr} {F : Nat → Prop} {st : NSt} (h : PNode w p F st) : ∀ k, F k → k < w.heap.size := by
  obtain ⟨N, mf, mb, vi, pi, Fi, _, h, rfl⟩ := h
  exact h.lt
theorem PNode.off {w w' : World} {p : Addr} {F G : Nat → Prop} {st : NSt} (h : PNode w p F st) (ho : Off G w w') (hG : ∀ k, F k → ¬ G k) : PNode w' p F st := by
  obtain ⟨N, mf, mb, vi, pi, Fi, hp, h, rfl⟩ := h
  exact ⟨N, mf, mb, vi, pi, Fi, hp, h.off ho hG, rfl⟩
theorem PNode.below {w w' : World} {p : Addr} {F : Nat → Prop} {st : NSt} (h : PNode w p F st) (hb : Below w.heap.size w w') : PNode w' p F st := h.off (Off.of_below (F := fun _ => False) hb) (fun _ _ h => h)
set_option maxRecDepth 100000 in
theorem nNew_any (w : World) : Calls Tryz.prog 10 #[] w fun e w' => ∃ p F, e = .returned (.pointer (some p)) ∧ PNode w' p F ⟨[], []⟩ ∧ (∀ k, F k → w.heap.size ≤ k) ∧ Below w.heap.size w w' := by
  have hmm := @run_makeMap Tryz.prog
  have hb1 := (Below.refl w.heap.size w).alloc (Nat.le_refl _) (.map #[] 0)
  have hM1 := MapKit.Of.made strRcps w
  have hb2 := (Below.refl _ (w.alloc (.map #[] 0))).alloc (Nat.le_refl _) (.map #[] 0)
  have hM2 := MapKit.Of.made idBins (w.alloc (.map #[] 0))
  have hb3 := (Below.refl _ ((w.alloc (.map #[] 0)).alloc (.map #[] 0))).alloc (Nat.le_refl _) (.cells #[.map (some w.heap.size), .map (some (w.heap.size + 1))] 102)
  have hB := Blk.new ((w.alloc (.map #[] 0)).alloc (.map #[] 0)) #[.map (some w.heap.size), .map (some (w.heap.size + 1))] 102
  have hs1 : (w.alloc (.map #[] 0)).heap.size = w.heap.size + 1 := by simp
  have hs2 : ((w.alloc (.map #[] 0)).alloc (.map #[] 0)).heap.size = w.heap.size + 2 := by simp
  rw [hs2] at hB
  rw [hs1] at hM2
  go_enter Tryz.func10, Tryz.ntmps10
  go_wp2_with fail
  go_ret
  refine ⟨⟨w.heap.size + 2, 0, none⟩, _, rfl, ⟨w.heap.size + 2, w.heap.size, w.heap.size + 1, fun _ => .nilIface, fun _ => ⟨0, 0, none⟩, fun _ _ => False, rfl, ⟨hB, (hM1.kept (grown_of_below hb2) (by simp)).kept (grown_of_below hb3) (by simp), hM2.kept (grown_of_below hb3) (by simp), fun f hf => by simp at hf, fun f hf => by simp at hf, fun b hb => by simp at hb, ⟨by omega, by omega, by omega⟩, fun b hb => by simp at hb, fun b hb => by simp at hb⟩, rfl⟩, ?_, ?_⟩
  · rintro k (rfl | rfl | rfl | ⟨b, hb, _⟩ | ⟨f, hf, _⟩)
    · omega
    · omega
    · omega
    · simp at hb
    · simp at hf
  · exact hb1.trans ((hb2.mono hb1.size).trans (hb3.mono (by rw [hs2]; omega)))
/- What a node has of a rep, of a name. -/
def nBin : List NBin → Nat × Int → Option (List Hd)
  | [], _ => none
  | b :: r, x => if b.1 = x then some b.2 else nBin r x
theorem nBin_some : ∀ {l : List NBin} {x : Nat × Int} {h : List Hd}, nBin l x = some h → (x, h) ∈ l
  | [], _, _, h => by cases h
  | b :: r, x, h, e => by
    rw [nBin] at e
    split at e
    · rename_i hb
      cases e
      rw [← hb]
      exact List.mem_cons_self ..
    · exact List.mem_cons_of_mem _ (nBin_some e)
theorem nBin_none : ∀ {l : List NBin} {x : Nat × Int}, nBin l x = none → ∀ b ∈ l, b.1 ≠ x
  | [], _, _, _, hb => by simp at hb
  | c :: r, x, e, b, hb => by
    rw [nBin] at e
    split at e
    · cases e
    · rename_i hc
      rcases List.mem_cons.1 hb with rfl | hb
      · exact hc
      · exact nBin_none e b hb
def nFile : List NFile → List UInt8 → Option (List UInt8)
  | [], _ => none
  | b :: r, x => if b.1 = x then some b.2 else nFile r x
theorem nFile_some : ∀ {l : List NFile} {x h : List UInt8}, nFile l x = some h → (x, h) ∈ l
  | [], _, _, h => by cases h
  | b :: r, x, h, e => by
    rw [nFile] at e
    split at e
    · rename_i hb
      cases e
      rw [← hb]
      exact List.mem_cons_self ..
    · exact List.mem_cons_of_mem _ (nFile_some e)
theorem nFile_none : ∀ {l : List NFile} {x : List UInt8}, nFile l x = none → ∀ b ∈ l, b.1 ≠ x
  | [], _, _, _, hb => by simp at hb
  | c :: r, x, e, b, hb => by
    rw [nFile] at e
    split at e
    · cases e
    · rename_i hc
      rcases List.mem_cons.1 hb with rfl | hb
      · exact hc
      · exact nFile_none e b hb
end Go.Proofs.YtcbcjefefmbccabGreatDoor
namespace Go.Proofs.YtcbcjefefmbccabGreatDoor
open Go.RowKit Go.Maps

/- A recipe: name, length, print, IDs. -/
abbrev Rcp := List UInt8 × Int × Int × List (Nat × Int)
abbrev rcpRep (r : Rcp) : Nat × Int := repOf r.2.2.2
structure RcpAt (w : World) (b o : Nat) (v : Value) (r : Rcp) : Prop where
  lt : b < w.heap.size
  c0 : w.cell? ⟨b, o, none⟩ = some (.string ⟨r.1.toArray⟩)
  c1 : w.cell? ⟨b, o + 1, none⟩ = some (.int .i64 r.2.1)
  c2 : w.cell? ⟨b, o + 2, none⟩ = some (.int .u32 r.2.2.1)
  c3 : w.cell? ⟨b, o + 3, none⟩ = some v
  ids : IdsAt w v r.2.2.2
theorem RcpAt.below {w w' : World} {b o : Nat} {v : Value} {r : Rcp} (h : RcpAt w b o v r) (hb : Below w.heap.size w w') : RcpAt w' b o v r :=
  ⟨Nat.lt_of_lt_of_le h.lt hb.size, (hb.cell (p := ⟨b, o, none⟩) h.lt).trans h.c0, (hb.cell (p := ⟨b, o + 1, none⟩) h.lt).trans h.c1, (hb.cell (p := ⟨b, o + 2, none⟩) h.lt).trans h.c2, (hb.cell (p := ⟨b, o + 3, none⟩) h.lt).trans h.c3, h.ids.below hb⟩
def RcpsAt (w : World) (v : Value) (fs : List Rcp) : Prop :=
  ∃ (p : Option Addr) (c : Nat), v = .slice p fs.length c ∧ ∀ i (h : i < fs.length), ∃ b o vi, p = some ⟨b, o, none⟩ ∧ RcpAt w b (o + i * 4) vi fs[i]
theorem RcpsAt.below {w w' : World} {v : Value} {fs : List Rcp} (h : RcpsAt w v fs) (hb : Below w.heap.size w w') : RcpsAt w' v fs := by
  obtain ⟨p, c, rfl, h⟩ := h
  refine ⟨p, c, rfl, fun i hi => ?_⟩
  obtain ⟨b, o, vi, hp, hr⟩ := h i hi
  exact ⟨b, o, vi, hp, hr.below hb⟩
def rcpOf (f : NFile) : Rcp := (f.1, (f.2.length : Int), ((pmore 2166136261 f.2 : Nat) : Int), idsOf f.2)
end Go.Proofs.YtcbcjefefmbccabGreatDoor
namespace Go.Proofs.YtcbcjefefmbccabGreatDoor
open Go.RowKit Go.Maps

def BinPost (w : World) (r : Option (List Hd)) (e : Ending) (w' : World) : Prop :=
  (match r with
    | none => e = .returned (.pointer none)
    | some l => ∃ p' F', e = .returned (.pointer (some p')) ∧ PBin0 w' p' F' l ∧ ∀ k, F' k → w.heap.size ≤ k) ∧ Below w.heap.size w w'
set_option maxRecDepth 100000 in
set_option maxHeartbeats 2000000 in
theorem nodeBin_any (x : Nat × Int) (p : Addr) (F : Nat → Prop) (st : NSt) (w : World) (hx : WfID x) (hP : PNode w p F st) :
    Calls Tryz.prog 16 #[.pointer (some p), idV (x.1 : Nat) x.2] w (BinPost w (nBin st.bins x)) := by
  obtain ⟨N, mf, mb, vi, pi, Fi, rfl, h, _⟩ := hP
  have hal := (Below.refl w.heap.size w).alloc (Nat.le_refl _) (.cells #[.int .u32 (x.1 : Nat), .int .i64 x.2] 25)
  have hI := Blk.new w #[.int .u32 (x.1 : Nat), .int .i64 x.2] 25
  have h1 := h.below hal
  have hN := h1.blk
  have HH := hideN h1
  cases hf : nBin st.bins x with
  | none =>
    have hl : ∀ W : World, idBins.Of W mb (st.bins.map fun b => (b.1, some (pi b.1))) → (Instr.lookup 100 (.map (some mb)) (idV (x.1 : Nat) x.2) true).run Tryz.prog W = .ok (.tuple #[.pointer none, .bool false]) W := fun W h => h.look_none Tryz.underlying100 (ptrZero W) hx (fun y hy => by
      obtain ⟨b, hb, rfl⟩ := List.mem_map.1 hy
      exact nBin_none hf b hb)
    clear h h1
    go_enter Tryz.func16, Tryz.ntmps16
    go_wp2_with fail
    generalize w.alloc (.cells #[.int .u32 (x.1 : Nat), .int .i64 x.2] 25) = W at *
    have x0 := hI.cell (i := 0) rfl
    have x1 := hI.cell (i := 1) rfl
    have q0 := hN.cell (i := 0) rfl
    have q1 := hN.cell (i := 1) rfl
    have l1 := hl W.drew (ofB_drew HH.out.bins)
    have l0 := hl W HH.out.bins
    go_wp2_with fail
    go_region
    all_goals
      have hb3 := below_drew hal
      generalize W.drew = W3 at *
      go_wp2_with fail
      go_ret
      exact ⟨rfl, hb3⟩
  | some l =>
    have hm := nBin_some hf
    have HB := hideN (h1.bin _ hm)
    have hl : ∀ W : World, idBins.Of W mb (st.bins.map fun b => (b.1, some (pi b.1))) → (Instr.lookup 100 (.map (some mb)) (idV (x.1 : Nat) x.2) true).run Tryz.prog W = .ok (.tuple #[.pointer (some (pi x)), .bool true]) W := fun W h => h.look_some Tryz.underlying100 (ptrZero W) (List.mem_map.2 ⟨_, hm, rfl⟩)
    clear h h1 hm
    generalize pi x = q at *
    simp only at HB
    go_enter Tryz.func16, Tryz.ntmps16
    go_wp2_with fail
    generalize w.alloc (.cells #[.int .u32 (x.1 : Nat), .int .i64 x.2] 25) = W at *
    have x0 := hI.cell (i := 0) rfl
    have x1 := hI.cell (i := 1) rfl
    have q0 := hN.cell (i := 0) rfl
    have q1 := hN.cell (i := 1) rfl
    have l1 := hl W.drew (ofB_drew HH.out.bins)
    have l0 := hl W HH.out.bins
    go_wp2_with fail
    go_region
    all_goals
      have hb3 := below_drew hal
      have HC := hideN (pCopy_any q (Fi x) l W.drew (HB.out.off (Off.of_below (F := fun _ => False) (Below.refl _ W).drew) (fun _ _ h => h)))
      generalize W.drew = W3 at *
      go_wp2_with fail
      refine HC.out.mono ?_
      rintro e w4 ⟨p', F', rfl, hp4, hf4, hb4⟩
      go_wp2_with fail
      go_ret
      exact ⟨⟨p', F', rfl, hp4, fun k hk => Nat.le_trans hb3.size (hf4 k hk)⟩, hb3.trans (hb4.mono hb3.size)⟩
end Go.Proofs.YtcbcjefefmbccabGreatDoor
namespace Go.Proofs.YtcbcjefefmbccabGreatDoor
open Go.RowKit Go.Maps

structure LoadAt (w : World) (b o : Nat) (v : Value) (x : NBin) : Prop where
  lt : b < w.heap.size
  c0 : w.cell? ⟨b, o, none⟩ = some (.int .u32 (x.1.1 : Nat))
  c1 : w.cell? ⟨b, o + 1, none⟩ = some (.int .i64 x.1.2)
  c2 : w.cell? ⟨b, o + 2, none⟩ = some v
  helds : HeldsAt w v x.2
theorem LoadAt.below {w w' : World} {b o : Nat} {v : Value} {x : NBin} (h : LoadAt w b o v x) (hb : Below w.heap.size w w') : LoadAt w' b o v x :=
  ⟨Nat.lt_of_lt_of_le h.lt hb.size, (hb.cell (p := ⟨b, o, none⟩) h.lt).trans h.c0, (hb.cell (p := ⟨b, o + 1, none⟩) h.lt).trans h.c1, (hb.cell (p := ⟨b, o + 2, none⟩) h.lt).trans h.c2, h.helds.below hb⟩
def LoadsAt (w : World) (v : Value) (bs : List NBin) : Prop :=
  ∃ (p : Option Addr) (c : Nat), v = .slice p bs.length c ∧ ∀ i (h : i < bs.length), ∃ b o vi, p = some ⟨b, o, none⟩ ∧ LoadAt w b (o + i * 3) vi bs[i]
theorem LoadsAt.below {w w' : World} {v : Value} {bs : List NBin} (h : LoadsAt w v bs) (hb : Below w.heap.size w w') : LoadsAt w' v bs := by
  obtain ⟨p, c, rfl, h⟩ := h
  refine ⟨p, c, rfl, fun i hi => ?_⟩
  obtain ⟨b, o, vi, hp, hr⟩ := h i hi
  exact ⟨b, o, vi, hp, hr.below hb⟩
/- What is in the maps at first: reps of bins, and pieces of the first bin of each. -/
def zeroF (bs : List NBin) (r : Nat × Int) : Option Int := if bs.any (fun b => decide (b.1 = r)) = true then some 0 else none
def zeroU (bs : List NBin) (u : Use) : Option Int :=
  match nBin bs u.1 with
  | none => none
  | some l => if l.any (fun h => decide (h.1 = u.2)) = true then some 0 else none
/- One more, if it is there. -/
def bump {κ : Type} [DecidableEq κ] (f : κ → Option Int) (x : κ) : κ → Option Int := fun y => if y = x then (f x).map (· + 1) else f y
def bumpAll (f : Use → Option Int) (r : Nat × Int) : List (Nat × Int) → Use → Option Int
  | [] => f
  | i :: l => bumpAll (bump f (r, i)) r l
/- No error, or a bare one of that number. -/
def SentOr (a : Nat → Addr) (ev : Value) (c : Int) : Prop := (c = 0 ∧ ev = .nilIface) ∨ ∃ i : Nat, i < 12 ∧ c = (i : Int) + 1 ∧ ev = sentV a i
theorem SentOr.nil {a : Nat → Addr} {ev : Value} (h : SentOr a ev 0) : ev = .nilIface := by
  rcases h with h | ⟨i, _, h, _⟩
  · exact h.2
  · omega
/- Adding a file: an error's number. -/
def addErr (F : Nat × Int → Option Int) (U : Use → Option Int) (r : Rcp) : Int :=
  if (F (rcpRep r)).isSome = true ∧ r.2.2.2.all (fun i => (U (rcpRep r, i)).isSome) = true then 0 else 5
end Go.Proofs.YtcbcjefefmbccabGreatDoor
namespace Go.Proofs.YtcbcjefefmbccabGreatDoor
open Go.RowKit

end Go.Proofs.YtcbcjefefmbccabGreatDoor
