/-
  Own text. A node as files and bins (NSt), and where it lies in the program's memory (NAt, PNode).
-/
import Derived.Test.YteefjbdejcpepaaDoorNodeKit
import Derived.Test.YteefjbdejcpepaaDoorRecAll
import Derived.Test.YteefjbdejcpepaaDoorRecAll
import Derived.Test.YteefjbdejcpepaaDoorBinP
namespace Go.Proofs.YteefjbdejcpepaaDoor
open Go.RowKit Go.Maps

abbrev NFile := List UInt8 × List UInt8
abbrev NBin := (Nat × Int) × List Hd
structure NSt where
  files : List NFile
  bins : List NBin
abbrev repT (s : List UInt8) : Nat × Int := repOf (idsOf s)
def rwOf (f : NFile) (v : Value) : Rw := (f.1, (f.2.length : Int), ((pmore 2166136261 f.2 : Nat) : Int), v)
theorem IdsAt.off {F : Nat → Prop} {w w' : World} {v : Value} {ids : List (Nat × Int)} (h : IdsAt w v ids) (ho : Off F w w') (hn : ids ≠ [] → ∀ k, v.ownBlock = some k → ¬ F k) : IdsAt w' v ids := by
  obtain ⟨p, c, rfl, h⟩ := h
  refine ⟨p, c, rfl, fun i hi => ?_⟩
  obtain ⟨b, o, rfl, hb, h0, h1⟩ := h i hi
  have he : w'.heap[b]? = w.heap[b]? := ho.block b hb (hn (fun e => by rw [e] at hi; simp at hi) b rfl)
  exact ⟨b, o, rfl, Nat.lt_of_lt_of_le hb ho.size, (World.cell?_of_block (w := w) he).trans h0, (World.cell?_of_block (w := w) he).trans h1⟩
theorem IdsAt.lt {w : World} {v : Value} {ids : List (Nat × Int)} (h : IdsAt w v ids) (hne : ids ≠ []) {k : Nat} (hk : v.ownBlock = some k) : k < w.heap.size := by
  obtain ⟨p, c, rfl, h⟩ := h
  have hl : 0 < ids.length := List.length_pos_iff.2 hne
  obtain ⟨b, o, rfl, hb, _⟩ := h 0 hl
  have : b = k := by simpa [Value.ownBlock] using hk
  omega

/- Where a node lies: its block N, its maps mf and mb, of each name the slice of its IDs, of each rep its bin's place and blocks. -/
structure NAt (w : World) (N mf mb : Nat) (vi : List UInt8 → Value) (pi : Nat × Int → Addr) (Fi : Nat × Int → Nat → Prop) (st : NSt) : Prop where
  blk : Blk w N #[.map (some mf), .map (some mb)] 134
  files : strRcps.Of w mf (st.files.map fun f => (f.1, rwOf f (vi f.1)))
  bins : idBins.Of w mb (st.bins.map fun b => (b.1, some (pi b.1)))
  ids : ∀ f ∈ st.files, IdsAt w (vi f.1) (idsOf f.2)
  rows : ∀ f ∈ st.files, idsOf f.2 ≠ [] → ∀ k, (vi f.1).ownBlock = some k → k < w.heap.size ∧ k ≠ N ∧ k ≠ mf ∧ k ≠ mb ∧ ∀ b ∈ st.bins, ¬ Fi b.1 k
  bin : ∀ b ∈ st.bins, PBin0 w (pi b.1) (Fi b.1) b.2
  ne : N ≠ mf ∧ N ≠ mb ∧ mf ≠ mb
  apart : ∀ b ∈ st.bins, ¬ Fi b.1 N ∧ ¬ Fi b.1 mf ∧ ¬ Fi b.1 mb
  two : ∀ b ∈ st.bins, ∀ c ∈ st.bins, b.1 ≠ c.1 → ∀ k, Fi b.1 k → ¬ Fi c.1 k
def nFoot (N mf mb : Nat) (vi : List UInt8 → Value) (Fi : Nat × Int → Nat → Prop) (st : NSt) (k : Nat) : Prop :=
  k = N ∨ k = mf ∨ k = mb ∨ (∃ b ∈ st.bins, Fi b.1 k) ∨ ∃ f ∈ st.files, idsOf f.2 ≠ [] ∧ (vi f.1).ownBlock = some k
def PNode (w : World) (p : Addr) (F : Nat → Prop) (st : NSt) : Prop := ∃ N mf mb vi pi Fi, p = ⟨N, 0, none⟩ ∧ NAt w N mf mb vi pi Fi st ∧ F = nFoot N mf mb vi Fi st
theorem NAt.lt {w : World} {N mf mb : Nat} {vi : List UInt8 → Value} {pi : Nat × Int → Addr} {Fi : Nat × Int → Nat → Prop} {st : NSt} (h : NAt w N mf mb vi pi Fi st) : ∀ k, nFoot N mf mb vi Fi st k → k < w.heap.size := by
  rintro k (rfl | rfl | rfl | ⟨b, hb, hk⟩ | ⟨f, hf, hi, hk⟩)
  · exact h.blk.lt
  · exact h.files.lt
  · exact h.bins.lt
  · exact (h.bin b hb).lt k hk
  · exact (h.rows f hf hi k hk).1
theorem NAt.off {w w' : World} {N mf mb : Nat} {vi : List UInt8 → Value} {pi : Nat × Int → Addr} {Fi : Nat × Int → Nat → Prop} {st : NSt} {G : Nat → Prop} (h : NAt w N mf mb vi pi Fi st) (ho : Off G w w') (hG : ∀ k, nFoot N mf mb vi Fi st k → ¬ G k) : NAt w' N mf mb vi pi Fi st where
  blk := ho.blk h.blk (hG N (.inl rfl))
  files := h.files.moved (ho.block mf h.files.lt (hG mf (.inr (.inl rfl))))
  bins := h.bins.moved (ho.block mb h.bins.lt (hG mb (.inr (.inr (.inl rfl)))))
  ids f hf := (h.ids f hf).off ho (fun hi k hk => hG k (.inr (.inr (.inr (.inr ⟨f, hf, hi, hk⟩)))))
  rows f hf hi k hk := by
    obtain ⟨h1, h2⟩ := h.rows f hf hi k hk
    exact ⟨Nat.lt_of_lt_of_le h1 ho.size, h2⟩
  bin b hb := (h.bin b hb).off ho (fun k hk => hG k (.inr (.inr (.inr (.inl ⟨b, hb, hk⟩)))))
  ne := h.ne
  apart := h.apart
  two := h.two
theorem NAt.below {w w' : World} {N mf mb : Nat} {vi : List UInt8 → Value} {pi : Nat × Int → Addr} {Fi : Nat × Int → Nat → Prop} {st : NSt} (h : NAt w N mf mb vi pi Fi st) (hb : Below w.heap.size w w') : NAt w' N mf mb vi pi Fi st := h.off (Off.of_below (F := fun _ => False) hb) (fun _ _ h => h)
theorem PNode.lt {w : World} {p : Addr} {F : Nat → Prop} {st : NSt} (h : PNode w p F st) : ∀ k, F k → k < w.heap.size := by
  obtain ⟨N, mf, mb, vi, pi, Fi, _, h, rfl⟩ := h
  exact h.lt
theorem PNode.off {w w' : World} {p : Addr} {F G : Nat → Prop} {st : NSt} (h : PNode w p F st) (ho : Off G w w') (hG : ∀ k, F k → ¬ G k) : PNode w' p F st := by
  obtain ⟨N, mf, mb, vi, pi, Fi, hp, h, rfl⟩ := h
  exact ⟨N, mf, mb, vi, pi, Fi, hp, h.off ho hG, rfl⟩
theorem PNode.below {w w' : World} {p : Addr} {F : Nat → Prop} {st : NSt} (h : PNode w p F st) (hb : Below w.heap.size w w') : PNode w' p F st := h.off (Off.of_below (F := fun _ => False) hb) (fun _ _ h => h)
set_option maxRecDepth 100000 in
theorem nNew_any (w : World) : Calls Tryd.prog 46 #[] w fun e w' => ∃ p F, e = .returned (.pointer (some p)) ∧ PNode w' p F ⟨[], []⟩ ∧ (∀ k, F k → w.heap.size ≤ k) ∧ Below w.heap.size w w' := by
  have hmm := @run_makeMap Tryd.prog
  have hb1 := (Below.refl w.heap.size w).alloc (Nat.le_refl _) (.map #[] 0)
  have hM1 := MapKit.Of.made strRcps w
  have hb2 := (Below.refl _ (w.alloc (.map #[] 0))).alloc (Nat.le_refl _) (.map #[] 0)
  have hM2 := MapKit.Of.made idBins (w.alloc (.map #[] 0))
  have hb3 := (Below.refl _ ((w.alloc (.map #[] 0)).alloc (.map #[] 0))).alloc (Nat.le_refl _) (.cells #[.map (some w.heap.size), .map (some (w.heap.size + 1))] 134)
  have hB := Blk.new ((w.alloc (.map #[] 0)).alloc (.map #[] 0)) #[.map (some w.heap.size), .map (some (w.heap.size + 1))] 134
  have hs1 : (w.alloc (.map #[] 0)).heap.size = w.heap.size + 1 := by simp
  have hs2 : ((w.alloc (.map #[] 0)).alloc (.map #[] 0)).heap.size = w.heap.size + 2 := by simp
  rw [hs2] at hB
  rw [hs1] at hM2
  go_enter Tryd.func46, Tryd.ntmps46
  go_wp2_with fail
  go_ret
  refine ⟨⟨w.heap.size + 2, 0, none⟩, _, rfl, ⟨w.heap.size + 2, w.heap.size, w.heap.size + 1, fun _ => .nilIface, fun _ => ⟨0, 0, none⟩, fun _ _ => False, rfl, ⟨hB, (hM1.kept (grown_of_below hb2) (by simp)).kept (grown_of_below hb3) (by simp), hM2.kept (grown_of_below hb3) (by simp), fun f hf => by simp at hf, fun f hf => by simp at hf, fun b hb => by simp at hb, ⟨by omega, by omega, by omega⟩, fun b hb => by simp at hb, fun b hb => by simp at hb⟩, rfl⟩, ?_, ?_⟩
  · rintro k (rfl | rfl | rfl | ⟨b, hb, _⟩ | ⟨f, hf, _⟩)
    · omega
    · omega
    · omega
    · simp at hb
    · simp at hf
  · exact hb1.trans ((hb2.mono hb1.size).trans (hb3.mono (by rw [hs2]; omega)))
/- What a node has of a rep, of a name. -/
def nBin : List NBin → Nat × Int → Option (List Hd)
  | [], _ => none
  | b :: r, x => if b.1 = x then some b.2 else nBin r x
theorem nBin_some : ∀ {l : List NBin} {x : Nat × Int} {h : List Hd}, nBin l x = some h → (x, h) ∈ l
  | [], _, _, h => by cases h
  | b :: r, x, h, e => by
    rw [nBin] at e
    split at e
    · rename_i hb
      cases e
      rw [← hb]
      exact List.mem_cons_self ..
    · exact List.mem_cons_of_mem _ (nBin_some e)
theorem nBin_none : ∀ {l : List NBin} {x : Nat × Int}, nBin l x = none → ∀ b ∈ l, b.1 ≠ x
  | [], _, _, _, hb => by simp at hb
  | c :: r, x, e, b, hb => by
    rw [nBin] at e
    split at e
    · cases e
    · rename_i hc
      rcases List.mem_cons.1 hb with rfl | hb
      · exact hc
      · exact nBin_none e b hb
def nFile : List NFile → List UInt8 → Option (List UInt8)
  | [], _ => none
  | b :: r, x => if b.1 = x then some b.2 else nFile r x
theorem nFile_some : ∀ {l : List NFile} {x h : List UInt8}, nFile l x = some h → (x, h) ∈ l
  | [], _, _, h => by cases h
  | b :: r, x, h, e => by
    rw [nFile] at e
    split at e
    · rename_i hb
      cases e
      rw [← hb]
      exact List.mem_cons_self ..
    · exact List.mem_cons_of_mem _ (nFile_some e)
theorem nFile_none : ∀ {l : List NFile} {x : List UInt8}, nFile l x = none → ∀ b ∈ l, b.1 ≠ x
  | [], _, _, _, hb => by simp at hb
  | c :: r, x, e, b, hb => by
    rw [nFile] at e
    split at e
    · cases e
    · rename_i hc
      rcases List.mem_cons.1 hb with rfl | hb
      · exact hc
      · exact nFile_none e b hb
end Go.Proofs.YteefjbdejcpepaaDoor
