/-
  Own text. The program's bin by contracts: New, Copy, Size.
  Own text. A node as files and bins (NSt), and where it lies in the program's memory (NAt, PNode).
  Own text. (*node.Node).Bin by a contract: a copy of the bin of a rep, or nil.
  Own text. OwnRecipe by a contract: the same recipe, its IDs in new memory.
  Own text. slices.Clone of IDs by a contract.
  Own text. Recipes in memory, one behind the other (RcpsAt): name, length, print, IDs.
  Own text. Memory of which two blocks have turned.
  Own text. A node whose files are recipes, whatever their texts (NAtR); NAt is it at files of texts; one file more, one bin more.
-/
import Derived.Test.YtcbcjefefmbccaaDoorG06
import Derived.Shelf.SlMaps.Clone
import Derived.Test.YtcbcjefefmbccaaDoorG08
import Derived.Test.YtcbcjefefmbccaaDoorG04
import Derived.Deep.QuietTactic
namespace Go.Proofs.YtcbcjefefmbccaaDoor
open Go.RowKit Go.Maps

set_option maxRecDepth 100000 in
set_option maxHeartbeats 4000000 in
theorem pNew_any (w : World) : Calls Tryd.prog 28 #[] w fun e w' => ∃ p F, e = .returned (.pointer (some p)) ∧ PBin0 w' p F [] ∧ (∀ k, F k → w.heap.size ≤ k) ∧ Below w.heap.size w w' := by
  have hmm := @run_makeMap Tryd.prog
  have hb1 := (Below.refl w.heap.size w).alloc (Nat.le_refl _) (.map #[] 0)
  have hM := MapKit.Of.made idPieces w
  have hb2 := (Below.refl _ (w.alloc (.map #[] 0))).alloc (Nat.le_refl _) (.cells #[.map (some w.heap.size)] 111)
  have hB := Blk.new (w.alloc (.map #[] 0)) #[.map (some w.heap.size)] 111
  have hs : (w.alloc (.map #[] 0)).heap.size = w.heap.size + 1 := by simp
  rw [hs] at hB
  go_enter Tryd.func28, Tryd.ntmps28
  go_wp2_with fail
  go_ret
  exact ⟨⟨w.heap.size + 1, 0, none⟩, _, rfl, ⟨w.heap.size + 1, w.heap.size, rfl, hB, of_below hM hb2, by omega, rfl⟩, fun k hk => by rcases hk with rfl | rfl <;> omega, hb1.trans (hb2.mono hb1.size)⟩

set_option maxRecDepth 100000 in
set_option maxHeartbeats 4000000 in
theorem clone_any (b : Nat) (l : List Hd) (w : World) (h : idPieces.Of w b l) :
    Calls Tryd.prog 74 #[.map (some b)] w fun e w' => e = .returned (.map (some w.heap.size)) ∧ idPieces.Of w' w.heap.size l ∧ Below w.heap.size w w' := by
  obtain ⟨es, clock, hb⟩ := h.isMap
  have hq := fun w => run_eql_map_nil_sl (P := Tryd.prog) w 109 _ _ (some b) Tryd.underlying109
  go_enter Tryd.func74, Tryd.ntmps74
  go_wp2_with fail
  rw [run_callFunc_extern Tryd.func100 (by kernel_rfl) (by kernel_rfl) (by kernel_rfl) (e := Extern.MapsClone.clone) (by kernel_rfl), run_maps_clone_sl w 109 hb]
  simp only [Result.andThen]
  rw [Oper.upon_value]
  go_wp2_with fail
  rw [run_typeAssert_map_sl _ 109 20 _ _ _ Tryd.underlying109]
  simp only [Result.andThen]
  rw [Oper.upon_value]
  go_wp2_with fail
  go_ret
  exact ⟨rfl, h.moved ((World.alloc_heap_new w _).trans hb.symm), (Below.refl _ w).alloc (Nat.le_refl _) _⟩

set_option maxRecDepth 100000 in
set_option maxHeartbeats 4000000 in
theorem pCopy_any (p : Addr) (F : Nat → Prop) (l : List Hd) (w : World) (hP : PBin0 w p F l) :
    Calls Tryd.prog 43 #[.pointer (some p)] w fun e w' => ∃ p' F', e = .returned (.pointer (some p')) ∧ PBin0 w' p' F' l ∧ (∀ k, F' k → w.heap.size ≤ k) ∧ Below w.heap.size w w' := by
  obtain ⟨B, b, rfl, hB, hM, hne, rfl⟩ := hP
  have q0 := hB.cell (i := 0) rfl
  have hc := clone_any b l w hM
  go_enter Tryd.func43, Tryd.ntmps43
  go_wp2_with fail
  refine hc.mono ?_
  rintro e w1 ⟨rfl, hM1, hb1⟩
  have hb2 := (Below.refl _ w1).alloc (Nat.le_refl _) (.cells #[.map (some w.heap.size)] 111)
  have hB2 := Blk.new w1 #[.map (some w.heap.size)] 111
  have hM2 := of_below hM1 hb2
  have hl := hM1.lt
  go_wp2_with fail
  go_ret
  exact ⟨⟨w1.heap.size, 0, none⟩, _, rfl, ⟨w1.heap.size, w.heap.size, rfl, hB2, hM2, by omega, rfl⟩, fun k hk => by rcases hk with rfl | rfl <;> omega, hb1.trans (hb2.mono hb1.size)⟩

theorem hSize_cons (h : Hd) (l : List Hd) : hSize (h :: l) = h.1.2 + hSize l := by simp [hSize]
theorem hSize_perm {a b : List Hd} (h : a.Perm b) : hSize a = hSize b := by
  induction h with
  | nil => rfl
  | cons x _ ih => rw [hSize_cons, hSize_cons, ih]
  | swap x y l => rw [hSize_cons, hSize_cons, hSize_cons, hSize_cons]; omega
  | trans _ _ h1 h2 => rw [h1, h2]
theorem hSize_filter_bound {U : Int} {l : List Hd} (h : BinOk U l) (p : Hd → Bool) : 0 ≤ hSize (l.filter p) ∧ hSize (l.filter p) ≤ 16000 := by
  have h1 := hSize_bound (l.filter p) 64 (by decide) (fun x hx => h.lens x (List.mem_filter.1 hx).1)
  have h2 := List.length_filter_le p l
  have h3 := h.many
  omega

set_option maxRecDepth 100000 in
set_option maxHeartbeats 4000000 in
theorem pSize_any (p : Addr) (F : Nat → Prop) (l : List Hd) (w : World) (hok : BinOk 1000000 l) (hP : PBin0 w p F l) :
    Calls Tryd.prog 37 #[.pointer (some p)] w fun e w' => e = .returned (.int .i64 (hSize l)) ∧ Below w.heap.size w w' := by
  obtain ⟨B, b, rfl, hB, hM, hne, rfl⟩ := hP
  have q0 := hB.cell (i := 0) rfl
  have hap := hM.apart
  have hbl := hM.lt
  have HOK : Hid (BinOk 1000000 l) := hok
  clear hok
  go_enter Tryd.func37, Tryd.ntmps37
  go_wp2_with (first
    | (at_range; refine wp_range_kit idPieces _ rfl _ 109 rfl 114 Tryd.underlying109 b l rfl hM ?_; intro w0 hr0 hg0 hs0)
    | go_in)
  go_frame
  go_loopw [3, 10] (fun n _ wr => ∃ (left : Nat × Int → Bool) (cnt : Nat), n = .int .i64 (hSize (l.filter (fun h => !left h.1))) ∧ idPieces.Rng wr b w.heap.size l left cnt ∧ w.grownBy wr none) (fun _ _ wr => wr.rangeLeft b w.heap.size)
  case atStart =>
    refine ⟨_, _, ?_, hr0, hg0⟩
    rw [List.filter_eq_nil_iff.2 (fun h hm => by simp only [Bool.not_eq_true', Bool.not_eq_false, decide_eq_true_eq]; simp; exact ⟨_, _, hm⟩)]
    rfl
  case round =>
    obtain ⟨left, cnt, rfl, hrg, hgw⟩ := hrel
    obtain ⟨n1, n2⟩ := hSize_filter_bound HOK.out (fun h => !left h.1)
    obtain ⟨N, hN⟩ : ∃ N, hSize (l.filter (fun h => !left h.1)) = N := ⟨_, rfl⟩
    have HN : Hid (hSize (l.filter (fun h => !left h.1)) = N) := hN
    rw [hN] at n1 n2 ⊢
    clear hN
    go_wp2_with (first
      | (at_next; refine wp_next_kit idPieces _ rfl _ rfl b w.heap.size l left cnt rfl hrg ?_ ?_)
      | go_in)
    · intro h0
      go_wp2_with fail
      go_ret
      refine ⟨?_, below_of_grown hgw⟩
      rw [← HN.out, List.filter_eq_self.2 (fun h hm => by have := h0 h.1.1 h.1.2 h.2.1 h.2.2 hm; simp [this])]
      rfl
    · intro xp xl u t w1 cnt1 hm hlx hrg1 hlt hg1 hs1 hen
      change (Instr.entry (.pointer (some ⟨w.heap.size, 0, none⟩))).run Tryd.prog w1 = .ok (.tuple #[idV (xp : Nat) xl, pieceV (u, t)]) w1 at hen
      have hfl := filter_flip hap (p := left) hm hlx
      have HS : Hid (hSize (l.filter (fun y => !(left y.1 && !decide (y.1 = (xp, xl))))) = xl + N) := by
        show _ = _
        rw [hSize_perm hfl, hSize_cons, HN.out]
      obtain ⟨m1, m2⟩ := hSize_filter_bound HOK.out (fun y => !(left y.1 && !decide (y.1 = (xp, xl))))
      rw [HS.out] at m1 m2
      have hw : IntKind.i64.wrap (N + xl) = N + xl := by rw [IntKind.wrap_i64]; omega
      have hgw1 := hgw.andThen hg1 (fun j hj => by cases hj; exact .inl (Nat.le_refl _))
      have hal := World.grownBy_alloc w1 (.cells #[.int .u32 (xp : Nat), .int .i64 xl] 37) none
      have hrg2 := hrg1.kept hal (by simp) (by simp)
      have i1 := (Blk.new w1 #[.int .u32 (xp : Nat), .int .i64 xl] 37).cell (i := 1) rfl
      have hgw2 := hgw1.andThen hal (fun j hj => by cases hj)
      clear hfl hM hB hr0 hg0
      go_wp2_with fail
      go_roundw
      case rel => exact ⟨_, cnt1, by rw [HS.out, Int.add_comm], hrg2, hgw2⟩
      case measure => rw [hrg2.left_eq, hrg.left_eq]; exact hlt
end Go.Proofs.YtcbcjefefmbccaaDoor
namespace Go.Proofs.YtcbcjefefmbccaaDoor
open Go.RowKit Go.Maps

abbrev NFile := List UInt8 × List UInt8
abbrev NBin := (Nat × Int) × List Hd
structure NSt where
  files : List NFile
  bins : List NBin
abbrev repT (s : List UInt8) : Nat × Int := repOf (idsOf s)
def rwOf (f : NFile) (v : Value) : Rw := (f.1, (f.2.length : Int), ((pmore 2166136261 f.2 : Nat) : Int), v)
theorem IdsAt.off {F : Nat → Prop} {w w' : World} {v : Value} {ids : List (Nat × Int)} (h : IdsAt w v ids) (ho : Off F w w') (hn : ids ≠ [] → ∀ k, v.ownBlock = some k → ¬ F k) : IdsAt w' v ids := by
  obtain ⟨p, c, rfl, h⟩ := h
  refine ⟨p, c, rfl, fun i hi => ?_⟩
  obtain ⟨b, o, rfl, hb, h0, h1⟩ := h i hi
  have he : w'.heap[b]? = w.heap[b]? := ho.block b hb (hn (fun e => by rw [e] at hi; simp at hi) b rfl)
  exact ⟨b, o, rfl, Nat.lt_of_lt_of_le hb ho.size, (World.cell?_of_block (w := w) he).trans h0, (World.cell?_of_block (w := w) he).trans h1⟩
theorem IdsAt.lt {w : World} {v : Value} {ids : List (Nat × Int)} (h : IdsAt w v ids) (hne : ids ≠ []) {k : Nat} (hk : v.ownBlock = some k) : k < w.heap.size := by
  obtain ⟨p, c, rfl, h⟩ := h
  have hl : 0 < ids.length := List.length_pos_iff.2 hne
  obtain ⟨b, o, rfl, hb, _⟩ := h 0 hl
  have : b = k := by simpa [Value.ownBlock] using hk
  omega

/- Where a node lies: its block N, its maps mf and mb, of each name the slice of its IDs, of each rep its bin's place and blocks. -/
structure NAt (w : World) (N mf mb : Nat) (vi : List UInt8 → Value) (pi : Nat × Int → Addr) (Fi : Nat × Int → Nat → Prop) (st : NSt) : Prop where
  blk : Blk w N #[.map (some mf), .map (some mb)] 134
  files : strRcps.Of w mf (st.files.map fun f => (f.1, rwOf f (vi f.1)))
  bins : idBins.Of w mb (st.bins.map fun b => (b.1, some (pi b.1)))
  ids : ∀ f ∈ st.files, IdsAt w (vi f.1) (idsOf f.2)
  rows : ∀ f ∈ st.files, idsOf f.2 ≠ [] → ∀ k, (vi f.1).ownBlock = some k → k < w.heap.size ∧ k ≠ N ∧ k ≠ mf ∧ k ≠ mb ∧ ∀ b ∈ st.bins, ¬ Fi b.1 k
  bin : ∀ b ∈ st.bins, PBin0 w (pi b.1) (Fi b.1) b.2
  ne : N ≠ mf ∧ N ≠ mb ∧ mf ≠ mb
  apart : ∀ b ∈ st.bins, ¬ Fi b.1 N ∧ ¬ Fi b.1 mf ∧ ¬ Fi b.1 mb
  two : ∀ b ∈ st.bins, ∀ c ∈ st.bins, b.1 ≠ c.1 → ∀ k, Fi b.1 k → ¬ Fi c.1 k
def nFoot (N mf mb : Nat) (vi : List UInt8 → Value) (Fi : Nat × Int → Nat → Prop) (st : NSt) (k : Nat) : Prop :=
  k = N ∨ k = mf ∨ k = mb ∨ (∃ b ∈ st.bins, Fi b.1 k) ∨ ∃ f ∈ st.files, idsOf f.2 ≠ [] ∧ (vi f.1).ownBlock = some k
def PNode (w : World) (p : Addr) (F : Nat → Prop) (st : NSt) : Prop := ∃ N mf mb vi pi Fi, p = ⟨N, 0, none⟩ ∧ NAt w N mf mb vi pi Fi st ∧ F = nFoot N mf mb vi Fi st
theorem NAt.lt {w : World} {N mf mb : Nat} {vi : List UInt8 → Value} {pi : Nat × Int → Addr} {Fi : Nat × Int → Nat → Prop} {st : NSt} (h : NAt w N mf mb vi pi Fi st) : ∀ k, nFoot N mf mb vi Fi st k → k < w.heap.size := by
  rintro k (rfl | rfl | rfl | ⟨b, hb, hk⟩ | ⟨f, hf, hi, hk⟩)
  · exact h.blk.lt
  · exact h.files.lt
  · exact h.bins.lt
  · exact (h.bin b hb).lt k hk
  · exact (h.rows f hf hi k hk).1
theorem NAt.off {w w' : World} {N mf mb : Nat} {vi : List UInt8 → Value} {pi : Nat × Int → Addr} {Fi : Nat × Int → Nat → Prop} {st : NSt} {G : Nat → Prop} (h : NAt w N mf mb vi pi Fi st) (ho : Off G w w') (hG : ∀ k, nFoot N mf mb vi Fi st k → ¬ G k) : NAt w' N mf mb vi pi Fi st where
  blk := ho.blk h.blk (hG N (.inl rfl))
  files := h.files.moved (ho.block mf h.files.lt (hG mf (.inr (.inl rfl))))
  bins := h.bins.moved (ho.block mb h.bins.lt (hG mb (.inr (.inr (.inl rfl)))))
  ids f hf := (h.ids f hf).off ho (fun hi k hk => hG k (.inr (.inr (.inr (.inr ⟨f, hf, hi, hk⟩)))))
  rows f hf hi k hk := by
    obtain ⟨h1, h2⟩ := h.rows f hf hi k hk
    exact ⟨Nat.lt_of_lt_of_le h1 ho.size, h2⟩
  bin b hb := (h.bin b hb).off ho (fun k hk => hG k (.inr (.inr (.inr (.inl ⟨b, hb, hk⟩)))))
  ne := h.ne
  apart := h.apart
  two := h.two
theorem NAt.below {w w' : World} {N mf mb : Nat} {vi : List UInt8 → Value} {pi : Nat × Int → Addr} {Fi : Nat × Int → Nat → Prop} {st : NSt} (h : NAt w N mf mb vi pi Fi st) (hb : Below w.heap.size w w') : NAt w' N mf mb vi pi Fi st := h.off (Off.of_below (F := fun _ => False) hb) (fun _ _ h => h)
theorem PNode.lt {w : World} {p : Addr} {F : Nat → Prop} {st : NSt} (h : PNode w p F st) : ∀ k, F k → k < w.heap.size := by
  obtain ⟨N, mf, mb, vi, pi, Fi, _, h, rfl⟩ := h
  exact h.lt
theorem PNode.off {w w' : World} {p : Addr} {F G : Nat → Prop} {st : NSt} (h : PNode w p F st) (ho : Off G w w') (hG : ∀ k, F k → ¬ G k) : PNode w' p F st := by
  obtain ⟨N, mf, mb, vi, pi, Fi, hp, h, rfl⟩ := h
  exact ⟨N, mf, mb, vi, pi, Fi, hp, h.off ho hG, rfl⟩
theorem PNode.below {w w' : World} {p : Addr} {F : Nat → Prop} {st : NSt} (h : PNode w p F st) (hb : Below w.heap.size w w') : PNode w' p F st := h.off (Off.of_below (F := fun _ => False) hb) (fun _ _ h => h)
set_option maxRecDepth 100000 in
theorem nNew_any (w : World) : Calls Tryd.prog 46 #[] w fun e w' => ∃ p F, e = .returned (.pointer (some p)) ∧ PNode w' p F ⟨[], []⟩ ∧ (∀ k, F k → w.heap.size ≤ k) ∧ Below w.heap.size w w' := by
  have hmm := @run_makeMap Tryd.prog
  have hb1 := (Below.refl w.heap.size w).alloc (Nat.le_refl _) (.map #[] 0)
  have hM1 := MapKit.Of.made strRcps w
  have hb2 := (Below.refl _ (w.alloc (.map #[] 0))).alloc (Nat.le_refl _) (.map #[] 0)
  have hM2 := MapKit.Of.made idBins (w.alloc (.map #[] 0))
  have hb3 := (Below.refl _ ((w.alloc (.map #[] 0)).alloc (.map #[] 0))).alloc (Nat.le_refl _) (.cells #[.map (some w.heap.size), .map (some (w.heap.size + 1))] 134)
  have hB := Blk.new ((w.alloc (.map #[] 0)).alloc (.map #[] 0)) #[.map (some w.heap.size), .map (some (w.heap.size + 1))] 134
  have hs1 : (w.alloc (.map #[] 0)).heap.size = w.heap.size + 1 := by simp
  have hs2 : ((w.alloc (.map #[] 0)).alloc (.map #[] 0)).heap.size = w.heap.size + 2 := by simp
  rw [hs2] at hB
  rw [hs1] at hM2
  go_enter Tryd.func46, Tryd.ntmps46
  go_wp2_with fail
  go_ret
  refine ⟨⟨w.heap.size + 2, 0, none⟩, _, rfl, ⟨w.heap.size + 2, w.heap.size, w.heap.size + 1, fun _ => .nilIface, fun _ => ⟨0, 0, none⟩, fun _ _ => False, rfl, ⟨hB, (hM1.kept (grown_of_below hb2) (by simp)).kept (grown_of_below hb3) (by simp), hM2.kept (grown_of_below hb3) (by simp), fun f hf => by simp at hf, fun f hf => by simp at hf, fun b hb => by simp at hb, ⟨by omega, by omega, by omega⟩, fun b hb => by simp at hb, fun b hb => by simp at hb⟩, rfl⟩, ?_, ?_⟩
  · rintro k (rfl | rfl | rfl | ⟨b, hb, _⟩ | ⟨f, hf, _⟩)
    · omega
    · omega
    · omega
    · simp at hb
    · simp at hf
  · exact hb1.trans ((hb2.mono hb1.size).trans (hb3.mono (by rw [hs2]; omega)))
/- What a node has of a rep, of a name. -/
def nBin : List NBin → Nat × Int → Option (List Hd)
  | [], _ => none
  | b :: r, x => if b.1 = x then some b.2 else nBin r x
theorem nBin_some : ∀ {l : List NBin} {x : Nat × Int} {h : List Hd}, nBin l x = some h → (x, h) ∈ l
  | [], _, _, h => by cases h
  | b :: r, x, h, e => by
    rw [nBin] at e
    split at e
    · rename_i hb
      cases e
      rw [← hb]
      exact List.mem_cons_self ..
    · exact List.mem_cons_of_mem _ (nBin_some e)
theorem nBin_none : ∀ {l : List NBin} {x : Nat × Int}, nBin l x = none → ∀ b ∈ l, b.1 ≠ x
  | [], _, _, _, hb => by simp at hb
  | c :: r, x, e, b, hb => by
    rw [nBin] at e
    split at e
    · cases e
    · rename_i hc
      rcases List.mem_cons.1 hb with rfl | hb
      · exact hc
      · exact nBin_none e b hb
def nFile : List NFile → List UInt8 → Option (List UInt8)
  | [], _ => none
  | b :: r, x => if b.1 = x then some b.2 else nFile r x
theorem nFile_some : ∀ {l : List NFile} {x h : List UInt8}, nFile l x = some h → (x, h) ∈ l
  | [], _, _, h => by cases h
  | b :: r, x, h, e => by
    rw [nFile] at e
    split at e
    · rename_i hb
      cases e
      rw [← hb]
      exact List.mem_cons_self ..
    · exact List.mem_cons_of_mem _ (nFile_some e)
theorem nFile_none : ∀ {l : List NFile} {x : List UInt8}, nFile l x = none → ∀ b ∈ l, b.1 ≠ x
  | [], _, _, _, hb => by simp at hb
  | c :: r, x, e, b, hb => by
    rw [nFile] at e
    split at e
    · cases e
    · rename_i hc
      rcases List.mem_cons.1 hb with rfl | hb
      · exact hc
      · exact nFile_none e b hb
end Go.Proofs.YtcbcjefefmbccaaDoor
namespace Go.Proofs.YtcbcjefefmbccaaDoor
open Go.RowKit Go.Maps

def BinPost (w : World) (r : Option (List Hd)) (e : Ending) (w' : World) : Prop :=
  (match r with
    | none => e = .returned (.pointer none)
    | some l => ∃ p' F', e = .returned (.pointer (some p')) ∧ PBin0 w' p' F' l ∧ ∀ k, F' k → w.heap.size ≤ k) ∧ Below w.heap.size w w'
set_option maxRecDepth 100000 in
set_option maxHeartbeats 2000000 in
theorem nodeBin_any (x : Nat × Int) (p : Addr) (F : Nat → Prop) (st : NSt) (w : World) (hx : WfID x) (hP : PNode w p F st) :
    Calls Tryd.prog 51 #[.pointer (some p), idV (x.1 : Nat) x.2] w (BinPost w (nBin st.bins x)) := by
  obtain ⟨N, mf, mb, vi, pi, Fi, rfl, h, _⟩ := hP
  have hal := (Below.refl w.heap.size w).alloc (Nat.le_refl _) (.cells #[.int .u32 (x.1 : Nat), .int .i64 x.2] 37)
  have hI := Blk.new w #[.int .u32 (x.1 : Nat), .int .i64 x.2] 37
  have h1 := h.below hal
  have hN := h1.blk
  have HH := hideN h1
  cases hf : nBin st.bins x with
  | none =>
    have hl : ∀ W : World, idBins.Of W mb (st.bins.map fun b => (b.1, some (pi b.1))) → (Instr.lookup 132 (.map (some mb)) (idV (x.1 : Nat) x.2) true).run Tryd.prog W = .ok (.tuple #[.pointer none, .bool false]) W := fun W h => h.look_none Tryd.underlying132 (ptrZero W) hx (fun y hy => by
      obtain ⟨b, hb, rfl⟩ := List.mem_map.1 hy
      exact nBin_none hf b hb)
    clear h h1
    go_enter Tryd.func51, Tryd.ntmps51
    go_wp2_with fail
    generalize w.alloc (.cells #[.int .u32 (x.1 : Nat), .int .i64 x.2] 37) = W at *
    have x0 := hI.cell (i := 0) rfl
    have x1 := hI.cell (i := 1) rfl
    have q0 := hN.cell (i := 0) rfl
    have q1 := hN.cell (i := 1) rfl
    have l1 := hl W.drew (ofB_drew HH.out.bins)
    have l0 := hl W HH.out.bins
    go_wp2_with fail
    go_region
    all_goals
      have hb3 := below_drew hal
      generalize W.drew = W3 at *
      go_wp2_with fail
      go_ret
      exact ⟨rfl, hb3⟩
  | some l =>
    have hm := nBin_some hf
    have HB := hideN (h1.bin _ hm)
    have hl : ∀ W : World, idBins.Of W mb (st.bins.map fun b => (b.1, some (pi b.1))) → (Instr.lookup 132 (.map (some mb)) (idV (x.1 : Nat) x.2) true).run Tryd.prog W = .ok (.tuple #[.pointer (some (pi x)), .bool true]) W := fun W h => h.look_some Tryd.underlying132 (ptrZero W) (List.mem_map.2 ⟨_, hm, rfl⟩)
    clear h h1 hm
    generalize pi x = q at *
    simp only at HB
    go_enter Tryd.func51, Tryd.ntmps51
    go_wp2_with fail
    generalize w.alloc (.cells #[.int .u32 (x.1 : Nat), .int .i64 x.2] 37) = W at *
    have x0 := hI.cell (i := 0) rfl
    have x1 := hI.cell (i := 1) rfl
    have q0 := hN.cell (i := 0) rfl
    have q1 := hN.cell (i := 1) rfl
    have l1 := hl W.drew (ofB_drew HH.out.bins)
    have l0 := hl W HH.out.bins
    go_wp2_with fail
    go_region
    all_goals
      have hb3 := below_drew hal
      have HC := hideN (pCopy_any q (Fi x) l W.drew (HB.out.off (Off.of_below (F := fun _ => False) (Below.refl _ W).drew) (fun _ _ h => h)))
      generalize W.drew = W3 at *
      go_wp2_with fail
      refine HC.out.mono ?_
      rintro e w4 ⟨p', F', rfl, hp4, hf4, hb4⟩
      go_wp2_with fail
      go_ret
      exact ⟨⟨p', F', rfl, hp4, fun k hk => Nat.le_trans hb3.size (hf4 k hk)⟩, hb3.trans (hb4.mono hb3.size)⟩
end Go.Proofs.YtcbcjefefmbccaaDoor
namespace Go.Proofs.YtcbcjefefmbccaaDoor
open Go.RowKit

theorem idCells_cells {W : World} {b o : Nat} {ids : List (Nat × Int)} (h : ∀ i (h : i < ids.length), W.cell? ⟨b, o + i * 2, none⟩ = some (.int .u32 (ids[i].1 : Nat)) ∧ W.cell? ⟨b, o + i * 2 + 1, none⟩ = some (.int .i64 ids[i].2)) :
    ∀ j u, (idCells ids)[j]? = some u → W.cell? ((⟨b, o, none⟩ : Addr).add j) = some u := by
  intro j u hj
  have hjl : j < (idCells ids).length := (List.getElem?_eq_some_iff.1 hj).1
  rw [idCells_length] at hjl
  have hi : j / 2 < ids.length := by omega
  have ha : (⟨b, o, none⟩ : Addr).add j = ⟨b, o + j, none⟩ := by unfold Addr.add; split <;> simp_all
  rw [ha]
  have e := idCells_at ids (j / 2) hi
  rcases Nat.mod_two_eq_zero_or_one j with h0 | h0
  · have hj2 : j / 2 * 2 = j := by omega
    rw [hj2] at e
    have h1 := (h (j / 2) hi).1
    rw [hj2] at h1
    rw [h1, ← hj, e.1]
  · have hj2 : j / 2 * 2 + 1 = j := by omega
    rw [hj2] at e
    have h1 := (h (j / 2) hi).2
    rw [Nat.add_assoc, hj2] at h1
    rw [h1, ← hj, e.2]
theorem idCells_one (ids : List (Nat × Int)) : ∀ u ∈ idCells ids, u.oneCell' = true := by
  induction ids with
  | nil => simp [idCells]
  | cons x r ih =>
    intro u hu
    simp only [idCells, List.mem_cons] at hu
    rcases hu with rfl | rfl | hu
    · rfl
    · rfl
    · exact ih u hu

/- A recipe in a box, and an empty one behind it. -/
structure OwnW (w W : World) (nm : ByteArray) (len p : Int) (v : Value) : Prop where
  below : Below w.heap.size w W
  size : w.heap.size + 1 < W.heap.size
  b0 : W.cell? ⟨w.heap.size, 0, none⟩ = some (.string nm)
  b1 : W.cell? ⟨w.heap.size, 1, none⟩ = some (.int .i64 len)
  b2 : W.cell? ⟨w.heap.size, 2, none⟩ = some (.int .u32 p)
  b3 : W.cell? ⟨w.heap.size, 3, none⟩ = some v
  r0 : W.cell? ⟨w.heap.size + 1, 0, none⟩ = some (.string ⟨#[]⟩)
  r1 : W.cell? ⟨w.heap.size + 1, 1, none⟩ = some (.int .i64 0)
  r2 : W.cell? ⟨w.heap.size + 1, 2, none⟩ = some (.int .u32 0)
  r3 : W.cell? ⟨w.heap.size + 1, 3, none⟩ = some (.slice none 0 0)
  g : ∀ i, W.frozen? ⟨w.heap.size, i, none⟩ = false
  f : ∀ i, W.frozen? ⟨w.heap.size + 1, i, none⟩ = false
theorem OwnW.of {w W : World} (nm : ByteArray) (len p : Int) (v : Value) (t : TypeId)
    (hb : Below ((w.alloc (.cells #[.string nm, .int .i64 len, .int .u32 p, v] t)).alloc (.cells #[.string ⟨#[]⟩, .int .i64 0, .int .u32 0, .slice none 0 0] t)).heap.size ((w.alloc (.cells #[.string nm, .int .i64 len, .int .u32 p, v] t)).alloc (.cells #[.string ⟨#[]⟩, .int .i64 0, .int .u32 0, .slice none 0 0] t)) W) : OwnW w W nm len p v := by
  have hs := hb.size
  simp only [World.size_alloc] at hs
  have c : ∀ i u, (#[.string nm, .int .i64 len, .int .u32 p, v] : Array Value)[i]? = some u → W.cell? ⟨w.heap.size, i, none⟩ = some u := fun i u h =>
    (hb.cell (p := ⟨w.heap.size, i, none⟩) (by simp; omega)).trans ((World.cell?_alloc_lt _ _ ⟨w.heap.size, i, none⟩ (by simp)).trans (new_cell w _ _ h rfl))
  have r : ∀ i u, (#[.string ⟨#[]⟩, .int .i64 0, .int .u32 0, .slice none 0 0] : Array Value)[i]? = some u → W.cell? ⟨w.heap.size + 1, i, none⟩ = some u := fun i u h =>
    (hb.cell (p := ⟨w.heap.size + 1, i, none⟩) (by simp)).trans (new_cell _ _ _ h (by simp))
  refine ⟨(((Below.refl _ w).alloc (Nat.le_refl _) _).alloc (by simp) _).trans (hb.mono (by simp; omega)), by omega, c 0 _ rfl, c 1 _ rfl, c 2 _ rfl, c 3 _ rfl, r 0 _ rfl, r 1 _ rfl, r 2 _ rfl, r 3 _ rfl, fun i => ?_, fun i => ?_⟩
  · rw [hb.frozen (p := ⟨w.heap.size, i, none⟩) (by simp; omega), frozen_alloc_lt' _ _ (by simp)]
    exact new_frozen w _ _ rfl
  · rw [hb.frozen (p := ⟨w.heap.size + 1, i, none⟩) (by simp)]
    exact new_frozen _ _ _ (by simp)

end Go.Proofs.YtcbcjefefmbccaaDoor
namespace Go.Proofs.YtcbcjefefmbccaaDoor
open Go.RowKit Go.Maps

set_option maxRecDepth 100000 in
set_option maxHeartbeats 4000000 in
theorem cloneIds_any (v : Value) (ids : List (Nat × Int)) (w : World) (hv : IdsAt w v ids) (hlen : ids.length ≤ 50000) :
    Calls Tryd.prog 105 #[v] w fun e w' => ∃ v', e = .returned v' ∧ IdsIn w.heap.size w' v' ids ∧ Below w.heap.size w w' := by
  obtain ⟨i0, hi, hz0, hz1, hz2⟩ := info_parts infoID
  obtain ⟨pa, c, rfl, hcell⟩ := hv
  have HL : Hid (ids.length ≤ 50000) := hlen
  clear hlen
  have q55 : ∀ (w : World) (a : Option Addr) (n c n' c' : Nat), (binOp .eql 55 (.slice a n c) (.slice none n' c')).run Tryd.prog w = .ok (.bool a.isNone) w := fun w a n c n' c' => Lib.run_eql_slice_nil w _ _ a n c n' c' Tryd.underlying55
  cases pa with
  | none =>
    have h0 : ids.length = 0 := by
      rcases Nat.eq_zero_or_pos ids.length with h | h
      · exact h
      · obtain ⟨b, o, hp, _⟩ := hcell 0 h
        cases hp
    obtain rfl : ids = [] := List.eq_nil_of_length_eq_zero h0
    clear hcell h0
    go_enter Tryd.func105, Tryd.ntmps105
    go_wp2_with fail
    go_ret
    exact ⟨_, rfl, IdsIn.nil _ _, Below.refl _ _⟩
  | some ad =>
    have HC : Hid (∀ W', Below w.heap.size w W' → ∀ j u, (idCells ids)[j]? = some u → W'.cell? (ad.add j) = some u) := by
      by_cases hn : ids = []
      · subst hn
        intro W' _ j u hj
        simp [idCells] at hj
      · obtain ⟨b, o, hp, _, _⟩ := hcell 0 (List.length_pos_iff.2 hn)
        cases hp
        exact fun W' hb => idCells_cells (fun i hi => by
          obtain ⟨b', o', hp, hl, h1, h2⟩ := hcell i hi
          cases hp
          exact ⟨(hb.cell (p := ⟨b, o + i * 2, none⟩) hl).trans h1, (hb.cell (p := ⟨b, o + i * 2 + 1, none⟩) hl).trans h2⟩)
    clear hcell
    obtain ⟨m, hm⟩ : ∃ m, ids.length = m := ⟨_, rfl⟩
    have HM : Hid (ids.length = m) := hm
    have HNL : Hid ((idCells ids).length = m * 2) := by show _ = _; rw [idCells_length, hm]
    have HM5 : Hid (m ≤ 50000) := by show _ ≤ _; rw [← hm]; exact HL.out
    rw [hm]
    clear hm HL
    go_enter Tryd.func105, Tryd.ntmps105
    go_wp2_with (at_builtin; refine wpList_append_own _ rfl _ _ 55 rfl w.heap.size 37 i0 (idV 0 0) 2 16 Tryd.underlying55 hi hz0 hz1 hz2 rfl (by decide) _ _ _ rfl (World.ownsRow_made w #[] 0 (Nat.le_refl _) (Nat.zero_le _) rfl) ad m c (idCells ids) rfl HNL.out ?qc2 (idCells_one ids) ?qc4 ?qc5 ?qc6 ?_)
    case qc2 => exact HC.out _ ((Below.refl _ w).alloc (Nat.le_refl _) _)
    case qc4 => have := HM5.out; unfold maxLen; omega
    case qc5 => have := HM5.out; omega
    case qc6 => simp
    intro v' w1 hown hgrow hnil
    go_wp2_with fail
    go_ret
    refine ⟨v', rfl, IdsIn.of_row (e := 37) (by rw [HM.out]; simpa using hown), ?_⟩
    exact ((Below.refl _ w).alloc (Nat.le_refl _) _).grown hgrow (by simp) (by intro k hk; simp [Value.ownBlock] at hk; omega)
end Go.Proofs.YtcbcjefefmbccaaDoor
namespace Go.Proofs.YtcbcjefefmbccaaDoor
open Go.RowKit Go.Maps

/- A recipe: name, length, print, IDs. -/
abbrev Rcp := List UInt8 × Int × Int × List (Nat × Int)
abbrev rcpRep (r : Rcp) : Nat × Int := repOf r.2.2.2
structure RcpAt (w : World) (b o : Nat) (v : Value) (r : Rcp) : Prop where
  lt : b < w.heap.size
  c0 : w.cell? ⟨b, o, none⟩ = some (.string ⟨r.1.toArray⟩)
  c1 : w.cell? ⟨b, o + 1, none⟩ = some (.int .i64 r.2.1)
  c2 : w.cell? ⟨b, o + 2, none⟩ = some (.int .u32 r.2.2.1)
  c3 : w.cell? ⟨b, o + 3, none⟩ = some v
  ids : IdsAt w v r.2.2.2
theorem RcpAt.below {w w' : World} {b o : Nat} {v : Value} {r : Rcp} (h : RcpAt w b o v r) (hb : Below w.heap.size w w') : RcpAt w' b o v r :=
  ⟨Nat.lt_of_lt_of_le h.lt hb.size, (hb.cell (p := ⟨b, o, none⟩) h.lt).trans h.c0, (hb.cell (p := ⟨b, o + 1, none⟩) h.lt).trans h.c1, (hb.cell (p := ⟨b, o + 2, none⟩) h.lt).trans h.c2, (hb.cell (p := ⟨b, o + 3, none⟩) h.lt).trans h.c3, h.ids.below hb⟩
def RcpsAt (w : World) (v : Value) (fs : List Rcp) : Prop :=
  ∃ (p : Option Addr) (c : Nat), v = .slice p fs.length c ∧ ∀ i (h : i < fs.length), ∃ b o vi, p = some ⟨b, o, none⟩ ∧ RcpAt w b (o + i * 4) vi fs[i]
theorem RcpsAt.below {w w' : World} {v : Value} {fs : List Rcp} (h : RcpsAt w v fs) (hb : Below w.heap.size w w') : RcpsAt w' v fs := by
  obtain ⟨p, c, rfl, h⟩ := h
  refine ⟨p, c, rfl, fun i hi => ?_⟩
  obtain ⟨b, o, vi, hp, hr⟩ := h i hi
  exact ⟨b, o, vi, hp, hr.below hb⟩
def rcpOf (f : NFile) : Rcp := (f.1, (f.2.length : Int), ((pmore 2166136261 f.2 : Nat) : Int), idsOf f.2)
end Go.Proofs.YtcbcjefefmbccaaDoor
namespace Go.Proofs.YtcbcjefefmbccaaDoor
open Go.RowKit Go.Maps

theorem Off.two {a b c : World} {x y : Nat} (h : Off (fun k => k = x) a b) (k : Off (fun k => k = y) b c) : Off (fun k => k = x ∨ k = y) a c :=
  ⟨k.os.trans h.os, k.tape.trans h.tape, k.output.trans h.output, Nat.le_trans h.size k.size, fun i hi hf => (k.block i (Nat.lt_of_lt_of_le hi h.size) (fun e => hf (.inr e))).trans (h.block i hi (fun e => hf (.inl e)))⟩
end Go.Proofs.YtcbcjefefmbccaaDoor
namespace Go.Proofs.YtcbcjefefmbccaaDoor
open Go.RowKit Go.Maps

def rwR (r : Rcp) (v : Value) : Rw := (r.1, r.2.1, r.2.2.1, v)
structure NAtR (w : World) (N mf mb : Nat) (vi : List UInt8 → Value) (pi : Nat × Int → Addr) (Fi : Nat × Int → Nat → Prop) (fs : List Rcp) (bs : List NBin) : Prop where
  blk : Blk w N #[.map (some mf), .map (some mb)] 134
  files : strRcps.Of w mf (fs.map fun r => (r.1, rwR r (vi r.1)))
  bins : idBins.Of w mb (bs.map fun b => (b.1, some (pi b.1)))
  ids : ∀ r ∈ fs, IdsAt w (vi r.1) r.2.2.2
  rows : ∀ r ∈ fs, r.2.2.2 ≠ [] → ∀ k, (vi r.1).ownBlock = some k → k < w.heap.size ∧ k ≠ N ∧ k ≠ mf ∧ k ≠ mb ∧ ∀ b ∈ bs, ¬ Fi b.1 k
  bin : ∀ b ∈ bs, PBin0 w (pi b.1) (Fi b.1) b.2
  ne : N ≠ mf ∧ N ≠ mb ∧ mf ≠ mb
  apart : ∀ b ∈ bs, ¬ Fi b.1 N ∧ ¬ Fi b.1 mf ∧ ¬ Fi b.1 mb
  two : ∀ b ∈ bs, ∀ c ∈ bs, b.1 ≠ c.1 → ∀ k, Fi b.1 k → ¬ Fi c.1 k
def rFoot (N mf mb : Nat) (vi : List UInt8 → Value) (Fi : Nat × Int → Nat → Prop) (fs : List Rcp) (bs : List NBin) (k : Nat) : Prop :=
  k = N ∨ k = mf ∨ k = mb ∨ (∃ b ∈ bs, Fi b.1 k) ∨ ∃ r ∈ fs, r.2.2.2 ≠ [] ∧ (vi r.1).ownBlock = some k
theorem NAt.toR {w : World} {N mf mb : Nat} {vi : List UInt8 → Value} {pi : Nat × Int → Addr} {Fi : Nat × Int → Nat → Prop} {st : NSt} (h : NAt w N mf mb vi pi Fi st) : NAtR w N mf mb vi pi Fi (st.files.map rcpOf) st.bins where
  blk := h.blk
  files := by rw [List.map_map]; exact h.files
  bins := h.bins
  ids r hr := by
    obtain ⟨f, hf, rfl⟩ := List.mem_map.1 hr
    exact h.ids f hf
  rows r hr := by
    obtain ⟨f, hf, rfl⟩ := List.mem_map.1 hr
    exact h.rows f hf
  bin := h.bin
  ne := h.ne
  apart := h.apart
  two := h.two
theorem NAtR.toN {w : World} {N mf mb : Nat} {vi : List UInt8 → Value} {pi : Nat × Int → Addr} {Fi : Nat × Int → Nat → Prop} {fl : List NFile} {bs : List NBin} (h : NAtR w N mf mb vi pi Fi (fl.map rcpOf) bs) : NAt w N mf mb vi pi Fi ⟨fl, bs⟩ where
  blk := h.blk
  files := by have := h.files; rw [List.map_map] at this; exact this
  bins := h.bins
  ids f hf := h.ids _ (List.mem_map_of_mem hf)
  rows f hf := h.rows _ (List.mem_map_of_mem hf)
  bin := h.bin
  ne := h.ne
  apart := h.apart
  two := h.two
theorem rFoot_iff {N mf mb : Nat} {vi : List UInt8 → Value} {Fi : Nat × Int → Nat → Prop} {fl : List NFile} {bs : List NBin} {k : Nat} : rFoot N mf mb vi Fi (fl.map rcpOf) bs k ↔ nFoot N mf mb vi Fi ⟨fl, bs⟩ k := by
  unfold rFoot nFoot
  refine or_congr Iff.rfl (or_congr Iff.rfl (or_congr Iff.rfl (or_congr Iff.rfl ⟨?_, ?_⟩)))
  · rintro ⟨r, hr, h1, h2⟩
    obtain ⟨f, hf, rfl⟩ := List.mem_map.1 hr
    exact ⟨f, hf, h1, h2⟩
  · rintro ⟨f, hf, h1, h2⟩
    exact ⟨_, List.mem_map_of_mem hf, h1, h2⟩
theorem NAtR.lt {w : World} {N mf mb : Nat} {vi : List UInt8 → Value} {pi : Nat × Int → Addr} {Fi : Nat × Int → Nat → Prop} {fs : List Rcp} {bs : List NBin} (h : NAtR w N mf mb vi pi Fi fs bs) : ∀ k, rFoot N mf mb vi Fi fs bs k → k < w.heap.size := by
  rintro k (rfl | rfl | rfl | ⟨b, hb, hk⟩ | ⟨f, hf, hi, hk⟩)
  · exact h.blk.lt
  · exact h.files.lt
  · exact h.bins.lt
  · exact (h.bin b hb).lt k hk
  · exact (h.rows f hf hi k hk).1
theorem NAtR.off {w w' : World} {N mf mb : Nat} {vi : List UInt8 → Value} {pi : Nat × Int → Addr} {Fi : Nat × Int → Nat → Prop} {fs : List Rcp} {bs : List NBin} {G : Nat → Prop} (h : NAtR w N mf mb vi pi Fi fs bs) (ho : Off G w w') (hG : ∀ k, rFoot N mf mb vi Fi fs bs k → ¬ G k) : NAtR w' N mf mb vi pi Fi fs bs where
  blk := ho.blk h.blk (hG N (.inl rfl))
  files := h.files.moved (ho.block mf h.files.lt (hG mf (.inr (.inl rfl))))
  bins := h.bins.moved (ho.block mb h.bins.lt (hG mb (.inr (.inr (.inl rfl)))))
  ids f hf := (h.ids f hf).off ho (fun hi k hk => hG k (.inr (.inr (.inr (.inr ⟨f, hf, hi, hk⟩)))))
  rows f hf hi k hk := by
    obtain ⟨h1, h2⟩ := h.rows f hf hi k hk
    exact ⟨Nat.lt_of_lt_of_le h1 ho.size, h2⟩
  bin b hb := (h.bin b hb).off ho (fun k hk => hG k (.inr (.inr (.inr (.inl ⟨b, hb, hk⟩)))))
  ne := h.ne
  apart := h.apart
  two := h.two
theorem NAtR.below {w w' : World} {N mf mb : Nat} {vi : List UInt8 → Value} {pi : Nat × Int → Addr} {Fi : Nat × Int → Nat → Prop} {fs : List Rcp} {bs : List NBin} (h : NAtR w N mf mb vi pi Fi fs bs) (hb : Below w.heap.size w w') : NAtR w' N mf mb vi pi Fi fs bs := h.off (Off.of_below (F := fun _ => False) hb) (fun _ _ h => h)
theorem NAtR.file {w w' : World} {N mf mb : Nat} {vi : List UInt8 → Value} {pi : Nat × Int → Addr} {Fi : Nat × Int → Nat → Prop} {fs : List Rcp} {bs : List NBin} {r : Rcp} {v : Value}
    (h : NAtR w N mf mb vi pi Fi fs bs) (ho : Off (fun k => k = mf) w w') (hfiles : strRcps.Of w' mf ((r.1, rwR r v) :: fs.map fun r => (r.1, rwR r (vi r.1)))) (hnew : ∀ g ∈ fs, g.1 ≠ r.1) (hids : IdsAt w' v r.2.2.2)
    (hrow : r.2.2.2 ≠ [] → ∀ k, v.ownBlock = some k → k < w'.heap.size ∧ ¬ rFoot N mf mb vi Fi fs bs k) :
    NAtR w' N mf mb (fun n => if n = r.1 then v else vi n) pi Fi (r :: fs) bs := by
  obtain ⟨n1, n2, n3⟩ := h.ne
  refine ⟨ho.blk h.blk (fun e => n1 e), ?_, h.bins.moved (ho.block mb h.bins.lt (fun e => n3 e.symm)), ?_, ?_, fun b hb => (h.bin b hb).off ho (fun k hk e => (h.apart b hb).2.1 (e ▸ hk)), h.ne, h.apart, h.two⟩
  · rw [List.map_cons]
    simp only [if_true]
    rw [List.map_congr_left (g := fun f => (f.1, rwR f (vi f.1))) (fun f hf => by rw [if_neg (hnew f hf)])]
    exact hfiles
  · intro f hf
    rcases List.mem_cons.1 hf with rfl | hf
    · simp only [if_true]
      exact hids
    · simp only [if_neg (hnew f hf)]
      exact (h.ids f hf).off ho (fun hi k hk e => (h.rows f hf hi k hk).2.2.1 e)
  · intro f hf hi k hk
    rcases List.mem_cons.1 hf with rfl | hf
    · simp only [if_true] at hk
      obtain ⟨h1, h2⟩ := hrow hi k hk
      exact ⟨h1, fun e => h2 (.inl e), fun e => h2 (.inr (.inl e)), fun e => h2 (.inr (.inr (.inl e))), fun b hb hF => h2 (.inr (.inr (.inr (.inl ⟨b, hb, hF⟩))))⟩
    · simp only [if_neg (hnew f hf)] at hk
      obtain ⟨h1, h2⟩ := h.rows f hf hi k hk
      exact ⟨Nat.lt_of_lt_of_le h1 ho.size, h2⟩
theorem rFoot_file {N mf mb : Nat} {vi : List UInt8 → Value} {Fi : Nat × Int → Nat → Prop} {fs : List Rcp} {bs : List NBin} {r : Rcp} {v : Value} (hnew : ∀ g ∈ fs, g.1 ≠ r.1) {k : Nat} (h : rFoot N mf mb (fun n => if n = r.1 then v else vi n) Fi (r :: fs) bs k) : rFoot N mf mb vi Fi fs bs k ∨ (r.2.2.2 ≠ [] ∧ v.ownBlock = some k) := by
  rcases h with e | e | e | h | ⟨f, hf, hi, hk⟩
  · exact .inl (.inl e)
  · exact .inl (.inr (.inl e))
  · exact .inl (.inr (.inr (.inl e)))
  · exact .inl (.inr (.inr (.inr (.inl h))))
  · rcases List.mem_cons.1 hf with rfl | hf
    · simp only [if_true] at hk
      exact .inr ⟨hi, hk⟩
    · simp only [if_neg (hnew f hf)] at hk
      exact .inl (.inr (.inr (.inr (.inr ⟨f, hf, hi, hk⟩))))
theorem NAtR.rep {w w' : World} {N mf mb : Nat} {vi : List UInt8 → Value} {pi : Nat × Int → Addr} {Fi : Nat × Int → Nat → Prop} {fs : List Rcp} {bs : List NBin} {q : Addr} {F8 : Nat → Prop} {bl : List Hd} {x : Nat × Int}
    (h : NAtR w N mf mb vi pi Fi fs bs) (ho : Off (fun k => k = mb) w w') (hbins : idBins.Of w' mb ((x, some q) :: (bs.filter (fun b => !decide (b.1 = x))).map fun b => (b.1, some (pi b.1))))
    (hq : PBin0 w' q F8 bl) (hF8 : ∀ k, F8 k → ¬ rFoot N mf mb vi Fi fs bs k) :
    NAtR w' N mf mb vi (fun y => if y = x then q else pi y) (fun y => if y = x then F8 else Fi y) fs ((x, bl) :: bs.filter (fun b => !decide (b.1 = x))) := by
  obtain ⟨n1, n2, n3⟩ := h.ne
  have hfil : ∀ b ∈ bs.filter (fun b => !decide (b.1 = x)), b ∈ bs ∧ b.1 ≠ x := fun b hb => by
    obtain ⟨h1, h2⟩ := List.mem_filter.1 hb
    exact ⟨h1, by simpa using h2⟩
  refine ⟨ho.blk h.blk (fun e => n2 e), h.files.moved (ho.block mf h.files.lt (fun e => n3 e)), ?_, fun f hf => (h.ids f hf).off ho (fun hi k hk e => (h.rows f hf hi k hk).2.2.2.1 e), ?_, ?_, h.ne, ?_, ?_⟩
  · rw [List.map_cons]
    simp only [if_true]
    rw [List.map_congr_left (g := fun b => (b.1, some (pi b.1))) (fun b hb => by rw [if_neg (hfil b hb).2])]
    exact hbins
  · intro f hf hi k hk
    obtain ⟨h1, h2, h3, h4, h5⟩ := h.rows f hf hi k hk
    refine ⟨Nat.lt_of_lt_of_le h1 ho.size, h2, h3, h4, fun b hb => ?_⟩
    rcases List.mem_cons.1 hb with rfl | hb
    · simp only [if_true]
      exact fun hF => hF8 k hF (.inr (.inr (.inr (.inr ⟨f, hf, hi, hk⟩))))
    · simp only [if_neg (hfil b hb).2]
      exact h5 b (hfil b hb).1
  · intro b hb
    rcases List.mem_cons.1 hb with rfl | hb
    · simp only [if_true]
      exact hq
    · simp only [if_neg (hfil b hb).2]
      exact (h.bin b (hfil b hb).1).off ho (fun k hk e => (h.apart b (hfil b hb).1).2.2 (e ▸ hk))
  · intro b hb
    rcases List.mem_cons.1 hb with rfl | hb
    · simp only [if_true]
      exact ⟨fun hF => hF8 _ hF (.inl rfl), fun hF => hF8 _ hF (.inr (.inl rfl)), fun hF => hF8 _ hF (.inr (.inr (.inl rfl)))⟩
    · simp only [if_neg (hfil b hb).2]
      exact h.apart b (hfil b hb).1
  · intro b hb c hc hne k
    rcases List.mem_cons.1 hb with rfl | hb
    · rcases List.mem_cons.1 hc with rfl | hc
      · exact absurd rfl hne
      · simp only [if_true, if_neg (hfil c hc).2]
        exact fun hF hG => hF8 k hF (.inr (.inr (.inr (.inl ⟨c, (hfil c hc).1, hG⟩))))
    · rcases List.mem_cons.1 hc with rfl | hc
      · simp only [if_true, if_neg (hfil b hb).2]
        exact fun hG hF => hF8 k hF (.inr (.inr (.inr (.inl ⟨b, (hfil b hb).1, hG⟩))))
      · simp only [if_neg (hfil b hb).2, if_neg (hfil c hc).2]
        exact h.two b (hfil b hb).1 c (hfil c hc).1 hne k
theorem rFoot_rep {N mf mb : Nat} {vi : List UInt8 → Value} {Fi : Nat × Int → Nat → Prop} {fs : List Rcp} {bs : List NBin} {F8 : Nat → Prop} {bl : List Hd} {x : Nat × Int} {k : Nat} (h : rFoot N mf mb vi (fun y => if y = x then F8 else Fi y) fs ((x, bl) :: bs.filter (fun b => !decide (b.1 = x))) k) : rFoot N mf mb vi Fi fs bs k ∨ F8 k := by
  rcases h with e | e | e | ⟨b, hb, hk⟩ | h
  · exact .inl (.inl e)
  · exact .inl (.inr (.inl e))
  · exact .inl (.inr (.inr (.inl e)))
  · rcases List.mem_cons.1 hb with rfl | hb
    · simp only [if_true] at hk
      exact .inr hk
    · obtain ⟨h1, h2⟩ := List.mem_filter.1 hb
      simp only [if_neg (show b.1 ≠ x by simpa using h2)] at hk
      exact .inl (.inr (.inr (.inr (.inl ⟨b, h1, hk⟩))))
  · exact .inl (.inr (.inr (.inr (.inr h))))
theorem NAtR.node {w : World} {N mf mb : Nat} {vi : List UInt8 → Value} {pi : Nat × Int → Addr} {Fi : Nat × Int → Nat → Prop} {fl : List NFile} {bs : List NBin} (h : NAtR w N mf mb vi pi Fi (fl.map rcpOf) bs) : PNode w ⟨N, 0, none⟩ (rFoot N mf mb vi Fi (fl.map rcpOf) bs) ⟨fl, bs⟩ :=
  ⟨N, mf, mb, vi, pi, Fi, rfl, h.toN, funext fun _ => propext rFoot_iff⟩
end Go.Proofs.YtcbcjefefmbccaaDoor
