/-
  Own text. slices.Clone of IDs by a contract.
  Own text. Memory of which two blocks have turned.
  Own text. A node whose files are recipes, whatever their texts (NAtR); NAt is it at files of texts; one file more, one bin more.
  Own text. node.copyOf and (*node.Node).keep by contracts: files are put into a node, and the bin of a rep.
  Own text. (*node.Node).Recipe by a contract.
  Own text. What is joined of a recipe and pieces, pure, and the document's JoinOf by a contract.
-/
import Derived.Test.YtcbcjefefmbccabGreatDoorS08
import Derived.Test.YtcbcjefefmbccabGreatDoorS18
import Derived.Deep.QuietTactic
import Derived.Test.YtcbcjefefmbccabGreatDoorS13
import Derived.Test.YtcbcjefefmbccabGreatDoorS04
namespace Go.Proofs.YtcbcjefefmbccabGreatDoor
open Go.RowKit Go.Maps

set_option maxRecDepth 100000 in
set_option maxHeartbeats 4000000 in
theorem cloneIds_any (v : Value) (ids : List (Nat × Int)) (w : World) (hv : IdsAt w v ids) (hlen : ids.length ≤ 50000) :
    Calls Tryz.prog 118 #[v] w fun e w' => ∃ v', e = .returned v' ∧ IdsIn w.heap.size w' v' ids ∧ Below w.heap.size w w' := by
  obtain ⟨i0, hi, hz0, hz1, hz2⟩ := info_parts infoID
  obtain ⟨pa, c, rfl, hcell⟩ := hv
  have HL : Hid (ids.length ≤ 50000) := hlen
  clear hlen
  have q55 : ∀ (w : World) (a : Option Addr) (n c n' c' : Nat), (binOp .eql 38 (.slice a n c) (.slice none n' c')).run Tryz.prog w = .ok (.bool a.isNone) w := fun w a n c n' c' => Lib.run_eql_slice_nil w _ _ a n c n' c' Tryz.underlying38
  cases pa with
  | none =>
    have h0 : ids.length = 0 := by
      rcases Nat.eq_zero_or_pos ids.length with h | h
      · exact h
      · obtain ⟨b, o, hp, _⟩ := hcell 0 h
        cases hp
    obtain rfl : ids = [] := List.eq_nil_of_length_eq_zero h0
    clear hcell h0
    go_enter Tryz.func118, Tryz.ntmps118
    go_wp2_with fail
    go_ret
    exact ⟨_, rfl, IdsIn.nil _ _, Below.refl _ _⟩
  | some ad =>
    have HC : Hid (∀ W', Below w.heap.size w W' → ∀ j u, (idCells ids)[j]? = some u → W'.cell? (ad.add j) = some u) := by
      by_cases hn : ids = []
      · subst hn
        intro W' _ j u hj
        simp [idCells] at hj
      · obtain ⟨b, o, hp, _, _⟩ := hcell 0 (List.length_pos_iff.2 hn)
        cases hp
        exact fun W' hb => idCells_cells (fun i hi => by
          obtain ⟨b', o', hp, hl, h1, h2⟩ := hcell i hi
          cases hp
          exact ⟨(hb.cell (p := ⟨b, o + i * 2, none⟩) hl).trans h1, (hb.cell (p := ⟨b, o + i * 2 + 1, none⟩) hl).trans h2⟩)
    clear hcell
    obtain ⟨m, hm⟩ : ∃ m, ids.length = m := ⟨_, rfl⟩
    have HM : Hid (ids.length = m) := hm
    have HNL : Hid ((idCells ids).length = m * 2) := by show _ = _; rw [idCells_length, hm]
    have HM5 : Hid (m ≤ 50000) := by show _ ≤ _; rw [← hm]; exact HL.out
    rw [hm]
    clear hm HL
    go_enter Tryz.func118, Tryz.ntmps118
    go_wp2_with (at_builtin; refine wpList_append_own _ rfl _ _ 38 rfl w.heap.size 25 i0 (idV 0 0) 2 16 Tryz.underlying38 hi hz0 hz1 hz2 rfl (by decide) _ _ _ rfl (World.ownsRow_made w #[] 0 (Nat.le_refl _) (Nat.zero_le _) rfl) ad m c (idCells ids) rfl HNL.out ?qc2 (idCells_one ids) ?qc4 ?qc5 ?qc6 ?_)
    case qc2 => exact HC.out _ ((Below.refl _ w).alloc (Nat.le_refl _) _)
    case qc4 => have := HM5.out; unfold maxLen; omega
    case qc5 => have := HM5.out; omega
    case qc6 => simp
    intro v' w1 hown hgrow hnil
    go_wp2_with fail
    go_ret
    refine ⟨v', rfl, IdsIn.of_row (e := 25) (by rw [HM.out]; simpa using hown), ?_⟩
    exact ((Below.refl _ w).alloc (Nat.le_refl _) _).grown hgrow (by simp) (by intro k hk; simp [Value.ownBlock] at hk; omega)
end Go.Proofs.YtcbcjefefmbccabGreatDoor
namespace Go.Proofs.YtcbcjefefmbccabGreatDoor
open Go.RowKit Go.Maps

theorem Off.two {a b c : World} {x y : Nat} (h : Off (fun k => k = x) a b) (k : Off (fun k => k = y) b c) : Off (fun k => k = x ∨ k = y) a c :=
  ⟨k.os.trans h.os, k.tape.trans h.tape, k.output.trans h.output, Nat.le_trans h.size k.size, fun i hi hf => (k.block i (Nat.lt_of_lt_of_le hi h.size) (fun e => hf (.inr e))).trans (h.block i hi (fun e => hf (.inl e)))⟩
end Go.Proofs.YtcbcjefefmbccabGreatDoor
namespace Go.Proofs.YtcbcjefefmbccabGreatDoor
open Go.RowKit Go.Maps

def rwR (r : Rcp) (v : Value) : Rw := (r.1, r.2.1, r.2.2.1, v)
structure NAtR (w : World) (N mf mb : Nat) (vi : List UInt8 → Value) (pi : Nat × Int → Addr) (Fi : Nat × Int → Nat → Prop) (fs : List Rcp) (bs : List NBin) : Prop where
  blk : Blk w N #[.map (some mf), .map (some mb)] 102
  files : strRcps.Of w mf (fs.map fun r => (r.1, rwR r (vi r.1)))
  bins : idBins.Of w mb (bs.map fun b => (b.1, some (pi b.1)))
  ids : ∀ r ∈ fs, IdsAt w (vi r.1) r.2.2.2
  rows : ∀ r ∈ fs, r.2.2.2 ≠ [] → ∀ k, (vi r.1).ownBlock = some k → k < w.heap.size ∧ k ≠ N ∧ k ≠ mf ∧ k ≠ mb ∧ ∀ b ∈ bs, ¬ Fi b.1 k
  bin : ∀ b ∈ bs, PBin0 w (pi b.1) (Fi b.1) b.2
  ne : N ≠ mf ∧ N ≠ mb ∧ mf ≠ mb
  apart : ∀ b ∈ bs, ¬ Fi b.1 N ∧ ¬ Fi b.1 mf ∧ ¬ Fi b.1 mb
  two : ∀ b ∈ bs, ∀ c ∈ bs, b.1 ≠ c.1 → ∀ k, Fi b.1 k → ¬ Fi c.1 k
def rFoot (N mf mb : Nat) (vi : List UInt8 → Value) (Fi : Nat × Int → Nat → Prop) (fs : List Rcp) (bs : List NBin) (k : Nat) : Prop :=
  k = N ∨ k = mf ∨ k = mb ∨ (∃ b ∈ bs, Fi b.1 k) ∨ ∃ r ∈ fs, r.2.2.2 ≠ [] ∧ (vi r.1).ownBlock = some k
theorem NAt.toR {w : World} {N mf mb : Nat} {vi : List UInt8 → Value} {pi : Nat × Int → Addr} {Fi : Nat × Int → Nat → Prop} {st : NSt} (h : NAt w N mf mb vi pi Fi st) : NAtR w N mf mb vi pi Fi (st.files.map rcpOf) st.bins where
  blk := h.blk
  files := by rw [List.map_map]; exact h.files
  bins := h.bins
  ids r hr := by
    obtain ⟨f, hf, rfl⟩ := List.mem_map.1 hr
    exact h.ids f hf
  rows r hr := by
    obtain ⟨f, hf, rfl⟩ := List.mem_map.1 hr
    exact h.rows f hf
  bin := h.bin
  ne := h.ne
  apart := h.apart
  two := h.two
theorem NAtR.toN {w : World} {N mf mb : Nat} {vi : List UInt8 → Value} {pi : Nat × Int → Addr} {Fi : Nat × Int → Nat → Prop} {fl : List NFile} {bs : List NBin} (h : NAtR w N mf mb vi pi Fi (fl.map rcpOf) bs) : NAt w N mf mb vi pi Fi ⟨fl, bs⟩ where
  blk := h.blk
  files := by have := h.files; rw [List.map_map] at this; exact this
  bins := h.bins
  ids f hf := h.ids _ (List.mem_map_of_mem hf)
  rows f hf := h.rows _ (List.mem_map_of_mem hf)
  bin := h.bin
  ne := h.ne
  apart := h.apart
  two := h.two
theorem rFoot_iff {N mf mb : Nat} {vi : List UInt8 → Value} {Fi : Nat × Int → Nat → Prop} {fl : List NFile} {bs : List NBin} {k : Nat} : rFoot N mf mb vi Fi (fl.map rcpOf) bs k ↔ nFoot N mf mb vi Fi ⟨fl, bs⟩ k := by
  unfold rFoot nFoot
  refine or_congr Iff.rfl (or_congr Iff.rfl (or_congr Iff.rfl (or_congr Iff.rfl ⟨?_, ?_⟩)))
  · rintro ⟨r, hr, h1, h2⟩
    obtain ⟨f, hf, rfl⟩ := List.mem_map.1 hr
    exact ⟨f, hf, h1, h2⟩
  · rintro ⟨f, hf, h1, h2⟩
    exact ⟨_, List.mem_map_of_mem hf, h1, h2⟩
theorem NAtR.lt {w : World} {N mf mb : Nat} {vi : List UInt8 → Value} {pi : Nat × Int → Addr} {Fi : Nat × Int → Nat → Prop} {fs : List Rcp} {bs : List NBin} (h : NAtR w N mf mb vi pi Fi fs bs) : ∀ k, rFoot N mf mb vi Fi fs bs k → k < w.heap.size := by
  rintro k (rfl | rfl | rfl | ⟨b, hb, hk⟩ | ⟨f, hf, hi, hk⟩)
  · exact h.blk.lt
  · exact h.files.lt
  · exact h.bins.lt
  · exact (h.bin b hb).lt k hk
  · exact (h.rows f hf hi k hk).1
theorem NAtR.off {w w' : World} {N mf mb : Nat} {vi : List UInt8 → Value} {pi : Nat × Int → Addr} {Fi : Nat × Int → Nat → Prop} {fs : List Rcp} {bs : List NBin} {G : Nat → Prop} (h : NAtR w N mf mb vi pi Fi fs bs) (ho : Off G w w') (hG : ∀ k, rFoot N mf mb vi Fi fs bs k → ¬ G k) : NAtR w' N mf mb vi pi Fi fs bs where
  blk := ho.blk h.blk (hG N (.inl rfl))
  files := h.files.moved (ho.block mf h.files.lt (hG mf (.inr (.inl rfl))))
  bins := h.bins.moved (ho.block mb h.bins.lt (hG mb (.inr (.inr (.inl rfl)))))
  ids f hf := (h.ids f hf).off ho (fun hi k hk => hG k (.inr (.inr (.inr (.inr ⟨f, hf, hi, hk⟩)))))
  rows f hf hi k hk := by
    obtain ⟨h1, h2⟩ := h.rows f hf hi k hk
    exact ⟨Nat.lt_of_lt_of_le h1 ho.size, h2⟩
  bin b hb := (h.bin b hb).off ho (fun k hk => hG k (.inr (.inr (.inr (.inl ⟨b, hb, hk⟩)))))
  ne := h.ne
  apart := h.apart
  two := h.two
theorem NAtR.below {w w' : World} {N mf mb : Nat} {vi : List UInt8 → Value} {pi : Nat × Int → Addr} {Fi : Nat × Int → Nat → Prop} {fs : List Rcp} {bs : List NBin} (h : NAtR w N mf mb vi pi Fi fs bs) (hb : Below w.heap.size w w') : NAtR w' N mf mb vi pi Fi fs bs := h.off (Off.of_below (F := fun _ => False) hb) (fun _ _ h => h)
theorem NAtR.file {w w' : World} {N mf mb : Nat} {vi : List UInt8 → Value} {pi : Nat × Int → Addr} {Fi : Nat × Int → Nat → Prop} {fs : List Rcp} {bs : List NBin} {r : Rcp} {v : Value}
    (h : NAtR w N mf mb vi pi Fi fs bs) (ho : Off (fun k => k = mf) w w') (hfiles : strRcps.Of w' mf ((r.1, rwR r v) :: fs.map fun r => (r.1, rwR r (vi r.1)))) (hnew : ∀ g ∈ fs, g.1 ≠ r.1) (hids : IdsAt w' v r.2.2.2)
    (hrow : r.2.2.2 ≠ [] → ∀ k, v.ownBlock = some k → k < w'.heap.size ∧ ¬ rFoot N mf mb vi Fi fs bs k) :
    NAtR w' N mf mb (fun n => if n = r.1 then v else vi n) pi Fi (r :: fs) bs := by
  obtain ⟨n1, n2, n3⟩ := h.ne
  refine ⟨ho.blk h.blk (fun e => n1 e), ?_, h.bins.moved (ho.block mb h.bins.lt (fun e => n3 e.symm)), ?_, ?_, fun b hb => (h.bin b hb).off ho (fun k hk e => (h.apart b hb).2.1 (e ▸ hk)), h.ne, h.apart, h.two⟩
  · rw [List.map_cons]
    simp only [if_true]
    rw [List.map_congr_left (g := fun f => (f.1, rwR f (vi f.1))) (fun f hf => by rw [if_neg (hnew f hf)])]
    exact hfiles
  · intro f hf
    rcases List.mem_cons.1 hf with rfl | hf
    · simp only [if_true]
      exact hids
    · simp only [if_neg (hnew f hf)]
      exact (h.ids f hf).off ho (fun hi k hk e => (h.rows f hf hi k hk).2.2.1 e)
  · intro f hf hi k hk
    rcases List.mem_cons.1 hf with rfl | hf
    · simp only [if_true] at hk
      obtain ⟨h1, h2⟩ := hrow hi k hk
      exact ⟨h1, fun e => h2 (.inl e), fun e => h2 (.inr (.inl e)), fun e => h2 (.inr (.inr (.inl e))), fun b hb hF => h2 (.inr (.inr (.inr (.inl ⟨b, hb, hF⟩))))⟩
    · simp only [if_neg (hnew f hf)] at hk
      obtain ⟨h1, h2⟩ := h.rows f hf hi k hk
      exact ⟨Nat.lt_of_lt_of_le h1 ho.size, h2⟩
theorem rFoot_file {N mf mb : Nat} {vi : List UInt8 → Value} {Fi : Nat × Int → Nat → Prop} {fs : List Rcp} {bs : List NBin} {r : Rcp} {v : Value} (hnew : ∀ g ∈ fs, g.1 ≠ r.1) {k : Nat} (h : rFoot N mf mb (fun n => if n = r.1 then v else vi n) Fi (r :: fs) bs k) : rFoot N mf mb vi Fi fs bs k ∨ (r.2.2.2 ≠ [] ∧ v.ownBlock = some k) := by
  rcases h with e | e | e | h | ⟨f, hf, hi, hk⟩
  · exact .inl (.inl e)
  · exact .inl (.inr (.inl e))
  · exact .inl (.inr (.inr (.inl e)))
  · exact .inl (.inr (.inr (.inr (.inl h))))
  · rcases List.mem_cons.1 hf with rfl | hf
    · simp only [if_true] at hk
      exact .inr ⟨hi, hk⟩
    · simp only [if_neg (hnew f hf)] at hk
      exact .inl (.inr (.inr (.inr (.inr ⟨f, hf, hi, hk⟩))))
theorem NAtR.rep {w w' : World} {N mf mb : Nat} {vi : List UInt8 → Value} {pi : Nat × Int → Addr} {Fi : Nat × Int → Nat → Prop} {fs : List Rcp} {bs : List NBin} {q : Addr} {F8 : Nat → Prop} {bl : List Hd} {x : Nat × Int}
    (h : NAtR w N mf mb vi pi Fi fs bs) (ho : Off (fun k => k = mb) w w') (hbins : idBins.Of w' mb ((x, some q) :: (bs.filter (fun b => !decide (b.1 = x))).map fun b => (b.1, some (pi b.1))))
    (hq : PBin0 w' q F8 bl) (hF8 : ∀ k, F8 k → ¬ rFoot N mf mb vi Fi fs bs k) :
    NAtR w' N mf mb vi (fun y => if y = x then q else pi y) (fun y => if y = x then F8 else Fi y) fs ((x, bl) :: bs.filter (fun b => !decide (b.1 = x))) := by
  obtain ⟨n1, n2, n3⟩ := h.ne
  have hfil : ∀ b ∈ bs.filter (fun b => !decide (b.1 = x)), b ∈ bs ∧ b.1 ≠ x := fun b hb => by
    obtain ⟨h1, h2⟩ := List.mem_filter.1 hb
    exact ⟨h1, by simpa using h2⟩
  refine ⟨ho.blk h.blk (fun e => n2 e), h.files.moved (ho.block mf h.files.lt (fun e => n3 e)), ?_, fun f hf => (h.ids f hf).off ho (fun hi k hk e => (h.rows f hf hi k hk).2.2.2.1 e), ?_, ?_, h.ne, ?_, ?_⟩
  · rw [List.map_cons]
    simp only [if_true]
    rw [List.map_congr_left (g := fun b => (b.1, some (pi b.1))) (fun b hb => by rw [if_neg (hfil b hb).2])]
    exact hbins
  · intro f hf hi k hk
    obtain ⟨h1, h2, h3, h4, h5⟩ := h.rows f hf hi k hk
    refine ⟨Nat.lt_of_lt_of_le h1 ho.size, h2, h3, h4, fun b hb => ?_⟩
    rcases List.mem_cons.1 hb with rfl | hb
    · simp only [if_true]
      exact fun hF => hF8 k hF (.inr (.inr (.inr (.inr ⟨f, hf, hi, hk⟩))))
    · simp only [if_neg (hfil b hb).2]
      exact h5 b (hfil b hb).1
  · intro b hb
    rcases List.mem_cons.1 hb with rfl | hb
    · simp only [if_true]
      exact hq
    · simp only [if_neg (hfil b hb).2]
      exact (h.bin b (hfil b hb).1).off ho (fun k hk e => (h.apart b (hfil b hb).1).2.2 (e ▸ hk))
  · intro b hb
    rcases List.mem_cons.1 hb with rfl | hb
    · simp only [if_true]
      exact ⟨fun hF => hF8 _ hF (.inl rfl), fun hF => hF8 _ hF (.inr (.inl rfl)), fun hF => hF8 _ hF (.inr (.inr (.inl rfl)))⟩
    · simp only [if_neg (hfil b hb).2]
      exact h.apart b (hfil b hb).1
  · intro b hb c hc hne k
    rcases List.mem_cons.1 hb with rfl | hb
    · rcases List.mem_cons.1 hc with rfl | hc
      · exact absurd rfl hne
      · simp only [if_true, if_neg (hfil c hc).2]
        exact fun hF hG => hF8 k hF (.inr (.inr (.inr (.inl ⟨c, (hfil c hc).1, hG⟩))))
    · rcases List.mem_cons.1 hc with rfl | hc
      · simp only [if_true, if_neg (hfil b hb).2]
        exact fun hG hF => hF8 k hF (.inr (.inr (.inr (.inl ⟨b, (hfil b hb).1, hG⟩))))
      · simp only [if_neg (hfil b hb).2, if_neg (hfil c hc).2]
        exact h.two b (hfil b hb).1 c (hfil c hc).1 hne k
theorem rFoot_rep {N mf mb : Nat} {vi : List UInt8 → Value} {Fi : Nat × Int → Nat → Prop} {fs : List Rcp} {bs : List NBin} {F8 : Nat → Prop} {bl : List Hd} {x : Nat × Int} {k : Nat} (h : rFoot N mf mb vi (fun y => if y = x then F8 else Fi y) fs ((x, bl) :: bs.filter (fun b => !decide (b.1 = x))) k) : rFoot N mf mb vi Fi fs bs k ∨ F8 k := by
  rcases h with e | e | e | ⟨b, hb, hk⟩ | h
  · exact .inl (.inl e)
  · exact .inl (.inr (.inl e))
  · exact .inl (.inr (.inr (.inl e)))
  · rcases List.mem_cons.1 hb with rfl | hb
    · simp only [if_true] at hk
      exact .inr hk
    · obtain ⟨h1, h2⟩ := List.mem_filter.1 hb
      simp only [if_neg (show b.1 ≠ x by simpa using h2)] at hk
      exact .inl (.inr (.inr (.inr (.inl ⟨b, h1, hk⟩))))
  · exact .inl (.inr (.inr (.inr (.inr h))))
theorem NAtR.node {w : World} {N mf mb : Nat} {vi : List UInt8 → Value} {pi : Nat × Int → Addr} {Fi : Nat × Int → Nat → Prop} {fl : List NFile} {bs : List NBin} (h : NAtR w N mf mb vi pi Fi (fl.map rcpOf) bs) : PNode w ⟨N, 0, none⟩ (rFoot N mf mb vi Fi (fl.map rcpOf) bs) ⟨fl, bs⟩ :=
  ⟨N, mf, mb, vi, pi, Fi, rfl, h.toN, funext fun _ => propext rFoot_iff⟩
end Go.Proofs.YtcbcjefefmbccabGreatDoor
namespace Go.Proofs.YtcbcjefefmbccabGreatDoor
open Go.RowKit Go.Maps

theorem IdsIn.off {base : Nat} {F : Nat → Prop} {w w' : World} {v : Value} {ids : List (Nat × Int)} (h : IdsIn base w v ids) (ho : Off F w w') (hn : ∀ k, base ≤ k → ¬ F k) : IdsIn base w' v ids := by
  obtain ⟨p, c, rfl, h⟩ := h
  refine ⟨p, c, rfl, fun i hi => ?_⟩
  obtain ⟨b, o, rfl, hb0, hb, h0, h1⟩ := h i hi
  have he : w'.heap[b]? = w.heap[b]? := ho.block b hb (hn b hb0)
  exact ⟨b, o, rfl, hb0, Nat.lt_of_lt_of_le hb ho.size, (World.cell?_of_block (w := w) he).trans h0, (World.cell?_of_block (w := w) he).trans h1⟩
theorem IdsIn.own {base : Nat} {w : World} {v : Value} {ids : List (Nat × Int)} (h : IdsIn base w v ids) (hne : ids ≠ []) {k : Nat} (hk : v.ownBlock = some k) : base ≤ k ∧ k < w.heap.size := by
  obtain ⟨p, c, rfl, h⟩ := h
  obtain ⟨b, o, rfl, hb0, hb, _⟩ := h 0 (List.length_pos_iff.2 hne)
  have : b = k := by simpa [Value.ownBlock] using hk
  omega
set_option maxRecDepth 100000 in
set_option maxHeartbeats 4000000 in
theorem copyOf_any (X : ByteArray) (L P : Int) (v : Value) (ids : List (Nat × Int)) (w : World) (hv : IdsAt w v ids) (hlen : ids.length ≤ 50000) :
    Calls Tryz.prog 50 #[rcpV X L P v] w fun e w' => ∃ v', e = .returned (rcpV X L P v') ∧ IdsIn w.heap.size w' v' ids ∧ Below w.heap.size w w' := by
  have HL := hideN hlen
  have HI := hideN hv
  obtain ⟨pv0, cv0, rfl, _⟩ := hv
  obtain ⟨idl, hidl⟩ : ∃ idl, ids.length = idl := ⟨_, rfl⟩
  have HID := hideN hidl
  rw [hidl] at HI ⊢
  clear hlen hidl
  have hal := (Below.refl w.heap.size w).alloc (Nat.le_refl _) (.cells #[.string X, .int .i64 L, .int .u32 P, .slice pv0 idl cv0] 40)
  have hr := Blk.new w #[.string X, .int .i64 L, .int .u32 P, .slice pv0 idl cv0] 40
  have hal2 := (Below.refl (w.alloc (.cells #[.string X, .int .i64 L, .int .u32 P, .slice pv0 idl cv0] 40)).heap.size (w.alloc (.cells #[.string X, .int .i64 L, .int .u32 P, .slice pv0 idl cv0] 40))).alloc (Nat.le_refl _) (.cells #[.string ⟨#[]⟩, .int .i64 0, .int .u32 0, .slice none 0 0] 40)
  have hbr2 := Blk.new (w.alloc (.cells #[.string X, .int .i64 L, .int .u32 P, .slice pv0 idl cv0] 40)) #[.string ⟨#[]⟩, .int .i64 0, .int .u32 0, .slice none 0 0] 40
  have hs1 : (w.alloc (.cells #[.string X, .int .i64 L, .int .u32 P, .slice pv0 idl cv0] 40)).heap.size = w.heap.size + 1 := by simp
  rw [hs1] at hbr2
  have hr2 := hr.next hal2
  have HB2 : Hid (Below w.heap.size w _) := hideN (hal.trans (hal2.mono hal.size))
  have HI2 := hideN ((HI.out.below hal).below hal2)
  clear hal hal2 hr HI hs1
  go_enter Tryz.func50, Tryz.ntmps50
  go_wp2_with fail
  generalize ((w.alloc (.cells #[.string X, .int .i64 L, .int .u32 P, .slice pv0 idl cv0] 40)).alloc (.cells #[.string ⟨#[]⟩, .int .i64 0, .int .u32 0, .slice none 0 0] 40)) = W2 at *
  have a3 := hr2.cell (i := 3) rfl
  go_wp2_with fail
  refine (cloneIds_any (.slice pv0 idl cv0) ids W2 HI2.out HL.out).mono ?_
  rintro e w3 ⟨v3, rfl, hi3, hb3⟩
  have HI3 := hideN hi3
  have HB3 : Hid (Below w.heap.size w w3) := HB2.out.trans (hb3.mono HB2.out.size)
  have hbr3 := hbr2.next hb3
  have hr3 := hr2.next hb3
  have hlt3 := hbr2.lt
  obtain ⟨p3, c3, hv3, _⟩ := hi3
  rw [HID.out] at hv3
  subst hv3
  clear hb3 HI2 hbr2 hr2 a3
  have hr4 := hr3.set 3 (.slice p3 idl c3)
  have hbr4 := hbr3.other (a := ⟨w.heap.size, 3, none⟩) (by simp only; omega) (.slice p3 idl c3)
  have y3 := hr3.cell (i := 3) rfl
  have z3 := hr3.frozen 3
  have k0 := hbr4.cell (i := 0) rfl
  have k1 := hbr4.cell (i := 1) rfl
  have k2 := hbr4.cell (i := 2) rfl
  have k3 := hbr4.cell (i := 3) rfl
  have f0 := hbr4.frozen 0
  have f1 := hbr4.frozen 1
  have f2 := hbr4.frozen 2
  have f3 := hbr4.frozen 3
  have r0 := hr4.cell (i := 0) rfl
  have r1 := hr4.cell (i := 1) rfl
  have r2 := hr4.cell (i := 2) rfl
  have r3 := hr4.cell (i := 3) rfl
  go_wp2_with fail
  have hRs := (((hbr4.set 0 (.string X)).set 1 (.int .i64 L)).set 2 (.int .u32 P)).set 3 (.slice p3 idl c3)
  have s0 := hRs.cell (i := 0) rfl
  have s1 := hRs.cell (i := 1) rfl
  have s2 := hRs.cell (i := 2) rfl
  have s3 := hRs.cell (i := 3) rfl
  have hO := (((((Off.of_below (F := fun k => k = w.heap.size + 1 ∨ k = w.heap.size) (Below.refl w3.heap.size w3)).setCell (p := ⟨w.heap.size, 3, none⟩) (.inl (.inr rfl)) (.slice p3 idl c3)).setCell (p := ⟨w.heap.size + 1, 0, none⟩) (.inl (.inl rfl)) (.string X)).setCell (p := ⟨w.heap.size + 1, 1, none⟩) (.inl (.inl rfl)) (.int .i64 L)).setCell (p := ⟨w.heap.size + 1, 2, none⟩) (.inl (.inl rfl)) (.int .u32 P)).setCell (p := ⟨w.heap.size + 1, 3, none⟩) (.inl (.inl rfl)) (.slice p3 idl c3)
  have hi9 := (HI3.out.off hO (fun k hk e => by rcases e with e | e <;> omega)).low (show w.heap.size ≤ W2.heap.size by omega)
  exact bodyPost_ret (v := .agg #[.string X, .int .i64 L, .int .u32 P, .slice p3 idl c3]) (by simp [results, Tryz.results50, go_sem, s0, s1, s2, s3]) rfl ⟨.slice p3 idl c3, rfl, hi9, HB3.out.trans (hO.below HB3.out.size (fun j hj e => by rcases e with e | e <;> omega))⟩

def KeepPost (w : World) (N mf mb : Nat) (vi : List UInt8 → Value) (Fi : Nat × Int → Nat → Prop) (fs : List Rcp) (bs : List NBin) (F8 : Nat → Prop) (fs' : List Rcp) (bs' : List NBin) (e : Ending) (w' : World) : Prop :=
  e = .returned (.tuple #[]) ∧ ∃ vi' pi' Fi', NAtR w' N mf mb vi' pi' Fi' fs' bs' ∧ (∀ k, rFoot N mf mb vi' Fi' fs' bs' k → rFoot N mf mb vi Fi fs bs k ∨ F8 k ∨ w.heap.size ≤ k) ∧ Off (fun k => k = mf ∨ k = mb) w w'
set_option maxRecDepth 100000 in
set_option maxHeartbeats 8000000 in
theorem keep_any (N mf mb : Nat) (vi : List UInt8 → Value) (pi : Nat × Int → Addr) (Fi : Nat × Int → Nat → Prop) (fs : List Rcp) (bs : List NBin) (x : Nat × Int) (q : Addr) (F8 : Nat → Prop) (bl : List Hd) (vl : Value) (fl : List Rcp) (w : World) (hx : WfID x)
    (h : NAtR w N mf mb vi pi Fi fs bs) (hq : PBin0 w q F8 bl) (hF8 : ∀ k, F8 k → ¬ rFoot N mf mb vi Fi fs bs k) (hv : ∀ W, Off (fun k => k = mf) w W → RcpsAt W vl fl)
    (hnew : ∀ r ∈ fl, ∀ g ∈ fs, g.1 ≠ r.1) (hap : fl.Pairwise (fun f g => f.1 ≠ g.1)) (hnm : ∀ r ∈ fl, r.1.length ≤ 50000) (hids : ∀ r ∈ fl, r.2.2.2.length ≤ 50000) (hlen : fl.length ≤ 1000) (hsl : fs.length ≤ 1000) (hbl : bs.length ≤ 1000) :
    Calls Tryz.prog 77 #[.pointer (some ⟨N, 0, none⟩), idV (x.1 : Nat) x.2, .pointer (some q), vl] w (KeepPost w N mf mb vi Fi fs bs F8 (fl.reverse ++ fs) ((x, bl) :: bs.filter (fun b => !decide (b.1 = x)))) := by
  have HH := hideN h
  have HQ := hideN hq
  have HF8 := hideN hF8
  have HV := hideN hv
  have HNEW := hideN hnew
  have HAP := hideN hap
  have HNM := hideN hnm
  have HIDS := hideN hids
  have HLEN := hideN hlen
  have HSL := hideN hsl
  have HBL := hideN hbl
  have HX := hideN hx
  obtain ⟨xp, xl⟩ := x
  obtain ⟨pa, ca, hvl, _⟩ := hv w (Off.refl _ _)
  subst hvl
  have hal := (Below.refl w.heap.size w).alloc (Nat.le_refl _) (.cells #[.int .u32 (xp : Nat), .int .i64 xl] 25)
  have HXB := hideN (Blk.new w #[.int .u32 (xp : Nat), .int .i64 xl] 25)
  have HH1 := hideN (h.below hal)
  have HO1 : Hid (Off (fun k => k = mf) w _) := hideN (Off.of_below (F := fun k => k = mf) hal)
  have q0 := HH1.out.blk.cell (i := 0) rfl
  have hlen' : (fl.length : Int) ≤ 1000 := by omega
  have hmq := fun w => run_eql_map_nil_sl (P := Tryz.prog) w 99 _ _ (some mf) Tryz.underlying99
  clear h hq hF8 hv hnew hap hnm hids hlen hsl hbl hx hal
  go_enter Tryz.func77, Tryz.ntmps77
  go_wp2_with fail
  obtain ⟨W1, hW1⟩ : ∃ W1, w.alloc (.cells #[.int .u32 (xp : Nat), .int .i64 xl] 25) = W1 := ⟨_, rfl⟩
  rw [hW1] at HXB HH1 HO1 ⊢
  obtain ⟨XB, hXB⟩ : ∃ XB, w.heap.size = XB := ⟨_, rfl⟩
  have HXE : Hid (XB = w.heap.size) := hXB.symm
  rw [hXB] at HXB ⊢
  clear hW1 hXB q0
  go_loopw [25] (fun iv wr => ∃ (j : Nat) (vi' : List UInt8 → Value), j ≤ fl.length ∧ iv = .int .i64 j ∧ Hid (NAtR wr N mf mb vi' pi Fi ((fl.take j).reverse ++ fs) bs) ∧ Hid (∀ k, rFoot N mf mb vi' Fi ((fl.take j).reverse ++ fs) bs k → rFoot N mf mb vi Fi fs bs k ∨ w.heap.size ≤ k) ∧ Hid (Off (fun k => k = mf) w wr) ∧ Hid (Blk wr XB #[.int .u32 (xp : Nat), .int .i64 xl] 25)) (fun iv _ => fl.length - (intOf iv).toNat)
  case atStart => exact ⟨0, vi, Nat.zero_le _, rfl, HH1.out, fun k hk => .inl hk, HO1.out, HXB.out⟩
  case round =>
    clear HH1 HO1 HXB
    obtain ⟨j, vi', hj, rfl, HN, HFT, HO, HXB⟩ := hrel
    by_cases hlt : j < fl.length
    · have hlt' : (j : Int) < (fl.length : Int) := by omega
      have hj0 : (0 : Int) ≤ (j : Int) := by omega
      obtain ⟨_, _, hve, hcell⟩ := HV.out wr HO.out
      obtain ⟨rfl, rfl⟩ : pa = _ ∧ ca = _ := by simpa using hve
      obtain ⟨b, o, v, rfl, hr⟩ := hcell j hlt
      have HTK := hideN (List.take_succ_eq_append_getElem hlt)
      have hmem := List.getElem_mem hlt
      have HNJ := hideN (HNM.out _ hmem)
      have HIJ := hideN (HIDS.out _ hmem)
      have HGJ : Hid (∀ g ∈ (fl.take j).reverse ++ fs, g.1 ≠ fl[j].1) := fun g hg => by
        rcases List.mem_append.1 hg with hg | hg
        · have hg' := List.mem_reverse.1 hg
          obtain ⟨i, hi, rfl⟩ := List.getElem_of_mem hg'
          rw [List.length_take] at hi
          rw [List.getElem_take]
          exact (List.pairwise_iff_getElem.1 HAP.out) i j (by omega) hlt (by omega)
        · exact HNEW.out _ hmem g hg
      obtain ⟨⟨r1, rl, rp, ids⟩, hxj⟩ : ∃ x, fl[j] = x := ⟨_, rfl⟩
      rw [hxj] at hr HTK HNJ HIJ HGJ
      simp only at HNJ HIJ HGJ
      obtain ⟨c0, c1, c2, c3⟩ := And.intro hr.c0 (And.intro hr.c1 (And.intro hr.c2 hr.c3))
      simp only at c0 c1 c2 c3
      have hids := hr.ids
      simp only at hids
      have HIW := hideN hids
      obtain ⟨pv, cv, hvv, _⟩ := hids
      subst hvv
      obtain ⟨idl, hidl⟩ : ∃ idl, ids.length = idl := ⟨_, rfl⟩
      have HIDL := hideN hidl
      rw [hidl] at c3 HIW
      obtain ⟨X, hX⟩ : ∃ X : ByteArray, (⟨r1.toArray⟩ : ByteArray) = X := ⟨_, rfl⟩
      have HXX := hideN hX
      have hXs : X.size ≤ 50000 := by
        rw [← hX]
        show r1.toArray.size ≤ 50000
        rw [List.size_toArray]
        exact HNJ.out
      rw [hX] at c0
      have HXS := hideN hXs
      clear hcell hve hmem hxj hr hidl hX hXs
      have hal := (Below.refl wr.heap.size wr).alloc (Nat.le_refl _) (.cells #[.string X, .int .i64 rl, .int .u32 rp, .slice pv idl cv] 40)
      have hrb := Blk.new wr #[.string X, .int .i64 rl, .int .u32 rp, .slice pv idl cv] 40
      have HN2 := hideN (HN.out.below hal)
      have HO2 : Hid (Off (fun k => k = mf) w _) := hideN (HO.out.trans (Off.of_below (F := fun k => k = mf) hal) (fun _ _ h => h))
      have HX2 := hideN (HXB.out.next hal)
      have HI2 := hideN (HIW.out.below hal)
      have HSZ : Hid (w.heap.size ≤ wr.heap.size ∧ XB < wr.heap.size ∧ mf < wr.heap.size ∧ mb < wr.heap.size ∧ N < wr.heap.size) := ⟨HO.out.size, HXB.out.lt, HN.out.files.lt, HN.out.bins.lt, HN.out.blk.lt⟩
      have HLT : Hid (∀ k, rFoot N mf mb vi' Fi ((fl.take j).reverse ++ fs) bs k → k < wr.heap.size) := HN.out.lt
      have k0 := hrb.cell (i := 0) rfl
      have k1 := hrb.cell (i := 1) rfl
      have k2 := hrb.cell (i := 2) rfl
      have k3 := hrb.cell (i := 3) rfl
      have HRB := hideN hrb
      clear hal hrb HN HO HXB HIW
      go_wp2_with fail
      obtain ⟨W2, hW2⟩ : ∃ W2, wr.alloc (.cells #[.string X, .int .i64 rl, .int .u32 rp, .slice pv idl cv] 40) = W2 := ⟨_, rfl⟩
      have HS2 : Hid (W2.heap.size = wr.heap.size + 1) := by show _ = _; rw [← hW2]; simp
      rw [hW2] at HN2 HO2 HX2 HI2 HRB k0 k1 k2 k3 ⊢
      obtain ⟨RB, hRB⟩ : ∃ RB, wr.heap.size = RB := ⟨_, rfl⟩
      rw [hRB] at HSZ HLT HRB HS2 k0 k1 k2 k3 ⊢
      clear hW2 hRB c0 c1 c2 c3
      refine (copyOf_any X rl rp (.slice pv idl cv) ids W2 HI2.out HIJ.out).mono ?_
      rintro e w3 ⟨v3, rfl, hi3, hb3⟩
      have HI3 := hideN hi3
      obtain ⟨p3, c3, hv3, _⟩ := hi3
      rw [HIDL.out] at hv3
      subst hv3
      have hr3 := HRB.out.next hb3
      have HN3 := hideN (HN2.out.below hb3)
      have HO3 : Hid (Off (fun k => k = mf) w w3) := HO2.out.trans (Off.of_below (F := fun k => k = mf) hb3) (fun _ _ h => h)
      have HX3 := hideN (HX2.out.next hb3)
      have HS3 : Hid (RB < W2.heap.size ∧ W2.heap.size ≤ w3.heap.size) := ⟨by have := HS2.out; omega, hb3.size⟩
      have y0 := hr3.cell (i := 0) rfl
      have y1 := hr3.cell (i := 1) rfl
      have y2 := hr3.cell (i := 2) rfl
      have y3 := hr3.cell (i := 3) rfl
      have z0 := hr3.frozen 0
      have z1 := hr3.frozen 1
      have z2 := hr3.frozen 2
      have z3 := hr3.frozen 3
      have hr4 := (((hr3.set 0 (.string X)).set 1 (.int .i64 rl)).set 2 (.int .u32 rp)).set 3 (.slice p3 idl c3)
      have hO4 := ((((Off.of_below (F := fun k => k = RB) (Below.refl w3.heap.size w3)).setCell (p := ⟨RB, 0, none⟩) (.inl rfl) (.string X)).setCell (p := ⟨RB, 1, none⟩) (.inl rfl) (.int .i64 rl)).setCell (p := ⟨RB, 2, none⟩) (.inl rfl) (.int .u32 rp)).setCell (p := ⟨RB, 3, none⟩) (.inl rfl) (.slice p3 idl c3)
      have HN4 := hideN (HN3.out.off hO4 (fun k hk e => by have := HLT.out k hk; omega))
      have HO4 : Hid (Off (fun k => k = mf) w _) := hideN (HO3.out.trans hO4 (fun i hi e => by have := HSZ.out; omega))
      have HX4 := hideN (hO4.blk HX3.out (fun e => by have := HSZ.out; omega))
      have HI4 := hideN (HI3.out.off hO4 (fun k hk e => by have := HS3.out; omega))
      have HR4 := hideN hr4
      have x0 := hr4.cell (i := 0) rfl
      clear hb3 HN2 HO2 HX2 HI2 hr3 hr4 hO4 HN3 HO3 HX3 HI3 k0 k1 k2 k3 HRB
      go_wp2_with fail
      obtain ⟨W4, hW4⟩ : ∃ W4, ((((w3.setCell ⟨RB, 0, none⟩ (.string X)).setCell ⟨RB, 1, none⟩ (.int .i64 rl)).setCell ⟨RB, 2, none⟩ (.int .u32 rp)).setCell ⟨RB, 3, none⟩ (.slice p3 idl c3)) = W4 := ⟨_, rfl⟩
      have HS4 : Hid (W4.heap.size = w3.heap.size) := by show _ = _; rw [← hW4]; simp
      rw [hW4] at HN4 HO4 HX4 HI4 HR4 ⊢
      clear hW4 x0 y0 y1 y2 y3 z0 z1 z2 z3
      refine (cloneText_any X W4 HXS.out).mono ?_
      rintro e w5 ⟨rfl, hb5⟩
      have hr5 := HR4.out.next hb5
      have hr6 := hr5.set 0 (.string X)
      have hO6 : Off (fun k => k = RB) w5 (w5.setCell ⟨RB, 0, none⟩ (.string X)) := (Off.of_below (F := fun k => k = RB) (Below.refl w5.heap.size w5)).setCell (p := ⟨RB, 0, none⟩) (.inl rfl) (.string X)
      have HN6 := hideN ((HN4.out.below hb5).off hO6 (fun k hk e => by have := HLT.out k hk; omega))
      have HO6 : Hid (Off (fun k => k = mf) w _) := hideN ((HO4.out.trans (Off.of_below (F := fun k => k = mf) hb5) (fun _ _ h => h)).trans hO6 (fun i hi e => by have := HSZ.out; omega))
      have HX6 := hideN (hO6.blk (HX4.out.next hb5) (fun e => by have := HSZ.out; omega))
      have HI6 := hideN ((HI4.out.below hb5).off hO6 (fun k hk e => by have := HS3.out; omega))
      have HS5 : Hid (W4.heap.size ≤ w5.heap.size) := hb5.size
      have y0 := hr5.cell (i := 0) rfl
      have z0 := hr5.frozen 0
      have HR6 := hideN hr6
      have x0 := hr6.cell (i := 0) rfl
      have x1 := hr6.cell (i := 1) rfl
      have x2 := hr6.cell (i := 2) rfl
      have x3 := hr6.cell (i := 3) rfl
      have q0 := HN6.out.blk.cell (i := 0) rfl
      clear hb5 HN4 HO4 HX4 HI4 HR4 hr5 hr6 hO6
      go_wp2_with fail
      obtain ⟨W6, hW6⟩ : ∃ W6, w5.setCell ⟨RB, 0, none⟩ (.string X) = W6 := ⟨_, rfl⟩
      have HS6 : Hid (W6.heap.size = w5.heap.size) := by show _ = _; rw [← hW6]; simp
      rw [hW6] at HN6 HO6 HX6 HI6 HR6 x0 x1 x2 x3 q0 ⊢
      clear hW6 y0 z0
      have hrw : rwV (rwR (r1, rl, rp, ids) (.slice p3 idl c3)) = .agg #[.string X, .int .i64 rl, .int .u32 rp, .slice p3 idl c3] := by
        unfold rwR rwV
        simp only
        rw [HXX.out]
      have hwn : WfNm r1 := by show r1.length ≤ maxLen; have := HNJ.out; unfold maxLen; omega
      have hflen : ((((fl.take j).reverse ++ fs).map fun r => (r.1, rwR r (vi' r.1)))).length < maxLen := by
        rw [List.length_map, List.length_append, List.length_reverse, List.length_take]
        have h1 := HLEN.out
        have h2 := HSL.out
        unfold maxLen
        omega
      obtain ⟨w7, hst, hOf7, hg7⟩ := (ofS_drew HN6.out.files).store Tryz.underlying99 hwn (rwR (r1, rl, rp, ids) (.slice p3 idl c3)) hflen
      change (Instr.mapUpdate 99 (.map (some mf)) (.string ⟨r1.toArray⟩) (rwV (rwR (r1, rl, rp, ids) (.slice p3 idl c3)))).run Tryz.prog _ = _ at hst
      rw [HXX.out, hrw] at hst
      have HOF7 : Hid (strRcps.Of w7 mf ((r1, rwR (r1, rl, rp, ids) (.slice p3 idl c3)) :: ((fl.take j).reverse ++ fs).map fun r => (r.1, rwR r (vi' r.1)))) := hOf7 _ (by
        rw [List.filter_eq_self.2 (fun y hy => by
          obtain ⟨f, hfm, rfl⟩ := List.mem_map.1 hy
          simpa using HGJ.out f hfm)])
      have HO67 : Hid (Off (fun k => k = mf) W6 w7) := off_of_grown (grown_drew hg7) rfl
      clear hrw hwn hflen hOf7 hg7
      go_region
      all_goals
        go_wp2_with fail
        have hnat := NAtR.file (r := (r1, rl, rp, ids)) (v := .slice p3 idl c3) HN6.out HO67.out HOF7.out HGJ.out (HI6.out.at.off HO67.out (fun hne k hk e => by have h1 := HI6.out.own hne hk; have h2 := HS3.out; have h3 := HSZ.out; omega)) (fun hne k hk => by
          have h1 := HI6.out.own hne hk
          refine ⟨Nat.lt_of_lt_of_le h1.2 HO67.out.size, fun hf => ?_⟩
          have := HLT.out k hf
          have h2 := HS3.out
          omega)
        have hft : ∀ k, rFoot N mf mb (fun n => if n = r1 then .slice p3 idl c3 else vi' n) Fi ((r1, rl, rp, ids) :: ((fl.take j).reverse ++ fs)) bs k → rFoot N mf mb vi Fi fs bs k ∨ w.heap.size ≤ k := fun k hk => by
          rcases rFoot_file (r := (r1, rl, rp, ids)) HGJ.out hk with h | ⟨hne, h⟩
          · exact HFT.out k h
          · have h1 := HI6.out.own hne h
            have h2 := HS3.out
            have h3 := HSZ.out
            exact .inr (by omega)
        have htk : (r1, rl, rp, ids) :: ((fl.take j).reverse ++ fs) = (fl.take (j + 1)).reverse ++ fs := by rw [HTK.out, List.reverse_append]; rfl
        rw [htk] at hnat hft
        have HN7 := hideN hnat
        have HFT7 := hideN hft
        have HO7 : Hid (Off (fun k => k = mf) w w7) := HO6.out.trans HO67.out (fun _ _ h => h)
        have HX7 := hideN (HO67.out.blk HX6.out (fun e => by have h1 := HXE.out; have h2 := HH.out.files.lt; omega))
        clear hst hnat hft htk x0 x1 x2 x3 q0
        go_roundw
        case rel => exact ⟨j + 1, _, hlt, by go_num, HN7.out, HFT7.out, HO7.out, HX7.out⟩
        case measure => simp [intOf]; omega
    · have hge : (fl.length : Int) ≤ (j : Int) := by omega
      rw [List.take_of_length_le (by omega)] at HN HFT
      have q1 := HN.out.blk.cell (i := 1) rfl
      have e0 := HXB.out.cell (i := 0) rfl
      have e1 := HXB.out.cell (i := 1) rfl
      obtain ⟨w8, hst, hOf8, hg8⟩ := (ofB_drew HN.out.bins).store Tryz.underlying100 HX.out (some q) (by rw [List.length_map]; have := HBL.out; unfold maxLen; omega)
      change (Instr.mapUpdate 100 (.map (some mb)) (idV (xp : Nat) xl) (.pointer (some q))).run Tryz.prog _ = _ at hst
      have HOF8 : Hid (idBins.Of w8 mb (((xp, xl), some q) :: (bs.filter (fun b => !decide (b.1 = (xp, xl)))).map fun b => (b.1, some (pi b.1)))) := hOf8 _ (by
        rw [List.filter_map]
        exact List.Perm.refl _)
      have HO8 : Hid (Off (fun k => k = mb) wr w8) := off_of_grown (grown_drew hg8) rfl
      clear hOf8 hg8
      go_wp2_with fail
      go_region
      all_goals
        go_wp2_with fail
        refine bodyPost_end (v := .tuple #[]) (by simp [results, Tryz.results77, go_sem]) rfl ⟨rfl, vi', _, _, NAtR.rep HN.out HO8.out HOF8.out ((HQ.out.off HO.out (fun k hk e => HF8.out k hk (.inr (.inl e)))).off HO8.out (fun k hk e => HF8.out k hk (.inr (.inr (.inl e))))) (fun k hk hf => ?_), fun k hk => ?_, ?_⟩
        · rcases HFT.out k hf with h | h
          · exact HF8.out k hk h
          · have := HQ.out.lt k hk; omega
        · rcases rFoot_rep hk with h | h
          · rcases HFT.out k h with h | h
            · exact .inl h
            · exact .inr (.inr h)
          · exact .inr (.inl h)
        · exact HO.out.two HO8.out
end Go.Proofs.YtcbcjefefmbccabGreatDoor
namespace Go.Proofs.YtcbcjefefmbccabGreatDoor
open Go.RowKit Go.Maps

def RecPost (a : Nat → Addr) (nm : ByteArray) (w : World) (r : Option (List UInt8)) (e : Ending) (w' : World) : Prop :=
  (match r with
    | none => ∃ ev, e = .returned (.tuple #[rcpV ⟨#[]⟩ 0 0 (.slice none 0 0), ev]) ∧ ErrIn w.heap.size w' a ev (5, -1)
    | some s => ∃ v, e = .returned (.tuple #[rcpV nm (s.length : Int) ((pmore 2166136261 s : Nat) : Int) v, .nilIface]) ∧ IdsIn w.heap.size w' v (idsOf s)) ∧ Below w.heap.size w w'
set_option maxRecDepth 100000 in
set_option maxHeartbeats 2000000 in
theorem nodeRecipe_any (a : Nat → Addr) (nm : ByteArray) (p : Addr) (F : Nat → Prop) (st : NSt) (w : World) (hnm : nm.size ≤ 50000) (hlen : ∀ f ∈ st.files, (idsOf f.2).length ≤ 50000) (hE : ErrE [4] w a) (hP : PNode w p F st) :
    Calls Tryz.prog 12 #[.pointer (some p), .string nm] w (RecPost a nm w (nFile st.files nm.data.toList)) := by
  obtain ⟨N, mf, mb, vi, pi, Fi, rfl, h, _⟩ := hP
  have HEE : Hid (∀ W, Below w.heap.size w W → ErrE [4] W a) := fun W hb => hE.below hb (Nat.le_refl _)
  have hal := (Below.refl w.heap.size w).alloc (Nat.le_refl _) (.cells #[.string ⟨#[]⟩, .int .i64 0, .int .u32 0, .slice none 0 0] 40)
  have hbr := Blk.new w #[.string ⟨#[]⟩, .int .i64 0, .int .u32 0, .slice none 0 0] 40
  have h1 := h.below hal
  have q0 := h1.blk.cell (i := 0) rfl
  have HH := hideN h1
  have hnw : WfNm nm.data.toList := by show nm.data.toList.length ≤ maxLen; rw [Array.length_toList]; show nm.size ≤ maxLen; unfold maxLen; omega
  have hnmE : (⟨nm.data.toList.toArray⟩ : ByteArray) = nm := by simp
  cases hf : nFile st.files nm.data.toList with
  | none =>
    have l0 : (Instr.lookup 99 (.map (some mf)) (.string nm) true).run Tryz.prog (w.alloc (.cells #[.string ⟨#[]⟩, .int .i64 0, .int .u32 0, .slice none 0 0] 40)) = .ok (.tuple #[.agg #[.string ⟨#[]⟩, .int .i64 0, .int .u32 0, .slice none 0 0], .bool false]) (w.alloc (.cells #[.string ⟨#[]⟩, .int .i64 0, .int .u32 0, .slice none 0 0] 40)) := by
      have := h1.files.look_none Tryz.underlying99 (rcpZero _) hnw (fun y hy => by
        obtain ⟨f, hfm, rfl⟩ := List.mem_map.1 hy
        exact nFile_none hf f hfm)
      change (Instr.lookup _ _ (.string ⟨nm.data.toList.toArray⟩) true).run _ _ = _ at this
      rw [hnmE] at this
      exact this
    clear h h1 hf hnmE hE hlen
    go_enter Tryz.func12, Tryz.ntmps12
    have hal2 := (Below.refl (w.alloc (.cells #[.string ⟨#[]⟩, .int .i64 0, .int .u32 0, .slice none 0 0] 40)).heap.size (w.alloc (.cells #[.string ⟨#[]⟩, .int .i64 0, .int .u32 0, .slice none 0 0] 40))).alloc (Nat.le_refl _) (.cells #[.string ⟨#[]⟩, .int .i64 0, .int .u32 0, .slice none 0 0] 40)
    have HB2 : Hid (Below w.heap.size w _) := hideN (hal.trans (hal2.mono hal.size))
    have hbr2 := hbr.next hal2
    have g4 := (HEE.out _ HB2.out).glob 4 rfl
    change World.cell? _ ⟨0, 0, none⟩ = _ at g4
    have hgl : 0 < w.heap.size := lt_of_cell ((HEE.out w (Below.refl _ _)).glob 4 rfl)
    have hgl2 : 0 ≠ w.heap.size := by omega
    clear hal hal2 hbr
    go_wp2_with fail
    generalize ((w.alloc (.cells #[.string ⟨#[]⟩, .int .i64 0, .int .u32 0, .slice none 0 0] 40)).alloc (.cells #[.string ⟨#[]⟩, .int .i64 0, .int .u32 0, .slice none 0 0] 40)) = W2 at *
    have k0 := hbr2.cell (i := 0) rfl
    have k1 := hbr2.cell (i := 1) rfl
    have k2 := hbr2.cell (i := 2) rfl
    have k3 := hbr2.cell (i := 3) rfl
    have f0 := hbr2.frozen 0
    have f1 := hbr2.frozen 1
    have f2 := hbr2.frozen 2
    have f3 := hbr2.frozen 3
    go_region
    all_goals
      go_wp2_with fail
      have hRs := (((hbr2.set 0 (.string ⟨#[]⟩)).set 1 (.int .i64 0)).set 2 (.int .u32 0)).set 3 (.slice none 0 0)
      have s0 := hRs.cell (i := 0) rfl
      have s1 := hRs.cell (i := 1) rfl
      have s2 := hRs.cell (i := 2) rfl
      have s3 := hRs.cell (i := 3) rfl
      exact bodyPost_ret (v := .tuple #[.agg #[.string ⟨#[]⟩, .int .i64 0, .int .u32 0, .slice none 0 0], sentV a 4]) (by simp [results, Tryz.results12, go_sem, s0, s1, s2, s3]) rfl ⟨⟨_, rfl, .inr (.inl ⟨4, by decide, rfl, rfl⟩)⟩, ((((HB2.out.setCell (p := ⟨w.heap.size, 0, none⟩) (Nat.le_refl _) _).setCell (p := ⟨w.heap.size, 1, none⟩) (Nat.le_refl _) _).setCell (p := ⟨w.heap.size, 2, none⟩) (Nat.le_refl _) _).setCell (p := ⟨w.heap.size, 3, none⟩) (Nat.le_refl _) _).drew⟩
  | some s =>
    obtain ⟨pv0, cv0, hv0, _⟩ := h1.ids _ (nFile_some hf)
    have HL := hideN (hlen _ (nFile_some hf))
    have HI := hideN (h1.ids _ (nFile_some hf))
    simp only at hv0 HL HI
    have l0 : (Instr.lookup 99 (.map (some mf)) (.string nm) true).run Tryz.prog (w.alloc (.cells #[.string ⟨#[]⟩, .int .i64 0, .int .u32 0, .slice none 0 0] 40)) = .ok (.tuple #[.agg #[.string nm, .int .i64 (s.length : Int), .int .u32 ((pmore 2166136261 s : Nat) : Int), .slice pv0 (idsOf s).length cv0], .bool true]) (w.alloc (.cells #[.string ⟨#[]⟩, .int .i64 0, .int .u32 0, .slice none 0 0] 40)) := by
      have := h1.files.look_some Tryz.underlying99 (rcpZero _) (List.mem_map.2 ⟨_, nFile_some hf, rfl⟩)
      change (Instr.lookup _ _ (.string ⟨nm.data.toList.toArray⟩) true).run _ _ = .ok (.tuple #[rcpV ⟨nm.data.toList.toArray⟩ (s.length : Int) ((pmore 2166136261 s : Nat) : Int) (vi nm.data.toList), .bool true]) _ at this
      rw [hnmE, hv0] at this
      exact this
    rw [hv0] at HI
    obtain ⟨P, hPP⟩ : ∃ P, pmore 2166136261 s = P := ⟨_, rfl⟩
    obtain ⟨L, hLL⟩ : ∃ L, (s.length : Int) = L := ⟨_, rfl⟩
    obtain ⟨idl, hidl⟩ : ∃ idl, (idsOf s).length = idl := ⟨_, rfl⟩
    have HPP := hideN hPP
    have HLL := hideN hLL
    have HID := hideN hidl
    rw [hPP, hLL, hidl] at l0
    rw [hidl] at HI
    clear h h1 hf hnmE hE hlen hv0 hPP hLL hidl
    have hal2 := (Below.refl (w.alloc (.cells #[.string ⟨#[]⟩, .int .i64 0, .int .u32 0, .slice none 0 0] 40)).heap.size (w.alloc (.cells #[.string ⟨#[]⟩, .int .i64 0, .int .u32 0, .slice none 0 0] 40))).alloc (Nat.le_refl _) (.cells #[.string nm, .int .i64 L, .int .u32 (P : Nat), .slice pv0 idl cv0] 40)
    go_enter Tryz.func12, Tryz.ntmps12
    have hbr2 := hbr.next hal2
    have hr2 := Blk.new (w.alloc (.cells #[.string ⟨#[]⟩, .int .i64 0, .int .u32 0, .slice none 0 0] 40)) #[.string nm, .int .i64 L, .int .u32 (P : Nat), .slice pv0 idl cv0] 40
    have hs1 : (w.alloc (.cells #[.string ⟨#[]⟩, .int .i64 0, .int .u32 0, .slice none 0 0] 40)).heap.size = w.heap.size + 1 := by simp
    rw [hs1] at hr2
    have HB2 : Hid (Below w.heap.size w _) := hideN (hal.trans (hal2.mono hal.size))
    have HI2 := hideN (HI.out.below hal2)
    clear hal hal2 hbr HI hs1
    go_wp2_with fail
    generalize ((w.alloc (.cells #[.string ⟨#[]⟩, .int .i64 0, .int .u32 0, .slice none 0 0] 40)).alloc (.cells #[.string nm, .int .i64 L, .int .u32 (P : Nat), .slice pv0 idl cv0] 40)) = W2 at *
    have u0 := hr2.cell (i := 0) rfl
    have u1 := hr2.cell (i := 1) rfl
    have u2 := hr2.cell (i := 2) rfl
    have u3 := hr2.cell (i := 3) rfl
    go_wp2_with fail
    refine (copyOf_any nm L (P : Nat) (.slice pv0 idl cv0) (idsOf s) W2 HI2.out HL.out).mono ?_
    rintro e w3 ⟨v3, rfl, hi3, hb3⟩
    have HI3 := hideN hi3
    have HB3 : Hid (Below w.heap.size w w3) := HB2.out.trans (hb3.mono HB2.out.size)
    have hbr3 := hbr2.next hb3
    have hlt3 := hr2.lt
    obtain ⟨p3, c3, hv3, _⟩ := hi3
    rw [HID.out] at hv3
    subst hv3
    clear hb3 HI2 hbr2 hr2 u0 u1 u2 u3
    have k0 := hbr3.cell (i := 0) rfl
    have k1 := hbr3.cell (i := 1) rfl
    have k2 := hbr3.cell (i := 2) rfl
    have k3 := hbr3.cell (i := 3) rfl
    have f0 := hbr3.frozen 0
    have f1 := hbr3.frozen 1
    have f2 := hbr3.frozen 2
    have f3 := hbr3.frozen 3
    go_wp2_with fail
    have hRs := (((hbr3.set 0 (.string nm)).set 1 (.int .i64 L)).set 2 (.int .u32 (P : Nat))).set 3 (.slice p3 idl c3)
    have s0 := hRs.cell (i := 0) rfl
    have s1 := hRs.cell (i := 1) rfl
    have s2 := hRs.cell (i := 2) rfl
    have s3 := hRs.cell (i := 3) rfl
    have hO := ((((Off.of_below (F := fun k => k = w.heap.size) (Below.refl w3.heap.size w3)).setCell (p := ⟨w.heap.size, 0, none⟩) (.inl rfl) (.string nm)).setCell (p := ⟨w.heap.size, 1, none⟩) (.inl rfl) (.int .i64 L)).setCell (p := ⟨w.heap.size, 2, none⟩) (.inl rfl) (.int .u32 (P : Nat))).setCell (p := ⟨w.heap.size, 3, none⟩) (.inl rfl) (.slice p3 idl c3)
    have hi9 := (HI3.out.off hO (fun k hk e => by omega)).low (show w.heap.size ≤ W2.heap.size by omega)
    exact bodyPost_ret (v := .tuple #[.agg #[.string nm, .int .i64 L, .int .u32 (P : Nat), .slice p3 idl c3], .nilIface]) (by simp [results, Tryz.results12, go_sem, s0, s1, s2, s3]) rfl ⟨⟨.slice p3 idl c3, by rw [HLL.out, HPP.out], hi9⟩, HB3.out.trans (hO.below HB3.out.size (fun j hj e => by omega))⟩
end Go.Proofs.YtcbcjefefmbccabGreatDoor
namespace Go.Proofs.YtcbcjefefmbccabGreatDoor
open Go.RowKit

/- The first piece that has another ID. -/
def firstOdd : Nat → List (List UInt8) → List (Nat × Int) → Option Nat
  | i, p :: l, x :: r => if idOfL p = x then firstOdd (i + 1) l r else some i
  | _, _, _ => none
def joinOf (nm : List UInt8) (len : Int) (p : Nat) (ids : List (Nat × Int)) (ls : List (List UInt8)) : List UInt8 × (Int × Int) :=
  if recFault nm len ids ≠ (0, -1) then ([], recFault nm len ids) else if ls.length ≠ ids.length then ([], (3, -1)) else
    match firstOdd 0 ls ids with
    | some i => ([], (9, (i : Int)))
    | none => if pmore 2166136261 ls.flatten = p then (ls.flatten, (0, -1)) else ([], (9, -1))
theorem recFault_code (nm : List UInt8) (len : Int) (ids : List (Nat × Int)) : recFault nm len ids = (0, -1) ∨ 0 < (recFault nm len ids).1 := by
  unfold recFault
  split
  · exact .inr (by decide)
  · split
    · exact .inr (by decide)
    · split
      · exact .inr (by decide)
      · split
        · exact .inr (by show (0 : Int) < 3; decide)
        · split
          · exact .inl rfl
          · exact .inr (by decide)
theorem recFault_zero {nm : List UInt8} {len : Int} {ids : List (Nat × Int)} (h : recFault nm len ids = (0, -1)) : isName nm = true ∧ (0 ≤ len ∧ len ≤ 4000) ∧ ids.length ≤ 250 ∧ firstBad 0 ids = none ∧ lenSum ids = len := by
  unfold recFault at h
  split at h
  · cases h
  · rename_i h1
    split at h
    · cases h
    · rename_i h2
      split at h
      · cases h
      · rename_i h3
        split at h
        · cases h
        · rename_i h4
          split at h
          · rename_i h5
            exact ⟨by simpa using h1, by omega, by omega, h4, h5⟩
          · cases h
/- The recipe's box, the result, and a fault in a block of its own. -/
structure JoinW (w W : World) (nm : ByteArray) (len p : Int) (v : Value) (B : Nat) (c a : Int) : Prop where
  fault : FaultW w W nm len p v
  lo : w.heap.size + 1 < B
  hi : B < W.heap.size
  q0 : W.cell? ⟨B, 0, none⟩ = some (.int .i64 c)
  q1 : W.cell? ⟨B, 1, none⟩ = some (.int .i64 a)
theorem JoinW.next {w W W' : World} {nm : ByteArray} {len p : Int} {v : Value} {B : Nat} {c a : Int} (h : JoinW w W nm len p v B c a) (hb : Below W.heap.size W W') : JoinW w W' nm len p v B c a :=
  ⟨h.fault.next hb, h.lo, Nat.lt_of_lt_of_le h.hi hb.size, (hb.cell (p := ⟨B, 0, none⟩) h.hi).trans h.q0, (hb.cell (p := ⟨B, 1, none⟩) h.hi).trans h.q1⟩
theorem JoinW.new {w W : World} {nm : ByteArray} {len p : Int} {v : Value} (h : FaultW w W nm len p v) (c a : Int) (t : TypeId) : JoinW w (W.alloc (.cells #[.int .i64 c, .int .i64 a] t)) nm len p v W.heap.size c a :=
  ⟨h.next ((Below.refl _ W).alloc (Nat.le_refl _) _), h.size, by simp, new_cell W _ _ rfl rfl, new_cell W _ _ rfl rfl⟩

end Go.Proofs.YtcbcjefefmbccabGreatDoor
