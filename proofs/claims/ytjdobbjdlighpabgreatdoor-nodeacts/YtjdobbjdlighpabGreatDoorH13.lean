/-
  Own text. OwnRecipe by a contract: the same recipe, its IDs in new memory.
  Own text. slices.Clone of IDs by a contract.
  Own text. Recipes in memory, one behind the other (RcpsAt): name, length, print, IDs.
  Own text. Memory of which two blocks have turned.
  Own text. A node whose files are recipes, whatever their texts (NAtR); NAt is it at files of texts; one file more, one bin more.
  Own text. The program's bin by contracts: Drop.
-/
import Derived.Test.YtjdobbjdlighpabGreatDoorH09
import Derived.Test.YtjdobbjdlighpabGreatDoorH03
import Derived.Test.YtjdobbjdlighpabGreatDoorH12
import Derived.Deep.QuietTactic
import Derived.Test.YtjdobbjdlighpabGreatDoorH10
import Derived.Test.YtjdobbjdlighpabGreatDoorH06
namespace Go.Proofs.YtjdobbjdlighpabGreatDoor
open Go.RowKit

theorem idCells_cells {W : World} {b o : Nat} {ids : List (Nat × Int)} (h : ∀ i (h : i < ids.length), W.cell? ⟨b, o + i * 2, none⟩ = some (.int .u32 (ids[i].1 : Nat)) ∧ W.cell? ⟨b, o + i * 2 + 1, none⟩ = some (.int .i64 ids[i].2)) :
    ∀ j u, (idCells ids)[j]? = some u → W.cell? ((⟨b, o, none⟩ : Addr).add j) = some u := by
  intro j u hj
  have hjl : j < (idCells ids).length := (List.getElem?_eq_some_iff.1 hj).1
  rw [idCells_length] at hjl
  have hi : j / 2 < ids.length := by omega
  have ha : (⟨b, o, none⟩ : Addr).add j = ⟨b, o + j, none⟩ := by unfold Addr.add; split <;> simp_all
  rw [ha]
  have e := idCells_at ids (j / 2) hi
  rcases Nat.mod_two_eq_zero_or_one j with h0 | h0
  · have hj2 : j / 2 * 2 = j := by omega
    rw [hj2] at e
    have h1 := (h (j / 2) hi).1
    rw [hj2] at h1
    rw [h1, ← hj, e.1]
  · have hj2 : j / 2 * 2 + 1 = j := by omega
    rw [hj2] at e
    have h1 := (h (j / 2) hi).2
    rw [Nat.add_assoc, hj2] at h1
    rw [h1, ← hj, e.2]
theorem idCells_one (ids : List (Nat × Int)) : ∀ u ∈ idCells ids, u.oneCell' = true := by
  induction ids with
  | nil => simp [idCells]
  | cons x r ih =>
    intro u hu
    simp only [idCells, List.mem_cons] at hu
    rcases hu with rfl | rfl | hu
    · rfl
    · rfl
    · exact ih u hu

/- A recipe in a box, and an empty one behind it. -/
structure OwnW (w W : World) (nm : ByteArray) (len p : Int) (v : Value) : Prop where
  below : Below w.heap.size w W
  size : w.heap.size + 1 < W.heap.size
  b0 : W.cell? ⟨w.heap.size, 0, none⟩ = some (.string nm)
  b1 : W.cell? ⟨w.heap.size, 1, none⟩ = some (.int .i64 len)
  b2 : W.cell? ⟨w.heap.size, 2, none⟩ = some (.int .u32 p)
  b3 : W.cell? ⟨w.heap.size, 3, none⟩ = some v
  r0 : W.cell? ⟨w.heap.size + 1, 0, none⟩ = some (.string ⟨#[]⟩)
  r1 : W.cell? ⟨w.heap.size + 1, 1, none⟩ = some (.int .i64 0)
  r2 : W.cell? ⟨w.heap.size + 1, 2, none⟩ = some (.int .u32 0)
  r3 : W.cell? ⟨w.heap.size + 1, 3, none⟩ = some (.slice none 0 0)
  g : ∀ i, W.frozen? ⟨w.heap.size, i, none⟩ = false
  f : ∀ i, W.frozen? ⟨w.heap.size + 1, i, none⟩ = false
theorem OwnW.of {w W : World} (nm : ByteArray) (len p : Int) (v : Value) (t : TypeId)
    (hb : Below ((w.alloc (.cells #[.string nm, .int .i64 len, .int .u32 p, v] t)).alloc (.cells #[.string ⟨#[]⟩, .int .i64 0, .int .u32 0, .slice none 0 0] t)).heap.size ((w.alloc (.cells #[.string nm, .int .i64 len, .int .u32 p, v] t)).alloc (.cells #[.string ⟨#[]⟩, .int .i64 0, .int .u32 0, .slice none 0 0] t)) W) : OwnW w W nm len p v := by
  have hs := hb.size
  simp only [World.size_alloc] at hs
  have c : ∀ i u, (#[.string nm, .int .i64 len, .int .u32 p, v] : Array Value)[i]? = some u → W.cell? ⟨w.heap.size, i, none⟩ = some u := fun i u h =>
    (hb.cell (p := ⟨w.heap.size, i, none⟩) (by simp; omega)).trans ((World.cell?_alloc_lt _ _ ⟨w.heap.size, i, none⟩ (by simp)).trans (new_cell w _ _ h rfl))
  have r : ∀ i u, (#[.string ⟨#[]⟩, .int .i64 0, .int .u32 0, .slice none 0 0] : Array Value)[i]? = some u → W.cell? ⟨w.heap.size + 1, i, none⟩ = some u := fun i u h =>
    (hb.cell (p := ⟨w.heap.size + 1, i, none⟩) (by simp)).trans (new_cell _ _ _ h (by simp))
  refine ⟨(((Below.refl _ w).alloc (Nat.le_refl _) _).alloc (by simp) _).trans (hb.mono (by simp; omega)), by omega, c 0 _ rfl, c 1 _ rfl, c 2 _ rfl, c 3 _ rfl, r 0 _ rfl, r 1 _ rfl, r 2 _ rfl, r 3 _ rfl, fun i => ?_, fun i => ?_⟩
  · rw [hb.frozen (p := ⟨w.heap.size, i, none⟩) (by simp; omega), frozen_alloc_lt' _ _ (by simp)]
    exact new_frozen w _ _ rfl
  · rw [hb.frozen (p := ⟨w.heap.size + 1, i, none⟩) (by simp)]
    exact new_frozen _ _ _ (by simp)

set_option maxRecDepth 100000 in
set_option maxHeartbeats 4000000 in
theorem ownRecipe_any (nm : ByteArray) (len : Int) (p : Nat) (v : Value) (ids : List (Nat × Int)) (w : World) (hv : IdsAt w v ids) (hlen : ids.length ≤ 50000) :
    Calls Tryz.prog 20 #[rcpV nm len (p : Nat) v] w fun e w' => ∃ v', e = .returned (rcpV nm len (p : Nat) v') ∧ IdsIn w.heap.size w' v' ids ∧ Below w.heap.size w w' := by
  obtain ⟨i0, hi, hz0, hz1, hz2⟩ := info_parts infoID
  obtain ⟨pa, c, rfl, hcell⟩ := hv
  have HL : Hid (ids.length ≤ 50000) := hlen
  clear hlen
  have hB0 : ∀ oo oo', Below w.heap.size w ((w.alloc oo).alloc oo') := fun oo oo' => ((Below.refl _ w).alloc (Nat.le_refl _) _).alloc (by simp) _
  cases pa with
  | none =>
    have h0 : ids.length = 0 := by
      rcases Nat.eq_zero_or_pos ids.length with h | h
      · exact h
      · obtain ⟨b, o, hp, _⟩ := hcell 0 h
        cases hp
    obtain rfl : ids = [] := List.eq_nil_of_length_eq_zero h0
    clear hcell h0
    go_enter Tryz.func20, Tryz.ntmps20
    go_wp2_with fail
    exact bodyPost_ret (v := rcpV nm len (p : Nat) (.slice none 0 0)) (by simp [results, Tryz.results20, go_sem]) rfl ⟨.slice none 0 0, rfl, IdsIn.nil _ _, hB0 _ _⟩
  | some ad =>
    by_cases hn : ids = []
    · subst hn
      clear hcell
      obtain ⟨b, o, sp⟩ := ad
      go_enter Tryz.func20, Tryz.ntmps20
      go_wp2_with fail
      exact bodyPost_ret (v := rcpV nm len (p : Nat) (.slice none 0 0)) (by simp [results, Tryz.results20, go_sem]) rfl ⟨.slice none 0 0, rfl, IdsIn.nil _ _, hB0 _ _⟩
    · have hn1 : 1 ≤ ids.length := by
        rcases Nat.eq_zero_or_pos ids.length with h | h
        · exact (hn (List.eq_nil_of_length_eq_zero h)).elim
        · exact h
      clear hn
      obtain ⟨b, o, hp, hbl, _⟩ := hcell 0 hn1
      cases hp
      have HC : Hid (∀ W', Below w.heap.size w W' → ∀ j u, (idCells ids)[j]? = some u → W'.cell? ((⟨b, o, none⟩ : Addr).add j) = some u) := fun W' hb => idCells_cells (fun i hi => by
        obtain ⟨b', o', hp, hl, h1, h2⟩ := hcell i hi
        cases hp
        exact ⟨(hb.cell (p := ⟨b, o + i * 2, none⟩) hl).trans h1, (hb.cell (p := ⟨b, o + i * 2 + 1, none⟩) hl).trans h2⟩)
      clear hcell hbl
      obtain ⟨m, hm⟩ : ∃ m, ids.length = m := ⟨_, rfl⟩
      have HM : Hid (ids.length = m) := hm
      have HNL : Hid ((idCells ids).length = m * 2) := by show _ = _; rw [idCells_length, hm]
      have HM5 : Hid (m ≤ 50000) := by show _ ≤ _; rw [← hm]; exact HL.out
      rw [hm] at hn1 ⊢
      clear hm HL
      go_enter Tryz.func20, Tryz.ntmps20
      go_wp2_with (at_builtin; refine wpList_append_own _ rfl (.tmp 4) (.tmp 6) 38 rfl (w.heap.size + 1 + 1) 25 i0 (idV 0 0) 2 16 Tryz.underlying38 hi hz0 hz1 hz2 rfl (by decide) (.slice none 0 0) 0 [] rfl (World.ownsRow_nil _ _ _ _) ⟨b, o, none⟩ m c (idCells ids) rfl HNL.out (HC.out _ (hB0 _ _)) (idCells_one ids) (by have := HM5.out; unfold maxLen; omega) (by have := HM5.out; omega) (by simp) ?_; intro v' w1 hown' hgrow _; rw [Nat.zero_add, List.nil_append] at hown'; have hO := OwnW.of nm len p _ _ (below_of_grown hgrow); obtain ⟨pp, cc, hu, _⟩ := IdsAt.of_row (ids := ids) (by rw [HM.out]; exact hown'); rw [HM.out] at hu; subst hu; clear hgrow; have b0 := hO.b0; have b1 := hO.b1; have b2 := hO.b2; have b3 := hO.b3; have r0 := hO.r0; have r1 := hO.r1; have r2 := hO.r2; have r3 := hO.r3; have g3 := hO.g 3; have f0 := hO.f 0; have f1 := hO.f 1; have f2 := hO.f 2; have f3 := hO.f 3)
      refine bodyPost_ret (v := rcpV nm len (p : Nat) (.slice pp m cc)) (by simp [results, Tryz.results20, go_sem, r0, r1, r2, r3]) rfl ⟨.slice pp m cc, rfl, ?_, ((((hO.below.setCell (p := ⟨w.heap.size, 3, none⟩) (Nat.le_refl _) _).setCell (p := ⟨w.heap.size + 1, 0, none⟩) (by simp) _).setCell (p := ⟨w.heap.size + 1, 1, none⟩) (by simp) _).setCell (p := ⟨w.heap.size + 1, 2, none⟩) (by simp) _).setCell (p := ⟨w.heap.size + 1, 3, none⟩) (by simp) _⟩
      refine (IdsIn.of_row (base := w.heap.size + 1 + 1) (e := 25) ?_).low (by omega)
      rw [HM.out]
      have h0 : w.heap.size < w.heap.size + 1 + 1 := by omega
      have h1 : w.heap.size + 1 < w.heap.size + 1 + 1 := by omega
      exact ownsRow_setCell_below (ownsRow_setCell_below (ownsRow_setCell_below (ownsRow_setCell_below (ownsRow_setCell_below hown' (a := ⟨w.heap.size, 3, none⟩) h0 _) (a := ⟨w.heap.size + 1, 0, none⟩) h1 _) (a := ⟨w.heap.size + 1, 1, none⟩) h1 _) (a := ⟨w.heap.size + 1, 2, none⟩) h1 _) (a := ⟨w.heap.size + 1, 3, none⟩) h1 _
end Go.Proofs.YtjdobbjdlighpabGreatDoor
namespace Go.Proofs.YtjdobbjdlighpabGreatDoor
open Go.RowKit Go.Maps

set_option maxRecDepth 100000 in
set_option maxHeartbeats 4000000 in
theorem cloneIds_any (v : Value) (ids : List (Nat × Int)) (w : World) (hv : IdsAt w v ids) (hlen : ids.length ≤ 50000) :
    Calls Tryz.prog 118 #[v] w fun e w' => ∃ v', e = .returned v' ∧ IdsIn w.heap.size w' v' ids ∧ Below w.heap.size w w' := by
  obtain ⟨i0, hi, hz0, hz1, hz2⟩ := info_parts infoID
  obtain ⟨pa, c, rfl, hcell⟩ := hv
  have HL : Hid (ids.length ≤ 50000) := hlen
  clear hlen
  have q55 : ∀ (w : World) (a : Option Addr) (n c n' c' : Nat), (binOp .eql 38 (.slice a n c) (.slice none n' c')).run Tryz.prog w = .ok (.bool a.isNone) w := fun w a n c n' c' => Lib.run_eql_slice_nil w _ _ a n c n' c' Tryz.underlying38
  cases pa with
  | none =>
    have h0 : ids.length = 0 := by
      rcases Nat.eq_zero_or_pos ids.length with h | h
      · exact h
      · obtain ⟨b, o, hp, _⟩ := hcell 0 h
        cases hp
    obtain rfl : ids = [] := List.eq_nil_of_length_eq_zero h0
    clear hcell h0
    go_enter Tryz.func118, Tryz.ntmps118
    go_wp2_with fail
    go_ret
    exact ⟨_, rfl, IdsIn.nil _ _, Below.refl _ _⟩
  | some ad =>
    have HC : Hid (∀ W', Below w.heap.size w W' → ∀ j u, (idCells ids)[j]? = some u → W'.cell? (ad.add j) = some u) := by
      by_cases hn : ids = []
      · subst hn
        intro W' _ j u hj
        simp [idCells] at hj
      · obtain ⟨b, o, hp, _, _⟩ := hcell 0 (List.length_pos_iff.2 hn)
        cases hp
        exact fun W' hb => idCells_cells (fun i hi => by
          obtain ⟨b', o', hp, hl, h1, h2⟩ := hcell i hi
          cases hp
          exact ⟨(hb.cell (p := ⟨b, o + i * 2, none⟩) hl).trans h1, (hb.cell (p := ⟨b, o + i * 2 + 1, none⟩) hl).trans h2⟩)
    clear hcell
    obtain ⟨m, hm⟩ : ∃ m, ids.length = m := ⟨_, rfl⟩
    have HM : Hid (ids.length = m) := hm
    have HNL : Hid ((idCells ids).length = m * 2) := by show _ = _; rw [idCells_length, hm]
    have HM5 : Hid (m ≤ 50000) := by show _ ≤ _; rw [← hm]; exact HL.out
    rw [hm]
    clear hm HL
    go_enter Tryz.func118, Tryz.ntmps118
    go_wp2_with (at_builtin; refine wpList_append_own _ rfl _ _ 38 rfl w.heap.size 25 i0 (idV 0 0) 2 16 Tryz.underlying38 hi hz0 hz1 hz2 rfl (by decide) _ _ _ rfl (World.ownsRow_made w #[] 0 (Nat.le_refl _) (Nat.zero_le _) rfl) ad m c (idCells ids) rfl HNL.out ?qc2 (idCells_one ids) ?qc4 ?qc5 ?qc6 ?_)
    case qc2 => exact HC.out _ ((Below.refl _ w).alloc (Nat.le_refl _) _)
    case qc4 => have := HM5.out; unfold maxLen; omega
    case qc5 => have := HM5.out; omega
    case qc6 => simp
    intro v' w1 hown hgrow hnil
    go_wp2_with fail
    go_ret
    refine ⟨v', rfl, IdsIn.of_row (e := 25) (by rw [HM.out]; simpa using hown), ?_⟩
    exact ((Below.refl _ w).alloc (Nat.le_refl _) _).grown hgrow (by simp) (by intro k hk; simp [Value.ownBlock] at hk; omega)
end Go.Proofs.YtjdobbjdlighpabGreatDoor
namespace Go.Proofs.YtjdobbjdlighpabGreatDoor
open Go.RowKit Go.Maps

/- A recipe: name, length, print, IDs. -/
abbrev Rcp := List UInt8 × Int × Int × List (Nat × Int)
abbrev rcpRep (r : Rcp) : Nat × Int := repOf r.2.2.2
structure RcpAt (w : World) (b o : Nat) (v : Value) (r : Rcp) : Prop where
  lt : b < w.heap.size
  c0 : w.cell? ⟨b, o, none⟩ = some (.string ⟨r.1.toArray⟩)
  c1 : w.cell? ⟨b, o + 1, none⟩ = some (.int .i64 r.2.1)
  c2 : w.cell? ⟨b, o + 2, none⟩ = some (.int .u32 r.2.2.1)
  c3 : w.cell? ⟨b, o + 3, none⟩ = some v
  ids : IdsAt w v r.2.2.2
theorem RcpAt.below {w w' : World} {b o : Nat} {v : Value} {r : Rcp} (h : RcpAt w b o v r) (hb : Below w.heap.size w w') : RcpAt w' b o v r :=
  ⟨Nat.lt_of_lt_of_le h.lt hb.size, (hb.cell (p := ⟨b, o, none⟩) h.lt).trans h.c0, (hb.cell (p := ⟨b, o + 1, none⟩) h.lt).trans h.c1, (hb.cell (p := ⟨b, o + 2, none⟩) h.lt).trans h.c2, (hb.cell (p := ⟨b, o + 3, none⟩) h.lt).trans h.c3, h.ids.below hb⟩
def RcpsAt (w : World) (v : Value) (fs : List Rcp) : Prop :=
  ∃ (p : Option Addr) (c : Nat), v = .slice p fs.length c ∧ ∀ i (h : i < fs.length), ∃ b o vi, p = some ⟨b, o, none⟩ ∧ RcpAt w b (o + i * 4) vi fs[i]
theorem RcpsAt.below {w w' : World} {v : Value} {fs : List Rcp} (h : RcpsAt w v fs) (hb : Below w.heap.size w w') : RcpsAt w' v fs := by
  obtain ⟨p, c, rfl, h⟩ := h
  refine ⟨p, c, rfl, fun i hi => ?_⟩
  obtain ⟨b, o, vi, hp, hr⟩ := h i hi
  exact ⟨b, o, vi, hp, hr.below hb⟩
def rcpOf (f : NFile) : Rcp := (f.1, (f.2.length : Int), ((pmore 2166136261 f.2 : Nat) : Int), idsOf f.2)
end Go.Proofs.YtjdobbjdlighpabGreatDoor
namespace Go.Proofs.YtjdobbjdlighpabGreatDoor
open Go.RowKit Go.Maps

theorem Off.two {a b c : World} {x y : Nat} (h : Off (fun k => k = x) a b) (k : Off (fun k => k = y) b c) : Off (fun k => k = x ∨ k = y) a c :=
  ⟨k.os.trans h.os, k.tape.trans h.tape, k.output.trans h.output, Nat.le_trans h.size k.size, fun i hi hf => (k.block i (Nat.lt_of_lt_of_le hi h.size) (fun e => hf (.inr e))).trans (h.block i hi (fun e => hf (.inl e)))⟩
end Go.Proofs.YtjdobbjdlighpabGreatDoor
namespace Go.Proofs.YtjdobbjdlighpabGreatDoor
open Go.RowKit Go.Maps

def rwR (r : Rcp) (v : Value) : Rw := (r.1, r.2.1, r.2.2.1, v)
structure NAtR (w : World) (N mf mb : Nat) (vi : List UInt8 → Value) (pi : Nat × Int → Addr) (Fi : Nat × Int → Nat → Prop) (fs : List Rcp) (bs : List NBin) : Prop where
  blk : Blk w N #[.map (some mf), .map (some mb)] 102
  files : strRcps.Of w mf (fs.map fun r => (r.1, rwR r (vi r.1)))
  bins : idBins.Of w mb (bs.map fun b => (b.1, some (pi b.1)))
  ids : ∀ r ∈ fs, IdsAt w (vi r.1) r.2.2.2
  rows : ∀ r ∈ fs, r.2.2.2 ≠ [] → ∀ k, (vi r.1).ownBlock = some k → k < w.heap.size ∧ k ≠ N ∧ k ≠ mf ∧ k ≠ mb ∧ ∀ b ∈ bs, ¬ Fi b.1 k
  bin : ∀ b ∈ bs, PBin0 w (pi b.1) (Fi b.1) b.2
  ne : N ≠ mf ∧ N ≠ mb ∧ mf ≠ mb
  apart : ∀ b ∈ bs, ¬ Fi b.1 N ∧ ¬ Fi b.1 mf ∧ ¬ Fi b.1 mb
  two : ∀ b ∈ bs, ∀ c ∈ bs, b.1 ≠ c.1 → ∀ k, Fi b.1 k → ¬ Fi c.1 k
def rFoot (N mf mb : Nat) (vi : List UInt8 → Value) (Fi : Nat × Int → Nat → Prop) (fs : List Rcp) (bs : List NBin) (k : Nat) : Prop :=
  k = N ∨ k = mf ∨ k = mb ∨ (∃ b ∈ bs, Fi b.1 k) ∨ ∃ r ∈ fs, r.2.2.2 ≠ [] ∧ (vi r.1).ownBlock = some k
theorem NAt.toR {w : World} {N mf mb : Nat} {vi : List UInt8 → Value} {pi : Nat × Int → Addr} {Fi : Nat × Int → Nat → Prop} {st : NSt} (h : NAt w N mf mb vi pi Fi st) : NAtR w N mf mb vi pi Fi (st.files.map rcpOf) st.bins where
  blk := h.blk
  files := by rw [List.map_map]; exact h.files
  bins := h.bins
  ids r hr := by
    obtain ⟨f, hf, rfl⟩ := List.mem_map.1 hr
    exact h.ids f hf
  rows r hr := by
    obtain ⟨f, hf, rfl⟩ := List.mem_map.1 hr
    exact h.rows f hf
  bin := h.bin
  ne := h.ne
  apart := h.apart
  two := h.two
theorem NAtR.toN {w : World} {N mf mb : Nat} {vi : List UInt8 → Value} {pi : Nat × Int → Addr} {Fi : Nat × Int → Nat → Prop} {fl : List NFile} {bs : List NBin} (h : NAtR w N mf mb vi pi Fi (fl.map rcpOf) bs) : NAt w N mf mb vi pi Fi ⟨fl, bs⟩ where
  blk := h.blk
  files := by have := h.files; rw [List.map_map] at this; exact this
  bins := h.bins
  ids f hf := h.ids _ (List.mem_map_of_mem hf)
  rows f hf := h.rows _ (List.mem_map_of_mem hf)
  bin := h.bin
  ne := h.ne
  apart := h.apart
  two := h.two
theorem rFoot_iff {N mf mb : Nat} {vi : List UInt8 → Value} {Fi : Nat × Int → Nat → Prop} {fl : List NFile} {bs : List NBin} {k : Nat} : rFoot N mf mb vi Fi (fl.map rcpOf) bs k ↔ nFoot N mf mb vi Fi ⟨fl, bs⟩ k := by
  unfold rFoot nFoot
  refine or_congr Iff.rfl (or_congr Iff.rfl (or_congr Iff.rfl (or_congr Iff.rfl ⟨?_, ?_⟩)))
  · rintro ⟨r, hr, h1, h2⟩
    obtain ⟨f, hf, rfl⟩ := List.mem_map.1 hr
    exact ⟨f, hf, h1, h2⟩
  · rintro ⟨f, hf, h1, h2⟩
    exact ⟨_, List.mem_map_of_mem hf, h1, h2⟩
theorem NAtR.lt {w : World} {N mf mb : Nat} {vi : List UInt8 → Value} {pi : Nat × Int → Addr} {Fi : Nat × Int → Nat → Prop} {fs : List Rcp} {bs : List NBin} (h : NAtR w N mf mb vi pi Fi fs bs) : ∀ k, rFoot N mf mb vi Fi fs bs k → k < w.heap.size := by
  rintro k (rfl | rfl | rfl | ⟨b, hb, hk⟩ | ⟨f, hf, hi, hk⟩)
  · exact h.blk.lt
  · exact h.files.lt
  · exact h.bins.lt
  · exact (h.bin b hb).lt k hk
  · exact (h.rows f hf hi k hk).1
theorem NAtR.off {w w' : World} {N mf mb : Nat} {vi : List UInt8 → Value} {pi : Nat × Int → Addr} {Fi : Nat × Int → Nat → Prop} {fs : List Rcp} {bs : List NBin} {G : Nat → Prop} (h : NAtR w N mf mb vi pi Fi fs bs) (ho : Off G w w') (hG : ∀ k, rFoot N mf mb vi Fi fs bs k → ¬ G k) : NAtR w' N mf mb vi pi Fi fs bs where
  blk := ho.blk h.blk (hG N (.inl rfl))
  files := h.files.moved (ho.block mf h.files.lt (hG mf (.inr (.inl rfl))))
  bins := h.bins.moved (ho.block mb h.bins.lt (hG mb (.inr (.inr (.inl rfl)))))
  ids f hf := (h.ids f hf).off ho (fun hi k hk => hG k (.inr (.inr (.inr (.inr ⟨f, hf, hi, hk⟩)))))
  rows f hf hi k hk := by
    obtain ⟨h1, h2⟩ := h.rows f hf hi k hk
    exact ⟨Nat.lt_of_lt_of_le h1 ho.size, h2⟩
  bin b hb := (h.bin b hb).off ho (fun k hk => hG k (.inr (.inr (.inr (.inl ⟨b, hb, hk⟩)))))
  ne := h.ne
  apart := h.apart
  two := h.two
theorem NAtR.below {w w' : World} {N mf mb : Nat} {vi : List UInt8 → Value} {pi : Nat × Int → Addr} {Fi : Nat × Int → Nat → Prop} {fs : List Rcp} {bs : List NBin} (h : NAtR w N mf mb vi pi Fi fs bs) (hb : Below w.heap.size w w') : NAtR w' N mf mb vi pi Fi fs bs := h.off (Off.of_below (F := fun _ => False) hb) (fun _ _ h => h)
theorem NAtR.file {w w' : World} {N mf mb : Nat} {vi : List UInt8 → Value} {pi : Nat × Int → Addr} {Fi : Nat × Int → Nat → Prop} {fs : List Rcp} {bs : List NBin} {r : Rcp} {v : Value}
    (h : NAtR w N mf mb vi pi Fi fs bs) (ho : Off (fun k => k = mf) w w') (hfiles : strRcps.Of w' mf ((r.1, rwR r v) :: fs.map fun r => (r.1, rwR r (vi r.1)))) (hnew : ∀ g ∈ fs, g.1 ≠ r.1) (hids : IdsAt w' v r.2.2.2)
    (hrow : r.2.2.2 ≠ [] → ∀ k, v.ownBlock = some k → k < w'.heap.size ∧ ¬ rFoot N mf mb vi Fi fs bs k) :
    NAtR w' N mf mb (fun n => if n = r.1 then v else vi n) pi Fi (r :: fs) bs := by
  obtain ⟨n1, n2, n3⟩ := h.ne
  refine ⟨ho.blk h.blk (fun e => n1 e), ?_, h.bins.moved (ho.block mb h.bins.lt (fun e => n3 e.symm)), ?_, ?_, fun b hb => (h.bin b hb).off ho (fun k hk e => (h.apart b hb).2.1 (e ▸ hk)), h.ne, h.apart, h.two⟩
  · rw [List.map_cons]
    simp only [if_true]
    rw [List.map_congr_left (g := fun f => (f.1, rwR f (vi f.1))) (fun f hf => by rw [if_neg (hnew f hf)])]
    exact hfiles
  · intro f hf
    rcases List.mem_cons.1 hf with rfl | hf
    · simp only [if_true]
      exact hids
    · simp only [if_neg (hnew f hf)]
      exact (h.ids f hf).off ho (fun hi k hk e => (h.rows f hf hi k hk).2.2.1 e)
  · intro f hf hi k hk
    rcases List.mem_cons.1 hf with rfl | hf
    · simp only [if_true] at hk
      obtain ⟨h1, h2⟩ := hrow hi k hk
      exact ⟨h1, fun e => h2 (.inl e), fun e => h2 (.inr (.inl e)), fun e => h2 (.inr (.inr (.inl e))), fun b hb hF => h2 (.inr (.inr (.inr (.inl ⟨b, hb, hF⟩))))⟩
    · simp only [if_neg (hnew f hf)] at hk
      obtain ⟨h1, h2⟩ := h.rows f hf hi k hk
      exact ⟨Nat.lt_of_lt_of_le h1 ho.size, h2⟩
theorem rFoot_file {N mf mb : Nat} {vi : List UInt8 → Value} {Fi : Nat × Int → Nat → Prop} {fs : List Rcp} {bs : List NBin} {r : Rcp} {v : Value} (hnew : ∀ g ∈ fs, g.1 ≠ r.1) {k : Nat} (h : rFoot N mf mb (fun n => if n = r.1 then v else vi n) Fi (r :: fs) bs k) : rFoot N mf mb vi Fi fs bs k ∨ (r.2.2.2 ≠ [] ∧ v.ownBlock = some k) := by
  rcases h with e | e | e | h | ⟨f, hf, hi, hk⟩
  · exact .inl (.inl e)
  · exact .inl (.inr (.inl e))
  · exact .inl (.inr (.inr (.inl e)))
  · exact .inl (.inr (.inr (.inr (.inl h))))
  · rcases List.mem_cons.1 hf with rfl | hf
    · simp only [if_true] at hk
      exact .inr ⟨hi, hk⟩
    · simp only [if_neg (hnew f hf)] at hk
      exact .inl (.inr (.inr (.inr (.inr ⟨f, hf, hi, hk⟩))))
theorem NAtR.rep {w w' : World} {N mf mb : Nat} {vi : List UInt8 → Value} {pi : Nat × Int → Addr} {Fi : Nat × Int → Nat → Prop} {fs : List Rcp} {bs : List NBin} {q : Addr} {F8 : Nat → Prop} {bl : List Hd} {x : Nat × Int}
    (h : NAtR w N mf mb vi pi Fi fs bs) (ho : Off (fun k => k = mb) w w') (hbins : idBins.Of w' mb ((x, some q) :: (bs.filter (fun b => !decide (b.1 = x))).map fun b => (b.1, some (pi b.1))))
    (hq : PBin0 w' q F8 bl) (hF8 : ∀ k, F8 k → ¬ rFoot N mf mb vi Fi fs bs k) :
    NAtR w' N mf mb vi (fun y => if y = x then q else pi y) (fun y => if y = x then F8 else Fi y) fs ((x, bl) :: bs.filter (fun b => !decide (b.1 = x))) := by
  obtain ⟨n1, n2, n3⟩ := h.ne
  have hfil : ∀ b ∈ bs.filter (fun b => !decide (b.1 = x)), b ∈ bs ∧ b.1 ≠ x := fun b hb => by
    obtain ⟨h1, h2⟩ := List.mem_filter.1 hb
    exact ⟨h1, by simpa using h2⟩
  refine ⟨ho.blk h.blk (fun e => n2 e), h.files.moved (ho.block mf h.files.lt (fun e => n3 e)), ?_, fun f hf => (h.ids f hf).off ho (fun hi k hk e => (h.rows f hf hi k hk).2.2.2.1 e), ?_, ?_, h.ne, ?_, ?_⟩
  · rw [List.map_cons]
    simp only [if_true]
    rw [List.map_congr_left (g := fun b => (b.1, some (pi b.1))) (fun b hb => by rw [if_neg (hfil b hb).2])]
    exact hbins
  · intro f hf hi k hk
    obtain ⟨h1, h2, h3, h4, h5⟩ := h.rows f hf hi k hk
    refine ⟨Nat.lt_of_lt_of_le h1 ho.size, h2, h3, h4, fun b hb => ?_⟩
    rcases List.mem_cons.1 hb with rfl | hb
    · simp only [if_true]
      exact fun hF => hF8 k hF (.inr (.inr (.inr (.inr ⟨f, hf, hi, hk⟩))))
    · simp only [if_neg (hfil b hb).2]
      exact h5 b (hfil b hb).1
  · intro b hb
    rcases List.mem_cons.1 hb with rfl | hb
    · simp only [if_true]
      exact hq
    · simp only [if_neg (hfil b hb).2]
      exact (h.bin b (hfil b hb).1).off ho (fun k hk e => (h.apart b (hfil b hb).1).2.2 (e ▸ hk))
  · intro b hb
    rcases List.mem_cons.1 hb with rfl | hb
    · simp only [if_true]
      exact ⟨fun hF => hF8 _ hF (.inl rfl), fun hF => hF8 _ hF (.inr (.inl rfl)), fun hF => hF8 _ hF (.inr (.inr (.inl rfl)))⟩
    · simp only [if_neg (hfil b hb).2]
      exact h.apart b (hfil b hb).1
  · intro b hb c hc hne k
    rcases List.mem_cons.1 hb with rfl | hb
    · rcases List.mem_cons.1 hc with rfl | hc
      · exact absurd rfl hne
      · simp only [if_true, if_neg (hfil c hc).2]
        exact fun hF hG => hF8 k hF (.inr (.inr (.inr (.inl ⟨c, (hfil c hc).1, hG⟩))))
    · rcases List.mem_cons.1 hc with rfl | hc
      · simp only [if_true, if_neg (hfil b hb).2]
        exact fun hG hF => hF8 k hF (.inr (.inr (.inr (.inl ⟨b, (hfil b hb).1, hG⟩))))
      · simp only [if_neg (hfil b hb).2, if_neg (hfil c hc).2]
        exact h.two b (hfil b hb).1 c (hfil c hc).1 hne k
theorem rFoot_rep {N mf mb : Nat} {vi : List UInt8 → Value} {Fi : Nat × Int → Nat → Prop} {fs : List Rcp} {bs : List NBin} {F8 : Nat → Prop} {bl : List Hd} {x : Nat × Int} {k : Nat} (h : rFoot N mf mb vi (fun y => if y = x then F8 else Fi y) fs ((x, bl) :: bs.filter (fun b => !decide (b.1 = x))) k) : rFoot N mf mb vi Fi fs bs k ∨ F8 k := by
  rcases h with e | e | e | ⟨b, hb, hk⟩ | h
  · exact .inl (.inl e)
  · exact .inl (.inr (.inl e))
  · exact .inl (.inr (.inr (.inl e)))
  · rcases List.mem_cons.1 hb with rfl | hb
    · simp only [if_true] at hk
      exact .inr hk
    · obtain ⟨h1, h2⟩ := List.mem_filter.1 hb
      simp only [if_neg (show b.1 ≠ x by simpa using h2)] at hk
      exact .inl (.inr (.inr (.inr (.inl ⟨b, h1, hk⟩))))
  · exact .inl (.inr (.inr (.inr (.inr h))))
theorem NAtR.node {w : World} {N mf mb : Nat} {vi : List UInt8 → Value} {pi : Nat × Int → Addr} {Fi : Nat × Int → Nat → Prop} {fl : List NFile} {bs : List NBin} (h : NAtR w N mf mb vi pi Fi (fl.map rcpOf) bs) : PNode w ⟨N, 0, none⟩ (rFoot N mf mb vi Fi (fl.map rcpOf) bs) ⟨fl, bs⟩ :=
  ⟨N, mf, mb, vi, pi, Fi, rfl, h.toN, funext fun _ => propext rFoot_iff⟩
end Go.Proofs.YtjdobbjdlighpabGreatDoor
namespace Go.Proofs.YtjdobbjdlighpabGreatDoor
open Go.RowKit Go.Maps

theorem grown_drew {w w' : World} {row : Option Nat} (h : w.drew.grownBy w' row) : w.grownBy w' row := ⟨h.os, h.tape, h.output, h.size, h.block⟩

set_option maxRecDepth 100000 in
set_option maxHeartbeats 4000000 in
theorem pDrop_any {a : Nat → Addr} (x : Nat × Int) (p : Addr) (F : Nat → Prop) (l : List Hd) (w : World) (hx : WfID x) (hok : BinOk 1000000 l) (hE : ErrE [4, 10] w a) (hP : PBin0 w p F l) :
    Calls Tryz.prog 79 #[.pointer (some p), idV (x.1 : Nat) x.2] w fun e w' => ∃ ev F', e = .returned ev ∧ ErrIn w.heap.size w' a ev ((hDrop l x).1, -1) ∧ PBin0 w' p F' (hDrop l x).2 ∧ (∀ k, F' k → F k ∨ w.heap.size ≤ k) ∧ Off F w w' := by
  obtain ⟨B, b, rfl, hB, hM, hne, rfl⟩ := hP
  have hBl := hB.lt
  have hal := (Below.refl w.heap.size w).alloc (Nat.le_refl _) (.cells #[.int .u32 (x.1 : Nat), .int .i64 x.2] 25)
  have HG : Hid (∀ W', Below w.heap.size w W' → ∀ i, ([4, 10] : List Nat).contains i = true → W'.cell? ⟨errG i, 0, none⟩ = some (sentV a i)) := fun W' hb i hi => (hE.below hb (Nat.le_refl _)).glob i hi
  have HB0 : Hid (∀ W, Below w.heap.size w W → PBin0 W ⟨B, 0, none⟩ (fun k => k = B ∨ k = b) l) := fun W h => PBin0.off ⟨B, b, rfl, hB, hM, hne, rfl⟩ (Off.of_below (F := fun _ => False) h) (fun _ _ h => h)
  cases hf : hFind l x with
  | none =>
    have e2 : Hid (hDrop l x = (5, l)) := by show _ = _; unfold hDrop; rw [hf]
    have hn := hFind_not hf
    have hl : ∀ W : World, idPieces.Of W b l → (Instr.lookup 149 (.map (some b)) (idV (x.1 : Nat) x.2) true).run Tryz.prog W = .ok (.tuple #[pieceV (0, []), .bool false]) W := fun W h => h.look_none Tryz.underlying149 (pieceZero W) hx hn
    have hI := Blk.new w #[.int .u32 (x.1 : Nat), .int .i64 x.2] 25
    have hB1 := hB.next hal
    have hM1 := of_below hM hal
    go_enter Tryz.func79, Tryz.ntmps79
    go_wp2_with fail
    generalize hW : w.alloc (.cells #[.int .u32 (x.1 : Nat), .int .i64 x.2] 25) = W at *
    have hal2 := (Below.refl W.heap.size W).alloc (Nat.le_refl _) (.cells #[.string ⟨#[]⟩, .int .i64 0] 153)
    have hI2 := hI.next hal2
    have hB2 := hB1.next hal2
    have hM2 := of_below hM1 hal2
    have hP2 := Blk.new W #[.string ⟨#[]⟩, .int .i64 0] 153
    have hbw : Below w.heap.size w (W.alloc (.cells #[.string ⟨#[]⟩, .int .i64 0] 153)) := hal.trans (hal2.mono hal.size)
    have x0 := hI.cell (i := 0) rfl
    have x1 := hI.cell (i := 1) rfl
    have q0 := hB1.cell (i := 0) rfl
    have y0 := hI2.cell (i := 0) rfl
    have y1 := hI2.cell (i := 1) rfl
    have r0 := hB2.cell (i := 0) rfl
    have p0 := hP2.cell (i := 0) rfl
    have p1 := hP2.cell (i := 1) rfl
    have f0 := hP2.frozen 0
    have f1 := hP2.frozen 1
    have l1 := hl W.drew (of_drew hM1)
    have l2 := hl (W.alloc (.cells #[.string ⟨#[]⟩, .int .i64 0] 153)).drew (of_drew hM2)
    go_region
    all_goals
      have hb3 := below_drew hbw
      have g4 : (W.alloc (.cells #[.string ⟨#[]⟩, .int .i64 0] 153)).drew.cell? ⟨0, 0, none⟩ = some (sentV a 4) := HG.out _ hb3 4 (by decide)
      generalize (W.alloc (.cells #[.string ⟨#[]⟩, .int .i64 0] 153)).drew = W3 at *
      go_wp2_with fail
      go_ret
      exact ⟨_, _, rfl, by rw [e2.out]; exact errIn_sent _ _ a 4 (by decide) rfl, by rw [e2.out]; exact HB0.out _ hb3, fun k hk => .inl hk, Off.of_below hb3⟩
  | some k =>
    obtain ⟨hk, hm⟩ := hFind_mem_at hf
    obtain ⟨_, hxe⟩ := hFind_some hf
    have e2 : Hid (hDrop l x = if l[k].2.1 = 0 then (11, l) else (0, l.modify k (hUse (-1)))) := by
      show _ = _
      unfold hDrop
      rw [hf]
      simp [List.getElem?_eq_getElem hk]
    have hmp := modify_perm (-1) l k hk hM.apart
    rw [hxe] at hmp
    obtain ⟨hu0, hu1⟩ := hok.uses (Int.le_refl _) _ (List.getElem_mem hk)
    have hmany := hok.many
    obtain ⟨⟨u, t⟩, hc⟩ : ∃ c, l[k].2 = c := ⟨_, rfl⟩
    rw [hc] at hm e2 hmp hu0 hu1
    simp only at e2 hmp hu0 hu1
    clear hc
    have hl : ∀ W : World, idPieces.Of W b l → (Instr.lookup 149 (.map (some b)) (idV (x.1 : Nat) x.2) true).run Tryz.prog W = .ok (.tuple #[pieceV (u, t), .bool true]) W := fun W h => h.look_some Tryz.underlying149 (pieceZero W) hm
    have hI := Blk.new w #[.int .u32 (x.1 : Nat), .int .i64 x.2] 25
    have hB1 := hB.next hal
    have hM1 := of_below hM hal
    go_enter Tryz.func79, Tryz.ntmps79
    go_wp2_with fail
    generalize hW : w.alloc (.cells #[.int .u32 (x.1 : Nat), .int .i64 x.2] 25) = W at *
    have hal2 := (Below.refl W.heap.size W).alloc (Nat.le_refl _) (.cells #[.string ⟨#[]⟩, .int .i64 0] 153)
    have hI2 := hI.next hal2
    have hB2 := hB1.next hal2
    have hM2 := of_below hM1 hal2
    have hP2 := Blk.new W #[.string ⟨#[]⟩, .int .i64 0] 153
    have hbw : Below w.heap.size w (W.alloc (.cells #[.string ⟨#[]⟩, .int .i64 0] 153)) := hal.trans (hal2.mono hal.size)
    have x0 := hI.cell (i := 0) rfl
    have x1 := hI.cell (i := 1) rfl
    have q0 := hB1.cell (i := 0) rfl
    have y0 := hI2.cell (i := 0) rfl
    have y1 := hI2.cell (i := 1) rfl
    have r0 := hB2.cell (i := 0) rfl
    have p0 := hP2.cell (i := 0) rfl
    have p1 := hP2.cell (i := 1) rfl
    have f0 := hP2.frozen 0
    have f1 := hP2.frozen 1
    have l1 := hl W.drew (of_drew hM1)
    have l2 := hl (W.alloc (.cells #[.string ⟨#[]⟩, .int .i64 0] 153)).drew (of_drew hM2)
    go_region
    all_goals
      have hal3 := (Below.refl W.heap.size W).alloc (Nat.le_refl _) (.cells #[.string ⟨t.toArray⟩, .int .i64 u] 153)
      have hP3 := Blk.new W #[.string ⟨t.toArray⟩, .int .i64 u] 153
      have hI3 := hI.next hal3
      have hB3 := hB1.next hal3
      have hM3 := of_drew (of_below hM1 hal3)
      have hb3 := below_drew (hal.trans (hal3.mono hal.size))
      have hPd : Blk (W.alloc (.cells #[.string ⟨t.toArray⟩, .int .i64 u] 153)).drew W.heap.size #[.string ⟨t.toArray⟩, .int .i64 u] 153 := hP3
      have hId : Blk (W.alloc (.cells #[.string ⟨t.toArray⟩, .int .i64 u] 153)).drew w.heap.size #[.int .u32 (x.1 : Nat), .int .i64 x.2] 25 := hI3
      have hBd : Blk (W.alloc (.cells #[.string ⟨t.toArray⟩, .int .i64 u] 153)).drew B #[.map (some b)] 151 := hB3
      generalize (W.alloc (.cells #[.string ⟨t.toArray⟩, .int .i64 u] 153)).drew = W3 at *
      have hIW : w.heap.size < W.heap.size := hI.lt
      have g10 : W3.cell? ⟨10, 0, none⟩ = some (sentV a 10) := HG.out _ hb3 10 (by decide)
      have t0 := hPd.cell (i := 0) rfl
      have t1 := hPd.cell (i := 1) rfl
      have ft := hPd.frozen 1
      clear hl l1 l2 hP2 hbw hal2 hI2 hB2 hM2 x0 x1 q0 y0 y1 r0 p0 p1 f0 f1 hP3 hI3 hB3
      by_cases hz : u = 0
      · subst hz
        have e3 : Hid (hDrop l x = (11, l)) := by show _ = _; rw [e2.out, if_pos rfl]
        clear e2
        go_wp2_with fail
        go_ret
        exact ⟨_, _, rfl, by rw [e3.out]; exact errIn_sent _ _ a 10 (by decide) rfl, by rw [e3.out]; exact HB0.out _ hb3, fun k hk => .inl hk, Off.of_below hb3⟩
      · have e3 : Hid (hDrop l x = (0, l.modify k (hUse (-1)))) := by show _ = _; rw [e2.out, if_neg hz]
        clear e2
        have hu1' : IntKind.i64.wrap (u - 1) = u - 1 := by rw [IntKind.wrap_i64]; omega
        have hS3 := hPd.set 1 (.int .i64 (u - 1))
        have hneI : w.heap.size ≠ W.heap.size := by omega
        have hneB : B ≠ W.heap.size := by omega
        have hIs := hId.other (a := ⟨W.heap.size, 1, none⟩) hneI (.int .i64 (u - 1))
        have hBs := hBd.other (a := ⟨W.heap.size, 1, none⟩) hneB (.int .i64 (u - 1))
        have hgs : W3.grownBy (W3.setCell ⟨W.heap.size, 1, none⟩ (.int .i64 (u - 1))) (some W.heap.size) := grown_set (grown_refl W3 _) 1 _
        have hbl := hM1.lt
        have hMs := of_drew (hM3.kept hgs (fun e => by have := Option.some.inj e; omega))
        have hb4 : Below w.heap.size w (W3.setCell ⟨W.heap.size, 1, none⟩ (.int .i64 (u - 1))) := hb3.setCell (p := ⟨W.heap.size, 1, none⟩) (by show w.heap.size ≤ W.heap.size; omega) _
        obtain ⟨w5, hs, hOf, hg5⟩ := hMs.store Tryz.underlying149 hx (u - 1, t) (by unfold maxLen; omega)
        change (Instr.mapUpdate 149 (.map (some b)) (idV (x.1 : Nat) x.2) (pieceV (u - 1, t))).run Tryz.prog _ = _ at hs
        have s0 := hS3.cell (i := 0) rfl
        have s1 := hS3.cell (i := 1) rfl
        have i0 := hIs.cell (i := 0) rfl
        have i1 := hIs.cell (i := 1) rfl
        have b0 := hBs.cell (i := 0) rfl
        have HOF := hOf _ hmp
        have hg5' := grown_drew hg5
        have HQ : Hid (PBin0 w5 ⟨B, 0, none⟩ (fun k => k = B ∨ k = b) (l.modify k (hUse (-1))) ∧ Off (fun k => k = B ∨ k = b) w w5) :=
          ⟨⟨B, b, rfl, (hg5'.block B hBs.lt (fun e => hne (Option.some.inj e))).trans hBs, HOF, hne, rfl⟩, (Off.of_below hb4).trans (off_of_grown hg5' (.inr rfl)) (fun _ _ h => h)⟩
        clear HOF hOf hg5 hg5' hMs hmp hS3 hIs hBs hgs
        go_wp2_with fail
        go_region
        all_goals
          go_wp2_with fail
          go_ret
          rw [e3.out]
          exact ⟨_, _, rfl, .inl ⟨rfl, rfl⟩, HQ.out.1, fun k hk => .inl hk, HQ.out.2⟩
end Go.Proofs.YtjdobbjdlighpabGreatDoor
