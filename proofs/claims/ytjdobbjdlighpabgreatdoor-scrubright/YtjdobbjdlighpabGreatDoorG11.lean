/-
  Own text. A node as files and bins (NSt), and where it lies in the program's memory (NAt, PNode).
  Own text. Recipes in memory, one behind the other (RcpsAt): name, length, print, IDs.
  Own text. (*node.Node).Bin by a contract: a copy of the bin of a rep, or nil.
  Own text. What a scrub is handed, in memory: files (RcpsAt), bins (LoadsAt); what it answers, pure (chk).
  Own text. scrub.zeros by a contract: maps that hold just the reps of bins, and the pieces of the first bin of each.
-/
import Derived.Test.YtjdobbjdlighpabGreatDoorG06
import Derived.Test.YtjdobbjdlighpabGreatDoorG10
import Derived.Test.YtjdobbjdlighpabGreatDoorG07
import Derived.Test.YtjdobbjdlighpabGreatDoorG04
namespace Go.Proofs.YtjdobbjdlighpabGreatDoor
open Go.RowKit Go.Maps

abbrev NFile := List UInt8 × List UInt8
abbrev NBin := (Nat × Int) × List Hd
structure NSt where
  files : List NFile
  bins : List NBin
abbrev repT (s : List UInt8) : Nat × Int := repOf (idsOf s)
def rwOf (f : NFile) (v : Value) : Rw := (f.1, (f.2.length : Int), ((pmore 2166136261 f.2 : Nat) : Int), v)
theorem IdsAt.off {F : Nat → Prop} {w w' : World} {v : Value} {ids : List (Nat × Int)} (h : IdsAt w v ids) (ho : Off F w w') (hn : ids ≠ [] → ∀ k, v.ownBlock = some k → ¬ F k) : IdsAt w' v ids := by
  obtain ⟨p, c, rfl, h⟩ := h
  refine ⟨p, c, rfl, fun i hi => ?_⟩
  obtain ⟨b, o, rfl, hb, h0, h1⟩ := h i hi
  have he : w'.heap[b]? = w.heap[b]? := ho.block b hb (hn (fun e => by rw [e] at hi; simp at hi) b rfl)
  exact ⟨b, o, rfl, Nat.lt_of_lt_of_le hb ho.size, (World.cell?_of_block (w := w) he).trans h0, (World.cell?_of_block (w := w) he).trans h1⟩
theorem IdsAt.lt {w : World} {v : Value} {ids : List (Nat × Int)} (h : IdsAt w v ids) (hne : ids ≠ []) {k : Nat} (hk : v.ownBlock = some k) : k < w.heap.size := by
  obtain ⟨p, c, rfl, h⟩ := h
  have hl : 0 < ids.length := List.length_pos_iff.2 hne
  obtain ⟨b, o, rfl, hb, _⟩ := h 0 hl
  have : b = k := by simpa [Value.ownBlock] using hk
  omega

/- Where a node lies: its block N, its maps mf and mb, of each name the slice of its IDs, of each rep its bin's place and blocks. -/
structure NAt (w : World) (N mf mb : Nat) (vi : List UInt8 → Value) (pi : Nat × Int → Addr) (Fi : Nat × Int → Nat → Prop) (st : NSt) : Prop where
  blk : Blk w N #[.map (some mf), .map (some mb)] 102
  files : strRcps.Of w mf (st.files.map fun f => (f.1, rwOf f (vi f.1)))
  bins : idBins.Of w mb (st.bins.map fun b => (b.1, some (pi b.1)))
  ids : ∀ f ∈ st.files, IdsAt w (vi f.1) (idsOf f.2)
  rows : ∀ f ∈ st.files, idsOf f.2 ≠ [] → ∀ k, (vi f.1).ownBlock = some k → k < w.heap.size ∧ k ≠ N ∧ k ≠ mf ∧ k ≠ mb ∧ ∀ b ∈ st.bins, ¬ Fi b.1 k
  bin : ∀ b ∈ st.bins, PBin0 w (pi b.1) (Fi b.1) b.2
  ne : N ≠ mf ∧ N ≠ mb ∧ mf ≠ mb
  apart : ∀ b ∈ st.bins, ¬ Fi b.1 N ∧ ¬ Fi b.1 mf ∧ ¬ Fi b.1 mb
  two : ∀ b ∈ st.bins, ∀ c ∈ st.bins, b.1 ≠ c.1 → ∀ k, Fi b.1 k → ¬ Fi c.1 k
def nFoot (N mf mb : Nat) (vi : List UInt8 → Value) (Fi : Nat × Int → Nat → Prop) (st : NSt) (k : Nat) : Prop :=
  k = N ∨ k = mf ∨ k = mb ∨ (∃ b ∈ st.bins, Fi b.1 k) ∨ ∃ f ∈ st.files, idsOf f.2 ≠ [] ∧ (vi f.1).ownBlock = some k
def PNode (w : World) (p : Addr) (F : Nat → Prop) (st : NSt) : Prop := ∃ N mf mb vi pi Fi, p = ⟨N, 0, none⟩ ∧ NAt w N mf mb vi pi Fi st ∧ F = nFoot N mf mb vi Fi st
theorem NAt.lt {w : World} {N mf mb : Nat} {vi : List UInt8 → Value} {pi : Nat × Int → Addr} {Fi : Nat × Int → Nat → Prop} {st : NSt} (h : NAt w N mf mb vi pi Fi st) : ∀ k, nFoot N mf mb vi Fi st k → k < w.heap.size := by
  rintro k (rfl | rfl | rfl | ⟨b, hb, hk⟩ | ⟨f, hf, hi, hk⟩)
  · exact h.blk.lt
  · exact h.files.lt
  · exact h.bins.lt
  · exact (h.bin b hb).lt k hk
  · exact (h.rows f hf hi k hk).1
theorem NAt.off {w w' : World} {N mf mb : Nat} {vi : List UInt8 → Value} {pi : Nat × Int → Addr} {Fi : Nat × Int → Nat → Prop} {st : NSt} {G : Nat → Prop} (h : NAt w N mf mb vi pi Fi st) (ho : Off G w w') (hG : ∀ k, nFoot N mf mb vi Fi st k → ¬ G k) : NAt w' N mf mb vi pi Fi st where
  blk := ho.blk h.blk (hG N (.inl rfl))
  files := h.files.moved (ho.block mf h.files.lt (hG mf (.inr (.inl rfl))))
  bins := h.bins.moved (ho.block mb h.bins.lt (hG mb (.inr (.inr (.inl rfl)))))
  ids f hf := (h.ids f hf).off ho (fun hi k hk => hG k (.inr (.inr (.inr (.inr ⟨f, hf, hi, hk⟩)))))
  rows f hf hi k hk := by
    obtain ⟨h1, h2⟩ := h.rows f hf hi k hk
    exact ⟨Nat.lt_of_lt_of_le h1 ho.size, h2⟩
  bin b hb := (h.bin b hb).off ho (fun k hk => hG k (.inr (.inr (.inr (.inl ⟨b, hb, hk⟩)))))
  ne := h.ne
  apart := h.apart
  two := h.two
theorem NAt.below {w w' : World} {N mf mb : Nat} {vi : List UInt8 → Value} {pi : Nat × Int → Addr} {Fi : Nat × Int → Nat → Prop} {st : NSt} (h : NAt w N mf mb vi pi Fi st) (hb : Below w.heap.size w w') : NAt w' N mf mb vi pi Fi st := h.off (Off.of_below (F := fun _ => False) hb) (fun _ _ h => h)
theorem PNode.lt {w : World} {p : Addr} {F : Nat → Prop} {st : NSt} (h : PNode w p F st) : ∀ k, F k → k < w.heap.size := by
  obtain ⟨N, mf, mb, vi, pi, Fi, _, h, rfl⟩ := h
  exact h.lt
theorem PNode.off {w w' : World} {p : Addr} {F G : Nat → Prop} {st : NSt} (h : PNode w p F st) (ho : Off G w w') (hG : ∀ k, F k → ¬ G k) : PNode w' p F st := by
  obtain ⟨N, mf, mb, vi, pi, Fi, hp, h, rfl⟩ := h
  exact ⟨N, mf, mb, vi, pi, Fi, hp, h.off ho hG, rfl⟩
theorem PNode.below {w w' : World} {p : Addr} {F : Nat → Prop} {st : NSt} (h : PNode w p F st) (hb : Below w.heap.size w w') : PNode w' p F st := h.off (Off.of_below (F := fun _ => False) hb) (fun _ _ h => h)
set_option maxRecDepth 100000 in
theorem nNew_any (w : World) : Calls Tryz.prog 10 #[] w fun e w' => ∃ p F, e = .returned (.pointer (some p)) ∧ PNode w' p F ⟨[], []⟩ ∧ (∀ k, F k → w.heap.size ≤ k) ∧ Below w.heap.size w w' := by
  have hmm := @run_makeMap Tryz.prog
  have hb1 := (Below.refl w.heap.size w).alloc (Nat.le_refl _) (.map #[] 0)
  have hM1 := MapKit.Of.made strRcps w
  have hb2 := (Below.refl _ (w.alloc (.map #[] 0))).alloc (Nat.le_refl _) (.map #[] 0)
  have hM2 := MapKit.Of.made idBins (w.alloc (.map #[] 0))
  have hb3 := (Below.refl _ ((w.alloc (.map #[] 0)).alloc (.map #[] 0))).alloc (Nat.le_refl _) (.cells #[.map (some w.heap.size), .map (some (w.heap.size + 1))] 102)
  have hB := Blk.new ((w.alloc (.map #[] 0)).alloc (.map #[] 0)) #[.map (some w.heap.size), .map (some (w.heap.size + 1))] 102
  have hs1 : (w.alloc (.map #[] 0)).heap.size = w.heap.size + 1 := by simp
  have hs2 : ((w.alloc (.map #[] 0)).alloc (.map #[] 0)).heap.size = w.heap.size + 2 := by simp
  rw [hs2] at hB
  rw [hs1] at hM2
  go_enter Tryz.func10, Tryz.ntmps10
  go_wp2_with fail
  go_ret
  refine ⟨⟨w.heap.size + 2, 0, none⟩, _, rfl, ⟨w.heap.size + 2, w.heap.size, w.heap.size + 1, fun _ => .nilIface, fun _ => ⟨0, 0, none⟩, fun _ _ => False, rfl, ⟨hB, (hM1.kept (grown_of_below hb2) (by simp)).kept (grown_of_below hb3) (by simp), hM2.kept (grown_of_below hb3) (by simp), fun f hf => by simp at hf, fun f hf => by simp at hf, fun b hb => by simp at hb, ⟨by omega, by omega, by omega⟩, fun b hb => by simp at hb, fun b hb => by simp at hb⟩, rfl⟩, ?_, ?_⟩
  · rintro k (rfl | rfl | rfl | ⟨b, hb, _⟩ | ⟨f, hf, _⟩)
    · omega
    · omega
    · omega
    · simp at hb
    · simp at hf
  · exact hb1.trans ((hb2.mono hb1.size).trans (hb3.mono (by rw [hs2]; omega)))
/- What a node has of a rep, of a name. -/
def nBin : List NBin → Nat × Int → Option (List Hd)
  | [], _ => none
  | b :: r, x => if b.1 = x then some b.2 else nBin r x
theorem nBin_some : ∀ {l : List NBin} {x : Nat × Int} {h : List Hd}, nBin l x = some h → (x, h) ∈ l
  | [], _, _, h => by cases h
  | b :: r, x, h, e => by
    rw [nBin] at e
    split at e
    · rename_i hb
      cases e
      rw [← hb]
      exact List.mem_cons_self ..
    · exact List.mem_cons_of_mem _ (nBin_some e)
theorem nBin_none : ∀ {l : List NBin} {x : Nat × Int}, nBin l x = none → ∀ b ∈ l, b.1 ≠ x
  | [], _, _, _, hb => by simp at hb
  | c :: r, x, e, b, hb => by
    rw [nBin] at e
    split at e
    · cases e
    · rename_i hc
      rcases List.mem_cons.1 hb with rfl | hb
      · exact hc
      · exact nBin_none e b hb
def nFile : List NFile → List UInt8 → Option (List UInt8)
  | [], _ => none
  | b :: r, x => if b.1 = x then some b.2 else nFile r x
theorem nFile_some : ∀ {l : List NFile} {x h : List UInt8}, nFile l x = some h → (x, h) ∈ l
  | [], _, _, h => by cases h
  | b :: r, x, h, e => by
    rw [nFile] at e
    split at e
    · rename_i hb
      cases e
      rw [← hb]
      exact List.mem_cons_self ..
    · exact List.mem_cons_of_mem _ (nFile_some e)
theorem nFile_none : ∀ {l : List NFile} {x : List UInt8}, nFile l x = none → ∀ b ∈ l, b.1 ≠ x
  | [], _, _, _, hb => by simp at hb
  | c :: r, x, e, b, hb => by
    rw [nFile] at e
    split at e
    · cases e
    · rename_i hc
      rcases List.mem_cons.1 hb with rfl | hb
      · exact hc
      · exact nFile_none e b hb
end Go.Proofs.YtjdobbjdlighpabGreatDoor
namespace Go.Proofs.YtjdobbjdlighpabGreatDoor
open Go.RowKit Go.Maps

/- A recipe: name, length, print, IDs. -/
abbrev Rcp := List UInt8 × Int × Int × List (Nat × Int)
abbrev rcpRep (r : Rcp) : Nat × Int := repOf r.2.2.2
structure RcpAt (w : World) (b o : Nat) (v : Value) (r : Rcp) : Prop where
  lt : b < w.heap.size
  c0 : w.cell? ⟨b, o, none⟩ = some (.string ⟨r.1.toArray⟩)
  c1 : w.cell? ⟨b, o + 1, none⟩ = some (.int .i64 r.2.1)
  c2 : w.cell? ⟨b, o + 2, none⟩ = some (.int .u32 r.2.2.1)
  c3 : w.cell? ⟨b, o + 3, none⟩ = some v
  ids : IdsAt w v r.2.2.2
theorem RcpAt.below {w w' : World} {b o : Nat} {v : Value} {r : Rcp} (h : RcpAt w b o v r) (hb : Below w.heap.size w w') : RcpAt w' b o v r :=
  ⟨Nat.lt_of_lt_of_le h.lt hb.size, (hb.cell (p := ⟨b, o, none⟩) h.lt).trans h.c0, (hb.cell (p := ⟨b, o + 1, none⟩) h.lt).trans h.c1, (hb.cell (p := ⟨b, o + 2, none⟩) h.lt).trans h.c2, (hb.cell (p := ⟨b, o + 3, none⟩) h.lt).trans h.c3, h.ids.below hb⟩
def RcpsAt (w : World) (v : Value) (fs : List Rcp) : Prop :=
  ∃ (p : Option Addr) (c : Nat), v = .slice p fs.length c ∧ ∀ i (h : i < fs.length), ∃ b o vi, p = some ⟨b, o, none⟩ ∧ RcpAt w b (o + i * 4) vi fs[i]
theorem RcpsAt.below {w w' : World} {v : Value} {fs : List Rcp} (h : RcpsAt w v fs) (hb : Below w.heap.size w w') : RcpsAt w' v fs := by
  obtain ⟨p, c, rfl, h⟩ := h
  refine ⟨p, c, rfl, fun i hi => ?_⟩
  obtain ⟨b, o, vi, hp, hr⟩ := h i hi
  exact ⟨b, o, vi, hp, hr.below hb⟩
def rcpOf (f : NFile) : Rcp := (f.1, (f.2.length : Int), ((pmore 2166136261 f.2 : Nat) : Int), idsOf f.2)
end Go.Proofs.YtjdobbjdlighpabGreatDoor
namespace Go.Proofs.YtjdobbjdlighpabGreatDoor
open Go.RowKit Go.Maps

theorem hideN {q : Prop} (h : q) : Hid q := h
def BinPost (w : World) (r : Option (List Hd)) (e : Ending) (w' : World) : Prop :=
  (match r with
    | none => e = .returned (.pointer none)
    | some l => ∃ p' F', e = .returned (.pointer (some p')) ∧ PBin0 w' p' F' l ∧ ∀ k, F' k → w.heap.size ≤ k) ∧ Below w.heap.size w w'
set_option maxRecDepth 100000 in
set_option maxHeartbeats 2000000 in
theorem nodeBin_any (x : Nat × Int) (p : Addr) (F : Nat → Prop) (st : NSt) (w : World) (hx : WfID x) (hP : PNode w p F st) :
    Calls Tryz.prog 16 #[.pointer (some p), idV (x.1 : Nat) x.2] w (BinPost w (nBin st.bins x)) := by
  obtain ⟨N, mf, mb, vi, pi, Fi, rfl, h, _⟩ := hP
  have hal := (Below.refl w.heap.size w).alloc (Nat.le_refl _) (.cells #[.int .u32 (x.1 : Nat), .int .i64 x.2] 25)
  have hI := Blk.new w #[.int .u32 (x.1 : Nat), .int .i64 x.2] 25
  have h1 := h.below hal
  have hN := h1.blk
  have HH := hideN h1
  cases hf : nBin st.bins x with
  | none =>
    have hl : ∀ W : World, idBins.Of W mb (st.bins.map fun b => (b.1, some (pi b.1))) → (Instr.lookup 100 (.map (some mb)) (idV (x.1 : Nat) x.2) true).run Tryz.prog W = .ok (.tuple #[.pointer none, .bool false]) W := fun W h => h.look_none Tryz.underlying100 (ptrZero W) hx (fun y hy => by
      obtain ⟨b, hb, rfl⟩ := List.mem_map.1 hy
      exact nBin_none hf b hb)
    clear h h1
    go_enter Tryz.func16, Tryz.ntmps16
    go_wp2_with fail
    generalize w.alloc (.cells #[.int .u32 (x.1 : Nat), .int .i64 x.2] 25) = W at *
    have x0 := hI.cell (i := 0) rfl
    have x1 := hI.cell (i := 1) rfl
    have q0 := hN.cell (i := 0) rfl
    have q1 := hN.cell (i := 1) rfl
    have l1 := hl W.drew (ofB_drew HH.out.bins)
    have l0 := hl W HH.out.bins
    go_wp2_with fail
    go_region
    all_goals
      have hb3 := below_drew hal
      generalize W.drew = W3 at *
      go_wp2_with fail
      go_ret
      exact ⟨rfl, hb3⟩
  | some l =>
    have hm := nBin_some hf
    have HB := hideN (h1.bin _ hm)
    have hl : ∀ W : World, idBins.Of W mb (st.bins.map fun b => (b.1, some (pi b.1))) → (Instr.lookup 100 (.map (some mb)) (idV (x.1 : Nat) x.2) true).run Tryz.prog W = .ok (.tuple #[.pointer (some (pi x)), .bool true]) W := fun W h => h.look_some Tryz.underlying100 (ptrZero W) (List.mem_map.2 ⟨_, hm, rfl⟩)
    clear h h1 hm
    generalize pi x = q at *
    simp only at HB
    go_enter Tryz.func16, Tryz.ntmps16
    go_wp2_with fail
    generalize w.alloc (.cells #[.int .u32 (x.1 : Nat), .int .i64 x.2] 25) = W at *
    have x0 := hI.cell (i := 0) rfl
    have x1 := hI.cell (i := 1) rfl
    have q0 := hN.cell (i := 0) rfl
    have q1 := hN.cell (i := 1) rfl
    have l1 := hl W.drew (ofB_drew HH.out.bins)
    have l0 := hl W HH.out.bins
    go_wp2_with fail
    go_region
    all_goals
      have hb3 := below_drew hal
      have HC := hideN (pCopy_any q (Fi x) l W.drew (HB.out.off (Off.of_below (F := fun _ => False) (Below.refl _ W).drew) (fun _ _ h => h)))
      generalize W.drew = W3 at *
      go_wp2_with fail
      refine HC.out.mono ?_
      rintro e w4 ⟨p', F', rfl, hp4, hf4, hb4⟩
      go_wp2_with fail
      go_ret
      exact ⟨⟨p', F', rfl, hp4, fun k hk => Nat.le_trans hb3.size (hf4 k hk)⟩, hb3.trans (hb4.mono hb3.size)⟩
end Go.Proofs.YtjdobbjdlighpabGreatDoor
namespace Go.Proofs.YtjdobbjdlighpabGreatDoor
open Go.RowKit Go.Maps

structure LoadAt (w : World) (b o : Nat) (v : Value) (x : NBin) : Prop where
  lt : b < w.heap.size
  c0 : w.cell? ⟨b, o, none⟩ = some (.int .u32 (x.1.1 : Nat))
  c1 : w.cell? ⟨b, o + 1, none⟩ = some (.int .i64 x.1.2)
  c2 : w.cell? ⟨b, o + 2, none⟩ = some v
  helds : HeldsAt w v x.2
theorem LoadAt.below {w w' : World} {b o : Nat} {v : Value} {x : NBin} (h : LoadAt w b o v x) (hb : Below w.heap.size w w') : LoadAt w' b o v x :=
  ⟨Nat.lt_of_lt_of_le h.lt hb.size, (hb.cell (p := ⟨b, o, none⟩) h.lt).trans h.c0, (hb.cell (p := ⟨b, o + 1, none⟩) h.lt).trans h.c1, (hb.cell (p := ⟨b, o + 2, none⟩) h.lt).trans h.c2, h.helds.below hb⟩
def LoadsAt (w : World) (v : Value) (bs : List NBin) : Prop :=
  ∃ (p : Option Addr) (c : Nat), v = .slice p bs.length c ∧ ∀ i (h : i < bs.length), ∃ b o vi, p = some ⟨b, o, none⟩ ∧ LoadAt w b (o + i * 3) vi bs[i]
theorem LoadsAt.below {w w' : World} {v : Value} {bs : List NBin} (h : LoadsAt w v bs) (hb : Below w.heap.size w w') : LoadsAt w' v bs := by
  obtain ⟨p, c, rfl, h⟩ := h
  refine ⟨p, c, rfl, fun i hi => ?_⟩
  obtain ⟨b, o, vi, hp, hr⟩ := h i hi
  exact ⟨b, o, vi, hp, hr.below hb⟩
/- What is in the maps at first: reps of bins, and pieces of the first bin of each. -/
def zeroF (bs : List NBin) (r : Nat × Int) : Option Int := if bs.any (fun b => decide (b.1 = r)) = true then some 0 else none
def zeroU (bs : List NBin) (u : Use) : Option Int :=
  match nBin bs u.1 with
  | none => none
  | some l => if l.any (fun h => decide (h.1 = u.2)) = true then some 0 else none
/- One more, if it is there. -/
def bump {κ : Type} [DecidableEq κ] (f : κ → Option Int) (x : κ) : κ → Option Int := fun y => if y = x then (f x).map (· + 1) else f y
def bumpAll (f : Use → Option Int) (r : Nat × Int) : List (Nat × Int) → Use → Option Int
  | [] => f
  | i :: l => bumpAll (bump f (r, i)) r l
/- No error, or a bare one of that number. -/
def SentOr (a : Nat → Addr) (ev : Value) (c : Int) : Prop := (c = 0 ∧ ev = .nilIface) ∨ ∃ i : Nat, i < 12 ∧ c = (i : Int) + 1 ∧ ev = sentV a i
theorem SentOr.nil {a : Nat → Addr} {ev : Value} (h : SentOr a ev 0) : ev = .nilIface := by
  rcases h with h | ⟨i, _, h, _⟩
  · exact h.2
  · omega
/- Adding a file: an error's number. -/
def addErr (F : Nat × Int → Option Int) (U : Use → Option Int) (r : Rcp) : Int :=
  if (F (rcpRep r)).isSome = true ∧ r.2.2.2.all (fun i => (U (rcpRep r, i)).isSome) = true then 0 else 5
end Go.Proofs.YtjdobbjdlighpabGreatDoor
namespace Go.Proofs.YtjdobbjdlighpabGreatDoor
open Go.RowKit Go.Maps

theorem nBin_append (a b : List NBin) (x : Nat × Int) : nBin (a ++ b) x = (nBin a x).or (nBin b x) := by
  induction a with
  | nil => simp [nBin]
  | cons c r ih =>
    rw [List.cons_append, nBin, nBin]
    split
    · rfl
    · exact ih
theorem zeroF_snoc (bs : List NBin) (b : NBin) : zeroF (bs ++ [b]) = fun y => if y = b.1 then some 0 else zeroF bs y := by
  funext y
  unfold zeroF
  rw [List.any_append]
  by_cases e : y = b.1
  · subst e
    simp
  · have e' : ¬ b.1 = y := fun h => e h.symm
    rw [if_neg e]
    simp only [List.any_cons, List.any_nil, decide_eq_false e', Bool.or_false]
theorem zeroF_isSome (bs : List NBin) (r : Nat × Int) : (zeroF bs r).isSome = (nBin bs r).isSome := by
  induction bs with
  | nil => rfl
  | cons c l ih =>
    rw [nBin]
    unfold zeroF at *
    rw [List.any_cons]
    by_cases e : c.1 = r
    · simp [e]
    · simp only [e, decide_false, Bool.false_or, if_false]
      exact ih
theorem zeroF_old {bs : List NBin} {b : NBin} (h : (zeroF bs b.1).isSome = true) : zeroF (bs ++ [b]) = zeroF bs := by
  rw [zeroF_snoc]
  funext y
  split
  · rename_i e
    subst e
    unfold zeroF at *
    split at h
    · rename_i h2
      rw [if_pos h2]
    · cases h
  · rfl
theorem zeroU_old {bs : List NBin} {b : NBin} (h : (zeroF bs b.1).isSome = true) : zeroU (bs ++ [b]) = zeroU bs := by
  rw [zeroF_isSome] at h
  funext u
  unfold zeroU
  rw [nBin_append]
  cases hn : nBin bs u.1 with
  | some l => rfl
  | none =>
    have : ¬ b.1 = u.1 := fun e => by rw [e, hn] at h; cases h
    simp [nBin, this]
/- Uses while a bin's pieces are laid. -/
def uPart (bs : List NBin) (r : Nat × Int) (l : List Hd) (u : Use) : Option Int := if u.1 = r then (if l.any (fun h => decide (h.1 = u.2)) = true then some 0 else none) else zeroU bs u
theorem uPart_nil {bs : List NBin} {r : Nat × Int} (h : zeroF bs r = none) : uPart bs r [] = zeroU bs := by
  funext u
  unfold uPart
  split
  · rename_i e
    have : nBin bs u.1 = none := by
      rw [e]
      have := zeroF_isSome bs r
      rw [h] at this
      cases hn : nBin bs r with
      | none => rfl
      | some l => rw [hn] at this; cases this
    unfold zeroU
    rw [this]
    rfl
  · rfl
theorem uPart_snoc (bs : List NBin) (r : Nat × Int) (l : List Hd) (h : Hd) : uPart bs r (l ++ [h]) = fun u => if u = (r, h.1) then some 0 else uPart bs r l u := by
  funext u
  unfold uPart
  rw [List.any_append]
  obtain ⟨u1, u2⟩ := u
  by_cases e : u1 = r
  · subst e
    by_cases e2 : u2 = h.1
    · subst e2
      simp
    · have e3 : ¬ h.1 = u2 := fun h => e2 h.symm
      have e4 : ¬ (u1, u2) = (u1, h.1) := fun h => e2 (Prod.mk.inj h).2
      rw [if_neg e4]
      simp only [List.any_cons, List.any_nil, decide_eq_false e3, Bool.or_false]
  · simp [e]
theorem uPart_all {bs : List NBin} {b : NBin} (h : zeroF bs b.1 = none) : uPart bs b.1 b.2 = zeroU (bs ++ [b]) := by
  have hn : nBin bs b.1 = none := by
    have := zeroF_isSome bs b.1
    rw [h] at this
    cases hn : nBin bs b.1 with
    | none => rfl
    | some l => rw [hn] at this; cases this
  funext u
  unfold uPart zeroU
  rw [nBin_append]
  by_cases e : u.1 = b.1
  · rw [if_pos e, e, hn]
    simp [nBin]
  · have e' : ¬ b.1 = u.1 := fun h => e h.symm
    rw [if_neg e]
    cases hx : nBin bs u.1 with
    | some l => rfl
    | none => simp [nBin, e']
set_option maxRecDepth 100000 in
set_option maxHeartbeats 8000000 in
theorem zeros_any (v : Value) (bs : List NBin) (w : World) (hv : LoadsAt w v bs) (hwf : ∀ b ∈ bs, WfID b.1 ∧ ∀ h ∈ b.2, WfID h.1) (hn : bs.length ≤ 100) (hm : ∀ b ∈ bs, b.2.length ≤ 1000) :
    Calls Tryz.prog 59 #[v] w fun e w' => ∃ mf mu, e = .returned (.agg #[.map (some mf), .map (some mu)]) ∧ idInts.Fn w' mf 100 (zeroF bs) ∧ useInts.Fn w' mu 100000 (zeroU bs) ∧ (mf ≠ mu ∧ w.heap.size ≤ mf ∧ w.heap.size ≤ mu) ∧ Below w.heap.size w w' := by
  have HV := hideN hv
  have HWF := hideN hwf
  have HM := hideN hm
  obtain ⟨pa, ca, rfl, _⟩ := hv
  have hmm := @run_makeMap Tryz.prog
  have hn' : (bs.length : Int) ≤ 100 := by omega
  clear hwf hm
  have hb0 := (Below.refl w.heap.size w).alloc (Nat.le_refl _) (.cells #[.map none, .map none] 119)
  have hR0 := Blk.new w #[.map none, .map none] 119
  generalize hW0 : w.alloc (.cells #[.map none, .map none] 119) = W0 at *
  have hs0 : W0.heap.size = w.heap.size + 1 := by rw [← hW0]; simp
  have hb1 := (Below.refl W0.heap.size W0).alloc (Nat.le_refl _) (.map #[] 0)
  have hM1 := MapKit.Fn.made idInts W0
  have hb2 := (Below.refl _ (W0.alloc (.map #[] 0))).alloc (Nat.le_refl _) (.map #[] 0)
  have hM2 := MapKit.Fn.made useInts (W0.alloc (.map #[] 0))
  have hb3 := (Below.refl _ ((W0.alloc (.map #[] 0)).alloc (.map #[] 0))).alloc (Nat.le_refl _) (.cells #[.map (some (w.heap.size + 1)), .map (some (w.heap.size + 1 + 1))] 119)
  have hB := Blk.new ((W0.alloc (.map #[] 0)).alloc (.map #[] 0)) #[.map (some (w.heap.size + 1)), .map (some (w.heap.size + 1 + 1))] 119
  have hs1 : (W0.alloc (.map #[] 0)).heap.size = w.heap.size + 1 + 1 := by simp [hs0]
  have hs2 : ((W0.alloc (.map #[] 0)).alloc (.map #[] 0)).heap.size = w.heap.size + 1 + 1 + 1 := by simp [hs0]
  rw [hs2] at hB
  rw [hs1] at hM2
  rw [hs0] at hM1
  have HFa := hideN ((hM1.below hb2).below hb3)
  have HUa := hideN (hM2.below hb3)
  have HRa := hideN ((((hR0.next hb1).next hb2).next hb3))
  have HCa := hideN hB
  have HBa : Hid (Below w.heap.size w _) := hideN (hb0.trans ((hb1.mono (by omega)).trans ((hb2.mono (by rw [hs1]; omega)).trans (hb3.mono (by rw [hs2]; omega)))))
  subst hW0
  clear hb0 hR0 hs0 hb1 hM1 hb2 hM2 hb3 hB hs1 hs2
  go_enter Tryz.func59, Tryz.ntmps59
  go_wp2_with fail
  generalize ((((w.alloc (.cells #[.map none, .map none] 119)).alloc (.map #[] 0)).alloc (.map #[] 0)).alloc (.cells #[.map (some (w.heap.size + 1)), .map (some (w.heap.size + 1 + 1))] 119)) = Wa at *
  have HNE : Hid (w.heap.size + 1 ≠ w.heap.size + 1 + 1 ∧ (w.heap.size + 1 ≠ w.heap.size ∧ w.heap.size + 1 + 1 ≠ w.heap.size) ∧ (w.heap.size + 1 + 1 + 1 ≠ w.heap.size + 1 ∧ w.heap.size + 1 + 1 + 1 ≠ w.heap.size + 1 + 1) ∧ w.heap.size ≤ w.heap.size + 1 ∧ w.heap.size ≤ w.heap.size + 1 + 1) := ⟨by omega, ⟨by omega, by omega⟩, ⟨by omega, by omega⟩, by omega, by omega⟩
  generalize w.heap.size + 1 + 1 + 1 = CB at *
  generalize w.heap.size + 1 + 1 = mu at *
  generalize w.heap.size + 1 = mf at *
  obtain ⟨R0, hR0⟩ : ∃ R0, w.heap.size = R0 := ⟨_, rfl⟩
  have HR0 := hideN hR0
  rw [hR0] at HRa HNE ⊢
  clear hR0
  go_loopw [15] (fun iv wr => ∃ (i n2 : Nat), i ≤ bs.length ∧ iv = .int .i64 i ∧ Hid (idInts.Fn wr mf i (zeroF (bs.take i))) ∧ Hid (useInts.Fn wr mu n2 (zeroU (bs.take i))) ∧ Hid (n2 ≤ 1000 * i) ∧ Hid (Blk wr CB #[.map (some mf), .map (some mu)] 119) ∧ Hid (Blk wr R0 #[.map none, .map none] 119) ∧ Hid (Below w.heap.size w wr)) (fun iv _ => bs.length - (intOf iv).toNat)
  case atStart => exact ⟨0, 0, Nat.zero_le _, rfl, HFa.out, HUa.out, Nat.le_refl _, HCa.out, HRa.out, HBa.out⟩
  case round =>
    clear HFa HUa HCa HRa HBa
    obtain ⟨i, n2, hi, rfl, HF, HU, HN2, HC, HR, HB⟩ := hrel
    by_cases hlt : i < bs.length
    · have hlt' : (i : Int) < (bs.length : Int) := by omega
      have hi0 : (0 : Int) ≤ (i : Int) := by omega
      obtain ⟨_, _, hve, hcell⟩ := HV.out
      obtain ⟨rfl, rfl⟩ : pa = _ ∧ ca = _ := by simpa using hve
      obtain ⟨b, o, vi, rfl, hL0⟩ := hcell i hlt
      have HTK := hideN (List.take_succ_eq_append_getElem hlt)
      have HW := hideN (HWF.out bs[i] (List.getElem_mem hlt))
      have HML := hideN (HM.out bs[i] (List.getElem_mem hlt))
      obtain ⟨⟨⟨rp, rl⟩, l⟩, hx⟩ : ∃ x, bs[i] = x := ⟨_, rfl⟩
      rw [hx] at hL0 HTK HW HML
      obtain ⟨ph, ch, hvh, _⟩ := hL0.helds
      simp only at hvh HW HML
      subst hvh
      have HHD : Hid (∀ W', Below w.heap.size w W' → HeldsAt W' (.slice ph l.length ch) l) := fun W' hb => hL0.helds.below hb
      have hL := hL0.below HB.out
      have c0 := hL.c0
      have c1 := hL.c1
      have c2 := hL.c2
      simp only at c0 c1 c2
      have hml' : (l.length : Int) ≤ 1000 := by have := HML.out; omega
      clear hcell hve hx hL hL0
      have hal := (Below.refl wr.heap.size wr).alloc (Nat.le_refl _) (.cells #[.int .u32 (rp : Nat), .int .i64 rl, .slice ph l.length ch] 60)
      have HLB := hideN (Blk.new wr #[.int .u32 (rp : Nat), .int .i64 rl, .slice ph l.length ch] 60)
      have HF1 := hideN (HF.out.below hal)
      have HU1 := hideN (HU.out.below hal)
      have HC1 := hideN (HC.out.next hal)
      have HR1 := hideN (HR.out.next hal)
      have HB1 : Hid (Below w.heap.size w _) := hideN (HB.out.trans (hal.mono HB.out.size))
      have HSZ : Hid (mf < wr.heap.size ∧ mu < wr.heap.size ∧ CB < wr.heap.size ∧ R0 < wr.heap.size ∧ w.heap.size ≤ wr.heap.size) := ⟨HF.out.lt, HU.out.lt, HC.out.lt, HR.out.lt, HB.out.size⟩
      have e0 := HC1.out.cell (i := 0) rfl
      have e1 := HC1.out.cell (i := 1) rfl
      have k0 := HLB.out.cell (i := 0) rfl
      have k1 := HLB.out.cell (i := 1) rfl
      have k2 := HLB.out.cell (i := 2) rfl
      have l0 := HF1.out.look2 Tryz.underlying116 (intZero _) HW.out.1
      change (Instr.lookup 116 (.map (some mf)) (idV (rp : Nat) rl) true).run Tryz.prog _ = .ok (.tuple #[.int .i64 ((zeroF (bs.take i) (rp, rl)).getD 0), .bool (zeroF (bs.take i) (rp, rl)).isSome]) _ at l0
      clear hal HF HU HC HR
      cases hz : zeroF (bs.take i) (rp, rl) with
      | some z0 =>
        rw [hz] at l0
        simp only [Option.getD_some, Option.isSome_some] at l0
        have HOF := hideN (zeroF_old (bs := bs.take i) (b := ((rp, rl), l)) (by rw [hz]; rfl))
        have HOU := hideN (zeroU_old (bs := bs.take i) (b := ((rp, rl), l)) (by rw [hz]; rfl))
        clear hz
        go_wp2_with fail
        go_roundw
        case rel => exact ⟨i + 1, n2, hlt, by go_num, by show idInts.Fn _ _ _ _; rw [HTK.out, HOF.out]; exact HF1.out.mono (by omega), by show useInts.Fn _ _ _ _; rw [HTK.out, HOU.out]; exact HU1.out, by show _ ≤ _; have := HN2.out; omega, HC1.out, HR1.out, HB1.out⟩
        case measure => simp [intOf]; omega
      | none =>
        rw [hz] at l0
        simp only [Option.getD_none, Option.isSome_none] at l0
        have HZ := hideN hz
        obtain ⟨w2, hst, hF2, hg2⟩ := HF1.out.store Tryz.underlying116 HW.out.1 0 (by unfold maxLen; omega)
        change (Instr.mapUpdate 116 (.map (some mf)) (idV (rp : Nat) rl) (.int .i64 0)).run Tryz.prog _ = _ at hst
        have ho2 : Off (fun k => k = mf) _ w2 := off_of_grown hg2 rfl
        have hne := HNE.out
        have hsz := HSZ.out
        have HF2 : Hid (idInts.Fn w2 mf (i + 1) (zeroF (bs.take (i + 1)))) := by
          show idInts.Fn _ _ _ _
          rw [HTK.out, zeroF_snoc]
          exact hF2
        have HU2 : Hid (useInts.Fn w2 mu n2 (uPart (bs.take i) (rp, rl) [])) := by
          show useInts.Fn _ _ _ _
          rw [uPart_nil HZ.out]
          exact HU1.out.off ho2 (fun e => hne.1 e.symm)
        have HC2 := hideN (ho2.blk HC1.out (fun e => hne.2.2.1.1 e))
        have HR2 := hideN (ho2.blk HR1.out (fun e => hne.2.1.1 e.symm))
        have HL2 := hideN (ho2.blk HLB.out (fun e => by omega))
        have HB2 : Hid (Below w.heap.size w w2) := HB1.out.trans (ho2.below HB1.out.size (fun k hk e => by have := HR0.out; omega))
        have HSZ2 : Hid (wr.heap.size < w2.heap.size) := HL2.out.lt
        have k2' := HL2.out.cell (i := 2) rfl
        clear hF2 hg2 ho2 hne hsz
        go_wp2_with fail
        clear c0 c1 c2 e0 e1 k0 k1 k2 k2' l0 hst HF1 HU1 HC1 HR1 HLB HB1
        obtain ⟨LB, hLB⟩ : ∃ LB, wr.heap.size = LB := ⟨_, rfl⟩
        rw [hLB] at HL2 HSZ HSZ2 ⊢
        clear hLB
        go_loopw [35] (fun jv wr2 => ∃ (j n3 : Nat), j ≤ l.length ∧ jv = .int .i64 j ∧ Hid (idInts.Fn wr2 mf (i + 1) (zeroF (bs.take (i + 1)))) ∧ Hid (useInts.Fn wr2 mu n3 (uPart (bs.take i) (rp, rl) (l.take j))) ∧ Hid (n3 ≤ 1000 * i + j) ∧ Hid (Blk wr2 CB #[.map (some mf), .map (some mu)] 119) ∧ Hid (Blk wr2 R0 #[.map none, .map none] 119) ∧ Hid (Blk wr2 LB #[.int .u32 (rp : Nat), .int .i64 rl, .slice ph l.length ch] 60) ∧ Hid (Below w.heap.size w wr2)) (fun jv _ => l.length - (intOf jv).toNat)
        case atStart => exact ⟨0, n2, Nat.zero_le _, rfl, HF2.out, HU2.out, HN2.out, HC2.out, HR2.out, HL2.out, HB2.out⟩
        case round =>
          clear HF2 HU2 HC2 HR2 HL2 HB2
          obtain ⟨j, n3, hj, rfl, HF3, HU3, HN3, HC3, HR3, HL3, HB3⟩ := hrel
          by_cases hjl : j < l.length
          · have hjl' : (j : Int) < (l.length : Int) := by omega
            have hj0 : (0 : Int) ≤ (j : Int) := by omega
            obtain ⟨_, _, hve, hcell⟩ := HHD.out wr HB3.out
            obtain ⟨rfl, rfl⟩ : ph = _ ∧ ch = _ := by simpa using hve
            obtain ⟨b2, o2, rfl, _, d0, d1, d2, d3⟩ := hcell j hjl
            have HTJ := hideN (List.take_succ_eq_append_getElem hjl)
            have HWJ := hideN (HW.out.2 l[j] (List.getElem_mem hjl))
            obtain ⟨⟨⟨hp, hl⟩, hu, ht⟩, hx⟩ : ∃ x, l[j] = x := ⟨_, rfl⟩
            rw [hx] at d0 d1 d2 d3 HTJ HWJ
            simp only at d0 d1 d2 d3 HWJ
            clear hcell hve hx
            have hal := (Below.refl wr.heap.size wr).alloc (Nat.le_refl _) (.cells #[.int .u32 (hp : Nat), .int .i64 hl, .int .i64 hu, .string ⟨ht.toArray⟩] 78)
            have HHB := hideN (Blk.new wr #[.int .u32 (hp : Nat), .int .i64 hl, .int .i64 hu, .string ⟨ht.toArray⟩] 78)
            have HF4 := hideN (HF3.out.below hal)
            have hU4 := HU3.out.below hal
            have HC4 := hideN (HC3.out.next hal)
            have HR4 := hideN (HR3.out.next hal)
            have HL4 := hideN (HL3.out.next hal)
            have HB4 : Hid (Below w.heap.size w _) := hideN (HB3.out.trans (hal.mono HB3.out.size))
            have e1 := HC4.out.cell (i := 1) rfl
            have k0 := HL4.out.cell (i := 0) rfl
            have k1 := HL4.out.cell (i := 1) rfl
            have m0 := HHB.out.cell (i := 0) rfl
            have m1 := HHB.out.cell (i := 1) rfl
            obtain ⟨w5, hst, hU5, hg5⟩ := hU4.store Tryz.underlying117 (x := ((rp, rl), (hp, hl))) ⟨HW.out.1, HWJ.out⟩ 0 (by unfold maxLen; have := HN3.out; omega)
            change (Instr.mapUpdate 117 (.map (some mu)) (.agg #[.int .u32 (rp : Nat), .int .i64 rl, .int .u32 (hp : Nat), .int .i64 hl]) (.int .i64 0)).run Tryz.prog _ = _ at hst
            have ho5 : Off (fun k => k = mu) _ w5 := off_of_grown hg5 rfl
            have hne := HNE.out
            have hsz := HSZ.out
            have HF5 := hideN (HF4.out.off ho5 (fun e => hne.1 e))
            have HU5 : Hid (useInts.Fn w5 mu (n3 + 1) (uPart (bs.take i) (rp, rl) (l.take (j + 1)))) := by
              show useInts.Fn _ _ _ _
              rw [HTJ.out, uPart_snoc]
              exact hU5
            have HC5 := hideN (ho5.blk HC4.out (fun e => hne.2.2.1.2 e))
            have HR5 := hideN (ho5.blk HR4.out (fun e => hne.2.1.2 e.symm))
            have HL5 := hideN (ho5.blk HL4.out (fun e => by omega))
            have HB5 : Hid (Below w.heap.size w w5) := HB4.out.trans (ho5.below HB4.out.size (fun k hk e => by have := HR0.out; omega))
            clear hal hU4 hU5 hg5 ho5 hne hsz
            go_wp2_with fail
            go_roundw
            case rel => exact ⟨j + 1, n3 + 1, hjl, by go_num, HF5.out, HU5.out, by show _ ≤ _; have := HN3.out; omega, HC5.out, HR5.out, HL5.out, HB5.out⟩
            case measure => simp [intOf]; omega
          · have hge : (l.length : Int) ≤ (j : Int) := by omega
            have hua : uPart (bs.take i) (rp, rl) l = zeroU (bs.take i ++ [((rp, rl), l)]) := uPart_all (bs := bs.take i) (b := ((rp, rl), l)) HZ.out
            rw [show l.take j = l from List.take_of_length_le (by omega), hua, ← HTK.out] at HU3
            clear hua
            go_wp2_with fail
            go_roundw
            case rel => exact ⟨i + 1, n3, hlt, by go_num, HF3.out, HU3.out, by show _ ≤ _; have := HN3.out; omega, HC3.out, HR3.out, HB3.out⟩
            case measure => simp [intOf]; omega
    · have hge : (bs.length : Int) ≤ (i : Int) := by omega
      rw [List.take_of_length_le (by omega)] at HF HU
      have e0 := HC.out.cell (i := 0) rfl
      have e1 := HC.out.cell (i := 1) rfl
      have f0 := HR.out.frozen 0
      have f1 := HR.out.frozen 1
      have g0 := HR.out.cell (i := 0) rfl
      have g1 := HR.out.cell (i := 1) rfl
      have hne := HNE.out
      have hRs := (HR.out.set 0 (.map (some mf))).set 1 (.map (some mu))
      have s0 := hRs.cell (i := 0) rfl
      have s1 := hRs.cell (i := 1) rfl
      have hO := ((Off.of_below (F := fun k => k = R0) (Below.refl wr.heap.size wr)).setCell (p := ⟨R0, 0, none⟩) (.inl rfl) (.map (some mf))).setCell (p := ⟨R0, 1, none⟩) (.inl rfl) (.map (some mu))
      have hFz := (HF.out.off hO (fun e => hne.2.1.1 e)).mono (m := 100) (by omega)
      have hUz := (HU.out.off hO (fun e => hne.2.1.2 e)).mono (m := 100000) (by have := HN2.out; omega)
      have hBz := HB.out.trans (hO.below HB.out.size (fun k hk e => by have := HR0.out; omega))
      have HZZ := hideN (And.intro hFz (And.intro hUz hBz))
      have HSS := hideN (And.intro s0 s1)
      clear hRs s0 s1 hO hFz hUz hBz hne
      go_wp2_with fail
      obtain ⟨s0, s1⟩ := HSS.out
      obtain ⟨z1, z2, z3⟩ := HZZ.out
      exact bodyPost_ret (v := .agg #[.map (some mf), .map (some mu)]) (by simp [results, Tryz.results59, go_sem, s0, s1]) rfl ⟨mf, mu, rfl, z1, z2, ⟨HNE.out.1, by have := HR0.out; have := HNE.out; omega, by have := HR0.out; have := HNE.out; omega⟩, z3⟩
end Go.Proofs.YtjdobbjdlighpabGreatDoor
