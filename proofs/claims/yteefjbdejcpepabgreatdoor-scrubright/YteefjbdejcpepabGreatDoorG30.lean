/-
  Own text. A node's files and bins are right, pure: uses are counted as files have them.
  Own text. BinUses' memory: a bin and two rows (texts, IDs) beside it, all new since w; how each step leaves them.
  Own text. NodeKeeps' memory: a node and rows of texts beside it, all new since w; how each step leaves them.
  Own text. What a node has, in order, is right; each piece is used as often as its files have it.
-/
import Derived.Test.YteefjbdejcpepabGreatDoorG23
import Derived.Test.YteefjbdejcpepabGreatDoorG29
import Derived.Test.YteefjbdejcpepabGreatDoorG25
import Derived.Maps.AppendAt
import Derived.Test.YteefjbdejcpepabGreatDoorG10
namespace Go.Proofs.YteefjbdejcpepabGreatDoor
open Go.RowKit Go.Maps

def rcpOf (f : NFile) : Rcp := (f.1, (f.2.length : Int), ((pmore 2166136261 f.2 : Nat) : Int), idsOf f.2)
/- Each bin has a file; there are not too many. -/
structure NFull (st : NSt) : Prop where
  bhas : ∀ b ∈ st.bins, ∃ f ∈ st.files, repT f.2 = b.1
  fmany : st.files.length ≤ 30
theorem NFull.empty : NFull ⟨[], []⟩ := ⟨fun b hb => by simp at hb, by simp⟩
theorem NFull.put {st : NSt} (h : NFull st) (nm s : List UInt8) : NFull (nPut st nm s).2.2 := by
  by_cases h1 : (ofR nm s).2 = 0
  · cases h2 : nFile st.files nm with
    | some t => rw [nPut_there h1 h2]; exact h
    | none =>
      by_cases h3 : 30 ≤ st.files.length
      · rw [nPut_full h1 h2 h3]; exact h
      · obtain ⟨⟨fr, ec, bl⟩, hp⟩ : ∃ r, putAll ((nBin st.bins (repT s)).getD []) 0 (pieces s) = r := ⟨_, rfl⟩
        by_cases h4 : ec = 0
        · subst h4
          rw [nPut_ok h1 h2 h3 rfl rfl hp]
          refine ⟨fun b hb => ?_, by simp only [List.length_cons]; omega⟩
          rcases List.mem_cons.1 hb with rfl | hb
          · exact ⟨_, List.mem_cons_self .., rfl⟩
          · obtain ⟨f, hf, e⟩ := h.bhas b (List.mem_filter.1 hb).1
            exact ⟨f, List.mem_cons_of_mem _ hf, e⟩
        · rw [nPut_err h1 h2 h3 rfl rfl hp h4]; exact h
  · rw [nPut_bad h1]; exact h
theorem file_of {st : NSt} (hI : NInv st) {nm s : List UInt8} (hf : nFile st.files nm = some s) {f : NFile} (hm : f ∈ st.files) (e : f.1 = nm) : f.2 = s := by
  obtain ⟨f1, f2⟩ := f
  simp only at e
  subst e
  have := nFile_of_mem hI.fap hm
  rw [hf] at this
  exact (Option.some.inj this).symm
theorem NFull.drop {st : NSt} (h : NFull st) (hI : NInv st) (nm : List UInt8) : NFull (nDrop st nm).2 := by
  unfold nDrop
  cases hf : nFile st.files nm with
  | none => exact h
  | some s =>
    simp only
    have hstay : ∀ b ∈ st.bins, b.1 ≠ repT s → ∃ f ∈ st.files.filter (fun f => !decide (f.1 = nm)), repT f.2 = b.1 := fun b hb hne => by
      obtain ⟨f, hf', e2⟩ := h.bhas b hb
      refine ⟨f, List.mem_filter.2 ⟨hf', ?_⟩, e2⟩
      by_cases e3 : f.1 = nm
      · rw [file_of hI hf hf' e3] at e2
        exact absurd e2.symm hne
      · simp [e3]
    split
    · rename_i hany
      obtain ⟨g, hg, he⟩ := List.any_eq_true.1 hany
      simp only [decide_eq_true_eq] at he
      refine ⟨fun b hb => ?_, Nat.le_trans (List.length_filter_le _ _) h.fmany⟩
      obtain ⟨c, hc, rfl⟩ := List.mem_map.1 hb
      have ek : (if c.1 = repT s then (c.1, dropAll c.2 (idsOf s)) else c).1 = c.1 := by split <;> rfl
      rw [ek]
      by_cases e : c.1 = repT s
      · exact ⟨g, hg, he.trans e.symm⟩
      · exact hstay c hc e
    · refine ⟨fun b hb => ?_, Nat.le_trans (List.length_filter_le _ _) h.fmany⟩
      obtain ⟨hb1, hb2⟩ := List.mem_filter.1 hb
      exact hstay b hb1 (fun e => by simp [e] at hb2)
theorem NFull.sweep {st : NSt} (h : NFull st) : NFull (nSweep st).2 := by
  refine ⟨fun b hb => ?_, h.fmany⟩
  obtain ⟨c, hc, rfl⟩ := List.mem_map.1 hb
  exact h.bhas c hc
/- How often files of a rep have an ID; how many files have a rep. -/
def cntU (fs : List Rcp) (r i : Nat × Int) : Int := (fs.map fun x => if rcpRep x = r then ((x.2.2.2.count i : Nat) : Int) else 0).sum
def cntF (fs : List Rcp) (r : Nat × Int) : Int := (fs.map fun x => if rcpRep x = r then (1 : Int) else 0).sum
theorem omap_add (o : Option Int) (a b : Int) : (o.map (· + a)).map (· + b) = o.map (· + (a + b)) := by
  cases o with
  | none => rfl
  | some x => simp only [Option.map_some]; congr 1; omega
theorem omap_zero (o : Option Int) : o.map (· + 0) = o := by cases o <;> simp
theorem bump_val (f : Use → Option Int) (r0 x r i : Nat × Int) : bump f (r0, x) (r, i) = (f (r, i)).map (· + if r0 = r ∧ x = i then 1 else 0) := by
  unfold bump
  by_cases e : (r, i) = (r0, x)
  · obtain ⟨e1, e2⟩ := Prod.mk.inj e
    subst e1 e2
    simp
  · have hn : ¬ (r0 = r ∧ x = i) := fun ⟨h1, h2⟩ => e (by rw [h1, h2])
    rw [if_neg e, if_neg hn, omap_zero]
theorem bumpAll_val (r0 r i : Nat × Int) : ∀ (l : List (Nat × Int)) (f : Use → Option Int), bumpAll f r0 l (r, i) = (f (r, i)).map (· + if r0 = r then ((l.count i : Nat) : Int) else 0)
  | [], f => by
    have : (if r0 = r then ((([] : List (Nat × Int)).count i : Nat) : Int) else 0) = 0 := by split <;> simp
    rw [bumpAll, this, omap_zero]
  | x :: l, f => by
    rw [bumpAll, bumpAll_val r0 r i l, bump_val, omap_add]
    congr 1
    funext y
    congr 1
    rw [List.count_cons]
    by_cases e : r0 = r
    · by_cases e2 : x = i
      · simp [e, e2]; omega
      · have e3 : (x == i) = false := beq_eq_false_iff_ne.2 e2
        simp [e, e2, e3]
    · simp [e]
theorem cU_val (r i : Nat × Int) : ∀ (fs : List Rcp) (f : Use → Option Int), cU f fs (r, i) = (f (r, i)).map (· + cntU fs r i)
  | [], f => by
    rw [cU]
    have : cntU [] r i = 0 := rfl
    rw [this, omap_zero]
  | x :: l, f => by
    rw [cU, cU_val r i l, bumpAll_val, omap_add]
    congr 1
theorem cF_val (r : Nat × Int) : ∀ (fs : List Rcp) (f : Nat × Int → Option Int), cF f fs r = (f r).map (· + cntF fs r)
  | [], f => by
    rw [cF]
    have : cntF [] r = 0 := rfl
    rw [this, omap_zero]
  | x :: l, f => by
    have hb : bump f (rcpRep x) r = (f r).map (· + if rcpRep x = r then 1 else 0) := by
      unfold bump
      by_cases e : r = rcpRep x
      · subst e; simp
      · have e' : ¬ rcpRep x = r := fun h => e h.symm
        rw [if_neg e, if_neg e', omap_zero]
    rw [cF, cF_val r l, hb, omap_add]
    congr 1
theorem cntU_of (r i : Nat × Int) : ∀ (fl : List NFile), cntU (fl.map rcpOf) r i = ((((logOf fl r).map idOfL).count i : Nat) : Int)
  | [] => rfl
  | f :: l => by
    have ih := cntU_of r i l
    rw [logOf_cons, List.map_append, List.count_append, Int.natCast_add, ← ih]
    have e1 : cntU ((f :: l).map rcpOf) r i = (if rcpRep (rcpOf f) = r then (((rcpOf f).2.2.2.count i : Nat) : Int) else 0) + cntU (l.map rcpOf) r i := rfl
    rw [e1]
    congr 1
    have e2 : rcpRep (rcpOf f) = repT f.2 := rfl
    have e3 : (rcpOf f).2.2.2 = (pieces f.2).map idOfL := rfl
    rw [e2, e3]
    by_cases e : repT f.2 = r
    · simp [e]
    · simp [e]
theorem cntF_pos {fl : List NFile} {r : Nat × Int} (h : ∃ f ∈ fl, repT f.2 = r) : 0 < cntF (fl.map rcpOf) r := by
  have hall : ∀ l : List NFile, 0 ≤ cntF (l.map rcpOf) r := by
    intro l
    induction l with
    | nil => exact Int.le_refl _
    | cons f l ih =>
      have e1 : cntF ((f :: l).map rcpOf) r = (if rcpRep (rcpOf f) = r then (1 : Int) else 0) + cntF (l.map rcpOf) r := rfl
      rw [e1]
      split <;> omega
  induction fl with
  | nil => obtain ⟨f, hf, _⟩ := h; simp at hf
  | cons g l ih =>
    have e1 : cntF ((g :: l).map rcpOf) r = (if rcpRep (rcpOf g) = r then (1 : Int) else 0) + cntF (l.map rcpOf) r := rfl
    rw [e1]
    obtain ⟨f, hf, e⟩ := h
    have h0 := hall l
    rcases List.mem_cons.1 hf with rfl | hf
    · have e2 : rcpRep (rcpOf f) = r := e
      rw [if_pos e2]
      omega
    · have := ih ⟨f, hf, e⟩
      split <;> omega
/- IDs tell texts apart within a bin. -/
theorem count_ids {U : Int} {l : List Hd} {log : List (List UInt8)} (hok : BinOk U l) (h : WLog l log) {x : Hd} (hx : x ∈ l) : (log.map idOfL).count x.1 = log.count x.2.2 := by
  have hiff : ∀ t ∈ log, (idOfL t == x.1) = (t == x.2.2) := fun t ht => by
    obtain ⟨u, hu⟩ := h.has t ht
    by_cases e : idOfL t = x.1
    · have := rise_inj hok.rise hu hx e
      rw [e, ← this]
      simp
    · have e2 : ¬ t = x.2.2 := fun e2 => e (by rw [e2]; exact (hok.each x hx).1.symm)
      rw [beq_eq_false_iff_ne.2 e, beq_eq_false_iff_ne.2 e2]
  rw [List.count, List.countP_map, List.count]
  exact List.countP_congr fun t ht => by simp only [Function.comp]; rw [hiff t ht]
end Go.Proofs.YteefjbdejcpepabGreatDoor
namespace Go.Proofs.YteefjbdejcpepabGreatDoor
open Go.RowKit

abbrev strB (s : List UInt8) : Value := .string ⟨s.toArray⟩
def idC : List (Nat × Int) → List Value
  | [] => []
  | x :: r => .int .u32 (x.1 : Nat) :: .int .i64 x.2 :: idC r
theorem idC_append : ∀ (a b : List (Nat × Int)), idC (a ++ b) = idC a ++ idC b
  | [], _ => rfl
  | x :: r, b => by rw [List.cons_append, idC, idC_append r b, idC]; rfl
theorem idC_at : ∀ (a : List (Nat × Int)) (i : Nat) (h : i < a.length), (idC a)[i * 2]? = some (.int .u32 (a[i].1 : Nat)) ∧ (idC a)[i * 2 + 1]? = some (.int .i64 a[i].2)
  | x :: r, 0, _ => ⟨rfl, rfl⟩
  | x :: r, i + 1, h => by
    have := idC_at r i (by simpa using h)
    rw [idC, show (i + 1) * 2 = i * 2 + 1 + 1 by omega]
    simpa using this

structure UseSt (PB : PBin) (w W : World) (p : Addr) (F : Nat → Prop) (l : List Hd) (vt vi : Value) (lt li : List (List UInt8)) : Prop where
  below : Below w.heap.size w W
  pb : PB W p F l
  pnew : ∀ k, F k → w.heap.size ≤ k
  rt : W.ownsRow w.heap.size 9 1 vt lt.length (lt.map strB)
  ri : W.ownsRow w.heap.size 25 2 vi li.length (idC (li.map idOfL))
  pt : ∀ k, F k → vt.ownBlock ≠ some k
  pi : ∀ k, F k → vi.ownBlock ≠ some k
  ti : ∀ k, vt.ownBlock = some k → vi.ownBlock ≠ some k
theorem row_lt {w : World} {base : Nat} {e : TypeId} {size : Nat} {v : Value} {n : Nat} {xs : List Value} (h : w.ownsRow base e size v n xs) {j : Nat} (hj : v.ownBlock = some j) : j < w.heap.size := by
  obtain ⟨_, h⟩ := h
  rcases h with ⟨rfl, _⟩ | ⟨g, cap, cur, rfl, _, hh, _⟩
  · simp [Value.ownBlock] at hj
  · simp [Value.ownBlock] at hj
    subst hj
    exact lt_of_block hh
theorem row_ge {w : World} {base : Nat} {e : TypeId} {size : Nat} {v : Value} {n : Nat} {xs : List Value} (h : w.ownsRow base e size v n xs) {j : Nat} (hj : v.ownBlock = some j) : base ≤ j := by
  obtain ⟨_, h⟩ := h
  rcases h with ⟨rfl, _⟩ | ⟨g, cap, cur, rfl, hg, _⟩
  · simp [Value.ownBlock] at hj
  · simp [Value.ownBlock] at hj; omega
theorem UseSt.start {PB : PBin} {w W : World} {p : Addr} {F : Nat → Prop} (hb : Below w.heap.size w W) (hP : PB W p F []) (hF : ∀ k, F k → w.heap.size ≤ k) : UseSt PB w W p F [] (.slice none 0 0) (.slice none 0 0) [] [] :=
  ⟨hb, hP, hF, World.ownsRow_nil _ _ _ _, World.ownsRow_nil _ _ _ _, fun _ _ h => by simp [Value.ownBlock] at h, fun _ _ h => by simp [Value.ownBlock] at h, fun _ h => by simp [Value.ownBlock] at h⟩
theorem UseSt.next {a : Nat → Addr} {Env : World → Prop} {PB : PBin} (S : BinSpec a Env PB) {w W W' : World} {p : Addr} {F : Nat → Prop} {l : List Hd} {vt vi : Value} {lt li : List (List UInt8)} (h : UseSt PB w W p F l vt vi lt li) (hb : Below W.heap.size W W') : UseSt PB w W' p F l vt vi lt li :=
  ⟨h.below.trans (hb.mono h.below.size), S.below h.pb hb, h.pnew, row_below h.rt hb, row_below h.ri hb, h.pt, h.pi, h.ti⟩
theorem UseSt.prog {PB : PBin} {w W W' : World} {p : Addr} {F F' : Nat → Prop} {l l' : List Hd} {vt vi : Value} {lt li : List (List UInt8)} (h : UseSt PB w W p F l vt vi lt li) (hp : PB W' p F' l') (hF : ∀ k, F' k → F k ∨ W.heap.size ≤ k) (ho : Off F W W') : UseSt PB w W' p F' l' vt vi lt li := by
  refine ⟨h.below.trans (ho.below h.below.size (fun k hk hf => by have := h.pnew k hf; omega)), hp, fun k hk => ?_, ho.row h.rt (fun k hk hf => h.pt k hf hk), ho.row h.ri (fun k hk hf => h.pi k hf hk), fun k hk e => ?_, fun k hk e => ?_, h.ti⟩
  · rcases hF k hk with hk | hk
    · exact h.pnew k hk
    · exact Nat.le_trans h.below.size hk
  · rcases hF k hk with hk | hk
    · exact h.pt k hk e
    · have := row_lt h.rt e; omega
  · rcases hF k hk with hk | hk
    · exact h.pi k hk e
    · have := row_lt h.ri e; omega
theorem off_of_rowgrown {w w' : World} {row : Option Nat} (h : w.grownBy w' row) : Off (fun k => row = some k) w w' := ⟨h.os, h.tape, h.output, h.size, fun k hk hn => h.block k hk (fun e => hn e.symm)⟩
theorem UseSt.text {a : Nat → Addr} {Env : World → Prop} {PB : PBin} (S : BinSpec a Env PB) {w W W' : World} {p : Addr} {F : Nat → Prop} {l : List Hd} {vt vi vt' : Value} {lt li lt' : List (List UInt8)} (h : UseSt PB w W p F l vt vi lt li) (hg : W.grownBy W' vt.ownBlock) (hr : W'.ownsRow w.heap.size 9 1 vt' lt'.length (lt'.map strB)) (hv : vt'.ownBlock = vt.ownBlock ∨ vt'.ownBlock = some W.heap.size) : UseSt PB w W' p F l vt' vi lt' li := by
  have ho := off_of_rowgrown hg
  refine ⟨h.below.trans (ho.below h.below.size (fun k hk e => by have := row_ge h.rt e; omega)), S.off h.pb ho (fun k hk e => h.pt k hk e), h.pnew, hr, ho.row h.ri (fun k hk e => h.ti k e hk), fun k hk e => ?_, h.pi, fun k e e2 => ?_⟩
  · rcases hv with hv | hv
    · exact h.pt k hk (hv ▸ e)
    · have := S.lt h.pb k hk
      rw [hv] at e
      have := Option.some.inj e
      omega
  · rcases hv with hv | hv
    · exact h.ti k (hv ▸ e) e2
    · have := row_lt h.ri e2
      rw [hv] at e
      have := Option.some.inj e
      omega
theorem UseSt.id {a : Nat → Addr} {Env : World → Prop} {PB : PBin} (S : BinSpec a Env PB) {w W W' : World} {p : Addr} {F : Nat → Prop} {l : List Hd} {vt vi vi' : Value} {lt li li' : List (List UInt8)} (h : UseSt PB w W p F l vt vi lt li) (hg : W.grownBy W' vi.ownBlock) (hr : W'.ownsRow w.heap.size 25 2 vi' li'.length (idC (li'.map idOfL))) (hv : vi'.ownBlock = vi.ownBlock ∨ vi'.ownBlock = some W.heap.size) : UseSt PB w W' p F l vt vi' lt li' := by
  have ho := off_of_rowgrown hg
  refine ⟨h.below.trans (ho.below h.below.size (fun k hk e => by have := row_ge h.ri e; omega)), S.off h.pb ho (fun k hk e => h.pi k hk e), h.pnew, ho.row h.rt (fun k hk e => h.ti k hk e), hr, h.pt, fun k hk e => ?_, fun k e e2 => ?_⟩
  · rcases hv with hv | hv
    · exact h.pi k hk (hv ▸ e)
    · have := S.lt h.pb k hk
      rw [hv] at e
      have := Option.some.inj e
      omega
  · rcases hv with hv | hv
    · exact h.ti k e (hv ▸ e2)
    · have := row_lt h.rt e
      rw [hv] at e2
      have := Option.some.inj e2
      omega
theorem add_plain (g j : Nat) : (⟨g, 0, none⟩ : Addr).add j = ⟨g, j, none⟩ := by
  by_cases h : j = 0
  · subst h; rfl
  · simp [Addr.add, h]
/- Element i of both rows, as the walks ask it: where the row lies. -/
theorem UseSt.cells {PB : PBin} {w W : World} {p : Addr} {F : Nat → Prop} {l : List Hd} {vt vi : Value} {lt li : List (List UInt8)} (h : UseSt PB w W p F l vt vi lt li) (hn : li ≠ []) (hl : lt = li) : ∃ gt ct gi ci, vt = .slice (some ⟨gt, 0, none⟩) li.length ct ∧ vi = .slice (some ⟨gi, 0, none⟩) li.length ci ∧ ∀ i (hi : i < li.length), W.cell? ⟨gt, i, none⟩ = some (strB li[i]) ∧ W.cell? ⟨gi, i * 2, none⟩ = some (.int .u32 ((idOfL li[i]).1 : Nat)) ∧ W.cell? ⟨gi, i * 2 + 1, none⟩ = some (.int .i64 (idOfL li[i]).2) := by
  subst hl
  have hpos : lt.length ≠ 0 := by simpa using hn
  have h1 := h.rt
  have h2 := h.ri
  have k1 := h1.2
  have k2 := h2.2
  rcases k1 with ⟨_, hz⟩ | ⟨g, cap, cur, hv, _⟩
  · exact absurd hz hpos
  · rcases k2 with ⟨_, hz⟩ | ⟨g2, cap2, cur2, hv2, _⟩
    · exact absurd hz hpos
    · refine ⟨g, cap, g2, cap2, hv, hv2, fun i hi => ?_⟩
      have c1 := h1.cells (g := g) (by rw [hv]; rfl) i (strB lt[i]) (by simp [hi])
      have hm : i < (lt.map idOfL).length := by simpa using hi
      obtain ⟨e1, e2⟩ := idC_at (lt.map idOfL) i hm
      have c2 := h2.cells (g := g2) (by rw [hv2]; rfl) (i * 2) _ e1
      have c3 := h2.cells (g := g2) (by rw [hv2]; rfl) (i * 2 + 1) _ e2
      simp only [add_plain, List.getElem_map] at c1 c2 c3
      exact ⟨c1, c2, c3⟩
end Go.Proofs.YteefjbdejcpepabGreatDoor
namespace Go.Proofs.YteefjbdejcpepabGreatDoor
open Go.RowKit Go.Maps

structure TRows (w W : World) (F : Nat → Prop) (rs : List (Value × List (List UInt8))) : Prop where
  own : ∀ r ∈ rs, W.ownsRow w.heap.size 9 1 r.1 r.2.length (r.2.map strB)
  off : ∀ r ∈ rs, ∀ k, F k → r.1.ownBlock ≠ some k
  two : rs.Pairwise (fun a b => ∀ k, a.1.ownBlock = some k → b.1.ownBlock ≠ some k)
theorem TRows.nil (w W : World) (F : Nat → Prop) : TRows w W F [] := ⟨fun r hr => by simp at hr, fun r hr => by simp at hr, List.Pairwise.nil⟩
theorem TRows.snoc {w W : World} {F : Nat → Prop} {rs : List (Value × List (List UInt8))} (h : TRows w W F rs) : TRows w W F (rs ++ [(.slice none 0 0, [])]) := by
  refine ⟨fun r hr => ?_, fun r hr k hk => ?_, List.pairwise_append.2 ⟨h.two, List.pairwise_singleton _ _, fun a _ b hb k _ e => ?_⟩⟩
  · rcases List.mem_append.1 hr with hr | hr
    · exact h.own r hr
    · rw [List.mem_singleton.1 hr]
      exact World.ownsRow_nil _ _ _ _
  · rcases List.mem_append.1 hr with hr | hr
    · exact h.off r hr k hk
    · rw [List.mem_singleton.1 hr]
      simp [Value.ownBlock]
  · rw [List.mem_singleton.1 hb] at e
    simp [Value.ownBlock] at e
theorem TRows.sub {w W : World} {F : Nat → Prop} {rs rs' : List (Value × List (List UInt8))} (h : TRows w W F rs) (hs : rs'.Sublist rs) : TRows w W F rs' :=
  ⟨fun r hr => h.own r (hs.subset hr), fun r hr => h.off r (hs.subset hr), h.two.sublist hs⟩
theorem TRows.below {w W W' : World} {F : Nat → Prop} {rs : List (Value × List (List UInt8))} (h : TRows w W F rs) (hb : Below W.heap.size W W') : TRows w W' F rs :=
  ⟨fun r hr => row_below (h.own r hr) hb, h.off, h.two⟩
theorem TRows.prog {w W W' : World} {F F' : Nat → Prop} {rs : List (Value × List (List UInt8))} (h : TRows w W F rs) (ho : Off F W W') (hF : ∀ k, F' k → F k ∨ W.heap.size ≤ k) : TRows w W' F' rs := by
  refine ⟨fun r hr => ho.row (h.own r hr) (fun k hk hf => h.off r hr k hf hk), fun r hr k hk e => ?_, h.two⟩
  rcases hF k hk with hk | hk
  · exact h.off r hr k hk e
  · have := row_lt (h.own r hr) e
    omega
theorem TRows.app {w W W' : World} {F : Nat → Prop} {A B : List (Value × List (List UInt8))} {v v' : Value} {t t' : List (List UInt8)} (h : TRows w W F (A ++ (v, t) :: B)) (hF : ∀ k, F k → k < W.heap.size) (hg : W.grownBy W' v.ownBlock) (hr : W'.ownsRow w.heap.size 9 1 v' t'.length (t'.map strB)) (hv : v'.ownBlock = v.ownBlock ∨ v'.ownBlock = some W.heap.size) : TRows w W' F (A ++ (v', t') :: B) := by
  have ho := off_of_rowgrown hg
  obtain ⟨tA, tB, tAB⟩ := List.pairwise_append.1 h.two
  obtain ⟨tv, tB⟩ := List.pairwise_cons.1 tB
  have hvm : (v, t) ∈ A ++ (v, t) :: B := List.mem_append_right _ (List.mem_cons_self ..)
  have hother : ∀ r, r ∈ A ∨ r ∈ B → r ∈ A ++ (v, t) :: B ∧ ∀ k, v.ownBlock = some k → r.1.ownBlock ≠ some k := fun r hr => by
    rcases hr with hr | hr
    · exact ⟨List.mem_append_left _ hr, fun k hk e => tAB r hr _ (List.mem_cons_self ..) k e hk⟩
    · exact ⟨List.mem_append_right _ (List.mem_cons_of_mem _ hr), fun k hk => tv r hr k hk⟩
  have hnew : ∀ r, r ∈ A ∨ r ∈ B → ∀ k, v'.ownBlock = some k → r.1.ownBlock ≠ some k := fun r hr k hk e => by
    rcases hv with hv | hv
    · exact (hother r hr).2 k (hv ▸ hk) e
    · have := row_lt (h.own r (hother r hr).1) e
      rw [hv] at hk
      have := Option.some.inj hk
      omega
  have hmem : ∀ r, r ∈ A ++ (v', t') :: B → r = (v', t') ∨ (r ∈ A ∨ r ∈ B) := fun r hr => by
    rcases List.mem_append.1 hr with hr | hr
    · exact .inr (.inl hr)
    · rcases List.mem_cons.1 hr with hr | hr
      · exact .inl hr
      · exact .inr (.inr hr)
  refine ⟨fun r hm => ?_, fun r hm k hk e => ?_, List.pairwise_append.2 ⟨tA, List.pairwise_cons.2 ⟨fun b hb k hk => hnew b (.inr hb) k hk, tB⟩, fun a ha b hb k hk => ?_⟩⟩
  · rcases hmem r hm with rfl | hm
    · exact hr
    · obtain ⟨h1, h2⟩ := hother r hm
      exact ho.row (h.own r h1) (fun k hk e => h2 k e hk)
  · rcases hmem r hm with rfl | hm
    · rcases hv with hv | hv
      · exact h.off _ hvm k hk (hv ▸ e)
      · have := hF k hk
        simp only at e
        rw [hv] at e
        have := Option.some.inj e
        omega
    · exact h.off r (hother r hm).1 k hk e
  · rcases List.mem_cons.1 hb with rfl | hb
    · exact fun e => hnew a (.inl ha) k e hk
    · exact tAB a ha b (List.mem_cons_of_mem _ hb) k hk
theorem TRows.cell {w W : World} {F : Nat → Prop} {rs : List (Value × List (List UInt8))} (h : TRows w W F rs) {v : Value} {t : List (List UInt8)} (hm : (v, t) ∈ rs) (hn : t ≠ []) : ∃ g c, v = .slice (some ⟨g, 0, none⟩) t.length c ∧ ∀ i (hi : i < t.length), W.cell? ⟨g, i, none⟩ = some (strB t[i]) := by
  have h1 := h.own _ hm
  have k1 := h1.2
  simp only at h1 k1
  rcases k1 with ⟨_, hz⟩ | ⟨g, cap, cur, hv, _⟩
  · exact absurd (List.length_eq_zero_iff.1 hz) hn
  · refine ⟨g, cap, hv, fun i hi => ?_⟩
    have c1 := h1.cells (g := g) (by rw [hv]; rfl) i (strB t[i]) (by simp [hi])
    simp only [add_plain] at c1
    exact c1
theorem TRows.shape {w W : World} {F : Nat → Prop} {rs : List (Value × List (List UInt8))} (h : TRows w W F rs) {v : Value} {t : List (List UInt8)} (hm : (v, t) ∈ rs) : ∃ p c, v = .slice p t.length c := by
  rcases (h.own _ hm).2 with ⟨e, e2⟩ | ⟨g, cap, cur, e, _⟩
  · simp only at e e2
    exact ⟨_, _, by rw [e, e2]⟩
  · exact ⟨_, _, e⟩
theorem infoStrK : (Tryz.prog.info? 9).map (fun i => (i.zero, i.size, i.bytes)) = some (some (.string ⟨#[]⟩), 1, 16) := by kernel_rfl
theorem str_backK (t : ByteArray) : (⟨t.data.toList.toArray⟩ : ByteArray) = t := by
  apply ByteArray.ext
  simp
theorem cell_one_atK {W : World} {B : Nat} {x : Value} {t : TypeId} (hB : B = W.heap.size) : ∀ j u, [x][j]? = some u → (W.alloc (.cells #[x] t)).cell? ((⟨B, 0, none⟩ : Addr).add j) = some u := by
  subst hB
  intro j u hj
  rw [add_plain]
  exact new_cell W #[x] t (by rw [← hj]; simp) rfl
theorem text_rowK {W : World} {base : Nat} {v : Value} {log : List (List UInt8)} {t : ByteArray} (h : W.ownsRow base 9 1 v (log.length + 1) (log.map strB ++ [.string t])) : W.ownsRow base 9 1 v (log ++ [t.data.toList]).length ((log ++ [t.data.toList]).map strB) := by
  rw [List.length_append, List.map_append, List.map_singleton, strB, str_backK]
  exact h
theorem isName_len {x : List UInt8} (h : isName x = true) : x.length ≤ 12 := by
  unfold isName at h
  simp only [Bool.and_eq_true, decide_eq_true_eq] at h
  exact h.2.2
theorem strK_ne {s t : ByteArray} (h : s ≠ t) : (s.toList == t.toList) = false := by
  rw [ByteArray.toList_eq, ByteArray.toList_eq, beq_eq_false_iff_ne]
  exact fun e => h (WideShapes.bytes_inj e)
theorem strK_ne_lit {s : ByteArray} {l : List UInt8} (h : s ≠ ⟨l.toArray⟩) : (s.toList == l) = false := by
  rw [ByteArray.toList_eq, beq_eq_false_iff_ne]
  exact fun e => h (WideShapes.bytes_inj (by rw [e]))
theorem row_shapeK {W : World} {base : Nat} {e : TypeId} {size : Nat} {v : Value} {n : Nat} {xs : List Value} (h : W.ownsRow base e size v n xs) : ∃ p c, v = .slice p n c := by
  rcases h.2 with ⟨rfl, rfl⟩ | ⟨g, cap, cur, rfl, _⟩
  · exact ⟨_, _, rfl⟩
  · exact ⟨_, _, rfl⟩
structure KeepSt (w W : World) (p : Addr) (F : Nat → Prop) (st : NSt) (rs : List (Value × List (List UInt8))) : Prop where
  below : Below w.heap.size w W
  node : PNode W p F st
  new : ∀ k, F k → w.heap.size ≤ k
  rows : TRows w W F rs
theorem KeepSt.next {w W W' : World} {p : Addr} {F : Nat → Prop} {st : NSt} {rs : List (Value × List (List UInt8))} (h : KeepSt w W p F st rs) (hb : Below W.heap.size W W') : KeepSt w W' p F st rs :=
  ⟨h.below.trans (hb.mono h.below.size), h.node.below hb, h.new, h.rows.below hb⟩
theorem KeepSt.prog {w W W' : World} {p : Addr} {F F' : Nat → Prop} {st st' : NSt} {rs : List (Value × List (List UInt8))} (h : KeepSt w W p F st rs) (hp : PNode W' p F' st') (hF : ∀ k, F' k → F k ∨ W.heap.size ≤ k) (ho : Off F W W') : KeepSt w W' p F' st' rs :=
  ⟨h.below.trans (ho.below h.below.size (fun k hk hf => by have := h.new k hf; omega)), hp, fun k hk => (hF k hk).elim (h.new k) (fun h2 => Nat.le_trans h.below.size h2), h.rows.prog ho hF⟩
theorem KeepSt.app {w W W' : World} {p : Addr} {F : Nat → Prop} {st : NSt} {A B : List (Value × List (List UInt8))} {v v' : Value} {t t' : List (List UInt8)} (h : KeepSt w W p F st (A ++ (v, t) :: B)) (hg : W.grownBy W' v.ownBlock) (hr : W'.ownsRow w.heap.size 9 1 v' t'.length (t'.map strB)) (hv : v'.ownBlock = v.ownBlock ∨ v'.ownBlock = some W.heap.size) : KeepSt w W' p F st (A ++ (v', t') :: B) := by
  have ho := off_of_rowgrown hg
  have hvm : (v, t) ∈ A ++ (v, t) :: B := List.mem_append_right _ (List.mem_cons_self ..)
  exact ⟨h.below.trans (ho.below h.below.size (fun k hk e => by have := row_ge (h.rows.own _ hvm) e; omega)), h.node.off ho (fun k hk e => h.rows.off _ hvm k hk e), h.new, h.rows.app h.node.lt hg hr hv⟩
end Go.Proofs.YteefjbdejcpepabGreatDoor
namespace Go.Proofs.YteefjbdejcpepabGreatDoor
open Go.RowKit Go.Maps

theorem wfID_piece {s t : List UInt8} (h : t ∈ pieces s) : WfID (idOfL t) := by
  have := piece_le h
  refine ⟨pmore_lt _ (by decide) _, ?_, ?_⟩
  · show _ ≤ ((t.length : Nat) : Int); omega
  · show ((t.length : Nat) : Int) ≤ _; omega
theorem wfID_held {U : Int} {l : List Hd} (hok : BinOk U l) {h : Hd} (hm : h ∈ l) : WfID h.1 := by
  obtain ⟨h1, h2, _⟩ := hok.each h hm
  rw [h1]
  refine ⟨pmore_lt _ (by decide) _, ?_, ?_⟩
  · show _ ≤ ((h.2.2.length : Nat) : Int); omega
  · show ((h.2.2.length : Nat) : Int) ≤ _; omega
theorem zeroU_some {bl : List NBin} (hap : bl.Pairwise (fun f g => f.1 ≠ g.1)) {r : Nat × Int} {l : List Hd} (hm : (r, l) ∈ bl) {h : Hd} (hh : h ∈ l) : zeroU bl (r, h.1) = some 0 := by
  unfold zeroU
  rw [nBin_of_mem hap hm]
  simp only
  rw [if_pos (List.any_eq_true.2 ⟨h, hh, by simp⟩)]
theorem zeroF_some {bl : List NBin} {r : Nat × Int} {l : List Hd} (hm : (r, l) ∈ bl) : zeroF bl r = some 0 := by
  unfold zeroF
  rw [if_pos (List.any_eq_true.2 ⟨_, hm, by simp⟩)]
theorem right_of {U : Int} {n : Nat} {st : NSt} (hI : NInv st) (hN : NFull st) (hok : NOk U n st) (hn : n ≤ 100) {fl : List NFile} {bl : List NBin} (hf : fl.Perm st.files) (hb : bl.Perm st.bins) (hfo : fl.Pairwise (fun f g => f.1 < g.1)) (hbo : bl.Pairwise (fun b c => lessB b.1 c.1 = true)) :
    RightIn (fl.map rcpOf) bl ∧ ∀ b ∈ bl, usesErr (cU (zeroU bl) (fl.map rcpOf)) b = 0 := by
  have hap : bl.Pairwise (fun f g => f.1 ≠ g.1) := hbo.imp fun {_ _} h => lessB_ne h
  have hfm : ∀ f ∈ fl, f ∈ st.files := fun f h => hf.mem_iff.1 h
  have hbm : ∀ b ∈ bl, b ∈ st.bins := fun b h => hb.mem_iff.1 h
  have hlog : ∀ b ∈ bl, WLog b.2 (logOf fl b.1) := fun b h => (hI.log b (hbm b h)).perm (logOf_perm hf.symm b.1)
  have hbin : ∀ f ∈ fl, ∃ l, (repT f.2, l) ∈ bl := fun f h => by
    obtain ⟨l, hl⟩ := hI.has f (hfm f h)
    exact ⟨l, hb.mem_iff.2 hl⟩
  refine ⟨⟨⟨?_, ?_, ?_, ?_, ?_, ?_⟩, ?_, ?_, ?_, ?_, ?_, ?_, ?_, ?_⟩, fun b hb' => ?_⟩
  · rw [List.length_map, hf.length_eq]
    exact hN.fmany
  · intro r hr
    obtain ⟨f, hf', rfl⟩ := List.mem_map.1 hr
    obtain ⟨h1, h2⟩ := hok.files f (hfm f hf')
    exact recFault_of f.1 f.2 h2 h1
  · intro r hr
    obtain ⟨f, hf', rfl⟩ := List.mem_map.1 hr
    show (idsOf f.2).length ≤ 250
    rw [idsOf_length]
    exact pieces_250 _ (hok.files f (hfm f hf')).1
  · intro i hi h0
    rw [List.length_map] at hi
    simp only [List.getElem_map]
    rw [List.pairwise_iff_getElem] at hfo
    exact hfo (i - 1) i (by omega) hi (by omega)
  · intro r hr
    obtain ⟨f, hf', rfl⟩ := List.mem_map.1 hr
    have := isName_len (hok.files f (hfm f hf')).2
    show f.1.length ≤ 50000
    omega
  · intro r hr
    obtain ⟨f, hf', rfl⟩ := List.mem_map.1 hr
    refine ⟨fun i hi => ?_, repT_wf f.2⟩
    obtain ⟨t, ht, rfl⟩ := List.mem_map.1 hi
    exact wfID_piece ht
  · intro r hr
    obtain ⟨f, hf', rfl⟩ := List.mem_map.1 hr
    obtain ⟨l, hl⟩ := hbin f hf'
    refine addErr_ok ?_ fun i hi => ?_
    · show (zeroF bl (repT f.2)).isSome = true
      rw [zeroF_some hl]
      rfl
    · obtain ⟨t, ht, rfl⟩ := List.mem_map.1 hi
      obtain ⟨u, hu⟩ := (hlog _ hl).has t (List.mem_flatMap.2 ⟨f, hf', by rw [if_pos rfl]; exact ht⟩)
      show (zeroU bl (repT f.2, idOfL t)).isSome = true
      have := zeroU_some hap hl hu
      simp only at this
      rw [this]
      rfl
  · rw [hb.length_eq]
    exact Nat.le_trans hok.many hn
  · intro b hb'
    have := (hok.bins b (hbm b hb')).many
    omega
  · intro b hb'
    obtain ⟨f, _, e⟩ := hN.bhas b (hbm b hb')
    exact ⟨by rw [← e]; exact repT_wf f.2, fun h hh => wfID_held (hok.bins b (hbm b hb')) hh⟩
  · intro i hi h0
    rw [List.pairwise_iff_getElem] at hbo
    exact hbo (i - 1) i (by omega) hi (by omega)
  · intro b hb'
    obtain ⟨f, hf', e⟩ := hN.bhas b (hbm b hb')
    obtain ⟨r, l⟩ := b
    rw [cF_val, zeroF_some hb']
    have := cntF_pos (fl := fl) (r := r) ⟨f, hf.mem_iff.2 hf', e⟩
    show (0 : Int) + cntF (fl.map rcpOf) r ≠ 0
    omega
  · intro b hb' h hh
    obtain ⟨h1, h2, _⟩ := (hok.bins b (hbm b hb')).each h hh
    exact ⟨h1, by omega⟩
  · intro b hb'
    exact (hok.bins b (hbm b hb')).rise
  · refine usesErr_ok fun x hx => ?_
    obtain ⟨r, l⟩ := b
    simp only at hx ⊢
    rw [cU_val, zeroU_some hap hb' hx]
    show (0 : Int) + cntU (fl.map rcpOf) r x.1 = x.2.1
    rw [cntU_of, count_ids (hok.bins _ (hbm _ hb')) (hlog _ hb') hx, (hlog _ hb').cnt x hx]
    omega
end Go.Proofs.YteefjbdejcpepabGreatDoor
