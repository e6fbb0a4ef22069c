/-
  Own text. BinUses' memory: a bin and two rows (texts, IDs) beside it, all new since w; how each step leaves them.
  Own text. NodeKeeps' memory: a node and rows of texts beside it, all new since w; how each step leaves them.
-/
import Derived.Test.YteefjbdejcpepaaGreatDoorBinLog
import Derived.Maps.AppendAt
import Derived.Test.YteefjbdejcpepaaGreatDoorNodeMem
namespace Go.Proofs.YteefjbdejcpepaaGreatDoor
open Go.RowKit

abbrev strB (s : List UInt8) : Value := .string ⟨s.toArray⟩
def idC : List (Nat × Int) → List Value
  | [] => []
  | x :: r => .int .u32 (x.1 : Nat) :: .int .i64 x.2 :: idC r
theorem idC_append : ∀ (a b : List (Nat × Int)), idC (a ++ b) = idC a ++ idC b
  | [], _ => rfl
  | x :: r, b => by rw [List.cons_append, idC, idC_append r b, idC]; rfl
theorem idC_at : ∀ (a : List (Nat × Int)) (i : Nat) (h : i < a.length), (idC a)[i * 2]? = some (.int .u32 (a[i].1 : Nat)) ∧ (idC a)[i * 2 + 1]? = some (.int .i64 a[i].2)
  | x :: r, 0, _ => ⟨rfl, rfl⟩
  | x :: r, i + 1, h => by
    have := idC_at r i (by simpa using h)
    rw [idC, show (i + 1) * 2 = i * 2 + 1 + 1 by omega]
    simpa using this

structure UseSt (PB : PBin) (w W : World) (p : Addr) (F : Nat → Prop) (l : List Hd) (vt vi : Value) (lt li : List (List UInt8)) : Prop where
  below : Below w.heap.size w W
  pb : PB W p F l
  pnew : ∀ k, F k → w.heap.size ≤ k
  rt : W.ownsRow w.heap.size 9 1 vt lt.length (lt.map strB)
  ri : W.ownsRow w.heap.size 40 2 vi li.length (idC (li.map idOfL))
  pt : ∀ k, F k → vt.ownBlock ≠ some k
  pi : ∀ k, F k → vi.ownBlock ≠ some k
  ti : ∀ k, vt.ownBlock = some k → vi.ownBlock ≠ some k
theorem row_lt {w : World} {base : Nat} {e : TypeId} {size : Nat} {v : Value} {n : Nat} {xs : List Value} (h : w.ownsRow base e size v n xs) {j : Nat} (hj : v.ownBlock = some j) : j < w.heap.size := by
  obtain ⟨_, h⟩ := h
  rcases h with ⟨rfl, _⟩ | ⟨g, cap, cur, rfl, _, hh, _⟩
  · simp [Value.ownBlock] at hj
  · simp [Value.ownBlock] at hj
    subst hj
    exact lt_of_block hh
theorem row_ge {w : World} {base : Nat} {e : TypeId} {size : Nat} {v : Value} {n : Nat} {xs : List Value} (h : w.ownsRow base e size v n xs) {j : Nat} (hj : v.ownBlock = some j) : base ≤ j := by
  obtain ⟨_, h⟩ := h
  rcases h with ⟨rfl, _⟩ | ⟨g, cap, cur, rfl, hg, _⟩
  · simp [Value.ownBlock] at hj
  · simp [Value.ownBlock] at hj; omega
theorem UseSt.start {PB : PBin} {w W : World} {p : Addr} {F : Nat → Prop} (hb : Below w.heap.size w W) (hP : PB W p F []) (hF : ∀ k, F k → w.heap.size ≤ k) : UseSt PB w W p F [] (.slice none 0 0) (.slice none 0 0) [] [] :=
  ⟨hb, hP, hF, World.ownsRow_nil _ _ _ _, World.ownsRow_nil _ _ _ _, fun _ _ h => by simp [Value.ownBlock] at h, fun _ _ h => by simp [Value.ownBlock] at h, fun _ h => by simp [Value.ownBlock] at h⟩
theorem UseSt.next {a : Nat → Addr} {Env : World → Prop} {PB : PBin} (S : BinSpec a Env PB) {w W W' : World} {p : Addr} {F : Nat → Prop} {l : List Hd} {vt vi : Value} {lt li : List (List UInt8)} (h : UseSt PB w W p F l vt vi lt li) (hb : Below W.heap.size W W') : UseSt PB w W' p F l vt vi lt li :=
  ⟨h.below.trans (hb.mono h.below.size), S.below h.pb hb, h.pnew, row_below h.rt hb, row_below h.ri hb, h.pt, h.pi, h.ti⟩
theorem UseSt.prog {PB : PBin} {w W W' : World} {p : Addr} {F F' : Nat → Prop} {l l' : List Hd} {vt vi : Value} {lt li : List (List UInt8)} (h : UseSt PB w W p F l vt vi lt li) (hp : PB W' p F' l') (hF : ∀ k, F' k → F k ∨ W.heap.size ≤ k) (ho : Off F W W') : UseSt PB w W' p F' l' vt vi lt li := by
  refine ⟨h.below.trans (ho.below h.below.size (fun k hk hf => by have := h.pnew k hf; omega)), hp, fun k hk => ?_, ho.row h.rt (fun k hk hf => h.pt k hf hk), ho.row h.ri (fun k hk hf => h.pi k hf hk), fun k hk e => ?_, fun k hk e => ?_, h.ti⟩
  · rcases hF k hk with hk | hk
    · exact h.pnew k hk
    · exact Nat.le_trans h.below.size hk
  · rcases hF k hk with hk | hk
    · exact h.pt k hk e
    · have := row_lt h.rt e; omega
  · rcases hF k hk with hk | hk
    · exact h.pi k hk e
    · have := row_lt h.ri e; omega
theorem off_of_rowgrown {w w' : World} {row : Option Nat} (h : w.grownBy w' row) : Off (fun k => row = some k) w w' := ⟨h.os, h.tape, h.output, h.size, fun k hk hn => h.block k hk (fun e => hn e.symm)⟩
theorem UseSt.text {a : Nat → Addr} {Env : World → Prop} {PB : PBin} (S : BinSpec a Env PB) {w W W' : World} {p : Addr} {F : Nat → Prop} {l : List Hd} {vt vi vt' : Value} {lt li lt' : List (List UInt8)} (h : UseSt PB w W p F l vt vi lt li) (hg : W.grownBy W' vt.ownBlock) (hr : W'.ownsRow w.heap.size 9 1 vt' lt'.length (lt'.map strB)) (hv : vt'.ownBlock = vt.ownBlock ∨ vt'.ownBlock = some W.heap.size) : UseSt PB w W' p F l vt' vi lt' li := by
  have ho := off_of_rowgrown hg
  refine ⟨h.below.trans (ho.below h.below.size (fun k hk e => by have := row_ge h.rt e; omega)), S.off h.pb ho (fun k hk e => h.pt k hk e), h.pnew, hr, ho.row h.ri (fun k hk e => h.ti k e hk), fun k hk e => ?_, h.pi, fun k e e2 => ?_⟩
  · rcases hv with hv | hv
    · exact h.pt k hk (hv ▸ e)
    · have := S.lt h.pb k hk
      rw [hv] at e
      have := Option.some.inj e
      omega
  · rcases hv with hv | hv
    · exact h.ti k (hv ▸ e) e2
    · have := row_lt h.ri e2
      rw [hv] at e
      have := Option.some.inj e
      omega
theorem UseSt.id {a : Nat → Addr} {Env : World → Prop} {PB : PBin} (S : BinSpec a Env PB) {w W W' : World} {p : Addr} {F : Nat → Prop} {l : List Hd} {vt vi vi' : Value} {lt li li' : List (List UInt8)} (h : UseSt PB w W p F l vt vi lt li) (hg : W.grownBy W' vi.ownBlock) (hr : W'.ownsRow w.heap.size 40 2 vi' li'.length (idC (li'.map idOfL))) (hv : vi'.ownBlock = vi.ownBlock ∨ vi'.ownBlock = some W.heap.size) : UseSt PB w W' p F l vt vi' lt li' := by
  have ho := off_of_rowgrown hg
  refine ⟨h.below.trans (ho.below h.below.size (fun k hk e => by have := row_ge h.ri e; omega)), S.off h.pb ho (fun k hk e => h.pi k hk e), h.pnew, ho.row h.rt (fun k hk e => h.ti k hk e), hr, h.pt, fun k hk e => ?_, fun k e e2 => ?_⟩
  · rcases hv with hv | hv
    · exact h.pi k hk (hv ▸ e)
    · have := S.lt h.pb k hk
      rw [hv] at e
      have := Option.some.inj e
      omega
  · rcases hv with hv | hv
    · exact h.ti k e (hv ▸ e2)
    · have := row_lt h.rt e
      rw [hv] at e2
      have := Option.some.inj e2
      omega
theorem add_plain (g j : Nat) : (⟨g, 0, none⟩ : Addr).add j = ⟨g, j, none⟩ := by
  by_cases h : j = 0
  · subst h; rfl
  · simp [Addr.add, h]
/- Element i of both rows, as the walks ask it: where the row lies. -/
theorem UseSt.cells {PB : PBin} {w W : World} {p : Addr} {F : Nat → Prop} {l : List Hd} {vt vi : Value} {lt li : List (List UInt8)} (h : UseSt PB w W p F l vt vi lt li) (hn : li ≠ []) (hl : lt = li) : ∃ gt ct gi ci, vt = .slice (some ⟨gt, 0, none⟩) li.length ct ∧ vi = .slice (some ⟨gi, 0, none⟩) li.length ci ∧ ∀ i (hi : i < li.length), W.cell? ⟨gt, i, none⟩ = some (strB li[i]) ∧ W.cell? ⟨gi, i * 2, none⟩ = some (.int .u32 ((idOfL li[i]).1 : Nat)) ∧ W.cell? ⟨gi, i * 2 + 1, none⟩ = some (.int .i64 (idOfL li[i]).2) := by
  subst hl
  have hpos : lt.length ≠ 0 := by simpa using hn
  have h1 := h.rt
  have h2 := h.ri
  have k1 := h1.2
  have k2 := h2.2
  rcases k1 with ⟨_, hz⟩ | ⟨g, cap, cur, hv, _⟩
  · exact absurd hz hpos
  · rcases k2 with ⟨_, hz⟩ | ⟨g2, cap2, cur2, hv2, _⟩
    · exact absurd hz hpos
    · refine ⟨g, cap, g2, cap2, hv, hv2, fun i hi => ?_⟩
      have c1 := h1.cells (g := g) (by rw [hv]; rfl) i (strB lt[i]) (by simp [hi])
      have hm : i < (lt.map idOfL).length := by simpa using hi
      obtain ⟨e1, e2⟩ := idC_at (lt.map idOfL) i hm
      have c2 := h2.cells (g := g2) (by rw [hv2]; rfl) (i * 2) _ e1
      have c3 := h2.cells (g := g2) (by rw [hv2]; rfl) (i * 2 + 1) _ e2
      simp only [add_plain, List.getElem_map] at c1 c2 c3
      exact ⟨c1, c2, c3⟩
end Go.Proofs.YteefjbdejcpepaaGreatDoor
namespace Go.Proofs.YteefjbdejcpepaaGreatDoor
open Go.RowKit Go.Maps

structure TRows (w W : World) (F : Nat → Prop) (rs : List (Value × List (List UInt8))) : Prop where
  own : ∀ r ∈ rs, W.ownsRow w.heap.size 9 1 r.1 r.2.length (r.2.map strB)
  off : ∀ r ∈ rs, ∀ k, F k → r.1.ownBlock ≠ some k
  two : rs.Pairwise (fun a b => ∀ k, a.1.ownBlock = some k → b.1.ownBlock ≠ some k)
theorem TRows.nil (w W : World) (F : Nat → Prop) : TRows w W F [] := ⟨fun r hr => by simp at hr, fun r hr => by simp at hr, List.Pairwise.nil⟩
theorem TRows.snoc {w W : World} {F : Nat → Prop} {rs : List (Value × List (List UInt8))} (h : TRows w W F rs) : TRows w W F (rs ++ [(.slice none 0 0, [])]) := by
  refine ⟨fun r hr => ?_, fun r hr k hk => ?_, List.pairwise_append.2 ⟨h.two, List.pairwise_singleton _ _, fun a _ b hb k _ e => ?_⟩⟩
  · rcases List.mem_append.1 hr with hr | hr
    · exact h.own r hr
    · rw [List.mem_singleton.1 hr]
      exact World.ownsRow_nil _ _ _ _
  · rcases List.mem_append.1 hr with hr | hr
    · exact h.off r hr k hk
    · rw [List.mem_singleton.1 hr]
      simp [Value.ownBlock]
  · rw [List.mem_singleton.1 hb] at e
    simp [Value.ownBlock] at e
theorem TRows.sub {w W : World} {F : Nat → Prop} {rs rs' : List (Value × List (List UInt8))} (h : TRows w W F rs) (hs : rs'.Sublist rs) : TRows w W F rs' :=
  ⟨fun r hr => h.own r (hs.subset hr), fun r hr => h.off r (hs.subset hr), h.two.sublist hs⟩
theorem TRows.below {w W W' : World} {F : Nat → Prop} {rs : List (Value × List (List UInt8))} (h : TRows w W F rs) (hb : Below W.heap.size W W') : TRows w W' F rs :=
  ⟨fun r hr => row_below (h.own r hr) hb, h.off, h.two⟩
theorem TRows.prog {w W W' : World} {F F' : Nat → Prop} {rs : List (Value × List (List UInt8))} (h : TRows w W F rs) (ho : Off F W W') (hF : ∀ k, F' k → F k ∨ W.heap.size ≤ k) : TRows w W' F' rs := by
  refine ⟨fun r hr => ho.row (h.own r hr) (fun k hk hf => h.off r hr k hf hk), fun r hr k hk e => ?_, h.two⟩
  rcases hF k hk with hk | hk
  · exact h.off r hr k hk e
  · have := row_lt (h.own r hr) e
    omega
theorem TRows.app {w W W' : World} {F : Nat → Prop} {A B : List (Value × List (List UInt8))} {v v' : Value} {t t' : List (List UInt8)} (h : TRows w W F (A ++ (v, t) :: B)) (hF : ∀ k, F k → k < W.heap.size) (hg : W.grownBy W' v.ownBlock) (hr : W'.ownsRow w.heap.size 9 1 v' t'.length (t'.map strB)) (hv : v'.ownBlock = v.ownBlock ∨ v'.ownBlock = some W.heap.size) : TRows w W' F (A ++ (v', t') :: B) := by
  have ho := off_of_rowgrown hg
  obtain ⟨tA, tB, tAB⟩ := List.pairwise_append.1 h.two
  obtain ⟨tv, tB⟩ := List.pairwise_cons.1 tB
  have hvm : (v, t) ∈ A ++ (v, t) :: B := List.mem_append_right _ (List.mem_cons_self ..)
  have hother : ∀ r, r ∈ A ∨ r ∈ B → r ∈ A ++ (v, t) :: B ∧ ∀ k, v.ownBlock = some k → r.1.ownBlock ≠ some k := fun r hr => by
    rcases hr with hr | hr
    · exact ⟨List.mem_append_left _ hr, fun k hk e => tAB r hr _ (List.mem_cons_self ..) k e hk⟩
    · exact ⟨List.mem_append_right _ (List.mem_cons_of_mem _ hr), fun k hk => tv r hr k hk⟩
  have hnew : ∀ r, r ∈ A ∨ r ∈ B → ∀ k, v'.ownBlock = some k → r.1.ownBlock ≠ some k := fun r hr k hk e => by
    rcases hv with hv | hv
    · exact (hother r hr).2 k (hv ▸ hk) e
    · have := row_lt (h.own r (hother r hr).1) e
      rw [hv] at hk
      have := Option.some.inj hk
      omega
  have hmem : ∀ r, r ∈ A ++ (v', t') :: B → r = (v', t') ∨ (r ∈ A ∨ r ∈ B) := fun r hr => by
    rcases List.mem_append.1 hr with hr | hr
    · exact .inr (.inl hr)
    · rcases List.mem_cons.1 hr with hr | hr
      · exact .inl hr
      · exact .inr (.inr hr)
  refine ⟨fun r hm => ?_, fun r hm k hk e => ?_, List.pairwise_append.2 ⟨tA, List.pairwise_cons.2 ⟨fun b hb k hk => hnew b (.inr hb) k hk, tB⟩, fun a ha b hb k hk => ?_⟩⟩
  · rcases hmem r hm with rfl | hm
    · exact hr
    · obtain ⟨h1, h2⟩ := hother r hm
      exact ho.row (h.own r h1) (fun k hk e => h2 k e hk)
  · rcases hmem r hm with rfl | hm
    · rcases hv with hv | hv
      · exact h.off _ hvm k hk (hv ▸ e)
      · have := hF k hk
        simp only at e
        rw [hv] at e
        have := Option.some.inj e
        omega
    · exact h.off r (hother r hm).1 k hk e
  · rcases List.mem_cons.1 hb with rfl | hb
    · exact fun e => hnew a (.inl ha) k e hk
    · exact tAB a ha b (List.mem_cons_of_mem _ hb) k hk
theorem TRows.cell {w W : World} {F : Nat → Prop} {rs : List (Value × List (List UInt8))} (h : TRows w W F rs) {v : Value} {t : List (List UInt8)} (hm : (v, t) ∈ rs) (hn : t ≠ []) : ∃ g c, v = .slice (some ⟨g, 0, none⟩) t.length c ∧ ∀ i (hi : i < t.length), W.cell? ⟨g, i, none⟩ = some (strB t[i]) := by
  have h1 := h.own _ hm
  have k1 := h1.2
  simp only at h1 k1
  rcases k1 with ⟨_, hz⟩ | ⟨g, cap, cur, hv, _⟩
  · exact absurd (List.length_eq_zero_iff.1 hz) hn
  · refine ⟨g, cap, hv, fun i hi => ?_⟩
    have c1 := h1.cells (g := g) (by rw [hv]; rfl) i (strB t[i]) (by simp [hi])
    simp only [add_plain] at c1
    exact c1
theorem TRows.shape {w W : World} {F : Nat → Prop} {rs : List (Value × List (List UInt8))} (h : TRows w W F rs) {v : Value} {t : List (List UInt8)} (hm : (v, t) ∈ rs) : ∃ p c, v = .slice p t.length c := by
  rcases (h.own _ hm).2 with ⟨e, e2⟩ | ⟨g, cap, cur, e, _⟩
  · simp only at e e2
    exact ⟨_, _, by rw [e, e2]⟩
  · exact ⟨_, _, e⟩
theorem infoStrK : (Tryz.prog.info? 9).map (fun i => (i.zero, i.size, i.bytes)) = some (some (.string ⟨#[]⟩), 1, 16) := by kernel_rfl
theorem str_backK (t : ByteArray) : (⟨t.data.toList.toArray⟩ : ByteArray) = t := by
  apply ByteArray.ext
  simp
theorem cell_one_atK {W : World} {B : Nat} {x : Value} {t : TypeId} (hB : B = W.heap.size) : ∀ j u, [x][j]? = some u → (W.alloc (.cells #[x] t)).cell? ((⟨B, 0, none⟩ : Addr).add j) = some u := by
  subst hB
  intro j u hj
  rw [add_plain]
  exact new_cell W #[x] t (by rw [← hj]; simp) rfl
theorem text_rowK {W : World} {base : Nat} {v : Value} {log : List (List UInt8)} {t : ByteArray} (h : W.ownsRow base 9 1 v (log.length + 1) (log.map strB ++ [.string t])) : W.ownsRow base 9 1 v (log ++ [t.data.toList]).length ((log ++ [t.data.toList]).map strB) := by
  rw [List.length_append, List.map_append, List.map_singleton, strB, str_backK]
  exact h
theorem isName_len {x : List UInt8} (h : isName x = true) : x.length ≤ 12 := by
  unfold isName at h
  simp only [Bool.and_eq_true, decide_eq_true_eq] at h
  exact h.2.2
theorem strK_ne {s t : ByteArray} (h : s ≠ t) : (s.toList == t.toList) = false := by
  rw [ByteArray.toList_eq, ByteArray.toList_eq, beq_eq_false_iff_ne]
  exact fun e => h (WideShapes.bytes_inj e)
theorem strK_ne_lit {s : ByteArray} {l : List UInt8} (h : s ≠ ⟨l.toArray⟩) : (s.toList == l) = false := by
  rw [ByteArray.toList_eq, beq_eq_false_iff_ne]
  exact fun e => h (WideShapes.bytes_inj (by rw [e]))
theorem row_shapeK {W : World} {base : Nat} {e : TypeId} {size : Nat} {v : Value} {n : Nat} {xs : List Value} (h : W.ownsRow base e size v n xs) : ∃ p c, v = .slice p n c := by
  rcases h.2 with ⟨rfl, rfl⟩ | ⟨g, cap, cur, rfl, _⟩
  · exact ⟨_, _, rfl⟩
  · exact ⟨_, _, rfl⟩
structure KeepSt (w W : World) (p : Addr) (F : Nat → Prop) (st : NSt) (rs : List (Value × List (List UInt8))) : Prop where
  below : Below w.heap.size w W
  node : PNode W p F st
  new : ∀ k, F k → w.heap.size ≤ k
  rows : TRows w W F rs
theorem KeepSt.next {w W W' : World} {p : Addr} {F : Nat → Prop} {st : NSt} {rs : List (Value × List (List UInt8))} (h : KeepSt w W p F st rs) (hb : Below W.heap.size W W') : KeepSt w W' p F st rs :=
  ⟨h.below.trans (hb.mono h.below.size), h.node.below hb, h.new, h.rows.below hb⟩
theorem KeepSt.prog {w W W' : World} {p : Addr} {F F' : Nat → Prop} {st st' : NSt} {rs : List (Value × List (List UInt8))} (h : KeepSt w W p F st rs) (hp : PNode W' p F' st') (hF : ∀ k, F' k → F k ∨ W.heap.size ≤ k) (ho : Off F W W') : KeepSt w W' p F' st' rs :=
  ⟨h.below.trans (ho.below h.below.size (fun k hk hf => by have := h.new k hf; omega)), hp, fun k hk => (hF k hk).elim (h.new k) (fun h2 => Nat.le_trans h.below.size h2), h.rows.prog ho hF⟩
theorem KeepSt.app {w W W' : World} {p : Addr} {F : Nat → Prop} {st : NSt} {A B : List (Value × List (List UInt8))} {v v' : Value} {t t' : List (List UInt8)} (h : KeepSt w W p F st (A ++ (v, t) :: B)) (hg : W.grownBy W' v.ownBlock) (hr : W'.ownsRow w.heap.size 9 1 v' t'.length (t'.map strB)) (hv : v'.ownBlock = v.ownBlock ∨ v'.ownBlock = some W.heap.size) : KeepSt w W' p F st (A ++ (v', t') :: B) := by
  have ho := off_of_rowgrown hg
  have hvm : (v, t) ∈ A ++ (v, t) :: B := List.mem_append_right _ (List.mem_cons_self ..)
  exact ⟨h.below.trans (ho.below h.below.size (fun k hk e => by have := row_ge (h.rows.own _ hvm) e; omega)), h.node.off ho (fun k hk e => h.rows.off _ hvm k hk e), h.new, h.rows.app h.node.lt hg hr hv⟩
end Go.Proofs.YteefjbdejcpepaaGreatDoor
