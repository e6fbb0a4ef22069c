/-
  Own text. NodeKeeps' memory: a node and rows of texts beside it, all new since w; how each step leaves them.
  Own text. What a node has, in order, is right; each piece is used as often as its files have it.
  Own text. slices.Sorted(maps.Keys(m)) at this program's numbers: applications of the shelf's own theorems.
  Own text. (*node.Node).Names by a contract: its files' names, sorted.
-/
import Derived.Test.YtjdobbjdlighpabGreatDoorG11
import Derived.Test.YtjdobbjdlighpabGreatDoorG32
import Derived.Shelf.SlIter.Nil
import Derived.Shelf.SortM.Plain
import Derived.Shelf.SortM.SortNone
import Derived.Ground.GgzProg
import Derived.Ground.SlgmProg
import Derived.Test.YtjdobbjdlighpabGreatDoorProg
namespace Go.Proofs.YtjdobbjdlighpabGreatDoor
open Go.RowKit Go.Maps

structure TRows (w W : World) (F : Nat → Prop) (rs : List (Value × List (List UInt8))) : Prop where
  own : ∀ r ∈ rs, W.ownsRow w.heap.size 9 1 r.1 r.2.length (r.2.map strB)
  off : ∀ r ∈ rs, ∀ k, F k → r.1.ownBlock ≠ some k
  two : rs.Pairwise (fun a b => ∀ k, a.1.ownBlock = some k → b.1.ownBlock ≠ some k)
theorem TRows.nil (w W : World) (F : Nat → Prop) : TRows w W F [] := ⟨fun r hr => by simp at hr, fun r hr => by simp at hr, List.Pairwise.nil⟩
theorem TRows.snoc {w W : World} {F : Nat → Prop} {rs : List (Value × List (List UInt8))} (h : TRows w W F rs) : TRows w W F (rs ++ [(.slice none 0 0, [])]) := by
  refine ⟨fun r hr => ?_, fun r hr k hk => ?_, List.pairwise_append.2 ⟨h.two, List.pairwise_singleton _ _, fun a _ b hb k _ e => ?_⟩⟩
  · rcases List.mem_append.1 hr with hr | hr
    · exact h.own r hr
    · rw [List.mem_singleton.1 hr]
      exact World.ownsRow_nil _ _ _ _
  · rcases List.mem_append.1 hr with hr | hr
    · exact h.off r hr k hk
    · rw [List.mem_singleton.1 hr]
      simp [Value.ownBlock]
  · rw [List.mem_singleton.1 hb] at e
    simp [Value.ownBlock] at e
theorem TRows.sub {w W : World} {F : Nat → Prop} {rs rs' : List (Value × List (List UInt8))} (h : TRows w W F rs) (hs : rs'.Sublist rs) : TRows w W F rs' :=
  ⟨fun r hr => h.own r (hs.subset hr), fun r hr => h.off r (hs.subset hr), h.two.sublist hs⟩
theorem TRows.below {w W W' : World} {F : Nat → Prop} {rs : List (Value × List (List UInt8))} (h : TRows w W F rs) (hb : Below W.heap.size W W') : TRows w W' F rs :=
  ⟨fun r hr => row_below (h.own r hr) hb, h.off, h.two⟩
theorem TRows.prog {w W W' : World} {F F' : Nat → Prop} {rs : List (Value × List (List UInt8))} (h : TRows w W F rs) (ho : Off F W W') (hF : ∀ k, F' k → F k ∨ W.heap.size ≤ k) : TRows w W' F' rs := by
  refine ⟨fun r hr => ho.row (h.own r hr) (fun k hk hf => h.off r hr k hf hk), fun r hr k hk e => ?_, h.two⟩
  rcases hF k hk with hk | hk
  · exact h.off r hr k hk e
  · have := row_lt (h.own r hr) e
    omega
theorem TRows.app {w W W' : World} {F : Nat → Prop} {A B : List (Value × List (List UInt8))} {v v' : Value} {t t' : List (List UInt8)} (h : TRows w W F (A ++ (v, t) :: B)) (hF : ∀ k, F k → k < W.heap.size) (hg : W.grownBy W' v.ownBlock) (hr : W'.ownsRow w.heap.size 9 1 v' t'.length (t'.map strB)) (hv : v'.ownBlock = v.ownBlock ∨ v'.ownBlock = some W.heap.size) : TRows w W' F (A ++ (v', t') :: B) := by
  have ho := off_of_rowgrown hg
  obtain ⟨tA, tB, tAB⟩ := List.pairwise_append.1 h.two
  obtain ⟨tv, tB⟩ := List.pairwise_cons.1 tB
  have hvm : (v, t) ∈ A ++ (v, t) :: B := List.mem_append_right _ (List.mem_cons_self ..)
  have hother : ∀ r, r ∈ A ∨ r ∈ B → r ∈ A ++ (v, t) :: B ∧ ∀ k, v.ownBlock = some k → r.1.ownBlock ≠ some k := fun r hr => by
    rcases hr with hr | hr
    · exact ⟨List.mem_append_left _ hr, fun k hk e => tAB r hr _ (List.mem_cons_self ..) k e hk⟩
    · exact ⟨List.mem_append_right _ (List.mem_cons_of_mem _ hr), fun k hk => tv r hr k hk⟩
  have hnew : ∀ r, r ∈ A ∨ r ∈ B → ∀ k, v'.ownBlock = some k → r.1.ownBlock ≠ some k := fun r hr k hk e => by
    rcases hv with hv | hv
    · exact (hother r hr).2 k (hv ▸ hk) e
    · have := row_lt (h.own r (hother r hr).1) e
      rw [hv] at hk
      have := Option.some.inj hk
      omega
  have hmem : ∀ r, r ∈ A ++ (v', t') :: B → r = (v', t') ∨ (r ∈ A ∨ r ∈ B) := fun r hr => by
    rcases List.mem_append.1 hr with hr | hr
    · exact .inr (.inl hr)
    · rcases List.mem_cons.1 hr with hr | hr
      · exact .inl hr
      · exact .inr (.inr hr)
  refine ⟨fun r hm => ?_, fun r hm k hk e => ?_, List.pairwise_append.2 ⟨tA, List.pairwise_cons.2 ⟨fun b hb k hk => hnew b (.inr hb) k hk, tB⟩, fun a ha b hb k hk => ?_⟩⟩
  · rcases hmem r hm with rfl | hm
    · exact hr
    · obtain ⟨h1, h2⟩ := hother r hm
      exact ho.row (h.own r h1) (fun k hk e => h2 k e hk)
  · rcases hmem r hm with rfl | hm
    · rcases hv with hv | hv
      · exact h.off _ hvm k hk (hv ▸ e)
      · have := hF k hk
        simp only at e
        rw [hv] at e
        have := Option.some.inj e
        omega
    · exact h.off r (hother r hm).1 k hk e
  · rcases List.mem_cons.1 hb with rfl | hb
    · exact fun e => hnew a (.inl ha) k e hk
    · exact tAB a ha b (List.mem_cons_of_mem _ hb) k hk
theorem TRows.cell {w W : World} {F : Nat → Prop} {rs : List (Value × List (List UInt8))} (h : TRows w W F rs) {v : Value} {t : List (List UInt8)} (hm : (v, t) ∈ rs) (hn : t ≠ []) : ∃ g c, v = .slice (some ⟨g, 0, none⟩) t.length c ∧ ∀ i (hi : i < t.length), W.cell? ⟨g, i, none⟩ = some (strB t[i]) := by
  have h1 := h.own _ hm
  have k1 := h1.2
  simp only at h1 k1
  rcases k1 with ⟨_, hz⟩ | ⟨g, cap, cur, hv, _⟩
  · exact absurd (List.length_eq_zero_iff.1 hz) hn
  · refine ⟨g, cap, hv, fun i hi => ?_⟩
    have c1 := h1.cells (g := g) (by rw [hv]; rfl) i (strB t[i]) (by simp [hi])
    simp only [add_plain] at c1
    exact c1
theorem TRows.shape {w W : World} {F : Nat → Prop} {rs : List (Value × List (List UInt8))} (h : TRows w W F rs) {v : Value} {t : List (List UInt8)} (hm : (v, t) ∈ rs) : ∃ p c, v = .slice p t.length c := by
  rcases (h.own _ hm).2 with ⟨e, e2⟩ | ⟨g, cap, cur, e, _⟩
  · simp only at e e2
    exact ⟨_, _, by rw [e, e2]⟩
  · exact ⟨_, _, e⟩
theorem infoStrK : (Tryz.prog.info? 9).map (fun i => (i.zero, i.size, i.bytes)) = some (some (.string ⟨#[]⟩), 1, 16) := by kernel_rfl
theorem str_backK (t : ByteArray) : (⟨t.data.toList.toArray⟩ : ByteArray) = t := by
  apply ByteArray.ext
  simp
theorem cell_one_atK {W : World} {B : Nat} {x : Value} {t : TypeId} (hB : B = W.heap.size) : ∀ j u, [x][j]? = some u → (W.alloc (.cells #[x] t)).cell? ((⟨B, 0, none⟩ : Addr).add j) = some u := by
  subst hB
  intro j u hj
  rw [add_plain]
  exact new_cell W #[x] t (by rw [← hj]; simp) rfl
theorem text_rowK {W : World} {base : Nat} {v : Value} {log : List (List UInt8)} {t : ByteArray} (h : W.ownsRow base 9 1 v (log.length + 1) (log.map strB ++ [.string t])) : W.ownsRow base 9 1 v (log ++ [t.data.toList]).length ((log ++ [t.data.toList]).map strB) := by
  rw [List.length_append, List.map_append, List.map_singleton, strB, str_backK]
  exact h
theorem isName_len {x : List UInt8} (h : isName x = true) : x.length ≤ 12 := by
  unfold isName at h
  simp only [Bool.and_eq_true, decide_eq_true_eq] at h
  exact h.2.2
theorem strK_ne {s t : ByteArray} (h : s ≠ t) : (s.toList == t.toList) = false := by
  rw [ByteArray.toList_eq, ByteArray.toList_eq, beq_eq_false_iff_ne]
  exact fun e => h (WideShapes.bytes_inj e)
theorem strK_ne_lit {s : ByteArray} {l : List UInt8} (h : s ≠ ⟨l.toArray⟩) : (s.toList == l) = false := by
  rw [ByteArray.toList_eq, beq_eq_false_iff_ne]
  exact fun e => h (WideShapes.bytes_inj (by rw [e]))
theorem row_shapeK {W : World} {base : Nat} {e : TypeId} {size : Nat} {v : Value} {n : Nat} {xs : List Value} (h : W.ownsRow base e size v n xs) : ∃ p c, v = .slice p n c := by
  rcases h.2 with ⟨rfl, rfl⟩ | ⟨g, cap, cur, rfl, _⟩
  · exact ⟨_, _, rfl⟩
  · exact ⟨_, _, rfl⟩
structure KeepSt (w W : World) (p : Addr) (F : Nat → Prop) (st : NSt) (rs : List (Value × List (List UInt8))) : Prop where
  below : Below w.heap.size w W
  node : PNode W p F st
  new : ∀ k, F k → w.heap.size ≤ k
  rows : TRows w W F rs
theorem KeepSt.next {w W W' : World} {p : Addr} {F : Nat → Prop} {st : NSt} {rs : List (Value × List (List UInt8))} (h : KeepSt w W p F st rs) (hb : Below W.heap.size W W') : KeepSt w W' p F st rs :=
  ⟨h.below.trans (hb.mono h.below.size), h.node.below hb, h.new, h.rows.below hb⟩
theorem KeepSt.prog {w W W' : World} {p : Addr} {F F' : Nat → Prop} {st st' : NSt} {rs : List (Value × List (List UInt8))} (h : KeepSt w W p F st rs) (hp : PNode W' p F' st') (hF : ∀ k, F' k → F k ∨ W.heap.size ≤ k) (ho : Off F W W') : KeepSt w W' p F' st' rs :=
  ⟨h.below.trans (ho.below h.below.size (fun k hk hf => by have := h.new k hf; omega)), hp, fun k hk => (hF k hk).elim (h.new k) (fun h2 => Nat.le_trans h.below.size h2), h.rows.prog ho hF⟩
theorem KeepSt.app {w W W' : World} {p : Addr} {F : Nat → Prop} {st : NSt} {A B : List (Value × List (List UInt8))} {v v' : Value} {t t' : List (List UInt8)} (h : KeepSt w W p F st (A ++ (v, t) :: B)) (hg : W.grownBy W' v.ownBlock) (hr : W'.ownsRow w.heap.size 9 1 v' t'.length (t'.map strB)) (hv : v'.ownBlock = v.ownBlock ∨ v'.ownBlock = some W.heap.size) : KeepSt w W' p F st (A ++ (v', t') :: B) := by
  have ho := off_of_rowgrown hg
  have hvm : (v, t) ∈ A ++ (v, t) :: B := List.mem_append_right _ (List.mem_cons_self ..)
  exact ⟨h.below.trans (ho.below h.below.size (fun k hk e => by have := row_ge (h.rows.own _ hvm) e; omega)), h.node.off ho (fun k hk e => h.rows.off _ hvm k hk e), h.new, h.rows.app h.node.lt hg hr hv⟩
end Go.Proofs.YtjdobbjdlighpabGreatDoor
namespace Go.Proofs.YtjdobbjdlighpabGreatDoor
open Go.RowKit Go.Maps

theorem wfID_piece {s t : List UInt8} (h : t ∈ pieces s) : WfID (idOfL t) := by
  have := piece_le h
  refine ⟨pmore_lt _ (by decide) _, ?_, ?_⟩
  · show _ ≤ ((t.length : Nat) : Int); omega
  · show ((t.length : Nat) : Int) ≤ _; omega
theorem wfID_held {U : Int} {l : List Hd} (hok : BinOk U l) {h : Hd} (hm : h ∈ l) : WfID h.1 := by
  obtain ⟨h1, h2, _⟩ := hok.each h hm
  rw [h1]
  refine ⟨pmore_lt _ (by decide) _, ?_, ?_⟩
  · show _ ≤ ((h.2.2.length : Nat) : Int); omega
  · show ((h.2.2.length : Nat) : Int) ≤ _; omega
theorem zeroU_some {bl : List NBin} (hap : bl.Pairwise (fun f g => f.1 ≠ g.1)) {r : Nat × Int} {l : List Hd} (hm : (r, l) ∈ bl) {h : Hd} (hh : h ∈ l) : zeroU bl (r, h.1) = some 0 := by
  unfold zeroU
  rw [nBin_of_mem hap hm]
  simp only
  rw [if_pos (List.any_eq_true.2 ⟨h, hh, by simp⟩)]
theorem zeroF_some {bl : List NBin} {r : Nat × Int} {l : List Hd} (hm : (r, l) ∈ bl) : zeroF bl r = some 0 := by
  unfold zeroF
  rw [if_pos (List.any_eq_true.2 ⟨_, hm, by simp⟩)]
theorem right_of {U : Int} {n : Nat} {st : NSt} (hI : NInv st) (hN : NFull st) (hok : NOk U n st) (hn : n ≤ 100) {fl : List NFile} {bl : List NBin} (hf : fl.Perm st.files) (hb : bl.Perm st.bins) (hfo : fl.Pairwise (fun f g => f.1 < g.1)) (hbo : bl.Pairwise (fun b c => lessB b.1 c.1 = true)) :
    RightIn (fl.map rcpOf) bl ∧ ∀ b ∈ bl, usesErr (cU (zeroU bl) (fl.map rcpOf)) b = 0 := by
  have hap : bl.Pairwise (fun f g => f.1 ≠ g.1) := hbo.imp fun {_ _} h => lessB_ne h
  have hfm : ∀ f ∈ fl, f ∈ st.files := fun f h => hf.mem_iff.1 h
  have hbm : ∀ b ∈ bl, b ∈ st.bins := fun b h => hb.mem_iff.1 h
  have hlog : ∀ b ∈ bl, WLog b.2 (logOf fl b.1) := fun b h => (hI.log b (hbm b h)).perm (logOf_perm hf.symm b.1)
  have hbin : ∀ f ∈ fl, ∃ l, (repT f.2, l) ∈ bl := fun f h => by
    obtain ⟨l, hl⟩ := hI.has f (hfm f h)
    exact ⟨l, hb.mem_iff.2 hl⟩
  refine ⟨⟨⟨?_, ?_, ?_, ?_, ?_, ?_⟩, ?_, ?_, ?_, ?_, ?_, ?_, ?_, ?_⟩, fun b hb' => ?_⟩
  · rw [List.length_map, hf.length_eq]
    exact hN.fmany
  · intro r hr
    obtain ⟨f, hf', rfl⟩ := List.mem_map.1 hr
    obtain ⟨h1, h2⟩ := hok.files f (hfm f hf')
    exact recFault_of f.1 f.2 h2 h1
  · intro r hr
    obtain ⟨f, hf', rfl⟩ := List.mem_map.1 hr
    show (idsOf f.2).length ≤ 250
    rw [idsOf_length]
    exact pieces_250 _ (hok.files f (hfm f hf')).1
  · intro i hi h0
    rw [List.length_map] at hi
    simp only [List.getElem_map]
    rw [List.pairwise_iff_getElem] at hfo
    exact hfo (i - 1) i (by omega) hi (by omega)
  · intro r hr
    obtain ⟨f, hf', rfl⟩ := List.mem_map.1 hr
    have := isName_len (hok.files f (hfm f hf')).2
    show f.1.length ≤ 50000
    omega
  · intro r hr
    obtain ⟨f, hf', rfl⟩ := List.mem_map.1 hr
    refine ⟨fun i hi => ?_, repT_wf f.2⟩
    obtain ⟨t, ht, rfl⟩ := List.mem_map.1 hi
    exact wfID_piece ht
  · intro r hr
    obtain ⟨f, hf', rfl⟩ := List.mem_map.1 hr
    obtain ⟨l, hl⟩ := hbin f hf'
    refine addErr_ok ?_ fun i hi => ?_
    · show (zeroF bl (repT f.2)).isSome = true
      rw [zeroF_some hl]
      rfl
    · obtain ⟨t, ht, rfl⟩ := List.mem_map.1 hi
      obtain ⟨u, hu⟩ := (hlog _ hl).has t (List.mem_flatMap.2 ⟨f, hf', by rw [if_pos rfl]; exact ht⟩)
      show (zeroU bl (repT f.2, idOfL t)).isSome = true
      have := zeroU_some hap hl hu
      simp only at this
      rw [this]
      rfl
  · rw [hb.length_eq]
    exact Nat.le_trans hok.many hn
  · intro b hb'
    have := (hok.bins b (hbm b hb')).many
    omega
  · intro b hb'
    obtain ⟨f, _, e⟩ := hN.bhas b (hbm b hb')
    exact ⟨by rw [← e]; exact repT_wf f.2, fun h hh => wfID_held (hok.bins b (hbm b hb')) hh⟩
  · intro i hi h0
    rw [List.pairwise_iff_getElem] at hbo
    exact hbo (i - 1) i (by omega) hi (by omega)
  · intro b hb'
    obtain ⟨f, hf', e⟩ := hN.bhas b (hbm b hb')
    obtain ⟨r, l⟩ := b
    rw [cF_val, zeroF_some hb']
    have := cntF_pos (fl := fl) (r := r) ⟨f, hf.mem_iff.2 hf', e⟩
    show (0 : Int) + cntF (fl.map rcpOf) r ≠ 0
    omega
  · intro b hb' h hh
    obtain ⟨h1, h2, _⟩ := (hok.bins b (hbm b hb')).each h hh
    exact ⟨h1, by omega⟩
  · intro b hb'
    exact (hok.bins b (hbm b hb')).rise
  · refine usesErr_ok fun x hx => ?_
    obtain ⟨r, l⟩ := b
    simp only at hx ⊢
    rw [cU_val, zeroU_some hap hb' hx]
    show (0 : Int) + cntU (fl.map rcpOf) r x.1 = x.2.1
    rw [cntU_of, count_ids (hok.bins _ (hbm _ hb')) (hlog _ hb') hx, (hlog _ hb').cnt x hx]
    omega
end Go.Proofs.YtjdobbjdlighpabGreatDoor
namespace Go.Proofs
open Go.RowKit Go.Maps Go.Sort Go.Shelf
def Tryz.keysM_ren : Go.Shelf.Ren := ⟨fun | 7 => 82 | 10 => 140 | n => n, fun | 23 => 99 | 26 => 9 | 3 => 40 | 28 => 141 | 0 => 0 | 27 => 140 | 33 => 201 | 4 => 4 | n => n, fun n => n⟩
theorem Tryz.keysM : Go.Proofs.SlLaysZ.n7 Go.Proofs.Tryz.prog Go.Proofs.Tryz.keysM_ren := {
  mixed := by kernel_rfl
  f7 := Exists.intro "maps.Keys[map[string]cornbin/api.Recipe,string,cornbin/api.Recipe]" ⟨of_decide_eq_true (by kernel_rfl), Tryz.func82.trans (congrArg some (by kernel_rfl))⟩
  f10 := Exists.intro "maps.Keys[map[string]cornbin/api.Recipe,string,cornbin/api.Recipe]$1" ⟨of_decide_eq_true (by kernel_rfl), Tryz.func140.trans (congrArg some (by kernel_rfl))⟩
  t0 := Tryz.underlying0
  a0 := Tryz.isAgg0
  z0 := Tryz.sizeOf0
  v0 := Tryz.zeroValue0
  t4 := Tryz.underlying4
  a4 := Tryz.isAgg4
  z4 := Tryz.sizeOf4
  v4 := Tryz.zeroValue4
  t23 := Tryz.underlying99
  a23 := Tryz.isAgg99
  z23 := Tryz.sizeOf99
  v23 := Tryz.zeroValue99
  t26 := Tryz.underlying9
  a26 := Tryz.isAgg9
  z26 := Tryz.sizeOf9
  v26 := Tryz.zeroValue9
  t27 := Tryz.underlying140
  a27 := Tryz.isAgg140
  z27 := Tryz.sizeOf140
  v27 := Tryz.zeroValue140
  t28 := Tryz.underlying141
  a28 := Tryz.isAgg141
  z28 := Tryz.sizeOf141
  v28 := Tryz.zeroValue141
  t33 := Tryz.underlying201
  a33 := Tryz.isAgg201
  z33 := Tryz.sizeOf201
  v33 := Tryz.zeroValue201 }
def Tryz.sortedM_ren : Go.Shelf.Ren := ⟨fun | 6 => 81 | 8 => 134 | 9 => 139 | 11 => 178 | 13 => 146 | 12 => 182 | 23 => 192 | 24 => 193 | 14 => 222 | 15 => 223 | 16 => 224 | 17 => 225 | 18 => 226 | 19 => 227 | 20 => 228 | 21 => 229 | 22 => 230 | 25 => 245 | 26 => 246 | 27 => 247 | 28 => 248 | 29 => 249 | 30 => 250 | 31 => 261 | n => n, fun | 26 => 9 | 28 => 141 | 24 => 73 | 0 => 0 | 3 => 3 | 37 => 220 | 48 => 23 | 50 => 263 | 4 => 4 | 40 => 301 | 39 => 300 | 45 => 193 | 5 => 5 | 9 => 9 | 51 => 321 | 55 => 311 | 57 => 335 | 58 => 103 | 33 => 201 | n => n, fun n => n⟩
theorem Tryz.sortedM : Go.Proofs.SlLaysZ.n6 Go.Proofs.Tryz.prog Go.Proofs.Tryz.sortedM_ren := {
  mixed := by kernel_rfl
  f6 := Exists.intro "slices.Sorted[string]" ⟨of_decide_eq_true (by kernel_rfl), Tryz.func81.trans (congrArg some (by kernel_rfl))⟩
  f8 := Exists.intro "slices.Collect[string]" ⟨of_decide_eq_true (by kernel_rfl), Tryz.func134.trans (congrArg some (by kernel_rfl))⟩
  f11 := Exists.intro "slices.AppendSeq[[]string,string]" ⟨of_decide_eq_true (by kernel_rfl), Tryz.func178.trans (congrArg some (by kernel_rfl))⟩
  t0 := Tryz.underlying0
  a0 := Tryz.isAgg0
  z0 := Tryz.sizeOf0
  v0 := Tryz.zeroValue0
  t24 := Tryz.underlying73
  a24 := Tryz.isAgg73
  z24 := Tryz.sizeOf73
  v24 := Tryz.zeroValue73
  t26 := Tryz.underlying9
  a26 := Tryz.isAgg9
  z26 := Tryz.sizeOf9
  v26 := Tryz.zeroValue9
  t28 := Tryz.underlying141
  a28 := Tryz.isAgg141
  z28 := Tryz.sizeOf141
  v28 := Tryz.zeroValue141
  i26 := by kernel_rfl }
def Tryz.sortM_ren : Go.Shelf.Ren := ⟨fun | 6 => 139 | 8 => 146 | 9 => 182 | 19 => 192 | 20 => 193 | 21 => 222 | 22 => 223 | 23 => 224 | 24 => 225 | 25 => 226 | 26 => 227 | 27 => 228 | 28 => 229 | 29 => 230 | 36 => 245 | 31 => 246 | 32 => 247 | 37 => 248 | 38 => 249 | 39 => 250 | 41 => 261 | n => n, fun | 27 => 73 | 29 => 9 | 3 => 3 | 32 => 220 | 26 => 73 | 0 => 0 | 44 => 23 | 46 => 263 | 4 => 4 | 36 => 301 | 35 => 300 | 41 => 193 | 5 => 5 | 9 => 9 | 53 => 321 | 57 => 311 | 63 => 335 | 64 => 103 | n => n, fun n => n⟩
theorem Tryz.sortM : Go.Proofs.SlLaysM.n6 Go.Proofs.Tryz.prog Go.Proofs.Tryz.sortM_ren := {
  mixed := by kernel_rfl
  f6 := Exists.intro "slices.Sort[[]string,string]" ⟨of_decide_eq_true (by kernel_rfl), Tryz.func139.trans (congrArg some (by kernel_rfl))⟩
  f8 := Tryz.func146.trans (congrArg some (by kernel_rfl))
  f9 := Exists.intro "slices.pdqsortOrdered[string]" ⟨of_decide_eq_true (by kernel_rfl), Tryz.func182.trans (congrArg some (by kernel_rfl))⟩
  f19 := Tryz.func192.trans (congrArg some (by kernel_rfl))
  f20 := Tryz.func193.trans (congrArg some (by kernel_rfl))
  f21 := Exists.intro "slices.insertionSortOrdered[string]" ⟨of_decide_eq_true (by kernel_rfl), Tryz.func222.trans (congrArg some (by kernel_rfl))⟩
  f22 := Exists.intro "slices.heapSortOrdered[string]" ⟨of_decide_eq_true (by kernel_rfl), Tryz.func223.trans (congrArg some (by kernel_rfl))⟩
  f23 := Exists.intro "slices.breakPatternsOrdered[string]" ⟨of_decide_eq_true (by kernel_rfl), Tryz.func224.trans (congrArg some (by kernel_rfl))⟩
  f24 := Exists.intro "slices.choosePivotOrdered[string]" ⟨of_decide_eq_true (by kernel_rfl), Tryz.func225.trans (congrArg some (by kernel_rfl))⟩
  f25 := Exists.intro "slices.reverseRangeOrdered[string]" ⟨of_decide_eq_true (by kernel_rfl), Tryz.func226.trans (congrArg some (by kernel_rfl))⟩
  f26 := Exists.intro "slices.partialInsertionSortOrdered[string]" ⟨of_decide_eq_true (by kernel_rfl), Tryz.func227.trans (congrArg some (by kernel_rfl))⟩
  f27 := Exists.intro "cmp.Less[string]" ⟨of_decide_eq_true (by kernel_rfl), Tryz.func228.trans (congrArg some (by kernel_rfl))⟩
  f28 := Exists.intro "slices.partitionEqualOrdered[string]" ⟨of_decide_eq_true (by kernel_rfl), Tryz.func229.trans (congrArg some (by kernel_rfl))⟩
  f29 := Exists.intro "slices.partitionOrdered[string]" ⟨of_decide_eq_true (by kernel_rfl), Tryz.func230.trans (congrArg some (by kernel_rfl))⟩
  f31 := Tryz.func246.trans (congrArg some (by kernel_rfl))
  f32 := Tryz.func247.trans (congrArg some (by kernel_rfl))
  f36 := Exists.intro "slices.siftDownOrdered[string]" ⟨of_decide_eq_true (by kernel_rfl), Tryz.func245.trans (congrArg some (by kernel_rfl))⟩
  f37 := Exists.intro "slices.medianAdjacentOrdered[string]" ⟨of_decide_eq_true (by kernel_rfl), Tryz.func248.trans (congrArg some (by kernel_rfl))⟩
  f38 := Exists.intro "slices.medianOrdered[string]" ⟨of_decide_eq_true (by kernel_rfl), Tryz.func249.trans (congrArg some (by kernel_rfl))⟩
  f39 := Exists.intro "cmp.isNaN[string]" ⟨of_decide_eq_true (by kernel_rfl), Tryz.func250.trans (congrArg some (by kernel_rfl))⟩
  f41 := Exists.intro "slices.order2Ordered[string]" ⟨of_decide_eq_true (by kernel_rfl), Tryz.func261.trans (congrArg some (by kernel_rfl))⟩
  t0 := Tryz.underlying0
  a0 := Tryz.isAgg0
  z0 := Tryz.sizeOf0
  v0 := Tryz.zeroValue0
  t3 := Tryz.underlying3
  a3 := Tryz.isAgg3
  z3 := Tryz.sizeOf3
  v3 := Tryz.zeroValue3
  t4 := Tryz.underlying4
  a4 := Tryz.isAgg4
  z4 := Tryz.sizeOf4
  v4 := Tryz.zeroValue4
  t5 := Tryz.underlying5
  a5 := Tryz.isAgg5
  z5 := Tryz.sizeOf5
  v5 := Tryz.zeroValue5
  t9 := Tryz.underlying9
  a9 := Tryz.isAgg9
  z9 := Tryz.sizeOf9
  v9 := Tryz.zeroValue9
  t26 := Tryz.underlying73
  a26 := Tryz.isAgg73
  z26 := Tryz.sizeOf73
  v26 := Tryz.zeroValue73
  t27 := Tryz.underlying73
  a27 := Tryz.isAgg73
  z27 := Tryz.sizeOf73
  v27 := Tryz.zeroValue73
  t29 := Tryz.underlying9
  a29 := Tryz.isAgg9
  z29 := Tryz.sizeOf9
  v29 := Tryz.zeroValue9
  t32 := Tryz.underlying220
  a32 := Tryz.isAgg220
  z32 := Tryz.sizeOf220
  v32 := Tryz.zeroValue220
  t35 := Tryz.underlying300
  a35 := Tryz.isAgg300
  z35 := Tryz.sizeOf300
  v35 := Tryz.zeroValue300
  t36 := Tryz.underlying301
  a36 := Tryz.isAgg301
  z36 := Tryz.sizeOf301
  v36 := Tryz.zeroValue301
  t41 := Tryz.underlying193
  a41 := Tryz.isAgg193
  z41 := Tryz.sizeOf193
  v41 := Tryz.zeroValue193
  t44 := Tryz.underlying23
  a44 := Tryz.isAgg23
  z44 := Tryz.sizeOf23
  v44 := Tryz.zeroValue23
  t46 := Tryz.underlying263
  a46 := Tryz.isAgg263
  z46 := Tryz.sizeOf263
  v46 := Tryz.zeroValue263
  t53 := Tryz.underlying321
  a53 := Tryz.isAgg321
  z53 := Tryz.sizeOf321
  v53 := Tryz.zeroValue321
  t57 := Tryz.underlying311
  a57 := Tryz.isAgg311
  z57 := Tryz.sizeOf311
  v57 := Tryz.zeroValue311
  t63 := Tryz.underlying335
  a63 := Tryz.isAgg335
  z63 := Tryz.sizeOf335
  v63 := Tryz.zeroValue335
  t64 := Tryz.underlying103
  a64 := Tryz.isAgg103
  z64 := Tryz.sizeOf103
  v64 := Tryz.zeroValue103 }
theorem Tryz.sortsM (m : Nat) : AnyZ.SortsIn Tryz.prog Tryz.sortedM_ren Fence.wide m :=
  ⟨fun blk off cap ss W hH hblk hsz => callsIn_wide.2 (AnyM.slices_Sort_string Tryz.sortM blk off cap ss W hH hblk hsz),
   fun p cap W => callsIn_wide.2 (AnyM.slices_Sort_string_none Tryz.sortM p cap W)⟩

theorem Tryz.maps_KeysM (mb : Option Nat) (W : World) : CallsIn Fence.wide 5 Tryz.prog 82 #[.map mb] W fun e w' => e = .returned (.func (.func 140) #[] #[.pointer (some ⟨W.heap.size, 0, none⟩)]) ∧ w' = W.alloc (.cells #[.map mb] 99) :=
  AnyZ.keys_in Tryz.keysM Fence.wide 5 trivial rfl mb W

set_option maxHeartbeats 1000000 in
theorem Tryz.sortedKeysM {H : Type} (b nn : Nat) (D0 : DataW H) (R : Value → Option (DataW H × List MemPlace)) (w : World) (hown : w.ownsMap Tryz.prog 9 R b nn D0) (hmax : Maps.size D0 ≤ maxLen) (hbytes : Maps.size D0 * 16 ≤ 140737488355328) :
    CallsIn Fence.wide 5 Tryz.prog 81 #[.func (.func 140) #[] #[.pointer (some ⟨w.heap.size, 0, none⟩)]] (w.alloc (.cells #[.map (some b)] 99)) fun e w' => ∃ (v : Value) (ss : List (List UInt8)), e = .returned v ∧ ss.Perm (strKeys D0) ∧
      w'.ownsRow (w.alloc (.cells #[.map (some b)] 99)).heap.size 9 1 v ss.length ((ss.mergeSort (fun x y => decide (x ≤ y))).map encStr) ∧ (v = .slice none 0 0 ↔ ss = []) ∧ Below (w.alloc (.cells #[.map (some b)] 99)).heap.size (w.alloc (.cells #[.map (some b)] 99)) w' := by
  have hbl := hown.lt
  have hseq : SeqGives Fence.wide 2 Tryz.prog 140 #[.pointer (some ⟨w.heap.size, 0, none⟩)] encStr (fun ss => ss.Perm (strKeys D0)) (Maps.size D0) (w.alloc (.cells #[.map (some b)] 99)) :=
    AnyZ.keys_gives (ρ := Tryz.keysM_ren) { Tryz.keysM with } Fence.wide _ trivial rfl (by omega) w.heap.size b nn D0 _ (by simp) (by simp) (by
      obtain ⟨es, clock, hb, Ft, hs, hD⟩ := hown
      exact ⟨es, clock, (Below.heap_alloc _ _ b hbl).trans hb, Ft, hs, hD⟩)
  exact AnyZ.sorted_in Tryz.sortedM Fence.wide 5 trivial trivial trivial trivial rfl (by omega) (Tryz.sortsM _) (enters_of Tryz.func139 (by kernel_rfl) rfl) 140 #[.pointer (some ⟨w.heap.size, 0, none⟩)] trivial (enters_of Tryz.func140 (by kernel_rfl) rfl) _ _ hmax hbytes _ hseq

set_option maxHeartbeats 1000000 in
theorem Tryz.sortedKeysNilM (w : World) :
    CallsIn Fence.wide 5 Tryz.prog 81 #[.func (.func 140) #[] #[.pointer (some ⟨w.heap.size, 0, none⟩)]] (w.alloc (.cells #[.map none] 99)) fun e w' => ∃ (v : Value) (ss : List (List UInt8)), e = .returned v ∧ ss = [] ∧
      w'.ownsRow (w.alloc (.cells #[.map none] 99)).heap.size 9 1 v ss.length ((ss.mergeSort (fun x y => decide (x ≤ y))).map encStr) ∧ (v = .slice none 0 0 ↔ ss = []) ∧ Below (w.alloc (.cells #[.map none] 99)).heap.size (w.alloc (.cells #[.map none] 99)) w' := by
  have hseq : SeqGives Fence.wide 2 Tryz.prog 140 #[.pointer (some ⟨w.heap.size, 0, none⟩)] encStr (fun ss : List (List UInt8) => ss = []) 0 (w.alloc (.cells #[.map none] 99)) :=
    AnyZ.keys_gives_nil (ρ := Tryz.keysM_ren) { Tryz.keysM with } Fence.wide _ trivial rfl w.heap.size _ (by simp) (by simp)
  exact AnyZ.sorted_in Tryz.sortedM Fence.wide 5 trivial trivial trivial trivial rfl (by omega) (Tryz.sortsM _) (enters_of Tryz.func139 (by kernel_rfl) rfl) 140 #[.pointer (some ⟨w.heap.size, 0, none⟩)] trivial (enters_of Tryz.func140 (by kernel_rfl) rfl) _ 0 (Nat.zero_le _) (by omega) _ hseq
end Go.Proofs
namespace Go.Proofs.YtjdobbjdlighpabGreatDoor
open Go.RowKit Go.Maps Go.Sort Go.Shelf

theorem strKl (x : List UInt8) (hx : WfNm x) : strRcps.kl x = .string x := by
  show (keyOf Tryz.prog 9 (.string ⟨x.toArray⟩)).getD (.bool false) = _
  rw [strKey_eq]
  unfold mapKey
  rw [Tryz.underlying9]
  have h1 : x.toArray.size = x.length := List.size_toArray
  have : (⟨x.toArray⟩ : ByteArray).size ≤ maxLen := by show x.toArray.size ≤ maxLen; rw [h1]; exact hx
  simp only [this, if_true]
  rfl
set_option maxRecDepth 100000 in
set_option maxHeartbeats 2000000 in
theorem nodeNames_any (p : Addr) (F : Nat → Prop) (st : NSt) (w : World) (hn : st.files.length ≤ 1000) (hP : PNode w p F st) :
    Calls Tryz.prog 31 #[.pointer (some p)] w fun e w' => ∃ (v : Value) (ss : List (List UInt8)), e = .returned v ∧ ss.Perm (st.files.map (·.1)) ∧
      w'.ownsRow w.heap.size 9 1 v ss.length ((ss.mergeSort (fun x y => decide (x ≤ y))).map encStr) ∧ Below w.heap.size w w' := by
  obtain ⟨N, mf, mb, vi, pi, Fi, rfl, h, _⟩ := hP
  have q0 := h.blk.cell (i := 0) rfl
  obtain ⟨ds, hown, hp⟩ := h.files.own
  have hsz : Maps.size (DataW.map ds) = st.files.length := by
    show ds.length = _
    rw [hp.length_eq, List.length_map, List.length_map]
  have hkeys : (strKeys (DataW.map ds)).Perm (st.files.map (·.1)) := by
    have h1 : (ds.map fun p => strOf p.1).Perm (((st.files.map fun f => (f.1, rwOf f (vi f.1))).map strRcps.ent).map fun p => strOf p.1) := hp.map _
    have h2 : (((st.files.map fun f => (f.1, rwOf f (vi f.1))).map strRcps.ent).map fun p => strOf p.1) = st.files.map (·.1) := by
      rw [List.map_map, List.map_map]
      refine List.map_congr_left fun f hf => ?_
      show strOf (strRcps.kl f.1) = f.1
      rw [strKl _ (h.files.wf _ (List.mem_map.2 ⟨f, hf, rfl⟩))]
      rfl
    rw [h2] at h1
    exact h1
  have hmax : Maps.size (DataW.map ds) ≤ maxLen := by rw [hsz]; unfold maxLen; omega
  have hbytes : Maps.size (DataW.map ds) * 16 ≤ 140737488355328 := by rw [hsz]; omega
  refine (callsIn_wide (n := 6)).1 ?_
  have hfK : Fence.wide.fn 82 := trivial
  have hfS : Fence.wide.fn 81 := trivial
  refine callsIn_of_wp Tryz.func31 rfl trivial ?_ rfl
  simp only [Tryz.ntmps31, List.size_toArray, List.length_cons, List.length_nil, Nat.reduceAdd, Nat.reduceSub, Array.replicate_succ, Array.replicate_zero, List.push_toArray, List.append_toArray, List.nil_append, List.cons_append]
  gi_wp2_with (first
    | (gi_at_call 82; refine (Tryz.maps_KeysM _ _).mono ?_; rintro e w' ⟨rfl, rfl⟩)
    | (gi_at_call 81; refine (Tryz.sortedKeysM mf _ (DataW.map ds) _ w hown hmax hbytes).mono ?_; rintro e w' ⟨v, ss, rfl, hS, hrow, hnil, hb⟩))
  go_ret
  exact ⟨v, ss, rfl, hS.trans hkeys, ownsRow_base_a hrow (by simp), ((Below.refl _ w).alloc (Nat.le_refl _) _).trans (hb.mono (by simp))⟩
end Go.Proofs.YtjdobbjdlighpabGreatDoor
