/-
  Own text. scrub.filesOf by a contract: the recipes of a node's files, by names.
  Own text. A range over an iterator that walks a map, where a round lays a block for its variable: a law (range_walk); a map's walk behind a fence (wpIn_range_kit, wpIn_next_kit).
  Own text. slices.Collect(maps.Keys(m)) at a map by IDs: its keys, each once, in some order, in new memory.
-/
import Derived.Test.YtjdobbjdlighpabGreatDoorG33
import Derived.Test.YtjdobbjdlighpabGreatDoorG24
import Derived.Test.YtjdobbjdlighpabGreatDoorG12
import Derived.Test.YtjdobbjdlighpabGreatDoorG02
import Derived.RangeFuncOwn
import Derived.RangeFuncSeq
import Derived.Sort.MapsRangeIn
import Derived.Test.YtjdobbjdlighpabGreatDoorG06
import Derived.Test.YtjdobbjdlighpabGreatDoorG11
import Derived.LoopIn
namespace Go.Proofs.YtjdobbjdlighpabGreatDoor
open Go.RowKit Go.Maps Go.Sort Go.Shelf

abbrev RP := NFile × Value
def rcpCells : List RP → List Value
  | [] => []
  | q :: r => .string ⟨q.1.1.toArray⟩ :: .int .i64 (q.1.2.length : Int) :: .int .u32 ((pmore 2166136261 q.1.2 : Nat) : Int) :: q.2 :: rcpCells r
theorem rcpCells_append : ∀ (a b : List RP), rcpCells (a ++ b) = rcpCells a ++ rcpCells b
  | [], _ => rfl
  | x :: r, b => by rw [List.cons_append, rcpCells, rcpCells_append r b, rcpCells]; rfl
theorem rcpCells_at : ∀ (a : List RP) (i : Nat) (h : i < a.length), (rcpCells a)[i * 4]? = some (.string ⟨a[i].1.1.toArray⟩) ∧ (rcpCells a)[i * 4 + 1]? = some (.int .i64 (a[i].1.2.length : Int)) ∧ (rcpCells a)[i * 4 + 2]? = some (.int .u32 ((pmore 2166136261 a[i].1.2 : Nat) : Int)) ∧ (rcpCells a)[i * 4 + 3]? = some a[i].2
  | x :: r, 0, _ => ⟨rfl, rfl, rfl, rfl⟩
  | x :: r, i + 1, h => by
    have := rcpCells_at r i (by simpa using h)
    rw [rcpCells, show (i + 1) * 4 = i * 4 + 1 + 1 + 1 + 1 by omega]
    simpa using this
theorem infoRcp : (Tryz.prog.info? 40).map (fun i => (i.zero, i.size, i.bytes)) = some (some (rcpV ⟨#[]⟩ 0 0 (.slice none 0 0)), 4, 56) := by kernel_rfl
/- Rows of recipes as they grow. -/
structure FlsSt (w W : World) (v : Value) (ps : List RP) : Prop where
  row : W.ownsRow w.heap.size 40 4 v ps.length (rcpCells ps)
  ids : ∀ q ∈ ps, IdsAt W q.2 (idsOf q.1.2)
  off : ∀ q ∈ ps, idsOf q.1.2 ≠ [] → ∀ j, q.2.ownBlock = some j → v.ownBlock ≠ some j
theorem FlsSt.nil (w W : World) : FlsSt w W (.slice none 0 0) [] := ⟨World.ownsRow_nil _ _ _ _, fun q hq => by simp at hq, fun q hq => by simp at hq⟩
theorem FlsSt.next {w W W' : World} {v : Value} {ps : List RP} (h : FlsSt w W v ps) (hb : Below W.heap.size W W') : FlsSt w W' v ps :=
  ⟨row_below h.row hb, fun q hq => (h.ids q hq).below hb, h.off⟩
theorem FlsSt.app {w W W' : World} {v v' : Value} {ps : List RP} {q : RP} (h : FlsSt w W v ps) (hq : IdsAt W q.2 (idsOf q.1.2)) (hn : idsOf q.1.2 ≠ [] → ∀ j, q.2.ownBlock = some j → v.ownBlock ≠ some j) (hg : W.grownBy W' v.ownBlock) (hr : W'.ownsRow w.heap.size 40 4 v' (ps.length + 1) (rcpCells (ps ++ [q]))) (hv : v'.ownBlock = v.ownBlock ∨ v'.ownBlock = some W.heap.size) : FlsSt w W' v' (ps ++ [q]) := by
  have ho := off_of_rowgrown hg
  have hall : ∀ x ∈ ps ++ [q], IdsAt W x.2 (idsOf x.1.2) ∧ (idsOf x.1.2 ≠ [] → ∀ j, x.2.ownBlock = some j → v.ownBlock ≠ some j) := fun x hx => by
    rcases List.mem_append.1 hx with hx | hx
    · exact ⟨h.ids x hx, h.off x hx⟩
    · rw [List.mem_singleton.1 hx]
      exact ⟨hq, hn⟩
  refine ⟨by rw [List.length_append]; exact hr, fun x hx => (hall x hx).1.off ho (fun hne j hj e => (hall x hx).2 hne j hj e), fun x hx hne j hj e => ?_⟩
  rcases hv with hv | hv
  · exact (hall x hx).2 hne j hj (hv ▸ e)
  · have := (hall x hx).1.lt hne hj
    rw [hv] at e
    have := Option.some.inj e
    omega
theorem FlsSt.at {w W : World} {v : Value} {ps : List RP} (h : FlsSt w W v ps) : RcpsAt W v (ps.map fun q => rcpOf q.1) := by
  rcases h.row.2 with ⟨rfl, e⟩ | ⟨g, cap, cur, hv, _, hb, _⟩
  · have : ps = [] := List.length_eq_zero_iff.1 e
    subst this
    exact ⟨none, 0, rfl, fun i hi => by simp at hi⟩
  · refine ⟨some ⟨g, 0, none⟩, cap, by rw [hv, List.length_map], fun i hi => ?_⟩
    have hi' : i < ps.length := by simpa using hi
    obtain ⟨a0, a1, a2, a3⟩ := rcpCells_at ps i hi'
    have c0 := h.row.cells (g := g) (by rw [hv]; rfl) (i * 4) _ a0
    have c1 := h.row.cells (g := g) (by rw [hv]; rfl) (i * 4 + 1) _ a1
    have c2 := h.row.cells (g := g) (by rw [hv]; rfl) (i * 4 + 2) _ a2
    have c3 := h.row.cells (g := g) (by rw [hv]; rfl) (i * 4 + 3) _ a3
    simp only [add_plain] at c0 c1 c2 c3
    refine ⟨g, 0, ps[i].2, rfl, ?_⟩
    simp only [List.getElem_map, Nat.zero_add]
    exact ⟨lt_of_block hb, c0, c1, c2, c3, h.ids _ (List.getElem_mem hi')⟩
theorem sorted_names {ss ns : List (List UInt8)} (hp : ss.Perm ns) (hd : ns.Pairwise (fun a b => a ≠ b)) : (ss.mergeSort (fun x y => decide (x ≤ y))).Perm ns ∧ (ss.mergeSort (fun x y => decide (x ≤ y))).Pairwise (fun a b => a < b) := by
  have h1 : (ss.mergeSort (fun x y => decide (x ≤ y))).Perm ns := (List.mergeSort_perm _ _).trans hp
  have tr : ∀ a b c : List UInt8, decide (a ≤ b) = true → decide (b ≤ c) = true → decide (a ≤ c) = true := fun a b c h1 h2 => by simp only [decide_eq_true_eq] at *; exact List.le_trans h1 h2
  have to : ∀ a b : List UInt8, (decide (a ≤ b) || decide (b ≤ a)) = true := fun a b => by simp only [Bool.or_eq_true, decide_eq_true_eq]; exact List.le_total a b
  have h2 := List.pairwise_mergeSort tr to ss
  have h3 := (h1.pairwise_iff (fun {_ _} hne => Ne.symm hne)).2 hd
  refine ⟨h1, (h2.and h3).imp fun {a b} h => ?_⟩
  obtain ⟨hle, hne⟩ := h
  simp only [decide_eq_true_eq] at hle
  exact (List.le_iff_lt_or_eq.1 hle).resolve_right hne
theorem files_named {st : NSt} (hap : st.files.Pairwise (fun f g => f.1 ≠ g.1)) {NS : List (List UInt8)} (hp : NS.Perm (st.files.map (·.1))) : (NS.map fun n => (n, (nFile st.files n).getD [])).Perm st.files := by
  refine (hp.map _).trans ?_
  rw [List.map_map]
  have : st.files.map ((fun n => (n, (nFile st.files n).getD [])) ∘ (·.1)) = st.files := by
    conv => rhs; rw [← List.map_id st.files]
    refine List.map_congr_left fun f hf => ?_
    simp only [Function.comp, id]
    rw [nFile_of_mem hap (show (f.1, f.2) ∈ st.files from hf)]
    rfl
  rw [this]
set_option maxRecDepth 100000 in
set_option maxHeartbeats 8000000 in
theorem filesOf_any (a : Nat → Addr) (p : Addr) (F : Nat → Prop) (st : NSt) (w : World) (hfl : ∀ f ∈ st.files, f.2.length ≤ 4000 ∧ isName f.1 = true) (hn : st.files.length ≤ 30) (hE : ErrE [4] w a) (hP : PNode w p F st) :
    Calls Tryz.prog 70 #[.pointer (some p)] w fun e w' => ∃ (v : Value) (fl : List NFile), e = .returned v ∧ fl.Perm st.files ∧ fl.Pairwise (fun f g => f.1 < g.1) ∧ RcpsAt w' v (fl.map rcpOf) ∧ Below w.heap.size w w' := by
  have hap : st.files.Pairwise (fun f g => f.1 ≠ g.1) := by
    obtain ⟨N, mf, mb, vi, pi, Fi, _, h, _⟩ := hP
    have := h.files.apart
    rw [List.pairwise_map] at this
    exact this
  have HAP := hideN hap
  have HP := hideN hP
  have HFL := hideN hfl
  have HEE : Hid (∀ W, Below w.heap.size w W → ErrE [4] W a) := fun W hb => hE.below hb (Nat.le_refl _)
  obtain ⟨iR, hiR, zR0, zR1, zR2⟩ := info_parts infoRcp
  have HNM := hideN (nodeNames_any p F st w (by omega) hP)
  clear hP hfl hE hap
  go_enter Tryz.func70, Tryz.ntmps70
  go_wp2_with fail
  refine HNM.out.mono ?_
  rintro e w1 ⟨vn, ss, rfl, hss, hrow, hb1⟩
  obtain ⟨hs1, hs2⟩ := sorted_names hss (by rw [List.pairwise_map]; exact HAP.out)
  obtain ⟨NS, hNS⟩ : ∃ NS, ss.mergeSort (fun x y => decide (x ≤ y)) = NS := ⟨_, rfl⟩
  rw [hNS] at hs1 hs2 hrow
  have hlen : ss.length = NS.length := by rw [← hNS, List.length_mergeSort]
  rw [hlen] at hrow
  have HS1 := hideN hs1
  have HS2 := hideN hs2
  have HB1 := hideN hb1
  have HPE := hideN (files_named HAP.out hs1)
  have hnl : (NS.length : Int) ≤ 30 := by have := hs1.length_eq; rw [List.length_map] at this; omega
  have HCN : Hid (NS ≠ [] → ∃ g, (∃ c, vn = .slice (some ⟨g, 0, none⟩) NS.length c) ∧ g < w1.heap.size ∧ ∀ i (hi : i < NS.length), w1.cell? ⟨g, i, none⟩ = some (.string ⟨NS[i].toArray⟩)) := fun hne => by
    rcases hrow.2 with ⟨_, hz⟩ | ⟨g, cap, cur, hv, _, hb, _⟩
    · exact absurd (List.length_eq_zero_iff.1 hz) hne
    · refine ⟨g, ⟨cap, hv⟩, lt_of_block hb, fun i hi => ?_⟩
      have c1 := hrow.cells (g := g) (by rw [hv]; rfl) i (encStr NS[i]) (by simp [hi])
      simp only [add_plain] at c1
      exact c1
  obtain ⟨pn, cn, hvn⟩ := row_shapeK hrow
  subst hvn
  clear hss hs1 hs2 hNS hlen hrow hb1 HNM
  go_wp2_with fail
  go_loopw [3, 11] (fun v iv wr => ∃ (k : Nat) (ps : List RP), k ≤ NS.length ∧ iv = .int .i64 k ∧ Hid (ps.map (·.1) = (NS.take k).map (fun n => (n, (nFile st.files n).getD []))) ∧ Hid (FlsSt w1 wr v ps) ∧ Hid (Below w1.heap.size w1 wr)) (fun _ iv _ => NS.length - (intOf iv).toNat)
  case atStart => exact ⟨0, [], Nat.zero_le _, rfl, rfl, FlsSt.nil _ _, Below.refl _ _⟩
  case round =>
    obtain ⟨k, ps, hk, rfl, HPS, HFS, HB⟩ := hrel
    have HPL : Hid (ps.length = k) := by
      show _ = _
      have := congrArg List.length HPS.out
      rw [List.length_map, List.length_map, List.length_take] at this
      omega
    by_cases hlt : k < NS.length
    · have hlt' : (k : Int) < (NS.length : Int) := by omega
      have hk0 : (0 : Int) ≤ (k : Int) := by omega
      obtain ⟨g, ⟨cg, hvg⟩, hgl, hcell⟩ := HCN.out (fun e => by rw [e] at hlt; simp at hlt)
      obtain ⟨rfl, rfl⟩ : pn = some ⟨g, 0, none⟩ ∧ cn = cg := by simpa using hvg
      have d0 := (HB.out.cell (p := ⟨g, k, none⟩) hgl).trans (hcell k hlt)
      have HTK := hideN (List.take_succ_eq_append_getElem hlt)
      have hxm : NS[k] ∈ st.files.map (·.1) := HS1.out.mem_iff.1 (List.getElem_mem hlt)
      obtain ⟨x, hx⟩ : ∃ x, NS[k] = x := ⟨_, rfl⟩
      rw [hx] at d0 HTK hxm
      obtain ⟨⟨f1, s⟩, hf, rfl⟩ := List.mem_map.1 hxm
      simp only at d0 HTK
      have hnf := nFile_of_mem HAP.out hf
      obtain ⟨hs4, hnm⟩ := HFL.out _ hf
      simp only at hs4 hnm
      have hnl12 := isName_len hnm
      obtain ⟨X, hX⟩ : ∃ X : ByteArray, (⟨f1.toArray⟩ : ByteArray) = X := ⟨_, rfl⟩
      have hXd : X.data.toList = f1 := by rw [← hX]
      have hXs : X.size ≤ 50000 := by
        have : X.data.toList.length = X.size := by rw [Array.length_toList]; rfl
        rw [hXd] at this
        omega
      have HREC := hideN (nodeRecipe_any a X p F st wr hXs (fun f hf => by have h1 := pieces_len_le f.2; have h2 := (HFL.out f hf).1; unfold idsOf; rw [List.length_map]; omega) (HEE.out _ (HB1.out.trans (HB.out.mono HB1.out.size))) ((HP.out.below HB1.out).below HB.out))
      rw [hXd, hnf] at HREC
      unfold RecPost at HREC
      simp only at HREC
      rw [hX] at d0
      have HX := hideN hX
      have HNF := hideN hnf
      obtain ⟨PP, hPP⟩ : ∃ PP, pmore 2166136261 s = PP := ⟨_, rfl⟩
      obtain ⟨LL, hLL⟩ : ∃ LL, (s.length : Int) = LL := ⟨_, rfl⟩
      have HPP := hideN hPP
      have HLL := hideN hLL
      rw [hPP, hLL] at HREC
      have HRN : Hid (Calls Tryz.prog 12 #[.pointer (some p), .string X] wr fun e w' => ∃ (q : Option Addr) (c : Nat), e = .returned (.tuple #[.agg #[.string X, .int .i64 LL, .int .u32 (PP : Nat), .slice q (idsOf s).length c], .nilIface]) ∧ IdsIn wr.heap.size w' (.slice q (idsOf s).length c) (idsOf s) ∧ Below wr.heap.size wr w') := HREC.out.mono fun e w' ⟨⟨v, he, hi⟩, hbw⟩ => by
        obtain ⟨q, c, hq, hc⟩ := hi
        subst hq
        exact ⟨q, c, he, ⟨q, c, rfl, hc⟩, hbw⟩
      obtain ⟨idl, hidl⟩ : ∃ idl, (idsOf s).length = idl := ⟨_, rfl⟩
      have HIDL := hideN hidl
      rw [hidl] at HRN
      have HRW : Hid (∀ j, u3.ownBlock = some j → j < wr.heap.size) := fun j hj => row_lt HFS.out.row hj
      clear hvg hgl hcell hxm hx hf hnf hs4 hnm hnl12 hX hXd hXs hPP hLL hidl HREC
      go_wp2_with fail
      refine HRN.out.mono ?_
      rintro e w4 ⟨q4, c4, rfl, hi4, hb4⟩
      have hal5 := (Below.refl w4.heap.size w4).alloc (Nat.le_refl _) (.cells #[.string X, .int .i64 LL, .int .u32 (PP : Nat), .slice q4 idl c4] 40)
      have HR5 := hideN (Blk.new w4 #[.string X, .int .i64 LL, .int .u32 (PP : Nat), .slice q4 idl c4] 40)
      have HFS5 := hideN ((HFS.out.next hb4).next hal5)
      have HI5 := hideN ((hi4.below hal5).at)
      have HIB : Hid (idsOf s ≠ [] → ∀ j, (Value.slice q4 idl c4).ownBlock = some j → wr.heap.size ≤ j) := fun hne j hj => by
        obtain ⟨p', c', hv', hc'⟩ := hi4
        obtain ⟨b', o', hp', hle, _⟩ := hc' 0 (List.length_pos_iff.2 hne)
        have : q4 = p' := by have := hv'; simp at this; exact this.1
        subst this hp'
        have : b' = j := by simpa [Value.ownBlock] using hj
        omega
      have HB5 : Hid (Below w1.heap.size w1 _) := hideN ((HB.out.trans (hb4.mono HB.out.size)).trans (hal5.mono (Nat.le_trans HB.out.size hb4.size)))
      obtain ⟨W5, hW5⟩ : ∃ W5, w4.alloc (.cells #[.string X, .int .i64 LL, .int .u32 (PP : Nat), .slice q4 idl c4] 40) = W5 := ⟨_, rfl⟩
      rw [hW5] at HR5 HFS5 HI5 HB5
      have hs5 : W5.heap.size = w4.heap.size + 1 := by rw [← hW5]; simp
      have r0 := HR5.out.cell (i := 0) rfl
      have r1 := HR5.out.cell (i := 1) rfl
      have r2 := HR5.out.cell (i := 2) rfl
      have r3 := HR5.out.cell (i := 3) rfl
      have HS5 := hideN hs5
      have HW5 := hideN hW5
      rw [← hW5] at r0 r1 r2 r3
      have HPLN : Hid (ps.length ≤ 30) := by show _ ≤ _; rw [HPL.out]; omega
      have HOWN5 : Hid ((w4.alloc (.cells #[.string X, .int .i64 LL, .int .u32 (PP : Nat), .slice q4 idl c4] 40)).ownsRow w1.heap.size 40 4 u3 ps.length (rcpCells ps)) := by rw [hW5]; exact HFS5.out.row
      clear hal5 hb4 hi4 hW5 hs5 HRN
      go_wp2_with (at_builtin; refine wpList_append_own_at _ rfl (.tmp 21) (.tmp 23) 31 rfl w1.heap.size 40 iR (rcpV ⟨#[]⟩ 0 0 (.slice none 0 0)) 4 56 Tryz.underlying31 hiR zR0 zR1 zR2 rfl (by decide) _ _ _ rfl (HOWN5.out.alloc _) ⟨w4.heap.size + 1, 0, none⟩ 1 1 [.string X, .int .i64 LL, .int .u32 (PP : Nat), .slice q4 idl c4] rfl rfl ?c1 ?c2 ?c3 ?c4 ?c5 ?_)
      case c1 =>
        intro j u hj
        rw [add_plain]
        exact new_cell _ #[.string X, .int .i64 LL, .int .u32 (PP : Nat), .slice q4 idl c4] _ (by rw [← hj]; simp) (by simp)
      case c2 => intro u hu; simp at hu; rcases hu with rfl | rfl | rfl | rfl <;> rfl
      case c3 => have := HPLN.out; unfold maxLen; omega
      case c4 => have := HPLN.out; omega
      case c5 => have h1 := HB5.out.size; have h2 := HS5.out; simp; omega
      intro v6 w6 hown6 hg6 _ hv6
      rw [HW5.out] at hg6
      have hal6 := (Below.refl W5.heap.size W5).alloc (Nat.le_refl _) (.cells #[.string X, .int .i64 LL, .int .u32 (PP : Nat), .slice q4 idl c4] 40)
      have HFS6 : Hid (FlsSt w1 w6 v6 (ps ++ [((f1, s), .slice q4 idl c4)])) := (HFS5.out.next hal6).app (q := ((f1, s), .slice q4 idl c4)) (HI5.out.below hal6) (fun hne j hj e => by
        have h1 := HIB.out hne j hj
        have h2 := HRW.out j e
        omega) hg6 (by
        rw [rcpCells_append]
        have : rcpCells [((f1, s), Value.slice q4 idl c4)] = [.string X, .int .i64 LL, .int .u32 (PP : Nat), .slice q4 idl c4] := by rw [rcpCells, rcpCells]; simp only; rw [HX.out, HLL.out, HPP.out]
        rw [this]
        exact hown6) (by
        rcases hv6 with h | h
        · exact .inl h
        · exact .inr (by rw [h]; simp [HS5.out]))
      have HB6 : Hid (Below w1.heap.size w1 w6) := (HB5.out.trans (hal6.mono HB5.out.size)).trans ⟨hg6.os, hg6.tape, hg6.output, hg6.size, fun j hj => hg6.block j (by have := HB5.out.size; simp; omega) (fun e => by have := row_ge HFS5.out.row e.symm; omega)⟩
      have HPS6 : Hid ((ps ++ [((f1, s), Value.slice q4 idl c4)]).map (·.1) = (NS.take (k + 1)).map (fun n => (n, (nFile st.files n).getD []))) := by
        show _ = _
        rw [List.map_append, HPS.out, HTK.out, List.map_append]
        congr 1
        simp only [List.map_cons, List.map_nil]
        rw [HNF.out]
        rfl
      clear hown6 hg6 hv6 hal6 r0 r1 r2 r3 d0
      go_wp2_with fail
      go_roundw
      case rel => exact ⟨k + 1, _, hlt, by go_num, HPS6.out, HFS6.out, HB6.out⟩
      case measure => simp [intOf]; omega
    · have hge : (NS.length : Int) ≤ (k : Int) := by omega
      have hke : NS.take k = NS := List.take_of_length_le (by omega)
      rw [hke] at HPS
      clear hke
      go_wp2_with fail
      go_ret
      refine ⟨_, NS.map (fun n => (n, (nFile st.files n).getD [])), rfl, HPE.out, ?_, ?_, HB1.out.trans (HB.out.mono HB1.out.size)⟩
      · rw [List.pairwise_map]
        exact HS2.out
      · rw [← HPS.out, List.map_map]
        exact HFS.out.at
end Go.Proofs.YtjdobbjdlighpabGreatDoor
namespace Go.Proofs.YtjdobbjdlighpabGreatDoor
open Go.RowKit Go.Maps

def AbidesAt {β : Type} (B : Nat) (J : β → World → Prop) : Prop :=
  ∀ s W W' row, J s W → W.grownBy W' row → (∀ r, row = some r → B ≤ r ∧ ∃ o : Obj, W.heap[r]? = some o ∧ o.isWalk = true) → J s W'
def SeqW {α : Type} (F : Fence) (n : Nat) (P : Program) (g : Nat) (lb : Array Value) (encs : α → Array Value) (S : List α → Prop) (N : Nat) (w : World) : Prop :=
  ∀ (l : Nat) (J : List α → World → Prop) (W : World), Below w.heap.size w W → AbidesAt W.heap.size J →
    (∀ pre x W1, J pre W1 → pre.length < N → YieldAt F (n - 1) P l (encs x) W1 fun e W' => e = .returned (.bool true) ∧ J (pre ++ [x]) W' ∧ KeepsWalks W1 W') →
    J [] W → CallsIn F n P g (#[.func (.yield l) #[] #[]] ++ lb) W fun e W' => (∃ v, e = .returned v) ∧ ∃ xs, S xs ∧ J xs W'
theorem range_walk {α : Type} {F : Fence} {n : Nat} {P : Program} {g : Operand} {ps : Array Tmp} {assign body : Code} {Q : Exit → Act → World → Prop} {a : Act} {w : World}
    (hro : F.round = none) (h1 : 1 ≤ n) {gf : Nat} {lb : Array Value} (hg : a.eval g = .func (.func gf) #[] lb) (hFg : F.fn gf) (eg : ∀ args w, (callFunc gf args).run P w = .ok (.enter gf args) w)
    {encs : α → Array Value} {S : List α → Prop} {N : Nat} {w0 : World} (hseq : SeqW F (n - 1) P gf lb encs S N w0)
    (hb0 : Below w0.heap.size w0 w) (hps : ∀ x, (encs x).size = ps.size)
    (I : List α → World → Prop) (hI : AbidesAt w.heap.size I) (hIp : ∀ pre A l o o', w.heap.size ≤ l → I pre A → A.heap[l]? = some o → o.isCells = false → I pre (A.putObj l o')) (h0 : I [] w)
    (Ax : α → Act → World → Prop) (hAx : ∀ x a' A l o, (∃ r, A.heap[l]? = some (.loop r)) → Ax x a' A → Ax x a' (A.putObj l o))
    (hassign : ∀ (l : Nat) (pre : List α) (x : α) (W : World) (K : Act → World → Prop), I pre W → (∀ a' W', KeepsOthers W W' → I pre W' → Ax x a' W' → K a' W') →
      assign.wpIn (F.inRound l) (n - 1 - 1) P (Exit.then K (fun _ _ _ => False)) { tmps := (ps.zip (encs x)).foldl (fun t (p, v) => t.setIfInBounds p v) a.tmps, defers := [] } W)
    (hbody : ∀ (l : Nat) (pre : List α) (x : α) (a' : Act) (W : World), I pre W → Ax x a' W → pre.length < N → body.wpIn (F.inRound l) (n - 1 - 1) P (fun e _ W' => e = .normal ∧ KeepsOthers W W' ∧ I (pre ++ [x]) W') a' W)
    (hdone : ∀ (D : Nat) (xs : List α) (W : World), w.heap.size ≤ D → S xs → I xs W → W.heap[D]? = some (.deferred (some [])) → Q .normal { a with defers := { target := .collected D, args := #[] } :: a.defers } W) :
    (Code.rangeFunc g ps assign body).wpIn F n P Q a w := by
  refine wpIn_rangeFunc ?_
  intro fn hfn
  rw [hro]
  obtain ⟨lp, hlp⟩ : ∃ lp : LoopState → Loop, lp = fun st => { state := st, pending := none, fn, tmps := a.tmps, params := ps, assign, body, defers := w.heap.size } := ⟨_, rfl⟩
  obtain ⟨V, hV⟩ : ∃ V, (w.alloc (.deferred (some []))).alloc (.loop (lp .ready)) = V := ⟨_, rfl⟩
  have hVs : V.heap.size = w.heap.size + 2 := by rw [← hV]; simp
  have hVl : V.heap[w.heap.size + 1]? = some (.loop (lp .ready)) := by
    rw [← hV]
    have := World.alloc_heap_new (w.alloc (.deferred (some []))) (.loop (lp .ready))
    rwa [World.size_alloc] at this
  have hVd : V.heap[w.heap.size]? = some (.deferred (some [])) := by
    rw [← hV]
    exact (Below.heap_alloc _ _ _ (by simp)).trans (World.alloc_heap_new w _)
  have hVb : Below w.heap.size w V := by rw [← hV]; exact ((Below.refl _ w).alloc (Nat.le_refl _) _).alloc (by simp) _
  have hVI : I [] V := hI [] w V none h0 ⟨hVb.os, hVb.tape, hVb.output, hVb.size, fun k hk _ => hVb.block k hk⟩ (fun r e => by cases e)
  refine ⟨w.heap.size + 1, [{ target := .collected w.heap.size, args := #[] }], V, { target := .fn (.func gf) lb, args := #[.func (.yield (w.heap.size + 1)) #[] #[]] }, V, gf,
    #[.func (.yield (w.heap.size + 1)) #[] #[]] ++ lb, V, ?_, ?_, ?_, ?_, fun _ => h1, ?_⟩
  · rw [← hV, hlp]
    exact run_enterLoop_outer _ _ _ _ _
  · simp only [resolve, hg]
    simp [go_sem]
  · intro f' hf'
    simp [Target.leads] at hf'
    subst hf'
    exact hFg
  · simp [invoke, go_sem, eg]
  refine (hseq (w.heap.size + 1) (fun pre W => I pre W ∧ W.heap[w.heap.size + 1]? = some (.loop (lp .ready)) ∧ W.heap[w.heap.size]? = some (.deferred (some []))) V (hb0.trans (hVb.mono hb0.size))
    (fun s A B row h hg hrow => ⟨hI s A B row h.1 hg (fun r e => ⟨by have := (hrow r e).1; omega, (hrow r e).2⟩), (grownBy_keeps hg (fun r e => (hrow r e).2) h.2.1 rfl).trans h.2.1, (grownBy_keeps hg (fun r e => (hrow r e).2) h.2.2 rfl).trans h.2.2⟩) ?_ ⟨hVI, hVl, hVd⟩).mono ?_
  · rintro pre x W ⟨hi, hl, hd⟩ hlen
    have hlt : w.heap.size + 1 < W.heap.size := (Array.getElem?_eq_some_iff.1 hl).1
    have hy := run_yield (P := P) (args := encs x) hl (by rw [hlp]; exact hps x)
    rw [hlp] at hy
    refine ⟨fn, _, assign, body, hy, roundIn_of_wpIn hfn (hassign _ pre x W _ hi ?_)⟩
    clear hy
    intro a' Wa hka hia hax
    have hla := hka.same _ _ hl rfl
    have hda := hka.same _ _ hd rfl
    have hlta : w.heap.size + 1 < Wa.heap.size := (Array.getElem?_eq_some_iff.1 hla).1
    refine ⟨_, run_beginRound hla (by rw [hlp]), ?_⟩
    refine wpIn_mono (hbody _ pre x a' _ (hIp _ _ _ _ _ (by omega) hia hla rfl) (hAx x a' Wa _ _ ⟨_, hla⟩ hax) hlen) ?_
    rintro e a3 W3 ⟨rfl, hkb, hi3⟩
    have hlb := hkb.same _ _ (World.putObj_heap_same hlta) rfl
    have hdb := hkb.same _ _ ((World.putObj_heap_other (w := Wa) (r := w.heap.size + 1) (k := w.heap.size) (by omega)).trans hda) rfl
    have hr := run_endRound (P := P) none hlb
    have hlt3 : w.heap.size + 1 < W3.heap.size := (Array.getElem?_eq_some_iff.1 hlb).1
    refine ⟨_, _, hr, rfl, ⟨hIp _ _ _ _ _ (by omega) hi3 hlb rfl, ?_, (World.putObj_heap_other (by omega)).trans hdb⟩, ?_⟩
    · rw [World.putObj_heap_same hlt3, hlp]
      rfl
    · refine ⟨?_, fun b o hb hw => ?_⟩
      · have h1 := hka.size
        have h2 := hkb.size
        simp at h2 ⊢
        omega
      · have hbl : b ≠ w.heap.size + 1 := fun e => by
          subst e
          rw [hl] at hb
          cases hb
          cases hw
        have hnc : o.isCells = false := by
          cases o <;> first | rfl | cases hw
        exact (World.putObj_heap_other hbl).trans (hkb.same _ _ ((World.putObj_heap_other hbl).trans (hka.same _ _ hb hnc)) hnc)
  · rintro e W2 ⟨⟨v, rfl⟩, xs, hS, hi, hl, hd⟩
    have he := run_endLoop (P := P) hl (by rw [hlp]; simp)
    rw [hlp] at he
    exact ⟨none, _, he, hdone _ xs _ (Nat.le_refl _) hS (hIp _ _ _ _ _ (by omega) hi hl rfl) ((World.putObj_heap_other (by omega)).trans hd)⟩

section
variable {F : Fence} {nF : Nat} {P : Program} {k : TypeId} {κ β : Type}
variable {ops : Array Oper} {rest : List Oper} {o : Oper} {a : Act} {Q : Exit → Act → World → Prop}
theorem wpIn_range_kit [DecidableEq κ] (M : MapKit P k κ β) (w : World) (hg : o.guard = none) (m : Operand) (t : TypeId) (hop : o.op = Op.range t m) (e : TypeId) (ht : P.underlying t = some (.map k e)) (b : Nat) (l : List (κ × β)) (hm : a.eval m = .map (some b)) (h : M.Of w b l)
    (hK : ∀ w', M.Rng w' b w.heap.size l (fun x => decide (x ∈ l.map (·.1))) l.length → w.grownBy w' none → w'.heap.size = w.heap.size + 1 → wpListIn F nF P ops Q rest (a.put o.dst (.pointer (some ⟨w.heap.size, 0, none⟩))) w') :
    wpListIn F nF P ops Q (o :: rest) a w := by
  obtain ⟨ds, ho, hp⟩ := h.own
  refine wpListIn_range_own w hg m t hop k e M.K ht M.R b ds.length (.map ds) hm ho fun w' hr hgr hs => hK w' ⟨⟨ds, ds.length, Maps.has (DataW.map ds), ?_, hp, fun x hx => ?_⟩, h.wf⟩ hgr hs
  · have e : Maps.size (DataW.map ds) = l.length := by show ds.length = _; rw [hp.length_eq, List.length_map]
    rw [← e]
    exact hr
  · rw [Bool.eq_iff_iff, Maps.has_eq, List.any_eq_true, decide_eq_true_eq]
    constructor
    · rintro ⟨p, hm, hs⟩
      obtain ⟨y, hy, rfl⟩ := List.mem_map.1 (hp.mem_iff.1 hm)
      have hxy : y.1 = x := M.kl_inj (h.wf y hy) hx (WideAt.sameKey_eq hs)
      exact List.mem_map.2 ⟨y, hy, hxy⟩
    · intro hm
      obtain ⟨y, hy, rfl⟩ := List.mem_map.1 hm
      exact ⟨M.ent y, hp.mem_iff.2 (List.mem_map.2 ⟨y, hy, rfl⟩), WideAt.sameKey_self (M.isKey hx)⟩
theorem wpIn_next_kit [DecidableEq κ] (M : MapKit P k κ β) (w : World) (hg : o.guard = none) (it : Operand) (hop : o.op = Op.next it false) (b r : Nat) (l : List (κ × β)) (left : κ → Bool) (cnt : Nat) (hit : a.eval it = .pointer (some ⟨r, 0, none⟩)) (h : M.Rng w b r l left cnt)
    (hDone : (∀ h ∈ l, left h.1 = false) → wpListIn F nF P ops Q rest (a.put o.dst (.tuple #[.bool false])) w)
    (hMore : ∀ (x : κ) (c : β) (w' : World) (cnt' : Nat), (x, c) ∈ l → left x = true → M.Rng w' b r l (fun y => left y && !decide (y = x)) cnt' → cnt' < cnt → w.grownBy w' (some r) → w'.heap.size = w.heap.size →
      (Instr.entry (.pointer (some ⟨r, 0, none⟩))).run P w' = .ok (.tuple #[M.mkK x, M.mkV c]) w' → wpListIn F nF P ops Q rest (a.put o.dst (.tuple #[.bool true, M.mkK x, M.mkV c])) w') :
    wpListIn F nF P ops Q (o :: rest) a w := by
  obtain ⟨ds, n, lf, hr, hp, hl⟩ := h.at'
  refine wpListIn_next_ranges w hg it hop k M.K M.R M.mkK M.mkV (fun key kl hk => ?_) (fun v y hv => ?_) b r n (.map ds) lf cnt hit hr (fun _ h0 => hDone (fun y hy => by rw [← hl _ (h.wf y hy)]; exact h0 _)) ?_
  · obtain ⟨x, _, rfl⟩ := M.inv key kl hk
    exact ⟨x, rfl⟩
  · obtain ⟨c, rfl, _⟩ := M.R_inv hv
    exact ⟨c, rfl⟩
  · intro x c kl y w' cnt' hkey hlk hv hat hrg hlt hgr hsz hen
    obtain ⟨x', hx', e⟩ := M.inv _ _ hkey
    obtain rfl := M.inj _ _ e
    have ekl : kl = M.kl x := Option.some.inj (hkey.symm.trans (M.key_kl hx'))
    subst ekl
    have ey : y = (.held (M.mkV c), []) := by rw [M.R_mk] at hv; exact (Option.some.inj hv).symm
    have hm : (x, c) ∈ l := by
      have hh := Maps.has_true_of_atKey (fun z => hat z)
      rw [Maps.has_eq, List.any_eq_true] at hh
      obtain ⟨p, hpm, hs⟩ := hh
      obtain ⟨q, hq, rfl⟩ := List.mem_map.1 (hp.mem_iff.1 hpm)
      have hqx : q.1 = x := M.kl_inj (h.wf q hq) hx' (WideAt.sameKey_eq hs)
      obtain ⟨es, e, hap, _⟩ := hr.owns.entries M.K
      cases e
      have h2 := WideAt.atKey_mem (DataW.nil) (M.isKey (h.wf q hq)) hap hpm
      have h3 := hat DataW.nil
      rw [← hqx, h2, ey] at h3
      have h4 : M.mkV q.2 = M.mkV c := DataW.held.inj h3
      have h5 : q.2 = c := by have := M.un q.2; rw [h4, M.un] at this; exact (Option.some.inj this).symm
      rw [← hqx, ← h5]
      exact hq
    refine hMore x c w' cnt' hm (by rw [← hl x hx']; exact hlk) ⟨⟨ds, n, _, hrg, hp, fun z hz => ?_⟩, h.wf⟩ hlt hgr hsz hen
    rw [hl z hz, M.same hz hx']
theorem MapKit.Rng.of_walks {M : MapKit P k κ β} {w w' : World} {b r : Nat} {l : List (κ × β)} {left : κ → Bool} {cnt : Nat} (h : M.Rng w b r l left cnt) (hk : KeepsWalks w w') : M.Rng w' b r l left cnt := by
  obtain ⟨ds, n, lf, h1, hp, hl⟩ := h.at'
  exact ⟨⟨ds, n, lf, h1.of_walks hk, hp, hl⟩, h.wf⟩
theorem MapKit.Rng.iter_walk {M : MapKit P k κ β} {w : World} {b r : Nat} {l : List (κ × β)} {left : κ → Bool} {cnt : Nat} (h : M.Rng w b r l left cnt) : ∃ o : Obj, w.heap[r]? = some o ∧ o.isWalk = true := by
  obtain ⟨ds, n, lf, h1, hp, hl⟩ := h.at'
  exact h1.iter_walk
end
end Go.Proofs.YtjdobbjdlighpabGreatDoor
namespace Go.Proofs.YtjdobbjdlighpabGreatDoor
open Go.RowKit Go.Maps Go.Shelf

attribute [local go_sem] Oper.semAt_some
theorem off_of_rowgrownK {w w' : World} {row : Option Nat} (h : w.grownBy w' row) : Off (fun k => row = some k) w w' := ⟨h.os, h.tape, h.output, h.size, fun k hk hn => h.block k hk (fun e => hn e.symm)⟩
theorem infoIDK : (Tryz.prog.info? 25).map (fun i => (i.zero, i.size, i.bytes)) = some (some (idV 0 0), 2, 16) := by kernel_rfl
set_option maxHeartbeats 1000000 in
theorem keysI_in (n : Nat) (mb : Option Nat) (w : World) :
    CallsIn Fence.wide n Tryz.prog 84 #[.map mb] w fun e w' => e = .returned (.func (.func 142) #[] #[.pointer (some ⟨w.heap.size, 0, none⟩)]) ∧ w' = w.alloc (.cells #[.map mb] 100) := by
  refine callsIn_of_wp Tryz.func84 rfl trivial ?_ rfl
  simp only [Tryz.ntmps84, List.size_toArray, List.length_cons, List.length_nil, Nat.reduceAdd, Nat.reduceSub, Array.replicate_succ, Array.replicate_zero, List.push_toArray, List.append_toArray, List.nil_append, List.cons_append]
  gi_wp2
  go_ret
  exact ⟨rfl, rfl⟩
set_option maxRecDepth 100000 in
set_option maxHeartbeats 4000000 in
theorem keysI1_in (n : Nat) (hn : 1 ≤ n) (l Bm b : Nat) (L : List ((Nat × Int) × Option Addr)) (J : List (Nat × Int) → World → Prop) (W : World) (hJ : AbidesAt W.heap.size J)
    (hY : ∀ pre x W1, J pre W1 → pre.length < L.length → YieldAt Fence.wide (n - 1) Tryz.prog l #[idV (x.1 : Nat) x.2] W1 fun e W' => e = .returned (.bool true) ∧ J (pre ++ [x]) W' ∧ KeepsWalks W1 W')
    (hm : W.cell? ⟨Bm, 0, none⟩ = some (.map (some b))) (hM : idBins.Of W b L) (h0 : J [] W) :
    CallsIn Fence.wide n Tryz.prog 142 #[.func (.yield l) #[] #[], .pointer (some ⟨Bm, 0, none⟩)] W fun e W' => (∃ v, e = .returned v) ∧ ∃ xs : List (Nat × Int), xs.Perm (L.map (·.1)) ∧ J xs W' := by
  have hap := hM.apart
  have HJ : Hid (AbidesAt W.heap.size J) := hJ
  have HY : Hid (∀ pre x W1, J pre W1 → pre.length < L.length → YieldAt Fence.wide (n - 1) Tryz.prog l #[idV (x.1 : Nat) x.2] W1 fun e W' => e = .returned (.bool true) ∧ J (pre ++ [x]) W' ∧ KeepsWalks W1 W') := hY
  clear hJ hY
  refine callsIn_of_wp Tryz.func142 rfl trivial ?_ rfl
  simp only [Tryz.ntmps142, List.size_toArray, List.length_cons, List.length_nil, Nat.reduceAdd, Nat.reduceSub, Array.replicate_succ, Array.replicate_zero, List.push_toArray, List.append_toArray, List.nil_append, List.cons_append]
  gi_wp2_with (first
    | (gi_at_range; refine wpIn_range_kit idBins _ rfl _ 100 rfl 47 Tryz.underlying100 b L rfl hM ?_; intro w0 hr0 hg0 hs0)
    | gi_in)
  go_frame
  gi_loopw [6] (fun _ wr => ∃ (left : Nat × Int → Bool) (cnt : Nat) (xs : List (Nat × Int)), idBins.Rng wr b W.heap.size L left cnt ∧ Hid (xs.Perm ((L.filter (fun y => !left y.1)).map (·.1))) ∧ J xs wr) (fun _ wr => wr.rangeLeft b W.heap.size)
  case atStart =>
    refine ⟨_, _, [], hr0, ?_, HJ.out [] W w0 none h0 hg0 (fun r e => by cases e)⟩
    show List.Perm _ _
    rw [List.filter_eq_nil_iff.2 (fun y hy => by
      simp only [Bool.not_eq_true', Bool.not_eq_false, decide_eq_true_eq]
      exact List.mem_map.2 ⟨y, hy, rfl⟩)]
    exact List.Perm.refl _
  case round =>
    obtain ⟨left, cnt, xs, hrg, HP, hJs⟩ := hrel
    gi_wp2_with (first
      | (gi_at_next; refine wpIn_next_kit idBins _ rfl _ rfl b W.heap.size L left cnt rfl hrg ?_ ?_)
      | gi_in)
    · intro h0'
      have HL0 : Hid (∀ y ∈ L, left y.1 = false) := fun y hy => h0' y.1.1 y.1.2 y.2 hy
      clear h0'
      gi_wp2
      go_end0
      refine ⟨⟨_, rfl⟩, xs, ?_, hJs⟩
      have := HP.out
      rw [List.filter_eq_self.2 (fun y hy => by rw [HL0.out y hy]; rfl)] at this
      exact this
    · intro xp xl c w2 cnt2 hmem hlx hrg2 hlt hg2 hs2 hen
      have hfl := filter_flip hap (p := left) hmem hlx
      have HP2 : Hid ((xs ++ [(xp, xl)]).Perm ((L.filter (fun y => !(left y.1 && !decide (y.1 = (xp, xl))))).map (·.1))) := by
        show List.Perm _ _
        have h1 := hfl.map (·.1)
        rw [List.map_cons] at h1
        exact (List.perm_append_comm.trans (HP.out.cons _)).trans h1.symm
      have HLN : Hid (xs.length < L.length) := by
        show _ < _
        have h1 : (L.filter (fun y : (Nat × Int) × Option Addr => !(left y.1 && !decide (y.1 = (xp, xl))))).length = (((xp, xl), c) :: L.filter (fun y => !left y.1)).length := hfl.length_eq
        have h2 := List.length_filter_le (fun y : (Nat × Int) × Option Addr => !(left y.1 && !decide (y.1 = (xp, xl)))) L
        have h3 := HP.out.length_eq
        rw [List.length_map] at h3
        rw [List.length_cons] at h1
        omega
      have hJ2 : J xs w2 := HJ.out xs wr w2 (some W.heap.size) hJs hg2 (fun r e => by cases e; exact ⟨Nat.le_refl _, hrg.iter_walk⟩)
      have hJ3 := HJ.out xs w2 _ none hJ2 (World.grownBy_alloc w2 (.cells #[.int .u32 (xp : Nat), .int .i64 xl] 25) none) (fun r e => by cases e)
      have hrg3 := hrg2.kept (World.grownBy_alloc w2 (.cells #[.int .u32 (xp : Nat), .int .i64 xl] 25) none) (by simp) (by simp)
      obtain ⟨fn, tmps, assign, body, hy, hR⟩ := HY.out xs (xp, xl) _ hJ3 HLN.out
      simp only at hy hR
      have HRR := hideN hR
      have HRG3 := hideN hrg3
      change (Instr.entry (.pointer (some ⟨W.heap.size, 0, none⟩))).run Tryz.prog w2 = .ok (.tuple #[idV (xp : Nat) xl, .pointer c]) w2 at hen
      clear hs2 hfl hJ2 hJ3 hR hrg3 hM hr0 hg0 hs0
      gi_wp2
      refine HRR.out.mono ?_
      rintro e W3 ⟨rfl, hJ4, hk4⟩
      have hrg4 := HRG3.out.of_walks hk4
      clear hen
      gi_wp2
      go_roundw
      case rel => exact ⟨_, cnt2, xs ++ [(xp, xl)], hrg4, HP2.out, hJ4⟩
      case measure => rw [hrg4.left_eq, hrg.left_eq]; exact hlt
theorem row_abides {base : Nat} {e : TypeId} {size : Nat} {v : Value} {k : Nat} {xs : List Value} {W W' : World} {row : Option Nat} (h : W.ownsRow base e size v k xs) (hg : W.grownBy W' row) (hrow : ∀ j o, row = some j → W.heap[j]? = some o → o.isCells = false) : W'.ownsRow base e size v k xs :=
  (off_of_rowgrownK hg).row h (fun j hj e => by
    rcases h.2 with ⟨rfl, _⟩ | ⟨g, cap, cur, rfl, _, hb, _⟩
    · simp [Value.ownBlock] at hj
    · have : g = j := by simpa [Value.ownBlock] using hj
      subst this
      have := hrow g _ e hb
      cases this)
set_option maxRecDepth 100000 in
set_option maxHeartbeats 4000000 in
theorem appendSeqI_in (n : Nat) (hn : 3 ≤ n) (g : Nat) (lb : Array Value) (eg : ∀ args w, (callFunc g args).run Tryz.prog w = .ok (.enter g args) w) (S : List (Nat × Int) → Prop) (N : Nat) (hN : N ≤ 50000) (w w0 : World) (hb0 : Below w0.heap.size w0 w)
    (hseq : SeqW Fence.wide (n - 1) Tryz.prog g lb (fun x : Nat × Int => #[idV (x.1 : Nat) x.2]) S N w0) :
    CallsIn Fence.wide n Tryz.prog 141 #[.slice none 0 0, .func (.func g) #[] lb] w fun e w' => ∃ v xs, e = .returned v ∧ S xs ∧ w'.ownsRow w.heap.size 25 2 v xs.length (idCells xs) ∧ Below w.heap.size w w' := by
  have h1 : 1 ≤ n := by omega
  obtain ⟨i0, hi, hz0, hz1, hz2⟩ := info_parts infoIDK
  refine callsIn_of_wp_marks Tryz.func141 rfl trivial ?_ rfl
  simp only [Tryz.ntmps141, List.size_toArray, List.length_cons, List.length_nil, Nat.reduceAdd, Nat.reduceSub, Array.replicate_succ, Array.replicate_zero, List.push_toArray, List.append_toArray, List.nil_append, List.cons_append]
  gi_wp2
  have bO := Boxed.new w 38 (.slice none 0 0)
  have hB0 : Below w.heap.size w (w.alloc (.cells #[.slice none 0 0] 38)) := (Below.refl _ w).alloc (Nat.le_refl _) _
  refine range_walk rfl h1 (gf := g) (lb := lb) rfl trivial eg hseq (hb0.trans (hB0.mono hb0.size)) (fun _ => rfl)
    (fun pre W => (∃ v, Boxed W w.heap.size 38 v ∧ W.ownsRow w.heap.size 25 2 v pre.length (idCells pre)) ∧ Below w.heap.size w W) ?abides ?put
    ⟨⟨_, bO, World.ownsRow_nil _ _ _ _⟩, hB0⟩
    (fun x a' W => ∃ Bx, w.heap.size < Bx ∧ Blk W Bx #[.int .u32 (x.1 : Nat), .int .i64 x.2] 25 ∧ a' = { tmps := #[.slice none 0 0, .func (.func g) #[] lb, .pointer (some ⟨w.heap.size, 0, none⟩), undef, .slice none 0 0, .pointer (some ⟨Bx, 0, none⟩), .func (.func g) #[] lb, idV (x.1 : Nat) x.2, undef, undef, undef, undef, undef], defers := [] }) ?ax ?assign ?body ?done
  case abides =>
    rintro s A B row ⟨⟨v, hv, hr⟩, hb⟩ hg hrow
    have hwalk : ∀ j o, row = some j → A.heap[j]? = some o → o.isCells = false := fun j o e ho => by
      obtain ⟨_, o', h1, h2⟩ := hrow j e
      rw [ho] at h1
      cases h1
      cases o <;> first | rfl | cases h2
    refine ⟨⟨v, hv.kept hg (fun e => ?_), row_abides hr hg hwalk⟩, hb.trans ⟨hg.os, hg.tape, hg.output, hg.size, fun k hk => hg.block k (by have := hb.size; omega) (fun e => ?_)⟩⟩
    · have := hwalk w.heap.size _ e.symm hv
      cases this
    · obtain ⟨h1, _⟩ := hrow k e.symm
      simp at h1
      omega
  case put =>
    rintro pre A l o o' hl ⟨⟨v, hv, hr⟩, hb⟩ ho hc
    have hl' : w.heap.size < l := by simp at hl; omega
    exact ⟨⟨v, (World.putObj_heap_other (by omega)).trans hv, ownsRow_putObj hr o' ho hc⟩, hb.trans (below_put A o' (by omega))⟩
  case ax =>
    rintro x a' A l o ⟨r, hr⟩ ⟨Bx, h1, h2, h3⟩
    refine ⟨Bx, h1, (World.putObj_heap_other (fun e => ?_)).trans h2, h3⟩
    subst e
    have : A.heap[Bx]? = some (.cells #[.int .u32 (x.1 : Nat), .int .i64 x.2] 25 (0, 0)) := h2
    rw [hr] at this
    cases this
  case assign =>
    rintro l pre x W K ⟨⟨v, hv, hr⟩, hb⟩ hK
    have hlt := hv.lt
    gi_wp2
    exact hK _ _ (KeepsOthers.alloc _ _) ⟨⟨v, hv.alloc _, hr.alloc _⟩, hb.alloc hb.size _⟩ ⟨W.heap.size, hlt, Blk.new W _ _, rfl⟩
  case body =>
    rintro l pre x a' W ⟨⟨v, hv, hrow⟩, hB⟩ ⟨Bx, hBx, hX, rfl⟩ hlt
    have hc := hv.cell
    have x0 := hX.cell (i := 0) rfl
    have x1 := hX.cell (i := 1) rfl
    gi_wp2_with (gi_at_builtin; refine wpListIn_append_own _ rfl _ _ 38 rfl w.heap.size 25 i0 (idV 0 0) 2 16 Tryz.underlying38 hi hz0 hz1 hz2 rfl (by decide) _ _ _ rfl (hrow.alloc _) ⟨W.heap.size, 0, none⟩ 1 1 [.int .u32 (x.1 : Nat), .int .i64 x.2] rfl rfl (two_new W _ _ _ _ rfl) (by simp [Value.oneCell']) (by unfold maxLen; omega) (by omega) (by have := hB.size; simp; omega) ?_; intro v' w1 hown' hgrow _; obtain ⟨g', cap', rfl⟩ := ownsRow_succ hown'; obtain ⟨hv1, hv2, hr2, hk2, hb2⟩ := hv.appended (by decide) hrow hB.size (Nat.le_refl _) hown' hgrow; have hc1 := hv1.cell; have hf1 := hv1.frozen)
    refine ⟨⟨_, hv2, ?_⟩, hB.trans hb2⟩
    rw [idCells_append]
    exact hr2
  case done =>
    rintro D ys W hD hS ⟨⟨v, hv, hrow⟩, hB⟩ hK
    have hc := hv.cell
    gi_wp2
    refine ⟨by simp, .inl ⟨_, _, rfl, run_takeDeferred hK, ?_⟩⟩
    exact ⟨_, results_tmp rfl _ _ _, v, ys, rfl, hS, ownsRow_putObj hrow _ hK rfl, hB.trans (below_put _ _ (by simp at hD; omega))⟩
set_option maxHeartbeats 1000000 in
theorem collectI_in (n : Nat) (hn : 4 ≤ n) (g : Nat) (lb : Array Value) (eg : ∀ args w, (callFunc g args).run Tryz.prog w = .ok (.enter g args) w) (S : List (Nat × Int) → Prop) (N : Nat) (hN : N ≤ 50000) (w : World)
    (hseq : SeqW Fence.wide (n - 1 - 1) Tryz.prog g lb (fun x : Nat × Int => #[idV (x.1 : Nat) x.2]) S N w) :
    CallsIn Fence.wide n Tryz.prog 83 #[.func (.func g) #[] lb] w fun e w' => ∃ v xs, e = .returned v ∧ S xs ∧ w'.ownsRow w.heap.size 25 2 v xs.length (idCells xs) ∧ Below w.heap.size w w' := by
  have h1 : 1 ≤ n := by omega
  refine callsIn_of_wp Tryz.func83 rfl trivial ?_ rfl
  simp only [Tryz.ntmps83, List.size_toArray, List.length_cons, List.length_nil, Nat.reduceAdd, Nat.reduceSub, Array.replicate_succ, Array.replicate_zero, List.push_toArray, List.append_toArray, List.nil_append, List.cons_append]
  gi_wp2_with (refine ⟨trivial, ?_⟩; gi_at_call 141; refine (appendSeqI_in (n - 1) (by omega) g lb eg S N hN _ _ (Below.refl _ _) hseq).mono ?_; rintro e w' ⟨v, xs, rfl, hS, hrow, hb⟩)
  go_ret
  exact ⟨v, xs, rfl, hS, hrow, hb⟩
end Go.Proofs.YtjdobbjdlighpabGreatDoor
