/-
  Own text. scrub.binsOf by a contract: the bins of a node, by reps; each one's pieces lie in a block of their own.
  Own text. scrub.Of by a contract: a node that keeps its invariant is right.
  Own text. cornbinlaw2's faulted at the right number and place, by a contract.
  Own text. scrubbed: it returns true.
  Own text. One more use told of a piece: what is right stays right but for uses; the first error is there.
-/
import Derived.Test.YteefjbdejcpepabGreatDoorG10
import Derived.Test.YteefjbdejcpepabGreatDoorG30
import Derived.Test.YteefjbdejcpepabGreatDoorG29
import Derived.Deep.AppendLies
import Derived.Test.YteefjbdejcpepabGreatDoorG32
import Derived.Test.YteefjbdejcpepabGreatDoorG31
import Derived.Test.YteefjbdejcpepabGreatDoorG04
namespace Go.Proofs.YteefjbdejcpepabGreatDoor
open Go.RowKit Go.Maps Go.Sort Go.Shelf

theorem HeldsOwn.off {F : Nat → Prop} {base : Nat} {w w' : World} {v : Value} {l : List Hd} (h : HeldsOwn base w v l) (ho : Off F w w') (hn : l ≠ [] → ∀ k, v.ownBlock = some k → ¬ F k) : HeldsOwn base w' v l := by
  by_cases hl : l = []
  · subst hl
    obtain ⟨⟨p, c, rfl, _⟩, _⟩ := h
    exact ⟨⟨p, c, rfl, fun i hi => by simp at hi⟩, fun hne => absurd rfl hne⟩
  · obtain ⟨g, c, hv, hg, hf⟩ := h.2 hl
    have hlt : g < w.heap.size := by
      obtain ⟨p, c', hv', hc⟩ := h.1
      obtain ⟨b, o, hp, ⟨hb, _⟩, _⟩ := hc 0 (List.length_pos_iff.2 hl)
      subst hp
      have : b = g := by rw [hv] at hv'; simp at hv'; exact hv'.1.1.symm
      omega
    have hgn : ¬ F g := hn hl g (by rw [hv]; rfl)
    exact ⟨h.1.off ho (hn hl), fun _ => ⟨g, c, hv, hg, (World.frozen?_of_block (w := w) (ho.block g hlt hgn)).trans hf⟩⟩
theorem HeldsOwn.below {base : Nat} {w w' : World} {v : Value} {l : List Hd} (h : HeldsOwn base w v l) (hb : Below w.heap.size w w') : HeldsOwn base w' v l :=
  h.off (Off.of_below (F := fun _ => False) hb) (fun _ _ _ h => h)
theorem HeldsOwn.mono {b b' : Nat} {w : World} {v : Value} {l : List Hd} (h : HeldsOwn b w v l) (hb : b' ≤ b) : HeldsOwn b' w v l :=
  ⟨h.1, fun hne => by obtain ⟨g, c, h1, h2, h3⟩ := h.2 hne; exact ⟨g, c, h1, Nat.le_trans hb h2, h3⟩⟩
theorem HeldsOwn.own {b : Nat} {w : World} {v : Value} {l : List Hd} (h : HeldsOwn b w v l) (hne : l ≠ []) {j : Nat} (hj : v.ownBlock = some j) : b ≤ j ∧ j < w.heap.size := by
  obtain ⟨g, c, hv, hg, _⟩ := h.2 hne
  obtain ⟨p, c', hv', hc⟩ := h.1
  obtain ⟨b', o, hp, ⟨hb, _⟩, _⟩ := hc 0 (List.length_pos_iff.2 hne)
  subst hp
  have e1 : b' = g := by rw [hv] at hv'; simp at hv'; exact hv'.1.1.symm
  have e2 : g = j := by rw [hv] at hj; simpa [Value.ownBlock] using hj
  omega
abbrev BP := NBin × Value
def ldCells : List BP → List Value
  | [] => []
  | q :: r => .int .u32 (q.1.1.1 : Nat) :: .int .i64 q.1.1.2 :: q.2 :: ldCells r
theorem ldCells_append : ∀ (a b : List BP), ldCells (a ++ b) = ldCells a ++ ldCells b
  | [], _ => rfl
  | x :: r, b => by rw [List.cons_append, ldCells, ldCells_append r b, ldCells]; rfl
theorem ldCells_at : ∀ (a : List BP) (i : Nat) (h : i < a.length), (ldCells a)[i * 3]? = some (.int .u32 (a[i].1.1.1 : Nat)) ∧ (ldCells a)[i * 3 + 1]? = some (.int .i64 a[i].1.1.2) ∧ (ldCells a)[i * 3 + 2]? = some a[i].2
  | x :: r, 0, _ => ⟨rfl, rfl, rfl⟩
  | x :: r, i + 1, h => by
    have := ldCells_at r i (by simpa using h)
    rw [ldCells, show (i + 1) * 3 = i * 3 + 1 + 1 + 1 by omega]
    simpa using this
abbrev loadV (v : Value) : Value := .agg #[.int .u32 0, .int .i64 0, v]
theorem infoLoad : (Tryz.prog.info? 60).map (fun i => (i.zero, i.size, i.bytes)) = some (some (loadV (.slice none 0 0)), 3, 40) := by kernel_rfl
/- Rows of bins as they grow. -/
structure BnsSt (base : Nat) (W : World) (v : Value) (ps : List BP) : Prop where
  row : W.ownsRow base 60 3 v ps.length (ldCells ps)
  helds : ∀ q ∈ ps, HeldsOwn base W q.2 q.1.2
  off : ∀ q ∈ ps, q.1.2 ≠ [] → ∀ j, q.2.ownBlock = some j → v.ownBlock ≠ some j
  apart : ps.Pairwise (fun a b => a.1.2 ≠ [] → b.1.2 ≠ [] → ∀ j, a.2.ownBlock = some j → b.2.ownBlock ≠ some j)
theorem row_mono {b b' : Nat} {W : World} {e : TypeId} {size : Nat} {v : Value} {n : Nat} {xs : List Value} (h : W.ownsRow b e size v n xs) (hb : b' ≤ b) : W.ownsRow b' e size v n xs := by
  obtain ⟨h0, h⟩ := h
  refine ⟨h0, ?_⟩
  rcases h with h | ⟨g, cap, cur, h1, h2, h3⟩
  · exact .inl h
  · exact .inr ⟨g, cap, cur, h1, Nat.le_trans hb h2, h3⟩
theorem BnsSt.mono {b b' : Nat} {W : World} {v : Value} {ps : List BP} (h : BnsSt b W v ps) (hb : b' ≤ b) : BnsSt b' W v ps :=
  ⟨row_mono h.row hb, fun q hq => (h.helds q hq).mono hb, h.off, h.apart⟩
theorem BnsSt.nil (base : Nat) (W : World) : BnsSt base W (.slice none 0 0) [] := ⟨World.ownsRow_nil _ _ _ _, fun q hq => by simp at hq, fun q hq => by simp at hq, List.Pairwise.nil⟩
theorem BnsSt.next {base : Nat} {W W' : World} {v : Value} {ps : List BP} (h : BnsSt base W v ps) (hb : Below W.heap.size W W') : BnsSt base W' v ps :=
  ⟨row_below h.row hb, fun q hq => (h.helds q hq).below hb, h.off, h.apart⟩
theorem BnsSt.app {base : Nat} {W W' : World} {v v' : Value} {ps : List BP} {q : BP} (h : BnsSt base W v ps) (hq : HeldsOwn base W q.2 q.1.2) (hn : q.1.2 ≠ [] → ∀ j, q.2.ownBlock = some j → v.ownBlock ≠ some j ∧ ∀ x ∈ ps, x.1.2 ≠ [] → x.2.ownBlock ≠ some j) (hg : W.grownBy W' v.ownBlock) (hr : W'.ownsRow base 60 3 v' (ps.length + 1) (ldCells (ps ++ [q]))) (hv : v'.ownBlock = v.ownBlock ∨ v'.ownBlock = some W.heap.size) : BnsSt base W' v' (ps ++ [q]) := by
  have ho := off_of_rowgrown hg
  have hall : ∀ x ∈ ps ++ [q], HeldsOwn base W x.2 x.1.2 ∧ (x.1.2 ≠ [] → ∀ j, x.2.ownBlock = some j → v.ownBlock ≠ some j) := fun x hx => by
    rcases List.mem_append.1 hx with hx | hx
    · exact ⟨h.helds x hx, h.off x hx⟩
    · rw [List.mem_singleton.1 hx]
      exact ⟨hq, fun hne j hj => (hn hne j hj).1⟩
  refine ⟨by rw [List.length_append]; exact hr, fun x hx => (hall x hx).1.off ho (fun hne j hj e => (hall x hx).2 hne j hj e), fun x hx hne j hj e => ?_, ?_⟩
  · rcases hv with hv | hv
    · exact (hall x hx).2 hne j hj (hv ▸ e)
    · have := ((hall x hx).1.own hne hj).2
      rw [hv] at e
      have := Option.some.inj e
      omega
  · rw [List.pairwise_append]
    refine ⟨h.apart, List.pairwise_singleton _ _, fun x hx y hy hx1 hy1 j hj e => ?_⟩
    rw [List.mem_singleton.1 hy] at hy1 e
    exact (hn hy1 j e).2 x hx hx1 hj
theorem BnsSt.at {base : Nat} {W : World} {v : Value} {ps : List BP} (h : BnsSt base W v ps) : LoadsAt W v (ps.map (·.1)) := by
  rcases h.row.2 with ⟨rfl, e⟩ | ⟨g, cap, cur, hv, _, hb, _⟩
  · have : ps = [] := List.length_eq_zero_iff.1 e
    subst this
    exact ⟨none, 0, rfl, fun i hi => by simp at hi⟩
  · refine ⟨some ⟨g, 0, none⟩, cap, by rw [hv, List.length_map], fun i hi => ?_⟩
    have hi' : i < ps.length := by simpa using hi
    obtain ⟨a0, a1, a2⟩ := ldCells_at ps i hi'
    have c0 := h.row.cells (g := g) (by rw [hv]; rfl) (i * 3) _ a0
    have c1 := h.row.cells (g := g) (by rw [hv]; rfl) (i * 3 + 1) _ a1
    have c2 := h.row.cells (g := g) (by rw [hv]; rfl) (i * 3 + 2) _ a2
    simp only [add_plain] at c0 c1 c2
    refine ⟨g, 0, ps[i].2, rfl, ?_⟩
    simp only [List.getElem_map, Nat.zero_add]
    exact ⟨lt_of_block hb, c0, c1, c2, (h.helds _ (List.getElem_mem hi')).1⟩
theorem bins_named {st : NSt} (hap : st.bins.Pairwise (fun f g => f.1 ≠ g.1)) {RS : List (Nat × Int)} (hp : RS.Perm (st.bins.map (·.1))) : (RS.map fun n => (n, (nBin st.bins n).getD [])).Perm st.bins := by
  refine (hp.map _).trans ?_
  rw [List.map_map]
  have : st.bins.map ((fun n => (n, (nBin st.bins n).getD [])) ∘ (·.1)) = st.bins := by
    conv => rhs; rw [← List.map_id st.bins]
    refine List.map_congr_left fun f hf => ?_
    simp only [Function.comp, id]
    rw [nBin_of_mem hap (show (f.1, f.2) ∈ st.bins from hf)]
    rfl
  rw [this]
theorem PNode.bapart {w : World} {p : Addr} {F : Nat → Prop} {st : NSt} (hP : PNode w p F st) : st.bins.Pairwise (fun f g => f.1 ≠ g.1) := by
  obtain ⟨N, mf, mb, vi, pi, Fi, _, h, _⟩ := hP
  have := h.bins.apart
  rw [List.pairwise_map] at this
  exact this
set_option maxRecDepth 100000 in
set_option maxHeartbeats 8000000 in
theorem binsOf_any (p : Addr) (F : Nat → Prop) (st : NSt) (w : World) (hbk : ∀ b ∈ st.bins, BinOk 1000000 b.2 ∧ WfID b.1) (hn : st.bins.length ≤ 100) (hP : PNode w p F st) :
    Calls Tryz.prog 61 #[.pointer (some p)] w fun e w' => ∃ (v : Value) (ps : List BP), e = .returned v ∧ (ps.map (·.1)).Perm st.bins ∧ (ps.map (·.1)).Pairwise (fun f g => lessB f.1 g.1 = true) ∧ BnsSt w.heap.size w' v ps ∧ Below w.heap.size w w' := by
  have HAP := hideN hP.bapart
  have HP := hideN hP
  have HBK := hideN hbk
  obtain ⟨iR, hiR, zR0, zR1, zR2⟩ := info_parts infoLoad
  have HNM := hideN (nodeReps_any p F st w (by omega) hP)
  clear hP hbk
  go_enter Tryz.func61, Tryz.ntmps61
  go_wp2_with fail
  refine HNM.out.mono ?_
  rintro e w1 ⟨vn, NS, rfl, hs1, hs2, hids, hb1⟩
  have HS1 := hideN hs1
  have HS2 := hideN hs2
  have HB1 := hideN hb1
  have HPE := hideN (bins_named HAP.out hs1)
  have hnl : (NS.length : Int) ≤ 100 := by have := hs1.length_eq; rw [List.length_map] at this; omega
  obtain ⟨pn, cn, hvn, hcell⟩ := hids
  have HCN := hideN hcell
  subst hvn
  clear hs1 hs2 hb1 HNM hcell
  go_wp2_with fail
  go_loopw [3, 9] (fun v iv wr => ∃ (k : Nat) (ps : List BP), k ≤ NS.length ∧ iv = .int .i64 k ∧ Hid (ps.map (·.1) = (NS.take k).map (fun n => (n, (nBin st.bins n).getD []))) ∧ Hid (BnsSt w1.heap.size wr v ps) ∧ Hid (Below w1.heap.size w1 wr)) (fun _ iv _ => NS.length - (intOf iv).toNat)
  case atStart => exact ⟨0, [], Nat.zero_le _, rfl, rfl, BnsSt.nil _ _, Below.refl _ _⟩
  case round =>
    obtain ⟨k, ps, hk, rfl, HPS, HFS, HB⟩ := hrel
    have HPL : Hid (ps.length = k) := by
      show _ = _
      have := congrArg List.length HPS.out
      rw [List.length_map, List.length_map, List.length_take] at this
      omega
    by_cases hlt : k < NS.length
    · have hlt' : (k : Int) < (NS.length : Int) := by omega
      have hk0 : (0 : Int) ≤ (k : Int) := by omega
      obtain ⟨g, og, rfl, hgl, e0, e1⟩ := HCN.out k hlt
      have d0 := (HB.out.cell (p := ⟨g, og + k * 2, none⟩) (lt_of_cell e0)).trans e0
      have d1 := (HB.out.cell (p := ⟨g, og + k * 2 + 1, none⟩) (lt_of_cell e0)).trans e1
      have HTK := hideN (List.take_succ_eq_append_getElem hlt)
      have hxm : NS[k] ∈ st.bins.map (·.1) := HS1.out.mem_iff.1 (List.getElem_mem hlt)
      obtain ⟨x, hx⟩ : ∃ x, NS[k] = x := ⟨_, rfl⟩
      rw [hx] at d0 d1 HTK hxm
      obtain ⟨⟨⟨xp, xl⟩, l⟩, hf, rfl⟩ := List.mem_map.1 hxm
      simp only at d0 d1 HTK
      have hnf := nBin_of_mem HAP.out hf
      have HNF := hideN hnf
      obtain ⟨hok, hwf⟩ := HBK.out _ hf
      have HOK := hideN hok
      have HBIN : Hid (∀ W', Below w.heap.size w W' → Calls Tryz.prog 14 #[.pointer (some p), idV (xp : Nat) xl] W' fun e w' => ∃ p' F', e = .returned (.pointer (some p')) ∧ PBin0 w' p' F' l ∧ Below W'.heap.size W' w') := fun W' hb => by
        have h := nodeBin_any (xp, xl) p F st W' hwf (HP.out.below hb)
        rw [hnf] at h
        exact h.mono fun e w' ⟨⟨p', F', h1, h2, _⟩, h4⟩ => ⟨p', F', h1, h2, h4⟩
      have hal5 := (Below.refl wr.heap.size wr).alloc (Nat.le_refl _) (.cells #[.int .u32 (xp : Nat), .int .i64 xl] 25)
      have HR5 := hideN (Blk.new wr #[.int .u32 (xp : Nat), .int .i64 xl] 25)
      have HFS5 := hideN (HFS.out.next hal5)
      have HB5 : Hid (Below w1.heap.size w1 _) := hideN (HB.out.trans (hal5.mono HB.out.size))
      have HIBN : Hid (∀ j, u3.ownBlock = some j → j ≠ wr.heap.size) := fun j hj e => by have := (HFS.out.row.lt j hj).2; omega
      clear hal5 e0 e1 hx hxm hf hnf hok hwf hgl
      have HPLN : Hid (ps.length ≤ 100) := by show _ ≤ _; rw [HPL.out]; omega
      go_wp2_with fail
      generalize wr.alloc (.cells #[.int .u32 (xp : Nat), .int .i64 xl] 25) = W5 at *
      obtain ⟨IB, hIB⟩ : ∃ IB, wr.heap.size = IB := ⟨_, rfl⟩
      rw [hIB] at HR5 HIBN ⊢
      clear hIB
      have r0 := HR5.out.cell (i := 0) rfl
      have r1 := HR5.out.cell (i := 1) rfl
      have HCE : Hid (∀ W', Blk W' IB #[.int .u32 (xp : Nat), .int .i64 xl] 25 → W'.cell? ⟨IB, 0, none⟩ = some (.int .u32 (xp : Nat)) ∧ W'.cell? ⟨IB, 1, none⟩ = some (.int .i64 xl)) := fun W' h => ⟨h.cell (i := 0) rfl, h.cell (i := 1) rfl⟩
      have HBW5 : Hid (Below w.heap.size w W5) := HB1.out.trans (HB5.out.mono HB1.out.size)
      obtain ⟨pv, cv, hv⟩ : ∃ pv cv, u3 = .slice pv ps.length cv := by
        rcases HFS5.out.row.2 with ⟨e, e2⟩ | ⟨g', cap, cur, e, _⟩
        · exact ⟨none, 0, by rw [e, e2]⟩
        · exact ⟨_, _, e⟩
      subst hv
      clear HB HFS
      go_wp2_with fail
      go_region_held3 (fun w' => w'.cell? ⟨IB, 0, none⟩ = some (.int .u32 (xp : Nat)) ∧ w'.cell? ⟨IB, 1, none⟩ = some (.int .i64 xl)) (first | exact HCE.out _ HR9.out | exact HCE.out _ HR8.out | exact HCE.out _ HR7.out | exact HCE.out _ HR6.out | go_keep) (first
        | (go_at_call 14; refine (HBIN.out _ HBW5.out.drew).mono ?_; rintro e w6 ⟨p6, F6, rfl, hp6, hb6⟩; have hB6 : Below W5.heap.size W5 w6 := (Below.refl _ W5).drew.trans hb6; have HB6 := hideN hB6; have HP6 := hideN hp6; have HR6 := hideN (HR5.out.next hB6); clear hb6 hp6 hB6)
        | (go_at_call 31; refine (pAll_own p6 F6 l w6 HOK.out HP6.out).mono ?_; rintro e w7 ⟨v7, rfl, hh7, hb7⟩; have HR7 := hideN (HR6.out.next hb7); have HH7 := hideN hh7; have HB7 := hideN hb7; have HFS7 := hideN ((HFS5.out.next HB6.out).next hb7); obtain ⟨pq, cq, hv7⟩ : ∃ pq cq, v7 = .slice pq l.length cq := (by obtain ⟨p', c', h1, _⟩ := hh7.1; exact ⟨p', c', h1⟩); subst hv7; have HR8 := hideN (HR7.out.next ((Below.refl w7.heap.size w7).alloc (Nat.le_refl _) (.cells #[.int .u32 (xp : Nat), .int .i64 xl, .slice pq l.length cq] 60))); clear hh7 hb7)
        | (refine step_append_lies _ (by rfl) _ _ _ (by rfl) w1.heap.size 60 iR _ 3 40 Tryz.underlying54 hiR zR0 zR1 zR2 rfl (by decide) (.slice pv ps.length cv) ps.length _ (by rfl) (HFS7.out.row.alloc _) ⟨w7.heap.size, 0, none⟩ 1 1 [.int .u32 (xp : Nat), .int .i64 xl, .slice pq l.length cq] (by rfl) (by rfl) (World.news_of_block (cs := #[.int .u32 (xp : Nat), .int .i64 xl, .slice pq l.length cq]) (t := 60) (fr := (0, 0)) (heap_alloc_new w7 _)) (by simp [Value.oneCell']) (by omega) (by unfold maxLen; have := HPLN.out; omega) (by have := HPLN.out; omega) (by simp; have := HB5.out.size; have := HB6.out.size; have := HB7.out.size; omega) (w7.heap.size + 1) (by simp) ?_; intro gg cap w9 hown9 hgrow hat hglt; have HR9 := hideN (show Blk w9 IB _ _ from (hgrow.block _ HR8.out.lt (fun e => HIBN.out _ e.symm rfl)).trans HR8.out)))
      have hal8 := (Below.refl w7.heap.size w7).alloc (Nat.le_refl _) (.cells #[.int .u32 (xp : Nat), .int .i64 xl, .slice pq l.length cq] 60)
      have hsz : w1.heap.size ≤ W5.heap.size := HB5.out.size
      have hsz6 : W5.heap.size ≤ w6.heap.size := HB6.out.size
      have HFS9 : Hid (BnsSt w1.heap.size w9 (.slice (some ⟨gg, 0, none⟩) (ps.length + 1) cap) (ps ++ [(((xp, xl), l), .slice pq l.length cq)])) := (HFS7.out.next hal8).app (q := (((xp, xl), l), .slice pq l.length cq)) ((HH7.out.mono (Nat.le_trans hsz hsz6)).below hal8) (fun hne j hj => by
        have h6 := (HH7.out.own hne hj).1
        refine ⟨fun e => ?_, fun x hx hxn e => ?_⟩
        · have := (HFS5.out.row.lt j e).2
          omega
        · have := ((HFS5.out.helds x hx).own hxn e).2
          omega) hgrow (by rw [ldCells_append]; exact hown9) (by
        rcases hat with h | h
        · exact .inl h.symm
        · exact .inr (by rw [h]; simp [Value.ownBlock]))
      have hB8 : Below w1.heap.size w1 _ := ((HB5.out.trans (HB6.out.mono hsz)).trans (HB7.out.mono (Nat.le_trans hsz hsz6))).trans (hal8.mono (Nat.le_trans (Nat.le_trans hsz hsz6) HB7.out.size))
      have HB9 : Hid (Below w1.heap.size w1 w9) := hB8.trans ⟨hgrow.os, hgrow.tape, hgrow.output, hgrow.size, fun j hj => hgrow.block j (Nat.lt_of_lt_of_le hj hB8.size) (fun e => by have := row_ge HFS5.out.row e.symm; omega)⟩
      have HPS9 : Hid ((ps ++ [(((xp, xl), l), Value.slice pq l.length cq)]).map (·.1) = (NS.take (k + 1)).map (fun n => (n, (nBin st.bins n).getD []))) := by
        show _ = _
        rw [List.map_append, HPS.out, HTK.out, List.map_append]
        congr 1
        simp only [List.map_cons, List.map_nil]
        rw [HNF.out]
        rfl
      clear hown9 hgrow hat hglt hal8 hB8 r0 r1 d0 d1 hsz hsz6
      go_wp2_with fail
      go_roundw
      case rel => exact ⟨k + 1, _, hlt, by go_num, HPS9.out, HFS9.out, HB9.out⟩
      case measure => simp [intOf]; omega
    · have hge : (NS.length : Int) ≤ (k : Int) := by omega
      have hke : NS.take k = NS := List.take_of_length_le (by omega)
      rw [hke] at HPS
      clear hke
      go_wp2_with fail
      go_ret
      refine ⟨_, ps, rfl, by rw [HPS.out]; exact HPE.out, ?_, ?_, HB1.out.trans (HB.out.mono HB1.out.size)⟩
      · rw [HPS.out, List.pairwise_map]
        exact HS2.out
      · exact HFS.out.mono HB1.out.size
end Go.Proofs.YteefjbdejcpepabGreatDoor
namespace Go.Proofs.YteefjbdejcpepabGreatDoor
open Go.RowKit Go.Maps Go.Sort Go.Shelf

theorem firstErr_none {err : Nat → Int} (h : ∀ k, err k = 0) : ∀ (n k : Nat), firstErr err k n = none
  | 0, _ => rfl
  | n + 1, k => by
    rw [firstErr, if_neg (by rw [h]; simp)]
    exact firstErr_none h n (k + 1)
theorem binErrs_zero {fs : List Rcp} {bs : List NBin} (h : ∀ b ∈ bs, usesErr (cU (zeroU bs) fs) b = 0) : firstAns (binErrs fs bs) bs.length = (0, -1) := by
  unfold firstAns
  rw [firstErr_none (fun k => ?_)]
  unfold binErrs
  split
  · exact h _ (List.getElem_mem _)
  · rfl
theorem nok_bins {U : Int} {n : Nat} {st : NSt} (hok : NOk U n st) (hU : U ≤ 1000000) (hN : NFull st) : ∀ b ∈ st.bins, BinOk 1000000 b.2 ∧ WfID b.1 := fun b hb => by
  obtain ⟨f, _, e⟩ := hN.bhas b hb
  exact ⟨(hok.bins b hb).mono hU, by rw [← e]; exact repT_wf f.2⟩
set_option maxRecDepth 100000 in
set_option maxHeartbeats 4000000 in
theorem scrubOf_right (a : Nat → Addr) (p : Addr) (F : Nat → Prop) (U : Int) (n : Nat) (st : NSt) (w : World) (hI : NInv st) (hN : NFull st) (hok : NOk U n st) (hU : U ≤ 1000000) (hn : n ≤ 100) (hE : ErrE [1, 2, 3, 4, 6, 8, 10] w a) (hP : PNode w p F st) :
    Calls Tryz.prog 25 #[.pointer (some p)] w fun e w' => e = .returned .nilIface ∧ Below w.heap.size w w' := by
  have HEE : Hid (∀ W, Below w.heap.size w W → ErrE [1, 2, 3, 4, 6, 8, 10] W a) := fun W hb => hE.below hb (Nat.le_refl _)
  have HP := hideN hP
  have HF := hideN (filesOf_any a p F st w hok.files hN.fmany (hE.sub (by decide)) hP)
  have HBI : Hid (∀ W, Below w.heap.size w W → Calls Tryz.prog 61 #[.pointer (some p)] W fun e w' => ∃ (v : Value) (ps : List BP), e = .returned v ∧ (ps.map (·.1)).Perm st.bins ∧ (ps.map (·.1)).Pairwise (fun f g => lessB f.1 g.1 = true) ∧ BnsSt W.heap.size w' v ps ∧ Below W.heap.size W w') := fun W hb => binsOf_any p F st W (nok_bins hok hU hN) (Nat.le_trans hok.many hn) (HP.out.below hb)
  have HRT := hideN (fun (fl : List NFile) (bl : List NBin) hf hb hfo hbo => right_of hI hN hok hn (fl := fl) (bl := bl) hf hb hfo hbo)
  clear hE hP hI hN hok
  go_enter Tryz.func25, Tryz.ntmps25
  go_wp2_with fail
  refine HF.out.mono ?_
  rintro e w1 ⟨v1, fl, rfl, hp1, ho1, hr1, hb1⟩
  have HRT1 := hideN (fun (bl : List NBin) hb hbo => HRT.out fl bl hp1 hb ho1 hbo)
  obtain ⟨FS, hFS⟩ : ∃ FS, fl.map rcpOf = FS := ⟨_, rfl⟩
  rw [hFS] at hr1 HRT1
  obtain ⟨q1, c1, hv1, _⟩ := id hr1
  subst hv1
  have HB1 := hideN hb1
  have HR1 := hideN hr1
  clear hp1 ho1 hr1 hb1 HF HRT hFS
  go_wp2_with fail
  refine (HBI.out w1 HB1.out).mono ?_
  rintro e w2 ⟨v2, ps, rfl, hp2, ho2, hs2, hb2⟩
  have hl2 := hs2.at
  have hrx := HRT1.out _ hp2 ho2
  obtain ⟨BS, hBS⟩ : ∃ BS, ps.map (·.1) = BS := ⟨_, rfl⟩
  rw [hBS] at hl2 hrx
  obtain ⟨q2, c2, hv2, _⟩ := id hl2
  subst hv2
  have HB2 : Hid (Below w.heap.size w w2) := HB1.out.trans (hb2.mono HB1.out.size)
  have HL2 := hideN hl2
  have HR2 := hideN (HR1.out.below hb2)
  have HRX := hideN hrx
  clear hp2 ho2 hs2 hb2 hl2 hrx hBS HBI HRT1 HR1
  have HCK := hideN (scrubCheck_any a _ _ FS BS w2 HRX.out.1 HR2.out HL2.out (HEE.out _ HB2.out))
  go_wp2_with fail
  refine HCK.out.mono ?_
  rintro e w3 ⟨ev, rfl, he, hb3⟩
  rw [binErrs_zero HRX.out.2] at he
  obtain rfl := he.nil
  have HB3 : Hid (Below w.heap.size w w3) := HB2.out.trans (hb3.mono HB2.out.size)
  clear he hb3 HCK
  go_wp2_with fail
  go_ret
  exact ⟨rfl, HB3.out⟩
end Go.Proofs.YteefjbdejcpepabGreatDoor
namespace Go.Proofs.YteefjbdejcpepabGreatDoor
open Go.RowKit

set_option maxHeartbeats 2000000 in
theorem faulted2_true (a : Nat → Addr) (v : Value) (f : Int × Int) (w : World) (hE : ErrW w a) (h : ErrIs w a v f) :
    Calls Tryz.prog 21 #[v, faultV f.1 f.2] w fun e w' => e = .returned (.bool true) ∧ Below w.heap.size w w' := by
  obtain ⟨c, p⟩ := f
  have HB : Hid (∀ o, Below w.heap.size w (w.alloc o)) := fun o => (Below.refl _ w).alloc (Nat.le_refl _) o
  have HE : Hid (ErrW w a) := hE
  have HI : Hid (ErrIs w a v (c, p)) := h
  have hcc : (c == c) = true := by simp
  have hpp : (p == p) = true := by simp
  clear hE h
  go_enter Tryz.func21, Tryz.ntmps21
  go_wp2_with fail
  refine ((HI.out.below (HB.out _)).code (HE.out.below (HB.out _) (Nat.le_refl _))).mono ?_
  rintro e w1 ⟨rfl, hb1⟩
  have hb : Below w.heap.size w w1 := (HB.out _).trans (hb1.mono (by simp))
  have k0 : w1.cell? ⟨w.heap.size, 0, none⟩ = some (.int .i64 c) := (hb1.cell (p := ⟨w.heap.size, 0, none⟩) (by simp)).trans (by simp)
  have k1 : w1.cell? ⟨w.heap.size, 1, none⟩ = some (.int .i64 p) := (hb1.cell (p := ⟨w.heap.size, 1, none⟩) (by simp)).trans (by simp)
  clear hb1
  by_cases h0 : c = 0
  · have hc0 : (c == 0) = true := by rw [beq_iff_eq]; exact h0
    clear h0
    go_wp2_with fail
    go_ret
    exact ⟨rfl, hb⟩
  · have hc0 : (c == 0) = false := by rw [beq_eq_false_iff_ne]; exact h0
    clear h0
    go_wp2_with fail
    go_ret
    exact ⟨rfl, hb⟩

end Go.Proofs.YteefjbdejcpepabGreatDoor
namespace Go.Proofs.YteefjbdejcpepabGreatDoor
open Go.RowKit Go.Maps

abbrev helloS : ByteArray := ⟨#[104, 101, 108, 108, 111]⟩
theorem ok1s : NOk 4000 1 st1 := by
  have := NOk.empty.put (by decide) [97] helloL
  rw [put1] at this
  exact this
theorem inv1s : NInv st1 := by
  have := NInv.empty.put NOk.empty (by decide) [97] helloL
  rw [put1] at this
  exact this
theorem full1s : NFull st1 := by
  have := NFull.empty.put [97] helloL
  rw [put1] at this
  exact this
theorem files1s : FilesIn [rcpOf ([97], helloL)] := (right_of (fl := [([97], helloL)]) (bl := st1.bins) inv1s full1s ok1s (by decide) (List.Perm.refl _) (List.Perm.refl _) (List.pairwise_singleton _ _) (List.pairwise_singleton _ _)).1.toFilesIn
set_option maxRecDepth 100000 in
set_option maxHeartbeats 4000000 in
theorem scrubbed_any (a : Nat → Addr) (w : World) (hE : ErrW w a) :
    Calls Tryz.prog 16 #[] w fun e w' => e = .returned (.bool true) ∧ Below w.heap.size w w' := by
  have HEE : Hid (∀ W, Below w.heap.size w W → ErrW W a) := fun W hb => hE.below hb (Nat.le_refl _)
  clear hE
  go_enter Tryz.func16, Tryz.ntmps16
  go_wp2_with fail
  refine (nNew_any w).mono ?_
  rintro e w1 ⟨p, F1, rfl, hP1, hF1, hb1⟩
  have HB1 := hideN hb1
  have HP1 := hideN hP1
  have HF1 := hideN hF1
  clear hb1 hP1 hF1
  go_wp2_with fail
  refine (nodePut_any a ⟨#[97]⟩ helloS p F1 0 ⟨[], []⟩ w1 (by decide) (by decide) ⟨by decide, by decide⟩ (fun b hb => by simp at hb) (by simp) ((HEE.out _ HB1.out).on (by decide)) HP1.out).mono ?_
  rw [show (⟨#[97]⟩ : ByteArray).data.toList = [97] from rfl, show helloS.data.toList = helloL from rfl, put1]
  rintro e w2 ⟨ev2, F2, rfl, he2, hP2, hF2, ho2⟩
  simp only at he2 hP2
  obtain rfl := he2.nil
  have HB2 : Hid (Below w.heap.size w w2) := HB1.out.trans (ho2.below HB1.out.size (fun j hj hF => by have := HF1.out j hF; omega))
  have HP2 := hideN hP2
  clear he2 hP2 hF2 ho2 HP1 HF1 HB1
  have HRC := hideN (nodeRecipe_any a ⟨#[97]⟩ p F2 st1 w2 (by decide) (fun f hf => by rw [idsOf_length]; have := pieces_250 _ (ok1s.files f hf).1; omega) ((HEE.out _ HB2.out).on (by decide)) HP2.out)
  unfold RecPost at HRC
  rw [show nFile st1.files (⟨#[97]⟩ : ByteArray).data.toList = some helloL by decide] at HRC
  go_wp2_with fail
  refine HRC.out.mono ?_
  rintro e w3 ⟨⟨v3, rfl, hi3⟩, hb3⟩
  obtain ⟨q3, c3, hv3, _⟩ := id hi3
  have hlen : (idsOf helloL).length = 1 := by rw [idsOf_length, helloPieces]; rfl
  rw [hlen] at hv3
  subst hv3
  obtain ⟨PP, hPP⟩ : ∃ PP : Nat, pmore 2166136261 helloL = PP := ⟨_, rfl⟩
  rw [hPP]
  have HPP := hideN hPP
  have hal4 := (Below.refl w3.heap.size w3).alloc (Nat.le_refl _) (.cells #[.string ⟨#[97]⟩, .int .i64 5, .int .u32 (PP : Nat), .slice q3 1 c3] 40)
  have HB4 : Hid (Below w.heap.size w _) := hideN ((HB2.out.trans (hb3.mono HB2.out.size)).trans (hal4.mono (Nat.le_trans HB2.out.size hb3.size)))
  have HP4 := hideN ((HP2.out.below hb3).below hal4)
  have HX4 := hideN (Blk.new w3 #[.string ⟨#[97]⟩, .int .i64 5, .int .u32 (PP : Nat), .slice q3 1 c3] 40)
  have HI4 := hideN (hi3.at.below hal4)
  clear hi3 hb3 hal4 HRC HP2 HB2 hPP hlen
  go_wp2_with fail
  obtain ⟨W4, hW4⟩ : ∃ W4, w3.alloc (.cells #[.string ⟨#[97]⟩, .int .i64 5, .int .u32 (PP : Nat), .slice q3 1 c3] 40) = W4 := ⟨_, rfl⟩
  obtain ⟨RB, hRB⟩ : ∃ RB, w3.heap.size = RB := ⟨_, rfl⟩
  rw [hW4] at HB4 HP4 HX4 HI4 ⊢
  rw [hRB] at HX4 ⊢
  clear hW4 hRB
  have HOF := hideN (scrubOf_right a p F2 4000 1 st1 W4 inv1s full1s ok1s (by decide) (by decide) ((HEE.out _ HB4.out).on (by decide)) HP4.out)
  refine HOF.out.mono ?_
  rintro e w5 ⟨rfl, hb5⟩
  have HX5 := hideN (HX4.out.next hb5)
  have r0 := HX5.out.cell (i := 0) rfl
  have r1 := HX5.out.cell (i := 1) rfl
  have r2 := HX5.out.cell (i := 2) rfl
  have r3 := HX5.out.cell (i := 3) rfl
  have hal6 := (Below.refl w5.heap.size w5).alloc (Nat.le_refl _) (.cells #[.string ⟨#[97]⟩, .int .i64 5, .int .u32 (PP : Nat), .slice q3 1 c3] 40)
  have HB6 : Hid (Below w.heap.size w _) := hideN ((HB4.out.trans (hb5.mono HB4.out.size)).trans (hal6.mono (Nat.le_trans HB4.out.size hb5.size)))
  have HX6 := hideN (Blk.new w5 #[.string ⟨#[97]⟩, .int .i64 5, .int .u32 (PP : Nat), .slice q3 1 c3] 40)
  have HI6 := hideN ((HI4.out.below hb5).below hal6)
  clear hb5 hal6 HOF HI4 HP4 HB4 HX4 HX5
  go_wp2_with fail
  clear r0 r1 r2 r3
  obtain ⟨W6, hW6⟩ : ∃ W6, w5.alloc (.cells #[.string ⟨#[97]⟩, .int .i64 5, .int .u32 (PP : Nat), .slice q3 1 c3] 40) = W6 := ⟨_, rfl⟩
  obtain ⟨SB, hSB⟩ : ∃ SB, w5.heap.size = SB := ⟨_, rfl⟩
  rw [hW6] at HB6 HX6 HI6 ⊢
  rw [hSB] at HX6 ⊢
  clear hW6 hSB
  have hra : RcpsAt W6 (.slice (some ⟨SB, 0, none⟩) 1 1) [rcpOf ([97], helloL)] := ⟨some ⟨SB, 0, none⟩, 1, rfl, fun i hi => by
    obtain rfl : i = 0 := by simp at hi; exact hi
    refine ⟨SB, 0, .slice q3 1 c3, rfl, HX6.out.lt, HX6.out.cell (i := 0) rfl, HX6.out.cell (i := 1) rfl, ?_, HX6.out.cell (i := 3) rfl, HI6.out⟩
    have := HX6.out.cell (i := 2) rfl
    rw [← HPP.out] at this
    exact this⟩
  have HCK := hideN (scrubCheck_none a _ _ W6 files1s hra ((HEE.out _ HB6.out).on (by decide)))
  clear hra
  refine HCK.out.mono ?_
  rintro e w7 ⟨ev, rfl, he, hb7⟩
  have HE7 := hideN he.at
  have HB7 : Hid (Below w.heap.size w w7) := HB6.out.trans (hb7.mono HB6.out.size)
  clear he hb7 HCK
  have HFT := hideN (faulted2_true a ev (5, 0) w7 (HEE.out _ HB7.out) HE7.out)
  go_wp2_with fail
  refine HFT.out.mono ?_
  rintro e w8 ⟨rfl, hb8⟩
  go_wp2_with fail
  go_ret
  exact ⟨rfl, HB7.out.trans (hb8.mono HB7.out.size)⟩
end Go.Proofs.YteefjbdejcpepabGreatDoor
namespace Go.Proofs.YteefjbdejcpepabGreatDoor
open Go.RowKit Go.Maps

def bare (h : Hd) : Hd := (h.1, 0, h.2.2)
def bareBin (b : NBin) : NBin := (b.1, b.2.map bare)
theorem strip_any (l : List Hd) (x : Nat × Int) : (l.map bare).any (fun h => decide (h.1 = x)) = l.any (fun h => decide (h.1 = x)) := by
  rw [List.any_map]
  rfl
theorem nBin_strip : ∀ (bs : List NBin) (x : Nat × Int), nBin (bs.map bareBin) x = (nBin bs x).map (fun l => l.map bare)
  | [], _ => rfl
  | b :: r, x => by
    have ih := nBin_strip r x
    by_cases e : b.1 = x
    · simp [nBin, bareBin, e]
    · simp [nBin, bareBin, e] at ih ⊢
      exact ih
theorem zeroF_strip (bs : List NBin) : zeroF (bs.map bareBin) = zeroF bs := by
  funext r
  unfold zeroF
  rw [List.any_map]
  rfl
theorem zeroU_strip (bs : List NBin) : zeroU (bs.map bareBin) = zeroU bs := by
  funext u
  unfold zeroU
  rw [nBin_strip]
  cases nBin bs u.1 with
  | none => rfl
  | some l =>
    simp only [Option.map_some]
    rw [strip_any]
theorem rise_strip (l : List Hd) : Rise (l.map bare) ↔ Rise l := by
  unfold Rise
  rw [List.pairwise_map]
  rfl
theorem RightIn.bared {fs : List Rcp} {bs : List NBin} (h : RightIn fs bs) : RightIn fs (bs.map bareBin) := by
  refine ⟨h.toFilesIn, ?_, ?_, ?_, ?_, ?_, ?_, ?_, ?_⟩
  · rw [zeroF_strip, zeroU_strip]
    exact h.fadd
  · rw [List.length_map]
    exact h.bmany
  · intro b0 hb0
    obtain ⟨b, hb, rfl⟩ := List.mem_map.1 hb0
    show (b.2.map bare).length ≤ _
    rw [List.length_map]
    exact h.blen b hb
  · intro b0 hb0
    obtain ⟨b, hb, rfl⟩ := List.mem_map.1 hb0
    refine ⟨(h.bwf b hb).1, fun x0 hx0 => ?_⟩
    obtain ⟨x, hx, rfl⟩ := List.mem_map.1 hx0
    exact (h.bwf b hb).2 x hx
  · intro i hi h0
    rw [List.length_map] at hi
    simp only [List.getElem_map]
    exact h.border i hi h0
  · intro b0 hb0
    obtain ⟨b, hb, rfl⟩ := List.mem_map.1 hb0
    rw [zeroF_strip]
    exact h.bpos b hb
  · intro b0 hb0 x0 hx0
    obtain ⟨b, hb, rfl⟩ := List.mem_map.1 hb0
    obtain ⟨x, hx, rfl⟩ := List.mem_map.1 hx0
    exact h.bids b hb x hx
  · intro b0 hb0
    obtain ⟨b, hb, rfl⟩ := List.mem_map.1 hb0
    exact (rise_strip _).2 (h.brise b hb)
theorem RightIn.unbared {fs : List Rcp} {bs : List NBin} (h : RightIn fs (bs.map bareBin)) : RightIn fs bs := by
  refine ⟨h.toFilesIn, ?_, ?_, ?_, ?_, ?_, ?_, ?_, ?_⟩
  · have := h.fadd
    rwa [zeroF_strip, zeroU_strip] at this
  · have := h.bmany
    rwa [List.length_map] at this
  · intro b hb
    have := h.blen _ (List.mem_map_of_mem hb)
    change (b.2.map bare).length ≤ _ at this
    rwa [List.length_map] at this
  · intro b hb
    have := h.bwf _ (List.mem_map_of_mem hb)
    exact ⟨this.1, fun x hx => this.2 (bare x) (List.mem_map_of_mem (f := bare) hx)⟩
  · intro i hi h0
    have := h.border i (by rw [List.length_map]; exact hi) h0
    simp only [List.getElem_map] at this
    exact this
  · intro b hb
    have := h.bpos _ (List.mem_map_of_mem hb)
    rw [zeroF_strip] at this
    exact this
  · intro b hb x hx
    exact h.bids _ (List.mem_map_of_mem hb) (bare x) (List.mem_map_of_mem (f := bare) hx)
  · intro b hb
    exact (rise_strip _).1 (h.brise _ (List.mem_map_of_mem hb))
/- One more use of the first piece of bin i. -/
def more1 (b : NBin) : NBin := match b.2 with | [] => b | h :: r => (b.1, (h.1, h.2.1 + 1, h.2.2) :: r)
theorem strip_more1 (b : NBin) : bareBin (more1 b) = bareBin b := by
  obtain ⟨r, l⟩ := b
  cases l <;> rfl
def moreAt (bs : List NBin) (i : Nat) : List NBin := bs.modify i more1
theorem strip_moreAt : ∀ (bs : List NBin) (i : Nat), (moreAt bs i).map bareBin = bs.map bareBin
  | [], _ => by simp [moreAt]
  | b :: r, 0 => by simp [moreAt, strip_more1]
  | b :: r, i + 1 => by
    have := strip_moreAt r i
    simp only [moreAt] at this ⊢
    rw [List.modify_succ_cons, List.map_cons, List.map_cons, this]
theorem RightIn.more_at {fs : List Rcp} {bs : List NBin} (h : RightIn fs bs) (i : Nat) : RightIn fs (moreAt bs i) := by
  have := h.bared
  rw [← strip_moreAt bs i] at this
  exact this.unbared
theorem zeroU_moreAt (bs : List NBin) (i : Nat) : zeroU (moreAt bs i) = zeroU bs := by
  rw [← zeroU_strip, strip_moreAt, zeroU_strip]
theorem firstErr_at {err : Nat → Int} : ∀ (n k j : Nat), k ≤ j → j < k + n → (∀ i, k ≤ i → i < j → err i = 0) → err j ≠ 0 → firstErr err k n = some j
  | 0, k, j, h1, h2, _, _ => by omega
  | n + 1, k, j, h1, h2, h3, h4 => by
    rw [firstErr]
    by_cases e : k = j
    · subst e
      rw [if_pos h4]
    · rw [if_neg (by rw [h3 k (Nat.le_refl _) (by omega)]; simp)]
      exact firstErr_at n (k + 1) j (by omega) (by omega) (fun i h5 h6 => h3 i (by omega) h6) h4
theorem moreAt_ans {fs : List Rcp} {bs : List NBin} (h : ∀ b ∈ bs, usesErr (cU (zeroU bs) fs) b = 0) {i : Nat} (hi : i < bs.length) (hne : bs[i].2 ≠ []) : firstAns (binErrs fs (moreAt bs i)) (moreAt bs i).length = (11, (i : Int)) := by
  have hl : (moreAt bs i).length = bs.length := by unfold moreAt; rw [List.length_modify]
  have he : ∀ k, k < i → binErrs fs (moreAt bs i) k = 0 := fun k hk => by
    unfold binErrs
    rw [dif_pos (by omega), zeroU_moreAt]
    have : (moreAt bs i)[k]'(by omega) = bs[k]'(by omega) := by
      unfold moreAt
      rw [List.getElem_modify_ne _ _ (by omega)]
    rw [this]
    exact h _ (List.getElem_mem _)
  have ei : binErrs fs (moreAt bs i) i = 11 := by
    unfold binErrs
    rw [dif_pos (by omega), zeroU_moreAt]
    have e1 : (moreAt bs i)[i]'(by omega) = more1 bs[i] := by
      unfold moreAt
      rw [List.getElem_modify_eq]
    rw [e1]
    have h0 := h _ (List.getElem_mem hi)
    obtain ⟨b, hb⟩ : ∃ b, bs[i] = b := ⟨_, rfl⟩
    rw [hb] at h0 hne ⊢
    obtain ⟨r, l⟩ := b
    cases l with
    | nil => exact absurd rfl hne
    | cons x l =>
      refine usesErr_bad (h := (x.1, x.2.1 + 1, x.2.2)) (List.mem_cons_self ..) ?_
      show (cU (zeroU bs) fs (r, x.1)).getD 0 ≠ x.2.1 + 1
      have : (cU (zeroU bs) fs (r, x.1)).getD 0 = x.2.1 := by
        unfold usesErr at h0
        split at h0
        · rename_i hall
          have := List.all_eq_true.1 hall x (List.mem_cons_self ..)
          simpa using this
        · cases h0
      omega
  unfold firstAns
  rw [firstErr_at _ 0 i (Nat.zero_le _) (by omega) (fun k _ hk => he k hk) (by rw [ei]; decide)]
  simp only
  rw [ei]
theorem moreAt_eq {bs : List NBin} {i : Nat} (h : i < (moreAt bs i).length) : (moreAt bs i)[i]'h = more1 (bs[i]'(by unfold moreAt at h; rwa [List.length_modify] at h)) := by
  revert h
  unfold moreAt
  intro h
  rw [List.getElem_modify_eq]
theorem moreAt_ne {bs : List NBin} {i j : Nat} (e : i ≠ j) {h : j < (moreAt bs i).length} : (moreAt bs i)[j]'h = bs[j]'(by unfold moreAt at h; rwa [List.length_modify] at h) := by
  revert h
  unfold moreAt
  intro h
  rw [List.getElem_modify_ne _ _ e]
/- The bins in memory behind the store. -/
theorem BnsSt.more {base : Nat} {W : World} {v : Value} {ps : List BP} (h : BnsSt base W v ps) {i : Nat} (hi : i < ps.length) {x : Hd} {l : List Hd} (hx : ps[i].1.2 = x :: l) {g c n : Nat} (hv : ps[i].2 = .slice (some ⟨g, 0, none⟩) n c) : LoadsAt (W.setCell ⟨g, 2, none⟩ (.int .i64 (x.2.1 + 1))) v (moreAt (ps.map (·.1)) i) := by
  have hne : ps[i].1.2 ≠ [] := by rw [hx]; simp
  have hown : ps[i].2.ownBlock = some g := by rw [hv]; rfl
  have hof := h.off _ (List.getElem_mem hi) hne g hown
  have hoff : Off (fun k => k = g) W (W.setCell ⟨g, 2, none⟩ (.int .i64 (x.2.1 + 1))) := Off.setCell (F := fun k => k = g) (p := ⟨g, 2, none⟩) (Off.refl _ W) (.inl rfl) _
  obtain ⟨p, cc, hp, hcell⟩ := h.at
  refine ⟨p, cc, by rw [hp]; unfold moreAt; rw [List.length_modify], fun j hj => ?_⟩
  have hj' : j < ps.length := by unfold moreAt at hj; rw [List.length_modify, List.length_map] at hj; exact hj
  obtain ⟨b, o, vj, hpj, hL⟩ := hcell j (by rw [List.length_map]; exact hj')
  rw [List.getElem_map] at hL
  have hbg : b ≠ g := fun e => by
    subst e hpj
    rcases h.row.2 with ⟨e, e2⟩ | ⟨g', cap, cur, e, _⟩
    · omega
    · rw [hp] at e
      have : b = g' := by simp at e; exact e.1.1
      subst this
      apply hof
      rw [hp]
      have : o = 0 := by simp at e; exact e.1
      subst this
      rfl
  have hvj : vj = ps[j].2 := by
    rcases h.row.2 with ⟨e, e2⟩ | ⟨g', cap, cur, e, _⟩
    · omega
    · have a2 := (ldCells_at ps j hj').2.2
      have c2 := h.row.cells (g := g') (by rw [e]; rfl) (j * 3 + 2) _ a2
      simp only [add_plain] at c2
      rw [hp] at e
      have eb : b = g' ∧ o = 0 := by rw [hpj] at e; simp at e; exact ⟨e.1.1, e.1.2⟩
      obtain ⟨rfl, rfl⟩ := eb
      have := hL.c2
      rw [Nat.zero_add, c2] at this
      exact (Option.some.inj this).symm
  subst hvj
  refine ⟨b, o, ps[j].2, hpj, ?_⟩
  have eb := hoff.block b hL.lt hbg
  have hc := fun q => World.cell?_of_block (w := W) (w' := W.setCell ⟨g, 2, none⟩ (.int .i64 (x.2.1 + 1))) (a := ⟨b, q, none⟩) eb
  by_cases e : j = i
  · subst e
    have em : (moreAt (ps.map (·.1)) j)[j]'hj = more1 ps[j].1 := by
      rw [moreAt_eq, List.getElem_map]
    rw [em]
    have hm : more1 ps[j].1 = (ps[j].1.1, (x.1, x.2.1 + 1, x.2.2) :: l) := by unfold more1; rw [hx]
    rw [hm]
    refine ⟨Nat.lt_of_lt_of_le hL.lt hoff.size, (hc _).trans hL.c0, (hc _).trans hL.c1, (hc _).trans hL.c2, ?_⟩
    obtain ⟨pq, cq, hq, hqc⟩ := hL.helds
    refine ⟨pq, cq, by rw [hq, hx]; rfl, fun y hy => ?_⟩
    have hy' : y < ps[j].1.2.length := by rw [hx]; exact hy
    obtain ⟨b2, o2, hp2, ⟨hb2, hb3⟩, e0, e1, e2, e3⟩ := hqc y hy'
    obtain ⟨rfl, rfl⟩ : b2 = g ∧ o2 = 0 := by
      rw [hv, hp2] at hq
      simp at hq
      exact ⟨hq.1.1.symm, hq.1.2.symm⟩
    have hget : ∀ (z : Nat) (hz : z < ps[j].1.2.length) (hz2 : z < (x :: l).length), ps[j].1.2[z] = (x :: l)[z] := fun z hz hz2 => by
      congr 1
    rw [hget y hy' hy] at e0 e1 e2 e3
    cases y with
    | zero =>
      refine ⟨b2, 0, hp2, ⟨Nat.lt_of_lt_of_le hb2 hoff.size, by rw [hx] at hb3; exact hb3⟩, ?_, ?_, ?_, ?_⟩
      · rw [World.cell?_setCell_other _ _ _ _ (by simp)]; exact e0
      · rw [World.cell?_setCell_other _ _ _ _ (by simp)]; exact e1
      · exact World.cell?_setCell_same _ _ _ e2
      · rw [World.cell?_setCell_other _ _ _ _ (by simp)]; exact e3
    | succ y =>
      refine ⟨b2, 0, hp2, ⟨Nat.lt_of_lt_of_le hb2 hoff.size, by rw [hx] at hb3; exact hb3⟩, ?_, ?_, ?_, ?_⟩
      · rw [World.cell?_setCell_other _ _ _ _ (by simp)]; exact e0
      · rw [World.cell?_setCell_other _ _ _ _ (by simp)]; exact e1
      · rw [World.cell?_setCell_other _ _ _ _ (by simp)]; exact e2
      · rw [World.cell?_setCell_other _ _ _ _ (by simp)]; exact e3
  · have em : (moreAt (ps.map (·.1)) i)[j]'hj = ps[j].1 := by
      rw [moreAt_ne (fun e2 => e e2.symm), List.getElem_map]
    rw [em]
    have hgj : ps[j].1.2 ≠ [] → ∀ k, ps[j].2.ownBlock = some k → ¬ k = g := fun hnj k hk ek => by
      subst ek
      have hap := List.pairwise_iff_getElem.1 h.apart
      rcases Nat.lt_or_gt_of_ne e with e | e
      · exact hap j i hj' hi e hnj hne _ hk hown
      · exact hap i j hi hj' e hne hnj _ hown hk
    exact ⟨Nat.lt_of_lt_of_le hL.lt hoff.size, (hc _).trans hL.c0, (hc _).trans hL.c1, (hc _).trans hL.c2, ((h.helds _ (List.getElem_mem hj')).off hoff hgj).1⟩
end Go.Proofs.YteefjbdejcpepabGreatDoor
