/-
  Own text. noded: it returns true.
  Own text. Acts on a node as they lie (Acts3At); LongActs by a contract.
  Own text. A node in memory behind a file that was dropped, a bin that went, a bin that was turned; delete of a map's entry outside a range.
  Own text. (*node.Node).hasFileOf by a contract.
-/
import Derived.Test.YteefjbdejcpepabGreatDoorG29
import Derived.Test.YteefjbdejcpepabGreatDoorG26
import Derived.Test.YteefjbdejcpepabGreatDoorG12
import Derived.Deep.RegionHeld3
namespace Go.Proofs.YteefjbdejcpepabGreatDoor
open Go.RowKit Go.Maps

abbrev helloB : ByteArray := ⟨#[104, 101, 108, 108, 111]⟩
theorem hello_got : ∀ t ∈ pieces helloL, hGet [(idOfL helloL, 2, helloL)] (idOfL t) = (t, 0) := by
  intro t ht
  rw [helloPieces] at ht
  rw [List.mem_singleton.1 ht]
  simp [hGet, hFind]
theorem ok1 : NOk 4000 1 st1 := by
  have := NOk.empty.put (by decide) [97] helloL
  rw [put1] at this
  exact this
theorem ok2 : NOk 8000 2 st2 := by
  have := ok1.put (by decide) [98] helloL
  rw [put2] at this
  exact this
set_option maxRecDepth 100000 in
set_option maxHeartbeats 4000000 in
theorem noded_any (a : Nat → Addr) (w : World) (hE : ErrE [1, 2, 3, 4, 5, 6, 8, 9] w a) :
    Calls Tryz.prog 6 #[] w fun e w' => e = .returned (.bool true) ∧ Below w.heap.size w w' := by
  have HEE : Hid (∀ W, Below w.heap.size w W → ErrE [1, 2, 3, 4, 5, 6, 8, 9] W a) := fun W hb => hE.below hb (Nat.le_refl _)
  clear hE
  go_enter Tryz.func6, Tryz.ntmps6
  go_wp2_with fail
  refine (nNew_any w).mono ?_
  rintro e w1 ⟨p, F1, rfl, hP1, hF1, hb1⟩
  have HB1 := hideN hb1
  have HP1 := hideN hP1
  have HF1 := hideN hF1
  clear hb1 hP1 hF1
  go_wp2_with fail
  refine (nodePut_any a ⟨#[97]⟩ helloB p F1 0 ⟨[], []⟩ w1 (by decide) (by decide) ⟨by decide, by decide⟩ (fun b hb => by simp at hb) (by simp) ((HEE.out _ HB1.out).sub (by decide)) HP1.out).mono ?_
  rw [show (⟨#[97]⟩ : ByteArray).data.toList = [97] from rfl, show helloB.data.toList = helloL from rfl, put1]
  rintro e w2 ⟨ev2, F2, rfl, he2, hP2, hF2, ho2⟩
  simp only at he2 hP2
  obtain rfl := he2.nil
  have HB2 : Hid (Below w.heap.size w w2) := HB1.out.trans (ho2.below HB1.out.size (fun j hj hF => by have := HF1.out j hF; omega))
  have HP2 := hideN hP2
  have HF2 : Hid (∀ k, F2 k → w.heap.size ≤ k) := fun k hk => by
    rcases hF2 k hk with h | h
    · exact HF1.out k h
    · have := HB1.out.size; omega
  clear he2 hP2 hF2 ho2 HP1 HF1 HB1
  go_wp2_with fail
  refine (nodePut_any a ⟨#[98]⟩ helloB p F2 4000 st1 w2 (by decide) (by decide) ⟨by decide, by decide⟩ ok1.bins (by decide) ((HEE.out _ HB2.out).sub (by decide)) HP2.out).mono ?_
  rw [show (⟨#[98]⟩ : ByteArray).data.toList = [98] from rfl, show helloB.data.toList = helloL from rfl, put2]
  rintro e w3 ⟨ev3, F3, rfl, he3, hP3, hF3, ho3⟩
  simp only at he3 hP3
  obtain rfl := he3.nil
  have HB3 : Hid (Below w.heap.size w w3) := HB2.out.trans (ho3.below HB2.out.size (fun j hj hF => by have := HF2.out j hF; omega))
  have HP3 := hideN hP3
  clear he3 hP3 hF3 ho3 HP2 HF2 HB2
  go_wp2_with fail
  refine (nodeGet_some a ⟨#[98]⟩ p F3 st2 w3 helloL [(idOfL helloL, 2, helloL)] (by decide) (by decide) (by unfold st2; simp [nBin]) hello_got (by decide) (by decide) ((HEE.out _ HB3.out).sub (by decide)) HP3.out).mono ?_
  rintro e w4 ⟨rfl, hb4⟩
  have HB4 : Hid (Below w.heap.size w w4) := HB3.out.trans (hb4.mono HB3.out.size)
  have HP4 := hideN (HP3.out.below hb4)
  clear hb4 HP3 HB3
  have HSZ := hideN (fun W (hW : PNode W p F3 st2) => nodeSize_any p F3 st2 W (fun b hb => (ok2.bins b hb).mono (by decide)) (by decide) hW)
  rw [size2] at HSZ
  go_wp2_with fail
  refine (HSZ.out w4 HP4.out).mono ?_
  rintro e w5 ⟨rfl, hb5⟩
  go_wp2_with fail
  go_ret
  exact ⟨rfl, HB4.out.trans (hb5.mono HB4.out.size)⟩
end Go.Proofs.YteefjbdejcpepabGreatDoor
namespace Go.Proofs.YteefjbdejcpepabGreatDoor
open Go.RowKit Go.Maps

abbrev Act3 := ByteArray × ByteArray × ByteArray
def Acts3At (w : World) (v : Value) (l : List Act3) : Prop :=
  ∃ (p : Option Addr) (c : Nat), v = .slice p l.length c ∧ ∀ i (h : i < l.length), ∃ b o, p = some ⟨b, o, none⟩ ∧ b < w.heap.size ∧ w.cell? ⟨b, o + i * 3, none⟩ = some (.string l[i].1) ∧ w.cell? ⟨b, o + i * 3 + 1, none⟩ = some (.string l[i].2.1) ∧ w.cell? ⟨b, o + i * 3 + 2, none⟩ = some (.string l[i].2.2)
theorem Acts3At.below {w w' : World} {v : Value} {l : List Act3} (h : Acts3At w v l) (hb : Below w.heap.size w w') : Acts3At w' v l := by
  obtain ⟨p, c, rfl, h⟩ := h
  refine ⟨p, c, rfl, fun i hi => ?_⟩
  obtain ⟨b, o, hp, hlt, h0, h1, h2⟩ := h i hi
  exact ⟨b, o, hp, Nat.lt_of_lt_of_le hlt hb.size, (hb.cell (p := ⟨b, o + i * 3, none⟩) hlt).trans h0, (hb.cell (p := ⟨b, o + i * 3 + 1, none⟩) hlt).trans h1, (hb.cell (p := ⟨b, o + i * 3 + 2, none⟩) hlt).trans h2⟩
def fits (y : Act3) : Prop := y.2.1.size ≤ 30 ∧ y.2.2.size ≤ 4001
def Long3Post (w : World) (l : List Act3) (m : Nat) (e : Ending) (w' : World) : Prop := ∃ n : Int, e = .returned (.int .i64 n) ∧ w' = w ∧ (n = 0 ∨ n = 1) ∧ (n = 0 → l.length ≤ m ∧ ∀ i (h : i < l.length), fits l[i])
set_option maxRecDepth 100000 in
set_option maxHeartbeats 2000000 in
theorem longActs3_any (v : Value) (l : List Act3) (m : Nat) (w : World) (hm : m ≤ 1000) (hv : Acts3At w v l) :
    Calls Tryz.prog 7 #[v, .int .i64 (m : Int)] w (Long3Post w l m) := by
  obtain ⟨p, c, rfl, hcell⟩ := hv
  by_cases hl : l.length ≤ m
  · have hl' : ¬ (m : Int) < (l.length : Int) := by omega
    go_enter Tryz.func7, Tryz.ntmps7
    go_wp2_with fail
    go_loopw [5] (fun i wr => ∃ j : Nat, j ≤ l.length ∧ i = .int .i64 j ∧ wr = w ∧ Hid (∀ k (hk : k < l.length), k < j → fits l[k])) (fun i _ => l.length - (intOf i).toNat)
    case atStart => exact ⟨0, Nat.zero_le _, rfl, rfl, fun k _ h => by omega⟩
    case round =>
      obtain ⟨j, hj, rfl, hww, HA⟩ := hrel
      subst hww
      by_cases hlt : j < l.length
      · have hlt' : (j : Int) < (l.length : Int) := by omega
        have hj0 : (0 : Int) ≤ (j : Int) := by omega
        obtain ⟨b, o, rfl, _, c0, c1, c2⟩ := hcell j hlt
        have HNX : Hid (fits l[j] → ∀ k (hk : k < l.length), k < j + 1 → fits l[k]) := fun h k hk hkj => by
          rcases Nat.lt_or_ge k j with h' | h'
          · exact HA.out k hk h'
          · obtain rfl : k = j := by omega
            exact h
        obtain ⟨⟨y1, y2, y3⟩, hy⟩ : ∃ y, l[j] = y := ⟨_, rfl⟩
        rw [hy] at c0 c1 c2 HNX
        simp only at c0 c1 c2
        clear hy hcell
        by_cases h1 : (20 : Int) < (y1.size : Int)
        · go_wp2_with fail
          go_ret
          exact ⟨1, rfl, rfl, .inr rfl, fun h => by cases h⟩
        · by_cases h2 : (30 : Int) < (y2.size : Int)
          · go_wp2_with fail
            go_ret
            exact ⟨1, rfl, rfl, .inr rfl, fun h => by cases h⟩
          · by_cases h3 : (600 : Int) < (y3.size : Int)
            · by_cases h4 : (y3.size : Int) = 4001
              · have HN := hideN (HNX.out ⟨by simp only; omega, by simp only; omega⟩)
                go_wp2_with fail
                go_roundw
                case rel => exact ⟨j + 1, hlt, by go_num, by first | rfl | trivial, HN.out⟩
                case measure => simp [intOf]; omega
              · go_wp2_with fail
                go_ret
                exact ⟨1, rfl, rfl, .inr rfl, fun h => by cases h⟩
            · have HN := hideN (HNX.out ⟨by simp only; omega, by simp only; omega⟩)
              go_wp2_with fail
              go_roundw
              case rel => exact ⟨j + 1, hlt, by go_num, by first | rfl | trivial, HN.out⟩
              case measure => simp [intOf]; omega
      · have hge : (l.length : Int) ≤ (j : Int) := by omega
        go_wp2_with fail
        go_ret
        exact ⟨0, rfl, rfl, .inl rfl, fun _ => ⟨hl, fun i hi => HA.out i hi (by omega)⟩⟩
  · have hl' : (m : Int) < (l.length : Int) := by omega
    go_enter Tryz.func7, Tryz.ntmps7
    go_wp2_with fail
    go_ret
    exact ⟨1, rfl, rfl, .inr rfl, fun h => by cases h⟩
end Go.Proofs.YteefjbdejcpepabGreatDoor
namespace Go.Proofs.YteefjbdejcpepabGreatDoor
open Go.RowKit Go.Maps

section
variable {P : Program} {k : TypeId} {κ β : Type}
variable {ops : Array Oper} {rest : List Oper} {o : Oper} {a : Act} {Q : Exit → Act → World → Prop}
theorem wp_del_kit [DecidableEq κ] (M : MapKit P k κ β) (w : World) (hg : o.guard = none) (m x : Operand) (t : TypeId) (hop : o.op = Op.call { callee := Callee.builtin Builtin.delete, args := #[m, x], argTypes := #[t, k] })
    (e : TypeId) (ht : P.underlying t = some (.map k e)) (b : Nat) (l : List (κ × β)) (hm : a.eval m = .map (some b)) (h : M.Of w b l) (y : κ) (hy : M.wf y) (hx : a.eval x = M.mkK y)
    (hK : ∀ w', M.Of w' b (l.filter (fun h => !decide (h.1 = y))) → w.grownBy w' (some b) → wpList P ops Q rest (a.put o.dst (.tuple #[])) w') :
    wpList P ops Q (o :: rest) a w := by
  obtain ⟨ds, ho, hp⟩ := h.own
  refine wpList_delete_own w hg m x t k hop e M.K ht M.R b ds.length (.map ds) hm ho _ _ hx (M.key_kl hy) fun w' ho' hturn => hK w' ⟨⟨_, ownsMap_tight ho', ?_⟩, fun z hz => h.wf z (List.mem_filter.1 hz).1⟩ hturn.grown
  rw [← filter_ents hy l h.wf]
  exact hp.filter _
end
variable {w w' : World} {N mf mb : Nat} {vi : List UInt8 → Value} {pi : Nat × Int → Addr} {Fi : Nat × Int → Nat → Prop} {st : NSt}
/- One bin turned, in place. -/
def binTo (l : List NBin) (r : Nat × Int) (bl : List Hd) : List NBin := l.map (fun b => if b.1 = r then (b.1, bl) else b)
theorem binTo_key (r : Nat × Int) (bl : List Hd) (b : NBin) : (if b.1 = r then (b.1, bl) else b).1 = b.1 := by split <;> rfl
theorem NAt.bin1 {r : Nat × Int} {bl bl' : List Hd} {F' : Nat → Prop} (h : NAt w N mf mb vi pi Fi st) (hm : (r, bl) ∈ st.bins) (ho : Off (Fi r) w w') (hq : PBin0 w' (pi r) F' bl') (hF : ∀ k, F' k → Fi r k ∨ w.heap.size ≤ k) :
    NAt w' N mf mb vi pi (fun x => if x = r then F' else Fi x) ⟨st.files, binTo st.bins r bl'⟩ := by
  obtain ⟨a1, a2, a3⟩ := h.apart _ hm
  have hFl : ∀ k, F' k → k < w.heap.size → Fi r k := fun k hk hl => (hF k hk).resolve_right (by omega)
  refine ⟨ho.blk h.blk a1, h.files.moved (ho.block mf h.files.lt a2), ?_, fun f hf => (h.ids f hf).off ho (fun hi k hk => (h.rows f hf hi k hk).2.2.2.2 _ hm), fun f hf hi k hk => ?_, fun b hb => ?_, h.ne, fun b hb => ?_, fun b hb c hc hne k => ?_⟩
  · have e : (binTo st.bins r bl').map (fun b => (b.1, some (pi b.1))) = st.bins.map (fun b => (b.1, some (pi b.1))) := by
      unfold binTo
      rw [List.map_map]
      refine List.map_congr_left fun b _ => ?_
      simp only [Function.comp, binTo_key]
    rw [e]
    exact h.bins.moved (ho.block mb h.bins.lt a3)
  · obtain ⟨h1, h2, h3, h4, h5⟩ := h.rows f hf hi k hk
    refine ⟨Nat.lt_of_lt_of_le h1 ho.size, h2, h3, h4, fun b hb => ?_⟩
    obtain ⟨c, hc, rfl⟩ := List.mem_map.1 hb
    rw [binTo_key]
    by_cases e : c.1 = r
    · simp only [if_pos e]
      exact fun hk' => h5 _ hm (hFl k hk' h1)
    · simp only [if_neg e]
      exact h5 c hc
  · obtain ⟨c, hc, rfl⟩ := List.mem_map.1 hb
    by_cases e : c.1 = r
    · simp only [if_pos e]
      rw [e]
      exact hq
    · simp only [if_neg e]
      exact (h.bin c hc).off ho (fun k hk hr => h.two c hc _ hm e k hk hr)
  · obtain ⟨c, hc, rfl⟩ := List.mem_map.1 hb
    rw [binTo_key]
    by_cases e : c.1 = r
    · simp only [if_pos e]
      exact ⟨fun hk => a1 (hFl _ hk h.blk.lt), fun hk => a2 (hFl _ hk h.files.lt), fun hk => a3 (hFl _ hk h.bins.lt)⟩
    · simp only [if_neg e]
      exact h.apart c hc
  · obtain ⟨b', hb', rfl⟩ := List.mem_map.1 hb
    obtain ⟨c', hc', rfl⟩ := List.mem_map.1 hc
    rw [binTo_key, binTo_key] at *
    by_cases e : b'.1 = r
    · by_cases e2 : c'.1 = r
      · exact absurd (e.trans e2.symm) hne
      · simp only [if_pos e, if_neg e2]
        exact fun hk hc2 => h.two c' hc' _ hm e2 k hc2 (hFl k hk ((h.bin c' hc').lt k hc2))
    · by_cases e2 : c'.1 = r
      · simp only [if_neg e, if_pos e2]
        exact fun hk hc2 => h.two b' hb' _ hm e k hk (hFl k hc2 ((h.bin b' hb').lt k hk))
      · simp only [if_neg e, if_neg e2]
        exact h.two b' hb' c' hc' hne k
theorem nFoot_bin1 {r : Nat × Int} {bl bl' : List Hd} {F' : Nat → Prop} {s : Nat} (hm : (r, bl) ∈ st.bins) (hF : ∀ k, F' k → Fi r k ∨ s ≤ k) {k : Nat} (h : nFoot N mf mb vi (fun x => if x = r then F' else Fi x) ⟨st.files, binTo st.bins r bl'⟩ k) : nFoot N mf mb vi Fi st k ∨ s ≤ k := by
  rcases h with e | e | e | ⟨b, hb, hk⟩ | h
  · exact .inl (.inl e)
  · exact .inl (.inr (.inl e))
  · exact .inl (.inr (.inr (.inl e)))
  · obtain ⟨c, hc, rfl⟩ := List.mem_map.1 hb
    rw [binTo_key] at hk
    by_cases e : c.1 = r
    · simp only [if_pos e] at hk
      rcases hF k hk with h | h
      · exact .inl (.inr (.inr (.inr (.inl ⟨_, hm, h⟩))))
      · exact .inr h
    · simp only [if_neg e] at hk
      exact .inl (.inr (.inr (.inr (.inl ⟨c, hc, hk⟩))))
  · exact .inl (.inr (.inr (.inr (.inr h))))
theorem NAt.unfile {nm : List UInt8} (h : NAt w N mf mb vi pi Fi st) (ho : Off (fun k => k = mf) w w') (hfiles : strRcps.Of w' mf ((st.files.map fun f => (f.1, rwOf f (vi f.1))).filter (fun h => !decide (h.1 = nm)))) :
    NAt w' N mf mb vi pi Fi ⟨st.files.filter (fun f => !decide (f.1 = nm)), st.bins⟩ := by
  obtain ⟨n1, n2, n3⟩ := h.ne
  refine ⟨ho.blk h.blk (fun e => n1 e), ?_, h.bins.moved (ho.block mb h.bins.lt (fun e => n3 e.symm)), fun f hf => ?_, fun f hf hi k hk => ?_, fun b hb => (h.bin b hb).off ho (fun k hk e => (h.apart b hb).2.1 (e ▸ hk)), h.ne, h.apart, h.two⟩
  · rw [List.filter_map] at hfiles
    exact hfiles
  · have hf' := (List.mem_filter.1 hf).1
    exact (h.ids f hf').off ho (fun hi k hk => (h.rows f hf' hi k hk).2.2.1)
  · obtain ⟨h1, h2⟩ := h.rows f (List.mem_filter.1 hf).1 hi k hk
    exact ⟨Nat.lt_of_lt_of_le h1 ho.size, h2⟩
theorem nFoot_unfile {nm : List UInt8} {k : Nat} (h : nFoot N mf mb vi Fi ⟨st.files.filter (fun f => !decide (f.1 = nm)), st.bins⟩ k) : nFoot N mf mb vi Fi st k := by
  rcases h with e | e | e | h | ⟨f, hf, h⟩
  · exact .inl e
  · exact .inr (.inl e)
  · exact .inr (.inr (.inl e))
  · exact .inr (.inr (.inr (.inl h)))
  · exact .inr (.inr (.inr (.inr ⟨f, (List.mem_filter.1 hf).1, h⟩)))
theorem NAt.unbin {r : Nat × Int} (h : NAt w N mf mb vi pi Fi st) (ho : Off (fun k => k = mb) w w') (hbins : idBins.Of w' mb ((st.bins.map fun b => (b.1, some (pi b.1))).filter (fun h => !decide (h.1 = r)))) :
    NAt w' N mf mb vi pi Fi ⟨st.files, st.bins.filter (fun b => !decide (b.1 = r))⟩ := by
  obtain ⟨n1, n2, n3⟩ := h.ne
  refine ⟨ho.blk h.blk (fun e => n2 e), h.files.moved (ho.block mf h.files.lt (fun e => n3 e)), ?_, fun f hf => (h.ids f hf).off ho (fun hi k hk => (h.rows f hf hi k hk).2.2.2.1), fun f hf hi k hk => ?_, fun b hb => ?_, h.ne, fun b hb => h.apart b (List.mem_filter.1 hb).1, fun b hb c hc => h.two b (List.mem_filter.1 hb).1 c (List.mem_filter.1 hc).1⟩
  · rw [List.filter_map] at hbins
    exact hbins
  · obtain ⟨h1, h2, h3, h4, h5⟩ := h.rows f hf hi k hk
    exact ⟨Nat.lt_of_lt_of_le h1 ho.size, h2, h3, h4, fun b hb => h5 b (List.mem_filter.1 hb).1⟩
  · have hb' := (List.mem_filter.1 hb).1
    exact (h.bin b hb').off ho (fun k hk e => (h.apart b hb').2.2 (e ▸ hk))
theorem nFoot_unbin {r : Nat × Int} {k : Nat} (h : nFoot N mf mb vi Fi ⟨st.files, st.bins.filter (fun b => !decide (b.1 = r))⟩ k) : nFoot N mf mb vi Fi st k := by
  rcases h with e | e | e | ⟨b, hb, h⟩ | h
  · exact .inl e
  · exact .inr (.inl e)
  · exact .inr (.inr (.inl e))
  · exact .inr (.inr (.inr (.inl ⟨b, (List.mem_filter.1 hb).1, h⟩)))
  · exact .inr (.inr (.inr (.inr h)))
end Go.Proofs.YteefjbdejcpepabGreatDoor
namespace Go.Proofs.YteefjbdejcpepabGreatDoor
open Go.RowKit Go.Maps

set_option maxRecDepth 100000 in
set_option maxHeartbeats 4000000 in
theorem hasFileOf_any (x : Nat × Int) (p : Addr) (F : Nat → Prop) (st : NSt) (w : World) (hlen : ∀ f ∈ st.files, (idsOf f.2).length ≤ 4000) (hP : PNode w p F st) :
    Calls Tryz.prog 68 #[.pointer (some p), idV (x.1 : Nat) x.2] w fun e w' => e = .returned (.bool (st.files.any (fun f => decide (repT f.2 = x)))) ∧ Below w.heap.size w w' := by
  obtain ⟨N, mf, mb, vi, pi, Fi, rfl, h, _⟩ := hP
  obtain ⟨xp, xl⟩ := x
  simp only
  have hal := (Below.refl w.heap.size w).alloc (Nat.le_refl _) (.cells #[.int .u32 (xp : Nat), .int .i64 xl] 25)
  have hbx := Blk.new w #[.int .u32 (xp : Nat), .int .i64 xl] 25
  have h1 := h.below hal
  have q0 := h1.blk.cell (i := 0) rfl
  have hM := h1.files
  have HH := hideN h1
  have HLEN := hideN hlen
  have HB0 := hideN hal
  have HBX := hideN hbx
  obtain ⟨L, hL⟩ : ∃ L, (st.files.map fun f => (f.1, rwOf f (vi f.1))) = L := ⟨_, rfl⟩
  have HL : Hid ((st.files.map fun f => (f.1, rwOf f (vi f.1))) = L) := hL
  rw [hL] at hM
  clear h h1 hL hlen hal hbx
  obtain ⟨RES, hRES⟩ : ∃ RES, st.files.any (fun f => decide (repT f.2 = (xp, xl))) = RES := ⟨_, rfl⟩
  have HRES := hideN hRES
  rw [hRES]
  clear hRES
  go_enter Tryz.func68, Tryz.ntmps68
  go_wp2_with (first
    | (at_range; refine wp_range_kit strRcps _ rfl _ 82 rfl 40 Tryz.underlying82 mf L rfl hM ?_; intro w0 hr0 hg0 hs0)
    | go_in)
  go_frame
  generalize w.alloc (.cells #[.int .u32 (xp : Nat), .int .i64 xl] 25) = W at *
  go_loopw [12] (fun _ wr => ∃ (left : List UInt8 → Bool) (cnt : Nat), strRcps.Rng wr mf W.heap.size L left cnt ∧ Hid (∀ f ∈ st.files, left f.1 = false → repT f.2 ≠ (xp, xl)) ∧ Hid (W.grownBy wr none)) (fun _ wr => wr.rangeLeft mf W.heap.size)
  case atStart =>
    refine ⟨_, _, hr0, fun f hf hl => ?_, hg0⟩
    have hm : f.1 ∈ L.map (·.1) := List.mem_map.2 ⟨(f.1, rwOf f (vi f.1)), by rw [← HL.out]; exact List.mem_map.2 ⟨f, hf, rfl⟩, rfl⟩
    simp only [decide_eq_false_iff_not] at hl
    exact absurd hm hl
  case round =>
    obtain ⟨left, cnt, hrg, HNO, HG⟩ := hrel
    go_wp2_with (first
      | (at_next; refine wp_next_kit strRcps _ rfl _ rfl mf W.heap.size L left cnt rfl hrg ?_ ?_)
      | go_in)
    · intro h0
      have HR0 : Hid (RES = false) := by
        show _ = _
        rw [← HRES.out, List.any_eq_false]
        intro f hf
        have := HNO.out f hf (h0 f.1 _ _ _ _ (by rw [← HL.out]; exact List.mem_map.2 ⟨f, hf, rfl⟩))
        simp [this]
      clear h0
      go_wp2_with fail
      go_ret
      exact ⟨by rw [HR0.out]; rfl, HB0.out.trans ((below_of_grown HG.out).mono HB0.out.size)⟩
    · intro fn c1 c2 c3 c4 w1 cnt1 hm hlx hrg1 hlt hg1 hs1 hen
      clear hs1
      rw [← HL.out] at hm
      obtain ⟨⟨fn', s⟩, hf, hfe⟩ := List.mem_map.1 hm
      obtain ⟨rfl, rfl, rfl, rfl, rfl⟩ : fn' = fn ∧ fn' = c1 ∧ (s.length : Int) = c2 ∧ ((pmore 2166136261 s : Nat) : Int) = c3 ∧ vi fn' = c4 := by simpa [rwOf] using hfe
      obtain ⟨pv0, cv0, hv0, _⟩ := HH.out.ids _ hf
      have HI := hideN (HH.out.ids _ hf)
      have HF := hideN hf
      have HLX := hideN hlx
      simp only at hv0 HI
      change (Instr.entry (.pointer (some ⟨W.heap.size, 0, none⟩))).run Tryz.prog w1 = .ok (.tuple #[.string ⟨fn'.toArray⟩, .agg #[.string ⟨fn'.toArray⟩, .int .i64 (s.length : Int), .int .u32 ((pmore 2166136261 s : Nat) : Int), vi fn']]) w1 at hen
      rw [hv0] at hen HI
      have HLS := hideN (HLEN.out _ hf)
      simp only at HLS
      obtain ⟨P, hPP⟩ : ∃ P, pmore 2166136261 s = P := ⟨_, rfl⟩
      obtain ⟨LL, hLL⟩ : ∃ LL, (s.length : Int) = LL := ⟨_, rfl⟩
      obtain ⟨idl, hidl⟩ : ∃ idl, (idsOf s).length = idl := ⟨_, rfl⟩
      obtain ⟨⟨rp, rl⟩, hrep⟩ : ∃ r, repT s = r := ⟨_, rfl⟩
      obtain ⟨FN, hFN⟩ : ∃ FN : ByteArray, (⟨fn'.toArray⟩ : ByteArray) = FN := ⟨_, rfl⟩
      have HID := hideN hidl
      have HRP := hideN hrep
      have HREP := hideN (fun W (hv : IdsAt W (.slice pv0 idl cv0) (idsOf s)) => rep_any FN LL (P : Int) (.slice pv0 idl cv0) (idsOf s) W hv (by have := HLS.out; unfold maxLen; omega))
      change Hid (∀ W, _ → Calls _ _ _ W fun e w' => e = .returned (idV ((repT s).1 : Nat) (repT s).2) ∧ _) at HREP
      rw [hrep] at HREP
      simp only at HREP
      rw [hPP, hLL, hidl, hFN] at hen
      rw [hidl] at HI
      have HG1 : Hid (W.grownBy w1 none) := HG.out.andThen hg1 (fun j hj => by cases hj; exact .inl (Nat.le_refl _))
      clear hfe hv0 hPP hLL hidl hrep hFN hf hm hlx
      have hal := (Below.refl w1.heap.size w1).alloc (Nat.le_refl _) (.cells #[.string FN, .int .i64 LL, .int .u32 (P : Nat), .slice pv0 idl cv0] 40)
      have hbr := Blk.new w1 #[.string FN, .int .i64 LL, .int .u32 (P : Nat), .slice pv0 idl cv0] 40
      have hB1 := below_of_grown HG1.out
      have HI1 := hideN ((HI.out.below hB1).below hal)
      have HBX1 := hideN ((HBX.out.next hB1).next hal)
      have hrg2 := hrg1.kept (grown_of_below hal) (by simp) (by simp)
      have HG2 : Hid (W.grownBy _ none) := hideN (HG1.out.andThen (grown_of_below hal) (fun j hj => by cases hj))
      have hc : (rp = xp ∧ rl = xl) ∨ ((rp : Int) == (xp : Int)) = false ∨ (((rp : Int) == (xp : Int)) = true ∧ (rl == xl) = false) := by
        by_cases h : rp = xp
        · by_cases h2 : rl = xl
          · exact .inl ⟨h, h2⟩
          · exact .inr (.inr ⟨by rw [beq_iff_eq]; omega, by rw [beq_eq_false_iff_ne]; exact h2⟩)
        · exact .inr (.inl (by rw [beq_eq_false_iff_ne]; omega))
      have HNEW : Hid ((rp, rl) ≠ (xp, xl) → ∀ f ∈ st.files, (left f.1 && !decide (f.1 = fn')) = false → repT f.2 ≠ (xp, xl)) := fun hne f hf hl => by
        by_cases e : f.1 = fn'
        · have hap : st.files.Pairwise (fun p q => p.1 ≠ q.1) := by
            have := HH.out.files.apart
            rw [List.pairwise_map] at this
            exact this
          obtain ⟨f1, f2⟩ := f
          simp only at e
          subst e
          have h1 := nFile_of_mem hap hf
          rw [nFile_of_mem hap HF.out] at h1
          rw [← Option.some.inj h1, HRP.out]
          exact hne
        · exact HNO.out f hf (by simpa [e] using hl)
      have HCE : Hid (∀ W', Blk W' w1.heap.size #[.string FN, .int .i64 LL, .int .u32 (P : Nat), .slice pv0 idl cv0] 40 → Blk W' w.heap.size #[.int .u32 (xp : Nat), .int .i64 xl] 25 → W'.cell? ⟨w1.heap.size, 0, none⟩ = some (.string FN) ∧ W'.cell? ⟨w1.heap.size, 1, none⟩ = some (.int .i64 LL) ∧ W'.cell? ⟨w1.heap.size, 2, none⟩ = some (.int .u32 (P : Nat)) ∧ W'.cell? ⟨w1.heap.size, 3, none⟩ = some (.slice pv0 idl cv0) ∧ W'.cell? ⟨w.heap.size, 0, none⟩ = some (.int .u32 (xp : Nat)) ∧ W'.cell? ⟨w.heap.size, 1, none⟩ = some (.int .i64 xl)) := fun W' h1 h2 => ⟨h1.cell (i := 0) rfl, h1.cell (i := 1) rfl, h1.cell (i := 2) rfl, h1.cell (i := 3) rfl, h2.cell (i := 0) rfl, h2.cell (i := 1) rfl⟩
      have HBR := hideN hbr
      have HTRUE : Hid ((rp, rl) = (xp, xl) → RES = true) := fun e => by
        rw [← HRES.out, List.any_eq_true]
        exact ⟨_, HF.out, by simp only; rw [HRP.out, e]; simp⟩
      clear hal hbr hB1 HI HBX HF
      go_wp2_with fail
      generalize w1.alloc (.cells #[.string FN, .int .i64 LL, .int .u32 (P : Nat), .slice pv0 idl cv0] 40) = W2 at *
      generalize w1.heap.size = RB at *
      obtain ⟨z0, z1, z2, z3, z4, z5⟩ := HCE.out _ HBR.out HBX1.out
      rcases hc with ⟨rfl, rfl⟩ | hc | ⟨hc, hd⟩
      · go_region_held3 (fun w' => w'.cell? ⟨RB, 0, none⟩ = some (.string FN) ∧ w'.cell? ⟨RB, 1, none⟩ = some (.int .i64 LL) ∧ w'.cell? ⟨RB, 2, none⟩ = some (.int .u32 (P : Nat)) ∧ w'.cell? ⟨RB, 3, none⟩ = some (.slice pv0 idl cv0) ∧ w'.cell? ⟨w.heap.size, 0, none⟩ = some (.int .u32 (rp : Nat)) ∧ w'.cell? ⟨w.heap.size, 1, none⟩ = some (.int .i64 rl)) (first | exact HCE.out _ HBR3.out HBX3.out | go_keep) (first
          | (go_at_call 63; refine (HREP.out _ (HI1.out.below (Below.refl _ W2).drew)).mono ?_; rintro e w3 ⟨rfl, hb3⟩; have hB3 : Below W2.heap.size W2 w3 := (Below.refl _ W2).drew.trans hb3; have HBR3 := hideN (HBR.out.next hB3); have HBX3 := hideN (HBX1.out.next hB3); have HG3 : Hid (W.grownBy w3 none) := HG2.out.andThen (grown_of_below hB3) (fun j hj => by cases hj); clear hb3 hB3))
        go_wp2_with fail
        go_ret
        exact ⟨by rw [HTRUE.out (by trivial)]; rfl, HB0.out.trans ((below_of_grown HG3.out).mono HB0.out.size)⟩
      all_goals
        go_region_held3 (fun w' => w'.cell? ⟨RB, 0, none⟩ = some (.string FN) ∧ w'.cell? ⟨RB, 1, none⟩ = some (.int .i64 LL) ∧ w'.cell? ⟨RB, 2, none⟩ = some (.int .u32 (P : Nat)) ∧ w'.cell? ⟨RB, 3, none⟩ = some (.slice pv0 idl cv0) ∧ w'.cell? ⟨w.heap.size, 0, none⟩ = some (.int .u32 (xp : Nat)) ∧ w'.cell? ⟨w.heap.size, 1, none⟩ = some (.int .i64 xl)) (first | exact HCE.out _ HBR3.out HBX3.out | go_keep) (first
          | (go_at_call 63; refine (HREP.out _ (HI1.out.below (Below.refl _ W2).drew)).mono ?_; rintro e w3 ⟨rfl, hb3⟩; have hB3 : Below W2.heap.size W2 w3 := (Below.refl _ W2).drew.trans hb3; have HBR3 := hideN (HBR.out.next hB3); have HBX3 := hideN (HBX1.out.next hB3); have HG3 : Hid (W.grownBy w3 none) := HG2.out.andThen (grown_of_below hB3) (fun j hj => by cases hj); have hrg3 := hrg2.kept (grown_of_below hB3) (by simp) (by simp); clear hb3 hB3))
        have HNE : Hid ((rp, rl) ≠ (xp, xl)) := fun e => by
          obtain ⟨e1, e2⟩ := Prod.mk.inj e
          subst e1 e2
          simp at *
        go_wp2_with fail
        go_roundw
        case rel => exact ⟨_, cnt1, hrg3, HNEW.out HNE.out, HG3.out⟩
        case measure => rw [hrg3.left_eq, hrg.left_eq]; exact hlt
end Go.Proofs.YteefjbdejcpepabGreatDoor
