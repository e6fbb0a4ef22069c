/-
  Own text. sort.Slice of pieces by their IDs, as All calls it.
  Own text. The program's bin by contracts: All.
  Own text. The program's package bin keeps the contracts (BinSpec).
  Own text. node.putPieces by a contract: pieces are put into a bin, in order, up to the first that is refused.
-/
import Derived.Test.YtcbcjefefmbccaaDoorG17
import Derived.Test.YtcbcjefefmbccaaDoorG11
import Derived.Test.YtcbcjefefmbccaaDoorG13
import Derived.Test.YtcbcjefefmbccaaDoorG12
import Derived.Test.YtcbcjefefmbccaaDoorG08
namespace Go.Proofs.YtcbcjefefmbccaaDoor
open Go.RowKit Go.Maps Go.Sort

def encHd (h : Hd) : List Value := [.int .u32 (h.1.1 : Nat), .int .i64 h.1.2, .int .i64 h.2.1, .string ⟨h.2.2.toArray⟩]
def ltHd (a b : Hd) : Bool := lessB a.1 b.1
theorem swo_ltHd : SWO ltHd where
  irrefl x := lessB_irrefl x.1
  trans x y z h1 h2 := lessB_trans h1 h2
  ntrans x y z h1 h2 := by
    have n1 : ¬ (ltHd x y = true) := by rw [h1]; decide
    have n2 : ¬ (ltHd y z = true) := by rw [h2]; decide
    cases h3 : ltHd x z with
    | false => rfl
    | true =>
      unfold ltHd at *
      rw [lessB_iff] at *
      omega
theorem heldsInfo : (Tryd.prog.info? 63).map (·.desc) = some (.slice 77) := by kernel_rfl
theorem heldInfo4 : (Tryd.prog.info? 77).map (fun i => (i.size, i.hasPointers, i.bytes)) = some (4, true, 40) := by kernel_rfl
theorem heldKind (w : World) : (Extern.Rtype.kind 77).run Tryd.prog w = .ok 25 w := by kernel_rfl
theorem heldAgg (w : World) : (isAgg 77).run Tryd.prog w = .ok true w := by kernel_rfl
theorem heldsPacked : Tryd.prog.packed 63 = false := by kernel_rfl
theorem swap9 : Tryd.prog.funcs.findIdx? (·.name == "internal/reflectlite" ++ ".Swapper$" ++ toString 9) = some 121 := by kernel_rfl
theorem swap1 : Tryd.prog.funcs.findIdx? (·.name == "internal/reflectlite" ++ ".Swapper$" ++ toString 1) = some 113 := by kernel_rfl
theorem swap2 : Tryd.prog.funcs.findIdx? (·.name == "internal/reflectlite" ++ ".Swapper$" ++ toString 2) = some 114 := by kernel_rfl
theorem encHd_one (x : Hd) : ∀ v ∈ encHd x, v.oneCell' = true := by
  intro v hv
  simp only [encHd, List.mem_cons, List.not_mem_nil, or_false] at hv
  rcases hv with rfl | rfl | rfl | rfl <;> rfl
theorem holdsK_cells {w : World} {g off : Nat} {d : Array Hd} (h : HoldsK encHd 4 w g off d) {i : Nat} (hi : i < d.size) :
    w.cell? ⟨g, off + i * 4, none⟩ = some (.int .u32 (d[i].1.1 : Nat)) ∧ w.cell? ⟨g, off + i * 4 + 1, none⟩ = some (.int .i64 d[i].1.2) ∧ w.cell? ⟨g, off + i * 4 + 2, none⟩ = some (.int .i64 d[i].2.1) ∧ w.cell? ⟨g, off + i * 4 + 3, none⟩ = some (.string ⟨d[i].2.2.toArray⟩) := by
  have e : d[i]! = d[i] := getElem!_pos d i hi
  have c0 := (h.cell (i := i) (c := 0) hi (by decide)).1
  have c1 := (h.cell (i := i) (c := 1) hi (by decide)).1
  have c2 := (h.cell (i := i) (c := 2) hi (by decide)).1
  have c3 := (h.cell (i := i) (c := 3) hi (by decide)).1
  rw [e] at c0 c1 c2 c3
  exact ⟨c0, c1, c2, c3⟩
/- The row of a slice of pieces that the call owns. -/
theorem holdsK_of_row {w : World} {base g cap : Nat} {c : List Hd} (h : w.ownsRow base 77 4 (.slice (some ⟨g, 0, none⟩) c.length cap) c.length (heldCells c)) : HoldsK encHd 4 w g 0 c.toArray := by
  obtain ⟨hl, ho⟩ := h
  rcases ho with ⟨he, _⟩ | ⟨g', cap', cur, he, _, hb, h1, h2, h3, h4⟩
  · cases he
  · obtain ⟨e1, e2⟩ : g = g' ∧ cap = cap' := by simpa using he
    subst e1 e2
    intro j hj
    have hj' : j < c.length * 4 := by simpa using hj
    have hi : j / 4 < c.length := by omega
    have ef : (flatK encHd 4 c.toArray)[j]! = (encHd c[j / 4])[j % 4]! := by
      rw [get_flatK _ _ _ _ (by simpa using hj')]
      rw [getElem!_pos c.toArray (j / 4) (by simpa using hi)]
      simp
    obtain ⟨a0, a1, a2, a3⟩ := heldCells_at c (j / 4) hi
    have hv : (heldCells c)[j]? = some ((encHd c[j / 4])[j % 4]!) := by
      have : j % 4 = 0 ∨ j % 4 = 1 ∨ j % 4 = 2 ∨ j % 4 = 3 := by omega
      rcases this with hm | hm | hm | hm
      · rw [show j / 4 * 4 = j by omega] at a0; rw [a0, hm]; rfl
      · rw [show j / 4 * 4 + 1 = j by omega] at a1; rw [a1, hm]; rfl
      · rw [show j / 4 * 4 + 2 = j by omega] at a2; rw [a2, hm]; rfl
      · rw [show j / 4 * 4 + 3 = j by omega] at a3; rw [a3, hm]; rfl
    have hcur : cur.toList[j]? = some ((encHd c[j / 4])[j % 4]!) := by
      rw [← hv, ← h4, List.getElem?_take, if_pos (by omega)]
    refine ⟨?_, by simp [World.frozen?, hb]⟩
    rw [Nat.zero_add, ef]
    simp only [World.cell?, hb]
    rw [← Array.getElem?_toList, hcur]
    rfl
theorem rise_of_sorted {d : Array Hd} (hap : d.toList.Pairwise (fun p q => p.1 ≠ q.1)) (hs : SortedIn ltHd 0 d.size d) : Rise d.toList := by
  unfold Rise
  rw [List.pairwise_iff_getElem] at *
  intro i j hi hj hij
  have h1 := hs i j (Nat.zero_le _) hij (by simpa using hj)
  rw [getElem!_pos d j (by simpa using hj), getElem!_pos d i (by simpa using hi)] at h1
  have h2 := hap i j hi hj hij
  simp only [Array.getElem_toList] at h2 ⊢
  exact lessB_flip h1 (fun e => h2 e.symm)

theorem sortHelds (Bs g cap : Nat) (c : List Hd) (w : World) (hs : w.cell? ⟨Bs, 0, none⟩ = some (.slice (some ⟨g, 0, none⟩) c.length cap)) (hBs : Bs ≠ g) (hcap : c.length ≤ cap) (hg : g < w.heap.size) (hH : HoldsK encHd 4 w g 0 c.toArray) (h2 : 2 ≤ c.length) (hsz : c.length ≤ 1000) (hap : c.Pairwise (fun p q => p.1 ≠ q.1)) :
    Calls Tryd.prog 68 #[.iface 63 (.slice (some ⟨g, 0, none⟩) c.length cap), .func (.func 69) #[] #[.pointer (some ⟨Bs, 0, none⟩)]] w fun e w' => e = .returned (.tuple #[]) ∧ ∃ c', c'.Perm c ∧ Rise c' ∧ HeldsAt w' (.slice (some ⟨g, 0, none⟩) c.length cap) c' ∧ w.grownBy w' (some g) ∧ w'.frozen? ⟨g, 2, none⟩ = false := by
  obtain ⟨i, hi, hd⟩ := Option.map_eq_some_iff.1 heldsInfo
  obtain ⟨ie, hie, hm⟩ := Option.map_eq_some_iff.1 heldInfo4
  obtain ⟨m1, m2, m3⟩ : ie.size = 4 ∧ ie.hasPointers = true ∧ ie.bytes = 40 := by simpa using hm
  have hk9 : Lib.swapperK c.toArray.size ie 25 = 9 := by
    have e0 : (c.toArray.size == 0) = false := beq_eq_false_iff_ne.2 (by rw [List.size_toArray]; omega)
    have e1 : (c.toArray.size == 1) = false := beq_eq_false_iff_ne.2 (by rw [List.size_toArray]; omega)
    simp only [Lib.swapperK, e0, e1, m2, m3]
    rfl
  have hBl := lt_of_cell hs
  have hlen : c.length = c.toArray.size := by simp
  have H := srt_slice (α := Hd) Tryd.laysGg6 63 77 i ie hi hd heldsPacked hie 25 heldKind encHd 4 (fun _ => rfl) m1 heldAgg encHd_one ltHd swo_ltHd 69 #[.pointer (some ⟨Bs, 0, none⟩)]
    (enters_of Tryd.func69 (by kernel_rfl) rfl) g 0 cap c.toArray (by simpa using h2) (by simp; omega) 121 (by rw [hk9]; exact swap9) false
    (fun args W => run_callFunc_extern Tryd.func121 (by kernel_rfl) (by kernel_rfl) (by kernel_rfl) (e := Extern.ReflectliteSwapper.swap false) (by kernel_rfl) args W) w hg hH
    (fun W dk i j hgW hHk hdk hi hj => by
      have hsW : W.cell? ⟨Bs, 0, none⟩ = some (.slice (some ⟨g, 0, none⟩) c.toArray.size cap) := by
        rw [← hlen]
        exact cell_kept hs hgW hBl (fun e => hBs (Option.some.inj e))
      obtain ⟨a0, a1, _⟩ := holdsK_cells hHk (i := i) (by omega)
      obtain ⟨b0, b1, _⟩ := holdsK_cells hHk (i := j) (by omega)
      refine (all1_any Bs g 0 c.toArray.size cap i j dk[i].1 dk[j].1 W hsW hi hj a0 a1 b0 b1).mono ?_
      rintro e w' ⟨rfl, hb⟩
      refine ⟨?_, grown_of_below hb⟩
      rw [getElem!_pos dk i (by omega), getElem!_pos dk j (by omega)]
      rfl)
  rw [← hlen] at H
  refine H.mono ?_
  rintro e w' ⟨rfl, d', hp, hso, hh, hg'⟩
  have hsz' : d'.size = c.length := by rw [hp.1]; simp
  have hpm : d'.toList.Perm c := by
    have h := hp.2.2
    rw [Array.extract_eq_self_of_le (by omega), Array.extract_eq_self_of_le (by simp)] at h
    simpa using h
  refine ⟨rfl, d'.toList, hpm, rise_of_sorted (((hpm.pairwise_iff (fun {_ _} hne => Ne.symm hne))).2 hap) (by rw [hsz']; exact hso), ⟨some ⟨g, 0, none⟩, cap, by simp [hsz'], fun i hi => ?_⟩, hg', by have := (hh 2 (by simp; omega)).2; rwa [Nat.zero_add] at this⟩
  have hi' : i < d'.size := by simpa using hi
  obtain ⟨a0, a1, a2, a3⟩ := holdsK_cells hh (i := i) hi'
  exact ⟨g, 0, rfl, ⟨Nat.lt_of_lt_of_le hg hg'.size, by simp [hsz']; omega⟩, a0, a1, a2, a3⟩
end Go.Proofs.YtcbcjefefmbccaaDoor
namespace Go.Proofs.YtcbcjefefmbccaaDoor
open Go.RowKit Go.Maps Go.Sort

/- All's own memory on its way: the box of the list, the list's row. -/
structure AllSt (w wr : World) (p : Option Addr) (cp : Nat) (c : List Hd) : Prop where
  cell : wr.cell? ⟨w.heap.size, 0, none⟩ = some (.slice p c.length cp)
  free : wr.frozen? ⟨w.heap.size, 0, none⟩ = false
  row : wr.ownsRow (w.heap.size + 2) 77 4 (.slice p c.length cp) c.length (heldCells c)
  below : Below w.heap.size w wr
  size : w.heap.size + 2 ≤ wr.heap.size
theorem AllSt.grow {w wr w' : World} {p : Option Addr} {cp : Nat} {c : List Hd} {row : Option Nat} (h : AllSt w wr p cp c) (hg : wr.grownBy w' row) (hr : ∀ k, row = some k → k = w.heap.size + 1) : AllSt w w' p cp c := by
  have hne : some w.heap.size ≠ row := fun e => by have := hr _ e.symm; omega
  have hl : w.heap.size < wr.heap.size := by have := h.size; omega
  refine ⟨cell_kept h.cell hg hl hne, (World.frozen?_of_block (w := wr) (hg.block _ hl hne)).trans h.free, h.row.kept hg ?_, ?_, Nat.le_trans h.size hg.size⟩
  · cases hv : (Value.slice p c.length cp).ownBlock with
    | none => exact .inl rfl
    | some k =>
      refine .inr (fun e => ?_)
      have h1 := (h.row.lt k hv).1
      have h2 := hr k e.symm
      omega
  · exact h.below.trans ⟨hg.os, hg.tape, hg.output, hg.size, fun k hk => hg.block k (by have := h.below.size; omega) (fun e => by have := hr k e.symm; omega)⟩

/- v is a slice of pieces from block 'base' on, and may be written. -/
def HeldsOwn (base : Nat) (w : World) (v : Value) (l : List Hd) : Prop := HeldsAt w v l ∧ (l ≠ [] → ∃ g c, v = .slice (some ⟨g, 0, none⟩) l.length c ∧ base ≤ g ∧ w.frozen? ⟨g, 2, none⟩ = false)
theorem grown_grow (w : World) (os : Array Obj) : w.grownBy (grow w os) none := ⟨rfl, rfl, rfl, by simp [grow], fun k hk _ => by simp [grow, Array.getElem?_append_left hk]⟩
set_option maxRecDepth 100000 in
set_option maxHeartbeats 8000000 in
theorem pAll_own {U : Int} (p : Addr) (F : Nat → Prop) (l : List Hd) (w : World) (hok : BinOk U l) (hP : PBin0 w p F l) :
    Calls Tryd.prog 32 #[.pointer (some p)] w fun e w' => ∃ v, e = .returned v ∧ HeldsOwn w.heap.size w' v l ∧ Below w.heap.size w w' := by
  obtain ⟨B, b, rfl, hB, hM, hne, rfl⟩ := hP
  have hap := hM.apart
  have hBl := hB.lt
  have hbl := hM.lt
  have hmany := hok.many
  have HR : Hid (Rise l) := hok.rise
  have hal := (Below.refl w.heap.size w).alloc (Nat.le_refl _) (.cells #[.slice none 0 0] 63)
  have hS := Blk.new w #[.slice none 0 0] 63
  have hB1 := hB.next hal
  have hM1 := of_below hM hal
  have q0 := hB1.cell (i := 0) rfl
  have hs1 : (w.alloc (.cells #[.slice none 0 0] 63)).heap.size = w.heap.size + 1 := by simp
  obtain ⟨ti, hi, hz0, hz1, hz2⟩ := info_parts infoHeld
  go_enter Tryd.func32, Tryd.ntmps32
  go_wp2_with (first
    | (at_range; refine wp_range_kit idPieces _ rfl _ 109 rfl 114 Tryd.underlying109 b l rfl hM1 ?_; intro w0 hr0 hg0 hs0)
    | go_in)
  go_frame
  rw [hs1] at hr0 hs0 ⊢
  have A0 : AllSt w w0 none 0 [] := ⟨cell_kept (hS.cell (i := 0) rfl) hg0 hS.lt (by simp), (World.frozen?_of_block (hg0.block _ hS.lt (by simp))).trans (hS.frozen 0), World.ownsRow_nil _ _ _ _, hal.trans ((below_of_grown hg0).mono hal.size), by omega⟩
  have HB0 : Hid (w0.cell? ⟨B, 0, none⟩ = some (.map (some b))) := cell_kept q0 hg0 hB1.lt (by simp)
  clear hB hM hB1 hM1 hok hS q0
  go_loopw [11] (fun _ wr => ∃ (left : Nat × Int → Bool) (cnt cp : Nat) (c : List Hd) (p : Option Addr), idPieces.Rng wr b (w.heap.size + 1) l left cnt ∧ c.Perm (l.filter (fun h => !left h.1)) ∧ AllSt w wr p cp c) (fun _ wr => wr.rangeLeft b (w.heap.size + 1))
  case atStart =>
    refine ⟨_, _, 0, [], none, hr0, ?_, A0⟩
    rw [List.filter_eq_nil_iff.2 (fun h hm => by simp only [Bool.not_eq_true', Bool.not_eq_false, decide_eq_true_eq]; simp; exact ⟨_, _, hm⟩)]
  case round =>
    clear hr0 A0 hg0
    obtain ⟨left, cnt, cp, c, p, hrg, hcp, hA⟩ := hrel
    go_wp2_with (first
      | (at_next; refine wp_next_kit idPieces _ rfl _ rfl b (w.heap.size + 1) l left cnt rfl hrg ?_ ?_)
      | go_in)
    · intro h0
      rw [List.filter_eq_self.2 (fun h hm => by have := h0 h.1.1 h.1.2 h.2.1 h.2.2 hm; simp [this])] at hcp
      have c0 := hA.cell
      have hsz := hA.size
      obtain ⟨i, hi', hd⟩ := Option.map_eq_some_iff.1 heldsInfo
      obtain ⟨ie, hie, hmm⟩ := Option.map_eq_some_iff.1 heldInfo4
      have hlc : c.length ≤ 250 := by rw [hcp.length_eq]; exact hmany
      by_cases h2 : 2 ≤ c.length
      · obtain ⟨g, cp', hv, h3, h4⟩ := row_some hA.row (by omega)
        obtain ⟨rfl, rfl⟩ : p = some ⟨g, 0, none⟩ ∧ cp = cp' := by simpa using hv
        obtain ⟨hgl, hgs⟩ := hA.row.lt g rfl
        clear hi' hd hie hmm
        have hsrt := sortHelds w.heap.size g cp c wr c0 (by omega) h3 hgs (holdsK_of_row hA.row) h2 (by omega) ((hcp.pairwise_iff (fun {_ _} hne => Ne.symm hne)).2 hap)
        go_wp2_with (go_at_call 68; refine hsrt.mono ?_; rintro e w5 ⟨rfl, c', hp', hr', hat', hg', hfz'⟩; have c5 := cell_kept c0 hg' (by simp only; omega) (fun e => by have := Option.some.inj e; simp only at this; omega))
        go_ret
        have ec : c' = l := rise_ext hr' HR.out (fun x => by rw [hp'.mem_iff, hcp.mem_iff])
        refine ⟨_, rfl, ⟨by rw [← ec]; exact hat', fun _ => ⟨g, cp, by rw [← ec, hp'.length_eq]; rfl, by omega, hfz'⟩⟩, hA.below.trans ⟨hg'.os, hg'.tape, hg'.output, hg'.size, fun k hk => hg'.block k (by omega) (fun e => by have := Option.some.inj e; omega)⟩⟩
      · have ec : Hid (c = l) := by
          show _ = _
          match c, l, hcp, h2 with
          | [], l, h, _ => exact (List.nil_perm.1 h).symm ▸ rfl
          | [x], l, h, _ => exact (List.perm_singleton.1 h.symm).symm
          | x :: y :: r, l, h, h2 => simp at h2
        have htiny : Calls Tryd.prog 68 #[.iface 63 (.slice p c.length cp), .func (.func 69) #[] #[.pointer (some ⟨w.heap.size, 0, none⟩)]] wr fun e w' => e = .returned (.tuple #[]) ∧ ∃ os, w' = grow wr os := by
          have h01 : c.length = 0 ∨ c.length = 1 := by omega
          rcases h01 with h01 | h01
          · exact Any.sort_Slice_tiny Tryd.laysGg6 63 77 i ie hi' hd heldsPacked hie 25 heldKind p c.length cp (by omega) 113 (by rw [h01]; exact swap1) _ _ _ wr
          · exact Any.sort_Slice_tiny Tryd.laysGg6 63 77 i ie hi' hd heldsPacked hie 25 heldKind p c.length cp (by omega) 114 (by rw [h01]; exact swap2) _ _ _ wr
        clear hi' hd hie hmm
        go_wp2_with (go_at_call 68; refine htiny.mono ?_; rintro e w5 ⟨rfl, os, rfl⟩; have hgr : wr.grownBy (grow wr os) none := grown_grow wr os; have c5 := cell_kept c0 hgr (by simp only; omega) (by simp))
        go_ret
        exact ⟨_, rfl, ⟨by rw [← ec.out]; exact (HeldsAt.of_row hA.row).below (below_of_grown hgr), fun hne => by
          rw [← ec.out] at hne ⊢
          have hpos : 0 < c.length := List.length_pos_iff.2 hne
          obtain ⟨g, cp', hv, h3, h4⟩ := row_some hA.row (by omega)
          obtain ⟨rfl, rfl⟩ : p = some ⟨g, 0, none⟩ ∧ cp = cp' := by simpa using hv
          obtain ⟨hgl, hgs⟩ := hA.row.lt g rfl
          have hz := (holdsK_of_row hA.row 2 (by simp; omega)).2
          rw [Nat.zero_add] at hz
          exact ⟨g, cp, rfl, by omega, (frozen?_grow _ _ _ hgs).trans hz⟩⟩, hA.below.trans ((below_of_grown hgr).mono hA.below.size)⟩
    · intro xp xl u t w1 cnt1 hm hlx hrg1 hlt hg1 hs1' hen
      change (Instr.entry (.pointer (some ⟨w.heap.size + 1, 0, none⟩))).run Tryd.prog w1 = .ok (.tuple #[idV (xp : Nat) xl, pieceV (u, t)]) w1 at hen
      have hfl := filter_flip hap (p := left) hm hlx
      have HCP : Hid ((c ++ [((xp, xl), u, t)]).Perm (l.filter (fun y => !(left y.1 && !decide (y.1 = (xp, xl)))))) := List.perm_append_comm.trans ((hcp.cons _).trans hfl.symm)
      have hlen : c.length ≤ 250 := by rw [hcp.length_eq]; exact Nat.le_trans (List.length_filter_le _ _) hmany
      have hA1 := hA.grow hg1 (fun k hk => by cases hk; rfl)
      have hg2 := (World.grownBy_alloc w1 (.cells #[.int .u32 (xp : Nat), .int .i64 xl] 37) none).andThen (World.grownBy_alloc _ (.cells #[.string ⟨t.toArray⟩, .int .i64 u] 114) none) (fun _ hj => by cases hj)
      have hI := (Blk.new w1 #[.int .u32 (xp : Nat), .int .i64 xl] 37).next (below_of_grown (World.grownBy_alloc _ (.cells #[.string ⟨t.toArray⟩, .int .i64 u] 114) none))
      have hPc := Blk.new (w1.alloc (.cells #[.int .u32 (xp : Nat), .int .i64 xl] 37)) #[.string ⟨t.toArray⟩, .int .i64 u] 114
      have hA2 := hA1.grow hg2 (fun k hk => by cases hk)
      have hrg2 := hrg1.kept hg2 (by simp) (by simp)
      rw [hs1'] at hI
      have hs2 : (w1.alloc (.cells #[.int .u32 (xp : Nat), .int .i64 xl] 37)).heap.size = wr.heap.size + 1 := by simp [hs1']
      rw [hs2] at hPc
      have i0 := hI.cell (i := 0) rfl
      have i1 := hI.cell (i := 1) rfl
      have p0 := hPc.cell (i := 0) rfl
      have p1 := hPc.cell (i := 1) rfl
      have b0 := hA2.cell
      have HS3 : Hid (wr.heap.size + 1 + 1 = ((w1.alloc (.cells #[.int .u32 (xp : Nat), .int .i64 xl] 37)).alloc (.cells #[.string ⟨t.toArray⟩, .int .i64 u] 114)).heap.size) := by show _ = _; simp [hs1']
      have HA2 : Hid (AllSt w ((w1.alloc (.cells #[.int .u32 (xp : Nat), .int .i64 xl] 37)).alloc (.cells #[.string ⟨t.toArray⟩, .int .i64 u] 114)) p cp c) := hA2
      clear hA2 hA1 hA hrg1 hfl hI hPc
      go_wp2_with (at_builtin; (refine wpList_append_own _ rfl (.tmp 16) (.tmp 23) 63 rfl (w.heap.size + 2) 77 ti (heldV ((0, 0), 0, [])) 4 40 Tryd.underlying63 hi hz0 hz1 hz2 rfl (by decide) (.slice p c.length cp) c.length (heldCells c) rfl (HA2.out.row.alloc _) ⟨wr.heap.size + 1 + 1, 0, none⟩ 1 1 (heldCells [((xp, xl), u, t)]) rfl rfl (four_new _ ((xp, xl), u, t) _ _ HS3.out) (heldCells_one _) (by unfold maxLen; omega) (by omega) (by have := HA2.out.size; simp at this ⊢; omega) ?_; have hown := HA2.out.row.lt; have hsz2 := HA2.out.size; intro v4 w4 ho4 hg4 _; have hgA : ((w1.alloc (.cells #[.int .u32 (xp : Nat), .int .i64 xl] 37)).alloc (.cells #[.string ⟨t.toArray⟩, .int .i64 u] 114)).grownBy w4 (Value.slice p c.length cp).ownBlock := ((World.grownBy_alloc _ _ none).but _).andThen hg4 (fun _ hj => .inr hj); obtain ⟨p4, cp4, hv4, _⟩ := HeldsAt.of_row (l := c ++ [((xp, xl), u, t)]) (by rw [List.length_append, heldCells_append]; exact ho4); subst hv4; have hnS : some w.heap.size ≠ (Value.slice p c.length cp).ownBlock := (fun e => by have := (hown _ e.symm).1; omega); have c4 := cell_kept HA2.out.cell hgA (Nat.lt_of_lt_of_le (Nat.lt_add_of_pos_right (by decide)) hsz2) hnS; have f4 : w4.frozen? ⟨w.heap.size, 0, none⟩ = false := (World.frozen?_of_block (hgA.block _ (Nat.lt_of_lt_of_le (Nat.lt_add_of_pos_right (by decide)) hsz2) hnS)).trans HA2.out.free))
      have hL1 : (c ++ [((xp, xl), u, t)]).length = c.length + 1 := by simp
      rw [hL1] at ho4
      have hnR : some (w.heap.size + 1) ≠ (Value.slice p c.length cp).ownBlock := (fun e => by have := (hown _ e.symm).1; omega)
      have hnb : some b ≠ (Value.slice p c.length cp).ownBlock := (fun e => by have := (hown _ e.symm).1; omega)
      have hrg4 := hrg2.kept hgA hnb hnR
      have hgS := grown_set (grown_refl w4 (some w.heap.size)) 0 (.slice p4 (c.length + 1) cp4)
      have hrg5 := hrg4.kept hgS (fun e => by have := Option.some.inj e; omega) (fun e => by have := Option.some.inj e; omega)
      have hl4 : w.heap.size < w4.heap.size := Nat.lt_of_lt_of_le (Nat.lt_of_lt_of_le (Nat.lt_add_of_pos_right (by decide)) hsz2) hgA.size
      have HA5 : Hid (AllSt w (w4.setCell ⟨w.heap.size, 0, none⟩ (.slice p4 (c.length + 1) cp4)) p4 cp4 (c ++ [((xp, xl), u, t)])) := by
        have hb4 : Below w.heap.size w w4 := HA2.out.below.trans ⟨hgA.os, hgA.tape, hgA.output, hgA.size, fun k hk => hgA.block k (Nat.lt_of_lt_of_le hk (Nat.le_trans (Nat.le_add_right _ 2) hsz2)) (fun e => by have := (hown _ e.symm).1; omega)⟩
        refine ⟨by rw [hL1]; exact World.cell?_setCell_same _ _ _ c4, by simpa using f4, World.ownsRow.kept (w := w4) ?_ hgS ?_, hb4.setCell (p := ⟨w.heap.size, 0, none⟩) (Nat.le_refl _) _, by simpa [World.setCell] using Nat.le_trans hsz2 hgA.size⟩
        · rw [hL1, heldCells_append]
          exact ho4
        · rw [hL1]
          cases hv : (Value.slice p4 (c.length + 1) cp4).ownBlock with
          | none => exact .inl rfl
          | some k => exact .inr (fun e => by have := (ho4.lt k hv).1; have := Option.some.inj e; omega)
      go_roundw
      case rel => exact ⟨fun y => left y && !decide (y = (xp, xl)), cnt1, cp4, c ++ [((xp, xl), u, t)], p4, hrg5, HCP.out, HA5.out⟩
      case measure => rw [hrg5.left_eq, hrg.left_eq]; exact hlt
theorem pAll_any {U : Int} (p : Addr) (F : Nat → Prop) (l : List Hd) (w : World) (hok : BinOk U l) (hP : PBin0 w p F l) :
    Calls Tryd.prog 32 #[.pointer (some p)] w fun e w' => ∃ v, e = .returned v ∧ HeldsAt w' v l ∧ Below w.heap.size w w' :=
  (pAll_own p F l w hok hP).mono fun _ _ ⟨v, h1, h2, h3⟩ => ⟨v, h1, h2.1, h3⟩
end Go.Proofs.YtcbcjefefmbccaaDoor
namespace Go.Proofs.YtcbcjefefmbccaaDoor
open Go.RowKit Go.Maps

theorem pPut_any {a : Nat → Addr} (s : ByteArray) (p : Addr) (F : Nat → Prop) (l : List Hd) (w : World) (hs : s.size ≤ 50000) (hok : BinOk 1000000 l) (hE : ErrE [1, 6, 9] w a) (hP : PBin0 w p F l) :
    Calls Tryd.prog 30 #[.pointer (some p), .string s] w (PPost a w p F (hPut l s.data.toList)) := by
  by_cases hn : 1 ≤ s.size ∧ s.size ≤ 64
  · cases hf : hFind l (idOfL s.data.toList) with
    | none =>
      by_cases hfull : 250 ≤ l.length
      · exact pPut_full s p F l w hs hE hP hn.1 hn.2 hf hfull
      · exact pPut_new s p F l w hs hE hP hn.1 hn.2 hf (by omega)
    | some k =>
      obtain ⟨hk, _⟩ := hFind_some hf
      obtain ⟨hu0, hu1⟩ := hok.uses (Int.le_refl _) _ (List.getElem_mem hk)
      by_cases ht : l[k].2.2 = s.data.toList
      · exact pPut_same s p F l w hs hE hP hn.1 hn.2 hok.many k l[k].2.1 l[k].2.2 hf hk rfl ht hu0 hu1
      · exact pPut_clash s p F l w hs hE hP hn.1 hn.2 k l[k].2.1 l[k].2.2 hf hk rfl ht
  · exact pPut_bound s p F l w hs hE hP hn
theorem pBinSpec (a : Nat → Addr) {Env : World → Prop} (hst : ∀ {w w' : World}, Env w → Below w.heap.size w w' → Env w') (heg : ∀ {w : World}, Env w → ErrG w a) : BinSpec a Env PBin0 where
  stable h hb := hst h hb
  lt h := h.lt
  off h ho hG := h.off ho hG
  new w _ := pNew_any w
  put s p F l w hs hok hE hP := pPut_any s p F l w hs hok ((heg hE).sub (by decide)) hP
  get x p F l w hx _ hE hP := pGet_any x p F l w hx ((heg hE).sub (by decide)) hP
  drop x p F l w hx hok hE hP := pDrop_any x p F l w hx hok ((heg hE).sub (by decide)) hP
  sweep p F l w hok _ hP := pSweep_any p F l w hok hP
  size p F l w hok _ hP := pSize_any p F l w hok hP
  copy p F l w _ _ hP := pCopy_any p F l w hP
  all p F l w hok _ hP := pAll_any p F l w hok hP
end Go.Proofs.YtcbcjefefmbccaaDoor
namespace Go.Proofs.YtcbcjefefmbccaaDoor
open Go.RowKit Go.Maps

theorem CellsAt.off {F : Nat → Prop} {w w' : World} {v : Value} {xs : List Value} (h : CellsAt w v xs) (ho : Off F w w') (hn : ∀ k, v.ownBlock = some k → ¬ F k) : CellsAt w' v xs := by
  obtain ⟨p, c, rfl, h⟩ := h
  refine ⟨p, c, rfl, fun i hi => ?_⟩
  obtain ⟨b, o, rfl, ⟨hb, hc⟩, h0⟩ := h i hi
  exact ⟨b, o, rfl, ⟨Nat.lt_of_lt_of_le hb ho.size, hc⟩, (World.cell?_of_block (w := w) (ho.block b hb (hn b rfl))).trans h0⟩
theorem ErrE.off {F : Nat → Prop} {L : List Nat} {w w' : World} {a : Nat → Addr} (h : ErrE L w a) (ho : Off F w w') (hG : ∀ i, L.contains i = true → ¬ F (errG i)) : ErrE L w' a where
  glob i hi := (World.cell?_of_block (w := w) (ho.block _ (lt_of_cell (h.glob i hi)) (hG i hi))).trans (h.glob i hi)
/- What the program makes of pieces that it puts: how many new bytes, the error, the bin. -/
def putAll (l : List Hd) (fr : Int) : List (List UInt8) → Int × Int × List Hd
  | [] => (fr, 0, l)
  | s :: r => if (hPut l s).1.2.2 = 0 then putAll (hPut l s).2 (if (hPut l s).1.2.1 = true then fr + s.length else fr) r else (0, (hPut l s).1.2.2, (hPut l s).2)
def PutsPost (a : Nat → Addr) (w : World) (p : Addr) (F : Nat → Prop) (r : Int × Int × List Hd) (e : Ending) (w' : World) : Prop :=
  ∃ ev F', e = .returned (.tuple #[.int .i64 r.1, ev]) ∧ ErrIn w.heap.size w' a ev (r.2.1, -1) ∧ PBin0 w' p F' r.2.2 ∧ (∀ k, F' k → F k ∨ w.heap.size ≤ k) ∧ Off F w w'
set_option maxRecDepth 100000 in
set_option maxHeartbeats 4000000 in
theorem putPieces_any (a : Nat → Addr) (vl : Value) (ls : List (List UInt8)) (p : Addr) (F : Nat → Prop) (U : Int) (l : List Hd) (w : World) (hU0 : 0 ≤ U) (hU : U + ls.length ≤ 1000000) (hok : BinOk U l) (hlen : ls.length ≤ 5000) (hsz : ∀ t ∈ ls, t.length ≤ 100) (hE : ErrE [1, 6, 9] w a) (hG : ∀ i, ([1, 6, 9] : List Nat).contains i = true → ¬ F (errG i))
    (hv : CellsAt w vl (ls.map txtV)) (hrow : ∀ k, vl.ownBlock = some k → ¬ F k) (hP : PBin0 w p F l) :
    Calls Tryd.prog 77 #[.pointer (some p), vl] w (PutsPost a w p F (putAll l 0 ls)) := by
  have HV : Hid (CellsAt w vl (ls.map txtV)) := hv
  have HROW : Hid (∀ k, vl.ownBlock = some k → ¬ F k) := hrow
  have HSZ : Hid (∀ t ∈ ls, t.length ≤ 100) := hsz
  have HEE : Hid (∀ W, Off F w W → ErrE [1, 6, 9] W a) := fun W ho => hE.off ho hG
  have HP : Hid (PBin0 w p F l) := hP
  have HOK : Hid (BinOk U l) := hok
  obtain ⟨RES, hRES⟩ : ∃ RES, putAll l 0 ls = RES := ⟨_, rfl⟩
  have HRES : Hid (putAll l 0 ls = RES) := hRES
  rw [hRES]
  obtain ⟨pa, ca, hvl, _⟩ := hv
  rw [List.length_map] at hvl
  subst hvl
  have hlen' : (ls.length : Int) ≤ 5000 := by omega
  clear hsz hE hG hP hok hRES hrow
  go_enter Tryd.func77, Tryd.ntmps77
  go_wp2_with fail
  go_loopw [6, 14] (fun fv iv wr => ∃ (k : Nat) (fr : Int) (bl : List Hd) (F' : Nat → Prop), k ≤ ls.length ∧ iv = .int .i64 k ∧ fv = .int .i64 fr ∧ (0 ≤ fr ∧ fr ≤ 100 * k) ∧ Hid (putAll bl fr (ls.drop k) = RES) ∧ Hid (BinOk (U + k) bl) ∧ Hid (PBin0 wr p F' bl) ∧ Hid (∀ j, F' j → F j ∨ w.heap.size ≤ j) ∧ Hid (Off F w wr)) (fun _ iv _ => ls.length - (intOf iv).toNat)
  case atStart => exact ⟨0, 0, l, F, Nat.zero_le _, rfl, rfl, ⟨Int.le_refl _, by decide⟩, by rw [List.drop_zero]; exact HRES.out, by show BinOk _ _; rw [show U + ((0 : Nat) : Int) = U by omega]; exact HOK.out, HP.out, fun j hj => .inl hj, Off.of_below (Below.refl _ _)⟩
  case round =>
    clear HRES HP HOK
    obtain ⟨k, fr, bl, F', hk, rfl, rfl, ⟨hf0, hf1⟩, HR, HOK, HP, HF, HO⟩ := hrel
    by_cases hlt : k < ls.length
    · have hlt' : (k : Int) < (ls.length : Int) := by omega
      have hk0 : (0 : Int) ≤ (k : Int) := by omega
      obtain ⟨_, _, hve, hcell⟩ := HV.out.off HO.out HROW.out
      obtain ⟨rfl, rfl⟩ : pa = _ ∧ ca = _ := by simpa using hve
      obtain ⟨b, o, rfl, _, c0⟩ := hcell k (by simpa using hlt)
      rw [List.getElem_map] at c0
      have HT := hideN (HSZ.out ls[k] (List.getElem_mem hlt))
      have hdr : ls.drop k = ls[k] :: ls.drop (k + 1) := List.drop_eq_getElem_cons hlt
      rw [hdr] at HR
      obtain ⟨t, ht⟩ : ∃ t, ls[k] = t := ⟨_, rfl⟩
      rw [ht] at c0 HT HR
      have htl : (⟨t.toArray⟩ : ByteArray).size = t.length := by simp [ByteArray.size]
      have HPUT := hideN (pPut_any (a := a) ⟨t.toArray⟩ p F' bl wr (by rw [htl]; have := HT.out; omega) (HOK.out.mono (by omega)) (HEE.out _ HO.out) HP.out)
      have HOK2 : Hid (BinOk (U + ((k + 1 : Nat) : Int)) (hPut bl t).2) := by
        show BinOk _ _
        rw [show U + ((k + 1 : Nat) : Int) = U + k + 1 by omega]
        exact hPut_ok HOK.out t (by omega)
      have e8 : (⟨t.toArray⟩ : ByteArray).data.toList = t := by simp
      rw [e8] at HPUT
      unfold PPost at HPUT
      have htx := HT.out
      clear hdr ht hcell hve e8 HOK HP
      obtain ⟨⟨⟨ri, ra, re⟩, rl⟩, hq⟩ : ∃ q, hPut bl t = q := ⟨_, rfl⟩
      rw [putAll, hq] at HR
      rw [hq] at HPUT HOK2
      simp only at HPUT HOK2 HR
      clear hq
      obtain ⟨T, hT⟩ : ∃ T : ByteArray, (⟨t.toArray⟩ : ByteArray) = T := ⟨_, rfl⟩
      change wr.cell? ⟨b, o + k, none⟩ = some (.string ⟨t.toArray⟩) at c0
      rw [hT] at htl c0 HPUT
      clear hT
      have htl' : (T.size : Int) = (t.length : Int) := by omega
      have hw1 : IntKind.i64.wrap (fr + (t.length : Int)) = fr + (t.length : Int) := by rw [IntKind.wrap_i64]; omega
      go_wp2_with fail
      refine HPUT.out.mono ?_
      rintro e w2 ⟨ev, F2, rfl, he2, hp2, hf2, ho2⟩
      have HO2 : Hid (Off F w w2) := HO.out.trans ho2 (fun j hj hF => (HF.out j hF).resolve_right (by omega))
      have HF2 : Hid (∀ j, F2 j → F j ∨ w.heap.size ≤ j) := fun j hj => by
        rcases hf2 j hj with h | h
        · exact HF.out j h
        · exact .inr (Nat.le_trans HO.out.size h)
      have hal := (Below.refl w2.heap.size w2).alloc (Nat.le_refl _) (.cells #[.int .u32 (ri.1 : Nat), .int .i64 ri.2] 37)
      have HP2 := hideN (hp2.off (Off.of_below (F := fun _ => False) hal) (fun _ _ h => h))
      have HE2 := hideN (he2.below hal)
      have HO3 : Hid (Off F w _) := hideN (HO2.out.trans (Off.of_below (F := fun _ => False) hal) (fun _ _ h => h.elim))
      have hsw := HO.out.size
      clear HPUT hp2 hf2 ho2 he2 hal
      by_cases hre : re = 0
      · subst hre
        obtain rfl := HE2.out.nil
        rw [if_pos rfl] at HR
        cases ra with
        | true =>
          simp only [if_true] at HR
          go_wp2_with fail
          go_roundw
          case rel => exact ⟨k + 1, fr + (t.length : Int), rl, F2, hlt, by go_num, rfl, ⟨by omega, by omega⟩, HR.out, HOK2.out, HP2.out, HF2.out, HO3.out⟩
          case measure => simp [intOf]; omega
        | false =>
          simp only [Bool.false_eq_true, if_false] at HR
          go_wp2_with fail
          go_roundw
          case rel => exact ⟨k + 1, fr, rl, F2, hlt, by go_num, rfl, ⟨by omega, by omega⟩, HR.out, HOK2.out, HP2.out, HF2.out, HO3.out⟩
          case measure => simp [intOf]; omega
      · rw [if_neg hre] at HR
        obtain ⟨t1, u1, rfl⟩ : ∃ t u, ev = .iface t u := by
          rcases HE2.out with ⟨_, hf⟩ | ⟨_, _, hv, _⟩ | ⟨_, _, _, _, _, _, hv, _⟩
          · exact (hre (Prod.mk.inj hf).1).elim
          · exact ⟨_, _, hv⟩
          · exact ⟨_, _, hv⟩
        have HRE : Hid (ErrIn w.heap.size (w2.alloc (.cells #[.int .u32 (ri.1 : Nat), .int .i64 ri.2] 37)) a (.iface t1 u1) (re, -1)) := by
          rcases HE2.out with h | h | ⟨k1, pb, po, at0, h1, h2, h3, h4⟩
          · exact .inl h
          · exact .inr (.inl h)
          · exact .inr (.inr ⟨k1, pb, po, at0, h1, by omega, h3, h4⟩)
        clear HE2
        go_wp2_with fail
        go_ret2
        refine ⟨.iface t1 u1, F2, ?_, ?_, ?_, HF2.out, HO3.out⟩
        · rw [← HR.out]; rfl
        · rw [← HR.out]; exact HRE.out
        · rw [← HR.out]; exact HP2.out
    · have hge : (ls.length : Int) ≤ (k : Int) := by omega
      rw [List.drop_eq_nil_of_le (by omega), putAll] at HR
      go_wp2_with fail
      go_ret2
      refine ⟨.nilIface, F', ?_, ?_, ?_, HF.out, HO.out⟩
      · rw [← HR.out]; rfl
      · rw [← HR.out]; exact .inl ⟨rfl, rfl⟩
      · rw [← HR.out]; exact HP.out
end Go.Proofs.YtcbcjefefmbccaaDoor
