/-
  Own text. sort.Slice of pieces by their IDs, as All calls it.
-/
import Derived.Test.YtmjdgakokldliaaGreatDoorPAll
namespace Go.Proofs.YtmjdgakokldliaaGreatDoor
open Go.RowKit Go.Maps Go.Sort

def encHd (h : Hd) : List Value := [.int .u32 (h.1.1 : Nat), .int .i64 h.1.2, .int .i64 h.2.1, .string ⟨h.2.2.toArray⟩]
def ltHd (a b : Hd) : Bool := lessB a.1 b.1
theorem swo_ltHd : SWO ltHd where
  irrefl x := lessB_irrefl x.1
  trans x y z h1 h2 := lessB_trans h1 h2
  ntrans x y z h1 h2 := by
    have n1 : ¬ (ltHd x y = true) := by rw [h1]; decide
    have n2 : ¬ (ltHd y z = true) := by rw [h2]; decide
    cases h3 : ltHd x z with
    | false => rfl
    | true =>
      unfold ltHd at *
      rw [lessB_iff] at *
      omega
theorem heldsInfo : (Tryz.prog.info? 61).map (·.desc) = some (.slice 64) := by kernel_rfl
theorem heldInfo4 : (Tryz.prog.info? 64).map (fun i => (i.size, i.hasPointers, i.bytes)) = some (4, true, 40) := by kernel_rfl
theorem heldKind (w : World) : (Extern.Rtype.kind 64).run Tryz.prog w = .ok 25 w := by kernel_rfl
theorem heldAgg (w : World) : (isAgg 64).run Tryz.prog w = .ok true w := by kernel_rfl
theorem heldsPacked : Tryz.prog.packed 61 = false := by kernel_rfl
theorem swap9 : Tryz.prog.funcs.findIdx? (·.name == "internal/reflectlite" ++ ".Swapper$" ++ toString 9) = some 152 := by kernel_rfl
theorem swap1 : Tryz.prog.funcs.findIdx? (·.name == "internal/reflectlite" ++ ".Swapper$" ++ toString 1) = some 144 := by kernel_rfl
theorem swap2 : Tryz.prog.funcs.findIdx? (·.name == "internal/reflectlite" ++ ".Swapper$" ++ toString 2) = some 145 := by kernel_rfl
theorem encHd_one (x : Hd) : ∀ v ∈ encHd x, v.oneCell' = true := by
  intro v hv
  simp only [encHd, List.mem_cons, List.not_mem_nil, or_false] at hv
  rcases hv with rfl | rfl | rfl | rfl <;> rfl
theorem holdsK_cells {w : World} {g off : Nat} {d : Array Hd} (h : HoldsK encHd 4 w g off d) {i : Nat} (hi : i < d.size) :
    w.cell? ⟨g, off + i * 4, none⟩ = some (.int .u32 (d[i].1.1 : Nat)) ∧ w.cell? ⟨g, off + i * 4 + 1, none⟩ = some (.int .i64 d[i].1.2) ∧ w.cell? ⟨g, off + i * 4 + 2, none⟩ = some (.int .i64 d[i].2.1) ∧ w.cell? ⟨g, off + i * 4 + 3, none⟩ = some (.string ⟨d[i].2.2.toArray⟩) := by
  have e : d[i]! = d[i] := getElem!_pos d i hi
  have c0 := (h.cell (i := i) (c := 0) hi (by decide)).1
  have c1 := (h.cell (i := i) (c := 1) hi (by decide)).1
  have c2 := (h.cell (i := i) (c := 2) hi (by decide)).1
  have c3 := (h.cell (i := i) (c := 3) hi (by decide)).1
  rw [e] at c0 c1 c2 c3
  exact ⟨c0, c1, c2, c3⟩
/- The row of a slice of pieces that the call owns. -/
theorem holdsK_of_row {w : World} {base g cap : Nat} {c : List Hd} (h : w.ownsRow base 64 4 (.slice (some ⟨g, 0, none⟩) c.length cap) c.length (heldCells c)) : HoldsK encHd 4 w g 0 c.toArray := by
  obtain ⟨hl, ho⟩ := h
  rcases ho with ⟨he, _⟩ | ⟨g', cap', cur, he, _, hb, h1, h2, h3, h4⟩
  · cases he
  · obtain ⟨e1, e2⟩ : g = g' ∧ cap = cap' := by simpa using he
    subst e1 e2
    intro j hj
    have hj' : j < c.length * 4 := by simpa using hj
    have hi : j / 4 < c.length := by omega
    have ef : (flatK encHd 4 c.toArray)[j]! = (encHd c[j / 4])[j % 4]! := by
      rw [get_flatK _ _ _ _ (by simpa using hj')]
      rw [getElem!_pos c.toArray (j / 4) (by simpa using hi)]
      simp
    obtain ⟨a0, a1, a2, a3⟩ := heldCells_at c (j / 4) hi
    have hv : (heldCells c)[j]? = some ((encHd c[j / 4])[j % 4]!) := by
      have : j % 4 = 0 ∨ j % 4 = 1 ∨ j % 4 = 2 ∨ j % 4 = 3 := by omega
      rcases this with hm | hm | hm | hm
      · rw [show j / 4 * 4 = j by omega] at a0; rw [a0, hm]; rfl
      · rw [show j / 4 * 4 + 1 = j by omega] at a1; rw [a1, hm]; rfl
      · rw [show j / 4 * 4 + 2 = j by omega] at a2; rw [a2, hm]; rfl
      · rw [show j / 4 * 4 + 3 = j by omega] at a3; rw [a3, hm]; rfl
    have hcur : cur.toList[j]? = some ((encHd c[j / 4])[j % 4]!) := by
      rw [← hv, ← h4, List.getElem?_take, if_pos (by omega)]
    refine ⟨?_, by simp [World.frozen?, hb]⟩
    rw [Nat.zero_add, ef]
    simp only [World.cell?, hb]
    rw [← Array.getElem?_toList, hcur]
    rfl
theorem rise_of_sorted {d : Array Hd} (hap : d.toList.Pairwise (fun p q => p.1 ≠ q.1)) (hs : SortedIn ltHd 0 d.size d) : Rise d.toList := by
  unfold Rise
  rw [List.pairwise_iff_getElem] at *
  intro i j hi hj hij
  have h1 := hs i j (Nat.zero_le _) hij (by simpa using hj)
  rw [getElem!_pos d j (by simpa using hj), getElem!_pos d i (by simpa using hi)] at h1
  have h2 := hap i j hi hj hij
  simp only [Array.getElem_toList] at h2 ⊢
  exact lessB_flip h1 (fun e => h2 e.symm)

theorem sortHelds (Bs g cap : Nat) (c : List Hd) (w : World) (hs : w.cell? ⟨Bs, 0, none⟩ = some (.slice (some ⟨g, 0, none⟩) c.length cap)) (hBs : Bs ≠ g) (hcap : c.length ≤ cap) (hg : g < w.heap.size) (hH : HoldsK encHd 4 w g 0 c.toArray) (h2 : 2 ≤ c.length) (hsz : c.length ≤ 1000) (hap : c.Pairwise (fun p q => p.1 ≠ q.1)) :
    Calls Tryz.prog 87 #[.iface 61 (.slice (some ⟨g, 0, none⟩) c.length cap), .func (.func 88) #[] #[.pointer (some ⟨Bs, 0, none⟩)]] w fun e w' => e = .returned (.tuple #[]) ∧ ∃ c', c'.Perm c ∧ Rise c' ∧ HeldsAt w' (.slice (some ⟨g, 0, none⟩) c.length cap) c' ∧ w.grownBy w' (some g) := by
  obtain ⟨i, hi, hd⟩ := Option.map_eq_some_iff.1 heldsInfo
  obtain ⟨ie, hie, hm⟩ := Option.map_eq_some_iff.1 heldInfo4
  obtain ⟨m1, m2, m3⟩ : ie.size = 4 ∧ ie.hasPointers = true ∧ ie.bytes = 40 := by simpa using hm
  have hk9 : Lib.swapperK c.toArray.size ie 25 = 9 := by
    have e0 : (c.toArray.size == 0) = false := beq_eq_false_iff_ne.2 (by rw [List.size_toArray]; omega)
    have e1 : (c.toArray.size == 1) = false := beq_eq_false_iff_ne.2 (by rw [List.size_toArray]; omega)
    simp only [Lib.swapperK, e0, e1, m2, m3]
    rfl
  have hBl := lt_of_cell hs
  have hlen : c.length = c.toArray.size := by simp
  have H := srt_slice (α := Hd) Tryz.laysGg6 61 64 i ie hi hd heldsPacked hie 25 heldKind encHd 4 (fun _ => rfl) m1 heldAgg encHd_one ltHd swo_ltHd 88 #[.pointer (some ⟨Bs, 0, none⟩)]
    (enters_of Tryz.func88 (by kernel_rfl) rfl) g 0 cap c.toArray (by simpa using h2) (by simp; omega) 152 (by rw [hk9]; exact swap9) false
    (fun args W => run_callFunc_extern Tryz.func152 (by kernel_rfl) (by kernel_rfl) (by kernel_rfl) (e := Extern.ReflectliteSwapper.swap false) (by kernel_rfl) args W) w hg hH
    (fun W dk i j hgW hHk hdk hi hj => by
      have hsW : W.cell? ⟨Bs, 0, none⟩ = some (.slice (some ⟨g, 0, none⟩) c.toArray.size cap) := by
        rw [← hlen]
        exact cell_kept hs hgW hBl (fun e => hBs (Option.some.inj e))
      obtain ⟨a0, a1, _⟩ := holdsK_cells hHk (i := i) (by omega)
      obtain ⟨b0, b1, _⟩ := holdsK_cells hHk (i := j) (by omega)
      refine (all1_any Bs g 0 c.toArray.size cap i j dk[i].1 dk[j].1 W hsW hi hj a0 a1 b0 b1).mono ?_
      rintro e w' ⟨rfl, hb⟩
      refine ⟨?_, grown_of_below hb⟩
      rw [getElem!_pos dk i (by omega), getElem!_pos dk j (by omega)]
      rfl)
  rw [← hlen] at H
  refine H.mono ?_
  rintro e w' ⟨rfl, d', hp, hso, hh, hg'⟩
  have hsz' : d'.size = c.length := by rw [hp.1]; simp
  have hpm : d'.toList.Perm c := by
    have h := hp.2.2
    rw [Array.extract_eq_self_of_le (by omega), Array.extract_eq_self_of_le (by simp)] at h
    simpa using h
  refine ⟨rfl, d'.toList, hpm, rise_of_sorted (((hpm.pairwise_iff (fun {_ _} hne => Ne.symm hne))).2 hap) (by rw [hsz']; exact hso), ⟨some ⟨g, 0, none⟩, cap, by simp [hsz'], fun i hi => ?_⟩, hg'⟩
  have hi' : i < d'.size := by simpa using hi
  obtain ⟨a0, a1, a2, a3⟩ := holdsK_cells hh (i := i) hi'
  exact ⟨g, 0, rfl, ⟨Nat.lt_of_lt_of_le hg hg'.size, by simp [hsz']; omega⟩, a0, a1, a2, a3⟩
end Go.Proofs.YtmjdgakokldliaaGreatDoor
