/-
  Own text. Rows of recipes as they grow, whatever the recipes are; rows of pieces that are one's own; scrub.Check at too many files, scrub.Of at nil.
  Own text. cornbinlaw2's faulted at the right number and place, by a contract.
  Own text. scrubbed: it returns true.
  Own text. cornbinlaw2's coded at the right number, by a contract.
-/
import Derived.Test.YtcbcjefefmbccabGreatDoorS30
import Derived.Test.YtcbcjefefmbccabGreatDoorS25
import Derived.Test.YtcbcjefefmbccabGreatDoorS26
import Derived.Test.YtcbcjefefmbccabGreatDoorS18
import Derived.Test.YtcbcjefefmbccabGreatDoorS03
namespace Go.Proofs.YtcbcjefefmbccabGreatDoor
open Go.RowKit Go.Maps Go.Sort

abbrev RQ := Rcp × Value
def rqCells : List RQ → List Value
  | [] => []
  | q :: r => .string ⟨q.1.1.toArray⟩ :: .int .i64 q.1.2.1 :: .int .u32 q.1.2.2.1 :: q.2 :: rqCells r
theorem rqCells_append : ∀ (a b : List RQ), rqCells (a ++ b) = rqCells a ++ rqCells b
  | [], _ => rfl
  | x :: r, b => by rw [List.cons_append, rqCells, rqCells_append r b, rqCells]; rfl
theorem rqCells_at : ∀ (a : List RQ) (i : Nat) (h : i < a.length), (rqCells a)[i * 4]? = some (.string ⟨a[i].1.1.toArray⟩) ∧ (rqCells a)[i * 4 + 1]? = some (.int .i64 a[i].1.2.1) ∧ (rqCells a)[i * 4 + 2]? = some (.int .u32 a[i].1.2.2.1) ∧ (rqCells a)[i * 4 + 3]? = some a[i].2
  | x :: r, 0, _ => ⟨rfl, rfl, rfl, rfl⟩
  | x :: r, i + 1, h => by
    have := rqCells_at r i (by simpa using h)
    rw [rqCells, show (i + 1) * 4 = i * 4 + 1 + 1 + 1 + 1 by omega]
    simpa using this
structure RqSt (w W : World) (v : Value) (ps : List RQ) : Prop where
  row : W.ownsRow w.heap.size 40 4 v ps.length (rqCells ps)
  ids : ∀ q ∈ ps, IdsAt W q.2 q.1.2.2.2
  off : ∀ q ∈ ps, q.1.2.2.2 ≠ [] → ∀ j, q.2.ownBlock = some j → v.ownBlock ≠ some j
theorem RqSt.nil (w W : World) : RqSt w W (.slice none 0 0) [] := ⟨World.ownsRow_nil _ _ _ _, fun q hq => by simp at hq, fun q hq => by simp at hq⟩
theorem RqSt.next {w W W' : World} {v : Value} {ps : List RQ} (h : RqSt w W v ps) (hb : Below W.heap.size W W') : RqSt w W' v ps :=
  ⟨row_below h.row hb, fun q hq => (h.ids q hq).below hb, h.off⟩
theorem RqSt.app {w W W' : World} {v v' : Value} {ps : List RQ} {q : RQ} (h : RqSt w W v ps) (hq : IdsAt W q.2 q.1.2.2.2) (hn : q.1.2.2.2 ≠ [] → ∀ j, q.2.ownBlock = some j → v.ownBlock ≠ some j) (hg : W.grownBy W' v.ownBlock) (hr : W'.ownsRow w.heap.size 40 4 v' (ps.length + 1) (rqCells (ps ++ [q]))) (hv : v'.ownBlock = v.ownBlock ∨ v'.ownBlock = some W.heap.size) : RqSt w W' v' (ps ++ [q]) := by
  have ho := off_of_rowgrown hg
  have hall : ∀ x ∈ ps ++ [q], IdsAt W x.2 x.1.2.2.2 ∧ (x.1.2.2.2 ≠ [] → ∀ j, x.2.ownBlock = some j → v.ownBlock ≠ some j) := fun x hx => by
    rcases List.mem_append.1 hx with hx | hx
    · exact ⟨h.ids x hx, h.off x hx⟩
    · rw [List.mem_singleton.1 hx]
      exact ⟨hq, hn⟩
  refine ⟨by rw [List.length_append]; exact hr, fun x hx => (hall x hx).1.off ho (fun hne j hj e => (hall x hx).2 hne j hj e), fun x hx hne j hj e => ?_⟩
  rcases hv with hv | hv
  · exact (hall x hx).2 hne j hj (hv ▸ e)
  · have := (hall x hx).1.lt hne hj
    rw [hv] at e
    have := Option.some.inj e
    omega
theorem RqSt.at {w W : World} {v : Value} {ps : List RQ} (h : RqSt w W v ps) : RcpsAt W v (ps.map (·.1)) := by
  rcases h.row.2 with ⟨rfl, e⟩ | ⟨g, cap, cur, hv, _, hb, _⟩
  · have : ps = [] := List.length_eq_zero_iff.1 e
    subst this
    exact ⟨none, 0, rfl, fun i hi => by simp at hi⟩
  · refine ⟨some ⟨g, 0, none⟩, cap, by rw [hv, List.length_map], fun i hi => ?_⟩
    have hi' : i < ps.length := by simpa using hi
    obtain ⟨a0, a1, a2, a3⟩ := rqCells_at ps i hi'
    have c0 := h.row.cells (g := g) (by rw [hv]; rfl) (i * 4) _ a0
    have c1 := h.row.cells (g := g) (by rw [hv]; rfl) (i * 4 + 1) _ a1
    have c2 := h.row.cells (g := g) (by rw [hv]; rfl) (i * 4 + 2) _ a2
    have c3 := h.row.cells (g := g) (by rw [hv]; rfl) (i * 4 + 3) _ a3
    simp only [add_plain] at c0 c1 c2 c3
    refine ⟨g, 0, ps[i].2, rfl, ?_⟩
    simp only [List.getElem_map, Nat.zero_add]
    exact ⟨lt_of_block hb, c0, c1, c2, c3, h.ids _ (List.getElem_mem hi')⟩
theorem heldsOwn_of_row {base : Nat} {w : World} {v : Value} {l : List Hd} (h : w.ownsRow base 78 4 v l.length (heldCells l)) : HeldsOwn base w v l := by
  refine ⟨HeldsAt.of_row h, fun hne => ?_⟩
  rcases h.2 with ⟨_, h0⟩ | ⟨g, cap, cur, rfl, hg, hb, _⟩
  · exact absurd (List.length_eq_zero_iff.1 h0) hne
  · refine ⟨g, cap, rfl, hg, ?_⟩
    simp only [World.frozen?, hb]
    simp
set_option maxHeartbeats 2000000 in
theorem scrubCheck_many (a : Nat → Addr) (p q : Option Addr) (n c m d : Nat) (w : World) (hn : 30 < n) (hE : ErrE [6] w a) :
    Calls Tryz.prog 24 #[.slice p n c, .slice q m d] w fun e w' => e = .returned (sentV a 6) ∧ Below w.heap.size w w' := by
  have hal := ((Below.refl w.heap.size w).alloc (Nat.le_refl _) (.cells #[.slice p n c] 31)).alloc (by simp) (.cells #[.slice q m d] 54)
  have g6 := (hE.below hal (Nat.le_refl _)).glob 6 (by decide)
  dsimp only [errG] at g6
  have hn' : (30 : Int) < (n : Int) := by omega
  have HAL := hideN hal
  clear hal
  go_enter Tryz.func24, Tryz.ntmps24
  go_wp2_with fail
  go_ret
  exact ⟨rfl, HAL.out⟩
set_option maxHeartbeats 2000000 in
theorem scrubOf_nil (a : Nat → Addr) (w : World) (hE : ErrE [2] w a) :
    Calls Tryz.prog 27 #[.pointer none] w fun e w' => e = .returned (sentV a 2) ∧ w' = w := by
  have g2 := hE.glob 2 (by decide)
  dsimp only [errG] at g2
  go_enter Tryz.func27, Tryz.ntmps27
  go_wp2_with fail
  go_ret
  exact ⟨rfl, rfl⟩
end Go.Proofs.YtcbcjefefmbccabGreatDoor
namespace Go.Proofs.YtcbcjefefmbccabGreatDoor
open Go.RowKit

set_option maxHeartbeats 2000000 in
theorem faulted2_true (a : Nat → Addr) (v : Value) (f : Int × Int) (w : World) (hE : ErrW w a) (h : ErrIs w a v f) :
    Calls Tryz.prog 23 #[v, faultV f.1 f.2] w fun e w' => e = .returned (.bool true) ∧ Below w.heap.size w w' := by
  obtain ⟨c, p⟩ := f
  have HB : Hid (∀ o, Below w.heap.size w (w.alloc o)) := fun o => (Below.refl _ w).alloc (Nat.le_refl _) o
  have HE : Hid (ErrW w a) := hE
  have HI : Hid (ErrIs w a v (c, p)) := h
  have hcc : (c == c) = true := by simp
  have hpp : (p == p) = true := by simp
  clear hE h
  go_enter Tryz.func23, Tryz.ntmps23
  go_wp2_with fail
  refine ((HI.out.below (HB.out _)).code (HE.out.below (HB.out _) (Nat.le_refl _))).mono ?_
  rintro e w1 ⟨rfl, hb1⟩
  have hb : Below w.heap.size w w1 := (HB.out _).trans (hb1.mono (by simp))
  have k0 : w1.cell? ⟨w.heap.size, 0, none⟩ = some (.int .i64 c) := (hb1.cell (p := ⟨w.heap.size, 0, none⟩) (by simp)).trans (by simp)
  have k1 : w1.cell? ⟨w.heap.size, 1, none⟩ = some (.int .i64 p) := (hb1.cell (p := ⟨w.heap.size, 1, none⟩) (by simp)).trans (by simp)
  clear hb1
  by_cases h0 : c = 0
  · have hc0 : (c == 0) = true := by rw [beq_iff_eq]; exact h0
    clear h0
    go_wp2_with fail
    go_ret
    exact ⟨rfl, hb⟩
  · have hc0 : (c == 0) = false := by rw [beq_eq_false_iff_ne]; exact h0
    clear h0
    go_wp2_with fail
    go_ret
    exact ⟨rfl, hb⟩

end Go.Proofs.YtcbcjefefmbccabGreatDoor
namespace Go.Proofs.YtcbcjefefmbccabGreatDoor
open Go.RowKit Go.Maps

abbrev helloS : ByteArray := ⟨#[104, 101, 108, 108, 111]⟩
theorem ok1s : NOk 4000 1 st1 := by
  have := NOk.empty.put (by decide) [97] helloL
  rw [put1] at this
  exact this
theorem inv1s : NInv st1 := by
  have := NInv.empty.put NOk.empty (by decide) [97] helloL
  rw [put1] at this
  exact this
theorem full1s : NFull st1 := by
  have := NFull.empty.put [97] helloL
  rw [put1] at this
  exact this
theorem files1s : FilesIn [rcpOf ([97], helloL)] := (right_of (fl := [([97], helloL)]) (bl := st1.bins) inv1s full1s ok1s (by decide) (List.Perm.refl _) (List.Perm.refl _) (List.pairwise_singleton _ _) (List.pairwise_singleton _ _)).1.toFilesIn
set_option maxRecDepth 100000 in
set_option maxHeartbeats 4000000 in
theorem scrubbed_any (a : Nat → Addr) (w : World) (hE : ErrW w a) :
    Calls Tryz.prog 18 #[] w fun e w' => e = .returned (.bool true) ∧ Below w.heap.size w w' := by
  have HEE : Hid (∀ W, Below w.heap.size w W → ErrW W a) := fun W hb => hE.below hb (Nat.le_refl _)
  clear hE
  go_enter Tryz.func18, Tryz.ntmps18
  go_wp2_with fail
  refine (nNew_any w).mono ?_
  rintro e w1 ⟨p, F1, rfl, hP1, hF1, hb1⟩
  have HB1 := hideN hb1
  have HP1 := hideN hP1
  have HF1 := hideN hF1
  clear hb1 hP1 hF1
  go_wp2_with fail
  refine (nodePut_any a ⟨#[97]⟩ helloS p F1 0 ⟨[], []⟩ w1 (by decide) (by decide) ⟨by decide, by decide⟩ (fun b hb => by simp at hb) (by simp) ((HEE.out _ HB1.out).on (by decide)) HP1.out).mono ?_
  rw [show (⟨#[97]⟩ : ByteArray).data.toList = [97] from rfl, show helloS.data.toList = helloL from rfl, put1]
  rintro e w2 ⟨ev2, F2, rfl, he2, hP2, hF2, ho2⟩
  simp only at he2 hP2
  obtain rfl := he2.nil
  have HB2 : Hid (Below w.heap.size w w2) := HB1.out.trans (ho2.below HB1.out.size (fun j hj hF => by have := HF1.out j hF; omega))
  have HP2 := hideN hP2
  clear he2 hP2 hF2 ho2 HP1 HF1 HB1
  have HRC := hideN (nodeRecipe_any a ⟨#[97]⟩ p F2 st1 w2 (by decide) (fun f hf => by rw [idsOf_length]; have := pieces_250 _ (ok1s.files f hf).1; omega) ((HEE.out _ HB2.out).on (by decide)) HP2.out)
  unfold RecPost at HRC
  rw [show nFile st1.files (⟨#[97]⟩ : ByteArray).data.toList = some helloL by decide] at HRC
  go_wp2_with fail
  refine HRC.out.mono ?_
  rintro e w3 ⟨⟨v3, rfl, hi3⟩, hb3⟩
  obtain ⟨q3, c3, hv3, _⟩ := id hi3
  have hlen : (idsOf helloL).length = 1 := by rw [idsOf_length, helloPieces]; rfl
  rw [hlen] at hv3
  subst hv3
  obtain ⟨PP, hPP⟩ : ∃ PP : Nat, pmore 2166136261 helloL = PP := ⟨_, rfl⟩
  rw [hPP]
  have HPP := hideN hPP
  have hal4 := (Below.refl w3.heap.size w3).alloc (Nat.le_refl _) (.cells #[.string ⟨#[97]⟩, .int .i64 5, .int .u32 (PP : Nat), .slice q3 1 c3] 40)
  have HB4 : Hid (Below w.heap.size w _) := hideN ((HB2.out.trans (hb3.mono HB2.out.size)).trans (hal4.mono (Nat.le_trans HB2.out.size hb3.size)))
  have HP4 := hideN ((HP2.out.below hb3).below hal4)
  have HX4 := hideN (Blk.new w3 #[.string ⟨#[97]⟩, .int .i64 5, .int .u32 (PP : Nat), .slice q3 1 c3] 40)
  have HI4 := hideN (hi3.at.below hal4)
  clear hi3 hb3 hal4 HRC HP2 HB2 hPP hlen
  go_wp2_with fail
  obtain ⟨W4, hW4⟩ : ∃ W4, w3.alloc (.cells #[.string ⟨#[97]⟩, .int .i64 5, .int .u32 (PP : Nat), .slice q3 1 c3] 40) = W4 := ⟨_, rfl⟩
  obtain ⟨RB, hRB⟩ : ∃ RB, w3.heap.size = RB := ⟨_, rfl⟩
  rw [hW4] at HB4 HP4 HX4 HI4 ⊢
  rw [hRB] at HX4 ⊢
  clear hW4 hRB
  have HOF := hideN (scrubOf_right a p F2 4000 1 st1 W4 inv1s full1s ok1s (by decide) (by decide) ((HEE.out _ HB4.out).on (by decide)) HP4.out)
  refine HOF.out.mono ?_
  rintro e w5 ⟨rfl, hb5⟩
  have HX5 := hideN (HX4.out.next hb5)
  have r0 := HX5.out.cell (i := 0) rfl
  have r1 := HX5.out.cell (i := 1) rfl
  have r2 := HX5.out.cell (i := 2) rfl
  have r3 := HX5.out.cell (i := 3) rfl
  have hal6 := (Below.refl w5.heap.size w5).alloc (Nat.le_refl _) (.cells #[.string ⟨#[97]⟩, .int .i64 5, .int .u32 (PP : Nat), .slice q3 1 c3] 40)
  have HB6 : Hid (Below w.heap.size w _) := hideN ((HB4.out.trans (hb5.mono HB4.out.size)).trans (hal6.mono (Nat.le_trans HB4.out.size hb5.size)))
  have HX6 := hideN (Blk.new w5 #[.string ⟨#[97]⟩, .int .i64 5, .int .u32 (PP : Nat), .slice q3 1 c3] 40)
  have HI6 := hideN ((HI4.out.below hb5).below hal6)
  clear hb5 hal6 HOF HI4 HP4 HB4 HX4 HX5
  go_wp2_with fail
  clear r0 r1 r2 r3
  obtain ⟨W6, hW6⟩ : ∃ W6, w5.alloc (.cells #[.string ⟨#[97]⟩, .int .i64 5, .int .u32 (PP : Nat), .slice q3 1 c3] 40) = W6 := ⟨_, rfl⟩
  obtain ⟨SB, hSB⟩ : ∃ SB, w5.heap.size = SB := ⟨_, rfl⟩
  rw [hW6] at HB6 HX6 HI6 ⊢
  rw [hSB] at HX6 ⊢
  clear hW6 hSB
  have hra : RcpsAt W6 (.slice (some ⟨SB, 0, none⟩) 1 1) [rcpOf ([97], helloL)] := ⟨some ⟨SB, 0, none⟩, 1, rfl, fun i hi => by
    obtain rfl : i = 0 := by simp at hi; exact hi
    refine ⟨SB, 0, .slice q3 1 c3, rfl, HX6.out.lt, HX6.out.cell (i := 0) rfl, HX6.out.cell (i := 1) rfl, ?_, HX6.out.cell (i := 3) rfl, HI6.out⟩
    have := HX6.out.cell (i := 2) rfl
    rw [← HPP.out] at this
    exact this⟩
  have HCK := hideN (scrubCheck_none a _ _ W6 files1s hra ((HEE.out _ HB6.out).on (by decide)))
  clear hra
  refine HCK.out.mono ?_
  rintro e w7 ⟨ev, rfl, he, hb7⟩
  have HE7 := hideN he.at
  have HB7 : Hid (Below w.heap.size w w7) := HB6.out.trans (hb7.mono HB6.out.size)
  clear he hb7 HCK
  have HFT := hideN (faulted2_true a ev (5, 0) w7 (HEE.out _ HB7.out) HE7.out)
  go_wp2_with fail
  refine HFT.out.mono ?_
  rintro e w8 ⟨rfl, hb8⟩
  go_wp2_with fail
  go_ret
  exact ⟨rfl, HB7.out.trans (hb8.mono HB7.out.size)⟩
end Go.Proofs.YtcbcjefefmbccabGreatDoor
namespace Go.Proofs.YtcbcjefefmbccabGreatDoor
open Go.RowKit

set_option maxHeartbeats 2000000 in
theorem coded2_true (a : Nat → Addr) (v : Value) (c : Int) (w : World) (hE : ErrW w a) (h : ErrIs w a v (c, -1)) :
    Calls Tryz.prog 26 #[v, .int .i64 c] w fun e w' => e = .returned (.bool true) ∧ Below w.heap.size w w' := by
  have HE : Hid (ErrW w a) := hE
  have HI : Hid (ErrIs w a v (c, -1)) := h
  have hcc : (c == c) = true := by simp
  clear hE h
  go_enter Tryz.func26, Tryz.ntmps26
  go_wp2_with fail
  refine (HI.out.code HE.out).mono ?_
  rintro e w1 ⟨rfl, hb1⟩
  go_wp2_with fail
  go_ret
  exact ⟨rfl, hb1⟩
end Go.Proofs.YtcbcjefefmbccabGreatDoor
