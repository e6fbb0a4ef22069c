/-
  Own text. Memory that is followed through calls: new blocks, blocks that hold what they held (Blk), what lies between two block numbers (SameIn).
  Own text. owner.Check by a contract: the first fault of nodes, with its place.
-/
import Derived.Test.YtcbcjefefmbccabDoorChecked
import Derived.WalkKit
import Derived.Below
import Derived.RangeFuncRecord
import Derived.Test.YtcbcjefefmbccabDoorG05
import Derived.Test.YtcbcjefefmbccabDoorG03
namespace Go.Proofs.YtcbcjefefmbccabDoor
open Go.RowKit

theorem hideN {q : Prop} (h : q) : Hid q := h
theorem frozen_alloc_lt' (w : World) (o : Obj) {b i : Nat} (h : b < w.heap.size) : (w.alloc o).frozen? ⟨b, i, none⟩ = w.frozen? ⟨b, i, none⟩ := World.frozen?_of_block (w := w) (Below.heap_alloc w o b h)
theorem new_cell (W : World) (cs : Array Value) (t : TypeId) {i B : Nat} {v : Value} (h : cs[i]? = some v) (hB : B = W.heap.size) : (W.alloc (.cells cs t)).cell? ⟨B, i, none⟩ = some v := by
  subst hB
  have h2 := World.alloc_heap_new W (.cells cs t)
  simp only [World.cell?, h2, h]
  rfl
theorem new_frozen (W : World) (cs : Array Value) (t : TypeId) {i B : Nat} (hB : B = W.heap.size) : (W.alloc (.cells cs t)).frozen? ⟨B, i, none⟩ = false := by
  subst hB
  have h2 := World.alloc_heap_new W (.cells cs t)
  simp only [World.frozen?, h2]
  simp
theorem grown_of_below {w w' : World} (h : Below w.heap.size w w') : w.grownBy w' none := ⟨h.os, h.tape, h.output, h.size, fun k hk _ => h.block k hk⟩
theorem below_of_grown {w w' : World} (h : w.grownBy w' none) : Below w.heap.size w w' := ⟨h.os, h.tape, h.output, h.size, fun k hk => h.block k hk (by simp)⟩
theorem row_below {w w' : World} {base : Nat} {e : TypeId} {size : Nat} {v : Value} {n : Nat} {xs : List Value} (h : w.ownsRow base e size v n xs) (hb : Below w.heap.size w w') : w'.ownsRow base e size v n xs := by
  refine h.kept (grown_of_below hb) ?_
  cases hv : v.ownBlock with
  | none => exact .inl rfl
  | some j => exact .inr (by simp)
/- Block B holds cs. -/
def Blk (W : World) (B : Nat) (cs : Array Value) (t : TypeId) : Prop := W.heap[B]? = some (.cells cs t (0, 0))
theorem Blk.lt {W : World} {B : Nat} {cs : Array Value} {t : TypeId} (h : Blk W B cs t) : B < W.heap.size := (Array.getElem?_eq_some_iff.1 h).1
theorem Blk.cell {W : World} {B : Nat} {cs : Array Value} {t : TypeId} (h : Blk W B cs t) {i : Nat} {u : Value} (hi : cs[i]? = some u) : W.cell? ⟨B, i, none⟩ = some u := by
  simp only [World.cell?, show W.heap[B]? = _ from h, hi]
  rfl
theorem Blk.frozen {W : World} {B : Nat} {cs : Array Value} {t : TypeId} (h : Blk W B cs t) (i : Nat) : W.frozen? ⟨B, i, none⟩ = false := by
  simp only [World.frozen?, show W.heap[B]? = _ from h]
  simp
theorem Blk.next {W W' : World} {B : Nat} {cs : Array Value} {t : TypeId} (h : Blk W B cs t) (hb : Below W.heap.size W W') : Blk W' B cs t := (hb.block B h.lt).trans h
theorem Blk.new (W : World) (cs : Array Value) (t : TypeId) : Blk (W.alloc (.cells cs t)) W.heap.size cs t := World.alloc_heap_new W _
theorem Blk.set {W : World} {B : Nat} {cs : Array Value} {t : TypeId} (h : Blk W B cs t) (i : Nat) (u : Value) : Blk (W.setCell ⟨B, i, none⟩ u) B (cs.setIfInBounds i u) t := by
  obtain ⟨hlt, hk⟩ := Array.getElem?_eq_some_iff.1 h
  show (W.heap.modify B _)[B]? = _
  rw [Array.getElem?_eq_getElem (by rw [Array.size_modify]; exact hlt), Array.getElem_modify_self, hk]
  simp
theorem Blk.other {W : World} {B : Nat} {cs : Array Value} {t : TypeId} (h : Blk W B cs t) {a : Addr} (ha : B ≠ a.block) (u : Value) : Blk (W.setCell a u) B cs t := (Below.heap_setCell W a u B ha).trans h
/- Between two block numbers nothing has turned. -/
def SameIn (lo hi : Nat) (W W' : World) : Prop := ∀ b, lo ≤ b → b < hi → W'.heap[b]? = W.heap[b]?
theorem SameIn.refl (lo hi : Nat) (W : World) : SameIn lo hi W W := fun _ _ _ => rfl
theorem SameIn.next {lo hi : Nat} {W W' W'' : World} (h : SameIn lo hi W W') (hs : hi ≤ W'.heap.size) (hb : Below W'.heap.size W' W'') : SameIn lo hi W W'' := fun b h1 h2 => (hb.block b (by omega)).trans (h b h1 h2)
theorem SameIn.setCell {lo hi : Nat} {W W' : World} (h : SameIn lo hi W W') {a : Addr} (ha : a.block < lo ∨ hi ≤ a.block) (u : Value) : SameIn lo hi W (W'.setCell a u) := fun b h1 h2 => (Below.heap_setCell W' a u b (by omega)).trans (h b h1 h2)
theorem Blk.below {W W' : World} {B n : Nat} {cs : Array Value} {t : TypeId} (h : Blk W B cs t) (hb : Below n W W') (hn : B < n) : Blk W' B cs t := (hb.block B hn).trans h
theorem SameIn.below {lo hi n : Nat} {W W' W'' : World} (h : SameIn lo hi W W') (hn : hi ≤ n) (hb : Below n W' W'') : SameIn lo hi W W'' := fun b h1 h2 => (hb.block b (by omega)).trans (h b h1 h2)
theorem SameIn.cell {lo hi : Nat} {W W' : World} (h : SameIn lo hi W W') {b : Nat} (h1 : lo ≤ b) (h2 : b < hi) (o : Nat) : W'.cell? ⟨b, o, none⟩ = W.cell? ⟨b, o, none⟩ := World.cell?_of_block (w := W) (h b h1 h2)
end Go.Proofs.YtcbcjefefmbccabDoor
namespace Go.Proofs.YtcbcjefefmbccabDoor
open Go.RowKit

/- A slice of ints that holds xs. -/
abbrev IntsC (w : World) (v : Value) (xs : List Int) : Prop := CellsAt w v (xs.map (Value.int .i64))
/- nil, or the sentinel of that number. -/
def SentO (a : Nat → Addr) (ev : Value) (c : Int) : Prop := (c = 0 ∧ ev = .nilIface) ∨ ∃ i : Nat, i < 12 ∧ c = (i : Int) + 1 ∧ ev = sentV a i
theorem below_drew_n (w : World) (q : Nat) : Below w.heap.size w (w.drewN q) := ⟨rfl, rfl, rfl, Nat.le_refl _, fun _ _ => rfl⟩
theorem isNode_any (n : Int) (w : World) : Calls Tryd.prog 22 #[.int .i64 n] w fun e w' => e = .returned (.bool (nodeOk n)) ∧ w' = w := by
  unfold nodeOk
  by_cases h1 : 1 ≤ n
  · by_cases h2 : n ≤ 6
    · rw [decide_eq_true (show 1 ≤ n ∧ n ≤ 6 from ⟨h1, h2⟩)]
      go_enter Tryd.func22, Tryd.ntmps22
      go_wp2
      go_ret
      exact ⟨rfl, rfl⟩
    · rw [decide_eq_false (show ¬ (1 ≤ n ∧ n ≤ 6) from fun h => h2 h.2)]
      go_enter Tryd.func22, Tryd.ntmps22
      go_wp2
      go_ret
      exact ⟨rfl, rfl⟩
  · rw [decide_eq_false (show ¬ (1 ≤ n ∧ n ≤ 6) from fun h => h1 h.1)]
    go_enter Tryd.func22, Tryd.ntmps22
    go_wp2
    go_ret
    exact ⟨rfl, rfl⟩
set_option maxRecDepth 100000 in
set_option maxHeartbeats 4000000 in
theorem ownCheck1_any (a : Nat → Addr) (LB : Nat) (vl : Value) (l : List Int) (k : Nat) (w : World) (hk : k < l.length) (hlen : l.length ≤ 1000) (hv : IntsC w vl l) (hL : Blk w LB #[vl] 22) (hE : ErrE [1, 7] w a) :
    Calls Tryd.prog 21 (#[.int .i64 k] ++ #[.pointer (some ⟨LB, 0, none⟩)]) w fun e w' => ∃ ev, e = .returned ev ∧ SentO a ev (nodeErr l k) ∧ Below w.heap.size w w' := by
  obtain ⟨p, c, rfl, hcell⟩ := hv
  simp only [List.length_map, List.getElem_map] at hcell hL ⊢
  obtain ⟨b, o, rfl, _, hc0⟩ := hcell k hk
  have e0 := hL.cell (i := 0) rfl
  have g1 := hE.glob 1 (by decide)
  have g7 := hE.glob 7 (by decide)
  dsimp only [errG] at g1 g7
  have hk' : (k : Int) < (l.length : Int) := by omega
  have hk0 : (0 : Int) ≤ (k : Int) := by omega
  have hne : nodeErr l k = if nodeOk l[k] = false then 2 else if 0 < k ∧ l[k] ≤ (l[k - 1]?).getD 0 then 8 else 0 := by
    unfold nodeErr
    rw [List.getElem?_eq_getElem hk]
  have HPR : Hid (∀ (h : 0 < k), w.cell? ⟨b, o + (k - 1), none⟩ = some (.int .i64 (l[k - 1]'(by omega))) ∧ (l[k - 1]?).getD 0 = l[k - 1]'(by omega)) := fun h => by
    obtain ⟨b', o', hp, _, hc⟩ := hcell (k - 1) (by omega)
    obtain ⟨rfl, rfl⟩ : b = b' ∧ o = o' := by simpa using hp
    exact ⟨hc, by rw [List.getElem?_eq_getElem (show k - 1 < l.length by omega)]; rfl⟩
  obtain ⟨x, hx⟩ : ∃ x, l[k] = x := ⟨_, rfl⟩
  rw [hx] at hc0 hne
  have HNE := hideN hne
  have hll : (l.length : Int) ≤ 1000 := by omega
  have HIS := hideN (isNode_any x w)
  clear hcell hL hE hx hne
  simp only [List.append_toArray, List.cons_append, List.nil_append]
  cases hok : nodeOk x with
  | false =>
    rw [hok] at HIS HNE
    have HR : Hid (nodeErr l k = 2) := by show _ = _; rw [HNE.out, if_pos rfl]
    clear HNE hok
    go_enter Tryd.func21, Tryd.ntmps21
    go_wp2_with fail
    refine HIS.out.mono ?_
    rintro e w1 ⟨rfl, hw1⟩
    subst hw1
    go_wp2_with fail
    go_ret
    exact ⟨_, rfl, .inr ⟨1, by decide, HR.out, rfl⟩, Below.refl _ _⟩
  | true =>
    rw [hok] at HIS HNE
    by_cases h0 : 0 < k
    · obtain ⟨hc1, hg⟩ := HPR.out h0
      obtain ⟨y, hy⟩ : ∃ y, l[k - 1]'(by omega) = y := ⟨_, rfl⟩
      rw [hy] at hc1 hg
      have HNE2 : Hid (nodeErr l k = if x ≤ y then 8 else 0) := by show _ = _; rw [HNE.out, hg, if_neg (by simp)]; simp only [h0, true_and]
      obtain ⟨m, hm⟩ : ∃ m, k - 1 = m := ⟨_, rfl⟩
      have hwm : IntKind.i64.wrap ((k : Int) - 1) = (m : Int) := by rw [IntKind.wrap_i64]; omega
      have hm0 : (0 : Int) ≤ (m : Int) := by omega
      have hml : (m : Int) < (l.length : Int) := by omega
      have h0' : (0 : Int) < (k : Int) := by omega
      rw [hm] at hc1
      clear HNE hg hy hok HPR hm
      by_cases hxy : x ≤ y
      · have HR : Hid (nodeErr l k = 8) := by show _ = _; rw [HNE2.out, if_pos hxy]
        clear HNE2
        go_enter Tryd.func21, Tryd.ntmps21
        go_wp2_with fail
        refine HIS.out.mono ?_
        rintro e w1 ⟨rfl, hw1⟩
        subst hw1
        go_wp2_with fail
        go_quiet (fail)
        have HB := hideN (below_drew_n w1 nq)
        go_wp2_with fail
        go_ret
        exact ⟨_, rfl, .inr ⟨7, by decide, HR.out, rfl⟩, HB.out⟩
      · have HR : Hid (nodeErr l k = 0) := by show _ = _; rw [HNE2.out, if_neg hxy]
        clear HNE2
        go_enter Tryd.func21, Tryd.ntmps21
        go_wp2_with fail
        refine HIS.out.mono ?_
        rintro e w1 ⟨rfl, hw1⟩
        subst hw1
        go_wp2_with fail
        go_quiet (fail)
        have HB := hideN (below_drew_n w1 nq)
        go_wp2_with fail
        go_ret
        exact ⟨_, rfl, .inl ⟨HR.out, rfl⟩, HB.out⟩
    · have h0' : ¬ (0 : Int) < (k : Int) := by omega
      have HR : Hid (nodeErr l k = 0) := by show _ = _; rw [HNE.out, if_neg (by simp), if_neg (fun h => h0 h.1)]
      clear HNE hok HPR
      go_enter Tryd.func21, Tryd.ntmps21
      go_wp2_with fail
      refine HIS.out.mono ?_
      rintro e w1 ⟨rfl, hw1⟩
      subst hw1
      go_wp2_with fail
      go_quiet (fail)
      have HB := hideN (below_drew_n w1 nq)
      go_wp2_with fail
      go_ret
      exact ⟨_, rfl, .inl ⟨HR.out, rfl⟩, HB.out⟩
set_option maxRecDepth 100000 in
set_option maxHeartbeats 4000000 in
theorem ownFirst_any (a : Nat → Addr) (LB : Nat) (vl : Value) (l : List Int) (w : World) (hlen : l.length ≤ 1000) (hv : IntsC w vl l) (hL : Blk w LB #[vl] 22) (hE : ErrE [1, 7] w a) :
    Calls Tryd.prog 20 #[.int .i64 l.length, .func (.func 21) #[] #[.pointer (some ⟨LB, 0, none⟩)]] w fun e w' => ∃ ev, e = .returned ev ∧ ErrIn w.heap.size w' a ev (nodesAns l) ∧ Below w.heap.size w w' := by
  have HC : Hid (∀ k W, k < l.length → Below w.heap.size w W → Calls Tryd.prog 21 (#[.int .i64 k] ++ #[.pointer (some ⟨LB, 0, none⟩)]) W fun e w' => ∃ ev, e = .returned ev ∧ SentO a ev (nodeErr l k) ∧ Below W.heap.size W w') :=
    fun k W hk hb => ownCheck1_any a LB vl l k W hk hlen (hv.below hb) (hL.below hb hL.lt) (hE.below hb (Nat.le_refl _))
  obtain ⟨many, hmany⟩ : ∃ many, l.length = many := ⟨_, rfl⟩
  obtain ⟨err, herr⟩ : ∃ err, nodeErr l = err := ⟨_, rfl⟩
  obtain ⟨RES, hRES⟩ : ∃ RES, fstErr err 0 many = RES := ⟨_, rfl⟩
  have hna : nodesAns l = ansAt err RES := by
    unfold nodesAns fstAns
    rw [herr, hmany, hRES]
  have HNA := hideN hna
  have hm' : (many : Int) ≤ 1000 := by omega
  have HRES := hideN hRES
  rw [hmany, herr] at HC
  rw [hmany]
  clear hRES hna hmany herr hlen hv hL hE
  go_enter Tryd.func20, Tryd.ntmps20
  go_wp2_with fail
  go_loopw [8] (fun iv wr => ∃ (k : Nat), k ≤ many ∧ iv = .int .i64 k ∧ Hid (fstErr err k (many - k) = RES) ∧ Hid (Below w.heap.size w wr)) (fun iv _ => many - (intOf iv).toNat)
  case atStart => exact ⟨0, Nat.zero_le _, rfl, HRES.out, Below.refl _ _⟩
  case round =>
    obtain ⟨k, hk, rfl, HR, HB⟩ := hrel
    by_cases hlt : k < many
    · have hlt' : (k : Int) < (many : Int) := by omega
      have HCK := hideN (HC.out k wr hlt HB.out)
      have hsub : many - k = (many - (k + 1)) + 1 := by omega
      rw [hsub, fstErr] at HR
      clear hsub
      go_wp2_with fail
      refine HCK.out.mono ?_
      rintro e w2 ⟨ev2, rfl, he2, hb2⟩
      have HB2 : Hid (Below w.heap.size w w2) := HB.out.trans (hb2.mono HB.out.size)
      clear hb2 HCK
      rcases he2 with ⟨h0, rfl⟩ | ⟨i, hi, h0, rfl⟩
      · rw [if_neg (by rw [h0]; simp)] at HR
        clear h0
        go_wp2_with fail
        go_roundw
        case rel => exact ⟨k + 1, hlt, by go_num, HR.out, HB2.out⟩
        case measure => simp [intOf]; omega
      · have hne : err k ≠ 0 := by rw [h0]; omega
        rw [if_pos hne] at HR
        have HQ := hideN h0
        have HIL := hideN hi
        clear h0 hne hi
        go_wp2_with fail
        go_ret
        refine ⟨_, rfl, ?_, HB2.out.alloc HB2.out.size _⟩
        rw [HNA.out, ← HR.out]
        exact .inr (.inr ⟨i, w2.heap.size, 0, (k : Int), HIL.out, HB2.out.size, rfl, new_cell _ _ _ rfl rfl, new_cell _ _ _ rfl rfl, by show (err k, (k : Int)) = _; rw [HQ.out]⟩)
    · have hge : (many : Int) ≤ (k : Int) := by omega
      have hz : many - k = 0 := by omega
      rw [hz, fstErr] at HR
      clear hz
      go_wp2_with fail
      go_ret
      refine ⟨_, rfl, ?_, HB.out⟩
      rw [HNA.out, ← HR.out]
      exact .inl ⟨rfl, rfl⟩
set_option maxRecDepth 100000 in
set_option maxHeartbeats 4000000 in
theorem ownCheck_any (a : Nat → Addr) (vl : Value) (l : List Int) (w : World) (hlen : l.length ≤ 1000) (hv : IntsC w vl l) (hE : ErrE [1, 4, 7] w a) :
    Calls Tryd.prog 6 #[vl] w fun e w' => ∃ ev, e = .returned ev ∧ ErrIn w.heap.size w' a ev (checkAns' l) ∧ Below w.heap.size w w' := by
  have hal := (Below.refl w.heap.size w).alloc (Nat.le_refl _) (.cells #[vl] 22)
  have HF := hideN (ownFirst_any a w.heap.size vl l (w.alloc (.cells #[vl] 22)) hlen (hv.below hal) (Blk.new w #[vl] 22) ((hE.sub (M := [1, 7]) (by decide)).below hal (Nat.le_refl _)))
  have HAL := hideN hal
  have g4 := hE.glob 4 (by decide)
  have hg4 := lt_of_cell g4
  dsimp only [errG] at g4 hg4
  obtain ⟨p, c, rfl, _⟩ := hv
  simp only [List.length_map] at HF HAL ⊢
  clear hal hE
  by_cases h0 : l.length = 0
  · have hr : checkAns' l = (5, -1) := by unfold checkAns'; rw [if_pos h0]
    rw [h0] at HF HAL ⊢
    rw [hr]
    clear HF hr h0
    go_enter Tryd.func6, Tryd.ntmps6
    go_wp2_with fail
    go_ret
    exact ⟨_, rfl, .inr (.inl ⟨4, by decide, rfl, rfl⟩), HAL.out⟩
  · have hr : checkAns' l = nodesAns l := by unfold checkAns'; rw [if_neg h0]
    rw [hr]
    have hz : ((l.length : Int) == 0) = false := beq_eq_false_iff_ne.2 (by omega)
    have hll : (l.length : Int) ≤ 1000 := by omega
    clear hr h0
    go_enter Tryd.func6, Tryd.ntmps6
    go_wp2_with fail
    refine HF.out.mono ?_
    rintro e w1 ⟨ev, rfl, hev, hb⟩
    have HEV : Hid (ErrIn w.heap.size w1 a ev (nodesAns l)) := by
      rcases hev with h | h | ⟨k, pb, po, at0, h1, h2, h3⟩
      · exact .inl h
      · exact .inr (.inl h)
      · exact .inr (.inr ⟨k, pb, po, at0, h1, Nat.le_trans HAL.out.size h2, h3⟩)
    have HB : Hid (Below w.heap.size w w1) := HAL.out.trans (hb.mono HAL.out.size)
    clear hev hb HF
    go_wp2_with fail
    go_ret
    exact ⟨_, rfl, HEV.out, HB.out⟩
end Go.Proofs.YtcbcjefefmbccabDoor
