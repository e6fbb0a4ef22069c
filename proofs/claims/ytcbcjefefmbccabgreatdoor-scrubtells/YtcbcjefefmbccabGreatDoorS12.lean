/-
  Own text. The program's recipe.Check by a contract.
  Own text. The program's recipe.falling, its iterator, and recipe.Rep by contracts.
  Own text. (*node.Node).Size by a contract.
  Own text. The program's bin by contracts: Drop.
-/
import Derived.Test.YtcbcjefefmbccabGreatDoorS11
import Derived.Test.YtcbcjefefmbccabGreatDoorS04
import Derived.Test.YtcbcjefefmbccabGreatDoorS07
import Derived.Test.YtcbcjefefmbccabGreatDoorS08
namespace Go.Proofs.YtcbcjefefmbccabGreatDoor
open Go.RowKit

theorem ErrIn.mkNil (base : Nat) (w : World) (a : Nat → Addr) : ErrIn base w a .nilIface (0, -1) := .inl ⟨rfl, rfl⟩
theorem ErrIn.sent (base : Nat) (w : World) (a : Nat → Addr) (k : Nat) (hk : k < 12) {c : Int} (hc : c = (k : Int) + 1) : ErrIn base w a (sentV a k) (c, -1) := .inr (.inl ⟨k, hk, rfl, by rw [hc]⟩)

set_option maxRecDepth 100000 in
set_option maxHeartbeats 4000000 in
theorem check_any (a : Nat → Addr) (nm : ByteArray) (hnm : nm.size ≤ maxLen) (len p : Int) (v : Value) (ids : List (Nat × Int)) (w : World) (hE : ErrE [1, 2, 3, 6, 8] w a) (hv : IdsAt w v ids) (hlen : ids.length ≤ maxLen) :
    Calls Tryz.prog 123 #[rcpV nm len p v] w fun e w' => ∃ ev, e = .returned ev ∧ ErrIn w.heap.size w' a ev (recFault nm.data.toList len ids) ∧ Below w.heap.size w w' := by
  obtain ⟨pa, c, rfl, hcell⟩ := hv
  have HN : Hid (nm.size ≤ maxLen) := hnm
  have hl2 : (ids.length : Int) ≤ 9223372036854775807 := by unfold maxLen at hlen; omega
  have HG : Hid (∀ W', Below w.heap.size w W' → ∀ i, ([1, 2, 3, 6, 8] : List Nat).contains i = true → W'.cell? ⟨errG i, 0, none⟩ = some (sentV a i)) := fun W' hb i hi => (hE.below hb (Nat.le_refl _)).glob i hi
  have HC : Hid (∀ W', Below w.heap.size w W' → ∀ i (h : i < ids.length), ∃ b o, pa = some ⟨b, o, none⟩ ∧ W'.cell? ⟨b, o + i * 2, none⟩ = some (.int .u32 (ids[i].1 : Nat)) ∧ W'.cell? ⟨b, o + i * 2 + 1, none⟩ = some (.int .i64 ids[i].2)) := fun W' hb i hi => by
    obtain ⟨b, o, hp, hlt, h1, h2⟩ := hcell i hi
    exact ⟨b, o, hp, (hb.cell (p := ⟨b, o + i * 2, none⟩) hlt).trans h1, (hb.cell (p := ⟨b, o + i * 2 + 1, none⟩) hlt).trans h2⟩
  clear hnm hlen hcell hE
  go_enter Tryz.func123, Tryz.ntmps123
  go_wp2_with fail
  refine (name_any nm HN.out _).mono ?_
  rintro e w1 ⟨rfl, hw1⟩
  subst hw1
  have hX := Blk.new w #[.string nm, .int .i64 len, .int .u32 p, .slice pa ids.length c] 40
  have hb : Below w.heap.size w (w.alloc (.cells #[.string nm, .int .i64 len, .int .u32 p, .slice pa ids.length c] 40)) := (Below.refl _ w).alloc (Nat.le_refl _) _
  obtain ⟨W, hW⟩ : ∃ W, w.alloc (.cells #[.string nm, .int .i64 len, .int .u32 p, .slice pa ids.length c] 40) = W := ⟨_, rfl⟩
  rw [hW] at hX hb ⊢
  clear hW
  have x1 := hX.cell (i := 1) rfl
  have x3 := hX.cell (i := 3) rfl
  have g1 := HG.out W hb 1 (by decide)
  have g3 := HG.out W hb 3 (by decide)
  have g6 := HG.out W hb 6 (by decide)
  dsimp only [errG] at g1 g3 g6
  by_cases h1 : isName nm.data.toList = true
  · rw [h1]
    have H1 : Hid (isName nm.data.toList = true) := h1
    clear h1
    by_cases h2a : len < 0
    · have HR : Hid (recFault nm.data.toList len ids = (2, -1)) := recFault_len ids H1.out (.inl h2a)
      go_wp2_with fail
      go_ret
      exact ⟨_, rfl, by rw [HR.out]; exact ErrIn.sent _ _ a 1 (by decide) rfl, hb⟩
    · by_cases h2b : 4000 < len
      · have HR : Hid (recFault nm.data.toList len ids = (2, -1)) := recFault_len ids H1.out (.inr h2b)
        go_wp2_with fail
        go_ret
        exact ⟨_, rfl, by rw [HR.out]; exact ErrIn.sent _ _ a 1 (by decide) rfl, hb⟩
      · have H2 : Hid (¬ (len < 0 ∨ 4000 < len)) := fun h => h.elim h2a h2b
        by_cases h3 : 250 < ids.length
        · have h3' : (250 : Int) < (ids.length : Int) := by omega
          have HR : Hid (recFault nm.data.toList len ids = (7, -1)) := recFault_many H1.out H2.out h3
          clear h3
          go_wp2_with fail
          go_ret
          exact ⟨_, rfl, by rw [HR.out]; exact ErrIn.sent _ _ a 6 (by decide) rfl, hb⟩
        · have h3' : ¬ (250 : Int) < (ids.length : Int) := by omega
          have H3 : Hid (¬ 250 < ids.length) := h3
          clear h3 g1 g3 g6
          go_wp2_with fail
          go_loopw [3, 28] (fun t i wr => ∃ (k : Nat), k ≤ ids.length ∧ i = .int .i64 k ∧ t = .int .i64 (lenSum (ids.take k)) ∧ (∀ j (hj : j < ids.length), j < k → idOk ids[j] = true) ∧ 0 ≤ lenSum (ids.take k) ∧ lenSum (ids.take k) ≤ 64 * (k : Int) ∧ Below w.heap.size w wr ∧ Blk wr w.heap.size #[.string nm, .int .i64 len, .int .u32 p, .slice pa ids.length c] 40) (fun _ i _ => ids.length - (intOf i).toNat)
          case atStart => exact ⟨0, Nat.zero_le _, rfl, by simp [lenSum], fun j _ h => by omega, by simp [lenSum], by simp [lenSum], hb, hX⟩
          case round =>
            clear hX hb x1 x3
            obtain ⟨k, hk, rfl, rfl, hok, hs0, hs1, hb, hX⟩ := hrel
            have HOK : Hid (∀ j (hj : j < ids.length), j < k → idOk ids[j] = true) := hok
            clear hok
            have x1 := hX.cell (i := 1) rfl
            have g2 := HG.out wr hb 2 (by decide)
            have g8 := HG.out wr hb 8 (by decide)
            dsimp only [errG] at g2 g8
            have hlg2 := lt_of_cell g2
            by_cases hlt : k < ids.length
            · have hlt' : (k : Int) < (ids.length : Int) := by omega
              obtain ⟨b, o, rfl, hc0, hc1⟩ := HC.out wr hb k hlt
              have HSN : Hid (lenSum (ids.take (k + 1)) = lenSum (ids.take k) + ids[k].2) := lenSum_snoc ids k hlt
              obtain ⟨x, hx⟩ : ∃ x, ids[k].2 = x := ⟨_, rfl⟩
              obtain ⟨y, hy⟩ : ∃ y : Int, ((ids[k].1 : Nat) : Int) = y := ⟨_, rfl⟩
              obtain ⟨t, ht⟩ : ∃ t, lenSum (ids.take k) = t := ⟨_, rfl⟩
              have HOX : Hid (idOk ids[k] = decide (1 ≤ x ∧ x ≤ 64)) := by show _ = _; rw [← hx]; rfl
              rw [hx] at hc1 HSN
              rw [hy] at hc0
              rw [ht] at HSN hs0 hs1
              rw [ht]
              clear hx ht hy
              have hal : Below wr.heap.size wr (wr.alloc (.cells #[.int .u32 y, .int .i64 x] 25)) := (Below.refl _ wr).alloc (Nat.le_refl _) _
              by_cases hx1 : x < 1
              · have HB : Hid (firstBad 0 ids = some k) := by
                  have := firstBad_at ids 0 k hlt (fun j hj => HOK.out j (by omega) hj) (by rw [HOX.out]; simp; omega)
                  rwa [Nat.zero_add] at this
                have HR : Hid (recFault nm.data.toList len ids = (3, (k : Int))) := recFault_shape H1.out H2.out H3.out HB.out
                go_wp2_with fail
                go_ret
                refine ⟨_, rfl, ?_, (hb.trans (hal.mono hb.size)).alloc (Nat.le_trans hb.size hal.size) _⟩
                rw [HR.out]
                refine .inr (.inr ⟨2, wr.heap.size + 1, 0, (k : Int), by decide, by have := hb.size; omega, rfl, ?_, ?_, rfl⟩)
                · simp
                · simp
              · by_cases hx2 : 64 < x
                · have HB : Hid (firstBad 0 ids = some k) := by
                    have := firstBad_at ids 0 k hlt (fun j hj => HOK.out j (by omega) hj) (by rw [HOX.out]; simp; omega)
                    rwa [Nat.zero_add] at this
                  have HR : Hid (recFault nm.data.toList len ids = (3, (k : Int))) := recFault_shape H1.out H2.out H3.out HB.out
                  go_wp2_with fail
                  go_ret
                  refine ⟨_, rfl, ?_, (hb.trans (hal.mono hb.size)).alloc (Nat.le_trans hb.size hal.size) _⟩
                  rw [HR.out]
                  refine .inr (.inr ⟨2, wr.heap.size + 1, 0, (k : Int), by decide, by have := hb.size; omega, rfl, ?_, ?_, rfl⟩)
                  · simp
                  · simp
                · go_wp2_with fail
                  go_roundw
                  case rel => exact ⟨k + 1, by omega, by go_num, by rw [HSN.out], fun j hj h => by
                    by_cases e : j = k
                    · subst e; rw [HOX.out]; simp; omega
                    · exact HOK.out j hj (by omega), by rw [HSN.out]; omega, by rw [HSN.out]; omega, hb.trans (hal.mono hb.size), hX.next hal⟩
                  case measure => simp [intOf]; omega
            · have hge : (ids.length : Int) ≤ (k : Int) := by omega
              have hall : ids.take k = ids := List.take_of_length_le (by omega)
              rw [hall] at hs0 hs1 ⊢
              have HB : Hid (firstBad 0 ids = none) := firstBad_none ids 0 (fun j hj => HOK.out j hj (by omega))
              obtain ⟨t, ht⟩ : ∃ t, lenSum ids = t := ⟨_, rfl⟩
              have HLS : Hid (lenSum ids = t) := ht
              rw [ht] at hs0 hs1 ⊢
              clear ht hall
              by_cases hsum : t = len
              · have HR : Hid (recFault nm.data.toList len ids = (0, -1)) := recFault_fine H1.out H2.out H3.out HB.out (by rw [HLS.out]; exact hsum)
                have hq : (t == len) = true := by rw [beq_iff_eq]; exact hsum
                have hq2 : (t != len) = false := by rw [bne, hq]; rfl
                clear hsum
                go_wp2_with fail
                go_ret
                exact ⟨_, rfl, by rw [HR.out]; exact ErrIn.mkNil _ _ a, hb⟩
              · have HR : Hid (recFault nm.data.toList len ids = (9, -1)) := recFault_sum H1.out H2.out H3.out HB.out (by rw [HLS.out]; exact hsum)
                have hq : (t == len) = false := by rw [beq_eq_false_iff_ne]; exact hsum
                have hq2 : (t != len) = true := by rw [bne, hq]; rfl
                clear hsum
                go_wp2_with fail
                go_ret
                exact ⟨_, rfl, by rw [HR.out]; exact ErrIn.sent _ _ a 8 (by decide) rfl, hb⟩
  · have h1' : isName nm.data.toList = false := by simpa using h1
    rw [h1']
    have HR : Hid (recFault nm.data.toList len ids = (4, -1)) := recFault_name len ids h1'
    clear h1 h1'
    go_wp2_with fail
    go_ret
    exact ⟨_, rfl, by rw [HR.out]; exact ErrIn.sent _ _ a 3 (by decide) rfl, hb⟩
end Go.Proofs.YtcbcjefefmbccabGreatDoor
namespace Go.Proofs.YtcbcjefefmbccabGreatDoor
open Go.RowKit Go.Shelf

attribute [local go_sem] Oper.semAt_some

theorem KeptCells.blk {Br : Nat} {W W' : World} (h : KeptCells Br W W') {B : Nat} {cs : Array Value} {t : TypeId} (hB : Blk W B cs t) (hn : B ≠ Br) : Blk W' B cs t := h B _ hB rfl hn
theorem KeptCells.cell {Br : Nat} {W W' : World} (h : KeptCells Br W W') {b o : Nat} {v : Value} (hc : W.cell? ⟨b, o, none⟩ = some v) (hn : b ≠ Br) : W'.cell? ⟨b, o, none⟩ = some v := by
  have hb : ∃ x, W.heap[b]? = some x ∧ x.isCells = true := by
    cases hx : W.heap[b]? with
    | none => simp [World.cell?, hx] at hc
    | some x =>
      refine ⟨x, rfl, ?_⟩
      cases x with
      | cells => rfl
      | _ => simp [World.cell?, hx] at hc
  obtain ⟨x, hx, hi⟩ := hb
  exact (World.cell?_of_block (w := W) ((h b x hx hi hn).trans hx.symm)).trans hc

def zeroRep : Nat × Int := (2166136261, 0)
def lastOf (l : List (Nat × Int)) : Nat × Int := l.getLastD zeroRep
theorem lastOf_snoc (l : List (Nat × Int)) (x : Nat × Int) : lastOf (l ++ [x]) = x := by simp [lastOf]

set_option maxHeartbeats 1000000 in
theorem falling_in (n : Nat) (v : Value) (w : World) (p : Option Addr) (k c : Nat) (hv : v = .slice p k c) :
    CallsIn Fence.wide n Tryz.prog 132 #[v] w fun e w' => e = .returned (.func (.func 175) #[] #[.pointer (some ⟨w.heap.size, 0, none⟩)]) ∧ w' = w.alloc (.cells #[v] 38) := by
  subst hv
  refine callsIn_of_wp Tryz.func132 rfl trivial ?_ rfl
  simp only [Tryz.ntmps132, List.size_toArray, List.length_cons, List.length_nil, Nat.reduceAdd, Nat.reduceSub, Array.replicate_succ, Array.replicate_zero, List.push_toArray, List.append_toArray, List.nil_append, List.cons_append]
  gi_wp2
  go_ret
  exact ⟨rfl, rfl⟩

set_option maxRecDepth 100000 in
set_option maxHeartbeats 4000000 in
theorem falling1_in (n : Nat) (hn : 1 ≤ n) (l Bs Br : Nat) (pa : Option Addr) (c : Nat) (ids : List (Nat × Int)) (hlen : ids.length ≤ maxLen) (J : List (Nat × Int) → World → Prop) (W : World)
    (hJ : ∀ pre A B, J pre A → Below W.heap.size A B → J pre B)
    (hY : ∀ pre x W1, J pre W1 → pre.length < ids.length → YieldAt Fence.wide (n - 1) Tryz.prog l #[idV (x.1 : Nat) x.2] W1 fun e W' => e = .returned (.bool true) ∧ J (pre ++ [x]) W' ∧ KeptCells Br W1 W')
    (hs : W.cell? ⟨Bs, 0, none⟩ = some (.slice pa ids.length c)) (hBr : Br < W.heap.size)
    (hids : ∀ i (h : i < ids.length), ∃ b o, pa = some ⟨b, o, none⟩ ∧ b ≠ Br ∧ W.cell? ⟨b, o + i * 2, none⟩ = some (.int .u32 (ids[i].1 : Nat)) ∧ W.cell? ⟨b, o + i * 2 + 1, none⟩ = some (.int .i64 ids[i].2)) (h0 : J [] W) :
    CallsIn Fence.wide n Tryz.prog 175 #[.func (.yield l) #[] #[], .pointer (some ⟨Bs, 0, none⟩)] W fun e W' => (∃ v, e = .returned v) ∧ ∃ xs, lastOf xs = repOf ids ∧ J xs W' := by
  have hl2 : (ids.length : Int) ≤ 9223372036854775807 := by unfold maxLen at hlen; omega
  have HJ : Hid (∀ pre A B, J pre A → Below W.heap.size A B → J pre B) := hJ
  have HY : Hid (∀ pre x W1, J pre W1 → pre.length < ids.length → YieldAt Fence.wide (n - 1) Tryz.prog l #[idV (x.1 : Nat) x.2] W1 fun e W' => e = .returned (.bool true) ∧ J (pre ++ [x]) W' ∧ KeptCells Br W1 W') := hY
  have hBl := lt_of_cell hs
  have HID : Hid (∀ i (h : i < ids.length), ∃ b o, pa = some ⟨b, o, none⟩ ∧ b ≠ Br ∧ b < W.heap.size) := fun i h => by
    obtain ⟨b, o, h1, h2, h3, _⟩ := hids i h
    exact ⟨b, o, h1, h2, lt_of_cell h3⟩
  have hal : Below W.heap.size W (W.alloc (.cells #[.int .u32 0, .int .i64 0] 25)) := (Below.refl _ W).alloc (Nat.le_refl _) _
  have hL0 := Blk.new W #[.int .u32 0, .int .i64 0] 25
  have HIA : Hid (∀ i (h : i < ids.length), ∃ b o, pa = some ⟨b, o, none⟩ ∧ b ≠ Br ∧ b < W.heap.size ∧ (W.alloc (.cells #[.int .u32 0, .int .i64 0] 25)).cell? ⟨b, o + i * 2, none⟩ = some (.int .u32 (ids[i].1 : Nat)) ∧ (W.alloc (.cells #[.int .u32 0, .int .i64 0] 25)).cell? ⟨b, o + i * 2 + 1, none⟩ = some (.int .i64 ids[i].2)) := fun i h => by
    obtain ⟨b, o, h1, h2, h3, h4⟩ := hids i h
    exact ⟨b, o, h1, h2, lt_of_cell h3, (hal.cell (p := ⟨b, o + i * 2, none⟩) (lt_of_cell h3)).trans h3, (hal.cell (p := ⟨b, o + i * 2 + 1, none⟩) (lt_of_cell h4)).trans h4⟩
  have h0' := hJ _ _ _ h0 hal
  clear hJ hY hids hlen
  refine callsIn_of_wp Tryz.func175 rfl trivial ?_ rfl
  simp only [Tryz.ntmps175, List.size_toArray, List.length_cons, List.length_nil, Nat.reduceAdd, Nat.reduceSub, Array.replicate_succ, Array.replicate_zero, List.push_toArray, List.append_toArray, List.nil_append, List.cons_append]
  gi_wp2
  gi_loopw [8] (fun i wr => ∃ (k : Nat) (pre : List (Nat × Int)) (m : Nat × Int), k ≤ ids.length ∧ i = .int .i64 k ∧ pre.length ≤ k ∧ lastOf pre = repOf (ids.take k) ∧ (1 ≤ k → m = repOf (ids.take k)) ∧ Blk wr W.heap.size #[.int .u32 (m.1 : Nat), .int .i64 m.2] 25 ∧
      (∀ i (h : i < ids.length), ∃ b o, pa = some ⟨b, o, none⟩ ∧ b ≠ Br ∧ b < W.heap.size ∧ wr.cell? ⟨b, o + i * 2, none⟩ = some (.int .u32 (ids[i].1 : Nat)) ∧ wr.cell? ⟨b, o + i * 2 + 1, none⟩ = some (.int .i64 ids[i].2)) ∧ J pre wr) (fun i _ => ids.length - (intOf i).toNat)
  case atStart => exact ⟨0, [], (0, 0), Nat.zero_le _, rfl, Nat.le_refl _, rfl, fun h => by omega, hL0, HIA.out, h0'⟩
  case round =>
    clear hL0 h0 h0' hs hal HIA
    obtain ⟨k, pre, m, hk, rfl, hpl, hlast, hm, hL, hcell, hJp⟩ := hrel
    have HLA : Hid (lastOf pre = repOf (ids.take k)) := hlast
    have HM : Hid (1 ≤ k → m = repOf (ids.take k)) := hm
    have HPL : Hid (pre.length ≤ k) := hpl
    have HC : Hid (∀ i (h : i < ids.length), ∃ b o, pa = some ⟨b, o, none⟩ ∧ b ≠ Br ∧ b < W.heap.size ∧ wr.cell? ⟨b, o + i * 2, none⟩ = some (.int .u32 (ids[i].1 : Nat)) ∧ wr.cell? ⟨b, o + i * 2 + 1, none⟩ = some (.int .i64 ids[i].2)) := hcell
    clear hlast hm hpl hcell
    by_cases hlt : k < ids.length
    · have hlt' : (k : Int) < (ids.length : Int) := by omega
      obtain ⟨b, o, rfl, hbr, hbw, hc0, hc1⟩ := HC.out k hlt
      have HRN : Hid (1 ≤ k → repOf (ids.take (k + 1)) = lesser (repOf (ids.take k)) ids[k]) := fun h => repOf_next ids k hlt h
      have HR1 : Hid (k = 0 → repOf (ids.take (k + 1)) = ids[k]) := fun h => by
        subst h
        cases ids with
        | nil => simp at hlt
        | cons x r => rfl
      obtain ⟨y, hy⟩ : ∃ y, ids[k] = y := ⟨_, rfl⟩
      rw [hy] at hc0 hc1 HRN HR1
      clear hy
      have hLl := hL.lt
      have q0 := hL.cell (i := 0) rfl
      have q1 := hL.cell (i := 1) rfl
      have g0 := hL.frozen 0
      have g1 := hL.frozen 1
      have hLn : W.heap.size ≠ wr.heap.size := by omega
      have hwz : W.heap.size ≤ wr.heap.size := by omega
      have hpk : pre.length < ids.length := by have := HPL.out; omega
      /- the world in which yield is called, behind the store of what is told -/
      have HW : Hid (∀ V, Below wr.heap.size wr V → (Blk ((V.setCell ⟨W.heap.size, 0, none⟩ (.int .u32 (y.1 : Nat))).setCell ⟨W.heap.size, 1, none⟩ (.int .i64 y.2)) W.heap.size #[.int .u32 (y.1 : Nat), .int .i64 y.2] 25) ∧ Below W.heap.size wr ((V.setCell ⟨W.heap.size, 0, none⟩ (.int .u32 (y.1 : Nat))).setCell ⟨W.heap.size, 1, none⟩ (.int .i64 y.2))) := fun V hb =>
        ⟨((hL.next hb).set 0 (.int .u32 (y.1 : Nat))).set 1 (.int .i64 y.2), (((Below.refl W.heap.size wr).trans (hb.mono hwz)).setCell (p := ⟨W.heap.size, 0, none⟩) (Nat.le_refl _) _).setCell (p := ⟨W.heap.size, 1, none⟩) (Nat.le_refl _) _⟩
      have HN : Hid (∀ V W3, Below W.heap.size wr V → KeptCells Br V W3 → ∀ i (h : i < ids.length), ∃ b' o', (some ⟨b, o, none⟩ : Option Addr) = some ⟨b', o', none⟩ ∧ b' ≠ Br ∧ b' < W.heap.size ∧ W3.cell? ⟨b', o' + i * 2, none⟩ = some (.int .u32 (ids[i].1 : Nat)) ∧ W3.cell? ⟨b', o' + i * 2 + 1, none⟩ = some (.int .i64 ids[i].2)) := fun V W3 hb hk i hi => by
        obtain ⟨b', o', h1, h2, h3, h4, h5⟩ := HC.out i hi
        exact ⟨b', o', h1, h2, h3, hk.cell ((hb.cell (p := ⟨b', o' + i * 2, none⟩) h3).trans h4) h2, hk.cell ((hb.cell (p := ⟨b', o' + i * 2 + 1, none⟩) h3).trans h5) h2⟩
      have HS : Hid (∀ V, Below W.heap.size wr V → ∀ i (h : i < ids.length), ∃ b' o', (some ⟨b, o, none⟩ : Option Addr) = some ⟨b', o', none⟩ ∧ b' ≠ Br ∧ b' < W.heap.size ∧ V.cell? ⟨b', o' + i * 2, none⟩ = some (.int .u32 (ids[i].1 : Nat)) ∧ V.cell? ⟨b', o' + i * 2 + 1, none⟩ = some (.int .i64 ids[i].2)) := fun V hb i hi => by
        obtain ⟨b', o', h1, h2, h3, h4, h5⟩ := HC.out i hi
        exact ⟨b', o', h1, h2, h3, (hb.cell (p := ⟨b', o' + i * 2, none⟩) h3).trans h4, (hb.cell (p := ⟨b', o' + i * 2 + 1, none⟩) h3).trans h5⟩
      have hLB : W.heap.size ≠ Br := by omega
      have hal : Below wr.heap.size wr (wr.alloc (.cells #[.int .u32 (y.1 : Nat), .int .i64 y.2] 25)) := (Below.refl _ wr).alloc (Nat.le_refl _) _
      by_cases hk0 : k = 0
      · have hz : ¬ (0 : Int) < (k : Int) := by omega
        have HRR : Hid (repOf (ids.take (k + 1)) = y) := HR1.out hk0
        clear hk0
        gi_wp2
        refine ⟨trivial, ?_⟩
        have hI0 := Blk.new wr #[.int .u32 (y.1 : Nat), .int .i64 y.2] 25
        obtain ⟨V, hV⟩ : ∃ V, wr.alloc (.cells #[.int .u32 (y.1 : Nat), .int .i64 y.2] 25) = V := ⟨_, rfl⟩
        rw [hV] at hI0 hal ⊢
        obtain ⟨Bi, hBi⟩ : ∃ Bi, wr.heap.size = Bi := ⟨_, rfl⟩
        rw [hBi] at hI0 hLn ⊢
        have i0 := hI0.cell (i := 0) rfl
        have i1 := hI0.cell (i := 1) rfl
        have hLV := hL.next hal
        have u0 := hLV.cell (i := 0) rfl
        have u1 := hLV.cell (i := 1) rfl
        have v0 := hLV.frozen 0
        have v1 := hLV.frozen 1
        have hVl := hLV.lt
        obtain ⟨hLy, hBy⟩ := HW.out V hal
        obtain ⟨fn, tmps, assign, body, hy, hR⟩ := HY.out pre y _ (HJ.out _ _ _ hJp hBy) hpk
        dsimp only [idV] at hy
        have HLY : Hid (Blk ((V.setCell ⟨W.heap.size, 0, none⟩ (.int .u32 (y.1 : Nat))).setCell ⟨W.heap.size, 1, none⟩ (.int .i64 y.2)) W.heap.size #[.int .u32 (y.1 : Nat), .int .i64 y.2] 25) := hLy
        have HBY : Hid (Below W.heap.size wr ((V.setCell ⟨W.heap.size, 0, none⟩ (.int .u32 (y.1 : Nat))).setCell ⟨W.heap.size, 1, none⟩ (.int .i64 y.2))) := hBy
        clear hLy hBy hV hLV hI0 hal hBi q0 q1 g0 g1 hc0 hc1 hL hJp
        gi_wp2
        refine hR.mono ?_
        rintro e W3 ⟨rfl, hJ3, hk3⟩
        gi_wp2
        go_roundw
        case rel => exact ⟨k + 1, pre ++ [y], y, by omega, by go_num, by have := HPL.out; simp; omega, by rw [lastOf_snoc, HRR.out], fun _ => HRR.out.symm, hk3.blk HLY.out hLB, HN.out _ _ HBY.out hk3, hJ3⟩
        case measure => simp [intOf]; omega
      · have hz : (0 : Int) < (k : Int) := by omega
        obtain rfl := HM.out (by omega)
        have HRR : Hid (repOf (ids.take (k + 1)) = lesser (repOf (ids.take k)) y) := HRN.out (by omega)
        clear hk0
        generalize repOf (ids.take k) = m at *
        have hI0 := Blk.new wr #[.int .u32 (y.1 : Nat), .int .i64 y.2] 25
        obtain ⟨Lb, hLb⟩ : ∃ Lb, (if (y.1 : Int) = (m.1 : Int) then decide (y.2 < m.2) else decide ((y.1 : Int) < (m.1 : Int))) = Lb := ⟨_, rfl⟩
        have HLB : Hid ((if (y.1 : Int) = (m.1 : Int) then decide (y.2 < m.2) else decide ((y.1 : Int) < (m.1 : Int))) = Lb) := hLb
        have HLS : Hid (lesser m y = if Lb = true then y else m) := by show _ = _; unfold lesser lessB; rw [hLb]
        clear hLb
        cases Lb with
        | true =>
          gi_wp2_with (refine ⟨trivial, ?_⟩; gi_at_call 87; refine (callsIn_wide.2 (less_any _ _ _ _ _)).mono ?_; rintro e w1 ⟨rfl, hb1⟩; rw [HLB.out]; have hB1 : Below wr.heap.size wr w1 := hal.trans (hb1.mono hal.size); have hI1 := hI0.next hb1; have i0 := hI1.cell (i := 0) rfl; have i1 := hI1.cell (i := 1) rfl; have hLV := hL.next hB1; have u0 := hLV.cell (i := 0) rfl; have u1 := hLV.cell (i := 1) rfl; have v0 := hLV.frozen 0; have v1 := hLV.frozen 1; have hVl := hLV.lt; obtain ⟨hLy, hBy⟩ := HW.out w1 hB1; obtain ⟨fn, tmps, assign, body, hy, hR⟩ := HY.out pre y _ (HJ.out _ _ _ hJp hBy) hpk; dsimp only [idV] at hy)
          refine hR.mono ?_
          rintro e W3 ⟨rfl, hJ3, hk3⟩
          have HLY : Hid (Blk W3 W.heap.size #[.int .u32 (y.1 : Nat), .int .i64 y.2] 25) := hk3.blk hLy hLB
          have HNN := HN.out _ _ hBy hk3
          have HN2 : Hid (∀ i (h : i < ids.length), ∃ b' o', (some ⟨b, o, none⟩ : Option Addr) = some ⟨b', o', none⟩ ∧ b' ≠ Br ∧ b' < W.heap.size ∧ W3.cell? ⟨b', o' + i * 2, none⟩ = some (.int .u32 (ids[i].1 : Nat)) ∧ W3.cell? ⟨b', o' + i * 2 + 1, none⟩ = some (.int .i64 ids[i].2)) := HNN
          clear hLy hBy hLV hI1 hI0 hal q0 q1 g0 g1 hc0 hc1 hL hJp hb1 hB1 HNN hk3 i0 i1 u0 u1 v0 v1
          gi_wp2
          go_roundw
          case rel => exact ⟨k + 1, pre ++ [y], y, by omega, by go_num, by have := HPL.out; simp; omega, by rw [lastOf_snoc, HRR.out, HLS.out]; rfl, fun _ => by rw [HRR.out, HLS.out]; rfl, HLY.out, HN2.out, hJ3⟩
          case measure => simp [intOf]; omega
        | false =>
          gi_wp2_with (refine ⟨trivial, ?_⟩; gi_at_call 87; refine (callsIn_wide.2 (less_any _ _ _ _ _)).mono ?_; rintro e w1 ⟨rfl, hb1⟩; rw [HLB.out]; have hB1 : Below wr.heap.size wr w1 := hal.trans (hb1.mono hal.size); have hLV := hL.next hB1)
          have hBW : Below W.heap.size wr w1 := hB1.mono hwz
          have hJ1 := HJ.out _ _ _ hJp hBW
          have HS1 := HS.out _ hBW
          go_roundw
          case rel => exact ⟨k + 1, pre, m, by omega, by go_num, by have := HPL.out; omega, by rw [HLA.out, HRR.out, HLS.out]; rfl, fun _ => by rw [HRR.out, HLS.out]; rfl, hLV, HS1, hJ1⟩
          case measure => simp [intOf]; omega
    · have hge : (ids.length : Int) ≤ (k : Int) := by omega
      gi_wp2
      go_end0
      refine ⟨⟨_, rfl⟩, pre, ?_, hJp⟩
      have := HLA.out
      rwa [List.take_of_length_le (by omega)] at this

def RepI (w : World) (R Br : Nat) (pre : List (Nat × Int)) (W : World) : Prop :=
  Below w.heap.size w W ∧ Blk W R #[.int .u32 0, .int .i64 0] 25 ∧ Blk W Br #[.int .u32 ((lastOf pre).1 : Nat), .int .i64 (lastOf pre).2] 25

set_option maxRecDepth 100000 in
set_option maxHeartbeats 4000000 in
theorem rep_any (nm : ByteArray) (len p : Int) (v : Value) (ids : List (Nat × Int)) (w : World) (hv : IdsAt w v ids) (hlen : ids.length ≤ maxLen) :
    Calls Tryz.prog 73 #[rcpV nm len p v] w fun e w' => e = .returned (idV ((repOf ids).1 : Nat) (repOf ids).2) ∧ Below w.heap.size w w' := by
  obtain ⟨pa, c, rfl, hcell⟩ := hv
  have HC : Hid (∀ W', Below w.heap.size w W' → ∀ i (h : i < ids.length), ∃ b o, pa = some ⟨b, o, none⟩ ∧ b < w.heap.size ∧ W'.cell? ⟨b, o + i * 2, none⟩ = some (.int .u32 (ids[i].1 : Nat)) ∧ W'.cell? ⟨b, o + i * 2 + 1, none⟩ = some (.int .i64 ids[i].2)) := fun W' hb i hi => by
    obtain ⟨b, o, hp, hlt, h1, h2⟩ := hcell i hi
    exact ⟨b, o, hp, hlt, (hb.cell (p := ⟨b, o + i * 2, none⟩) hlt).trans h1, (hb.cell (p := ⟨b, o + i * 2 + 1, none⟩) hlt).trans h2⟩
  have HLEN : Hid (ids.length ≤ maxLen) := hlen
  clear hcell hlen
  refine (callsIn_wide (n := 8)).1 ?_
  refine callsIn_of_wp_marks Tryz.func73 rfl trivial ?_ rfl
  simp only [Tryz.ntmps73, List.size_toArray, List.length_cons, List.length_nil, Nat.reduceAdd, Nat.reduceSub, Array.replicate_succ, Array.replicate_zero, List.push_toArray, List.append_toArray, List.nil_append, List.cons_append]
  gi_wp2_with (first
    | (refine ⟨trivial, ?_⟩; gi_at_call 125; refine (callsIn_wide.2 (id_any ⟨#[]⟩ _ (by unfold maxLen; decide))).mono ?_; rintro e w1 ⟨rfl, hb1⟩; have hX1 := ((Blk.new w #[.string nm, .int .i64 len, .int .u32 p, .slice pa ids.length c] 40).next ((Below.refl _ _).alloc (Nat.le_refl _) (.cells #[.int .u32 0, .int .i64 0] 25))).next hb1; have x3 := hX1.cell (i := 3) rfl; have hXl := hX1.lt)
    | (refine ⟨trivial, ?_⟩; gi_at_call 132; refine (falling_in _ _ _ pa ids.length c rfl).mono ?_; rintro e w2 ⟨rfl, rfl⟩))
  have hz : pmore 2166136261 [] = 2166136261 := pmore_nil _
  rw [hz]
  have hR1 := (Blk.new (w.alloc (.cells #[.string nm, .int .i64 len, .int .u32 p, .slice pa ids.length c] 40)) #[.int .u32 0, .int .i64 0] 25).next hb1
  rw [World.size_alloc] at hR1
  have hB1 : Below w.heap.size w w1 := (((Below.refl _ w).alloc (Nat.le_refl _) (.cells #[.string nm, .int .i64 len, .int .u32 p, .slice pa ids.length c] 40)).alloc (by simp) (.cells #[.int .u32 0, .int .i64 0] 25)).trans (hb1.mono (by simp; omega))
  have hal1 : Below w1.heap.size w1 (w1.alloc (.cells #[.int .u32 (2166136261 : Nat), .int .i64 0] 25)) := (Below.refl _ w1).alloc (Nat.le_refl _) _
  have hQ1 := Blk.new w1 #[.int .u32 (2166136261 : Nat), .int .i64 0] 25
  have hal2 := (Below.refl (w1.alloc (.cells #[.int .u32 (2166136261 : Nat), .int .i64 0] 25)).heap.size (w1.alloc (.cells #[.int .u32 (2166136261 : Nat), .int .i64 0] 25))).alloc (Nat.le_refl _) (.cells #[.slice pa ids.length c] 38)
  have hQ2 := hQ1.next hal2
  have hS2 := Blk.new (w1.alloc (.cells #[.int .u32 (2166136261 : Nat), .int .i64 0] 25)) #[.slice pa ids.length c] 38
  rw [World.size_alloc] at hS2
  have hR2 := (hR1.next hal1).next hal2
  have hB2 : Below w.heap.size w ((w1.alloc (.cells #[.int .u32 (2166136261 : Nat), .int .i64 0] 25)).alloc (.cells #[.slice pa ids.length c] 38)) := (hB1.trans (hal1.mono hB1.size)).trans (hal2.mono (Nat.le_trans hB1.size hal1.size))
  have hsz : ((w1.alloc (.cells #[.int .u32 (2166136261 : Nat), .int .i64 0] 25)).alloc (.cells #[.slice pa ids.length c] 38)).heap.size = w1.heap.size + 2 := by simp
  obtain ⟨V, hV⟩ : ∃ V, (w1.alloc (.cells #[.int .u32 (2166136261 : Nat), .int .i64 0] 25)).alloc (.cells #[.slice pa ids.length c] 38) = V := ⟨_, rfl⟩
  have hRl := hR1.lt
  have hwz : w.heap.size ≤ w1.heap.size := hB1.size
  rw [hV] at hQ2 hS2 hR2 hB2 hsz ⊢
  clear hV hal1 hal2 hQ1 hR1 hX1 x3 hXl hb1
  have hI0 : RepI w (w.heap.size + 1) w1.heap.size [] V := ⟨hB2, hR2, hQ2⟩
  have hstab : ∀ (pre : List (Nat × Int)) (A B : World), RepI w (w.heap.size + 1) w1.heap.size pre A → Below V.heap.size A B → RepI w (w.heap.size + 1) w1.heap.size pre B := fun pre A B h hb => ⟨h.1.trans (hb.mono (by omega)), h.2.1.below hb (by omega), h.2.2.below hb (by omega)⟩
  have hseq : SeqLow Fence.wide (8 - 1) Tryz.prog 175 #[.pointer (some ⟨w1.heap.size + 1, 0, none⟩)] (fun x : Nat × Int => #[idV (x.1 : Nat) x.2]) w1.heap.size (fun xs => lastOf xs = repOf ids) ids.length V := fun l J W hW hJ hY h0 => by
    have hBW : Below w.heap.size w W := hB2.trans (hW.mono (by omega))
    refine falling1_in (8 - 1) (by decide) l (w1.heap.size + 1) w1.heap.size pa c ids HLEN.out J W hJ hY ((hS2.next hW).cell (i := 0) rfl) (by have := hW.size; omega) (fun i hi => ?_) h0
    obtain ⟨b, o, h1, h2, h3, h4⟩ := HC.out W hBW i hi
    exact ⟨b, o, h1, by omega, h3, h4⟩
  refine range_low rfl (by decide) (gf := 175) (lb := #[.pointer (some ⟨w1.heap.size + 1, 0, none⟩)]) rfl trivial (enters_of Tryz.func175 (by kernel_rfl) rfl) hseq (by omega) (Below.refl _ _) (fun _ => rfl)
    (RepI w (w.heap.size + 1) w1.heap.size) hstab hI0
    (fun x a' W => ∃ Bx, V.heap.size ≤ Bx ∧ Blk W Bx #[.int .u32 (x.1 : Nat), .int .i64 x.2] 25 ∧ a' = { tmps := #[rcpV nm len p (.slice pa ids.length c), .pointer (some ⟨w.heap.size, 0, none⟩), .pointer (some ⟨w.heap.size + 1, 0, none⟩), .pointer (some ⟨w1.heap.size, 0, none⟩), .pointer (some ⟨Bx, 0, none⟩), idV (2166136261 : Nat) 0, .pointer (some ⟨w.heap.size, 3, none⟩), .slice pa ids.length c, .func (.func 175) #[] #[.pointer (some ⟨w1.heap.size + 1, 0, none⟩)], idV (x.1 : Nat) x.2, undef, undef], defers := [] }) ?ax ?assign ?body ?done
  case ax =>
    rintro x a' A l o ⟨r, hr⟩ ⟨Bx, h1, h2, h3⟩
    refine ⟨Bx, h1, (World.putObj_heap_other (fun e => ?_)).trans h2, h3⟩
    subst e
    have : A.heap[Bx]? = some (.cells #[.int .u32 (x.1 : Nat), .int .i64 x.2] 25 (0, 0)) := h2
    rw [hr] at this
    cases this
  case assign =>
    intro l pre x W K hW hi hK
    gi_wp2
    exact hK _ _ (KeptBut.alloc _ _ _) (hstab _ _ _ hi ((Below.refl _ W).alloc hW _)) ⟨W.heap.size, hW, Blk.new W _ _, rfl⟩
  case body =>
    rintro l pre x a' W ⟨hi1, hi2, hi3⟩ ⟨Bx, hBx, hX, rfl⟩ _
    have x0 := hX.cell (i := 0) rfl
    have x1 := hX.cell (i := 1) rfl
    have q0 := hi3.cell (i := 0) rfl
    have q1 := hi3.cell (i := 1) rfl
    have g0 := hi3.frozen 0
    have g1 := hi3.frozen 1
    gi_wp2
    refine ⟨(KeptBut.setCell W ⟨w1.heap.size, 0, none⟩ _).trans (KeptBut.setCell _ ⟨w1.heap.size, 1, none⟩ _), (hi1.setCell (p := ⟨w1.heap.size, 0, none⟩) hwz _).setCell (p := ⟨w1.heap.size, 1, none⟩) hwz _, (hi2.other (a := ⟨w1.heap.size, 0, none⟩) (show w.heap.size + 1 ≠ w1.heap.size by omega) _).other (a := ⟨w1.heap.size, 1, none⟩) (show w.heap.size + 1 ≠ w1.heap.size by omega) _, ?_⟩
    rw [lastOf_snoc]
    exact (hi3.set 0 (.int .u32 (x.1 : Nat))).set 1 (.int .i64 x.2)
  case done =>
    rintro D xs W hD hS ⟨hi1, hi2, hi3⟩ hd
    have hS' : lastOf xs = repOf ids := hS
    rw [hS'] at hi3
    obtain ⟨m, hm⟩ : ∃ m, repOf ids = m := ⟨_, rfl⟩
    have HM : Hid (repOf ids = m) := hm
    rw [hm] at hi3
    clear hm hS hS'
    have q0 := hi3.cell (i := 0) rfl
    have q1 := hi3.cell (i := 1) rfl
    have r0 := hi2.cell (i := 0) rfl
    have r1 := hi2.cell (i := 1) rfl
    have g0 := hi2.frozen 0
    have g1 := hi2.frozen 1
    have hR4 := (hi2.set 0 (.int .u32 (m.1 : Nat))).set 1 (.int .i64 m.2)
    have hb4 := (hi1.setCell (p := ⟨w.heap.size + 1, 0, none⟩) (Nat.le_succ _) (.int .u32 (m.1 : Nat))).setCell (p := ⟨w.heap.size + 1, 1, none⟩) (Nat.le_succ _) (.int .i64 m.2)
    have hd4 : ((W.setCell ⟨w.heap.size + 1, 0, none⟩ (.int .u32 (m.1 : Nat))).setCell ⟨w.heap.size + 1, 1, none⟩ (.int .i64 m.2)).heap[D]? = some (.deferred (some [])) := (Below.heap_setCell _ ⟨w.heap.size + 1, 1, none⟩ _ D (show D ≠ w.heap.size + 1 by omega)).trans ((Below.heap_setCell _ ⟨w.heap.size + 1, 0, none⟩ _ D (show D ≠ w.heap.size + 1 by omega)).trans hd)
    gi_wp2
    refine ⟨by simp, .inl ⟨_, _, rfl, run_takeDeferred hd4, ?_⟩⟩
    have hR5 : Blk (((W.setCell ⟨w.heap.size + 1, 0, none⟩ (.int .u32 (m.1 : Nat))).setCell ⟨w.heap.size + 1, 1, none⟩ (.int .i64 m.2)).putObj D (.deferred none)) (w.heap.size + 1) #[.int .u32 (m.1 : Nat), .int .i64 m.2] 25 := (World.putObj_heap_other (show w.heap.size + 1 ≠ D by omega)).trans hR4
    have c0 := hR5.cell (i := 0) rfl
    have c1 := hR5.cell (i := 1) rfl
    refine ⟨idV (m.1 : Nat) m.2, by simp [results, Tryz.results73, go_sem, c0, c1], by rw [HM.out], hb4.trans (below_put _ _ (by omega))⟩
end Go.Proofs.YtcbcjefefmbccabGreatDoor
namespace Go.Proofs.YtcbcjefefmbccabGreatDoor
open Go.RowKit Go.Maps

def nSize (l : List NBin) : Int := (l.map fun b => hSize b.2).sum
end Go.Proofs.YtcbcjefefmbccabGreatDoor
namespace Go.Proofs.YtcbcjefefmbccabGreatDoor
open Go.RowKit Go.Maps

theorem grown_drew {w w' : World} {row : Option Nat} (h : w.drew.grownBy w' row) : w.grownBy w' row := ⟨h.os, h.tape, h.output, h.size, h.block⟩

end Go.Proofs.YtcbcjefefmbccabGreatDoor
