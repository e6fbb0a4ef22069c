/-
  Own text. sort.Slice at a slice of structs, where 'less' may lay blocks: it holds a permutation of what it held, sorted; nothing else that lay has turned.
  Own text. The document's bin by contracts: SameHelds of pieces that are the same; Find; Size.
  Own text. The document's bin by contracts: a use more or less in place; Drop.
  Own text. The document's bin by contracts: Put.
-/
import Derived.Test.YtcbcjefefmbccaaDoorG15
import Derived.Test.YtcbcjefefmbccaaDoorG04
import Derived.Deep.QuietTactic
import Derived.BigQuiet
import Derived.Deep.RegionHeld3
namespace Go.Proofs.YtcbcjefefmbccaaDoor
open Go.Shelf Go.RowKit Go.Lib Go.Sort
variable {P : Program} {ρ : Ren} {α : Type} [Inhabited α]

theorem grown_setCells (b : Nat) : ∀ (vs : List Value) (o : Nat) (w w' : World), w.grownBy w' (some b) → w.grownBy (w'.setCells b o vs) (some b)
  | [], _, _, _, h => h
  | v :: r, o, w, w', h => by rw [World.setCells]; exact grown_setCells b r (o + 1) w _ (grown_set h o v)
theorem holdsK_kept {enc : α → List Value} {k : Nat} {w w' : World} {blk off : Nat} {d : Array α} (h : HoldsK enc k w blk off d) {row : Option Nat} (hg : w.grownBy w' row) (hl : blk < w.heap.size) (hr : some blk ≠ row) : HoldsK enc k w' blk off d := fun j hj =>
  ⟨(World.cell?_of_block (w := w) (hg.block blk hl hr)).trans (h j hj).1, (World.frozen?_of_block (w := w) (hg.block blk hl hr)).trans (h j hj).2⟩

theorem srt_slice (L : LaysGg.n6 P ρ) (t e : TypeId) (i ie : TypeInfo) (hi : P.info? t = some i) (hd : i.desc = .slice e) (hpk : P.packed t = false) (hie : P.info? e = some ie) (ke : Nat) (hke : ∀ w, (Extern.Rtype.kind e).run P w = .ok ke w)
    (enc : α → List Value) (k : Nat) (hk : ∀ x, (enc x).length = k) (hs1 : ie.size = k) (hagg : ∀ w, (isAgg e).run P w = .ok true w) (h1 : ∀ x, ∀ v ∈ enc x, v.oneCell' = true) (lt : α → α → Bool) (hO : SWO lt) (g : Nat) (lb : Array Value)
    (eg : ∀ args w, (callFunc g args).run P w = .ok (.enter g args) w) (blk off c : Nat) (d : Array α) (h2 : 2 ≤ d.size) (hsz : d.size < 4611686018427387904)
    (f : Nat) (hf : P.funcs.findIdx? (·.name == "internal/reflectlite" ++ ".Swapper$" ++ toString (swapperK d.size ie ke)) = some f)
    (gS : Bool) (hx : ∀ args W, (callFunc f args).run P W = ((Extern.ReflectliteSwapper.swap gS args).run P W).andThen fun v w' => .ok (.value v) w')
    (w : World) (hblk : blk < w.heap.size) (hH : HoldsK enc k w blk off d)
    (hless : ∀ (W : World) (dk : Array α) (i j : Nat), w.grownBy W (some blk) → HoldsK enc k W blk off dk → dk.size = d.size → i < d.size → j < d.size → Calls P g (#[.int .i64 i, .int .i64 j] ++ lb) W fun e w' => e = .returned (.bool (lt dk[i]! dk[j]!)) ∧ W.grownBy w' none) :
    Calls P (ρ.f 6) #[.iface t (.slice (some ⟨blk, off, none⟩) d.size c), .func (.func g) #[] lb] w fun e w' => e = .returned (.tuple #[]) ∧ ∃ d', PermIn 0 d.size d d' ∧ SortedIn lt 0 d.size d' ∧ HoldsK enc k w' blk off d' ∧ w.grownBy w' (some blk) := by
  refine Any.sort_Slice_of_pdq L t e i ie hi hd hpk hie ke hke _ d.size c hsz f hf (.func g) #[] lb w _ ?_
  have hB : sliceBound P e ie ke (some ⟨blk, off, none⟩) d.size c = #[.slice (some ⟨blk, off, none⟩) d.size c, typeHandle P e] := by
    unfold sliceBound; rw [if_neg (swapperK_gt _ _ _ h2)]
  have hg0 : w.grownBy (sliceWorld P ρ t (some ⟨blk, off, none⟩) d.size c w) none := by
    unfold sliceWorld
    exact (World.grownBy_alloc w _ none).andThen (World.grownBy_alloc _ _ none) (fun _ hj => by cases hj)
  generalize sliceWorld P ρ t (some ⟨blk, off, none⟩) d.size c w = w0 at hg0
  rw [hB]
  have hsw := swapSwapsK_of_literal gS f hx e ie hie enc k hk hs1 hagg h1 blk off d.size c
  have S : Srt P lt g lb f #[.slice (some ⟨blk, off, none⟩) d.size c, typeHandle P e] blk d.size w.heap.size (fun W dk => w.grownBy W (some blk) ∧ HoldsK enc k W blk off dk ∧ dk.size = d.size) :=
    { eg := eg
      blt := fun h => Nat.lt_of_lt_of_le hblk h.1.size
      size := fun h => h.2.2
      keep := fun h hg => ⟨h.1.andThen hg (fun _ hj => by cases hj), holdsK_kept h.2.1 hg (Nat.lt_of_lt_of_le hblk h.1.size) (by simp), h.2.2⟩
      le := fun h => h.1.size
      keepAt := fun h hc hg => ⟨h.1.andThen hg (fun _ hj => by cases hj; exact .inl hc), holdsK_kept h.2.1 hg (Nat.lt_of_lt_of_le hblk h.1.size) (fun e => by have := Option.some.inj e; omega), h.2.2⟩
      less := fun x y i j hx hy h hi hj => by subst hx hy; exact hless _ _ i j h.1 h.2.1 h.2.2 hi hj
      swap := fun {W dk} x y i j hx hy h hi hj => by
        subst hx hy
        refine ⟨_, hsw W dk h.2.1 h.2.2 i j hi hj, ⟨h.1.andThen (grown_setCells blk _ _ _ _ (grown_setCells blk _ _ _ _ (grown_refl W _))) (fun _ hj => .inr hj), ?_, by rw [size_swp]; exact h.2.2⟩, grown_setCells blk _ _ _ _ (grown_setCells blk _ _ _ _ (grown_refl W _))⟩
        have e := putRowK_swp enc k hk W blk off dk i j (by omega) (by omega)
        rw [putRowK_self _ _ _ blk off dk h.2.1] at e
        rw [e]
        exact holdsK_putRowK _ _ _ _ _ dk _ h.2.1 (size_swp _ _ _) }
  have hlim : Lib.bitLen d.size < 4611686018427387904 := Nat.lt_of_le_of_lt (Lib.bitLen_le d.size 62 (by omega) (by omega)) (by omega)
  refine (srt_pdq (P := P) (ρ := ρ) { L with } S hO hsz (d.size + 1) 0 d.size (Lib.bitLen d.size) d w0 (by omega) ⟨hg0.but _, holdsK_kept hH hg0 hblk (by simp), rfl⟩ (Nat.zero_le _) (Nat.le_refl _) hlim (Or.inl rfl)).mono ?_
  rintro e w' ⟨rfl, ⟨hg, hh, _⟩, _⟩
  have hp := pdq_sorts lt hO d 0 d.size (Lib.bitLen d.size) true true (Nat.zero_le _) (Nat.le_refl _) (Or.inl rfl)
  exact ⟨rfl, _, hp.1, hp.2, hh, hg⟩
end Go.Proofs.YtcbcjefefmbccaaDoor
namespace Go.Proofs.YtcbcjefefmbccaaDoor
open Go.RowKit

set_option maxRecDepth 100000 in
set_option maxHeartbeats 4000000 in
theorem sameHelds_true (va vb : Value) (l : List Hd) (w : World) (hn : (l.length : Int) ≤ 9223372036854775807) (ha : HeldsAt w va l) (hb : HeldsAt w vb l) :
    Calls Tryd.prog 35 #[va, vb] w fun e w' => e = .returned (.bool true) ∧ Below w.heap.size w w' := by
  obtain ⟨pa, ca, rfl, ha⟩ := ha
  obtain ⟨pb, cb, rfl, hb⟩ := hb
  go_enter Tryd.func35, Tryd.ntmps35
  go_wp2_with fail
  go_loopw [5] (fun i wr => ∃ j m : Nat, j ≤ l.length ∧ i = .int .i64 j ∧ wr = w.drewN m) (fun i _ => l.length - (intOf i).toNat)
  case atStart => exact ⟨0, 0, Nat.zero_le _, rfl, rfl⟩
  case round =>
    obtain ⟨j, m, hj, rfl, rfl⟩ := hrel
    by_cases hlt : j < l.length
    · obtain ⟨ba, oa, rfl, _, a0, a1, a2, a3⟩ := ha j hlt
      obtain ⟨bb, ob, rfl, _, b0, b1, b2, b3⟩ := hb j hlt
      have hlt' : (j : Int) < (l.length : Int) := by omega
      obtain ⟨y, hy⟩ : ∃ y, l[j] = y := ⟨_, rfl⟩
      rw [hy] at a0 a1 a2 a3 b0 b1 b2 b3
      clear hy
      go_wp2_with fail
      go_quiet (fail)
      go_wp2_with fail
      go_roundw
      case rel => exact ⟨j + 1, _, by omega, by go_num, rfl⟩
      case measure => simp [intOf]; omega
    · have hge : (l.length : Int) ≤ (j : Int) := by omega
      go_wp2_with fail
      go_ret
      exact ⟨rfl, ⟨rfl, rfl, rfl, Nat.le_refl _, fun _ _ => rfl⟩⟩

set_option maxRecDepth 100000 in
set_option maxHeartbeats 4000000 in
theorem rFind_any (B : Nat) (v : Value) (l : List Hd) (x : Nat × Int) (w : World) (hn : l.length ≤ maxLen) (h : RBin w B v l) :
    Calls Tryd.prog 41 #[.pointer (some ⟨B, 0, none⟩), idV (x.1 : Nat) x.2] w fun e w' => e = .returned (.int .i64 (findI l x)) ∧ Below w.heap.size w w' := by
  obtain ⟨pa, c, hv, hcell⟩ := h.at
  have hB0 := h.blk.cell (i := 0) rfl
  rw [hv] at hB0
  have hBl := h.blk.lt
  have hl2 : (l.length : Int) ≤ 9223372036854775807 := by unfold maxLen at hn; omega
  have HC : Hid (∀ i (h : i < l.length), ∃ b o, pa = some ⟨b, o, none⟩ ∧ (b < w.heap.size ∧ l.length ≤ c) ∧ w.cell? ⟨b, o + i * 4, none⟩ = some (.int .u32 (l[i].1.1 : Nat)) ∧ w.cell? ⟨b, o + i * 4 + 1, none⟩ = some (.int .i64 l[i].1.2) ∧
    w.cell? ⟨b, o + i * 4 + 2, none⟩ = some (.int .i64 l[i].2.1) ∧ w.cell? ⟨b, o + i * 4 + 3, none⟩ = some (.string ⟨l[i].2.2.toArray⟩)) := hcell
  clear hcell h hn hv
  have hx := Blk.new w #[.int .u32 (x.1 : Nat), .int .i64 x.2] 37
  have hal : Below w.heap.size w (w.alloc (.cells #[.int .u32 (x.1 : Nat), .int .i64 x.2] 37)) := (Below.refl _ w).alloc (Nat.le_refl _) _
  go_enter Tryd.func41, Tryd.ntmps41
  go_wp2_with fail
  obtain ⟨W, hW⟩ : ∃ W, w.alloc (.cells #[.int .u32 (x.1 : Nat), .int .i64 x.2] 37) = W := ⟨_, rfl⟩
  rw [hW] at hx hal ⊢
  have x0 := hx.cell (i := 0) rfl
  have x1 := hx.cell (i := 1) rfl
  have q0 := (hal.cell (p := ⟨B, 0, none⟩) hBl).trans hB0
  clear hW hB0
  go_loopw [5] (fun i wr => ∃ j m : Nat, j ≤ l.length ∧ i = .int .i64 j ∧ wr = W.drewN m ∧ ∀ k (hk : k < l.length), k < j → l[k].1 ≠ x) (fun i _ => l.length - (intOf i).toNat)
  case atStart => exact ⟨0, 0, Nat.zero_le _, rfl, rfl, fun k _ h => by omega⟩
  case round =>
    obtain ⟨j, m, hj, rfl, rfl, hno⟩ := hrel
    have HNO : Hid (∀ k (hk : k < l.length), k < j → l[k].1 ≠ x) := hno
    clear hno
    by_cases hlt : j < l.length
    · obtain ⟨ba, oa, rfl, ⟨hbl, _⟩, a0, a1, _, _⟩ := HC.out j hlt
      have hlt' : (j : Int) < (l.length : Int) := by omega
      have a0' := (hal.cell (p := ⟨ba, oa + j * 4, none⟩) hbl).trans a0
      have a1' := (hal.cell (p := ⟨ba, oa + j * 4 + 1, none⟩) hbl).trans a1
      have HNX : Hid (l[j].1 ≠ x → ∀ k (hk : k < l.length), k < j + 1 → l[k].1 ≠ x) := fun hne k hk hkj => by
        rcases Nat.lt_or_ge k j with h' | h'
        · exact HNO.out k hk h'
        · obtain rfl : k = j := by omega
          exact hne
      have HAT : Hid (l[j].1 = x → findI l x = (j : Int)) := fun he => by unfold findI; rw [hFind_at l x j hlt HNO.out he]
      obtain ⟨y, hy⟩ : ∃ y, l[j].1 = y := ⟨_, rfl⟩
      rw [hy] at a0' a1' HNX HAT
      clear hy a0 a1
      obtain ⟨yp, yl⟩ := y
      obtain ⟨xp, xl⟩ := x
      simp only at a0' a1' x0 x1
      by_cases e1 : (yp : Int) = (xp : Int)
      · by_cases e2 : yl = xl
        · have HE : Hid (findI l (xp, xl) = (j : Int)) := HAT.out (by rw [e2, show yp = xp by omega])
          clear HAT HNX
          subst e2
          obtain rfl : yp = xp := by omega
          go_wp2_with fail
          go_quiet (fail)
          go_wp2_with fail
          go_ret
          exact ⟨by rw [HE.out]; rfl, ⟨hal.os, hal.tape, hal.output, hal.size, fun k hk => hal.block k hk⟩⟩
        · have HE : Hid (∀ k (hk : k < l.length), k < j + 1 → l[k].1 ≠ (xp, xl)) := HNX.out (fun e => e2 (Prod.mk.inj e).2)
          clear HAT HNX
          obtain rfl : yp = xp := by omega
          have e2' : (yl == xl) = false := beq_eq_false_iff_ne.2 e2
          go_wp2_with fail
          go_quiet (fail)
          go_wp2_with fail
          go_roundw
          case rel => exact ⟨j + 1, _, by omega, by go_num, rfl, HE.out⟩
          case measure => simp [intOf]; omega
      · have HE : Hid (∀ k (hk : k < l.length), k < j + 1 → l[k].1 ≠ (xp, xl)) := HNX.out (fun e => e1 (by rw [(Prod.mk.inj e).1]))
        clear HAT HNX
        have e1' : ((yp : Int) == (xp : Int)) = false := beq_eq_false_iff_ne.2 e1
        go_wp2_with fail
        go_quiet (fail)
        go_wp2_with fail
        go_roundw
        case rel => exact ⟨j + 1, _, by omega, by go_num, rfl, HE.out⟩
        case measure => simp [intOf]; omega
    · have hge : (l.length : Int) ≤ (j : Int) := by omega
      have HE : Hid (findI l x = -1) := by
        show _ = _
        unfold findI
        rw [hFind_none l x (fun k hk => HNO.out k hk (by omega))]
      go_wp2_with fail
      go_ret
      exact ⟨by rw [HE.out]; rfl, ⟨hal.os, hal.tape, hal.output, hal.size, fun k hk => hal.block k hk⟩⟩

set_option maxRecDepth 100000 in
set_option maxHeartbeats 4000000 in
theorem rSize_any (B : Nat) (v : Value) (l : List Hd) (w : World) (hn : l.length ≤ 250) (hs : ∀ h ∈ l, 0 ≤ h.1.2 ∧ h.1.2 ≤ 64) (h : RBin w B v l) :
    Calls Tryd.prog 42 #[.pointer (some ⟨B, 0, none⟩)] w fun e w' => e = .returned (.int .i64 (hSize l)) ∧ w' = w := by
  obtain ⟨pa, c, hv, hcell⟩ := h.at
  have hB0 := h.blk.cell (i := 0) rfl
  rw [hv] at hB0
  have hl2 : (l.length : Int) ≤ 250 := by omega
  have HC : Hid (∀ i (h : i < l.length), ∃ b o, pa = some ⟨b, o, none⟩ ∧ (b < w.heap.size ∧ l.length ≤ c) ∧ w.cell? ⟨b, o + i * 4, none⟩ = some (.int .u32 (l[i].1.1 : Nat)) ∧ w.cell? ⟨b, o + i * 4 + 1, none⟩ = some (.int .i64 l[i].1.2) ∧
    w.cell? ⟨b, o + i * 4 + 2, none⟩ = some (.int .i64 l[i].2.1) ∧ w.cell? ⟨b, o + i * 4 + 3, none⟩ = some (.string ⟨l[i].2.2.toArray⟩)) := hcell
  have HB : Hid (∀ k, k ≤ l.length → 0 ≤ hSize (l.take k) ∧ hSize (l.take k) ≤ 16000) := fun k hk => by
    have := hSize_bound (l.take k) 64 (by decide) (fun h hm => hs h (List.mem_of_mem_take hm))
    rw [List.length_take, Nat.min_eq_left hk] at this
    omega
  clear hcell h hn hv hs
  go_enter Tryd.func42, Tryd.ntmps42
  go_wp2_with fail
  go_loopw [3, 4] (fun n i wr => ∃ j : Nat, j ≤ l.length ∧ i = .int .i64 j ∧ n = .int .i64 (hSize (l.take j)) ∧ wr = w) (fun _ i _ => l.length - (intOf i).toNat)
  case atStart => exact ⟨0, Nat.zero_le _, rfl, rfl, rfl⟩
  case round =>
    obtain ⟨j, hj, rfl, rfl, rfl⟩ := hrel
    by_cases hlt : j < l.length
    · obtain ⟨ba, oa, rfl, _, _, a1, _, _⟩ := HC.out j hlt
      have hlt' : (j : Int) < (l.length : Int) := by omega
      obtain ⟨n1, n2⟩ := HB.out j hj
      obtain ⟨m1, m2⟩ := HB.out (j + 1) hlt
      have HSN := hSize_snoc l j hlt
      have HSN' : Hid (hSize (l.take (j + 1)) = hSize (l.take j) + l[j].1.2) := HSN
      rw [HSN] at m1 m2
      clear HSN
      generalize hSize (l.take j) = n at *
      obtain ⟨y, hy⟩ : ∃ y, l[j].1.2 = y := ⟨_, rfl⟩
      rw [hy] at a1 m1 m2 HSN'
      clear hy
      have HW : IntKind.i64.wrap (n + y) = n + y := by rw [IntKind.wrap_i64]; omega
      go_wp2_with fail
      go_roundw
      case rel => exact ⟨j + 1, by omega, by go_num, by rw [HSN'.out], trivial⟩
      case measure => simp [intOf]; omega
    · have hge : (l.length : Int) ≤ (j : Int) := by omega
      rw [List.take_of_length_le (by omega)]
      obtain ⟨n, hn⟩ : ∃ n, hSize l = n := ⟨_, rfl⟩
      have HN : Hid (hSize l = n) := hn
      rw [hn]
      clear hn
      go_wp2_with fail
      go_ret
      exact ⟨by rw [HN.out]; rfl, rfl⟩
end Go.Proofs.YtcbcjefefmbccaaDoor
namespace Go.Proofs.YtcbcjefefmbccaaDoor
open Go.RowKit

theorem heldCells_set : ∀ (l : List Hd) (k : Nat) (u : Int), k < l.length → (heldCells l).set (k * 4 + 2) (.int .i64 u) = heldCells (l.modify k (fun h => (h.1, u, h.2.2)))
  | [], _, _, h => by simp at h
  | x :: r, 0, u, _ => rfl
  | x :: r, k + 1, u, h => by
    have := heldCells_set r k u (by simpa using h)
    rw [show (k + 1) * 4 + 2 = k * 4 + 2 + 1 + 1 + 1 + 1 by omega]
    show _ :: _ :: _ :: _ :: _ = heldCells (x :: r.modify k _)
    rw [this]
    rfl
theorem RBin.open {w : World} {B : Nat} {v : Value} {l : List Hd} (h : RBin w B v l) (hn : 1 ≤ l.length) : ∃ g cap, v = .slice (some ⟨g, 0, none⟩) l.length cap ∧ (g ≠ B ∧ l.length ≤ cap ∧ cap ≤ maxLen) ∧ (∀ i, w.frozen? ⟨g, i, none⟩ = false) ∧ ∀ i (hi : i < l.length), w.cell? ⟨g, i * 4, none⟩ = some (.int .u32 (l[i].1.1 : Nat)) ∧ w.cell? ⟨g, i * 4 + 1, none⟩ = some (.int .i64 l[i].1.2) ∧ w.cell? ⟨g, i * 4 + 2, none⟩ = some (.int .i64 l[i].2.1) ∧ w.cell? ⟨g, i * 4 + 3, none⟩ = some (.string ⟨l[i].2.2.toArray⟩) := by
  have hap := h.apart
  obtain ⟨p, c, hv, hc⟩ := h.at
  obtain ⟨_, ho⟩ := h.row
  rcases ho with ⟨rfl, h0⟩ | ⟨g, cap, cur, rfl, _, hb, h1, h2, _⟩
  · omega
  · refine ⟨g, cap, rfl, ⟨fun e => hap (by simp [Value.ownBlock, e]), h1, h2⟩, fun i => ?_, fun i hi => ?_⟩
    · simp only [World.frozen?, hb]
      simp
    · obtain ⟨b, o, hp, _, a⟩ := hc i hi
      have hpp : p = some ⟨g, 0, none⟩ := (by simpa using hv.symm : p = some ⟨g, 0, none⟩ ∧ c = cap).1
      rw [hpp] at hp
      cases hp
      simpa using a
theorem RBin.setUses {w : World} {B g cap : Nat} {l : List Hd} (h : RBin w B (.slice (some ⟨g, 0, none⟩) l.length cap) l) (k : Nat) (hk : k < l.length) (u : Int) :
    RBin (w.setCell ⟨g, k * 4 + 2, none⟩ (.int .i64 u)) B (.slice (some ⟨g, 0, none⟩) l.length cap) (l.modify k (fun h => (h.1, u, h.2.2))) := by
  have hap : g ≠ B := fun e => h.apart (by simp [Value.ownBlock, e])
  refine ⟨h.blk.other (a := ⟨g, k * 4 + 2, none⟩) (fun e => hap e.symm) _, ?_⟩
  obtain ⟨hl, ho⟩ := h.row
  rcases ho with ⟨he, h0⟩ | ⟨g', cap', cur, he, hg, hb, h1, h2, h3, h4⟩
  · omega
  · obtain ⟨e1, e2⟩ : g' = g ∧ cap' = cap := by
      simp at he
      exact ⟨he.1.symm, he.2.symm⟩
    subst e1 e2
    rw [List.length_modify]
    refine ⟨by rw [heldCells_length, List.length_modify], .inr ⟨g', cap', cur.setIfInBounds (k * 4 + 2) (.int .i64 u), rfl, hg, ?_, h1, h2, by rw [Array.size_setIfInBounds]; exact h3, ?_⟩⟩
    · exact Blk.set (W := w) (B := g') (cs := cur) hb (k * 4 + 2) (.int .i64 u)
    · rw [Array.toList_setIfInBounds, List.take_set, h4, heldCells_set l k u hk]
theorem modify_use (l : List Hd) (k : Nat) (h : k < l.length) (d : Int) : l.modify k (fun h => (h.1, l[k].2.1 + d, h.2.2)) = l.modify k (hUse d) := by
  apply List.ext_getElem
  · simp
  · intro i h1 h2
    simp only [List.getElem_modify]
    split
    · rename_i e
      subst e
      rfl
    · rfl

set_option maxRecDepth 100000 in
set_option maxHeartbeats 4000000 in
theorem rDrop_any (B : Nat) (v : Value) (l : List Hd) (x : Nat × Int) (w : World) (hn : l.length ≤ maxLen) (hu : ∀ h ∈ l, 0 ≤ h.2.1 ∧ h.2.1 ≤ 9223372036854775807) (h : RBin w B v l) :
    Calls Tryd.prog 39 #[.pointer (some ⟨B, 0, none⟩), idV (x.1 : Nat) x.2] w fun e w' => e = .returned (.int .i64 (hDrop l x).1) ∧ RBin w' B v (hDrop l x).2 ∧ Off (RBin.Of B v) w w' := by
  have HR : Hid (RBin w B v l) := h
  have HN : Hid (l.length ≤ maxLen) := hn
  have hal : Below w.heap.size w (w.alloc (.cells #[.int .u32 (x.1 : Nat), .int .i64 x.2] 37)) := (Below.refl _ w).alloc (Nat.le_refl _) _
  have HR1 : Hid (RBin (w.alloc (.cells #[.int .u32 (x.1 : Nat), .int .i64 x.2] 37)) B v l) := h.below hal
  have HAL : Hid (Below w.heap.size w (w.alloc (.cells #[.int .u32 (x.1 : Nat), .int .i64 x.2] 37))) := hal
  clear h hn hal
  cases hf : hFind l x with
  | none =>
    have e1 : Hid (findI l x = -1) := by show _ = _; unfold findI; rw [hf]
    have e2 : Hid (hDrop l x = (5, l)) := by show _ = _; unfold hDrop; rw [hf]
    clear hf hu
    go_enter Tryd.func39, Tryd.ntmps39
    go_wp2_with fail
    refine (rFind_any B v l x _ HN.out HR1.out).mono ?_
    rintro e w1 ⟨rfl, hb1⟩
    rw [e1.out]
    have hB := HAL.out.trans (hb1.mono (by simp))
    go_wp2_with fail
    go_ret
    refine ⟨by rw [e2.out]; rfl, by rw [e2.out]; exact HR.out.below hB, Off.of_below hB⟩
  | some k =>
    obtain ⟨hk, _⟩ := hFind_some hf
    obtain ⟨hu0, hu1⟩ := hu _ (List.getElem_mem hk)
    have e1 : Hid (findI l x = (k : Int)) := by show _ = _; unfold findI; rw [hf]
    have hk0 : ¬ (k : Int) < 0 := by omega
    have hk' : (k : Int) < (l.length : Int) := by omega
    by_cases hz : l[k].2.1 = 0
    · have e2 : Hid (hDrop l x = (11, l)) := by
        show _ = _
        unfold hDrop
        rw [hf]
        simp only [List.getElem?_eq_getElem hk, Option.map_some, hz, if_true]
      clear hf hu
      go_enter Tryd.func39, Tryd.ntmps39
      go_wp2_with fail
      refine (rFind_any B v l x _ HN.out HR1.out).mono ?_
      rintro e w1 ⟨rfl, hb1⟩
      rw [e1.out]
      have hB := HAL.out.trans (hb1.mono (by simp))
      have hR := HR.out.below hB
      obtain ⟨g, cap, rfl, _, _, hc⟩ := hR.open (by omega)
      have q0 := hR.blk.cell (i := 0) rfl
      have q2 := (hc k hk).2.2.1
      rw [hz] at q2
      clear hc hb1
      go_wp2_with fail
      go_ret
      refine ⟨by rw [e2.out]; rfl, by rw [e2.out]; exact hR, Off.of_below hB⟩
    · have e2 : Hid (hDrop l x = (0, l.modify k (hUse (-1)))) := by
        show _ = _
        unfold hDrop
        rw [hf]
        simp only [List.getElem?_eq_getElem hk, Option.map_some]
        rw [if_neg (by intro e; exact hz (Option.some.inj e))]
      have HMU := modify_use l k hk (-1)
      have HM : Hid (l.modify k (fun h => (h.1, l[k].2.1 + -1, h.2.2)) = l.modify k (hUse (-1))) := HMU
      clear hf hu HMU
      go_enter Tryd.func39, Tryd.ntmps39
      go_wp2_with fail
      refine (rFind_any B v l x _ HN.out HR1.out).mono ?_
      rintro e w1 ⟨rfl, hb1⟩
      rw [e1.out]
      have hB := HAL.out.trans (hb1.mono (by simp))
      have hR := HR.out.below hB
      obtain ⟨g, cap, rfl, _, hfz, hc⟩ := hR.open (by omega)
      have q0 := hR.blk.cell (i := 0) rfl
      have q2 := (hc k hk).2.2.1
      have qf := hfz (k * 4 + 2)
      have HS := hR.setUses k hk (l[k].2.1 + -1)
      obtain ⟨u, hu⟩ : ∃ u, l[k].2.1 = u := ⟨_, rfl⟩
      rw [hu] at q2 hz hu0 hu1 HS HM
      have HSS : Hid (RBin (w1.setCell ⟨g, k * 4 + 2, none⟩ (.int .i64 (u + -1))) B (.slice (some ⟨g, 0, none⟩) l.length cap) (l.modify k (fun h => (h.1, u + -1, h.2.2)))) := HS
      have hz' : (u == 0) = false := beq_eq_false_iff_ne.2 hz
      have HW : IntKind.i64.wrap (u - 1) = u - 1 := by rw [IntKind.wrap_i64]; omega
      clear hc hb1 hu hfz HS
      go_wp2_with fail
      go_ret
      refine ⟨by rw [e2.out]; rfl, by rw [e2.out, ← HM.out]; exact HSS.out, (Off.of_below hB).setCell (p := ⟨g, k * 4 + 2, none⟩) (.inl (.inr rfl)) _⟩
end Go.Proofs.YtcbcjefefmbccaaDoor
namespace Go.Proofs.YtcbcjefefmbccaaDoor
open Go.RowKit

theorem sl4_from (g n c i : Nat) (hi : i ≤ n) (hc : n ≤ c) : ∃ P4 c4, (∀ w : World, (Instr.slice 63 (.slice (some ⟨g, 0, none⟩) n c) (some (.int .i64 (i : Int))) none none).run Tryd.prog w = .ok (.slice (some P4) (n - i) c4) w) ∧ (i < n → P4 = ⟨g, i * 4, none⟩) := by
  have hj1 : (0 : Int) ≤ (i : Int) := by omega
  have hj2 : (i : Int) ≤ (n : Int) := by omega
  by_cases hcap : c = i
  · refine ⟨⟨g, 0, none⟩, c - i, fun w => ?_, fun h => by omega⟩
    go_simp
  · by_cases h0 : i = 0
    · subst h0
      refine ⟨⟨g, 0, none⟩, c - 0, fun w => ?_, fun h => by simp⟩
      go_simp
    · refine ⟨⟨g, i * 4, none⟩, c - i, fun w => ?_, fun h => rfl⟩
      go_simp
theorem sl4_upto (g n c i : Nat) (hi : i ≤ n) (hc : n ≤ c) : ∀ w : World, (Instr.slice 63 (.slice (some ⟨g, 0, none⟩) n c) none (some (.int .i64 (i : Int))) none).run Tryd.prog w = .ok (.slice (some ⟨g, 0, none⟩) i c) w := by
  have hj1 : (0 : Int) ≤ (i : Int) := by omega
  have hj3 : (i : Int) ≤ (c : Int) := by omega
  intro w
  go_simp
theorem four_new (W : World) (h : Hd) (t : TypeId) (B : Nat) (hB : B = W.heap.size) : ∀ j u, (heldCells [h])[j]? = some u → (W.alloc (.cells #[.int .u32 (h.1.1 : Nat), .int .i64 h.1.2, .int .i64 h.2.1, .string ⟨h.2.2.toArray⟩] t)).cell? ((⟨B, 0, none⟩ : Addr).add j) = some u := by
  intro j u hj
  have ha : (⟨B, 0, none⟩ : Addr).add j = ⟨B, j, none⟩ := by unfold Addr.add; split <;> simp_all
  rw [ha]
  refine new_cell W _ t ?_ hB
  rw [← hj]
  match j with
  | 0 => rfl
  | 1 => rfl
  | 2 => rfl
  | 3 => rfl
  | j + 4 => simp [heldCells]
theorem ownsRow_low {w : World} {base base' : Nat} {e : TypeId} {size : Nat} {v : Value} {n : Nat} {xs : List Value} (h : w.ownsRow base e size v n xs) (hb : base' ≤ base) : w.ownsRow base' e size v n xs := by
  obtain ⟨hl, ho⟩ := h
  refine ⟨hl, ?_⟩
  rcases ho with ho | ⟨g, cap, cur, hv, hg, r⟩
  · exact .inl ho
  · exact .inr ⟨g, cap, cur, hv, Nat.le_trans hb hg, r⟩
/- What Put leaves behind. -/
def PutPost (w : World) (B : Nat) (v : Value) (r : ((Nat × Int) × Bool × Int) × List Hd) (e : Ending) (w' : World) : Prop :=
  ∃ v', e = .returned (.tuple #[idV (r.1.1.1 : Nat) r.1.1.2, .bool r.1.2.1, .int .i64 r.1.2.2]) ∧ RBin w' B v' r.2 ∧ (∀ k, v'.ownBlock = some k → v.ownBlock = some k ∨ w.heap.size ≤ k) ∧ Off (RBin.Of B v) w w'

set_option maxRecDepth 100000 in
set_option maxHeartbeats 4000000 in
theorem rPut_bound (B : Nat) (v : Value) (l : List Hd) (s : ByteArray) (w : World) (hs : s.size < 1 ∨ 64 < s.size) (h : RBin w B v l) :
    Calls Tryd.prog 38 #[.pointer (some ⟨B, 0, none⟩), .string s] w (PutPost w B v (hPut l s.data.toList)) := by
  have HR : Hid (RBin w B v l) := h
  have e2 : Hid (hPut l s.data.toList = (((0, 0), false, 2), l)) := by
    show _ = _
    unfold hPut
    rw [if_pos (by rw [Array.length_toList]; exact hs)]
  have hB : Below w.heap.size w (w.alloc (.cells #[.int .u32 0, .int .i64 0] 37)) := (Below.refl _ w).alloc (Nat.le_refl _) _
  have HB : Hid (Below w.heap.size w (w.alloc (.cells #[.int .u32 0, .int .i64 0] 37))) := hB
  have hX := Blk.new w #[.int .u32 0, .int .i64 0] 37
  clear h hB
  rcases hs with hs | hs
  · have h1 : (s.size : Int) < 1 := by omega
    go_enter Tryd.func38, Tryd.ntmps38
    go_wp2_with fail
    refine bodyPost_ret (v := .tuple #[idV (0 : Nat) 0, .bool false, .int .i64 2]) (by simp [results, Tryd.results38, go_sem]) rfl ?_
    rw [e2.out]
    exact ⟨v, rfl, HR.out.below HB.out, fun k hk => .inl hk, Off.of_below HB.out⟩
  · have h1 : ¬ (s.size : Int) < 1 := by omega
    have h2 : (64 : Int) < (s.size : Int) := by omega
    go_enter Tryd.func38, Tryd.ntmps38
    go_wp2_with fail
    refine bodyPost_ret (v := .tuple #[idV (0 : Nat) 0, .bool false, .int .i64 2]) (by simp [results, Tryd.results38, go_sem]) rfl ?_
    rw [e2.out]
    exact ⟨v, rfl, HR.out.below HB.out, fun k hk => .inl hk, Off.of_below HB.out⟩

/- Behind Find: the result's block, the ID's block, the bin. -/
structure PutW (w W : World) (I B : Nat) (v : Value) (l : List Hd) (x : Nat × Int) : Prop where
  below : Below w.heap.size w W
  res : Blk W w.heap.size #[.int .u32 0, .int .i64 0] 37
  id : Blk W I #[.int .u32 (x.1 : Nat), .int .i64 x.2] 37
  ne : w.heap.size < I
  bin : RBin W B v l
theorem PutW.next {w W W' : World} {I B : Nat} {v : Value} {l : List Hd} {x : Nat × Int} (h : PutW w W I B v l x) (hb : Below W.heap.size W W') : PutW w W' I B v l x :=
  ⟨h.below.trans (hb.mono h.below.size), h.res.next hb, h.id.next hb, h.ne, h.bin.below hb⟩

set_option maxRecDepth 100000 in
set_option maxHeartbeats 4000000 in
theorem rPut_found (B : Nat) (v : Value) (l : List Hd) (s : ByteArray) (w : World) (hs1 : 1 ≤ s.size) (hs2 : s.size ≤ 64) (hn : l.length ≤ maxLen) (hu : ∀ h ∈ l, 0 ≤ h.2.1 ∧ h.2.1 ≤ 1000000) (k : Nat) (hf : hFind l (idOfL s.data.toList) = some k) (h : RBin w B v l) :
    Calls Tryd.prog 38 #[.pointer (some ⟨B, 0, none⟩), .string s] w (PutPost w B v (hPut l s.data.toList)) := by
  have HR : Hid (RBin w B v l) := h
  have HN : Hid (l.length ≤ maxLen) := hn
  have HSM : Hid (s.size ≤ maxLen) := by show _ ≤ _; unfold maxLen; omega
  have h1 : ¬ (s.size : Int) < 1 := by omega
  have h2 : ¬ (64 : Int) < (s.size : Int) := by omega
  obtain ⟨hk, _⟩ := hFind_some hf
  have hne : 1 ≤ l.length := by omega
  obtain ⟨hu0, hu1⟩ := hu _ (List.getElem_mem hk)
  have e1 : Hid (findI l (idOfL s.data.toList) = (k : Int)) := by show _ = _; unfold findI; rw [hf]
  have hk0 : (0 : Int) ≤ (k : Int) := by omega
  have hk' : (k : Int) < (l.length : Int) := by omega
  have HID : Hid (idOfL s.data.toList = (pmore 2166136261 s.data.toList, (s.size : Int))) := by show _ = _; unfold idOfL; rw [Array.length_toList]; rfl
  have H38 := rFind_any B v l (idOfL s.data.toList)
  rw [HID.out] at H38 e1
  obtain ⟨P, hP⟩ : ∃ P, pmore 2166136261 s.data.toList = P := ⟨_, rfl⟩
  rw [hP] at H38 e1 HID
  have HPS : Hid (pmore 2166136261 s.data.toList = P) := hP
  have HF : Hid (∀ (w : World), l.length ≤ maxLen → RBin w B v l → Calls Tryd.prog 41 #[.pointer (some ⟨B, 0, none⟩), idV (P : Nat) (s.size : Int)] w fun e w' => e = .returned (.int .i64 (findI l (P, (s.size : Int)))) ∧ Below w.heap.size w w') := H38
  have hs3 : ¬ (s.data.toList.length < 1 ∨ 64 < s.data.toList.length) := by rw [Array.length_toList]; show ¬ (s.size < 1 ∨ 64 < s.size); omega
  have e2 : Hid (hPut l s.data.toList = if l[k].2.2 = s.data.toList then ((idOfL s.data.toList, false, 0), l.modify k (hUse 1)) else (((0, 0), false, 10), l)) := by
    show _ = _
    unfold hPut
    rw [if_neg hs3, hf]
    simp only [List.getElem?_eq_getElem hk, Option.map_some, Option.some.injEq]
  have HMU : Hid (l.modify k (fun h => (h.1, l[k].2.1 + 1, h.2.2)) = l.modify k (hUse 1)) := modify_use l k hk 1
  clear h hn hf hu H38 hP hs3 hs1 hs2
  have hX := Blk.new w #[.int .u32 0, .int .i64 0] 37
  have hB0 : Below w.heap.size w (w.alloc (.cells #[.int .u32 0, .int .i64 0] 37)) := (Below.refl _ w).alloc (Nat.le_refl _) _
  have HX : Hid (Blk (w.alloc (.cells #[.int .u32 0, .int .i64 0] 37)) w.heap.size #[.int .u32 0, .int .i64 0] 37) := hX
  have HB0 : Hid (Below w.heap.size w (w.alloc (.cells #[.int .u32 0, .int .i64 0] 37))) := hB0
  clear hX hB0
  go_enter Tryd.func38, Tryd.ntmps38
  go_wp2_with fail
  refine (idOf_any s _ HSM.out).mono ?_
  rintro e w1 ⟨rfl, hb1⟩
  rw [HPS.out]
  have hR1 := HX.out.next hb1
  have hB1 : Below w.heap.size w w1 := HB0.out.trans (hb1.mono (by simp))
  have hz1 : w.heap.size < w1.heap.size := hR1.lt
  have hal := (Below.refl w1.heap.size w1).alloc (Nat.le_refl _) (.cells #[.int .u32 (P : Nat), .int .i64 (s.size : Int)] 37)
  have hI2 := Blk.new w1 #[.int .u32 (P : Nat), .int .i64 (s.size : Int)] 37
  have hPW : PutW w (w1.alloc (.cells #[.int .u32 (P : Nat), .int .i64 (s.size : Int)] 37)) w1.heap.size B v l (P, (s.size : Int)) := ⟨hB1.trans (hal.mono hB1.size), hR1.next hal, hI2, hz1, HR.out.below (hB1.trans (hal.mono hB1.size))⟩
  have HPW : Hid (PutW w (w1.alloc (.cells #[.int .u32 (P : Nat), .int .i64 (s.size : Int)] 37)) w1.heap.size B v l (P, (s.size : Int))) := hPW
  clear hb1 hR1 hB1 hal hI2 hPW
  go_wp2_with fail
  refine (HF.out _ HN.out HPW.out.bin).mono ?_
  rintro e w2 ⟨rfl, hb2⟩
  rw [e1.out]
  have hPW := HPW.out.next hb2
  generalize w1.heap.size = I at *
  clear HPW hb2 HF
  obtain ⟨g, cap, rfl, ⟨hgB, _⟩, hfz, hc⟩ := hPW.bin.open hne
  have q0 := hPW.bin.blk.cell (i := 0) rfl
  have i0 := hPW.id.cell (i := 0) rfl
  have i1 := hPW.id.cell (i := 1) rfl
  have r0 := hPW.res.cell (i := 0) rfl
  have r1 := hPW.res.cell (i := 1) rfl
  have fr0 := hPW.res.frozen 0
  have fr1 := hPW.res.frozen 1
  obtain ⟨_, _, q2, q3⟩ := hc k hk
  have hws := hPW.below.size
  by_cases ht : l[k].2.2 = s.data.toList
  · have hteq : (⟨l[k].2.2.toArray⟩ : ByteArray) = s := by rw [ht]
    have e3 : Hid (hPut l s.data.toList = ((idOfL s.data.toList, false, 0), l.modify k (hUse 1))) := by show _ = _; rw [e2.out, if_pos ht]
    rw [hteq] at q3
    have qf := hfz (k * 4 + 2)
    have HS := hPW.bin.setUses k hk (l[k].2.1 + 1)
    obtain ⟨u, hu⟩ : ∃ u, l[k].2.1 = u := ⟨_, rfl⟩
    rw [hu] at q2 hu0 hu1 HS HMU
    have hW : PutW w w2 I B (.slice (some ⟨g, 0, none⟩) l.length cap) l (P, (s.size : Int)) := hPW
    have HW2 : IntKind.i64.wrap (u + 1) = u + 1 := by rw [IntKind.wrap_i64]; omega
    have hgI : g ≠ I := fun e => by
      obtain ⟨_, ho⟩ := hPW.bin.row
      rcases ho with ⟨he, _⟩ | ⟨g', cap', cur, he, _, hb, _⟩
      · cases he
      · have eg : g' = g := by simp at he; exact he.1.symm
        subst eg
        have hid : w2.heap[I]? = some (.cells #[.int .u32 (P : Nat), .int .i64 (s.size : Int)] 37 (0, 0)) := hPW.id
        rw [← e, hb] at hid
        exact absurd (Obj.cells.inj (Option.some.inj hid)).2.1 (by decide)
    have hgR : g ≠ w.heap.size := fun e => by
      have := HR.out.lt (k := g) (.inr rfl)
      omega
    have HSS : Hid (RBin (w2.setCell ⟨g, k * 4 + 2, none⟩ (.int .i64 (u + 1))) B (.slice (some ⟨g, 0, none⟩) l.length cap) (l.modify k (fun h => (h.1, u + 1, h.2.2)))) := HS
    have HPWW : Hid (PutW w w2 I B (.slice (some ⟨g, 0, none⟩) l.length cap) l (P, (s.size : Int))) := hPW
    have s0 : (w2.setCell ⟨g, k * 4 + 2, none⟩ (.int .i64 (u + 1))).cell? ⟨I, 0, none⟩ = some (.int .u32 (P : Nat)) := (hPW.id.other (a := ⟨g, k * 4 + 2, none⟩) (fun e => hgI e.symm) _).cell (i := 0) rfl
    have s1 : (w2.setCell ⟨g, k * 4 + 2, none⟩ (.int .i64 (u + 1))).cell? ⟨I, 1, none⟩ = some (.int .i64 (s.size : Int)) := (hPW.id.other (a := ⟨g, k * 4 + 2, none⟩) (fun e => hgI e.symm) _).cell (i := 1) rfl
    have HRES : Hid (Blk (w2.setCell ⟨g, k * 4 + 2, none⟩ (.int .i64 (u + 1))) w.heap.size #[.int .u32 0, .int .i64 0] 37) := hPW.res.other (a := ⟨g, k * 4 + 2, none⟩) (fun e => hgR e.symm) _
    have t0 := HRES.out.cell (i := 0) rfl
    have t1 := HRES.out.cell (i := 1) rfl
    have tf0 := HRES.out.frozen 0
    have tf1 := HRES.out.frozen 1
    clear hc hfz HS hu hPW e2 ht hteq hW
    go_wp2_with fail
    refine bodyPost_ret (v := .tuple #[idV (P : Nat) (s.size : Int), .bool false, .int .i64 0]) (by simp [results, Tryd.results38, go_sem, t0, t1]) rfl ?_
    rw [e3.out, HID.out]
    have hgl := HPWW.out.bin.lt (k := g) (.inr rfl)
    refine ⟨.slice (some ⟨g, 0, none⟩) l.length cap, rfl, ?_, fun k hk => .inl hk, (((Off.of_below HPWW.out.below).setCell (p := ⟨g, k * 4 + 2, none⟩) (.inl (.inr rfl)) _).setCell (p := ⟨w.heap.size, 0, none⟩) (.inr (Nat.le_refl _)) _).setCell (p := ⟨w.heap.size, 1, none⟩) (.inr (Nat.le_refl _)) _⟩
    rw [← HMU.out]
    have hnR : ∀ k, RBin.Of B (.slice (some ⟨g, 0, none⟩) l.length cap) k → ¬ k = w.heap.size := fun k hk e => by
      have := HR.out.lt hk
      omega
    exact HSS.out.off (((Off.refl (fun k => k = w.heap.size) _).setCell (p := ⟨w.heap.size, 0, none⟩) (.inl rfl) _).setCell (p := ⟨w.heap.size, 1, none⟩) (.inl rfl) _) hnR
  · have hteq : ((⟨l[k].2.2.toArray⟩ : ByteArray).toList == s.toList) = false := by
      rw [ByteArray.toList_eq, ByteArray.toList_eq, beq_eq_false_iff_ne]
      exact ht
    have e3 : Hid (hPut l s.data.toList = (((0, 0), false, 10), l)) := by show _ = _; rw [e2.out, if_neg ht]
    have HPWW : Hid (PutW w w2 I B (.slice (some ⟨g, 0, none⟩) l.length cap) l (P, (s.size : Int))) := hPW
    obtain ⟨tx, htx⟩ : ∃ tx : ByteArray, (⟨l[k].2.2.toArray⟩ : ByteArray) = tx := ⟨_, rfl⟩
    rw [htx] at q3 hteq
    clear hc hfz hPW e2 ht htx q2
    go_wp2_with fail
    refine bodyPost_ret (v := .tuple #[idV (0 : Nat) 0, .bool false, .int .i64 10]) (by simp [results, Tryd.results38, go_sem, r0, r1]) rfl ?_
    rw [e3.out]
    have hb := (HPWW.out.below.setCell (p := ⟨w.heap.size, 0, none⟩) (Nat.le_refl _) (.int .u32 0)).setCell (p := ⟨w.heap.size, 1, none⟩) (Nat.le_refl _) (.int .i64 0)
    exact ⟨.slice (some ⟨g, 0, none⟩) l.length cap, rfl, HR.out.below hb, fun k hk => .inl hk, Off.of_below hb⟩
end Go.Proofs.YtcbcjefefmbccaaDoor
