/-
  Own text. sort.Slice at a slice of structs, where 'less' may lay blocks: it holds a permutation of what it held, sorted; nothing else that lay has turned.
-/
import Derived.Test.YtpkaflbdcoffdaaDoorSrt7
namespace Go.Proofs.YtpkaflbdcoffdaaDoor
open Go.Shelf Go.RowKit Go.Lib Go.Sort
variable {P : Program} {ρ : Ren} {α : Type} [Inhabited α]

theorem grown_setCells (b : Nat) : ∀ (vs : List Value) (o : Nat) (w w' : World), w.grownBy w' (some b) → w.grownBy (w'.setCells b o vs) (some b)
  | [], _, _, _, h => h
  | v :: r, o, w, w', h => by rw [World.setCells]; exact grown_setCells b r (o + 1) w _ (grown_set h o v)
theorem holdsK_kept {enc : α → List Value} {k : Nat} {w w' : World} {blk off : Nat} {d : Array α} (h : HoldsK enc k w blk off d) {row : Option Nat} (hg : w.grownBy w' row) (hl : blk < w.heap.size) (hr : some blk ≠ row) : HoldsK enc k w' blk off d := fun j hj =>
  ⟨(World.cell?_of_block (w := w) (hg.block blk hl hr)).trans (h j hj).1, (World.frozen?_of_block (w := w) (hg.block blk hl hr)).trans (h j hj).2⟩

theorem srt_slice (L : LaysGg.n6 P ρ) (t e : TypeId) (i ie : TypeInfo) (hi : P.info? t = some i) (hd : i.desc = .slice e) (hpk : P.packed t = false) (hie : P.info? e = some ie) (ke : Nat) (hke : ∀ w, (Extern.Rtype.kind e).run P w = .ok ke w)
    (enc : α → List Value) (k : Nat) (hk : ∀ x, (enc x).length = k) (hs1 : ie.size = k) (hagg : ∀ w, (isAgg e).run P w = .ok true w) (h1 : ∀ x, ∀ v ∈ enc x, v.oneCell' = true) (lt : α → α → Bool) (hO : SWO lt) (g : Nat) (lb : Array Value)
    (eg : ∀ args w, (callFunc g args).run P w = .ok (.enter g args) w) (blk off c : Nat) (d : Array α) (h2 : 2 ≤ d.size) (hsz : d.size < 4611686018427387904)
    (f : Nat) (hf : P.funcs.findIdx? (·.name == "internal/reflectlite" ++ ".Swapper$" ++ toString (swapperK d.size ie ke)) = some f)
    (gS : Bool) (hx : ∀ args W, (callFunc f args).run P W = ((Extern.ReflectliteSwapper.swap gS args).run P W).andThen fun v w' => .ok (.value v) w')
    (w : World) (hblk : blk < w.heap.size) (hH : HoldsK enc k w blk off d)
    (hless : ∀ (W : World) (dk : Array α) (i j : Nat), w.grownBy W (some blk) → HoldsK enc k W blk off dk → dk.size = d.size → i < d.size → j < d.size → Calls P g (#[.int .i64 i, .int .i64 j] ++ lb) W fun e w' => e = .returned (.bool (lt dk[i]! dk[j]!)) ∧ W.grownBy w' none) :
    Calls P (ρ.f 6) #[.iface t (.slice (some ⟨blk, off, none⟩) d.size c), .func (.func g) #[] lb] w fun e w' => e = .returned (.tuple #[]) ∧ ∃ d', PermIn 0 d.size d d' ∧ SortedIn lt 0 d.size d' ∧ HoldsK enc k w' blk off d' ∧ w.grownBy w' (some blk) := by
  refine Any.sort_Slice_of_pdq L t e i ie hi hd hpk hie ke hke _ d.size c hsz f hf (.func g) #[] lb w _ ?_
  have hB : sliceBound P e ie ke (some ⟨blk, off, none⟩) d.size c = #[.slice (some ⟨blk, off, none⟩) d.size c, typeHandle P e] := by
    unfold sliceBound; rw [if_neg (swapperK_gt _ _ _ h2)]
  have hg0 : w.grownBy (sliceWorld P ρ t (some ⟨blk, off, none⟩) d.size c w) none := by
    unfold sliceWorld
    exact (World.grownBy_alloc w _ none).andThen (World.grownBy_alloc _ _ none) (fun _ hj => by cases hj)
  generalize sliceWorld P ρ t (some ⟨blk, off, none⟩) d.size c w = w0 at hg0
  rw [hB]
  have hsw := swapSwapsK_of_literal gS f hx e ie hie enc k hk hs1 hagg h1 blk off d.size c
  have S : Srt P lt g lb f #[.slice (some ⟨blk, off, none⟩) d.size c, typeHandle P e] blk d.size w.heap.size (fun W dk => w.grownBy W (some blk) ∧ HoldsK enc k W blk off dk ∧ dk.size = d.size) :=
    { eg := eg
      blt := fun h => Nat.lt_of_lt_of_le hblk h.1.size
      size := fun h => h.2.2
      keep := fun h hg => ⟨h.1.andThen hg (fun _ hj => by cases hj), holdsK_kept h.2.1 hg (Nat.lt_of_lt_of_le hblk h.1.size) (by simp), h.2.2⟩
      le := fun h => h.1.size
      keepAt := fun h hc hg => ⟨h.1.andThen hg (fun _ hj => by cases hj; exact .inl hc), holdsK_kept h.2.1 hg (Nat.lt_of_lt_of_le hblk h.1.size) (fun e => by have := Option.some.inj e; omega), h.2.2⟩
      less := fun x y i j hx hy h hi hj => by subst hx hy; exact hless _ _ i j h.1 h.2.1 h.2.2 hi hj
      swap := fun {W dk} x y i j hx hy h hi hj => by
        subst hx hy
        refine ⟨_, hsw W dk h.2.1 h.2.2 i j hi hj, ⟨h.1.andThen (grown_setCells blk _ _ _ _ (grown_setCells blk _ _ _ _ (grown_refl W _))) (fun _ hj => .inr hj), ?_, by rw [size_swp]; exact h.2.2⟩, grown_setCells blk _ _ _ _ (grown_setCells blk _ _ _ _ (grown_refl W _))⟩
        have e := putRowK_swp enc k hk W blk off dk i j (by omega) (by omega)
        rw [putRowK_self _ _ _ blk off dk h.2.1] at e
        rw [e]
        exact holdsK_putRowK _ _ _ _ _ dk _ h.2.1 (size_swp _ _ _) }
  have hlim : Lib.bitLen d.size < 4611686018427387904 := Nat.lt_of_le_of_lt (Lib.bitLen_le d.size 62 (by omega) (by omega)) (by omega)
  refine (srt_pdq (P := P) (ρ := ρ) { L with } S hO hsz (d.size + 1) 0 d.size (Lib.bitLen d.size) d w0 (by omega) ⟨hg0.but _, holdsK_kept hH hg0 hblk (by simp), rfl⟩ (Nat.zero_le _) (Nat.le_refl _) hlim (Or.inl rfl)).mono ?_
  rintro e w' ⟨rfl, ⟨hg, hh, _⟩, _⟩
  have hp := pdq_sorts lt hO d 0 d.size (Lib.bitLen d.size) true true (Nat.zero_le _) (Nat.le_refl _) (Or.inl rfl)
  exact ⟨rfl, _, hp.1, hp.2, hh, hg⟩
end Go.Proofs.YtpkaflbdcoffdaaDoor
