/-
  Own text. What the program's package bin is to answer, as contracts (BinSpec), over what the world holds (Env) and an abstract bin in memory (PB: the pointer, the bin's own blocks, its pieces in order); two bins side by side (TwoBins); binned.
-/
import Derived.Test.YteefjbdejcpepaaDoorBinOk
import Derived.Test.YteefjbdejcpepaaDoorBinMem
import Derived.Test.YteefjbdejcpepaaDoorRecErr
namespace Go.Proofs.YteefjbdejcpepaaDoor
open Go.RowKit

def hGet (l : List Hd) (x : Nat × Int) : List UInt8 × Int := match hFind l x with | some k => ((l[k]?.map (·.2.2)).getD [], 0) | none => ([], 5)
abbrev PBin := World → Addr → (Nat → Prop) → List Hd → Prop
structure BinSpec (a : Nat → Addr) (Env : World → Prop) (PB : PBin) : Prop where
  stable : ∀ {w w' : World}, Env w → Below w.heap.size w w' → Env w'
  lt : ∀ {w : World} {p : Addr} {F : Nat → Prop} {l : List Hd}, PB w p F l → ∀ k, F k → k < w.heap.size
  off : ∀ {w w' : World} {p : Addr} {F G : Nat → Prop} {l : List Hd}, PB w p F l → Off G w w' → (∀ k, F k → ¬ G k) → PB w' p F l
  new : ∀ (w : World), Env w → Calls Tryd.prog 28 #[] w fun e w' => ∃ p F, e = .returned (.pointer (some p)) ∧ PB w' p F [] ∧ (∀ k, F k → w.heap.size ≤ k) ∧ Below w.heap.size w w'
  put : ∀ (s : ByteArray) (p : Addr) (F : Nat → Prop) (l : List Hd) (w : World), s.size ≤ 50000 → BinOk 1000000 l → Env w → PB w p F l → Calls Tryd.prog 30 #[.pointer (some p), .string s] w fun e w' => ∃ ev F', e = .returned (.tuple #[idV ((hPut l s.data.toList).1.1.1 : Nat) (hPut l s.data.toList).1.1.2, .bool (hPut l s.data.toList).1.2.1, ev]) ∧ ErrIn w.heap.size w' a ev ((hPut l s.data.toList).1.2.2, -1) ∧ PB w' p F' (hPut l s.data.toList).2 ∧ (∀ k, F' k → F k ∨ w.heap.size ≤ k) ∧ Off F w w'
  get : ∀ (x : Nat × Int) (p : Addr) (F : Nat → Prop) (l : List Hd) (w : World), WfID x → BinOk 1000000 l → Env w → PB w p F l → Calls Tryd.prog 31 #[.pointer (some p), idV (x.1 : Nat) x.2] w fun e w' => ∃ ev, e = .returned (.tuple #[.string ⟨(hGet l x).1.toArray⟩, ev]) ∧ ErrIn w.heap.size w' a ev ((hGet l x).2, -1) ∧ Below w.heap.size w w'
  drop : ∀ (x : Nat × Int) (p : Addr) (F : Nat → Prop) (l : List Hd) (w : World), WfID x → BinOk 1000000 l → Env w → PB w p F l → Calls Tryd.prog 36 #[.pointer (some p), idV (x.1 : Nat) x.2] w fun e w' => ∃ ev F', e = .returned ev ∧ ErrIn w.heap.size w' a ev ((hDrop l x).1, -1) ∧ PB w' p F' (hDrop l x).2 ∧ (∀ k, F' k → F k ∨ w.heap.size ≤ k) ∧ Off F w w'
  sweep : ∀ (p : Addr) (F : Nat → Prop) (l : List Hd) (w : World), BinOk 1000000 l → Env w → PB w p F l → Calls Tryd.prog 29 #[.pointer (some p)] w fun e w' => ∃ F', e = .returned (.int .i64 (hSweep l).1) ∧ PB w' p F' (hSweep l).2 ∧ (∀ k, F' k → F k ∨ w.heap.size ≤ k) ∧ Off F w w'
  size : ∀ (p : Addr) (F : Nat → Prop) (l : List Hd) (w : World), BinOk 1000000 l → Env w → PB w p F l → Calls Tryd.prog 37 #[.pointer (some p)] w fun e w' => e = .returned (.int .i64 (hSize l)) ∧ Below w.heap.size w w'
  copy : ∀ (p : Addr) (F : Nat → Prop) (l : List Hd) (w : World), BinOk 1000000 l → Env w → PB w p F l → Calls Tryd.prog 43 #[.pointer (some p)] w fun e w' => ∃ p' F', e = .returned (.pointer (some p')) ∧ PB w' p' F' l ∧ (∀ k, F' k → w.heap.size ≤ k) ∧ Below w.heap.size w w'
  all : ∀ (p : Addr) (F : Nat → Prop) (l : List Hd) (w : World), BinOk 1000000 l → Env w → PB w p F l → Calls Tryd.prog 32 #[.pointer (some p)] w fun e w' => ∃ v, e = .returned v ∧ HeldsAt w' v l ∧ Below w.heap.size w w'

theorem BinSpec.below {a : Nat → Addr} {Env : World → Prop} {PB : PBin} (S : BinSpec a Env PB) {w w' : World} {p : Addr} {F : Nat → Prop} {l : List Hd} (h : PB w p F l) (hb : Below w.heap.size w w') : PB w' p F l := S.off h (Off.of_below (F := fun _ => False) hb) (fun _ _ h => h)

/- The program's bin and the document's, side by side, in memory that is new since w. -/
structure TwoBins (PB : PBin) (w W : World) (p : Addr) (F : Nat → Prop) (lp : List Hd) (B : Nat) (v : Value) (lr : List Hd) : Prop where
  below : Below w.heap.size w W
  pb : PB W p F lp
  rb : RBin W B v lr
  apart : ∀ k, F k → ¬ RBin.Of B v k
  pnew : ∀ k, F k → w.heap.size ≤ k
  rnew : ∀ k, RBin.Of B v k → w.heap.size ≤ k
theorem TwoBins.next {a : Nat → Addr} {Env : World → Prop} {PB : PBin} (S : BinSpec a Env PB) {w W W' : World} {p : Addr} {F : Nat → Prop} {lp : List Hd} {B : Nat} {v : Value} {lr : List Hd} (h : TwoBins PB w W p F lp B v lr) (hb : Below W.heap.size W W') : TwoBins PB w W' p F lp B v lr :=
  ⟨h.below.trans (hb.mono h.below.size), S.below h.pb hb, h.rb.below hb, h.apart, h.pnew, h.rnew⟩
theorem TwoBins.prog {PB : PBin} {w W W' : World} {p : Addr} {F F' : Nat → Prop} {lp lp' : List Hd} {B : Nat} {v : Value} {lr : List Hd} (h : TwoBins PB w W p F lp B v lr) (hp : PB W' p F' lp') (hF : ∀ k, F' k → F k ∨ W.heap.size ≤ k) (ho : Off F W W') : TwoBins PB w W' p F' lp' B v lr := by
  refine ⟨h.below.trans (ho.below h.below.size (fun k hk hf => by have := h.pnew k hf; omega)), hp, h.rb.off ho (fun k hk hf => h.apart k hf hk), fun k hk hr => ?_, fun k hk => ?_, h.rnew⟩
  · rcases hF k hk with hk | hk
    · exact h.apart k hk hr
    · have := h.rb.lt hr; omega
  · rcases hF k hk with hk | hk
    · exact h.pnew k hk
    · exact Nat.le_trans h.below.size hk
theorem TwoBins.doc {a : Nat → Addr} {Env : World → Prop} {PB : PBin} (S : BinSpec a Env PB) {w W W' : World} {p : Addr} {F : Nat → Prop} {lp : List Hd} {B : Nat} {v v' : Value} {lr lr' : List Hd} (h : TwoBins PB w W p F lp B v lr) (hr : RBin W' B v' lr') (hv : ∀ k, v'.ownBlock = some k → v.ownBlock = some k ∨ W.heap.size ≤ k) (ho : Off (RBin.Of B v) W W') : TwoBins PB w W' p F lp B v' lr' := by
  have hO : ∀ k, RBin.Of B v' k → RBin.Of B v k ∨ W.heap.size ≤ k := fun k hk => by
    rcases hk with rfl | hk
    · exact .inl (.inl rfl)
    · exact (hv k hk).imp .inr id
  refine ⟨h.below.trans (ho.below h.below.size (fun k hk hf => by have := h.rnew k hf; omega)), S.off h.pb ho h.apart, hr, fun k hk hr => ?_, h.pnew, fun k hk => ?_⟩
  · rcases hO k hr with hr | hr
    · exact h.apart k hk hr
    · have := S.lt h.pb k hk; omega
  · rcases hO k hk with hk | hk
    · exact h.rnew k hk
    · exact Nat.le_trans h.below.size hk
end Go.Proofs.YteefjbdejcpepaaDoor
