/-
  Own text. What the program's package bin is to answer, as contracts (BinSpec), over what the world holds (Env) and an abstract bin in memory (PB: the pointer, the bin's own blocks, its pieces in order); two bins side by side (TwoBins); binned.
-/
import Derived.Test.YteefjbdejcpepaaGreatDoorBinOk
import Derived.Test.YteefjbdejcpepaaGreatDoorBinMem
import Derived.Test.YteefjbdejcpepaaGreatDoorRecErr
namespace Go.Proofs.YteefjbdejcpepaaGreatDoor
open Go.RowKit

def hGet (l : List Hd) (x : Nat × Int) : List UInt8 × Int := match hFind l x with | some k => ((l[k]?.map (·.2.2)).getD [], 0) | none => ([], 5)
abbrev PBin := World → Addr → (Nat → Prop) → List Hd → Prop
structure BinSpec (a : Nat → Addr) (Env : World → Prop) (PB : PBin) : Prop where
  stable : ∀ {w w' : World}, Env w → Below w.heap.size w w' → Env w'
  lt : ∀ {w : World} {p : Addr} {F : Nat → Prop} {l : List Hd}, PB w p F l → ∀ k, F k → k < w.heap.size
  off : ∀ {w w' : World} {p : Addr} {F G : Nat → Prop} {l : List Hd}, PB w p F l → Off G w w' → (∀ k, F k → ¬ G k) → PB w' p F l
  new : ∀ (w : World), Env w → Calls Tryz.prog 38 #[] w fun e w' => ∃ p F, e = .returned (.pointer (some p)) ∧ PB w' p F [] ∧ (∀ k, F k → w.heap.size ≤ k) ∧ Below w.heap.size w w'
  put : ∀ (s : ByteArray) (p : Addr) (F : Nat → Prop) (l : List Hd) (w : World), s.size ≤ 50000 → BinOk 1000000 l → Env w → PB w p F l → Calls Tryz.prog 39 #[.pointer (some p), .string s] w fun e w' => ∃ ev F', e = .returned (.tuple #[idV ((hPut l s.data.toList).1.1.1 : Nat) (hPut l s.data.toList).1.1.2, .bool (hPut l s.data.toList).1.2.1, ev]) ∧ ErrIn w.heap.size w' a ev ((hPut l s.data.toList).1.2.2, -1) ∧ PB w' p F' (hPut l s.data.toList).2 ∧ (∀ k, F' k → F k ∨ w.heap.size ≤ k) ∧ Off F w w'
  get : ∀ (x : Nat × Int) (p : Addr) (F : Nat → Prop) (l : List Hd) (w : World), WfID x → BinOk 1000000 l → Env w → PB w p F l → Calls Tryz.prog 79 #[.pointer (some p), idV (x.1 : Nat) x.2] w fun e w' => ∃ ev, e = .returned (.tuple #[.string ⟨(hGet l x).1.toArray⟩, ev]) ∧ ErrIn w.heap.size w' a ev ((hGet l x).2, -1) ∧ Below w.heap.size w w'
  drop : ∀ (x : Nat × Int) (p : Addr) (F : Nat → Prop) (l : List Hd) (w : World), WfID x → BinOk 1000000 l → Env w → PB w p F l → Calls Tryz.prog 93 #[.pointer (some p), idV (x.1 : Nat) x.2] w fun e w' => ∃ ev F', e = .returned ev ∧ ErrIn w.heap.size w' a ev ((hDrop l x).1, -1) ∧ PB w' p F' (hDrop l x).2 ∧ (∀ k, F' k → F k ∨ w.heap.size ≤ k) ∧ Off F w w'
  sweep : ∀ (p : Addr) (F : Nat → Prop) (l : List Hd) (w : World), BinOk 1000000 l → Env w → PB w p F l → Calls Tryz.prog 94 #[.pointer (some p)] w fun e w' => ∃ F', e = .returned (.int .i64 (hSweep l).1) ∧ PB w' p F' (hSweep l).2 ∧ (∀ k, F' k → F k ∨ w.heap.size ≤ k) ∧ Off F w w'
  size : ∀ (p : Addr) (F : Nat → Prop) (l : List Hd) (w : World), BinOk 1000000 l → Env w → PB w p F l → Calls Tryz.prog 42 #[.pointer (some p)] w fun e w' => e = .returned (.int .i64 (hSize l)) ∧ Below w.heap.size w w'
  copy : ∀ (p : Addr) (F : Nat → Prop) (l : List Hd) (w : World), BinOk 1000000 l → Env w → PB w p F l → Calls Tryz.prog 121 #[.pointer (some p)] w fun e w' => ∃ p' F', e = .returned (.pointer (some p')) ∧ PB w' p' F' l ∧ (∀ k, F' k → w.heap.size ≤ k) ∧ Below w.heap.size w w'
  all : ∀ (p : Addr) (F : Nat → Prop) (l : List Hd) (w : World), BinOk 1000000 l → Env w → PB w p F l → Calls Tryz.prog 43 #[.pointer (some p)] w fun e w' => ∃ v, e = .returned v ∧ HeldsAt w' v l ∧ Below w.heap.size w w'

theorem BinSpec.below {a : Nat → Addr} {Env : World → Prop} {PB : PBin} (S : BinSpec a Env PB) {w w' : World} {p : Addr} {F : Nat → Prop} {l : List Hd} (h : PB w p F l) (hb : Below w.heap.size w w') : PB w' p F l := S.off h (Off.of_below (F := fun _ => False) hb) (fun _ _ h => h)

/- The program's bin and the document's, side by side, in memory that is new since w. -/
end Go.Proofs.YteefjbdejcpepaaGreatDoor
