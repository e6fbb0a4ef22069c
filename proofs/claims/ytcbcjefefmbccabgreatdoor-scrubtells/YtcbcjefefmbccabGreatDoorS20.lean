/-
  Own text. The document's Cut of a text by a byte, by a contract: it returns the pieces, in new memory.
  Own text. Hex digits read: digits.ReadHex and the document's Unhex by contracts.
  Own text. Decimal digits read: digits.Are, digits.Read and the document's NumberOf by contracts.
  Own text. print.Read by contracts: an ID, or the zero ID and what api.ErrText holds.
  Own text. The document's ReadID by a contract: it reads just what print.Read reads.
-/
import Derived.Test.YtcbcjefefmbccabGreatDoorS02
import Derived.Lib.Strings
import Derived.Test.YtcbcjefefmbccabGreatDoorS05
import Derived.RegionTactic
namespace Go.Proofs.YtcbcjefefmbccabGreatDoor
open Go.RowKit

def cutBy (c : UInt8) : List UInt8 → List (List UInt8)
  | [] => [[]]
  | x :: l => if x = c then [] :: cutBy c l else match cutBy c l with | p :: r => (x :: p) :: r | [] => [[x]]
abbrev strV (p : List UInt8) : Value := .string ⟨p.toArray⟩
/- One more byte: it is not c. -/
/- One more piece. -/
end Go.Proofs.YtcbcjefefmbccabGreatDoor
namespace Go.Proofs.YtcbcjefefmbccabGreatDoor
open Go.RowKit

def hexRes : Option Nat → Value
  | some v => .tuple #[.int .u32 v, .bool true]
  | none => .tuple #[.int .u32 0, .bool false]

def unhex8 (l : List UInt8) : Option Nat := if l.length = 8 then unhex 0 l else none
end Go.Proofs.YtcbcjefefmbccabGreatDoor
namespace Go.Proofs.YtcbcjefefmbccabGreatDoor
open Go.RowKit

/- Decimal. -/
def lenRes : Option Nat → Value
  | some v => .tuple #[.int .i64 v, .bool true]
  | none => .tuple #[.int .i64 0, .bool false]
def numRes : Option Nat → Int
  | some v => v
  | none => -1
/- Is it a number of digits without needless zeros? -/
def areN (l : List UInt8) : Bool := (numOf l l.length).isSome
end Go.Proofs.YtcbcjefefmbccabGreatDoor
namespace Go.Proofs.YtcbcjefefmbccabGreatDoor
open Go.RowKit

def readRes (v : Value) : Option (Nat × Nat) → Value
  | some x => .tuple #[idV x.1 x.2, .nilIface]
  | none => .tuple #[idV 0 0, v]
end Go.Proofs.YtcbcjefefmbccabGreatDoor
namespace Go.Proofs.YtcbcjefefmbccabGreatDoor
open Go.RowKit

def refRead (t : List UInt8) : Option (Nat × Nat) :=
  match cutBy 45 t with
  | [p, q] => if p.length = 8 then (match unhex 0 p, numOf q 6 with | some n, some l => some (n, l) | _, _ => none) else none
  | _ => none
/- Where a text has no such byte it is one piece; where it has one, its pieces are those of what is ahead and behind. -/
/- A result's block of two cells, behind a call that leaves it. -/
def refRes : Option (Nat × Nat) → Value
  | some x => .tuple #[idV x.1 x.2, .int .i64 0]
  | none => .tuple #[idV 0 0, .int .i64 1]
end Go.Proofs.YtcbcjefefmbccabGreatDoor
