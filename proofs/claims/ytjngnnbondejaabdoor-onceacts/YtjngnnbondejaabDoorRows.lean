/-
  NARROWER THAN 'FOR EVERY INPUT', by the rows' own cells (each row's printed sentence says how): OwnerMoves: laid · OwnerTells: laid · OnceOnce: laid · OnceActs: laid.
  DERIVED. THE GIVEN ROWS OF THIS SEAT. 4 by the template 'for every input the law returns true; each argument reads behind the call as it read before'; 0 by the template 'total and deterministic' (their statements: YtjngnnbondejaabDoorTotals.lean).
  GIVEN WITH THE SEED: the statements are not yours to turn. If you find one false, say at which input.
  Laid BY PROGRAM, IN A SANDBOX (cutbox-rows.mjs): the forced cells as the released guide's own fill.sh prints them over the translation bbb70aa26b6ae8ab… (all of the seat's roots in one cut). By AI agents, Wed Nov 11 2026. No macro, syntax, notation, axiom, sorry.
-/
import Derived.Test.YtjngnnbondejaabDoorChecked
import GoSem.Claim
import GoSem.ClaimJoined
import GoSem.ClaimMapViews
import Derived.JoinedTies
import Derived.KernelRfl
namespace Go.Proofs.YtjngnnbondejaabDoor
/- THE CELL 'sum', in the pinned program and in every row, IS THE sha256 OF THE DUMP (.gsa) THAT YtjngnnbondejaabDoorProg.lean LOADS. Nothing in Lean hashes anything: it is a label: what it is worth is what the hold of that sum in a sandbox is worth. -/
noncomputable def Tryd.pinned : Pinned := { name := "ytjngnnbondejaabdoor", sum := "bbb70aa26b6ae8abcda3ac71378793a3bd4cf0fe83953b8d798500a863e40d72", checked := Tryd.checked }
namespace Rows
def none {H : Type} : Left H := { results := [], args := [] }

/- WHAT THE LISTED PACKAGE-LEVEL VARIABLES READ AS WHEN THE CALL BEGINS. Each datum BY PROGRAM (the guide's laid-datum.mjs) off the statement by which the dump's own 'gosem.cut.vars' lays the variable. In a bare row this is a premise. The card (YtjngnnbondejaabDoorCards.lean) ties it to the program's text. -/
def laid_math_bits_deBruijn32tab {H : Type} : DataW H := .agg [.lit (.int .u8 0), .lit (.int .u8 1), .lit (.int .u8 28), .lit (.int .u8 2), .lit (.int .u8 29), .lit (.int .u8 14), .lit (.int .u8 24), .lit (.int .u8 3), .lit (.int .u8 30), .lit (.int .u8 22), .lit (.int .u8 20), .lit (.int .u8 15), .lit (.int .u8 25), .lit (.int .u8 17), .lit (.int .u8 4), .lit (.int .u8 8), .lit (.int .u8 31), .lit (.int .u8 27), .lit (.int .u8 13), .lit (.int .u8 23), .lit (.int .u8 21), .lit (.int .u8 19), .lit (.int .u8 16), .lit (.int .u8 7), .lit (.int .u8 26), .lit (.int .u8 12), .lit (.int .u8 18), .lit (.int .u8 6), .lit (.int .u8 11), .lit (.int .u8 5), .lit (.int .u8 10), .lit (.int .u8 9)]
def laid_math_bits_deBruijn64tab {H : Type} : DataW H := .agg [.lit (.int .u8 0), .lit (.int .u8 1), .lit (.int .u8 56), .lit (.int .u8 2), .lit (.int .u8 57), .lit (.int .u8 49), .lit (.int .u8 28), .lit (.int .u8 3), .lit (.int .u8 61), .lit (.int .u8 58), .lit (.int .u8 42), .lit (.int .u8 50), .lit (.int .u8 38), .lit (.int .u8 29), .lit (.int .u8 17), .lit (.int .u8 4), .lit (.int .u8 62), .lit (.int .u8 47), .lit (.int .u8 59), .lit (.int .u8 36), .lit (.int .u8 45), .lit (.int .u8 43), .lit (.int .u8 51), .lit (.int .u8 22), .lit (.int .u8 53), .lit (.int .u8 39), .lit (.int .u8 33), .lit (.int .u8 30), .lit (.int .u8 24), .lit (.int .u8 18), .lit (.int .u8 12), .lit (.int .u8 5), .lit (.int .u8 63), .lit (.int .u8 55), .lit (.int .u8 48), .lit (.int .u8 27), .lit (.int .u8 60), .lit (.int .u8 41), .lit (.int .u8 37), .lit (.int .u8 16), .lit (.int .u8 46), .lit (.int .u8 35), .lit (.int .u8 44), .lit (.int .u8 21), .lit (.int .u8 52), .lit (.int .u8 32), .lit (.int .u8 23), .lit (.int .u8 11), .lit (.int .u8 54), .lit (.int .u8 26), .lit (.int .u8 40), .lit (.int .u8 15), .lit (.int .u8 34), .lit (.int .u8 20), .lit (.int .u8 31), .lit (.int .u8 10), .lit (.int .u8 25), .lit (.int .u8 14), .lit (.int .u8 19), .lit (.int .u8 9), .lit (.int .u8 13), .lit (.int .u8 8), .lit (.int .u8 7), .lit (.int .u8 6)]
def laid_internal_strconv_uint64pow10 {H : Type} : DataW H := .agg [.lit (.int .u64 1), .lit (.int .u64 10), .lit (.int .u64 100), .lit (.int .u64 1000), .lit (.int .u64 10000), .lit (.int .u64 100000), .lit (.int .u64 1000000), .lit (.int .u64 10000000), .lit (.int .u64 100000000), .lit (.int .u64 1000000000), .lit (.int .u64 10000000000), .lit (.int .u64 100000000000), .lit (.int .u64 1000000000000), .lit (.int .u64 10000000000000), .lit (.int .u64 100000000000000), .lit (.int .u64 1000000000000000), .lit (.int .u64 10000000000000000), .lit (.int .u64 100000000000000000), .lit (.int .u64 1000000000000000000), .lit (.int .u64 10000000000000000000)]
def laid_cornbin_api_ErrBound {H : Type} : DataW H := .iface "*errors.errorString" (.ptr (.agg [.lit (.string [99, 111, 114, 110, 98, 105, 110, 58, 32, 98, 111, 117, 110, 100])]))
def laid_cornbin_api_ErrShape {H : Type} : DataW H := .iface "*errors.errorString" (.ptr (.agg [.lit (.string [99, 111, 114, 110, 98, 105, 110, 58, 32, 115, 104, 97, 112, 101])]))
def laid_cornbin_api_ErrNone {H : Type} : DataW H := .iface "*errors.errorString" (.ptr (.agg [.lit (.string [99, 111, 114, 110, 98, 105, 110, 58, 32, 110, 111, 110, 101])]))
def laid_cornbin_api_ErrExist {H : Type} : DataW H := .iface "*errors.errorString" (.ptr (.agg [.lit (.string [99, 111, 114, 110, 98, 105, 110, 58, 32, 101, 120, 105, 115, 116])]))
def laid_cornbin_api_ErrOrder {H : Type} : DataW H := .iface "*errors.errorString" (.ptr (.agg [.lit (.string [99, 111, 114, 110, 98, 105, 110, 58, 32, 111, 114, 100, 101, 114])]))
def laid_errors_errorType {H : Type} : DataW H := .iface "internal/reflectlite.rtype" (.agg [.ptr (.lit (.string [101, 114, 114, 111, 114]))])
def laid_cornbin_api_ErrText {H : Type} : DataW H := .iface "*errors.errorString" (.ptr (.agg [.lit (.string [99, 111, 114, 110, 98, 105, 110, 58, 32, 116, 101, 120, 116])]))
def laid_cornbin_api_ErrName {H : Type} : DataW H := .iface "*errors.errorString" (.ptr (.agg [.lit (.string [99, 111, 114, 110, 98, 105, 110, 58, 32, 110, 97, 109, 101])]))
def laid_cornbin_api_ErrFull {H : Type} : DataW H := .iface "*errors.errorString" (.ptr (.agg [.lit (.string [99, 111, 114, 110, 98, 105, 110, 58, 32, 102, 117, 108, 108])]))
def laid_cornbin_api_ErrSum {H : Type} : DataW H := .iface "*errors.errorString" (.ptr (.agg [.lit (.string [99, 111, 114, 110, 98, 105, 110, 58, 32, 115, 117, 109])]))
def laid_cornbin_api_ErrClash {H : Type} : DataW H := .iface "*errors.errorString" (.ptr (.agg [.lit (.string [99, 111, 114, 110, 98, 105, 110, 58, 32, 99, 108, 97, 115, 104])]))
def laid_cornbin_api_ErrUsed {H : Type} : DataW H := .iface "*errors.errorString" (.ptr (.agg [.lit (.string [99, 111, 114, 110, 98, 105, 110, 58, 32, 117, 115, 101, 100])]))
def laid_cornbin_api_ErrOff {H : Type} : DataW H := .iface "*errors.errorString" (.ptr (.agg [.lit (.string [99, 111, 114, 110, 98, 105, 110, 58, 32, 111, 102, 102])]))

/-- 'cornbinlaw2.OwnerMoves': WHATEVER THE INPUT: true; the input reads as it did. -/
def ownerMovesSpec : ChangeSpec := { name := "ownerMoves", fn := fun _ => fun
  | [d1, d2, d3] => { results := [.lit (.bool true)], args := [d1, d2, d3] }
  | _ => none }
def ownerMovesRow : OpenClaim := { program := "ytjngnnbondejaabdoor", sum := "bbb70aa26b6ae8abcda3ac71378793a3bd4cf0fe83953b8d798500a863e40d72", func := "cornbin/cornbinlaw2.OwnerMoves", spec := "ownerMoves", unfollowed := true, recurses := true, named := ["cornbin/api.ErrShape", "cornbin/api.ErrNone", "cornbin/api.ErrBound", "cornbin/api.ErrOrder", "internal/strconv.uint64pow10", "math/bits.deBruijn32tab", "math/bits.deBruijn64tab", "cornbin/api.ErrExist"], apart := false, laid := [("math/bits.deBruijn32tab", laid_math_bits_deBruijn32tab), ("math/bits.deBruijn64tab", laid_math_bits_deBruijn64tab), ("internal/strconv.uint64pow10", laid_internal_strconv_uint64pow10), ("cornbin/api.ErrBound", laid_cornbin_api_ErrBound), ("cornbin/api.ErrShape", laid_cornbin_api_ErrShape), ("cornbin/api.ErrNone", laid_cornbin_api_ErrNone), ("cornbin/api.ErrExist", laid_cornbin_api_ErrExist), ("cornbin/api.ErrOrder", laid_cornbin_api_ErrOrder)] }
def OwnerMovesSaid : Prop := ownerMovesRow.holds Tryd.pinned (OpenSpec.ofChange ownerMovesSpec)

/-- ITS FALSE NEIGHBOUR: 'it returns false'. Refute it at one input. -/
def ownerMovesWrong : ChangeSpec := { name := "ownerMoves", fn := fun _ => fun
  | [d1, d2, d3] => { results := [.lit (.bool false)], args := [d1, d2, d3] }
  | _ => none }
def OwnerMovesWrongFalsely : Prop := ownerMovesRow.holds Tryd.pinned (OpenSpec.ofChange ownerMovesWrong)

/-- 'cornbinlaw2.OwnerTells': WHATEVER THE INPUT: true; the input reads as it did. -/
def ownerTellsSpec : ChangeSpec := { name := "ownerTells", fn := fun _ => fun
  | [d1, d2, d3] => { results := [.lit (.bool true)], args := [d1, d2, d3] }
  | _ => none }
def ownerTellsRow : OpenClaim := { program := "ytjngnnbondejaabdoor", sum := "bbb70aa26b6ae8abcda3ac71378793a3bd4cf0fe83953b8d798500a863e40d72", func := "cornbin/cornbinlaw2.OwnerTells", spec := "ownerTells", inPlace := ["internal/reflectlite.ValueOf", "(internal/reflectlite.Value).Type", "(internal/reflectlite.Value).IsNil", "internal/reflectlite.TypeOf", "(internal/reflectlite.Value).Elem", "(internal/reflectlite.Value).Set"], unfollowed := true, recurses := true, named := ["cornbin/api.ErrShape", "cornbin/api.ErrNone", "cornbin/api.ErrBound", "cornbin/api.ErrOrder", "internal/strconv.uint64pow10", "math/bits.deBruijn32tab", "math/bits.deBruijn64tab", "cornbin/api.ErrExist", "cornbin/api.ErrText", "cornbin/api.ErrName", "cornbin/api.ErrFull", "cornbin/api.ErrSum", "cornbin/api.ErrClash", "cornbin/api.ErrUsed", "cornbin/api.ErrOff", "errors.errorType"], apart := false, laid := [("math/bits.deBruijn32tab", laid_math_bits_deBruijn32tab), ("math/bits.deBruijn64tab", laid_math_bits_deBruijn64tab), ("internal/strconv.uint64pow10", laid_internal_strconv_uint64pow10), ("errors.errorType", laid_errors_errorType), ("cornbin/api.ErrText", laid_cornbin_api_ErrText), ("cornbin/api.ErrBound", laid_cornbin_api_ErrBound), ("cornbin/api.ErrShape", laid_cornbin_api_ErrShape), ("cornbin/api.ErrName", laid_cornbin_api_ErrName), ("cornbin/api.ErrNone", laid_cornbin_api_ErrNone), ("cornbin/api.ErrExist", laid_cornbin_api_ErrExist), ("cornbin/api.ErrFull", laid_cornbin_api_ErrFull), ("cornbin/api.ErrOrder", laid_cornbin_api_ErrOrder), ("cornbin/api.ErrSum", laid_cornbin_api_ErrSum), ("cornbin/api.ErrClash", laid_cornbin_api_ErrClash), ("cornbin/api.ErrUsed", laid_cornbin_api_ErrUsed), ("cornbin/api.ErrOff", laid_cornbin_api_ErrOff)] }
def OwnerTellsSaid : Prop := ownerTellsRow.holds Tryd.pinned (OpenSpec.ofChange ownerTellsSpec)

/-- ITS FALSE NEIGHBOUR: 'it returns false'. Refute it at one input. -/
def ownerTellsWrong : ChangeSpec := { name := "ownerTells", fn := fun _ => fun
  | [d1, d2, d3] => { results := [.lit (.bool false)], args := [d1, d2, d3] }
  | _ => none }
def OwnerTellsWrongFalsely : Prop := ownerTellsRow.holds Tryd.pinned (OpenSpec.ofChange ownerTellsWrong)

/-- 'cornbinlaw3.OnceOnce': WHATEVER THE INPUT: true; the input reads as it did. -/
def onceOnceSpec : ChangeSpec := { name := "onceOnce", fn := fun _ => fun
  | [d] => { results := [.lit (.bool true)], args := [d] }
  | _ => none }
def onceOnceRow : OpenClaim := { program := "ytjngnnbondejaabdoor", sum := "bbb70aa26b6ae8abcda3ac71378793a3bd4cf0fe83953b8d798500a863e40d72", func := "cornbin/cornbinlaw3.OnceOnce", spec := "onceOnce", inPlace := ["internal/reflectlite.ValueOf", "(internal/reflectlite.Value).Type", "(internal/reflectlite.Value).IsNil", "internal/reflectlite.TypeOf", "(internal/reflectlite.Value).Elem", "(internal/reflectlite.Value).Set"], unfollowed := true, recurses := true, named := ["cornbin/api.ErrOrder", "cornbin/api.ErrFull", "cornbin/api.ErrName", "cornbin/api.ErrText", "cornbin/api.ErrBound", "cornbin/api.ErrShape", "cornbin/api.ErrNone", "cornbin/api.ErrExist", "cornbin/api.ErrSum", "cornbin/api.ErrClash", "cornbin/api.ErrUsed", "cornbin/api.ErrOff", "errors.errorType"], apart := false, laid := [("errors.errorType", laid_errors_errorType), ("cornbin/api.ErrText", laid_cornbin_api_ErrText), ("cornbin/api.ErrBound", laid_cornbin_api_ErrBound), ("cornbin/api.ErrShape", laid_cornbin_api_ErrShape), ("cornbin/api.ErrName", laid_cornbin_api_ErrName), ("cornbin/api.ErrNone", laid_cornbin_api_ErrNone), ("cornbin/api.ErrExist", laid_cornbin_api_ErrExist), ("cornbin/api.ErrFull", laid_cornbin_api_ErrFull), ("cornbin/api.ErrOrder", laid_cornbin_api_ErrOrder), ("cornbin/api.ErrSum", laid_cornbin_api_ErrSum), ("cornbin/api.ErrClash", laid_cornbin_api_ErrClash), ("cornbin/api.ErrUsed", laid_cornbin_api_ErrUsed), ("cornbin/api.ErrOff", laid_cornbin_api_ErrOff)] }
def OnceOnceSaid : Prop := onceOnceRow.holds Tryd.pinned (OpenSpec.ofChange onceOnceSpec)

/-- ITS FALSE NEIGHBOUR: 'it returns false'. Refute it at one input. -/
def onceOnceWrong : ChangeSpec := { name := "onceOnce", fn := fun _ => fun
  | [d] => { results := [.lit (.bool false)], args := [d] }
  | _ => none }
def OnceOnceWrongFalsely : Prop := onceOnceRow.holds Tryd.pinned (OpenSpec.ofChange onceOnceWrong)

/-- 'cornbinlaw3.OnceActs': WHATEVER THE INPUT: true; the input reads as it did. -/
def onceActsSpec : ChangeSpec := { name := "onceActs", fn := fun _ => fun
  | [d] => { results := [.lit (.bool true)], args := [d] }
  | _ => none }
def onceActsRow : OpenClaim := { program := "ytjngnnbondejaabdoor", sum := "bbb70aa26b6ae8abcda3ac71378793a3bd4cf0fe83953b8d798500a863e40d72", func := "cornbin/cornbinlaw3.OnceActs", spec := "onceActs", inPlace := ["internal/reflectlite.ValueOf", "(internal/reflectlite.Value).Type", "(internal/reflectlite.Value).IsNil", "internal/reflectlite.TypeOf", "(internal/reflectlite.Value).Elem", "(internal/reflectlite.Value).Set", "maps.clone"], unfollowed := true, recurses := true, named := ["cornbin/api.ErrOrder", "cornbin/api.ErrFull", "cornbin/api.ErrName", "cornbin/api.ErrText", "cornbin/api.ErrBound", "cornbin/api.ErrShape", "cornbin/api.ErrNone", "cornbin/api.ErrExist", "cornbin/api.ErrSum", "cornbin/api.ErrClash", "cornbin/api.ErrUsed", "cornbin/api.ErrOff", "errors.errorType"], apart := false, laid := [("errors.errorType", laid_errors_errorType), ("cornbin/api.ErrText", laid_cornbin_api_ErrText), ("cornbin/api.ErrBound", laid_cornbin_api_ErrBound), ("cornbin/api.ErrShape", laid_cornbin_api_ErrShape), ("cornbin/api.ErrName", laid_cornbin_api_ErrName), ("cornbin/api.ErrNone", laid_cornbin_api_ErrNone), ("cornbin/api.ErrExist", laid_cornbin_api_ErrExist), ("cornbin/api.ErrFull", laid_cornbin_api_ErrFull), ("cornbin/api.ErrOrder", laid_cornbin_api_ErrOrder), ("cornbin/api.ErrSum", laid_cornbin_api_ErrSum), ("cornbin/api.ErrClash", laid_cornbin_api_ErrClash), ("cornbin/api.ErrUsed", laid_cornbin_api_ErrUsed), ("cornbin/api.ErrOff", laid_cornbin_api_ErrOff)] }
def OnceActsSaid : Prop := onceActsRow.holds Tryd.pinned (OpenSpec.ofChange onceActsSpec)

/-- ITS FALSE NEIGHBOUR: 'it returns false'. Refute it at one input. -/
def onceActsWrong : ChangeSpec := { name := "onceActs", fn := fun _ => fun
  | [d] => { results := [.lit (.bool false)], args := [d] }
  | _ => none }
def OnceActsWrongFalsely : Prop := onceActsRow.holds Tryd.pinned (OpenSpec.ofChange onceActsWrong)

/- THE SECOND FORM. 'bulk': how many values and letters a reading holds, each counted each time it is reached (what is shared counts as often as it is met; a slice's spare places count too). A statement '..UptoSaid' is the law's where the arguments, and the package variables that the reading takes, are together of bulk at most 1048576: NARROWER than '..Said'. Prove '..Said' where nothing that the law and all that it calls make is longer than what came in: it says more and counts as full. Else prove '..UptoSaid'. A law counts once. -/
mutual
def uptoBulk {H : Type} : DataW H → Nat
  | .lit (.string bytes) => bytes.length + 1
  | .lit _ => 1
  | .nil => 1
  | .ptr d => uptoBulk d + 1
  | .slice elems spare => uptoBulkAll elems + uptoBulkAll spare + 1
  | .agg parts => uptoBulkAll parts + 1
  | .iface _ d => uptoBulk d + 1
  | .map entries => uptoBulkEntries entries + 1
  | .held _ => 1
def uptoBulkAll {H : Type} : List (DataW H) → Nat
  | [] => 0
  | d :: r => uptoBulk d + uptoBulkAll r
def uptoBulkEntries {H : Type} : List (Lit × DataW H) → Nat
  | [] => 0
  | x :: r => uptoBulkEntry x + uptoBulkEntries r
def uptoBulkEntry {H : Type} : Lit × DataW H → Nat
  | (.string bytes, d) => bytes.length + uptoBulk d + 1
  | (_, d) => uptoBulk d + 1
 end
def uptoSmall : (H : Type) → List (DataW H) → Bool := fun _ ds => decide (uptoBulkAll ds ≤ 1048576)
def OpenSpec.upto (s : _root_.Go.ChangeSpec) : _root_.Go.OpenSpec := { _root_.Go.OpenSpec.ofChange s with cond := some uptoSmall }

/-- 'cornbinlaw2.OwnerMoves', WHERE WHAT IT READS IS OF BULK AT MOST 1048576: true; the input reads as it did. -/
def ownerMovesUptoRow : OpenClaim := { program := "ytjngnnbondejaabdoor", sum := "bbb70aa26b6ae8abcda3ac71378793a3bd4cf0fe83953b8d798500a863e40d72", func := "cornbin/cornbinlaw2.OwnerMoves", spec := "ownerMoves", unfollowed := true, recurses := true, named := ["cornbin/api.ErrShape", "cornbin/api.ErrNone", "cornbin/api.ErrBound", "cornbin/api.ErrOrder", "internal/strconv.uint64pow10", "math/bits.deBruijn32tab", "math/bits.deBruijn64tab", "cornbin/api.ErrExist"], apart := false, laid := [("math/bits.deBruijn32tab", laid_math_bits_deBruijn32tab), ("math/bits.deBruijn64tab", laid_math_bits_deBruijn64tab), ("internal/strconv.uint64pow10", laid_internal_strconv_uint64pow10), ("cornbin/api.ErrBound", laid_cornbin_api_ErrBound), ("cornbin/api.ErrShape", laid_cornbin_api_ErrShape), ("cornbin/api.ErrNone", laid_cornbin_api_ErrNone), ("cornbin/api.ErrExist", laid_cornbin_api_ErrExist), ("cornbin/api.ErrOrder", laid_cornbin_api_ErrOrder)], narrowed := true }
def OwnerMovesUptoSaid : Prop := ownerMovesUptoRow.holds Tryd.pinned (OpenSpec.upto ownerMovesSpec)

/-- 'cornbinlaw2.OwnerTells', WHERE WHAT IT READS IS OF BULK AT MOST 1048576: true; the input reads as it did. -/
def ownerTellsUptoRow : OpenClaim := { program := "ytjngnnbondejaabdoor", sum := "bbb70aa26b6ae8abcda3ac71378793a3bd4cf0fe83953b8d798500a863e40d72", func := "cornbin/cornbinlaw2.OwnerTells", spec := "ownerTells", inPlace := ["internal/reflectlite.ValueOf", "(internal/reflectlite.Value).Type", "(internal/reflectlite.Value).IsNil", "internal/reflectlite.TypeOf", "(internal/reflectlite.Value).Elem", "(internal/reflectlite.Value).Set"], unfollowed := true, recurses := true, named := ["cornbin/api.ErrShape", "cornbin/api.ErrNone", "cornbin/api.ErrBound", "cornbin/api.ErrOrder", "internal/strconv.uint64pow10", "math/bits.deBruijn32tab", "math/bits.deBruijn64tab", "cornbin/api.ErrExist", "cornbin/api.ErrText", "cornbin/api.ErrName", "cornbin/api.ErrFull", "cornbin/api.ErrSum", "cornbin/api.ErrClash", "cornbin/api.ErrUsed", "cornbin/api.ErrOff", "errors.errorType"], apart := false, laid := [("math/bits.deBruijn32tab", laid_math_bits_deBruijn32tab), ("math/bits.deBruijn64tab", laid_math_bits_deBruijn64tab), ("internal/strconv.uint64pow10", laid_internal_strconv_uint64pow10), ("errors.errorType", laid_errors_errorType), ("cornbin/api.ErrText", laid_cornbin_api_ErrText), ("cornbin/api.ErrBound", laid_cornbin_api_ErrBound), ("cornbin/api.ErrShape", laid_cornbin_api_ErrShape), ("cornbin/api.ErrName", laid_cornbin_api_ErrName), ("cornbin/api.ErrNone", laid_cornbin_api_ErrNone), ("cornbin/api.ErrExist", laid_cornbin_api_ErrExist), ("cornbin/api.ErrFull", laid_cornbin_api_ErrFull), ("cornbin/api.ErrOrder", laid_cornbin_api_ErrOrder), ("cornbin/api.ErrSum", laid_cornbin_api_ErrSum), ("cornbin/api.ErrClash", laid_cornbin_api_ErrClash), ("cornbin/api.ErrUsed", laid_cornbin_api_ErrUsed), ("cornbin/api.ErrOff", laid_cornbin_api_ErrOff)], narrowed := true }
def OwnerTellsUptoSaid : Prop := ownerTellsUptoRow.holds Tryd.pinned (OpenSpec.upto ownerTellsSpec)

/-- 'cornbinlaw3.OnceOnce', WHERE WHAT IT READS IS OF BULK AT MOST 1048576: true; the input reads as it did. -/
def onceOnceUptoRow : OpenClaim := { program := "ytjngnnbondejaabdoor", sum := "bbb70aa26b6ae8abcda3ac71378793a3bd4cf0fe83953b8d798500a863e40d72", func := "cornbin/cornbinlaw3.OnceOnce", spec := "onceOnce", inPlace := ["internal/reflectlite.ValueOf", "(internal/reflectlite.Value).Type", "(internal/reflectlite.Value).IsNil", "internal/reflectlite.TypeOf", "(internal/reflectlite.Value).Elem", "(internal/reflectlite.Value).Set"], unfollowed := true, recurses := true, named := ["cornbin/api.ErrOrder", "cornbin/api.ErrFull", "cornbin/api.ErrName", "cornbin/api.ErrText", "cornbin/api.ErrBound", "cornbin/api.ErrShape", "cornbin/api.ErrNone", "cornbin/api.ErrExist", "cornbin/api.ErrSum", "cornbin/api.ErrClash", "cornbin/api.ErrUsed", "cornbin/api.ErrOff", "errors.errorType"], apart := false, laid := [("errors.errorType", laid_errors_errorType), ("cornbin/api.ErrText", laid_cornbin_api_ErrText), ("cornbin/api.ErrBound", laid_cornbin_api_ErrBound), ("cornbin/api.ErrShape", laid_cornbin_api_ErrShape), ("cornbin/api.ErrName", laid_cornbin_api_ErrName), ("cornbin/api.ErrNone", laid_cornbin_api_ErrNone), ("cornbin/api.ErrExist", laid_cornbin_api_ErrExist), ("cornbin/api.ErrFull", laid_cornbin_api_ErrFull), ("cornbin/api.ErrOrder", laid_cornbin_api_ErrOrder), ("cornbin/api.ErrSum", laid_cornbin_api_ErrSum), ("cornbin/api.ErrClash", laid_cornbin_api_ErrClash), ("cornbin/api.ErrUsed", laid_cornbin_api_ErrUsed), ("cornbin/api.ErrOff", laid_cornbin_api_ErrOff)], narrowed := true }
def OnceOnceUptoSaid : Prop := onceOnceUptoRow.holds Tryd.pinned (OpenSpec.upto onceOnceSpec)

/-- 'cornbinlaw3.OnceActs', WHERE WHAT IT READS IS OF BULK AT MOST 1048576: true; the input reads as it did. -/
def onceActsUptoRow : OpenClaim := { program := "ytjngnnbondejaabdoor", sum := "bbb70aa26b6ae8abcda3ac71378793a3bd4cf0fe83953b8d798500a863e40d72", func := "cornbin/cornbinlaw3.OnceActs", spec := "onceActs", inPlace := ["internal/reflectlite.ValueOf", "(internal/reflectlite.Value).Type", "(internal/reflectlite.Value).IsNil", "internal/reflectlite.TypeOf", "(internal/reflectlite.Value).Elem", "(internal/reflectlite.Value).Set", "maps.clone"], unfollowed := true, recurses := true, named := ["cornbin/api.ErrOrder", "cornbin/api.ErrFull", "cornbin/api.ErrName", "cornbin/api.ErrText", "cornbin/api.ErrBound", "cornbin/api.ErrShape", "cornbin/api.ErrNone", "cornbin/api.ErrExist", "cornbin/api.ErrSum", "cornbin/api.ErrClash", "cornbin/api.ErrUsed", "cornbin/api.ErrOff", "errors.errorType"], apart := false, laid := [("errors.errorType", laid_errors_errorType), ("cornbin/api.ErrText", laid_cornbin_api_ErrText), ("cornbin/api.ErrBound", laid_cornbin_api_ErrBound), ("cornbin/api.ErrShape", laid_cornbin_api_ErrShape), ("cornbin/api.ErrName", laid_cornbin_api_ErrName), ("cornbin/api.ErrNone", laid_cornbin_api_ErrNone), ("cornbin/api.ErrExist", laid_cornbin_api_ErrExist), ("cornbin/api.ErrFull", laid_cornbin_api_ErrFull), ("cornbin/api.ErrOrder", laid_cornbin_api_ErrOrder), ("cornbin/api.ErrSum", laid_cornbin_api_ErrSum), ("cornbin/api.ErrClash", laid_cornbin_api_ErrClash), ("cornbin/api.ErrUsed", laid_cornbin_api_ErrUsed), ("cornbin/api.ErrOff", laid_cornbin_api_ErrOff)], narrowed := true }
def OnceActsUptoSaid : Prop := onceActsUptoRow.holds Tryd.pinned (OpenSpec.upto onceActsSpec)

end Rows
end Go.Proofs.YtjngnnbondejaabDoor
