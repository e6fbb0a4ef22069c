/-
  Own text. The sentinels that package bin names, as the world holds them: less than ErrW (which has all twelve, and errors' handle).
-/
import Derived.Test.YteefjbdejcpepaaDoorErrE
namespace Go.Proofs.YteefjbdejcpepaaDoor
open Go.RowKit

abbrev ErrG (w : World) (a : Nat → Addr) : Prop := ErrE [0, 1, 4, 6, 7, 8, 9, 10] w a
theorem ErrW.some {w : World} {a : Nat → Addr} (h : ErrW w a) : ErrG w a := h.on (by decide)
end Go.Proofs.YteefjbdejcpepaaDoor
