/-
  Own text. slices.Clone of IDs by a contract.
-/
import Derived.Test.YteefjbdejcpepaaGreatDoorNBin
import Derived.Test.YteefjbdejcpepaaGreatDoorRecAll
import Derived.Deep.QuietTactic
namespace Go.Proofs.YteefjbdejcpepaaGreatDoor
open Go.RowKit Go.Maps

end Go.Proofs.YteefjbdejcpepaaGreatDoor
