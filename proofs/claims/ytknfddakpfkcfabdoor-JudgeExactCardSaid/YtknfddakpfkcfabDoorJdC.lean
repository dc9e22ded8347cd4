import Derived.Test.YtknfddakpfkcfabDoorJdB
namespace Go.Proofs.YtknfddakpfkcfabDoor
open Go.RowKit
end Go.Proofs.YtknfddakpfkcfabDoor
