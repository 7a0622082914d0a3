/- No library contract is wanted here. -/
import Derived.Test.YtgjammhgjdmagaaDoorProg
namespace Go.Proofs.YtgjammhgjdmagaaDoor
end Go.Proofs.YtgjammhgjdmagaaDoor
