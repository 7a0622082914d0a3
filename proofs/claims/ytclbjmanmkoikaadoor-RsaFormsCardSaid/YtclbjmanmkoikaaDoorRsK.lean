import Derived.Test.YtclbjmanmkoikaaDoorRsI
import Derived.BigQuiet
namespace Go.Proofs.YtclbjmanmkoikaaDoor
open Go.RowKit

end Go.Proofs.YtclbjmanmkoikaaDoor
