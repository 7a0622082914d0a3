/- No library contract is wanted here. -/
import Derived.Test.YtboebadpohjolaaProg
namespace Go.Proofs.Ytboebadpohjolaa
end Go.Proofs.Ytboebadpohjolaa
