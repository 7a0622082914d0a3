/- No library contract is wanted here. -/
import Derived.Test.YtkccbpebmiicfaaProg
namespace Go.Proofs.Ytkccbpebmiicfaa
end Go.Proofs.Ytkccbpebmiicfaa
