import Derived.Test.YtaookoejdnkkoaaDoorQ10
import Derived.Test.YtaookoejdnkkoaaDoorQ20
namespace Go.Proofs.YtaookoejdnkkoaaDoor
open Go.RowKit

/-! The reference's Encode; DerTells. -/
end Go.Proofs.YtaookoejdnkkoaaDoor
