/- The walk of the law VarintInts. -/
import Derived.Test.YtipeinkogoghnaaVLaws
import Derived.Deep.RegionWith
import Derived.BigQuiet
import Derived.Test.YtipeinkogoghnaaOrd
namespace Go.Proofs.Ytipeinkogoghnaa
open Go.RowKit

end Go.Proofs.Ytipeinkogoghnaa
