/- The walks of the laws VarintSizes and VarintInts. -/
import Derived.Test.YtipeinkogoghnaaVAlive
import Derived.Deep.RegionWith
import Derived.BigQuiet
namespace Go.Proofs.Ytipeinkogoghnaa
open Go.RowKit

end Go.Proofs.Ytipeinkogoghnaa
