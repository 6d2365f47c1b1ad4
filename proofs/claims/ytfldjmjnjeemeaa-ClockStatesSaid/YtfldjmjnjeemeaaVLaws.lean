/- The walks of the laws VarintSizes and VarintInts. -/
import Derived.Test.YtfldjmjnjeemeaaVAlive
import Derived.Deep.RegionWith
import Derived.BigQuiet
namespace Go.Proofs.Ytfldjmjnjeemeaa
open Go.RowKit

end Go.Proofs.Ytfldjmjnjeemeaa
