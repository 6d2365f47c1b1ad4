/- The walk of the law VarintInts. -/
import Derived.Test.YtfldjmjnjeemeaaVLaws
import Derived.Deep.RegionWith
import Derived.BigQuiet
import Derived.Test.YtfldjmjnjeemeaaOrd
namespace Go.Proofs.Ytfldjmjnjeemeaa
open Go.RowKit

end Go.Proofs.Ytfldjmjnjeemeaa
