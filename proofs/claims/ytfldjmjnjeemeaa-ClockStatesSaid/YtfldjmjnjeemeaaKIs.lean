/- The walks of key.isTuple and what it calls. -/
import Derived.Test.YtfldjmjnjeemeaaRIs
namespace Go.Proofs.Ytfldjmjnjeemeaa
open Go.RowKit

end Go.Proofs.Ytfldjmjnjeemeaa
