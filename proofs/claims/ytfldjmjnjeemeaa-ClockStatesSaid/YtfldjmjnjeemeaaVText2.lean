/- The walk of the law VarintTexts. -/
import Derived.Test.YtfldjmjnjeemeaaVText
namespace Go.Proofs.Ytfldjmjnjeemeaa
open Go.RowKit

end Go.Proofs.Ytfldjmjnjeemeaa
