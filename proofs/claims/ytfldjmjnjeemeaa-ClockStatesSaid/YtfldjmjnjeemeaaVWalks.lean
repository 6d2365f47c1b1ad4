/- The walks of layer 1's functions: what each call of varint and of hindsightref01 returns. -/
import Derived.Test.YtfldjmjnjeemeaaKit
import Derived.Test.YtfldjmjnjeemeaaVMath
namespace Go.Proofs.Ytfldjmjnjeemeaa
open Go.RowKit

theorem Try.info5 : (Try.prog.info? 5).map (fun i => (i.zero, i.size, i.bytes)) = some (some (.int .u8 0), 1, 1) := by kernel_rfl

end Go.Proofs.Ytfldjmjnjeemeaa
