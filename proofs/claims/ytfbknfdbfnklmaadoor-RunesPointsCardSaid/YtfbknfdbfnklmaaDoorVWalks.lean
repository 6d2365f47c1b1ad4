/- The walks of layer 1's functions: what each call of varint and of hindsightref01 returns. -/
import Derived.Test.YtfbknfdbfnklmaaDoorKit
import Derived.Test.YtfbknfdbfnklmaaDoorVMath
namespace Go.Proofs.YtfbknfdbfnklmaaDoor
open Go.RowKit

theorem Tryd.info5 : (Tryd.prog.info? 5).map (fun i => (i.zero, i.size, i.bytes)) = some (some (.int .u8 0), 1, 1) := by kernel_rfl

end Go.Proofs.YtfbknfdbfnklmaaDoor
