/- The walk of the law VarintTexts. -/
import Derived.Test.YtipeinkogoghnaaVText
namespace Go.Proofs.Ytipeinkogoghnaa
open Go.RowKit

theorem putText_ret (s : ByteArray) (w : World) (hs : s.size ≤ 1000000) : Calls Try.prog 63 #[.string s] w (RetB w (textL s)) := (putText_any s w hs).mono fun _ _ h => RetB.of h
end Go.Proofs.Ytipeinkogoghnaa
