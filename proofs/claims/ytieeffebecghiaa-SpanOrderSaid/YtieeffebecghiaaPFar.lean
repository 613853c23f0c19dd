/- The walk of the statement IdentFar of this seat: it answers true for every three ids. No condition. -/
import Derived.Test.YtieeffebecghiaaPTexc
namespace Go.Proofs.Ytieeffebecghiaa
set_option maxRecDepth 100000
set_option maxHeartbeats 400000
open Go.RowKit Go.Great

theorem xor_len {a b : List UInt8} (ha : a.length = 20) (hb : b.length = 20) : (xorL a b).length = 20 := (xorL_length (ha.trans hb.symm)).trans ha

end Go.Proofs.Ytieeffebecghiaa
