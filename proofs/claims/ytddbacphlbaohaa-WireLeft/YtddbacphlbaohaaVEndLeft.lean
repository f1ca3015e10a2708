/- WireLeft: for all pieces of bytes, the call returns true, and each argument reads behind it as it read before; no condition. (The readers of the program keep the contracts for which it was shown.) -/
import Derived.Test.YtddbacphlbaohaaVLeftH
import Derived.Test.YtddbacphlbaohaaVOwn
namespace Go.Proofs.Ytddbacphlbaohaa

theorem wireLeft_holds : Rows.WireLeftSaid := wireLeft_of theKit

end Go.Proofs.Ytddbacphlbaohaa
