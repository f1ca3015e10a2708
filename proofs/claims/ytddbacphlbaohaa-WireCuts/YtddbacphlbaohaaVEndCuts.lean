/- WireCuts: for all bodies and all cuts, the call returns true, and each argument reads behind it as it read before; no condition. (The readers of the program keep the contracts for which it was shown.) -/
import Derived.Test.YtddbacphlbaohaaVCutsH
import Derived.Test.YtddbacphlbaohaaVOwn
namespace Go.Proofs.Ytddbacphlbaohaa

theorem wireCuts_holds : Rows.WireCutsSaid := wireCuts_of theKit

end Go.Proofs.Ytddbacphlbaohaa
