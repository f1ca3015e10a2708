/- WireBad: for all bodies, all too great lengths and whatever comes behind, the call returns true, and each argument reads behind it as it read before; no condition. (The readers of the program keep the contracts for which it was shown.) -/
import Derived.Test.YtddbacphlbaohaaVBadH
import Derived.Test.YtddbacphlbaohaaVOwn
namespace Go.Proofs.Ytddbacphlbaohaa

theorem wireBad_holds : Rows.WireBadSaid := wireBad_of theKit

end Go.Proofs.Ytddbacphlbaohaa
