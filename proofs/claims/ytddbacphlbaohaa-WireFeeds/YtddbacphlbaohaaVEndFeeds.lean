/- WireFeeds: for all bodies and all pieces, the call returns true, and each argument reads behind it as it read before; no condition. (The readers of the program keep the contracts for which it was shown.) -/
import Derived.Test.YtddbacphlbaohaaVFeedsH
import Derived.Test.YtddbacphlbaohaaVOwn
namespace Go.Proofs.Ytddbacphlbaohaa

theorem wireFeeds_holds : Rows.WireFeedsSaid := wireFeeds_of theKit

end Go.Proofs.Ytddbacphlbaohaa
