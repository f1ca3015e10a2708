/- The program's sha keeps what is asked of it. -/
import Derived.Test.YtfbimjhhbddfjaaDoorQKit
import Derived.Test.YtfbimjhhbddfjaaDoorQTextX
import Derived.Test.YtfbimjhhbddfjaaDoorQTextU
namespace Go.Proofs.YtfbimjhhbddfjaaDoor
open Go.RowKit QP

/-- the program's calls -/
def theKit : Kit := { Ok := Con, ok := fun h hb => h.below hb, sum := fun b w hc hb => sum_any b w hc hb, mac := fun k b w hc hk hb => mac_any k b w hc hk hb, hex := fun b w _ => hexP_any b w, unhex := fun b w _ hb => unhexP_any b w hb, equal := fun a b w _ ha _ => equal_any a b w ha }
/-- the program's hashes -/
def theHash : KitH theKit.Ok := { I := HashI, res := HashI.res, new := fun w hc => new_any w hc.1, write := fun g m b w F hc hI hb => write_any g m b w F hc hI (by omega), hsum := fun g m w F hc hI hm => hsum_any g m w F hc hI hm }
end Go.Proofs.YtfbimjhhbddfjaaDoor
