/- The walk of WordsChecks. -/
import Derived.Test.YtibgpjokdpagcaaWRefC
import Derived.Test.YtibgpjokdpagcaaWWorks
namespace Go.Proofs.Ytibgpjokdpagcaa
open Go.RowKit

namespace Checks
set_option maxRecDepth 100000 in
set_option maxHeartbeats 400000 in
theorem walk (vt : Value) (cells : Int) (T : List TaskV) (w : World) (hT : TasksAt w vt T) :
    Calls Try.prog 4 #[vt, .int .i64 cells] w fun e w' => e = .returned (.bool true) ∧ Below w.heap.size w w' := by
  have HT : Hid (TasksAt w vt T) := hT
  obtain ⟨⟨at_, ct, rfl, -, -, -⟩, -⟩ := hT
  go_enter Try.func4, Try.ntmps4
  go_wp2_with fail
  refine (check_any _ T cells _ HT.out).mono ?_
  rintro e w1 ⟨rfl, hb1⟩
  have HB1 : Hid (Below w.heap.size w w1) := hb1
  clear hb1
  go_wp2_with fail
  refine (rcheck_any _ T cells _ (HT.out.below HB1.out)).mono ?_
  rintro e w2 ⟨rfl, hb2⟩
  have HB2 : Hid (Below w.heap.size w w2) := HB1.out.trans (hb2.mono HB1.out.size)
  clear hb2
  generalize (checkE (codes T) cells).1 = z1
  generalize (checkE (codes T) cells).2.1 = z2
  generalize (checkE (codes T) cells).2.2 = z3
  go_wp2_with fail
  refine (works_any _).mono ?_
  rintro e w3 ⟨rfl, hb3⟩
  have HB3 : Hid (Below w.heap.size w w3) := HB2.out.trans (hb3.mono HB2.out.size)
  clear hb3
  go_wp2_with fail
  go_ret
  exact ⟨rfl, HB3.out⟩
end Checks

end Go.Proofs.Ytibgpjokdpagcaa
