/- A copy of a string is the string. -/
import Derived.Shelf.Pu.Clone
import Derived.Test.YtibglhlhogfdnaaDoorLay
import Derived.Test.YtibglhlhogfdnaaDoorBase
import Derived.Test.YtibglhlhogfdnaaDoorProg
import Derived.WalkKit
namespace Go.Proofs.YtibglhlhogfdnaaDoor
open Go.Shelf Go.RowKit

theorem slClone_any (s : ByteArray) (w : World) (h : s.size ≤ 281474976710656) :
    Calls Tryd.prog 43 #[.string s] w fun e w' => e = .returned (.string s) ∧ Below w.heap.size w w' := AnyPu.stringslite_Clone Tryd.laysClone s w h

set_option maxHeartbeats 400000 in
theorem sClone_any (s : ByteArray) (w : World) (h : s.size ≤ 281474976710656) :
    Calls Tryd.prog 27 #[.string s] w fun e w' => e = .returned (.string s) ∧ Below w.heap.size w w' := by
  have H : Hid (∀ w : World, Calls Tryd.prog 43 #[.string s] w fun e w' => e = .returned (.string s) ∧ Below w.heap.size w w') := fun w => slClone_any s w h
  go_enter Tryd.func27, Tryd.ntmps27
  go_wp2_with (go_at_call 43; refine (H.out _).mono ?_; rintro e w1 ⟨rfl, hw1⟩)
  go_ret
  exact ⟨rfl, hw1⟩

end Go.Proofs.YtibglhlhogfdnaaDoor
