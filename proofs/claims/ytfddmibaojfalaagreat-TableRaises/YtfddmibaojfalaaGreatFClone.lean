/- A copy of a string is the string. -/
import Derived.Shelf.Pu.Clone
import Derived.Test.YtfddmibaojfalaaGreatLay
import Derived.Test.YtfddmibaojfalaaGreatBase
import Derived.Test.YtfddmibaojfalaaGreatProg
import Derived.WalkKit
namespace Go.Proofs.YtfddmibaojfalaaGreat
open Go.Shelf Go.RowKit

theorem slClone_any (s : ByteArray) (w : World) (h : s.size ≤ 281474976710656) :
    Calls Tryz.prog 53 #[.string s] w fun e w' => e = .returned (.string s) ∧ Below w.heap.size w w' := AnyPu.stringslite_Clone Tryz.laysClone s w h

set_option maxHeartbeats 400000 in
theorem sClone_any (s : ByteArray) (w : World) (h : s.size ≤ 281474976710656) :
    Calls Tryz.prog 33 #[.string s] w fun e w' => e = .returned (.string s) ∧ Below w.heap.size w w' := by
  have H : Hid (∀ w : World, Calls Tryz.prog 53 #[.string s] w fun e w' => e = .returned (.string s) ∧ Below w.heap.size w w') := fun w => slClone_any s w h
  go_enter Tryz.func33, Tryz.ntmps33
  go_wp2_with (go_at_call 53; refine (H.out _).mono ?_; rintro e w1 ⟨rfl, hw1⟩)
  go_ret
  exact ⟨rfl, hw1⟩

end Go.Proofs.YtfddmibaojfalaaGreat
