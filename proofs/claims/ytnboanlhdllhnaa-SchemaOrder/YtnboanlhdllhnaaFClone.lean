/- A copy of a string is the string. -/
import Derived.Shelf.Pu.Clone
import Derived.Test.YtnboanlhdllhnaaLay
import Derived.Test.YtnboanlhdllhnaaBase
import Derived.Test.YtnboanlhdllhnaaProg
import Derived.WalkKit
namespace Go.Proofs.Ytnboanlhdllhnaa
open Go.Shelf Go.RowKit

theorem slClone_any (s : ByteArray) (w : World) (h : s.size ≤ 281474976710656) :
    Calls Try.prog 28 #[.string s] w fun e w' => e = .returned (.string s) ∧ Below w.heap.size w w' := AnyPu.stringslite_Clone Try.laysClone s w h

set_option maxHeartbeats 400000 in
theorem sClone_any (s : ByteArray) (w : World) (h : s.size ≤ 281474976710656) :
    Calls Try.prog 17 #[.string s] w fun e w' => e = .returned (.string s) ∧ Below w.heap.size w w' := by
  have H : Hid (∀ w : World, Calls Try.prog 28 #[.string s] w fun e w' => e = .returned (.string s) ∧ Below w.heap.size w w') := fun w => slClone_any s w h
  go_enter Try.func17, Try.ntmps17
  go_wp2_with (go_at_call 28; refine (H.out _).mono ?_; rintro e w1 ⟨rfl, hw1⟩)
  go_ret
  exact ⟨rfl, hw1⟩

end Go.Proofs.Ytnboanlhdllhnaa
