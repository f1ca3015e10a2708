/- The chapter's examples hold. -/
import Derived.Test.YthiihilifckapaaFFrame
namespace Go.Proofs.Ythiihilifckapaa
open Go.RowKit

theorem frame_none : frameB { data := #[] } = { data := #[0, 0, 0, 0, 28, 223, 68, 33] } := by kernel_rfl
theorem sum_nine : crc [49, 50, 51, 52, 53, 54, 55, 56, 57] = 3421780262 := by kernel_rfl

set_option maxHeartbeats 400000 in
theorem works6_any (w : World) : Calls Try.prog 16 #[] w fun e w' => e = .returned (.bool true) ∧ Below w.heap.size w w' := by
  have HF : Hid (∀ w : World, Calls Try.prog 7 #[.string { data := #[] }] w fun e w' => e = .returned (.tuple #[.string { data := #[0, 0, 0, 0, 28, 223, 68, 33] }, .int .i64 0]) ∧ Below w.heap.size w w') := fun w => frame_none ▸ fFrame_short { data := #[] } w (by decide)
  have HS : Hid (∀ w : World, Calls Try.prog 9 #[.string { data := #[49, 50, 51, 52, 53, 54, 55, 56, 57] }] w fun e w' => e = .returned (.int .u32 3421780262) ∧ w' = w) := fun w => by
    have h := fSum_any { data := #[49, 50, 51, 52, 53, 54, 55, 56, 57] } w (by decide)
    rw [show crc ({ data := #[49, 50, 51, 52, 53, 54, 55, 56, 57] } : ByteArray).data.toList = 3421780262 from sum_nine] at h
    exact h
  go_enter Try.func16, Try.ntmps16
  go_wp2_with (first
    | (go_at_call 7; refine (HF.out _).mono ?_; rintro e w1 ⟨rfl, hw1⟩)
    | (go_at_call 9; refine (HS.out _).mono ?_; rintro e w2 ⟨rfl, rfl⟩))
  go_ret
  exact ⟨rfl, hw1⟩

end Go.Proofs.Ythiihilifckapaa
