/- The program's calls of layer 9 on words alone: isWithin, mayBe, Pack, Unpack, Number; and the document's. -/
import Derived.Test.YtcifiliigldapaaProg
import Derived.Test.YtcifiliigldapaaIPure
import Derived.Test.YtcifiliigldapaaOpen
import Derived.OwnWalk
import Derived.WalkMore
namespace Go.Proofs.Ytcifiliigldapaa
open Go.RowKit

theorem within_yes (n m : Int) (w : World) (h : within n m = true) : Calls Try.prog 19 #[.int .i64 n, .int .i64 m] w fun e w' => e = .returned (.bool true) ∧ w' = w := by
  have h0 : 0 ≤ n ∧ n ≤ m := by simpa [within] using h
  obtain ⟨h1, h2⟩ := h0
  clear h
  go_enter Try.func19, Try.ntmps19
  go_wp2
  go_ret
  exact ⟨rfl, rfl⟩
theorem within_no (n m : Int) (w : World) (h : within n m = false) : Calls Try.prog 19 #[.int .i64 n, .int .i64 m] w fun e w' => e = .returned (.bool false) ∧ w' = w := by
  have h0 : ¬ (0 ≤ n ∧ n ≤ m) := by simpa [within] using h
  clear h
  by_cases h1 : 0 ≤ n
  · have h2 : ¬ n ≤ m := fun h2 => h0 ⟨h1, h2⟩
    clear h0
    go_enter Try.func19, Try.ntmps19
    go_wp2
    go_ret
    exact ⟨rfl, rfl⟩
  · clear h0
    go_enter Try.func19, Try.ntmps19
    go_wp2
    go_ret
    exact ⟨rfl, rfl⟩

theorem mayBe_any (x : Int) (w : World) (h0 : 0 ≤ x) (h1 : x < 18446744073709551616) : Calls Try.prog 21 #[.int .u64 x] w fun e w' => e = .returned (.bool (may x)) ∧ w' = w := by
  go_enter Try.func21, Try.ntmps21
  go_wp2
  go_ret
  exact ⟨rfl, rfl⟩

theorem number_any (x : Int) (w : World) (h0 : 0 ≤ x) (h1 : x < 18446744073709551616) : Calls Try.prog 9 #[.int .u64 x] w fun e w' => e = .returned (.int .u64 (num x)) ∧ w' = w := by
  have hn := andNot_num h0 h1
  go_enter Try.func9, Try.ntmps9
  go_wp2
  go_ret
  exact ⟨rfl, rfl⟩

end Go.Proofs.Ytcifiliigldapaa
