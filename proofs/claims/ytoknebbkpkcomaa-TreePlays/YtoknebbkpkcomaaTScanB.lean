/- The program's Scan, told a number that may not be. -/
import Derived.Test.YtoknebbkpkcomaaTScan
namespace Go.Proofs.Ytoknebbkpkcomaa
open Go.RowKit

def w4 (w : World) (mm : Int) : World := (((w.alloc (.cells #[.int .i64 mm] 3)).alloc (.cells #[.slice none 0 0] 26)).alloc (.cells #[.slice none 0 0] 27)).alloc (.cells #[.slice none 0 0] 34)
theorem w4_below (w : World) (mm : Int) : Below w.heap.size w (w4 w mm) := by
  unfold w4
  repeat' first | exact Below.refl _ _ | refine Below.alloc ?_ (by simp; try omega) _

set_option maxRecDepth 100000 in
set_option maxHeartbeats 1000000 in
theorem tscan_bad {mm : Int} (hm : ¬ (1 ≤ mm ∧ mm ≤ 4096)) (t : Nat) (f to : ByteArray) (w : World) : Calls Try.prog 12 #[.pointer (some ⟨t, 0, none⟩), .string f, .string to, .int .i64 mm] w fun x w' => x = .returned (.tuple #[.slice none 0 0, .slice none 0 0, .slice none 0 0, .int .i64 1]) ∧ Below w.heap.size w w' := by
  refine (callsIn_wide (n := 3)).1 ?_
  refine callsIn_of_wp_marks Try.func12 rfl trivial ?_ rfl
  simp only [Try.ntmps12, List.size_toArray, List.length_cons, List.length_nil, Nat.reduceAdd, Nat.reduceSub, Array.replicate_succ, Array.replicate_zero, List.push_toArray, List.append_toArray, List.nil_append, List.cons_append]
  rw [wpIn_wide]
  by_cases h1 : mm < 1
  · clear hm
    go_wp2_with fail
    refine ⟨.tuple #[.slice none 0 0, .slice none 0 0, .slice none 0 0, .int .i64 1], ?_, rfl, w4_below w mm⟩
    simp [results, Try.results12, go_sem]
  · have h2 : 4096 < mm := by omega
    clear hm
    go_wp2_with fail
    refine ⟨.tuple #[.slice none 0 0, .slice none 0 0, .slice none 0 0, .int .i64 1], ?_, rfl, w4_below w mm⟩
    simp [results, Try.results12, go_sem]

end Go.Proofs.Ytoknebbkpkcomaa
