/- Arrays of eight numbers, held against one another. -/
import Derived.Test.YtibgpjokdpagcaaWCheck
import Derived.Laws.StructEq
namespace Go.Proofs.Ytibgpjokdpagcaa
open Go.RowKit

theorem part8 (xs : Array Value) (k : Nat) (v : Value) (hv : xs[k]? = some v) (W : World) : (part 38 xs k).run Try.prog W = .ok v W := by
  have hz : ∀ W, (sizeOf 38).run Try.prog W = .ok 1 W := fun W => by kernel_rfl
  simp [part, hz, hv]

theorem eqArr (p0 p1 p2 p3 p4 p5 p6 p7 : Int) (W : World) :
    (Op.equalIn 10000 47 (.agg #[.int .u64 p0, .int .u64 p1, .int .u64 p2, .int .u64 p3, .int .u64 p4, .int .u64 p5, .int .u64 p6, .int .u64 p7]) (.agg #[.int .u64 p0, .int .u64 p1, .int .u64 p2, .int .u64 p3, .int .u64 p4, .int .u64 p5, .int .u64 p6, .int .u64 p7])).run Try.prog W = .ok true W := by
  have hz : ∀ W, (sizeOf 38).run Try.prog W = .ok 1 W := fun W => by kernel_rfl
  have hi : ∀ (a : Int) (W : World), (Op.equalIn 9999 38 (.int .u64 a) (.int .u64 a)).run Try.prog W = .ok true W := fun a W => by
    have := run_equalIn_int (P := Try.prog) W 9998 38 .u64 .u64 a a Try.underlying38
    simpa using this
  show (Op.equalIn (9999 + 1) 47 _ _).run Try.prog W = _
  rw [Op.equalIn]
  simp only [Sem.run_bind, run_underlying Try.underlying47, Result.andThen_ok, hz]
  rw [Std.Legacy.Range.forIn_eq_forIn_range']
  have hr : List.range' 0 8 1 = [0, 1, 2, 3, 4, 5, 6, 7] := rfl
  have h0 := part8 (#[.int .u64 p0, .int .u64 p1, .int .u64 p2, .int .u64 p3, .int .u64 p4, .int .u64 p5, .int .u64 p6, .int .u64 p7] : Array Value) 0 (.int .u64 p0) rfl
  have h1 := part8 (#[.int .u64 p0, .int .u64 p1, .int .u64 p2, .int .u64 p3, .int .u64 p4, .int .u64 p5, .int .u64 p6, .int .u64 p7] : Array Value) 1 (.int .u64 p1) rfl
  have h2 := part8 (#[.int .u64 p0, .int .u64 p1, .int .u64 p2, .int .u64 p3, .int .u64 p4, .int .u64 p5, .int .u64 p6, .int .u64 p7] : Array Value) 2 (.int .u64 p2) rfl
  have h3 := part8 (#[.int .u64 p0, .int .u64 p1, .int .u64 p2, .int .u64 p3, .int .u64 p4, .int .u64 p5, .int .u64 p6, .int .u64 p7] : Array Value) 3 (.int .u64 p3) rfl
  have h4 := part8 (#[.int .u64 p0, .int .u64 p1, .int .u64 p2, .int .u64 p3, .int .u64 p4, .int .u64 p5, .int .u64 p6, .int .u64 p7] : Array Value) 4 (.int .u64 p4) rfl
  have h5 := part8 (#[.int .u64 p0, .int .u64 p1, .int .u64 p2, .int .u64 p3, .int .u64 p4, .int .u64 p5, .int .u64 p6, .int .u64 p7] : Array Value) 5 (.int .u64 p5) rfl
  have h6 := part8 (#[.int .u64 p0, .int .u64 p1, .int .u64 p2, .int .u64 p3, .int .u64 p4, .int .u64 p5, .int .u64 p6, .int .u64 p7] : Array Value) 6 (.int .u64 p6) rfl
  have h7 := part8 (#[.int .u64 p0, .int .u64 p1, .int .u64 p2, .int .u64 p3, .int .u64 p4, .int .u64 p5, .int .u64 p6, .int .u64 p7] : Array Value) 7 (.int .u64 p7) rfl
  simp [Std.Legacy.Range.size, hr, h0, h1, h2, h3, h4, h5, h6, h7, hi]

theorem guard8 : Try.prog.eqGuardType Try.prog.depth 47 = false := by kernel_rfl

end Go.Proofs.Ytibgpjokdpagcaa
