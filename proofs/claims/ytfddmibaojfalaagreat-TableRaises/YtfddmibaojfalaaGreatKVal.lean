/- Values that may be: the two of the chapter's examples. -/
import Derived.Test.YtfddmibaojfalaaGreatProg
import Derived.Test.YtfddmibaojfalaaGreatBase
import Derived.WalkLawsBesides
import Derived.Laws.Externs
import Derived.Handy
namespace Go.Proofs.YtfddmibaojfalaaGreat
open Go.RowKit

/-- a value of the layer's, with no pair -/
def val (k n : Int) (s : ByteArray) : Value := .agg #[.int .i64 k, .int .i64 n, .complex .f64 0 0, .string s]

theorem bits_law (b : Nat) (w : World) : (callFunc 49 #[.float .f64 b]).run Tryz.prog w = .ok (.value (.int .u64 b)) w := by
  rw [run_callFunc_extern Tryz.func49 (by kernel_rfl) (by kernel_rfl) (by kernel_rfl) (e := Extern.MathFloatBits.float64bits) (by kernel_rfl)]
  rfl

set_option maxHeartbeats 400000 in
theorem plusZero_any (w : World) : Calls Tryz.prog 94 #[.float .f64 0] w fun e w' => e = .returned (.bool true) ∧ w' = w := by
  have hl := bits_law
  go_enter Tryz.func94, Tryz.ntmps94
  go_wp2
  go_ret
  exact ⟨rfl, rfl⟩

set_option maxHeartbeats 400000 in
theorem nothing_any (w : World) : Calls Tryz.prog 93 #[.complex .f64 0 0] w fun e w' => e = .returned (.bool true) ∧ w' = w := by
  go_enter Tryz.func93, Tryz.ntmps93
  go_wp2_with (go_at_call 94; refine (plusZero_any _).mono ?_; rintro e w' ⟨rfl, rfl⟩)
  go_ret
  exact ⟨rfl, rfl⟩

set_option maxHeartbeats 400000 in
theorem mayBe_int (n : Int) (w : World) : Calls Tryz.prog 87 #[val 2 n ByteArray.empty] w fun e w' => e = .returned (.bool true) ∧ Below w.heap.size w w' := by
  unfold val
  go_enter Tryz.func87, Tryz.ntmps87
  go_wp2_with (go_at_call 93; refine (nothing_any _).mono ?_; rintro e w' ⟨rfl, rfl⟩)
  go_ret
  refine ⟨rfl, ?_⟩
  go_grown

set_option maxHeartbeats 400000 in
theorem mayBe_text (s : ByteArray) (hs : s.size ≤ 4096) (w : World) : Calls Tryz.prog 87 #[val 5 0 s] w fun e w' => e = .returned (.bool true) ∧ Below w.heap.size w w' := by
  unfold val
  go_enter Tryz.func87, Tryz.ntmps87
  go_wp2_with (go_at_call 93; refine (nothing_any _).mono ?_; rintro e w' ⟨rfl, rfl⟩)
  go_ret
  refine ⟨congrArg (fun b => Ending.returned (Value.bool b)) (decide_eq_true (by omega)), ?_⟩
  go_grown

theorem store_law {P : Program} {w : World} {a : Addr} {m : Mode} (k : FloatKind) (x y : Nat) : (store a (.complex k x y) m).run P w = stored P w a (.complex k x y) m := run_store P w a _ m rfl

/-- a slice of one value, and no more -/
def OneAt (w : World) (b : Nat) (k n : Int) (s : ByteArray) : Prop :=
  b < w.heap.size ∧ w.cell? ⟨b, 0, none⟩ = some (.int .i64 k) ∧ w.cell? ⟨b, 1, none⟩ = some (.int .i64 n) ∧ w.cell? ⟨b, 2, none⟩ = some (.complex .f64 0 0) ∧ w.cell? ⟨b, 3, none⟩ = some (.string s)

theorem OneAt.below {w w' : World} {b : Nat} {k n : Int} {s : ByteArray} (h : OneAt w b k n s) (hb : Below w.heap.size w w') : OneAt w' b k n s := by
  obtain ⟨h0, h1, h2, h3, h4⟩ := h
  exact ⟨Nat.lt_of_lt_of_le h0 hb.size, (hb.cell h0).trans h1, (hb.cell h0).trans h2, (hb.cell h0).trans h3, (hb.cell h0).trans h4⟩

set_option maxHeartbeats 400000 in
theorem check_one (b : Nat) (k n : Int) (s : ByteArray) (w : World) (hv : OneAt w b k n s)
    (hm : ∀ u, Calls Tryz.prog 87 #[val k n s] u fun e w' => e = .returned (.bool true) ∧ Below u.heap.size u w') :
    Calls Tryz.prog 72 #[.slice (some ⟨b, 0, none⟩) 1 1] w fun e w' => e = .returned (.tuple #[.int .i64 0, .int .i64 0]) ∧ Below w.heap.size w w' := by
  have HM : Hid (∀ u, Calls Tryz.prog 87 #[val k n s] u fun e w' => e = .returned (.bool true) ∧ Below u.heap.size u w') := hm
  obtain ⟨h0, h1, h2, h3, h4⟩ := hv
  unfold val at HM
  clear hm
  have hsl := @store_law
  go_enter Tryz.func72, Tryz.ntmps72
  go_wp2_with fail
  refine wp_loop_rounds 2 ?_
  rw [rounds_succ]
  go_wp2_with (go_at_call 87; refine (HM.out _).mono ?_; rintro e w1 ⟨rfl, hw1⟩)
  rw [rounds_succ]
  go_wp2_with fail
  go_ret2
  refine ⟨rfl, Below.trans ?_ (hw1.mono ?_)⟩
  · go_grown
  · simp

end Go.Proofs.YtfddmibaojfalaaGreat
