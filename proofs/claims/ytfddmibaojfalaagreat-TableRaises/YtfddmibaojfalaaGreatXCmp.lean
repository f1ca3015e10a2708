/- The order of two values: the program's compareValues. -/
import Derived.Test.YtfddmibaojfalaaGreatXVal
import Derived.Deep.RegionHeld3
namespace Go.Proofs.YtfddmibaojfalaaGreat
open Go.RowKit

theorem nanI_any (a : Int) (w : World) : Calls Tryz.prog 104 #[.int .i64 a] w fun e w' => e = .returned (.bool false) ∧ w' = w := by
  go_enter Tryz.func104, Tryz.ntmps104
  go_wp2
  go_ret
  exact ⟨by simp, rfl⟩
theorem nanL_any (a : Int) (w : World) : Calls Tryz.prog 105 #[.int .i64 a] w fun e w' => e = .returned (.bool false) ∧ w' = w := by
  go_enter Tryz.func105, Tryz.ntmps105
  go_wp2
  go_ret
  exact ⟨by simp, rfl⟩
theorem nanU_any (a : Int) (w : World) : Calls Tryz.prog 106 #[.int .u64 a] w fun e w' => e = .returned (.bool false) ∧ w' = w := by
  go_enter Tryz.func106, Tryz.ntmps106
  go_wp2
  go_ret
  exact ⟨by simp, rfl⟩

theorem cmpI_any (a b : Int) (w : World) : Calls Tryz.prog 99 #[.int .i64 a, .int .i64 b] w fun e w' => e = .returned (.int .i64 (cmpI a b)) ∧ w' = w := by
  by_cases h1 : a < b
  · have HE : Hid (cmpI a b = -1) := by show _ = _; simp [cmpI, h1]
    go_enter Tryz.func99, Tryz.ntmps99
    go_wp2_with (go_at_call 104; go_must (refine (nanI_any _ _).mono ?_; rintro e w1 ⟨rfl, rfl⟩))
    go_ret
    exact ⟨ret_int HE.out.symm, rfl⟩
  · by_cases h2 : b < a
    · have HE : Hid (cmpI a b = 1) := by show _ = _; simp [cmpI, h1, h2]
      go_enter Tryz.func99, Tryz.ntmps99
      go_wp2_with (go_at_call 104; go_must (refine (nanI_any _ _).mono ?_; rintro e w1 ⟨rfl, rfl⟩))
      go_ret
      exact ⟨ret_int HE.out.symm, rfl⟩
    · have HE : Hid (cmpI a b = 0) := by show _ = _; simp [cmpI, h1, h2]
      go_enter Tryz.func99, Tryz.ntmps99
      go_wp2_with (go_at_call 104; go_must (refine (nanI_any _ _).mono ?_; rintro e w1 ⟨rfl, rfl⟩))
      go_ret
      exact ⟨ret_int HE.out.symm, rfl⟩
theorem cmpL_any (a b : Int) (w : World) : Calls Tryz.prog 100 #[.int .i64 a, .int .i64 b] w fun e w' => e = .returned (.int .i64 (cmpI a b)) ∧ w' = w := by
  by_cases h1 : a < b
  · have HE : Hid (cmpI a b = -1) := by show _ = _; simp [cmpI, h1]
    go_enter Tryz.func100, Tryz.ntmps100
    go_wp2_with (go_at_call 105; go_must (refine (nanL_any _ _).mono ?_; rintro e w1 ⟨rfl, rfl⟩))
    go_ret
    exact ⟨ret_int HE.out.symm, rfl⟩
  · by_cases h2 : b < a
    · have HE : Hid (cmpI a b = 1) := by show _ = _; simp [cmpI, h1, h2]
      go_enter Tryz.func100, Tryz.ntmps100
      go_wp2_with (go_at_call 105; go_must (refine (nanL_any _ _).mono ?_; rintro e w1 ⟨rfl, rfl⟩))
      go_ret
      exact ⟨ret_int HE.out.symm, rfl⟩
    · have HE : Hid (cmpI a b = 0) := by show _ = _; simp [cmpI, h1, h2]
      go_enter Tryz.func100, Tryz.ntmps100
      go_wp2_with (go_at_call 105; go_must (refine (nanL_any _ _).mono ?_; rintro e w1 ⟨rfl, rfl⟩))
      go_ret
      exact ⟨ret_int HE.out.symm, rfl⟩
/-- a number against itself -/
theorem cmpU_self (a : Int) (w : World) : Calls Tryz.prog 101 #[.int .u64 a, .int .u64 a] w fun e w' => e = .returned (.int .i64 0) ∧ w' = w := by
  have h1 : ¬ a < a := by omega
  go_enter Tryz.func101, Tryz.ntmps101
  go_wp2_with (go_at_call 106; go_must (refine (nanU_any _ _).mono ?_; rintro e w1 ⟨rfl, rfl⟩))
  go_ret
  exact ⟨rfl, rfl⟩

theorem rank_zero (w : World) : Calls Tryz.prog 102 #[.float .f64 0] w fun e w' => e = .returned (.int .u64 9223372036854775808) ∧ w' = w := by
  have hl := bits_law
  go_enter Tryz.func102, Tryz.ntmps102
  go_wp2
  go_ret
  exact ⟨rfl, rfl⟩

theorem cmpstr_law (a b : ByteArray) (w : World) : (callFunc 108 #[.string a, .string b]).run Tryz.prog w = .ok (.value (.int .i64 (cmpS a b))) w := by
  rw [run_callFunc_extern Tryz.func108 (by kernel_rfl) (by kernel_rfl) (by kernel_rfl) (e := Extern.BytealgCompare.compare) (by kernel_rfl)]
  rw [Lib.run_compareString]
  rfl
theorem compareB_any (a b : ByteArray) (w : World) : Calls Tryz.prog 107 #[.string a, .string b] w fun e w' => e = .returned (.int .i64 (cmpS a b)) ∧ w' = w := by
  have hl := cmpstr_law
  go_enter Tryz.func107, Tryz.ntmps107
  go_wp2
  go_ret
  exact ⟨rfl, rfl⟩
theorem compareS_any (a b : ByteArray) (w : World) : Calls Tryz.prog 103 #[.string a, .string b] w fun e w' => e = .returned (.int .i64 (cmpS a b)) ∧ w' = w := by
  go_enter Tryz.func103, Tryz.ntmps103
  go_wp2_with (go_at_call 107; go_must (refine (compareB_any _ _ _).mono ?_; rintro e w1 ⟨rfl, rfl⟩))
  go_ret
  exact ⟨rfl, rfl⟩

theorem orI_zero (b : Int) : orI 0 b = b := by simp [orI]
theorem orI_ne {a : Int} (h : a ≠ 0) (b : Int) : orI a b = a := by simp [orI, h]

set_option maxHeartbeats 1000000 in
theorem or_any (b : Nat) (x y z : Int) (w : World) (h0 : w.cell? ⟨b, 0, none⟩ = some (.int .i64 x)) (h1 : w.cell? ⟨b, 1, none⟩ = some (.int .i64 y)) (h2 : w.cell? ⟨b, 2, none⟩ = some (.int .i64 0)) (h3 : w.cell? ⟨b, 3, none⟩ = some (.int .i64 0)) (h4 : w.cell? ⟨b, 4, none⟩ = some (.int .i64 z)) :
    Calls Tryz.prog 98 #[.slice (some ⟨b, 0, none⟩) 5 5] w fun e w' => e = .returned (.int .i64 (orI x (orI y z))) ∧ w' = w := by
  by_cases gx : x = 0
  · subst gx
    rw [orI_zero]
    by_cases gy : y = 0
    · subst gy
      rw [orI_zero]
      by_cases gz : z = 0
      · subst gz
        go_enter Tryz.func98, Tryz.ntmps98
        go_wp2_with fail
        refine wp_loop_rounds 6 ?_
        rw [rounds_succ]
        go_wp2_with fail
        rw [rounds_succ]
        go_wp2_with fail
        rw [rounds_succ]
        go_wp2_with fail
        rw [rounds_succ]
        go_wp2_with fail
        rw [rounds_succ]
        go_wp2_with fail
        rw [rounds_succ]
        go_wp2_with fail
        go_ret
        exact ⟨rfl, rfl⟩
      · have gz' : (z != 0) = true := by simpa using gz
        go_enter Tryz.func98, Tryz.ntmps98
        go_wp2_with fail
        refine wp_loop_rounds 6 ?_
        rw [rounds_succ]
        go_wp2_with fail
        rw [rounds_succ]
        go_wp2_with fail
        rw [rounds_succ]
        go_wp2_with fail
        rw [rounds_succ]
        go_wp2_with fail
        rw [rounds_succ]
        go_wp2_with fail
        go_ret
        exact ⟨rfl, rfl⟩
    · rw [orI_ne gy]
      have gy' : (y != 0) = true := by simpa using gy
      go_enter Tryz.func98, Tryz.ntmps98
      go_wp2_with fail
      refine wp_loop_rounds 6 ?_
      rw [rounds_succ]
      go_wp2_with fail
      rw [rounds_succ]
      go_wp2_with fail
      go_ret
      exact ⟨rfl, rfl⟩
  · rw [orI_ne gx]
    have gx' : (x != 0) = true := by simpa using gx
    go_enter Tryz.func98, Tryz.ntmps98
    go_wp2_with fail
    refine wp_loop_rounds 6 ?_
    rw [rounds_succ]
    go_wp2_with fail
    go_ret
    exact ⟨rfl, rfl⟩

end Go.Proofs.YtfddmibaojfalaaGreat
