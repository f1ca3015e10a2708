/- The chapter's example works. -/
import Derived.Test.YtnnkflghnapnpaaNWords1
namespace Go.Proofs.Ytnnkflghnapnpaa
open Go.RowKit

theorem wd_unique {W V : Int} {u : Nat} {l : List Nat} (h : Wd W u l) (k : Wd V u l) : W = V := h.eq.trans k.eq.symm
theorem ex1_wd : Wd 17134975606245761281 1 (insW (List.range 15) 0 0) := ⟨by decide, by decide, by decide, by unfold Dig; decide⟩
theorem ex2_wd : Wd 17134975606245761042 2 (insW (insW (List.range 15) 0 0) 1 0) := ⟨by decide, by decide, by decide, by unfold Dig; decide⟩
theorem ex3_wd : Wd 17134975606245761041 1 (remW (insW (insW (List.range 15) 0 0) 1 0) 2 1) := ⟨by decide, by decide, by decide, by unfold Dig; decide⟩

set_option maxRecDepth 100000 in
set_option maxHeartbeats 1000000 in
theorem works_any (w : World) : Calls Try.prog 17 #[] w fun e w' => e = .returned (.bool true) ∧ w' = w := by
  have HE : Hid (∀ v : World, Calls Try.prog 13 #[] v fun e w' => e = .returned (.int .u64 17134975606245761280) ∧ w' = v) := fun v => empty_any v
  have H1 : Hid (∀ v : World, Calls Try.prog 9 #[.int .u64 17134975606245761280, .int .i64 0] v fun e w' => e = .returned (.tuple #[.int .u64 17134975606245761281, .int .i64 0, .int .i64 0]) ∧ w' = v) := fun v =>
    (insert_ok emptyW_wd may_range (by decide) (a := 0) rfl (by decide) v).mono fun e w' ⟨W', h1, h2, h3⟩ => by
      rw [wd_unique h1 ex1_wd] at h2
      exact ⟨h2, h3⟩
  have H2 : Hid (∀ v : World, Calls Try.prog 9 #[.int .u64 17134975606245761281, .int .i64 0] v fun e w' => e = .returned (.tuple #[.int .u64 17134975606245761042, .int .i64 1, .int .i64 0]) ∧ w' = v) := fun v =>
    (insert_ok ex1_wd (by unfold May; decide) (by decide) (a := 0) rfl (by decide) v).mono fun e w' ⟨W', h1, h2, h3⟩ => by
      rw [wd_unique h1 ex2_wd] at h2
      exact ⟨h2, h3⟩
  have H3 : Hid (∀ v : World, Calls Try.prog 11 #[.int .u64 17134975606245761042, .int .i64 1] v fun e w' => e = .returned (.tuple #[.int .u64 17134975606245761041, .int .i64 0, .int .i64 0]) ∧ w' = v) := fun v =>
    (remove_ok ex2_wd (by unfold May; decide) (a := 1) rfl (by decide) v).mono fun e w' ⟨W', h1, h2, h3⟩ => by
      rw [wd_unique h1 ex3_wd] at h2
      exact ⟨h2, h3⟩
  go_enter Try.func17, Try.ntmps17
  go_wp2_with fail
  refine (HE.out _).mono ?_
  rintro e w1 ⟨rfl, rfl⟩
  go_wp2_with fail
  refine (H1.out _).mono ?_
  rintro e w1 ⟨rfl, rfl⟩
  go_wp2_with fail
  refine (H2.out _).mono ?_
  rintro e w1 ⟨rfl, rfl⟩
  go_wp2_with fail
  refine (H3.out _).mono ?_
  rintro e w1 ⟨rfl, rfl⟩
  go_wp2_with fail
  refine (HE.out _).mono ?_
  rintro e w1 ⟨rfl, rfl⟩
  go_wp2_with fail
  go_ret
  exact ⟨rfl, rfl⟩

end Go.Proofs.Ytnnkflghnapnpaa
