/- The law NodeWords: its walk. -/
import Derived.Test.YtnnkflghnapnpaaNRefJ
namespace Go.Proofs.Ytnnkflghnapnpaa
open Go.RowKit
namespace WordsL

set_option maxRecDepth 100000 in
set_option maxHeartbeats 4000000 in
theorem walk (W x : Int) (w : World) (h0 : 0 ≤ W) (h1 : W < 18446744073709551616) : Calls Try.prog 3 #[.int .u64 W, .int .i64 x] w fun e w' => e = .returned (.bool true) ∧ Below w.heap.size w w' := by
  obtain ⟨u, l, hW⟩ := wd_of h0 h1
  obtain ⟨A, S, E, hI⟩ := insTo_ex (l := l) hW.u16 x
  obtain ⟨C, T, G, hR⟩ := remTo_ex u l x
  obtain ⟨k, hk⟩ : ∃ k, chk l = k := ⟨_, rfl⟩
  obtain ⟨Z, hZ⟩ : ∃ Z, emptyW = Z := ⟨_, rfl⟩
  have H1 : Hid (∀ v : World, Calls Try.prog 9 #[.int .u64 W, .int .i64 x] v fun e w' => e = .returned (.tuple #[.int .u64 A, .int .i64 S, .int .i64 E]) ∧ w' = v) := fun v => insert_is hW hI v
  have H2 : Hid (∀ v : World, Calls Try.prog 10 #[.int .u64 W, .int .i64 x] v fun e w' => e = .returned (.tuple #[.int .u64 A, .int .i64 S, .int .i64 E]) ∧ Below v.heap.size v w') := fun v => oinsert_is hW hI v
  have H3 : Hid (∀ v : World, Calls Try.prog 11 #[.int .u64 W, .int .i64 x] v fun e w' => e = .returned (.tuple #[.int .u64 C, .int .i64 T, .int .i64 G]) ∧ w' = v) := fun v => remove_is hW hR v
  have H4 : Hid (∀ v : World, Calls Try.prog 12 #[.int .u64 W, .int .i64 x] v fun e w' => e = .returned (.tuple #[.int .u64 C, .int .i64 T, .int .i64 G]) ∧ Below v.heap.size v w') := fun v => oremove_is hW hR v
  have H5 : Hid (∀ v : World, Calls Try.prog 13 #[] v fun e w' => e = .returned (.int .u64 Z) ∧ w' = v) := fun v => hZ ▸ empty_any v
  have H6 : Hid (∀ v : World, Calls Try.prog 14 #[] v fun e w' => e = .returned (.int .u64 Z) ∧ Below v.heap.size v w') := fun v => hZ ▸ oempty_any v
  have H7 : Hid (∀ v : World, Calls Try.prog 15 #[.int .u64 W] v fun e w' => e = .returned (.int .i64 k) ∧ w' = v) := fun v => hk ▸ check_any hW v
  have H8 : Hid (∀ v : World, Calls Try.prog 16 #[.int .u64 W] v fun e w' => e = .returned (.int .i64 k) ∧ Below v.heap.size v w') := fun v => hk ▸ ocheck_any hW v
  have H9 : Hid (∀ v : World, Calls Try.prog 17 #[] v fun e w' => e = .returned (.bool true) ∧ w' = v) := works_any
  clear hW hI hR hk hZ
  go_enter Try.func3, Try.ntmps3
  go_wp2_with fail
  refine (H1.out _).mono ?_
  rintro e w1 ⟨rfl, rfl⟩
  go_wp2_with fail
  refine (H2.out _).mono ?_
  rintro e w2 ⟨rfl, hb2⟩
  go_wp2_with fail
  refine (H3.out _).mono ?_
  rintro e w3 ⟨rfl, rfl⟩
  go_wp2_with fail
  refine (H4.out _).mono ?_
  rintro e w4 ⟨rfl, hb4⟩
  go_wp2_with (first | (go_at_call 13; go_must (refine (H5.out _).mono ?_; rintro e w5 ⟨rfl, rfl⟩)) | (go_at_call 14; go_must (refine (H6.out _).mono ?_; rintro e w6 ⟨rfl, hb6⟩)) | (go_at_call 15; go_must (refine (H7.out _).mono ?_; rintro e w7 ⟨rfl, rfl⟩)) | (go_at_call 16; go_must (refine (H8.out _).mono ?_; rintro e w8 ⟨rfl, hb8⟩)) | (go_at_call 17; go_must (refine (H9.out _).mono ?_; rintro e w9 ⟨rfl, rfl⟩)))
  go_ret
  refine ⟨rfl, ?_⟩
  have s2 := hb2.size
  have s4 := hb4.size
  have s6 := hb6.size
  exact hb2.trans ((hb4.mono s2).trans ((hb6.mono (by omega)).trans (hb8.mono (by omega))))
end WordsL
end Go.Proofs.Ytnnkflghnapnpaa
