/- The chapter's example works. -/
import Derived.Test.YtcifiliigldapaaINext
namespace Go.Proofs.Ytcifiliigldapaa
open Go.RowKit

theorem one_word {w : World} {b : Nat} {x : Int} (hb : b < w.heap.size) (h : w.cell? ⟨b, 0, none⟩ = some (.int .u64 x)) : WordsAt w (.slice (some ⟨b, 0, none⟩) 1 1) [x] := by
  refine ⟨some ⟨b, 0, none⟩, 1, rfl, Nat.le_refl _, by unfold maxLen; omega, fun _ => ⟨b, 0, rfl, hb, fun i hi j u hu => ?_⟩⟩
  have hi0 : i = 0 := by simp at hi; omega
  subst hi0
  cases j with
  | zero => simp at hu; rw [← hu]; exact h
  | succ j => simp at hu

theorem one_new {u : World} {b : Nat} {x : Int} {T : TypeId} (hb : b = u.heap.size) : WordsAt (u.alloc (.cells #[.int .u64 x] T)) (.slice (some ⟨b, 0, none⟩) 1 1) [x] := by
  subst hb
  exact one_word (by simp) (by rw [cell_of (heap_new u _)]; rfl)

theorem words_one : Words [8388628] := fun x hx => by
  obtain rfl : x = 8388628 := by simpa using hx
  decide

theorem exPack : packW 1 2 false false true = 8388628 ∧ packE 1 2 = 0 := by decide
theorem ex1 : nextW 1 [8388628] = 8388632 ∧ nextE 1 [8388628] = 0 := by decide
theorem ex2 : nextW 2 [8388628] = 16777216 ∧ nextE 2 [8388628] = 0 := by decide
theorem ex0 : nextW 0 [8388628] = 0 ∧ nextE 0 [8388628] = 1 := by decide

set_option maxRecDepth 100000 in
set_option maxHeartbeats 1000000 in
theorem works_any (w : World) : Calls Try.prog 13 #[] w fun e w' => e = .returned (.bool true) ∧ Below w.heap.size w w' := by
  have HP : Hid (∀ u, Calls Try.prog 7 #[.int .i64 1, .int .i64 2, .bool false, .bool false, .bool true] u fun x w' => x = .returned (.tuple #[.int .u64 8388628, .int .i64 0]) ∧ w' = u) := fun u => (pack_any 1 2 false false true u).mono fun e w' h => by rw [exPack.1, exPack.2] at h; exact h
  have H1 : Hid (∀ u v, WordsAt u v [8388628] → Calls Try.prog 16 #[.int .i64 1, v] u fun x w' => x = .returned (.tuple #[.int .u64 8388632, .int .i64 0]) ∧ w' = u) := fun u v hv => (next_any 1 v _ u hv words_one).mono fun e w' h => by rw [ex1.1, ex1.2] at h; exact h
  have H2 : Hid (∀ u v, WordsAt u v [8388628] → Calls Try.prog 16 #[.int .i64 2, v] u fun x w' => x = .returned (.tuple #[.int .u64 16777216, .int .i64 0]) ∧ w' = u) := fun u v hv => (next_any 2 v _ u hv words_one).mono fun e w' h => by rw [ex2.1, ex2.2] at h; exact h
  have H0 : Hid (∀ u v, WordsAt u v [8388628] → Calls Try.prog 16 #[.int .i64 0, v] u fun x w' => x = .returned (.tuple #[.int .u64 0, .int .i64 1]) ∧ w' = u) := fun u v hv => (next_any 0 v _ u hv words_one).mono fun e w' h => by rw [ex0.1, ex0.2] at h; exact h
  go_enter Try.func13, Try.ntmps13
  go_wp2_with (go_at_call 7; go_must (refine (HP.out _).mono ?_; rintro y w1 ⟨rfl, rfl⟩))
  refine (H1.out _ _ (one_new (by simp))).mono ?_
  rintro y w2 ⟨rfl, rfl⟩
  go_wp2_with fail
  refine (H2.out _ _ (one_new (by simp))).mono ?_
  rintro y w2 ⟨rfl, rfl⟩
  go_wp2_with fail
  refine (H0.out _ _ (one_new (by simp))).mono ?_
  rintro y w2 ⟨rfl, rfl⟩
  go_wp2_with fail
  go_ret
  refine ⟨rfl, ?_⟩
  exact (((Below.refl _ _).alloc (Nat.le_refl _) _).alloc (by simp) _).alloc (by simp; omega) _

end Go.Proofs.Ytcifiliigldapaa
