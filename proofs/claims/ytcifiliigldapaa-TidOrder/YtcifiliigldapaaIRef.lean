/- The document's answers of layer 9 on words alone. -/
import Derived.Test.YtcifiliigldapaaIAbove
namespace Go.Proofs.Ytcifiliigldapaa
open Go.RowKit

theorem bit_any (b : Bool) (w : World) : Calls Try.prog 22 #[.bool b] w fun e w' => e = .returned (.int .u64 (b1 b)) ∧ w' = w := by
  cases b
  all_goals
    go_enter Try.func22, Try.ntmps22
    go_wp2
    go_ret
    exact ⟨rfl, rfl⟩

theorem repoch_any (x : Int) (w : World) (h0 : 0 ≤ x) (h1 : x < 18446744073709551616) : Calls Try.prog 14 #[.int .u64 x] w fun e w' => e = .returned (.int .u64 (x / 8388608)) ∧ w' = w := by
  go_enter Try.func14, Try.ntmps14
  go_wp2
  go_ret
  exact ⟨rfl, rfl⟩

theorem rseq_any (x : Int) (w : World) (h0 : 0 ≤ x) (h1 : x < 18446744073709551616) : Calls Try.prog 15 #[.int .u64 x] w fun e w' => e = .returned (.int .i64 (x / 8 % 1048576)) ∧ w' = w := by
  have k6 : IntKind.i64.wrap (x / 8 % 1048576) = x / 8 % 1048576 := by rw [IntKind.wrap_i64]; omega
  go_enter Try.func15, Try.ntmps15
  go_wp2
  go_ret
  exact ⟨rfl, rfl⟩

theorem rnumber_any (x : Int) (w : World) (h0 : 0 ≤ x) (h1 : x < 18446744073709551616) : Calls Try.prog 10 #[.int .u64 x] w fun e w' => e = .returned (.int .u64 (num x)) ∧ w' = w := by
  go_enter Try.func10, Try.ntmps10
  go_wp2
  go_ret
  exact ⟨rfl, rfl⟩

theorem rmay_any (x : Int) (w : World) (h0 : 0 ≤ x) (h1 : x < 18446744073709551616) : Calls Try.prog 12 #[.int .u64 x] w fun e w' => e = .returned (.bool (may x)) ∧ w' = w := by
  go_enter Try.func12, Try.ntmps12
  go_wp2_with fail
  refine (repoch_any x _ h0 h1).mono ?_
  rintro y w1 ⟨rfl, rfl⟩
  go_wp2_with fail
  go_ret
  exact ⟨rfl, rfl⟩

set_option maxHeartbeats 1000000 in
theorem rword_any (e s : Int) (l a t : Bool) (w : World) (hp : packs e s = true) : Calls Try.prog 20 #[.int .i64 e, .int .i64 s, .bool l, .bool a, .bool t] w fun x w' => x = .returned (.int .u64 (wordOf e s l a t)) ∧ w' = w := by
  obtain ⟨⟨e0, e1⟩, s0, s1⟩ := packs_iff.1 hp
  obtain ⟨A, hA⟩ : ∃ A, b1 l = A := ⟨_, rfl⟩
  obtain ⟨B, hB⟩ : ∃ B, b1 a = B := ⟨_, rfl⟩
  obtain ⟨C, hC⟩ : ∃ C, b1 t = C := ⟨_, rfl⟩
  obtain ⟨a0, a1⟩ := b1_range l
  obtain ⟨c0, c1⟩ := b1_range a
  obtain ⟨d0, d1⟩ := b1_range t
  have Hl : Hid (∀ u, Calls Try.prog 22 #[.bool l] u fun e w' => e = .returned (.int .u64 A) ∧ w' = u) := fun u => hA ▸ bit_any l u
  have Ha : Hid (∀ u, Calls Try.prog 22 #[.bool a] u fun e w' => e = .returned (.int .u64 B) ∧ w' = u) := fun u => hB ▸ bit_any a u
  have Ht : Hid (∀ u, Calls Try.prog 22 #[.bool t] u fun e w' => e = .returned (.int .u64 C) ∧ w' = u) := fun u => hC ▸ bit_any t u
  have HW : Hid (wordOf e s l a t = e * 8388608 + s * 8 + C * 4 + B * 2 + A) := by show _ = _; unfold wordOf; rw [hA, hB, hC]
  rw [hA] at a0 a1
  rw [hB] at c0 c1
  rw [hC] at d0 d1
  clear hp hA hB hC
  go_enter Try.func20, Try.ntmps20
  go_wp2_with fail
  refine (Ht.out _).mono ?_
  rintro y w1 ⟨rfl, rfl⟩
  go_wp2_with fail
  refine (Ha.out _).mono ?_
  rintro y w1 ⟨rfl, rfl⟩
  go_wp2_with fail
  refine (Hl.out _).mono ?_
  rintro y w1 ⟨rfl, rfl⟩
  go_wp2_with fail
  go_ret
  exact ⟨ret_int HW.out.symm, rfl⟩

set_option maxHeartbeats 1000000 in
theorem rpack_any (e s : Int) (l a t : Bool) (w : World) : Calls Try.prog 8 #[.int .i64 e, .int .i64 s, .bool l, .bool a, .bool t] w fun x w' => x = .returned (.tuple #[.int .u64 (packW e s l a t), .int .i64 (packE e s)]) ∧ w' = w := by
  by_cases hp : packs e s = true
  · obtain ⟨⟨e0, e1⟩, s0, s1⟩ := packs_iff.1 hp
    have HW : Hid (∀ u, Calls Try.prog 20 #[.int .i64 e, .int .i64 s, .bool l, .bool a, .bool t] u fun x w' => x = .returned (.int .u64 (wordOf e s l a t)) ∧ w' = u) := fun u => rword_any e s l a t u hp
    have Hw : Hid (packW e s l a t = wordOf e s l a t) := by show _ = _; unfold packW; rw [if_pos hp]
    have He : Hid (packE e s = 0) := by show _ = _; unfold packE; rw [if_pos hp]
    have e2 : ¬ e < 0 := by omega
    have e3 : ¬ 2147483648 < e := by omega
    have s2 : ¬ s < 0 := by omega
    have s3 : ¬ 1048575 < s := by omega
    clear hp
    go_enter Try.func8, Try.ntmps8
    go_wp2_with fail
    refine (HW.out _).mono ?_
    rintro y w1 ⟨rfl, rfl⟩
    go_wp2_with fail
    go_ret2
    exact ⟨ret_pair Hw.out.symm He.out.symm, rfl⟩
  · have hn : ¬ (((0 ≤ e ∧ e ≤ 2147483648)) ∧ 0 ≤ s ∧ s ≤ 1048575) := fun h => hp (packs_iff.2 h)
    have Hw : Hid (packW e s l a t = 0) := by show _ = _; unfold packW; rw [if_neg hp]
    have He : Hid (packE e s = 1) := by show _ = _; unfold packE; rw [if_neg hp]
    clear hp
    have hq : e < 0 ∨ (¬ e < 0 ∧ 2147483648 < e) ∨ (¬ e < 0 ∧ ¬ 2147483648 < e ∧ s < 0) ∨ (¬ e < 0 ∧ ¬ 2147483648 < e ∧ ¬ s < 0 ∧ 1048575 < s) := by omega
    clear hn
    rcases hq with h1 | ⟨h1, h2⟩ | ⟨h1, h2, h3⟩ | ⟨h1, h2, h3, h4⟩
    all_goals
      go_enter Try.func8, Try.ntmps8
      go_wp2_with fail
      go_ret2
      exact ⟨ret_pair Hw.out.symm He.out.symm, rfl⟩

end Go.Proofs.Ytcifiliigldapaa
