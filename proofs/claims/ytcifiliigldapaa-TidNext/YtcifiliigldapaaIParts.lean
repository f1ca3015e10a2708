/- TidParts's and TidOrder's walks. -/
import Derived.Test.YtcifiliigldapaaIRefN
namespace Go.Proofs.Ytcifiliigldapaa
open Go.RowKit

/-- a word's parts, as they come in -/
structure PartsV where
  e : Int
  s : Int
  l : Bool
  a : Bool
  t : Bool
abbrev PartsV.agg (p : PartsV) : Value := .agg #[.int .i64 p.e, .int .i64 p.s, .bool p.l, .bool p.a, .bool p.t]

theorem neB_self (x : Int) : (x != x) = false := by simp

namespace PartsL

set_option maxRecDepth 100000 in
set_option maxHeartbeats 1000000 in
theorem walk (p : PartsV) (x : Int) (w : World) (h0 : 0 ≤ x) (h1 : x < 18446744073709551616) :
    Calls Try.prog 3 #[p.agg, .int .u64 x] w fun e w' => e = .returned (.bool true) ∧ Below w.heap.size w w' := by
  obtain ⟨e, s, l, a, t⟩ := p
  have HP : Hid (∀ u, Calls Try.prog 7 #[.int .i64 e, .int .i64 s, .bool l, .bool a, .bool t] u fun x w' => x = .returned (.tuple #[.int .u64 (packW e s l a t), .int .i64 (packE e s)]) ∧ w' = u) := fun u => pack_any e s l a t u
  have HR : Hid (∀ u, Calls Try.prog 8 #[.int .i64 e, .int .i64 s, .bool l, .bool a, .bool t] u fun x w' => x = .returned (.tuple #[.int .u64 (packW e s l a t), .int .i64 (packE e s)]) ∧ w' = u) := fun u => rpack_any e s l a t u
  obtain ⟨A, hA⟩ : ∃ A, packW e s l a t = A := ⟨_, rfl⟩
  obtain ⟨E, hE⟩ : ∃ E, packE e s = E := ⟨_, rfl⟩
  obtain ⟨M, hM⟩ : ∃ M, num x = M := ⟨_, rfl⟩
  have HN : Hid (∀ u, Calls Try.prog 9 #[.int .u64 x] u fun e w' => e = .returned (.int .u64 M) ∧ w' = u) := fun u => hM ▸ number_any x u h0 h1
  have HM : Hid (∀ u, Calls Try.prog 10 #[.int .u64 x] u fun e w' => e = .returned (.int .u64 M) ∧ w' = u) := fun u => hM ▸ rnumber_any x u h0 h1
  rw [hA, hE] at HP HR
  have k1 := neB_self A
  have k2 := neB_self E
  have k3 := neB_self M
  clear hA hE hM
  by_cases hm : may x = true
  · obtain ⟨y, hy⟩ : ∃ y, x / 8388608 = y := ⟨_, rfl⟩
    obtain ⟨z, hz⟩ : ∃ z, x / 8 % 1048576 = z := ⟨_, rfl⟩
    obtain ⟨bl, hbl⟩ : ∃ b, (x % 2 != 0) = b := ⟨_, rfl⟩
    obtain ⟨ba, hba⟩ : ∃ b, (x / 2 % 2 * 2 != 0) = b := ⟨_, rfl⟩
    obtain ⟨bt, hbt⟩ : ∃ b, (x / 4 % 2 * 4 != 0) = b := ⟨_, rfl⟩
    have hye := may_epoch hm
    have hy0 : 0 ≤ y := by omega
    have hy1 : y ≤ 2147483648 := by omega
    have HU : Hid (∀ u, Calls Try.prog 11 #[.int .u64 x] u fun e w' => e = .returned (.tuple #[.int .i64 y, .int .i64 z, .bool bl, .bool ba, .bool bt, .int .i64 0]) ∧ w' = u) := fun u => (unpack_yes x u h0 h1 hm).mono fun e w' h => by rw [hy, hz, hbl, hba, hbt] at h; exact h
    have HY : Hid (∀ u, Calls Try.prog 12 #[.int .u64 x] u fun e w' => e = .returned (.bool true) ∧ w' = u) := fun u => (rmay_any x u h0 h1).mono fun e w' h => by rw [hm] at h; exact h
    have HEp : Hid (∀ u, Calls Try.prog 14 #[.int .u64 x] u fun e w' => e = .returned (.int .u64 y) ∧ w' = u) := fun u => (repoch_any x u h0 h1).mono fun e w' h => by rw [hy] at h; exact h
    have HSq : Hid (∀ u, Calls Try.prog 15 #[.int .u64 x] u fun e w' => e = .returned (.int .i64 z) ∧ w' = u) := fun u => (rseq_any x u h0 h1).mono fun e w' h => by rw [hz] at h; exact h
    have c1 : (x % 2 == 1) = bl := by rw [← hbl, Bool.eq_iff_iff]; simp; omega
    have c2 : (x / 2 % 2 == 1) = ba := by rw [← hba, Bool.eq_iff_iff]; simp; omega
    have c3 : (x / 4 % 2 == 1) = bt := by rw [← hbt, Bool.eq_iff_iff]; simp; omega
    have c4 : (y == y) = true := by simp
    have c5 : (z == z) = true := by simp
    have c6 : (bl == bl) = true := by simp
    have c7 : (ba == ba) = true := by simp
    have c8 : (bt == bt) = true := by simp
    clear hm hy hz hbl hba hbt hye
    go_enter Try.func3, Try.ntmps3
    go_wp2_with (first | (go_at_call 7; refine (HP.out _).mono ?_; rintro y w1 ⟨rfl, rfl⟩) | (go_at_call 8; refine (HR.out _).mono ?_; rintro y w1 ⟨rfl, rfl⟩) | (go_at_call 9; refine (HN.out _).mono ?_; rintro y w1 ⟨rfl, rfl⟩) | (go_at_call 10; refine (HM.out _).mono ?_; rintro y w1 ⟨rfl, rfl⟩) | (go_at_call 11; refine (HU.out _).mono ?_; rintro y w1 ⟨rfl, rfl⟩) | (go_at_call 12; refine (HY.out _).mono ?_; rintro y w1 ⟨rfl, rfl⟩) | (go_at_call 14; refine (HEp.out _).mono ?_; rintro y w1 ⟨rfl, rfl⟩) | (go_at_call 15; refine (HSq.out _).mono ?_; rintro y w1 ⟨rfl, rfl⟩))
    refine (works_any _).mono ?_
    rintro y w2 ⟨rfl, hb2⟩
    go_wp2_with fail
    go_ret
    exact ⟨rfl, ((Below.refl _ _).alloc (Nat.le_refl _) _).trans (hb2.mono (by simp))⟩
  · have hm' : may x = false := by simpa using hm
    have HU : Hid (∀ u, Calls Try.prog 11 #[.int .u64 x] u fun y w' => y = .returned (.tuple #[.int .i64 0, .int .i64 0, .bool false, .bool false, .bool false, .int .i64 90]) ∧ w' = u) := fun u => unpack_no x u h0 h1 hm'
    have HY : Hid (∀ u, Calls Try.prog 12 #[.int .u64 x] u fun e w' => e = .returned (.bool false) ∧ w' = u) := fun u => (rmay_any x u h0 h1).mono fun e w' h => by rw [hm'] at h; exact h
    clear hm hm'
    go_enter Try.func3, Try.ntmps3
    go_wp2_with (first | (go_at_call 7; refine (HP.out _).mono ?_; rintro y w1 ⟨rfl, rfl⟩) | (go_at_call 8; refine (HR.out _).mono ?_; rintro y w1 ⟨rfl, rfl⟩) | (go_at_call 9; refine (HN.out _).mono ?_; rintro y w1 ⟨rfl, rfl⟩) | (go_at_call 10; refine (HM.out _).mono ?_; rintro y w1 ⟨rfl, rfl⟩) | (go_at_call 11; refine (HU.out _).mono ?_; rintro y w1 ⟨rfl, rfl⟩) | (go_at_call 12; refine (HY.out _).mono ?_; rintro y w1 ⟨rfl, rfl⟩))
    refine (works_any _).mono ?_
    rintro y w2 ⟨rfl, hb2⟩
    go_wp2_with fail
    go_ret
    exact ⟨rfl, ((Below.refl _ _).alloc (Nat.le_refl _) _).trans (hb2.mono (by simp))⟩

end PartsL
end Go.Proofs.Ytcifiliigldapaa
