/- Layer 12's bits: a place's bits, those ahead of it. Nothing here speaks of a program. -/
import Derived.Test.YtoknebbkpkcomaaNPure
namespace Go.Proofs.Ytoknebbkpkcomaa

theorem and_low {X n : Nat} (hX : X < 18446744073709551616) (hn : n ≤ 60) : bits .and .u64 (X : Int) (((2 ^ n : Nat) : Int) - 1) = ((X % 2 ^ n : Nat) : Int) := by
  have h1 : 2 ^ n ≤ 2 ^ 60 := Nat.pow_le_pow_right (by decide) hn
  have h2 : 0 < 2 ^ n := Nat.pow_pos (by decide)
  have h := u64_and_nat X (2 ^ n - 1) hX (by omega)
  rw [Nat.and_two_pow_sub_one_eq_mod] at h
  rw [← h]
  congr 1
  omega

theorem nat_high {X n : Nat} (hX : X < 18446744073709551616) (hn : n ≤ 60) : X &&& (18446744073709551616 - 2 ^ n) = X - X % 2 ^ n := by
  have hp : 0 < 2 ^ n := Nat.pow_pos (by decide)
  have e : 18446744073709551616 = 2 ^ n * 2 ^ (64 - n) := by
    rw [← Nat.pow_add, show n + (64 - n) = 64 by omega]
  have e2 : 18446744073709551616 - 2 ^ n = 2 ^ n * (2 ^ (64 - n) - 1) := by rw [e, Nat.mul_sub, Nat.mul_one]
  have h1 : (X &&& (18446744073709551616 - 2 ^ n)) / 2 ^ n = X / 2 ^ n &&& (18446744073709551616 - 2 ^ n) / 2 ^ n := Nat.and_div_two_pow
  have h2 : (X &&& (18446744073709551616 - 2 ^ n)) % 2 ^ n = X % 2 ^ n &&& (18446744073709551616 - 2 ^ n) % 2 ^ n := Nat.and_mod_two_pow
  have h3 : (18446744073709551616 - 2 ^ n) / 2 ^ n = 2 ^ (64 - n) - 1 := by rw [e2, Nat.mul_div_cancel_left _ hp]
  have h4 : (18446744073709551616 - 2 ^ n) % 2 ^ n = 0 := by rw [e2, Nat.mul_mod_right]
  rw [h3, Nat.and_two_pow_sub_one_eq_mod] at h1
  rw [h4, Nat.and_zero] at h2
  have h5 : X / 2 ^ n % 2 ^ (64 - n) = X / 2 ^ n := Nat.mod_eq_of_lt (by rw [Nat.div_lt_iff_lt_mul hp, Nat.mul_comm, ← e]; exact hX)
  rw [h5] at h1
  have h6 := Nat.div_add_mod (X &&& (18446744073709551616 - 2 ^ n)) (2 ^ n)
  have h7 := Nat.div_add_mod X (2 ^ n)
  rw [h1, h2] at h6
  omega

theorem andNot_low {X n : Nat} (hX : X < 18446744073709551616) (hn : n ≤ 60) : bits .andNot .u64 (X : Int) (((2 ^ n : Nat) : Int) - 1) = ((X - X % 2 ^ n : Nat) : Int) := by
  have h1 : 2 ^ n ≤ 2 ^ 60 := Nat.pow_le_pow_right (by decide) hn
  have h2 : 0 < 2 ^ n := Nat.pow_pos (by decide)
  have h := u64_andNot_nat X (2 ^ n - 1) hX (by omega)
  rw [show 18446744073709551615 - (2 ^ n - 1) = 18446744073709551616 - 2 ^ n by omega, nat_high hX hn] at h
  rw [← h]
  congr 1
  omega

/-- low bits and high ones -/
theorem or_low {A B n : Nat} (hA : A < 2 ^ n) (hB : B % 2 ^ n = 0) (hA1 : A < 18446744073709551616) (hB1 : B < 18446744073709551616) : bits .or .u64 (A : Int) (B : Int) = ((A + B : Nat) : Int) := by
  have h := u64_or_nat A B hA1 hB1
  rw [h]
  congr 1
  have e := Nat.div_add_mod B (2 ^ n)
  rw [hB, Nat.add_zero] at e
  have h2 := Nat.two_pow_add_eq_or_of_lt hA (B / 2 ^ n)
  rw [e] at h2
  rw [Nat.or_comm, ← h2, Nat.add_comm]

theorem and_15 {W : Int} (h0 : 0 ≤ W) (h1 : W < 18446744073709551616) : bits .and .u64 W 15 = W % 16 := by
  obtain ⟨X, rfl⟩ := Int.eq_ofNat_of_zero_le h0
  have h := and_low (X := X) (n := 4) (by omega) (by decide)
  exact h.trans (by omega)

theorem or_told {l : List Nat} (h : Dig l) {x : Nat} (hx : x < 16) : bits .or .u64 ((told l : Nat) : Int) ((2 ^ x : Nat) : Int) = ((told (l ++ [x]) : Nat) : Int) := by
  have h1 := told_lt h
  have h3 : 2 ^ x < 2 ^ 16 := Nat.pow_lt_pow_right (by decide) hx
  rw [u64_or_nat _ _ (by omega) (by omega), told_snoc]

/-- what the shifts by a place's lowest bit make -/
theorem shift_pw {a : Nat} (ha : a ≤ 14) {K : Int} (hK : K = 4 * ((a : Int) + 1)) : (2 : Int) ^ min K.toNat 64 = ((pw a : Nat) : Int) := by
  have e : K.toNat = 4 * (a + 1) := by omega
  rw [e, Nat.min_eq_left (by omega), pw_two]
  exact (Int.natCast_pow 2 _).symm
theorem shift_two {x : Nat} (hx : x < 16) : (2 : Int) ^ min ((x : Int)).toNat 64 = ((2 ^ x : Nat) : Int) := by
  rw [Int.toNat_natCast, Nat.min_eq_left (by omega)]
  exact (Int.natCast_pow 2 _).symm

end Go.Proofs.Ytoknebbkpkcomaa
