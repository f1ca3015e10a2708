/- Layer 24: the document's words and constants: turn, times, square, cube. -/
import Derived.Test.YtibglhlhogfdnaaDoorQPure
import Derived.Test.YtibglhlhogfdnaaDoorCopy
import Derived.Laws.BitsAllLaws
import Derived.OwnWalk
import Derived.WalkMore
namespace Go.Proofs.YtibglhlhogfdnaaDoor
open Go.RowKit QP

theorem wrapU {x : Int} (h1 : 0 ≤ x) (h2 : x < 18446744073709551616) : IntKind.u64.wrap x = x := by
  simp [IntKind.wrap, IntKind.bits, IntKind.signed]
  omega
theorem wrapI {x : Int} (h1 : -9223372036854775808 ≤ x) (h2 : x ≤ 9223372036854775807) : IntKind.i64.wrap x = x := by
  simp [IntKind.wrap, IntKind.bits, IntKind.signed]
  omega
theorem ret_pair {k l : IntKind} {a b a' b' : Int} (h : a = a') (h' : b = b') : Ending.returned (.tuple #[.int k a, .int l b]) = .returned (.tuple #[.int k a', .int l b']) := by rw [h, h']

theorem turn_any (x b : Nat) (w : World) (hx : x < 4294967296) (hb0 : 0 < b) (hb : b < 32) : Calls Tryd.prog 54 #[.int .u32 x, .int .u64 b] w fun e w' => e = .returned (.int .u32 (rot x b)) ∧ w' = w := by
  have HR : Hid (bits .or .u32 ((x : Int) / 2 ^ b) ((x : Int) * 2 ^ (32 - b) % 4294967296) = ((rot x b : Nat) : Int)) := by
    show _ = _
    have h := u32_or_nat (x / 2 ^ b) (x * 2 ^ (32 - b) % 4294967296) (Nat.lt_of_le_of_lt (Nat.div_le_self _ _) hx) (Nat.mod_lt _ (by decide))
    rw [show ((x / 2 ^ b : Nat) : Int) = (x : Int) / 2 ^ b by simp, show ((x * 2 ^ (32 - b) % 4294967296 : Nat) : Int) = (x : Int) * 2 ^ (32 - b) % 4294967296 by simp] at h
    exact h
  go_enter Tryd.func54, Tryd.ntmps54
  go_wp2_with fail
  go_ret
  exact ⟨by rw [HR.out]; rfl, rfl⟩

theorem and_mask (x : Nat) (h : x < 18446744073709551616) : bits .and .u64 (x : Int) 4294967295 = ((x % 4294967296 : Nat) : Int) := by
  have := u64_and_nat x 4294967295 h (by decide)
  rw [show x &&& 4294967295 = x % 4294967296 from Nat.and_two_pow_sub_one_eq_mod x 32] at this
  exact this
theorem mul_split (a1 a0 b1 b0 : Nat) : (a1 * 4294967296 + a0) * (b1 * 4294967296 + b0) = a1 * b1 * 18446744073709551616 + (a1 * b0 + a0 * b1) * 4294967296 + a0 * b0 := by
  rw [Nat.add_mul, Nat.mul_add, Nat.mul_add]
  have e1 : a1 * 4294967296 * (b1 * 4294967296) = a1 * b1 * 18446744073709551616 := by
    rw [Nat.mul_mul_mul_comm]
  have e2 : a1 * 4294967296 * b0 = a1 * b0 * 4294967296 := by rw [Nat.mul_right_comm]
  have e3 : a0 * (b1 * 4294967296) = a0 * b1 * 4294967296 := by rw [Nat.mul_assoc]
  rw [e1, e2, e3]
  omega

set_option maxRecDepth 100000 in
set_option maxHeartbeats 1000000 in
theorem times_any (x y : Nat) (w : World) (hx : x < 1099511627776) (hy : y < 1099511627776) : Calls Tryd.prog 53 #[.int .u64 x, .int .u64 y] w fun e w' => e = .returned (.tuple #[.int .u64 ((x * y / 18446744073709551616 : Nat) : Int), .int .u64 ((x * y % 18446744073709551616 : Nat) : Int)]) ∧ w' = w := by
  obtain ⟨a1, ea1⟩ : ∃ a, x / 4294967296 = a := ⟨_, rfl⟩
  obtain ⟨a0, ea0⟩ : ∃ a, x % 4294967296 = a := ⟨_, rfl⟩
  obtain ⟨b1, eb1⟩ : ∃ a, y / 4294967296 = a := ⟨_, rfl⟩
  obtain ⟨b0, eb0⟩ : ∃ a, y % 4294967296 = a := ⟨_, rfl⟩
  have ha1 : a1 ≤ 255 := by omega
  have ha0 : a0 ≤ 4294967295 := by omega
  have hb1 : b1 ≤ 255 := by omega
  have hb0 : b0 ≤ 4294967295 := by omega
  have hxy : x * y = a1 * b1 * 18446744073709551616 + (a1 * b0 + a0 * b1) * 4294967296 + a0 * b0 := by
    rw [← mul_split]
    rw [show a1 * 4294967296 + a0 = x by omega, show b1 * 4294967296 + b0 = y by omega]
  obtain ⟨P, eP⟩ : ∃ P, x * y = P := ⟨_, rfl⟩
  rw [eP] at hxy ⊢
  have c11 : a1 * b1 ≤ 255 * 255 := Nat.mul_le_mul ha1 hb1
  have c10 : a1 * b0 ≤ 255 * 4294967295 := Nat.mul_le_mul ha1 hb0
  have c01 : a0 * b1 ≤ 4294967295 * 255 := Nat.mul_le_mul ha0 hb1
  have c00 : a0 * b0 ≤ 4294967295 * 4294967295 := Nat.mul_le_mul ha0 hb0
  have q1 : (x : Int) / 4294967296 = (a1 : Int) := by omega
  have q2 : (y : Int) / 4294967296 = (b1 : Int) := by omega
  have q3 : bits .and .u64 (x : Int) 4294967295 = (a0 : Int) := by rw [and_mask x (by omega), ea0]
  have q4 : bits .and .u64 (y : Int) 4294967295 = (b0 : Int) := by rw [and_mask y (by omega), eb0]
  obtain ⟨p11, e11⟩ : ∃ p, a1 * b1 = p := ⟨_, rfl⟩
  obtain ⟨p10, e10⟩ : ∃ p, a1 * b0 = p := ⟨_, rfl⟩
  obtain ⟨p01, e01⟩ : ∃ p, a0 * b1 = p := ⟨_, rfl⟩
  obtain ⟨p00, e00⟩ : ∃ p, a0 * b0 = p := ⟨_, rfl⟩
  have r11 : (a1 : Int) * (b1 : Int) = (p11 : Int) := by rw [← e11]; exact (Int.natCast_mul _ _).symm
  have r10 : (a1 : Int) * (b0 : Int) = (p10 : Int) := by rw [← e10]; exact (Int.natCast_mul _ _).symm
  have r01 : (a0 : Int) * (b1 : Int) = (p01 : Int) := by rw [← e01]; exact (Int.natCast_mul _ _).symm
  have r00 : (a0 : Int) * (b0 : Int) = (p00 : Int) := by rw [← e00]; exact (Int.natCast_mul _ _).symm
  rw [e11] at c11 hxy
  rw [e10] at c10 hxy
  rw [e01] at c01 hxy
  rw [e00] at c00 hxy
  have w11 : IntKind.u64.wrap (p11 : Int) = (p11 : Int) := wrapU (by omega) (by omega)
  have w10 : IntKind.u64.wrap (p10 : Int) = (p10 : Int) := wrapU (by omega) (by omega)
  have w01 : IntKind.u64.wrap (p01 : Int) = (p01 : Int) := wrapU (by omega) (by omega)
  have w00 : IntKind.u64.wrap (p00 : Int) = (p00 : Int) := wrapU (by omega) (by omega)
  have ws1 : IntKind.u64.wrap ((p10 : Int) + (p01 : Int)) = (p10 : Int) + (p01 : Int) := wrapU (by omega) (by omega)
  obtain ⟨m, em⟩ : ∃ m : Nat, p10 + p01 + p00 / 4294967296 = m := ⟨_, rfl⟩
  have rm : (p10 : Int) + (p01 : Int) + (p00 : Int) / 4294967296 = (m : Int) := by omega
  have wm : IntKind.u64.wrap (m : Int) = (m : Int) := wrapU (by omega) (by omega)
  obtain ⟨lo, elo⟩ : ∃ l : Nat, m * 4294967296 % 18446744073709551616 = l := ⟨_, rfl⟩
  obtain ⟨d, ed⟩ : ∃ m : Nat, p00 % 4294967296 = m := ⟨_, rfl⟩
  have q5 : bits .and .u64 (p00 : Int) 4294967295 = (d : Int) := by rw [and_mask p00 (by omega), ed]
  have rl : (m : Int) * 4294967296 % 18446744073709551616 = (lo : Int) := by omega
  have rl2 : IntKind.u64.wrap ((m : Int) * 4294967296) = (lo : Int) := by
    simp [IntKind.wrap, IntKind.bits, IntKind.signed]
    omega
  have wh : IntKind.u64.wrap ((p11 : Int) + (m : Int) / 4294967296) = (p11 : Int) + (m : Int) / 4294967296 := wrapU (by omega) (by omega)
  have wl : IntKind.u64.wrap ((lo : Int) + (d : Int)) = (lo : Int) + (d : Int) := wrapU (by omega) (by omega)
  have HH : Hid ((p11 : Int) + (m : Int) / 4294967296 = ((P / 18446744073709551616 : Nat) : Int)) := by show _ = _; omega
  have HL : Hid ((lo : Int) + (d : Int) = ((P % 18446744073709551616 : Nat) : Int)) := by show _ = _; omega
  clear ea1 ea0 eb1 eb0 ha1 ha0 hb1 hb0 hxy eP c11 c10 c01 c00 e11 e10 e01 e00 em elo ed hx hy
  go_enter Tryd.func53, Tryd.ntmps53
  go_wp2_with fail
  go_ret2
  exact ⟨ret_pair HH.out HL.out, rfl⟩
end Go.Proofs.YtibglhlhogfdnaaDoor
