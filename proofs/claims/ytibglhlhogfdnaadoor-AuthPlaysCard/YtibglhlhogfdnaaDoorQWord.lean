/- The program's small words: right, chosen, most. -/
import Derived.Test.YtibglhlhogfdnaaDoorQRefB
namespace Go.Proofs.YtibglhlhogfdnaaDoor
open Go.RowKit QP

theorem ch_or {e : Nat} (f g : Nat) (he : e < 4294967296) : (e &&& f) ||| ((4294967295 - e) &&& g) = ch e f g := by
  unfold ch
  rw [← not_is he]
  apply Nat.eq_of_testBit_eq
  intro i
  simp only [Nat.testBit_or, Nat.testBit_and, Nat.testBit_xor]
  have hi : e.testBit i = true → (4294967295 : Nat).testBit i = true := fun h => by
    have h1 : i < 32 := by
      rcases Nat.lt_or_ge i 32 with h2 | h2
      · exact h2
      · rw [Nat.testBit_lt_two_pow (Nat.lt_of_lt_of_le he (Nat.pow_le_pow_right (by decide : 0 < 2) h2))] at h
        cases h
    rw [show (4294967295 : Nat) = 2 ^ 32 - 1 from rfl, Nat.testBit_two_pow_sub_one]
    exact decide_eq_true h1
  cases h1 : e.testBit i <;> cases f.testBit i <;> cases g.testBit i <;> cases h2 : (4294967295 : Nat).testBit i <;> first | rfl | (exact absurd (hi h1) (by rw [h2]; decide))
theorem maj_or (a b c : Nat) : (a &&& b) ||| (a &&& c) ||| (b &&& c) = maj a b c := by
  unfold maj
  apply Nat.eq_of_testBit_eq
  intro i
  simp only [Nat.testBit_or, Nat.testBit_and, Nat.testBit_xor]
  cases a.testBit i <;> cases b.testBit i <;> cases c.testBit i <;> rfl

theorem rotl_any (x n : Nat) (w : World) (hx : x < 4294967296) (hn0 : 0 < n) (hn : n < 32) : Calls Tryd.prog 73 #[.int .u32 x, .int .i64 (-(n : Int))] w fun e w' => e = .returned (.int .u32 (rot x n)) ∧ w' = w := by
  obtain ⟨s, hs⟩ : ∃ s, 32 - n = s := ⟨_, rfl⟩
  have hs1 : 0 < s := by omega
  have hs2 : s < 32 := by omega
  have hns : n = 32 - s := by omega
  have w0 : IntKind.u64.wrap (-(n : Int)) = 18446744073709551616 - (n : Int) := by
    simp [IntKind.wrap, IntKind.bits, IntKind.signed]
    omega
  have w0' : (-(n : Int)) % 18446744073709551616 = 18446744073709551616 - (n : Int) := by omega
  have a0 : bits .and .u64 (18446744073709551616 - (n : Int)) 31 = (s : Int) := by
    have h := u64_and_nat (18446744073709551616 - n) 31 (by omega) (by decide)
    rw [show (18446744073709551616 - n) &&& 31 = (18446744073709551616 - n) % 32 from Nat.and_two_pow_sub_one_eq_mod _ 5] at h
    rw [show ((18446744073709551616 - n : Nat) : Int) = 18446744073709551616 - (n : Int) by omega] at h
    rw [show (31 : Int) = ((31 : Nat) : Int) from rfl, h]
    omega
  have HR : Hid (bits .or .u32 ((x : Int) * 2 ^ s % 4294967296) ((x : Int) / 2 ^ (32 - s)) = ((rot x n : Nat) : Int)) := by
    show _ = _
    have h := u32_or_nat (x * 2 ^ s % 4294967296) (x / 2 ^ (32 - s)) (Nat.mod_lt _ (by decide)) (Nat.lt_of_le_of_lt (Nat.div_le_self _ _) hx)
    rw [show ((x / 2 ^ (32 - s) : Nat) : Int) = (x : Int) / 2 ^ (32 - s) by simp, show ((x * 2 ^ s % 4294967296 : Nat) : Int) = (x : Int) * 2 ^ s % 4294967296 by simp] at h
    rw [h, Nat.or_comm]
    unfold rot
    rw [hs, ← hns]
  have w1 : IntKind.u64.wrap (32 - (s : Int)) = 32 - (s : Int) := wrapU (by omega) (by omega)
  have e1 : (32 - (s : Int)).toNat = 32 - s := by omega
  clear hs hns
  go_enter Tryd.func73, Tryd.ntmps73
  go_wp2_with fail
  go_ret
  exact ⟨by rw [HR.out]; rfl, rfl⟩

theorem right_any (x n : Nat) (w : World) (hx : x < 4294967296) (hn0 : 0 < n) (hn : n < 32) : Calls Tryd.prog 59 #[.int .u32 x, .int .i64 (n : Int)] w fun e w' => e = .returned (.int .u32 (rot x n)) ∧ w' = w := by
  have HC : Hid (∀ u, Calls Tryd.prog 73 #[.int .u32 x, .int .i64 (-(n : Int))] u fun e w' => e = .returned (.int .u32 (rot x n)) ∧ w' = u) := fun u => rotl_any x n u hx hn0 hn
  have w0 : IntKind.i64.wrap (-(n : Int)) = -(n : Int) := wrapI (by omega) (by omega)
  go_enter Tryd.func59, Tryd.ntmps59
  go_wp2_with fail
  refine (HC.out _).mono ?_
  rintro y w2 ⟨rfl, rfl⟩
  go_wp2_with fail
  go_ret
  exact ⟨rfl, rfl⟩

theorem chosen_any (e f g : Nat) (w : World) (he : e < 4294967296) (hf : f < 4294967296) (hg : g < 4294967296) : Calls Tryd.prog 60 #[.int .u32 e, .int .u32 f, .int .u32 g] w fun r w' => r = .returned (.int .u32 (ch e f g)) ∧ w' = w := by
  have HC : Hid ((e &&& f) ||| ((4294967295 - e) &&& g) = ch e f g) := ch_or f g he
  obtain ⟨a, ha⟩ : ∃ a, e &&& f = a := ⟨_, rfl⟩
  obtain ⟨m, hm⟩ : ∃ m, 4294967295 - e = m := ⟨_, rfl⟩
  obtain ⟨b, hb⟩ : ∃ b, m &&& g = b := ⟨_, rfl⟩
  obtain ⟨c, hc⟩ : ∃ c, a ||| b = c := ⟨_, rfl⟩
  have ba : a < 4294967296 := by rw [← ha]; exact and_lt _ he
  have bb : b < 4294967296 := by rw [← hb]; exact and_lt _ (by omega)
  have k1 : bits .and .u32 (e : Int) (f : Int) = (a : Int) := by rw [u32_and_nat e f he hf, ha]
  have k2 : bits .xor .u32 IntKind.u32.max (e : Int) = (m : Int) := by
    have h := u32_xor_nat 4294967295 e (by decide) he
    rw [not_is he, hm] at h
    exact h
  have k3 : bits .and .u32 (m : Int) (g : Int) = (b : Int) := by rw [u32_and_nat m g (by omega) hg, hb]
  have k4 : bits .or .u32 (a : Int) (b : Int) = (c : Int) := by rw [u32_or_nat a b ba bb, hc]
  have HE : Hid (c = ch e f g) := by show _ = _; rw [← HC.out, ha, hm, hb, hc]
  clear HC ha hm hb hc
  go_enter Tryd.func60, Tryd.ntmps60
  go_wp2_with fail
  go_ret
  exact ⟨by rw [← HE.out]; rfl, rfl⟩

theorem most_any (a b c : Nat) (w : World) (ha : a < 4294967296) (hb : b < 4294967296) (hc : c < 4294967296) : Calls Tryd.prog 61 #[.int .u32 a, .int .u32 b, .int .u32 c] w fun r w' => r = .returned (.int .u32 (maj a b c)) ∧ w' = w := by
  have HC : Hid ((a &&& b) ||| (a &&& c) ||| (b &&& c) = maj a b c) := maj_or a b c
  obtain ⟨x, hx⟩ : ∃ x, a &&& b = x := ⟨_, rfl⟩
  obtain ⟨y, hy⟩ : ∃ y, a &&& c = y := ⟨_, rfl⟩
  obtain ⟨z, hz⟩ : ∃ z, b &&& c = z := ⟨_, rfl⟩
  obtain ⟨u, hu⟩ : ∃ u, x ||| y = u := ⟨_, rfl⟩
  obtain ⟨v, hv⟩ : ∃ v, u ||| z = v := ⟨_, rfl⟩
  have bx : x < 4294967296 := by rw [← hx]; exact and_lt _ ha
  have bY : y < 4294967296 := by rw [← hy]; exact and_lt _ ha
  have bz : z < 4294967296 := by rw [← hz]; exact and_lt _ hb
  have bu : u < 4294967296 := by rw [← hu]; exact or_lt bx bY
  have k1 : bits .and .u32 (a : Int) (b : Int) = (x : Int) := by rw [u32_and_nat a b ha hb, hx]
  have k2 : bits .and .u32 (a : Int) (c : Int) = (y : Int) := by rw [u32_and_nat a c ha hc, hy]
  have k3 : bits .and .u32 (b : Int) (c : Int) = (z : Int) := by rw [u32_and_nat b c hb hc, hz]
  have k4 : bits .or .u32 (x : Int) (y : Int) = (u : Int) := by rw [u32_or_nat x y bx bY, hu]
  have k5 : bits .or .u32 (u : Int) (z : Int) = (v : Int) := by rw [u32_or_nat u z bu bz, hv]
  have HE : Hid (v = maj a b c) := by show _ = _; rw [← HC.out, hx, hy, hz, hu, hv]
  clear HC hx hy hz hu hv
  go_enter Tryd.func61, Tryd.ntmps61
  go_wp2_with fail
  go_ret
  exact ⟨by rw [← HE.out]; rfl, rfl⟩
end Go.Proofs.YtibglhlhogfdnaaDoor
