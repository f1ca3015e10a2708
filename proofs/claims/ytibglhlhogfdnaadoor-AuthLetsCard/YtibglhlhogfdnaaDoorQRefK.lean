/- Layer 24: the document's constants: square, cube. -/
import Derived.Test.YtibglhlhogfdnaaDoorQRefC
namespace Go.Proofs.YtibglhlhogfdnaaDoor
open Go.RowKit QP

theorem sqF_succ (p k r : Nat) : sqF p (k + 1) r = sqF p k (if (r + 2 ^ k) * (r + 2 ^ k) ≤ p * 18446744073709551616 then r + 2 ^ k else r) := rfl
theorem cbF_succ (p k r : Nat) : cbF p (k + 1) r = cbF p k (if (r + 2 ^ k) * (r + 2 ^ k) * (r + 2 ^ k) ≤ p * 79228162514264337593543950336 then r + 2 ^ k else r) := rfl
theorem le_words (x p : Nat) : x ≤ p * 18446744073709551616 ↔ x / 18446744073709551616 < p ∨ (x / 18446744073709551616 = p ∧ x % 18446744073709551616 = 0) := by omega

theorem sq_end {p r : Nat} (h : sqF p 0 r = sqF p 38 0) : r % 4294967296 = sq p := by
  unfold sq
  rw [← h]
  rfl

set_option maxRecDepth 100000 in
set_option maxHeartbeats 1000000 in
theorem square_any (p : Nat) (w : World) : Calls Tryd.prog 39 #[.int .u64 p] w fun e w' => e = .returned (.int .u32 (sq p)) ∧ w' = w := by
  go_enter Tryd.func39, Tryd.ntmps39
  go_wp2_with fail
  go_loop [3, 4] (fun rv iv => ∃ (j r : Nat) (i : Int), j ≤ 38 ∧ iv = .int .i64 i ∧ i = (j : Int) - 1 ∧ rv = .int .u64 r ∧ Hid (r + 2 ^ j ≤ 2 ^ 38) ∧ Hid (sqF p j r = sqF p 38 0)) (fun _ iv => ((intOf iv) + 1).toNat)
  case atStart => exact ⟨38, 0, 37, by omega, rfl, by omega, rfl, (by show _ ≤ _; decide), (rfl : _ = _)⟩
  case round =>
    obtain ⟨j, r, i, hj, rfl, hi, rfl, HB, HS⟩ := hrel
    cases j with
    | zero =>
      have hi' : i = -1 := by omega
      subst hi'
      clear hi
      go_wp2_with fail
      go_ret
      exact ⟨ret_int (by rw [← sq_end HS.out]; simp), rfl⟩
    | succ b =>
      have hi' : i = (b : Int) := by omega
      subst hi'
      clear hi
      have hb := HB.out
      have HSs := HS.out
      rw [Nat.pow_succ] at hb
      rw [sqF_succ] at HSs
      obtain ⟨t, et⟩ : ∃ t, 2 ^ b = t := ⟨_, rfl⟩
      have HT : Hid (2 ^ b = t) := et
      rw [et] at hb HSs
      have h38 : (2 : Nat) ^ 38 = 274877906944 := by decide
      have h1 : 1 ≤ t := by rw [← et]; exact Nat.one_le_two_pow
      obtain ⟨x, ex⟩ : ∃ x, r + t = x := ⟨_, rfl⟩
      rw [ex] at HSs
      have hx : x < 274877906944 := by omega
      have etI : (2 : Int) ^ b = (t : Int) := by rw [← et]; simp
      have wt : IntKind.u64.wrap (t : Int) = (t : Int) := wrapU (by omega) (by omega)
      have wx : IntKind.u64.wrap ((r : Int) + (t : Int)) = (x : Int) := by rw [wrapU (by omega) (by omega)]; omega
      have HC : Hid (∀ u, Calls Tryd.prog 53 #[.int .u64 x, .int .u64 x] u fun e w' => e = .returned (.tuple #[.int .u64 ((x * x / 18446744073709551616 : Nat) : Int), .int .u64 ((x * x % 18446744073709551616 : Nat) : Int)]) ∧ w' = u) := fun u => times_any x x u (by omega) (by omega)
      have hle := le_words (x * x) p
      obtain ⟨h, eh⟩ : ∃ h, x * x / 18446744073709551616 = h := ⟨_, rfl⟩
      obtain ⟨l, el⟩ : ∃ h, x * x % 18446744073709551616 = h := ⟨_, rfl⟩
      rw [eh, el] at HC hle
      have HX : Hid (x + 2 ^ b ≤ 2 ^ 38) := by show _ ≤ _; rw [HT.out]; omega
      have HRb : Hid (r + 2 ^ b ≤ 2 ^ 38) := by show _ ≤ _; rw [HT.out]; omega
      have HYes : Hid ((h < p ∨ h = p ∧ l = 0) → sqF p b x = sqF p 38 0) := fun hh => by rw [if_pos (hle.2 hh)] at HSs; exact HSs
      have HNo : Hid (¬ (h < p ∨ h = p ∧ l = 0) → sqF p b r = sqF p 38 0) := fun hh => by rw [if_neg (fun h => hh (hle.1 h))] at HSs; exact HSs
      have wb : IntKind.i64.wrap ((b : Int) - 1) = (b : Int) - 1 := wrapI (by omega) (by omega)
      clear HB HS hb HSs et HT h38 h1 hle eh el ex
      by_cases c1 : h < p
      · have c1I : (h : Int) < (p : Int) := by omega
        have d1 : decide ((h : Int) < (p : Int)) = true := decide_eq_true c1I
        go_wp2_with (go_at_call 53; go_must (refine (HC.out _).mono ?_; rintro y w2 ⟨rfl, rfl⟩))
        go_round
        case rel => exact ⟨b, x, (b : Int) - 1, by omega, rfl, rfl, rfl, HX, HYes.out (Or.inl c1)⟩
        case measure => simp [intOf]
      · have c1I : ¬ (h : Int) < (p : Int) := by omega
        have d1 : decide ((h : Int) < (p : Int)) = false := decide_eq_false c1I
        by_cases c2 : h = p
        · have c2b : ((h : Int) == (p : Int)) = true := by rw [c2]; simp
          by_cases c3 : l = 0
          · have HY : Hid (sqF p b x = sqF p 38 0) := HYes.out (Or.inr ⟨c2, c3⟩)
            subst c3
            go_wp2_with (go_at_call 53; go_must (refine (HC.out _).mono ?_; rintro y w2 ⟨rfl, rfl⟩))
            go_round
            case rel => exact ⟨b, x, (b : Int) - 1, by omega, rfl, rfl, rfl, HX, HY⟩
            case measure => simp [intOf]
          · have c3b : ((l : Int) == 0) = false := by simp; omega
            have HN : Hid (sqF p b r = sqF p 38 0) := HNo.out (by omega)
            clear c3
            go_wp2_with (go_at_call 53; go_must (refine (HC.out _).mono ?_; rintro y w2 ⟨rfl, rfl⟩))
            go_round
            case rel => exact ⟨b, r, (b : Int) - 1, by omega, rfl, rfl, rfl, HRb, HN⟩
            case measure => simp [intOf]
        · have c2b : ((h : Int) == (p : Int)) = false := by simp; omega
          have HN : Hid (sqF p b r = sqF p 38 0) := HNo.out (by omega)
          clear c2
          go_wp2_with (go_at_call 53; go_must (refine (HC.out _).mono ?_; rintro y w2 ⟨rfl, rfl⟩))
          go_round
          case rel => exact ⟨b, r, (b : Int) - 1, by omega, rfl, rfl, rfl, HRb, HN⟩
          case measure => simp [intOf]

theorem cube_words (H l1 l0 x1 x0 : Nat) : (H * 18446744073709551616 + l1 * 4294967296 + l0) * (x1 * 4294967296 + x0) = H * x1 * 79228162514264337593543950336 + (H * x0 + l1 * x1) * 18446744073709551616 + (l1 * x0 + l0 * x1) * 4294967296 + l0 * x0 := by
  rw [Nat.add_mul, Nat.add_mul, Nat.mul_add, Nat.mul_add, Nat.mul_add]
  have e1 : H * 18446744073709551616 * (x1 * 4294967296) = H * x1 * 79228162514264337593543950336 := by rw [Nat.mul_mul_mul_comm]
  have e2 : H * 18446744073709551616 * x0 = H * x0 * 18446744073709551616 := by rw [Nat.mul_right_comm]
  have e3 : l1 * 4294967296 * (x1 * 4294967296) = l1 * x1 * 18446744073709551616 := by rw [Nat.mul_mul_mul_comm]
  have e4 : l1 * 4294967296 * x0 = l1 * x0 * 4294967296 := by rw [Nat.mul_right_comm]
  have e5 : l0 * (x1 * 4294967296) = l0 * x1 * 4294967296 := by rw [Nat.mul_assoc]
  rw [e1, e2, e3, e4, e5]
  omega
theorem cb_end {p r : Nat} (h : cbF p 0 r = cbF p 36 0) : r % 4294967296 = cb p := by
  unfold cb
  rw [← h]
  rfl

set_option maxRecDepth 100000 in
set_option maxHeartbeats 4000000 in
theorem cube_any (p : Nat) (w : World) (hp : p < 4096) : Calls Tryd.prog 40 #[.int .u64 p] w fun e w' => e = .returned (.int .u32 (cb p)) ∧ w' = w := by
  go_enter Tryd.func40, Tryd.ntmps40
  go_wp2_with fail
  go_loop [3, 4] (fun rv iv => ∃ (j r : Nat) (i : Int), j ≤ 36 ∧ iv = .int .i64 i ∧ i = (j : Int) - 1 ∧ rv = .int .u64 r ∧ Hid (r + 2 ^ j ≤ 2 ^ 36) ∧ Hid (cbF p j r = cbF p 36 0)) (fun _ iv => ((intOf iv) + 1).toNat)
  case atStart => exact ⟨36, 0, 35, by omega, rfl, by omega, rfl, (by show _ ≤ _; decide), (rfl : _ = _)⟩
  case round =>
    obtain ⟨j, r, i, hj, rfl, hi, rfl, HB, HS⟩ := hrel
    cases j with
    | zero =>
      have hi' : i = -1 := by omega
      subst hi'
      clear hi
      go_wp2_with fail
      go_ret
      exact ⟨ret_int (by rw [← cb_end HS.out]; simp), rfl⟩
    | succ b =>
      have hi' : i = (b : Int) := by omega
      subst hi'
      clear hi
      have hb := HB.out
      have HSs := HS.out
      rw [Nat.pow_succ] at hb
      rw [cbF_succ] at HSs
      obtain ⟨t, et⟩ : ∃ t, 2 ^ b = t := ⟨_, rfl⟩
      have HT : Hid (2 ^ b = t) := et
      rw [et] at hb HSs
      have h36 : (2 : Nat) ^ 36 = 68719476736 := by decide
      have h1 : 1 ≤ t := by rw [← et]; exact Nat.one_le_two_pow
      obtain ⟨x, ex⟩ : ∃ x, r + t = x := ⟨_, rfl⟩
      rw [ex] at HSs
      have hx : x < 68719476736 := by omega
      have etI : (2 : Int) ^ b = (t : Int) := by rw [← et]; simp
      have wt : IntKind.u64.wrap (t : Int) = (t : Int) := wrapU (by omega) (by omega)
      have wx : IntKind.u64.wrap ((r : Int) + (t : Int)) = (x : Int) := by rw [wrapU (by omega) (by omega)]; omega
      have HC : Hid (∀ u, Calls Tryd.prog 53 #[.int .u64 x, .int .u64 x] u fun e w' => e = .returned (.tuple #[.int .u64 ((x * x / 18446744073709551616 : Nat) : Int), .int .u64 ((x * x % 18446744073709551616 : Nat) : Int)]) ∧ w' = u) := fun u => times_any x x u (by omega) (by omega)
      have hxx : x * x ≤ 68719476735 * 68719476735 := Nat.mul_le_mul (by omega) (by omega)
      obtain ⟨X, eX⟩ : ∃ X, x * x = X := ⟨_, rfl⟩
      rw [eX] at HC HSs hxx
      obtain ⟨h, eh⟩ : ∃ h, X / 18446744073709551616 = h := ⟨_, rfl⟩
      obtain ⟨l, el⟩ : ∃ h, X % 18446744073709551616 = h := ⟨_, rfl⟩
      rw [eh, el] at HC
      obtain ⟨l0, el0⟩ : ∃ a, l % 4294967296 = a := ⟨_, rfl⟩
      obtain ⟨l1, el1⟩ : ∃ a, l / 4294967296 = a := ⟨_, rfl⟩
      obtain ⟨x0, ex0⟩ : ∃ a, x % 4294967296 = a := ⟨_, rfl⟩
      obtain ⟨x1, ex1⟩ : ∃ a, x / 4294967296 = a := ⟨_, rfl⟩
      have hcw := cube_words h l1 l0 x1 x0
      rw [show h * 18446744073709551616 + l1 * 4294967296 + l0 = X by omega, show x1 * 4294967296 + x0 = x by omega] at hcw
      have b1 : h * x1 ≤ 255 * 15 := Nat.mul_le_mul (by omega) (by omega)
      have b2 : h * x0 ≤ 255 * 4294967295 := Nat.mul_le_mul (by omega) (by omega)
      have b3 : l1 * x1 ≤ 4294967295 * 15 := Nat.mul_le_mul (by omega) (by omega)
      have b4 : l1 * x0 ≤ 4294967295 * 4294967295 := Nat.mul_le_mul (by omega) (by omega)
      have b5 : l0 * x1 ≤ 4294967295 * 15 := Nat.mul_le_mul (by omega) (by omega)
      have b6 : l0 * x0 ≤ 4294967295 * 4294967295 := Nat.mul_le_mul (by omega) (by omega)
      have q1 : (l : Int) / 4294967296 = (l1 : Int) := by omega
      have q2 : (x : Int) / 4294967296 = (x1 : Int) := by omega
      have q3 : bits .and .u64 (l : Int) 4294967295 = (l0 : Int) := by rw [and_mask l (by omega), el0]
      have q4 : bits .and .u64 (x : Int) 4294967295 = (x0 : Int) := by rw [and_mask x (by omega), ex0]
      obtain ⟨k1, ek1⟩ : ∃ k, h * x1 = k := ⟨_, rfl⟩
      have rk1 : (h : Int) * (x1 : Int) = (k1 : Int) := by rw [← ek1]; exact (Int.natCast_mul _ _).symm
      obtain ⟨k2, ek2⟩ : ∃ k, h * x0 = k := ⟨_, rfl⟩
      have rk2 : (h : Int) * (x0 : Int) = (k2 : Int) := by rw [← ek2]; exact (Int.natCast_mul _ _).symm
      obtain ⟨k3, ek3⟩ : ∃ k, l1 * x1 = k := ⟨_, rfl⟩
      have rk3 : (l1 : Int) * (x1 : Int) = (k3 : Int) := by rw [← ek3]; exact (Int.natCast_mul _ _).symm
      obtain ⟨k4, ek4⟩ : ∃ k, l1 * x0 = k := ⟨_, rfl⟩
      have rk4 : (l1 : Int) * (x0 : Int) = (k4 : Int) := by rw [← ek4]; exact (Int.natCast_mul _ _).symm
      obtain ⟨k5, ek5⟩ : ∃ k, l0 * x1 = k := ⟨_, rfl⟩
      have rk5 : (l0 : Int) * (x1 : Int) = (k5 : Int) := by rw [← ek5]; exact (Int.natCast_mul _ _).symm
      obtain ⟨k6, ek6⟩ : ∃ k, l0 * x0 = k := ⟨_, rfl⟩
      have rk6 : (l0 : Int) * (x0 : Int) = (k6 : Int) := by rw [← ek6]; exact (Int.natCast_mul _ _).symm
      rw [ek1] at b1 hcw
      rw [ek2] at b2 hcw
      rw [ek3] at b3 hcw
      rw [ek4] at b4 hcw
      rw [ek5] at b5 hcw
      rw [ek6] at b6 hcw
      have wk1 : IntKind.u64.wrap (k1 : Int) = (k1 : Int) := wrapU (by omega) (by omega)
      have wk2 : IntKind.u64.wrap (k2 : Int) = (k2 : Int) := wrapU (by omega) (by omega)
      have wk3 : IntKind.u64.wrap (k3 : Int) = (k3 : Int) := wrapU (by omega) (by omega)
      have wk4 : IntKind.u64.wrap (k4 : Int) = (k4 : Int) := wrapU (by omega) (by omega)
      have wk5 : IntKind.u64.wrap (k5 : Int) = (k5 : Int) := wrapU (by omega) (by omega)
      have wk6 : IntKind.u64.wrap (k6 : Int) = (k6 : Int) := wrapU (by omega) (by omega)
      obtain ⟨v1, ev1⟩ : ∃ v : Nat, k4 + k6 / 4294967296 = v := ⟨_, rfl⟩
      have rv1 : (k4 : Int) + (k6 : Int) / 4294967296 = (v1 : Int) := by omega
      have wv1 : IntKind.u64.wrap (v1 : Int) = (v1 : Int) := wrapU (by omega) (by omega)
      obtain ⟨v2, ev2⟩ : ∃ v : Nat, v1 / 4294967296 + k2 = v := ⟨_, rfl⟩
      have rv2 : (v1 : Int) / 4294967296 + (k2 : Int) = (v2 : Int) := by omega
      have wv2 : IntKind.u64.wrap (v2 : Int) = (v2 : Int) := wrapU (by omega) (by omega)
      obtain ⟨m1, em1⟩ : ∃ v : Nat, v1 % 4294967296 = v := ⟨_, rfl⟩
      have q5 : bits .and .u64 (v1 : Int) 4294967295 = (m1 : Int) := by rw [and_mask v1 (by omega), em1]
      obtain ⟨v3, ev3⟩ : ∃ v : Nat, m1 + k5 = v := ⟨_, rfl⟩
      have rv3 : (m1 : Int) + (k5 : Int) = (v3 : Int) := by omega
      have wv3 : IntKind.u64.wrap (v3 : Int) = (v3 : Int) := wrapU (by omega) (by omega)
      obtain ⟨v4, ev4⟩ : ∃ v : Nat, v3 / 4294967296 + k3 = v := ⟨_, rfl⟩
      have rv4 : (v3 : Int) / 4294967296 + (k3 : Int) = (v4 : Int) := by omega
      have wv4 : IntKind.u64.wrap (v4 : Int) = (v4 : Int) := wrapU (by omega) (by omega)
      obtain ⟨v5, ev5⟩ : ∃ v : Nat, v2 + v4 = v := ⟨_, rfl⟩
      have rv5 : (v2 : Int) + (v4 : Int) = (v5 : Int) := by omega
      have wv5 : IntKind.u64.wrap (v5 : Int) = (v5 : Int) := wrapU (by omega) (by omega)
      obtain ⟨v6, ev6⟩ : ∃ v : Nat, k1 + v5 / 4294967296 = v := ⟨_, rfl⟩
      have rv6 : (k1 : Int) + (v5 : Int) / 4294967296 = (v6 : Int) := by omega
      have wv6 : IntKind.u64.wrap (v6 : Int) = (v6 : Int) := wrapU (by omega) (by omega)
      obtain ⟨n2, en2⟩ : ∃ v : Nat, v5 % 4294967296 = v := ⟨_, rfl⟩
      have q6 : bits .and .u64 (v5 : Int) 4294967295 = (n2 : Int) := by rw [and_mask v5 (by omega), en2]
      obtain ⟨n1, en1⟩ : ∃ v : Nat, v3 % 4294967296 = v := ⟨_, rfl⟩
      have q7 : bits .and .u64 (v3 : Int) 4294967295 = (n1 : Int) := by rw [and_mask v3 (by omega), en1]
      obtain ⟨n0, en0⟩ : ∃ v : Nat, k6 % 4294967296 = v := ⟨_, rfl⟩
      have q8 : bits .and .u64 (k6 : Int) 4294967295 = (n0 : Int) := by rw [and_mask k6 (by omega), en0]
      have hle : X * x ≤ p * 79228162514264337593543950336 ↔ v6 < p ∨ (v6 = p ∧ n2 = 0 ∧ n1 = 0 ∧ n0 = 0) := by
        rw [hcw]
        omega
      have HX : Hid (x + 2 ^ b ≤ 2 ^ 36) := by show _ ≤ _; rw [HT.out]; omega
      have HRb : Hid (r + 2 ^ b ≤ 2 ^ 36) := by show _ ≤ _; rw [HT.out]; omega
      have HYes : Hid ((v6 < p ∨ (v6 = p ∧ n2 = 0 ∧ n1 = 0 ∧ n0 = 0)) → cbF p b x = cbF p 36 0) := fun hh => by rw [if_pos (hle.2 hh)] at HSs; exact HSs
      have HNo : Hid (¬ (v6 < p ∨ (v6 = p ∧ n2 = 0 ∧ n1 = 0 ∧ n0 = 0)) → cbF p b r = cbF p 36 0) := fun hh => by rw [if_neg (fun h => hh (hle.1 h))] at HSs; exact HSs
      have wb : IntKind.i64.wrap ((b : Int) - 1) = (b : Int) - 1 := wrapI (by omega) (by omega)
      clear HB HS hb HSs et HT h36 h1 hle eh el ex eX hxx el0 el1 ex0 ex1 hcw b1 b2 b3 b4 b5 b6 ek1 ek2 ek3 ek4 ek5 ek6 ev1 ev2 ev3 ev4 ev5 ev6 em1 en2 en1 en0
      by_cases c1 : v6 < p
      · have HY : Hid (cbF p b x = cbF p 36 0) := HYes.out (Or.inl c1)
        have c1I : (v6 : Int) < (p : Int) := by omega
        have d1 : decide ((v6 : Int) < (p : Int)) = true := decide_eq_true c1I
        go_wp2_with (go_at_call 53; go_must (refine (HC.out _).mono ?_; rintro y w2 ⟨rfl, rfl⟩))
        go_round
        case rel => exact ⟨b, x, (b : Int) - 1, by omega, rfl, rfl, rfl, HX, HY⟩
        case measure => simp [intOf]
      · have c1I : ¬ (v6 : Int) < (p : Int) := by omega
        have d1 : decide ((v6 : Int) < (p : Int)) = false := decide_eq_false c1I
        by_cases c2 : v6 = p
        · have c2b : ((v6 : Int) == (p : Int)) = true := by rw [c2]; simp
          by_cases c3 : n2 = 0
          · by_cases c4 : n1 = 0
            · by_cases c5 : n0 = 0
              · have HY : Hid (cbF p b x = cbF p 36 0) := HYes.out (Or.inr ⟨c2, c3, c4, c5⟩)
                subst c3 c4 c5
                go_wp2_with (go_at_call 53; go_must (refine (HC.out _).mono ?_; rintro y w2 ⟨rfl, rfl⟩))
                go_round
                case rel => exact ⟨b, x, (b : Int) - 1, by omega, rfl, rfl, rfl, HX, HY⟩
                case measure => simp [intOf]
              · have c5b : ((n0 : Int) == 0) = false := by simp; omega
                have HN : Hid (cbF p b r = cbF p 36 0) := HNo.out (by omega)
                subst c3 c4
                clear c5
                go_wp2_with (go_at_call 53; go_must (refine (HC.out _).mono ?_; rintro y w2 ⟨rfl, rfl⟩))
                go_round
                case rel => exact ⟨b, r, (b : Int) - 1, by omega, rfl, rfl, rfl, HRb, HN⟩
                case measure => simp [intOf]
            · have c4b : ((n1 : Int) == 0) = false := by simp; omega
              have HN : Hid (cbF p b r = cbF p 36 0) := HNo.out (by omega)
              subst c3
              clear c4
              go_wp2_with (go_at_call 53; go_must (refine (HC.out _).mono ?_; rintro y w2 ⟨rfl, rfl⟩))
              go_round
              case rel => exact ⟨b, r, (b : Int) - 1, by omega, rfl, rfl, rfl, HRb, HN⟩
              case measure => simp [intOf]
          · have c3b : ((n2 : Int) == 0) = false := by simp; omega
            have HN : Hid (cbF p b r = cbF p 36 0) := HNo.out (by omega)
            clear c3
            go_wp2_with (go_at_call 53; go_must (refine (HC.out _).mono ?_; rintro y w2 ⟨rfl, rfl⟩))
            go_round
            case rel => exact ⟨b, r, (b : Int) - 1, by omega, rfl, rfl, rfl, HRb, HN⟩
            case measure => simp [intOf]
        · have c2b : ((v6 : Int) == (p : Int)) = false := by simp; omega
          have HN : Hid (cbF p b r = cbF p 36 0) := HNo.out (by omega)
          clear c2
          go_wp2_with (go_at_call 53; go_must (refine (HC.out _).mono ?_; rintro y w2 ⟨rfl, rfl⟩))
          go_round
          case rel => exact ⟨b, r, (b : Int) - 1, by omega, rfl, rfl, rfl, HRb, HN⟩
          case measure => simp [intOf]
end Go.Proofs.YtibglhlhogfdnaaDoor
