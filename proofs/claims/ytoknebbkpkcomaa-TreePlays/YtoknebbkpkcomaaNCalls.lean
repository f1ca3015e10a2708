/- The program's calls of layer 12 on words: usedOf, lowest, bitsAhead, slotAt, takeOut, putIn. -/
import Derived.Test.YtoknebbkpkcomaaProg
import Derived.Test.YtoknebbkpkcomaaNBits
import Derived.Test.YtoknebbkpkcomaaOpen
import Derived.OwnWalk
import Derived.WalkMore
import Derived.Laws.Shifts
import Derived.Deep.DeepMust
namespace Go.Proofs.Ytoknebbkpkcomaa
open Go.RowKit

theorem usedOf_any {W : Int} {u : Nat} {l : List Nat} (h : Wd W u l) (w : World) : Calls Try.prog 60 #[.int .u64 W] w fun e w' => e = .returned (.int .i64 (u : Int)) ∧ w' = w := by
  obtain ⟨h0, h1⟩ := h.range
  have hu := h.used
  have hk := and_15 h0 h1
  have hb := h.u16
  have HU : Hid (W % 16 = u) := hu
  clear hu h
  go_enter Try.func60, Try.ntmps60
  go_wp2
  go_ret
  exact ⟨ret_int HU.out, rfl⟩

theorem lowest_any {x : Int} {a : Nat} (hx : x = a) (ha : a ≤ 14) (w : World) : Calls Try.prog 62 #[.int .i64 x] w fun e w' => e = .returned (.int .i64 (4 * ((a : Int) + 1))) ∧ w' = w := by
  subst hx
  go_enter Try.func62, Try.ntmps62
  go_wp2
  go_ret
  exact ⟨ret_int (by omega), rfl⟩

theorem bitsAhead_any {x : Int} {a : Nat} (hx : x = a) (ha : a ≤ 14) (w : World) : Calls Try.prog 68 #[.int .i64 x] w fun e w' => e = .returned (.int .u64 (((pw a : Nat) : Int) - 1)) ∧ w' = w := by
  obtain ⟨K, hK⟩ : ∃ K : Int, K = 4 * ((a : Int) + 1) := ⟨_, rfl⟩
  have H : Hid (∀ u : World, Calls Try.prog 62 #[.int .i64 x] u fun e w' => e = .returned (.int .i64 K) ∧ w' = u) := fun u => by rw [hK]; exact lowest_any hx ha u
  have k0 : 0 ≤ K := by omega
  have k1 := shift_pw ha hK
  have p1 := pw_le ha
  have p2 := pw_ge a
  obtain ⟨P, hP⟩ : ∃ P : Int, ((pw a : Nat) : Int) = P := ⟨_, rfl⟩
  rw [hP] at k1
  have p3 : P ≤ 1152921504606846976 := by omega
  have p4 : 16 ≤ P := by omega
  have HP : Hid (((pw a : Nat) : Int) = P) := hP
  clear hP hK p1 p2 hx ha
  go_enter Try.func68, Try.ntmps68
  go_wp2_with (go_at_call 62; go_must (refine (H.out _).mono ?_; rintro y w1 ⟨rfl, rfl⟩))
  go_ret
  exact ⟨ret_int (by rw [HP.out]), rfl⟩

theorem slotAt_any {W : Int} {u : Nat} {l : List Nat} (h : Wd W u l) {x : Int} {a : Nat} (hx : x = a) (ha : a ≤ 14) (w : World) : Calls Try.prog 50 #[.int .u64 W, .int .i64 x] w fun e w' => e = .returned (.int .i64 ((l.getD a 0 : Nat) : Int)) ∧ w' = w := by
  obtain ⟨K, hK⟩ : ∃ K : Int, K = 4 * ((a : Int) + 1) := ⟨_, rfl⟩
  have H : Hid (∀ u : World, Calls Try.prog 62 #[.int .i64 x] u fun e w' => e = .returned (.int .i64 K) ∧ w' = u) := fun u => by rw [hK]; exact lowest_any hx ha u
  have k0 : 0 ≤ K := by omega
  have k1 := shift_pw ha hK
  obtain ⟨w0, w1⟩ := h.range
  have p2 := pw_ge a
  have e1 := slot_val h.all (by simp [h.len]) ha
  obtain ⟨D, hD⟩ : ∃ D : Int, W / ((pw a : Nat) : Int) = D := ⟨_, rfl⟩
  have hD2 : D = ((val (u :: l) / pw a : Nat) : Int) := by rw [← hD, h.eq]; exact (Int.natCast_ediv _ _).symm
  obtain ⟨q, hq⟩ : ∃ q, val (u :: l) / pw a = q := ⟨_, rfl⟩
  have hq1 := Nat.div_le_self (val (u :: l)) (pw a)
  rw [hq] at hD2 hq1 e1
  have d0 : 0 ≤ D := by omega
  have d1 : D < 18446744073709551616 := by
    have := h.eq
    omega
  have k3 := and_15 d0 d1
  have HE : Hid (D % 16 = ((l.getD a 0 : Nat) : Int)) := by
    show _ = _
    rw [getD_of (by rw [h.len]; omega)]
    simp only [List.getElem_cons_succ] at e1
    omega
  obtain ⟨P, hP⟩ : ∃ P : Int, ((pw a : Nat) : Int) = P := ⟨_, rfl⟩
  rw [hP] at k1 hD
  clear hP hK p2 hx ha e1 hD2 h hq hq1
  go_enter Try.func50, Try.ntmps50
  go_wp2_with (go_at_call 62; go_must (refine (H.out _).mono ?_; rintro y w1 ⟨rfl, rfl⟩))
  go_ret
  exact ⟨ret_int HE.out, rfl⟩

theorem takeOut_any {L : List Nat} (hL : Dig L) (hl : L.length = 16) {W : Int} (hW : W = ((val L : Nat) : Int)) {x : Int} {a : Nat} (hx : x = a) (ha : a ≤ 14) (w : World) :
    Calls Try.prog 64 #[.int .u64 W, .int .i64 x] w fun e w' => e = .returned (.int .u64 ((val (tk L (a + 1)) : Nat) : Int)) ∧ w' = w := by
  have hlt := val_lt L hL
  rw [hl, pow16] at hlt
  obtain ⟨Q, hQ⟩ : ∃ Q : Int, ((pw a : Nat) : Int) - 1 = Q := ⟨_, rfl⟩
  have H : Hid (∀ u : World, Calls Try.prog 68 #[.int .i64 x] u fun e w' => e = .returned (.int .u64 Q) ∧ w' = u) := fun u => by rw [← hQ]; exact bitsAhead_any hx ha u
  have hp := pw_two a
  have k1 := and_low (X := val L) (n := 4 * (a + 1)) hlt (by omega)
  rw [← hp, hQ, ← hW] at k1
  have k2 := andNot_low (X := val L / 16) (n := 4 * (a + 1)) (by omega) (by omega)
  have e16 : ((val L / 16 : Nat) : Int) = W / 16 := by omega
  rw [← hp, hQ, e16] at k2
  have hpos : 0 < pw a := by have := pw_ge a; omega
  have k3 := or_low (A := val L % pw a) (B := val L / 16 - val L / 16 % pw a) (n := 4 * (a + 1)) (by rw [← hp]; exact Nat.mod_lt _ hpos) (by
    rw [← hp]
    have := Nat.div_add_mod (val L / 16) (pw a)
    rw [show val L / 16 - val L / 16 % pw a = pw a * (val L / 16 / pw a) by omega, Nat.mul_mod_right]) (by
    have := Nat.mod_le (val L) (pw a)
    omega) (by omega)
  rw [take_val hL hl ha] at k3
  have w0 : 0 ≤ W := by omega
  have w1 : W < 18446744073709551616 := by omega
  obtain ⟨R, hR⟩ : ∃ R : Int, ((val (tk L (a + 1)) : Nat) : Int) = R := ⟨_, rfl⟩
  obtain ⟨A, hA⟩ : ∃ A : Int, ((val L % pw a : Nat) : Int) = A := ⟨_, rfl⟩
  obtain ⟨B, hB⟩ : ∃ B : Int, ((val L / 16 - val L / 16 % pw a : Nat) : Int) = B := ⟨_, rfl⟩
  rw [hA] at k1 k3
  rw [hB] at k2 k3
  rw [hR] at k3 ⊢
  clear hp hpos hR hA hB hQ hx ha e16 hlt hL hl hW
  go_enter Try.func64, Try.ntmps64
  go_wp2_with (go_at_call 68; go_must (refine (H.out _).mono ?_; rintro y w1 ⟨rfl, rfl⟩))
  go_ret
  exact ⟨rfl, rfl⟩

theorem putIn_any {L : List Nat} (hL : Dig L) (hl : L.length = 16) {W : Int} (hW : W = ((val L : Nat) : Int)) {x y : Int} {a s : Nat} (hx : x = a) (ha : a ≤ 14) (hy : y = s) (hs : s < 16) (w : World) :
    Calls Try.prog 59 #[.int .u64 W, .int .i64 x, .int .i64 y] w fun e w' => e = .returned (.int .u64 ((val (pt L (a + 1) s) : Nat) : Int)) ∧ w' = w := by
  have hlt := val_lt L hL
  rw [hl, pow16] at hlt
  obtain ⟨K, hK⟩ : ∃ K : Int, K = 4 * ((a : Int) + 1) := ⟨_, rfl⟩
  have HL : Hid (∀ u : World, Calls Try.prog 62 #[.int .i64 x] u fun e w' => e = .returned (.int .i64 K) ∧ w' = u) := fun u => by rw [hK]; exact lowest_any hx ha u
  have k0 : 0 ≤ K := by omega
  have ks := shift_pw ha hK
  obtain ⟨Q, hQ⟩ : ∃ Q : Int, ((pw a : Nat) : Int) - 1 = Q := ⟨_, rfl⟩
  have H : Hid (∀ u : World, Calls Try.prog 68 #[.int .i64 x] u fun e w' => e = .returned (.int .u64 Q) ∧ w' = u) := fun u => by rw [← hQ]; exact bitsAhead_any hx ha u
  have hp := pw_two a
  have k1 := and_low (X := val L) (n := 4 * (a + 1)) hlt (by omega)
  rw [← hp, hQ, ← hW] at k1
  have k2 := andNot_low (X := val L) (n := 4 * (a + 1)) hlt (by omega)
  rw [← hp, hQ, ← hW] at k2
  have hpos : 0 < pw a := by have := pw_ge a; omega
  have hple := pw_le ha
  have hsp : s * pw a ≤ 15 * pw a := Nat.mul_le_mul_right _ (by omega)
  have hmod := Nat.mod_lt (val L) hpos
  have k3 := or_low (A := val L % pw a) (B := s * pw a) (n := 4 * (a + 1)) (by rw [← hp]; exact hmod) (by rw [← hp, Nat.mul_mod_left]) (by omega) (by omega)
  have hC : (val L - val L % pw a) * 16 % 18446744073709551616 % (pw a * 16) = 0 := by
    have e1 : val L - val L % pw a = pw a * (val L / pw a) := by
      have := Nat.div_add_mod (val L) (pw a)
      omega
    have e2 : (18446744073709551616 : Nat) = pw a * 16 * 16 ^ (14 - a) := by
      unfold pw
      rw [← Nat.pow_succ, ← Nat.pow_add, show a + 1 + 1 + (14 - a) = 16 by omega]
    rw [e1, Nat.mul_right_comm, e2, Nat.mul_mod_mul_left, Nat.mul_mod_right]
  have h16 : pw a * 16 = 2 ^ (4 * (a + 1) + 4) := by rw [hp, Nat.pow_add]
  have k4 := or_low (A := val L % pw a + s * pw a) (B := (val L - val L % pw a) * 16 % 18446744073709551616) (n := 4 * (a + 1) + 4) (by rw [← h16]; omega) (by rw [← h16]; exact hC) (by omega) (by omega)
  rw [put_val hL hl ha] at k4
  have w0 : 0 ≤ W := by omega
  have w1 : W < 18446744073709551616 := by omega
  obtain ⟨R, hR⟩ : ∃ R : Int, ((val (pt L (a + 1) s) : Nat) : Int) = R := ⟨_, rfl⟩
  obtain ⟨A, hA⟩ : ∃ A : Int, ((val L % pw a : Nat) : Int) = A := ⟨_, rfl⟩
  obtain ⟨B, hB⟩ : ∃ B : Int, ((val L - val L % pw a : Nat) : Int) = B := ⟨_, rfl⟩
  obtain ⟨S, hS⟩ : ∃ S : Int, ((s * pw a : Nat) : Int) = S := ⟨_, rfl⟩
  obtain ⟨P, hP⟩ : ∃ P : Int, ((pw a : Nat) : Int) = P := ⟨_, rfl⟩
  obtain ⟨M, hM⟩ : ∃ M : Int, ((val L % pw a + s * pw a : Nat) : Int) = M := ⟨_, rfl⟩
  have hBm : (((val L - val L % pw a) * 16 % 18446744073709551616 : Nat) : Int) = IntKind.u64.wrap (B * 16) := by rw [IntKind.wrap_u64]; omega
  have b0 : 0 ≤ B := by omega
  have b1 : B < 18446744073709551616 := by omega
  have s0 : y * P = S := by rw [← hS, ← hP, hy]; exact (Int.natCast_mul _ _).symm
  have y0 : 0 ≤ y := by omega
  have y1 : y < 16 := by omega
  have s1 : 0 ≤ S := by omega
  have s2 : S < 18446744073709551616 := by omega
  rw [hA] at k1 k3
  rw [hB] at k2
  rw [hS, hM] at k3
  rw [hM, hBm, hR] at k4
  rw [hP] at ks
  rw [hR]
  clear hp hpos hR hA hB hQ hx ha hlt hL hl hW hy hs hS hP hM hBm hC h16 hple hsp hmod hK
  go_enter Try.func59, Try.ntmps59
  go_wp2_with (first | (go_at_call 68; go_must (refine (H.out _).mono ?_; rintro e w1 ⟨rfl, rfl⟩)) | (go_at_call 62; go_must (refine (HL.out _).mono ?_; rintro e w1 ⟨rfl, rfl⟩)))
  go_ret
  exact ⟨rfl, rfl⟩

end Go.Proofs.Ytoknebbkpkcomaa
