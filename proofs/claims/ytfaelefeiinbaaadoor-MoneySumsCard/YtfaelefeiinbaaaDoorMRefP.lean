/- Layer 22: the document's parts and prices. -/
import Derived.Test.YtfaelefeiinbaaaDoorMRefS
import Derived.Test.YtfaelefeiinbaaaDoorMPriceC
namespace Go.Proofs.YtfaelefeiinbaaaDoor
open Go.RowKit MP

set_option maxRecDepth 100000 in
theorem rounded_any (x : Nat) (w : World) (hx : x ≤ 1000000000000000) : Calls Tryd.prog 44 #[.int .i64 (x : Int), .int .i64 10000] w fun e w' => e = .returned (.int .i64 (((2 * x + 10000) / 20000 : Nat) : Int)) ∧ w' = w := by
  obtain ⟨s, es⟩ : ∃ s, ((2 * x + 10000 : Nat) : Int) = s := ⟨_, rfl⟩
  have e1 : 2 * (x : Int) + 10000 = s := by omega
  obtain ⟨q, eq⟩ : ∃ q, (((2 * x + 10000) / 20000 : Nat) : Int) = q := ⟨_, rfl⟩
  have e2 : s.tdiv 20000 = q := by rw [← es, ← eq]; exact (Int.ofNat_tdiv _ 20000).symm
  have e3 : IntKind.i64.wrap (2 * (x : Int)) = 2 * (x : Int) := wrapI (by omega) (by omega)
  have e4 : IntKind.i64.wrap s = s := wrapI (by omega) (by omega)
  have e5 : IntKind.i64.wrap q = q := wrapI (by omega) (by omega)
  have e6 : s / 20000 = q := by omega
  rw [eq]
  clear es eq
  go_enter Tryd.func44, Tryd.ntmps44
  go_wp2_with fail
  go_ret
  exact ⟨rfl, rfl⟩

set_option maxRecDepth 100000 in
theorem rpart_any (A R : Nat) (w : World) (hA : A ≤ 1000000000000000) (hR : R ≤ 1000000) : Calls Tryd.prog 36 #[.int .i64 (A : Int), .int .i64 (R : Int)] w fun e w' => e = .returned (.int .i64 (partN A R : Int)) ∧ w' = w := by
  have hx : A % 10000 * R ≤ 10000 * 1000000 := Nat.mul_le_mul (by omega) hR
  have hy : A / 10000 * R ≤ 100000000000 * 1000000 := Nat.mul_le_mul (by omega) hR
  have HC : Hid (∀ u, Calls Tryd.prog 44 #[.int .i64 ((A % 10000 * R : Nat) : Int), .int .i64 10000] u fun e w' => e = .returned (.int .i64 (((2 * (A % 10000 * R) + 10000) / 20000 : Nat) : Int)) ∧ w' = u) := fun u => rounded_any _ u (by omega)
  rw [← partN_split]
  obtain ⟨u, eu⟩ : ∃ u, ((A / 10000 : Nat) : Int) = u := ⟨_, rfl⟩
  obtain ⟨v, ev⟩ : ∃ v, ((A % 10000 : Nat) : Int) = v := ⟨_, rfl⟩
  have t1 : (A : Int).tdiv 10000 = u := by rw [← eu]; exact (Int.ofNat_tdiv _ 10000).symm
  have t2 : (A : Int).tmod 10000 = v := by rw [← ev]; exact (Int.ofNat_tmod _ 10000).symm
  have t3 : (A : Int) / 10000 = u := by omega
  have t4 : (A : Int) % 10000 = v := by omega
  have m1 : u * (R : Int) = ((A / 10000 * R : Nat) : Int) := by rw [← eu]; exact (Int.natCast_mul _ _).symm
  have m2 : v * (R : Int) = ((A % 10000 * R : Nat) : Int) := by rw [← ev]; exact (Int.natCast_mul _ _).symm
  obtain ⟨X, eX⟩ : ∃ X, A % 10000 * R = X := ⟨_, rfl⟩
  obtain ⟨Y, eY⟩ : ∃ Y, A / 10000 * R = Y := ⟨_, rfl⟩
  rw [eX] at HC m2 hx ⊢
  rw [eY] at m1 hy ⊢
  obtain ⟨Z, eZ⟩ : ∃ Z, (2 * X + 10000) / 20000 = Z := ⟨_, rfl⟩
  rw [eZ] at HC ⊢
  have w1 : IntKind.i64.wrap u = u := wrapI (by omega) (by omega)
  have w2 : IntKind.i64.wrap v = v := wrapI (by omega) (by omega)
  have w3 : IntKind.i64.wrap (X : Int) = (X : Int) := wrapI (by omega) (by omega)
  have w4 : IntKind.i64.wrap (Y : Int) = (Y : Int) := wrapI (by omega) (by omega)
  have w5 : IntKind.i64.wrap ((Y : Int) + (Z : Int)) = (Y : Int) + (Z : Int) := wrapI (by omega) (by omega)
  have HS : Hid (((Y + Z : Nat) : Int) = (Y : Int) + (Z : Int)) := Int.natCast_add _ _
  clear eu ev eX eY eZ hx hy
  go_enter Tryd.func36, Tryd.ntmps36
  go_wp2_with (go_at_call 44; go_must (refine (HC.out _).mono ?_; rintro y w2 ⟨rfl, hwz⟩; obtain rfl := hwz.symm))
  go_ret
  exact ⟨by rw [HS.out]; rfl, rfl⟩

set_option maxRecDepth 100000 in
set_option maxHeartbeats 400000 in
theorem rPart_any (a r : Int) (w : World) : Calls Tryd.prog 18 #[.int .i64 a, .int .i64 r] w fun e w' => e = .returned (.tuple #[.int .i64 (partV a r), .int .i64 (partE a r)]) ∧ w' = w := by
  have HC : Hid (∀ u, Calls Tryd.prog 28 #[.int .i64 a] u fun e w' => e = .returned (.bool (may a)) ∧ w' = u) := fun u => rMay_any a u
  have HD : Hid (∀ u, Calls Tryd.prog 35 #[.int .i64 r] u fun e w' => e = .returned (.bool (isRate r)) ∧ w' = u) := fun u => rrate_any r u
  by_cases hm : may a = true
  · rw [hm] at HC
    by_cases hr : isRate r = true
    · rw [hr] at HD
      have hbd := partI_bound hm hr
      have ha := (may_iff a).1 hm
      have hri := (isRate_iff r).1 hr
      have hpv : partV a r = amV (partI a r) := by unfold partV amV; rw [hm, hr]; rfl
      have hpe : partE a r = amE (partI a r) := by unfold partE amE; rw [hm, hr]; rfl
      rw [hpv, hpe]
      have HN : Hid (∀ u, Calls Tryd.prog 28 #[.int .i64 (partI a r)] u fun e w' => e = .returned (.bool (may (partI a r))) ∧ w' = u) := fun u => rMay_any _ u
      by_cases hs : a < 0
      · have HP : Hid (∀ u, Calls Tryd.prog 36 #[.int .i64 (-a), .int .i64 r] u fun e w' => e = .returned (.int .i64 (partN a.natAbs r.toNat : Int)) ∧ w' = u) := fun u => by
          have := rpart_any a.natAbs r.toNat u (by omega) (by omega)
          rw [show ((a.natAbs : Nat) : Int) = -a by omega, show ((r.toNat : Nat) : Int) = r by omega] at this
          exact this
        have hpi : partI a r = -(partN a.natAbs r.toNat : Int) := by unfold partI; rw [if_pos hs]
        obtain ⟨N, eN⟩ : ∃ N : Int, (partN a.natAbs r.toNat : Int) = N := ⟨_, rfl⟩
        rw [eN] at HP hpi
        rw [hpi] at HN hbd ⊢
        have w1 : IntKind.i64.wrap (-a) = -a := wrapI (by omega) (by omega)
        have w2 : IntKind.i64.wrap (-N) = -N := wrapI (by omega) (by omega)
        clear hpi eN hbd ha hri hpv hpe hm hr
        by_cases hP : may (-N) = true
        · have HB : Hid (may (-N) = true) := hP
          rw [hP] at HN
          clear hP
          go_enter Tryd.func18, Tryd.ntmps18
          go_wp2_with fail
          refine (HC.out _).mono ?_
          rintro y w2 ⟨rfl, hwz⟩
          obtain rfl := hwz.symm
          go_wp2_with (first
            | (go_at_call 36; go_must (refine (HP.out _).mono ?_; rintro y w2 ⟨rfl, hwz⟩; obtain rfl := hwz.symm))
            | (go_at_call 35; go_must (refine (HD.out _).mono ?_; rintro y w2 ⟨rfl, hwz⟩; obtain rfl := hwz.symm))
            | (go_at_call 28; go_must (refine (HN.out _).mono ?_; rintro y w2 ⟨rfl, hwz⟩; obtain rfl := hwz.symm)))
          go_ret2
          exact ⟨ret_pair (by unfold amV; rw [HB.out]; rfl) (by unfold amE; rw [HB.out]; rfl), rfl⟩
        · have hP' : may (-N) = false := by simpa using hP
          have HB : Hid (may (-N) = false) := hP'
          rw [hP'] at HN
          clear hP hP'
          go_enter Tryd.func18, Tryd.ntmps18
          go_wp2_with fail
          refine (HC.out _).mono ?_
          rintro y w2 ⟨rfl, hwz⟩
          obtain rfl := hwz.symm
          go_wp2_with (first
            | (go_at_call 36; go_must (refine (HP.out _).mono ?_; rintro y w2 ⟨rfl, hwz⟩; obtain rfl := hwz.symm))
            | (go_at_call 35; go_must (refine (HD.out _).mono ?_; rintro y w2 ⟨rfl, hwz⟩; obtain rfl := hwz.symm))
            | (go_at_call 28; go_must (refine (HN.out _).mono ?_; rintro y w2 ⟨rfl, hwz⟩; obtain rfl := hwz.symm)))
          go_ret2
          exact ⟨ret_pair (by unfold amV; rw [HB.out]; rfl) (by unfold amE; rw [HB.out]; rfl), rfl⟩
      · have HP : Hid (∀ u, Calls Tryd.prog 36 #[.int .i64 a, .int .i64 r] u fun e w' => e = .returned (.int .i64 (partN a.natAbs r.toNat : Int)) ∧ w' = u) := fun u => by
          have := rpart_any a.natAbs r.toNat u (by omega) (by omega)
          rw [show ((a.natAbs : Nat) : Int) = a by omega, show ((r.toNat : Nat) : Int) = r by omega] at this
          exact this
        have hpi : partI a r = (partN a.natAbs r.toNat : Int) := by unfold partI; rw [if_neg hs]
        obtain ⟨N, eN⟩ : ∃ N : Int, (partN a.natAbs r.toNat : Int) = N := ⟨_, rfl⟩
        rw [eN] at HP hpi
        rw [hpi] at HN hbd ⊢
        clear hpi eN hbd ha hri hpv hpe hm hr
        by_cases hP : may N = true
        · have HB : Hid (may N = true) := hP
          rw [hP] at HN
          clear hP
          go_enter Tryd.func18, Tryd.ntmps18
          go_wp2_with fail
          refine (HC.out _).mono ?_
          rintro y w2 ⟨rfl, hwz⟩
          obtain rfl := hwz.symm
          go_wp2_with (first
            | (go_at_call 36; go_must (refine (HP.out _).mono ?_; rintro y w2 ⟨rfl, hwz⟩; obtain rfl := hwz.symm))
            | (go_at_call 35; go_must (refine (HD.out _).mono ?_; rintro y w2 ⟨rfl, hwz⟩; obtain rfl := hwz.symm))
            | (go_at_call 28; go_must (refine (HN.out _).mono ?_; rintro y w2 ⟨rfl, hwz⟩; obtain rfl := hwz.symm)))
          go_ret2
          exact ⟨ret_pair (by unfold amV; rw [HB.out]; rfl) (by unfold amE; rw [HB.out]; rfl), rfl⟩
        · have hP' : may N = false := by simpa using hP
          have HB : Hid (may N = false) := hP'
          rw [hP'] at HN
          clear hP hP'
          go_enter Tryd.func18, Tryd.ntmps18
          go_wp2_with fail
          refine (HC.out _).mono ?_
          rintro y w2 ⟨rfl, hwz⟩
          obtain rfl := hwz.symm
          go_wp2_with (first
            | (go_at_call 36; go_must (refine (HP.out _).mono ?_; rintro y w2 ⟨rfl, hwz⟩; obtain rfl := hwz.symm))
            | (go_at_call 35; go_must (refine (HD.out _).mono ?_; rintro y w2 ⟨rfl, hwz⟩; obtain rfl := hwz.symm))
            | (go_at_call 28; go_must (refine (HN.out _).mono ?_; rintro y w2 ⟨rfl, hwz⟩; obtain rfl := hwz.symm)))
          go_ret2
          exact ⟨ret_pair (by unfold amV; rw [HB.out]; rfl) (by unfold amE; rw [HB.out]; rfl), rfl⟩
    · have hr' : isRate r = false := by simpa using hr
      rw [hr'] at HD
      have hV : partV a r = 0 := by unfold partV; rw [hm, hr']; rfl
      have hE : partE a r = 1 := by unfold partE; rw [hm, hr']; rfl
      rw [hV, hE]
      clear hV hE hr hr' hm
      go_enter Tryd.func18, Tryd.ntmps18
      go_wp2_with (first
        | (go_at_call 28; go_must (refine (HC.out _).mono ?_; rintro y w2 ⟨rfl, rfl⟩))
        | (go_at_call 35; go_must (refine (HD.out _).mono ?_; rintro y w2 ⟨rfl, rfl⟩)))
      go_ret2
      exact ⟨rfl, rfl⟩
  · have hm' : may a = false := by simpa using hm
    rw [hm'] at HC
    have hV : partV a r = 0 := by unfold partV; rw [hm']; rfl
    have hE : partE a r = 220 := by unfold partE; rw [hm']; rfl
    rw [hV, hE]
    clear hV hE hm hm'
    go_enter Tryd.func18, Tryd.ntmps18
    go_wp2_with (go_at_call 28; go_must (refine (HC.out _).mono ?_; rintro y w2 ⟨rfl, rfl⟩))
    go_ret2
    exact ⟨rfl, rfl⟩
end Go.Proofs.YtfaelefeiinbaaaDoor
