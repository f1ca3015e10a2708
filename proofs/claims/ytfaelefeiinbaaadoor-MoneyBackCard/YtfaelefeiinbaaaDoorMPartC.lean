/- Layer 22: the program's parts and prices: Part, raise, Price. -/
import Derived.Test.YtfaelefeiinbaaaDoorMSumC
namespace Go.Proofs.YtfaelefeiinbaaaDoor
open Go.RowKit MP

theorem part_plain {a r : Int} (hr : isRate r = true) : a.tdiv 10000 * r + (a.tmod 10000 * r).tdiv 10000 + (2 * (a.tmod 10000 * r).tmod 10000).tdiv 10000 = partI a r := by
  rw [isRate_iff] at hr
  obtain ⟨R, rfl⟩ := Int.eq_ofNat_of_zero_le hr.1
  have key : ∀ A : Nat, A / 10000 * R + A % 10000 * R / 10000 + 2 * (A % 10000 * R % 10000) / 10000 = partN A R := by
    intro A
    rw [← partN_split]
    omega
  have up : ∀ A : Nat, ((A : Int).tdiv 10000 * R + ((A : Int).tmod 10000 * R).tdiv 10000 + (2 * ((A : Int).tmod 10000 * R).tmod 10000).tdiv 10000 : Int) = (partN A R : Int) := by
    intro A
    rw [← key A]
    rw [show (A : Int).tdiv 10000 = ((A / 10000 : Nat) : Int) from (Int.ofNat_tdiv A 10000).symm, show (A : Int).tmod 10000 = ((A % 10000 : Nat) : Int) from (Int.ofNat_tmod A 10000).symm]
    rw [show ((A % 10000 : Nat) : Int) * (R : Int) = ((A % 10000 * R : Nat) : Int) from (Int.natCast_mul _ _).symm, show ((A / 10000 : Nat) : Int) * (R : Int) = ((A / 10000 * R : Nat) : Int) from (Int.natCast_mul _ _).symm]
    generalize A % 10000 * R = X
    generalize A / 10000 * R = Y
    rw [show (X : Int).tdiv 10000 = ((X / 10000 : Nat) : Int) from (Int.ofNat_tdiv X 10000).symm, show (X : Int).tmod 10000 = ((X % 10000 : Nat) : Int) from (Int.ofNat_tmod X 10000).symm]
    rw [show (2 : Int) * ((X % 10000 : Nat) : Int) = ((2 * (X % 10000) : Nat) : Int) from (Int.natCast_mul 2 _).symm]
    rw [show ((2 * (X % 10000) : Nat) : Int).tdiv 10000 = ((2 * (X % 10000) / 10000 : Nat) : Int) from (Int.ofNat_tdiv _ 10000).symm]
    omega
  unfold partI
  by_cases hs : a < 0
  · rw [if_pos hs]
    obtain ⟨A, rfl⟩ : ∃ A : Nat, a = -(A : Int) := ⟨a.natAbs, by omega⟩
    have := up A
    simp only [Int.natAbs_neg, Int.natAbs_natCast, Int.toNat_natCast, Int.neg_tdiv, Int.neg_tmod, Int.neg_mul, Int.mul_neg]
    omega
  · rw [if_neg hs]
    obtain ⟨A, rfl⟩ := Int.eq_ofNat_of_zero_le (show 0 ≤ a by omega)
    have := up A
    simp only [Int.natAbs_natCast, Int.toNat_natCast]
    exact this

theorem part_room {a r : Int} (ha : may a = true) (hr : isRate r = true) : -1000000000000000000 ≤ a.tdiv 10000 * r ∧ a.tdiv 10000 * r ≤ 1000000000000000000 := by
  rw [may_iff] at ha
  rw [isRate_iff] at hr
  have e := Int.mul_tdiv_add_tmod a 10000
  have b := tmod_bound (a := a) (d := 10000) (by omega)
  have h1 : a.tdiv 10000 * r ≤ 1000000000000 * 1000000 := Int.mul_le_mul (by omega) hr.2 hr.1 (by omega)
  have h2 : -(a.tdiv 10000) * r ≤ 1000000000000 * 1000000 := Int.mul_le_mul (by omega) hr.2 hr.1 (by omega)
  rw [Int.neg_mul] at h2
  omega

set_option maxRecDepth 100000 in
set_option maxHeartbeats 400000 in
theorem Part_any (a r : Int) (w : World) : Calls Tryd.prog 17 #[.int .i64 a, .int .i64 r] w fun e w' => e = .returned (.tuple #[.int .i64 (partV a r), .int .i64 (partE a r)]) ∧ ∃ n, w' = w.drewN n := by
  have HC : Hid (∀ u, Calls Tryd.prog 26 #[.int .i64 a] u fun e w' => e = .returned (.bool (may a)) ∧ w' = u) := fun u => isAmount_any a u
  have HD : Hid (∀ u, Calls Tryd.prog 32 #[.int .i64 r, .int .i64 1000000] u fun e w' => e = .returned (.bool (isRate r)) ∧ w' = u) := fun u => within_any r u
  by_cases hm : may a = true
  · have HM : Hid (may a = true) := hm
    rw [hm] at HC
    by_cases hr : isRate r = true
    · have HR : Hid (isRate r = true) := hr
      rw [hr] at HD
      have hroom := part_room hm hr
      have hpl := part_plain (a := a) hr
      have hbd := partI_bound hm hr
      have ha := (may_iff a).1 hm
      have hri := (isRate_iff r).1 hr
      have HP : Hid (∀ u, Calls Tryd.prog 33 #[.int .i64 a, .int .i64 r, .int .i64 10000] u fun e w' => e = .returned (.tuple #[.int .i64 (a.tdiv 10000 * r + (a.tmod 10000 * r).tdiv 10000), .int .i64 ((a.tmod 10000 * r).tmod 10000)]) ∧ w' = u.drew) := fun u => portion_any a r 10000 u (by omega) (by omega) hri.1 hri.2 hroom ha
      have HA : Hid (∀ u, Calls Tryd.prog 34 #[.int .i64 (partI a r)] u fun e w' => e = .returned (.tuple #[.int .i64 (partV a r), .int .i64 (partE a r)]) ∧ w' = u) := fun u => (amount_any (partI a r) u).mono fun e w' h => by
        unfold partV partE
        rw [hm, hr]
        exact h
      obtain ⟨V, hV⟩ : ∃ V, partV a r = V := ⟨_, rfl⟩
      obtain ⟨E, hE⟩ : ∃ E, partE a r = E := ⟨_, rfl⟩
      rw [hV, hE] at HA ⊢
      have hz := tmod_bound (a := a.tmod 10000 * r) (d := 10000) (by omega)
      have hz3 : -20000 ≤ (2 * (a.tmod 10000 * r).tmod 10000).tdiv 10000 ∧ (2 * (a.tmod 10000 * r).tmod 10000).tdiv 10000 ≤ 20000 := by
        have h1 := Int.natAbs_tdiv_le_natAbs (2 * (a.tmod 10000 * r).tmod 10000) 10000
        omega
      obtain ⟨x, ex⟩ : ∃ x, a.tdiv 10000 * r + (a.tmod 10000 * r).tdiv 10000 = x := ⟨_, rfl⟩
      obtain ⟨z, ez⟩ : ∃ z, (a.tmod 10000 * r).tmod 10000 = z := ⟨_, rfl⟩
      rw [ex] at HP hpl
      rw [ez] at HP hpl hz hz3
      obtain ⟨P, eP⟩ : ∃ P, partI a r = P := ⟨_, rfl⟩
      rw [eP] at hpl HA hbd
      obtain ⟨y, ey⟩ : ∃ y, (2 * z).tdiv 10000 = y := ⟨_, rfl⟩
      rw [ey] at hpl hz3
      have w1 : IntKind.i64.wrap (2 * z) = 2 * z := wrapI (by omega) (by omega)
      have w2 : IntKind.i64.wrap y = y := wrapI (by omega) (by omega)
      have w3 : IntKind.i64.wrap P = P := wrapI (by omega) (by omega)
      clear hroom hbd ha hri hz hz3 hV hE eP ex ez hm hr
      go_enter Tryd.func17, Tryd.ntmps17
      go_wp2_with (first
        | (go_at_call 26; go_must (refine (HC.out _).mono ?_; rintro y w2 ⟨rfl, rfl⟩))
        | (go_at_call 32; go_must (refine (HD.out _).mono ?_; rintro y w2 ⟨rfl, rfl⟩))
        | (go_at_call 33; go_must (refine (HP.out _).mono ?_; rintro y w2 ⟨rfl, rfl⟩))
        | (go_at_call 34; go_must (refine (HA.out _).mono ?_; rintro y w2 ⟨rfl, rfl⟩)))
      go_ret2
      exact ⟨rfl, 1, rfl⟩
    · have hr' : isRate r = false := by simpa using hr
      rw [hr'] at HD
      have hV : partV a r = 0 := by unfold partV; rw [hm, hr']; rfl
      have hE : partE a r = 1 := by unfold partE; rw [hm, hr']; rfl
      rw [hV, hE]
      clear hV hE hr hr' hm
      go_enter Tryd.func17, Tryd.ntmps17
      go_wp2_with (first
        | (go_at_call 26; go_must (refine (HC.out _).mono ?_; rintro y w2 ⟨rfl, rfl⟩))
        | (go_at_call 32; go_must (refine (HD.out _).mono ?_; rintro y w2 ⟨rfl, rfl⟩)))
      go_ret2
      exact ⟨rfl, 0, rfl⟩
  · have hm' : may a = false := by simpa using hm
    rw [hm'] at HC
    have hV : partV a r = 0 := by unfold partV; rw [hm']; rfl
    have hE : partE a r = 220 := by unfold partE; rw [hm']; rfl
    rw [hV, hE]
    clear hV hE hm hm'
    go_enter Tryd.func17, Tryd.ntmps17
    go_wp2_with (go_at_call 26; go_must (refine (HC.out _).mono ?_; rintro y w2 ⟨rfl, rfl⟩))
    go_ret2
    exact ⟨rfl, 0, rfl⟩

/-- an amount with its part on top -/
def raO (a r : Int) : Option Int := if may (partI a r) && may (a + partI a r) then some (a + partI a r) else none
def raV (a r : Int) : Int := (raO a r).getD 0
def raE (a r : Int) : Int := match raO a r with | some _ => 0 | none => 1

set_option maxRecDepth 100000 in
set_option maxHeartbeats 400000 in
theorem raise_any (a r : Int) (w : World) (hm : may a = true) (hr : isRate r = true) : Calls Tryd.prog 39 #[.int .i64 a, .int .i64 r] w fun e w' => e = .returned (.tuple #[.int .i64 (raV a r), .int .i64 (raE a r)]) ∧ Below w.heap.size w w' := by
  have HC : Hid (Calls Tryd.prog 17 #[.int .i64 a, .int .i64 r] w fun e w' => e = .returned (.tuple #[.int .i64 (partV a r), .int .i64 (partE a r)]) ∧ ∃ n, w' = w.drewN n) := Part_any a r w
  by_cases hp : may (partI a r) = true
  · have hV : partV a r = partI a r := by unfold partV; rw [hm, hr, hp]; rfl
    have hE : partE a r = 0 := by unfold partE; rw [hm, hr, hp]; rfl
    have hrV : raV a r = amV (a + partI a r) := by unfold raV raO amV; rw [hp]; cases may (a + partI a r) <;> rfl
    have hrE : raE a r = amE (a + partI a r) := by unfold raE raO amE; rw [hp]; cases may (a + partI a r) <;> rfl
    rw [hV, hE] at HC
    rw [hrV, hrE]
    obtain ⟨P, eP⟩ : ∃ P, partI a r = P := ⟨_, rfl⟩
    rw [eP] at HC hp ⊢
    obtain ⟨V, hV⟩ : ∃ V, amV (a + P) = V := ⟨_, rfl⟩
    obtain ⟨E, hE⟩ : ∃ E, amE (a + P) = E := ⟨_, rfl⟩
    have HS : Hid (∀ u : World, Calls Tryd.prog 31 #[.slice (some ⟨u.heap.size, 0, none⟩) 2 2] (u.alloc (.cells #[.int .i64 a, .int .i64 P] 3)) fun e w' => e = .returned (.tuple #[.int .i64 V, .int .i64 E]) ∧ w' = u.alloc (.cells #[.int .i64 a, .int .i64 P] 3)) := by
      intro u
      have hs : IntsAt (u.alloc (.cells #[.int .i64 a, .int .i64 P] 3)) (.slice (some ⟨u.heap.size, 0, none⟩) 2 2) [a, P] :=
        sliceAt_flat (L := [a, P]) (n := 1) (fun _ => rfl) (heap_new u _) rfl (Nat.le_refl _) (by decide)
      refine (sum_any _ [a, P] _ hs (by simp [hm, hp]) (by simp)).mono fun e w' h => ?_
      rw [← hV, ← hE]
      simpa [sumI] using h
    rw [hV, hE]
    clear hV hE hrV hrE eP hp hm hr
    go_enter Tryd.func39, Tryd.ntmps39
    go_wp2_with (first
      | (go_at_call 17; go_must (refine HC.out.mono ?_; rintro y w2 ⟨rfl, n, rfl⟩))
      | (go_at_call 31; go_must (refine (HS.out _).mono ?_; rintro y w2 ⟨rfl, rfl⟩)))
    go_ret2
    exact ⟨rfl, (below_drewN w n).trans ((Below.refl _ _).alloc (by simp) _)⟩
  · have hp' : may (partI a r) = false := by simpa using hp
    have hV : partV a r = 0 := by unfold partV; rw [hm, hr, hp']; rfl
    have hE : partE a r = 1 := by unfold partE; rw [hm, hr, hp']; rfl
    have hrV : raV a r = 0 := by unfold raV raO; rw [hp']; rfl
    have hrE : raE a r = 1 := by unfold raE raO; rw [hp']; rfl
    rw [hV, hE] at HC
    rw [hrV, hrE]
    clear hV hE hrV hrE hp hp' hm hr
    go_enter Tryd.func39, Tryd.ntmps39
    go_wp2_with (go_at_call 17; go_must (refine HC.out.mono ?_; rintro y w2 ⟨rfl, n, rfl⟩))
    go_ret2
    exact ⟨rfl, below_drewN w n⟩
end Go.Proofs.YtfaelefeiinbaaaDoor
