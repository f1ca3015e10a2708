/- Layer 22: the program's small reckonings: isWithin, isAmount, amount, times, portion. -/
import Derived.Test.YtfaelefeiinbaaaDoorCopy
import Derived.Test.YtfaelefeiinbaaaDoorMRead
import Derived.Test.YtfaelefeiinbaaaDoorMShare
import Derived.OwnWalk
import Derived.WalkMore
namespace Go.Proofs.YtfaelefeiinbaaaDoor
open Go.RowKit MP

theorem ret_pair {k l : IntKind} {a b a' b' : Int} (h : a = a') (h' : b = b') : Ending.returned (.tuple #[.int k a, .int l b]) = .returned (.tuple #[.int k a', .int l b']) := by rw [h, h']
theorem take_snoc {α : Type} (L : List α) (j : Nat) (h : j < L.length) : L.take (j + 1) = L.take j ++ [L[j]] := by
  rw [List.take_succ_eq_append_getElem h]

theorem wrapI {x : Int} (h1 : -9223372036854775808 ≤ x) (h2 : x ≤ 9223372036854775807) : IntKind.i64.wrap x = x := by
  simp [IntKind.wrap, IntKind.bits, IntKind.signed]
  omega

theorem within_any (n : Int) (w : World) : Calls Tryd.prog 32 #[.int .i64 n, .int .i64 1000000] w fun e w' => e = .returned (.bool (isRate n)) ∧ w' = w := by
  by_cases h0 : 0 ≤ n ∧ n ≤ 1000000
  · have HR : Hid (isRate n = true) := (isRate_iff n).2 h0
    obtain ⟨h1, h2⟩ := h0
    go_enter Tryd.func32, Tryd.ntmps32
    go_wp2
    go_ret
    exact ⟨by rw [HR.out]; rfl, rfl⟩
  · have HR : Hid (isRate n = false) := by show _ = _; simpa [isRate] using h0
    by_cases h1 : 0 ≤ n
    · have h2 : ¬ n ≤ 1000000 := fun h2 => h0 ⟨h1, h2⟩
      clear h0
      go_enter Tryd.func32, Tryd.ntmps32
      go_wp2
      go_ret
      exact ⟨by rw [HR.out]; rfl, rfl⟩
    · clear h0
      go_enter Tryd.func32, Tryd.ntmps32
      go_wp2
      go_ret
      exact ⟨by rw [HR.out]; rfl, rfl⟩

theorem isAmount_any (n : Int) (w : World) : Calls Tryd.prog 26 #[.int .i64 n] w fun e w' => e = .returned (.bool (may n)) ∧ w' = w := by
  by_cases h0 : -1000000000000000 ≤ n ∧ n ≤ 1000000000000000
  · have HR : Hid (may n = true) := (may_iff n).2 h0
    obtain ⟨h1, h2⟩ := h0
    go_enter Tryd.func26, Tryd.ntmps26
    go_wp2
    go_ret
    exact ⟨by rw [HR.out]; rfl, rfl⟩
  · have HR : Hid (may n = false) := (may_false n).2 h0
    by_cases h1 : -1000000000000000 ≤ n
    · have h2 : ¬ n ≤ 1000000000000000 := fun h2 => h0 ⟨h1, h2⟩
      clear h0
      go_enter Tryd.func26, Tryd.ntmps26
      go_wp2
      go_ret
      exact ⟨by rw [HR.out]; rfl, rfl⟩
    · clear h0
      go_enter Tryd.func26, Tryd.ntmps26
      go_wp2
      go_ret
      exact ⟨by rw [HR.out]; rfl, rfl⟩

/-- what a reckoning came to, or that it is no amount -/
def amE (n : Int) : Int := if may n then 0 else 1
def amV (n : Int) : Int := if may n then n else 0
theorem amount_any (n : Int) (w : World) : Calls Tryd.prog 34 #[.int .i64 n] w fun e w' => e = .returned (.tuple #[.int .i64 (amV n), .int .i64 (amE n)]) ∧ w' = w := by
  have HC : Hid (∀ u, Calls Tryd.prog 26 #[.int .i64 n] u fun e w' => e = .returned (.bool (may n)) ∧ w' = u) := fun u => isAmount_any n u
  obtain ⟨b, hb⟩ : ∃ b, may n = b := ⟨_, rfl⟩
  have HB : Hid (may n = b) := hb
  rw [hb] at HC
  clear hb
  cases b with
  | true =>
    go_enter Tryd.func34, Tryd.ntmps34
    go_wp2_with (go_at_call 26; go_must (refine (HC.out _).mono ?_; rintro y w2 ⟨rfl, rfl⟩))
    go_ret2
    exact ⟨ret_pair (by unfold amV; rw [HB.out]; rfl) (by unfold amE; rw [HB.out]; rfl), rfl⟩
  | false =>
    go_enter Tryd.func34, Tryd.ntmps34
    go_wp2_with (go_at_call 26; go_must (refine (HC.out _).mono ?_; rintro y w2 ⟨rfl, rfl⟩))
    go_ret2
    exact ⟨ret_pair (by unfold amV; rw [HB.out]; rfl) (by unfold amE; rw [HB.out]; rfl), rfl⟩

theorem times_any (a m : Int) (w : World) (ha : may a = true) (hm : isRate m = true) : Calls Tryd.prog 38 #[.int .i64 a, .int .i64 m] w fun e w' => e = .returned (.tuple #[.int .i64 (amV (a * m)), .int .i64 (amE (a * m))]) ∧ w' = w := by
  rw [may_iff] at ha
  rw [isRate_iff] at hm
  obtain ⟨a0, a1⟩ := ha
  obtain ⟨m0, m1⟩ := hm
  by_cases h0 : m = 0
  · subst h0
    go_enter Tryd.func38, Tryd.ntmps38
    go_wp2_with fail
    go_ret2
    exact ⟨ret_pair (by rw [Int.mul_zero]; rfl) (by rw [Int.mul_zero]; rfl), rfl⟩
  · have hp : 0 < m := by omega
    obtain ⟨q, hq⟩ : ∃ q, 1000000000000000 / m = q := ⟨_, rfl⟩
    have hq' : (1000000000000000 : Int).tdiv m = q := by rw [Int.tdiv_eq_ediv_of_nonneg (by omega)]; exact hq
    have hq0 : 0 ≤ q := hq ▸ Int.ediv_nonneg (by omega) m0
    have hq1 : q ≤ 1000000000000000 := hq ▸ Int.ediv_le_self _ (by omega)
    have HI : Hid (may (a * m) = true ↔ -q ≤ a ∧ a ≤ q) := by
      show _ ↔ _
      rw [may_iff]
      have k1 : a * m ≤ 1000000000000000 ↔ a ≤ q := by rw [← hq]; exact (Int.le_ediv_iff_mul_le hp).symm
      have k2 : -a * m ≤ 1000000000000000 ↔ -a ≤ q := by rw [← hq]; exact (Int.le_ediv_iff_mul_le hp).symm
      rw [Int.neg_mul] at k2
      omega
    have hw1 : IntKind.i64.wrap q = q := wrapI (by omega) (by omega)
    have hw2 : IntKind.i64.wrap (-q) = -q := wrapI (by omega) (by omega)
    clear hq
    by_cases h1 : a < -q
    · have HN : Hid (may (a * m) = false) := by
        show _ = _
        cases hh : may (a * m) with
        | false => rfl
        | true => have := HI.out.1 hh; omega
      go_enter Tryd.func38, Tryd.ntmps38
      go_wp2_with fail
      go_ret2
      exact ⟨ret_pair (by unfold amV; rw [HN.out]; rfl) (by unfold amE; rw [HN.out]; rfl), rfl⟩
    · by_cases h2 : q < a
      · have HN : Hid (may (a * m) = false) := by
          show _ = _
          cases hh : may (a * m) with
          | false => rfl
          | true => have := HI.out.1 hh; omega
        go_enter Tryd.func38, Tryd.ntmps38
        go_wp2_with fail
        go_ret2
        exact ⟨ret_pair (by unfold amV; rw [HN.out]; rfl) (by unfold amE; rw [HN.out]; rfl), rfl⟩
      · have hN : may (a * m) = true := HI.out.2 ⟨by omega, by omega⟩
        have HN : Hid (may (a * m) = true) := hN
        rw [may_iff] at hN
        have hw3 : IntKind.i64.wrap (a * m) = a * m := wrapI (by omega) (by omega)
        clear hN
        go_enter Tryd.func38, Tryd.ntmps38
        go_wp2_with fail
        go_ret2
        exact ⟨ret_pair (by unfold amV; rw [HN.out]; rfl) (by unfold amE; rw [HN.out]; rfl), rfl⟩

theorem tmod_bound {a d : Int} (h : 0 < d) : -d < a.tmod d ∧ a.tmod d < d := ⟨Int.lt_tmod_of_pos a h, Int.tmod_lt_of_pos a h⟩

set_option maxRecDepth 100000 in
set_option maxHeartbeats 400000 in
theorem portion_any (a n d : Int) (w : World) (hd : 0 < d) (hd1 : d ≤ 1000000000) (hn : 0 ≤ n) (hn1 : n ≤ 1000000) (hk : -1000000000000000000 ≤ a.tdiv d * n ∧ a.tdiv d * n ≤ 1000000000000000000) (hu : -1000000000000000 ≤ a ∧ a ≤ 1000000000000000) :
    Calls Tryd.prog 33 #[.int .i64 a, .int .i64 n, .int .i64 d] w fun e w' => e = .returned (.tuple #[.int .i64 (a.tdiv d * n + (a.tmod d * n).tdiv d), .int .i64 ((a.tmod d * n).tmod d)]) ∧ w' = w.drew := by
  have hb := tmod_bound (a := a) hd
  have hq : -1000000000000000 ≤ a.tdiv d ∧ a.tdiv d ≤ 1000000000000000 := by
    have h1 := Int.natAbs_tdiv_le_natAbs a d
    omega
  obtain ⟨u, eu⟩ : ∃ u, a.tdiv d = u := ⟨_, rfl⟩
  obtain ⟨v, ev⟩ : ∃ v, a.tmod d = v := ⟨_, rfl⟩
  rw [eu] at hk hq ⊢
  rw [ev] at hb ⊢
  obtain ⟨p, ep⟩ : ∃ p, u * n = p := ⟨_, rfl⟩
  obtain ⟨x, ex⟩ : ∃ x, v * n = x := ⟨_, rfl⟩
  have hx : -1000000000000000 ≤ x ∧ x ≤ 1000000000000000 := by
    have h1 : v * n ≤ 1000000000 * 1000000 := Int.mul_le_mul (by omega) hn1 hn (by omega)
    have h2 : -v * n ≤ 1000000000 * 1000000 := Int.mul_le_mul (by omega) hn1 hn (by omega)
    rw [Int.neg_mul] at h2
    omega
  rw [ep] at hk ⊢
  rw [ex]
  have hy : -1000000000000000 ≤ x.tdiv d ∧ x.tdiv d ≤ 1000000000000000 := by
    have h1 := Int.natAbs_tdiv_le_natAbs x d
    omega
  have hz := tmod_bound (a := x) hd
  obtain ⟨y, ey⟩ : ∃ y, x.tdiv d = y := ⟨_, rfl⟩
  obtain ⟨z, ez⟩ : ∃ z, x.tmod d = z := ⟨_, rfl⟩
  rw [ey] at hy ⊢
  rw [ez] at hz ⊢
  obtain ⟨hk1, hk2⟩ := hk
  obtain ⟨hy1, hy2⟩ := hy
  have hd0 : ¬ d = 0 := by omega
  have w1 : IntKind.i64.wrap u = u := wrapI (by omega) (by omega)
  have w2 : IntKind.i64.wrap v = v := wrapI (by omega) (by omega)
  have w3 : IntKind.i64.wrap p = p := wrapI (by omega) (by omega)
  have w4 : IntKind.i64.wrap x = x := wrapI (by omega) (by omega)
  have w5 : IntKind.i64.wrap y = y := wrapI (by omega) (by omega)
  have w6 : IntKind.i64.wrap z = z := wrapI (by omega) (by omega)
  have w7 : IntKind.i64.wrap (p + y) = p + y := wrapI (by omega) (by omega)
  clear hb hq hx hz
  go_enter Tryd.func33, Tryd.ntmps33
  go_wp2_with fail
  go_region
  go_wp2_with fail
  go_ret2
  exact ⟨rfl, rfl⟩
end Go.Proofs.YtfaelefeiinbaaaDoor
