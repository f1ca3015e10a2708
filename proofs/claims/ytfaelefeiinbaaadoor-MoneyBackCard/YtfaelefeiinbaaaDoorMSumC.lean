/- Layer 22: the program's sums: allWithin, sum, Sum. -/
import Derived.Test.YtfaelefeiinbaaaDoorMCalls
namespace Go.Proofs.YtfaelefeiinbaaaDoor
open Go.RowKit MP

abbrev IntsAt (w : World) (v : Value) (L : List Int) : Prop := SliceAt w v 1 (fun x : Int => [Value.int .i64 x]) L

theorem all_take_next {p : Int → Bool} {L : List Int} {j : Nat} (h : j < L.length) (h1 : (L.take j).all p = true) (h2 : p L[j] = true) : (L.take (j + 1)).all p = true := by
  rw [take_snoc L j h, List.all_append, h1]
  simp [h2]
theorem all_no {p : Int → Bool} {L : List Int} {j : Nat} (h : j < L.length) (h2 : p L[j] = false) : L.all p = false := by
  rw [List.all_eq_false]
  exact ⟨L[j], List.getElem_mem h, by simp [h2]⟩

set_option maxRecDepth 100000 in
set_option maxHeartbeats 400000 in
theorem allWithin_any (v : Value) (L : List Int) (w : World) (hv : IntsAt w v L) : Calls Tryd.prog 37 #[v, .int .i64 1000000] w fun e w' => e = .returned (.bool (L.all isRate)) ∧ w' = w := by
  obtain ⟨a, c, rfl, hl, hc, hx⟩ := hv
  have HX : Hid (L ≠ [] → ∃ b off, a = some ⟨b, off, none⟩ ∧ b < w.heap.size ∧ ∀ i, (h : i < L.length) → ∀ (j : Nat) (u : Value), ([Value.int .i64 L[i]])[j]? = some u → w.cell? ⟨b, off + i * 1 + j, none⟩ = some u) := hx
  unfold maxLen at hc
  clear hx
  go_enter Tryd.func37, Tryd.ntmps37
  go_wp2_with fail
  go_loop [8] (fun i => ∃ j : Nat, j ≤ L.length ∧ i = .int .i64 j ∧ Hid ((L.take j).all isRate = true)) (fun i => L.length - (intOf i).toNat)
  case atStart => exact ⟨0, Nat.zero_le _, rfl, (rfl : _ = _)⟩
  case round =>
    obtain ⟨j, hj, rfl, HA⟩ := hrel
    by_cases hlt : j < L.length
    · have hlI : (j : Int) < (L.length : Int) := by omega
      have hne : L ≠ [] := by intro e; rw [e] at hlt; simp at hlt
      obtain ⟨b, off, rfl, hbl, hcs⟩ := HX.out hne
      obtain ⟨x, hxe⟩ : ∃ x, L[j] = x := ⟨_, rfl⟩
      have q := hcs j hlt 0 _ rfl
      rw [hxe, Nat.mul_one, Nat.add_zero] at q
      have HXE : Hid (L[j] = x) := hxe
      clear hcs hxe hne
      by_cases hm : isRate x = true
      · have HM : Hid (isRate x = true) := hm
        have HC : Hid (∀ u, Calls Tryd.prog 32 #[.int .i64 x, .int .i64 1000000] u fun e w' => e = .returned (.bool true) ∧ w' = u) := fun u => (within_any x u).mono fun e w' h => by rw [hm] at h; exact h
        clear hm
        go_wp2_with (go_at_call 32; go_must (refine (HC.out _).mono ?_; rintro y w2 ⟨rfl, rfl⟩))
        go_round
        case rel => exact ⟨j + 1, by omega, by go_num, all_take_next hlt HA.out (by rw [HXE.out]; exact HM.out)⟩
        case measure => simp [intOf]; omega
      · have hm' : isRate x = false := by simpa using hm
        have HM : Hid (isRate x = false) := hm'
        have HC : Hid (∀ u, Calls Tryd.prog 32 #[.int .i64 x, .int .i64 1000000] u fun e w' => e = .returned (.bool false) ∧ w' = u) := fun u => (within_any x u).mono fun e w' h => by rw [hm'] at h; exact h
        clear hm hm'
        go_wp2_with (go_at_call 32; go_must (refine (HC.out _).mono ?_; rintro y w2 ⟨rfl, rfl⟩))
        go_ret
        have hA : L.all isRate = false := all_no hlt (by rw [HXE.out]; exact HM.out)
        exact ⟨by rw [hA]; rfl, rfl⟩
    · have hgI : ¬ (j : Int) < (L.length : Int) := by omega
      have HA2 : Hid (L.all isRate = true) := by
        have := HA.out
        rw [List.take_of_length_le (by omega)] at this
        exact this
      clear hj HA
      go_wp2_with fail
      go_ret
      exact ⟨by rw [HA2.out]; rfl, rfl⟩

/-- a sum is kept as so many of the greatest amounts and a rest -/
def Kept (c r s : Int) (j : Nat) : Prop := c * 1000000000000000 + r = s ∧ -1000000000000000 < r ∧ r < 1000000000000000 ∧ -(2 * j : Int) ≤ c ∧ c ≤ 2 * j
theorem Kept.next {c r s x : Int} {j : Nat} (h : Kept c r s j) (hx : -1000000000000000 ≤ x ∧ x ≤ 1000000000000000) : Kept (c + (r + x).tdiv 1000000000000000) ((r + x).tmod 1000000000000000) (s + x) (j + 1) := by
  obtain ⟨h1, h2, h3, h4, h5⟩ := h
  have e := Int.mul_tdiv_add_tmod (r + x) 1000000000000000
  have b := tmod_bound (a := r + x) (d := 1000000000000000) (by omega)
  refine ⟨by rw [Int.add_mul]; omega, b.1, b.2, ?_, ?_⟩ <;> omega

set_option maxRecDepth 100000 in
set_option maxHeartbeats 1000000 in
theorem sum_any (v : Value) (L : List Int) (w : World) (hv : IntsAt w v L) (hm : L.all may = true) (hB : L.length ≤ 140737488355328) : Calls Tryd.prog 31 #[v] w fun e w' => e = .returned (.tuple #[.int .i64 (amV (sumI L)), .int .i64 (amE (sumI L))]) ∧ w' = w := by
  obtain ⟨a, c, rfl, hl, hc, hx⟩ := hv
  have HX : Hid (L ≠ [] → ∃ b off, a = some ⟨b, off, none⟩ ∧ b < w.heap.size ∧ ∀ i, (h : i < L.length) → ∀ (j : Nat) (u : Value), ([Value.int .i64 L[i]])[j]? = some u → w.cell? ⟨b, off + i * 1 + j, none⟩ = some u) := hx
  have HM : Hid (L.all may = true) := hm
  unfold maxLen at hc
  obtain ⟨S, hS⟩ : ∃ S, sumI L = S := ⟨_, rfl⟩
  have HS : Hid (sumI L = S) := hS
  have HC : Hid (∀ u, Calls Tryd.prog 34 #[.int .i64 S] u fun e w' => e = .returned (.tuple #[.int .i64 (amV S), .int .i64 (amE S)]) ∧ w' = u) := fun u => amount_any S u
  obtain ⟨V, hV⟩ : ∃ V, amV S = V := ⟨_, rfl⟩
  obtain ⟨E, hE⟩ : ∃ E, amE S = E := ⟨_, rfl⟩
  have HV : Hid (amV S = V) := hV
  have HE : Hid (amE S = E) := hE
  rw [hS]
  rw [hV, hE] at HC ⊢
  clear hx hm hS hV hE
  go_enter Tryd.func31, Tryd.ntmps31
  go_wp2_with fail
  go_loop [4, 5, 9] (fun cv rv i => ∃ (j : Nat) (k r : Int), j ≤ L.length ∧ i = .int .i64 j ∧ cv = .int .i64 k ∧ rv = .int .i64 r ∧ Hid (Kept k r (sumI (L.take j)) j)) (fun _ _ i => L.length - (intOf i).toNat)
  case atStart => exact ⟨0, 0, 0, Nat.zero_le _, rfl, rfl, rfl, ⟨rfl, by omega, by omega, by omega, by omega⟩⟩
  case round =>
    obtain ⟨j, k, r, hj, rfl, rfl, rfl, HK⟩ := hrel
    by_cases hlt : j < L.length
    · have hlI : (j : Int) < (L.length : Int) := by omega
      have hne : L ≠ [] := by intro e; rw [e] at hlt; simp at hlt
      obtain ⟨b, off, rfl, hbl, hcs⟩ := HX.out hne
      obtain ⟨x, hxe⟩ : ∃ x, L[j] = x := ⟨_, rfl⟩
      have q := hcs j hlt 0 _ rfl
      rw [hxe, Nat.mul_one, Nat.add_zero] at q
      have hxr : -1000000000000000 ≤ x ∧ x ≤ 1000000000000000 := by
        have := List.all_eq_true.1 HM.out x (hxe ▸ List.getElem_mem hlt)
        exact (may_iff x).1 this
      have HN : Hid (Kept (k + (r + x).tdiv 1000000000000000) ((r + x).tmod 1000000000000000) (sumI (L.take (j + 1))) (j + 1)) := by
        show Kept _ _ _ _
        rw [take_snoc L j hlt, sumI_snoc, hxe]
        exact HK.out.next hxr
      obtain ⟨-, k1, k2, k3, k4⟩ := HK.out
      obtain ⟨-, n1, n2, n3, n4⟩ := HN.out
      obtain ⟨s, es⟩ : ∃ s, r + x = s := ⟨_, rfl⟩
      rw [es] at HN n1 n2 n3 n4
      obtain ⟨q1, e1⟩ : ∃ q1, s.tdiv 1000000000000000 = q1 := ⟨_, rfl⟩
      obtain ⟨q2, e2⟩ : ∃ q2, s.tmod 1000000000000000 = q2 := ⟨_, rfl⟩
      rw [e1, e2] at HN
      rw [e2] at n1 n2
      rw [e1] at n3 n4
      have w0 : IntKind.i64.wrap s = s := wrapI (by omega) (by omega)
      have w1 : IntKind.i64.wrap q1 = q1 := wrapI (by omega) (by omega)
      have w2 : IntKind.i64.wrap q2 = q2 := wrapI (by omega) (by omega)
      have w3 : IntKind.i64.wrap (k + q1) = k + q1 := wrapI (by omega) (by omega)
      clear hcs hxe hne hxr n1 n2 n3 n4 k1 k2 k3 k4 HK
      go_wp2_with fail
      go_round
      case rel => exact ⟨j + 1, k + q1, q2, by omega, by go_num, rfl, rfl, HN⟩
      case measure => simp [intOf]; omega
    · have hgI : ¬ (j : Int) < (L.length : Int) := by omega
      have hK := HK.out
      rw [List.take_of_length_le (by omega)] at hK
      rw [HS.out] at hK
      obtain ⟨k0, k1, k2, k3, k4⟩ := hK
      clear HK
      by_cases h1 : k < -1
      · have HN : Hid (may S = false) := (may_false S).2 (by omega)
        clear k0 k1 k2 k3 k4
        go_wp2_with fail
        go_ret2
        exact ⟨ret_pair (by rw [← HV.out]; unfold amV; rw [HN.out]; rfl) (by rw [← HE.out]; unfold amE; rw [HN.out]; rfl), rfl⟩
      · by_cases h2 : 1 < k
        · have HN : Hid (may S = false) := (may_false S).2 (by omega)
          clear k0 k1 k2 k3 k4
          go_wp2_with fail
          go_ret2
          exact ⟨ret_pair (by rw [← HV.out]; unfold amV; rw [HN.out]; rfl) (by rw [← HE.out]; unfold amE; rw [HN.out]; rfl), rfl⟩
        · have w1 : IntKind.i64.wrap (k * 1000000000000000) = k * 1000000000000000 := wrapI (by omega) (by omega)
          have w2 : IntKind.i64.wrap S = S := wrapI (by omega) (by omega)
          clear k1 k2 k3 k4
          go_wp2_with (go_at_call 34; go_must (refine (HC.out _).mono ?_; rintro y w2 ⟨rfl, rfl⟩))
          go_ret2
          exact ⟨rfl, rfl⟩

set_option maxRecDepth 100000 in
set_option maxHeartbeats 400000 in
theorem Sum_any (v : Value) (L : List Int) (w : World) (hv : IntsAt w v L) (hB : L.length ≤ 140737488355328) : Calls Tryd.prog 15 #[v] w fun e w' => e = .returned (.tuple #[.int .i64 (sumV L), .int .i64 (sumE L)]) ∧ w' = w := by
  have HV : Hid (IntsAt w v L) := hv
  obtain ⟨a, c, rfl, hl, hc, hx⟩ := hv
  have HX : Hid (L ≠ [] → ∃ b off, a = some ⟨b, off, none⟩ ∧ b < w.heap.size ∧ ∀ i, (h : i < L.length) → ∀ (j : Nat) (u : Value), ([Value.int .i64 L[i]])[j]? = some u → w.cell? ⟨b, off + i * 1 + j, none⟩ = some u) := hx
  unfold maxLen at hc
  obtain ⟨V, hV⟩ : ∃ V, sumV L = V := ⟨_, rfl⟩
  obtain ⟨E, hE⟩ : ∃ E, sumE L = E := ⟨_, rfl⟩
  have HSV : Hid (sumV L = V) := hV
  have HSE : Hid (sumE L = E) := hE
  rw [hV, hE]
  clear hx hV hE
  go_enter Tryd.func15, Tryd.ntmps15
  go_wp2_with fail
  go_loop [7] (fun i => ∃ j : Nat, j ≤ L.length ∧ i = .int .i64 j ∧ Hid ((L.take j).all may = true)) (fun i => L.length - (intOf i).toNat)
  case atStart => exact ⟨0, Nat.zero_le _, rfl, (rfl : _ = _)⟩
  case round =>
    obtain ⟨j, hj, rfl, HA⟩ := hrel
    by_cases hlt : j < L.length
    · have hlI : (j : Int) < (L.length : Int) := by omega
      have hne : L ≠ [] := by intro e; rw [e] at hlt; simp at hlt
      obtain ⟨b, off, rfl, hbl, hcs⟩ := HX.out hne
      obtain ⟨x, hxe⟩ : ∃ x, L[j] = x := ⟨_, rfl⟩
      have q := hcs j hlt 0 _ rfl
      rw [hxe, Nat.mul_one, Nat.add_zero] at q
      have HXE : Hid (L[j] = x) := hxe
      clear hcs hxe hne
      by_cases hm : may x = true
      · have HM : Hid (may x = true) := hm
        have HC : Hid (∀ u, Calls Tryd.prog 26 #[.int .i64 x] u fun e w' => e = .returned (.bool true) ∧ w' = u) := fun u => (isAmount_any x u).mono fun e w' h => by rw [hm] at h; exact h
        clear hm
        go_wp2_with (go_at_call 26; go_must (refine (HC.out _).mono ?_; rintro y w2 ⟨rfl, rfl⟩))
        go_round
        case rel => exact ⟨j + 1, by omega, by go_num, all_take_next hlt HA.out (by rw [HXE.out]; exact HM.out)⟩
        case measure => simp [intOf]; omega
      · have hm' : may x = false := by simpa using hm
        have HM : Hid (may x = false) := hm'
        have HC : Hid (∀ u, Calls Tryd.prog 26 #[.int .i64 x] u fun e w' => e = .returned (.bool false) ∧ w' = u) := fun u => (isAmount_any x u).mono fun e w' h => by rw [hm'] at h; exact h
        clear hm hm'
        go_wp2_with (go_at_call 26; go_must (refine (HC.out _).mono ?_; rintro y w2 ⟨rfl, rfl⟩))
        go_ret2
        have hA : L.all may = false := all_no hlt (by rw [HXE.out]; exact HM.out)
        exact ⟨ret_pair (by rw [← HSV.out]; unfold sumV; rw [hA]; rfl) (by rw [← HSE.out]; unfold sumE; rw [hA]; rfl), rfl⟩
    · have hgI : ¬ (j : Int) < (L.length : Int) := by omega
      have hA2 : L.all may = true := by
        have := HA.out
        rw [List.take_of_length_le (by omega)] at this
        exact this
      have HC : Hid (Calls Tryd.prog 31 #[.slice a L.length c] w fun e w' => e = .returned (.tuple #[.int .i64 V, .int .i64 E]) ∧ w' = w) := by
        refine (sum_any _ L w HV.out hA2 hB).mono fun e w' h => ?_
        rw [← HSV.out, ← HSE.out]
        unfold sumV sumE
        rw [hA2]
        exact h
      clear hj HA hA2
      go_wp2_with (go_at_call 31; go_must (refine HC.out.mono ?_; rintro y w2 ⟨rfl, rfl⟩))
      go_ret2
      exact ⟨rfl, rfl⟩
end Go.Proofs.YtfaelefeiinbaaaDoor
