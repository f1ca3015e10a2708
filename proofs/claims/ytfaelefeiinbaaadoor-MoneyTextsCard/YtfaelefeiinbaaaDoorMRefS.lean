/- Layer 22: the document's sums. -/
import Derived.Test.YtfaelefeiinbaaaDoorMSumC
namespace Go.Proofs.YtfaelefeiinbaaaDoor
open Go.RowKit MP

theorem rMay_any (n : Int) (w : World) : Calls Tryd.prog 28 #[.int .i64 n] w fun e w' => e = .returned (.bool (may n)) ∧ w' = w := by
  by_cases h0 : -1000000000000000 ≤ n ∧ n ≤ 1000000000000000
  · have HR : Hid (may n = true) := (may_iff n).2 h0
    obtain ⟨h1, h2⟩ := h0
    go_enter Tryd.func28, Tryd.ntmps28
    go_wp2
    go_ret
    exact ⟨by rw [HR.out]; rfl, rfl⟩
  · have HR : Hid (may n = false) := (may_false n).2 h0
    by_cases h1 : -1000000000000000 ≤ n
    · have h2 : ¬ n ≤ 1000000000000000 := fun h2 => h0 ⟨h1, h2⟩
      clear h0
      go_enter Tryd.func28, Tryd.ntmps28
      go_wp2
      go_ret
      exact ⟨by rw [HR.out]; rfl, rfl⟩
    · clear h0
      go_enter Tryd.func28, Tryd.ntmps28
      go_wp2
      go_ret
      exact ⟨by rw [HR.out]; rfl, rfl⟩

theorem rrate_any (n : Int) (w : World) : Calls Tryd.prog 35 #[.int .i64 n] w fun e w' => e = .returned (.bool (isRate n)) ∧ w' = w := by
  by_cases h0 : 0 ≤ n ∧ n ≤ 1000000
  · have HR : Hid (isRate n = true) := (isRate_iff n).2 h0
    obtain ⟨h1, h2⟩ := h0
    go_enter Tryd.func35, Tryd.ntmps35
    go_wp2
    go_ret
    exact ⟨by rw [HR.out]; rfl, rfl⟩
  · have HR : Hid (isRate n = false) := by show _ = _; simpa [isRate] using h0
    by_cases h1 : 0 ≤ n
    · have h2 : ¬ n ≤ 1000000 := fun h2 => h0 ⟨h1, h2⟩
      clear h0
      go_enter Tryd.func35, Tryd.ntmps35
      go_wp2
      go_ret
      exact ⟨by rw [HR.out]; rfl, rfl⟩
    · clear h0
      go_enter Tryd.func35, Tryd.ntmps35
      go_wp2
      go_ret
      exact ⟨by rw [HR.out]; rfl, rfl⟩

set_option maxRecDepth 100000 in
set_option maxHeartbeats 1000000 in
theorem rSum_any (v : Value) (L : List Int) (w : World) (hv : IntsAt w v L) (hB : L.length ≤ 140737488355328) : Calls Tryd.prog 16 #[v] w fun e w' => e = .returned (.tuple #[.int .i64 (sumV L), .int .i64 (sumE L)]) ∧ w' = w := by
  obtain ⟨a, c, rfl, hl, hc, hx⟩ := hv
  have HX : Hid (L ≠ [] → ∃ b off, a = some ⟨b, off, none⟩ ∧ b < w.heap.size ∧ ∀ i, (h : i < L.length) → ∀ (j : Nat) (u : Value), ([Value.int .i64 L[i]])[j]? = some u → w.cell? ⟨b, off + i * 1 + j, none⟩ = some u) := hx
  unfold maxLen at hc
  obtain ⟨V, hV⟩ : ∃ V, sumV L = V := ⟨_, rfl⟩
  obtain ⟨E, hE⟩ : ∃ E, sumE L = E := ⟨_, rfl⟩
  have HSV : Hid (sumV L = V) := hV
  have HSE : Hid (sumE L = E) := hE
  rw [hV, hE]
  clear hx hV hE
  go_enter Tryd.func16, Tryd.ntmps16
  go_wp2_with fail
  go_loop [4] (fun i => ∃ j : Nat, j ≤ L.length ∧ i = .int .i64 j ∧ Hid ((L.take j).all may = true)) (fun i => L.length - (intOf i).toNat)
  case atStart => exact ⟨0, Nat.zero_le _, rfl, (rfl : _ = _)⟩
  case round =>
    obtain ⟨j, hj, rfl, HA⟩ := hrel
    by_cases hlt : j < L.length
    · have hlI : (j : Int) < (L.length : Int) := by omega
      have hne : L ≠ [] := by intro e; rw [e] at hlt; simp at hlt
      obtain ⟨b, off, rfl, hbl, hcs⟩ := HX.out hne
      obtain ⟨x, hxe⟩ : ∃ x, L[j] = x := ⟨_, rfl⟩
      have q := hcs j hlt 0 _ rfl
      rw [hxe, Nat.mul_one, Nat.add_zero] at q
      have HXE : Hid (L[j] = x) := hxe
      clear hcs hxe hne
      by_cases hm : may x = true
      · have HM : Hid (may x = true) := hm
        have HC : Hid (∀ u, Calls Tryd.prog 28 #[.int .i64 x] u fun e w' => e = .returned (.bool true) ∧ w' = u) := fun u => (rMay_any x u).mono fun e w' h => by rw [hm] at h; exact h
        clear hm
        go_wp2_with (go_at_call 28; go_must (refine (HC.out _).mono ?_; rintro y w2 ⟨rfl, rfl⟩))
        go_round
        case rel => exact ⟨j + 1, by omega, by go_num, all_take_next hlt HA.out (by rw [HXE.out]; exact HM.out)⟩
        case measure => simp [intOf]; omega
      · have hm' : may x = false := by simpa using hm
        have HM : Hid (may x = false) := hm'
        have HC : Hid (∀ u, Calls Tryd.prog 28 #[.int .i64 x] u fun e w' => e = .returned (.bool false) ∧ w' = u) := fun u => (rMay_any x u).mono fun e w' h => by rw [hm'] at h; exact h
        clear hm hm'
        go_wp2_with (go_at_call 28; go_must (refine (HC.out _).mono ?_; rintro y w2 ⟨rfl, rfl⟩))
        go_ret2
        have hA : L.all may = false := all_no hlt (by rw [HXE.out]; exact HM.out)
        exact ⟨ret_pair (by rw [← HSV.out]; unfold sumV; rw [hA]; rfl) (by rw [← HSE.out]; unfold sumE; rw [hA]; rfl), rfl⟩
    · have hgI : ¬ (j : Int) < (L.length : Int) := by omega
      have hA2 : L.all may = true := by
        have := HA.out
        rw [List.take_of_length_le (by omega)] at this
        exact this
      have HM : Hid (L.all may = true) := hA2
      clear hj HA hA2
      go_wp2_with fail
      go_loop [5, 6, 7] (fun cv rv i => ∃ (j : Nat) (k r : Int), j ≤ L.length ∧ i = .int .i64 j ∧ cv = .int .i64 k ∧ rv = .int .i64 r ∧ Hid (Kept k r (sumI (L.take j)) j)) (fun _ _ i => L.length - (intOf i).toNat)
      case atStart => exact ⟨0, 0, 0, Nat.zero_le _, rfl, rfl, rfl, ⟨rfl, by omega, by omega, by omega, by omega⟩⟩
      case round =>
        clear hgI
        obtain ⟨j, k, r, hj, rfl, rfl, rfl, HK⟩ := hrel
        by_cases hlt : j < L.length
        · have hlI : (j : Int) < (L.length : Int) := by omega
          have hne : L ≠ [] := by intro e; rw [e] at hlt; simp at hlt
          obtain ⟨b, off, rfl, hbl, hcs⟩ := HX.out hne
          obtain ⟨x, hxe⟩ : ∃ x, L[j] = x := ⟨_, rfl⟩
          have q := hcs j hlt 0 _ rfl
          rw [hxe, Nat.mul_one, Nat.add_zero] at q
          have hxr : -1000000000000000 ≤ x ∧ x ≤ 1000000000000000 := by
            have := List.all_eq_true.1 HM.out x (hxe ▸ List.getElem_mem hlt)
            exact (may_iff x).1 this
          have HN : Hid (Kept (k + (r + x).tdiv 1000000000000000) ((r + x).tmod 1000000000000000) (sumI (L.take (j + 1))) (j + 1)) := by
            show Kept _ _ _ _
            rw [take_snoc L j hlt, sumI_snoc, hxe]
            exact HK.out.next hxr
          obtain ⟨-, k1, k2, k3, k4⟩ := HK.out
          obtain ⟨-, n1, n2, n3, n4⟩ := HN.out
          obtain ⟨s, es⟩ : ∃ s, r + x = s := ⟨_, rfl⟩
          rw [es] at HN n1 n2 n3 n4
          obtain ⟨q1, e1⟩ : ∃ q1, s.tdiv 1000000000000000 = q1 := ⟨_, rfl⟩
          obtain ⟨q2, e2⟩ : ∃ q2, s.tmod 1000000000000000 = q2 := ⟨_, rfl⟩
          rw [e1, e2] at HN
          rw [e2] at n1 n2
          rw [e1] at n3 n4
          have w0 : IntKind.i64.wrap s = s := wrapI (by omega) (by omega)
          have w1 : IntKind.i64.wrap q1 = q1 := wrapI (by omega) (by omega)
          have w2 : IntKind.i64.wrap q2 = q2 := wrapI (by omega) (by omega)
          have w3 : IntKind.i64.wrap (k + q1) = k + q1 := wrapI (by omega) (by omega)
          clear hcs hxe hne hxr n1 n2 n3 n4 k1 k2 k3 k4 HK
          go_wp2_with fail
          go_round
          case rel => exact ⟨j + 1, k + q1, q2, by omega, by go_num, rfl, rfl, HN⟩
          case measure => simp [intOf]; omega
        · have hgI : ¬ (j : Int) < (L.length : Int) := by omega
          have hK := HK.out
          rw [List.take_of_length_le (by omega)] at hK
          obtain ⟨S, hS⟩ : ∃ S, sumI L = S := ⟨_, rfl⟩
          have HS : Hid (sumI L = S) := hS
          rw [hS] at hK
          have HRS : Hid (V = amV S ∧ E = amE S) := by
            show _ ∧ _
            rw [← HSV.out, ← HSE.out]
            unfold sumV sumE amV amE
            rw [HM.out, hS]
            exact ⟨rfl, rfl⟩
          obtain ⟨k0, k1, k2, k3, k4⟩ := hK
          clear HK hS
          by_cases h2 : 1 < k
          · have HN : Hid (may S = false) := (may_false S).2 (by omega)
            clear k0 k1 k2 k3 k4
            go_wp2_with fail
            go_ret2
            exact ⟨ret_pair (by rw [HRS.out.1]; unfold amV; rw [HN.out]; rfl) (by rw [HRS.out.2]; unfold amE; rw [HN.out]; rfl), rfl⟩
          · by_cases h1 : k < -1
            · have HN : Hid (may S = false) := (may_false S).2 (by omega)
              clear k0 k1 k2 k3 k4
              go_wp2_with fail
              go_ret2
              exact ⟨ret_pair (by rw [HRS.out.1]; unfold amV; rw [HN.out]; rfl) (by rw [HRS.out.2]; unfold amE; rw [HN.out]; rfl), rfl⟩
            · have HC : Hid (∀ u, Calls Tryd.prog 28 #[.int .i64 S] u fun e w' => e = .returned (.bool (may S)) ∧ w' = u) := fun u => rMay_any S u
              have w1 : IntKind.i64.wrap (k * 1000000000000000) = k * 1000000000000000 := wrapI (by omega) (by omega)
              have w2 : IntKind.i64.wrap S = S := wrapI (by omega) (by omega)
              clear k1 k2 k3 k4
              by_cases hm : may S = true
              · have HN : Hid (may S = true) := hm
                rw [hm] at HC
                clear hm
                go_wp2_with (go_at_call 28; go_must (refine (HC.out _).mono ?_; rintro y w2 ⟨rfl, rfl⟩))
                go_ret2
                exact ⟨ret_pair (by rw [HRS.out.1]; unfold amV; rw [HN.out]; rfl) (by rw [HRS.out.2]; unfold amE; rw [HN.out]; rfl), rfl⟩
              · have hm' : may S = false := by simpa using hm
                have HN : Hid (may S = false) := hm'
                rw [hm'] at HC
                clear hm hm'
                go_wp2_with (go_at_call 28; go_must (refine (HC.out _).mono ?_; rintro y w2 ⟨rfl, rfl⟩))
                go_ret2
                exact ⟨ret_pair (by rw [HRS.out.1]; unfold amV; rw [HN.out]; rfl) (by rw [HRS.out.2]; unfold amE; rw [HN.out]; rfl), rfl⟩
end Go.Proofs.YtfaelefeiinbaaaDoor
