/- Layer 22: the document's prices. -/
import Derived.Test.YtfaelefeiinbaaaDoorMRefP
namespace Go.Proofs.YtfaelefeiinbaaaDoor
open Go.RowKit MP

theorem rng {n : Int} (h : isRate n = false) : n < 0 ∨ 1000000 < n := by
  have : ¬ (0 ≤ n ∧ n ≤ 1000000) := fun hh => by rw [(isRate_iff n).2 hh] at h; cases h
  omega
theorem prO_next {a m p : Int} {L : List Int} {j : Nat} (hlt : j < L.length) (h : prO a m (L.take j) = some p) : prO a m (L.take (j + 1)) = raO p L[j] := by
  rw [take_snoc L j hlt, prO_snoc, h]
  rfl

theorem prO_may {a m p : Int} {l : List Int} (h : prO a m l = some p) : may p = true := by
  unfold prO at h
  split at h
  · rename_i hm; exact adds_may hm h
  · cases h

set_option maxRecDepth 100000 in
set_option maxHeartbeats 1000000 in
theorem rPrice_any (a m : Int) (v : Value) (L : List Int) (w : World) (hv : IntsAt w v L) : Calls Tryd.prog 20 #[.int .i64 a, .int .i64 m, v] w fun e w' => e = .returned (.tuple #[.int .i64 (priceV a m L), .int .i64 (priceE a m L)]) ∧ w' = w := by
  obtain ⟨a1, c, rfl, hl, hc, hx⟩ := hv
  have HX : Hid (L ≠ [] → ∃ b off, a1 = some ⟨b, off, none⟩ ∧ b < w.heap.size ∧ ∀ i, (h : i < L.length) → ∀ (j : Nat) (u : Value), ([Value.int .i64 L[i]])[j]? = some u → w.cell? ⟨b, off + i * 1 + j, none⟩ = some u) := hx
  unfold maxLen at hc
  clear hx
  have HC : Hid (∀ u, Calls Tryd.prog 28 #[.int .i64 a] u fun e w' => e = .returned (.bool (may a)) ∧ w' = u) := fun u => rMay_any a u
  by_cases hm : may a = true
  · have HM : Hid (may a = true) := hm
    rw [hm] at HC
    by_cases hr : isRate m = true
    · have HR : Hid (isRate m = true) := hr
      obtain ⟨m0, m1⟩ := (isRate_iff m).1 hr
      obtain ⟨V, hV⟩ : ∃ V, priceV a m L = V := ⟨_, rfl⟩
      obtain ⟨E, hE⟩ : ∃ E, priceE a m L = E := ⟨_, rfl⟩
      have HPV : Hid (priceV a m L = V) := hV
      have HPE : Hid (priceE a m L = E) := hE
      rw [hV, hE]
      clear hV hE hm hr
      go_enter Tryd.func20, Tryd.ntmps20
      go_wp2_with (go_at_call 28; go_must (refine (HC.out _).mono ?_; rintro y w2 ⟨rfl, hwz⟩; obtain rfl := hwz.symm))
      go_loop [8] (fun i => ∃ j : Nat, j ≤ L.length ∧ i = .int .i64 j ∧ Hid ((L.take j).all isRate = true)) (fun i => L.length - (intOf i).toNat)
      case atStart => exact ⟨0, Nat.zero_le _, rfl, (rfl : _ = _)⟩
      case round =>
        clear HC
        obtain ⟨j, hj, rfl, HA⟩ := hrel
        by_cases hlt : j < L.length
        · have hlI : (j : Int) < (L.length : Int) := by omega
          have hne : L ≠ [] := by intro e; rw [e] at hlt; simp at hlt
          obtain ⟨b, off, rfl, hbl, hcs⟩ := HX.out hne
          obtain ⟨x, hxe⟩ : ∃ x, L[j] = x := ⟨_, rfl⟩
          have q := hcs j hlt 0 _ rfl
          rw [hxe, Nat.mul_one, Nat.add_zero] at q
          have HXE : Hid (L[j] = x) := hxe
          have HD : Hid (∀ u, Calls Tryd.prog 35 #[.int .i64 x] u fun e w' => e = .returned (.bool (isRate x)) ∧ w' = u) := fun u => rrate_any x u
          clear hcs hxe hne
          by_cases hm : isRate x = true
          · have HM : Hid (isRate x = true) := hm
            rw [hm] at HD
            clear hm
            go_wp2_with (go_at_call 35; go_must (refine (HD.out _).mono ?_; rintro y w2 ⟨rfl, hwz⟩; obtain rfl := hwz.symm))
            go_round
            case rel => exact ⟨j + 1, by omega, by go_num, all_take_next hlt HA.out (by rw [HXE.out]; exact HM.out)⟩
            case measure => simp [intOf]; omega
          · have hm' : isRate x = false := by simpa using hm
            have HN : Hid (isRate x = false) := hm'
            rw [hm'] at HD
            clear hm hm'
            go_wp2_with (go_at_call 35; go_must (refine (HD.out _).mono ?_; rintro y w2 ⟨rfl, hwz⟩; obtain rfl := hwz.symm))
            go_ret2
            have hA : L.all isRate = false := all_no hlt (by rw [HXE.out]; exact HN.out)
            obtain ⟨e1, e2⟩ := price_no (m := m) HM.out (Or.inr hA)
            exact ⟨ret_pair (by rw [← HPV.out, e1]) (by rw [← HPE.out, e2]), rfl⟩
        · have hgI : ¬ (j : Int) < (L.length : Int) := by omega
          have HAl : Hid (L.all isRate = true) := by
            have := HA.out
            rw [List.take_of_length_le (by omega)] at this
            exact this
          clear hj HA
          have hts : (m = 0 ∧ may (a * m) = true) ∨ (0 < m ∧ ∃ q, 1000000000000000 / m = q ∧ (1000000000000000 : Int).tdiv m = q ∧ 0 ≤ q ∧ q ≤ 1000000000000000 ∧ (may (a * m) = true ↔ -q ≤ a ∧ a ≤ q)) := by
            by_cases h0 : m = 0
            · subst h0
              exact Or.inl ⟨rfl, by rw [Int.mul_zero]; rfl⟩
            · have hp : 0 < m := by omega
              have hq' : (1000000000000000 : Int).tdiv m = 1000000000000000 / m := Int.tdiv_eq_ediv_of_nonneg (by omega)
              refine Or.inr ⟨hp, _, rfl, hq', Int.ediv_nonneg (by omega) m0, Int.ediv_le_self _ (by omega), ?_⟩
              rw [may_iff]
              have k1 : a * m ≤ 1000000000000000 ↔ a ≤ 1000000000000000 / m := (Int.le_ediv_iff_mul_le hp).symm
              have k2 : -a * m ≤ 1000000000000000 ↔ -a ≤ 1000000000000000 / m := (Int.le_ediv_iff_mul_le hp).symm
              rw [Int.neg_mul] at k2
              omega
          have go : Hid (may (a * m) = true) → IntKind.i64.wrap (a * m) = a * m := fun h => by
            have := (may_iff _).1 h.out
            exact wrapI (by omega) (by omega)
          have HGo : Hid (Hid (may (a * m) = true) → IntKind.i64.wrap (a * m) = a * m) := go
          have HNo : Hid (may (a * m) = false → V = 0 ∧ E = 1) := fun h => by
            have := price_end (p := 0) (e := 1) (L := L) HM.out HR.out HAl.out (Or.inr ⟨rfl, rfl, by unfold prO; rw [h]; rfl⟩)
            rw [HPV.out, HPE.out] at this
            exact this
          clear go
          rcases hts with ⟨h0, hmm⟩ | ⟨hpos, q, hq1, hq2, q0, q1, hiff⟩
          · have hz : ¬ 0 < m := by omega
            have hw := HGo.out hmm
            have H0 : Hid (prO a m (L.take 0) = some (a * m)) := by
              show _ = _
              unfold prO
              rw [hmm]
              rfl
            clear h0 hmm HGo
            go_wp2_with fail
            go_loop [9, 10] (fun nv i => ∃ (j : Nat) (p : Int), j ≤ L.length ∧ i = .int .i64 j ∧ nv = .int .i64 p ∧ Hid (prO a m (L.take j) = some p)) (fun _ i => L.length - (intOf i).toNat)
            case atStart => exact ⟨0, _, Nat.zero_le _, rfl, rfl, H0⟩
            case round =>
              clear H0 HNo hw
              obtain ⟨j, p, hj, rfl, rfl, HO⟩ := hrel
              by_cases hlt : j < L.length
              · have hlI : (j : Int) < (L.length : Int) := by omega
                have hne : L ≠ [] := by intro e; rw [e] at hlt; simp at hlt
                obtain ⟨b, off, rfl, hbl, hcs⟩ := HX.out hne
                obtain ⟨x, hxe⟩ : ∃ x, L[j] = x := ⟨_, rfl⟩
                have q := hcs j hlt 0 _ rfl
                rw [hxe, Nat.mul_one, Nat.add_zero] at q
                have hp := prO_may HO.out
                have hxr : isRate x = true := List.all_eq_true.1 HAl.out x (hxe ▸ List.getElem_mem hlt)
                have hN : prO a m (L.take (j + 1)) = raO p x := by rw [prO_next hlt HO.out, hxe]
                have HP : Hid (∀ u, Calls Tryd.prog 18 #[.int .i64 p, .int .i64 x] u fun e w' => e = .returned (.tuple #[.int .i64 (partV p x), .int .i64 (partE p x)]) ∧ w' = u) := fun u => rPart_any p x u
                have HNo : Hid (raO p x = none → V = 0 ∧ E = 1) := fun h => by
                  have := price_end (p := 0) (e := 1) (L := L) HM.out HR.out HAl.out (Or.inr ⟨rfl, rfl, prO_none (hN.trans h)⟩)
                  rw [HPV.out, HPE.out] at this
                  exact this
                have hbd := partI_bound hp hxr
                have hpr := (may_iff p).1 hp
                by_cases hq : may (partI p x) = true
                · have hV : partV p x = partI p x := by unfold partV; rw [hp, hxr, hq]; rfl
                  have hE : partE p x = 0 := by unfold partE; rw [hp, hxr, hq]; rfl
                  rw [hV, hE] at HP
                  have HRa : Hid (raO p x = if may (p + partI p x) then some (p + partI p x) else none) := by
                    show _ = _
                    unfold raO
                    rw [hq]
                    simp
                  obtain ⟨P, eP⟩ : ∃ P, partI p x = P := ⟨_, rfl⟩
                  rw [eP] at HP HRa hbd
                  obtain ⟨n2, en⟩ : ∃ n2, p + P = n2 := ⟨_, rfl⟩
                  rw [en] at HRa
                  have w1 : IntKind.i64.wrap n2 = n2 := wrapI (by omega) (by omega)
                  have HD : Hid (∀ u, Calls Tryd.prog 28 #[.int .i64 n2] u fun e w' => e = .returned (.bool (may n2)) ∧ w' = u) := fun u => rMay_any n2 u
                  have HN : Hid (prO a m (L.take (j + 1)) = raO p x) := hN
                  clear hcs hxe hne hp hxr hN hV hE eP hbd hpr hq
                  by_cases hy : may n2 = true
                  · rw [hy] at HD HRa
                    have HN2 : Hid (prO a m (L.take (j + 1)) = some n2) := HN.out.trans HRa.out
                    clear hy HRa
                    go_wp2_with (first
                      | (go_at_call 18; go_must (refine (HP.out _).mono ?_; rintro y w2 ⟨rfl, hwz⟩; obtain rfl := hwz.symm))
                      | (go_at_call 28; go_must (refine (HD.out _).mono ?_; rintro y w2 ⟨rfl, hwz⟩; obtain rfl := hwz.symm)))
                    go_round
                    case rel => exact ⟨j + 1, n2, by omega, by go_num, rfl, HN2⟩
                    case measure => simp [intOf]; omega
                  · have hy' : may n2 = false := by simpa using hy
                    rw [hy'] at HD HRa
                    have HE : Hid (V = 0 ∧ E = 1) := HNo.out HRa.out
                    clear hy hy' HRa
                    go_wp2_with (first
                      | (go_at_call 18; go_must (refine (HP.out _).mono ?_; rintro y w2 ⟨rfl, hwz⟩; obtain rfl := hwz.symm))
                      | (go_at_call 28; go_must (refine (HD.out _).mono ?_; rintro y w2 ⟨rfl, hwz⟩; obtain rfl := hwz.symm)))
                    go_ret2
                    exact ⟨by rw [HE.out.1, HE.out.2]; rfl, rfl⟩
                · have hq' : may (partI p x) = false := by simpa using hq
                  have hV : partV p x = 0 := by unfold partV; rw [hp, hxr, hq']; rfl
                  have hE : partE p x = 1 := by unfold partE; rw [hp, hxr, hq']; rfl
                  rw [hV, hE] at HP
                  have HE : Hid (V = 0 ∧ E = 1) := HNo.out (by unfold raO; rw [hq']; rfl)
                  clear hcs hxe hne hp hxr hN hV hE hbd hpr hq hq'
                  go_wp2_with (go_at_call 18; go_must (refine (HP.out _).mono ?_; rintro y w2 ⟨rfl, hwz⟩; obtain rfl := hwz.symm))
                  go_ret2
                  exact ⟨by rw [HE.out.1, HE.out.2]; rfl, rfl⟩
              · have hgI2 : ¬ (j : Int) < (L.length : Int) := by omega
                have hO := HO.out
                rw [List.take_of_length_le (by omega)] at hO
                have HE : Hid (V = p ∧ E = 0) := by
                  have := price_end HM.out HR.out HAl.out (Or.inl ⟨rfl, hO, prO_may hO⟩)
                  rw [HPV.out, HPE.out] at this
                  exact this
                clear hO HO
                go_wp2_with fail
                go_ret2
                exact ⟨by rw [HE.out.1, HE.out.2]; rfl, rfl⟩
          · have hw1 : IntKind.i64.wrap q = q := wrapI (by omega) (by omega)
            have hw2 : IntKind.i64.wrap (-q) = -q := wrapI (by omega) (by omega)
            have HI : Hid (may (a * m) = true ↔ -q ≤ a ∧ a ≤ q) := hiff
            clear hiff
            by_cases h2 : q < a
            · have HE : Hid (V = 0 ∧ E = 1) := HNo.out (by
                cases hh : may (a * m) with
                | false => rfl
                | true => have := HI.out.1 hh; omega)
              clear HI HGo HNo
              go_wp2_with fail
              go_ret2
              exact ⟨by rw [HE.out.1, HE.out.2]; rfl, rfl⟩
            · by_cases h1 : a < -q
              · have HE : Hid (V = 0 ∧ E = 1) := HNo.out (by
                  cases hh : may (a * m) with
                  | false => rfl
                  | true => have := HI.out.1 hh; omega)
                clear HI HGo HNo
                go_wp2_with fail
                go_ret2
                exact ⟨by rw [HE.out.1, HE.out.2]; rfl, rfl⟩
              · have hmm : may (a * m) = true := HI.out.2 ⟨by omega, by omega⟩
                have hw := HGo.out hmm
                have H0 : Hid (prO a m (L.take 0) = some (a * m)) := by
                  show _ = _
                  unfold prO
                  rw [hmm]
                  rfl
                clear hmm HGo HI
                go_wp2_with fail
                go_loop [9, 10] (fun nv i => ∃ (j : Nat) (p : Int), j ≤ L.length ∧ i = .int .i64 j ∧ nv = .int .i64 p ∧ Hid (prO a m (L.take j) = some p)) (fun _ i => L.length - (intOf i).toNat)
                case atStart => exact ⟨0, _, Nat.zero_le _, rfl, rfl, H0⟩
                case round =>
                  clear H0 HNo hw
                  obtain ⟨j, p, hj, rfl, rfl, HO⟩ := hrel
                  by_cases hlt : j < L.length
                  · have hlI : (j : Int) < (L.length : Int) := by omega
                    have hne : L ≠ [] := by intro e; rw [e] at hlt; simp at hlt
                    obtain ⟨b, off, rfl, hbl, hcs⟩ := HX.out hne
                    obtain ⟨x, hxe⟩ : ∃ x, L[j] = x := ⟨_, rfl⟩
                    have q := hcs j hlt 0 _ rfl
                    rw [hxe, Nat.mul_one, Nat.add_zero] at q
                    have hp := prO_may HO.out
                    have hxr : isRate x = true := List.all_eq_true.1 HAl.out x (hxe ▸ List.getElem_mem hlt)
                    have hN : prO a m (L.take (j + 1)) = raO p x := by rw [prO_next hlt HO.out, hxe]
                    have HP : Hid (∀ u, Calls Tryd.prog 18 #[.int .i64 p, .int .i64 x] u fun e w' => e = .returned (.tuple #[.int .i64 (partV p x), .int .i64 (partE p x)]) ∧ w' = u) := fun u => rPart_any p x u
                    have HNo : Hid (raO p x = none → V = 0 ∧ E = 1) := fun h => by
                      have := price_end (p := 0) (e := 1) (L := L) HM.out HR.out HAl.out (Or.inr ⟨rfl, rfl, prO_none (hN.trans h)⟩)
                      rw [HPV.out, HPE.out] at this
                      exact this
                    have hbd := partI_bound hp hxr
                    have hpr := (may_iff p).1 hp
                    by_cases hq : may (partI p x) = true
                    · have hV : partV p x = partI p x := by unfold partV; rw [hp, hxr, hq]; rfl
                      have hE : partE p x = 0 := by unfold partE; rw [hp, hxr, hq]; rfl
                      rw [hV, hE] at HP
                      have HRa : Hid (raO p x = if may (p + partI p x) then some (p + partI p x) else none) := by
                        show _ = _
                        unfold raO
                        rw [hq]
                        simp
                      obtain ⟨P, eP⟩ : ∃ P, partI p x = P := ⟨_, rfl⟩
                      rw [eP] at HP HRa hbd
                      obtain ⟨n2, en⟩ : ∃ n2, p + P = n2 := ⟨_, rfl⟩
                      rw [en] at HRa
                      have w1 : IntKind.i64.wrap n2 = n2 := wrapI (by omega) (by omega)
                      have HD : Hid (∀ u, Calls Tryd.prog 28 #[.int .i64 n2] u fun e w' => e = .returned (.bool (may n2)) ∧ w' = u) := fun u => rMay_any n2 u
                      have HN : Hid (prO a m (L.take (j + 1)) = raO p x) := hN
                      clear hcs hxe hne hp hxr hN hV hE eP hbd hpr hq
                      by_cases hy : may n2 = true
                      · rw [hy] at HD HRa
                        have HN2 : Hid (prO a m (L.take (j + 1)) = some n2) := HN.out.trans HRa.out
                        clear hy HRa
                        go_wp2_with (first
                          | (go_at_call 18; go_must (refine (HP.out _).mono ?_; rintro y w2 ⟨rfl, hwz⟩; obtain rfl := hwz.symm))
                          | (go_at_call 28; go_must (refine (HD.out _).mono ?_; rintro y w2 ⟨rfl, hwz⟩; obtain rfl := hwz.symm)))
                        go_round
                        case rel => exact ⟨j + 1, n2, by omega, by go_num, rfl, HN2⟩
                        case measure => simp [intOf]; omega
                      · have hy' : may n2 = false := by simpa using hy
                        rw [hy'] at HD HRa
                        have HE : Hid (V = 0 ∧ E = 1) := HNo.out HRa.out
                        clear hy hy' HRa
                        go_wp2_with (first
                          | (go_at_call 18; go_must (refine (HP.out _).mono ?_; rintro y w2 ⟨rfl, hwz⟩; obtain rfl := hwz.symm))
                          | (go_at_call 28; go_must (refine (HD.out _).mono ?_; rintro y w2 ⟨rfl, hwz⟩; obtain rfl := hwz.symm)))
                        go_ret2
                        exact ⟨by rw [HE.out.1, HE.out.2]; rfl, rfl⟩
                    · have hq' : may (partI p x) = false := by simpa using hq
                      have hV : partV p x = 0 := by unfold partV; rw [hp, hxr, hq']; rfl
                      have hE : partE p x = 1 := by unfold partE; rw [hp, hxr, hq']; rfl
                      rw [hV, hE] at HP
                      have HE : Hid (V = 0 ∧ E = 1) := HNo.out (by unfold raO; rw [hq']; rfl)
                      clear hcs hxe hne hp hxr hN hV hE hbd hpr hq hq'
                      go_wp2_with (go_at_call 18; go_must (refine (HP.out _).mono ?_; rintro y w2 ⟨rfl, hwz⟩; obtain rfl := hwz.symm))
                      go_ret2
                      exact ⟨by rw [HE.out.1, HE.out.2]; rfl, rfl⟩
                  · have hgI2 : ¬ (j : Int) < (L.length : Int) := by omega
                    have hO := HO.out
                    rw [List.take_of_length_le (by omega)] at hO
                    have HE : Hid (V = p ∧ E = 0) := by
                      have := price_end HM.out HR.out HAl.out (Or.inl ⟨rfl, hO, prO_may hO⟩)
                      rw [HPV.out, HPE.out] at this
                      exact this
                    clear hO HO
                    go_wp2_with fail
                    go_ret2
                    exact ⟨by rw [HE.out.1, HE.out.2]; rfl, rfl⟩
    · have hr' := rng (by simpa using hr)
      obtain ⟨hV, hE⟩ := price_no (a := a) (m := m) (L := L) hm (Or.inl (by simpa using hr))
      rw [hV, hE]
      clear hV hE hr hm
      rcases hr' with hr' | hr'
      · go_enter Tryd.func20, Tryd.ntmps20
        go_wp2_with (go_at_call 28; go_must (refine (HC.out _).mono ?_; rintro y w2 ⟨rfl, hwz⟩; obtain rfl := hwz.symm))
        go_ret2
        exact ⟨rfl, rfl⟩
      · have hr0 : ¬ m < 0 := by omega
        go_enter Tryd.func20, Tryd.ntmps20
        go_wp2_with (go_at_call 28; go_must (refine (HC.out _).mono ?_; rintro y w2 ⟨rfl, hwz⟩; obtain rfl := hwz.symm))
        go_ret2
        exact ⟨rfl, rfl⟩
  · have hm' : may a = false := by simpa using hm
    rw [hm'] at HC
    obtain ⟨hV, hE⟩ := price_bad (m := m) (L := L) hm'
    rw [hV, hE]
    clear hV hE hm hm'
    go_enter Tryd.func20, Tryd.ntmps20
    go_wp2_with (go_at_call 28; go_must (refine (HC.out _).mono ?_; rintro y w2 ⟨rfl, hwz⟩; obtain rfl := hwz.symm))
    go_ret2
    exact ⟨rfl, rfl⟩
end Go.Proofs.YtfaelefeiinbaaaDoor
