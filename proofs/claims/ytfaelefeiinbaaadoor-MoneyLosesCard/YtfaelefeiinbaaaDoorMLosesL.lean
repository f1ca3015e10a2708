/- MoneyLoses: the law's walk. -/
import Derived.Test.YtfaelefeiinbaaaDoorMWorks
import Derived.BigRegion
namespace Go.Proofs.YtfaelefeiinbaaaDoor
open Go.RowKit MP
namespace LosesL

theorem share_at {a : Int} {W : List Int} (hok : okW W = true) {i : Nat} (hi : i < W.length) {x : Int} (hx : (sharesI a W)[i]? = some x) : ∃ n : Nat, x = sg a n ∧ n ≤ a.natAbs ∧ (W[i] = 0 → n = 0) ∧ (shares a.natAbs (nat W))[i]? = some n := by
  unfold sharesI at hx
  rw [List.getElem?_map] at hx
  obtain ⟨n, hn, rfl⟩ := Option.map_eq_some_iff.1 hx
  obtain ⟨h1, h2⟩ := List.getElem?_eq_some_iff.1 hn
  have h' : i < (nat W).length := by rw [nat_length]; exact hi
  refine ⟨n, rfl, ?_, fun h0 => ?_, hn⟩
  · have := shares_le a.natAbs (nat W) (okW_pos hok).1 i h1
    omega
  · have := (shares_at a.natAbs (nat W) i h' h1).1 (by rw [nat_at hi h', h0]; rfl)
    omega
theorem share_mono {a : Int} {W : List Int} {i k : Nat} (hi : i < W.length) (hk : k < W.length) {n m : Nat} (hn : (shares a.natAbs (nat W))[i]? = some n) (hm : (shares a.natAbs (nat W))[k]? = some m) (h : W[i] ≤ W[k]) : n ≤ m + 1 := by
  obtain ⟨h1, h2⟩ := List.getElem?_eq_some_iff.1 hn
  obtain ⟨h3, h4⟩ := List.getElem?_eq_some_iff.1 hm
  have hi' : i < (nat W).length := by rw [nat_length]; exact hi
  have hk' : k < (nat W).length := by rw [nat_length]; exact hk
  have := shares_mono a.natAbs (nat W) i k hi' hk' h1 h3 (by rw [nat_at hi hi', nat_at hk hk']; omega)
  omega

/-- the shares, as the loop reads them: by what they come to without their sign -/
def Sh (a : Int) (W : List Int) (i n : Nat) : Prop := (shares a.natAbs (nat W))[i]? = some n

set_option maxRecDepth 100000 in
set_option maxHeartbeats 2000000 in
theorem pos (a : Int) (v : Value) (W : List Int) (w : World) (hv : IntsAt w v W) (hsign : 0 < a) (ha : may a = true) (hok : okW W = true) : Calls Tryd.prog 7 #[.int .i64 a, v] w fun e w' => e = .returned (.bool true) ∧ Below w.heap.size w w' := by
  have HV : Hid (IntsAt w v W) := hv
  have HOk : Hid (okW W = true) := hok
  obtain ⟨a1, c1, rfl, hl, hc, -⟩ := hv
  unfold maxLen at hc
  have hlen := ((okW_iff W).1 hok).2.1
  have hlen1 := ((okW_iff W).1 hok).1
  have HW : Hid (Calls Tryd.prog 13 #[] w fun e w' => e = .returned (.bool true) ∧ Below w.heap.size w w') := works_any w
  have HS : Hid (∀ u, Below w.heap.size w u → Calls Tryd.prog 22 #[.int .i64 a, .slice a1 W.length c1] u fun e w' => ∃ g c, e = .returned (.tuple #[.slice (some ⟨g, 0, none⟩) W.length c, .int .i64 0]) ∧ RowG w' g (sharesI a W) ∧ W.length ≤ c ∧ c ≤ 9223372036854775807 ∧ Below w.heap.size w w') := fun u hu => by
    refine (Share_any a _ W u (HV.out.below hu)).mono fun e w' h => ?_
    obtain ⟨v', h1, h2, h3⟩ := h
    obtain ⟨e1, e2⟩ := share_yes ha hok
    rw [e1] at h1
    rw [e2] at h2
    rcases h2 with ⟨_, h2⟩ | ⟨g, c, rfl, _, h4, h5, h6⟩
    · have := sharesI_length a W
      rw [h2] at this
      simp at this
      omega
    · rw [sharesI_length] at h1 h5
      unfold maxLen at h6
      exact ⟨g, c, h1, h4, h5, h6, hu.trans (h3.mono hu.size)⟩
  have HSum : Hid (∀ u g c, RowG u g (sharesI a W) → W.length ≤ c → c ≤ 9223372036854775807 → Calls Tryd.prog 15 #[.slice (some ⟨g, 0, none⟩) W.length c] u fun e w' => e = .returned (.tuple #[.int .i64 a, .int .i64 0]) ∧ w' = u) := fun u g c h1 h2 h3 => by
    have hi := h1.ints (c := c) (by rw [sharesI_length]; exact h2) (by unfold maxLen; exact h3)
    rw [sharesI_length] at hi
    refine (Sum_any _ _ u hi (by rw [sharesI_length]; omega)).mono fun e w' h => ?_
    have k1 : sumE (sharesI a W) = 0 := by unfold sumE; rw [shares_all hok ha, shares_sumI hok, ha]; rfl
    have k2 : sumV (sharesI a W) = a := by unfold sumV; rw [shares_all hok ha, shares_sumI hok, ha]; rfl
    rw [k1, k2] at h
    exact h
  have har := (may_iff a).1 ha
  have b1 : (a != a) = false := by simp
  have b2 : (a == a) = true := by simp
  have s1 : 0 ≤ a := by omega
  have s2 : ¬ a ≤ 0 := by omega
  have s3 : ¬ a < 0 := by omega
  have d1 : decide (0 ≤ a) = true := decide_eq_true s1
  have d2 : decide (a ≤ 0) = false := decide_eq_false s2
  by_cases h200 : 200 < W.length
  · have hI : 200 < (W.length : Int) := by omega
    have hd : decide (200 < (W.length : Int)) = true := decide_eq_true hI
    clear ha hok har hsign
    go_enter Tryd.func7, Tryd.ntmps7
    go_wp2_with fail
    refine HW.out.mono ?_
    rintro y w1 ⟨rfl, hb⟩
    go_wp2_with fail
    refine (HS.out _ hb).mono ?_
    rintro y w2 ⟨g, c, rfl, hrow, hc1, hc2, hb2⟩
    go_wp2_with fail
    refine (HSum.out _ _ _ hrow hc1 hc2).mono ?_
    rintro y w3 ⟨rfl, hwz⟩
    obtain rfl := hwz.symm
    go_wp2_with fail
    go_ret
    exact ⟨rfl, hb2⟩
  · have hI : ¬ 200 < (W.length : Int) := by omega
    have hd : decide (200 < (W.length : Int)) = false := decide_eq_false hI
    clear ha hok
    go_enter Tryd.func7, Tryd.ntmps7
    go_wp2_with fail
    refine HW.out.mono ?_
    rintro y w1 ⟨rfl, hb⟩
    go_wp2_with fail
    refine (HS.out _ hb).mono ?_
    rintro y w2 ⟨g, c, rfl, hrow, hc1, hc2, hb2⟩
    have HRow : Hid (RowG w2 g (sharesI a W)) := hrow
    have HB2 : Hid (Below w.heap.size w w2) := hb2
    clear hb hb2 hrow
    go_wp2_with fail
    refine (HSum.out _ _ _ HRow.out hc1 hc2).mono ?_
    rintro y w3 ⟨rfl, hwz⟩
    obtain rfl := hwz.symm
    have HCell : Hid (∀ wr, Below w2.heap.size w2 wr → ∀ i, i < W.length → ∃ (b off n : Nat) (x : Int), a1 = some ⟨b, off, none⟩ ∧ wr.cell? ⟨b, off + i, none⟩ = some (.int .i64 x) ∧ W[i]? = some x ∧ wr.cell? ⟨g, i, none⟩ = some (.int .i64 ((n : Int))) ∧ Sh a W i n ∧ n ≤ 1000000000000000 ∧ (x = 0 → n = 0) ∧ (a = 0 → n = 0)) := fun wr hwr i hi => by
      obtain ⟨a2, c2, e0, _, _, hcs⟩ := HV.out
      cases e0
      obtain ⟨b, off, hb0, hbl, hcs⟩ := hcs (by intro e; rw [e] at hi; simp at hi)
      have hbw := HB2.out.trans (hwr.mono HB2.out.size)
      have q := hcs i hi 0 _ rfl
      rw [Nat.mul_one, Nat.add_zero] at q
      have hxl : i < (sharesI a W).length := by rw [sharesI_length]; exact hi
      obtain ⟨n, k1, k2, k3, k4⟩ := share_at HOk.out hi (List.getElem?_eq_getElem hxl)
      have p := (HRow.out.below hwr).cell (List.getElem?_eq_getElem hxl)
      rw [k1] at p
      have e1 : sg a n = (n : Int) := by unfold sg; split <;> omega
      rw [e1] at p
      exact ⟨b, off, n, W[i], hb0, (hbw.cell (p := ⟨b, off + i, none⟩) hbl).trans q, List.getElem?_eq_getElem hi, p, k4, by omega, k3, fun h0 => by rw [h0] at k2; simpa using k2⟩
    have HM : Hid (∀ i k n m x y, W[i]? = some x → W[k]? = some y → Sh a W i n → Sh a W k m → x ≤ y → n ≤ m + 1) := fun i k n m x y h1 h2 h3 h4 h5 => by
      obtain ⟨hi, rfl⟩ := List.getElem?_eq_some_iff.1 h1
      obtain ⟨hk, rfl⟩ := List.getElem?_eq_some_iff.1 h2
      exact share_mono hi hk h3 h4 h5
    clear HRow HSum HS HW har
    go_wp2_with fail
    go_loopw [66] (fun i wr => ∃ j : Nat, j ≤ W.length ∧ i = .int .i64 j ∧ Hid (Below w2.heap.size w2 wr)) (fun i _ => W.length - (intOf i).toNat)
    case atStart => exact ⟨0, Nat.zero_le _, rfl, Below.refl _ _⟩
    case round =>
      obtain ⟨j, hj, rfl, HB⟩ := hrel
      by_cases hlt : j < W.length
      · have hlI : (j : Int) < (W.length : Int) := by omega
        obtain ⟨b, off, n, x, rfl, p1, hWj, p2, hSj, hn, hx0, ha0⟩ := HCell.out _ HB.out j hlt
        have HWj : Hid (W[j]? = some x) := hWj
        have HSj : Hid (Sh a W j n) := hSj
        clear hWj hSj
        by_cases hz : x = 0
        · obtain rfl := hz
          obtain rfl := hx0 rfl
          clear hx0 ha0
          go_wp2_with fail
          go_loopw [105] (fun i wr => ∃ k : Nat, k ≤ W.length ∧ i = .int .i64 k ∧ Hid (Below w2.heap.size w2 wr)) (fun i _ => W.length - (intOf i).toNat)
          case atStart => exact ⟨0, Nat.zero_le _, rfl, HB⟩
          case round =>
            clear HB p1 p2
            obtain ⟨k, hk, rfl, HB⟩ := hrel
            by_cases hlt2 : k < W.length
            · have hkI : (k : Int) < (W.length : Int) := by omega
              obtain ⟨b', off', n', x', e1, p1, hWj', p2, hSj', hn', -⟩ := HCell.out _ HB.out j hlt
              cases e1
              obtain rfl : x' = 0 := (Option.some.inj (HWj.out.symm.trans hWj')).symm
              obtain rfl : n' = 0 := (Option.some.inj (Eq.trans (Eq.symm HSj.out) hSj')).symm
              obtain ⟨b', off', m, y, e1, p3, hWk, p4, hSk, hm, -⟩ := HCell.out _ HB.out k hlt2
              cases e1
              have hmono := HM.out j k 0 m 0 y HWj.out hWk HSj.out hSk
              clear hWj' hSj' hWk hSk
              have v3 : IntKind.i64.wrap ((m : Int) + 1) = (m : Int) + 1 := wrapI (by omega) (by omega)
              by_cases hxy : 0 ≤ y
              · have hnm := hmono hxy
                have hni : ¬ ((m : Int) + 1 < ((0 : Nat) : Int)) := by omega
                have hdi : decide ((m : Int) + 1 < ((0 : Nat) : Int)) = false := decide_eq_false hni
                clear hmono
                go_wp2_with fail
                go_region
                go_wp2_with fail
                go_region
                go_wp2_with fail
                go_roundw
                case rel => exact ⟨k + 1, by omega, by go_num, HB.out.trans ((below_drewN _ 2).mono HB.out.size)⟩
                case measure => simp [intOf]; omega
              · have hdx : decide (0 ≤ y) = false := decide_eq_false hxy
                clear hmono
                go_wp2_with fail
                go_region
                go_wp2_with fail
                go_region
                go_wp2_with fail
                go_roundw
                case rel => exact ⟨k + 1, by omega, by go_num, HB.out.trans ((below_drewN _ 2).mono HB.out.size)⟩
                case measure => simp [intOf]; omega
            · have hgI : ¬ (k : Int) < (W.length : Int) := by omega
              go_wp2_with fail
              go_roundw
              case rel => exact ⟨j + 1, by omega, by go_num, HB⟩
              case measure => simp [intOf]; omega
        · have bz : (x == 0) = false := by simpa using hz
          have nn : ¬ (n : Int) < 0 := by omega
          have nd : decide ((n : Int) < 0) = false := decide_eq_false nn
          clear hx0 ha0
          go_wp2_with fail
          go_loopw [105] (fun i wr => ∃ k : Nat, k ≤ W.length ∧ i = .int .i64 k ∧ Hid (Below w2.heap.size w2 wr)) (fun i _ => W.length - (intOf i).toNat)
          case atStart => exact ⟨0, Nat.zero_le _, rfl, HB⟩
          case round =>
            clear HB p1 p2
            obtain ⟨k, hk, rfl, HB⟩ := hrel
            by_cases hlt2 : k < W.length
            · have hkI : (k : Int) < (W.length : Int) := by omega
              obtain ⟨b', off', n', x', e1, p1, hWj', p2, hSj', hn', -⟩ := HCell.out _ HB.out j hlt
              cases e1
              obtain rfl : x = x' := Option.some.inj (HWj.out.symm.trans hWj')
              obtain rfl : n = n' := Option.some.inj (Eq.trans (Eq.symm HSj.out) hSj')
              obtain ⟨b', off', m, y, e1, p3, hWk, p4, hSk, hm, -⟩ := HCell.out _ HB.out k hlt2
              cases e1
              have hmono := HM.out j k n m x y HWj.out hWk HSj.out hSk
              clear hWj' hSj' hWk hSk
              have v3 : IntKind.i64.wrap ((m : Int) + 1) = (m : Int) + 1 := wrapI (by omega) (by omega)
              by_cases hxy : x ≤ y
              · have hnm := hmono hxy
                have hni : ¬ ((m : Int) + 1 < (n : Int)) := by omega
                have hdi : decide ((m : Int) + 1 < (n : Int)) = false := decide_eq_false hni
                clear hmono
                go_wp2_with fail
                go_region
                go_wp2_with fail
                go_region
                go_wp2_with fail
                go_roundw
                case rel => exact ⟨k + 1, by omega, by go_num, HB.out.trans ((below_drewN _ 2).mono HB.out.size)⟩
                case measure => simp [intOf]; omega
              · have hdx : decide (x ≤ y) = false := decide_eq_false hxy
                clear hmono
                go_wp2_with fail
                go_region
                go_wp2_with fail
                go_region
                go_wp2_with fail
                go_roundw
                case rel => exact ⟨k + 1, by omega, by go_num, HB.out.trans ((below_drewN _ 2).mono HB.out.size)⟩
                case measure => simp [intOf]; omega
            · have hgI : ¬ (k : Int) < (W.length : Int) := by omega
              go_wp2_with fail
              go_roundw
              case rel => exact ⟨j + 1, by omega, by go_num, HB⟩
              case measure => simp [intOf]; omega
      · have hgI : ¬ (j : Int) < (W.length : Int) := by omega
        go_wp2_with fail
        go_ret
        exact ⟨rfl, HB2.out.trans (HB.out.mono HB2.out.size)⟩

set_option maxRecDepth 100000 in
set_option maxHeartbeats 2000000 in
theorem nought (a : Int) (v : Value) (W : List Int) (w : World) (hv : IntsAt w v W) (hsign : a = 0) (ha : may a = true) (hok : okW W = true) : Calls Tryd.prog 7 #[.int .i64 a, v] w fun e w' => e = .returned (.bool true) ∧ Below w.heap.size w w' := by
  have HV : Hid (IntsAt w v W) := hv
  have HOk : Hid (okW W = true) := hok
  obtain ⟨a1, c1, rfl, hl, hc, -⟩ := hv
  unfold maxLen at hc
  have hlen := ((okW_iff W).1 hok).2.1
  have hlen1 := ((okW_iff W).1 hok).1
  have HW : Hid (Calls Tryd.prog 13 #[] w fun e w' => e = .returned (.bool true) ∧ Below w.heap.size w w') := works_any w
  have HS : Hid (∀ u, Below w.heap.size w u → Calls Tryd.prog 22 #[.int .i64 a, .slice a1 W.length c1] u fun e w' => ∃ g c, e = .returned (.tuple #[.slice (some ⟨g, 0, none⟩) W.length c, .int .i64 0]) ∧ RowG w' g (sharesI a W) ∧ W.length ≤ c ∧ c ≤ 9223372036854775807 ∧ Below w.heap.size w w') := fun u hu => by
    refine (Share_any a _ W u (HV.out.below hu)).mono fun e w' h => ?_
    obtain ⟨v', h1, h2, h3⟩ := h
    obtain ⟨e1, e2⟩ := share_yes ha hok
    rw [e1] at h1
    rw [e2] at h2
    rcases h2 with ⟨_, h2⟩ | ⟨g, c, rfl, _, h4, h5, h6⟩
    · have := sharesI_length a W
      rw [h2] at this
      simp at this
      omega
    · rw [sharesI_length] at h1 h5
      unfold maxLen at h6
      exact ⟨g, c, h1, h4, h5, h6, hu.trans (h3.mono hu.size)⟩
  have HSum : Hid (∀ u g c, RowG u g (sharesI a W) → W.length ≤ c → c ≤ 9223372036854775807 → Calls Tryd.prog 15 #[.slice (some ⟨g, 0, none⟩) W.length c] u fun e w' => e = .returned (.tuple #[.int .i64 a, .int .i64 0]) ∧ w' = u) := fun u g c h1 h2 h3 => by
    have hi := h1.ints (c := c) (by rw [sharesI_length]; exact h2) (by unfold maxLen; exact h3)
    rw [sharesI_length] at hi
    refine (Sum_any _ _ u hi (by rw [sharesI_length]; omega)).mono fun e w' h => ?_
    have k1 : sumE (sharesI a W) = 0 := by unfold sumE; rw [shares_all hok ha, shares_sumI hok, ha]; rfl
    have k2 : sumV (sharesI a W) = a := by unfold sumV; rw [shares_all hok ha, shares_sumI hok, ha]; rfl
    rw [k1, k2] at h
    exact h
  have har := (may_iff a).1 ha
  have b1 : (a != a) = false := by simp
  have b2 : (a == a) = true := by simp
  have s1 : 0 ≤ a := by omega
  have s2 : a ≤ 0 := by omega
  have s3 : ¬ a < 0 := by omega
  have d1 : decide (0 ≤ a) = true := decide_eq_true s1
  have d2 : decide (a ≤ 0) = true := decide_eq_true s2
  have HZ : Hid (a = 0) := hsign
  clear hsign
  by_cases h200 : 200 < W.length
  · have hI : 200 < (W.length : Int) := by omega
    have hd : decide (200 < (W.length : Int)) = true := decide_eq_true hI
    clear ha hok har
    go_enter Tryd.func7, Tryd.ntmps7
    go_wp2_with fail
    refine HW.out.mono ?_
    rintro y w1 ⟨rfl, hb⟩
    go_wp2_with fail
    refine (HS.out _ hb).mono ?_
    rintro y w2 ⟨g, c, rfl, hrow, hc1, hc2, hb2⟩
    go_wp2_with fail
    refine (HSum.out _ _ _ hrow hc1 hc2).mono ?_
    rintro y w3 ⟨rfl, hwz⟩
    obtain rfl := hwz.symm
    go_wp2_with fail
    go_ret
    exact ⟨rfl, hb2⟩
  · have hI : ¬ 200 < (W.length : Int) := by omega
    have hd : decide (200 < (W.length : Int)) = false := decide_eq_false hI
    clear ha hok
    go_enter Tryd.func7, Tryd.ntmps7
    go_wp2_with fail
    refine HW.out.mono ?_
    rintro y w1 ⟨rfl, hb⟩
    go_wp2_with fail
    refine (HS.out _ hb).mono ?_
    rintro y w2 ⟨g, c, rfl, hrow, hc1, hc2, hb2⟩
    have HRow : Hid (RowG w2 g (sharesI a W)) := hrow
    have HB2 : Hid (Below w.heap.size w w2) := hb2
    clear hb hb2 hrow
    go_wp2_with fail
    refine (HSum.out _ _ _ HRow.out hc1 hc2).mono ?_
    rintro y w3 ⟨rfl, hwz⟩
    obtain rfl := hwz.symm
    have HCell : Hid (∀ wr, Below w2.heap.size w2 wr → ∀ i, i < W.length → ∃ (b off n : Nat) (x : Int), a1 = some ⟨b, off, none⟩ ∧ wr.cell? ⟨b, off + i, none⟩ = some (.int .i64 x) ∧ W[i]? = some x ∧ wr.cell? ⟨g, i, none⟩ = some (.int .i64 ((n : Int))) ∧ Sh a W i n ∧ n ≤ 1000000000000000 ∧ (x = 0 → n = 0) ∧ (a = 0 → n = 0)) := fun wr hwr i hi => by
      obtain ⟨a2, c2, e0, _, _, hcs⟩ := HV.out
      cases e0
      obtain ⟨b, off, hb0, hbl, hcs⟩ := hcs (by intro e; rw [e] at hi; simp at hi)
      have hbw := HB2.out.trans (hwr.mono HB2.out.size)
      have q := hcs i hi 0 _ rfl
      rw [Nat.mul_one, Nat.add_zero] at q
      have hxl : i < (sharesI a W).length := by rw [sharesI_length]; exact hi
      obtain ⟨n, k1, k2, k3, k4⟩ := share_at HOk.out hi (List.getElem?_eq_getElem hxl)
      have p := (HRow.out.below hwr).cell (List.getElem?_eq_getElem hxl)
      rw [k1] at p
      have e1 : sg a n = (n : Int) := by unfold sg; split <;> omega
      rw [e1] at p
      exact ⟨b, off, n, W[i], hb0, (hbw.cell (p := ⟨b, off + i, none⟩) hbl).trans q, List.getElem?_eq_getElem hi, p, k4, by omega, k3, fun h0 => by rw [h0] at k2; simpa using k2⟩
    have HM : Hid (∀ i k n m x y, W[i]? = some x → W[k]? = some y → Sh a W i n → Sh a W k m → x ≤ y → n ≤ m + 1) := fun i k n m x y h1 h2 h3 h4 h5 => by
      obtain ⟨hi, rfl⟩ := List.getElem?_eq_some_iff.1 h1
      obtain ⟨hk, rfl⟩ := List.getElem?_eq_some_iff.1 h2
      exact share_mono hi hk h3 h4 h5
    clear HRow HSum HS HW har
    go_wp2_with fail
    go_loopw [66] (fun i wr => ∃ j : Nat, j ≤ W.length ∧ i = .int .i64 j ∧ Hid (Below w2.heap.size w2 wr)) (fun i _ => W.length - (intOf i).toNat)
    case atStart => exact ⟨0, Nat.zero_le _, rfl, Below.refl _ _⟩
    case round =>
      obtain ⟨j, hj, rfl, HB⟩ := hrel
      by_cases hlt : j < W.length
      · have hlI : (j : Int) < (W.length : Int) := by omega
        obtain ⟨b, off, n, x, rfl, p1, hWj, p2, hSj, hn, hx0, ha0⟩ := HCell.out _ HB.out j hlt
        have HWj : Hid (W[j]? = some x) := hWj
        have HSj : Hid (Sh a W j n) := hSj
        clear hWj hSj
        by_cases hz : x = 0
        · obtain rfl := hz
          obtain rfl := hx0 rfl
          clear hx0 ha0
          go_wp2_with fail
          go_loopw [105] (fun i wr => ∃ k : Nat, k ≤ W.length ∧ i = .int .i64 k ∧ Hid (Below w2.heap.size w2 wr)) (fun i _ => W.length - (intOf i).toNat)
          case atStart => exact ⟨0, Nat.zero_le _, rfl, HB⟩
          case round =>
            clear HB p1 p2
            obtain ⟨k, hk, rfl, HB⟩ := hrel
            by_cases hlt2 : k < W.length
            · have hkI : (k : Int) < (W.length : Int) := by omega
              obtain ⟨b', off', n', x', e1, p1, hWj', p2, hSj', hn', -⟩ := HCell.out _ HB.out j hlt
              cases e1
              obtain rfl : x' = 0 := (Option.some.inj (HWj.out.symm.trans hWj')).symm
              obtain rfl : n' = 0 := (Option.some.inj (Eq.trans (Eq.symm HSj.out) hSj')).symm
              obtain ⟨b', off', m, y, e1, p3, hWk, p4, hSk, hm, -⟩ := HCell.out _ HB.out k hlt2
              cases e1
              have hmono := HM.out j k 0 m 0 y HWj.out hWk HSj.out hSk
              clear hWj' hSj' hWk hSk
              have v3 : IntKind.i64.wrap ((m : Int) + 1) = (m : Int) + 1 := wrapI (by omega) (by omega)
              by_cases hxy : 0 ≤ y
              · have hnm := hmono hxy
                have hni : ¬ ((m : Int) + 1 < ((0 : Nat) : Int)) := by omega
                have hdi : decide ((m : Int) + 1 < ((0 : Nat) : Int)) = false := decide_eq_false hni
                clear hmono
                go_wp2_with fail
                go_region
                go_wp2_with fail
                go_region
                go_wp2_with fail
                go_roundw
                case rel => exact ⟨k + 1, by omega, by go_num, HB.out.trans ((below_drewN _ 2).mono HB.out.size)⟩
                case measure => simp [intOf]; omega
              · have hdx : decide (0 ≤ y) = false := decide_eq_false hxy
                clear hmono
                go_wp2_with fail
                go_region
                go_wp2_with fail
                go_region
                go_wp2_with fail
                go_roundw
                case rel => exact ⟨k + 1, by omega, by go_num, HB.out.trans ((below_drewN _ 2).mono HB.out.size)⟩
                case measure => simp [intOf]; omega
            · have hgI : ¬ (k : Int) < (W.length : Int) := by omega
              go_wp2_with fail
              go_roundw
              case rel => exact ⟨j + 1, by omega, by go_num, HB⟩
              case measure => simp [intOf]; omega
        · have bz : (x == 0) = false := by simpa using hz
          obtain rfl := ha0 HZ.out
          clear hx0 ha0
          go_wp2_with fail
          go_loopw [105] (fun i wr => ∃ k : Nat, k ≤ W.length ∧ i = .int .i64 k ∧ Hid (Below w2.heap.size w2 wr)) (fun i _ => W.length - (intOf i).toNat)
          case atStart => exact ⟨0, Nat.zero_le _, rfl, HB⟩
          case round =>
            clear HB p1 p2
            obtain ⟨k, hk, rfl, HB⟩ := hrel
            by_cases hlt2 : k < W.length
            · have hkI : (k : Int) < (W.length : Int) := by omega
              obtain ⟨b', off', n', x', e1, p1, hWj', p2, hSj', hn', -⟩ := HCell.out _ HB.out j hlt
              cases e1
              obtain rfl : x = x' := Option.some.inj (HWj.out.symm.trans hWj')
              obtain rfl : n' = 0 := (Option.some.inj (Eq.trans (Eq.symm HSj.out) hSj')).symm
              obtain ⟨b', off', m, y, e1, p3, hWk, p4, hSk, hm, -⟩ := HCell.out _ HB.out k hlt2
              cases e1
              have hmono := HM.out j k 0 m x y HWj.out hWk HSj.out hSk
              clear hWj' hSj' hWk hSk
              have v3 : IntKind.i64.wrap ((m : Int) + 1) = (m : Int) + 1 := wrapI (by omega) (by omega)
              by_cases hxy : x ≤ y
              · have hnm := hmono hxy
                have hni : ¬ ((m : Int) + 1 < ((0 : Nat) : Int)) := by omega
                have hdi : decide ((m : Int) + 1 < ((0 : Nat) : Int)) = false := decide_eq_false hni
                clear hmono
                go_wp2_with fail
                go_region
                go_wp2_with fail
                go_region
                go_wp2_with fail
                go_roundw
                case rel => exact ⟨k + 1, by omega, by go_num, HB.out.trans ((below_drewN _ 2).mono HB.out.size)⟩
                case measure => simp [intOf]; omega
              · have hdx : decide (x ≤ y) = false := decide_eq_false hxy
                clear hmono
                go_wp2_with fail
                go_region
                go_wp2_with fail
                go_region
                go_wp2_with fail
                go_roundw
                case rel => exact ⟨k + 1, by omega, by go_num, HB.out.trans ((below_drewN _ 2).mono HB.out.size)⟩
                case measure => simp [intOf]; omega
            · have hgI : ¬ (k : Int) < (W.length : Int) := by omega
              go_wp2_with fail
              go_roundw
              case rel => exact ⟨j + 1, by omega, by go_num, HB⟩
              case measure => simp [intOf]; omega
      · have hgI : ¬ (j : Int) < (W.length : Int) := by omega
        go_wp2_with fail
        go_ret
        exact ⟨rfl, HB2.out.trans (HB.out.mono HB2.out.size)⟩

set_option maxRecDepth 100000 in
set_option maxHeartbeats 2000000 in
theorem neg (a : Int) (v : Value) (W : List Int) (w : World) (hv : IntsAt w v W) (hsign : a < 0) (ha : may a = true) (hok : okW W = true) : Calls Tryd.prog 7 #[.int .i64 a, v] w fun e w' => e = .returned (.bool true) ∧ Below w.heap.size w w' := by
  have HV : Hid (IntsAt w v W) := hv
  have HOk : Hid (okW W = true) := hok
  obtain ⟨a1, c1, rfl, hl, hc, -⟩ := hv
  unfold maxLen at hc
  have hlen := ((okW_iff W).1 hok).2.1
  have hlen1 := ((okW_iff W).1 hok).1
  have HW : Hid (Calls Tryd.prog 13 #[] w fun e w' => e = .returned (.bool true) ∧ Below w.heap.size w w') := works_any w
  have HS : Hid (∀ u, Below w.heap.size w u → Calls Tryd.prog 22 #[.int .i64 a, .slice a1 W.length c1] u fun e w' => ∃ g c, e = .returned (.tuple #[.slice (some ⟨g, 0, none⟩) W.length c, .int .i64 0]) ∧ RowG w' g (sharesI a W) ∧ W.length ≤ c ∧ c ≤ 9223372036854775807 ∧ Below w.heap.size w w') := fun u hu => by
    refine (Share_any a _ W u (HV.out.below hu)).mono fun e w' h => ?_
    obtain ⟨v', h1, h2, h3⟩ := h
    obtain ⟨e1, e2⟩ := share_yes ha hok
    rw [e1] at h1
    rw [e2] at h2
    rcases h2 with ⟨_, h2⟩ | ⟨g, c, rfl, _, h4, h5, h6⟩
    · have := sharesI_length a W
      rw [h2] at this
      simp at this
      omega
    · rw [sharesI_length] at h1 h5
      unfold maxLen at h6
      exact ⟨g, c, h1, h4, h5, h6, hu.trans (h3.mono hu.size)⟩
  have HSum : Hid (∀ u g c, RowG u g (sharesI a W) → W.length ≤ c → c ≤ 9223372036854775807 → Calls Tryd.prog 15 #[.slice (some ⟨g, 0, none⟩) W.length c] u fun e w' => e = .returned (.tuple #[.int .i64 a, .int .i64 0]) ∧ w' = u) := fun u g c h1 h2 h3 => by
    have hi := h1.ints (c := c) (by rw [sharesI_length]; exact h2) (by unfold maxLen; exact h3)
    rw [sharesI_length] at hi
    refine (Sum_any _ _ u hi (by rw [sharesI_length]; omega)).mono fun e w' h => ?_
    have k1 : sumE (sharesI a W) = 0 := by unfold sumE; rw [shares_all hok ha, shares_sumI hok, ha]; rfl
    have k2 : sumV (sharesI a W) = a := by unfold sumV; rw [shares_all hok ha, shares_sumI hok, ha]; rfl
    rw [k1, k2] at h
    exact h
  have har := (may_iff a).1 ha
  have b1 : (a != a) = false := by simp
  have b2 : (a == a) = true := by simp
  have s1 : ¬ 0 ≤ a := by omega
  have s2 : a ≤ 0 := by omega
  have d1 : decide (0 ≤ a) = false := decide_eq_false s1
  have d2 : decide (a ≤ 0) = true := decide_eq_true s2
  by_cases h200 : 200 < W.length
  · have hI : 200 < (W.length : Int) := by omega
    have hd : decide (200 < (W.length : Int)) = true := decide_eq_true hI
    clear ha hok har
    go_enter Tryd.func7, Tryd.ntmps7
    go_wp2_with fail
    refine HW.out.mono ?_
    rintro y w1 ⟨rfl, hb⟩
    go_wp2_with fail
    refine (HS.out _ hb).mono ?_
    rintro y w2 ⟨g, c, rfl, hrow, hc1, hc2, hb2⟩
    go_wp2_with fail
    refine (HSum.out _ _ _ hrow hc1 hc2).mono ?_
    rintro y w3 ⟨rfl, hwz⟩
    obtain rfl := hwz.symm
    go_wp2_with fail
    go_ret
    exact ⟨rfl, hb2⟩
  · have hI : ¬ 200 < (W.length : Int) := by omega
    have hd : decide (200 < (W.length : Int)) = false := decide_eq_false hI
    clear ha hok
    go_enter Tryd.func7, Tryd.ntmps7
    go_wp2_with fail
    refine HW.out.mono ?_
    rintro y w1 ⟨rfl, hb⟩
    go_wp2_with fail
    refine (HS.out _ hb).mono ?_
    rintro y w2 ⟨g, c, rfl, hrow, hc1, hc2, hb2⟩
    have HRow : Hid (RowG w2 g (sharesI a W)) := hrow
    have HB2 : Hid (Below w.heap.size w w2) := hb2
    clear hb hb2 hrow
    go_wp2_with fail
    refine (HSum.out _ _ _ HRow.out hc1 hc2).mono ?_
    rintro y w3 ⟨rfl, hwz⟩
    obtain rfl := hwz.symm
    have HCell : Hid (∀ wr, Below w2.heap.size w2 wr → ∀ i, i < W.length → ∃ (b off n : Nat) (x : Int), a1 = some ⟨b, off, none⟩ ∧ wr.cell? ⟨b, off + i, none⟩ = some (.int .i64 x) ∧ W[i]? = some x ∧ wr.cell? ⟨g, i, none⟩ = some (.int .i64 (-(n : Int))) ∧ Sh a W i n ∧ n ≤ 1000000000000000 ∧ (x = 0 → n = 0) ∧ (a = 0 → n = 0)) := fun wr hwr i hi => by
      obtain ⟨a2, c2, e0, _, _, hcs⟩ := HV.out
      cases e0
      obtain ⟨b, off, hb0, hbl, hcs⟩ := hcs (by intro e; rw [e] at hi; simp at hi)
      have hbw := HB2.out.trans (hwr.mono HB2.out.size)
      have q := hcs i hi 0 _ rfl
      rw [Nat.mul_one, Nat.add_zero] at q
      have hxl : i < (sharesI a W).length := by rw [sharesI_length]; exact hi
      obtain ⟨n, k1, k2, k3, k4⟩ := share_at HOk.out hi (List.getElem?_eq_getElem hxl)
      have p := (HRow.out.below hwr).cell (List.getElem?_eq_getElem hxl)
      rw [k1] at p
      have e1 : sg a n = -(n : Int) := by unfold sg; split <;> omega
      rw [e1] at p
      exact ⟨b, off, n, W[i], hb0, (hbw.cell (p := ⟨b, off + i, none⟩) hbl).trans q, List.getElem?_eq_getElem hi, p, k4, by omega, k3, fun h0 => by rw [h0] at k2; simpa using k2⟩
    have HM : Hid (∀ i k n m x y, W[i]? = some x → W[k]? = some y → Sh a W i n → Sh a W k m → x ≤ y → n ≤ m + 1) := fun i k n m x y h1 h2 h3 h4 h5 => by
      obtain ⟨hi, rfl⟩ := List.getElem?_eq_some_iff.1 h1
      obtain ⟨hk, rfl⟩ := List.getElem?_eq_some_iff.1 h2
      exact share_mono hi hk h3 h4 h5
    clear HRow HSum HS HW har
    go_wp2_with fail
    go_loopw [66] (fun i wr => ∃ j : Nat, j ≤ W.length ∧ i = .int .i64 j ∧ Hid (Below w2.heap.size w2 wr)) (fun i _ => W.length - (intOf i).toNat)
    case atStart => exact ⟨0, Nat.zero_le _, rfl, Below.refl _ _⟩
    case round =>
      obtain ⟨j, hj, rfl, HB⟩ := hrel
      by_cases hlt : j < W.length
      · have hlI : (j : Int) < (W.length : Int) := by omega
        obtain ⟨b, off, n, x, rfl, p1, hWj, p2, hSj, hn, hx0, ha0⟩ := HCell.out _ HB.out j hlt
        have HWj : Hid (W[j]? = some x) := hWj
        have HSj : Hid (Sh a W j n) := hSj
        clear hWj hSj
        by_cases hz : x = 0
        · obtain rfl := hz
          obtain rfl := hx0 rfl
          clear hx0 ha0
          go_wp2_with fail
          go_loopw [105] (fun i wr => ∃ k : Nat, k ≤ W.length ∧ i = .int .i64 k ∧ Hid (Below w2.heap.size w2 wr)) (fun i _ => W.length - (intOf i).toNat)
          case atStart => exact ⟨0, Nat.zero_le _, rfl, HB⟩
          case round =>
            clear HB p1 p2
            obtain ⟨k, hk, rfl, HB⟩ := hrel
            by_cases hlt2 : k < W.length
            · have hkI : (k : Int) < (W.length : Int) := by omega
              obtain ⟨b', off', n', x', e1, p1, hWj', p2, hSj', hn', -⟩ := HCell.out _ HB.out j hlt
              cases e1
              obtain rfl : x' = 0 := (Option.some.inj (HWj.out.symm.trans hWj')).symm
              obtain rfl : n' = 0 := (Option.some.inj (Eq.trans (Eq.symm HSj.out) hSj')).symm
              obtain ⟨b', off', m, y, e1, p3, hWk, p4, hSk, hm, -⟩ := HCell.out _ HB.out k hlt2
              cases e1
              have hmono := HM.out j k 0 m 0 y HWj.out hWk HSj.out hSk
              clear hWj' hSj' hWk hSk
              have v2 : IntKind.i64.wrap (m : Int) = (m : Int) := wrapI (by omega) (by omega)
              have v3 : IntKind.i64.wrap ((m : Int) + 1) = (m : Int) + 1 := wrapI (by omega) (by omega)
              by_cases hxy : 0 ≤ y
              · have hnm := hmono hxy
                have hni : ¬ ((m : Int) + 1 < ((0 : Nat) : Int)) := by omega
                have hdi : decide ((m : Int) + 1 < ((0 : Nat) : Int)) = false := decide_eq_false hni
                clear hmono
                go_wp2_with fail
                go_region
                go_wp2_with fail
                go_region
                go_wp2_with fail
                go_roundw
                case rel => exact ⟨k + 1, by omega, by go_num, HB.out.trans ((below_drewN _ 2).mono HB.out.size)⟩
                case measure => simp [intOf]; omega
              · have hdx : decide (0 ≤ y) = false := decide_eq_false hxy
                clear hmono
                go_wp2_with fail
                go_region
                go_wp2_with fail
                go_region
                go_wp2_with fail
                go_roundw
                case rel => exact ⟨k + 1, by omega, by go_num, HB.out.trans ((below_drewN _ 2).mono HB.out.size)⟩
                case measure => simp [intOf]; omega
            · have hgI : ¬ (k : Int) < (W.length : Int) := by omega
              go_wp2_with fail
              go_roundw
              case rel => exact ⟨j + 1, by omega, by go_num, HB⟩
              case measure => simp [intOf]; omega
        · have bz : (x == 0) = false := by simpa using hz
          have nn : ¬ 0 < -(n : Int) := by omega
          have nd : decide (0 < -(n : Int)) = false := decide_eq_false nn
          have nn2 : ¬ (n : Int) < 0 := by omega
          have nd2 : decide ((n : Int) < 0) = false := decide_eq_false nn2
          clear hx0 ha0
          go_wp2_with fail
          go_loopw [105] (fun i wr => ∃ k : Nat, k ≤ W.length ∧ i = .int .i64 k ∧ Hid (Below w2.heap.size w2 wr)) (fun i _ => W.length - (intOf i).toNat)
          case atStart => exact ⟨0, Nat.zero_le _, rfl, HB⟩
          case round =>
            clear HB p1 p2
            obtain ⟨k, hk, rfl, HB⟩ := hrel
            by_cases hlt2 : k < W.length
            · have hkI : (k : Int) < (W.length : Int) := by omega
              obtain ⟨b', off', n', x', e1, p1, hWj', p2, hSj', hn', -⟩ := HCell.out _ HB.out j hlt
              cases e1
              obtain rfl : x = x' := Option.some.inj (HWj.out.symm.trans hWj')
              obtain rfl : n = n' := Option.some.inj (Eq.trans (Eq.symm HSj.out) hSj')
              obtain ⟨b', off', m, y, e1, p3, hWk, p4, hSk, hm, -⟩ := HCell.out _ HB.out k hlt2
              cases e1
              have hmono := HM.out j k n m x y HWj.out hWk HSj.out hSk
              clear hWj' hSj' hWk hSk
              have v1 : IntKind.i64.wrap (n : Int) = (n : Int) := wrapI (by omega) (by omega)
              have v2 : IntKind.i64.wrap (m : Int) = (m : Int) := wrapI (by omega) (by omega)
              have v3 : IntKind.i64.wrap ((m : Int) + 1) = (m : Int) + 1 := wrapI (by omega) (by omega)
              by_cases hxy : x ≤ y
              · have hnm := hmono hxy
                have hni : ¬ ((m : Int) + 1 < (n : Int)) := by omega
                have hdi : decide ((m : Int) + 1 < (n : Int)) = false := decide_eq_false hni
                clear hmono
                go_wp2_with fail
                go_region
                go_wp2_with fail
                go_region
                go_wp2_with fail
                go_roundw
                case rel => exact ⟨k + 1, by omega, by go_num, HB.out.trans ((below_drewN _ 2).mono HB.out.size)⟩
                case measure => simp [intOf]; omega
              · have hdx : decide (x ≤ y) = false := decide_eq_false hxy
                clear hmono
                go_wp2_with fail
                go_region
                go_wp2_with fail
                go_region
                go_wp2_with fail
                go_roundw
                case rel => exact ⟨k + 1, by omega, by go_num, HB.out.trans ((below_drewN _ 2).mono HB.out.size)⟩
                case measure => simp [intOf]; omega
            · have hgI : ¬ (k : Int) < (W.length : Int) := by omega
              go_wp2_with fail
              go_roundw
              case rel => exact ⟨j + 1, by omega, by go_num, HB⟩
              case measure => simp [intOf]; omega
      · have hgI : ¬ (j : Int) < (W.length : Int) := by omega
        go_wp2_with fail
        go_ret
        exact ⟨rfl, HB2.out.trans (HB.out.mono HB2.out.size)⟩

set_option maxRecDepth 100000 in
set_option maxHeartbeats 400000 in
theorem refused (a : Int) (v : Value) (W : List Int) (w : World) (hv : IntsAt w v W) (hE : shE a W ≠ 0) : Calls Tryd.prog 7 #[.int .i64 a, v] w fun e w' => e = .returned (.bool true) ∧ Below w.heap.size w w' := by
  have HV : Hid (IntsAt w v W) := hv
  obtain ⟨a1, c1, rfl, hl, hc, -⟩ := hv
  have HW : Hid (Calls Tryd.prog 13 #[] w fun e w' => e = .returned (.bool true) ∧ Below w.heap.size w w') := works_any w
  obtain ⟨E, eE⟩ : ∃ E, shE a W = E := ⟨_, rfl⟩
  have HS : Hid (∀ u, Below w.heap.size w u → Calls Tryd.prog 22 #[.int .i64 a, .slice a1 W.length c1] u fun e w' => ∃ p c, e = .returned (.tuple #[.slice p 0 c, .int .i64 E]) ∧ Below w.heap.size w w') := fun u hu => by
    refine (Share_any a _ W u (HV.out.below hu)).mono fun e w' h => ?_
    obtain ⟨v', h1, h2, h3⟩ := h
    rw [eE] at h1
    rw [share_no rfl hE] at h2
    have hb := hu.trans (h3.mono hu.size)
    rcases h2 with ⟨rfl, _⟩ | ⟨g, c, rfl, _⟩
    · exact ⟨none, 0, h1, hb⟩
    · exact ⟨_, c, h1, hb⟩
  rw [eE] at hE
  have b1 : (E != 0) = true := by simpa using hE
  clear eE
  go_enter Tryd.func7, Tryd.ntmps7
  go_wp2_with fail
  refine HW.out.mono ?_
  rintro y w1 ⟨rfl, hb⟩
  go_wp2_with fail
  refine (HS.out _ hb).mono ?_
  rintro y w2 ⟨p, c, rfl, hb2⟩
  go_wp2_with fail
  go_ret
  exact ⟨rfl, hb2⟩

theorem walk (a : Int) (v : Value) (W : List Int) (w : World) (hv : IntsAt w v W) : Calls Tryd.prog 7 #[.int .i64 a, v] w fun e w' => e = .returned (.bool true) ∧ Below w.heap.size w w' := by
  by_cases hE : shE a W = 0
  · have h1 : may a = true ∧ okW W = true := by
      unfold shE at hE
      cases h1 : may a
      · rw [h1] at hE; cases hE
      · rw [h1] at hE
        cases h2 : okW W
        · rw [h2] at hE; cases hE
        · exact ⟨rfl, rfl⟩
    rcases Int.lt_trichotomy a 0 with h | h | h
    · exact neg a v W w hv h h1.1 h1.2
    · exact nought a v W w hv h h1.1 h1.2
    · exact pos a v W w hv h h1.1 h1.2
  · exact refused a v W w hv hE

end LosesL
end Go.Proofs.YtfaelefeiinbaaaDoor
