/- MoneyShares: the document's Share where it refuses, what spoils a row, and the law's walk. -/
import Derived.Test.YtfaelefeiinbaaaDoorMWorks
import Derived.Test.YtfaelefeiinbaaaDoorMRefH
namespace Go.Proofs.YtfaelefeiinbaaaDoor
open Go.RowKit MP

set_option maxRecDepth 100000 in
set_option maxHeartbeats 1000000 in
theorem rshare_no (a : Int) (v : Value) (W : List Int) (w : World) (hv : IntsAt w v W) (hE : shE a W ≠ 0) : Calls Tryd.prog 23 #[.int .i64 a, v] w (ShareR a W w) := by
  obtain ⟨a1, c, rfl, hl, hc, hx⟩ := hv
  have HX : Hid (W ≠ [] → ∃ b off, a1 = some ⟨b, off, none⟩ ∧ b < w.heap.size ∧ ∀ i, (h : i < W.length) → ∀ (j : Nat) (u : Value), ([Value.int .i64 W[i]])[j]? = some u → w.cell? ⟨b, off + i * 1 + j, none⟩ = some u) := hx
  unfold maxLen at hc
  have HC : Hid (∀ u, Calls Tryd.prog 28 #[.int .i64 a] u fun e w' => e = .returned (.bool (may a)) ∧ w' = u) := fun u => rMay_any a u
  have HNE : Hid (shE a W ≠ 0) := hE
  clear hx hE
  by_cases hm : may a = true
  · rw [hm] at HC
    have hE1 : shE a W = 1 := by
      have := HNE.out
      unfold shE at this ⊢
      rw [hm] at this ⊢
      cases h2 : okW W
      · rfl
      · rw [h2] at this
        exact absurd rfl this
    have HE : Hid (shE a W = 1) := hE1
    have HNok : Hid (okW W = false) := by
      show _ = _
      unfold shE at hE1
      rw [hm] at hE1
      cases h2 : okW W
      · rfl
      · rw [h2] at hE1
        cases hE1
    clear hE1 hm
    by_cases h1 : W.length < 1
    · have h1I : (W.length : Int) < 1 := by omega
      go_enter Tryd.func23, Tryd.ntmps23
      go_wp2_with (go_at_call 28; go_must (refine (HC.out _).mono ?_; rintro y w2 ⟨rfl, hwz⟩; obtain rfl := hwz.symm))
      go_ret2
      exact told_nilR HE.out (by decide) (Below.refl _ _)
    · by_cases h2 : 1000 < W.length
      · have h1I : ¬ (W.length : Int) < 1 := by omega
        have h2I : 1000 < (W.length : Int) := by omega
        go_enter Tryd.func23, Tryd.ntmps23
        go_wp2_with (go_at_call 28; go_must (refine (HC.out _).mono ?_; rintro y w2 ⟨rfl, hwz⟩; obtain rfl := hwz.symm))
        go_ret2
        exact told_nilR HE.out (by decide) (Below.refl _ _)
      · have h1I : ¬ (W.length : Int) < 1 := by omega
        have h2I : ¬ 1000 < (W.length : Int) := by omega
        have d1 : decide ((W.length : Int) < 1) = false := decide_eq_false h1I
        have d2 : decide (1000 < (W.length : Int)) = false := decide_eq_false h2I
        go_enter Tryd.func23, Tryd.ntmps23
        go_wp2_with (go_at_call 28; go_must (refine (HC.out _).mono ?_; rintro y w2 ⟨rfl, hwz⟩; obtain rfl := hwz.symm))
        go_loop [6, 7] (fun sv i => ∃ (j : Nat) (s : Int), j ≤ W.length ∧ i = .int .i64 j ∧ sv = .int .i64 s ∧ Hid (sumI (W.take j) = s ∧ (W.take j).all isRate = true)) (fun _ i => W.length - (intOf i).toNat)
        case atStart => exact ⟨0, 0, Nat.zero_le _, rfl, rfl, ⟨rfl, rfl⟩⟩
        case round =>
          clear HC
          obtain ⟨j, s, hj, rfl, rfl, HS⟩ := hrel
          by_cases hlt : j < W.length
          · have hlI : (j : Int) < (W.length : Int) := by omega
            have hne : W ≠ [] := by intro e; rw [e] at hlt; simp at hlt
            obtain ⟨b, off, rfl, hbl, hcs⟩ := HX.out hne
            obtain ⟨x, hxe⟩ : ∃ x, W[j] = x := ⟨_, rfl⟩
            have q := hcs j hlt 0 _ rfl
            rw [hxe, Nat.mul_one, Nat.add_zero] at q
            have HD : Hid (∀ u, Calls Tryd.prog 35 #[.int .i64 x] u fun e w' => e = .returned (.bool (isRate x)) ∧ w' = u) := fun u => rrate_any x u
            by_cases hxr : isRate x = true
            · rw [hxr] at HD
              have HN : Hid (sumI (W.take (j + 1)) = s + x ∧ (W.take (j + 1)).all isRate = true) := ⟨by rw [take_snoc W j hlt, sumI_snoc, HS.out.1, hxe], all_take_next hlt HS.out.2 (by rw [hxe]; exact hxr)⟩
              have hb1 : 0 ≤ s + x ∧ s + x ≤ 1000000000 := by
                obtain ⟨k1, k2⟩ := sum_nat _ HN.out.2
                rw [HN.out.1] at k1
                rw [List.length_take] at k2
                omega
              have ws : IntKind.i64.wrap (s + x) = s + x := wrapI (by omega) (by omega)
              clear hcs hxe hne hxr hb1
              go_wp2_with (go_at_call 35; go_must (refine (HD.out _).mono ?_; rintro y w2 ⟨rfl, hwz⟩; obtain rfl := hwz.symm))
              go_round
              case rel => exact ⟨j + 1, s + x, by omega, by go_num, rfl, HN⟩
              case measure => simp [intOf]; omega
            · have hxr' : isRate x = false := by simpa using hxr
              rw [hxr'] at HD
              clear hcs hxe hne hxr hxr'
              go_wp2_with (go_at_call 35; go_must (refine (HD.out _).mono ?_; rintro y w2 ⟨rfl, hwz⟩; obtain rfl := hwz.symm))
              go_ret2
              exact told_nilR HE.out (by decide) (Below.refl _ _)
          · have hgI : ¬ (j : Int) < (W.length : Int) := by omega
            have hS := HS.out
            rw [List.take_of_length_le (by omega)] at hS
            have hs0 : s = 0 := by
              have h0 : ¬ (1 ≤ W.length ∧ W.length ≤ 1000 ∧ W.all isRate = true ∧ sumI W ≠ 0) := fun h => by
                have := (okW_iff W).2 h
                rw [HNok.out] at this
                cases this
              have : ¬ sumI W ≠ 0 := fun h => h0 ⟨by omega, by omega, hS.2, h⟩
              omega
            subst hs0
            clear hS HS
            go_wp2_with fail
            go_ret2
            exact told_nilR HE.out (by decide) (Below.refl _ _)
  · have hm' : may a = false := by simpa using hm
    rw [hm'] at HC
    have HE : Hid (shE a W = 220) := by
      show _ = _
      unfold shE
      rw [hm']
      rfl
    clear hm hm'
    go_enter Tryd.func23, Tryd.ntmps23
    go_wp2_with (go_at_call 28; go_must (refine (HC.out _).mono ?_; rintro y w2 ⟨rfl, hwz⟩; obtain rfl := hwz.symm))
    go_ret2
    exact told_nilR HE.out (by decide) (Below.refl _ _)
theorem share_ok {a : Int} {W : List Int} (hE : shE a W = 0) : may a = true ∧ okW W = true := by
  unfold shE at hE
  cases h1 : may a
  · rw [h1] at hE; cases hE
  · rw [h1] at hE
    cases h2 : okW W
    · rw [h2] at hE; cases hE
    · exact ⟨rfl, rfl⟩
theorem rShare_any (a : Int) (v : Value) (W : List Int) (w : World) (hv : IntsAt w v W) : Calls Tryd.prog 23 #[.int .i64 a, v] w (ShareR a W w) := by
  by_cases hE : shE a W = 0
  · obtain ⟨h1, h2⟩ := share_ok hE
    by_cases h3 : 0 ≤ a ∨ leftN a W = 0
    · exact rshare_up a v W w hv h1 h2 h3
    · exact rshare_down a v W w hv h1 h2 (by omega)
  · exact rshare_no a v W w hv hE

set_option maxRecDepth 100000 in
set_option maxHeartbeats 400000 in
theorem spoil_row (w : World) (g : Nat) (X : List Int) (hrow : RowG w g X) (hl : X.length ≤ 1000) : Calls Tryd.prog 25 #[.slice (some ⟨g, 0, none⟩) X.length X.length, .int .i64 (-7)] w fun e w' => e = .returned (.tuple #[]) ∧ Turn (fun i => i = g) w w' := by
  have HR : Hid (RowG w g X) := hrow
  have hsl : ∀ W, (Instr.slice 29 (.slice (some ⟨g, 0, none⟩) X.length X.length) none (some (.int .i64 (X.length : Int))) none).run Tryd.prog W = .ok (.slice (some ⟨g, 0, none⟩) X.length X.length) W := fun W => cutI _ _ _ X.length (Nat.le_refl _) W
  obtain ⟨n, hn⟩ : ∃ n, X.length = n := ⟨_, rfl⟩
  have HN : Hid (X.length = n) := hn
  rw [hn] at hsl hl ⊢
  clear hrow hn
  go_enter Tryd.func25, Tryd.ntmps25
  go_wp2_with fail
  go_loopw [4] (fun i wr => ∃ (k : Nat) (Y : List Int), k ≤ n ∧ i = .int .i64 k ∧ Hid (Y.length = n) ∧ Hid (RowG wr g Y) ∧ Hid (Turn (fun i => i = g) w wr)) (fun i _ => n - (intOf i).toNat)
  case atStart => exact ⟨0, X, Nat.zero_le _, rfl, HN, HR, Turn.refl _ _⟩
  case round =>
    clear HR HN
    obtain ⟨k, Y, hk, rfl, HY, HR, HT⟩ := hrel
    by_cases hlt : k < n
    · have hlI : (k : Int) < (n : Int) := by omega
      have hyl : k < Y.length := by rw [HY.out]; exact hlt
      obtain ⟨y, hy⟩ : ∃ y, Y[k]? = some y := ⟨_, List.getElem?_eq_getElem hyl⟩
      have p1 := HR.out.cell hy
      have p2 := HR.out.frozen k
      have HR2 : Hid (RowG (wr.setCell ⟨g, k, none⟩ (.int .i64 (-7))) g (Y.set k (-7))) := HR.out.set hyl _
      have HY2 : Hid ((Y.set k (-7)).length = n) := by show _ = _; rw [List.length_set]; exact HY.out
      have HT2 : Hid (Turn (fun i => i = g) w (wr.setCell ⟨g, k, none⟩ (.int .i64 (-7)))) := HT.out.trans (Turn.setCell wr ⟨g, k, none⟩ _ rfl)
      clear hy hyl
      go_wp2_with fail
      go_roundw
      case rel => exact ⟨k + 1, _, by omega, by go_num, HY2, HR2, HT2⟩
      case measure => simp [intOf]; omega
    · have hlI : ¬ (k : Int) < (n : Int) := by omega
      go_wp2_with fail
      go_returns
      exact ⟨rfl, HT.out⟩
set_option maxRecDepth 100000 in
theorem spoil_nil (w : World) : Calls Tryd.prog 25 #[.slice none 0 0, .int .i64 (-7)] w fun e w' => e = .returned (.tuple #[]) ∧ w' = w := by
  go_enter Tryd.func25, Tryd.ntmps25
  go_wp2_with fail
  go_loopw [4] (fun i wr => i = .int .i64 0 ∧ wr = w) (fun _ _ => 0)
  case atStart => exact ⟨rfl, rfl⟩
  case round =>
    obtain ⟨rfl, hwq⟩ := hrel
    subst hwq
    go_wp2_with fail
    go_returns
    exact ⟨rfl, rfl⟩

theorem LentAt.lt {w : World} {g c : Nat} {L : List Int} (h : LentAt w g c L) : g < w.heap.size := by
  obtain ⟨cur, h1, _⟩ := h.row
  exact lt_of h1
theorem LentAt.same {w w' : World} {g c : Nat} {L : List Int} (h : LentAt w g c L) (hb : w'.heap[g]? = w.heap[g]?) : LentAt w' g c L := by
  obtain ⟨cur, h1, h2⟩ := h.row
  exact ⟨h.cap, h.capm, cur, hb.trans h1, h2⟩

namespace SharesL
/-- the shares are written over: what lay below stays -/
theorem spoil_told {w0 w : World} {v : Value} {X : List Int} (h : ToldI w w0.heap.size v X) (hc : ∃ p n, v = .slice p n n) (hl : X.length ≤ 1000) (hb : Below w0.heap.size w0 w) : Calls Tryd.prog 25 #[v, .int .i64 (-7)] w fun e w' => e = .returned (.tuple #[]) ∧ Below w0.heap.size w0 w' := by
  rcases h with ⟨rfl, rfl⟩ | ⟨g, c, rfl, h2, h3, h4, h5⟩
  · exact (spoil_nil w).mono fun e w' hh => ⟨hh.1, by rw [hh.2]; exact hb⟩
  · obtain ⟨p, n, e⟩ := hc
    cases e
    refine (spoil_row w g X h3 hl).mono fun e w' hh => ⟨hh.1, hb.trans ?_⟩
    exact (hh.2.mono (S' := fun i => w0.heap.size ≤ i) (fun i hi => by rw [hi]; exact h2)).toBelow hb.size

set_option maxRecDepth 100000 in
set_option maxHeartbeats 1000000 in
theorem walk (a : Int) (v : Value) (W : List Int) (w : World) (hv : IntsAt w v W) (hN : NilOk v) (hB : W.length * 8 ≤ reachBytes) : Calls Tryd.prog 5 #[.int .i64 a, v] w fun e w' => e = .returned (.bool true) ∧ Below w.heap.size w w' := by
  have HV : Hid (IntsAt w v W) := hv
  have H0' : Hid (Calls Tryd.prog 14 #[v] w fun e w' => ∃ g c, e = .returned (.slice (some ⟨g, 0, none⟩) W.length c) ∧ LentAt w' g c W ∧ w.heap.size ≤ g ∧ Below w.heap.size w w') := lendInts_any _ W w hv hN (by unfold reachBytes at hB; omega)
  obtain ⟨a1, c1, rfl, hl, hc, -⟩ := hv
  unfold maxLen at hc
  have HW : Hid (∀ u, Below w.heap.size w u → Calls Tryd.prog 13 #[] u fun e w' => e = .returned (.bool true) ∧ Below w.heap.size w w') := fun u hu => (works_any u).mono fun e w' h => ⟨h.1, hu.trans (h.2.mono hu.size)⟩
  have hlV : (shV a W).length ≤ 1000 := by
    by_cases hE : shE a W = 0
    · obtain ⟨h1, h2⟩ := share_ok hE
      rw [(share_yes h1 h2).2, sharesI_length]
      exact ((okW_iff W).1 h2).2.1
    · rw [share_no rfl hE]; simp
  have HlV : Hid ((shV a W).length ≤ 1000) := hlV
  have H1 : Hid (∀ u s, IntsAt u s W → Calls Tryd.prog 22 #[.int .i64 a, s] u (ShareP a W u)) := fun u s hs => Share_full a s W u hs
  have H2 : Hid (∀ u s, IntsAt u s W → Calls Tryd.prog 23 #[.int .i64 a, s] u (ShareR a W u)) := fun u s hs => rShare_any a s W u hs
  obtain ⟨E, eE⟩ : ∃ E, shE a W = E := ⟨_, rfl⟩
  have HE : Hid (shE a W = E) := eE
  have bE : (E != E) = false := by simp
  clear hN hB hlV eE
  go_enter Tryd.func5, Tryd.ntmps5
  go_wp2_with fail
  refine H0'.out.mono ?_
  rintro y w1 ⟨g, c, rfl, hL1, hg, hb1⟩
  have HL1 : Hid (LentAt w1 g c W) := hL1
  have HB1 : Hid (Below w.heap.size w w1) := hb1
  clear hL1 hb1 hg H0'
  go_wp2_with fail
  refine (H1.out _ _ HL1.out.ints).mono ?_
  rintro y w2 ⟨v1, rfl, ht2, hb2, hs2⟩
  have HT2 : Hid (ToldI w2 w1.heap.size v1 (shV a W)) := ht2
  have HB2 : Hid (Below w1.heap.size w1 w2) := hb2
  have HP2 : Hid (∃ p n, v1 = .slice p n n) := hs2
  rw [HE.out]
  obtain ⟨p1, n1, rfl⟩ := hs2
  clear ht2 hb2
  go_wp2_with fail
  refine (H2.out _ _ (HV.out.below (HB1.out.trans (HB2.out.mono HB1.out.size)))).mono ?_
  rintro y w3 ⟨v2, rfl, ht3, hb3⟩
  have HT3 : Hid (ToldI w3 w2.heap.size v2 (shV a W)) := ht3
  have HB3 : Hid (Below w1.heap.size w1 w3) := HB2.out.trans (hb3.mono HB2.out.size)
  have HT23 : Hid (ToldI w3 w1.heap.size (.slice p1 n1 n1) (shV a W)) := HT2.out.below hb3
  rw [HE.out]
  have H4 : Hid (Calls Tryd.prog 24 #[.slice p1 n1 n1, v2] w3 fun e w' => e = .returned (.bool true) ∧ Below w3.heap.size w3 w') := sameInts_true _ _ (shV a W) w3 HT23.out.ints HT3.out.ints
  have hsh : ∃ p n c, v2 = .slice p n c := by
    rcases ht3 with ⟨rfl, _⟩ | ⟨g', c', rfl, _⟩
    · exact ⟨none, 0, 0, rfl⟩
    · exact ⟨_, _, _, rfl⟩
  obtain ⟨p2, n2, c2, rfl⟩ := hsh
  clear ht3 hb3
  go_wp2_with fail
  refine H4.out.mono ?_
  rintro y w4 ⟨rfl, hb4⟩
  have HB4 : Hid (Below w1.heap.size w1 w4) := HB3.out.trans (hb4.mono HB3.out.size)
  have H5 : Hid (Calls Tryd.prog 25 #[.slice p1 n1 n1, .int .i64 (-7)] w4 fun e w' => e = .returned (.tuple #[]) ∧ Below w1.heap.size w1 w') := spoil_told (HT23.out.below hb4) HP2.out HlV.out HB4.out
  clear hb4
  go_wp2_with fail
  refine H5.out.mono ?_
  rintro y w5 ⟨rfl, hb5⟩
  have HB5 : Hid (Below w.heap.size w w5) := HB1.out.trans (hb5.mono HB1.out.size)
  have H6 : Hid (Calls Tryd.prog 21 #[.slice (some ⟨g, 0, none⟩) W.length c, .slice a1 W.length c1] w5 fun e w' => e = .returned (.bool true) ∧ Below w.heap.size w w') := (keptInts_true g c _ W w5 (HL1.out.below hb5) (HV.out.below HB5.out)).mono fun e w' hh => ⟨hh.1, HB5.out.trans (hh.2.mono HB5.out.size)⟩
  clear hb5
  go_wp2_with fail
  refine H6.out.mono ?_
  rintro y w6 ⟨rfl, hb6⟩
  go_wp2_with fail
  refine (HW.out _ hb6).mono ?_
  rintro y w7 ⟨rfl, hb7⟩
  go_wp2_with fail
  go_ret
  exact ⟨rfl, hb7⟩
end SharesL
end Go.Proofs.YtfaelefeiinbaaaDoor
