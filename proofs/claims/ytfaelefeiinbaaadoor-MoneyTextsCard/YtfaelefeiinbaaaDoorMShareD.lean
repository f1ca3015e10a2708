/- Layer 22: the program's Share, call by call. -/
import Derived.Test.YtfaelefeiinbaaaDoorMShareC
namespace Go.Proofs.YtfaelefeiinbaaaDoor
open Go.RowKit MP

/-- and there is no room behind the shares -/
def ShareP (a : Int) (W : List Int) (w : World) (e : Ending) (w' : World) : Prop := ∃ v, e = .returned (.tuple #[v, .int .i64 (shE a W)]) ∧ ToldI w' w.heap.size v (shV a W) ∧ Below w.heap.size w w' ∧ ∃ p n, v = .slice p n n
theorem told_nil {a : Int} {W : List Int} {w w' : World} {E : Int} (hE : shE a W = E) (h0 : E ≠ 0) (hb : Below w.heap.size w w') : ShareP a W w (.returned (.tuple #[.slice none 0 0, .int .i64 E])) w' :=
  ⟨.slice none 0 0, by rw [hE], Or.inl ⟨rfl, share_no hE h0⟩, hb, none, 0, rfl⟩

set_option maxRecDepth 100000 in
set_option maxHeartbeats 1000000 in
theorem Share_full (a : Int) (v : Value) (W : List Int) (w : World) (hv : IntsAt w v W) : Calls Tryd.prog 22 #[.int .i64 a, v] w (ShareP a W w) := by
  have HV : Hid (IntsAt w v W) := hv
  obtain ⟨a1, c, rfl, hl, hc, hx⟩ := hv
  have HX : Hid (W ≠ [] → ∃ b off, a1 = some ⟨b, off, none⟩ ∧ b < w.heap.size ∧ ∀ i, (h : i < W.length) → ∀ (j : Nat) (u : Value), ([Value.int .i64 W[i]])[j]? = some u → w.cell? ⟨b, off + i * 1 + j, none⟩ = some u) := hx
  unfold maxLen at hc
  clear hx
  have HC : Hid (∀ u, Calls Tryd.prog 26 #[.int .i64 a] u fun e w' => e = .returned (.bool (may a)) ∧ w' = u) := fun u => isAmount_any a u
  have HA : Hid (Calls Tryd.prog 37 #[.slice a1 W.length c, .int .i64 1000000] w fun e w' => e = .returned (.bool (W.all isRate)) ∧ w' = w) := allWithin_any _ W w HV.out
  by_cases hm : may a = true
  · have HM : Hid (may a = true) := hm
    rw [hm] at HC
    by_cases h1 : W.length < 1
    · have HE : Hid (shE a W = 1) := by
        show _ = _
        unfold shE okW
        rw [hm]
        simp [show ¬ (1 ≤ W.length ∧ W.length ≤ 1000) by omega]
      have h1I : (W.length : Int) < 1 := by omega
      clear hm
      go_enter Tryd.func22, Tryd.ntmps22
      go_wp2_with (go_at_call 26; go_must (refine (HC.out _).mono ?_; rintro y w2 ⟨rfl, hwz⟩; obtain rfl := hwz.symm))
      go_ret2
      exact told_nil HE.out (by decide) (Below.refl _ _)
    · by_cases h2 : 1000 < W.length
      · have HE : Hid (shE a W = 1) := by
          show _ = _
          unfold shE okW
          rw [hm]
          simp [show ¬ (1 ≤ W.length ∧ W.length ≤ 1000) by omega]
        have h1I : ¬ (W.length : Int) < 1 := by omega
        have h2I : 1000 < (W.length : Int) := by omega
        clear hm
        go_enter Tryd.func22, Tryd.ntmps22
        go_wp2_with (go_at_call 26; go_must (refine (HC.out _).mono ?_; rintro y w2 ⟨rfl, hwz⟩; obtain rfl := hwz.symm))
        go_ret2
        exact told_nil HE.out (by decide) (Below.refl _ _)
      · have h1I : ¬ (W.length : Int) < 1 := by omega
        have h2I : ¬ 1000 < (W.length : Int) := by omega
        have d1 : decide ((W.length : Int) < 1) = false := decide_eq_false h1I
        have d2 : decide (1000 < (W.length : Int)) = false := decide_eq_false h2I
        by_cases hA : W.all isRate = true
        · rw [hA] at HA
          have HS : Hid (∀ u, IntsAt u (.slice a1 W.length c) W → Calls Tryd.prog 31 #[.slice a1 W.length c] u fun e w' => e = .returned (.tuple #[.int .i64 (sumI W), .int .i64 0]) ∧ w' = u) := fun u hu => by
            refine (sum_any _ W u hu (all_may hA) (by omega)).mono fun e w' h => ?_
            obtain ⟨k1, k2⟩ := sum_nat W hA
            have : may (sumI W) = true := (may_iff _).2 (by omega)
            unfold amV amE at h
            rw [this] at h
            exact h
          by_cases h0 : sumI W = 0
          · have HE : Hid (shE a W = 1) := by
              show _ = _
              unfold shE okW
              rw [hm]
              simp [h0]
            rw [h0] at HS
            clear hm hA h0
            go_enter Tryd.func22, Tryd.ntmps22
            go_wp2_with (first
              | (go_at_call 26; go_must (refine (HC.out _).mono ?_; rintro y w2 ⟨rfl, hwz⟩; obtain rfl := hwz.symm))
              | (go_at_call 37; go_must (refine HA.out.mono ?_; rintro y w2 ⟨rfl, hwz⟩; obtain rfl := hwz.symm))
              | (go_at_call 31; go_must (refine (HS.out _ HV.out).mono ?_; rintro y w2 ⟨rfl, hwz⟩; obtain rfl := hwz.symm)))
            go_ret2
            exact told_nil HE.out (by decide) (Below.refl _ _)
          · have hok : okW W = true := (okW_iff W).2 ⟨by omega, by omega, hA, h0⟩
            have HOk : Hid (okW W = true) := hok
            obtain ⟨s1, s2, s3⟩ := okW_pos hok
            obtain ⟨M, hM1, hM2⟩ := make_ints W.length (by omega)
            have HR0 : Hid (RowG (w.alloc (.cells M 3)) w.heap.size (partW a W 0)) := by
              refine ⟨M, heap_new w _, ?_⟩
              rw [partW_length (Nat.zero_le _), hM1]
              show (flat en1 (List.replicate W.length 0)).take W.length = flat en1 (List.replicate W.length 0)
              rw [List.take_of_length_le (by rw [flat_len]; simp)]
            have HB0 : Hid (Below w.heap.size w (w.alloc (.cells M 3))) := (Below.refl _ _).alloc (Nat.le_refl _) _
            obtain ⟨S, eS⟩ : ∃ S, sumI W = S := ⟨_, rfl⟩
            have HSW : Hid (sumI W = S) := eS
            rw [eS] at s3 HS h0
            have sp : 0 < S := by omega
            have sp2 : S ≤ 1000000000 := by omega
            have sb : (S == 0) = false := by simp; omega
            obtain ⟨g, hg⟩ : ∃ g, w.heap.size = g := ⟨_, rfl⟩
            have HG : Hid (w.heap.size = g) := hg
            have hM3 : (Instr.makeSlice 29 (.int .i64 (W.length : Int)) (.int .i64 (W.length : Int))).run Tryd.prog w = .ok (.slice (some ⟨g, 0, none⟩) W.length W.length) (w.alloc (.cells M 3)) := by rw [← hg]; exact hM2 w
            rw [hg] at HR0
            clear hM1 hM2 hm hA hok s1 s2 s3 eS hg
            go_enter Tryd.func22, Tryd.ntmps22
            go_wp2_with (first
              | (go_at_call 26; go_must (refine (HC.out _).mono ?_; rintro y w2 ⟨rfl, hwz⟩; obtain rfl := hwz.symm))
              | (go_at_call 37; go_must (refine HA.out.mono ?_; rintro y w2 ⟨rfl, hwz⟩; obtain rfl := hwz.symm))
              | (go_at_call 31; go_must (refine (HS.out _ HV.out).mono ?_; rintro y w2 ⟨rfl, hwz⟩; obtain rfl := hwz.symm)))
            go_loopw [43] (fun i wr => ∃ n : Nat, n ≤ W.length ∧ i = .int .i64 n ∧ Hid (Below w.heap.size w wr) ∧ Hid (RowG wr g (partW a W n))) (fun i _ => W.length - (intOf i).toNat)
            case atStart => exact ⟨0, Nat.zero_le _, rfl, HB0, HR0⟩
            case round =>
              clear HB0 HR0 HC HA HS hM3
              obtain ⟨n, hn, rfl, HB, HRow⟩ := hrel
              by_cases hlt : n < W.length
              · have hlI : (n : Int) < (W.length : Int) := by omega
                have hne : W ≠ [] := by intro e; rw [e] at hlt; simp at hlt
                obtain ⟨b, off, rfl, hbl, hcs⟩ := HX.out hne
                obtain ⟨x, hxe⟩ : ∃ x, W[n] = x := ⟨_, rfl⟩
                have q0 := hcs n hlt 0 _ rfl
                rw [hxe, Nat.mul_one, Nat.add_zero] at q0
                have q := (HB.out.cell (p := ⟨b, off + n, none⟩) hbl).trans q0
                have hxr := (isRate_iff x).1 (List.all_eq_true.1 ((okW_iff W).1 HOk.out).2.2.1 x (hxe ▸ List.getElem_mem hlt))
                have hba := base_at (a := a) HOk.out hlt
                have hbr := base_room HM.out HOk.out hlt
                rw [hxe, HSW.out] at hba hbr
                have HP : Hid (∀ u, Calls Tryd.prog 33 #[.int .i64 a, .int .i64 x, .int .i64 S] u fun e w' => e = .returned (.tuple #[.int .i64 (a.tdiv S * x + (a.tmod S * x).tdiv S), .int .i64 ((a.tmod S * x).tmod S)]) ∧ w' = u.drew) := fun u => portion_any a x S u sp sp2 hxr.1 hxr.2 hbr ((may_iff a).1 HM.out)
                obtain ⟨y, ey⟩ : ∃ y, a.tdiv S * x + (a.tmod S * x).tdiv S = y := ⟨_, rfl⟩
                obtain ⟨z, ez⟩ : ∃ z, (a.tmod S * x).tmod S = z := ⟨_, rfl⟩
                rw [ey] at HP hba
                rw [ez] at HP
                have hpl : n < (partW a W n).length := by rw [partW_length hn]; exact hlt
                obtain ⟨o, ho⟩ : ∃ o, (partW a W n)[n]? = some o := ⟨_, List.getElem?_eq_getElem hpl⟩
                have p1 := HRow.out.cell ho
                have p2 := HRow.out.frozen n
                have HRn : Hid (∀ u, RowG u g (partW a W n) → RowG (u.setCell ⟨g, n, none⟩ (.int .i64 y)) g (partW a W (n + 1))) := fun u hu => by
                  rw [← partW_next hlt hba]
                  exact hu.set hpl _
                clear hcs hxe hne hxr q0 hba hbr ey ez ho hpl
                go_wp2_with (go_at_call 33; go_must (refine (HP.out _).mono ?_; rintro y w2 ⟨rfl, rfl⟩))
                go_roundw
                case rel =>
                  have hb1 : Below w.heap.size w (wr.setCell ⟨g, n, none⟩ (.int .i64 y)) := HB.out.setCell (p := ⟨g, n, none⟩) (by show w.heap.size ≤ g; rw [HG.out]; exact Nat.le_refl _) _
                  exact ⟨n + 1, by omega, by go_num, hb1.trans ((below_drewN _ 1).mono hb1.size), (HRn.out _ HRow.out).below (below_drewN _ 1)⟩
                case measure => simp [intOf]; omega
              · obtain rfl : n = W.length := by omega
                have hrow := HRow.out
                rw [partW_end] at hrow
                have HR1 : Hid (RowG wr g (giveI a W 0)) := hrow
                have hgl : (giveI a W 0).length = W.length := giveI_length a W 0
                have hin := hrow.ints (c := W.length) (by omega) (by unfold maxLen; omega)
                rw [hgl] at hin
                have HSm : Hid (Calls Tryd.prog 31 #[.slice (some ⟨g, 0, none⟩) W.length W.length] wr fun e w' => e = .returned (.tuple #[.int .i64 (sumI (basesI a W)), .int .i64 0]) ∧ w' = wr) := by
                  refine (sum_any _ (giveI a W 0) wr hin (by rw [giveI_zero]; exact base_all HOk.out HM.out) (by omega)).mono fun e w' h => ?_
                  rw [giveI_zero] at h
                  have hma : may (sumI (basesI a W)) = true := by
                    unfold basesI
                    rw [sumI_sg]
                    exact sg_may (left_sg (a := a) HOk.out).2.2.2 HM.out
                  unfold amV amE at h
                  rw [hma] at h
                  exact h
                have HD : Hid (Calls Tryd.prog 40 #[.int .i64 (a - sumI (basesI a W)), .slice (some ⟨g, 0, none⟩) W.length W.length, .slice a1 W.length c] wr fun e w' => e = .returned (.tuple #[]) ∧ Below w.heap.size w w' ∧ RowG w' g (sharesI a W)) := share_deal HV.out HB.out (by rw [HG.out]; exact Nat.le_refl _) HR1.out HOk.out HM.out
                have hlft := left_sg (a := a) HOk.out
                obtain ⟨T, eT⟩ : ∃ T, sumI (basesI a W) = T := ⟨_, rfl⟩
                obtain ⟨D, eD⟩ : ∃ D, a - T = D := ⟨_, rfl⟩
                rw [eT] at HSm HD hlft
                rw [eD] at HD hlft
                have wD : IntKind.i64.wrap D = D := by
                  have h1 := hlft.1
                  have h2 := hlft.2.2.1
                  unfold sg at h1
                  split at h1 <;> exact wrapI (by omega) (by omega)
                clear hrow hgl hin hlft eT HRow HR1
                go_wp2_with (first
                  | (go_at_call 31; go_must (refine HSm.out.mono ?_; rintro y w2 ⟨rfl, hwz⟩; obtain rfl := hwz.symm))
                  | (go_at_call 40; go_must (refine HD.out.mono ?_; rintro y w3 ⟨rfl, hb3, hr3⟩)))
                go_ret2
                obtain ⟨e1, e2⟩ := share_yes HM.out HOk.out
                refine ⟨_, by rw [e1]; rfl, Or.inr ⟨g, W.length, ?_, by rw [HG.out]; exact Nat.le_refl _, ?_, ?_, by unfold maxLen; omega⟩, hb3, _, _, rfl⟩
                · rw [e2, sharesI_length]
                · rw [e2]; exact hr3
                · rw [e2, sharesI_length]; exact Nat.le_refl _
        · have hA' : W.all isRate = false := by simpa using hA
          rw [hA'] at HA
          have HE : Hid (shE a W = 1) := by
            show _ = _
            unfold shE okW
            rw [hm, hA']
            simp
          clear hm hA hA'
          go_enter Tryd.func22, Tryd.ntmps22
          go_wp2_with (first
            | (go_at_call 26; go_must (refine (HC.out _).mono ?_; rintro y w2 ⟨rfl, hwz⟩; obtain rfl := hwz.symm))
            | (go_at_call 37; go_must (refine HA.out.mono ?_; rintro y w2 ⟨rfl, hwz⟩; obtain rfl := hwz.symm)))
          go_ret2
          exact told_nil HE.out (by decide) (Below.refl _ _)
  · have hm' : may a = false := by simpa using hm
    rw [hm'] at HC
    have HE : Hid (shE a W = 220) := by
      show _ = _
      unfold shE
      rw [hm']
      rfl
    clear hm hm'
    go_enter Tryd.func22, Tryd.ntmps22
    go_wp2_with (go_at_call 26; go_must (refine (HC.out _).mono ?_; rintro y w2 ⟨rfl, hwz⟩; obtain rfl := hwz.symm))
    go_ret2
    exact told_nil HE.out (by decide) (Below.refl _ _)
theorem Share_any (a : Int) (v : Value) (W : List Int) (w : World) (hv : IntsAt w v W) : Calls Tryd.prog 22 #[.int .i64 a, v] w (ShareR a W w) :=
  (Share_full a v W w hv).mono fun e w' h => by
    obtain ⟨v', h1, h2, h3, _⟩ := h
    exact ⟨v', h1, h2, h3⟩
end Go.Proofs.YtfaelefeiinbaaaDoor
