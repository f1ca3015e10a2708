/- Layer 22: the document's Share. -/
import Derived.Test.YtfaelefeiinbaaaDoorMRefS
import Derived.Test.YtfaelefeiinbaaaDoorMShareC
import Derived.Maps.AppendAt
import Derived.BigRegion
namespace Go.Proofs.YtfaelefeiinbaaaDoor
open Go.RowKit MP

theorem own_shape {w : World} {base n : Nat} {e : TypeId} {v : Value} {xs : List Value} (h : w.ownsRow base e 1 v n xs) : ∃ A m, v = .slice A n m := by
  rcases h.2 with ⟨h1, h2⟩ | ⟨g, cap, cur, h1, _⟩
  · subst h2; exact ⟨none, 0, h1⟩
  · exact ⟨some ⟨g, 0, none⟩, cap, h1⟩
/-- one number more at the end of a row of a call's own -/
theorem wpList_int {w : World} {ops : Array Oper} {rest : List Oper} {o : Oper} {a : Act} {Q : Exit → Act → World → Prop} (hgd : o.guard = none) (s x : Operand)
    (ho : o.op = .call { callee := .builtin .append, args := #[s, x], argTypes := #[29, 29] })
    (base : Nat) (L : List Int) (y : Int) (A : Option Addr) (n m : Nat) (hs : a.eval s = .slice A n m) (hown : w.ownsRow base 3 1 (.slice A n m) n (flat en1 L)) (hn : n ≤ 1000000) (hbase : base ≤ w.heap.size)
    (p : Nat) (hx : a.eval x = .slice (some ⟨p, 0, none⟩) 1 1) (hp : w.cell? ⟨p, 0, none⟩ = some (.int .i64 y))
    (h : ∀ A' m' w', w'.ownsRow base 3 1 (.slice A' (n + 1) m') (n + 1) (flat en1 (L ++ [y])) → Below base w w' → wpList Tryd.prog ops Q rest (a.put o.dst (.slice A' (n + 1) m')) w') :
    wpList Tryd.prog ops Q (o :: rest) a w := by
  obtain ⟨i, hi, hz, h1, h2⟩ := info_parts infoI
  refine wpList_append_own_at _ hgd s x 29 ho base 3 i (.int .i64 0) 1 8 Tryd.underlying29 hi hz h1 h2 rfl (by decide) _ n _ hs hown ⟨p, 0, none⟩ 1 1 [.int .i64 y] hx rfl (fun j u hu => ?_) (fun u hu => ?_) (by unfold maxLen; omega) (by omega) hbase (fun v' w' k1 k2 _ k4 => ?_)
  · cases j with
    | zero => simp at hu; rw [Addr.add_lit, ← hu]; exact hp
    | succ j => simp at hu
  · rw [List.mem_singleton.1 hu]; rfl
  · obtain ⟨A', m', rfl⟩ := own_shape k1
    refine h A' m' w' ?_ ((Below.refl _ _).grown k2 hbase (fun k hk => ?_))
    · have e : flat en1 (L ++ [y]) = flat en1 L ++ [.int .i64 y] := by rw [flat_append]; rfl
      rw [e]
      exact k1
    · exact (hown.lt k hk).1
theorem row_of {w : World} {base n c : Nat} {A : Option Addr} {X : List Int} (h : w.ownsRow base 3 1 (.slice A n c) n (flat en1 X)) (hn : 0 < n) (hx : X.length = n) : ∃ g, A = some ⟨g, 0, none⟩ ∧ base ≤ g ∧ RowG w g X ∧ n ≤ c ∧ c ≤ maxLen := by
  rcases h.2 with ⟨h1, h2⟩ | ⟨g, cap, cur, h1, h3, h4, h5, h6, _, h8⟩
  · omega
  · cases h1
    exact ⟨g, rfl, h3, ⟨cur, h4, by rw [hx]; rw [Nat.mul_one] at h8; exact h8⟩, h5, h6⟩
theorem told_nilR {a : Int} {W : List Int} {w w' : World} {E : Int} (hE : shE a W = E) (h0 : E ≠ 0) (hb : Below w.heap.size w w') : ShareR a W w (.returned (.tuple #[.slice none 0 0, .int .i64 E])) w' :=
  ⟨.slice none 0 0, by rw [hE], Or.inl ⟨rfl, share_no hE h0⟩, hb⟩
theorem sumN_append : ∀ a b : List Nat, sumN (a ++ b) = sumN a + sumN b
  | [], b => by simp [sumN]
  | x :: a, b => by simp only [List.cons_append, sumN, sumN_append a b]; omega
theorem sumN_take_le (l : List Nat) (n : Nat) : sumN (l.take n) ≤ sumN l := by
  have := sumN_append (l.take n) (l.drop n)
  rw [List.take_append_drop] at this; omega
/-- what is still to be given out behind j shares -/
theorem left_bound2 {a : Int} {W : List Int} (hok : okW W = true) (ha : may a = true) (j : Nat) : -2000000000000000 ≤ a - sumI ((basesI a W).take j) ∧ a - sumI ((basesI a W).take j) ≤ 2000000000000000 := by
  have h1 := (left_sg (a := a) hok).2.2.2
  have h2 := sumN_take_le (bases a.natAbs (sumN (nat W)) (nat W)) j
  have ha' := (may_iff a).1 ha
  have e : sumI ((basesI a W).take j) = sg a (sumN ((bases a.natAbs (sumN (nat W)) (nat W)).take j)) := by
    unfold basesI
    rw [← List.map_take, sumI_sg]
  rw [e]
  unfold sg
  split <;> omega
theorem sum_take_le {W : List Int} (h : (W.all isRate) = true) (hl : W.length ≤ 1000) (j : Nat) : 0 ≤ sumI (W.take j) ∧ sumI (W.take j) ≤ 1000000000 := by
  have h' : ((W.take j).all isRate) = true := by
    rw [List.all_eq_true] at h ⊢
    exact fun x hx => h x (List.mem_of_mem_take hx)
  obtain ⟨h1, h2⟩ := sum_nat _ h'
  rw [List.length_take] at h2
  omega

set_option maxRecDepth 100000 in
set_option maxHeartbeats 2000000 in
theorem rshare_up (a : Int) (v : Value) (W : List Int) (w : World) (hv : IntsAt w v W) (ha : may a = true) (hok : okW W = true) (hcent : 0 ≤ a ∨ leftN a W = 0) : Calls Tryd.prog 23 #[.int .i64 a, v] w (ShareR a W w) := by
  have HV : Hid (IntsAt w v W) := hv
  obtain ⟨a1, c, rfl, hl, hc, hx⟩ := hv
  have HX : Hid (W ≠ [] → ∃ b off, a1 = some ⟨b, off, none⟩ ∧ b < w.heap.size ∧ ∀ i, (h : i < W.length) → ∀ (j : Nat) (u : Value), ([Value.int .i64 W[i]])[j]? = some u → w.cell? ⟨b, off + i * 1 + j, none⟩ = some u) := hx
  unfold maxLen at hc
  have HC : Hid (∀ u, Calls Tryd.prog 28 #[.int .i64 a] u fun e w' => e = .returned (.bool true) ∧ w' = u) := fun u => by
    have := rMay_any a u
    rw [ha] at this
    exact this
  have HMa : Hid (may a = true) := ha
  have HOk : Hid (okW W = true) := hok
  obtain ⟨o1, o2, o3, o4⟩ := (okW_iff W).1 hok
  obtain ⟨s1, s2, s3⟩ := okW_pos hok
  have HR : Hid (W.all isRate = true) := o3
  have h1I : ¬ (W.length : Int) < 1 := by omega
  have h2I : ¬ 1000 < (W.length : Int) := by omega
  have d1 : decide ((W.length : Int) < 1) = false := decide_eq_false h1I
  have d2 : decide (1000 < (W.length : Int)) = false := decide_eq_false h2I
  obtain ⟨S, eS⟩ : ∃ S, sumI W = S := ⟨_, rfl⟩
  have HSW : Hid (sumI W = S) := eS
  rw [eS] at s3 o4
  have sp : 0 < S := by omega
  have sp2 : S ≤ 1000000000 := by omega
  have sb : (S == 0) = false := by simp; omega
  have sn : ¬ S = 0 := by omega
  obtain ⟨m, em⟩ : ∃ m, leftN a W = m := ⟨_, rfl⟩
  have hlf := left_sg (a := a) hok
  rw [em] at hlf
  have HL : Hid (a - sumI (basesI a W) = (m : Int)) := by
    show _ = _
    rw [hlf.1]
    have := hcent
    unfold sg
    split <;> omega
  have hm1 : m ≤ 1000 := hlf.2.2.1
  have HLt : Hid (m < cnt (nat W)) := hlf.2.1
  have HCent : Hid (0 < m → (if a < 0 then (-1 : Int) else 1) = 1) := fun h => by
    have := hcent
    split <;> omega
  have HEnd : Hid (giveI a W m = sharesI a W) := by show _ = _; rw [← em]; exact giveI_left a W
  clear hx ha hok o3 o4 s1 s2 s3 eS em hlf hcent
  go_enter Tryd.func23, Tryd.ntmps23
  go_wp2_with (go_at_call 28; go_must (refine (HC.out _).mono ?_; rintro y w2 ⟨rfl, hwz⟩; obtain rfl := hwz.symm))
  go_loop [6, 7] (fun sv i => ∃ (j : Nat) (s : Int), j ≤ W.length ∧ i = .int .i64 j ∧ sv = .int .i64 s ∧ Hid (sumI (W.take j) = s)) (fun _ i => W.length - (intOf i).toNat)
  case atStart => exact ⟨0, 0, Nat.zero_le _, rfl, rfl, (rfl : _ = _)⟩
  case round =>
    clear HC
    obtain ⟨j, s, hj, rfl, rfl, HS⟩ := hrel
    by_cases hlt : j < W.length
    · have hlI : (j : Int) < (W.length : Int) := by omega
      have hne : W ≠ [] := by intro e; rw [e] at hlt; simp at hlt
      obtain ⟨b, off, rfl, hbl, hcs⟩ := HX.out hne
      obtain ⟨x, hxe⟩ : ∃ x, W[j] = x := ⟨_, rfl⟩
      have q := hcs j hlt 0 _ rfl
      rw [hxe, Nat.mul_one, Nat.add_zero] at q
      have hxr : isRate x = true := List.all_eq_true.1 HR.out x (hxe ▸ List.getElem_mem hlt)
      have HD : Hid (∀ u, Calls Tryd.prog 35 #[.int .i64 x] u fun e w' => e = .returned (.bool true) ∧ w' = u) := fun u => by
        have := rrate_any x u
        rw [hxr] at this
        exact this
      have HN : Hid (sumI (W.take (j + 1)) = s + x) := by show _ = _; rw [take_snoc W j hlt, sumI_snoc, HS.out, hxe]
      have hb1 := sum_take_le HR.out o2 (j + 1)
      rw [HN.out] at hb1
      have ws : IntKind.i64.wrap (s + x) = s + x := wrapI (by omega) (by omega)
      clear hcs hxe hne hxr hb1
      go_wp2_with (go_at_call 35; go_must (refine (HD.out _).mono ?_; rintro y w2 ⟨rfl, hwz⟩; obtain rfl := hwz.symm))
      go_round
      case rel => exact ⟨j + 1, s + x, by omega, by go_num, rfl, HN⟩
      case measure => simp [intOf]; omega
    · have hgI : ¬ (j : Int) < (W.length : Int) := by omega
      have hS := HS.out
      rw [List.take_of_length_le (by omega), HSW.out] at hS
      subst hS
      clear HS
      go_wp2_with fail
      clear hgI hlt hj
      go_loopw [8, 9, 10] (fun lv ov i wr => ∃ (j mm : Nat) (A : Option Addr) (l : Int), j ≤ W.length ∧ i = .int .i64 j ∧ lv = .int .i64 l ∧ ov = .slice A j mm ∧ Hid (a - sumI ((basesI a W).take j) = l) ∧ Hid (wr.ownsRow w.heap.size 3 1 (.slice A j mm) j (flat en1 ((basesI a W).take j))) ∧ Hid (Below w.heap.size w wr)) (fun _ _ i _ => W.length - (intOf i).toNat)
      case atStart => exact ⟨0, 0, none, a, Nat.zero_le _, rfl, rfl, rfl, (by show _ = _; simp [sumI]), ⟨rfl, Or.inl ⟨rfl, rfl⟩⟩, Below.refl _ _⟩
      case round =>
        obtain ⟨j, mm, A, l, hj, rfl, rfl, rfl, HLf, HO, HB⟩ := hrel
        by_cases hlt : j < W.length
        · have hlI : (j : Int) < (W.length : Int) := by omega
          have hne : W ≠ [] := by intro e; rw [e] at hlt; simp at hlt
          obtain ⟨b, off, rfl, hbl, hcs⟩ := HX.out hne
          obtain ⟨x, hxe⟩ : ∃ x, W[j] = x := ⟨_, rfl⟩
          have q0 := hcs j hlt 0 _ rfl
          rw [hxe, Nat.mul_one, Nat.add_zero] at q0
          have q := (HB.out.cell (p := ⟨b, off + j, none⟩) hbl).trans q0
          have hxr := (isRate_iff x).1 (List.all_eq_true.1 HR.out x (hxe ▸ List.getElem_mem hlt))
          have hba := base_at (a := a) HOk.out hlt
          have hbr := base_room HMa.out HOk.out hlt
          rw [hxe, HSW.out] at hba hbr
          have ha := (may_iff a).1 HMa.out
          have t1 := tmod_bound (a := a) sp
          have t0 : -1000000000000000 ≤ a.tdiv S ∧ a.tdiv S ≤ 1000000000000000 := by
            have h1 := Int.natAbs_tdiv_le_natAbs a S
            omega
          obtain ⟨u0, e0⟩ : ∃ u, a.tdiv S = u := ⟨_, rfl⟩
          obtain ⟨v0, e1⟩ : ∃ u, a.tmod S = u := ⟨_, rfl⟩
          rw [e0] at hba hbr t0
          rw [e1] at hba t1
          have t2 : -1000000000000000 ≤ v0 * x ∧ v0 * x ≤ 1000000000000000 := by
            have h1 : v0 * x ≤ 1000000000 * 1000000 := Int.mul_le_mul (by omega) hxr.2 hxr.1 (by omega)
            have h2 : -v0 * x ≤ 1000000000 * 1000000 := Int.mul_le_mul (by omega) hxr.2 hxr.1 (by omega)
            rw [Int.neg_mul] at h2
            omega
          obtain ⟨p0, e2⟩ : ∃ u, u0 * x = u := ⟨_, rfl⟩
          obtain ⟨p1, e3⟩ : ∃ u, v0 * x = u := ⟨_, rfl⟩
          rw [e2] at hba hbr
          rw [e3] at hba t2
          have t3 : -1000000000000000 ≤ p1.tdiv S ∧ p1.tdiv S ≤ 1000000000000000 := by
            have h1 := Int.natAbs_tdiv_le_natAbs p1 S
            omega
          obtain ⟨p2, e4⟩ : ∃ u, p1.tdiv S = u := ⟨_, rfl⟩
          rw [e4] at hba t3
          obtain ⟨y, e5⟩ : ∃ u, p0 + p2 = u := ⟨_, rfl⟩
          rw [e5] at hba
          have w1 : IntKind.i64.wrap u0 = u0 := wrapI (by omega) (by omega)
          have w2 : IntKind.i64.wrap v0 = v0 := wrapI (by omega) (by omega)
          have w3 : IntKind.i64.wrap p0 = p0 := wrapI (by omega) (by omega)
          have w4 : IntKind.i64.wrap p1 = p1 := wrapI (by omega) (by omega)
          have w5 : IntKind.i64.wrap p2 = p2 := wrapI (by omega) (by omega)
          have w6 : IntKind.i64.wrap y = y := wrapI (by omega) (by omega)
          obtain ⟨hbl2, hbe⟩ := List.getElem?_eq_some_iff.1 hba
          have HT : Hid ((basesI a W).take (j + 1) = (basesI a W).take j ++ [y]) := by show _ = _; rw [take_snoc _ j hbl2, hbe]
          have HL2 : Hid (a - sumI ((basesI a W).take (j + 1)) = l - y) := by
            show _ = _
            rw [HT.out, sumI_snoc, ← HLf.out]
            omega
          have t4 := left_bound2 HOk.out HMa.out (j + 1)
          rw [HL2.out] at t4
          have w7 : IntKind.i64.wrap (l - y) = l - y := wrapI (by omega) (by omega)
          have hB1 : w.heap.size ≤ wr.heap.size := HB.out.size
          clear hcs hxe hne hxr q0 hba hbr ha t0 t1 t2 t3 t4 hbl2 hbe
          go_wp2_with fail
          go_region
          go_wp2_with (at_builtin; go_must (refine wpList_int rfl _ _ rfl w.heap.size ((basesI a W).take j) y A j mm rfl ?q1 (by omega) ?q2 _ rfl ?q3 ?_))
          case q1 => exact (show wr.drew.ownsRow w.heap.size 3 1 (.slice A j mm) j (flat en1 ((basesI a W).take j)) from HO.out).alloc _
          case q2 => simp; omega
          case q3 => simp
          intro A' m' w3 ho hb3
          have HO3 : Hid (w3.ownsRow w.heap.size 3 1 (.slice A' (j + 1) m') (j + 1) (flat en1 ((basesI a W).take (j + 1)))) := by
            have := ho
            rw [← HT.out] at this
            exact this
          have HB3 : Hid (Below w.heap.size w w3) := ((HB.out.trans ((below_drewN wr 1).mono HB.out.size)).alloc (by simpa using HB.out.size) _).trans hb3
          clear ho hb3
          go_wp2_with fail
          go_roundw
          case rel => exact ⟨j + 1, m', A', l - y, by omega, by go_num, rfl, rfl, HL2, HO3, HB3⟩
          case measure => simp [intOf]; omega
        · obtain rfl : j = W.length := by omega
          have hO := HO.out
          have hLf := HLf.out
          rw [List.take_of_length_le (by rw [basesI_length]; omega)] at hO hLf
          rw [HL.out] at hLf
          subst hLf
          obtain ⟨g, rfl, hg, hrow, hmm, hmm2⟩ := row_of hO (by omega) (basesI_length a W)
          have HG : Hid (w.heap.size ≤ g) := hg
          rw [← giveI_zero] at hrow
          have HR0 : Hid (RowG wr g (giveI a W 0)) := hrow
          have HB0 : Hid (Below w.heap.size w wr) := HB.out
          unfold maxLen at hmm2
          clear hO HO HLf HB hg hrow HL
          go_wp2_with fail
          go_loopw [8, 12] (fun lv _ wr => ∃ (d j : Nat), lv = .int .i64 ((d : Int)) ∧ j + d = m ∧ (d = m ∨ d = 0) ∧ Hid (RowG wr g (giveI a W j)) ∧ Hid (Below w.heap.size w wr)) (fun lv _ _ => (intOf lv).natAbs)
          case atStart => exact ⟨m, 0, rfl, by omega, Or.inl rfl, HR0, HB0⟩
          case round =>
            clear HR0 HB0
            obtain ⟨d, j, rfl, hjd, hd, HRow, HB⟩ := hrel
            by_cases hd0 : d = 0
            · subst hd0
              obtain rfl : j = m := by omega
              go_wp2_with fail
              go_ret2
              obtain ⟨e1, e2⟩ := share_yes HMa.out HOk.out
              refine ⟨_, by rw [e1]; rfl, Or.inr ⟨g, mm, ?_, HG.out, ?_, ?_, by unfold maxLen; omega⟩, HB.out⟩
              · rw [e2, sharesI_length]; rfl
              · rw [e2, ← HEnd.out]; exact HRow.out
              · rw [e2, sharesI_length]; exact hmm
            · obtain rfl : d = m := by omega
              obtain rfl : j = 0 := by omega
              have hdI : ¬ ((d : Int)) = 0 := by omega
              have hdb : ((d : Int) != 0) = true := by simp; omega
              have HDp : Hid (0 < d) := Nat.pos_of_ne_zero hd0
              clear hd hjd
              go_wp2_with fail
              go_loopw [8, 12] (fun lv i wr => ∃ (k e j : Nat), k ≤ W.length ∧ i = .int .i64 k ∧ lv = .int .i64 ((e : Int)) ∧ j + e = d ∧ Hid (j = min d (cnt ((nat W).take k))) ∧ Hid (RowG wr g (giveI a W j)) ∧ Hid (Below w.heap.size w wr)) (fun _ i _ => W.length - (intOf i).toNat)
              case atStart => exact ⟨0, d, 0, Nat.zero_le _, rfl, rfl, by omega, (by show _ = _; simp [cnt]), HRow, HB⟩
              case round =>
                clear HRow HB hdI hdb
                obtain ⟨k, e, j, hk, rfl, rfl, hje, HMin, HRow, HB⟩ := hrel
                by_cases he : e = 0
                · subst he
                  obtain rfl : j = d := by omega
                  by_cases hlt : k < W.length
                  · have hlI : (k : Int) < (W.length : Int) := by omega
                    go_wp2_with fail
                    go_roundw
                    case rel => exact ⟨0, j, rfl, by omega, Or.inr rfl, HRow, HB⟩
                    case measure => have := HDp.out; simp [intOf]; omega
                  · have hlI : ¬ (k : Int) < (W.length : Int) := by omega
                    have hdk : decide ((k : Int) < (W.length : Int)) = false := decide_eq_false hlI
                    go_wp2_with fail
                    go_roundw
                    case rel => exact ⟨0, j, rfl, by omega, Or.inr rfl, HRow, HB⟩
                    case measure => have := HDp.out; simp [intOf]; omega
                · have hlt : k < W.length := by
                    have h1 := HMin.out
                    have h2 := HLt.out
                    have h3 := cnt_take_lt (ws := nat W) (n := k) (by omega)
                    rw [nat_length] at h3
                    exact h3
                  have hlI : (k : Int) < (W.length : Int) := by omega
                  have heI : ¬ ((e : Int)) = 0 := by omega
                  have heb : ((e : Int) != 0) = true := by simp; omega
                  have hne : W ≠ [] := by intro e; rw [e] at hlt; simp at hlt
                  obtain ⟨b, off, rfl, hbl, hcs⟩ := HX.out hne
                  obtain ⟨x, hxe⟩ : ∃ x, W[k] = x := ⟨_, rfl⟩
                  have q0 := hcs k hlt 0 _ rfl
                  rw [hxe, Nat.mul_one, Nat.add_zero] at q0
                  have q := (HB.out.cell (p := ⟨b, off + k, none⟩) hbl).trans q0
                  have hxr := (isRate_iff x).1 (List.all_eq_true.1 HR.out x (hxe ▸ List.getElem_mem hlt))
                  have h' : k < (nat W).length := by rw [nat_length]; exact hlt
                  have hcn : cnt ((nat W).take k) = j := by have := HMin.out; omega
                  have HC1 : Hid (cnt ((nat W).take (k + 1)) = j + (if x = 0 then 0 else 1)) := by
                    show _ = _
                    have e1 : ((nat W)[k] = 0) = (x = 0) := by rw [nat_at hlt h', hxe]; exact propext (by omega)
                    rw [cnt_take_succ h', hcn]
                    simp only [e1]
                  by_cases hx0 : x = 0
                  · subst hx0
                    have HC2 : Hid (j = min d (cnt ((nat W).take (k + 1)))) := by
                      have h1 := HC1.out
                      rw [if_pos rfl] at h1
                      show _ = _
                      omega
                    clear hcs hxe hne hxr q0 h' HC1 hcn HMin
                    go_wp2_with fail
                    go_roundw
                    case rel => exact ⟨k + 1, e, j, by omega, by go_num, rfl, by omega, HC2, HRow, HB⟩
                    case measure => simp [intOf]; omega
                  · have hxp : 0 < x := by omega
                    have HC2 : Hid (j + 1 = min d (cnt ((nat W).take (k + 1)))) := by
                      have h1 := HC1.out
                      rw [if_neg hx0] at h1
                      show _ = _
                      omega
                    have hgl : k < (giveI a W j).length := by rw [giveI_length]; exact hlt
                    obtain ⟨y, hy⟩ : ∃ y, (giveI a W j)[k]? = some y := ⟨_, List.getElem?_eq_getElem hgl⟩
                    have hyb := giveI_bound HOk.out HMa.out hy
                    have p1 := HRow.out.cell hy
                    have p2 := HRow.out.frozen k
                    have HNx : Hid (giveI a W (j + 1) = (giveI a W j).set k (y + 1)) := by
                      have := giveI_next (a := a) hlt (by rw [hxe]; exact hxp) (y := y) (by rw [hcn]; exact hy)
                      rw [hcn, HCent.out HDp.out] at this
                      exact this
                    have HRn : Hid (RowG (wr.setCell ⟨g, k, none⟩ (.int .i64 (y + 1))) g (giveI a W (j + 1))) := by
                      show RowG _ _ _
                      rw [HNx.out]
                      exact HRow.out.set hgl _
                    have HBn : Hid (Below w.heap.size w (wr.setCell ⟨g, k, none⟩ (.int .i64 (y + 1)))) := HB.out.setCell (p := ⟨g, k, none⟩) HG.out _
                    obtain ⟨e', rfl⟩ : ∃ e', e = e' + 1 := ⟨e - 1, by omega⟩
                    have wy : IntKind.i64.wrap (y + 1) = y + 1 := wrapI (by omega) (by omega)
                    have se : 0 < ((e' + 1 : Nat) : Int) := by omega
                    have sd : decide (0 < ((e' + 1 : Nat) : Int)) = true := decide_eq_true se
                    have sw : IntKind.i64.wrap (((e' + 1 : Nat) : Int) - 1) = ((e' + 1 : Nat) : Int) - 1 := wrapI (by omega) (by omega)
                    clear hcs hxe hne hxr q0 h' HC1 hcn HMin hyb hy hgl HNx
                    go_wp2_with fail
                    go_roundw
                    case rel => exact ⟨k + 1, e', j + 1, by omega, by go_num, (by first | (congr 1; done) | (congr 1; omega)), by omega, HC2, HRn, HBn⟩
                    case measure => simp [intOf]; omega

set_option maxRecDepth 100000 in
set_option maxHeartbeats 2000000 in
theorem rshare_down (a : Int) (v : Value) (W : List Int) (w : World) (hv : IntsAt w v W) (ha : may a = true) (hok : okW W = true) (hcent : a < 0 ∧ 0 < leftN a W) : Calls Tryd.prog 23 #[.int .i64 a, v] w (ShareR a W w) := by
  have HV : Hid (IntsAt w v W) := hv
  obtain ⟨a1, c, rfl, hl, hc, hx⟩ := hv
  have HX : Hid (W ≠ [] → ∃ b off, a1 = some ⟨b, off, none⟩ ∧ b < w.heap.size ∧ ∀ i, (h : i < W.length) → ∀ (j : Nat) (u : Value), ([Value.int .i64 W[i]])[j]? = some u → w.cell? ⟨b, off + i * 1 + j, none⟩ = some u) := hx
  unfold maxLen at hc
  have HC : Hid (∀ u, Calls Tryd.prog 28 #[.int .i64 a] u fun e w' => e = .returned (.bool true) ∧ w' = u) := fun u => by
    have := rMay_any a u
    rw [ha] at this
    exact this
  have HMa : Hid (may a = true) := ha
  have HOk : Hid (okW W = true) := hok
  obtain ⟨o1, o2, o3, o4⟩ := (okW_iff W).1 hok
  obtain ⟨s1, s2, s3⟩ := okW_pos hok
  have HR : Hid (W.all isRate = true) := o3
  have h1I : ¬ (W.length : Int) < 1 := by omega
  have h2I : ¬ 1000 < (W.length : Int) := by omega
  have d1 : decide ((W.length : Int) < 1) = false := decide_eq_false h1I
  have d2 : decide (1000 < (W.length : Int)) = false := decide_eq_false h2I
  obtain ⟨S, eS⟩ : ∃ S, sumI W = S := ⟨_, rfl⟩
  have HSW : Hid (sumI W = S) := eS
  rw [eS] at s3 o4
  have sp : 0 < S := by omega
  have sp2 : S ≤ 1000000000 := by omega
  have sb : (S == 0) = false := by simp; omega
  have sn : ¬ S = 0 := by omega
  obtain ⟨m, em⟩ : ∃ m, leftN a W = m := ⟨_, rfl⟩
  have hlf := left_sg (a := a) hok
  rw [em] at hlf
  have HL : Hid (a - sumI (basesI a W) = -(m : Int)) := by
    show _ = _
    rw [hlf.1]
    have := hcent
    unfold sg
    split <;> omega
  have hm1 : m ≤ 1000 := hlf.2.2.1
  have HLt : Hid (m < cnt (nat W)) := hlf.2.1
  have HCent : Hid (0 < m → (if a < 0 then (-1 : Int) else 1) = -1) := fun h => by
    have := hcent
    split <;> omega
  have HEnd : Hid (giveI a W m = sharesI a W) := by show _ = _; rw [← em]; exact giveI_left a W
  clear hx ha hok o3 o4 s1 s2 s3 eS em hlf hcent
  go_enter Tryd.func23, Tryd.ntmps23
  go_wp2_with (go_at_call 28; go_must (refine (HC.out _).mono ?_; rintro y w2 ⟨rfl, hwz⟩; obtain rfl := hwz.symm))
  go_loop [6, 7] (fun sv i => ∃ (j : Nat) (s : Int), j ≤ W.length ∧ i = .int .i64 j ∧ sv = .int .i64 s ∧ Hid (sumI (W.take j) = s)) (fun _ i => W.length - (intOf i).toNat)
  case atStart => exact ⟨0, 0, Nat.zero_le _, rfl, rfl, (rfl : _ = _)⟩
  case round =>
    clear HC
    obtain ⟨j, s, hj, rfl, rfl, HS⟩ := hrel
    by_cases hlt : j < W.length
    · have hlI : (j : Int) < (W.length : Int) := by omega
      have hne : W ≠ [] := by intro e; rw [e] at hlt; simp at hlt
      obtain ⟨b, off, rfl, hbl, hcs⟩ := HX.out hne
      obtain ⟨x, hxe⟩ : ∃ x, W[j] = x := ⟨_, rfl⟩
      have q := hcs j hlt 0 _ rfl
      rw [hxe, Nat.mul_one, Nat.add_zero] at q
      have hxr : isRate x = true := List.all_eq_true.1 HR.out x (hxe ▸ List.getElem_mem hlt)
      have HD : Hid (∀ u, Calls Tryd.prog 35 #[.int .i64 x] u fun e w' => e = .returned (.bool true) ∧ w' = u) := fun u => by
        have := rrate_any x u
        rw [hxr] at this
        exact this
      have HN : Hid (sumI (W.take (j + 1)) = s + x) := by show _ = _; rw [take_snoc W j hlt, sumI_snoc, HS.out, hxe]
      have hb1 := sum_take_le HR.out o2 (j + 1)
      rw [HN.out] at hb1
      have ws : IntKind.i64.wrap (s + x) = s + x := wrapI (by omega) (by omega)
      clear hcs hxe hne hxr hb1
      go_wp2_with (go_at_call 35; go_must (refine (HD.out _).mono ?_; rintro y w2 ⟨rfl, hwz⟩; obtain rfl := hwz.symm))
      go_round
      case rel => exact ⟨j + 1, s + x, by omega, by go_num, rfl, HN⟩
      case measure => simp [intOf]; omega
    · have hgI : ¬ (j : Int) < (W.length : Int) := by omega
      have hS := HS.out
      rw [List.take_of_length_le (by omega), HSW.out] at hS
      subst hS
      clear HS
      go_wp2_with fail
      clear hgI hlt hj
      go_loopw [8, 9, 10] (fun lv ov i wr => ∃ (j mm : Nat) (A : Option Addr) (l : Int), j ≤ W.length ∧ i = .int .i64 j ∧ lv = .int .i64 l ∧ ov = .slice A j mm ∧ Hid (a - sumI ((basesI a W).take j) = l) ∧ Hid (wr.ownsRow w.heap.size 3 1 (.slice A j mm) j (flat en1 ((basesI a W).take j))) ∧ Hid (Below w.heap.size w wr)) (fun _ _ i _ => W.length - (intOf i).toNat)
      case atStart => exact ⟨0, 0, none, a, Nat.zero_le _, rfl, rfl, rfl, (by show _ = _; simp [sumI]), ⟨rfl, Or.inl ⟨rfl, rfl⟩⟩, Below.refl _ _⟩
      case round =>
        obtain ⟨j, mm, A, l, hj, rfl, rfl, rfl, HLf, HO, HB⟩ := hrel
        by_cases hlt : j < W.length
        · have hlI : (j : Int) < (W.length : Int) := by omega
          have hne : W ≠ [] := by intro e; rw [e] at hlt; simp at hlt
          obtain ⟨b, off, rfl, hbl, hcs⟩ := HX.out hne
          obtain ⟨x, hxe⟩ : ∃ x, W[j] = x := ⟨_, rfl⟩
          have q0 := hcs j hlt 0 _ rfl
          rw [hxe, Nat.mul_one, Nat.add_zero] at q0
          have q := (HB.out.cell (p := ⟨b, off + j, none⟩) hbl).trans q0
          have hxr := (isRate_iff x).1 (List.all_eq_true.1 HR.out x (hxe ▸ List.getElem_mem hlt))
          have hba := base_at (a := a) HOk.out hlt
          have hbr := base_room HMa.out HOk.out hlt
          rw [hxe, HSW.out] at hba hbr
          have ha := (may_iff a).1 HMa.out
          have t1 := tmod_bound (a := a) sp
          have t0 : -1000000000000000 ≤ a.tdiv S ∧ a.tdiv S ≤ 1000000000000000 := by
            have h1 := Int.natAbs_tdiv_le_natAbs a S
            omega
          obtain ⟨u0, e0⟩ : ∃ u, a.tdiv S = u := ⟨_, rfl⟩
          obtain ⟨v0, e1⟩ : ∃ u, a.tmod S = u := ⟨_, rfl⟩
          rw [e0] at hba hbr t0
          rw [e1] at hba t1
          have t2 : -1000000000000000 ≤ v0 * x ∧ v0 * x ≤ 1000000000000000 := by
            have h1 : v0 * x ≤ 1000000000 * 1000000 := Int.mul_le_mul (by omega) hxr.2 hxr.1 (by omega)
            have h2 : -v0 * x ≤ 1000000000 * 1000000 := Int.mul_le_mul (by omega) hxr.2 hxr.1 (by omega)
            rw [Int.neg_mul] at h2
            omega
          obtain ⟨p0, e2⟩ : ∃ u, u0 * x = u := ⟨_, rfl⟩
          obtain ⟨p1, e3⟩ : ∃ u, v0 * x = u := ⟨_, rfl⟩
          rw [e2] at hba hbr
          rw [e3] at hba t2
          have t3 : -1000000000000000 ≤ p1.tdiv S ∧ p1.tdiv S ≤ 1000000000000000 := by
            have h1 := Int.natAbs_tdiv_le_natAbs p1 S
            omega
          obtain ⟨p2, e4⟩ : ∃ u, p1.tdiv S = u := ⟨_, rfl⟩
          rw [e4] at hba t3
          obtain ⟨y, e5⟩ : ∃ u, p0 + p2 = u := ⟨_, rfl⟩
          rw [e5] at hba
          have w1 : IntKind.i64.wrap u0 = u0 := wrapI (by omega) (by omega)
          have w2 : IntKind.i64.wrap v0 = v0 := wrapI (by omega) (by omega)
          have w3 : IntKind.i64.wrap p0 = p0 := wrapI (by omega) (by omega)
          have w4 : IntKind.i64.wrap p1 = p1 := wrapI (by omega) (by omega)
          have w5 : IntKind.i64.wrap p2 = p2 := wrapI (by omega) (by omega)
          have w6 : IntKind.i64.wrap y = y := wrapI (by omega) (by omega)
          obtain ⟨hbl2, hbe⟩ := List.getElem?_eq_some_iff.1 hba
          have HT : Hid ((basesI a W).take (j + 1) = (basesI a W).take j ++ [y]) := by show _ = _; rw [take_snoc _ j hbl2, hbe]
          have HL2 : Hid (a - sumI ((basesI a W).take (j + 1)) = l - y) := by
            show _ = _
            rw [HT.out, sumI_snoc, ← HLf.out]
            omega
          have t4 := left_bound2 HOk.out HMa.out (j + 1)
          rw [HL2.out] at t4
          have w7 : IntKind.i64.wrap (l - y) = l - y := wrapI (by omega) (by omega)
          have hB1 : w.heap.size ≤ wr.heap.size := HB.out.size
          clear hcs hxe hne hxr q0 hba hbr ha t0 t1 t2 t3 t4 hbl2 hbe
          go_wp2_with fail
          go_region
          go_wp2_with (at_builtin; go_must (refine wpList_int rfl _ _ rfl w.heap.size ((basesI a W).take j) y A j mm rfl ?q1 (by omega) ?q2 _ rfl ?q3 ?_))
          case q1 => exact (show wr.drew.ownsRow w.heap.size 3 1 (.slice A j mm) j (flat en1 ((basesI a W).take j)) from HO.out).alloc _
          case q2 => simp; omega
          case q3 => simp
          intro A' m' w3 ho hb3
          have HO3 : Hid (w3.ownsRow w.heap.size 3 1 (.slice A' (j + 1) m') (j + 1) (flat en1 ((basesI a W).take (j + 1)))) := by
            have := ho
            rw [← HT.out] at this
            exact this
          have HB3 : Hid (Below w.heap.size w w3) := ((HB.out.trans ((below_drewN wr 1).mono HB.out.size)).alloc (by simpa using HB.out.size) _).trans hb3
          clear ho hb3
          go_wp2_with fail
          go_roundw
          case rel => exact ⟨j + 1, m', A', l - y, by omega, by go_num, rfl, rfl, HL2, HO3, HB3⟩
          case measure => simp [intOf]; omega
        · obtain rfl : j = W.length := by omega
          have hO := HO.out
          have hLf := HLf.out
          rw [List.take_of_length_le (by rw [basesI_length]; omega)] at hO hLf
          rw [HL.out] at hLf
          subst hLf
          obtain ⟨g, rfl, hg, hrow, hmm, hmm2⟩ := row_of hO (by omega) (basesI_length a W)
          have HG : Hid (w.heap.size ≤ g) := hg
          rw [← giveI_zero] at hrow
          have HR0 : Hid (RowG wr g (giveI a W 0)) := hrow
          have HB0 : Hid (Below w.heap.size w wr) := HB.out
          unfold maxLen at hmm2
          clear hO HO HLf HB hg hrow HL
          go_wp2_with fail
          go_loopw [8, 12] (fun lv _ wr => ∃ (d j : Nat), lv = .int .i64 (-(d : Int)) ∧ j + d = m ∧ (d = m ∨ d = 0) ∧ Hid (RowG wr g (giveI a W j)) ∧ Hid (Below w.heap.size w wr)) (fun lv _ _ => (intOf lv).natAbs)
          case atStart => exact ⟨m, 0, rfl, by omega, Or.inl rfl, HR0, HB0⟩
          case round =>
            clear HR0 HB0
            obtain ⟨d, j, rfl, hjd, hd, HRow, HB⟩ := hrel
            by_cases hd0 : d = 0
            · subst hd0
              obtain rfl : j = m := by omega
              go_wp2_with fail
              go_ret2
              obtain ⟨e1, e2⟩ := share_yes HMa.out HOk.out
              refine ⟨_, by rw [e1]; rfl, Or.inr ⟨g, mm, ?_, HG.out, ?_, ?_, by unfold maxLen; omega⟩, HB.out⟩
              · rw [e2, sharesI_length]; rfl
              · rw [e2, ← HEnd.out]; exact HRow.out
              · rw [e2, sharesI_length]; exact hmm
            · obtain rfl : d = m := by omega
              obtain rfl : j = 0 := by omega
              have hdI : ¬ (-(d : Int)) = 0 := by omega
              have hdb : (-(d : Int) != 0) = true := by simp; omega
              have HDp : Hid (0 < d) := Nat.pos_of_ne_zero hd0
              clear hd hjd
              go_wp2_with fail
              go_loopw [8, 12] (fun lv i wr => ∃ (k e j : Nat), k ≤ W.length ∧ i = .int .i64 k ∧ lv = .int .i64 (-(e : Int)) ∧ j + e = d ∧ Hid (j = min d (cnt ((nat W).take k))) ∧ Hid (RowG wr g (giveI a W j)) ∧ Hid (Below w.heap.size w wr)) (fun _ i _ => W.length - (intOf i).toNat)
              case atStart => exact ⟨0, d, 0, Nat.zero_le _, rfl, rfl, by omega, (by show _ = _; simp [cnt]), HRow, HB⟩
              case round =>
                clear HRow HB hdI hdb
                obtain ⟨k, e, j, hk, rfl, rfl, hje, HMin, HRow, HB⟩ := hrel
                by_cases he : e = 0
                · subst he
                  obtain rfl : j = d := by omega
                  by_cases hlt : k < W.length
                  · have hlI : (k : Int) < (W.length : Int) := by omega
                    go_wp2_with fail
                    go_roundw
                    case rel => exact ⟨0, j, rfl, by omega, Or.inr rfl, HRow, HB⟩
                    case measure => have := HDp.out; simp [intOf]; omega
                  · have hlI : ¬ (k : Int) < (W.length : Int) := by omega
                    have hdk : decide ((k : Int) < (W.length : Int)) = false := decide_eq_false hlI
                    go_wp2_with fail
                    go_roundw
                    case rel => exact ⟨0, j, rfl, by omega, Or.inr rfl, HRow, HB⟩
                    case measure => have := HDp.out; simp [intOf]; omega
                · have hlt : k < W.length := by
                    have h1 := HMin.out
                    have h2 := HLt.out
                    have h3 := cnt_take_lt (ws := nat W) (n := k) (by omega)
                    rw [nat_length] at h3
                    exact h3
                  have hlI : (k : Int) < (W.length : Int) := by omega
                  have heI : ¬ (-(e : Int)) = 0 := by omega
                  have heb : (-(e : Int) != 0) = true := by simp; omega
                  have hne : W ≠ [] := by intro e; rw [e] at hlt; simp at hlt
                  obtain ⟨b, off, rfl, hbl, hcs⟩ := HX.out hne
                  obtain ⟨x, hxe⟩ : ∃ x, W[k] = x := ⟨_, rfl⟩
                  have q0 := hcs k hlt 0 _ rfl
                  rw [hxe, Nat.mul_one, Nat.add_zero] at q0
                  have q := (HB.out.cell (p := ⟨b, off + k, none⟩) hbl).trans q0
                  have hxr := (isRate_iff x).1 (List.all_eq_true.1 HR.out x (hxe ▸ List.getElem_mem hlt))
                  have h' : k < (nat W).length := by rw [nat_length]; exact hlt
                  have hcn : cnt ((nat W).take k) = j := by have := HMin.out; omega
                  have HC1 : Hid (cnt ((nat W).take (k + 1)) = j + (if x = 0 then 0 else 1)) := by
                    show _ = _
                    have e1 : ((nat W)[k] = 0) = (x = 0) := by rw [nat_at hlt h', hxe]; exact propext (by omega)
                    rw [cnt_take_succ h', hcn]
                    simp only [e1]
                  by_cases hx0 : x = 0
                  · subst hx0
                    have HC2 : Hid (j = min d (cnt ((nat W).take (k + 1)))) := by
                      have h1 := HC1.out
                      rw [if_pos rfl] at h1
                      show _ = _
                      omega
                    clear hcs hxe hne hxr q0 h' HC1 hcn HMin
                    go_wp2_with fail
                    go_roundw
                    case rel => exact ⟨k + 1, e, j, by omega, by go_num, rfl, by omega, HC2, HRow, HB⟩
                    case measure => simp [intOf]; omega
                  · have hxp : 0 < x := by omega
                    have HC2 : Hid (j + 1 = min d (cnt ((nat W).take (k + 1)))) := by
                      have h1 := HC1.out
                      rw [if_neg hx0] at h1
                      show _ = _
                      omega
                    have hgl : k < (giveI a W j).length := by rw [giveI_length]; exact hlt
                    obtain ⟨y, hy⟩ : ∃ y, (giveI a W j)[k]? = some y := ⟨_, List.getElem?_eq_getElem hgl⟩
                    have hyb := giveI_bound HOk.out HMa.out hy
                    have p1 := HRow.out.cell hy
                    have p2 := HRow.out.frozen k
                    have HNx : Hid (giveI a W (j + 1) = (giveI a W j).set k (y - 1)) := by
                      have := giveI_next (a := a) hlt (by rw [hxe]; exact hxp) (y := y) (by rw [hcn]; exact hy)
                      rw [hcn, HCent.out HDp.out] at this
                      exact this
                    have HRn : Hid (RowG (wr.setCell ⟨g, k, none⟩ (.int .i64 (y - 1))) g (giveI a W (j + 1))) := by
                      show RowG _ _ _
                      rw [HNx.out]
                      exact HRow.out.set hgl _
                    have HBn : Hid (Below w.heap.size w (wr.setCell ⟨g, k, none⟩ (.int .i64 (y - 1)))) := HB.out.setCell (p := ⟨g, k, none⟩) HG.out _
                    obtain ⟨e', rfl⟩ : ∃ e', e = e' + 1 := ⟨e - 1, by omega⟩
                    have wy : IntKind.i64.wrap (y - 1) = y - 1 := wrapI (by omega) (by omega)
                    have se : ¬ 0 < -((e' + 1 : Nat) : Int) := by omega
                    have sd : decide (0 < -((e' + 1 : Nat) : Int)) = false := decide_eq_false se
                    have sw : IntKind.i64.wrap (-((e' + 1 : Nat) : Int) + 1) = -((e' + 1 : Nat) : Int) + 1 := wrapI (by omega) (by omega)
                    clear hcs hxe hne hxr q0 h' HC1 hcn HMin hyb hy hgl HNx
                    go_wp2_with fail
                    go_roundw
                    case rel => exact ⟨k + 1, e', j + 1, by omega, by go_num, (by first | (congr 1; done) | (congr 1; omega)), by omega, HC2, HRn, HBn⟩
                    case measure => simp [intOf]; omega
end Go.Proofs.YtfaelefeiinbaaaDoor
