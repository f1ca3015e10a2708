/- Layer 22: the document's Parse. -/
import Derived.Test.YtfaelefeiinbaaaDoorMRefT
import Derived.Test.YtfaelefeiinbaaaDoorMParse
namespace Go.Proofs.YtfaelefeiinbaaaDoor
open Go.RowKit MP

theorem val_take {l : List UInt8} {j : Nat} (h : j < l.length) : val 0 (l.take (j + 1)) = MP.step (val 0 (l.take j)) l[j] := by
  rw [List.take_succ_eq_append_getElem h, val_append]
  rfl
theorem told_neg {s : List UInt8} (h : 0 < s.length) (h0 : s[0] = 45) : told s = -(val 0 s : Int) := by
  unfold told
  rw [List.head?_eq_getElem?, List.getElem?_eq_getElem h, h0, if_pos rfl]
theorem told_pos {s : List UInt8} (h : 0 < s.length) (h0 : ¬ s[0] = 45) : told s = (val 0 s : Int) := by
  unfold told
  rw [List.head?_eq_getElem?, List.getElem?_eq_getElem h, if_neg (by simpa using h0)]
theorem told_none {s : List UInt8} (h : s.length = 0) : told s = (val 0 s : Int) := by
  obtain rfl := List.length_eq_zero_iff.1 h
  rfl

set_option maxRecDepth 100000 in
set_option maxHeartbeats 1000000 in
theorem rParse_any (s : ByteArray) (hz : s.size ≤ 140737488351232) (w : World) : Calls Tryd.prog 12 #[.string s] w fun e w' => e = .returned (.tuple #[.int .i64 (readN (bl s)), .int .i64 (readE (bl s))]) ∧ Below w.heap.size w w' := by
  have hsz : (bl s).length = s.size := bl_size s
  have HSZ : Hid ((bl s).length = s.size) := hsz
  obtain ⟨v, hv⟩ : ∃ v, told (bl s) = v := ⟨_, rfl⟩
  have HTold : Hid (told (bl s) = v) := hv
  have HT : Hid (∀ u, Below w.heap.size w u → Calls Tryd.prog 10 #[.int .i64 v] u fun e w' => e = .returned (.tuple #[.string (txV v), .int .i64 (txE v)]) ∧ Below w.heap.size w w') := fun u hu =>
    (rText_any v u).mono fun e w' hh => ⟨hh.1, hu.trans (hh.2.mono hu.size)⟩
  -- the three ways out
  have HOut : Hid ((∃ T E, txV v = T ∧ txE v = E ∧ (E != 0) = true ∧ readN (bl s) = 0 ∧ readE (bl s) = 3) ∨ (∃ T, txV v = T ∧ txE v = 0 ∧ (T.toList == s.toList) = false ∧ readN (bl s) = 0 ∧ readE (bl s) = 3) ∨ (txV v = s ∧ txE v = 0 ∧ readN (bl s) = v ∧ readE (bl s) = 0)) := by
    have hr : reads (bl s) = (may v && decide (text v = bl s)) := by unfold reads; rw [hv]
    cases hm : may v with
    | false =>
      rw [hm] at hr
      obtain ⟨e1, e2⟩ := read_no hr
      exact Or.inl ⟨_, 220, rfl, (by unfold txE; rw [hm]; rfl), rfl, e1, e2⟩
    | true =>
      rw [hm] at hr
      have hE : txE v = 0 := by unfold txE; rw [hm]; rfl
      have hV : txV v = ofL (text v) := by unfold txV; rw [hm]; rfl
      by_cases hs : text v = bl s
      · have hr2 : reads (bl s) = true := by rw [hr]; simp [hs]
        obtain ⟨e1, e2⟩ := read_yes hr2
        exact Or.inr (Or.inr ⟨by rw [hV, hs, ofL_bl], hE, e1.trans hv, e2⟩)
      · have hr2 : reads (bl s) = false := by rw [hr]; simp [hs]
        obtain ⟨e1, e2⟩ := read_no hr2
        refine Or.inr (Or.inl ⟨_, rfl, hE, beq_eq_false_iff_ne.2 ?_, e1, e2⟩)
        rw [hV, Go.ByteArray.toList_eq, Go.ByteArray.toList_eq]
        exact hs
  have hidx : ∀ (j : Nat) (h : j < (bl s).length) (W : World), (Instr.index 9 (.string s) (.int .i64 (j : Int))).run Tryd.prog W = .ok (.int .u8 ((bl s)[j].toNat : Int)) W := fun j h W => by
    rw [run_index_string W _ s _ _ Tryd.underlying9, dif_pos ⟨by omega, by omega⟩]
    rfl
  have HI : Hid (∀ (j : Nat) (h : j < (bl s).length) (W : World), (Instr.index 9 (.string s) (.int .i64 (j : Int))).run Tryd.prog W = .ok (.int .u8 ((bl s)[j].toNat : Int)) W) := hidx
  clear hv hsz hidx
  go_enter Tryd.func12, Tryd.ntmps12
  go_wp2_with fail
  go_loop [4, 5] (fun nv iv => ∃ j n : Nat, j ≤ s.size ∧ iv = .int .i64 j ∧ nv = .int .i64 n ∧ n ≤ 1000000000000001 ∧ Hid (val 0 ((bl s).take j) = n)) (fun _ iv => s.size - (intOf iv).toNat)
  case atStart => exact ⟨0, 0, Nat.zero_le _, rfl, rfl, by omega, (rfl : _ = _)⟩
  case round =>
    obtain ⟨j, n, hj, rfl, rfl, hn, HN⟩ := hrel
    by_cases hlt : j < s.size
    · have hlI : (j : Int) < (s.size : Int) := by omega
      have hlB : j < (bl s).length := by rw [HSZ.out]; exact hlt
      obtain ⟨b, hb⟩ : ∃ b : UInt8, (bl s)[j] = b := ⟨_, rfl⟩
      have hx : ∀ W, (Instr.index 9 (.string s) (.int .i64 (j : Int))).run Tryd.prog W = .ok (.int .u8 (b.toNat : Int)) W := fun W => by rw [HI.out j hlB W, hb]
      have HN1 : Hid (val 0 ((bl s).take (j + 1)) = MP.step n b) := by show _ = _; rw [val_take hlB, HN.out, hb]
      have hbb : b.toNat < 256 := b.toNat_lt
      obtain ⟨c, hc⟩ : ∃ c : Nat, b.toNat = c := ⟨_, rfl⟩
      rw [hc] at hx hbb
      have wj : IntKind.i64.wrap ((j : Int) + 1) = (j : Int) + 1 := wrapI (by omega) (by omega)
      by_cases h1 : 48 ≤ c
      · by_cases h2 : c ≤ 57
        · have HS : Hid (MP.step n b = min (n * 10 + (c - 48)) 1000000000000001) := by
            show _ = _
            unfold MP.step dig
            rw [hc, if_pos (by simp; omega)]
          have h1I : 48 ≤ (c : Int) := by omega
          have h2I : (c : Int) ≤ 57 := by omega
          have d1 : decide (48 ≤ (c : Int)) = true := decide_eq_true h1I
          have d2 : decide ((c : Int) ≤ 57) = true := decide_eq_true h2I
          have w1 : IntKind.i64.wrap ((n : Int) * 10) = (n : Int) * 10 := wrapI (by omega) (by omega)
          have w2 : IntKind.u8.wrap ((c : Int) - 48) = (c : Int) - 48 := by simp [IntKind.wrap, IntKind.bits, IntKind.signed]; omega
          have w3 : IntKind.i64.wrap ((c : Int) - 48) = (c : Int) - 48 := wrapI (by omega) (by omega)
          have w4 : IntKind.i64.wrap ((n : Int) * 10 + ((c : Int) - 48)) = (n : Int) * 10 + ((c : Int) - 48) := wrapI (by omega) (by omega)
          clear hb hc hbb
          go_wp2_with fail
          go_round
          case rel =>
            refine ⟨j + 1, min (n * 10 + (c - 48)) 1000000000000001, by omega, by go_num, ?_, by omega, HN1.out.trans HS.out⟩
            congr 1; omega
          case measure => simp [intOf]; omega
        · have HS : Hid (MP.step n b = n) := by
            show _ = _
            unfold MP.step dig
            rw [hc, if_neg (by simp; omega)]
          have h1I : 48 ≤ (c : Int) := by omega
          have h2I : ¬ (c : Int) ≤ 57 := by omega
          have d1 : decide (48 ≤ (c : Int)) = true := decide_eq_true h1I
          have d2 : decide ((c : Int) ≤ 57) = false := decide_eq_false h2I
          clear hb hc hbb
          go_wp2_with fail
          go_round
          case rel => exact ⟨j + 1, n, by omega, by go_num, rfl, hn, HN1.out.trans HS.out⟩
          case measure => simp [intOf]; omega
      · have HS : Hid (MP.step n b = n) := by
          show _ = _
          unfold MP.step dig
          rw [hc, if_neg (by simp; omega)]
        have h1I : ¬ 48 ≤ (c : Int) := by omega
        have d1 : decide (48 ≤ (c : Int)) = false := decide_eq_false h1I
        clear hb hc hbb
        go_wp2_with fail
        go_round
        case rel => exact ⟨j + 1, n, by omega, by go_num, rfl, hn, HN1.out.trans HS.out⟩
        case measure => simp [intOf]; omega
    · have hgI : ¬ (j : Int) < (s.size : Int) := by omega
      have hval : val 0 (bl s) = n := by
        have := HN.out
        rw [List.take_of_length_le (by rw [HSZ.out]; omega)] at this
        exact this
      have wn : IntKind.i64.wrap (-(n : Int)) = -(n : Int) := wrapI (by omega) (by omega)
      by_cases h0 : 0 < s.size
      · have h0I : 0 < (s.size : Int) := by omega
        have h0d : decide (0 < (s.size : Int)) = true := decide_eq_true h0I
        have hlB : 0 < (bl s).length := by rw [HSZ.out]; exact h0
        obtain ⟨b, hb⟩ : ∃ b : UInt8, (bl s)[0] = b := ⟨_, rfl⟩
        have hx : ∀ W, (Instr.index 9 (.string s) (.int .i64 0)).run Tryd.prog W = .ok (.int .u8 (b.toNat : Int)) W := fun W => by rw [← hb]; exact HI.out 0 hlB W
        by_cases h45 : b = 45
        · subst h45
          have HV : Hid (-(n : Int) = v) := by show _ = _; rw [← HTold.out, told_neg hlB hb, hval]
          have hx' : ∀ W, (Instr.index 9 (.string s) (.int .i64 0)).run Tryd.prog W = .ok (.int .u8 45) W := hx
          rcases HOut.out with ⟨T, E, e1, e2, e3, e4, e5⟩ | ⟨T, e1, e2, e3, e4, e5⟩ | ⟨e1, e2, e4, e5⟩
          · have HE : Hid (readN (bl s) = 0 ∧ readE (bl s) = 3) := ⟨e4, e5⟩
            rw [e1, e2, ← HV.out] at HT
            clear hx hb hval HOut HN HV e1 e2 e4 e5
            go_wp2_with fail
            refine (HT.out _ (Below.refl _ _)).mono ?_
            rintro y w3 ⟨rfl, hb3⟩
            go_wp2_with fail
            go_ret2
            exact ⟨by rw [HE.out.1, HE.out.2]; rfl, hb3⟩
          · have HE : Hid (readN (bl s) = 0 ∧ readE (bl s) = 3) := ⟨e4, e5⟩
            rw [e1, e2, ← HV.out] at HT
            clear hx hb hval HOut HN HV e1 e2 e4 e5
            go_wp2_with fail
            refine (HT.out _ (Below.refl _ _)).mono ?_
            rintro y w3 ⟨rfl, hb3⟩
            go_wp2_with fail
            go_ret2
            exact ⟨by rw [HE.out.1, HE.out.2]; rfl, hb3⟩
          · have HE : Hid (readN (bl s) = -(n : Int) ∧ readE (bl s) = 0) := ⟨e4.trans HV.out.symm, e5⟩
            rw [e1, e2, ← HV.out] at HT
            clear hx hb hval HOut HN HV e1 e2 e4 e5
            go_wp2_with fail
            refine (HT.out _ (Below.refl _ _)).mono ?_
            rintro y w3 ⟨rfl, hb3⟩
            go_wp2_with fail
            go_ret2
            exact ⟨by rw [HE.out.1, HE.out.2]; rfl, hb3⟩
        · have HV : Hid ((n : Int) = v) := by show _ = _; rw [← HTold.out, told_pos hlB (by rw [hb]; exact h45), hval]
          have hcb : ((b.toNat : Int) == 45) = false := by
            rw [beq_eq_false_iff_ne]
            intro h
            exact h45 (UInt8.toNat.inj (by show b.toNat = 45; omega))
          have hcn : ¬ (b.toNat : Int) = 45 := by simpa using hcb
          obtain ⟨c, hc⟩ : ∃ c : Nat, b.toNat = c := ⟨_, rfl⟩
          rw [hc] at hx hcb hcn
          rcases HOut.out with ⟨T, E, e1, e2, e3, e4, e5⟩ | ⟨T, e1, e2, e3, e4, e5⟩ | ⟨e1, e2, e4, e5⟩
          · have HE : Hid (readN (bl s) = 0 ∧ readE (bl s) = 3) := ⟨e4, e5⟩
            rw [e1, e2, ← HV.out] at HT
            clear hb hval HOut HN HV e1 e2 e4 e5 hc h45
            go_wp2_with fail
            refine (HT.out _ (Below.refl _ _)).mono ?_
            rintro y w3 ⟨rfl, hb3⟩
            go_wp2_with fail
            go_ret2
            exact ⟨by rw [HE.out.1, HE.out.2]; rfl, hb3⟩
          · have HE : Hid (readN (bl s) = 0 ∧ readE (bl s) = 3) := ⟨e4, e5⟩
            rw [e1, e2, ← HV.out] at HT
            clear hb hval HOut HN HV e1 e2 e4 e5 hc h45
            go_wp2_with fail
            refine (HT.out _ (Below.refl _ _)).mono ?_
            rintro y w3 ⟨rfl, hb3⟩
            go_wp2_with fail
            go_ret2
            exact ⟨by rw [HE.out.1, HE.out.2]; rfl, hb3⟩
          · have HE : Hid (readN (bl s) = (n : Int) ∧ readE (bl s) = 0) := ⟨e4.trans HV.out.symm, e5⟩
            rw [e1, e2, ← HV.out] at HT
            clear hb hval HOut HN HV e1 e2 e4 e5 hc h45
            go_wp2_with fail
            refine (HT.out _ (Below.refl _ _)).mono ?_
            rintro y w3 ⟨rfl, hb3⟩
            go_wp2_with fail
            go_ret2
            exact ⟨by rw [HE.out.1, HE.out.2]; rfl, hb3⟩
      · have h0I : ¬ 0 < (s.size : Int) := by omega
        have h0d : decide (0 < (s.size : Int)) = false := decide_eq_false h0I
        have HV : Hid ((n : Int) = v) := by show _ = _; rw [← HTold.out, told_none (by rw [HSZ.out]; omega), hval]
        rcases HOut.out with ⟨T, E, e1, e2, e3, e4, e5⟩ | ⟨T, e1, e2, e3, e4, e5⟩ | ⟨e1, e2, e4, e5⟩
        · have HE : Hid (readN (bl s) = 0 ∧ readE (bl s) = 3) := ⟨e4, e5⟩
          rw [e1, e2, ← HV.out] at HT
          clear hval HOut HN HV e1 e2 e4 e5
          go_wp2_with fail
          refine (HT.out _ (Below.refl _ _)).mono ?_
          rintro y w3 ⟨rfl, hb3⟩
          go_wp2_with fail
          go_ret2
          exact ⟨by rw [HE.out.1, HE.out.2]; rfl, hb3⟩
        · have HE : Hid (readN (bl s) = 0 ∧ readE (bl s) = 3) := ⟨e4, e5⟩
          rw [e1, e2, ← HV.out] at HT
          clear hval HOut HN HV e1 e2 e4 e5
          go_wp2_with fail
          refine (HT.out _ (Below.refl _ _)).mono ?_
          rintro y w3 ⟨rfl, hb3⟩
          go_wp2_with fail
          go_ret2
          exact ⟨by rw [HE.out.1, HE.out.2]; rfl, hb3⟩
        · have HE : Hid (readN (bl s) = (n : Int) ∧ readE (bl s) = 0) := ⟨e4.trans HV.out.symm, e5⟩
          rw [e1, e2, ← HV.out] at HT
          clear hval HOut HN HV e1 e2 e4 e5
          go_wp2_with fail
          refine (HT.out _ (Below.refl _ _)).mono ?_
          rintro y w3 ⟨rfl, hb3⟩
          go_wp2_with fail
          go_ret2
          exact ⟨by rw [HE.out.1, HE.out.2]; rfl, hb3⟩
end Go.Proofs.YtfaelefeiinbaaaDoor
