/- Layer 22: the document's digits and texts. -/
import Derived.Test.YtfaelefeiinbaaaDoorMTextC
import Derived.Test.YtfaelefeiinbaaaDoorMRefS
import Derived.BigRegion
namespace Go.Proofs.YtfaelefeiinbaaaDoor
open Go.RowKit MP

theorem convert1 (w : World) (b : UInt8) (x : Int) (hx : x = (b.toNat : Int)) :
    (convert 55 9 (.slice (some ⟨w.heap.size, 0, none⟩) 1 1)).run Tryd.prog (w.alloc (.cells #[.int .u8 x] 5)) = .ok (.string (ofL [b])) (w.alloc (.cells #[.int .u8 x] 5)) := by
  refine run_convert_bytes_back (w.alloc (.cells #[.int .u8 x] 5)) 55 9 5 ⟨w.heap.size, 0, none⟩ 1 [b] Tryd.underlying55 Tryd.underlying5 Tryd.underlying9 fun j hj => ?_
  have hj : j < 1 := hj
  obtain rfl : j = 0 := by omega
  rw [Addr.add_lit, Nat.zero_add, cell_of (heap_new w _), hx]
  rfl

/-- how far the digits of N are written: n is left, l stands -/
def Dg (N n : Nat) (l : List UInt8) : Prop := (0 < n ∧ Lib.decDigits n ++ l = Lib.decDigits N) ∨ (n = 0 ∧ l = [] ∧ N = 0) ∨ (n = 0 ∧ l ≠ [] ∧ l = Lib.decDigits N)
theorem Dg.start (N : Nat) : Dg N N [] := by
  rcases Nat.eq_zero_or_pos N with h | h
  · exact Or.inr (Or.inl ⟨h, rfl, h⟩)
  · exact Or.inl ⟨h, by simp⟩
theorem Dg.next {N n : Nat} {l : List UInt8} (h : Dg N n l) (hc : 0 < n ∨ l = []) : Dg N (n / 10) (UInt8.ofNat (48 + n % 10) :: l) := by
  rcases h with ⟨h1, h2⟩ | ⟨rfl, rfl, rfl⟩ | ⟨rfl, h2, h3⟩
  · by_cases h : n < 10
    · refine Or.inr (Or.inr ⟨by omega, by simp, ?_⟩)
      rw [← h2, dec_one h, Nat.mod_eq_of_lt h]
      rfl
    · refine Or.inl ⟨by omega, ?_⟩
      rw [← h2]
      conv => rhs; rw [Lib.decDigits, dif_neg h]
      simp
  · refine Or.inr (Or.inr ⟨rfl, by simp, ?_⟩)
    rw [dec_one (by decide)]
  · rcases hc with h | h
    · omega
    · exact absurd h h2
theorem Dg.len {N n : Nat} {l : List UInt8} (h : Dg N n l) (hN : N ≤ 1000000000000000) : l.length ≤ 16 := by
  have := decDigits_lt (u := N) (k := 15) (by omega)
  rcases h with ⟨_, h2⟩ | ⟨_, rfl, _⟩ | ⟨_, _, h3⟩
  · have e := congrArg List.length h2
    rw [List.length_append] at e
    omega
  · simp
  · rw [h3]; omega
theorem Dg.end {N : Nat} {l : List UInt8} (h : Dg N 0 l) (hl : l ≠ []) : l = Lib.decDigits N := by
  rcases h with ⟨h1, _⟩ | ⟨_, h2, _⟩ | ⟨_, _, h3⟩
  · omega
  · exact absurd h2 hl
  · exact h3
def szOf : Value → Nat
  | .string s => if s.size = 0 then 1 else 0
  | _ => 0

set_option maxRecDepth 100000 in
set_option maxHeartbeats 1000000 in
theorem digits_any (N : Nat) (w : World) (hN : N ≤ 1000000000000000) : Calls Tryd.prog 29 #[.int .i64 (N : Int)] w fun e w' => e = .returned (.string (ofL (Lib.decDigits N))) ∧ Below w.heap.size w w' := by
  have HN : Hid (N ≤ 1000000000000000) := hN
  have H0 : Hid (Dg N N []) := Dg.start N
  go_enter Tryd.func29, Tryd.ntmps29
  go_wp2_with fail
  go_loopw [0, 3] (fun nv sv wr => ∃ (n : Nat) (l : List UInt8), nv = .int .i64 n ∧ sv = .string (ofL l) ∧ n ≤ 1000000000000000 ∧ Hid (Dg N n l) ∧ Hid (Below w.heap.size w wr)) (fun nv sv _ => 2 * (intOf nv).toNat + szOf sv)
  case atStart => exact ⟨N, [], rfl, rfl, hN, H0, Below.refl _ _⟩
  case round =>
    clear H0 hN
    obtain ⟨n, l, rfl, rfl, hn, HD, HB⟩ := hrel
    have hll := HD.out.len HN.out
    by_cases hc : 0 < n ∨ l = []
    · have HNx : Hid (Dg N (n / 10) (UInt8.ofNat (48 + n % 10) :: l)) := HD.out.next hc
      obtain ⟨m, em⟩ : ∃ m : Int, ((n % 10 : Nat) : Int) = m := ⟨_, rfl⟩
      obtain ⟨k, ek⟩ : ∃ k : Int, ((n / 10 : Nat) : Int) = k := ⟨_, rfl⟩
      have g1 : (n : Int).tmod 10 = m := by rw [← em]; exact (Int.ofNat_tmod _ 10).symm
      have g2 : (n : Int).tdiv 10 = k := by rw [← ek]; exact (Int.ofNat_tdiv _ 10).symm
      have g3 : (n : Int) % 10 = m := by omega
      have g4 : (n : Int) / 10 = k := by omega
      have w1 : IntKind.i64.wrap m = m := wrapI (by omega) (by omega)
      have w2 : IntKind.i64.wrap k = k := wrapI (by omega) (by omega)
      have w3 : IntKind.i64.wrap (48 + m) = 48 + m := wrapI (by omega) (by omega)
      have w4 : IntKind.u8.wrap (48 + m) = 48 + m := by
        simp [IntKind.wrap, IntKind.bits, IntKind.signed]
        omega
      have kc := convert1 wr (UInt8.ofNat (48 + n % 10)) (48 + m) (by rw [digit_toNat (by omega)]; omega)
      obtain ⟨s, es⟩ : ∃ s, ofL l = s := ⟨_, rfl⟩
      have hs : s.size ≤ 16 := by rw [← es]; show l.toArray.size ≤ 16; simpa using hll
      obtain ⟨t, et⟩ : ∃ t, ofL [UInt8.ofNat (48 + n % 10)] = t := ⟨_, rfl⟩
      have ht : t.size = 1 := by rw [← et]; rfl
      have HJ : Hid (t ++ s = ofL (UInt8.ofNat (48 + n % 10) :: l)) := by show _ = _; rw [← es, ← et, ofL_append]; rfl
      have HK : Hid (((n / 10 : Nat) : Int) = k) := ek
      rw [et] at kc
      rw [es]
      have HM : Hid (2 * (n / 10) + szOf (.string (ofL (UInt8.ofNat (48 + n % 10) :: l))) < 2 * n + szOf (.string s)) := by
        show _ < _
        rw [← es]
        have e1 : szOf (.string (ofL (UInt8.ofNat (48 + n % 10) :: l))) = 0 := by simp [szOf, ByteArray.size]
        rw [e1]
        rcases hc with h | h
        · omega
        · rw [h]
          have e2 : szOf (.string (ofL [])) = 1 := by simp [szOf, ByteArray.size]
          rw [e2]
          omega
      by_cases hp : 0 < n
      · have hpI : 0 < (n : Int) := by omega
        clear hc em ek es et hll
        go_wp2_with fail
        refine ⟨⟨n / 10, _, by rw [HK.out], by rw [HJ.out], by omega, HNx, HB.out.alloc HB.out.size _⟩, ?_⟩
        have hM := HM.out
        rw [HJ.out]
        show 2 * (intOf (.int .i64 k)).toNat + _ < 2 * (intOf (.int .i64 (n : Int))).toNat + _
        rw [← HK.out]
        exact hM
      · have hpI : ¬ 0 < (n : Int) := by omega
        obtain rfl : l = [] := hc.resolve_left hp
        obtain rfl : n = 0 := by omega
        have kc0 := convert1 wr 48 48 rfl
        have HNx0 : Hid (Dg N 0 [48]) := HNx.out
        have hemp : (ofL []).toList.isEmpty = true := by rw [Go.ByteArray.toList_eq]; rfl
        subst es
        clear hc em ek et hll kc HM HJ HK HNx HD
        go_wp2_with fail
        refine ⟨⟨0, [48], rfl, ?_, by omega, HNx0, HB.out.alloc HB.out.size _⟩, ?_⟩
        · exact congrArg Value.string (show ofL [48] ++ ofL [] = ofL [48] by rw [ofL_append]; rfl)
        · simp [intOf, szOf, ByteArray.size]
    · have hp : ¬ 0 < n := fun h => hc (Or.inl h)
      have hle : l ≠ [] := fun h => hc (Or.inr h)
      obtain rfl : n = 0 := by omega
      have HE : Hid (l = Lib.decDigits N) := HD.out.end hle
      obtain ⟨s, es⟩ : ∃ s, ofL l = s := ⟨_, rfl⟩
      have HS : Hid (ofL l = s) := es
      rw [es]
      have hemp : s.toList.isEmpty = false := by
        rw [← es, Go.ByteArray.toList_eq]
        simpa using hle
      clear es hc
      go_wp2_with fail
      go_ret
      exact ⟨by rw [← HE.out, HS.out]; rfl, HB.out⟩

theorem cents {c : Nat} (h : c < 100) : Lib.decDigits (c + 100) = 49 :: two c := by
  rw [Lib.decDigits, dif_neg (by omega), Lib.decDigits, dif_neg (by omega), Lib.decDigits, dif_pos (by omega)]
  have e1 : (c + 100) / 10 / 10 = 1 := by omega
  have e2 : (c + 100) / 10 % 10 = c / 10 := by omega
  have e3 : (c + 100) % 10 = c % 10 := by omega
  rw [e1, e2, e3]
  rfl

set_option maxRecDepth 100000 in
set_option maxHeartbeats 1000000 in
theorem rText_any (a : Int) (w : World) : Calls Tryd.prog 10 #[.int .i64 a] w fun e w' => e = .returned (.tuple #[.string (txV a), .int .i64 (txE a)]) ∧ Below w.heap.size w w' := by
  have HC : Hid (∀ u, Calls Tryd.prog 28 #[.int .i64 a] u fun e w' => e = .returned (.bool (may a)) ∧ w' = u) := fun u => rMay_any a u
  by_cases hm : may a = true
  · rw [hm] at HC
    have ha := (may_iff a).1 hm
    obtain ⟨A, hA⟩ : ∃ A : Nat, a.natAbs = A := ⟨_, rfl⟩
    have hA1 : A ≤ 1000000000000000 := by omega
    have H1 : Hid (Calls Tryd.prog 29 #[.int .i64 ((A % 100 + 100 : Nat) : Int)] w fun e w' => e = .returned (.string (ofL (49 :: two (A % 100)))) ∧ Below w.heap.size w w') := by
      have := digits_any (A % 100 + 100) w (by omega)
      rw [cents (by omega)] at this
      exact this
    have H2 : Hid (∀ u, Calls Tryd.prog 29 #[.int .i64 ((A / 100 : Nat) : Int)] u fun e w' => e = .returned (.string (ofL (Lib.decDigits (A / 100)))) ∧ Below u.heap.size u w') := fun u => digits_any (A / 100) u (by omega)
    have z1 := digits_size (n := A / 100) (by omega)
    have z2 : (ofL (49 :: two (A % 100))).size = 3 := rfl
    have hsl : ∀ W, (Instr.slice 9 (.string (ofL (49 :: two (A % 100)))) (some (.int .i64 1)) none none).run Tryd.prog W = .ok (.string (ofL (two (A % 100)))) W := fun W => by
      have := run_slice_string_l (P := Tryd.prog) W 9 (ofL (49 :: two (A % 100))) Tryd.underlying9 .i64 1 (by omega) (by rw [z2]; decide)
      rw [this]
      rfl
    have HT : Hid (ofL (Lib.decDigits (A / 100)) ++ ofL [46] ++ ofL (two (A % 100)) = ofL (textN A)) := by
      show _ = _
      rw [ofL_append, ofL_append]
      unfold textN
      simp
    have z3 : (ofL (two (A % 100))).size = 2 := rfl
    obtain ⟨s1, e1⟩ : ∃ s, ofL (Lib.decDigits (A / 100)) = s := ⟨_, rfl⟩
    obtain ⟨s2, e2⟩ : ∃ s, ofL (49 :: two (A % 100)) = s := ⟨_, rfl⟩
    obtain ⟨s3, e3⟩ : ∃ s, ofL (two (A % 100)) = s := ⟨_, rfl⟩
    rw [e1] at H2 z1 HT
    rw [e2] at H1 z2 hsl
    rw [e3] at hsl z3 HT
    have hV : txV a = ofL (text a) := by unfold txV; rw [hm]; rfl
    have hE : txE a = 0 := by unfold txE; rw [hm]; rfl
    rw [hV, hE]
    obtain ⟨n1, f1⟩ : ∃ n1 : Int, ((A / 100 : Nat) : Int) = n1 := ⟨_, rfl⟩
    obtain ⟨n2, f2⟩ : ∃ n2 : Int, ((A % 100 : Nat) : Int) = n2 := ⟨_, rfl⟩
    have g1 : (A : Int).tdiv 100 = n1 := by rw [← f1]; exact (Int.ofNat_tdiv _ 100).symm
    have g2 : (A : Int).tmod 100 = n2 := by rw [← f2]; exact (Int.ofNat_tmod _ 100).symm
    have g5 : (A : Int) / 100 = n1 := by omega
    have g6 : (A : Int) % 100 = n2 := by omega
    have f3 : ((A % 100 + 100 : Nat) : Int) = n2 + 100 := by omega
    have w1 : IntKind.i64.wrap n1 = n1 := wrapI (by omega) (by omega)
    have w2 : IntKind.i64.wrap n2 = n2 := wrapI (by omega) (by omega)
    have w3 : IntKind.i64.wrap (n2 + 100) = n2 + 100 := wrapI (by omega) (by omega)
    rw [f3] at H1
    rw [f1] at H2
    clear f1 f2 f3 e1 e2 e3 hV hE hm
    by_cases hs : a < 0
    · have hneg : -a = (A : Int) := by omega
      have wn : IntKind.i64.wrap (A : Int) = (A : Int) := wrapI (by omega) (by omega)
      have HE : Hid (text a = 45 :: textN A) := by show _ = _; unfold text; rw [if_pos hs, hA]
      clear hA ha
      go_enter Tryd.func10, Tryd.ntmps10
      go_wp2_with (go_at_call 28; go_must (refine (HC.out _).mono ?_; rintro y w2 ⟨rfl, hwz⟩; obtain rfl := hwz.symm))
      refine H1.out.mono ?_
      rintro y w2 ⟨rfl, hb⟩
      have HB2 : Hid (Below w.heap.size w w2) := hb
      clear hb
      go_wp2_with fail
      go_region_with (go_at_call 29; go_must (refine (H2.out _).mono ?_; rintro y w3 ⟨rfl, hb3⟩))
      all_goals go_wp2_with fail
      all_goals go_ret2
      all_goals refine ⟨?_, HB2.out.trans (((below_drewN w2 1).trans hb3).mono HB2.out.size)⟩
      all_goals rw [HE.out]
      all_goals have e : ofL [45] ++ s1 ++ ofL [46] ++ s3 = ofL (45 :: textN A) := (by
        have h := HT.out
        simp only [ByteArray.append_assoc] at h ⊢
        rw [h, ofL_append]
        rfl)
      all_goals rw [← e]
      all_goals rfl
    · have hpos : a = (A : Int) := by omega
      have HE : Hid (text a = textN A) := by show _ = _; unfold text; rw [if_neg hs, hA]
      clear hA ha
      subst hpos
      go_enter Tryd.func10, Tryd.ntmps10
      go_wp2_with (go_at_call 28; go_must (refine (HC.out _).mono ?_; rintro y w2 ⟨rfl, hwz⟩; obtain rfl := hwz.symm))
      refine H1.out.mono ?_
      rintro y w2 ⟨rfl, hb⟩
      have HB2 : Hid (Below w.heap.size w w2) := hb
      clear hb
      go_wp2_with fail
      go_region_with (go_at_call 29; go_must (refine (H2.out _).mono ?_; rintro y w3 ⟨rfl, hb3⟩))
      all_goals go_wp2_with fail
      all_goals go_ret2
      all_goals refine ⟨?_, HB2.out.trans (((below_drewN w2 1).trans hb3).mono HB2.out.size)⟩
      all_goals rw [HE.out]
      all_goals have e : ofL [] ++ s1 ++ ofL [46] ++ s3 = ofL (textN A) := (by
        have h := HT.out
        simp only [ByteArray.append_assoc] at h ⊢
        rw [h, ofL_append]
        rfl)
      all_goals rw [← e]
      all_goals rfl
  · have hm' : may a = false := by simpa using hm
    rw [hm'] at HC
    have hV : txV a = ofL [] := by unfold txV; rw [hm']; rfl
    have hE : txE a = 220 := by unfold txE; rw [hm']; rfl
    rw [hV, hE]
    clear hV hE hm hm'
    go_enter Tryd.func10, Tryd.ntmps10
    go_wp2_with (go_at_call 28; go_must (refine (HC.out _).mono ?_; rintro y w2 ⟨rfl, hwz⟩; obtain rfl := hwz.symm))
    go_ret2
    exact ⟨rfl, Below.refl _ _⟩
end Go.Proofs.YtfaelefeiinbaaaDoor
