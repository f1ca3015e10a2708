/- Layer 22: the program's Text. -/
import Derived.Test.YtfaelefeiinbaaaDoorMItoa
namespace Go.Proofs.YtfaelefeiinbaaaDoor
open Go.RowKit MP

abbrev ofL (l : List UInt8) : ByteArray := ⟨l.toArray⟩
def txV (a : Int) : ByteArray := if may a then ofL (text a) else ofL []
def txE (a : Int) : Int := if may a then 0 else 220
theorem ofL_append (a b : List UInt8) : ofL a ++ ofL b = ofL (a ++ b) := by
  apply ByteArray.ext
  simp
theorem dec_one {d : Nat} (h : d < 10) : Lib.decDigits d = [UInt8.ofNat (48 + d)] := by rw [Lib.decDigits, dif_pos h]
theorem text_parts (A : Nat) : Lib.decDigits (A / 100) ++ [46] ++ Lib.decDigits (A / 10 % 10) ++ Lib.decDigits (A % 10) = textN A := by
  rw [dec_one (show A / 10 % 10 < 10 by omega), dec_one (show A % 10 < 10 by omega)]
  unfold textN two
  rw [show A % 100 / 10 = A / 10 % 10 by omega, show A % 100 % 10 = A % 10 by omega]
  simp

/-- Itoa of a number that is small, or where its table lies -/
theorem itoa_in (n : Nat) (hn : n < 9223372036854775808) (w : World) (ht : n < 100 ∨ Tab w) : Calls Tryd.prog 27 #[.int .i64 (n : Int)] w fun e w' => e = .returned (.string (ofL (Lib.decDigits n))) ∧ Below w.heap.size w w' := by
  rcases ht with h | h
  · exact (itoa_small n h w).mono fun e w' hh => ⟨hh.1, by rw [hh.2]; exact Below.refl _ _⟩
  · exact itoa_any n hn w h

theorem digits_size {n : Nat} (h : n ≤ 1000000000000000) : (ofL (Lib.decDigits n)).size ≤ 20 := by
  have := decDigits_lt (u := n) (k := 15) (by omega)
  show (Lib.decDigits n).toArray.size ≤ 20
  rw [List.size_toArray]
  omega

set_option maxRecDepth 100000 in
set_option maxHeartbeats 1000000 in
theorem Text_any (a : Int) (w : World) (ht : a.natAbs < 10000 ∨ Tab w) : Calls Tryd.prog 9 #[.int .i64 a] w fun e w' => e = .returned (.tuple #[.string (txV a), .int .i64 (txE a)]) ∧ Below w.heap.size w w' := by
  have HC : Hid (∀ u, Calls Tryd.prog 26 #[.int .i64 a] u fun e w' => e = .returned (.bool (may a)) ∧ w' = u) := fun u => isAmount_any a u
  by_cases hm : may a = true
  · rw [hm] at HC
    have ha := (may_iff a).1 hm
    obtain ⟨A, hA⟩ : ∃ A : Nat, a.natAbs = A := ⟨_, rfl⟩
    rw [hA] at ht
    have hA1 : A ≤ 1000000000000000 := by omega
    have H1 : Hid (Calls Tryd.prog 27 #[.int .i64 ((A / 100 : Nat) : Int)] w fun e w' => e = .returned (.string (ofL (Lib.decDigits (A / 100)))) ∧ Below w.heap.size w w') := itoa_in _ (by omega) w (ht.imp (fun h => by omega) id)
    have H2 : Hid (∀ u, Calls Tryd.prog 27 #[.int .i64 ((A / 10 % 10 : Nat) : Int)] u fun e w' => e = .returned (.string (ofL (Lib.decDigits (A / 10 % 10)))) ∧ w' = u) := fun u => itoa_small _ (by omega) u
    have H3 : Hid (∀ u, Calls Tryd.prog 27 #[.int .i64 ((A % 10 : Nat) : Int)] u fun e w' => e = .returned (.string (ofL (Lib.decDigits (A % 10)))) ∧ w' = u) := fun u => itoa_small _ (by omega) u
    have z1 := digits_size (n := A / 100) (by omega)
    have z2 := digits_size (n := A / 10 % 10) (by omega)
    have z3 := digits_size (n := A % 10) (by omega)
    have HT : Hid (ofL (Lib.decDigits (A / 100)) ++ ofL [46] ++ ofL (Lib.decDigits (A / 10 % 10)) ++ ofL (Lib.decDigits (A % 10)) = ofL (textN A)) := by
      show _ = _
      rw [ofL_append, ofL_append, ofL_append, text_parts]
    obtain ⟨s1, e1⟩ : ∃ s, ofL (Lib.decDigits (A / 100)) = s := ⟨_, rfl⟩
    obtain ⟨s2, e2⟩ : ∃ s, ofL (Lib.decDigits (A / 10 % 10)) = s := ⟨_, rfl⟩
    obtain ⟨s3, e3⟩ : ∃ s, ofL (Lib.decDigits (A % 10)) = s := ⟨_, rfl⟩
    rw [e1] at H1 z1 HT
    rw [e2] at H2 z2 HT
    rw [e3] at H3 z3 HT
    have hV : txV a = ofL (text a) := by unfold txV; rw [hm]; rfl
    have hE : txE a = 0 := by unfold txE; rw [hm]; rfl
    rw [hV, hE]
    obtain ⟨n1, f1⟩ : ∃ n1 : Int, ((A / 100 : Nat) : Int) = n1 := ⟨_, rfl⟩
    obtain ⟨n2, f2⟩ : ∃ n2 : Int, ((A / 10 % 10 : Nat) : Int) = n2 := ⟨_, rfl⟩
    obtain ⟨n3, f3⟩ : ∃ n3 : Int, ((A % 10 : Nat) : Int) = n3 := ⟨_, rfl⟩
    obtain ⟨n4, f4⟩ : ∃ n4 : Int, ((A / 10 : Nat) : Int) = n4 := ⟨_, rfl⟩
    have g1 : (A : Int).tdiv 100 = n1 := by rw [← f1]; exact (Int.ofNat_tdiv _ 100).symm
    have g2 : n4.tmod 10 = n2 := by rw [← f2, ← f4]; exact (Int.ofNat_tmod _ 10).symm
    have g3 : (A : Int).tmod 10 = n3 := by rw [← f3]; exact (Int.ofNat_tmod _ 10).symm
    have g4 : (A : Int).tdiv 10 = n4 := by rw [← f4]; exact (Int.ofNat_tdiv _ 10).symm
    have g5 : (A : Int) / 100 = n1 := by omega
    have g6 : n4 % 10 = n2 := by omega
    have g7 : (A : Int) % 10 = n3 := by omega
    have g8 : (A : Int) / 10 = n4 := by omega
    have w1 : IntKind.i64.wrap n1 = n1 := wrapI (by omega) (by omega)
    have w2 : IntKind.i64.wrap n2 = n2 := wrapI (by omega) (by omega)
    have w3 : IntKind.i64.wrap n3 = n3 := wrapI (by omega) (by omega)
    have w4 : IntKind.i64.wrap n4 = n4 := wrapI (by omega) (by omega)
    rw [f1] at H1
    rw [f2] at H2
    rw [f3] at H3
    clear f1 f2 f3 f4 e1 e2 e3 hV hE hm ht
    by_cases hs : a < 0
    · have hneg : -a = (A : Int) := by omega
      have wn : IntKind.i64.wrap (A : Int) = (A : Int) := wrapI (by omega) (by omega)
      have HE : Hid (text a = 45 :: textN A) := by show _ = _; unfold text; rw [if_pos hs, hA]
      clear hA ha
      go_enter Tryd.func9, Tryd.ntmps9
      go_wp2_with (go_at_call 26; go_must (refine (HC.out _).mono ?_; rintro y w2 ⟨rfl, hwz⟩; obtain rfl := hwz.symm))
      refine H1.out.mono ?_
      rintro y w2 ⟨rfl, hb⟩
      go_wp2_with fail
      refine (H2.out _).mono ?_
      rintro y w3 ⟨rfl, hwz⟩
      obtain rfl := hwz.symm
      go_wp2_with fail
      refine (H3.out _).mono ?_
      rintro y w4 ⟨rfl, hwz⟩
      obtain rfl := hwz.symm
      go_wp2_with fail
      go_ret2
      refine ⟨?_, hb⟩
      rw [HE.out]
      have e : ofL [45] ++ s1 ++ ofL [46] ++ s2 ++ s3 = ofL (45 :: textN A) := by
        have h := HT.out
        simp only [ByteArray.append_assoc] at h ⊢
        rw [h, ofL_append]
        rfl
      rw [← e]
      rfl
    · have hpos : a = (A : Int) := by omega
      have HE : Hid (text a = textN A) := by show _ = _; unfold text; rw [if_neg hs, hA]
      clear hA ha
      subst hpos
      go_enter Tryd.func9, Tryd.ntmps9
      go_wp2_with (go_at_call 26; go_must (refine (HC.out _).mono ?_; rintro y w2 ⟨rfl, hwz⟩; obtain rfl := hwz.symm))
      refine H1.out.mono ?_
      rintro y w2 ⟨rfl, hb⟩
      go_wp2_with fail
      refine (H2.out _).mono ?_
      rintro y w3 ⟨rfl, hwz⟩
      obtain rfl := hwz.symm
      go_wp2_with fail
      refine (H3.out _).mono ?_
      rintro y w4 ⟨rfl, hwz⟩
      obtain rfl := hwz.symm
      go_wp2_with fail
      go_ret2
      refine ⟨?_, hb⟩
      rw [HE.out]
      have e : ofL [] ++ s1 ++ ofL [46] ++ s2 ++ s3 = ofL (textN A) := by
        have h := HT.out
        simp only [ByteArray.append_assoc] at h ⊢
        rw [h, ofL_append]
        rfl
      rw [← e]
      rfl
  · have hm' : may a = false := by simpa using hm
    rw [hm'] at HC
    have hV : txV a = ofL [] := by unfold txV; rw [hm']; rfl
    have hE : txE a = 220 := by unfold txE; rw [hm']; rfl
    rw [hV, hE]
    clear hV hE hm hm' ht
    go_enter Tryd.func9, Tryd.ntmps9
    go_wp2_with (go_at_call 26; go_must (refine (HC.out _).mono ?_; rintro y w2 ⟨rfl, hwz⟩; obtain rfl := hwz.symm))
    go_ret2
    exact ⟨rfl, Below.refl _ _⟩
end Go.Proofs.YtfaelefeiinbaaaDoor
