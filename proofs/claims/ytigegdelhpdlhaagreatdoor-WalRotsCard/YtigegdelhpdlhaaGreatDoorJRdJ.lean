import Derived.Test.YtigegdelhpdlhaaGreatDoorJDec2J
import Derived.Test.YtigegdelhpdlhaaGreatDoorJWrJ
import Derived.Test.YtigegdelhpdlhaaGreatDoorLayCJ
/- Layer 18: wal's reader: take, numbers, texts, flags, rows of one whole number. -/
namespace Go.Proofs.YtigegdelhpdlhaaGreatDoor
open Go.RowKit QP

/-- wal's reader in block b: what is left -/
def JrI (b : Nat) (R : List Nat) (w : World) : Prop := w.heap[b]? = some (.cells #[.string (ofN R)] 205 (0, 0))
theorem JrI.below {b : Nat} {R : List Nat} {u u' : World} (h : JrI b R u) (hb : Below u.heap.size u u') : JrI b R u' := (hb.block b (lt_of h)).trans h

set_option maxRecDepth 100000 in
set_option maxHeartbeats 1000000 in
theorem jtake_any (b : Nat) (A B : List Nat) (w : World) (h : JrI b (A ++ B) w) (hr : (A ++ B).length ≤ 1000000) :
    Calls Tryz.prog 171 #[.pointer (some ⟨b, 0, none⟩), .int .i64 (A.length : Int)] w fun e w' => e = .returned (.string (ofN A)) ∧ JrI b B w' ∧ AtJ b w w' := by
  have q0 : w.cell? ⟨b, 0, none⟩ = some (.string (ofN (A ++ B))) := by rw [cell_of h]; rfl
  have f0 := frozen_of h 0
  have HTk := ofN_left A B
  have HDr := ofN_right A B
  have hsz : (ofN (A ++ B)).size = A.length + B.length := by rw [ofN_size, List.length_append]
  have hz2 : A.length + B.length ≤ 1000000 := by rw [← List.length_append]; exact hr
  obtain ⟨t, ht⟩ : ∃ t, ofN (A ++ B) = t := ⟨_, rfl⟩
  obtain ⟨k, hk⟩ : ∃ k, A.length = k := ⟨_, rfl⟩
  have HB : Hid (w.heap[b]? = some (.cells #[.string t] 205 (0, 0))) := by show _ = _; rw [← ht]; exact h
  rw [ht] at q0 HTk HDr hsz
  rw [hk] at HTk HDr hsz hz2 ⊢
  have HTk' : Hid (t.extract 0 k = ofN A) := HTk
  have HDr' : Hid (t.extract k t.size = ofN B) := HDr
  have k1 : ¬ ((t.size : Int) < (k : Int)) := by omega
  have k2 : decide ((t.size : Int) < (k : Int)) = false := decide_eq_false k1
  have k3 : k ≤ t.size := by omega
  have k4 : t.size ≤ 1000000 := by omega
  have HRf : Hid (∀ u, Calls Tryz.prog 55 #[.bool false, .int .i64 180] u fun r w' => r = .returned (.tuple #[]) ∧ u = w') := fun u => (refuse_no 180 u).mono fun _ _ h => ⟨h.1, h.2.symm⟩
  clear h ht hk hr HTk HDr hsz hz2
  go_enter Tryz.func171, Tryz.ntmps171
  go_wp2_with (go_at_call 55; go_must (refine (HRf.out _).mono ?_; rintro e w1 ⟨rfl, rfl⟩))
  go_ret
  refine ⟨by rw [HTk'.out]; rfl, ?_, Turn.setCell w ⟨b, 0, none⟩ _ rfl⟩
  show _ = some (Obj.cells #[.string (ofN B)] _ _)
  rw [← HDr'.out]
  exact heap_setCell_same HB.out 0 _

theorem ofN_get (X : List Nat) (hX : Bytes X) (j x : Nat) (hx : X[j]? = some x) : ∃ h : j < (ofN X).size, ((ofN X)[j]'h).toNat = x := by
  obtain ⟨hj, rfl⟩ := List.getElem?_eq_some_iff.1 hx
  refine ⟨by rw [ofN_size]; exact hj, ?_⟩
  have h5 := hX X[j] (List.getElem_mem hj)
  show (((X.map UInt8.ofNat).toArray)[j]'(by simpa using hj)).toNat = _
  simp
  omega

set_option maxRecDepth 100000 in
set_option maxHeartbeats 1000000 in
theorem numOf_any (n : Nat) (w : World) (hn : n < 18446744073709551616) : Calls Tryz.prog 100 #[.string (ofN (lo n 8))] w fun e w' => e = .returned (.int .u64 (n : Int)) ∧ Below w.heap.size w w' := by
  have hsz : (ofN (lo n 8)).size = 8 := by rw [ofN_size, lo_length]
  have HG : Hid (∀ j, j < 8 → ∃ h : j < (ofN (lo n 8)).size, ((ofN (lo n 8))[j]'h).toNat = n / 256 ^ j % 256) := fun j hj => ofN_get (lo n 8) (lo_bytes n 8) j _ (lo_get n 8 j hj)
  have HST : Hid (∀ j, j < 8 → bits .or .u64 ((n % 256 ^ j : Nat) : Int) (((n / 256 ^ j % 256) * 2 ^ (8 * j) : Nat) : Int) = ((n % 256 ^ (j + 1) : Nat) : Int)) := fun j hj => lo_or n j (by omega)
  have HBd : Hid (∀ j, j < 8 → (n / 256 ^ j % 256) * 2 ^ (8 * j) < 18446744073709551616) := fun j hj => by
    have h1 : n / 256 ^ j % 256 < 256 := Nat.mod_lt _ (by decide)
    have h2 : 256 ^ j ≤ 256 ^ 7 := Nat.pow_le_pow_right (by decide) (by omega)
    have h3 : (n / 256 ^ j % 256) * 256 ^ j ≤ 255 * 256 ^ 7 := Nat.mul_le_mul (by omega) h2
    have e7 : 256 ^ 7 = 72057594037927936 := by decide
    rw [e7] at h3
    rw [← pow256]
    omega
  have HE : Hid (n % 256 ^ 8 = n) := Nat.mod_eq_of_lt hn
  obtain ⟨s, hs⟩ : ∃ s, ofN (lo n 8) = s := ⟨_, rfl⟩
  rw [hs] at hsz HG ⊢
  clear hs hn
  go_enter Tryz.func100, Tryz.ntmps100
  go_wp2
  go_loopw [3, 5] (fun v i wr => ∃ j m : Nat, j ≤ 8 ∧ i = .int .i64 j ∧ v = .int .u64 m ∧ Hid (m = n % 256 ^ j) ∧ Hid (Below w.heap.size w wr)) (fun _ i _ => 8 - (intOf i).toNat)
  case atStart => exact ⟨0, 0, Nat.zero_le _, rfl, rfl, (by show _ = _; simp [Nat.mod_one]), Below.refl _ _⟩
  case round =>
    obtain ⟨j, m, hj, rfl, rfl, Hm, HB⟩ := hrel
    by_cases hlt : j < 8
    · obtain ⟨c, hc⟩ : ∃ c, n / 256 ^ j % 256 = c := ⟨_, rfl⟩
      obtain ⟨l0, q1⟩ := HG.out j hlt
      have hs := HST.out j hlt
      have hbd := HBd.out j hlt
      rw [hc] at q1 hs hbd
      rw [← Hm.out] at hs
      have hc256 : c < 256 := by rw [← hc]; exact Nat.mod_lt _ (by decide)
      obtain ⟨a, ha⟩ : ∃ a, 8 * j = a := ⟨_, rfl⟩
      rw [ha] at hs hbd
      obtain ⟨t, ht⟩ : ∃ t, 2 ^ a = t := ⟨_, rfl⟩
      rw [ht] at hs hbd
      obtain ⟨z, hz⟩ : ∃ z, c * t = z := ⟨_, rfl⟩
      rw [hz] at hs hbd
      obtain ⟨m2, hm2⟩ : ∃ m2, n % 256 ^ (j + 1) = m2 := ⟨_, rfl⟩
      rw [hm2] at hs
      have Hm2 : Hid (m2 = n % 256 ^ (j + 1)) := hm2.symm
      have hlI : (j : Int) < 8 := by omega
      have aI : 8 * (j : Int) = (a : Int) := by omega
      have wa : IntKind.i64.wrap (a : Int) = (a : Int) := jwrapI (by omega) (by omega)
      have a0 : (0 : Int) ≤ (a : Int) := by omega
      have htI : (2 : Int) ^ a = (t : Int) := by rw [← ht]; simp
      have hzI : (c : Int) * (t : Int) = (z : Int) := by rw [← hz]; simp
      have wz : IntKind.u64.wrap (z : Int) = (z : Int) := by
        simp [IntKind.wrap, IntKind.bits, IntKind.signed]
        omega
      have wz2 : (z : Int) % 18446744073709551616 = (z : Int) := by omega
      have wc : IntKind.u64.wrap (c : Int) = (c : Int) := by
        simp [IntKind.wrap, IntKind.bits, IntKind.signed]
        omega
      have wc2 : (c : Int) % 18446744073709551616 = (c : Int) := by omega
      clear hc ha ht hz hm2 Hm
      go_wp2
      go_roundw
      case rel => exact ⟨j + 1, m2, by omega, by go_num, rfl, Hm2, HB⟩
      case measure => simp [intOf]; omega
    · obtain rfl : j = 8 := by omega
      have hlI : ¬ ((8 : Nat) : Int) < 8 := by omega
      go_wp2
      go_ret
      exact ⟨by rw [← HE.out, ← Hm.out]; rfl, HB.out⟩
end Go.Proofs.YtigegdelhpdlhaaGreatDoor

/- Layer 18: wal's reader: numbers, sizes, texts, flags, rows of one whole number. -/
namespace Go.Proofs.YtigegdelhpdlhaaGreatDoor
open Go.RowKit QP

section
variable {b : Nat} {B : List Nat} {w : World}
set_option maxRecDepth 100000 in
set_option maxHeartbeats 1000000 in
theorem jrnumber_any (n : Nat) (h : JrI b (lo n 8 ++ B) w) (hn : n < 18446744073709551616) (hB : B.length ≤ 100000) :
    Calls Tryz.prog 148 #[.pointer (some ⟨b, 0, none⟩)] w fun e w' => e = .returned (.int .u64 (n : Int)) ∧ JrI b B w' ∧ AtJ b w w' := by
  have HT : Hid (Calls Tryz.prog 171 #[.pointer (some ⟨b, 0, none⟩), .int .i64 8] w fun e w' => e = .returned (.string (ofN (lo n 8))) ∧ Hid (JrI b B w' ∧ AtJ b w w')) := by
    have := jtake_any b (lo n 8) B w h (by rw [List.length_append, lo_length]; omega)
    rw [lo_length] at this
    exact this
  have HN : Hid (∀ u, Calls Tryz.prog 100 #[.string (ofN (lo n 8))] u fun e w' => e = .returned (.int .u64 (n : Int)) ∧ Below u.heap.size u w') := fun u => numOf_any n u hn
  clear h
  go_enter Tryz.func148, Tryz.ntmps148
  go_wp2_with (first
    | (go_at_call 171; (with_reducible refine HT.out.mono ?_); rintro e w1 ⟨rfl, K1⟩)
    | (go_at_call 100; (with_reducible refine (HN.out _).mono ?_); rintro e w2 ⟨rfl, hb2⟩))
  go_ret
  exact ⟨rfl, K1.out.1.below hb2, K1.out.2.trans (Turn.ofBelow _ hb2)⟩

set_option maxRecDepth 100000 in
set_option maxHeartbeats 1000000 in
theorem jrsize_any (n most : Nat) (h : JrI b (lo n 8 ++ B) w) (hn : n ≤ most) (hm : most ≤ 100000) (hB : B.length ≤ 100000) :
    Calls Tryz.prog 172 #[.pointer (some ⟨b, 0, none⟩), .int .i64 (most : Int)] w fun e w' => e = .returned (.int .i64 (n : Int)) ∧ JrI b B w' ∧ AtJ b w w' := by
  have HN : Hid (Calls Tryz.prog 148 #[.pointer (some ⟨b, 0, none⟩)] w fun e w' => e = .returned (.int .u64 (n : Int)) ∧ Hid (JrI b B w' ∧ AtJ b w w')) := jrnumber_any n h (by omega) hB
  have HRf : Hid (∀ u, Calls Tryz.prog 55 #[.bool false, .int .i64 180] u fun r w' => r = .returned (.tuple #[]) ∧ u = w') := fun u => (refuse_no 180 u).mono fun _ _ h => ⟨h.1, h.2.symm⟩
  have k1 : decide (most < n) = false := decide_eq_false (by omega)
  have wm : IntKind.u64.wrap (most : Int) = (most : Int) := by
    simp [IntKind.wrap, IntKind.bits, IntKind.signed]
    omega
  have wm2 : (most : Int) % 18446744073709551616 = (most : Int) := by omega
  have wn : IntKind.i64.wrap (n : Int) = (n : Int) := jwrapI (by omega) (by omega)
  clear h
  go_enter Tryz.func172, Tryz.ntmps172
  go_wp2_with (first
    | (go_at_call 148; (with_reducible refine HN.out.mono ?_); rintro e w1 ⟨rfl, K1⟩)
    | (go_at_call 55; (with_reducible refine (HRf.out _).mono ?_); rintro e w2 ⟨rfl, rfl⟩))
  go_ret
  exact ⟨rfl, K1.out⟩

set_option maxRecDepth 100000 in
set_option maxHeartbeats 1000000 in
theorem jrtext_any (s : ByteArray) (h : JrI b (lo s.size 8 ++ (nb s ++ B)) w) (hs : s.size ≤ 4096) (hB : B.length ≤ 10000) :
    Calls Tryz.prog 173 #[.pointer (some ⟨b, 0, none⟩)] w fun e w' => e = .returned (.string s) ∧ JrI b B w' ∧ AtJ b w w' := by
  have H1 : Hid (Calls Tryz.prog 172 #[.pointer (some ⟨b, 0, none⟩), .int .i64 4096] w fun e w' => e = .returned (.int .i64 (s.size : Int)) ∧ Hid (JrI b (nb s ++ B) w' ∧ AtJ b w w')) := jrsize_any s.size 4096 h hs (by decide) (by rw [List.length_append, nb_length]; omega)
  have H2 : Hid (∀ u, JrI b (nb s ++ B) u → Calls Tryz.prog 171 #[.pointer (some ⟨b, 0, none⟩), .int .i64 (s.size : Int)] u fun e w' => e = .returned (.string s) ∧ Hid (JrI b B w' ∧ AtJ b u w')) := fun u hu => by
    have := jtake_any b (nb s) B u hu (by rw [List.length_append, nb_length]; omega)
    rw [nb_length, ofN_nb] at this
    exact this
  have H3 : Hid (∀ u, Calls Tryz.prog 146 #[.string s] u fun e w' => e = .returned (.string s) ∧ Below u.heap.size u w') := fun u => sClone_any s u (by omega)
  clear h
  go_enter Tryz.func173, Tryz.ntmps173
  go_wp2_with (first
    | (go_at_call 172; (with_reducible refine H1.out.mono ?_); rintro e w1 ⟨rfl, K1⟩; have H2' := H2.out w1 K1.out.1)
    | (go_at_call 171; (with_reducible refine H2'.mono ?_); rintro e w2 ⟨rfl, K2⟩; clear H2')
    | (go_at_call 146; (with_reducible refine (H3.out _).mono ?_); rintro e w3 ⟨rfl, hb3⟩))
  go_ret
  exact ⟨rfl, K2.out.1.below hb3, (K1.out.2.trans K2.out.2).trans (Turn.ofBelow _ hb3)⟩

set_option maxRecDepth 100000 in
set_option maxHeartbeats 1000000 in
theorem jrflag_any (h : JrI b ([0] ++ B) w) (hB : B.length ≤ 10000) :
    Calls Tryz.prog 174 #[.pointer (some ⟨b, 0, none⟩)] w fun e w' => e = .returned (.bool false) ∧ JrI b B w' ∧ AtJ b w w' := by
  have H1 : Hid (Calls Tryz.prog 171 #[.pointer (some ⟨b, 0, none⟩), .int .i64 1] w fun e w' => e = .returned (.string ⟨#[0]⟩) ∧ Hid (JrI b B w' ∧ AtJ b w w')) := jtake_any b [0] B w h (by simp; omega)
  have HRf : Hid (∀ u, Calls Tryz.prog 55 #[.bool false, .int .i64 180] u fun r w' => r = .returned (.tuple #[]) ∧ u = w') := fun u => (refuse_no 180 u).mono fun _ _ h => ⟨h.1, h.2.symm⟩
  clear h
  go_enter Tryz.func174, Tryz.ntmps174
  go_wp2_with (first
    | (go_at_call 171; (with_reducible refine H1.out.mono ?_); rintro e w1 ⟨rfl, K1⟩)
    | (go_at_call 55; (with_reducible refine (HRf.out _).mono ?_); rintro e w2 ⟨rfl, rfl⟩))
  go_ret
  exact ⟨rfl, K1.out⟩

set_option maxRecDepth 100000 in
set_option maxHeartbeats 1000000 in
theorem jrrow_any (n : Nat) (h : JrI b (lo 10 8 ++ (rowB n ++ B)) w) (hn : n < 9223372036854775808) (hB : B.length ≤ 10000) :
    Calls Tryz.prog 175 #[.pointer (some ⟨b, 0, none⟩)] w fun e w' => ∃ x, e = .returned (.slice (some ⟨x, 0, none⟩) 1 1) ∧ Hid (OneAt w' x 2 (n : Int) ByteArray.empty ∧ w.heap.size ≤ x) ∧ Hid (JrI b B w' ∧ AtJ b w w') := by
  have H1 : Hid (Calls Tryz.prog 172 #[.pointer (some ⟨b, 0, none⟩), .int .i64 65536] w fun e w' => e = .returned (.int .i64 10) ∧ Hid (JrI b (rowB n ++ B) w' ∧ AtJ b w w')) := jrsize_any 10 65536 h (by decide) (by decide) (by rw [List.length_append, rowB_length]; omega)
  have H2 : Hid (∀ u, JrI b (rowB n ++ B) u → Calls Tryz.prog 171 #[.pointer (some ⟨b, 0, none⟩), .int .i64 10] u fun e w' => e = .returned (.string (ofN (rowB n))) ∧ Hid (JrI b B w' ∧ AtJ b u w')) := fun u hu => by
    have := jtake_any b (rowB n) B u hu (by rw [List.length_append, rowB_length]; omega)
    rw [rowB_length] at this
    exact this
  have H3 : Hid (∀ u, Calls Tryz.prog 185 #[.string (ofN (rowB n))] u fun e w' => ∃ x, e = .returned (.tuple #[.slice (some ⟨x, 0, none⟩) 1 1, .agg #[.int .i64 0, .int .i64 0]]) ∧ Hid (OneAt w' x 2 (n : Int) ByteArray.empty ∧ u.heap.size ≤ x) ∧ Hid (Below u.heap.size u w')) := fun u => vdecode_any n u hn
  have HRf : Hid (∀ u, Calls Tryz.prog 55 #[.bool false, .int .i64 180] u fun r w' => r = .returned (.tuple #[]) ∧ u = w') := fun u => (refuse_no 180 u).mono fun _ _ h => ⟨h.1, h.2.symm⟩
  clear h
  go_enter Tryz.func175, Tryz.ntmps175
  go_wp2_with (first
    | (go_at_call 172; (with_reducible refine H1.out.mono ?_); rintro e w1 ⟨rfl, K1⟩; have H2' := H2.out w1 K1.out.1)
    | (go_at_call 171; (with_reducible refine H2'.mono ?_); rintro e w2 ⟨rfl, K2⟩; clear H2')
    | (go_at_call 185; (with_reducible refine (H3.out _).mono ?_); rintro e w3 ⟨x, rfl, K3, HB3⟩)
    | (go_at_call 55; (with_reducible refine (HRf.out _).mono ?_); rintro e w4 ⟨rfl, rfl⟩))
  go_ret
  have hbA := (Below.refl w3.heap.size w3).alloc (Nat.le_refl _) (.cells #[.int .i64 0, .int .i64 0] 176)
  have hs : w.heap.size ≤ w2.heap.size := (K1.out.2.trans K2.out.2).size
  refine ⟨x, rfl, ⟨K3.out.1.below hbA, Nat.le_trans hs K3.out.2⟩, (K2.out.1.below HB3.out).below hbA, ((K1.out.2.trans K2.out.2).trans (Turn.ofBelow _ HB3.out)).trans (Turn.ofBelow _ hbA)⟩
end
end Go.Proofs.YtigegdelhpdlhaaGreatDoor
