import Derived.Test.YtigegdelhpdlhaaGreatDoorJByJ
/- Layer 18: numbers read back from their bytes. Nothing here speaks of a program. -/
namespace Go.Proofs.YtigegdelhpdlhaaGreatDoor
open Go.RowKit QP

theorem lo_get (n : Nat) : ∀ k j, j < k → (lo n k)[j]? = some (n / 256 ^ j % 256)
  | 0, _, h => absurd h (Nat.not_lt_zero _)
  | k + 1, j, h => by
    show (lo n k ++ [n / 256 ^ k % 256])[j]? = _
    by_cases e : j < k
    · rw [List.getElem?_append_left (by rw [lo_length]; exact e), lo_get n k j e]
    · obtain rfl : j = k := by omega
      rw [List.getElem?_append_right (by rw [lo_length]; exact Nat.le_refl _), lo_length, Nat.sub_self]
      rfl
theorem or_addJ {a b k : Nat} (h : a < 2 ^ k) : a ||| b * 2 ^ k = a + b * 2 ^ k := by
  rw [Nat.or_comm, Nat.add_comm, ← Nat.shiftLeft_eq, Nat.shiftLeft_add_eq_or_of_lt h]
theorem lo_step (n j : Nat) : n % 256 ^ j ||| (n / 256 ^ j % 256) * 2 ^ (8 * j) = n % 256 ^ (j + 1) := by
  have h : n % 256 ^ j < 2 ^ (8 * j) := by rw [← pow256]; exact Nat.mod_lt _ (Nat.pow_pos (by decide))
  rw [or_addJ h, ← pow256, Nat.mod_pow_succ, Nat.mul_comm]
/-- one more byte of a number of 64 bits -/
theorem lo_or (n j : Nat) (hj : j < 8) : bits .or .u64 ((n % 256 ^ j : Nat) : Int) (((n / 256 ^ j % 256) * 2 ^ (8 * j) : Nat) : Int) = ((n % 256 ^ (j + 1) : Nat) : Int) := by
  have h1 : n % 256 ^ j < 256 ^ j := Nat.mod_lt _ (Nat.pow_pos (by decide))
  have h2 : 256 ^ j ≤ 256 ^ 7 := Nat.pow_le_pow_right (by decide) (by omega)
  have h3 : n / 256 ^ j % 256 < 256 := Nat.mod_lt _ (by decide)
  have h4 : (n / 256 ^ j % 256) * 2 ^ (8 * j) ≤ 255 * 256 ^ 7 := by
    rw [← pow256]
    exact Nat.mul_le_mul (by omega) h2
  have e7 : 256 ^ 7 = 72057594037927936 := by decide
  rw [e7] at h2 h4
  rw [u64_or_nat _ _ (by omega) (by omega), lo_step]
theorem ofN_left (A B : List Nat) : (ofN (A ++ B)).extract 0 A.length = ofN A := by
  apply ByteArray.ext
  simp [ofN]
theorem ofN_right (A B : List Nat) : (ofN (A ++ B)).extract A.length (ofN (A ++ B)).size = ofN B := by
  rw [ofN_size]
  apply ByteArray.ext
  simp [ofN]
  rw [List.take_of_length_le (by simp)]
end Go.Proofs.YtigegdelhpdlhaaGreatDoor

/- Layer 18: rows made by make; texts as rows of bytes. -/
namespace Go.Proofs.YtigegdelhpdlhaaGreatDoor
open Go.RowKit QP

theorem make_anyJ {t e : TypeId} {z : Value} {size bytes : Nat} (ht : Tryz.prog.underlying t = some (.slice e)) (hi : (Tryz.prog.info? e).map (fun i => (i.zero, i.size, i.bytes)) = some (some z, size, bytes)) (w : World) (n : Nat) (hn : bytes * n ≤ 281474976710656) (hn2 : n ≤ 1000000) :
    (Instr.makeSlice t (.int .i64 (n : Int)) (.int .i64 (n : Int))).run Tryz.prog w = .ok (.slice (some ⟨w.heap.size, 0, none⟩) n n) (w.alloc (.cells (madeCells z.cells (n * size)) e)) := by
  cases hq : Tryz.prog.info? e with
  | none => rw [hq] at hi; cases hi
  | some i =>
    rw [hq] at hi
    simp only [Option.map_some, Option.some.injEq, Prod.mk.injEq] at hi
    obtain ⟨h1, h2, h3⟩ := hi
    have h4 : ((bytes * n : Nat) : Int) ≤ 281474976710656 := by omega
    rw [Int.natCast_mul, ← h3] at h4
    have := run_make (P := Tryz.prog) w t e i z ht hq h1 .i64 .i64 (n : Int) (n : Int) (by omega) (Int.le_refl _) h4 (by omega)
    rw [h2] at this
    simpa using this
theorem conv_j (X : List Nat) (hX : Bytes X) (W : World) : ∃ u c, (convert 9 54 (.string (ofN X))).run Tryz.prog W = .ok (.slice (some ⟨W.heap.size, 0, none⟩) X.length c) u ∧ Below W.heap.size W u ∧ ∀ (j x : Nat), X[j]? = some x → u.cell? ⟨W.heap.size, j, none⟩ = some (.int .u8 (x : Int)) := by
  have hr := Lib.run_convert_string_bytes W 9 54 5 (ofN X) Tryz.underlying9 Tryz.underlying54 Tryz.underlying5
  rw [ofN_size] at hr
  refine ⟨_, _, hr, ⟨rfl, rfl, rfl, by rw [Lib.bytesWorld_size]; omega, fun j hj => Lib.bytesWorld_at_old W _ _ j hj⟩, fun j x hx => ?_⟩
  obtain ⟨hj, rfl⟩ := List.getElem?_eq_some_iff.1 hx
  have hj' : j < (ofN X).size := by rw [ofN_size]; exact hj
  have h := Lib.bytesWorld_cell W 5 (ofN X) j hj'
  have h5 := hX X[j] (List.getElem_mem hj)
  rw [h]
  simp [ofN, List.getD, hj]
  omega
end Go.Proofs.YtigegdelhpdlhaaGreatDoor

/- Layer 18: value.Decode of the bytes of a row of one whole number. -/
namespace Go.Proofs.YtigegdelhpdlhaaGreatDoor
open Go.RowKit QP

abbrev AtJ (b : Nat) (w w' : World) : Prop := Turn (fun i => i = b) w w'
/-- value's reader in block b: what is left -/
def VrI (b : Nat) (R : List Nat) (w : World) : Prop := w.heap[b]? = some (.cells #[.string (ofN R), .bool false] 234 (0, 0))
theorem VrI.below {b : Nat} {R : List Nat} {u u' : World} (h : VrI b R u) (hb : Below u.heap.size u u') : VrI b R u' := (hb.block b (lt_of h)).trans h

set_option maxRecDepth 100000 in
set_option maxHeartbeats 1000000 in
theorem vtake_any (b : Nat) (A B : List Nat) (w : World) (h : VrI b (A ++ B) w) (hr : (A ++ B).length ≤ 1000000) :
    Calls Tryz.prog 191 #[.pointer (some ⟨b, 0, none⟩), .int .i64 (A.length : Int)] w fun e w' => e = .returned (.string (ofN A)) ∧ VrI b B w' ∧ AtJ b w w' := by
  have q0 : w.cell? ⟨b, 0, none⟩ = some (.string (ofN (A ++ B))) := by rw [cell_of h]; rfl
  have f0 := frozen_of h 0
  have HTk := ofN_left A B
  have HDr := ofN_right A B
  have hsz : (ofN (A ++ B)).size = A.length + B.length := by rw [ofN_size, List.length_append]
  have hz2 : A.length + B.length ≤ 1000000 := by rw [← List.length_append]; exact hr
  obtain ⟨t, ht⟩ : ∃ t, ofN (A ++ B) = t := ⟨_, rfl⟩
  obtain ⟨k, hk⟩ : ∃ k, A.length = k := ⟨_, rfl⟩
  have HB : Hid (w.heap[b]? = some (.cells #[.string t, .bool false] 234 (0, 0))) := by show _ = _; rw [← ht]; exact h
  rw [ht] at q0 HTk HDr hsz
  rw [hk] at HTk HDr hsz hz2 ⊢
  have HTk' : Hid (t.extract 0 k = ofN A) := HTk
  have HDr' : Hid (t.extract k t.size = ofN B) := HDr
  have k1 : ¬ ((t.size : Int) < (k : Int)) := by omega
  have k3 : k ≤ t.size := by omega
  have k4 : t.size ≤ 1000000 := by omega
  clear h ht hk hr HTk HDr hsz hz2
  go_enter Tryz.func191, Tryz.ntmps191
  go_wp2
  go_ret
  refine ⟨by rw [HTk'.out]; rfl, ?_, Turn.setCell w ⟨b, 0, none⟩ _ rfl⟩
  show _ = some (Obj.cells #[.string (ofN B), .bool false] _ _)
  rw [← HDr'.out]
  exact heap_setCell_same HB.out 0 _

set_option maxRecDepth 100000 in
set_option maxHeartbeats 1000000 in
theorem vnumber_any (b k n : Nat) (B : List Nat) (w : World) (h : VrI b (lo n k ++ B) w) (hk : k ≤ 8) (hn : n < 256 ^ k) (hB : B.length ≤ 100000) :
    Calls Tryz.prog 189 #[.pointer (some ⟨b, 0, none⟩), .int .i64 (k : Int)] w fun e w' => e = .returned (.int .u64 (n : Int)) ∧ VrI b B w' ∧ AtJ b w w' := by
  have HT : Hid (Calls Tryz.prog 191 #[.pointer (some ⟨b, 0, none⟩), .int .i64 (k : Int)] w fun e w' => e = .returned (.string (ofN (lo n k))) ∧ Hid (VrI b B w' ∧ AtJ b w w')) := by
    have := vtake_any b (lo n k) B w h (by rw [List.length_append, lo_length]; omega)
    rw [lo_length] at this
    exact this
  have HV : Hid (∀ w1, ∃ u c, (convert 9 54 (.string (ofN (lo n k)))).run Tryz.prog w1 = .ok (.slice (some ⟨w1.heap.size, 0, none⟩) k c) u ∧ Hid (Below w1.heap.size w1 u) ∧ Hid (∀ j, j < k → u.cell? ⟨w1.heap.size, j, none⟩ = some (.int .u8 ((n / 256 ^ j % 256 : Nat) : Int)))) := fun w1 => by
    obtain ⟨u, c, h1, h3, h4⟩ := conv_j (lo n k) (lo_bytes n k) w1
    rw [lo_length] at h1
    exact ⟨u, c, h1, h3, fun j hj => h4 j _ (lo_get n k j hj)⟩
  have HST : Hid (∀ j, j < k → bits .or .u64 ((n % 256 ^ j : Nat) : Int) (((n / 256 ^ j % 256) * 2 ^ (8 * j) : Nat) : Int) = ((n % 256 ^ (j + 1) : Nat) : Int)) := fun j hj => lo_or n j (by omega)
  have HBd : Hid (∀ j, j < k → (n / 256 ^ j % 256) * 2 ^ (8 * j) < 18446744073709551616) := fun j hj => by
    have h1 : n / 256 ^ j % 256 < 256 := Nat.mod_lt _ (by decide)
    have h2 : 256 ^ j ≤ 256 ^ 7 := Nat.pow_le_pow_right (by decide) (by omega)
    have h3 : (n / 256 ^ j % 256) * 256 ^ j ≤ 255 * 256 ^ 7 := Nat.mul_le_mul (by omega) h2
    have e7 : 256 ^ 7 = 72057594037927936 := by decide
    rw [e7] at h3
    rw [← pow256]
    omega
  have HE : Hid (n % 256 ^ k = n) := Nat.mod_eq_of_lt hn
  clear h hn
  go_enter Tryz.func189, Tryz.ntmps189
  go_wp2_with (go_at_call 191; go_must (refine HT.out.mono ?_; rintro e w1 ⟨rfl, K1⟩; obtain ⟨u, cp, hconv, HB1, HC⟩ := HV.out w1))
  obtain ⟨g, hg⟩ : ∃ g, w1.heap.size = g := ⟨_, rfl⟩
  have HG : Hid (w1.heap.size = g) := hg
  rw [hg] at HC ⊢
  clear hconv hg
  go_loopw [5, 13] (fun v i wr => ∃ j m : Nat, j ≤ k ∧ i = .int .i64 j ∧ v = .int .u64 m ∧ Hid (m = n % 256 ^ j) ∧ wr = u) (fun _ i _ => k - (intOf i).toNat)
  case atStart => exact ⟨0, 0, Nat.zero_le _, rfl, rfl, (by show _ = _; simp [Nat.mod_one]), rfl⟩
  case round =>
    obtain ⟨j, m, hj, rfl, rfl, Hm, rfl⟩ := hrel
    by_cases hlt : j < k
    · obtain ⟨c, hc⟩ : ∃ c, n / 256 ^ j % 256 = c := ⟨_, rfl⟩
      have q1 := HC.out j hlt
      have hs := HST.out j hlt
      have hbd := HBd.out j hlt
      rw [hc] at q1 hs hbd
      rw [← Hm.out] at hs
      have hc256 : c < 256 := by rw [← hc]; exact Nat.mod_lt _ (by decide)
      obtain ⟨a, ha⟩ : ∃ a, 8 * j = a := ⟨_, rfl⟩
      rw [ha] at hs hbd
      obtain ⟨t, ht⟩ : ∃ t, 2 ^ a = t := ⟨_, rfl⟩
      rw [ht] at hs hbd
      obtain ⟨z, hz⟩ : ∃ z, c * t = z := ⟨_, rfl⟩
      rw [hz] at hs hbd
      obtain ⟨m2, hm2⟩ : ∃ m2, n % 256 ^ (j + 1) = m2 := ⟨_, rfl⟩
      rw [hm2] at hs
      have Hm2 : Hid (m2 = n % 256 ^ (j + 1)) := hm2.symm
      have hlI : (j : Int) < (k : Int) := by omega
      have aI : 8 * (j : Int) = (a : Int) := by omega
      have wa : IntKind.i64.wrap (a : Int) = (a : Int) := jwrapI (by omega) (by omega)
      have a0 : (0 : Int) ≤ (a : Int) := by omega
      have htI : (2 : Int) ^ a = (t : Int) := by rw [← ht]; simp
      have hzI : (c : Int) * (t : Int) = (z : Int) := by rw [← hz]; simp
      have wz : IntKind.u64.wrap (z : Int) = (z : Int) := by
        simp [IntKind.wrap, IntKind.bits, IntKind.signed]
        omega
      have wz2 : (z : Int) % 18446744073709551616 = (z : Int) := by omega
      have wc : IntKind.u64.wrap (c : Int) = (c : Int) := by
        simp [IntKind.wrap, IntKind.bits, IntKind.signed]
        omega
      have wc2 : (c : Int) % 18446744073709551616 = (c : Int) := by omega
      clear hc ha ht hz hm2 Hm
      go_wp2
      go_roundw
      case rel => exact ⟨j + 1, m2, by omega, by go_num, rfl, Hm2, trivial⟩
      case measure => simp [intOf]; omega
    · have hlI : ¬ (j : Int) < (k : Int) := by omega
      go_wp2
      go_ret
      refine ⟨by rw [← HE.out, ← show j = k by omega, ← Hm.out]; rfl, ?_, K1.out.2.trans (Turn.ofBelow _ HB1.out)⟩
      exact K1.out.1.below HB1.out
end Go.Proofs.YtigegdelhpdlhaaGreatDoor
