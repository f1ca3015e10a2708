import Derived.Shelf.Pu.Clone
import Derived.Test.YtigegdelhpdlhaaGreatDoorProg
import Derived.Test.YtigegdelhpdlhaaGreatDoorBase
import Derived.WalkKit
import Derived.Test.YtigegdelhpdlhaaGreatDoorJDec2J
import Derived.Test.YtigegdelhpdlhaaGreatDoorGrowJ
/- The library contract that the proofs of this seat lean on (a copy of a text), laid at its program. -/
namespace Go.Proofs
open Go.Shelf
def Tryz.laysClone_ren : Go.Shelf.Ren := ⟨fun | 25 => 170 | n => n, fun | 9 => 9 | 3 => 3 | 4 => 4 | 37 => 54 | 0 => 0 | 47 => 167 | 5 => 5 | n => n, fun | n => n⟩
theorem Tryz.laysClone : Go.Proofs.LaysPu.n25 Tryz.prog Tryz.laysClone_ren := {
  mixed := by kernel_rfl
  f25 := Tryz.func170.trans (congrArg some (by kernel_rfl))
  t0 := Tryz.underlying0
  a0 := Tryz.isAgg0
  z0 := Tryz.sizeOf0
  v0 := Tryz.zeroValue0
  i0 := by kernel_rfl
  t3 := Tryz.underlying3
  a3 := Tryz.isAgg3
  z3 := Tryz.sizeOf3
  v3 := Tryz.zeroValue3
  i3 := by kernel_rfl
  t4 := Tryz.underlying4
  a4 := Tryz.isAgg4
  z4 := Tryz.sizeOf4
  v4 := Tryz.zeroValue4
  i4 := by kernel_rfl
  t5 := Tryz.underlying5
  a5 := Tryz.isAgg5
  z5 := Tryz.sizeOf5
  v5 := Tryz.zeroValue5
  i5 := by kernel_rfl
  t9 := Tryz.underlying9
  a9 := Tryz.isAgg9
  z9 := Tryz.sizeOf9
  v9 := Tryz.zeroValue9
  i9 := by kernel_rfl
  t37 := Tryz.underlying54
  a37 := Tryz.isAgg54
  z37 := Tryz.sizeOf54
  v37 := Tryz.zeroValue54
  i37 := by kernel_rfl
  t47 := Tryz.underlying167
  a47 := Tryz.isAgg167
  z47 := Tryz.sizeOf167
  v47 := Tryz.zeroValue167
  i47 := by kernel_rfl }
end Go.Proofs

/- A copy of a string is the string. -/
namespace Go.Proofs.YtigegdelhpdlhaaGreatDoor
open Go.Shelf Go.RowKit

theorem slClone_any (s : ByteArray) (w : World) (h : s.size ≤ 281474976710656) :
    Calls Tryz.prog 170 #[.string s] w fun e w' => e = .returned (.string s) ∧ Below w.heap.size w w' := AnyPu.stringslite_Clone Tryz.laysClone s w h

set_option maxHeartbeats 400000 in
theorem sClone_any (s : ByteArray) (w : World) (h : s.size ≤ 281474976710656) :
    Calls Tryz.prog 146 #[.string s] w fun e w' => e = .returned (.string s) ∧ Below w.heap.size w w' := by
  have H : Hid (∀ w : World, Calls Tryz.prog 170 #[.string s] w fun e w' => e = .returned (.string s) ∧ Below w.heap.size w w') := fun w => slClone_any s w h
  go_enter Tryz.func146, Tryz.ntmps146
  go_wp2_with (go_at_call 170; refine (H.out _).mono ?_; rintro e w1 ⟨rfl, hw1⟩)
  go_ret
  exact ⟨rfl, hw1⟩

end Go.Proofs.YtigegdelhpdlhaaGreatDoor

/- Layer 18: wal's reader: take, numbers, texts, flags, rows of one whole number. -/
namespace Go.Proofs.YtigegdelhpdlhaaGreatDoor
open Go.RowKit QP

/-- wal's reader in block b: what is left -/
def JrI (b : Nat) (R : List Nat) (w : World) : Prop := w.heap[b]? = some (.cells #[.string (ofN R)] 205 (0, 0))
theorem JrI.below {b : Nat} {R : List Nat} {u u' : World} (h : JrI b R u) (hb : Below u.heap.size u u') : JrI b R u' := (hb.block b (lt_of h)).trans h

set_option maxRecDepth 100000 in
set_option maxHeartbeats 1000000 in
theorem jtake_any (b : Nat) (A B : List Nat) (w : World) (h : JrI b (A ++ B) w) (hr : (A ++ B).length ≤ 1000000) :
    Calls Tryz.prog 171 #[.pointer (some ⟨b, 0, none⟩), .int .i64 (A.length : Int)] w fun e w' => e = .returned (.string (ofN A)) ∧ JrI b B w' ∧ AtJ b w w' := by
  have q0 : w.cell? ⟨b, 0, none⟩ = some (.string (ofN (A ++ B))) := by rw [cell_of h]; rfl
  have f0 := frozen_of h 0
  have HTk := ofN_left A B
  have HDr := ofN_right A B
  have hsz : (ofN (A ++ B)).size = A.length + B.length := by rw [ofN_size, List.length_append]
  have hz2 : A.length + B.length ≤ 1000000 := by rw [← List.length_append]; exact hr
  obtain ⟨t, ht⟩ : ∃ t, ofN (A ++ B) = t := ⟨_, rfl⟩
  obtain ⟨k, hk⟩ : ∃ k, A.length = k := ⟨_, rfl⟩
  have HB : Hid (w.heap[b]? = some (.cells #[.string t] 205 (0, 0))) := by show _ = _; rw [← ht]; exact h
  rw [ht] at q0 HTk HDr hsz
  rw [hk] at HTk HDr hsz hz2 ⊢
  have HTk' : Hid (t.extract 0 k = ofN A) := HTk
  have HDr' : Hid (t.extract k t.size = ofN B) := HDr
  have k1 : ¬ ((t.size : Int) < (k : Int)) := by omega
  have k2 : decide ((t.size : Int) < (k : Int)) = false := decide_eq_false k1
  have k3 : k ≤ t.size := by omega
  have k4 : t.size ≤ 1000000 := by omega
  have HRf : Hid (∀ u, Calls Tryz.prog 55 #[.bool false, .int .i64 180] u fun r w' => r = .returned (.tuple #[]) ∧ u = w') := fun u => (refuse_no 180 u).mono fun _ _ h => ⟨h.1, h.2.symm⟩
  clear h ht hk hr HTk HDr hsz hz2
  go_enter Tryz.func171, Tryz.ntmps171
  go_wp2_with (go_at_call 55; go_must (refine (HRf.out _).mono ?_; rintro e w1 ⟨rfl, rfl⟩))
  go_ret
  refine ⟨by rw [HTk'.out]; rfl, ?_, Turn.setCell w ⟨b, 0, none⟩ _ rfl⟩
  show _ = some (Obj.cells #[.string (ofN B)] _ _)
  rw [← HDr'.out]
  exact heap_setCell_same HB.out 0 _

theorem ofN_get (X : List Nat) (hX : Bytes X) (j x : Nat) (hx : X[j]? = some x) : ∃ h : j < (ofN X).size, ((ofN X)[j]'h).toNat = x := by
  obtain ⟨hj, rfl⟩ := List.getElem?_eq_some_iff.1 hx
  refine ⟨by rw [ofN_size]; exact hj, ?_⟩
  have h5 := hX X[j] (List.getElem_mem hj)
  show (((X.map UInt8.ofNat).toArray)[j]'(by simpa using hj)).toNat = _
  simp
  omega

set_option maxRecDepth 100000 in
set_option maxHeartbeats 1000000 in
theorem numOf_any (n : Nat) (w : World) (hn : n < 18446744073709551616) : Calls Tryz.prog 100 #[.string (ofN (lo n 8))] w fun e w' => e = .returned (.int .u64 (n : Int)) ∧ Below w.heap.size w w' := by
  have hsz : (ofN (lo n 8)).size = 8 := by rw [ofN_size, lo_length]
  have HG : Hid (∀ j, j < 8 → ∃ h : j < (ofN (lo n 8)).size, ((ofN (lo n 8))[j]'h).toNat = n / 256 ^ j % 256) := fun j hj => ofN_get (lo n 8) (lo_bytes n 8) j _ (lo_get n 8 j hj)
  have HST : Hid (∀ j, j < 8 → bits .or .u64 ((n % 256 ^ j : Nat) : Int) (((n / 256 ^ j % 256) * 2 ^ (8 * j) : Nat) : Int) = ((n % 256 ^ (j + 1) : Nat) : Int)) := fun j hj => lo_or n j (by omega)
  have HBd : Hid (∀ j, j < 8 → (n / 256 ^ j % 256) * 2 ^ (8 * j) < 18446744073709551616) := fun j hj => by
    have h1 : n / 256 ^ j % 256 < 256 := Nat.mod_lt _ (by decide)
    have h2 : 256 ^ j ≤ 256 ^ 7 := Nat.pow_le_pow_right (by decide) (by omega)
    have h3 : (n / 256 ^ j % 256) * 256 ^ j ≤ 255 * 256 ^ 7 := Nat.mul_le_mul (by omega) h2
    have e7 : 256 ^ 7 = 72057594037927936 := by decide
    rw [e7] at h3
    rw [← pow256]
    omega
  have HE : Hid (n % 256 ^ 8 = n) := Nat.mod_eq_of_lt hn
  obtain ⟨s, hs⟩ : ∃ s, ofN (lo n 8) = s := ⟨_, rfl⟩
  rw [hs] at hsz HG ⊢
  clear hs hn
  go_enter Tryz.func100, Tryz.ntmps100
  go_wp2
  go_loopw [3, 5] (fun v i wr => ∃ j m : Nat, j ≤ 8 ∧ i = .int .i64 j ∧ v = .int .u64 m ∧ Hid (m = n % 256 ^ j) ∧ Hid (Below w.heap.size w wr)) (fun _ i _ => 8 - (intOf i).toNat)
  case atStart => exact ⟨0, 0, Nat.zero_le _, rfl, rfl, (by show _ = _; simp [Nat.mod_one]), Below.refl _ _⟩
  case round =>
    obtain ⟨j, m, hj, rfl, rfl, Hm, HB⟩ := hrel
    by_cases hlt : j < 8
    · obtain ⟨c, hc⟩ : ∃ c, n / 256 ^ j % 256 = c := ⟨_, rfl⟩
      obtain ⟨l0, q1⟩ := HG.out j hlt
      have hs := HST.out j hlt
      have hbd := HBd.out j hlt
      rw [hc] at q1 hs hbd
      rw [← Hm.out] at hs
      have hc256 : c < 256 := by rw [← hc]; exact Nat.mod_lt _ (by decide)
      obtain ⟨a, ha⟩ : ∃ a, 8 * j = a := ⟨_, rfl⟩
      rw [ha] at hs hbd
      obtain ⟨t, ht⟩ : ∃ t, 2 ^ a = t := ⟨_, rfl⟩
      rw [ht] at hs hbd
      obtain ⟨z, hz⟩ : ∃ z, c * t = z := ⟨_, rfl⟩
      rw [hz] at hs hbd
      obtain ⟨m2, hm2⟩ : ∃ m2, n % 256 ^ (j + 1) = m2 := ⟨_, rfl⟩
      rw [hm2] at hs
      have Hm2 : Hid (m2 = n % 256 ^ (j + 1)) := hm2.symm
      have hlI : (j : Int) < 8 := by omega
      have aI : 8 * (j : Int) = (a : Int) := by omega
      have wa : IntKind.i64.wrap (a : Int) = (a : Int) := jwrapI (by omega) (by omega)
      have a0 : (0 : Int) ≤ (a : Int) := by omega
      have htI : (2 : Int) ^ a = (t : Int) := by rw [← ht]; simp
      have hzI : (c : Int) * (t : Int) = (z : Int) := by rw [← hz]; simp
      have wz : IntKind.u64.wrap (z : Int) = (z : Int) := by
        simp [IntKind.wrap, IntKind.bits, IntKind.signed]
        omega
      have wz2 : (z : Int) % 18446744073709551616 = (z : Int) := by omega
      have wc : IntKind.u64.wrap (c : Int) = (c : Int) := by
        simp [IntKind.wrap, IntKind.bits, IntKind.signed]
        omega
      have wc2 : (c : Int) % 18446744073709551616 = (c : Int) := by omega
      clear hc ha ht hz hm2 Hm
      go_wp2
      go_roundw
      case rel => exact ⟨j + 1, m2, by omega, by go_num, rfl, Hm2, HB⟩
      case measure => simp [intOf]; omega
    · obtain rfl : j = 8 := by omega
      have hlI : ¬ ((8 : Nat) : Int) < 8 := by omega
      go_wp2
      go_ret
      exact ⟨by rw [← HE.out, ← Hm.out]; rfl, HB.out⟩
end Go.Proofs.YtigegdelhpdlhaaGreatDoor
