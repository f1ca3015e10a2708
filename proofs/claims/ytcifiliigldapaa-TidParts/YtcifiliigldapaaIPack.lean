/- Pack and Unpack, the program's and the document's. -/
import Derived.Test.YtcifiliigldapaaICalls
import Derived.Deep.DeepMust
namespace Go.Proofs.Ytcifiliigldapaa
open Go.RowKit

theorem packs_iff {e s : Int} : packs e s = true ↔ (0 ≤ e ∧ e ≤ 2147483648) ∧ 0 ≤ s ∧ s ≤ 1048575 := by simp [packs, within]

theorem ret_pair {k l : IntKind} {a b a' b' : Int} (h : a = a') (h' : b = b') : Ending.returned (.tuple #[.int k a, .int l b]) = .returned (.tuple #[.int k a', .int l b']) := by rw [h, h']

set_option maxHeartbeats 1000000 in
theorem pack_any (e s : Int) (l a t : Bool) (w : World) : Calls Try.prog 7 #[.int .i64 e, .int .i64 s, .bool l, .bool a, .bool t] w fun x w' => x = .returned (.tuple #[.int .u64 (packW e s l a t), .int .i64 (packE e s)]) ∧ w' = w := by
  by_cases hp : packs e s = true
  · obtain ⟨⟨e0, e1⟩, s0, s1⟩ := packs_iff.1 hp
    have Hw : Hid (packW e s l a t = wordOf e s l a t) := by show _ = _; unfold packW; rw [if_pos hp]
    have He : Hid (packE e s = 0) := by show _ = _; unfold packE; rw [if_pos hp]
    have HE : Hid (within e 2147483648 = true) := by show _ = _; unfold within; simp [e0, e1]
    have HS : Hid (within s 1048575 = true) := by show _ = _; unfold within; simp [s0, s1]
    clear hp
    obtain ⟨B, hB⟩ : ∃ B, e * 8388608 + s * 8 = B := ⟨_, rfl⟩
    have k0 : bits .or .u64 (e * 8388608) (s * 8) = B := by rw [or_join 23 (by omega) (by omega) (by omega) (by omega) (by omega) (by omega), hB]
    have hB0 : 0 ≤ B := by omega
    have hB1 : B < 18014407099416576 := by omega
    have hB8 : B % 8 = 0 := by omega
    have HB : Hid (e * 8388608 + s * 8 = B) := hB
    have k1 : bits .or .u64 B 1 = B + 1 := or_join 1 hB0 (by omega) (by omega) (by decide) (by decide) (by decide)
    have k2 : bits .or .u64 B 2 = B + 2 := or_join 2 hB0 (by omega) (by omega) (by decide) (by decide) (by decide)
    have k3 : bits .or .u64 B 4 = B + 4 := or_join 3 hB0 (by omega) (by omega) (by decide) (by decide) (by decide)
    have k4 : bits .or .u64 (B + 1) 2 = B + 3 := by
      have h : bits .or .u64 (B + 1) 2 = bits .or .u64 B 3 := by
        have h1 : B + 1 = ((B + 1).toNat : Int) := by omega
        have h2 : B = (B.toNat : Int) := by omega
        have e1 := u64_or_nat (B + 1).toNat 2 (by omega) (by decide)
        have e2 := u64_or_nat B.toNat 3 (by omega) (by decide)
        have e3 := u64_or_nat B.toNat 1 (by omega) (by decide)
        rw [← h2] at e2 e3
        rw [← h1] at e1
        have e4 : (B + 1).toNat = B.toNat ||| 1 := by
          have : ((B.toNat ||| 1 : Nat) : Int) = B + 1 := by rw [← e3]; exact k1
          omega
        rw [e4, Nat.or_assoc] at e1
        exact e1.trans e2.symm
      rw [h]
      exact or_join 2 hB0 (by omega) (by omega) (by decide) (by decide) (by decide)
    have k5 : bits .or .u64 (B + 1) 4 = B + 5 := by
      have h : bits .or .u64 (B + 1) 4 = bits .or .u64 B 5 := by
        have h1 : B + 1 = ((B + 1).toNat : Int) := by omega
        have h2 : B = (B.toNat : Int) := by omega
        have e1 := u64_or_nat (B + 1).toNat 4 (by omega) (by decide)
        have e2 := u64_or_nat B.toNat 5 (by omega) (by decide)
        have e3 := u64_or_nat B.toNat 1 (by omega) (by decide)
        rw [← h2] at e2 e3
        rw [← h1] at e1
        have e4 : (B + 1).toNat = B.toNat ||| 1 := by
          have : ((B.toNat ||| 1 : Nat) : Int) = B + 1 := by rw [← e3]; exact k1
          omega
        rw [e4, Nat.or_assoc] at e1
        exact e1.trans e2.symm
      rw [h]
      exact or_join 3 hB0 (by omega) (by omega) (by decide) (by decide) (by decide)
    have k6 : bits .or .u64 (B + 2) 4 = B + 6 := by
      have h : bits .or .u64 (B + 2) 4 = bits .or .u64 B 6 := by
        have h1 : B + 2 = ((B + 2).toNat : Int) := by omega
        have h2 : B = (B.toNat : Int) := by omega
        have e1 := u64_or_nat (B + 2).toNat 4 (by omega) (by decide)
        have e2 := u64_or_nat B.toNat 6 (by omega) (by decide)
        have e3 := u64_or_nat B.toNat 2 (by omega) (by decide)
        rw [← h2] at e2 e3
        rw [← h1] at e1
        have e4 : (B + 2).toNat = B.toNat ||| 2 := by
          have : ((B.toNat ||| 2 : Nat) : Int) = B + 2 := by rw [← e3]; exact k2
          omega
        rw [e4, Nat.or_assoc] at e1
        exact e1.trans e2.symm
      rw [h]
      exact or_join 3 hB0 (by omega) (by omega) (by decide) (by decide) (by decide)
    have k7 : bits .or .u64 (B + 3) 4 = B + 7 := by
      have h : bits .or .u64 (B + 3) 4 = bits .or .u64 B 7 := by
        have h1 : B + 3 = ((B + 3).toNat : Int) := by omega
        have h2 : B = (B.toNat : Int) := by omega
        have e1 := u64_or_nat (B + 3).toNat 4 (by omega) (by decide)
        have e2 := u64_or_nat B.toNat 7 (by omega) (by decide)
        have e3 := u64_or_nat B.toNat 3 (by omega) (by decide)
        rw [← h2] at e2 e3
        rw [← h1] at e1
        have e4 : (B + 3).toNat = B.toNat ||| 3 := by
          have e5 : bits .or .u64 B 3 = B + 3 := or_join 2 hB0 (by omega) (by omega) (by decide) (by decide) (by decide)
          have : ((B.toNat ||| 3 : Nat) : Int) = B + 3 := by rw [← e3]; exact e5
          omega
        rw [e4, Nat.or_assoc] at e1
        exact e1.trans e2.symm
      rw [h]
      exact or_join 3 hB0 (by omega) (by omega) (by decide) (by decide) (by decide)
    have HF : Hid (∀ c : Int, c = b1 t * 4 + b1 a * 2 + b1 l → packW e s l a t = B + c) := by
      intro c hc
      rw [Hw.out, hc]
      unfold wordOf
      have := HB.out
      omega
    clear hB hB0 hB1 hB8 Hw
    cases l <;> cases a <;> cases t
    all_goals
      go_enter Try.func7, Try.ntmps7
      go_wp2_with fail
      refine (within_yes e _ _ HE.out).mono ?_
      rintro y w1 ⟨rfl, rfl⟩
      go_wp2_with fail
      refine (within_yes s _ _ HS.out).mono ?_
      rintro y w1 ⟨rfl, rfl⟩
      go_wp2_with fail
      go_ret2
      exact ⟨ret_pair (by rw [HF.out _ rfl]; simp [b1]) He.out.symm, rfl⟩
  · have hn : ¬ (((0 ≤ e ∧ e ≤ 2147483648)) ∧ 0 ≤ s ∧ s ≤ 1048575) := fun h => hp (packs_iff.2 h)
    have Hw : Hid (packW e s l a t = 0) := by show _ = _; unfold packW; rw [if_neg hp]
    have He : Hid (packE e s = 1) := by show _ = _; unfold packE; rw [if_neg hp]
    by_cases h1 : within e 2147483648 = true
    · have HE : Hid (within e 2147483648 = true) := h1
      have HS : Hid (within s 1048575 = false) := by
        show _ = _
        have h2 : packs e s = false := by simpa using hp
        unfold packs at h2
        rw [h1, Bool.true_and] at h2
        exact h2
      clear hp hn h1
      go_enter Try.func7, Try.ntmps7
      go_wp2_with fail
      refine (within_yes e _ _ HE.out).mono ?_
      rintro y w1 ⟨rfl, rfl⟩
      go_wp2_with fail
      refine (within_no s _ _ HS.out).mono ?_
      rintro y w1 ⟨rfl, rfl⟩
      go_wp2_with fail
      go_ret2
      exact ⟨ret_pair Hw.out.symm He.out.symm, rfl⟩
    · have HE : Hid (within e 2147483648 = false) := by show _ = _; simpa using h1
      clear hp hn h1
      go_enter Try.func7, Try.ntmps7
      go_wp2_with fail
      refine (within_no e _ _ HE.out).mono ?_
      rintro y w1 ⟨rfl, rfl⟩
      go_wp2_with fail
      go_ret2
      exact ⟨ret_pair Hw.out.symm He.out.symm, rfl⟩

theorem results_tmp6 {fn : Func} {t0 t1 t2 t3 t4 t5 : Tmp} (h : fn.results = #[.tmp t0, .tmp t1, .tmp t2, .tmp t3, .tmp t4, .tmp t5]) (tmps : Array Value) (P : Program) (w : World) :
    (results fn tmps).run P w = .ok (.tuple #[tmps.getD t0 undef, tmps.getD t1 undef, tmps.getD t2 undef, tmps.getD t3 undef, tmps.getD t4 undef, tmps.getD t5 undef]) w := by
  simp [results, h]

theorem may_epoch {x : Int} (h : may x = true) : x / 8388608 ≤ 2147483648 := by simpa [may] using h

set_option maxHeartbeats 1000000 in
theorem unpack_yes (x : Int) (w : World) (h0 : 0 ≤ x) (h1 : x < 18446744073709551616) (hm : may x = true) : Calls Try.prog 11 #[.int .u64 x] w fun y w' => y = .returned (.tuple #[.int .i64 (x / 8388608), .int .i64 (x / 8 % 1048576), .bool (x % 2 != 0), .bool (x / 2 % 2 * 2 != 0), .bool (x / 4 % 2 * 4 != 0), .int .i64 0]) ∧ w' = w := by
  have k1 := and_seq h0 h1
  have k2 := and_one h0 h1
  have k3 := and_two h0 h1
  have k4 := and_four h0 h1
  have he := may_epoch hm
  have k5 : x / 8 % 1048576 * 8 / 8 = x / 8 % 1048576 := by omega
  have k6 : IntKind.i64.wrap (x / 8 % 1048576) = x / 8 % 1048576 := by rw [IntKind.wrap_i64]; omega
  have k7 : IntKind.i64.wrap (x / 8388608) = x / 8388608 := by rw [IntKind.wrap_i64]; omega
  have HM : Hid (∀ u, Calls Try.prog 21 #[.int .u64 x] u fun e w' => e = .returned (.bool true) ∧ w' = u) := fun u => (mayBe_any x u h0 h1).mono fun e w' h => by rw [hm] at h; exact h
  clear hm
  go_enter Try.func11, Try.ntmps11
  go_wp2_with fail
  refine (HM.out _).mono ?_
  rintro y w1 ⟨rfl, rfl⟩
  go_wp2_with fail
  try simp only [Exit.inBlock, Exit.then]
  refine bodyPost_ret (results_tmp6 rfl _ _ _) rfl ?_
  exact ⟨rfl, rfl⟩

theorem unpack_no (x : Int) (w : World) (h0 : 0 ≤ x) (h1 : x < 18446744073709551616) (hm : may x = false) : Calls Try.prog 11 #[.int .u64 x] w fun y w' => y = .returned (.tuple #[.int .i64 0, .int .i64 0, .bool false, .bool false, .bool false, .int .i64 90]) ∧ w' = w := by
  have HM : Hid (∀ u, Calls Try.prog 21 #[.int .u64 x] u fun e w' => e = .returned (.bool false) ∧ w' = u) := fun u => (mayBe_any x u h0 h1).mono fun e w' h => by rw [hm] at h; exact h
  clear hm
  go_enter Try.func11, Try.ntmps11
  go_wp2_with fail
  refine (HM.out _).mono ?_
  rintro y w1 ⟨rfl, rfl⟩
  go_wp2_with fail
  try simp only [Exit.inBlock, Exit.then]
  refine bodyPost_ret (results_tmp6 rfl _ _ _) rfl ?_
  exact ⟨rfl, rfl⟩

end Go.Proofs.Ytcifiliigldapaa
