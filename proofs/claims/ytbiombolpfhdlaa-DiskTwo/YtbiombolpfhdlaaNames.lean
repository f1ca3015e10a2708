/- A name may be: what the code's two tests answer is what the plain model answers. -/
import Derived.Test.YtbiombolpfhdlaaProg
import Derived.Test.YtbiombolpfhdlaaPure
import Derived.WalkKit
import Derived.WalkSpells
import Derived.WalkLawsBesides
namespace Go.Proofs.Ytbiombolpfhdlaa
open Go.RowKit

def Dk.okB (c : Int) : Bool := (decide (97 ≤ c) && decide (c ≤ 122)) || (decide (48 ≤ c) && decide (c ≤ 57)) || (c == 46)

theorem Dk.okB_eq (c : UInt8) : Dk.okB (c.toNat : Int) = Dk.okByte c := by
  unfold Dk.okB Dk.okByte
  rw [Bool.eq_iff_iff]
  simp
  omega

theorem ret_bool {a b : Bool} (h : a = b) : Ending.returned (.bool a) = .returned (.bool b) := by rw [h]

set_option maxHeartbeats 400000 in
theorem nameByte_any (c : Int) (w : World) :
    Calls Try.prog 50 #[.int .u8 c] w fun e w' => e = .returned (.bool (Dk.okB c)) ∧ w' = w := by
  go_enter Try.func50, Try.ntmps50
  go_wp2
  all_goals (go_ret; refine ⟨ret_bool ?_, rfl⟩; rw [Bool.eq_iff_iff]; simp [Dk.okB]; omega)

def Dk.okS (k : ByteArray) : Bool := Dk.okName k.data.toList

theorem Dk.okS_take (k : ByteArray) (j : Nat) (hj : j < k.size) (h : (k.data.toList.take j).all Dk.okByte = true) :
    (k.data.toList.take (j + 1)).all Dk.okByte = Dk.okB (k[j].toNat : Int) := by
  rw [List.take_succ_eq_append_getElem (by simpa using hj), List.all_append, h, Dk.okB_eq]
  simp
  rfl

theorem Dk.okS_no (k : ByteArray) (n : Nat) (h : (k.data.toList.take n).all Dk.okByte = false) : Dk.okS k = false := by
  unfold Dk.okS Dk.okName
  have e : k.data.toList.all Dk.okByte = false := by
    rw [← List.take_append_drop n k.data.toList, List.all_append, h]; rfl
  rw [e, Bool.and_false]

theorem Dk.okS_yes (k : ByteArray) (j : Nat) (hj : ¬ j < k.size) (h1 : ¬ (k.size : Int) < 1) (h2 : ¬ (32 : Int) < k.size) (h : (k.data.toList.take j).all Dk.okByte = true) : Dk.okS k = true := by
  have e0 : k.data.toList.length = k.size := rfl
  rw [List.take_of_length_le (by rw [e0]; omega)] at h
  unfold Dk.okS Dk.okName
  rw [h, e0, decide_eq_true (by omega), decide_eq_true (by omega)]
  rfl

set_option maxHeartbeats 400000 in
theorem nameMayBe_any (k : ByteArray) (w : World) (hk : k.size ≤ maxLen) :
    Calls Try.prog 36 #[.string k] w fun e w' => e = .returned (.bool (Dk.okS k)) ∧ w' = w := by
  unfold maxLen at hk
  by_cases h1 : k.size < 1 ∨ 32 < k.size
  · have hf : Dk.okS k = false := by
      unfold Dk.okS Dk.okName
      have e : k.data.toList.length = k.size := rfl
      rw [e]
      rcases h1 with h | h
      · have : decide (1 ≤ k.size) = false := decide_eq_false (by omega)
        rw [this]; rfl
      · have : decide (k.size ≤ 32) = false := decide_eq_false (by omega)
        rw [this]; simp
    rw [hf]
    by_cases h2 : k.size < 1
    · have h2' : (k.size : Int) < 1 := by omega
      go_enter Try.func36, Try.ntmps36
      go_wp2
      go_ret
      exact ⟨rfl, rfl⟩
    · have h3 : (32 : Int) < k.size := by omega
      have h2' : ¬ (k.size : Int) < 1 := by omega
      go_enter Try.func36, Try.ntmps36
      go_wp2
      go_ret
      exact ⟨rfl, rfl⟩
  · have h2 : ¬ (k.size : Int) < 1 := by omega
    have h3 : ¬ (32 : Int) < k.size := by omega
    go_enter Try.func36, Try.ntmps36
    go_wp2
    go_loop [3, 14] (fun _ i => ∃ j : Nat, j ≤ k.size ∧ i = .int .i64 j ∧ (k.data.toList.take j).all Dk.okByte = true) (fun _ i => k.size - (intOf i).toNat)
    case atStart => exact ⟨0, Nat.zero_le _, rfl, rfl⟩
    case round =>
      obtain ⟨j, hj, rfl, hall⟩ := hrel
      by_cases hlt : j < k.size
      · have hst := Dk.okS_take k j hlt hall
        have HS : Hid ((k.data.toList.take (j + 1)).all Dk.okByte = Dk.okB (k[j].toNat : Int)) := hst
        have HA : Hid ((k.data.toList.take j).all Dk.okByte = true) := hall
        clear hst hall
        go_wp2_with (go_at_call 50; refine (nameByte_any _ _).mono ?_; rintro e w' ⟨rfl, rfl⟩)
        · have hb : Dk.okB (k[j].toNat : Int) = false := by simpa using ‹(!Dk.okB (k[j].toNat : Int)) = true›
          go_ret
          exact ⟨ret_bool (Dk.okS_no k (j + 1) (HS.out.trans hb)).symm, rfl⟩
        · have hb : Dk.okB (k[j].toNat : Int) = true := by simpa using ‹(!Dk.okB (k[j].toNat : Int)) = false›
          go_round
          case rel => exact ⟨j + 1, by omega, by go_num, HS.out.trans hb⟩
          case measure => simp [intOf]; omega
      · have HA : Hid ((k.data.toList.take j).all Dk.okByte = true) := hall
        clear hall
        go_wp2
        go_ret
        exact ⟨ret_bool (Dk.okS_yes k j hlt (by omega) (by omega) HA.out).symm, rfl⟩

end Go.Proofs.Ytbiombolpfhdlaa
