/- The program's names: which may be. -/
import Derived.Test.YtibglhlhogfdnaaDoorUTab
namespace Go.Proofs.YtibglhlhogfdnaaDoor
open Go.RowKit QP AP

def okN (c : Int) : Bool := (decide (97 ≤ c) && decide (c ≤ 122)) || (decide (48 ≤ c) && decide (c ≤ 57)) || (c == 46)
theorem okN_eq (c : UInt8) : okN (c.toNat : Int) = nameB c := by
  unfold okN nameB
  rw [Bool.eq_iff_iff]
  simp
  omega
theorem retB {a b : Bool} (h : a = b) : Ending.returned (.bool a) = .returned (.bool b) := by rw [h]

set_option maxHeartbeats 400000 in
theorem nameByte_any (c : Int) (w : World) :
    Calls Tryd.prog 42 #[.int .u8 c] w fun e w' => e = .returned (.bool (okN c)) ∧ w' = w := by
  go_enter Tryd.func42, Tryd.ntmps42
  go_wp2
  all_goals (go_ret; refine ⟨retB ?_, rfl⟩; rw [Bool.eq_iff_iff]; simp [okN]; omega)

theorem size_list (k : ByteArray) : k.data.toList.length = k.size := rfl
theorem name_take (k : ByteArray) (j : Nat) (hj : j < k.size) (h : (k.data.toList.take j).all nameB = true) : (k.data.toList.take (j + 1)).all nameB = okN (k[j].toNat : Int) := by
  rw [List.take_succ_eq_append_getElem (by simpa using hj), List.all_append, h, okN_eq]
  simp
  rfl
theorem name_no (k : ByteArray) (n : Nat) (h : (k.data.toList.take n).all nameB = false) : nameOk k = false := by
  unfold nameOk
  have e : k.data.toList.all nameB = false := by
    rw [← List.take_append_drop n k.data.toList, List.all_append, h]; rfl
  rw [e, Bool.and_false]
theorem name_yes (k : ByteArray) (j : Nat) (hj : ¬ j < k.size) (h1 : ¬ (k.size : Int) < 1) (h2 : ¬ (32 : Int) < k.size) (h : (k.data.toList.take j).all nameB = true) : nameOk k = true := by
  rw [List.take_of_length_le (by rw [size_list]; omega)] at h
  unfold nameOk
  rw [h, decide_eq_true (by omega), decide_eq_true (by omega)]
  rfl

set_option maxHeartbeats 400000 in
theorem nameMayBe_any (k : ByteArray) (w : World) (hk : k.size ≤ 9223372036854775807) :
    Calls Tryd.prog 26 #[.string k] w fun e w' => e = .returned (.bool (nameOk k)) ∧ w' = w := by
  by_cases h1 : k.size < 1 ∨ 32 < k.size
  · have hf : nameOk k = false := by
      unfold nameOk
      rcases h1 with h | h
      · have : decide (1 ≤ k.size) = false := decide_eq_false (by omega)
        rw [this]; rfl
      · have : decide (k.size ≤ 32) = false := decide_eq_false (by omega)
        rw [this]; simp
    rw [hf]
    by_cases h2 : k.size < 1
    · have h2' : (k.size : Int) < 1 := by omega
      go_enter Tryd.func26, Tryd.ntmps26
      go_wp2
      go_ret
      exact ⟨rfl, rfl⟩
    · have h3 : (32 : Int) < k.size := by omega
      have h2' : ¬ (k.size : Int) < 1 := by omega
      go_enter Tryd.func26, Tryd.ntmps26
      go_wp2
      go_ret
      exact ⟨rfl, rfl⟩
  · have h2 : ¬ (k.size : Int) < 1 := by omega
    have h3 : ¬ (32 : Int) < k.size := by omega
    go_enter Tryd.func26, Tryd.ntmps26
    go_wp2
    go_loop [3, 14] (fun _ i => ∃ j : Nat, j ≤ k.size ∧ i = .int .i64 j ∧ Hid ((k.data.toList.take j).all nameB = true)) (fun _ i => k.size - (intOf i).toNat)
    case atStart => exact ⟨0, Nat.zero_le _, rfl, (rfl : _ = _)⟩
    case round =>
      obtain ⟨j, hj, rfl, HA⟩ := hrel
      by_cases hlt : j < k.size
      · have HS : Hid ((k.data.toList.take (j + 1)).all nameB = okN (k[j].toNat : Int)) := name_take k j hlt HA.out
        go_wp2_with (go_at_call 42; refine (nameByte_any _ _).mono ?_; rintro e w' ⟨rfl, rfl⟩)
        · have hb : okN (k[j].toNat : Int) = false := by simpa using ‹(!okN (k[j].toNat : Int)) = true›
          go_ret
          exact ⟨retB (name_no k (j + 1) (HS.out.trans hb)).symm, rfl⟩
        · have hb : okN (k[j].toNat : Int) = true := by simpa using ‹(!okN (k[j].toNat : Int)) = false›
          go_round
          case rel => exact ⟨j + 1, by omega, by go_num, HS.out.trans hb⟩
          case measure => simp [intOf]; omega
      · go_wp2
        go_ret
        exact ⟨retB (name_yes k j hlt (by omega) (by omega) HA.out).symm, rfl⟩
end Go.Proofs.YtibglhlhogfdnaaDoor
