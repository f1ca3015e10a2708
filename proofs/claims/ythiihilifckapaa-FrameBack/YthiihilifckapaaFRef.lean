/- The document's sum of bytes is the plain one. -/
import Derived.Test.YthiihilifckapaaCPure
import Derived.Test.YthiihilifckapaaProg
import Derived.WalkKit
import Derived.WalkSpells
import Derived.WalkLawsBesides
import Derived.Laws.BitsAllLaws
namespace Go.Proofs.Ythiihilifckapaa
open Go.RowKit

theorem crcBits_succ : ∀ (n s : Nat), crcBits (n + 1) s = crcBit (crcBits n s)
  | 0, _ => rfl
  | n + 1, s => by rw [show crcBits (n + 1 + 1) s = crcBits (n + 1) (crcBit s) from rfl, crcBits_succ n]; rfl

theorem crcOn_take (b : ByteArray) (s j : Nat) (hj : j < b.size) : crcOn s (b.data.toList.take (j + 1)) = crcBits 8 (crcOn s (b.data.toList.take j) ^^^ b[j].toNat) := by
  rw [List.take_succ_eq_append_getElem (by simpa using hj), crcOn_append, crcOn_cons, crcOn_nil]
  rfl

theorem crcBit_odd {s : Nat} (h : s % 2 = 1) : crcBit s = (s / 2) ^^^ 3988292384 := by unfold crcBit; rw [if_pos h]
theorem crcBit_even {s : Nat} (h : s % 2 = 0) : crcBit s = s / 2 := by unfold crcBit; rw [if_neg (by omega)]

set_option maxHeartbeats 400000 in
theorem rfSum_any (b : ByteArray) (w : World) (hb : b.size ≤ maxLen) :
    Calls Try.prog 10 #[.string b] w fun e w' => e = .returned (.int .u32 ((crc b.data.toList : Nat) : Int)) ∧ w' = w := by
  unfold maxLen at hb
  go_enter Try.func10, Try.ntmps10
  go_wp2
  go_loop [3, 4] (fun s i => ∃ j : Nat, j ≤ b.size ∧ i = .int .i64 j ∧ s = .int .u32 ((crcOn 4294967295 (b.data.toList.take j) : Nat) : Int)) (fun _ i => b.size - (intOf i).toNat)
  case atStart => exact ⟨0, Nat.zero_le _, rfl, rfl⟩
  case round =>
    obtain ⟨j, hj, rfl, rfl⟩ := hrel
    obtain ⟨S, hS⟩ : ∃ S, crcOn 4294967295 (b.data.toList.take j) = S := ⟨_, rfl⟩
    have hS2 : S < 4294967296 := hS ▸ crcOn_lt _ (by decide)
    rw [hS]
    by_cases hlt : j < b.size
    · obtain ⟨X, hX⟩ : ∃ X, S ^^^ b[j].toNat = X := ⟨_, rfl⟩
      have hX2 : X < 4294967296 := hX ▸ xor_lt32 hS2 (byte_lt32 _)
      have hx : bits .xor .u32 (S : Int) ((b[j].toNat : Int) % 4294967296) = (X : Int) := by rw [show (b[j].toNat : Int) % 4294967296 = (b[j].toNat : Int) by have := byte_lt32 b[j]; omega, u32_xor_nat S _ hS2 (byte_lt32 _), hX]
      have HX : Hid (crcOn 4294967295 (b.data.toList.take (j + 1)) = crcBits 8 X) := (by rw [crcOn_take b _ j hlt, hS, hX] : _ = _)
      clear hS hX
      go_wp2
      go_loop [3, 5] (fun s k => ∃ n : Nat, n ≤ 8 ∧ k = .int .i64 n ∧ s = .int .u32 ((crcBits n X : Nat) : Int)) (fun _ k => 8 - (intOf k).toNat)
      case atStart => exact ⟨0, Nat.zero_le _, rfl, rfl⟩
      case round =>
        obtain ⟨n, hn, rfl, rfl⟩ := hrel
        obtain ⟨Y, hY⟩ : ∃ Y, crcBits n X = Y := ⟨_, rfl⟩
        have hY2 : Y < 4294967296 := hY ▸ crcBits_lt _ hX2
        rw [hY]
        by_cases h8 : n < 8
        · have HY : Hid (crcBits (n + 1) X = crcBit Y) := (by rw [crcBits_succ, hY] : _ = _)
          clear hY
          rcases Nat.mod_two_eq_zero_or_one Y with p | p
          · have HP : Hid (Y % 2 = 0) := p
            have p2 : (Y : Int) % 2 = 0 := by omega
            clear p
            go_wp2
            go_round
            case rel => exact ⟨n + 1, by omega, by go_num, by rw [HY.out, crcBit_even HP.out]; rfl⟩
            case measure => simp [intOf]; omega
          · have HP : Hid (Y % 2 = 1) := p
            have p2 : (Y : Int) % 2 = 1 := by omega
            have p4 : bits .xor .u32 ((Y : Int) / 2) (3988292384 : Int) = (((Y / 2) ^^^ 3988292384 : Nat) : Int) := u32_xor_nat (Y / 2) 3988292384 (by omega) (by omega)
            clear p
            go_wp2
            go_round
            case rel => exact ⟨n + 1, by omega, by go_num, by rw [HY.out, crcBit_odd HP.out]⟩
            case measure => simp [intOf]; omega
        · have hn8 : n = 8 := by omega
          subst hn8
          have HY : Hid (crcBits 8 X = Y) := hY
          clear hY
          go_wp2
          go_round
          case rel => exact ⟨j + 1, by omega, by go_num, by rw [HX.out, HY.out]⟩
          case measure => simp [intOf]; omega
    · have HS : Hid (crc b.data.toList = S ^^^ 4294967295) := (by
        unfold crc
        rw [List.take_of_length_le (by have : b.data.toList.length = b.size := rfl; omega)] at hS
        rw [hS] : _ = _)
      have hx : bits .xor .u32 (S : Int) (4294967295 : Int) = ((S ^^^ 4294967295 : Nat) : Int) := u32_xor_nat S 4294967295 hS2 (by omega)
      clear hS
      go_wp2
      go_ret
      exact ⟨by rw [HS.out]; rfl, rfl⟩

end Go.Proofs.Ythiihilifckapaa
