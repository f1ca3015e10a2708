/- The program's sum of bytes is the plain one. -/
import Derived.Test.YthiihilifckapaaFRef
import Derived.WalkMore
namespace Go.Proofs.Ythiihilifckapaa
open Go.RowKit

theorem bit_step {Y : Nat} (h : Y < 4294967296) : bits .xor .u32 ((Y : Int) / 2) (bits .and .u32 3988292384 (-bits .and .u32 (Y : Int) 1 % 4294967296)) = (crcBit Y : Int) := by
  have h1 : bits .and .u32 (Y : Int) (1 : Int) = ((Y &&& 1 : Nat) : Int) := u32_and_nat Y 1 h (by decide)
  rw [h1, Nat.and_one_is_mod]
  rcases Nat.mod_two_eq_zero_or_one Y with p | p
  · rw [p, crcBit_even p]
    have h2 : bits .and .u32 (3988292384 : Int) (-((0 : Nat) : Int) % 4294967296) = ((3988292384 &&& 0 : Nat) : Int) := u32_and_nat 3988292384 0 (by decide) (by decide)
    have h3 : bits .xor .u32 ((Y : Int) / 2) ((0 : Nat) : Int) = ((Y / 2 ^^^ 0 : Nat) : Int) := u32_xor_nat (Y / 2) 0 (by omega) (by decide)
    rw [h2, Nat.and_zero, h3, Nat.xor_zero]
  · rw [p, crcBit_odd p]
    have h2 : bits .and .u32 (3988292384 : Int) (-((1 : Nat) : Int) % 4294967296) = ((3988292384 &&& 4294967295 : Nat) : Int) := u32_and_nat 3988292384 4294967295 (by decide) (by decide)
    have h3 : bits .xor .u32 ((Y : Int) / 2) ((3988292384 : Nat) : Int) = ((Y / 2 ^^^ 3988292384 : Nat) : Int) := u32_xor_nat (Y / 2) 3988292384 (by omega) (by decide)
    rw [h2, show 3988292384 &&& 4294967295 = 3988292384 by decide, h3]

theorem bits_not {S : Nat} (h : S < 4294967296) : bits .xor .u32 IntKind.u32.max (S : Int) = ((S ^^^ 4294967295 : Nat) : Int) := by
  have h1 : bits .xor .u32 (4294967295 : Int) (S : Int) = ((4294967295 ^^^ S : Nat) : Int) := u32_xor_nat 4294967295 S (by decide) h
  rw [Nat.xor_comm, ← h1]
  rfl

set_option maxHeartbeats 400000 in
theorem fSum_any (b : ByteArray) (w : World) (hb : b.size ≤ maxLen) :
    Calls Try.prog 9 #[.string b] w fun e w' => e = .returned (.int .u32 ((crc b.data.toList : Nat) : Int)) ∧ w' = w := by
  unfold maxLen at hb
  go_enter Try.func9, Try.ntmps9
  go_wp2
  go_loop [3, 8] (fun s i => ∃ j : Nat, j ≤ b.size ∧ i = .int .i64 j ∧ s = .int .u32 ((crcOn 4294967295 (b.data.toList.take j) : Nat) : Int)) (fun _ i => b.size - (intOf i).toNat)
  case atStart => exact ⟨0, Nat.zero_le _, rfl, rfl⟩
  case round =>
    obtain ⟨j, hj, rfl, rfl⟩ := hrel
    obtain ⟨S, hS⟩ : ∃ S, crcOn 4294967295 (b.data.toList.take j) = S := ⟨_, rfl⟩
    have hS2 : S < 4294967296 := hS ▸ crcOn_lt _ (by decide)
    rw [hS]
    by_cases hlt : j < b.size
    · obtain ⟨X, hX⟩ : ∃ X, S ^^^ b[j].toNat = X := ⟨_, rfl⟩
      have hX2 : X < 4294967296 := hX ▸ xor_lt32 hS2 (byte_lt32 _)
      have hx : bits .xor .u32 (S : Int) ((b[j].toNat : Int) % 4294967296) = (X : Int) := by rw [show (b[j].toNat : Int) % 4294967296 = (b[j].toNat : Int) by have := byte_lt32 b[j]; omega, u32_xor_nat S _ hS2 (byte_lt32 _), hX]
      have HX : Hid (crcOn 4294967295 (b.data.toList.take (j + 1)) = crcBits 8 X) := (by rw [crcOn_take b _ j hlt, hS, hX] : _ = _)
      clear hS hX
      go_wp2
      go_step3
      go_wp2
      go_step3
      go_wp2
      go_loop [3, 5] (fun s k => ∃ n : Nat, n ≤ 8 ∧ k = .int .i64 (8 - (n : Int)) ∧ s = .int .u32 ((crcBits n X : Nat) : Int)) (fun _ k => (intOf k).toNat)
      case atStart => exact ⟨0, Nat.zero_le _, rfl, rfl⟩
      case round =>
        obtain ⟨n, hn, rfl, rfl⟩ := hrel
        obtain ⟨Y, hY⟩ : ∃ Y, crcBits n X = Y := ⟨_, rfl⟩
        have hY2 : Y < 4294967296 := hY ▸ crcBits_lt _ hX2
        rw [hY]
        by_cases h8 : n < 8
        · have HY : Hid (crcBits (n + 1) X = crcBit Y) := (by rw [crcBits_succ, hY] : _ = _)
          clear hY
          go_wp2
          go_round
          case rel => exact ⟨n + 1, by omega, by go_num, by rw [HY.out, ← bit_step hY2]⟩
          case measure => simp [intOf]; omega
        · have hn8 : n = 8 := by omega
          subst hn8
          have HY : Hid (crcBits 8 X = Y) := hY
          clear hY
          go_wp2
          go_round
          case rel => exact ⟨j + 1, by omega, by go_num, by rw [HX.out, HY.out]⟩
          case measure => simp [intOf]; omega
    · have HS : Hid (crc b.data.toList = S ^^^ 4294967295) := (by
        unfold crc
        rw [List.take_of_length_le (by have : b.data.toList.length = b.size := rfl; omega)] at hS
        rw [hS] : _ = _)
      clear hS
      go_wp2
      go_ret
      exact ⟨by rw [HS.out, ← bits_not hS2]; rfl, rfl⟩

end Go.Proofs.Ythiihilifckapaa
