import Derived.Test.YtigegdelhpdlhaaGreatDoorFRefCJ
import Derived.Deep.DeepMust
import Derived.Sort.EncStr
import Derived.Test.YtigegdelhpdlhaaGreatDoorFRefJ
import Derived.WalkMore
/- The document's frames, one behind the other. -/
namespace Go.Proofs.YtigegdelhpdlhaaGreatDoor
open Go.RowKit

/-- the bodies from a place on, and the place behind the last one; n: no more than these -/
def framesF (b : ByteArray) : Nat → Nat → List (List UInt8) × Nat
  | 0, a => ([], a)
  | n + 1, a => if (found b a).code = 0 then ((found b a).body.data.toList :: (framesF b n (found b a).stop.toNat).1, (framesF b n (found b a).stop.toNat).2) else ([], a)

def frames (b : ByteArray) : List (List UInt8) × Nat := framesF b (b.size + 1) 0

theorem found_ok {b : ByteArray} {a : Nat} (h : (found b a).code = 0) : ∃ k : Nat, (found b a).stop = (k : Int) ∧ a + 8 ≤ k ∧ k ≤ b.size := by
  unfold found at h ⊢
  rw [show ((a : Int)).toNat = a by omega] at h ⊢
  by_cases h0 : (a : Int) < 0 ∨ (b.size : Int) < a
  · rw [if_pos h0] at h; simp at h
  rw [if_neg h0] at h ⊢
  by_cases h1 : b.size < a + 4
  · rw [if_pos h1] at h; simp at h
  rw [if_neg h1] at h ⊢
  by_cases h2 : 65536 < lenAt b a
  · rw [if_pos h2] at h; simp at h
  rw [if_neg h2] at h ⊢
  by_cases h3 : b.size < a + 8 + lenAt b a
  · rw [if_pos h3] at h; simp at h
  rw [if_neg h3] at h ⊢
  by_cases h4 : sumAt b a (lenAt b a) ≠ wasAt b a (lenAt b a)
  · rw [if_pos h4] at h; simp at h
  rw [if_neg h4]
  exact ⟨a + 8 + lenAt b a, by simp, by omega, by omega⟩

theorem framesF_more (b : ByteArray) : ∀ (n m a : Nat), b.size < a + n → b.size < a + m → framesF b n a = framesF b m a
  | 0, 0, _, _, _ => rfl
  | 0, m + 1, a, h, _ => by
    have hc : (found b a).code ≠ 0 := fun e => by
      obtain ⟨k, -, h1, h2⟩ := found_ok e
      omega
    simp only [framesF, if_neg hc]
  | n + 1, 0, a, _, h => by
    have hc : (found b a).code ≠ 0 := fun e => by
      obtain ⟨k, -, h1, h2⟩ := found_ok e
      omega
    simp only [framesF, if_neg hc]
  | n + 1, m + 1, a, h1, h2 => by
    by_cases hc : (found b a).code = 0
    · obtain ⟨k, e, h3, h4⟩ := found_ok hc
      have ih := framesF_more b n m k (by omega) (by omega)
      simp only [framesF, if_pos hc, e, Int.toNat_natCast, ih]
    · simp only [framesF, if_neg hc]

/-- what stands from a place on, for whatever is enough -/
def framesAt (b : ByteArray) (a : Nat) : List (List UInt8) × Nat := framesF b (b.size + 1) a

theorem framesAt_next {b : ByteArray} {a k : Nat} (h : (found b a).code = 0) (hk : (found b a).stop = (k : Int)) : framesAt b a = ((found b a).body.data.toList :: (framesAt b k).1, (framesAt b k).2) := by
  obtain ⟨k', e, h1, h2⟩ := found_ok h
  have ek : k' = k := by omega
  subst ek
  have ih := framesF_more b b.size (b.size + 1) k' (by omega) (by omega)
  show framesF b (b.size + 1) a = (_ :: (framesF b (b.size + 1) k').1, (framesF b (b.size + 1) k').2)
  rw [← ih]
  simp only [framesF, if_pos h, e, Int.toNat_natCast]

theorem framesAt_end {b : ByteArray} {a : Nat} (h : (found b a).code ≠ 0) : framesAt b a = ([], a) := by
  show framesF b (b.size + 1) a = _
  simp only [framesF, if_neg h]

theorem infoStr : (Tryz.prog.info? 9).map (fun i => (i.zero, i.size, i.bytes)) = some (some (.string ByteArray.empty), 1, 16) := by kernel_rfl

theorem infoStr_parts : ∃ i, Tryz.prog.info? 9 = some i ∧ i.zero = some (.string ByteArray.empty) ∧ i.size = 1 ∧ i.bytes = 16 := by
  have h := infoStr
  cases hq : Tryz.prog.info? 9 with
  | none => rw [hq] at h; cases h
  | some i =>
    rw [hq] at h
    simp only [Option.map_some, Option.some.injEq, Prod.mk.injEq] at h
    exact ⟨i, rfl, h.1, h.2.1, h.2.2⟩

theorem enc_self (x : ByteArray) : Go.Proofs.encStr x.data.toList = .string x := by cases x; rfl

theorem row_kept {w w' : World} {base : Nat} {e : TypeId} {size : Nat} {v : Value} {n : Nat} {xs : List Value} (h : w.ownsRow base e size v n xs) (hb : Below w.heap.size w w') : w'.ownsRow base e size v n xs :=
  ownsRow_block h fun g hg => hb.block g (h.lt g hg).2

end Go.Proofs.YtigegdelhpdlhaaGreatDoor

/- The program's sum of bytes is the plain one. -/
namespace Go.Proofs.YtigegdelhpdlhaaGreatDoor
open Go.RowKit

theorem bit_step {Y : Nat} (h : Y < 4294967296) : bits .xor .u32 ((Y : Int) / 2) (bits .and .u32 3988292384 (-bits .and .u32 (Y : Int) 1 % 4294967296)) = (crcBit Y : Int) := by
  have h1 : bits .and .u32 (Y : Int) (1 : Int) = ((Y &&& 1 : Nat) : Int) := u32_and_nat Y 1 h (by decide)
  rw [h1, Nat.and_one_is_mod]
  rcases Nat.mod_two_eq_zero_or_one Y with p | p
  · rw [p, crcBit_even p]
    have h2 : bits .and .u32 (3988292384 : Int) (-((0 : Nat) : Int) % 4294967296) = ((3988292384 &&& 0 : Nat) : Int) := u32_and_nat 3988292384 0 (by decide) (by decide)
    have h3 : bits .xor .u32 ((Y : Int) / 2) ((0 : Nat) : Int) = ((Y / 2 ^^^ 0 : Nat) : Int) := u32_xor_nat (Y / 2) 0 (by omega) (by decide)
    rw [h2, Nat.and_zero, h3, Nat.xor_zero]
  · rw [p, crcBit_odd p]
    have h2 : bits .and .u32 (3988292384 : Int) (-((1 : Nat) : Int) % 4294967296) = ((3988292384 &&& 4294967295 : Nat) : Int) := u32_and_nat 3988292384 4294967295 (by decide) (by decide)
    have h3 : bits .xor .u32 ((Y : Int) / 2) ((3988292384 : Nat) : Int) = ((Y / 2 ^^^ 3988292384 : Nat) : Int) := u32_xor_nat (Y / 2) 3988292384 (by omega) (by decide)
    rw [h2, show 3988292384 &&& 4294967295 = 3988292384 by decide, h3]

theorem bits_not {S : Nat} (h : S < 4294967296) : bits .xor .u32 IntKind.u32.max (S : Int) = ((S ^^^ 4294967295 : Nat) : Int) := by
  have h1 : bits .xor .u32 (4294967295 : Int) (S : Int) = ((4294967295 ^^^ S : Nat) : Int) := u32_xor_nat 4294967295 S (by decide) h
  rw [Nat.xor_comm, ← h1]
  rfl

set_option maxHeartbeats 400000 in
theorem fSum_any (b : ByteArray) (w : World) (hb : b.size ≤ maxLen) :
    Calls Tryz.prog 114 #[.string b] w fun e w' => e = .returned (.int .u32 ((crc b.data.toList : Nat) : Int)) ∧ w' = w := by
  unfold maxLen at hb
  go_enter Tryz.func114, Tryz.ntmps114
  go_wp2
  go_loop [3, 8] (fun s i => ∃ j : Nat, j ≤ b.size ∧ i = .int .i64 j ∧ s = .int .u32 ((crcOn 4294967295 (b.data.toList.take j) : Nat) : Int)) (fun _ i => b.size - (intOf i).toNat)
  case atStart => exact ⟨0, Nat.zero_le _, rfl, rfl⟩
  case round =>
    obtain ⟨j, hj, rfl, rfl⟩ := hrel
    obtain ⟨S, hS⟩ : ∃ S, crcOn 4294967295 (b.data.toList.take j) = S := ⟨_, rfl⟩
    have hS2 : S < 4294967296 := hS ▸ crcOn_lt _ (by decide)
    rw [hS]
    by_cases hlt : j < b.size
    · obtain ⟨X, hX⟩ : ∃ X, S ^^^ b[j].toNat = X := ⟨_, rfl⟩
      have hX2 : X < 4294967296 := hX ▸ xor_lt32 hS2 (byte_lt32 _)
      have hx : bits .xor .u32 (S : Int) ((b[j].toNat : Int) % 4294967296) = (X : Int) := by rw [show (b[j].toNat : Int) % 4294967296 = (b[j].toNat : Int) by have := byte_lt32 b[j]; omega, u32_xor_nat S _ hS2 (byte_lt32 _), hX]
      have HX : Hid (crcOn 4294967295 (b.data.toList.take (j + 1)) = crcBits 8 X) := (by rw [crcOn_take b _ j hlt, hS, hX] : _ = _)
      clear hS hX
      go_wp2
      go_step3
      go_wp2
      go_step3
      go_wp2
      go_loop [3, 5] (fun s k => ∃ n : Nat, n ≤ 8 ∧ k = .int .i64 (8 - (n : Int)) ∧ s = .int .u32 ((crcBits n X : Nat) : Int)) (fun _ k => (intOf k).toNat)
      case atStart => exact ⟨0, Nat.zero_le _, rfl, rfl⟩
      case round =>
        obtain ⟨n, hn, rfl, rfl⟩ := hrel
        obtain ⟨Y, hY⟩ : ∃ Y, crcBits n X = Y := ⟨_, rfl⟩
        have hY2 : Y < 4294967296 := hY ▸ crcBits_lt _ hX2
        rw [hY]
        by_cases h8 : n < 8
        · have HY : Hid (crcBits (n + 1) X = crcBit Y) := (by rw [crcBits_succ, hY] : _ = _)
          clear hY
          go_wp2
          go_round
          case rel => exact ⟨n + 1, by omega, by go_num, by rw [HY.out, ← bit_step hY2]⟩
          case measure => simp [intOf]; omega
        · have hn8 : n = 8 := by omega
          subst hn8
          have HY : Hid (crcBits 8 X = Y) := hY
          clear hY
          go_wp2
          go_round
          case rel => exact ⟨j + 1, by omega, by go_num, by rw [HX.out, HY.out]⟩
          case measure => simp [intOf]; omega
    · have HS : Hid (crc b.data.toList = S ^^^ 4294967295) := (by
        unfold crc
        rw [List.take_of_length_le (by have : b.data.toList.length = b.size := rfl; omega)] at hS
        rw [hS] : _ = _)
      clear hS
      go_wp2
      go_ret
      exact ⟨by rw [HS.out, ← bits_not hS2]; rfl, rfl⟩

end Go.Proofs.YtigegdelhpdlhaaGreatDoor
