import Derived.Test.YtigegdelhpdlhaaGreatDoorFRefBJ
import Derived.Deep.DeepMust
import Derived.Sort.EncStr
import Derived.Test.YtigegdelhpdlhaaGreatDoorJDiskJ
import Derived.WalkMore
/- The document's frames, one behind the other. -/
namespace Go.Proofs.YtigegdelhpdlhaaGreatDoor
open Go.RowKit

/-- the bodies from a place on, and the place behind the last one; n: no more than these -/
def framesF (b : ByteArray) : Nat → Nat → List (List UInt8) × Nat
  | 0, a => ([], a)
  | n + 1, a => if (found b a).code = 0 then ((found b a).body.data.toList :: (framesF b n (found b a).stop.toNat).1, (framesF b n (found b a).stop.toNat).2) else ([], a)

def frames (b : ByteArray) : List (List UInt8) × Nat := framesF b (b.size + 1) 0

theorem found_ok {b : ByteArray} {a : Nat} (h : (found b a).code = 0) : ∃ k : Nat, (found b a).stop = (k : Int) ∧ a + 8 ≤ k ∧ k ≤ b.size := by
  unfold found at h ⊢
  rw [show ((a : Int)).toNat = a by omega] at h ⊢
  by_cases h0 : (a : Int) < 0 ∨ (b.size : Int) < a
  · rw [if_pos h0] at h; simp at h
  rw [if_neg h0] at h ⊢
  by_cases h1 : b.size < a + 4
  · rw [if_pos h1] at h; simp at h
  rw [if_neg h1] at h ⊢
  by_cases h2 : 65536 < lenAt b a
  · rw [if_pos h2] at h; simp at h
  rw [if_neg h2] at h ⊢
  by_cases h3 : b.size < a + 8 + lenAt b a
  · rw [if_pos h3] at h; simp at h
  rw [if_neg h3] at h ⊢
  by_cases h4 : sumAt b a (lenAt b a) ≠ wasAt b a (lenAt b a)
  · rw [if_pos h4] at h; simp at h
  rw [if_neg h4]
  exact ⟨a + 8 + lenAt b a, by simp, by omega, by omega⟩

theorem framesF_more (b : ByteArray) : ∀ (n m a : Nat), b.size < a + n → b.size < a + m → framesF b n a = framesF b m a
  | 0, 0, _, _, _ => rfl
  | 0, m + 1, a, h, _ => by
    have hc : (found b a).code ≠ 0 := fun e => by
      obtain ⟨k, -, h1, h2⟩ := found_ok e
      omega
    simp only [framesF, if_neg hc]
  | n + 1, 0, a, _, h => by
    have hc : (found b a).code ≠ 0 := fun e => by
      obtain ⟨k, -, h1, h2⟩ := found_ok e
      omega
    simp only [framesF, if_neg hc]
  | n + 1, m + 1, a, h1, h2 => by
    by_cases hc : (found b a).code = 0
    · obtain ⟨k, e, h3, h4⟩ := found_ok hc
      have ih := framesF_more b n m k (by omega) (by omega)
      simp only [framesF, if_pos hc, e, Int.toNat_natCast, ih]
    · simp only [framesF, if_neg hc]

/-- what stands from a place on, for whatever is enough -/
def framesAt (b : ByteArray) (a : Nat) : List (List UInt8) × Nat := framesF b (b.size + 1) a

theorem framesAt_next {b : ByteArray} {a k : Nat} (h : (found b a).code = 0) (hk : (found b a).stop = (k : Int)) : framesAt b a = ((found b a).body.data.toList :: (framesAt b k).1, (framesAt b k).2) := by
  obtain ⟨k', e, h1, h2⟩ := found_ok h
  have ek : k' = k := by omega
  subst ek
  have ih := framesF_more b b.size (b.size + 1) k' (by omega) (by omega)
  show framesF b (b.size + 1) a = (_ :: (framesF b (b.size + 1) k').1, (framesF b (b.size + 1) k').2)
  rw [← ih]
  simp only [framesF, if_pos h, e, Int.toNat_natCast]

theorem framesAt_end {b : ByteArray} {a : Nat} (h : (found b a).code ≠ 0) : framesAt b a = ([], a) := by
  show framesF b (b.size + 1) a = _
  simp only [framesF, if_neg h]

theorem infoStr : (Tryz.prog.info? 9).map (fun i => (i.zero, i.size, i.bytes)) = some (some (.string ByteArray.empty), 1, 16) := by kernel_rfl

theorem infoStr_parts : ∃ i, Tryz.prog.info? 9 = some i ∧ i.zero = some (.string ByteArray.empty) ∧ i.size = 1 ∧ i.bytes = 16 := by
  have h := infoStr
  cases hq : Tryz.prog.info? 9 with
  | none => rw [hq] at h; cases h
  | some i =>
    rw [hq] at h
    simp only [Option.map_some, Option.some.injEq, Prod.mk.injEq] at h
    exact ⟨i, rfl, h.1, h.2.1, h.2.2⟩

theorem enc_self (x : ByteArray) : Go.Proofs.encStr x.data.toList = .string x := by cases x; rfl

theorem row_kept {w w' : World} {base : Nat} {e : TypeId} {size : Nat} {v : Value} {n : Nat} {xs : List Value} (h : w.ownsRow base e size v n xs) (hb : Below w.heap.size w w') : w'.ownsRow base e size v n xs :=
  ownsRow_block h fun g hg => hb.block g (h.lt g hg).2

end Go.Proofs.YtigegdelhpdlhaaGreatDoor

/- The program's sum of bytes is the plain one. -/
namespace Go.Proofs.YtigegdelhpdlhaaGreatDoor
open Go.RowKit

theorem bit_step {Y : Nat} (h : Y < 4294967296) : bits .xor .u32 ((Y : Int) / 2) (bits .and .u32 3988292384 (-bits .and .u32 (Y : Int) 1 % 4294967296)) = (crcBit Y : Int) := by
  have h1 : bits .and .u32 (Y : Int) (1 : Int) = ((Y &&& 1 : Nat) : Int) := u32_and_nat Y 1 h (by decide)
  rw [h1, Nat.and_one_is_mod]
  rcases Nat.mod_two_eq_zero_or_one Y with p | p
  · rw [p, crcBit_even p]
    have h2 : bits .and .u32 (3988292384 : Int) (-((0 : Nat) : Int) % 4294967296) = ((3988292384 &&& 0 : Nat) : Int) := u32_and_nat 3988292384 0 (by decide) (by decide)
    have h3 : bits .xor .u32 ((Y : Int) / 2) ((0 : Nat) : Int) = ((Y / 2 ^^^ 0 : Nat) : Int) := u32_xor_nat (Y / 2) 0 (by omega) (by decide)
    rw [h2, Nat.and_zero, h3, Nat.xor_zero]
  · rw [p, crcBit_odd p]
    have h2 : bits .and .u32 (3988292384 : Int) (-((1 : Nat) : Int) % 4294967296) = ((3988292384 &&& 4294967295 : Nat) : Int) := u32_and_nat 3988292384 4294967295 (by decide) (by decide)
    have h3 : bits .xor .u32 ((Y : Int) / 2) ((3988292384 : Nat) : Int) = ((Y / 2 ^^^ 3988292384 : Nat) : Int) := u32_xor_nat (Y / 2) 3988292384 (by omega) (by decide)
    rw [h2, show 3988292384 &&& 4294967295 = 3988292384 by decide, h3]

theorem bits_not {S : Nat} (h : S < 4294967296) : bits .xor .u32 IntKind.u32.max (S : Int) = ((S ^^^ 4294967295 : Nat) : Int) := by
  have h1 : bits .xor .u32 (4294967295 : Int) (S : Int) = ((4294967295 ^^^ S : Nat) : Int) := u32_xor_nat 4294967295 S (by decide) h
  rw [Nat.xor_comm, ← h1]
  rfl

set_option maxHeartbeats 400000 in
theorem fSum_any (b : ByteArray) (w : World) (hb : b.size ≤ maxLen) :
    Calls Tryz.prog 114 #[.string b] w fun e w' => e = .returned (.int .u32 ((crc b.data.toList : Nat) : Int)) ∧ w' = w := by
  unfold maxLen at hb
  go_enter Tryz.func114, Tryz.ntmps114
  go_wp2
  go_loop [3, 8] (fun s i => ∃ j : Nat, j ≤ b.size ∧ i = .int .i64 j ∧ s = .int .u32 ((crcOn 4294967295 (b.data.toList.take j) : Nat) : Int)) (fun _ i => b.size - (intOf i).toNat)
  case atStart => exact ⟨0, Nat.zero_le _, rfl, rfl⟩
  case round =>
    obtain ⟨j, hj, rfl, rfl⟩ := hrel
    obtain ⟨S, hS⟩ : ∃ S, crcOn 4294967295 (b.data.toList.take j) = S := ⟨_, rfl⟩
    have hS2 : S < 4294967296 := hS ▸ crcOn_lt _ (by decide)
    rw [hS]
    by_cases hlt : j < b.size
    · obtain ⟨X, hX⟩ : ∃ X, S ^^^ b[j].toNat = X := ⟨_, rfl⟩
      have hX2 : X < 4294967296 := hX ▸ xor_lt32 hS2 (byte_lt32 _)
      have hx : bits .xor .u32 (S : Int) ((b[j].toNat : Int) % 4294967296) = (X : Int) := by rw [show (b[j].toNat : Int) % 4294967296 = (b[j].toNat : Int) by have := byte_lt32 b[j]; omega, u32_xor_nat S _ hS2 (byte_lt32 _), hX]
      have HX : Hid (crcOn 4294967295 (b.data.toList.take (j + 1)) = crcBits 8 X) := (by rw [crcOn_take b _ j hlt, hS, hX] : _ = _)
      clear hS hX
      go_wp2
      go_step3
      go_wp2
      go_step3
      go_wp2
      go_loop [3, 5] (fun s k => ∃ n : Nat, n ≤ 8 ∧ k = .int .i64 (8 - (n : Int)) ∧ s = .int .u32 ((crcBits n X : Nat) : Int)) (fun _ k => (intOf k).toNat)
      case atStart => exact ⟨0, Nat.zero_le _, rfl, rfl⟩
      case round =>
        obtain ⟨n, hn, rfl, rfl⟩ := hrel
        obtain ⟨Y, hY⟩ : ∃ Y, crcBits n X = Y := ⟨_, rfl⟩
        have hY2 : Y < 4294967296 := hY ▸ crcBits_lt _ hX2
        rw [hY]
        by_cases h8 : n < 8
        · have HY : Hid (crcBits (n + 1) X = crcBit Y) := (by rw [crcBits_succ, hY] : _ = _)
          clear hY
          go_wp2
          go_round
          case rel => exact ⟨n + 1, by omega, by go_num, by rw [HY.out, ← bit_step hY2]⟩
          case measure => simp [intOf]; omega
        · have hn8 : n = 8 := by omega
          subst hn8
          have HY : Hid (crcBits 8 X = Y) := hY
          clear hY
          go_wp2
          go_round
          case rel => exact ⟨j + 1, by omega, by go_num, by rw [HX.out, HY.out]⟩
          case measure => simp [intOf]; omega
    · have HS : Hid (crc b.data.toList = S ^^^ 4294967295) := (by
        unfold crc
        rw [List.take_of_length_le (by have : b.data.toList.length = b.size := rfl; omega)] at hS
        rw [hS] : _ = _)
      clear hS
      go_wp2
      go_ret
      exact ⟨by rw [HS.out, ← bits_not hS2]; rfl, rfl⟩

end Go.Proofs.YtigegdelhpdlhaaGreatDoor

/- The program's look for a frame. -/
namespace Go.Proofs.YtigegdelhpdlhaaGreatDoor
open Go.RowKit

theorem un4_first (b : ByteArray) (hb : 4 ≤ b.size) : un4 b.data.toList = (b[0]'(by omega)).toNat + (b[1]'(by omega)).toNat * 256 + (b[2]'(by omega)).toNat * 65536 + (b[3]'(by omega)).toNat * 16777216 := by
  obtain ⟨⟨l⟩⟩ := b
  have hl : 4 ≤ l.length := hb
  match l, hl with
  | p :: q :: r :: t :: _, _ => rfl

theorem or_add {a b k : Nat} (h : a < 2 ^ k) : a ||| b * 2 ^ k = a + b * 2 ^ k := by
  have := Nat.two_pow_add_eq_or_of_lt h b
  rw [Nat.or_comm, Nat.add_comm, Nat.mul_comm b]
  exact this.symm

theorem u32_or_add (a b k : Nat) (h : a < 2 ^ k) (hs : a + b * 2 ^ k < 4294967296) : bits .or .u32 (a : Int) ((b * 2 ^ k : Nat) : Int) = ((a + b * 2 ^ k : Nat) : Int) := by
  rw [u32_or_nat _ _ (by omega) (by omega), or_add h]

theorem word_bits {p q r t : Nat} (hp : p < 256) (hq : q < 256) (hr : r < 256) (ht : t < 256) :
    bits .or .u32 (bits .or .u32 (bits .or .u32 ((p : Int) % 4294967296) ((q : Int) % 4294967296 * 256 % 4294967296)) ((r : Int) % 4294967296 * 65536 % 4294967296)) ((t : Int) % 4294967296 * 16777216 % 4294967296) = ((p + q * 256 + r * 65536 + t * 16777216 : Nat) : Int) := by
  rw [show (p : Int) % 4294967296 = (p : Int) by omega, show (q : Int) % 4294967296 * 256 % 4294967296 = ((q * 2 ^ 8 : Nat) : Int) by omega, show (r : Int) % 4294967296 * 65536 % 4294967296 = ((r * 2 ^ 16 : Nat) : Int) by omega,
    show (t : Int) % 4294967296 * 16777216 % 4294967296 = ((t * 2 ^ 24 : Nat) : Int) by omega, u32_or_add p q 8 (by omega) (by omega), u32_or_add _ r 16 (by omega) (by omega), u32_or_add _ t 24 (by omega) (by omega)]

set_option maxHeartbeats 400000 in
theorem fwordOf_any (b : ByteArray) (w : World) (hb : 4 ≤ b.size) :
    Calls Tryz.prog 169 #[.string b] w fun e w' => e = .returned (.int .u32 ((un4 b.data.toList : Nat) : Int)) ∧ ∃ m, w' = w.drewN m := by
  have h0 : 0 < b.size := by omega
  have h1 : 1 < b.size := by omega
  have h2 : 2 < b.size := by omega
  have h3 : 3 < b.size := by omega
  have i1 : (1 : Int) < (b.size : Int) := by omega
  have i2 : (2 : Int) < (b.size : Int) := by omega
  have i3 : (3 : Int) < (b.size : Int) := by omega
  go_enter Tryz.func169, Tryz.ntmps169
  go_wp2
  go_quiet (fail)
  go_wp2
  go_ret
  refine ⟨?_, _, rfl⟩
  have e : un4 b.data.toList = b[0].toNat + b[1].toNat * 256 + b[2].toNat * 65536 + b[3].toNat * 16777216 := un4_first b hb
  have a0 := b[0].toNat_lt
  have a1 := b[1].toNat_lt
  have a2 := b[2].toNat_lt
  have a3 := b[3].toNat_lt
  show Ending.returned (Value.int .u32 _) = _
  rw [e]
  rw [word_bits a0 a1 a2 a3]

/-- how many bytes the frame at the head of s is made of, and the error's number -/
def lk (s : ByteArray) : Nat × Int :=
  if s.size < 4 then (0, 61)
  else if 65536 < un4 s.data.toList then (0, 2)
  else if s.size < 8 + un4 s.data.toList then (0, 61)
  else if un4 (s.extract (4 + un4 s.data.toList) s.size).data.toList ≠ crc (s.extract 0 (4 + un4 s.data.toList)).data.toList then (0, 60)
  else (un4 s.data.toList, 0)

set_option maxHeartbeats 800000 in
theorem flook_any (s : ByteArray) (w : World) (hb : s.size ≤ maxLen) :
    Calls Tryz.prog 145 #[.string s] w fun e w' => e = .returned (.tuple #[.int .i64 ((lk s).1 : Int), .int .i64 (lk s).2]) ∧ ∃ m, w' = w.drewN m := by
  unfold maxLen at hb
  by_cases h4 : s.size < 4
  · have HF : Hid (lk s = (0, 61)) := (by unfold lk; rw [if_pos h4] : _ = _)
    rw [HF.out]
    have h4' : (s.size : Int) < 4 := by omega
    go_enter Tryz.func145, Tryz.ntmps145
    go_wp2
    go_ret2
    exact ⟨rfl, 0, rfl⟩
  have h4' : ¬ ((s.size : Int) < 4) := by omega
  obtain ⟨n, hn⟩ : ∃ n, un4 s.data.toList = n := ⟨_, rfl⟩
  have hn2 : n < 4294967296 := hn ▸ un4_lt _
  have HW : Hid (∀ w : World, Calls Tryz.prog 169 #[.string s] w fun e w' => e = .returned (.int .u32 (n : Int)) ∧ ∃ m, w' = w.drewN m) := fun w => hn ▸ fwordOf_any s w (by omega)
  by_cases h5 : 65536 < n
  · have HF : Hid (lk s = (0, 2)) := (by unfold lk; rw [if_neg h4, hn, if_pos h5] : _ = _)
    rw [HF.out]
    have h5' : (65536 : Int) < n := by omega
    clear hn
    go_enter Tryz.func145, Tryz.ntmps145
    go_wp2_with (go_at_call 169; refine (HW.out _).mono ?_; rintro e w1 ⟨rfl, m, rfl⟩)
    go_ret2
    exact ⟨rfl, m, rfl⟩
  have h5' : ¬ ((65536 : Int) < n) := by omega
  have x1 : IntKind.i64.wrap (4 + (n : Int)) = 4 + (n : Int) := wrap_small _ (by omega) (by omega)
  have x2 : IntKind.i64.wrap (4 + (n : Int) + 4) = 4 + (n : Int) + 4 := wrap_small _ (by omega) (by omega)
  by_cases h6 : s.size < 8 + n
  · have HF : Hid (lk s = (0, 61)) := (by unfold lk; rw [if_neg h4, hn, if_neg h5, if_pos h6] : _ = _)
    rw [HF.out]
    have h6' : (s.size : Int) < 4 + (n : Int) + 4 := by omega
    clear hn
    go_enter Tryz.func145, Tryz.ntmps145
    go_wp2_with (go_at_call 169; refine (HW.out _).mono ?_; rintro e w1 ⟨rfl, m, rfl⟩)
    go_ret2
    exact ⟨rfl, m, rfl⟩
  have h6' : ¬ ((s.size : Int) < 4 + (n : Int) + 4) := by omega
  have k1 : ∀ w : World, (Instr.slice 9 (.string s) (some (.int .i64 (4 + (n : Int)))) none none).run Tryz.prog w = .ok (.string (s.extract (4 + n) s.size)) w := fun w => by
    have h := run_slice_string_l (P := Tryz.prog) w 9 s Tryz.underlying9 .i64 (4 + (n : Int)) (by omega) (by omega)
    rw [show (4 + (n : Int)).toNat = 4 + n by omega] at h
    exact h
  have k2 : ∀ w : World, (Instr.slice 9 (.string s) none (some (.int .i64 (4 + (n : Int)))) none).run Tryz.prog w = .ok (.string (s.extract 0 (4 + n))) w := fun w => by
    have h := run_slice_string_h (P := Tryz.prog) w 9 s Tryz.underlying9 .i64 (4 + (n : Int)) (by omega) (by omega)
    rw [show (4 + (n : Int)).toNat = 4 + n by omega] at h
    exact h
  obtain ⟨y, hy⟩ : ∃ y, s.extract (4 + n) s.size = y := ⟨_, rfl⟩
  obtain ⟨z, hz⟩ : ∃ z, s.extract 0 (4 + n) = z := ⟨_, rfl⟩
  have hys : 4 ≤ y.size := by rw [← hy, ByteArray.size_extract]; omega
  have hzs : z.size ≤ maxLen := by rw [← hz, ByteArray.size_extract]; unfold maxLen; omega
  obtain ⟨p, hp⟩ : ∃ p, un4 y.data.toList = p := ⟨_, rfl⟩
  obtain ⟨q, hq⟩ : ∃ q, crc z.data.toList = q := ⟨_, rfl⟩
  rw [hy] at k1
  rw [hz] at k2
  have HY : Hid (∀ w : World, Calls Tryz.prog 169 #[.string y] w fun e w' => e = .returned (.int .u32 (p : Int)) ∧ ∃ m, w' = w.drewN m) := fun w => hp ▸ fwordOf_any y w hys
  have HS : Hid (∀ w : World, Calls Tryz.prog 114 #[.string z] w fun e w' => e = .returned (.int .u32 (q : Int)) ∧ w' = w) := fun w => hq ▸ fSum_any z w hzs
  by_cases h7 : p = q
  · have HF : Hid (lk s = (n, 0)) := (by unfold lk; rw [if_neg h4, hn, if_neg h5, if_neg h6, hy, hz, hp, hq, if_neg (fun e => e h7)] : _ = _)
    rw [HF.out]
    subst h7
    clear hn hy hz hp hq hys hzs h4 h5 h6
    go_enter Tryz.func145, Tryz.ntmps145
    go_wp2_with (first | (go_at_call 169; refine (HW.out _).mono ?_; rintro e w1 ⟨rfl, m, rfl⟩) | fail)
    go_quiet (first | (go_at_call 114; exact quiet_more_same (HS.out _)) | (go_at_call 169; exact quiet_more (HY.out _)))
    go_wp2
    go_ret2
    exact ⟨rfl, _, rfl⟩
  · have HF : Hid (lk s = (0, 60)) := (by unfold lk; rw [if_neg h4, hn, if_neg h5, if_neg h6, hy, hz, hp, hq, if_pos h7] : _ = _)
    rw [HF.out]
    have h7' : ((p : Int) != q) = true := by simp; omega
    clear hn hy hz hp hq hys hzs h4 h5 h6 h7
    go_enter Tryz.func145, Tryz.ntmps145
    go_wp2_with (first | (go_at_call 169; refine (HW.out _).mono ?_; rintro e w1 ⟨rfl, m, rfl⟩) | fail)
    go_quiet (first | (go_at_call 114; exact quiet_more_same (HS.out _)) | (go_at_call 169; exact quiet_more (HY.out _)))
    go_wp2
    go_ret2
    exact ⟨rfl, _, World.drewN_drewN ..⟩

end Go.Proofs.YtigegdelhpdlhaaGreatDoor
