/- The program's look for a frame. -/
import Derived.Test.YthiihilifckapaaFSum
import Derived.Test.YthiihilifckapaaFRefD
namespace Go.Proofs.Ythiihilifckapaa
open Go.RowKit

theorem un4_first (b : ByteArray) (hb : 4 ≤ b.size) : un4 b.data.toList = (b[0]'(by omega)).toNat + (b[1]'(by omega)).toNat * 256 + (b[2]'(by omega)).toNat * 65536 + (b[3]'(by omega)).toNat * 16777216 := by
  obtain ⟨⟨l⟩⟩ := b
  have hl : 4 ≤ l.length := hb
  match l, hl with
  | p :: q :: r :: t :: _, _ => rfl

theorem or_add {a b k : Nat} (h : a < 2 ^ k) : a ||| b * 2 ^ k = a + b * 2 ^ k := by
  have := Nat.two_pow_add_eq_or_of_lt h b
  rw [Nat.or_comm, Nat.add_comm, Nat.mul_comm b]
  exact this.symm

theorem u32_or_add (a b k : Nat) (h : a < 2 ^ k) (hs : a + b * 2 ^ k < 4294967296) : bits .or .u32 (a : Int) ((b * 2 ^ k : Nat) : Int) = ((a + b * 2 ^ k : Nat) : Int) := by
  rw [u32_or_nat _ _ (by omega) (by omega), or_add h]

theorem word_bits {p q r t : Nat} (hp : p < 256) (hq : q < 256) (hr : r < 256) (ht : t < 256) :
    bits .or .u32 (bits .or .u32 (bits .or .u32 ((p : Int) % 4294967296) ((q : Int) % 4294967296 * 256 % 4294967296)) ((r : Int) % 4294967296 * 65536 % 4294967296)) ((t : Int) % 4294967296 * 16777216 % 4294967296) = ((p + q * 256 + r * 65536 + t * 16777216 : Nat) : Int) := by
  rw [show (p : Int) % 4294967296 = (p : Int) by omega, show (q : Int) % 4294967296 * 256 % 4294967296 = ((q * 2 ^ 8 : Nat) : Int) by omega, show (r : Int) % 4294967296 * 65536 % 4294967296 = ((r * 2 ^ 16 : Nat) : Int) by omega,
    show (t : Int) % 4294967296 * 16777216 % 4294967296 = ((t * 2 ^ 24 : Nat) : Int) by omega, u32_or_add p q 8 (by omega) (by omega), u32_or_add _ r 16 (by omega) (by omega), u32_or_add _ t 24 (by omega) (by omega)]

set_option maxHeartbeats 400000 in
theorem fwordOf_any (b : ByteArray) (w : World) (hb : 4 ≤ b.size) :
    Calls Try.prog 24 #[.string b] w fun e w' => e = .returned (.int .u32 ((un4 b.data.toList : Nat) : Int)) ∧ ∃ m, w' = w.drewN m := by
  have h0 : 0 < b.size := by omega
  have h1 : 1 < b.size := by omega
  have h2 : 2 < b.size := by omega
  have h3 : 3 < b.size := by omega
  have i1 : (1 : Int) < (b.size : Int) := by omega
  have i2 : (2 : Int) < (b.size : Int) := by omega
  have i3 : (3 : Int) < (b.size : Int) := by omega
  go_enter Try.func24, Try.ntmps24
  go_wp2
  go_quiet (fail)
  go_wp2
  go_ret
  refine ⟨?_, _, rfl⟩
  have e : un4 b.data.toList = b[0].toNat + b[1].toNat * 256 + b[2].toNat * 65536 + b[3].toNat * 16777216 := un4_first b hb
  have a0 := b[0].toNat_lt
  have a1 := b[1].toNat_lt
  have a2 := b[2].toNat_lt
  have a3 := b[3].toNat_lt
  show Ending.returned (Value.int .u32 _) = _
  rw [e]
  rw [word_bits a0 a1 a2 a3]

/-- how many bytes the frame at the head of s is made of, and the error's number -/
def lk (s : ByteArray) : Nat × Int :=
  if s.size < 4 then (0, 61)
  else if 65536 < un4 s.data.toList then (0, 2)
  else if s.size < 8 + un4 s.data.toList then (0, 61)
  else if un4 (s.extract (4 + un4 s.data.toList) s.size).data.toList ≠ crc (s.extract 0 (4 + un4 s.data.toList)).data.toList then (0, 60)
  else (un4 s.data.toList, 0)

set_option maxHeartbeats 800000 in
theorem flook_any (s : ByteArray) (w : World) (hb : s.size ≤ maxLen) :
    Calls Try.prog 19 #[.string s] w fun e w' => e = .returned (.tuple #[.int .i64 ((lk s).1 : Int), .int .i64 (lk s).2]) ∧ ∃ m, w' = w.drewN m := by
  unfold maxLen at hb
  by_cases h4 : s.size < 4
  · have HF : Hid (lk s = (0, 61)) := (by unfold lk; rw [if_pos h4] : _ = _)
    rw [HF.out]
    have h4' : (s.size : Int) < 4 := by omega
    go_enter Try.func19, Try.ntmps19
    go_wp2
    go_ret2
    exact ⟨rfl, 0, rfl⟩
  have h4' : ¬ ((s.size : Int) < 4) := by omega
  obtain ⟨n, hn⟩ : ∃ n, un4 s.data.toList = n := ⟨_, rfl⟩
  have hn2 : n < 4294967296 := hn ▸ un4_lt _
  have HW : Hid (∀ w : World, Calls Try.prog 24 #[.string s] w fun e w' => e = .returned (.int .u32 (n : Int)) ∧ ∃ m, w' = w.drewN m) := fun w => hn ▸ fwordOf_any s w (by omega)
  by_cases h5 : 65536 < n
  · have HF : Hid (lk s = (0, 2)) := (by unfold lk; rw [if_neg h4, hn, if_pos h5] : _ = _)
    rw [HF.out]
    have h5' : (65536 : Int) < n := by omega
    clear hn
    go_enter Try.func19, Try.ntmps19
    go_wp2_with (go_at_call 24; refine (HW.out _).mono ?_; rintro e w1 ⟨rfl, m, rfl⟩)
    go_ret2
    exact ⟨rfl, m, rfl⟩
  have h5' : ¬ ((65536 : Int) < n) := by omega
  have x1 : IntKind.i64.wrap (4 + (n : Int)) = 4 + (n : Int) := wrap_small _ (by omega) (by omega)
  have x2 : IntKind.i64.wrap (4 + (n : Int) + 4) = 4 + (n : Int) + 4 := wrap_small _ (by omega) (by omega)
  by_cases h6 : s.size < 8 + n
  · have HF : Hid (lk s = (0, 61)) := (by unfold lk; rw [if_neg h4, hn, if_neg h5, if_pos h6] : _ = _)
    rw [HF.out]
    have h6' : (s.size : Int) < 4 + (n : Int) + 4 := by omega
    clear hn
    go_enter Try.func19, Try.ntmps19
    go_wp2_with (go_at_call 24; refine (HW.out _).mono ?_; rintro e w1 ⟨rfl, m, rfl⟩)
    go_ret2
    exact ⟨rfl, m, rfl⟩
  have h6' : ¬ ((s.size : Int) < 4 + (n : Int) + 4) := by omega
  have k1 : ∀ w : World, (Instr.slice 9 (.string s) (some (.int .i64 (4 + (n : Int)))) none none).run Try.prog w = .ok (.string (s.extract (4 + n) s.size)) w := fun w => by
    have h := run_slice_string_l (P := Try.prog) w 9 s Try.underlying9 .i64 (4 + (n : Int)) (by omega) (by omega)
    rw [show (4 + (n : Int)).toNat = 4 + n by omega] at h
    exact h
  have k2 : ∀ w : World, (Instr.slice 9 (.string s) none (some (.int .i64 (4 + (n : Int)))) none).run Try.prog w = .ok (.string (s.extract 0 (4 + n))) w := fun w => by
    have h := run_slice_string_h (P := Try.prog) w 9 s Try.underlying9 .i64 (4 + (n : Int)) (by omega) (by omega)
    rw [show (4 + (n : Int)).toNat = 4 + n by omega] at h
    exact h
  obtain ⟨y, hy⟩ : ∃ y, s.extract (4 + n) s.size = y := ⟨_, rfl⟩
  obtain ⟨z, hz⟩ : ∃ z, s.extract 0 (4 + n) = z := ⟨_, rfl⟩
  have hys : 4 ≤ y.size := by rw [← hy, ByteArray.size_extract]; omega
  have hzs : z.size ≤ maxLen := by rw [← hz, ByteArray.size_extract]; unfold maxLen; omega
  obtain ⟨p, hp⟩ : ∃ p, un4 y.data.toList = p := ⟨_, rfl⟩
  obtain ⟨q, hq⟩ : ∃ q, crc z.data.toList = q := ⟨_, rfl⟩
  rw [hy] at k1
  rw [hz] at k2
  have HY : Hid (∀ w : World, Calls Try.prog 24 #[.string y] w fun e w' => e = .returned (.int .u32 (p : Int)) ∧ ∃ m, w' = w.drewN m) := fun w => hp ▸ fwordOf_any y w hys
  have HS : Hid (∀ w : World, Calls Try.prog 9 #[.string z] w fun e w' => e = .returned (.int .u32 (q : Int)) ∧ w' = w) := fun w => hq ▸ fSum_any z w hzs
  by_cases h7 : p = q
  · have HF : Hid (lk s = (n, 0)) := (by unfold lk; rw [if_neg h4, hn, if_neg h5, if_neg h6, hy, hz, hp, hq, if_neg (fun e => e h7)] : _ = _)
    rw [HF.out]
    subst h7
    clear hn hy hz hp hq hys hzs h4 h5 h6
    go_enter Try.func19, Try.ntmps19
    go_wp2_with (first | (go_at_call 24; refine (HW.out _).mono ?_; rintro e w1 ⟨rfl, m, rfl⟩) | fail)
    go_quiet (first | (go_at_call 9; exact quiet_more_same (HS.out _)) | (go_at_call 24; exact quiet_more (HY.out _)))
    go_wp2
    go_ret2
    exact ⟨rfl, _, rfl⟩
  · have HF : Hid (lk s = (0, 60)) := (by unfold lk; rw [if_neg h4, hn, if_neg h5, if_neg h6, hy, hz, hp, hq, if_pos h7] : _ = _)
    rw [HF.out]
    have h7' : ((p : Int) != q) = true := by simp; omega
    clear hn hy hz hp hq hys hzs h4 h5 h6 h7
    go_enter Try.func19, Try.ntmps19
    go_wp2_with (first | (go_at_call 24; refine (HW.out _).mono ?_; rintro e w1 ⟨rfl, m, rfl⟩) | fail)
    go_quiet (first | (go_at_call 9; exact quiet_more_same (HS.out _)) | (go_at_call 24; exact quiet_more (HY.out _)))
    go_wp2
    go_ret2
    exact ⟨rfl, _, World.drewN_drewN ..⟩

end Go.Proofs.Ythiihilifckapaa
