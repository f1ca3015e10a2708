import Derived.Test.YtigegdelhpdlhaaGreatDoorFRefEJ
import Derived.Test.YtigegdelhpdlhaaGreatDoorFRefCJ
import Derived.Test.YtigegdelhpdlhaaGreatDoorLayCJ
/- The program's look for a frame. -/
namespace Go.Proofs.YtigegdelhpdlhaaGreatDoor
open Go.RowKit

theorem un4_first (b : ByteArray) (hb : 4 ≤ b.size) : un4 b.data.toList = (b[0]'(by omega)).toNat + (b[1]'(by omega)).toNat * 256 + (b[2]'(by omega)).toNat * 65536 + (b[3]'(by omega)).toNat * 16777216 := by
  obtain ⟨⟨l⟩⟩ := b
  have hl : 4 ≤ l.length := hb
  match l, hl with
  | p :: q :: r :: t :: _, _ => rfl

theorem or_add {a b k : Nat} (h : a < 2 ^ k) : a ||| b * 2 ^ k = a + b * 2 ^ k := by
  have := Nat.two_pow_add_eq_or_of_lt h b
  rw [Nat.or_comm, Nat.add_comm, Nat.mul_comm b]
  exact this.symm

theorem u32_or_add (a b k : Nat) (h : a < 2 ^ k) (hs : a + b * 2 ^ k < 4294967296) : bits .or .u32 (a : Int) ((b * 2 ^ k : Nat) : Int) = ((a + b * 2 ^ k : Nat) : Int) := by
  rw [u32_or_nat _ _ (by omega) (by omega), or_add h]

theorem word_bits {p q r t : Nat} (hp : p < 256) (hq : q < 256) (hr : r < 256) (ht : t < 256) :
    bits .or .u32 (bits .or .u32 (bits .or .u32 ((p : Int) % 4294967296) ((q : Int) % 4294967296 * 256 % 4294967296)) ((r : Int) % 4294967296 * 65536 % 4294967296)) ((t : Int) % 4294967296 * 16777216 % 4294967296) = ((p + q * 256 + r * 65536 + t * 16777216 : Nat) : Int) := by
  rw [show (p : Int) % 4294967296 = (p : Int) by omega, show (q : Int) % 4294967296 * 256 % 4294967296 = ((q * 2 ^ 8 : Nat) : Int) by omega, show (r : Int) % 4294967296 * 65536 % 4294967296 = ((r * 2 ^ 16 : Nat) : Int) by omega,
    show (t : Int) % 4294967296 * 16777216 % 4294967296 = ((t * 2 ^ 24 : Nat) : Int) by omega, u32_or_add p q 8 (by omega) (by omega), u32_or_add _ r 16 (by omega) (by omega), u32_or_add _ t 24 (by omega) (by omega)]

set_option maxHeartbeats 400000 in
theorem fwordOf_any (b : ByteArray) (w : World) (hb : 4 ≤ b.size) :
    Calls Tryz.prog 169 #[.string b] w fun e w' => e = .returned (.int .u32 ((un4 b.data.toList : Nat) : Int)) ∧ ∃ m, w' = w.drewN m := by
  have h0 : 0 < b.size := by omega
  have h1 : 1 < b.size := by omega
  have h2 : 2 < b.size := by omega
  have h3 : 3 < b.size := by omega
  have i1 : (1 : Int) < (b.size : Int) := by omega
  have i2 : (2 : Int) < (b.size : Int) := by omega
  have i3 : (3 : Int) < (b.size : Int) := by omega
  go_enter Tryz.func169, Tryz.ntmps169
  go_wp2
  go_quiet (fail)
  go_wp2
  go_ret
  refine ⟨?_, _, rfl⟩
  have e : un4 b.data.toList = b[0].toNat + b[1].toNat * 256 + b[2].toNat * 65536 + b[3].toNat * 16777216 := un4_first b hb
  have a0 := b[0].toNat_lt
  have a1 := b[1].toNat_lt
  have a2 := b[2].toNat_lt
  have a3 := b[3].toNat_lt
  show Ending.returned (Value.int .u32 _) = _
  rw [e]
  rw [word_bits a0 a1 a2 a3]

/-- how many bytes the frame at the head of s is made of, and the error's number -/
def lk (s : ByteArray) : Nat × Int :=
  if s.size < 4 then (0, 61)
  else if 65536 < un4 s.data.toList then (0, 2)
  else if s.size < 8 + un4 s.data.toList then (0, 61)
  else if un4 (s.extract (4 + un4 s.data.toList) s.size).data.toList ≠ crc (s.extract 0 (4 + un4 s.data.toList)).data.toList then (0, 60)
  else (un4 s.data.toList, 0)

set_option maxHeartbeats 800000 in
theorem flook_any (s : ByteArray) (w : World) (hb : s.size ≤ maxLen) :
    Calls Tryz.prog 145 #[.string s] w fun e w' => e = .returned (.tuple #[.int .i64 ((lk s).1 : Int), .int .i64 (lk s).2]) ∧ ∃ m, w' = w.drewN m := by
  unfold maxLen at hb
  by_cases h4 : s.size < 4
  · have HF : Hid (lk s = (0, 61)) := (by unfold lk; rw [if_pos h4] : _ = _)
    rw [HF.out]
    have h4' : (s.size : Int) < 4 := by omega
    go_enter Tryz.func145, Tryz.ntmps145
    go_wp2
    go_ret2
    exact ⟨rfl, 0, rfl⟩
  have h4' : ¬ ((s.size : Int) < 4) := by omega
  obtain ⟨n, hn⟩ : ∃ n, un4 s.data.toList = n := ⟨_, rfl⟩
  have hn2 : n < 4294967296 := hn ▸ un4_lt _
  have HW : Hid (∀ w : World, Calls Tryz.prog 169 #[.string s] w fun e w' => e = .returned (.int .u32 (n : Int)) ∧ ∃ m, w' = w.drewN m) := fun w => hn ▸ fwordOf_any s w (by omega)
  by_cases h5 : 65536 < n
  · have HF : Hid (lk s = (0, 2)) := (by unfold lk; rw [if_neg h4, hn, if_pos h5] : _ = _)
    rw [HF.out]
    have h5' : (65536 : Int) < n := by omega
    clear hn
    go_enter Tryz.func145, Tryz.ntmps145
    go_wp2_with (go_at_call 169; refine (HW.out _).mono ?_; rintro e w1 ⟨rfl, m, rfl⟩)
    go_ret2
    exact ⟨rfl, m, rfl⟩
  have h5' : ¬ ((65536 : Int) < n) := by omega
  have x1 : IntKind.i64.wrap (4 + (n : Int)) = 4 + (n : Int) := wrap_small _ (by omega) (by omega)
  have x2 : IntKind.i64.wrap (4 + (n : Int) + 4) = 4 + (n : Int) + 4 := wrap_small _ (by omega) (by omega)
  by_cases h6 : s.size < 8 + n
  · have HF : Hid (lk s = (0, 61)) := (by unfold lk; rw [if_neg h4, hn, if_neg h5, if_pos h6] : _ = _)
    rw [HF.out]
    have h6' : (s.size : Int) < 4 + (n : Int) + 4 := by omega
    clear hn
    go_enter Tryz.func145, Tryz.ntmps145
    go_wp2_with (go_at_call 169; refine (HW.out _).mono ?_; rintro e w1 ⟨rfl, m, rfl⟩)
    go_ret2
    exact ⟨rfl, m, rfl⟩
  have h6' : ¬ ((s.size : Int) < 4 + (n : Int) + 4) := by omega
  have k1 : ∀ w : World, (Instr.slice 9 (.string s) (some (.int .i64 (4 + (n : Int)))) none none).run Tryz.prog w = .ok (.string (s.extract (4 + n) s.size)) w := fun w => by
    have h := run_slice_string_l (P := Tryz.prog) w 9 s Tryz.underlying9 .i64 (4 + (n : Int)) (by omega) (by omega)
    rw [show (4 + (n : Int)).toNat = 4 + n by omega] at h
    exact h
  have k2 : ∀ w : World, (Instr.slice 9 (.string s) none (some (.int .i64 (4 + (n : Int)))) none).run Tryz.prog w = .ok (.string (s.extract 0 (4 + n))) w := fun w => by
    have h := run_slice_string_h (P := Tryz.prog) w 9 s Tryz.underlying9 .i64 (4 + (n : Int)) (by omega) (by omega)
    rw [show (4 + (n : Int)).toNat = 4 + n by omega] at h
    exact h
  obtain ⟨y, hy⟩ : ∃ y, s.extract (4 + n) s.size = y := ⟨_, rfl⟩
  obtain ⟨z, hz⟩ : ∃ z, s.extract 0 (4 + n) = z := ⟨_, rfl⟩
  have hys : 4 ≤ y.size := by rw [← hy, ByteArray.size_extract]; omega
  have hzs : z.size ≤ maxLen := by rw [← hz, ByteArray.size_extract]; unfold maxLen; omega
  obtain ⟨p, hp⟩ : ∃ p, un4 y.data.toList = p := ⟨_, rfl⟩
  obtain ⟨q, hq⟩ : ∃ q, crc z.data.toList = q := ⟨_, rfl⟩
  rw [hy] at k1
  rw [hz] at k2
  have HY : Hid (∀ w : World, Calls Tryz.prog 169 #[.string y] w fun e w' => e = .returned (.int .u32 (p : Int)) ∧ ∃ m, w' = w.drewN m) := fun w => hp ▸ fwordOf_any y w hys
  have HS : Hid (∀ w : World, Calls Tryz.prog 114 #[.string z] w fun e w' => e = .returned (.int .u32 (q : Int)) ∧ w' = w) := fun w => hq ▸ fSum_any z w hzs
  by_cases h7 : p = q
  · have HF : Hid (lk s = (n, 0)) := (by unfold lk; rw [if_neg h4, hn, if_neg h5, if_neg h6, hy, hz, hp, hq, if_neg (fun e => e h7)] : _ = _)
    rw [HF.out]
    subst h7
    clear hn hy hz hp hq hys hzs h4 h5 h6
    go_enter Tryz.func145, Tryz.ntmps145
    go_wp2_with (first | (go_at_call 169; refine (HW.out _).mono ?_; rintro e w1 ⟨rfl, m, rfl⟩) | fail)
    go_quiet (first | (go_at_call 114; exact quiet_more_same (HS.out _)) | (go_at_call 169; exact quiet_more (HY.out _)))
    go_wp2
    go_ret2
    exact ⟨rfl, _, rfl⟩
  · have HF : Hid (lk s = (0, 60)) := (by unfold lk; rw [if_neg h4, hn, if_neg h5, if_neg h6, hy, hz, hp, hq, if_pos h7] : _ = _)
    rw [HF.out]
    have h7' : ((p : Int) != q) = true := by simp; omega
    clear hn hy hz hp hq hys hzs h4 h5 h6 h7
    go_enter Tryz.func145, Tryz.ntmps145
    go_wp2_with (first | (go_at_call 169; refine (HW.out _).mono ?_; rintro e w1 ⟨rfl, m, rfl⟩) | fail)
    go_quiet (first | (go_at_call 114; exact quiet_more_same (HS.out _)) | (go_at_call 169; exact quiet_more (HY.out _)))
    go_wp2
    go_ret2
    exact ⟨rfl, _, World.drewN_drewN ..⟩

end Go.Proofs.YtigegdelhpdlhaaGreatDoor

/- The program's look for a frame at a place is the document's. -/
namespace Go.Proofs.YtigegdelhpdlhaaGreatDoor
open Go.RowKit

theorem extract_list (b : ByteArray) (i j : Nat) : (b.extract i j).data.toList = (b.data.toList.take j).drop i := by
  rw [ByteArray.data_extract, Array.toList_extract, List.extract_eq_take_drop]
  rw [List.drop_take]

theorem take_all (b : ByteArray) : b.data.toList.take b.size = b.data.toList := List.take_of_length_le (Nat.le_refl _)

theorem un4_cut (l : List UInt8) (h : 4 ≤ l.length) : un4 (l.take 4) = un4 l := by
  match l, h with
  | p :: q :: r :: t :: _, _ => rfl

theorem un4_ext (b : ByteArray) {a : Nat} (h : a + 4 ≤ b.size) : un4 (b.extract a b.size).data.toList = lenAt b a := by
  have hl : b.data.toList.length = b.size := rfl
  unfold lenAt
  rw [extract_list, extract_list, take_all, ← un4_cut (b.data.toList.drop a) (by rw [List.length_drop]; omega), List.drop_take, Nat.add_sub_cancel_left]

theorem crc_ext (b : ByteArray) (a n : Nat) : ((b.extract a b.size).extract 0 (4 + n)).data.toList = (b.extract a (a + 4 + n)).data.toList := by
  rw [extract_list, extract_list, extract_list, List.drop_zero, take_all, List.drop_take, show a + 4 + n - a = 4 + n by omega]

theorem was_ext (b : ByteArray) {a n : Nat} (h : a + 8 + n ≤ b.size) : un4 ((b.extract a b.size).extract (4 + n) (b.extract a b.size).size).data.toList = wasAt b a n := by
  have hl : b.data.toList.length = b.size := rfl
  unfold wasAt
  rw [extract_list, extract_list, extract_list, take_all, ByteArray.size_extract, List.take_of_length_le (by rw [List.length_drop]; omega), List.drop_drop, ← un4_cut _ (by rw [List.length_drop]; omega), List.drop_take,
    show a + 8 + n - (a + 4 + n) = 4 by omega, show a + (4 + n) = a + 4 + n by omega]

/-- what is found at a place, by the look at what stands from there on -/
theorem found_lk (b : ByteArray) {a : Nat} (h : a ≤ b.size) : found b a =
    (if (lk (b.extract a b.size)).2 = 0 then ⟨b.extract (a + 4) (a + 4 + (lk (b.extract a b.size)).1), (a : Int) + 8 + (lk (b.extract a b.size)).1, 0, 0⟩ else ⟨.empty, 0, a, (lk (b.extract a b.size)).2⟩) ∧
    ((lk (b.extract a b.size)).2 = 0 → a + 8 + (lk (b.extract a b.size)).1 ≤ b.size ∧ (lk (b.extract a b.size)).1 ≤ 65536) := by
  have hs : (b.extract a b.size).size = b.size - a := by rw [ByteArray.size_extract]; omega
  have h0 : ¬ ((a : Int) < 0 ∨ (b.size : Int) < a) := by omega
  have ht : (a : Int).toNat = a := by omega
  by_cases h4 : b.size < a + 4
  · have e : lk (b.extract a b.size) = (0, 61) := by unfold lk; rw [if_pos (by omega)]
    rw [e]
    exact ⟨by unfold found; rw [if_neg h0, ht, if_pos h4, if_neg (by decide)], fun h => by cases h⟩
  have hu := un4_ext b (a := a) (by omega)
  by_cases h5 : 65536 < lenAt b a
  · have e : lk (b.extract a b.size) = (0, 2) := by unfold lk; rw [if_neg (by omega), hu, if_pos h5]
    rw [e]
    exact ⟨by unfold found; rw [if_neg h0, ht, if_neg h4, if_pos h5, if_neg (by decide)], fun h => by cases h⟩
  by_cases h6 : b.size < a + 8 + lenAt b a
  · have e : lk (b.extract a b.size) = (0, 61) := by unfold lk; rw [if_neg (by omega), hu, if_neg h5, if_pos (by omega)]
    rw [e]
    exact ⟨by unfold found; rw [if_neg h0, ht, if_neg h4, if_neg h5, if_pos h6, if_neg (by decide)], fun h => by cases h⟩
  have e1 : un4 ((b.extract a b.size).extract (4 + lenAt b a) (b.extract a b.size).size).data.toList = wasAt b a (lenAt b a) := was_ext b (by omega)
  have e2 : crc ((b.extract a b.size).extract 0 (4 + lenAt b a)).data.toList = sumAt b a (lenAt b a) := by rw [crc_ext b]; rfl
  by_cases h7 : sumAt b a (lenAt b a) ≠ wasAt b a (lenAt b a)
  · have e : lk (b.extract a b.size) = (0, 60) := by unfold lk; rw [if_neg (by omega), hu, if_neg h5, if_neg (by omega), e1, e2, if_pos (Ne.symm h7)]
    rw [e]
    exact ⟨by unfold found; rw [if_neg h0, ht, if_neg h4, if_neg h5, if_neg h6, if_pos h7, if_neg (by decide)], fun h => by cases h⟩
  · have e : lk (b.extract a b.size) = (lenAt b a, 0) := by unfold lk; rw [if_neg (by omega), hu, if_neg h5, if_neg (by omega), e1, e2, if_neg (fun h => h7 (Ne.symm h))]
    rw [e]
    exact ⟨by unfold found; rw [if_neg h0, ht, if_neg h4, if_neg h5, if_neg h6, if_neg h7, if_pos rfl], fun _ => ⟨by dsimp only; omega, by dsimp only; omega⟩⟩

theorem fault_kept {w w2 : World} {m : Nat} (h : Below ((w.alloc (.cells #[.int .i64 0, .int .i64 0] 176)).drewN m).heap.size ((w.alloc (.cells #[.int .i64 0, .int .i64 0] 176)).drewN m) w2) :
    w2.heap[w.heap.size]? = some (.cells #[.int .i64 0, .int .i64 0] 176 (0, 0)) := by
  rw [h.block _ (by show w.heap.size < (w.alloc _).heap.size; simp)]
  exact heap_new w _

theorem fault_set {w2 : World} {g : Nat} (h : w2.heap[g]? = some (.cells #[.int .i64 0, .int .i64 0] 176 (0, 0))) :
    (w2.setCell ⟨g, 0, none⟩ (.int .i64 0)).cell? ⟨g, 0, none⟩ = some (.int .i64 0) ∧ ((w2.setCell ⟨g, 0, none⟩ (.int .i64 0)).setCell ⟨g, 1, none⟩ (.int .i64 0)).cell? ⟨g, 1, none⟩ = some (.int .i64 0) := by
  have h1 := heap_setCell_same h 0 (.int .i64 0)
  have h2 := heap_setCell_same h1 1 (.int .i64 0)
  exact ⟨by rw [cell_of h1]; rfl, by rw [cell_of h2]; rfl⟩

set_option maxHeartbeats 800000 in
theorem fUnframe_any (b : ByteArray) (x : Int) (w : World) (hb : b.size ≤ 562949953421312) :
    Calls Tryz.prog 121 #[.string b, .int .i64 x] w fun e w' => e = .returned (found b x).en ∧ Below w.heap.size w w' := by
  by_cases h0 : x < 0 ∨ (b.size : Int) < x
  · have HF : Hid (found b x = ⟨.empty, 0, 0, 1⟩) := (by unfold found; rw [if_pos h0] : _ = _)
    rw [HF.out]
    by_cases h1 : x < 0
    · go_enter Tryz.func121, Tryz.ntmps121
      go_wp2
      refine bodyPost_ret (by simp [results, Tryz.results121, go_sem]; rfl) rfl ?_
      exact ⟨rfl, by go_grown⟩
    · have h2 : (b.size : Int) < x := by omega
      go_enter Tryz.func121, Tryz.ntmps121
      go_wp2
      refine bodyPost_ret (by simp [results, Tryz.results121, go_sem]; rfl) rfl ?_
      exact ⟨rfl, by go_grown⟩
  obtain ⟨a, rfl⟩ : ∃ a : Nat, x = (a : Int) := ⟨x.toNat, by omega⟩
  have ha : a ≤ b.size := by omega
  obtain ⟨s, hs⟩ : ∃ s, b.extract a b.size = s := ⟨_, rfl⟩
  have hss : s.size ≤ maxLen := by rw [← hs, ByteArray.size_extract]; unfold maxLen; omega
  have hfl := found_lk b ha
  rw [hs] at hfl
  obtain ⟨L, hL⟩ : ∃ L, lk s = L := ⟨_, rfl⟩
  rw [hL] at hfl
  have HK : Hid (∀ w : World, Calls Tryz.prog 145 #[.string s] w fun e w' => e = .returned (.tuple #[.int .i64 (L.1 : Int), .int .i64 L.2]) ∧ ∃ m, w' = w.drewN m) := fun w => hL ▸ flook_any s w hss
  obtain ⟨n, e⟩ := L
  dsimp only at hfl HK
  have k1 : ∀ w : World, (Instr.slice 9 (.string b) (some (.int .i64 (a : Int))) none none).run Tryz.prog w = .ok (.string s) w := fun w => by
    have h := run_slice_string_l (P := Tryz.prog) w 9 b Tryz.underlying9 .i64 (a : Int) (by omega) (by omega)
    rw [show (a : Int).toNat = a by omega, hs] at h
    exact h
  by_cases he : e = 0
  · subst he
    obtain ⟨h8, h9⟩ := hfl.2 rfl
    have HF : Hid (found b a = ⟨b.extract (a + 4) (a + 4 + n), (a : Int) + 8 + n, 0, 0⟩) := (by rw [hfl.1, if_pos rfl] : _ = _)
    rw [HF.out]
    have x1 : IntKind.i64.wrap ((a : Int) + 4) = (a : Int) + 4 := wrap_small _ (by omega) (by omega)
    have x2 : IntKind.i64.wrap ((a : Int) + 4 + n) = (a : Int) + 4 + n := wrap_small _ (by omega) (by omega)
    have x3 : IntKind.i64.wrap ((a : Int) + 4 + n + 4) = (a : Int) + 8 + n := by rw [wrap_small _ (by omega) (by omega)]; omega
    have k2 : ∀ w : World, (Instr.slice 9 (.string b) (some (.int .i64 ((a : Int) + 4))) (some (.int .i64 ((a : Int) + 4 + n))) none).run Tryz.prog w = .ok (.string (b.extract (a + 4) (a + 4 + n))) w := fun w => by
      rw [run_slice_string w 9 b .i64 .i64 _ _ Tryz.underlying9 (by omega) (by omega) (by omega), show ((a : Int) + 4 + n).toNat = a + 4 + n by omega]
      rfl
    obtain ⟨y, hy⟩ : ∃ y, b.extract (a + 4) (a + 4 + n) = y := ⟨_, rfl⟩
    rw [hy] at k2
    rw [hy]
    have HC : Hid (∀ w : World, Calls Tryz.prog 146 #[.string y] w fun e w' => e = .returned (.string y) ∧ Below w.heap.size w w') := fun w => sClone_any y w (by rw [← hy, ByteArray.size_extract]; omega)
    clear h0 hs hss hfl hL hy
    go_enter Tryz.func121, Tryz.ntmps121
    go_wp2_with (first
      | (go_at_call 145; refine (HK.out _).mono ?_; rintro e w1 ⟨rfl, m, rfl⟩)
      | (go_at_call 146; refine (HC.out _).mono ?_; rintro e w2 ⟨rfl, hw2⟩; have q0 := cell_of (fault_kept hw2) 0; have q1 := cell_of (fault_kept hw2) 1; have q2 := frozen_of (fault_kept hw2) 0; have q3 := frozen_of (fault_kept hw2) 1; rw [show (#[Value.int .i64 0, Value.int .i64 0] : Array Value)[0]? = some (.int .i64 0) from rfl] at q0; rw [show (#[Value.int .i64 0, Value.int .i64 0] : Array Value)[1]? = some (.int .i64 0) from rfl] at q1))
    obtain ⟨r0, r1⟩ := fault_set (fault_kept hw2)
    refine bodyPost_ret (by simp [results, Tryz.results121, go_sem, r0, r1]; rfl) rfl ?_
    have hb1 : Below w.heap.size w ((w.alloc (.cells #[.int .i64 0, .int .i64 0] 176)).drewN m) := below_draws ((Below.refl _ _).alloc (Nat.le_refl _) _) _
    exact ⟨rfl, by go_grown; exact hb1.trans (hw2.mono hb1.size)⟩
  · have HF : Hid (found b a = ⟨.empty, 0, a, e⟩) := (by rw [hfl.1, if_neg he] : _ = _)
    rw [HF.out]
    have he' : (e != 0) = true := by simpa using he
    clear h0 hs hss hfl hL he
    go_enter Tryz.func121, Tryz.ntmps121
    go_wp2_with (go_at_call 145; refine (HK.out _).mono ?_; rintro e w1 ⟨rfl, m, rfl⟩)
    refine bodyPost_ret (by simp [results, Tryz.results121, go_sem]; rfl) rfl ?_
    exact ⟨rfl, by go_grown; exact below_draws ((Below.refl _ _).alloc (Nat.le_refl _) _) _⟩

end Go.Proofs.YtigegdelhpdlhaaGreatDoor
