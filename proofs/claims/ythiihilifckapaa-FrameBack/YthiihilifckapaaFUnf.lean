/- The program's look for a frame at a place is the document's. -/
import Derived.Test.YthiihilifckapaaFLook
import Derived.Test.YthiihilifckapaaFClone
namespace Go.Proofs.Ythiihilifckapaa
open Go.RowKit

theorem extract_list (b : ByteArray) (i j : Nat) : (b.extract i j).data.toList = (b.data.toList.take j).drop i := by
  rw [ByteArray.data_extract, Array.toList_extract, List.extract_eq_take_drop]
  rw [List.drop_take]

theorem take_all (b : ByteArray) : b.data.toList.take b.size = b.data.toList := List.take_of_length_le (Nat.le_refl _)

theorem un4_cut (l : List UInt8) (h : 4 ≤ l.length) : un4 (l.take 4) = un4 l := by
  match l, h with
  | p :: q :: r :: t :: _, _ => rfl

theorem un4_ext (b : ByteArray) {a : Nat} (h : a + 4 ≤ b.size) : un4 (b.extract a b.size).data.toList = lenAt b a := by
  have hl : b.data.toList.length = b.size := rfl
  unfold lenAt
  rw [extract_list, extract_list, take_all, ← un4_cut (b.data.toList.drop a) (by rw [List.length_drop]; omega), List.drop_take, Nat.add_sub_cancel_left]

theorem crc_ext (b : ByteArray) (a n : Nat) : ((b.extract a b.size).extract 0 (4 + n)).data.toList = (b.extract a (a + 4 + n)).data.toList := by
  rw [extract_list, extract_list, extract_list, List.drop_zero, take_all, List.drop_take, show a + 4 + n - a = 4 + n by omega]

theorem was_ext (b : ByteArray) {a n : Nat} (h : a + 8 + n ≤ b.size) : un4 ((b.extract a b.size).extract (4 + n) (b.extract a b.size).size).data.toList = wasAt b a n := by
  have hl : b.data.toList.length = b.size := rfl
  unfold wasAt
  rw [extract_list, extract_list, extract_list, take_all, ByteArray.size_extract, List.take_of_length_le (by rw [List.length_drop]; omega), List.drop_drop, ← un4_cut _ (by rw [List.length_drop]; omega), List.drop_take,
    show a + 8 + n - (a + 4 + n) = 4 by omega, show a + (4 + n) = a + 4 + n by omega]

/-- what is found at a place, by the look at what stands from there on -/
theorem found_lk (b : ByteArray) {a : Nat} (h : a ≤ b.size) : found b a =
    (if (lk (b.extract a b.size)).2 = 0 then ⟨b.extract (a + 4) (a + 4 + (lk (b.extract a b.size)).1), (a : Int) + 8 + (lk (b.extract a b.size)).1, 0, 0⟩ else ⟨.empty, 0, a, (lk (b.extract a b.size)).2⟩) ∧
    ((lk (b.extract a b.size)).2 = 0 → a + 8 + (lk (b.extract a b.size)).1 ≤ b.size ∧ (lk (b.extract a b.size)).1 ≤ 65536) := by
  have hs : (b.extract a b.size).size = b.size - a := by rw [ByteArray.size_extract]; omega
  have h0 : ¬ ((a : Int) < 0 ∨ (b.size : Int) < a) := by omega
  have ht : (a : Int).toNat = a := by omega
  by_cases h4 : b.size < a + 4
  · have e : lk (b.extract a b.size) = (0, 61) := by unfold lk; rw [if_pos (by omega)]
    rw [e]
    exact ⟨by unfold found; rw [if_neg h0, ht, if_pos h4, if_neg (by decide)], fun h => by cases h⟩
  have hu := un4_ext b (a := a) (by omega)
  by_cases h5 : 65536 < lenAt b a
  · have e : lk (b.extract a b.size) = (0, 2) := by unfold lk; rw [if_neg (by omega), hu, if_pos h5]
    rw [e]
    exact ⟨by unfold found; rw [if_neg h0, ht, if_neg h4, if_pos h5, if_neg (by decide)], fun h => by cases h⟩
  by_cases h6 : b.size < a + 8 + lenAt b a
  · have e : lk (b.extract a b.size) = (0, 61) := by unfold lk; rw [if_neg (by omega), hu, if_neg h5, if_pos (by omega)]
    rw [e]
    exact ⟨by unfold found; rw [if_neg h0, ht, if_neg h4, if_neg h5, if_pos h6, if_neg (by decide)], fun h => by cases h⟩
  have e1 : un4 ((b.extract a b.size).extract (4 + lenAt b a) (b.extract a b.size).size).data.toList = wasAt b a (lenAt b a) := was_ext b (by omega)
  have e2 : crc ((b.extract a b.size).extract 0 (4 + lenAt b a)).data.toList = sumAt b a (lenAt b a) := by rw [crc_ext b]; rfl
  by_cases h7 : sumAt b a (lenAt b a) ≠ wasAt b a (lenAt b a)
  · have e : lk (b.extract a b.size) = (0, 60) := by unfold lk; rw [if_neg (by omega), hu, if_neg h5, if_neg (by omega), e1, e2, if_pos (Ne.symm h7)]
    rw [e]
    exact ⟨by unfold found; rw [if_neg h0, ht, if_neg h4, if_neg h5, if_neg h6, if_pos h7, if_neg (by decide)], fun h => by cases h⟩
  · have e : lk (b.extract a b.size) = (lenAt b a, 0) := by unfold lk; rw [if_neg (by omega), hu, if_neg h5, if_neg (by omega), e1, e2, if_neg (fun h => h7 (Ne.symm h))]
    rw [e]
    exact ⟨by unfold found; rw [if_neg h0, ht, if_neg h4, if_neg h5, if_neg h6, if_neg h7, if_pos rfl], fun _ => ⟨by dsimp only; omega, by dsimp only; omega⟩⟩

theorem fault_kept {w w2 : World} {m : Nat} (h : Below ((w.alloc (.cells #[.int .i64 0, .int .i64 0] 28)).drewN m).heap.size ((w.alloc (.cells #[.int .i64 0, .int .i64 0] 28)).drewN m) w2) :
    w2.heap[w.heap.size]? = some (.cells #[.int .i64 0, .int .i64 0] 28 (0, 0)) := by
  rw [h.block _ (by show w.heap.size < (w.alloc _).heap.size; simp)]
  exact heap_new w _

theorem fault_set {w2 : World} {g : Nat} (h : w2.heap[g]? = some (.cells #[.int .i64 0, .int .i64 0] 28 (0, 0))) :
    (w2.setCell ⟨g, 0, none⟩ (.int .i64 0)).cell? ⟨g, 0, none⟩ = some (.int .i64 0) ∧ ((w2.setCell ⟨g, 0, none⟩ (.int .i64 0)).setCell ⟨g, 1, none⟩ (.int .i64 0)).cell? ⟨g, 1, none⟩ = some (.int .i64 0) := by
  have h1 := heap_setCell_same h 0 (.int .i64 0)
  have h2 := heap_setCell_same h1 1 (.int .i64 0)
  exact ⟨by rw [cell_of h1]; rfl, by rw [cell_of h2]; rfl⟩

set_option maxHeartbeats 800000 in
theorem fUnframe_any (b : ByteArray) (x : Int) (w : World) (hb : b.size ≤ 562949953421312) :
    Calls Try.prog 11 #[.string b, .int .i64 x] w fun e w' => e = .returned (found b x).en ∧ Below w.heap.size w w' := by
  by_cases h0 : x < 0 ∨ (b.size : Int) < x
  · have HF : Hid (found b x = ⟨.empty, 0, 0, 1⟩) := (by unfold found; rw [if_pos h0] : _ = _)
    rw [HF.out]
    by_cases h1 : x < 0
    · go_enter Try.func11, Try.ntmps11
      go_wp2
      refine bodyPost_ret (by simp [results, Try.results11, go_sem]; rfl) rfl ?_
      exact ⟨rfl, by go_grown⟩
    · have h2 : (b.size : Int) < x := by omega
      go_enter Try.func11, Try.ntmps11
      go_wp2
      refine bodyPost_ret (by simp [results, Try.results11, go_sem]; rfl) rfl ?_
      exact ⟨rfl, by go_grown⟩
  obtain ⟨a, rfl⟩ : ∃ a : Nat, x = (a : Int) := ⟨x.toNat, by omega⟩
  have ha : a ≤ b.size := by omega
  obtain ⟨s, hs⟩ : ∃ s, b.extract a b.size = s := ⟨_, rfl⟩
  have hss : s.size ≤ maxLen := by rw [← hs, ByteArray.size_extract]; unfold maxLen; omega
  have hfl := found_lk b ha
  rw [hs] at hfl
  obtain ⟨L, hL⟩ : ∃ L, lk s = L := ⟨_, rfl⟩
  rw [hL] at hfl
  have HK : Hid (∀ w : World, Calls Try.prog 19 #[.string s] w fun e w' => e = .returned (.tuple #[.int .i64 (L.1 : Int), .int .i64 L.2]) ∧ ∃ m, w' = w.drewN m) := fun w => hL ▸ flook_any s w hss
  obtain ⟨n, e⟩ := L
  dsimp only at hfl HK
  have k1 : ∀ w : World, (Instr.slice 9 (.string b) (some (.int .i64 (a : Int))) none none).run Try.prog w = .ok (.string s) w := fun w => by
    have h := run_slice_string_l (P := Try.prog) w 9 b Try.underlying9 .i64 (a : Int) (by omega) (by omega)
    rw [show (a : Int).toNat = a by omega, hs] at h
    exact h
  by_cases he : e = 0
  · subst he
    obtain ⟨h8, h9⟩ := hfl.2 rfl
    have HF : Hid (found b a = ⟨b.extract (a + 4) (a + 4 + n), (a : Int) + 8 + n, 0, 0⟩) := (by rw [hfl.1, if_pos rfl] : _ = _)
    rw [HF.out]
    have x1 : IntKind.i64.wrap ((a : Int) + 4) = (a : Int) + 4 := wrap_small _ (by omega) (by omega)
    have x2 : IntKind.i64.wrap ((a : Int) + 4 + n) = (a : Int) + 4 + n := wrap_small _ (by omega) (by omega)
    have x3 : IntKind.i64.wrap ((a : Int) + 4 + n + 4) = (a : Int) + 8 + n := by rw [wrap_small _ (by omega) (by omega)]; omega
    have k2 : ∀ w : World, (Instr.slice 9 (.string b) (some (.int .i64 ((a : Int) + 4))) (some (.int .i64 ((a : Int) + 4 + n))) none).run Try.prog w = .ok (.string (b.extract (a + 4) (a + 4 + n))) w := fun w => by
      rw [run_slice_string w 9 b .i64 .i64 _ _ Try.underlying9 (by omega) (by omega) (by omega), show ((a : Int) + 4 + n).toNat = a + 4 + n by omega]
      rfl
    obtain ⟨y, hy⟩ : ∃ y, b.extract (a + 4) (a + 4 + n) = y := ⟨_, rfl⟩
    rw [hy] at k2
    rw [hy]
    have HC : Hid (∀ w : World, Calls Try.prog 20 #[.string y] w fun e w' => e = .returned (.string y) ∧ Below w.heap.size w w') := fun w => sClone_any y w (by rw [← hy, ByteArray.size_extract]; omega)
    clear h0 hs hss hfl hL hy
    go_enter Try.func11, Try.ntmps11
    go_wp2_with (first
      | (go_at_call 19; refine (HK.out _).mono ?_; rintro e w1 ⟨rfl, m, rfl⟩)
      | (go_at_call 20; refine (HC.out _).mono ?_; rintro e w2 ⟨rfl, hw2⟩; have q0 := cell_of (fault_kept hw2) 0; have q1 := cell_of (fault_kept hw2) 1; have q2 := frozen_of (fault_kept hw2) 0; have q3 := frozen_of (fault_kept hw2) 1; rw [show (#[Value.int .i64 0, Value.int .i64 0] : Array Value)[0]? = some (.int .i64 0) from rfl] at q0; rw [show (#[Value.int .i64 0, Value.int .i64 0] : Array Value)[1]? = some (.int .i64 0) from rfl] at q1))
    obtain ⟨r0, r1⟩ := fault_set (fault_kept hw2)
    refine bodyPost_ret (by simp [results, Try.results11, go_sem, r0, r1]; rfl) rfl ?_
    have hb1 : Below w.heap.size w ((w.alloc (.cells #[.int .i64 0, .int .i64 0] 28)).drewN m) := below_draws ((Below.refl _ _).alloc (Nat.le_refl _) _) _
    exact ⟨rfl, by go_grown; exact hb1.trans (hw2.mono hb1.size)⟩
  · have HF : Hid (found b a = ⟨.empty, 0, a, e⟩) := (by rw [hfl.1, if_neg he] : _ = _)
    rw [HF.out]
    have he' : (e != 0) = true := by simpa using he
    clear h0 hs hss hfl hL he
    go_enter Try.func11, Try.ntmps11
    go_wp2_with (go_at_call 19; refine (HK.out _).mono ?_; rintro e w1 ⟨rfl, m, rfl⟩)
    refine bodyPost_ret (by simp [results, Try.results11, go_sem]; rfl) rfl ?_
    exact ⟨rfl, by go_grown; exact below_draws ((Below.refl _ _).alloc (Nat.le_refl _) _) _⟩

end Go.Proofs.Ythiihilifckapaa
