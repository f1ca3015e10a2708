/- Blocks of bytes written one by one; what FrameSums needs of lists. -/
import Derived.Test.YthiihilifckapaaFWorks
import Derived.Deep.QuietTactic
namespace Go.Proofs.Ythiihilifckapaa
open Go.RowKit

theorem cellsB_length (l : List UInt8) : (cellsB l).length = l.length := by simp [cellsB]

/-- a block that holds bytes -/
def HoldsB (w : World) (g : Nat) (l : List UInt8) : Prop := ∃ C : Array Value, C.toList = cellsB l ∧ w.heap[g]? = some (.cells C 5 (0, 0))

theorem HoldsB.lt {w : World} {g : Nat} {l : List UInt8} (h : HoldsB w g l) : g < w.heap.size := by
  obtain ⟨C, -, h2⟩ := h
  exact lt_of h2

theorem HoldsB.of_block {w w' : World} {g : Nat} {l : List UInt8} (h : HoldsB w g l) (e : w'.heap[g]? = w.heap[g]?) : HoldsB w' g l := by
  obtain ⟨C, h1, h2⟩ := h
  exact ⟨C, h1, e.trans h2⟩

theorem HoldsB.kept {w w' : World} {g : Nat} {l : List UInt8} (h : HoldsB w g l) (hb : Below w.heap.size w w') : HoldsB w' g l :=
  h.of_block (hb.block g h.lt)

theorem HoldsB.cell {w : World} {g : Nat} {l : List UInt8} (h : HoldsB w g l) {i : Nat} (hi : i < l.length) : w.cell? ⟨g, i, none⟩ = some (.int .u8 (l[i].toNat : Int)) := by
  obtain ⟨C, h1, h2⟩ := h
  rw [cell_of h2, ← Array.getElem?_toList, h1]
  simp [cellsB, hi]

theorem HoldsB.frozen {w : World} {g : Nat} {l : List UInt8} (h : HoldsB w g l) (i : Nat) : w.frozen? ⟨g, i, none⟩ = false := by
  obtain ⟨C, -, h2⟩ := h
  exact frozen_of h2 i

theorem HoldsB.set {w : World} {g : Nat} {l : List UInt8} (h : HoldsB w g l) (i : Nat) (c : UInt8) : HoldsB (w.setCell ⟨g, i, none⟩ (.int .u8 (c.toNat : Int))) g (l.set i c) := by
  obtain ⟨C, h1, h2⟩ := h
  refine ⟨_, ?_, heap_setCell_same h2 i _⟩
  rw [Array.toList_setIfInBounds, h1, cellsB, cellsB, List.map_set]

theorem HoldsB.own {w : World} {g : Nat} {l : List UInt8} (h : HoldsB w g l) {n : Nat} (hn : l.length = n) (hm : n ≤ maxLen) : OwnB w 0 (.slice (some ⟨g, 0, none⟩) n n) l := by
  obtain ⟨C, h1, h2⟩ := h
  have hs : C.size = n := by rw [← Array.length_toList, h1, cellsB_length, hn]
  refine ⟨by rw [cellsB_length, Nat.mul_one], .inr ⟨g, n, C, by rw [hn], Nat.zero_le _, h2, by omega, hm, by omega, ?_⟩⟩
  rw [List.take_of_length_le (by rw [Array.length_toList, hs, hn]; omega), h1]

theorem HoldsB.str {w : World} {g : Nat} {l : List UInt8} (h : HoldsB w g l) {n : Nat} (hn : l.length = n) (hm : n ≤ maxLen) : (convert 39 9 (.slice (some ⟨g, 0, none⟩) n n)).run Try.prog w = .ok (.string (bytesOf l)) w := (h.own hn hm).str

theorem made_full (n : Nat) (hn : n ≤ 281474976710656) : ∃ M : Array Value, M.toList = cellsB (List.replicate n 0) ∧ ∀ W : World, (Instr.makeSlice 39 (.int .i64 (n : Int)) (.int .i64 (n : Int))).run Try.prog W = .ok (.slice (some ⟨W.heap.size, 0, none⟩) n n) (W.alloc (.cells M 5)) := by
  obtain ⟨i0, hi, hz0, hz1, hz2⟩ := infoByte_parts
  refine ⟨madeCells (Value.int .u8 0).cells (((n : Nat) : Int).toNat * i0.size), ?_, fun W => ?_⟩
  · rw [hz1]
    apply List.ext_getElem
    · simp [cellsB, size_madeCells]
    · intro j h1 h2
      simp [madeCells, cellsB, Value.cells, Nat.mod_one]
  · have h := run_make (P := Try.prog) W 39 5 i0 (.int .u8 0) Try.underlying39 hi hz0 .i64 .i64 (n : Int) (n : Int) (by omega) (by omega) (by rw [hz2]; omega) (by omega)
    simpa using h

theorem cut_to (s : ByteArray) (n : Nat) (h : n ≤ s.size) (w : World) : (Instr.slice 9 (.string s) none (some (.int .i64 (n : Int))) none).run Try.prog w = .ok (.string (s.extract 0 n)) w := by
  have := run_slice_string_h (P := Try.prog) w 9 s Try.underlying9 .i64 (n : Int) (by omega) (by omega)
  simpa using this

theorem xorL_zip : ∀ x y : List UInt8, xorL x y = List.zipWith (· ^^^ ·) x y
  | [], [] => rfl
  | [], _ :: _ => rfl
  | _ :: _, [] => rfl
  | a :: x, b :: y => by rw [xorL, List.zipWith_cons_cons, xorL_zip x y]

/-- the first j bytes are differences, the others noughts -/
def partX (p q : List UInt8) (n j : Nat) : List UInt8 := xorL (p.take j) (q.take j) ++ List.replicate (n - j) 0

theorem partX_zero (p q : List UInt8) (n : Nat) : partX p q n 0 = List.replicate n 0 := by simp [partX, xorL]

theorem partX_all {p q : List UInt8} {n : Nat} (hp : p.length = n) (hq : q.length = n) : partX p q n n = xorL p q := by
  rw [partX, List.take_of_length_le (by omega), List.take_of_length_le (by omega), Nat.sub_self, List.replicate_zero, List.append_nil]

theorem partX_length {p q : List UInt8} {n j : Nat} (hp : p.length = n) (hq : q.length = n) (hj : j ≤ n) : (partX p q n j).length = n := by
  rw [partX, List.length_append, xorL_length _ _ (by simp [hp, hq]), List.length_take, List.length_replicate]
  omega

theorem partX_next {p q : List UInt8} {n j : Nat} (hp : p.length = n) (hq : q.length = n) (hj : j < n) : (partX p q n j).set j (p[j] ^^^ q[j]) = partX p q n (j + 1) := by
  have hl : (xorL (p.take j) (q.take j)).length = j := by
    rw [xorL_length _ _ (by simp [hp, hq]), List.length_take]
    omega
  have e : xorL (p.take (j + 1)) (q.take (j + 1)) = xorL (p.take j) (q.take j) ++ [p[j] ^^^ q[j]] := by
    rw [xorL_zip, xorL_zip, List.take_succ_eq_append_getElem (by omega), List.take_succ_eq_append_getElem (by omega), List.zipWith_append (by simp; omega)]
    rfl
  rw [partX, partX, e, List.set_append_right _ _ (by omega), hl, Nat.sub_self, show n - j = (n - (j + 1)) + 1 by omega, List.replicate_succ, List.set_cons_zero, List.append_assoc]
  rfl

end Go.Proofs.Ythiihilifckapaa
