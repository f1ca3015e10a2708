/- Where schemas lie in memory. -/
import Derived.Test.YtfddmibaojfalaaGreatCopy
import Derived.Test.YtfddmibaojfalaaGreatZBlJ
import Derived.Laws.MakeOwn
import Derived.WalkSpells
import Derived.WalkLawsBesides
import Derived.Handy
namespace Go.Proofs.YtfddmibaojfalaaGreat
open Go.RowKit

def enS (x : ByteArray) : List Value := [.string x]
def enI (x : Int) : List Value := [.int .i64 x]
def enC (c : ByteArray × Int) : List Value := [.string c.1, .int .i64 c.2]
/-- an index as it lies: what it is, and the slice of its columns -/
structure Iv where
  ix : Ix
  v : Value
def enX (x : Iv) : List Value := [.string x.ix.nm, x.v, .bool x.ix.un]

/-- a schema's columns and indexes, by their slices -/
def TabV (w : World) (cv iv : Value) (T : Tab) : Prop :=
  SliceAt w cv 2 enC T.co ∧ ∃ X : List Iv, SliceAt w iv 3 enX X ∧ X.map Iv.ix = T.ix ∧ ∀ x ∈ X, SliceAt w x.v 1 enI x.ix.cs
/-- a schema as a value -/
def tabVal (cv iv : Value) (T : Tab) : Value := .agg #[.string T.nm, cv, .int .i64 T.key, iv]

theorem TabV.below {w w' : World} {cv iv : Value} {T : Tab} (h : TabV w cv iv T) (hb : Below w.heap.size w w') : TabV w' cv iv T := by
  obtain ⟨h1, X, h2, h3, h4⟩ := h
  exact ⟨h1.below hb, X, h2.below hb, h3, fun x hx => (h4 x hx).below hb⟩

theorem SliceAt.opened {α : Type} {w : World} {v : Value} {n : Nat} {en : α → List Value} {L : List α} (h : SliceAt w v n en L) :
    ∃ a c, v = .slice a L.length c ∧ L.length ≤ c ∧ c ≤ maxLen ∧ ∀ u, Below w.heap.size w u → ∀ i, (hi : i < L.length) → ∃ b off, a = some ⟨b, off, none⟩ ∧ b < w.heap.size ∧ ∀ j x, (en L[i])[j]? = some x → u.cell? ⟨b, off + i * n + j, none⟩ = some x := by
  obtain ⟨a, c, e, h1, h2, h3⟩ := h
  refine ⟨a, c, e, h1, h2, fun u hu i hi => ?_⟩
  obtain ⟨b, off, e, hl, hc⟩ := h3 (fun e => by rw [e] at hi; simp at hi)
  exact ⟨b, off, e, hl, fun j x hx => by rw [hu.cell (p := ⟨b, off + i * n + j, none⟩) hl]; exact hc i hi j x hx⟩

/-! ### blocks of texts -/
def scells (L : List ByteArray) : List Value := L.map fun x => Value.string x
theorem scells_length (L : List ByteArray) : (scells L).length = L.length := by simp [scells]
theorem scells_set (L : List ByteArray) (i : Nat) (x : ByteArray) : (scells L).set i (.string x) = scells (L.set i x) := by simp [scells]
theorem scells_flat (K : List ByteArray) : flat enS K = scells K := by
  induction K with
  | nil => rfl
  | cons k K ih => rw [flat_cons, ih]; rfl

theorem make_strs (w : World) (n : Nat) (hn : n ≤ 100000) :
    (Instr.makeSlice 116 (.int .i64 (n : Int)) (.int .i64 (n : Int))).run Tryz.prog w = .ok (.slice (some ⟨w.heap.size, 0, none⟩) n n) (w.alloc (.cells (scells (List.replicate n ⟨#[]⟩)).toArray 9)) := by
  have hi : (Tryz.prog.info? 9).map (fun i => (i.zero, i.size, i.bytes)) = some (some (.string ⟨#[]⟩), 1, 16) := by kernel_rfl
  cases hq : Tryz.prog.info? 9 with
  | none => rw [hq] at hi; cases hi
  | some inf =>
    rw [hq] at hi
    simp only [Option.map_some, Option.some.injEq, Prod.mk.injEq] at hi
    obtain ⟨h1, h2, h3⟩ := hi
    have h4 : ((16 * n : Nat) : Int) ≤ 281474976710656 := by omega
    rw [Int.natCast_mul] at h4
    have := run_make (P := Tryz.prog) w 116 9 inf (.string ⟨#[]⟩) Tryz.underlying116 hq h1 .i64 .i64 (n : Int) (n : Int) (by omega) (Int.le_refl _) (by rw [h3]; exact h4) (by omega)
    rw [h2] at this
    rw [Nat.mul_one] at this
    have e : madeCells (Value.string ⟨#[]⟩).cells n = (scells (List.replicate n ⟨#[]⟩)).toArray := by
      apply Array.ext'
      apply List.ext_getElem?
      intro i
      by_cases hi : i < n
      · simp [madeCells, scells, Value.cells, hi, Nat.mod_one]
      · simp [madeCells, scells, Value.cells, hi]
    rw [Int.toNat_natCast, e] at this
    exact this

/-- a block of texts -/
def TextsAt (w : World) (b : Nat) (L : List ByteArray) : Prop := w.heap[b]? = some (.cells (scells L).toArray 9 (0, 0))
theorem TextsAt.cell {w : World} {b : Nat} {L : List ByteArray} (h : TextsAt w b L) {i : Nat} {x : ByteArray} (hx : L[i]? = some x) : w.cell? ⟨b, i, none⟩ = some (.string x) := by
  rw [cell_of h]
  simp [scells, hx]
theorem TextsAt.set {w : World} {b : Nat} {L : List ByteArray} (h : TextsAt w b L) (i : Nat) (x : ByteArray) : TextsAt (w.setCell ⟨b, i, none⟩ (.string x)) b (L.set i x) := by
  have := heap_setCell_same h i (.string x)
  rw [List.setIfInBounds_toArray, scells_set] at this
  exact this
theorem TextsAt.below {w w' : World} {b : Nat} {L : List ByteArray} (h : TextsAt w b L) (hb : Below w.heap.size w w') : TextsAt w' b L := (hb.block b (lt_of h)).trans h

/-- the first j texts, and nothing behind them -/
def part (K : List ByteArray) (j : Nat) : List ByteArray := K.take j ++ List.replicate (K.length - j) ⟨#[]⟩
theorem part_zero (K : List ByteArray) : part K 0 = List.replicate K.length ⟨#[]⟩ := by simp [part]
theorem part_all (K : List ByteArray) : part K K.length = K := by simp [part]
theorem part_length (K : List ByteArray) {j : Nat} (h : j ≤ K.length) : (part K j).length = K.length := by simp [part]; omega
theorem part_at (K : List ByteArray) {j : Nat} (h : j < K.length) : (part K j)[j]? = some ⟨#[]⟩ := by
  unfold part
  rw [List.getElem?_append_right (by simp; omega), List.length_take, Nat.min_eq_left (Nat.le_of_lt h), Nat.sub_self]
  rw [List.getElem?_replicate, if_pos (by omega)]
theorem part_next (K : List ByteArray) {j : Nat} (h : j < K.length) : (part K j).set j K[j] = part K (j + 1) := by
  unfold part
  rw [List.set_append_right _ _ (by simp; omega), List.length_take, Nat.min_eq_left (Nat.le_of_lt h), Nat.sub_self, show K.length - j = (K.length - (j + 1)) + 1 by omega, List.replicate_succ, List.set_cons_zero, List.take_add_one, List.getElem?_eq_getElem h, List.append_assoc]
  rfl

end Go.Proofs.YtfddmibaojfalaaGreat
