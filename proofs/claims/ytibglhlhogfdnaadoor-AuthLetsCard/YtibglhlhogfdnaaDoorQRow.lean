/- Rows of numbers of any kind: a block that opens with them, and rows of a call's own that grow. Kinds, types and sizes are parameters. -/
import Derived.Test.YtibglhlhogfdnaaDoorCopy
import Derived.Maps.AppendAt
import Derived.Laws.MakeOwn
import Derived.Handy
namespace Go.Proofs.YtibglhlhogfdnaaDoor
open Go.RowKit

/-- a number of a kind, as one cell -/
abbrev enK (k : IntKind) : Nat → List Value := fun x => [Value.int k (x : Int)]
/-- the block g, of elements of type e, opens with the numbers X -/
def RowK (k : IntKind) (e : TypeId) (w : World) (g : Nat) (X : List Nat) : Prop := ∃ cur : Array Value, w.heap[g]? = some (.cells cur e (0, 0)) ∧ cur.toList.take X.length = flat (enK k) X
section
variable {k : IntKind} {e : TypeId} {w w' : World} {g : Nat} {X : List Nat}
theorem flatK_len (k : IntKind) (X : List Nat) : (flat (enK k) X).length = X.length := by rw [flat_length (m := 1) (fun _ => rfl), Nat.one_mul]
theorem RowK.cell (h : RowK k e w g X) {i : Nat} {x : Nat} (hx : X[i]? = some x) : w.cell? ⟨g, i, none⟩ = some (.int k (x : Int)) := by
  obtain ⟨cur, h1, h2⟩ := h
  obtain ⟨hi, he⟩ := List.getElem?_eq_some_iff.1 hx
  have h3 := flat_get (en := enK k) (m := 1) (fun _ => rfl) X i hi 0 (by omega)
  rw [← h2, Nat.one_mul, Nat.add_zero, List.getElem?_take_of_lt hi] at h3
  rw [cell_of h1, ← Array.getElem?_toList, h3, he]
  rfl
theorem RowK.frozen (h : RowK k e w g X) (i : Nat) : w.frozen? ⟨g, i, none⟩ = false := by
  obtain ⟨cur, h1, _⟩ := h
  exact frozen_of h1 i
theorem RowK.lt (h : RowK k e w g X) : g < w.heap.size := by
  obtain ⟨cur, h1, _⟩ := h
  exact lt_of h1
theorem RowK.set (h : RowK k e w g X) {i : Nat} (hi : i < X.length) (y : Nat) : RowK k e (w.setCell ⟨g, i, none⟩ (.int k (y : Int))) g (X.set i y) := by
  obtain ⟨cur, h1, h2⟩ := h
  refine ⟨_, heap_setCell_same h1 i _, ?_⟩
  have h3 := flat_set (en := enK k) (m := 1) (fun _ => rfl) X i hi 0 (.int k (y : Int)) y (by omega) rfl
  rw [Nat.one_mul, Nat.add_zero] at h3
  rw [List.length_set, ← h3, ← h2, Array.toList_setIfInBounds, List.take_set]
theorem RowK.same (h : RowK k e w g X) (hb : w'.heap[g]? = w.heap[g]?) : RowK k e w' g X := by
  obtain ⟨cur, h1, h2⟩ := h
  exact ⟨cur, hb.trans h1, h2⟩
theorem RowK.below (h : RowK k e w g X) (hb : Below w.heap.size w w') : RowK k e w' g X := h.same (hb.block g h.lt)
theorem RowK.new (w : World) (k : IntKind) (e : TypeId) (X : List Nat) (cur : Array Value) (h : cur.toList = flat (enK k) X) : RowK k e (w.alloc (.cells cur e)) w.heap.size X :=
  ⟨cur, heap_new w _, by rw [List.take_of_length_le (by rw [h, flatK_len]; omega)]; exact h⟩
end

/-- what is asked of the program of a kind, its element's type and the slice's -/
structure KindOk (k : IntKind) (e t : TypeId) (bytes : Nat) : Prop where
  sl : Tryd.prog.underlying t = some (.slice e)
  info : (Tryd.prog.info? e).map (fun i => (i.zero, i.size, i.bytes)) = some (some (.int k 0), 1, bytes)
  few : bytes ≤ 8

theorem ownK_shape {w : World} {base n : Nat} {e : TypeId} {v : Value} {xs : List Value} (h : w.ownsRow base e 1 v n xs) : ∃ A m, v = .slice A n m := by
  rcases h.2 with ⟨h1, h2⟩ | ⟨g, cap, cur, h1, _⟩
  · subst h2; exact ⟨none, 0, h1⟩
  · exact ⟨some ⟨g, 0, none⟩, cap, h1⟩
/-- numbers more at the end of a row of a call's own; where the new row lies -/
theorem wpList_nums {k : IntKind} {e t : TypeId} {bytes : Nat} (KO : KindOk k e t bytes) {w : World} {ops : Array Oper} {rest : List Oper} {o : Oper} {a : Act} {Q : Exit → Act → World → Prop} (hgd : o.guard = none) (s x : Operand)
    (ho : o.op = .call { callee := .builtin .append, args := #[s, x], argTypes := #[t, t] })
    (base : Nat) (L Y : List Nat) (A : Option Addr) (n c : Nat) (hs : a.eval s = .slice A n c) (hown : w.ownsRow base e 1 (.slice A n c) n (flat (enK k) L)) (hn : n ≤ 1000000000) (hbase : base ≤ w.heap.size)
    (p m : Nat) {cx : Nat} (hx : a.eval x = .slice (some ⟨p, 0, none⟩) m cx) (hm : Y.length = m) (hm2 : m ≤ 1000000) (hp : RowK k e w p Y)
    (h : ∀ A' c' w', w'.ownsRow base e 1 (.slice A' (n + m) c') (n + m) (flat (enK k) (L ++ Y)) → Below base w w' → w.grownBy w' (Value.slice A n c).ownBlock → ((Value.slice A' (n + m) c').ownBlock = (Value.slice A n c).ownBlock ∨ (Value.slice A' (n + m) c').ownBlock = some w.heap.size) → wpList Tryd.prog ops Q rest (a.put o.dst (.slice A' (n + m) c')) w') :
    wpList Tryd.prog ops Q (o :: rest) a w := by
  obtain ⟨i, hi, hz, h1, h2⟩ := info_parts KO.info
  have hf := KO.few
  refine wpList_append_own_at _ hgd s x t ho base e i (.int k 0) 1 bytes KO.sl hi hz h1 h2 rfl (by decide) _ n _ hs hown ⟨p, 0, none⟩ m cx (flat (enK k) Y) hx (by rw [flatK_len, hm, Nat.mul_one]) (fun j u hu => ?_) (fun u hu => ?_) (by unfold maxLen; omega) ?_ hbase (fun v' w' k1 k2 _ k4 => ?_)
  · obtain ⟨cur, h3, h4⟩ := hp
    have hj : j < Y.length := by
      have := (List.getElem?_eq_some_iff.1 hu).1
      rwa [flatK_len] at this
    rw [← h4, List.getElem?_take_of_lt hj] at hu
    rw [Addr.add_lit, Nat.zero_add, cell_of h3, ← Array.getElem?_toList, hu]
  · have : ∀ (Z : List Nat) (u : Value), u ∈ flat (enK k) Z → u.oneCell' = true := fun Z => by
      induction Z with
      | nil => intro u hu; cases hu
      | cons z Z ih =>
        intro u hu
        rw [flat_cons] at hu
        rcases List.mem_append.1 hu with hu | hu
        · rw [List.mem_singleton.1 hu]; rfl
        · exact ih u hu
    exact this Y u hu
  · calc (n + m) * bytes ≤ (n + m) * 8 := Nat.mul_le_mul_left _ hf
      _ ≤ 140737488355328 := by omega
  · obtain ⟨A', m', rfl⟩ := ownK_shape k1
    refine h A' m' w' ?_ ((Below.refl _ _).grown k2 hbase (fun k hk => ?_)) k2 k4
    · rw [flat_append]
      exact k1
    · exact (hown.lt k hk).1
theorem row_ofK {k : IntKind} {e : TypeId} {w : World} {base n c : Nat} {A : Option Addr} {X : List Nat} (h : w.ownsRow base e 1 (.slice A n c) n (flat (enK k) X)) (hn : 0 < n) (hx : X.length = n) : ∃ g, A = some ⟨g, 0, none⟩ ∧ base ≤ g ∧ RowK k e w g X ∧ n ≤ c ∧ c ≤ maxLen := by
  rcases h.2 with ⟨h1, h2⟩ | ⟨g, cap, cur, h1, h3, h4, h5, h6, _, h8⟩
  · omega
  · cases h1
    exact ⟨g, rfl, h3, ⟨cur, h4, by rw [hx]; rw [Nat.mul_one] at h8; exact h8⟩, h5, h6⟩
theorem own_nil {w : World} {k : IntKind} {e : TypeId} {base : Nat} : w.ownsRow base e 1 (.slice none 0 0) 0 (flat (enK k) []) := ⟨rfl, Or.inl ⟨rfl, rfl⟩⟩
end Go.Proofs.YtibglhlhogfdnaaDoor
