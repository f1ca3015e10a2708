/- What is of no program: worlds that turn in some blocks alone, blocks, rows, objects with a footprint, and blocks of a call's own beside them. -/
import Derived.WalkKit
import Derived.Below
import Derived.BigQuiet
import Derived.Deep.QuietTactic
import Derived.Lib.AppendStr
namespace Go.Proofs.YtigegdelhpdlhaaGreatDoor
open Go.RowKit

theorem ret_int {k : IntKind} {a b : Int} (h : a = b) : Ending.returned (.int k a) = .returned (.int k b) := by rw [h]
theorem ret_bool {a b : Bool} (h : a = b) : Ending.returned (.bool a) = .returned (.bool b) := by rw [h]

/-- w' is w but for the blocks of S, and for new ones. -/
structure Turn (S : Nat → Prop) (w w' : World) : Prop where
  os : w'.os = w.os
  tape : w'.tape = w.tape
  output : w'.output = w.output
  size : w.heap.size ≤ w'.heap.size
  block : ∀ i, i < w.heap.size → ¬ S i → w'.heap[i]? = w.heap[i]?

theorem Turn.refl (S : Nat → Prop) (w : World) : Turn S w w := ⟨rfl, rfl, rfl, Nat.le_refl _, fun _ _ _ => rfl⟩
theorem Turn.trans {S : Nat → Prop} {a b c : World} (h : Turn S a b) (k : Turn S b c) : Turn S a c :=
  ⟨k.os.trans h.os, k.tape.trans h.tape, k.output.trans h.output, Nat.le_trans h.size k.size, fun i hi hn => (k.block i (Nat.lt_of_lt_of_le hi h.size) hn).trans (h.block i hi hn)⟩
theorem Turn.transNew {S S' : Nat → Prop} {a b c : World} (h : Turn S a b) (k : Turn S' b c) (hS : ∀ i, S' i → S i ∨ a.heap.size ≤ i) : Turn S a c :=
  ⟨k.os.trans h.os, k.tape.trans h.tape, k.output.trans h.output, Nat.le_trans h.size k.size, fun i hi hn => (k.block i (Nat.lt_of_lt_of_le hi h.size) (fun h' => by
    rcases hS i h' with h1 | h1
    · exact hn h1
    · omega)).trans (h.block i hi hn)⟩
theorem Turn.mono {S S' : Nat → Prop} {w w' : World} (h : Turn S w w') (hS : ∀ i, S i → S' i) : Turn S' w w' := ⟨h.os, h.tape, h.output, h.size, fun i hi hn => h.block i hi (fun h' => hn (hS i h'))⟩
theorem Turn.drew {S : Nat → Prop} {a w : World} (h : Turn S a w) : Turn S a w.drew := ⟨h.os, h.tape, h.output, h.size, h.block⟩
theorem Turn.drewN {S : Nat → Prop} {a w : World} (h : Turn S a w) (n : Nat) : Turn S a (w.drewN n) := ⟨h.os, h.tape, h.output, h.size, h.block⟩
theorem Turn.ofGrown {S : Nat → Prop} {w w' : World} {row : Option Nat} (h : w.grownBy w' row) (hr : ∀ k, row = some k → S k) : Turn S w w' :=
  ⟨h.os, h.tape, h.output, h.size, fun i hi hn => h.block i hi (fun e => hn (hr i e.symm))⟩
theorem Turn.ofBelow {w w' : World} (S : Nat → Prop) (h : Below w.heap.size w w') : Turn S w w' := ⟨h.os, h.tape, h.output, h.size, fun i hi _ => h.block i hi⟩
theorem Turn.toBelow {B : Nat} {w w' : World} (h : Turn (fun i => B ≤ i) w w') (hB : B ≤ w.heap.size) : Below B w w' :=
  ⟨h.os, h.tape, h.output, h.size, fun i hi => h.block i (by omega) (by omega)⟩
theorem Turn.alloc {S : Nat → Prop} (w : World) (o : Obj) : Turn S w (w.alloc o) := ⟨rfl, rfl, rfl, by simp, fun i hi _ => Below.heap_alloc w o i hi⟩
theorem Turn.setCell {S : Nat → Prop} (w : World) (a : Addr) (v : Value) (h : S a.block) : Turn S w (w.setCell a v) :=
  ⟨rfl, rfl, rfl, by simp, fun i _ hn => Below.heap_setCell w a v i (fun e => hn (by rw [e]; exact h))⟩
theorem below_drewN (w : World) (n : Nat) : Below w.heap.size w (w.drewN n) := ⟨rfl, rfl, rfl, Nat.le_refl _, fun _ _ => rfl⟩

/-! ### blocks -/
theorem heap_setCell_same {w : World} {b : Nat} {c : Array Value} {t : TypeId} {fz : Nat × Nat} (h : w.heap[b]? = some (.cells c t fz)) (i : Nat) (v : Value) :
    (w.setCell ⟨b, i, none⟩ v).heap[b]? = some (.cells (c.setIfInBounds i v) t fz) := by
  simp [World.setCell, Array.getElem?_modify, h]
theorem cell_of {w : World} {b : Nat} {c : Array Value} {t : TypeId} {fz : Nat × Nat} (h : w.heap[b]? = some (.cells c t fz)) (i : Nat) : w.cell? ⟨b, i, none⟩ = c[i]? := by
  simp [World.cell?, h]
theorem frozen_of {w : World} {b : Nat} {c : Array Value} {t : TypeId} (h : w.heap[b]? = some (.cells c t (0, 0))) (i : Nat) : w.frozen? ⟨b, i, none⟩ = false := by
  simp [World.frozen?, h]
theorem lt_of {w : World} {b : Nat} {o : Obj} (h : w.heap[b]? = some o) : b < w.heap.size := (Array.getElem?_eq_some_iff.1 h).1
theorem heap_new (w : World) (o : Obj) : (w.alloc o).heap[w.heap.size]? = some o := heap_alloc_new w o

theorem ownsRow_block {w w' : World} {base : Nat} {e : TypeId} {size : Nat} {v : Value} {n : Nat} {xs : List Value} (h : w.ownsRow base e size v n xs) (hb : ∀ g, v.ownBlock = some g → w'.heap[g]? = w.heap[g]?) : w'.ownsRow base e size v n xs := by
  obtain ⟨h1, h2⟩ := h
  refine ⟨h1, ?_⟩
  rcases h2 with h2 | ⟨g, cap, cur, rfl, hg, hh, r⟩
  · exact Or.inl h2
  · exact Or.inr ⟨g, cap, cur, rfl, hg, (hb g rfl).trans hh, r⟩

theorem ownsRow_zero {w : World} {base : Nat} {e : TypeId} {size : Nat} {v : Value} {n : Nat} {xs : List Value} (h : w.ownsRow base e size v n xs) : w.ownsRow 0 e size v n xs := by
  obtain ⟨h1, h2⟩ := h
  refine ⟨h1, ?_⟩
  rcases h2 with h2 | ⟨g, cap, cur, rfl, hg, r⟩
  · exact Or.inl h2
  · exact Or.inr ⟨g, cap, cur, rfl, Nat.zero_le _, r⟩

theorem ownsRow_own {w : World} {base : Nat} {e : TypeId} {size : Nat} {v : Value} {n : Nat} {xs : List Value} (h : w.ownsRow base e size v n xs) {g : Nat} (hv : v.ownBlock = some g) : ∃ cur, w.heap[g]? = some (.cells cur e (0, 0)) ∧ base ≤ g := by
  rcases h.2 with ⟨rfl, _⟩ | ⟨g', cap, cur, rfl, hb, hg, _⟩
  · cases hv
  · cases hv; exact ⟨cur, hg, hb⟩

def bcells (l : List UInt8) : List Value := l.map fun b => Value.int .u8 b.toNat
theorem bcells_length (l : List UInt8) : (bcells l).length = l.length := by simp [bcells]
theorem bcells_append (a b : List UInt8) : bcells (a ++ b) = bcells a ++ bcells b := by simp [bcells]
theorem bcells_str (s : ByteArray) : Lib.strCells s = bcells s.data.toList := rfl
theorem bcells_get {l : List UInt8} {i : Nat} (h : i < l.length) : (bcells l)[i]? = some (.int .u8 ((l[i]).toNat : Int)) := by simp [bcells, h]

/-! ### objects with a footprint -/
/-- An object's law stays true while nothing of its footprint is turned, and its footprint is there. -/
structure Res (I : World → (Nat → Prop) → Prop) : Prop where
  lt : ∀ {w : World} {F : Nat → Prop}, I w F → ∀ i, F i → i < w.heap.size
  kept : ∀ {w w' : World} {F S : Nat → Prop}, I w F → Turn S w w' → (∀ i, F i → ¬ S i) → I w' F

/-- From w to w': the object with footprint F becomes I'. -/
def Goes (I' : World → (Nat → Prop) → Prop) (w w' : World) (F : Nat → Prop) : Prop := ∃ F', I' w' F' ∧ Turn F w w' ∧ ∀ i, F' i → F i ∨ w.heap.size ≤ i

theorem Goes.stay {I : World → (Nat → Prop) → Prop} {w : World} {F : Nat → Prop} (h : I w F) : Goes I w w F := ⟨F, h, Turn.refl _ _, fun _ hi => Or.inl hi⟩
theorem Goes.drew {I : World → (Nat → Prop) → Prop} (R : Res I) {w : World} {F : Nat → Prop} (h : I w F) (n : Nat) : Goes I w (w.drewN n) F :=
  ⟨F, R.kept (S := fun _ => False) h (Turn.ofBelow _ (below_drewN w n)) (fun _ _ h => h), Turn.ofBelow _ (below_drewN w n), fun _ hi => Or.inl hi⟩
theorem Goes.behind {I' : World → (Nat → Prop) → Prop} {w w1 w' : World} {F : Nat → Prop} (hb : Below w.heap.size w w1) (hs : w1.heap.size = w.heap.size) (h : Goes I' w1 w' F) : Goes I' w w' F := by
  obtain ⟨F', h1, h2, h3⟩ := h
  exact ⟨F', h1, (Turn.ofBelow F hb).trans h2, fun i hi => by rw [← hs]; exact h3 i hi⟩
theorem Goes.thenStay {I' : World → (Nat → Prop) → Prop} (R : Res I') {w w1 w' : World} {F : Nat → Prop} (h : Goes I' w w1 F) (hb : Below w1.heap.size w1 w') : Goes I' w w' F := by
  obtain ⟨F', h1, h2, h3⟩ := h
  exact ⟨F', R.kept (S := fun _ => False) h1 (Turn.ofBelow _ hb) (fun _ _ h => h), h2.trans (Turn.ofBelow _ hb), h3⟩

/-- two objects side by side -/
def Sep (I J : World → (Nat → Prop) → Prop) (w : World) (F : Nat → Prop) : Prop := ∃ A B, I w A ∧ J w B ∧ (∀ i, A i → ¬ B i) ∧ (∀ i, A i → F i) ∧ (∀ i, B i → F i) ∧ ∀ i, F i → A i ∨ B i
theorem Sep.res {I J : World → (Nat → Prop) → Prop} (hI : Res I) (hJ : Res J) : Res (Sep I J) := by
  refine ⟨fun {w F} h i hi => ?_, fun {w w' F S} h ht hS => ?_⟩
  · obtain ⟨A, B, h1, h2, _, _, _, h6⟩ := h
    rcases h6 i hi with h | h
    · exact hI.lt h1 i h
    · exact hJ.lt h2 i h
  · obtain ⟨A, B, h1, h2, h3, h4, h5, h6⟩ := h
    exact ⟨A, B, hI.kept h1 ht (fun i hi => hS i (h4 i hi)), hJ.kept h2 ht (fun i hi => hS i (h5 i hi)), h3, h4, h5, h6⟩
theorem Sep.left {I I' J : World → (Nat → Prop) → Prop} (hJ : Res J) {w : World} {F : Nat → Prop} (h : Sep I J w F) : ∃ A, I w A ∧ ∀ w', Goes I' w w' A → Goes (Sep I' J) w w' F := by
  obtain ⟨A, B, h1, h2, h3, h4, h5, h6⟩ := h
  refine ⟨A, h1, fun w' hg => ?_⟩
  obtain ⟨A', g1, g2, g3⟩ := hg
  refine ⟨fun i => A' i ∨ B i, ⟨A', B, g1, hJ.kept h2 g2 (fun i hi hA => h3 i hA hi), fun i hi hB => ?_, fun _ hi => Or.inl hi, fun _ hi => Or.inr hi, fun _ hi => hi⟩, g2.mono h4, fun i hi => ?_⟩
  · rcases g3 i hi with h | h
    · exact h3 i h hB
    · have := hJ.lt h2 i hB; omega
  · rcases hi with hi | hi
    · rcases g3 i hi with h | h
      · exact Or.inl (h4 i h)
      · exact Or.inr h
    · exact Or.inl (h5 i hi)
theorem Sep.swap {I J : World → (Nat → Prop) → Prop} {w : World} {F : Nat → Prop} (h : Sep I J w F) : Sep J I w F := by
  obtain ⟨A, B, h1, h2, h3, h4, h5, h6⟩ := h
  exact ⟨B, A, h2, h1, fun i hb ha => h3 i ha hb, h5, h4, fun i hi => (h6 i hi).symm⟩
theorem Goes.swap {I J : World → (Nat → Prop) → Prop} {w w' : World} {F : Nat → Prop} (h : Goes (Sep I J) w w' F) : Goes (Sep J I) w w' F := by
  obtain ⟨F', h1, h2, h3⟩ := h
  exact ⟨F', h1.swap, h2, h3⟩
theorem Sep.mk {I J : World → (Nat → Prop) → Prop} {w : World} {A B : Nat → Prop} (h1 : I w A) (h2 : J w B) (h : ∀ i, A i → ¬ B i) : Sep I J w (fun i => A i ∨ B i) :=
  ⟨A, B, h1, h2, h, fun _ => Or.inl, fun _ => Or.inr, fun _ h => h⟩

/-! ### a call of its own: an object, and blocks beside it -/
/-- behind w, in wr: the object I, and the blocks L as they are written, all of them new since w; what was there in w is as it was -/
def Stand (I : World → (Nat → Prop) → Prop) (w wr : World) (L : List (Nat × Obj)) : Prop :=
  ∃ F, I wr F ∧ (∀ i, F i → w.heap.size ≤ i) ∧ (∀ p ∈ L, ¬ F p.1) ∧ (∀ p ∈ L, wr.heap[p.1]? = some p.2 ∧ w.heap.size ≤ p.1) ∧ Below w.heap.size w wr

section
variable {I I' : World → (Nat → Prop) → Prop} {w wr w' : World} {L : List (Nat × Obj)}

theorem Stand.base (h : Stand I w wr L) : Below w.heap.size w wr := by obtain ⟨_, _, _, _, _, h⟩ := h; exact h
theorem Stand.at (h : Stand I w wr L) {b : Nat} {o : Obj} (hb : (b, o) ∈ L) : wr.heap[b]? = some o := by obtain ⟨_, _, _, _, h, _⟩ := h; exact (h _ hb).1
theorem Stand.lt (h : Stand I w wr L) {b : Nat} {o : Obj} (hb : (b, o) ∈ L) : w.heap.size ≤ b ∧ b < wr.heap.size := by obtain ⟨_, _, _, _, h, _⟩ := h; exact ⟨(h _ hb).2, lt_of (h _ hb).1⟩

/-- a call on the object -/
theorem Stand.call (h : Stand I w wr L) : ∃ F, I wr F ∧ ∀ w', Goes I' wr w' F → Stand I' w w' L := by
  obtain ⟨F, h1, h2, h3, h4, h5⟩ := h
  refine ⟨F, h1, fun w' hg => ?_⟩
  obtain ⟨F', g1, g2, g3⟩ := hg
  refine ⟨F', g1, fun i hi => ?_, fun p hp hF => ?_, fun p hp => ⟨(g2.block p.1 (lt_of (h4 p hp).1) (h3 p hp)).trans (h4 p hp).1, (h4 p hp).2⟩, h5.trans ((g2.mono h2).toBelow h5.size)⟩
  · rcases g3 i hi with h | h
    · exact h2 i h
    · exact Nat.le_trans h5.size h
  · rcases g3 _ hF with h | h
    · exact h3 p hp h
    · have := lt_of (h4 p hp).1; omega

/-- something that turns nothing old -/
theorem Stand.below (R : Res I) (h : Stand I w wr L) (hb : Below wr.heap.size wr w') : Stand I w w' L := by
  obtain ⟨F, h1, h2, h3, h4, h5⟩ := h
  exact ⟨F, R.kept (S := fun _ => False) h1 (Turn.ofBelow _ hb) (fun _ _ h => h), h2, h3, fun p hp => ⟨(hb.block p.1 (lt_of (h4 p hp).1)).trans (h4 p hp).1, (h4 p hp).2⟩, h5.trans (hb.mono h5.size)⟩
theorem Stand.drewN (R : Res I) (h : Stand I w wr L) (n : Nat) : Stand I w (wr.drewN n) L := h.below R (below_drewN wr n)

/-- a new block -/
theorem Stand.alloc (R : Res I) (h : Stand I w wr L) (o : Obj) : Stand I w (wr.alloc o) ((wr.heap.size, o) :: L) := by
  have hb : Below wr.heap.size wr (wr.alloc o) := (Below.refl _ _).alloc (Nat.le_refl _) o
  obtain ⟨F, h1, h2, h3, h4, h5⟩ := h
  refine ⟨F, R.kept (S := fun _ => False) h1 (Turn.ofBelow _ hb) (fun _ _ h => h), h2, fun p hp hF => ?_, fun p hp => ?_, h5.trans (hb.mono h5.size)⟩
  · rcases List.mem_cons.1 hp with rfl | hp
    · exact absurd (R.lt h1 _ hF) (Nat.lt_irrefl _)
    · exact h3 p hp hF
  · rcases List.mem_cons.1 hp with rfl | hp
    · exact ⟨heap_new wr o, h5.size⟩
    · exact ⟨(hb.block p.1 (lt_of (h4 p hp).1)).trans (h4 p hp).1, (h4 p hp).2⟩

/-- a cell of a block beside the object is written -/
theorem Stand.set (R : Res I) (h : Stand I w wr L) {b : Nat} {c : Array Value} {t : TypeId} {fz : Nat × Nat} (hb : (b, Obj.cells c t fz) ∈ L) (i : Nat) (v : Value) (L' : List (Nat × Obj))
    (hL : ∀ p ∈ L', (p ∈ L ∧ p.1 ≠ b) ∨ p = (b, Obj.cells (c.setIfInBounds i v) t fz)) : Stand I w (wr.setCell ⟨b, i, none⟩ v) L' := by
  obtain ⟨F, h1, h2, h3, h4, h5⟩ := h
  have ht : Turn (fun j => j = b) wr (wr.setCell ⟨b, i, none⟩ v) := Turn.setCell wr ⟨b, i, none⟩ v rfl
  refine ⟨F, R.kept h1 ht (fun j hj e => h3 _ hb (by rw [e] at hj; exact hj)), h2, fun p hp hF => ?_, fun p hp => ?_, h5.trans ((ht.mono (fun j e => by rw [e]; exact (h4 _ hb).2)).toBelow h5.size)⟩
  · rcases hL p hp with ⟨h, _⟩ | rfl
    · exact h3 p h hF
    · exact h3 _ hb hF
  · rcases hL p hp with ⟨h, hn⟩ | rfl
    · exact ⟨(ht.block p.1 (lt_of (h4 p h).1) hn).trans (h4 p h).1, (h4 p h).2⟩
    · exact ⟨heap_setCell_same (h4 _ hb).1 i v, (h4 _ hb).2⟩

/-- its beginning: an object that was made now -/
theorem Stand.start {F : Nat → Prop} (h : I wr F) (hF : ∀ i, F i → w.heap.size ≤ i) (hb : Below w.heap.size w wr) : Stand I w wr [] :=
  ⟨F, h, hF, (fun _ h => by cases h), (fun _ h => by cases h), hb⟩

/-- forget blocks -/
theorem Stand.drop {L' : List (Nat × Obj)} (h : Stand I w wr L) (hL : ∀ p ∈ L', p ∈ L) : Stand I w wr L' := by
  obtain ⟨F, h1, h2, h3, h4, h5⟩ := h
  exact ⟨F, h1, h2, fun p hp => h3 p (hL p hp), fun p hp => h4 p (hL p hp), h5⟩
end

end Go.Proofs.YtigegdelhpdlhaaGreatDoor
