/- Within a call: an object that is older, and blocks of the call's own beside it. Nothing here speaks of a program. -/
import Derived.Test.YtfddmibaojfalaaGreatBase
namespace Go.Proofs.YtfddmibaojfalaaGreat
open Go.RowKit

def MidS (I : World → (Nat → Prop) → Prop) (w wr : World) (F : Nat → Prop) (L : List (Nat × Obj)) : Prop :=
  ∃ F', I wr F' ∧ Turn F w wr ∧ (∀ i, F' i → F i ∨ w.heap.size ≤ i) ∧ ∀ p ∈ L, ¬ F' p.1 ∧ wr.heap[p.1]? = some p.2 ∧ w.heap.size ≤ p.1
section
variable {I J : World → (Nat → Prop) → Prop} {w wr w' : World} {F : Nat → Prop} {L : List (Nat × Obj)}
theorem MidS.goes (h : MidS I w wr F L) : Goes I w wr F := by
  obtain ⟨F', h1, h2, h3, _⟩ := h
  exact ⟨F', h1, h2, h3⟩
theorem MidS.at (h : MidS I w wr F L) {b : Nat} {o : Obj} (hb : (b, o) ∈ L) : wr.heap[b]? = some o := by
  obtain ⟨_, _, _, _, h⟩ := h
  exact (h _ hb).2.1
theorem MidS.call (h : MidS I w wr F L) : ∃ A, I wr A ∧ ∀ w' I', Goes I' wr w' A → MidS I' w w' F L := by
  obtain ⟨F', h1, h2, h3, h4⟩ := h
  refine ⟨F', h1, fun w' I' hg => ?_⟩
  obtain ⟨F'', k1, k2, k3⟩ := hg
  refine ⟨F'', k1, h2.transNew k2 h3, fun i hi => ?_, fun p hp => ?_⟩
  · rcases k3 i hi with h | h
    · exact h3 i h
    · exact Or.inr (Nat.le_trans h2.size h)
  · obtain ⟨x1, x2, x3⟩ := h4 p hp
    refine ⟨fun hF => ?_, (k2.block p.1 (lt_of x2) x1).trans x2, x3⟩
    rcases k3 _ hF with h | h
    · exact x1 h
    · have := lt_of x2; omega
theorem MidS.stay (R : Res I) (h : MidS I w wr F L) (hb : Below wr.heap.size wr w') : MidS I w w' F L := by
  obtain ⟨A, h1, h2⟩ := h.call
  exact h2 w' I (Goes.thenStay R (Goes.stay h1) hb)
theorem MidS.left (hJ : Res J) (h : MidS (Sep I J) w wr F L) : ∃ A, I wr A ∧ ∀ w' I', Goes I' wr w' A → MidS (Sep I' J) w w' F L := by
  obtain ⟨B, h1, h2⟩ := h.call
  obtain ⟨A, B', k1, k2, k3, k4, k5, k6⟩ := id h1
  refine ⟨A, k1, fun w' I' hg => h2 w' _ ?_⟩
  obtain ⟨A', g1, g2, g3⟩ := hg
  refine ⟨fun i => A' i ∨ B' i, ⟨A', B', g1, hJ.kept k2 g2 (fun i hi hA => k3 i hA hi), fun i hi hB => ?_, fun _ hi => Or.inl hi, fun _ hi => Or.inr hi, fun _ hi => hi⟩, g2.mono k4, fun i hi => ?_⟩
  · rcases g3 i hi with h | h
    · exact k3 i h hB
    · have := hJ.lt k2 i hB; omega
  · rcases hi with hi | hi
    · rcases g3 i hi with h | h
      · exact Or.inl (k4 i h)
      · exact Or.inr h
    · exact Or.inl (k5 i hi)
theorem MidS.swap (h : MidS (Sep I J) w wr F L) : MidS (Sep J I) w wr F L := by
  obtain ⟨F', h1, h2⟩ := h
  exact ⟨F', h1.swap, h2⟩
theorem MidS.right (hI : Res I) (h : MidS (Sep I J) w wr F L) : ∃ A, J wr A ∧ ∀ w' J', Goes J' wr w' A → MidS (Sep I J') w w' F L := by
  obtain ⟨A, h1, h2⟩ := MidS.left hI h.swap
  exact ⟨A, h1, fun w' J' hg => (h2 w' J' hg).swap⟩
end


section
variable {I : World → (Nat → Prop) → Prop} {w wr w' : World} {F : Nat → Prop} {L : List (Nat × Obj)}
theorem MidS.start (h : I w F) : MidS I w w F [] := ⟨F, h, Turn.refl _ _, fun _ hi => Or.inl hi, (fun _ h => by cases h)⟩
theorem MidS.turn (h : MidS I w wr F L) : Turn F w wr := by obtain ⟨_, _, h, _⟩ := h; exact h
theorem MidS.below (h : MidS I w wr F L) {base : Nat} (hF : ∀ i, F i → base ≤ i) (hb : base ≤ w.heap.size) : Below base w wr := (h.turn.mono hF).toBelow hb
/-- a call on it, all of its footprint from base on -/
theorem MidS.callF (h : MidS I w wr F L) {base : Nat} (hF : ∀ i, F i → base ≤ i) (hb : base ≤ w.heap.size) : ∃ A, I wr A ∧ (∀ i, A i → base ≤ i) ∧ ∀ w' I', Goes I' wr w' A → MidS I' w w' F L := by
  obtain ⟨F', h1, h2, h3, h4⟩ := h
  refine ⟨F', h1, fun i hi => ?_, fun w' I' hg => ?_⟩
  · rcases h3 i hi with h | h
    · exact hF i h
    · exact Nat.le_trans hb h
  · obtain ⟨F'', k1, k2, k3⟩ := hg
    refine ⟨F'', k1, h2.transNew k2 h3, fun i hi => ?_, fun p hp => ?_⟩
    · rcases k3 i hi with h | h
      · exact h3 i h
      · exact Or.inr (Nat.le_trans h2.size h)
    · obtain ⟨x1, x2, x3⟩ := h4 p hp
      refine ⟨fun hF => ?_, (k2.block p.1 (lt_of x2) x1).trans x2, x3⟩
      rcases k3 _ hF with h | h
      · exact x1 h
      · have := lt_of x2; omega
theorem MidS.alloc (R : Res I) (h : MidS I w wr F L) (o : Obj) : MidS I w (wr.alloc o) F ((wr.heap.size, o) :: L) := by
  obtain ⟨F', h1, h2, h3, h4⟩ := h
  have hb : Below wr.heap.size wr (wr.alloc o) := (Below.refl _ _).alloc (Nat.le_refl _) o
  refine ⟨F', R.kept (S := fun _ => False) h1 (Turn.ofBelow _ hb) (fun _ _ h => h), h2.trans (Turn.ofBelow _ hb), h3, fun p hp => ?_⟩
  rcases List.mem_cons.1 hp with rfl | hp
  · exact ⟨fun hF => Nat.lt_irrefl _ (R.lt h1 _ hF), heap_new wr o, h2.size⟩
  · exact ⟨(h4 p hp).1, (hb.block p.1 (lt_of (h4 p hp).2.1)).trans (h4 p hp).2.1, (h4 p hp).2.2⟩
theorem MidS.drop (h : MidS I w wr F L) {L' : List (Nat × Obj)} (hL : ∀ p ∈ L', p ∈ L) : MidS I w wr F L' := by
  obtain ⟨F', h1, h2, h3, h4⟩ := h
  exact ⟨F', h1, h2, h3, fun p hp => h4 p (hL p hp)⟩
theorem MidS.lt (h : MidS I w wr F L) {b : Nat} {o : Obj} (hb : (b, o) ∈ L) : b < wr.heap.size := lt_of (h.at hb)
/-- the footprint that it has now lies from base on, as it did -/
theorem Goes.from {I' : World → (Nat → Prop) → Prop} (h : Goes I' w w' F) {base : Nat} (hF : ∀ i, F i → base ≤ i) (hb : base ≤ w.heap.size) : ∃ F', I' w' F' ∧ (∀ i, F' i → base ≤ i) ∧ Below base w w' := by
  obtain ⟨F', h1, h2, h3⟩ := h
  refine ⟨F', h1, fun i hi => ?_, (h2.mono hF).toBelow hb⟩
  rcases h3 i hi with h | h
  · exact hF i h
  · exact Nat.le_trans hb h
/-- something of the call's own is made anew beside it -/
theorem MidS.more (R : Res I) (h : MidS I w wr F L) (hb : Below wr.heap.size wr w') {L' : List (Nat × Obj)} (hL : ∀ p ∈ L', w'.heap[p.1]? = some p.2 ∧ wr.heap.size ≤ p.1) : MidS I w w' F (L' ++ L) := by
  obtain ⟨F', h1, h2, h3, h4⟩ := h
  refine ⟨F', R.kept (S := fun _ => False) h1 (Turn.ofBelow _ hb) (fun _ _ h => h), h2.trans (Turn.ofBelow _ hb), h3, fun p hp => ?_⟩
  rcases List.mem_append.1 hp with hp | hp
  · exact ⟨fun hF => by have := R.lt h1 _ hF; have := (hL p hp).2; omega, (hL p hp).1, Nat.le_trans h2.size (hL p hp).2⟩
  · exact ⟨(h4 p hp).1, (hb.block p.1 (lt_of (h4 p hp).2.1)).trans (h4 p hp).2.1, (h4 p hp).2.2⟩
theorem MidS.set (R : Res I) (h : MidS I w wr F L) {b : Nat} {c : Array Value} {t : TypeId} {fz : Nat × Nat} (hb : (b, Obj.cells c t fz) ∈ L) (i : Nat) (v : Value) (L' : List (Nat × Obj))
    (hL : ∀ p ∈ L', (p ∈ L ∧ p.1 ≠ b) ∨ p = (b, Obj.cells (c.setIfInBounds i v) t fz)) : MidS I w (wr.setCell ⟨b, i, none⟩ v) F L' := by
  obtain ⟨F', h1, h2, h3, h4⟩ := h
  have ht : Turn (fun j => j = b) wr (wr.setCell ⟨b, i, none⟩ v) := Turn.setCell wr ⟨b, i, none⟩ v rfl
  refine ⟨F', R.kept h1 ht (fun j hj e => (h4 _ hb).1 (by rw [e] at hj; exact hj)), h2.transNew ht (fun j e => Or.inr (by rw [e]; exact (h4 _ hb).2.2)), h3, fun p hp => ?_⟩
  rcases hL p hp with ⟨h, hn⟩ | rfl
  · exact ⟨(h4 p h).1, (ht.block p.1 (lt_of (h4 p h).2.1) hn).trans (h4 p h).2.1, (h4 p h).2.2⟩
  · exact ⟨(h4 _ hb).1, heap_setCell_same (h4 _ hb).2.1 i v, (h4 _ hb).2.2⟩
end

end Go.Proofs.YtfddmibaojfalaaGreat
