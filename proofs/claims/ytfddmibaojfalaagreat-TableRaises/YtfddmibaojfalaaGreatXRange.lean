/- A range over a function whose body is never left early and knows which thing comes next. -/
import Derived.Test.YtfddmibaojfalaaGreatXTabJ
import Derived.RangeFuncNested
import Derived.RangeFuncBound
import Derived.RangeFuncCalls
import Derived.RangeFuncLeaves
namespace Go.Proofs.YtfddmibaojfalaaGreat
open Go.RowKit

/-- no block of cells lies there -/
def NoCells (w : World) (i : Nat) : Prop := ∀ c t z, w.heap[i]? ≠ some (.cells c t z)
/-- what is no cells stays -/
def StayN (w u : World) : Prop := w.heap.size ≤ u.heap.size ∧ ∀ (i : Nat) (o : Obj), w.heap[i]? = some o → o.isCells = false → u.heap[i]? = some o
theorem StayN.refl (w : World) : StayN w w := ⟨Nat.le_refl _, fun _ _ h _ => h⟩
theorem StayN.ofBelow {w u : World} (h : Below w.heap.size w u) : StayN w u := ⟨h.size, fun i _ ho _ => (h.block i (lt_of ho)).trans ho⟩
theorem loop_no {w : World} {l : Nat} {r : Loop} (h : w.heap[l]? = some (.loop r)) : NoCells w l := fun c t z e => by rw [h] at e; cases e
theorem putObj_turn (w : World) (l : Nat) (o : Obj) : Turn (fun i => i = l) w (w.putObj l o) := ⟨rfl, rfl, rfl, by simp, fun i _ hn => World.putObj_heap_other hn⟩

theorem range_all {σ α : Type} {n : Nat} {P : Program} {g : Operand} {ps : Array Tmp} {assign body : Code} {Q : Exit → Act → World → Prop} {a : Act} {w : World}
    {gf : Nat} {lb : Array Value} (hg : a.eval g = .func (.func gf) #[] lb) (eg : ∀ args w, (callFunc gf args).run P w = .ok (.enter gf args) w)
    (encs : α → Array Value) (hps : ∀ x, (encs x).size = ps.size)
    (I : σ → World → Prop) (Next : σ → α → σ → Prop) (Done : σ → Prop) (Kp : World → World → Prop) (Ax : α → Act → World → Prop)
    (hI : ∀ (s : σ) (A B : World) (R : Nat → Prop), I s A → Turn R A B → (∀ i, R i → w.heap.size ≤ i ∧ NoCells A i) → I s B)
    (hKt : ∀ {A B C : World}, Kp A B → Kp B C → Kp A C) (hKb : ∀ (A : World) (l : Nat) (o : Obj), NoCells A l → Kp A (A.putObj l o))
    (hAx : ∀ (x : α) (a' : Act) (A : World) (l : Nat) (o : Obj), Ax x a' A → NoCells A l → Ax x a' (A.putObj l o))
    (hassign : ∀ (l : Nat) (s : σ) (x : α) (s' : σ) (A : World) (K : Act → World → Prop), I s A → Next s x s' → (∀ a' B, Below A.heap.size A B → Kp A B → I s B → Ax x a' B → K a' B) →
      assign.wpIn (Fence.wide.inRound l) (n - 1 - 1) P (Exit.then K (fun _ _ _ => False)) { tmps := (ps.zip (encs x)).foldl (fun t (p, v) => t.setIfInBounds p v) a.tmps, defers := [] } A)
    (hbody : ∀ (l : Nat) (s : σ) (x : α) (s' : σ) (a' : Act) (A : World), I s A → Next s x s' → Ax x a' A → body.wpIn (Fence.wide.inRound l) (n - 1 - 1) P (fun e _ B => e = .normal ∧ StayN A B ∧ Kp A B ∧ I s' B) a' A)
    (s0 : σ) (h0 : I s0 w)
    (hiter : ∀ (l : Nat) (J : σ → World → Prop) (A : World), Below w.heap.size w A →
      (∀ s x s' A, J s A → Next s x s' → YieldAt Fence.wide (n - 1 - 1) P l (encs x) A (fun e B => e = .returned (.bool true) ∧ J s' B ∧ Kp A B)) →
      J s0 A → CallsIn Fence.wide (n - 1) P gf (#[.func (.yield l) #[] #[]] ++ lb) A (fun e B => (∃ v, e = .returned v) ∧ ∃ s, Done s ∧ J s B))
    (hdone : ∀ (D : Nat) (s : σ) (A : World), w.heap.size ≤ D → Done s → I s A → A.heap[D]? = some (.deferred (some [])) → Q .normal { a with defers := { target := .collected D, args := #[] } :: a.defers } A) :
    (Code.rangeFunc g ps assign body).wpIn Fence.wide n P Q a w := by
  refine wpIn_rangeFunc ?_
  intro fn hfn
  rw [show Fence.wide.round = none from rfl]
  obtain ⟨rec, hrec⟩ : ∃ rec : LoopState → Loop, rec = fun st => { state := st, pending := none, fn, tmps := a.tmps, params := ps, assign, body, defers := w.heap.size } := ⟨_, rfl⟩
  obtain ⟨W1, hW1⟩ : ∃ W1, (w.alloc (.deferred (some []))).alloc (.loop (rec .ready)) = W1 := ⟨_, rfl⟩
  have hL1 : W1.heap[w.heap.size + 1]? = some (.loop (rec .ready)) := by
    rw [← hW1]; have := World.alloc_heap_new (w.alloc (.deferred (some []))) (.loop (rec .ready)); rwa [World.size_alloc] at this
  have hK1 : W1.heap[w.heap.size]? = some (.deferred (some [])) := by
    rw [← hW1]; exact (Below.heap_alloc _ _ _ (by simp)).trans (World.alloc_heap_new w _)
  have hb1 : Below w.heap.size w W1 := by
    rw [← hW1]; exact ((Below.refl _ w).alloc (Nat.le_refl _) _).alloc (by simp) _
  have hI1 : I s0 W1 := hI s0 w W1 (fun _ => False) h0 (Turn.ofBelow _ hb1) (fun _ q => q.elim)
  obtain ⟨l, hl⟩ : ∃ l, w.heap.size + 1 = l := ⟨_, rfl⟩
  rw [hl] at hL1
  refine ⟨l, [{ target := .collected w.heap.size, args := #[] }], W1, { target := .fn (.func gf) lb, args := #[.func (.yield l) #[] #[]] }, W1, gf, #[.func (.yield l) #[] #[]] ++ lb, W1, ?_, ?_, fun _ _ => trivial, ?_, (fun h => by cases h), ?_⟩
  · rw [← hW1, hrec, ← hl]; exact run_enterLoop_outer _ _ _ _ _
  · simp only [resolve, hg]
    simp [go_sem]
  · simp [invoke, go_sem, eg]
  · refine (hiter l (fun s A => I s A ∧ A.heap[l]? = some (.loop (rec .ready)) ∧ A.heap[w.heap.size]? = some (.deferred (some []))) W1 hb1 ?_ ⟨hI1, hL1, hK1⟩).mono ?_
    · rintro s x s' A ⟨i1, i2, i3⟩ hn
      have hy := run_yield (P := P) (args := encs x) i2 (by rw [hrec]; exact hps x)
      rw [hrec] at hy
      refine ⟨fn, _, assign, body, hy, roundIn_of_wpIn hfn (hassign l s x s' A _ i1 hn fun a' B hAB hKB iB hax => ?_)⟩
      have j2 := (hAB.block l (lt_of i2)).trans i2
      have j3 := (hAB.block _ (lt_of i3)).trans i3
      refine ⟨_, run_beginRound j2 (by rw [hrec]), ?_⟩
      obtain ⟨rb, hrb⟩ : ∃ rb, rb = { rec .ready with state := .busy } := ⟨_, rfl⟩
      rw [← hrb]
      have nl := loop_no j2
      have k1 : I s (B.putObj l (.loop rb)) := hI s B _ _ iB (putObj_turn B l _) (fun i hi => by rw [hi]; exact ⟨by omega, nl⟩)
      have k2 : (B.putObj l (.loop rb)).heap[l]? = some (.loop rb) := World.putObj_heap_same (lt_of j2)
      have k3 : (B.putObj l (.loop rb)).heap[w.heap.size]? = some (.deferred (some [])) := (World.putObj_heap_other (by omega)).trans j3
      refine wpIn_mono (hbody l s x s' a' _ k1 hn (hAx x a' B l _ hax nl)) ?_
      rintro e a3 C ⟨rfl, st, kp, iC⟩
      have m2 := st.2 l _ k2 rfl
      have m3 := st.2 _ _ k3 rfl
      have nc := loop_no m2
      refine ⟨_, _, run_endRound (P := P) none m2, rfl, ⟨hI s' C _ _ iC (putObj_turn C l _) (fun i hi => by rw [hi]; exact ⟨by omega, nc⟩), ?_, (World.putObj_heap_other (by omega)).trans m3⟩, hKt hKB (hKt (hKt (hKb B l _ nl) kp) (hKb C l _ nc))⟩
      rw [World.putObj_heap_same (lt_of m2), hrb, hrec]
      rfl
    · rintro e A ⟨⟨v, rfl⟩, s, hd, i1, i2, i3⟩
      refine ⟨none, _, by have := run_endLoop (P := P) i2 (by rw [hrec]; simp); rw [hrec] at this; exact this, hdone _ s _ (Nat.le_refl _) hd (hI s A _ _ i1 (putObj_turn A l _) (fun i hi => by rw [hi]; exact ⟨by omega, loop_no i2⟩)) ((World.putObj_heap_other (by omega)).trans i3)⟩

end Go.Proofs.YtfddmibaojfalaaGreat
