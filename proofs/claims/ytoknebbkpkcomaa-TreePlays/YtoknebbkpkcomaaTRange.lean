/- A range over a function, where the iterator and the loop's body work on objects with footprints. -/
import Derived.Test.YtoknebbkpkcomaaBase
import Derived.RangeFuncNested
import Derived.RangeFuncBound
import Derived.RangeFuncCalls
import Derived.RangeFuncLeaves
namespace Go.Proofs.Ytoknebbkpkcomaa
open Go.RowKit

/-- a loop's record -/
def LoopI (l : Nat) (r : Loop) (w : World) (F : Nat → Prop) : Prop := w.heap[l]? = some (.loop r) ∧ ∀ i, F i ↔ i = l
theorem loopI_res (l : Nat) (r : Loop) : Res (LoopI l r) :=
  ⟨fun {w F} h i hi => by rw [(h.2 i).1 hi]; exact lt_of h.1, fun {w w' F S} h ht hS => ⟨(ht.block l (lt_of h.1) (hS l ((h.2 l).2 rfl))).trans h.1, h.2⟩⟩
theorem turn_putObj (w : World) (l : Nat) (o : Obj) : Turn (fun i => i = l) w (w.putObj l o) := ⟨rfl, rfl, rfl, by simp, fun i _ hn => World.putObj_heap_other hn⟩
theorem LoopI.put {l : Nat} {r : Loop} {w : World} {F : Nat → Prop} (h : LoopI l r w F) (r' : Loop) : Goes (LoopI l r') w (w.putObj l (.loop r')) F :=
  ⟨F, ⟨World.putObj_heap_same (lt_of h.1), h.2⟩, (turn_putObj w l _).mono (fun i hi => (h.2 i).2 hi), fun _ hi => Or.inl hi⟩

theorem Goes.trans {I J : World → (Nat → Prop) → Prop} {w w1 w' : World} {F : Nat → Prop} (h : Goes I w w1 F) (k : ∀ A, I w1 A → (∀ i, A i → F i ∨ w.heap.size ≤ i) → Goes J w1 w' A) : Goes J w w' F := by
  obtain ⟨A, h1, h2, h3⟩ := h
  obtain ⟨B, k1, k2, k3⟩ := k A h1 h3
  exact ⟨B, k1, h2.transNew k2 h3, fun i hi => by
    rcases k3 i hi with e | e
    · exact h3 i e
    · exact Or.inr (Nat.le_trans h2.size e)⟩

/-- how a round's body may be left: it goes on, or it breaks -/
def bodyEnds {σ α : Type} (I Ix : σ → World → (Nat → Prop) → Prop) (On Off : σ → α → σ → Prop) (ex : Nat) (s : σ) (x : α) (W : World) (A : Nat → Prop) : Exit → Act → World → Prop
  | .normal, _, W' => ∃ s', On s x s' ∧ Goes (I s') W W' A
  | .exit id, _, W' => id = ex ∧ ∃ s', Off s x s' ∧ Goes (Ix s') W W' A
  | _, _, _ => False

/-- what a call of yield comes to -/
def yieldEnds {σ α : Type} (J Jx : σ → World → (Nat → Prop) → Prop) (On Off : σ → α → σ → Prop) (s : σ) (x : α) (W : World) (F : Nat → Prop) (e : Ending) (W' : World) : Prop :=
  (e = .returned (.bool true) ∧ ∃ s', On s x s' ∧ Goes (J s') W W' F) ∨ (e = .returned (.bool false) ∧ ∃ s', Off s x s' ∧ Goes (Jx s') W W' F)

/-- what the iterator comes to -/
def iterEnds {σ : Type} (J Jx : σ → World → (Nat → Prop) → Prop) (Done Stop : σ → Prop) (W : World) (F : Nat → Prop) (e : Ending) (W' : World) : Prop :=
  (∃ v, e = .returned v) ∧ ((∃ s, Done s ∧ Goes (J s) W W' F) ∨ (∃ s, Stop s ∧ Goes (Jx s) W W' F))

theorem range_foot {σ α : Type} {n : Nat} {P : Program} {g : Operand} {ps : Array Tmp} {assign body : Code} {Q : Exit → Act → World → Prop} {a : Act} {w : World}
    {gf : Nat} {lb : Array Value} (hg : a.eval g = .func (.func gf) #[] lb) (eg : ∀ args w, (callFunc gf args).run P w = .ok (.enter gf args) w)
    (encs : α → Array Value) (hps : ∀ x, (encs x).size = ps.size)
    (I Ix : σ → World → (Nat → Prop) → Prop) (rI : ∀ s, Res (I s)) (rX : ∀ s, Res (Ix s)) (On Off : σ → α → σ → Prop) (Done Stop : σ → Prop) (ex : Nat) (a₁ : α → Act)
    (hassign : ∀ (l : Nat) (x : α) (W : World) (K : Act → World → Prop), K (a₁ x) W →
      assign.wpIn (Fence.wide.inRound l) (n - 1 - 1) P (Exit.then K (fun _ _ _ => False)) { tmps := (ps.zip (encs x)).foldl (fun t (p, v) => t.setIfInBounds p v) a.tmps, defers := [] } W)
    (hbody : ∀ (l : Nat) (s : σ) (x : α) (W : World) (A : Nat → Prop), w.heap.size ≤ l → I s W A → body.wpIn (Fence.wide.inRound l) (n - 1 - 1) P (bodyEnds I Ix On Off ex s x W A) (a₁ x) W)
    (s0 : σ) (A0 : Nat → Prop) (h0 : I s0 w A0)
    (hiter : ∀ (l : Nat) (J Jx : σ → World → (Nat → Prop) → Prop) (W : World) (F : Nat → Prop), (∀ s, Res (J s)) → (∀ s, Res (Jx s)) →
      (∀ s W F, J s W F → ∃ A, I s W A ∧ (∀ i, A i → F i) ∧ ∀ W' s', Goes (I s') W W' A → Goes (J s') W W' F) →
      (∀ s x W F, J s W F → YieldAt Fence.wide (n - 1 - 1) P l (encs x) W (yieldEnds J Jx On Off s x W F)) →
      J s0 W F → (∀ i, F i → A0 i ∨ w.heap.size ≤ i) → Below w.heap.size w W → CallsIn Fence.wide (n - 1) P gf (#[.func (.yield l) #[] #[]] ++ lb) W (iterEnds J Jx Done Stop W F))
    (hdone : ∀ (D : Nat) (s : σ) (W : World), w.heap.size ≤ D → Done s → Goes (I s) w W A0 → W.heap[D]? = some (.deferred (some [])) → Q .normal { a with defers := { target := .collected D, args := #[] } :: a.defers } W)
    (hstop : ∀ (D : Nat) (s : σ) (W : World), w.heap.size ≤ D → Stop s → Goes (Ix s) w W A0 → W.heap[D]? = some (.deferred (some [])) → (Code.exit ex).wpIn Fence.wide n P Q { a with defers := { target := .collected D, args := #[] } :: a.defers } W) :
    (Code.rangeFunc g ps assign body).wpIn Fence.wide n P Q a w := by
  refine wpIn_rangeFunc ?_
  intro fn hfn
  rw [show Fence.wide.round = none from rfl]
  obtain ⟨rec, hrec⟩ : ∃ rec : LoopState → Option Code → Loop, rec = fun st pe => { state := st, pending := pe, fn, tmps := a.tmps, params := ps, assign, body, defers := w.heap.size } := ⟨_, rfl⟩
  obtain ⟨W1, hW1⟩ : ∃ W1, (w.alloc (.deferred (some []))).alloc (.loop (rec .ready none)) = W1 := ⟨_, rfl⟩
  have hL1 : W1.heap[w.heap.size + 1]? = some (.loop (rec .ready none)) := by
    rw [← hW1]; have := World.alloc_heap_new (w.alloc (.deferred (some []))) (.loop (rec .ready none)); rwa [World.size_alloc] at this
  have hK1 : W1.heap[w.heap.size]? = some (.deferred (some [])) := by
    rw [← hW1]; exact (Below.heap_alloc _ _ _ (by simp)).trans (World.alloc_heap_new w _)
  have hb1 : Below w.heap.size w W1 := by
    rw [← hW1]; exact ((Below.refl _ w).alloc (Nat.le_refl _) _).alloc (by simp) _
  have hs1 : W1.heap.size = w.heap.size + 2 := by rw [← hW1]; simp
  obtain ⟨l, hl⟩ : ∃ l, w.heap.size + 1 = l := ⟨_, rfl⟩
  rw [hl] at hL1
  refine ⟨l, [{ target := .collected w.heap.size, args := #[] }], W1, { target := .fn (.func gf) lb, args := #[.func (.yield l) #[] #[]] }, W1, gf, #[.func (.yield l) #[] #[]] ++ lb, W1, ?_, ?_, fun _ _ => trivial, ?_, (fun h => by cases h), ?_⟩
  · rw [← hW1, hrec, ← hl]; exact run_enterLoop_outer _ _ _ _ _
  · simp only [resolve, hg]
    simp [go_sem]
  · simp [invoke, go_sem, eg]
  · -- the iterator
    have hJ0 : Sep (I s0) (LoopI l (rec .ready none)) W1 (fun i => A0 i ∨ i = l) :=
      Sep.mk ((rI s0).kept (S := fun _ => False) h0 (Turn.ofBelow _ hb1) (fun _ _ h => h)) ⟨hL1, fun _ => Iff.rfl⟩ (fun i hi e => by have := (rI s0).lt h0 i hi; omega)
    refine (hiter l (fun s => Sep (I s) (LoopI l (rec .ready none))) (fun s W F => Sep (Ix s) (LoopI l (rec .done (some (.exit ex)))) W F) W1 (fun i => A0 i ∨ i = l) (fun s => Sep.res (rI s) (loopI_res _ _)) (fun s => Sep.res (rX s) (loopI_res _ _)) ?_ ?_ hJ0 ?_ hb1).mono ?_
    · -- the body's own object within
      intro s W F h
      obtain ⟨A, B, h1, h2, h3, h4, h5, h6⟩ := h
      refine ⟨A, h1, h4, fun W' s' hgo => ?_⟩
      obtain ⟨A', g1, g2, g3⟩ := hgo
      refine ⟨fun i => A' i ∨ B i, ⟨A', B, g1, (loopI_res _ _).kept h2 g2 (fun i hi hA => h3 i hA hi), fun i hi hB => ?_, fun _ hi => Or.inl hi, fun _ hi => Or.inr hi, fun _ hi => hi⟩, g2.mono h4, fun i hi => ?_⟩
      · rcases g3 i hi with e | e
        · exact h3 i e hB
        · have := (loopI_res _ _).lt h2 i hB; omega
      · rcases hi with hi | hi
        · rcases g3 i hi with e | e
          · exact Or.inl (h4 i e)
          · exact Or.inr e
        · exact Or.inl (h5 i hi)
    · -- a round
      rintro s x W F ⟨A, B, h1, h2, h3, h4, h5, h6⟩
      have hy := run_yield (P := P) (args := encs x) h2.1 (by rw [hrec]; exact hps x)
      rw [hrec] at hy
      have hlA : ¬ A l := fun hh => h3 l hh ((h2.2 l).2 rfl)
      refine ⟨fn, _, assign, body, hy, roundIn_of_wpIn hfn (hassign _ x W _ ⟨_, run_beginRound h2.1 (by rw [hrec]), ?_⟩)⟩
      obtain ⟨rb, hrb⟩ : ∃ rb, rb = { rec .ready none with state := .busy } := ⟨_, rfl⟩
      rw [← hrb]
      have hlt := lt_of h2.1
      have t2 := turn_putObj W l (.loop rb)
      have hi2 : I s (W.putObj l (.loop rb)) A := (rI s).kept h1 t2 (fun i hi e => hlA (e ▸ hi))
      have hl2 : (W.putObj l (.loop rb)).heap[l]? = some (.loop rb) := World.putObj_heap_same hlt
      refine wpIn_mono (hbody l s x _ A (by omega) hi2) ?_
      -- what a round that is over leaves
      have fin : ∀ (jump : Option Code) (W3 : World) (I' : World → (Nat → Prop) → Prop), Res I' → Goes I' (W.putObj l (.loop rb)) W3 A →
          (Instr.endRound l jump).run P W3 = .ok (.bool jump.isNone) (W3.putObj l (.loop (rec (if jump.isNone then .ready else .done) jump))) ∧
          Goes (Sep I' (LoopI l (rec (if jump.isNone then .ready else .done) jump))) W (W3.putObj l (.loop (rec (if jump.isNone then .ready else .done) jump))) F := fun jump W3 I' rI' hgo => by
        obtain ⟨A', g1, g2, g3⟩ := hgo
        have hl3 : W3.heap[l]? = some (.loop rb) := (g2.block l (by simp; exact hlt) hlA).trans hl2
        have hlA' : ¬ A' l := fun hh => by
          rcases g3 l hh with e | e
          · exact hlA e
          · simp at e; omega
        have t4 := turn_putObj W3 l (.loop (rec (if jump.isNone then .ready else .done) jump))
        refine ⟨?_, fun i => A' i ∨ i = l, Sep.mk (rI'.kept g1 t4 (fun i hi e => hlA' (e ▸ hi))) ⟨World.putObj_heap_same (lt_of hl3), fun _ => Iff.rfl⟩ (fun i hi e => hlA' (e ▸ hi)), ?_, fun i hi => ?_⟩
        · have := run_endRound (P := P) jump hl3
          rw [hrb, hrec] at this
          rw [hrec]
          exact this
        · refine ((t2.mono fun i hi => ?_).trans (g2.mono h4)).trans (t4.mono fun i hi => ?_)
          · rw [hi]; exact h5 l ((h2.2 l).2 rfl)
          · rw [hi]; exact h5 l ((h2.2 l).2 rfl)
        · rcases hi with hi | hi
          · rcases g3 i hi with e | e
            · exact Or.inl (h4 i e)
            · simp at e; exact Or.inr e
          · exact Or.inl (by rw [hi]; exact h5 l ((h2.2 l).2 rfl))
      rintro e a3 W3 hp
      cases e with
      | normal =>
        obtain ⟨s', hon, hgo⟩ := hp
        obtain ⟨f1, f2⟩ := fin none W3 _ (rI s') hgo
        exact ⟨_, _, f1, Or.inl ⟨rfl, s', hon, f2⟩⟩
      | exit id =>
        obtain ⟨rfl, s', hoff, hgo⟩ := hp
        obtain ⟨f1, f2⟩ := fin (some (.exit id)) W3 _ (rX s') hgo
        exact ⟨_, _, f1, Or.inr ⟨rfl, s', hoff, f2⟩⟩
      | ret => exact hp.elim
      | goto t => exact hp.elim
      | panic ch => exact hp.elim
      | outgrown => exact hp.elim
    · intro i hi
      rcases hi with hi | hi
      · exact Or.inl hi
      · right; omega
    · -- behind the iterator
      have out : ∀ (I' : World → (Nat → Prop) → Prop) (r : Loop) (W2 : World), Res I' → Goes (Sep I' (LoopI l r)) W1 W2 (fun i => A0 i ∨ i = l) → W2.heap[l]? = some (.loop r) ∧ ∀ o, Goes I' w (W2.putObj l o) A0 ∧ (W2.putObj l o).heap[w.heap.size]? = some (.deferred (some [])) := fun I' r W2 rI' hgo => by
        obtain ⟨F', ⟨A, B, h1, h2, h3, h4, h5, h6⟩, g2, g3⟩ := hgo
        have hlA : ¬ A l := fun hh => h3 l hh ((h2.2 l).2 rfl)
        refine ⟨h2.1, fun o => ⟨⟨A, rI'.kept h1 (turn_putObj W2 l o) (fun i hi e => hlA (e ▸ hi)), ?_, fun i hi => ?_⟩, ?_⟩⟩
        · have t1 : Turn (fun i => A0 i ∨ i = l) w (W2.putObj l o) := ((Turn.ofBelow _ hb1).trans g2).trans ((turn_putObj W2 l o).mono fun i hi => Or.inr hi)
          exact ⟨t1.os, t1.tape, t1.output, t1.size, fun i hi hn => t1.block i hi (fun e => by rcases e with e | e; exact hn e; omega)⟩
        · rcases g3 i (h4 i hi) with (e | e) | e
          · exact Or.inl e
          · exact absurd hi (by rw [e]; exact hlA)
          · right; omega
        · rw [World.putObj_heap_other (by omega), g2.block _ (by omega) (fun e => by
            rcases e with e | e
            · have := (rI s0).lt h0 _ e; omega
            · omega)]
          exact hK1
      rintro e W2 ⟨⟨v, rfl⟩, (⟨s, hS, hgo⟩ | ⟨s, hS, hgo⟩)⟩
      · obtain ⟨o1, o2⟩ := out _ _ W2 (rI s) hgo
        exact ⟨none, _, by have := run_endLoop (P := P) o1 (by rw [hrec]; simp); rw [hrec] at this; exact this, hdone _ s _ (Nat.le_refl _) hS (o2 _).1 (o2 _).2⟩
      · obtain ⟨o1, o2⟩ := out _ _ W2 (rX s) hgo
        exact ⟨some (.exit ex), _, by have := run_endLoop (P := P) o1 (by rw [hrec]; simp); rw [hrec] at this; exact this, hstop _ s _ (Nat.le_refl _) hS (o2 _).1 (o2 _).2⟩

end Go.Proofs.Ytoknebbkpkcomaa
