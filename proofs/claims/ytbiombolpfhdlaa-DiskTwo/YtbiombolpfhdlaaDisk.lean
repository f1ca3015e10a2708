/- A disk one of whose files is turned: what becomes of the whole. -/
import Derived.Test.YtbiombolpfhdlaaTear
namespace Go.Proofs.Ytbiombolpfhdlaa
open Go.RowKit Go.Maps

section
variable {w w' : World} {d m : Nat} {G : List (List UInt8 × Gc)} {s : Dk.Dsk}

theorem DiskG.rise (h : DiskG Try.prog w d m G s) : Dk.Rise G := Dk.rise_of_canon tok (h.map.canon keyed)

theorem DiskG.riseF (h : DiskG Try.prog w d m G s) : Dk.Rise s.fs := by
  have := h.rise
  rw [h.fs]
  unfold Dk.Rise Dk.mapL at *
  exact List.pairwise_map.2 this

theorem DiskG.d_file (h : DiskG Try.prog w d m G s) {g : Gc} (hf : FileAt w g) : d ≠ g.blk := by
  intro e
  have := hf.cell
  rw [← e, h.top] at this
  simp at this
theorem DiskG.d_row (h : DiskG Try.prog w d m G s) {g : Gc} (hf : FileAt w g) {i : Nat} (hi : g.val.ownBlock = some i) : d ≠ i := by
  intro e
  obtain ⟨cur, hc, _⟩ := ownsRow_own hf.row hi
  rw [← e, h.top] at hc
  simp at hc
theorem DiskG.m_file (h : DiskG Try.prog w d m G s) {g : Gc} (hf : FileAt w g) : m ≠ g.blk := by
  intro e
  obtain ⟨es, clock, hb, _⟩ := h.map
  have := hf.cell
  rw [← e, hb] at this
  simp at this
theorem DiskG.m_row (h : DiskG Try.prog w d m G s) {g : Gc} (hf : FileAt w g) {i : Nat} (hi : g.val.ownBlock = some i) : m ≠ i := by
  intro e
  obtain ⟨cur, hc, _⟩ := ownsRow_own hf.row hi
  obtain ⟨es, clock, hb, _⟩ := h.map
  rw [← e, hb] at hc
  simp at hc
theorem DiskG.m_d (h : DiskG Try.prog w d m G s) : m ≠ d := by
  intro e
  obtain ⟨es, clock, hb, _⟩ := h.map
  rw [e, h.top] at hb
  simp at hb
theorem file_row {g g' : Gc} (hf : FileAt w g) (hf' : FileAt w g') {i : Nat} (hi : g'.val.ownBlock = some i) : g.blk ≠ i := by
  intro e
  obtain ⟨cur, hc, _⟩ := ownsRow_own hf'.row hi
  have := hf.cell
  rw [e, hc] at this
  simp at this

def fileS (g : Gc) (i : Nat) : Prop := i = g.blk ∨ g.val.ownBlock = some i

theorem DiskG.apart_of (h : DiskG Try.prog w d m G s) {p q : List UInt8 × Gc} (hp : p ∈ G) (hq : q ∈ G) (hne : p.1 ≠ q.1) : Apart p.2 q.2 := by
  have hs : ∀ {a b : Gc}, Apart a b → Apart b a := fun h => ⟨fun e => h.1 e.symm, fun i h1 h2 => h.2 i h2 h1⟩
  have H : ∀ (l : List (List UInt8 × Gc)), l.Pairwise (fun a b => Apart a.2 b.2) → ∀ p ∈ l, ∀ q ∈ l, p.1 ≠ q.1 → Apart p.2 q.2 := by
    intro l
    induction l with
    | nil => intro _ p hp; cases hp
    | cons y r ih =>
      intro hl p hp q hq hne
      obtain ⟨h1, h2⟩ := List.pairwise_cons.1 hl
      rcases List.mem_cons.1 hp with rfl | hp'
      · rcases List.mem_cons.1 hq with rfl | hq'
        · exact absurd rfl hne
        · exact h1 q hq'
      · rcases List.mem_cons.1 hq with rfl | hq'
        · exact hs (h1 p hp')
        · exact ih h2 p hp' q hq' hne
  exact H G h.apart p hp q hq hne

/-- Another file's blocks are none of this one's. -/
theorem DiskG.others (h : DiskG Try.prog w d m G s) {k : List UInt8} {g : Gc} (hg : Dk.getL k G = some g) {p : List UInt8 × Gc} (hp : p ∈ G) (hne : p.1 ≠ k) :
    ¬ fileS g p.2.blk ∧ ∀ i, p.2.val.ownBlock = some i → ¬ fileS g i := by
  have hm := Dk.getL_mem hg
  have ha := h.apart_of hp hm hne
  have hf := h.files p hp
  have hf' := h.files _ hm
  refine ⟨fun e => ?_, fun i hi e => ?_⟩
  · rcases e with e | e
    · exact ha.1 e
    · exact file_row hf hf' e rfl
  · rcases e with e | e
    · exact file_row hf' hf hi e.symm
    · exact ha.2 i hi e

/-- One file is turned, in its place. -/
theorem DiskG.setFile (h : DiskG Try.prog w d m G s) {k : List UInt8} {g g' : Gc} (hg : Dk.getL k G = some g) (ht : Turn (fileS g) w w') (hf : FileAt w' g') (hb : g'.blk = g.blk)
    (hnew : ∀ i, g'.val.ownBlock = some i → g.val.ownBlock = some i ∨ w.heap.size ≤ i) :
    DiskG Try.prog w' d m (Dk.putL k g' G) { s with fs := Dk.putL k g'.fil s.fs } ∧ ∀ i, foot d m (Dk.putL k g' G) i → foot d m G i ∨ w.heap.size ≤ i := by
  have hm := Dk.getL_mem hg
  have hfg := h.files _ hm
  have hR := h.rise
  have hset := Dk.putL_set g' hR hg
  have hlt : ∀ p ∈ G, p.2.blk < w.heap.size ∧ ∀ i, p.2.val.ownBlock = some i → i < w.heap.size := fun p hp =>
    ⟨lt_of (h.files p hp).cell, fun i hi => by obtain ⟨cur, hc, _⟩ := ownsRow_own (h.files p hp).row hi; exact lt_of hc⟩
  have hmem : ∀ p, p ∈ Dk.putL k g' G → p = (k, g') ∨ (p ∈ G ∧ p.1 ≠ k) := by
    intro p hp
    unfold Dk.putL at hp
    rcases Dk.mem_insL.1 hp with e | e
    · exact Or.inl e
    · exact Or.inr (Dk.mem_delL.1 e)
  refine ⟨⟨?_, ?_, ?_, ?_, ?_, ?_, h.left, ?_⟩, ?_⟩
  · have := ht.block d (lt_of h.top) (fun e => by rcases e with e | e; exact h.d_file hfg e; exact h.d_row hfg e rfl)
    exact this.trans h.top
  · have e1 : Dk.toD tok (Dk.putL k g' G) = Dk.toD tok G := by
      rw [hset]; exact Dk.toD_setL tok hR hg (by unfold tok; rw [hb])
    have e2 : (Dk.putL k g' G).length = G.length := by rw [hset]; unfold Dk.setL; simp
    rw [e1, e2]
    exact ownsMap_block h.map (ht.block m h.map.lt (fun e => by rcases e with e | e; exact h.m_file hfg e; exact h.m_row hfg e rfl))
  · intro p hp
    rcases hmem p hp with rfl | ⟨hp', hne⟩
    · exact hf
    · obtain ⟨o1, o2⟩ := h.others hg hp' hne
      exact (h.files p hp').kept (ht.block _ (hlt p hp').1 o1) (fun i hi => ht.block i ((hlt p hp').2 i hi) (o2 i hi))
  · rw [hset]
    unfold Dk.setL
    refine List.pairwise_map.2 ?_
    refine (List.Pairwise.and h.apart (Dk.rise_ne hR)).imp_of_mem ?_
    rintro p q hp hq ⟨ha, hne⟩
    by_cases e1 : p.1 = k
    · have e2 : q.1 ≠ k := fun e => hne (e1.trans e.symm)
      have hq2 : p.2 = g := Dk.getL_unique hR hg (by rw [← e1]; exact hp)
      simp only [e1, beq_self_eq_true, if_true, beq_eq_false_iff_ne.2 e2, Bool.false_eq_true, if_false]
      rw [hq2] at ha
      refine ⟨by show g'.blk ≠ q.2.blk; rw [hb]; exact ha.1, fun i hi hi' => ?_⟩
      rcases hnew i hi with h1 | h1
      · exact ha.2 i h1 hi'
      · have := (hlt q hq).2 i hi'; omega
    · simp only [beq_eq_false_iff_ne.2 e1, Bool.false_eq_true, if_false]
      by_cases e2 : q.1 = k
      · have hq2 : q.2 = g := Dk.getL_unique hR hg (by rw [← e2]; exact hq)
        simp only [e2, beq_self_eq_true, if_true]
        rw [hq2] at ha
        refine ⟨by show p.2.blk ≠ g'.blk; rw [hb]; exact ha.1, fun i hi hi' => ?_⟩
        rcases hnew i hi' with h1 | h1
        · exact ha.2 i hi h1
        · have := (hlt p hp).2 i hi; omega
      · simp only [beq_eq_false_iff_ne.2 e2, Bool.false_eq_true, if_false]
        exact ha
  · show Dk.putL k g'.fil s.fs = _
    rw [Dk.mapL_putL, h.fs]
  · intro p hp
    rcases hmem p hp with rfl | ⟨hp', _⟩
    · exact h.names (k, g) hm
    · exact h.names p hp'
  · rw [hset]; unfold Dk.setL; simpa using h.few
  · rintro i (rfl | rfl | ⟨p, hp, hi⟩)
    · exact Or.inl (Or.inl rfl)
    · exact Or.inl (Or.inr (Or.inl rfl))
    · rcases hmem p hp with rfl | ⟨hp', _⟩
      · rcases hi with hi | hi
        · exact Or.inl (Or.inr (Or.inr ⟨_, hm, Or.inl (hi.trans hb)⟩))
        · rcases hnew i hi with h1 | h1
          · exact Or.inl (Or.inr (Or.inr ⟨_, hm, Or.inr h1⟩))
          · exact Or.inr h1
      · exact Or.inl (Or.inr (Or.inr ⟨p, hp', hi⟩))

theorem DiskG.footFile {k : List UInt8} {g : Gc} (hg : Dk.getL k G = some g) : ∀ i, fileS g i → foot d m G i := by
  intro i hi
  exact Or.inr (Or.inr ⟨_, Dk.getL_mem hg, hi⟩)

end
end Go.Proofs.Ytbiombolpfhdlaa
