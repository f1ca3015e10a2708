/- What is asked of a program's readers (its contracts, as one hypothesis), and what follows for a law that has one of its own. -/
import Derived.Test.YtddbacphlbaohaaVFeed
import Derived.Maps.AppendAt
namespace Go.Proofs.Ytddbacphlbaohaa
open Go.RowKit

/-- a slice of texts that is new -/
def RowS (w : World) (base : Nat) (v : Value) (L : List (List UInt8)) : Prop :=
  ∃ a c, v = .slice a L.length c ∧ L.length ≤ c ∧ c ≤ maxLen ∧ (a = none → c = 0) ∧ (L ≠ [] → ∃ b off C, a = some ⟨b, off, none⟩ ∧ base ≤ b ∧ w.heap[b]? = some (.cells C 9 (0, 0)) ∧ ∀ i, (h : i < L.length) → C[off + i]? = some (Go.Proofs.encStr L[i]))

theorem RowS.of_row {w : World} {base : Nat} {v : Value} {L : List (List UInt8)} (h : w.ownsRow base 9 1 v L.length (L.map Go.Proofs.encStr)) : RowS w base v L := by
  rcases h.2 with ⟨rfl, hn⟩ | ⟨g, cap, cur, rfl, hb, hg, hnc, hcm, _, _⟩
  · have : L = [] := List.eq_nil_of_length_eq_zero hn
    subst this
    exact ⟨none, 0, rfl, Nat.le_refl _, Nat.zero_le _, fun _ => rfl, fun h => absurd rfl h⟩
  · refine ⟨_, cap, rfl, hnc, hcm, fun e => (by cases e), fun _ => ⟨g, 0, cur, rfl, hb, hg, fun i hi => ?_⟩⟩
    have h1 := h.cells (g := g) rfl i (Go.Proofs.encStr L[i]) (by simp [hi])
    rw [Addr.add_lit, cell_of hg] at h1
    exact h1

theorem RowS.strs {w : World} {base : Nat} {v : Value} {L : List (List UInt8)} (h : RowS w base v L) : StrsAt w v L := by
  obtain ⟨a, c, e1, e2, e3, -, e4⟩ := h
  refine ⟨a, c, e1, e2, e3, fun hne => ?_⟩
  obtain ⟨b, off, C, h1, -, h3, h4⟩ := e4 hne
  exact ⟨b, off, h1, lt_of h3, fun i hi => (cell_of h3 _).trans (h4 i hi)⟩

/-- the contracts of a program's readers -/
structure Kit where
  I : Nat → Rd → World → (Nat → Prop) → Prop
  res : ∀ g r, Res (I g r)
  new : ∀ w : World, Calls Try.prog 7 #[] w fun e w' => ∃ g F, e = .returned (.pointer (some ⟨g, 0, none⟩)) ∧ I g ⟨[], false⟩ w' F ∧ (∀ i, F i → w.heap.size ≤ i) ∧ Below w.heap.size w w'
  feed : ∀ (g : Nat) (r : Rd) (b : ByteArray) (w : World) (F : Nat → Prop), I g r w F → r.kept.length < 65540 → Calls Try.prog 9 #[.pointer (some ⟨g, 0, none⟩), .string b] w fun e w' =>
    ∃ v F', e = .returned (.tuple #[v, .int .i64 (feedE r b.data.toList)]) ∧ RowS w' w.heap.size v (feedB r b.data.toList) ∧ I g (feedR r b.data.toList) w' F' ∧ Turn F w w' ∧ (∀ i, F' i → F i ∨ w.heap.size ≤ i) ∧ ∀ i, v.ownBlock = some i → ¬ F' i
  left : ∀ (g : Nat) (r : Rd) (w : World) (F : Nat → Prop), I g r w F → Calls Try.prog 12 #[.pointer (some ⟨g, 0, none⟩)] w fun e w' => e = .returned (.int .i64 (r.kept.length : Int)) ∧ ∃ n, w' = w.drewN n
  bad : ∀ (g : Nat) (r : Rd) (w : World) (F : Nat → Prop), I g r w F → Calls Try.prog 13 #[.pointer (some ⟨g, 0, none⟩)] w fun e w' => e = .returned (.bool r.ill) ∧ ∃ n, w' = w.drewN n
  packet : ∀ (b : ByteArray) (w : World), Calls Try.prog 14 #[.string b] w fun e w' => e = .returned (.tuple #[.string (packS b), .int .i64 (packE b)]) ∧ Below w.heap.size w w'

/-- a reader that a law has made, which began in w -/
structure On (K : Kit) (g : Nat) (r : Rd) (w wr : World) (F : Nat → Prop) : Prop where
  at_ : K.I g r wr F
  new : ∀ i, F i → w.heap.size ≤ i
  below : Below w.heap.size w wr
  few : r.kept.length < 65540

variable {K : Kit} {g : Nat} {r : Rd} {w wr w' : World} {F F' : Nat → Prop}

theorem On.stays (h : On K g r w wr F) (hb : Below wr.heap.size wr w') : On K g r w w' F :=
  ⟨(K.res g r).kept (S := fun _ => False) h.at_ (Turn.ofBelow _ hb) (fun _ _ h => h), h.new, h.below.trans (hb.mono h.below.size), h.few⟩

theorem On.draws (h : On K g r w wr F) (n : Nat) : On K g r w (wr.drewN n) F := h.stays (below_drewN wr n)

theorem On.turns (h : On K g r w wr F) {S : Nat → Prop} (ht : Turn S wr w') (hS : ∀ i, F i → ¬ S i) (hw : ∀ i, S i → w.heap.size ≤ i) : On K g r w w' F :=
  ⟨(K.res g r).kept h.at_ ht hS, h.new, h.below.trans ((ht.mono hw).toBelow h.below.size), h.few⟩

/-- a call that makes a new reader -/
theorem kit_new (K : Kit) (w wr : World) (hb : Below w.heap.size w wr) : Calls Try.prog 7 #[] wr fun e w' => ∃ g F, e = .returned (.pointer (some ⟨g, 0, none⟩)) ∧ On K g ⟨[], false⟩ w w' F ∧ (∀ i, F i → wr.heap.size ≤ i) ∧ Below wr.heap.size wr w' := by
  refine (K.new wr).mono ?_
  rintro e w' ⟨g, F, he, h1, h2, h3⟩
  have hs := hb.size
  exact ⟨g, F, he, ⟨h1, fun i hi => Nat.le_trans hs (h2 i hi), hb.trans (h3.mono hs), by decide⟩, h2, h3⟩

theorem On.feed (h : On K g r w wr F) (b : ByteArray) : Calls Try.prog 9 #[.pointer (some ⟨g, 0, none⟩), .string b] wr fun e w' =>
    ∃ v F', e = .returned (.tuple #[v, .int .i64 (feedE r b.data.toList)]) ∧ RowS w' wr.heap.size v (feedB r b.data.toList) ∧ On K g (feedR r b.data.toList) w w' F' ∧ Turn F wr w' ∧ (∀ i, F' i → F i ∨ wr.heap.size ≤ i) ∧ ∀ i, v.ownBlock = some i → ¬ F' i := by
  refine (K.feed g r b wr F h.at_ h.few).mono ?_
  rintro e w' ⟨v, F', he, h1, h2, h3, h4, h5⟩
  refine ⟨v, F', he, h1, ⟨h2, fun i hi => ?_, h.below.trans ((h3.mono h.new).toBelow h.below.size), feedR_kept _ _ h.few⟩, h3, h4, h5⟩
  rcases h4 i hi with h6 | h6
  · exact h.new i h6
  · exact Nat.le_trans h.below.size h6

theorem On.left (h : On K g r w wr F) : Calls Try.prog 12 #[.pointer (some ⟨g, 0, none⟩)] wr fun e w' => e = .returned (.int .i64 (r.kept.length : Int)) ∧ ∃ n, w' = wr.drewN n := K.left g r wr F h.at_
theorem On.bad (h : On K g r w wr F) : Calls Try.prog 13 #[.pointer (some ⟨g, 0, none⟩)] wr fun e w' => e = .returned (.bool r.ill) ∧ ∃ n, w' = wr.drewN n := K.bad g r wr F h.at_

/-- a row of the law's own, apart from the reader -/
def Apart (F : Nat → Prop) (v : Value) : Prop := ∀ i, v.ownBlock = some i → ¬ F i

theorem Apart.nil (F : Nat → Prop) : Apart F (.slice none 0 0) := fun _ h => by cases h

/-- it stays when the reader is fed -/
theorem row_fed {base n : Nat} {v : Value} {xs : List Value} (h : wr.ownsRow base 9 1 v n xs) (ha : Apart F v) (ht : Turn F wr w') (hF : ∀ i, F' i → F i ∨ wr.heap.size ≤ i) : w'.ownsRow base 9 1 v n xs ∧ Apart F' v := by
  refine ⟨ownsRow_block h fun i hi => ht.block i (h.lt i hi).2 (ha i hi), fun i hi hf => ?_⟩
  rcases hF i hf with h1 | h1
  · exact ha i hi h1
  · have := (h.lt i hi).2
    omega

end Go.Proofs.Ytddbacphlbaohaa
