/- Where a clock of the program lies. -/
import Derived.Test.YtonblbopfbjiaaaProg
import Derived.Test.YtonblbopfbjiaaaEPure
import Derived.Test.YtonblbopfbjiaaaFlat
import Derived.Deep.DeepMust
import Derived.OwnWalk
import Derived.Maps.AppendAt
namespace Go.Proofs.Ytonblbopfbjiaaa
open Go.RowKit

def enT (p : Int × Int) : List Value := [.int .i64 p.1, .int .i64 p.2]
theorem enT_len (p : Int × Int) : (enT p).length = 2 := rfl
def icells (L : List Int) : List Value := L.map fun x => Value.int .i64 x
theorem icells_length (L : List Int) : (icells L).length = L.length := by simp [icells]
theorem icells_get {L : List Int} {i : Nat} (h : i < L.length) : (icells L)[i]? = some (.int .i64 L[i]) := by simp [icells, h]
theorem icells_set (L : List Int) (i : Nat) (x : Int) : (icells L).set i (.int .i64 x) = icells (L.set i x) := by simp [icells]

structure ClockG (w : World) (g b : Nat) (a : Option Addr) (m : Nat) (c : Ck) : Prop where
  st : w.heap[g]? = some (.cells #[.int .i64 c.now, .int .i64 c.snap, .int .i64 c.every, .slice (some ⟨b, 0, none⟩) c.ws.length c.ws.length, .slice a c.th.length m] 55 (0, 0))
  wk : w.heap[b]? = some (.cells (icells c.ws).toArray 3 (0, 0))
  th : w.ownsRow 0 59 2 (.slice a c.th.length m) c.th.length (flat enT c.th)
  ok : c.Ok

def ClockI (g : Nat) (c : Ck) (w : World) (F : Nat → Prop) : Prop := ∃ b a m, ClockG w g b a m c ∧ ∀ i, F i ↔ (i = g ∨ i = b ∨ (Value.slice a c.th.length m).ownBlock = some i)

section
variable {w w' : World} {g b : Nat} {a : Option Addr} {m : Nat} {c : Ck} {F : Nat → Prop}

theorem ClockG.ne (h : ClockG w g b a m c) : g ≠ b := by
  intro e
  have h1 := h.st
  rw [e, h.wk] at h1
  simp at h1
theorem ClockG.tg (h : ClockG w g b a m c) : (Value.slice a c.th.length m).ownBlock ≠ some g := by
  intro e
  obtain ⟨cur, h1, _⟩ := ownsRow_own h.th e
  rw [h.st] at h1
  simp at h1
theorem ClockG.tb (h : ClockG w g b a m c) : (Value.slice a c.th.length m).ownBlock ≠ some b := by
  intro e
  obtain ⟨cur, h1, _⟩ := ownsRow_own h.th e
  rw [h.wk] at h1
  simp at h1

theorem ClockG.kept (h : ClockG w g b a m c) (h1 : w'.heap[g]? = w.heap[g]?) (h2 : w'.heap[b]? = w.heap[b]?) (h3 : ∀ t, (Value.slice a c.th.length m).ownBlock = some t → w'.heap[t]? = w.heap[t]?) : ClockG w' g b a m c :=
  ⟨h1.trans h.st, h2.trans h.wk, ownsRow_block h.th h3, h.ok⟩

theorem clockI_res (g : Nat) (c : Ck) : Res (ClockI g c) := by
  refine ⟨fun {w F} h i hi => ?_, fun {w w' F S} h ht hS => ?_⟩
  · obtain ⟨b, a, m, h1, hF⟩ := h
    rcases (hF i).1 hi with rfl | rfl | hi
    · exact lt_of h1.st
    · exact lt_of h1.wk
    · obtain ⟨cur, h2, _⟩ := ownsRow_own h1.th hi
      exact lt_of h2
  · obtain ⟨b, a, m, h1, hF⟩ := h
    refine ⟨b, a, m, h1.kept ?_ ?_ fun t e => ?_, hF⟩
    · exact ht.block g (lt_of h1.st) (hS g ((hF g).2 (Or.inl rfl)))
    · exact ht.block b (lt_of h1.wk) (hS b ((hF b).2 (Or.inr (Or.inl rfl))))
    · obtain ⟨cur, h2, _⟩ := ownsRow_own h1.th e
      exact ht.block t (lt_of h2) (hS t ((hF t).2 (Or.inr (Or.inr e))))

theorem ClockI.ok (h : ClockI g c w F) : c.Ok := by obtain ⟨_, _, _, h, _⟩ := h; exact h.ok

/-- the struct's cells -/
structure ClockC (w : World) (g b : Nat) (a : Option Addr) (m : Nat) (c : Ck) : Prop where
  c0 : w.cell? ⟨g, 0, none⟩ = some (.int .i64 c.now)
  c1 : w.cell? ⟨g, 1, none⟩ = some (.int .i64 c.snap)
  c2 : w.cell? ⟨g, 2, none⟩ = some (.int .i64 c.every)
  c3 : w.cell? ⟨g, 3, none⟩ = some (.slice (some ⟨b, 0, none⟩) c.ws.length c.ws.length)
  c4 : w.cell? ⟨g, 4, none⟩ = some (.slice a c.th.length m)
  f0 : w.frozen? ⟨g, 0, none⟩ = false
  f1 : w.frozen? ⟨g, 1, none⟩ = false
  f4 : w.frozen? ⟨g, 4, none⟩ = false

theorem ClockG.cells (h : ClockG w g b a m c) : ClockC w g b a m c := by
  have h1 := h.st
  refine ⟨?_, ?_, ?_, ?_, ?_, frozen_of h1 _, frozen_of h1 _, frozen_of h1 _⟩ <;> (rw [cell_of h1]; rfl)

theorem ClockG.worker (h : ClockG w g b a m c) {k : Nat} {e : Int} (hk : c.ws[k]? = some e) : w.cell? ⟨b, k, none⟩ = some (.int .i64 e) := by
  obtain ⟨hl, rfl⟩ := List.getElem?_eq_some_iff.1 hk
  rw [cell_of h.wk, List.getElem?_toArray, icells_get hl]

/-- a worker's epoch is written -/
theorem ClockG.setW (h : ClockG w g b a m c) (hF : ∀ i, F i ↔ (i = g ∨ i = b ∨ (Value.slice a c.th.length m).ownBlock = some i)) {k : Nat} {x : Int} {c' : Ck} (hc : c' = { c with ws := c.ws.set k x }) (ho : c'.Ok) : Goes (ClockI g c') w (w.setCell ⟨b, k, none⟩ (.int .i64 x)) F := by
  have hne := h.ne
  have htb := h.tb
  have ht : Turn (fun i => i = b) w (w.setCell ⟨b, k, none⟩ (.int .i64 x)) := Turn.setCell w ⟨b, k, none⟩ _ rfl
  subst hc
  refine ⟨F, ⟨b, a, m, ⟨?_, ?_, ?_, ho⟩, hF⟩, ht.mono (fun i hi => (hF i).2 (Or.inr (Or.inl hi))), fun i hi => Or.inl hi⟩
  · rw [ht.block g (lt_of h.st) hne, h.st, List.length_set]
  · rw [heap_setCell_same h.wk, List.setIfInBounds_toArray, icells_set]
  · refine ownsRow_block h.th (fun t e => ?_)
    obtain ⟨cur, h2, _⟩ := ownsRow_own h.th e
    exact ht.block t (lt_of h2) (fun e2 => htb (by rw [e, e2]))

/-- the global epoch is written, or the snapshot epoch -/
theorem ClockG.setE (h : ClockG w g b a m c) (hF : ∀ i, F i ↔ (i = g ∨ i = b ∨ (Value.slice a c.th.length m).ownBlock = some i)) {W : World} {c' : Ck} (hc : c'.ws = c.ws ∧ c'.every = c.every ∧ c'.th = c.th) (ho : c'.Ok)
    (hW : Turn (fun i => i = g) w W) (hg : W.heap[g]? = some (.cells #[.int .i64 c'.now, .int .i64 c'.snap, .int .i64 c.every, .slice (some ⟨b, 0, none⟩) c.ws.length c.ws.length, .slice a c.th.length m] 55 (0, 0))) : Goes (ClockI g c') w W F := by
  have hne := h.ne
  have htg := h.tg
  obtain ⟨e1, e2, e3⟩ := hc
  refine ⟨F, ⟨b, a, m, ⟨?_, ?_, ?_, ho⟩, by rw [e3]; exact hF⟩, hW.mono (fun i hi => (hF i).2 (Or.inl hi)), fun i hi => Or.inl hi⟩
  · rw [hg, e1, e2, e3]
  · rw [hW.block b (lt_of h.wk) (fun e => hne e.symm), h.wk, e1]
  · rw [e3]
    refine ownsRow_block h.th (fun t e => ?_)
    obtain ⟨cur, h2, _⟩ := ownsRow_own h.th e
    exact hW.block t (lt_of h2) (fun e2 => htg (by rw [e, e2]))

/-- the things are written: a new row, its slice in the struct -/
theorem ClockG.setT (h : ClockG w g b a m c) (hF : ∀ i, F i ↔ (i = g ∨ i = b ∨ (Value.slice a c.th.length m).ownBlock = some i)) {W : World} {a' : Option Addr} {m' : Nat} {L : List (Int × Int)} {c' : Ck} (hc : c' = { c with th := L }) (ho : c'.Ok)
    (hW : Turn (fun i => (Value.slice a c.th.length m).ownBlock = some i) w W) (hr : W.ownsRow 0 59 2 (.slice a' L.length m') L.length (flat enT L)) (hn : ∀ t, (Value.slice a' L.length m').ownBlock = some t → (Value.slice a c.th.length m).ownBlock = some t ∨ w.heap.size ≤ t) :
    Goes (ClockI g c') w (W.setCell ⟨g, 4, none⟩ (.slice a' L.length m')) F := by
  have hne := h.ne
  have htg := h.tg
  have htb := h.tb
  subst hc
  have hg : W.heap[g]? = w.heap[g]? := hW.block g (lt_of h.st) htg
  have hb : W.heap[b]? = w.heap[b]? := hW.block b (lt_of h.wk) htb
  have ht : Turn (fun i => i = g) W (W.setCell ⟨g, 4, none⟩ (.slice a' L.length m')) := Turn.setCell W ⟨g, 4, none⟩ _ rfl
  refine ⟨fun i => i = g ∨ i = b ∨ (Value.slice a' L.length m').ownBlock = some i, ⟨b, a', m', ⟨?_, ?_, ?_, ho⟩, fun i => Iff.rfl⟩, ?_, fun i hi => ?_⟩
  · rw [heap_setCell_same (hg.trans h.st)]
    rfl
  · rw [ht.block b (lt_of (hb.trans h.wk)) (fun e => hne e.symm), hb, h.wk]
  · refine ownsRow_block hr (fun t e => ?_)
    obtain ⟨cur, h2, _⟩ := ownsRow_own hr e
    refine ht.block t (lt_of h2) (fun e2 => ?_)
    subst e2
    rw [hg, h.st] at h2
    simp at h2
  · exact (hW.mono (fun i hi => (hF i).2 (Or.inr (Or.inr hi)))).trans (ht.mono (fun i hi => (hF i).2 (Or.inl hi)))
  · rcases hi with hi | hi | hi
    · exact Or.inl ((hF i).2 (Or.inl hi))
    · exact Or.inl ((hF i).2 (Or.inr (Or.inl hi)))
    · rcases hn i hi with h1 | h1
      · exact Or.inl ((hF i).2 (Or.inr (Or.inr h1)))
      · exact Or.inr h1
end
end Go.Proofs.Ytonblbopfbjiaaa
