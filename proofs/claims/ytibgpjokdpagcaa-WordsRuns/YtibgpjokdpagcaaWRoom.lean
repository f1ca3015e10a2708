/- Machines and cells in memory, and what a write makes of them. -/
import Derived.Test.YtibgpjokdpagcaaWCheck
import Derived.Test.YtibgpjokdpagcaaFlat
namespace Go.Proofs.Ytibgpjokdpagcaa
open Go.RowKit

/-- a machine: its code's slice, its registers, its place -/
structure Mg where
  v : Value
  r : List Int
  p : Nat

abbrev rv (r : List Int) (i : Nat) : Value := .int .u64 (r.getD i 0)
def Mg.en (m : Mg) : List Value := [m.v, rv m.r 0, rv m.r 1, rv m.r 2, rv m.r 3, rv m.r 4, rv m.r 5, rv m.r 6, rv m.r 7, .int .i64 (m.p : Int)]
theorem Mg.en_len (m : Mg) : m.en.length = 10 := rfl
theorem Mg.en_reg (m : Mg) {i : Nat} (h : i < 8) : m.en[1 + i]? = some (rv m.r i) := by
  rcases i with _ | _ | _ | _ | _ | _ | _ | _ | i
  · rfl
  · rfl
  · rfl
  · rfl
  · rfl
  · rfl
  · rfl
  · rfl
  · omega

theorem getD_set_self {l : List Int} {i : Nat} {z : Int} (h : i < l.length) : (l.set i z).getD i 0 = z := by simp [List.getD_eq_getElem?_getD, h]
theorem getD_set_ne {l : List Int} {i j : Nat} {z : Int} (h : i ≠ j) : (l.set i z).getD j 0 = l.getD j 0 := by simp [List.getD_eq_getElem?_getD, List.getElem?_set_ne h]

theorem Mg.set_reg (m : Mg) (h8 : m.r.length = 8) {i : Nat} (h : i < 8) (z : Int) : m.en.set (1 + i) (.int .u64 z) = Mg.en ⟨m.v, m.r.set i z, m.p⟩ := by
  obtain ⟨v, r, p⟩ := m
  have h8' : r.length = 8 := h8
  match r, h8' with
  | [r0, r1, r2, r3, r4, r5, r6, r7], _ =>
    rcases i with _ | _ | _ | _ | _ | _ | _ | _ | i
    · rfl
    · rfl
    · rfl
    · rfl
    · rfl
    · rfl
    · rfl
    · rfl
    · omega
theorem Mg.set_place (m : Mg) (p : Nat) : m.en.set 9 (.int .i64 (p : Int)) = Mg.en ⟨m.v, m.r, p⟩ := rfl

def ucells (c : List Int) : List Value := c.map fun x => Value.int .u64 x
theorem ucells_length (c : List Int) : (ucells c).length = c.length := by simp [ucells]
theorem ucells_get {c : List Int} {i : Nat} (h : i < c.length) : (ucells c)[i]? = some (.int .u64 (c.getD i 0)) := by
  simp [ucells, List.getD_eq_getElem?_getD, h]
theorem ucells_set (c : List Int) (i : Nat) (z : Int) : (ucells c).set i (.int .u64 z) = ucells (c.set i z) := by simp [ucells]

/-- machines lie in the block g, cells in the block h -/
structure RoomG (w : World) (g h : Nat) (G : List Mg) (c : List Int) : Prop where
  row : ∃ cur, w.heap[g]? = some (.cells cur 59 (0, 0)) ∧ cur.toList = flat Mg.en G
  cel : ∃ cur, w.heap[h]? = some (.cells cur 38 (0, 0)) ∧ cur.toList = ucells c
  ne : g ≠ h

section
variable {w w' : World} {g h : Nat} {G : List Mg} {c : List Int}

theorem RoomG.lt (hR : RoomG w g h G c) : g < w.heap.size ∧ h < w.heap.size := by
  obtain ⟨⟨_, h1, _⟩, ⟨_, h2, _⟩, _⟩ := hR
  exact ⟨lt_of h1, lt_of h2⟩
theorem RoomG.kept {S : Nat → Prop} (hR : RoomG w g h G c) (ht : Turn S w w') (h1 : ¬ S g) (h2 : ¬ S h) : RoomG w' g h G c := by
  have hl := hR.lt
  obtain ⟨⟨cu, r1, r2⟩, ⟨cv, s1, s2⟩, hn⟩ := hR
  exact ⟨⟨cu, (ht.block g hl.1 h1).trans r1, r2⟩, ⟨cv, (ht.block h hl.2 h2).trans s1, s2⟩, hn⟩
theorem RoomG.at (hR : RoomG w g h G c) {t : Nat} (ht : t < G.length) {o : Nat} (ho : o = 10 * t) {f : Nat} (hf : f < 10) : w.cell? ⟨g, o + f, none⟩ = (Mg.en G[t])[f]? := by
  obtain ⟨⟨cu, r1, r2⟩, _, _⟩ := hR
  rw [cell_of r1, ← Array.getElem?_toList, r2, ho]
  exact flat_get Mg.en_len G t ht f hf
theorem RoomG.frozen (hR : RoomG w g h G c) (i : Nat) : w.frozen? ⟨g, i, none⟩ = false := by
  obtain ⟨⟨cu, r1, r2⟩, _, _⟩ := hR
  exact frozen_of r1 i
theorem RoomG.frozenC (hR : RoomG w g h G c) (i : Nat) : w.frozen? ⟨h, i, none⟩ = false := by
  obtain ⟨_, ⟨cu, r1, r2⟩, _⟩ := hR
  exact frozen_of r1 i
theorem RoomG.cell (hR : RoomG w g h G c) {i : Nat} (hi : i < c.length) : w.cell? ⟨h, i, none⟩ = some (.int .u64 (c.getD i 0)) := by
  obtain ⟨_, ⟨cu, r1, r2⟩, _⟩ := hR
  rw [cell_of r1, ← Array.getElem?_toList, r2]
  exact ucells_get hi
theorem RoomG.setRow (hR : RoomG w g h G c) {t : Nat} (ht : t < G.length) {o : Nat} (ho : o = 10 * t) {f : Nat} (hf : f < 10) {u : Value} {d : Mg} (hd : (Mg.en G[t]).set f u = d.en) : RoomG (w.setCell ⟨g, o + f, none⟩ u) g h (G.set t d) c := by
  have hl := hR.lt
  obtain ⟨⟨cu, r1, r2⟩, ⟨cv, s1, s2⟩, hn⟩ := hR
  refine ⟨⟨_, heap_setCell_same r1 _ u, ?_⟩, ⟨cv, ?_, s2⟩, hn⟩
  · rw [Array.toList_setIfInBounds, r2, ho]
    exact flat_set Mg.en_len G t ht f u d hf hd
  · exact ((Turn.setCell (S := fun i => i = g) w ⟨g, o + f, none⟩ u rfl).block h hl.2 (fun e => hn e.symm)).trans s1
theorem RoomG.setCel (hR : RoomG w g h G c) (i : Nat) (z : Int) : RoomG (w.setCell ⟨h, i, none⟩ (.int .u64 z)) g h G (c.set i z) := by
  have hl := hR.lt
  obtain ⟨⟨cu, r1, r2⟩, ⟨cv, s1, s2⟩, hn⟩ := hR
  refine ⟨⟨cu, ?_, r2⟩, ⟨_, heap_setCell_same s1 i _, ?_⟩, hn⟩
  · exact ((Turn.setCell (S := fun i => i = h) w ⟨h, i, none⟩ _ rfl).block g hl.1 (fun e => hn e)).trans r1
  · rw [Array.toList_setIfInBounds, s2]
    exact ucells_set c i z
end

/-- the machine t of them, and the cells, in the state s -/
structure Loc (w0 w : World) (g h : Nat) (G : List Mg) (t o : Nat) (v : Value) (s : St) : Prop where
  room : RoomG w g h (G.set t ⟨v, s.r, s.p⟩) s.c
  turn : Turn (fun i => i = g ∨ i = h) w0 w
  lt : t < G.length
  off : o = 10 * t
  r8 : s.r.length = 8

section
variable {w0 w w' : World} {g h : Nat} {G : List Mg} {t o : Nat} {v : Value} {s : St}
theorem Loc.at (h1 : Loc w0 w g h G t o v s) {f : Nat} (hf : f < 10) : w.cell? ⟨g, o + f, none⟩ = (Mg.en ⟨v, s.r, s.p⟩)[f]? := by
  have := h1.room.at (t := t) (by simpa using h1.lt) h1.off hf
  simpa using this
theorem Loc.code (h1 : Loc w0 w g h G t o v s) : w.cell? ⟨g, o, none⟩ = some v := h1.at (f := 0) (by omega)
theorem Loc.place (h1 : Loc w0 w g h G t o v s) : w.cell? ⟨g, o + 9, none⟩ = some (.int .i64 (s.p : Int)) := h1.at (f := 9) (by omega)
theorem Loc.reg (h1 : Loc w0 w g h G t o v s) {i : Nat} (hi : i < 8) : w.cell? ⟨g, o + 1 + i, none⟩ = some (.int .u64 (s.r.getD i 0)) := by
  have := h1.at (f := 1 + i) (by omega)
  rw [Mg.en_reg _ hi, ← Nat.add_assoc] at this
  exact this
theorem Loc.cell (h1 : Loc w0 w g h G t o v s) {i : Nat} (hi : i < s.c.length) : w.cell? ⟨h, i, none⟩ = some (.int .u64 (s.c.getD i 0)) := h1.room.cell hi
theorem Loc.frozen (h1 : Loc w0 w g h G t o v s) (i : Nat) : w.frozen? ⟨g, i, none⟩ = false := h1.room.frozen i
theorem Loc.frozenC (h1 : Loc w0 w g h G t o v s) (i : Nat) : w.frozen? ⟨h, i, none⟩ = false := h1.room.frozenC i
theorem Loc.below (h1 : Loc w0 w g h G t o v s) (hb : Below w.heap.size w w') : Loc w0 w' g h G t o v s :=
  ⟨h1.room.kept (S := fun _ => False) (Turn.ofBelow _ hb) (fun h => h) (fun h => h), h1.turn.trans (Turn.ofBelow _ hb), h1.lt, h1.off, h1.r8⟩
theorem Loc.set {s' : St} (h1 : Loc w0 w g h G t o v s) (h8 : s'.r.length = 8) (hR : RoomG w' g h (G.set t ⟨v, s'.r, s'.p⟩) s'.c) (ht : Turn (fun i => i = g ∨ i = h) w w') : Loc w0 w' g h G t o v s' :=
  ⟨hR, h1.turn.trans ht, h1.lt, h1.off, h8⟩
theorem Loc.setPlace (h1 : Loc w0 w g h G t o v s) (p : Nat) : Loc w0 (w.setCell ⟨g, o + 9, none⟩ (.int .i64 (p : Int))) g h G t o v ⟨s.r, p, s.c⟩ := by
  refine h1.set h1.r8 ?_ (Turn.setCell _ _ _ (Or.inl rfl))
  have := h1.room.setRow (t := t) (by simpa using h1.lt) h1.off (f := 9) (by omega) (u := .int .i64 (p : Int)) (d := ⟨v, s.r, p⟩) (by simp [Mg.set_place])
  simpa using this
theorem Loc.setReg (h1 : Loc w0 w g h G t o v s) {i : Nat} (hi : i < 8) (z : Int) : Loc w0 (w.setCell ⟨g, o + 1 + i, none⟩ (.int .u64 z)) g h G t o v ⟨s.r.set i z, s.p, s.c⟩ := by
  refine h1.set (by simpa using h1.r8) ?_ (Turn.setCell _ _ _ (Or.inl rfl))
  have := h1.room.setRow (t := t) (by simpa using h1.lt) h1.off (f := 1 + i) (by omega) (u := .int .u64 z) (d := ⟨v, s.r.set i z, s.p⟩) (by
    simp only [List.getElem_set_self]
    exact Mg.set_reg ⟨v, s.r, s.p⟩ h1.r8 hi z)
  rw [← Nat.add_assoc] at this
  simpa using this
theorem Loc.setCel (h1 : Loc w0 w g h G t o v s) (i : Nat) (z : Int) : Loc w0 (w.setCell ⟨h, i, none⟩ (.int .u64 z)) g h G t o v ⟨s.r, s.p, s.c.set i z⟩ :=
  h1.set h1.r8 (h1.room.setCel i z) (Turn.setCell _ _ _ (Or.inr rfl))
end

end Go.Proofs.Ytibgpjokdpagcaa
