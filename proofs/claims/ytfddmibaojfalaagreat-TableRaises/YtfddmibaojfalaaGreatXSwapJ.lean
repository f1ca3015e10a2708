import Derived.Test.YtfddmibaojfalaaGreatXAddD
import Derived.Test.YtfddmibaojfalaaGreatXRow
import Derived.Lib.LazyBuf
/- A row is taken out of a list, and one is put in: the program's list.swap. -/
namespace Go.Proofs.YtfddmibaojfalaaGreat
open Go.RowKit

/-- the rows of a list, as one's own -/
def RvAt (w : World) (rv : Value) (R : List Rw) : Prop := (rv = .slice none 0 0 ∧ R = []) ∨ ∃ b c C, rv = .slice (some ⟨b, 0, none⟩) R.length c ∧ PtrRow w b c R C
/-- a row of one's own that may be in lists -/
def RowG (w : World) (r : Rw) : Prop := VRow w 0 r.g r.vs.length r.c r.vs ∧ ∀ x ∈ r.vs, OkV x
theorem RowG.ok {w : World} {r : Rw} (h : RowG w r) : RowOk w r := ⟨h.1.slice, h.2⟩
theorem RowG.type {w : World} {r : Rw} (h : RowG w r) : ∃ cur, w.heap[r.g]? = some (.cells cur 36 (0, 0)) := by
  obtain ⟨⟨cur, _, h3, _⟩, _⟩ := h
  exact ⟨cur, h3⟩
theorem RowG.heap {w u : World} {r : Rw} (h : RowG w r) (e : u.heap[r.g]? = w.heap[r.g]?) : RowG u r := ⟨h.1.below e, h.2⟩
theorem flat_enR : ∀ R : List Rw, flat enR R = pcells R
  | [] => rfl
  | r :: R => by rw [flat_cons, flat_enR R]; rfl
theorem RvAt.slice {w : World} {rv : Value} {R : List Rw} (h : RvAt w rv R) : SliceAt w rv 1 enR R := by
  rcases h with ⟨rfl, rfl⟩ | ⟨b, c, C, rfl, h⟩
  · exact ⟨none, 0, rfl, Nat.le_refl _, Nat.zero_le _, fun h => absurd rfl h⟩
  · refine sliceAt_flat (en := enR) (n := 1) (fun _ => rfl) h.st ?_ h.fit h.big
    obtain ⟨rest, hr⟩ := h.list
    rw [flat_enR R, hr, Nat.mul_one, List.take_append_of_le_length (by rw [pcells_length]; exact Nat.le_refl _), List.take_of_length_le (by rw [pcells_length]; exact Nat.le_refl _)]
theorem RvAt.type {w : World} {rv : Value} {R : List Rw} (h : RvAt w rv R) {b : Nat} (hb : rv.ownBlock = some b) : ∃ cur, w.heap[b]? = some (.cells cur 37 (0, 0)) := by
  rcases h with ⟨rfl, rfl⟩ | ⟨b', c, C, rfl, h⟩
  · cases hb
  · cases hb; exact ⟨C, h.st⟩
theorem RvAt.heap {w u : World} {rv : Value} {R : List Rw} (h : RvAt w rv R) (e : ∀ b, rv.ownBlock = some b → u.heap[b]? = w.heap[b]?) : RvAt u rv R := by
  rcases h with ⟨rfl, rfl⟩ | ⟨b', c, C, rfl, h⟩
  · exact Or.inl ⟨rfl, rfl⟩
  · exact Or.inr ⟨b', c, C, rfl, (e b' rfl).trans h.st, h.size, h.fit, h.big, h.at_⟩

/-- numbers of columns, as one's own -/
def ColsO (w : World) (cv : Value) (cols : List Nat) : Prop := SliceAt w cv 1 enN cols ∧ ∀ b, cv.ownBlock = some b → ∃ cur fz, w.heap[b]? = some (.cells cur 3 fz)
theorem ColsO.heap {w u : World} {cv : Value} {cols : List Nat} (h : ColsO w cv cols) (hs : w.heap.size ≤ u.heap.size) (e : ∀ b, cv.ownBlock = some b → u.heap[b]? = w.heap[b]?) : ColsO u cv cols := by
  obtain ⟨⟨a, c, h1, h2, h3, h4⟩, h5⟩ := h
  refine ⟨⟨a, c, h1, h2, h3, fun hne => ?_⟩, fun b hb => ?_⟩
  · obtain ⟨b, off, e1, hlt, hc⟩ := h4 hne
    refine ⟨b, off, e1, Nat.lt_of_lt_of_le hlt hs, fun i hi j x hx => ?_⟩
    have hb := e b (by rw [h1, e1]; rfl)
    have := hc i hi j x hx
    simp only [World.cell?] at this ⊢
    rw [hb]
    exact this
  · obtain ⟨cur, fz, k⟩ := h5 b hb
    exact ⟨cur, fz, (e b hb).trans k⟩

structure LO (w : World) (lb lo : Nat) (Tl : TypeId) (cur : Array Value) (cv rv : Value) (cols : List Nat) (R : List Rw) : Prop where
  st : w.heap[lb]? = some (.cells cur Tl (0, 0))
  i0 : cur[lo]? = some cv
  i1 : cur[lo + 1]? = some rv
  cs : ColsO w cv cols
  rs : RvAt w rv R
  ro : ∀ r ∈ R, RowG w r ∧ ∀ c ∈ cols, c < r.vs.length
  few : R.length ≤ 4200
  ty : Tl ≠ 37 ∧ Tl ≠ 36 ∧ Tl ≠ 3
section
variable {w u : World} {lb lo : Nat} {Tl : TypeId} {cur : Array Value} {cv rv rv' : Value} {cols : List Nat} {R R' : List Rw}
theorem LO.at (h : LO w lb lo Tl cur cv rv cols R) : LAt w lb lo cv rv cols R :=
  ⟨by rw [cell_of h.st]; exact h.i0, by rw [cell_of h.st]; exact h.i1, h.cs.1, h.rs.slice, fun r hr => ⟨(h.ro r hr).1.ok, (h.ro r hr).2⟩, by have := h.few; omega⟩
theorem type_ne {b b' : Nat} {c c' : Array Value} {t t' : TypeId} {z z' : Nat × Nat} (h : w.heap[b]? = some (.cells c t z)) (h' : w.heap[b']? = some (.cells c' t' z')) (hne : t ≠ t') : b ≠ b' := fun e => by
  subst e
  rw [h] at h'
  cases h'
  exact hne rfl
theorem LO.lb_rv (h : LO w lb lo Tl cur cv rv cols R) {b : Nat} (hb : rv.ownBlock = some b) : lb ≠ b := by
  obtain ⟨C, hC⟩ := h.rs.type hb
  exact type_ne h.st hC h.ty.1
theorem LO.cs_rv (h : LO w lb lo Tl cur cv rv cols R) {b b' : Nat} (hb : rv.ownBlock = some b) (hc : cv.ownBlock = some b') : b' ≠ b := by
  obtain ⟨C, hC⟩ := h.rs.type hb
  obtain ⟨C', z, hC'⟩ := h.cs.2 b' hc
  exact type_ne hC' hC (by decide)
theorem LO.cs_lb (h : LO w lb lo Tl cur cv rv cols R) {b' : Nat} (hc : cv.ownBlock = some b') : b' ≠ lb := by
  obtain ⟨C', z, hC'⟩ := h.cs.2 b' hc
  exact type_ne hC' h.st (Ne.symm h.ty.2.2)
theorem LO.row_rv (h : LO w lb lo Tl cur cv rv cols R) {b : Nat} (hb : rv.ownBlock = some b) {r : Rw} (hr : RowG w r) : r.g ≠ b := by
  obtain ⟨C, hC⟩ := h.rs.type hb
  obtain ⟨C', hC'⟩ := hr.type
  exact type_ne hC' hC (by decide)
theorem LO.row_lb (h : LO w lb lo Tl cur cv rv cols R) {r : Rw} (hr : RowG w r) : r.g ≠ lb := by
  obtain ⟨C', hC'⟩ := hr.type
  exact type_ne hC' h.st (Ne.symm h.ty.2.1)

/-- nothing of the list is turned -/
theorem LO.kept (h : LO w lb lo Tl cur cv rv cols R) {S : Nat → Prop} (t : Turn S w u) (h1 : ¬ S lb) (h2 : ∀ b, rv.ownBlock = some b → ¬ S b) (h3 : ∀ b, cv.ownBlock = some b → ¬ S b) (h4 : ∀ r ∈ R, ¬ S r.g) : LO u lb lo Tl cur cv rv cols R := by
  refine ⟨(t.block lb (lt_of h.st) h1).trans h.st, h.i0, h.i1, h.cs.heap t.size fun b hb => ?_, h.rs.heap fun b hb => ?_, fun r hr => ⟨(h.ro r hr).1.heap ?_, (h.ro r hr).2⟩, h.few, h.ty⟩
  · obtain ⟨C, z, hC⟩ := h.cs.2 b hb
    exact t.block b (lt_of hC) (h3 b hb)
  · obtain ⟨C, hC⟩ := h.rs.type hb
    exact t.block b (lt_of hC) (h2 b hb)
  · obtain ⟨C, hC⟩ := (h.ro r hr).1.type
    exact t.block r.g (lt_of hC) (h4 r hr)
theorem LO.below (h : LO w lb lo Tl cur cv rv cols R) (hu : Below w.heap.size w u) : LO u lb lo Tl cur cv rv cols R :=
  h.kept (Turn.ofBelow (fun _ => False) hu) (fun h => h) (fun _ _ h => h) (fun _ _ h => h) (fun _ _ h => h)

/-- the rows were made anew, and the list's cell is written -/
theorem LO.next (h : LO w lb lo Tl cur cv rv cols R) (t : Turn (fun i => rv.ownBlock = some i) w u) (hr : RvAt u rv' R') (hro : ∀ r ∈ R', RowG w r ∧ ∀ c ∈ cols, c < r.vs.length) (hf : R'.length ≤ 4200) :
    LO (u.setCell ⟨lb, lo + 1, none⟩ rv') lb lo Tl (cur.setIfInBounds (lo + 1) rv') cv rv' cols R' := by
  have hst : u.heap[lb]? = some (.cells cur Tl (0, 0)) := (t.block lb (lt_of h.st) (fun e => h.lb_rv e rfl)).trans h.st
  have t2 := Turn.setCell (S := fun i => i = lb) u ⟨lb, lo + 1, none⟩ rv' rfl
  have hl1 : lo + 1 < cur.size := (Array.getElem?_eq_some_iff.1 h.i1).1
  refine ⟨heap_setCell_same hst _ _, ?_, ?_, h.cs.heap (by have := t.size; simp; omega) fun b hb => ?_, hr.heap fun b hb => ?_, fun r hr' => ⟨(hro r hr').1.heap ?_, (hro r hr').2⟩, hf, h.ty⟩
  · rw [Array.getElem?_setIfInBounds]; simp; exact h.i0
  · rw [Array.getElem?_setIfInBounds]; simp [hl1]
  · obtain ⟨C, z, hC⟩ := h.cs.2 b hb
    exact (t2.block b (Nat.lt_of_lt_of_le (lt_of hC) t.size) (h.cs_lb hb)).trans (t.block b (lt_of hC) (fun e => h.cs_rv e hb rfl))
  · obtain ⟨C, hC⟩ := hr.type hb
    exact t2.block b (lt_of hC) (fun e => type_ne hst hC h.ty.1 e.symm)
  · obtain ⟨C, hC⟩ := (hro r hr').1.type
    exact (t2.block r.g (Nat.lt_of_lt_of_le (lt_of hC) t.size) (h.row_lb (hro r hr').1)).trans (t.block r.g (lt_of hC) (fun e => h.row_rv e (hro r hr').1 rfl))
end

/-- a list without a row; with one -/
def delP (cols : List Nat) (R : List Rw) (r : Rw) : Nat := plc cols (cont R) (pickV r.vs cols)
def delR (cols : List Nat) (R : List Rw) : Option Rw → List Rw
  | none => R
  | some r => R.eraseIdx (delP cols R r)
def insR (cols : List Nat) (R : List Rw) : Option Rw → List Rw
  | none => R
  | some r => R.insertIdx (delP cols R r) r
/-- when a row may be taken out, and one put in -/
def DelOk (cols : List Nat) (R : List Rw) : Option Rw → Prop
  | none => True
  | some r => delP cols R r < R.length ∧ Mono cols (cont R) (pickV r.vs cols)
def InsOk (cols : List Nat) (R : List Rw) : Option Rw → Prop
  | none => True
  | some r => Mono cols (cont R) (pickV r.vs cols)
/-- a row that may be in a list of these columns -/
def RowC (w : World) (cols : List Nat) : Option Rw → Prop
  | none => True
  | some r => RowG w r ∧ (∀ c ∈ cols, c < r.vs.length)

/-- what swap leaves -/
def SwR (lb lo : Nat) (Tl : TypeId) (cur : Array Value) (cv rv : Value) (cols : List Nat) (R' : List Rw) (w w' : World) : Prop := ∃ rv', LO w' lb lo Tl (cur.setIfInBounds (lo + 1) rv') cv rv' cols R' ∧ (rv'.ownBlock = rv.ownBlock ∨ ∃ g, rv'.ownBlock = some g ∧ w.heap.size ≤ g) ∧ Turn (fun i => i = lb ∨ rv.ownBlock = some i) w w'

theorem setSame {cur : Array Value} {i : Nat} {v : Value} (h : cur[i]? = some v) : cur.setIfInBounds i v = cur := by
  apply Array.ext'
  rw [Array.toList_setIfInBounds]
  obtain ⟨hi, rfl⟩ := Array.getElem?_eq_some_iff.1 h
  apply List.ext_getElem?
  intro j
  rw [List.getElem?_set]
  split
  · subst_vars; simp [hi]
  · rfl
theorem pick_ok {r : Rw} {w : World} (h : RowG w r) (cols : List Nat) (hc : ∀ c ∈ cols, c < r.vs.length) : ∀ x ∈ pickV r.vs cols, OkV x := fun x hx => by
  unfold pickV at hx
  obtain ⟨c, hcc, rfl⟩ := List.mem_map.1 hx
  have := hc c hcc
  unfold at_
  rw [List.getElem?_eq_getElem this]
  exact h.2 _ (List.getElem_mem this)

section
variable {lb lo : Nat} {Tl : TypeId} {cur : Array Value} {cv rv : Value} {cols : List Nat} {R : List Rw}

/-- where a row belongs, asked of the program -/
theorem place_of {w0 : World} (h : LO w0 lb lo Tl cur cv rv cols R) (r : Rw) (hr : RowG w0 r) (hc : ∀ c ∈ cols, c < r.vs.length) (hm : Mono cols (cont R) (pickV r.vs cols)) (hcl : cols.length ≤ 64) (w : World) (hb : Below w0.heap.size w0 w) :
    Calls Tryz.prog 46 #[.slice (some ⟨r.g, 0, none⟩) r.vs.length r.c, cv] w fun e w1 => ∃ g, e = .returned (.slice (some ⟨g, 0, none⟩) cols.length cols.length) ∧ Hid (Below w.heap.size w w1) ∧ Hid (Calls Tryz.prog 45 #[.pointer (some ⟨lb, lo, none⟩), .slice (some ⟨g, 0, none⟩) cols.length cols.length] w1 fun e w2 => e = .returned (.int .i64 ((delP cols R r : Nat) : Int)) ∧ Hid (Below w.heap.size w w2)) := by
  refine (pick_any cv r.val cols r.vs w w0 hb h.cs.1 hr.1.slice hc (by omega)).mono fun e w1 ⟨g, e1, e2, e3⟩ => ⟨g, e1, e3, ?_⟩
  have hb1 := hb.trans (e3.mono hb.size)
  exact (place_any (h.at.below hb1) e2 (by simp [pickV]) (pick_ok hr cols hc) hm w1 (Below.refl _ _)).mono fun e w2 ⟨k1, k2⟩ => ⟨k1, e3.trans (k2.mono e3.size)⟩

/-- one row is taken out -/
theorem del_of {w : World} (h : LO w lb lo Tl cur cv rv cols R) {i : Nat} (hi : i < R.length) : ∃ b c, rv = .slice (some ⟨b, 0, none⟩) R.length c ∧ ∀ u, Below w.heap.size w u → Calls Tryz.prog 47 #[.slice (some ⟨b, 0, none⟩) R.length c, .int .i64 (i : Int), .int .i64 ((i : Int) + 1)] u fun e w' => e = .returned (.slice (some ⟨b, 0, none⟩) (R.length - 1) c) ∧ Hid (SwR lb lo Tl cur cv rv cols (R.eraseIdx i) w (w'.setCell ⟨lb, lo + 1, none⟩ (.slice (some ⟨b, 0, none⟩) (R.length - 1) c))) ∧ w'.cell? ⟨lb, lo + 1, none⟩ = some rv ∧ lb < w'.heap.size ∧ (∀ j, w'.frozen? ⟨lb, j, none⟩ = false) ∧ w'.cell? ⟨lb, lo, none⟩ = some cv ∧ Hid (LO (w'.setCell ⟨lb, lo + 1, none⟩ (.slice (some ⟨b, 0, none⟩) (R.length - 1) c)) lb lo Tl (cur.setIfInBounds (lo + 1) (.slice (some ⟨b, 0, none⟩) (R.length - 1) c)) cv (.slice (some ⟨b, 0, none⟩) (R.length - 1) c) cols (R.eraseIdx i)) := by
  rcases id h.rs with ⟨e, e2⟩ | ⟨b, c, C, e, hp⟩
  · rw [e2] at hi; simp at hi
  · refine ⟨b, c, e, fun u hu => ?_⟩
    have hpu : PtrRow u b c R C := ⟨(hu.block b (lt_of hp.st)).trans hp.st, hp.size, hp.fit, hp.big, hp.at_⟩
    refine (xdelete_any hpu hi rfl).mono fun x w' ⟨k1, k2⟩ => ⟨k1, ?_⟩
    obtain ⟨⟨C', hp'⟩, t⟩ := k2.out
    have t1 : Turn (fun i => rv.ownBlock = some i) w w' := (Turn.ofBelow _ hu).trans (t.mono fun j hj => by rw [e, hj]; rfl)
    have hlen : (R.eraseIdx i).length = R.length - 1 := List.length_eraseIdx_of_lt hi
    have hst : w'.heap[lb]? = some (.cells cur Tl (0, 0)) := (t1.block lb (lt_of h.st) (fun q => h.lb_rv q rfl)).trans h.st
    have hnx := h.next t1 (rv' := .slice (some ⟨b, 0, none⟩) (R.length - 1) c) (R' := R.eraseIdx i) (Or.inr ⟨b, c, C', by rw [hlen], hp'⟩) (fun r hr => h.ro r (List.mem_of_mem_eraseIdx hr)) (by have := h.few; omega)
    refine ⟨⟨_, hnx, Or.inl (by rw [e]; rfl), ?_⟩, ?_, lt_of hst, frozen_of hst, by rw [cell_of hst]; exact h.i0, hnx⟩
    · exact (t1.mono fun j hj => Or.inr hj).trans (Turn.setCell (S := fun i => i = lb ∨ rv.ownBlock = some i) w' ⟨lb, lo + 1, none⟩ _ (Or.inl rfl))
    · rw [cell_of hst]; exact h.i1

/-- one row is put in -/
theorem ins_of {w : World} (h : LO w lb lo Tl cur cv rv cols R) (r : Rw) (hr : RowG w r) (hc : ∀ c ∈ cols, c < r.vs.length) {i : Nat} (hi : i ≤ R.length) (hf : R.length < 4200) (u : World) (hu : Below w.heap.size w u) (vb : Nat) (hvb : u.heap[vb]? = some (.cells #[r.val] 37 (0, 0))) (hvw : w.heap.size ≤ vb) :
    Calls Tryz.prog 48 #[rv, .int .i64 (i : Int), .slice (some ⟨vb, 0, none⟩) 1 1] u fun e w' => ∃ b c, e = .returned (.slice (some ⟨b, 0, none⟩) (R.length + 1) c) ∧ Hid (SwR lb lo Tl cur cv rv cols (R.insertIdx i r) w (w'.setCell ⟨lb, lo + 1, none⟩ (.slice (some ⟨b, 0, none⟩) (R.length + 1) c))) ∧ w'.cell? ⟨lb, lo + 1, none⟩ = some rv ∧ lb < w'.heap.size ∧ (∀ j, w'.frozen? ⟨lb, j, none⟩ = false) := by
  have hlen : (R.insertIdx i r).length = R.length + 1 := List.length_insertIdx_of_le_length hi r
  have hro : ∀ q ∈ R.insertIdx i r, RowG w q ∧ ∀ c ∈ cols, c < q.vs.length := fun q hq => by
    rcases (List.mem_insertIdx hi).1 hq with rfl | hq
    · exact ⟨hr, hc⟩
    · exact h.ro q hq
  have fin : ∀ (w' : World) (b c : Nat), Turn (fun i => rv.ownBlock = some i) w w' → (∃ C', PtrRow w' b c (R.insertIdx i r) C') → (rv.ownBlock = some b ∨ w.heap.size ≤ b) → Hid (SwR lb lo Tl cur cv rv cols (R.insertIdx i r) w (w'.setCell ⟨lb, lo + 1, none⟩ (.slice (some ⟨b, 0, none⟩) (R.length + 1) c))) ∧ w'.cell? ⟨lb, lo + 1, none⟩ = some rv ∧ lb < w'.heap.size ∧ (∀ j, w'.frozen? ⟨lb, j, none⟩ = false) := fun w' b c t1 ⟨C', hp'⟩ hbb => by
    have hst : w'.heap[lb]? = some (.cells cur Tl (0, 0)) := (t1.block lb (lt_of h.st) (fun q => h.lb_rv q rfl)).trans h.st
    refine ⟨⟨_, h.next t1 (rv' := .slice (some ⟨b, 0, none⟩) (R.length + 1) c) (R' := R.insertIdx i r) (Or.inr ⟨b, c, C', by rw [hlen], hp'⟩) hro (by omega), ?_, ?_⟩, by rw [cell_of hst]; exact h.i1, lt_of hst, frozen_of hst⟩
    · rcases hbb with e | e
      · exact Or.inl (by rw [e]; rfl)
      · exact Or.inr ⟨b, rfl, e⟩
    · exact (t1.mono fun j hj => Or.inr hj).trans (Turn.setCell (S := fun i => i = lb ∨ rv.ownBlock = some i) w' ⟨lb, lo + 1, none⟩ _ (Or.inl rfl))
  rcases id h.rs with ⟨e, e2⟩ | ⟨b, c, C, e, hp⟩
  · have hi0 : i = 0 := by rw [e2] at hi; simpa using hi
    have hR0 : R.length = 0 := by rw [e2]; rfl
    subst hi0
    rw [e]
    refine (tinsert_nil hvb).mono fun x w' ⟨b', c', k1, k2⟩ => ?_
    obtain ⟨⟨C', hp'⟩, hbe, hbl⟩ := k2.out
    refine ⟨b', c', by rw [k1, hR0], ?_⟩
    have := fin w' b' c' ((Turn.ofBelow _ hu).trans (Turn.ofBelow _ hbl)) ⟨C', by rw [e2]; exact hp'⟩ (Or.inr (by rw [hbe]; exact hu.size))
    rw [e] at this
    exact this
  · rw [e]
    have hpu : PtrRow u b c R C := ⟨(hu.block b (lt_of hp.st)).trans hp.st, hp.size, hp.fit, hp.big, hp.at_⟩
    refine (xinsert_any hpu (by omega) hi (by have := lt_of hp.st; omega) hvb).mono fun x w' ⟨b', c', k1, k2⟩ => ?_
    obtain ⟨hp', hbe, t⟩ := k2.out
    refine ⟨b', c', k1, ?_⟩
    have := fin w' b' c' ((Turn.ofBelow _ hu).trans (t.mono fun j hj => by rw [e, hj]; rfl)) hp' (by rcases hbe with q | q; · left; rw [e, q]; rfl
                                                                                                     · right; rw [q]; exact hu.size)
    rw [e] at this
    exact this
end

end Go.Proofs.YtfddmibaojfalaaGreat

/- The program's list.swap. -/
namespace Go.Proofs.YtfddmibaojfalaaGreat
open Go.RowKit

section
variable {lb lo : Nat} {Tl : TypeId} {cur : Array Value} {cv rv : Value} {cols : List Nat} {R : List Rw}

/-- swap's end -/
def SwE (lb lo : Nat) (Tl : TypeId) (cur : Array Value) (cv rv : Value) (cols : List Nat) (R' : List Rw) (w : World) (e : Ending) (w' : World) : Prop := e = .returned (.tuple #[]) ∧ SwR lb lo Tl cur cv rv cols R' w w'

theorem sw_stay {w u : World} (h : LO w lb lo Tl cur cv rv cols R) (hu : Below w.heap.size w u) : SwR lb lo Tl cur cv rv cols R w u :=
  ⟨rv, by rw [setSame h.i1]; exact h.below hu, Or.inl rfl, Turn.ofBelow _ hu⟩

set_option maxRecDepth 100000 in
theorem lswap_nn {w : World} (h : LO w lb lo Tl cur cv rv cols R) : Calls Tryz.prog 28 #[.pointer (some ⟨lb, lo, none⟩), nilS, nilS] w (SwE lb lo Tl cur cv rv cols R w) := by
  have HE : Hid (SwR lb lo Tl cur cv rv cols R w w) := sw_stay h (Below.refl _ _)
  have hnil := fun (u : World) (a : Option Addr) (n c : Nat) => run_neq_slice_nil (P := Tryz.prog) u 37 36 a n c Tryz.underlying37
  clear h
  go_enter Tryz.func28, Tryz.ntmps28
  go_wp2_with fail
  go_returns
  exact ⟨rfl, HE.out⟩

set_option maxRecDepth 100000 in
set_option maxHeartbeats 2000000 in
theorem lswap_del {w : World} (h : LO w lb lo Tl cur cv rv cols R) (rw : Rw) (hw : RowG w rw ∧ ∀ c ∈ cols, c < rw.vs.length) (hd : delP cols R rw < R.length ∧ Mono cols (cont R) (pickV rw.vs cols)) (hcl : cols.length ≤ 64) : Calls Tryz.prog 28 #[.pointer (some ⟨lb, lo, none⟩), rw.val, nilS] w (SwE lb lo Tl cur cv rv cols (R.eraseIdx (delP cols R rw)) w) := by
  have hnil := fun (u : World) (a : Option Addr) (n c : Nat) => run_neq_slice_nil (P := Tryz.prog) u 37 36 a n c Tryz.underlying37
  have HPk1 : Hid (Calls Tryz.prog 46 #[.slice (some ⟨rw.g, 0, none⟩) rw.vs.length rw.c, cv] w fun e w1 => ∃ g, e = .returned (.slice (some ⟨g, 0, none⟩) cols.length cols.length) ∧ Hid (Below w.heap.size w w1) ∧ Hid (Calls Tryz.prog 45 #[.pointer (some ⟨lb, lo, none⟩), .slice (some ⟨g, 0, none⟩) cols.length cols.length] w1 fun e w2 => e = .returned (.int .i64 ((delP cols R rw : Nat) : Int)) ∧ Hid (Below w.heap.size w w2))) := place_of h rw hw.1 hw.2 hd.2 hcl w (Below.refl _ _)
  obtain ⟨b, c, erv, hdel⟩ := del_of h hd.1
  have HDel : Hid (∀ u, Below w.heap.size w u → Calls Tryz.prog 47 #[.slice (some ⟨b, 0, none⟩) R.length c, .int .i64 ((delP cols R rw : Nat) : Int), .int .i64 (((delP cols R rw : Nat) : Int) + 1)] u fun e w' => e = .returned (.slice (some ⟨b, 0, none⟩) (R.length - 1) c) ∧ Hid (SwR lb lo Tl cur cv rv cols (R.eraseIdx (delP cols R rw)) w (w'.setCell ⟨lb, lo + 1, none⟩ (.slice (some ⟨b, 0, none⟩) (R.length - 1) c))) ∧ w'.cell? ⟨lb, lo + 1, none⟩ = some rv ∧ lb < w'.heap.size ∧ (∀ j, w'.frozen? ⟨lb, j, none⟩ = false) ∧ w'.cell? ⟨lb, lo, none⟩ = some cv ∧ Hid (LO (w'.setCell ⟨lb, lo + 1, none⟩ (.slice (some ⟨b, 0, none⟩) (R.length - 1) c)) lb lo Tl (cur.setIfInBounds (lo + 1) (.slice (some ⟨b, 0, none⟩) (R.length - 1) c)) cv (.slice (some ⟨b, 0, none⟩) (R.length - 1) c) cols (R.eraseIdx (delP cols R rw)))) := hdel
  obtain ⟨ca, cc, ecv⟩ : ∃ a c, cv = .slice a cols.length c := by obtain ⟨⟨a, c, e, _⟩, _⟩ := h.cs; exact ⟨a, c, e⟩
  have HC : Hid (∀ u, Below w.heap.size w u → u.cell? ⟨lb, lo, none⟩ = some (.slice ca cols.length cc) ∧ u.cell? ⟨lb, lo + 1, none⟩ = some (.slice (some ⟨b, 0, none⟩) R.length c) ∧ lb < u.heap.size) := fun u hu => by
    have q := h.at
    refine ⟨by rw [← ecv]; exact cell_below q.c0 hu, by rw [← erv]; exact cell_below q.c1 hu, Nat.lt_of_lt_of_le (lt_of h.st) hu.size⟩
  have hf := h.few
  rw [erv] at HDel
  rw [ecv] at HPk1
  obtain ⟨rg, rc, rvs⟩ := rw
  unfold Rw.val
  dsimp only at HPk1 HDel ⊢
  obtain ⟨M, hM⟩ : ∃ M, rvs.length = M := ⟨_, rfl⟩
  rw [hM] at HPk1 ⊢
  obtain ⟨CN, hCN⟩ : ∃ N, cols.length = N := ⟨_, rfl⟩
  rw [hCN] at HPk1 HC
  obtain ⟨N, hN⟩ : ∃ N, R.length = N := ⟨_, rfl⟩
  rw [hN] at HDel HC hf
  obtain ⟨D, hD⟩ : ∃ D, delP cols R ⟨rg, rc, rvs⟩ = D := ⟨_, rfl⟩
  rw [hD] at HPk1 HDel ⊢
  have hDn : D < N := by rw [← hD, ← hN]; exact hd.1
  have hwD : IntKind.i64.wrap ((D : Int) + 1) = (D : Int) + 1 := by rw [IntKind.wrap_i64]; omega
  obtain ⟨a0, a1, a2⟩ := HC.out w (Below.refl _ _)
  have HErv : Hid (rv = .slice (some ⟨b, 0, none⟩) N c ∧ cv = .slice ca CN cc) := ⟨by rw [erv, hN], by rw [ecv, hCN]⟩
  clear h hw hd hcl erv hdel ecv hM hCN hN hD
  go_enter Tryz.func28, Tryz.ntmps28
  go_wp2_with fail
  refine HPk1.out.mono ?_
  rintro e w1 ⟨g, rfl, H1, HPl⟩
  go_wp2_with fail
  refine HPl.out.mono ?_
  rintro e w2 ⟨rfl, H2⟩
  obtain ⟨b0, b1, b2⟩ := HC.out w2 H2.out
  go_wp2_with (go_at_call 47; go_must (refine (HDel.out _ H2.out).mono ?_; rintro e w3 ⟨rfl, HS3, c1, c2, c3, c0, -⟩))
  go_returns
  refine ⟨rfl, ?_⟩
  have := HS3.out
  rw [← HErv.out.1] at this
  exact this

set_option maxRecDepth 100000 in
set_option maxHeartbeats 2000000 in
theorem lswap_ins {w : World} (h : LO w lb lo Tl cur cv rv cols R) (rn : Rw) (hn : RowG w rn ∧ ∀ c ∈ cols, c < rn.vs.length) (hm : Mono cols (cont R) (pickV rn.vs cols)) (hcl : cols.length ≤ 64) (hf : R.length < 4200) : Calls Tryz.prog 28 #[.pointer (some ⟨lb, lo, none⟩), nilS, rn.val] w (SwE lb lo Tl cur cv rv cols (R.insertIdx (delP cols R rn) rn) w) := by
  have hnil := fun (u : World) (a : Option Addr) (n c : Nat) => run_neq_slice_nil (P := Tryz.prog) u 37 36 a n c Tryz.underlying37
  have HPk2 : Hid (Calls Tryz.prog 46 #[.slice (some ⟨rn.g, 0, none⟩) rn.vs.length rn.c, cv] w fun e w1 => ∃ g, e = .returned (.slice (some ⟨g, 0, none⟩) cols.length cols.length) ∧ Hid (Below w.heap.size w w1) ∧ Hid (Calls Tryz.prog 45 #[.pointer (some ⟨lb, lo, none⟩), .slice (some ⟨g, 0, none⟩) cols.length cols.length] w1 fun e w2 => e = .returned (.int .i64 ((delP cols R rn : Nat) : Int)) ∧ Hid (Below w.heap.size w w2))) := place_of h rn hn.1 hn.2 hm hcl w (Below.refl _ _)
  have hpl : delP cols R rn ≤ R.length := by unfold delP; have := plc_le cols (cont R) (pickV rn.vs cols); rw [cont_length] at this; exact this
  have HIns : Hid (∀ u, Below w.heap.size w u → Calls Tryz.prog 48 #[rv, .int .i64 ((delP cols R rn : Nat) : Int), .slice (some ⟨u.heap.size, 0, none⟩) 1 1] (u.alloc (.cells #[rn.val] 37)) fun e w' => ∃ b c, e = .returned (.slice (some ⟨b, 0, none⟩) (R.length + 1) c) ∧ Hid (SwR lb lo Tl cur cv rv cols (R.insertIdx (delP cols R rn) rn) w (w'.setCell ⟨lb, lo + 1, none⟩ (.slice (some ⟨b, 0, none⟩) (R.length + 1) c))) ∧ w'.cell? ⟨lb, lo + 1, none⟩ = some rv ∧ lb < w'.heap.size ∧ (∀ j, w'.frozen? ⟨lb, j, none⟩ = false)) := fun u hu => ins_of h rn hn.1 hn.2 hpl hf (u.alloc (.cells #[rn.val] 37)) (bl_alloc hu _) u.heap.size (heap_new u _) hu.size
  obtain ⟨ca, cc, ecv⟩ : ∃ a c, cv = .slice a cols.length c := by obtain ⟨⟨a, c, e, _⟩, _⟩ := h.cs; exact ⟨a, c, e⟩
  obtain ⟨va, vc, erv⟩ : ∃ a c, rv = .slice a R.length c := by obtain ⟨a, c, e, _⟩ := h.rs.slice; exact ⟨a, c, e⟩
  have HC : Hid (∀ u, Below w.heap.size w u → u.cell? ⟨lb, lo, none⟩ = some (.slice ca cols.length cc) ∧ u.cell? ⟨lb, lo + 1, none⟩ = some (.slice va R.length vc) ∧ lb < u.heap.size) := fun u hu => by
    have q := h.at
    refine ⟨by rw [← ecv]; exact cell_below q.c0 hu, by rw [← erv]; exact cell_below q.c1 hu, Nat.lt_of_lt_of_le (lt_of h.st) hu.size⟩
  rw [erv] at HIns
  rw [ecv] at HPk2
  obtain ⟨rg, rc, rvs⟩ := rn
  unfold Rw.val at HIns ⊢
  dsimp only at HPk2 HIns ⊢
  obtain ⟨M, hM⟩ : ∃ M, rvs.length = M := ⟨_, rfl⟩
  rw [hM] at HPk2 HIns ⊢
  obtain ⟨CN, hCN⟩ : ∃ N, cols.length = N := ⟨_, rfl⟩
  rw [hCN] at HPk2 HC
  obtain ⟨N, hN⟩ : ∃ N, R.length = N := ⟨_, rfl⟩
  rw [hN] at HIns HC hf hpl
  obtain ⟨D, hD⟩ : ∃ D, delP cols R ⟨rg, rc, rvs⟩ = D := ⟨_, rfl⟩
  rw [hD] at HPk2 HIns hpl ⊢
  obtain ⟨a0, a1, a2⟩ := HC.out w (Below.refl _ _)
  have HErv : Hid (rv = .slice va N vc) := by show _ = _; rw [erv, hN]
  clear h hn hm hcl erv ecv hM hCN hN hD
  go_enter Tryz.func28, Tryz.ntmps28
  go_wp2_with fail
  refine HPk2.out.mono ?_
  rintro e w1 ⟨g, rfl, H1, HPl⟩
  go_wp2_with fail
  refine HPl.out.mono ?_
  rintro e w2 ⟨rfl, H2⟩
  obtain ⟨b0, b1, b2⟩ := HC.out w2 H2.out
  go_wp2_with (go_at_call 48; go_must (refine (HIns.out _ H2.out).mono ?_; rintro e w3 ⟨b, c, rfl, HS3, c1, c2, c3⟩))
  go_returns
  refine ⟨rfl, ?_⟩
  have := HS3.out
  rw [← HErv.out] at this
  exact this

theorem SwR.trans {R1 R2 : List Rw} {w w4 w6 : World} (h : SwR lb lo Tl cur cv rv cols R1 w w4) (k : ∀ rv1 cur1, LO w4 lb lo Tl cur1 cv rv1 cols R1 → SwR lb lo Tl cur1 cv rv1 cols R2 w4 w6) : SwR lb lo Tl cur cv rv cols R2 w w6 := by
  obtain ⟨rv1, h1, h2, h3⟩ := h
  obtain ⟨rv2, k1, k2, k3⟩ := k rv1 _ h1
  rw [Array.setIfInBounds_setIfInBounds] at k1
  refine ⟨rv2, k1, ?_, h3.transNew k3 fun i hi => ?_⟩
  · rcases k2 with e | ⟨g, e, hg⟩
    · rw [e]; exact h2
    · exact Or.inr ⟨g, e, Nat.le_trans h3.size hg⟩
  · rcases hi with e | e
    · exact Or.inl (Or.inl e)
    · rcases h2 with q | ⟨g, q, hg⟩
      · exact Or.inl (Or.inr (by rw [← q]; exact e))
      · rw [q] at e; cases e; exact Or.inr hg

set_option maxRecDepth 100000 in
set_option maxHeartbeats 2000000 in
theorem lswap_both {w : World} (h : LO w lb lo Tl cur cv rv cols R) (rw rn : Rw) (hw : RowG w rw ∧ ∀ c ∈ cols, c < rw.vs.length) (hn : RowG w rn ∧ ∀ c ∈ cols, c < rn.vs.length) (hd : delP cols R rw < R.length ∧ Mono cols (cont R) (pickV rw.vs cols)) (hm : Mono cols (cont (R.eraseIdx (delP cols R rw))) (pickV rn.vs cols)) (hcl : cols.length ≤ 64) :
    Calls Tryz.prog 28 #[.pointer (some ⟨lb, lo, none⟩), rw.val, rn.val] w (SwE lb lo Tl cur cv rv cols ((R.eraseIdx (delP cols R rw)).insertIdx (delP cols (R.eraseIdx (delP cols R rw)) rn) rn) w) := by
  have hnil := fun (u : World) (a : Option Addr) (n c : Nat) => run_neq_slice_nil (P := Tryz.prog) u 37 36 a n c Tryz.underlying37
  have HPk1 : Hid (Calls Tryz.prog 46 #[.slice (some ⟨rw.g, 0, none⟩) rw.vs.length rw.c, cv] w fun e w1 => ∃ g, e = .returned (.slice (some ⟨g, 0, none⟩) cols.length cols.length) ∧ Hid (Below w.heap.size w w1) ∧ Hid (Calls Tryz.prog 45 #[.pointer (some ⟨lb, lo, none⟩), .slice (some ⟨g, 0, none⟩) cols.length cols.length] w1 fun e w2 => e = .returned (.int .i64 ((delP cols R rw : Nat) : Int)) ∧ Hid (Below w.heap.size w w2))) := place_of h rw hw.1 hw.2 hd.2 hcl w (Below.refl _ _)
  obtain ⟨b, c, erv, hdel⟩ := del_of h hd.1
  have HDel : Hid (∀ u, Below w.heap.size w u → Calls Tryz.prog 47 #[.slice (some ⟨b, 0, none⟩) R.length c, .int .i64 ((delP cols R rw : Nat) : Int), .int .i64 (((delP cols R rw : Nat) : Int) + 1)] u fun e w' => e = .returned (.slice (some ⟨b, 0, none⟩) (R.length - 1) c) ∧ Hid (SwR lb lo Tl cur cv rv cols (R.eraseIdx (delP cols R rw)) w (w'.setCell ⟨lb, lo + 1, none⟩ (.slice (some ⟨b, 0, none⟩) (R.length - 1) c))) ∧ w'.cell? ⟨lb, lo + 1, none⟩ = some rv ∧ lb < w'.heap.size ∧ (∀ j, w'.frozen? ⟨lb, j, none⟩ = false) ∧ w'.cell? ⟨lb, lo, none⟩ = some cv ∧ Hid (LO (w'.setCell ⟨lb, lo + 1, none⟩ (.slice (some ⟨b, 0, none⟩) (R.length - 1) c)) lb lo Tl (cur.setIfInBounds (lo + 1) (.slice (some ⟨b, 0, none⟩) (R.length - 1) c)) cv (.slice (some ⟨b, 0, none⟩) (R.length - 1) c) cols (R.eraseIdx (delP cols R rw)))) := hdel
  obtain ⟨ca, cc, ecv⟩ : ∃ a c, cv = .slice a cols.length c := by obtain ⟨⟨a, c, e, _⟩, _⟩ := h.cs; exact ⟨a, c, e⟩
  have HC : Hid (∀ u, Below w.heap.size w u → u.cell? ⟨lb, lo, none⟩ = some (.slice ca cols.length cc) ∧ u.cell? ⟨lb, lo + 1, none⟩ = some (.slice (some ⟨b, 0, none⟩) R.length c) ∧ lb < u.heap.size) := fun u hu => by
    have q := h.at
    refine ⟨by rw [← ecv]; exact cell_below q.c0 hu, by rw [← erv]; exact cell_below q.c1 hu, Nat.lt_of_lt_of_le (lt_of h.st) hu.size⟩
  have hf := h.few
  obtain ⟨D, hD⟩ : ∃ D, delP cols R rw = D := ⟨_, rfl⟩
  have hDn : D < R.length := by rw [← hD]; exact hd.1
  rw [hD] at HPk1 HDel hm ⊢
  obtain ⟨R1, hR1⟩ : ∃ R1, R.eraseIdx D = R1 := ⟨_, rfl⟩
  have hR1l : R1.length = R.length - 1 := by rw [← hR1]; exact List.length_eraseIdx_of_lt hDn
  rw [hR1] at HDel hm ⊢
  have HR1 : Hid (R1.length = R.length - 1) := hR1l
  -- what is put in then
  have HInsT : Hid (∀ (w4 : World) (cur1 : Array Value) (rv1 : Value), Turn (fun i => i = lb ∨ rv.ownBlock = some i) w w4 → LO w4 lb lo Tl cur1 cv rv1 cols R1 → (Calls Tryz.prog 46 #[.slice (some ⟨rn.g, 0, none⟩) rn.vs.length rn.c, cv] w4 fun e w1 => ∃ g, e = .returned (.slice (some ⟨g, 0, none⟩) cols.length cols.length) ∧ Hid (Below w4.heap.size w4 w1) ∧ Hid (Calls Tryz.prog 45 #[.pointer (some ⟨lb, lo, none⟩), .slice (some ⟨g, 0, none⟩) cols.length cols.length] w1 fun e w2 => e = .returned (.int .i64 ((delP cols R1 rn : Nat) : Int)) ∧ Hid (Below w4.heap.size w4 w2))) ∧ ∀ u, Below w4.heap.size w4 u → Calls Tryz.prog 48 #[rv1, .int .i64 ((delP cols R1 rn : Nat) : Int), .slice (some ⟨u.heap.size, 0, none⟩) 1 1] (u.alloc (.cells #[rn.val] 37)) fun e w' => ∃ b c, e = .returned (.slice (some ⟨b, 0, none⟩) (R1.length + 1) c) ∧ Hid (SwR lb lo Tl cur1 cv rv1 cols (R1.insertIdx (delP cols R1 rn) rn) w4 (w'.setCell ⟨lb, lo + 1, none⟩ (.slice (some ⟨b, 0, none⟩) (R1.length + 1) c))) ∧ w'.cell? ⟨lb, lo + 1, none⟩ = some rv1 ∧ lb < w'.heap.size ∧ (∀ j, w'.frozen? ⟨lb, j, none⟩ = false)) := fun w4 cur1 rv1 t h4 => by
    have hrn : RowG w4 rn := hn.1.heap (by
      obtain ⟨C, hC⟩ := hn.1.type
      exact t.block rn.g (lt_of hC) (fun q => by
        rcases q with q | q
        · exact h.row_lb hn.1 q
        · exact h.row_rv q hn.1 rfl))
    have hpl : delP cols R1 rn ≤ R1.length := by unfold delP; have := plc_le cols (cont R1) (pickV rn.vs cols); rw [cont_length] at this; exact this
    exact ⟨place_of h4 rn hrn hn.2 hm hcl w4 (Below.refl _ _), fun u hu => ins_of h4 rn hrn hn.2 hpl (by omega) (u.alloc (.cells #[rn.val] 37)) (bl_alloc hu _) u.heap.size (heap_new u _) hu.size⟩
  rw [erv] at HDel HInsT
  rw [ecv] at HPk1 HDel HInsT
  obtain ⟨rg, rc, rvs⟩ := rw
  obtain ⟨ng, nc, nvs⟩ := rn
  unfold Rw.val at HInsT ⊢
  dsimp only at HPk1 HDel HInsT ⊢
  obtain ⟨M, hM⟩ : ∃ M, rvs.length = M := ⟨_, rfl⟩
  rw [hM] at HPk1 ⊢
  obtain ⟨NM, hNM⟩ : ∃ M, nvs.length = M := ⟨_, rfl⟩
  rw [hNM] at HInsT ⊢
  obtain ⟨CN, hCN⟩ : ∃ N, cols.length = N := ⟨_, rfl⟩
  rw [hCN] at HPk1 HC HDel HInsT
  obtain ⟨N, hN⟩ : ∃ N, R.length = N := ⟨_, rfl⟩
  rw [hN] at HDel HC hf hDn HR1 HInsT
  obtain ⟨D2, hD2⟩ : ∃ D, delP cols R1 ⟨ng, nc, nvs⟩ = D := ⟨_, rfl⟩
  rw [hD2] at HInsT ⊢
  have hD2n : D2 ≤ R1.length := by rw [← hD2]; unfold delP; have := plc_le cols (cont R1) (pickV nvs cols); rw [cont_length] at this; exact this
  rw [HR1.out] at HInsT hD2n
  have hwD : IntKind.i64.wrap ((D : Int) + 1) = (D : Int) + 1 := by rw [IntKind.wrap_i64]; omega
  obtain ⟨a0, a1, a2⟩ := HC.out w (Below.refl _ _)
  have HErv : Hid (rv = .slice (some ⟨b, 0, none⟩) N c ∧ cv = .slice ca CN cc) := ⟨by rw [erv, hN], by rw [ecv, hCN]⟩
  clear h hw hn hd hm hcl erv hdel ecv hM hNM hCN hN hD hD2 hR1 hR1l
  go_enter Tryz.func28, Tryz.ntmps28
  go_wp2_with fail
  refine HPk1.out.mono ?_
  rintro e w1 ⟨g, rfl, H1, HPl⟩
  go_wp2_with fail
  refine HPl.out.mono ?_
  rintro e w2 ⟨rfl, H2⟩
  obtain ⟨b0, b1, b2⟩ := HC.out w2 H2.out
  go_wp2_with fail
  refine (HDel.out _ H2.out).mono ?_
  rintro e w3 ⟨rfl, HS3, c1, c2, c3, c0, HLO⟩
  obtain ⟨w4, hw4⟩ : ∃ w4, w3.setCell ⟨lb, lo + 1, none⟩ (.slice (some ⟨b, 0, none⟩) (N - 1) c) = w4 := ⟨_, rfl⟩
  rw [hw4] at HS3 HLO
  have HT4 : Hid (Turn (fun i => i = lb ∨ (Value.slice (some ⟨b, 0, none⟩) N c).ownBlock = some i) w w4) := by obtain ⟨_, _, _, t⟩ := HS3.out; exact t
  have HI4 := HInsT.out w4 _ _ HT4.out HLO.out
  have HPk2 : Hid (Calls Tryz.prog 46 #[.slice (some ⟨ng, 0, none⟩) NM nc, .slice ca CN cc] w4 fun e w1 => ∃ g, e = .returned (.slice (some ⟨g, 0, none⟩) CN CN) ∧ Hid (Below w4.heap.size w4 w1) ∧ Hid (Calls Tryz.prog 45 #[.pointer (some ⟨lb, lo, none⟩), .slice (some ⟨g, 0, none⟩) CN CN] w1 fun e w2 => e = .returned (.int .i64 (D2 : Int)) ∧ Hid (Below w4.heap.size w4 w2))) := HI4.1
  have HIns : Hid (∀ u, Below w4.heap.size w4 u → Calls Tryz.prog 48 #[.slice (some ⟨b, 0, none⟩) (N - 1) c, .int .i64 (D2 : Int), .slice (some ⟨u.heap.size, 0, none⟩) 1 1] (u.alloc (.cells #[.slice (some ⟨ng, 0, none⟩) NM nc] 37)) fun e w' => ∃ b' c', e = .returned (.slice (some ⟨b', 0, none⟩) (N - 1 + 1) c') ∧ Hid (SwR lb lo Tl (cur.setIfInBounds (lo + 1) (.slice (some ⟨b, 0, none⟩) (N - 1) c)) (.slice ca CN cc) (.slice (some ⟨b, 0, none⟩) (N - 1) c) cols (R1.insertIdx D2 ⟨ng, nc, nvs⟩) w4 (w'.setCell ⟨lb, lo + 1, none⟩ (.slice (some ⟨b', 0, none⟩) (N - 1 + 1) c'))) ∧ w'.cell? ⟨lb, lo + 1, none⟩ = some (.slice (some ⟨b, 0, none⟩) (N - 1) c) ∧ lb < w'.heap.size ∧ (∀ j, w'.frozen? ⟨lb, j, none⟩ = false)) := HI4.2
  have HC4 : Hid (∀ u, Below w4.heap.size w4 u → u.cell? ⟨lb, lo, none⟩ = some (.slice ca CN cc) ∧ u.cell? ⟨lb, lo + 1, none⟩ = some (.slice (some ⟨b, 0, none⟩) (N - 1) c) ∧ lb < u.heap.size) := fun u hu => by
    have q := HLO.out.at
    exact ⟨cell_below q.c0 hu, cell_below q.c1 hu, Nat.lt_of_lt_of_le (lt_of HLO.out.st) hu.size⟩
  obtain ⟨p0, p1, p2⟩ := HC4.out w4 (Below.refl _ _)
  clear HI4
  go_wp2_with fail
  refine HPk2.out.mono ?_
  rintro e w5 ⟨g', rfl, H5, HPl5⟩
  go_wp2_with fail
  refine HPl5.out.mono ?_
  rintro e w6 ⟨rfl, H6⟩
  obtain ⟨d0, d1, d2⟩ := HC4.out w6 H6.out
  go_wp2_with (go_at_call 48; go_must (refine (HIns.out _ H6.out).mono ?_; rintro e w7 ⟨b', c', rfl, HS7, f1, f2, f3⟩))
  go_returns
  refine ⟨rfl, ?_⟩
  have h1 := HS3.out
  have h2 := HS7.out
  rw [← HErv.out.1, ← HErv.out.2] at h1
  rw [← HErv.out.2] at h2
  have h3 := HLO.out
  rw [← HErv.out.2] at h3
  refine h1.trans fun rv1 cur1 k => ?_
  have e1 : rv1 = .slice (some ⟨b, 0, none⟩) (N - 1) c := by
    have q1 := k.at.c1
    have q2 := h3.at.c1
    rw [q1] at q2
    exact Option.some.inj q2
  have e2 : cur1 = cur.setIfInBounds (lo + 1) (.slice (some ⟨b, 0, none⟩) (N - 1) c) := by
    have q1 := k.st
    rw [h3.st] at q1
    cases q1
    rfl
  subst e1; subst e2
  exact h2
end

/-- any row or none is taken out, any row or none is put in -/
theorem lswap_any {lb lo : Nat} {Tl : TypeId} {cur : Array Value} {cv rv : Value} {cols : List Nat} {R : List Rw} {w : World} (h : LO w lb lo Tl cur cv rv cols R) (was now : Option Rw) (hw : RowC w cols was) (hn : RowC w cols now) (hd : DelOk cols R was) (hi : InsOk cols (delR cols R was) now) (hcl : cols.length ≤ 64) (hf : R.length < 4200) :
    Calls Tryz.prog 28 #[.pointer (some ⟨lb, lo, none⟩), optV was, optV now] w (SwE lb lo Tl cur cv rv cols (insR cols (delR cols R was) now) w) := by
  cases was with
  | none =>
    cases now with
    | none => exact lswap_nn h
    | some rn => exact lswap_ins h rn hn hi hcl hf
  | some r =>
    cases now with
    | none => exact lswap_del h r hw hd hcl
    | some rn => exact lswap_both h r rn hw hn hd hi hcl

end Go.Proofs.YtfddmibaojfalaaGreat
