/- Where a catalogue lies in memory: its struct, its map, its schemas. -/
import Derived.Test.YtfddmibaojfalaaGreatZCopyT

import Derived.Maps.OwnSet
import Derived.StringKeys
namespace Go.Proofs.YtfddmibaojfalaaGreat
open Go.RowKit Go.Maps

abbrev tabBox (nm : ByteArray) (ca : Option Addr) (cn cc : Nat) (key : Int) (ia : Option Addr) (n ic : Nat) : Obj := .cells #[.string nm, .slice ca cn cc, .int .i64 key, .slice ia n ic] 29

/-- a schema that is kept: what it is, and where it lies -/
structure Ge where
  T : Tab
  cv : Value
  iv : Value
  X : List Iv
def Ge.val (g : Ge) : Value := tabVal g.cv g.iv g.T
def tok (g : Ge) : DataW Value := .held g.val
/-- how an element of the map reads: as the value that it is -/
def heldR : Value → Option (DataW Value × List MemPlace) := fun v => some (.held v, [])

theorem keyed : Keyed Tryz.prog 9 := string_keyed Tryz.underlying9
abbrev kb (s : ByteArray) : List UInt8 := s.data.toList
theorem kb_inj {a b : ByteArray} (h : kb a = kb b) : a = b := by cases a; cases b; simpa using h

def Ge.foot (g : Ge) (i : Nat) : Prop := g.cv.ownBlock = some i ∨ g.iv.ownBlock = some i ∨ ∃ x ∈ g.X, x.v.ownBlock = some i

theorem TabO.lt {w : World} {base : Nat} {g : Ge} (h : TabO w base g.cv g.iv g.X g.T) {i : Nat} (hi : g.foot i) : base ≤ i ∧ i < w.heap.size := by
  rcases hi with hi | hi | ⟨x, hx, hi⟩
  · exact World.ownsRow.lt h.co i hi
  · exact World.ownsRow.lt h.ix i hi
  · exact World.ownsRow.lt (h.nums x hx) i hi
theorem TabO.block {w w' : World} {base : Nat} {g : Ge} (h : TabO w base g.cv g.iv g.X g.T) (e : ∀ i, g.foot i → w'.heap[i]? = w.heap[i]?) : TabO w' base g.cv g.iv g.X g.T :=
  ⟨ownsRow_block h.co fun i hi => e i (Or.inl hi), ownsRow_block h.ix fun i hi => e i (Or.inr (Or.inl hi)), h.eq, fun x hx => ownsRow_block (h.nums x hx) fun i hi => e i (Or.inr (Or.inr ⟨x, hx, hi⟩))⟩
theorem ownsRow_low {w : World} {base base' : Nat} {e : TypeId} {size : Nat} {v : Value} {n : Nat} {xs : List Value} (h : w.ownsRow base e size v n xs) (hb : base' ≤ base) : w.ownsRow base' e size v n xs := by
  obtain ⟨h1, h2⟩ := h
  refine ⟨h1, ?_⟩
  rcases h2 with h2 | ⟨g, cap, cur, rfl, hg, r⟩
  · exact Or.inl h2
  · exact Or.inr ⟨g, cap, cur, rfl, Nat.le_trans hb hg, r⟩
theorem TabO.low {w : World} {base base' : Nat} {cv iv : Value} {X : List Iv} {T : Tab} (h : TabO w base cv iv X T) (hb : base' ≤ base) : TabO w base' cv iv X T :=
  ⟨ownsRow_low h.co hb, ownsRow_low h.ix hb, h.eq, fun x hx => ownsRow_low (h.nums x hx) hb⟩
theorem TabO.tabV {w : World} {base : Nat} {cv iv : Value} {X : List Iv} {T : Tab} (h : TabO w base cv iv X T) : TabV w cv iv T :=
  ⟨own_slice (en := enC) (fun _ => rfl) h.co, X, own_slice (en := enX) (fun _ => rfl) h.ix, h.eq, fun x hx => own_slice (en := enI) (fun _ => rfl) (h.nums x hx)⟩

/-- lists of schemas by their names -/
abbrev Cat := List (List UInt8 × Tab)

structure CatG (w : World) (c m : Nat) (G : List (List UInt8 × Ge)) : Prop where
  top : w.heap[c]? = some (.cells #[.map (some m)] 84 (0, 0))
  map : w.ownsMap Tryz.prog 9 heldR m G.length (Dk.toD tok G)
  tabs : ∀ p ∈ G, TabO w 0 p.2.cv p.2.iv p.2.X p.2.T ∧ p.1 = kb p.2.T.nm ∧ MayT p.2.T
  few : G.length ≤ 4096

def catFoot (c m : Nat) (G : List (List UInt8 × Ge)) (i : Nat) : Prop := i = c ∨ i = m ∨ ∃ p ∈ G, p.2.foot i

/-- a catalogue in block c: its schemas, by their names -/
def CatI (c : Nat) (L : Cat) (w : World) (F : Nat → Prop) : Prop := ∃ m G, CatG w c m G ∧ L = Dk.mapL Ge.T G ∧ ∀ i, F i ↔ catFoot c m G i

theorem ownsMap_block {H : Type} {P : Program} {k : TypeId} {R : Value → Option (DataW H × List MemPlace)} {w w' : World} {b n : Nat} {D : DataW H} (h : w.ownsMap P k R b n D) (e : w'.heap[b]? = w.heap[b]?) : w'.ownsMap P k R b n D := by
  obtain ⟨es, clock, hb, r⟩ := h
  exact ⟨es, clock, e.trans hb, r⟩
theorem ownsMap_exact {H : Type} {P : Program} {k : TypeId} {R : Value → Option (DataW H × List MemPlace)} {w : World} {b n : Nat} {D : DataW H} (h : w.ownsMap P k R b n D) : w.ownsMap P k R b (Maps.size D) D := by
  obtain ⟨es, clock, hb, F, _, rfl⟩ := h
  exact ⟨es, clock, hb, F, by simp [Maps.size, length_sorted], rfl⟩

theorem CatG.lt {w : World} {c m : Nat} {G : List (List UInt8 × Ge)} (h : CatG w c m G) {i : Nat} (hi : catFoot c m G i) : i < w.heap.size := by
  rcases hi with rfl | rfl | ⟨p, hp, hi⟩
  · exact lt_of h.top
  · exact h.map.lt
  · exact ((h.tabs p hp).1.lt hi).2
theorem CatG.kept {w w' : World} {c m : Nat} {G : List (List UInt8 × Ge)} (h : CatG w c m G) (e : ∀ i, catFoot c m G i → w'.heap[i]? = w.heap[i]?) : CatG w' c m G :=
  ⟨(e c (Or.inl rfl)).trans h.top, ownsMap_block h.map (e m (Or.inr (Or.inl rfl))), fun p hp => ⟨(h.tabs p hp).1.block fun i hi => e i (Or.inr (Or.inr ⟨p, hp, hi⟩)), (h.tabs p hp).2⟩, h.few⟩
theorem catI_res (c : Nat) (L : Cat) : Res (CatI c L) := by
  refine ⟨fun {w F} h i hi => ?_, fun {w w' F S} h ht hS => ?_⟩
  · obtain ⟨m, G, h1, _, h3⟩ := h
    exact h1.lt ((h3 i).1 hi)
  · obtain ⟨m, G, h1, h2, h3⟩ := h
    exact ⟨m, G, h1.kept fun i hi => ht.block i (h1.lt hi) (hS i ((h3 i).2 hi)), h2, h3⟩

section
variable {w w' : World} {c m : Nat} {G : List (List UInt8 × Ge)}
theorem CatG.rise (h : CatG w c m G) : Dk.Rise G := Dk.rise_of_canon tok (h.map.canon keyed)
theorem CatG.ne (h : CatG w c m G) : m ≠ c := fun e => by
  obtain ⟨es, clock, hb, _⟩ := h.map
  rw [e, h.top] at hb
  simp at hb
theorem CatG.tab_ne (h : CatG w c m G) {p : List UInt8 × Ge} (hp : p ∈ G) {i : Nat} (hi : p.2.foot i) : i ≠ m := fun e => by
  obtain ⟨es, clock, hb, _⟩ := h.map
  have ht := (h.tabs p hp).1
  have key : ∀ {t : TypeId} {size n : Nat} {v : Value} {xs : List Value}, w.ownsRow 0 t size v n xs → v.ownBlock = some i → False := fun hr hv => by
    obtain ⟨cur, hc, _⟩ := ownsRow_own hr hv
    rw [e, hb] at hc
    simp at hc
  rcases hi with hi | hi | ⟨x, hx, hi⟩
  · exact key ht.co hi
  · exact key ht.ix hi
  · exact key (ht.nums x hx) hi
theorem turn_of_map (h : w.mapTurned w' m) : Turn (fun i => i = m) w w' := Turn.ofGrown h.grown (fun k hk => by cases hk; rfl)
end

end Go.Proofs.YtfddmibaojfalaaGreat
