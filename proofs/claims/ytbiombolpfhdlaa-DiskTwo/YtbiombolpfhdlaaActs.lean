/- Arguments that came in: a slice of calls. -/
import Derived.Test.YtbiombolpfhdlaaArgs
import Derived.Deep.Slices
namespace Go.Proofs.Ytbiombolpfhdlaa
open Go.ChangeShapes Go.WideShapes Go.ChangeAt Go.RowKit Go.Joins

structure ActV where
  kind : Int
  name : ByteArray
  data : ByteArray
  num : Int
  dv : Value
  ds : List Int

structure ActOk (w : World) (x : ActV) : Prop where
  name : x.name.size ≤ maxLen
  data : x.data.size ≤ maxLen
  num : x.num ≤ 9223372036854775807
  draws : DrawsAt w (fun i => w.heap.size ≤ i) x.dv x.ds

structure ActCells (w : World) (b o : Nat) (x : ActV) : Prop where
  c0 : w.cell? ⟨b, o, none⟩ = some (.int .i64 x.kind)
  c1 : w.cell? ⟨b, o + 1, none⟩ = some (.string x.name)
  c2 : w.cell? ⟨b, o + 2, none⟩ = some (.string x.data)
  c3 : w.cell? ⟨b, o + 3, none⟩ = some (.int .i64 x.num)
  c4 : w.cell? ⟨b, o + 4, none⟩ = some x.dv

def ActsAt (w : World) (v : Value) (L : List ActV) : Prop :=
  ∃ a c, v = .slice a L.length c ∧ L.length ≤ c ∧ c ≤ maxLen ∧ (L ≠ [] → ∃ b off, a = some ⟨b, off, none⟩ ∧ b < w.heap.size ∧ ∀ i, (h : i < L.length) → ActCells w b (off + i * 5) L[i]) ∧ ∀ x ∈ L, ActOk w x

theorem list_choose {α : Type} {p : Nat → α → Prop} : ∀ (n : Nat), (∀ i, i < n → ∃ x, p i x) → ∃ L : List α, L.length = n ∧ ∀ i, (h : i < L.length) → p i L[i]
  | 0, _ => ⟨[], rfl, fun i h => by simp at h⟩
  | n + 1, h => by
    obtain ⟨L, hl, hL⟩ := list_choose n (fun i hi => h i (by omega))
    obtain ⟨x, hx⟩ := h n (by omega)
    refine ⟨L ++ [x], by simp [hl], fun i hi => ?_⟩
    by_cases e : i < L.length
    · rw [List.getElem_append_left e]; exact hL i e
    · have ei : i = L.length := by simp at hi; omega
      subst ei
      rw [List.getElem_append_right (Nat.le_refl _)]
      simp only [Nat.sub_self, List.getElem_cons_zero]
      rw [hl]
      exact hx

theorem cellsAct : Try.prog.cellsOf 31 = 5 := by kernel_rfl
theorem cellsInt : Try.prog.cellsOf 3 = 1 := by kernel_rfl
theorem cellsStr : Try.prog.cellsOf 9 = 1 := by kernel_rfl
theorem cellsInts : Try.prog.cellsOf 29 = 1 := by kernel_rfl

theorem trod_struct5 {H : Type} {enc : TypeId × Value → H} {P : Program} {w : World} {base : Nat} {spare : Nat → Bool} {held : Bool} {t : TypeId} {f0 f1 f2 f3 f4 : Field} {fuel : Nat} {cs : List Value} {x : DataW H × List MemPlace} (ht : P.underlying t = some (.struct #[f0, f1, f2, f3, f4])) (h : DataW.trod enc P w base spare held fuel t cs = some x) :
    ∃ y0 y1 y2 y3 y4 n, DataW.trod enc P w base spare held n f0.type ((cs.drop f0.offset).take (P.cellsOf f0.type)) = some y0 ∧ DataW.trod enc P w base spare held n f1.type ((cs.drop f1.offset).take (P.cellsOf f1.type)) = some y1 ∧
      DataW.trod enc P w base spare held n f2.type ((cs.drop f2.offset).take (P.cellsOf f2.type)) = some y2 ∧ DataW.trod enc P w base spare held n f3.type ((cs.drop f3.offset).take (P.cellsOf f3.type)) = some y3 ∧ DataW.trod enc P w base spare held n f4.type ((cs.drop f4.offset).take (P.cellsOf f4.type)) = some y4 := by
  obtain ⟨xs, n, _, rfl, hl, hlen, hf⟩ := DataW.trod_struct ht h
  match xs, hlen with
  | [y0, y1, y2, y3, y4], _ => exact ⟨y0, y1, y2, y3, y4, n, by simpa using hf 0 f0 rfl, by simpa using hf 1 f1 rfl, by simpa using hf 2 f2 rfl, by simpa using hf 3 f3 rfl, by simpa using hf 4 f4 rfl⟩

set_option maxRecDepth 100000 in
theorem act_of {H : Type} {enc : TypeId × Value → H} {W : World} {n : Nat} {A : Addr} {cs : List Value} {y : DataW H × List MemPlace} (hc : W.cells? 0 A 5 = some cs) (ht : DataW.trod enc Try.prog W 0 (fun _ => true) true n 31 cs = some y) :
    ∃ x : ActV, ActOk W x ∧ W.cell? (A.add 0) = some (.int .i64 x.kind) ∧ W.cell? (A.add 1) = some (.string x.name) ∧ W.cell? (A.add 2) = some (.string x.data) ∧ W.cell? (A.add 3) = some (.int .i64 x.num) ∧ W.cell? (A.add 4) = some x.dv := by
  obtain ⟨_, hlen, hcell⟩ := World.cells?_some hc
  obtain ⟨y0, y1, y2, y3, y4, m, h0, h1, h2, h3, h4⟩ := trod_struct5 Try.underlying31 ht
  match cs, hlen with
  | [v0, v1, v2, v3, v4], _ =>
    simp only [cellsInt, cellsStr, cellsInts, List.drop_zero, List.drop_succ_cons, List.take_succ_cons, List.take_zero] at h0 h1 h2 h3 h4
    obtain ⟨k, e0, _, _⟩ := DataW.trod_int Try.underlying3 h0
    obtain ⟨nm, e1, _, wn⟩ := DataW.trod_string Try.underlying9 h1
    obtain ⟨dt, e2, _, wd⟩ := DataW.trod_string Try.underlying9 h2
    obtain ⟨nu, e3, _, wu⟩ := DataW.trod_int Try.underlying3 h3
    obtain ⟨a, dl, c, e4, hd⟩ := draws_of h4
    simp only [List.cons.injEq, and_true] at e0 e1 e2 e3
    refine ⟨⟨k, nm, dt, nu, v4, dl⟩, ⟨wn, wd, (bounds_i64 wu).2, e4 ▸ hd⟩, ?_, ?_, ?_, ?_, ?_⟩
    · rw [hcell 0 (by omega), ← e0]; rfl
    · rw [hcell 1 (by omega), ← e1]; rfl
    · rw [hcell 2 (by omega), ← e2]; rfl
    · rw [hcell 3 (by omega), ← e3]; rfl
    · rw [hcell 4 (by omega)]; rfl

theorem acts_of {H : Type} {enc : TypeId × Value → H} {W : World} {fuel : Nat} {v : Value} {x : DataW H × List MemPlace} (hf : DataW.trod enc Try.prog W 0 (fun _ => true) true fuel 22 [v] = some x) : ∃ L, ActsAt W v L := by
  rcases Go.Deep.open_slice Try.underlying22 hf with ⟨hcs, _⟩ | ⟨a, len, cap, m, n, D, Pl, hcs, _, hl, hm, hmm, _, hx⟩
  · obtain rfl : v = .slice none 0 0 := by simpa using hcs
    exact ⟨[], none, 0, rfl, Nat.le_refl _, Nat.zero_le _, fun h => absurd rfl h, by simp⟩
  · have hmm : m = cap := by simpa using hmm
    obtain rfl : v = .slice (some a) len cap := by simpa using hcs
    rw [cellsAct] at hx
    obtain ⟨L, hL, hp⟩ := list_choose (p := fun i (x : ActV) => ActOk W x ∧ W.cell? ((a.add (i * 5)).add 0) = some (.int .i64 x.kind) ∧ W.cell? ((a.add (i * 5)).add 1) = some (.string x.name) ∧ W.cell? ((a.add (i * 5)).add 2) = some (.string x.data) ∧ W.cell? ((a.add (i * 5)).add 3) = some (.int .i64 x.num) ∧ W.cell? ((a.add (i * 5)).add 4) = some x.dv) len (fun i hi => by
      obtain ⟨cs', h1, h2⟩ := hx i (by omega)
      exact act_of h1 h2)
    subst hL
    refine ⟨L, some a, cap, rfl, hl, hm, fun hne => ?_, fun x hx' => ?_⟩
    · have hpos : 0 < L.length := List.length_pos_iff.2 hne
      obtain ⟨b, off, spot⟩ := a
      have hspot : spot = none := by
        have h0 := (hp 0 hpos).2.1
        simpa [Addr.add] using World.cell?_spot h0
      subst hspot
      have hb : b < W.heap.size := by
        have h0 := (hp 0 hpos).2.1
        simp only [Addr.add_lit] at h0
        unfold World.cell? at h0
        cases hh : W.heap[b]? with
        | none => simp [hh] at h0
        | some o => exact lt_of hh
      refine ⟨b, off, rfl, hb, fun i hi => ?_⟩
      obtain ⟨_, g0, g1, g2, g3, g4⟩ := hp i hi
      simp only [Addr.add_lit, Nat.add_zero] at g0 g1 g2 g3 g4
      exact ⟨g0, g1, g2, g3, g4⟩
    · obtain ⟨i, hi, rfl⟩ := List.getElem_of_mem hx'
      exact (hp i hi).1

/-- below the heap as it was nothing has turned -/
theorem ActCells.below {w w' : World} {b o : Nat} {x : ActV} (h : ActCells w b o x) (hb : Below w.heap.size w w') (hlt : b < w.heap.size) : ActCells w' b o x :=
  ⟨(hb.cell (p := ⟨b, o, none⟩) hlt).trans h.c0, (hb.cell (p := ⟨b, o + 1, none⟩) hlt).trans h.c1, (hb.cell (p := ⟨b, o + 2, none⟩) hlt).trans h.c2, (hb.cell (p := ⟨b, o + 3, none⟩) hlt).trans h.c3, (hb.cell (p := ⟨b, o + 4, none⟩) hlt).trans h.c4⟩

end Go.Proofs.Ytbiombolpfhdlaa
