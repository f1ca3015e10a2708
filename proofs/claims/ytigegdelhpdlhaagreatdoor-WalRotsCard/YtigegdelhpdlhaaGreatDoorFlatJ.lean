import Derived.Test.YtigegdelhpdlhaaGreatDoorBase
import Derived.Test.YtigegdelhpdlhaaGreatDoorProg
import Derived.Test.YtigegdelhpdlhaaGreatDoorKValJ
import Derived.OwnWalk
import Derived.Laws.AppendOwnNone
import Derived.Deep.DeepMust
/- A row of things, each of m cells, as a flat list of cells. Nothing here speaks of a program. -/
namespace Go.Proofs.YtigegdelhpdlhaaGreatDoor
open Go.RowKit

def flat {α : Type} (en : α → List Value) (G : List α) : List Value := G.flatMap en

section
variable {α : Type} {en : α → List Value} {m : Nat}

theorem flat_cons (g : α) (G : List α) : flat en (g :: G) = en g ++ flat en G := by simp [flat]
theorem flat_append (A B : List α) : flat en (A ++ B) = flat en A ++ flat en B := by simp [flat]
theorem flat_length (hm : ∀ g, (en g).length = m) : ∀ G : List α, (flat en G).length = m * G.length
  | [] => by simp [flat]
  | g :: G => by rw [flat_cons, List.length_append, flat_length hm G, List.length_cons, hm, Nat.mul_add, Nat.mul_one, Nat.add_comm]

theorem flat_get (hm : ∀ g, (en g).length = m) : ∀ (G : List α) (i : Nat) (h : i < G.length) (f : Nat), f < m → (flat en G)[m * i + f]? = (en G[i])[f]?
  | g :: G, 0, _, f, hf => by
    rw [flat_cons, List.getElem?_append_left (by rw [hm]; omega)]
    simp
  | g :: G, i + 1, h, f, hf => by
    rw [flat_cons, List.getElem?_append_right (by rw [hm, Nat.mul_add]; omega)]
    rw [show m * (i + 1) + f - (en g).length = m * i + f from by rw [hm, Nat.mul_add]; omega]
    rw [flat_get hm G i (by simpa using h) f hf]
    simp

theorem flat_set (hm : ∀ g, (en g).length = m) : ∀ (G : List α) (i : Nat) (h : i < G.length) (f : Nat) (u : Value) (d : α), f < m → (en G[i]).set f u = en d → (flat en G).set (m * i + f) u = flat en (G.set i d)
  | g :: G, 0, _, f, u, d, hf, e => by
    rw [flat_cons, List.set_append_left _ _ (by rw [hm]; omega)]
    rw [List.set_cons_zero, flat_cons, ← e]
    simp
  | g :: G, i + 1, h, f, u, d, hf, e => by
    rw [flat_cons, List.set_append_right _ _ (by rw [hm, Nat.mul_add]; omega)]
    rw [show m * (i + 1) + f - (en g).length = m * i + f from by rw [hm, Nat.mul_add]; omega]
    rw [flat_set hm G i (by simpa using h) f u d hf (by simpa using e), List.set_cons_succ, flat_cons]

/-- one cell of a row's element is written: how the row reads behind it -/
theorem flat_row_set (hm : ∀ g, (en g).length = m) {w1 : World} {T : TypeId} {g N k o f i : Nat} {G : List α} {cur : Array Value} {d : α} {u : Value} (hg : w1.heap[g]? = some (.cells cur T (0, 0))) (hs : cur.size = N) (hl : cur.toList.take k = flat en G) (hi : i < G.length) (ho : o = m * i + f) (hf : f < m) (hd : (en G[i]).set f u = en d) :
    ∃ cur', (w1.setCell ⟨g, o, none⟩ u).heap[g]? = some (.cells cur' T (0, 0)) ∧ cur'.size = N ∧ cur'.toList.take k = flat en (G.set i d) := by
  refine ⟨_, heap_setCell_same hg o u, by simpa using hs, ?_⟩
  rw [Array.toList_setIfInBounds, List.take_set, hl, ho]
  exact flat_set hm G i hi f u d hf hd

end
end Go.Proofs.YtigegdelhpdlhaaGreatDoor

/- Slices that came in, copied by append onto an empty one; their sizes. -/
namespace Go.Proofs.YtigegdelhpdlhaaGreatDoor
open Go.RowKit

theorem SliceAt.below {α : Type} {w w' : World} {v : Value} {n : Nat} {en : α → List Value} {L : List α} (h : SliceAt w v n en L) (hb : Below w.heap.size w w') : SliceAt w' v n en L := by
  obtain ⟨a, c, h1, h2, h3, h4⟩ := h
  refine ⟨a, c, h1, h2, h3, fun hne => ?_⟩
  obtain ⟨b, off, e, hlt, hc⟩ := h4 hne
  exact ⟨b, off, e, Nat.lt_of_lt_of_le hlt hb.size, fun i hi j u hu => (hb.cell (p := ⟨b, off + i * n + j, none⟩) hlt).trans (hc i hi j u hu)⟩

/-- a block's beginning read as a slice -/
theorem sliceAt_flat {α : Type} {en : α → List Value} {n : Nat} (hm : ∀ g, (en g).length = n) {W : World} {b : Nat} {cur : Array Value} {t : TypeId} {fz : Nat × Nat} {L : List α} {cap : Nat} (hb : W.heap[b]? = some (.cells cur t fz)) (hc : cur.toList.take (L.length * n) = flat en L) (h1 : L.length ≤ cap) (h2 : cap ≤ maxLen) :
    SliceAt W (.slice (some ⟨b, 0, none⟩) L.length cap) n en L := by
  refine ⟨_, cap, rfl, h1, h2, fun _ => ⟨b, 0, rfl, lt_of hb, fun i hi j u hu => ?_⟩⟩
  have hj : j < n := by rw [← hm L[i]]; exact (List.getElem?_eq_some_iff.1 hu).1
  have h3 := flat_get hm L i hi j hj
  rw [← hc, hu] at h3
  have hlt : n * i + j < L.length * n := by
    have h4 : n * (i + 1) ≤ n * L.length := Nat.mul_le_mul_left _ hi
    rw [Nat.mul_add] at h4
    rw [Nat.mul_comm L.length n]
    omega
  rw [List.getElem?_take_of_lt hlt] at h3
  rw [cell_of hb, ← Array.getElem?_toList, Nat.zero_add, Nat.mul_comm i n]
  exact h3

/-- a nil slice has no room -/
def NilOk (v : Value) : Prop := ∀ k c, v = .slice none k c → c = 0

theorem nil_of {P : Program} {H : Type} {ec : TypeId × Value → H} {W : World} {fuel : Nat} {T E : TypeId} {v : Value} {x : DataW H × List MemPlace} (hT : P.underlying T = some (.slice E)) (hf : DataW.trod ec P W 0 (fun _ => true) true fuel T [v] = some x) : NilOk v := by
  intro k c e
  rcases Go.Deep.open_slice hT hf with ⟨hcs, _⟩ | ⟨a, len, cap, m, n, D, Pl, hcs, _⟩
  · obtain rfl : v = .slice none 0 0 := by simpa using hcs
    cases e; rfl
  · obtain rfl : v = .slice (some a) len cap := by simpa using hcs
    cases e

theorem info_parts {e : TypeId} {z : Value} {size bytes : Nat} (h : (Tryz.prog.info? e).map (fun i => (i.zero, i.size, i.bytes)) = some (some z, size, bytes)) : ∃ i, Tryz.prog.info? e = some i ∧ i.zero = some z ∧ i.size = size ∧ i.bytes = bytes := by
  cases hq : Tryz.prog.info? e with
  | none => rw [hq] at h; cases h
  | some i =>
    rw [hq] at h
    simp only [Option.map_some, Option.some.injEq, Prod.mk.injEq] at h
    exact ⟨i, rfl, h.1, h.2.1, h.2.2⟩

/-- append([]E{}, l...) -/
theorem append_copy {w : World} {ops : Array Oper} {rest : List Oper} {o : Oper} {a : Act} {Q : Exit → Act → World → Prop} (hgd : o.guard = none) (s x : Operand) (t : TypeId)
    (ho : o.op = .call { callee := .builtin .append, args := #[s, x], argTypes := #[t, t] })
    (base : Nat) (e : TypeId) (i : TypeInfo) (z : Value) (size bytes : Nat) (ht : Tryz.prog.underlying t = some (.slice e)) (hi : Tryz.prog.info? e = some i) (hz : i.zero = some z)
    (hsize : i.size = size) (hby : i.bytes = bytes) (hzs : z.cells.size = size) (hsz : 0 < size)
    (g : Nat) (hs : a.eval s = .slice (some ⟨g, 0, none⟩) 0 0) (hown : w.ownsRow base e size (.slice (some ⟨g, 0, none⟩) 0 0) 0 [])
    {α : Type} (en : α → List Value) (hm : ∀ y, (en y).length = size) (hone : ∀ y, ∀ u ∈ en y, u.oneCell' = true) (vx : Value) (L : List α) (hx : a.eval x = vx) (hsl : SliceAt w vx size en L) (hnil : NilOk vx)
    (h63 : L.length * bytes ≤ 140737488355328) (hbase : base ≤ w.heap.size)
    (h : ∀ v' w', w'.ownsRow base e size v' L.length (flat en L) → w.grownBy w' (some g) → wpList Tryz.prog ops Q rest (a.put o.dst v') w') : wpList Tryz.prog ops Q (o :: rest) a w := by
  obtain ⟨ax, cx, rfl, hl, hc, hxx⟩ := hsl
  cases ax with
  | none =>
    have hc0 := hnil _ _ rfl
    subst hc0
    have hL : L = [] := List.length_eq_zero_iff.1 (by omega)
    subst hL
    exact wpList_append_own_none hgd s x t ho base e i size ht hi _ 0 [] hs hown hx (h _ _ hown ⟨rfl, rfl, rfl, Nat.le_refl _, fun _ _ _ => rfl⟩)
  | some ad =>
    refine wpList_append_own _ hgd s x t ho base e i z size bytes ht hi hz hsize hby hzs hsz _ 0 [] hs hown ad L.length cx (flat en L) hx (by rw [flat_length hm, Nat.mul_comm]) (fun j u hu => ?_) (fun u hu => ?_) (by omega) (by rw [Nat.zero_add]; exact h63) hbase (fun v' w' h1 h2 _ => h v' w' (by simpa using h1) h2)
    · have hj : j < size * L.length := by rw [← flat_length hm L]; exact (List.getElem?_eq_some_iff.1 hu).1
      have hne : L ≠ [] := by intro e; subst e; simp at hj
      obtain ⟨b, off, e, _, hcs⟩ := hxx hne
      cases e
      have hq : j / size < L.length := by rw [Nat.div_lt_iff_lt_mul hsz, Nat.mul_comm]; exact hj
      have hr : j % size < size := Nat.mod_lt _ hsz
      have ej : size * (j / size) + j % size = j := Nat.div_add_mod j size
      have h1 := flat_get hm L (j / size) hq (j % size) hr
      rw [ej, hu] at h1
      have h2 := hcs (j / size) hq (j % size) u h1.symm
      rw [Addr.add_lit]
      rw [Nat.add_assoc, Nat.mul_comm (j / size) size, ej] at h2
      exact h2
    · obtain ⟨y, _, hy⟩ := List.mem_flatMap.1 hu
      exact hone y u hy

theorem own_slice {α : Type} {en : α → List Value} {n : Nat} (hm : ∀ g, (en g).length = n) {w : World} {base : Nat} {e : TypeId} {v : Value} {L : List α} (h : w.ownsRow base e n v L.length (flat en L)) : SliceAt w v n en L := by
  obtain ⟨h1, h2⟩ := h
  rcases h2 with ⟨rfl, h0⟩ | ⟨g, cap, cur, rfl, _, hg, hc, hm2, _, hx⟩
  · have : L = [] := List.length_eq_zero_iff.1 h0
    subst this
    exact ⟨none, 0, rfl, Nat.le_refl _, Nat.zero_le _, fun h => absurd rfl h⟩
  · exact sliceAt_flat hm hg hx hc hm2

theorem row_empty (w : World) (e : TypeId) (size : Nat) : (w.alloc (.cells #[] e (0, 0))).ownsRow w.heap.size e size (.slice (some ⟨w.heap.size, 0, none⟩) 0 0) 0 [] :=
  ⟨by simp, Or.inr ⟨w.heap.size, 0, #[], rfl, Nat.le_refl _, heap_new w _, Nat.le_refl _, Nat.zero_le _, by simp, by simp⟩⟩

theorem sized_of {P : Program} {H : Type} {ec : TypeId × Value → H} {W : World} {fuel : Nat} {T E : TypeId} {v : Value} {x : DataW H × List MemPlace} (hT : P.underlying T = some (.slice E)) (hf : DataW.trod ec P W 0 (fun _ => true) true fuel T [v] = some x) (hw : ∀ k ∈ x.1.weights P T, k ≤ reachBytes) {bytes : Nat} (hb : P.bytesOf E = bytes) {a : Option Addr} {l c : Nat} (hv : v = .slice a l c) : l * bytes ≤ reachBytes := by
  rcases Go.Deep.open_slice hT hf with ⟨hcs, _⟩ | ⟨a', len, cap, m, n, D, Pl, hcs, _, hl, hm, hmm, hxe, _⟩
  · obtain rfl : v = .slice none 0 0 := by simpa using hcs
    cases hv
    rw [Nat.zero_mul]
    exact Nat.zero_le _
  · obtain rfl : v = .slice (some a') len cap := by simpa using hcs
    cases hv
    have h1 := hw ((((List.range l).map D).length + ((List.range (m - l)).map fun j => D (l + j)).length) * bytes) (by
      rw [hxe]
      simp only [DataW.weights, hT, hb]
      exact List.mem_cons_self ..)
    refine Nat.le_trans (Nat.mul_le_mul_right _ ?_) h1
    simp

end Go.Proofs.YtigegdelhpdlhaaGreatDoor
