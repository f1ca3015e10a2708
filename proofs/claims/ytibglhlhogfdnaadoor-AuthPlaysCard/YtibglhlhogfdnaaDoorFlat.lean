/- A row of things, each of m cells, as a flat list of cells. Nothing here speaks of a program. -/
import Derived.Test.YtibglhlhogfdnaaDoorBase
namespace Go.Proofs.YtibglhlhogfdnaaDoor
open Go.RowKit

def flat {α : Type} (en : α → List Value) (G : List α) : List Value := G.flatMap en

section
variable {α : Type} {en : α → List Value} {m : Nat}

theorem flat_cons (g : α) (G : List α) : flat en (g :: G) = en g ++ flat en G := by simp [flat]
theorem flat_append (A B : List α) : flat en (A ++ B) = flat en A ++ flat en B := by simp [flat]
theorem flat_length (hm : ∀ g, (en g).length = m) : ∀ G : List α, (flat en G).length = m * G.length
  | [] => by simp [flat]
  | g :: G => by rw [flat_cons, List.length_append, flat_length hm G, List.length_cons, hm, Nat.mul_add, Nat.mul_one, Nat.add_comm]

theorem flat_get (hm : ∀ g, (en g).length = m) : ∀ (G : List α) (i : Nat) (h : i < G.length) (f : Nat), f < m → (flat en G)[m * i + f]? = (en G[i])[f]?
  | g :: G, 0, _, f, hf => by
    rw [flat_cons, List.getElem?_append_left (by rw [hm]; omega)]
    simp
  | g :: G, i + 1, h, f, hf => by
    rw [flat_cons, List.getElem?_append_right (by rw [hm, Nat.mul_add]; omega)]
    rw [show m * (i + 1) + f - (en g).length = m * i + f from by rw [hm, Nat.mul_add]; omega]
    rw [flat_get hm G i (by simpa using h) f hf]
    simp

theorem flat_set (hm : ∀ g, (en g).length = m) : ∀ (G : List α) (i : Nat) (h : i < G.length) (f : Nat) (u : Value) (d : α), f < m → (en G[i]).set f u = en d → (flat en G).set (m * i + f) u = flat en (G.set i d)
  | g :: G, 0, _, f, u, d, hf, e => by
    rw [flat_cons, List.set_append_left _ _ (by rw [hm]; omega)]
    rw [List.set_cons_zero, flat_cons, ← e]
    simp
  | g :: G, i + 1, h, f, u, d, hf, e => by
    rw [flat_cons, List.set_append_right _ _ (by rw [hm, Nat.mul_add]; omega)]
    rw [show m * (i + 1) + f - (en g).length = m * i + f from by rw [hm, Nat.mul_add]; omega]
    rw [flat_set hm G i (by simpa using h) f u d hf (by simpa using e), List.set_cons_succ, flat_cons]

/-- one cell of a row's element is written: how the row reads behind it -/
theorem flat_row_set (hm : ∀ g, (en g).length = m) {w1 : World} {T : TypeId} {g N k o f i : Nat} {G : List α} {cur : Array Value} {d : α} {u : Value} (hg : w1.heap[g]? = some (.cells cur T (0, 0))) (hs : cur.size = N) (hl : cur.toList.take k = flat en G) (hi : i < G.length) (ho : o = m * i + f) (hf : f < m) (hd : (en G[i]).set f u = en d) :
    ∃ cur', (w1.setCell ⟨g, o, none⟩ u).heap[g]? = some (.cells cur' T (0, 0)) ∧ cur'.size = N ∧ cur'.toList.take k = flat en (G.set i d) := by
  refine ⟨_, heap_setCell_same hg o u, by simpa using hs, ?_⟩
  rw [Array.toList_setIfInBounds, List.take_set, hl, ho]
  exact flat_set hm G i hi f u d hf hd

end
end Go.Proofs.YtibglhlhogfdnaaDoor
