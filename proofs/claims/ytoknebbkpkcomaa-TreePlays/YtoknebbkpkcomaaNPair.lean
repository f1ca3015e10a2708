/- Two nodes side by side, and what a split makes of one, plainly. -/
import Derived.Test.YtoknebbkpkcomaaNKeys
namespace Go.Proofs.Ytoknebbkpkcomaa
open Go.RowKit

/-- from w to wr: the node at g became n, and there is a node r at q -/
def Pair (g : Nat) (n : Nd) (q : Nat) (r : Nd) (w wr : World) (F : Nat → Prop) : Prop := Goes (Sep (NodeI g n) (NodeI q r)) w wr F

section
variable {g q : Nat} {n n' r r' : Nd} {w wr w' : World} {F : Nat → Prop}

theorem pair_res (g : Nat) (n : Nd) (q : Nat) (r : Nd) : Res (Sep (NodeI g n) (NodeI q r)) := Sep.res (nodeI_res g n) (nodeI_res q r)
theorem Pair.stay (h : Pair g n q r w wr F) (hb : Below wr.heap.size wr w') : Pair g n q r w w' F := Goes.thenStay (pair_res g n q r) h hb
theorem Pair.leftCall (h : Pair g n q r w wr F) : ∃ A, NodeI g n wr A ∧ ∀ w' n', Goes (NodeI g n') wr w' A → Pair g n' q r w w' F := by
  obtain ⟨F', h1, h2, h3⟩ := h
  obtain ⟨A, B, k1, k2, k3, k4, k5, k6⟩ := id h1
  refine ⟨A, k1, fun w' n' hg => ?_⟩
  have hs : Goes (Sep (NodeI g n') (NodeI q r)) wr w' F' := by
    obtain ⟨A', g1, g2, g3⟩ := hg
    have hJ := nodeI_res q r
    refine ⟨fun i => A' i ∨ B i, ⟨A', B, g1, hJ.kept k2 g2 (fun i hi hA => k3 i hA hi), fun i hi hB => ?_, fun _ hi => Or.inl hi, fun _ hi => Or.inr hi, fun _ hi => hi⟩, g2.mono k4, fun i hi => ?_⟩
    · rcases g3 i hi with h | h
      · exact k3 i h hB
      · have := hJ.lt k2 i hB; omega
    · rcases hi with hi | hi
      · rcases g3 i hi with h | h
        · exact Or.inl (k4 i h)
        · exact Or.inr h
      · exact Or.inl (k5 i hi)
  obtain ⟨F'', k1', k2', k3'⟩ := hs
  refine ⟨F'', k1', h2.transNew k2' h3, fun i hi => ?_⟩
  rcases k3' i hi with h | h
  · exact h3 i h
  · exact Or.inr (Nat.le_trans h2.size h)
theorem Pair.swap (h : Pair g n q r w wr F) : Pair q r g n w wr F := Goes.swap h
theorem Pair.rightCall (h : Pair g n q r w wr F) : ∃ A, NodeI q r wr A ∧ ∀ w' r', Goes (NodeI q r') wr w' A → Pair g n q r' w w' F := by
  obtain ⟨A, h1, h2⟩ := h.swap.leftCall
  exact ⟨A, h1, fun w' r' hg => (h2 w' r' hg).swap⟩
theorem Pair.left (h : Pair g n q r w wr F) : ∃ A, NodeI g n wr A := by obtain ⟨A, h, _⟩ := h.leftCall; exact ⟨A, h⟩
theorem Pair.right (h : Pair g n q r w wr F) : ∃ A, NodeI q r wr A := by obtain ⟨A, h, _⟩ := h.rightCall; exact ⟨A, h⟩
theorem Pair.start (h : NodeI g n w F) {A : Nat → Prop} (hr : NodeI q r wr A) (hA : ∀ i, A i → w.heap.size ≤ i) (hb : Below w.heap.size w wr) : Pair g n q r w wr F := by
  refine ⟨fun i => F i ∨ A i, Sep.mk ((nodeI_res g n).kept (S := fun _ => False) h (Turn.ofBelow _ hb) (fun _ _ h => h)) hr (fun i hi hAi => ?_), Turn.ofBelow _ hb, fun i hi => ?_⟩
  · have := (nodeI_res g n).lt h i hi
    have := hA i hAi
    omega
  · rcases hi with h | h
    · exact Or.inl h
    · exact Or.inr (hA i h)

/-! ### plain -/
def rgt (n : Nd) (j : Nat) : Nd := ⟨List.range 15, (n.ks.drop n.stay).take j, j, 0⟩
def lft (n : Nd) (j : Nat) : Nd := { n with ks := n.ks.take (n.ks.length - j), ins := n.ins + j }

theorem rgt_zero (n : Nd) : rgt n 0 = Nd.new := by simp [rgt, Nd.new]
theorem rgt_end (n : Nd) : rgt n (n.ks.length / 2) = n.right := by
  have : (n.ks.drop n.stay).take (n.ks.length / 2) = n.ks.drop n.stay := List.take_of_length_le (by rw [List.length_drop]; unfold Nd.stay; omega)
  simp [rgt, Nd.right, this]
theorem lft_zero (n : Nd) : lft n 0 = n := by
  obtain ⟨l, ks, ins, spl⟩ := n
  simp [lft]
theorem lft_end (n : Nd) : { lft n (n.ks.length / 2) with spl := n.spl + 1 } = n.left := by simp [lft, Nd.left, Nd.stay]

theorem rgt_length {n : Nd} {j : Nat} (h : j ≤ n.ks.length / 2) : (rgt n j).ks.length = j := by
  show ((n.ks.drop n.stay).take j).length = j
  rw [List.length_take, List.length_drop]
  unfold Nd.stay
  omega
theorem rgt_at {n : Nd} (ho : n.Ok) {j : Nat} (h : j < n.ks.length / 2) {p : Kv} (hp : n.ks[n.stay + j]? = some p) : At p.1 (rgt n j).ks j ∧ ∀ v, (rgt n j).ks[j]? ≠ some (p.1, v) := by
  have hl := rgt_length (n := n) (j := j) (by omega)
  refine ⟨⟨by omega, fun i t hi ht => ?_, fun t ht => ?_⟩, fun v hv => ?_⟩
  · have ht' : ((n.ks.drop n.stay).take j)[i]? = some t := ht
    rw [List.getElem?_take_of_lt hi, List.getElem?_drop] at ht'
    exact ho.lt (by omega) ht' hp
  · rw [List.getElem?_eq_none (by omega)] at ht; cases ht
  · rw [List.getElem?_eq_none (by omega)] at hv; cases hv
theorem rgt_next {n : Nd} (ho : n.Ok) {j : Nat} (h : j < n.ks.length / 2) {p : Kv} (hp : n.ks[n.stay + j]? = some p) : (rgt n j).add j p.1 p.2 = rgt n (j + 1) := by
  have hl := rgt_length (n := n) (j := j) (by omega)
  have hf := ho.few
  have e1 : insW (List.range 15) j j = List.range 15 := insW_last (by decide) (by omega)
  have e2 : (rgt n j).ks.insertIdx j (p.1, p.2) = (n.ks.drop n.stay).take (j + 1) := by
    have h0 : (rgt n j).ks.insertIdx (rgt n j).ks.length (p.1, p.2) = (rgt n j).ks ++ [(p.1, p.2)] := List.insertIdx_length_self
    rw [hl] at h0
    rw [h0]
    show (n.ks.drop n.stay).take j ++ [p] = _
    rw [List.take_add_one, List.getElem?_drop, hp]
    rfl
  have e3 : (rgt n j).add j p.1 p.2 = ⟨insW (List.range 15) (rgt n j).ks.length j, (rgt n j).ks.insertIdx j (p.1, p.2), (j : Int) + 1, 0⟩ := rfl
  rw [e3, hl, e1, e2]
  simp [rgt]

theorem lft_length {n : Nd} {j : Nat} : (lft n j).ks.length = n.ks.length - j := by
  show (n.ks.take (n.ks.length - j)).length = _
  rw [List.length_take]
  omega
theorem lft_get {n : Nd} {j i : Nat} (h : i < n.ks.length - j) : (lft n j).ks[i]? = n.ks[i]? := by
  show (n.ks.take (n.ks.length - j))[i]? = _
  rw [List.getElem?_take_of_lt h]
theorem erase_last {α : Type} (L : List α) (m : Nat) (h : m < L.length) : (L.take (m + 1)).eraseIdx m = L.take m := by
  rw [List.take_add_one, List.getElem?_eq_getElem h]
  have hl : (L.take m).length = m := by simp; omega
  have := List.eraseIdx_append_of_length_le (l := L.take m) (k := m) (by omega) [L[m]]
  rw [show (some L[m]).toList = [L[m]] from rfl, this, hl, Nat.sub_self]
  simp
theorem lft_next {n : Nd} (ho : n.Ok) {j : Nat} (h : j < n.ks.length) : (lft n j).del (n.ks.length - j - 1) = lft n (j + 1) := by
  have hf := ho.few
  have hl := ho.len
  have e0 := lft_length (n := n) (j := j)
  have e1 : remW n.l (n.ks.length - j) (n.ks.length - j - 1) = n.l := by
    have := remW_last (l := n.l) (u := n.ks.length - j - 1) hl (by omega)
    rw [show n.ks.length - j - 1 + 1 = n.ks.length - j by omega] at this
    exact this
  have e2 : (n.ks.take (n.ks.length - j)).eraseIdx (n.ks.length - j - 1) = n.ks.take (n.ks.length - (j + 1)) := by
    have := erase_last n.ks (n.ks.length - j - 1) (by omega)
    rw [show n.ks.length - j - 1 + 1 = n.ks.length - j by omega] at this
    rw [this, show n.ks.length - j - 1 = n.ks.length - (j + 1) by omega]
  have e3 : (lft n j).del (n.ks.length - j - 1) = ⟨remW n.l (lft n j).ks.length (n.ks.length - j - 1), (n.ks.take (n.ks.length - j)).eraseIdx (n.ks.length - j - 1), n.ins + j + 1, n.spl⟩ := rfl
  rw [e3, e0, e1, e2]
  simp [lft, Int.add_assoc]

/-- the splits are written -/
theorem NodeI.setS (h : NodeI g n w F) {I : Int} (hI : I = n.spl + 1) : Goes (NodeI g { n with spl := n.spl + 1 }) w (w.setCell ⟨g, 32, none⟩ (.int .i64 I)) F := by
  obtain ⟨⟨C, hG⟩, hF⟩ := h
  have hsz := hG.size
  have ho := hG.ok
  refine NodeG.goes hF (Turn.setCell w ⟨g, 32, none⟩ _ rfl) (C' := C.setIfInBounds 32 (.int .i64 I)) ⟨heap_setCell_same hG.st _ _, by simp [hsz], ?_, fun j p hp => ?_, ?_, ?_, ⟨ho.len, ho.may, ho.few, ho.rise, ho.short, ho.nums⟩⟩
  · rw [get_ne (by omega)]; exact hG.word
  · obtain ⟨s, e1, e2, e3⟩ := hG.hold j p hp
    have := ho.may.2 s (List.mem_of_getElem? e1)
    exact ⟨s, e1, by rw [get_ne (by omega)]; exact e2, by rw [get_ne (by omega)]; exact e3⟩
  · rw [get_ne (by omega)]; exact hG.ins
  · rw [get_eq (by omega), hI]
end

end Go.Proofs.Ytoknebbkpkcomaa
