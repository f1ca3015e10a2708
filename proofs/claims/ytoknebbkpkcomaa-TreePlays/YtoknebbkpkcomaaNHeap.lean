/- Where a node of the program lies. -/
import Derived.Test.YtoknebbkpkcomaaNWorks
import Derived.Test.YtoknebbkpkcomaaNUndone
import Derived.Test.YtoknebbkpkcomaaNNode
namespace Go.Proofs.Ytoknebbkpkcomaa
open Go.RowKit

/-- the cells hold each key and its value at its slot -/
def Holds (C : Array Value) (l : List Nat) (ks : List Kv) : Prop := ∀ (j : Nat) (p : Kv), ks[j]? = some p → ∃ s, l[j]? = some s ∧ C[1 + s]? = some (.string p.1) ∧ C[16 + s]? = some (.int .i64 p.2)

structure NodeG (w : World) (g : Nat) (C : Array Value) (n : Nd) : Prop where
  st : w.heap[g]? = some (.cells C 91 (0, 0))
  size : C.size = 33
  word : C[0]? = some (.int .u64 n.word)
  hold : Holds C n.l n.ks
  ins : C[31]? = some (.int .i64 n.ins)
  spl : C[32]? = some (.int .i64 n.spl)
  ok : n.Ok

def NodeI (g : Nat) (n : Nd) (w : World) (F : Nat → Prop) : Prop := (∃ C, NodeG w g C n) ∧ ∀ i, F i ↔ i = g

section
variable {w w' : World} {g : Nat} {C : Array Value} {n n' : Nd} {F : Nat → Prop}

theorem NodeG.kept (h : NodeG w g C n) (h1 : w'.heap[g]? = w.heap[g]?) : NodeG w' g C n := ⟨h1.trans h.st, h.size, h.word, h.hold, h.ins, h.spl, h.ok⟩
theorem nodeI_res (g : Nat) (n : Nd) : Res (NodeI g n) := by
  refine ⟨fun {w F} h i hi => ?_, fun {w w' F S} h ht hS => ?_⟩
  · obtain ⟨⟨C, h1⟩, hF⟩ := h
    rw [(hF i).1 hi]
    exact lt_of h1.st
  · obtain ⟨⟨C, h1⟩, hF⟩ := h
    exact ⟨⟨C, h1.kept (ht.block g (lt_of h1.st) (hS g ((hF g).2 rfl)))⟩, hF⟩
theorem NodeI.ok (h : NodeI g n w F) : n.Ok := by obtain ⟨⟨_, h⟩, _⟩ := h; exact h.ok

/-- what a walk reads -/
structure NodeC (w : World) (g : Nat) (n : Nd) : Prop where
  c0 : w.cell? ⟨g, 0, none⟩ = some (.int .u64 n.word)
  ck : ∀ (j : Nat) (p : Kv), n.ks[j]? = some p → w.cell? ⟨g, 1 + n.l.getD j 0, none⟩ = some (.string p.1)
  cv : ∀ (j : Nat) (p : Kv), n.ks[j]? = some p → w.cell? ⟨g, 16 + n.l.getD j 0, none⟩ = some (.int .i64 p.2)
  c31 : w.cell? ⟨g, 31, none⟩ = some (.int .i64 n.ins)
  c32 : w.cell? ⟨g, 32, none⟩ = some (.int .i64 n.spl)
  fz : ∀ i, w.frozen? ⟨g, i, none⟩ = false
  lt : g < w.heap.size

theorem NodeG.cells (h : NodeG w g C n) : NodeC w g n := by
  have h1 := h.st
  refine ⟨by rw [cell_of h1]; exact h.word, fun j p hp => ?_, fun j p hp => ?_, by rw [cell_of h1]; exact h.ins, by rw [cell_of h1]; exact h.spl, fun i => frozen_of h1 i, lt_of h1⟩
  · obtain ⟨s, e1, e2, e3⟩ := h.hold j p hp
    rw [cell_of h1, show n.l.getD j 0 = s by simp [List.getD_eq_getElem?_getD, e1]]
    exact e2
  · obtain ⟨s, e1, e2, e3⟩ := h.hold j p hp
    rw [cell_of h1, show n.l.getD j 0 = s by simp [List.getD_eq_getElem?_getD, e1]]
    exact e3
theorem NodeI.cells (h : NodeI g n w F) : NodeC w g n := by obtain ⟨⟨_, h⟩, _⟩ := h; exact h.cells

/-- the node becomes another one: its block's cells are C' -/
theorem NodeG.goes (hF : ∀ i, F i ↔ i = g) {W : World} {C' : Array Value} (hW : Turn (fun i => i = g) w W) (h' : NodeG W g C' n') : Goes (NodeI g n') w W F :=
  ⟨F, ⟨⟨C', h'⟩, hF⟩, hW.mono (fun i hi => (hF i).2 hi), fun _ hi => Or.inl hi⟩

theorem slot_of (h : n.Ok) {j : Nat} (hj : j < 15) : ∃ s, n.l[j]? = some s ∧ s < 15 ∧ n.l.getD j 0 = s := by
  have hl : j < n.l.length := by rw [h.len]; exact hj
  exact ⟨n.l[j], List.getElem?_eq_getElem hl, h.may.2 _ (List.getElem_mem hl), getD_of hl⟩
theorem slot_ne (h : n.Ok) {i j s t : Nat} (hi : n.l[i]? = some s) (hj : n.l[j]? = some t) (hne : i ≠ j) : s ≠ t := by
  rintro rfl
  exact hne ((List.getElem?_inj (List.getElem?_eq_some_iff.1 hi).1 h.may.1).1 (hi.trans hj.symm))

theorem get_set (C : Array Value) (i j : Nat) (v : Value) : (C.setIfInBounds i v)[j]? = if i = j then (if i < C.size then some v else none) else C[j]? := by
  rw [Array.getElem?_setIfInBounds]
theorem get_ne {C : Array Value} {i j : Nat} {v : Value} (h : i ≠ j) : (C.setIfInBounds i v)[j]? = C[j]? := by rw [get_set, if_neg h]
theorem get_eq {C : Array Value} {i : Nat} {v : Value} (h : i < C.size) : (C.setIfInBounds i v)[i]? = some v := by rw [get_set, if_pos rfl, if_pos h]

/-- another value at a key -/
theorem NodeG.setV (h : NodeG w g C n) {i s : Nat} {k : ByteArray} {v v' : Int} (hi : n.ks[i]? = some (k, v)) (hs : n.l[i]? = some s) (hv : -9223372036854775808 ≤ v' ∧ v' ≤ 9223372036854775807) {W : World}
    (hW : W.heap[g]? = some (.cells (C.setIfInBounds (16 + s) (.int .i64 v')) 91 (0, 0))) : NodeG W g (C.setIfInBounds (16 + s) (.int .i64 v')) (n.set i k v') := by
  have hs15 := h.ok.may.2 s (List.mem_of_getElem? hs)
  have hil := (List.getElem?_eq_some_iff.1 hi).1
  have hsz := h.size
  refine ⟨hW, by simp [hsz], ?_, fun j p hp => ?_, ?_, ?_, h.ok.set hi hv⟩
  · rw [get_ne (by omega), h.word]
    simp [Nd.word, Nd.set]
  · by_cases e : i = j
    · subst e
      have hp' : (n.ks.set i (k, v'))[i]? = some p := hp
      rw [List.getElem?_set_self hil] at hp'
      cases hp'
      obtain ⟨t, e1, e2, e3⟩ := h.hold i _ hi
      obtain rfl : t = s := by rw [hs] at e1; cases e1; rfl
      exact ⟨t, hs, by rw [get_ne (by omega)]; exact e2, get_eq (by omega)⟩
    · have hp' : (n.ks.set i (k, v'))[j]? = some p := hp
      rw [List.getElem?_set_ne e] at hp'
      obtain ⟨t, e1, e2, e3⟩ := h.hold j _ hp'
      have hne := slot_ne h.ok hs e1 e
      exact ⟨t, e1, by rw [get_ne (by have := h.ok.may.2 t (List.mem_of_getElem? e1); omega)]; exact e2, by rw [get_ne (by omega)]; exact e3⟩
  · rw [get_ne (by omega)]; exact h.ins
  · rw [get_ne (by omega)]; exact h.spl

def addC (C : Array Value) (s : Nat) (k : ByteArray) (v : Int) (W I : Int) : Array Value :=
  (((C.setIfInBounds (1 + s) (.string k)).setIfInBounds (16 + s) (.int .i64 v)).setIfInBounds 0 (.int .u64 W)).setIfInBounds 31 (.int .i64 I)

theorem addC_size (C : Array Value) (s : Nat) (k : ByteArray) (v W I : Int) : (addC C s k v W I).size = C.size := by simp [addC]
theorem addC_0 {C : Array Value} (hC : C.size = 33) (s : Nat) (k : ByteArray) (v W I : Int) : (addC C s k v W I)[0]? = some (.int .u64 W) := by
  unfold addC; rw [get_ne (by omega), get_eq (by simp [hC])]
theorem addC_31 {C : Array Value} (hC : C.size = 33) (s : Nat) (k : ByteArray) (v W I : Int) : (addC C s k v W I)[31]? = some (.int .i64 I) := by
  unfold addC; rw [get_eq (by simp [hC])]
theorem addC_32 {C : Array Value} {s : Nat} (hs : s < 15) (k : ByteArray) (v W I : Int) : (addC C s k v W I)[32]? = C[32]? := by
  unfold addC; rw [get_ne (by omega), get_ne (by omega), get_ne (by omega), get_ne (by omega)]
theorem addC_key {C : Array Value} (hC : C.size = 33) {s : Nat} (hs : s < 15) (k : ByteArray) (v W I : Int) : (addC C s k v W I)[1 + s]? = some (.string k) := by
  unfold addC; rw [get_ne (by omega), get_ne (by omega), get_ne (by omega), get_eq (by omega)]
theorem addC_val {C : Array Value} (hC : C.size = 33) {s : Nat} (hs : s < 15) (k : ByteArray) (v W I : Int) : (addC C s k v W I)[16 + s]? = some (.int .i64 v) := by
  unfold addC; rw [get_ne (by omega), get_ne (by omega), get_eq (by simp [hC]; omega)]
theorem addC_key' {C : Array Value} {s t : Nat} (hs : s < 15) (ht : t < 15) (hne : s ≠ t) (k : ByteArray) (v W I : Int) : (addC C s k v W I)[1 + t]? = C[1 + t]? := by
  unfold addC; rw [get_ne (by omega), get_ne (by omega), get_ne (by omega), get_ne (by omega)]
theorem addC_val' {C : Array Value} {s t : Nat} (hs : s < 15) (ht : t < 15) (hne : s ≠ t) (k : ByteArray) (v W I : Int) : (addC C s k v W I)[16 + t]? = C[16 + t]? := by
  unfold addC; rw [get_ne (by omega), get_ne (by omega), get_ne (by omega), get_ne (by omega)]

/-- a key put in -/
theorem NodeG.addK (h : NodeG w g C n) {i s : Nat} {k : ByteArray} {v : Int} (ha : At k n.ks i) (hno : ∀ v, n.ks[i]? ≠ some (k, v)) (hf : n.ks.length < 15) (hk : k.size ≤ 4096) (hv : -9223372036854775808 ≤ v ∧ v ≤ 9223372036854775807)
    (hs : n.l[n.ks.length]? = some s) {W : World} {V I : Int} (hV : V = wdv (n.ks.length + 1) (insW n.l n.ks.length i)) (hI : I = n.ins + 1)
    (hW : W.heap[g]? = some (.cells (addC C s k v V I) 91 (0, 0))) : NodeG W g (addC C s k v V I) (n.add i k v) := by
  have hs15 := h.ok.may.2 s (List.mem_of_getElem? hs)
  have hsz := h.size
  have hlen : (n.ks.insertIdx i (k, v)).length = n.ks.length + 1 := List.length_insertIdx_of_le_length ha.le _
  have hel : (n.l.eraseIdx n.ks.length).length = 14 := by rw [List.length_eraseIdx_of_lt (by have := h.ok.len; omega)]; have := h.ok.len; omega
  have hgd : n.l.getD n.ks.length 0 = s := by simp [List.getD_eq_getElem?_getD, hs]
  have hle := ha.le
  refine ⟨hW, by rw [addC_size, hsz], ?_, fun j p hp => ?_, ?_, ?_, h.ok.add ha hno hf hk hv⟩
  · rw [addC_0 hsz, hV]
    show _ = some (Value.int .u64 (wdv (n.ks.insertIdx i (k, v)).length (insW n.l n.ks.length i)))
    rw [hlen]
  · have hp' : (n.ks.insertIdx i (k, v))[j]? = some p := hp
    have hl' : ∀ j t, j < n.ks.length → n.l[j]? = some t → (n.l.eraseIdx n.ks.length)[j]? = some t := fun j t hj e => by rw [List.getElem?_eraseIdx, if_pos hj]; exact e
    show ∃ s', ((n.l.eraseIdx n.ks.length).insertIdx i (n.l.getD n.ks.length 0))[j]? = some s' ∧ _ ∧ _
    rw [hgd]
    rcases ins_get hp' ha.le with ⟨h1, h2⟩ | ⟨h1, h2⟩ | ⟨h1, h2⟩
    · obtain ⟨t, e1, e2, e3⟩ := h.hold j p h2
      have ht := h.ok.may.2 t (List.mem_of_getElem? e1)
      have hjl := (List.getElem?_eq_some_iff.1 h2).1
      have hne := slot_ne h.ok hs e1 (by omega)
      refine ⟨t, ?_, by rw [addC_key' hs15 ht hne]; exact e2, by rw [addC_val' hs15 ht hne]; exact e3⟩
      rw [List.getElem?_insertIdx, if_pos h1]
      exact hl' j t hjl e1
    · subst h1 h2
      refine ⟨s, ?_, addC_key hsz hs15 _ _ _ _, addC_val hsz hs15 _ _ _ _⟩
      rw [List.getElem?_insertIdx, if_neg (by omega), if_pos rfl, if_pos (by omega)]
    · obtain ⟨t, e1, e2, e3⟩ := h.hold (j - 1) p h2
      have ht := h.ok.may.2 t (List.mem_of_getElem? e1)
      have hjl := (List.getElem?_eq_some_iff.1 h2).1
      have hne := slot_ne h.ok hs e1 (by omega)
      refine ⟨t, ?_, by rw [addC_key' hs15 ht hne]; exact e2, by rw [addC_val' hs15 ht hne]; exact e3⟩
      rw [List.getElem?_insertIdx, if_neg (by omega), if_neg (by omega)]
      exact hl' (j - 1) t hjl e1
  · rw [addC_31 hsz, hI]; rfl
  · rw [addC_32 hs15]; exact h.spl

/-- a key taken out -/
theorem NodeG.delK (h : NodeG w g C n) {i s : Nat} {k : ByteArray} {v : Int} (hi : i < n.ks.length) (hs : n.l[i]? = some s) {W : World} {V I : Int} (hV : V = wdv (n.ks.length - 1) (remW n.l n.ks.length i)) (hI : I = n.ins + 1)
    (hW : W.heap[g]? = some (.cells (addC C s k v V I) 91 (0, 0))) : NodeG W g (addC C s k v V I) (n.del i) := by
  have hs15 := h.ok.may.2 s (List.mem_of_getElem? hs)
  have hsz := h.size
  have hlen : (n.ks.eraseIdx i).length = n.ks.length - 1 := List.length_eraseIdx_of_lt hi
  have hf := h.ok.few
  have hel : (n.l.eraseIdx i).length = 14 := by rw [List.length_eraseIdx_of_lt (by have := h.ok.len; omega)]; have := h.ok.len; omega
  refine ⟨hW, by rw [addC_size, hsz], ?_, fun j p hp => ?_, ?_, ?_, h.ok.del hi⟩
  · rw [addC_0 hsz, hV]
    show _ = some (Value.int .u64 (wdv (n.ks.eraseIdx i).length (remW n.l n.ks.length i)))
    rw [hlen]
  · have hp' : (n.ks.eraseIdx i)[j]? = some p := hp
    have hjl := (List.getElem?_eq_some_iff.1 hp').1
    show ∃ s', ((n.l.eraseIdx i).insertIdx (n.ks.length - 1) (n.l.getD i 0))[j]? = some s' ∧ _ ∧ _
    rw [List.getElem?_insertIdx, if_pos (by omega), List.getElem?_eraseIdx]
    rcases del_get hp' with ⟨h1, h2⟩ | ⟨h1, h2⟩
    · obtain ⟨t, e1, e2, e3⟩ := h.hold j p h2
      have ht := h.ok.may.2 t (List.mem_of_getElem? e1)
      have hne := slot_ne h.ok hs e1 (by omega)
      exact ⟨t, by rw [if_pos h1]; exact e1, by rw [addC_key' hs15 ht hne]; exact e2, by rw [addC_val' hs15 ht hne]; exact e3⟩
    · obtain ⟨t, e1, e2, e3⟩ := h.hold (j + 1) p h2
      have ht := h.ok.may.2 t (List.mem_of_getElem? e1)
      have hne := slot_ne h.ok hs e1 (by omega)
      exact ⟨t, by rw [if_neg (by omega)]; exact e1, by rw [addC_key' hs15 ht hne]; exact e2, by rw [addC_val' hs15 ht hne]; exact e3⟩
  · rw [addC_31 hsz, hI]; rfl
  · rw [addC_32 hs15]; exact h.spl
end

end Go.Proofs.Ytoknebbkpkcomaa
