/- Rows of numbers whose block bears a mark behind its end (what []byte(s) leaves), and rows that grow side by side. Kinds, types and sizes are parameters. -/
import Derived.Test.YtibglhlhogfdnaaDoorQRow
import Derived.Lib.FrozenHead
import Derived.Lib.ConvBytes
import Derived.Laws.IdiomStrings
import Derived.Lib.BufferRead
namespace Go.Proofs.YtibglhlhogfdnaaDoor
open Go.RowKit

/-- the block g, of room for so many, opens with the numbers X; nothing of it is frozen -/
def RowM (k : IntKind) (e : TypeId) (w : World) (g cap : Nat) (X : List Nat) : Prop := ∃ (cur : Array Value) (fz : Nat × Nat), w.heap[g]? = some (.cells cur e fz) ∧ (fz.2 = 0 ∨ cur.size ≤ fz.1) ∧ X.length ≤ cap ∧ cap ≤ maxLen ∧ cur.size = cap ∧ cur.toList.take X.length = flat (enK k) X

theorem run_storeCells_atM (P : Program) (g o : Nat) (t : TypeId) (fz : Nat × Nat) : ∀ (vs : List Value) (i : Nat) (cur : Array Value) (w : World), w.heap[g]? = some (.cells cur t fz) → (fz.2 = 0 ∨ cur.size ≤ fz.1) → o + i + vs.length ≤ cur.size → (∀ v ∈ vs, v.oneCell' = true) →
    (storeCells ⟨g, o, none⟩ vs i).run P w = .ok () (w.setRow g (cur.toList.take (o + i) ++ vs ++ cur.toList.drop (o + i + vs.length)).toArray)
  | [], i, cur, w, hg, _, _, _ => by
    simp only [storeCells, List.append_nil, List.length_nil, Nat.add_zero, List.take_append_drop, Array.toArray_toList]
    rw [setRow_self w g cur t fz hg]
    rfl
  | v :: rest, i, cur, w, hg, hfz, hl, h1 => by
    have hi : o + i < cur.size := by simp at hl; omega
    have hadd : (⟨g, o, none⟩ : Addr).add i = ⟨g, o + i, none⟩ := by unfold Addr.add; split <;> simp_all
    have hcell : w.cell? ⟨g, o + i, none⟩ = some cur[o + i] := by simp [World.cell?, hg, hi]
    have hfro : w.frozen? ⟨g, o + i, none⟩ = false := by
      obtain ⟨lo, hi'⟩ := fz
      simp only [World.frozen?, hg, Bool.and_eq_false_iff, decide_eq_false_iff_not]
      simp only at hfz
      rcases hfz with h | h
      · right; omega
      · left; omega
    have hst : (store ((⟨g, o, none⟩ : Addr).add i) v).run P w = .ok () (w.setRow g (cur.setIfInBounds (o + i) v)) := by
      rw [hadd, run_store P w _ v _ (h1 v (by simp)), hcell]
      simp [hfro, setCell_eq_setRow w g (o + i) cur t fz v hg]
    have ih := run_storeCells_atM P g o t fz rest (i + 1) (cur.setIfInBounds (o + i) v) (w.setRow g (cur.setIfInBounds (o + i) v)) (setRow_heap w g cur _ t _ hg) (by simpa using hfz) (by simp at hl ⊢; omega) (fun x hx => h1 x (by simp [hx]))
    simp only [storeCells, Sem.run_bind, hst, Result.andThen_ok, ih, setRow_setRow]
    congr 3
    have e := list_seg_step cur.toList (o + i) v rest (by simp at hl ⊢; omega)
    simpa [Array.toList_setIfInBounds, Nat.add_assoc] using e

theorem enK_one (k : IntKind) : ∀ (Z : List Nat) (u : Value), u ∈ flat (enK k) Z → u.oneCell' = true := fun Z => by
  induction Z with
  | nil => intro u hu; cases hu
  | cons z Z ih =>
    intro u hu
    rw [flat_cons] at hu
    rcases List.mem_append.1 hu with hu | hu
    · rw [List.mem_singleton.1 hu]; rfl
    · exact ih u hu
theorem RowK.news {k : IntKind} {e : TypeId} {w : World} {p : Nat} {Y : List Nat} (hp : RowK k e w p Y) : ∀ j u, (flat (enK k) Y)[j]? = some u → w.cell? ((⟨p, 0, none⟩ : Addr).add j) = some u := fun j u hu => by
  obtain ⟨cur, h3, h4⟩ := hp
  have hj : j < Y.length := by
    have := (List.getElem?_eq_some_iff.1 hu).1
    rwa [flatK_len] at this
  rw [← h4, List.getElem?_take_of_lt hj] at hu
  rw [Addr.add_lit, Nat.zero_add, cell_of h3, ← Array.getElem?_toList, hu]
section
variable {k : IntKind} {e : TypeId} {w w' : World} {g cap : Nat} {X : List Nat}
theorem RowM.news (h : RowM k e w g cap X) : ∀ j u, (flat (enK k) X)[j]? = some u → w.cell? ((⟨g, 0, none⟩ : Addr).add j) = some u := fun j u hu => by
  obtain ⟨cur, fz, h1, _, _, _, _, h2⟩ := h
  have hj : j < X.length := by
    have := (List.getElem?_eq_some_iff.1 hu).1
    rwa [flatK_len] at this
  rw [← h2, List.getElem?_take_of_lt hj] at hu
  rw [Addr.add_lit, Nat.zero_add, cell_of h1, ← Array.getElem?_toList, hu]
theorem RowM.cell (h : RowM k e w g cap X) {i : Nat} {x : Nat} (hx : X[i]? = some x) : w.cell? ⟨g, i, none⟩ = some (.int k (x : Int)) := by
  obtain ⟨hi, he⟩ := List.getElem?_eq_some_iff.1 hx
  have h3 := flat_get (en := enK k) (m := 1) (fun _ => rfl) X i hi 0 (by omega)
  rw [Nat.one_mul, Nat.add_zero] at h3
  have h4 := h.news i (.int k (x : Int)) (by rw [h3, he]; rfl)
  rwa [Addr.add_lit, Nat.zero_add] at h4
theorem RowM.lt (h : RowM k e w g cap X) : g < w.heap.size := by
  obtain ⟨cur, fz, h1, _⟩ := h
  exact lt_of h1
theorem RowM.same (h : RowM k e w g cap X) (hb : w'.heap[g]? = w.heap[g]?) : RowM k e w' g cap X := by
  obtain ⟨cur, fz, h1, h2⟩ := h
  exact ⟨cur, fz, hb.trans h1, h2⟩
theorem RowM.below (h : RowM k e w g cap X) (hb : Below w.heap.size w w') : RowM k e w' g cap X := h.same (hb.block g h.lt)
theorem RowM.room (h : RowM k e w g cap X) : X.length ≤ cap ∧ cap ≤ maxLen := by
  obtain ⟨_, _, _, _, h1, h2, _⟩ := h
  exact ⟨h1, h2⟩
end

/-- numbers more at the end of such a row -/
theorem wpList_numsM {k : IntKind} {e t : TypeId} {bytes : Nat} (KO : KindOk k e t bytes) {w : World} {ops : Array Oper} {rest : List Oper} {o : Oper} {a : Act} {Q : Exit → Act → World → Prop} (hgd : o.guard = none) (s x : Operand)
    (ho : o.op = .call { callee := .builtin .append, args := #[s, x], argTypes := #[t, t] })
    (base : Nat) (X Y : List Nat) (g n cap : Nat) (hs : a.eval s = .slice (some ⟨g, 0, none⟩) n cap) (hrow : RowM k e w g cap X) (hX : X.length = n) (hn : n ≤ 1000000000) (hg : base ≤ g) (hbase : base ≤ w.heap.size)
    (p m : Nat) {cx : Nat} (hx : a.eval x = .slice (some ⟨p, 0, none⟩) m cx) (hm : Y.length = m) (hm2 : m ≤ 1000000) (hp : RowK k e w p Y)
    (h : ∀ g' cap' w', RowM k e w' g' cap' (X ++ Y) → Below base w w' → base ≤ g' → wpList Tryd.prog ops Q rest (a.put o.dst (.slice (some ⟨g', 0, none⟩) (n + m) cap')) w') :
    wpList Tryd.prog ops Q (o :: rest) a w := by
  obtain ⟨i, hi, hz, h1, h2⟩ := info_parts KO.info
  have hf := KO.few
  have hnb : (n + m) * bytes ≤ 140737488355328 := by
    calc (n + m) * bytes ≤ (n + m) * 8 := Nat.mul_le_mul_left _ hf
      _ ≤ 140737488355328 := by omega
  have hold := hrow.news
  obtain ⟨cur, fz, r1, r2, r3, r4, r5, r6⟩ := hrow
  refine wpList_plain hgd fun K hK => ?_
  have key : ∃ g' cap' w', (Builtin.append_ #[t, t] o.type #[.slice (some ⟨g, 0, none⟩) n cap, .slice (some ⟨p, 0, none⟩) m cx]).run Tryd.prog w = .ok (.slice (some ⟨g', 0, none⟩) (n + m) cap') w' ∧ RowM k e w' g' cap' (X ++ Y) ∧ Below base w w' ∧ base ≤ g' := by
    have hlen : (X ++ Y).length = n + m := by rw [List.length_append, hX, hm]
    by_cases hroom : n + m ≤ cap
    · have hfc := run_firstCells_some (P := Tryd.prog) w 1 m ⟨p, 0, none⟩ m cx (flat (enK k) Y) (by rw [flatK_len, hm, Nat.mul_one]) hp.news
      have hst := run_storeCells_atM Tryd.prog g n e fz (flat (enK k) Y) 0 cur w r1 r2 (by rw [flatK_len, hm]; omega) (enK_one k Y)
      simp only [Nat.add_zero, flatK_len, hm] at hst
      refine ⟨g, cap, w.setRow g (cur.toList.take n ++ flat (enK k) Y ++ cur.toList.drop (n + m)).toArray, ?_, ⟨_, fz, setRow_heap w g cur _ e _ r1, ?_, ?_, r4, ?_, ?_⟩, ?_, hg⟩
      · simp [Builtin.append_, run_underlying KO.sl, sizeOf, typeInfo, hi, h1, Builtin.lenOf, hroom, hfc, Addr.add_lit, hst]
      · simp [flatK_len, hm]
        rcases r2 with r2 | r2
        · exact Or.inl r2
        · right; omega
      · rw [hlen]; exact hroom
      · simp [flatK_len, hm]; omega
      · rw [hlen]
        have e1 : (cur.toList.take n).length = n := by rw [List.length_take, Array.length_toList]; omega
        show (cur.toList.take n ++ flat (enK k) Y ++ cur.toList.drop (n + m)).take (n + m) = _
        rw [List.take_left' (by rw [List.length_append, e1, flatK_len, hm]), flat_append, ← r6, hX]
      · exact ⟨rfl, rfl, rfl, by simp, fun j hj => setRow_other w g j _ (fun e => by omega)⟩
    · have hr := run_append_grow (P := Tryd.prog) w t o.type e i (.int k 0) KO.sl hi hz ⟨g, 0, none⟩ n cap (flat (enK k) X) (by rw [flatK_len, hX, h1, Nat.mul_one]) hold ⟨p, 0, none⟩ m cx (flat (enK k) Y) (by rw [flatK_len, hm, h1, Nat.mul_one]) hp.news (by omega) (by omega) (by rw [h2]; exact growslice_fits (by omega) hnb)
      have hge := grownCap_ge w (n + m) cap e
      have hcm2 : grownCap w (n + m) cap e ≤ maxLen := grownCap_le_maxLen w (n + m) cap e (by unfold maxLen; omega)
      refine ⟨_, _, _, hr, ⟨_, (0, 0), heap_alloc_new w.drew _, Or.inl rfl, by rw [hlen]; exact hge, hcm2, ?_, ?_⟩, ?_, hbase⟩
      · have hz1 : (Value.int k 0).cells.size = 1 := rfl
        simp only [Array.size_append, List.size_toArray, size_zeroCells, hz1, flatK_len, hX, hm]
        omega
      · rw [hlen]
        simp only [Array.toList_append]
        rw [List.take_left' (by simp [flatK_len, hX, hm]), flat_append]
      · exact ((Below.refl _ _).trans ((below_drewN w 1).mono hbase)).alloc hbase _
  obtain ⟨g', cap', w', hr, k1, k2, k3⟩ := key
  unfold Oper.wp execOp
  simp only [ho, resolve, invoke, builtin, Sem.run_bind, Sem.run_pure, Result.andThen_ok, List.map_toArray, List.map_cons, List.map_nil, hs, hx, hr]
  exact hK _ _ (h g' cap' w' k1 k2 k3)
end Go.Proofs.YtibglhlhogfdnaaDoor
