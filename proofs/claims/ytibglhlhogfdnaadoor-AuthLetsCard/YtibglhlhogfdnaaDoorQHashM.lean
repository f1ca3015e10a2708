/- The program's hash: what a world holds of one; copy of a text into it; New. -/
import Derived.Test.YtibglhlhogfdnaaDoorQMix
import Derived.Test.YtibglhlhogfdnaaDoorQHashP
import Derived.Test.YtibglhlhogfdnaaDoorQConv
import Derived.Lib.LazyBuf
import Derived.Lib.BufferWrite
namespace Go.Proofs.YtibglhlhogfdnaaDoor
open Go.RowKit QP

def hcells (S B : List Nat) (n : Nat) : List Value := flat (enK .u32) S ++ (flat (enK .u8) B ++ [Value.int .u64 (n : Int)])
structure HashAt (w : World) (g : Nat) (S B : List Nat) (n : Nat) : Prop where
  blk : w.heap[g]? = some (.cells (hcells S B n).toArray 89 (0, 0))
  s8 : S.length = 8
  b64 : B.length = 64
section
variable {w w' : World} {g n : Nat} {S B : List Nat}
theorem HashAt.lt (h : HashAt w g S B n) : g < w.heap.size := lt_of h.blk
theorem HashAt.same (h : HashAt w g S B n) (hb : w'.heap[g]? = w.heap[g]?) : HashAt w' g S B n := ⟨hb.trans h.blk, h.s8, h.b64⟩
theorem HashAt.turn {F : Nat → Prop} (h : HashAt w g S B n) (ht : Turn F w w') (hg : ¬ F g) : HashAt w' g S B n := h.same (ht.block g h.lt hg)
theorem HashAt.below (h : HashAt w g S B n) (hb : Below w.heap.size w w') : HashAt w' g S B n := h.same (hb.block g h.lt)
theorem hcells_size (h8 : S.length = 8) (h64 : B.length = 64) : (hcells S B n).toArray.size = 73 := by
  rw [List.size_toArray]
  unfold hcells
  rw [List.length_append, List.length_append, flatK_len, flatK_len, h8, h64]
  rfl
theorem HashAt.frozen (h : HashAt w g S B n) (i : Nat) : w.frozen? ⟨g, i, none⟩ = false := frozen_of h.blk i
theorem HashAt.len (h : HashAt w g S B n) : w.cell? ⟨g, 72, none⟩ = some (.int .u64 (n : Int)) := by
  rw [cell_of h.blk, List.getElem?_toArray]
  unfold hcells
  rw [List.getElem?_append_right (by rw [flatK_len, h.s8]; omega), flatK_len, h.s8, List.getElem?_append_right (by rw [flatK_len, h.b64]; omega), flatK_len, h.b64]
  rfl
theorem HashAt.state (h : HashAt w g S B n) : w.rangeAt g 0 (flat (enK .u32) S) := fun j v hv => by
  rw [cell_of h.blk, List.getElem?_toArray, Nat.zero_add]
  unfold hcells
  rw [List.getElem?_append_left (List.getElem?_eq_some_iff.1 hv).1, hv]
theorem HashAt.block (h : HashAt w g S B n) : w.rangeAt g 8 (flat (enK .u8) B) := fun j v hv => by
  have hj := (List.getElem?_eq_some_iff.1 hv).1
  rw [cell_of h.blk, List.getElem?_toArray]
  unfold hcells
  rw [List.getElem?_append_right (by rw [flatK_len, h.s8]; omega), flatK_len, h.s8, Nat.add_sub_cancel_left, List.getElem?_append_left hj, hv]
theorem HashAt.word (h : HashAt w g S B n) {i x : Nat} (hx : S[i]? = some x) : w.cell? ⟨g, i, none⟩ = some (.int .u32 (x : Int)) := by
  have h1 := h.state i (.int .u32 (x : Int)) (by
    obtain ⟨hi, he⟩ := List.getElem?_eq_some_iff.1 hx
    have := flat_get (en := enK .u32) (m := 1) (fun _ => rfl) S i hi 0 (by omega)
    rw [Nat.one_mul, Nat.add_zero, he] at this
    exact this)
  rwa [Nat.zero_add] at h1
theorem HashAt.there (h : HashAt w g S B n) (o k : Nat) (hk : o + k ≤ 73) : w.there g o k := fun j hj => by
  refine ⟨?_, h.frozen _⟩
  rw [cell_of h.blk, Array.getElem?_eq_getElem (by rw [hcells_size h.s8 h.b64]; omega)]
  rfl
theorem HashAt.setLen (h : HashAt w g S B n) (n' : Nat) : HashAt (w.setCell ⟨g, 72, none⟩ (.int .u64 (n' : Int))) g S B n' := by
  refine ⟨?_, h.s8, h.b64⟩
  rw [heap_setCell_same h.blk, List.setIfInBounds_toArray]
  unfold hcells
  rw [List.set_append_right _ _ (by rw [flatK_len, h.s8]; omega), flatK_len, h.s8, List.set_append_right _ _ (by rw [flatK_len, h.b64]; omega), flatK_len, h.b64]
  rfl
end
theorem setIf_take (C : Array Value) (o k : Nat) (v : Value) (h : o < C.size) : (C.setIfInBounds o v).toList.take (o + 1) = C.toList.take o ++ [v] ∧ (C.setIfInBounds o v).toList.drop (o + 1 + k) = C.toList.drop (o + 1 + k) := by
  have hl : o < C.toList.length := by rw [Array.length_toList]; exact h
  refine ⟨?_, ?_⟩
  · rw [Array.toList_setIfInBounds, List.take_set, List.take_succ_eq_append_getElem hl, List.set_append_right _ _ (by rw [List.length_take]; omega)]
    congr 1
    rw [List.length_take, Nat.min_eq_left (by omega), Nat.sub_self]
    rfl
  · rw [Array.toList_setIfInBounds, List.drop_set_of_lt (by omega)]
theorem heap_setCells {g : Nat} {t : TypeId} : ∀ (vs : List Value) (o : Nat) (C : Array Value) (w : World), w.heap[g]? = some (.cells C t (0, 0)) → o + vs.length ≤ C.size →
    (w.setCells g o vs).heap[g]? = some (.cells (C.toList.take o ++ vs ++ C.toList.drop (o + vs.length)).toArray t (0, 0))
  | [], o, C, w, h, _ => by
    show w.heap[g]? = _
    rw [h]
    simp
  | v :: r, o, C, w, h, hl => by
    simp only [List.length_cons] at hl
    show ((w.setCell ⟨g, o, none⟩ v).setCells g (o + 1) r).heap[g]? = _
    rw [heap_setCells r (o + 1) (C.setIfInBounds o v) _ (heap_setCell_same h o v) (by rw [Array.size_setIfInBounds]; omega)]
    obtain ⟨e1, e2⟩ := setIf_take C o r.length v (by omega)
    rw [e1, e2, List.length_cons, show o + (r.length + 1) = o + 1 + r.length by omega]
    simp
theorem turn_setCells {F : Nat → Prop} {g : Nat} (hg : F g) : ∀ (vs : List Value) (o : Nat) (w : World), Turn F w (w.setCells g o vs)
  | [], _, w => Turn.refl _ w
  | v :: r, o, w => (Turn.setCell w ⟨g, o, none⟩ v hg).trans (turn_setCells hg r (o + 1) _)
section
variable {w w' : World} {g n : Nat} {S B : List Nat}
theorem HashAt.setState (h : HashAt w g S B n) {S' : List Nat} (h8 : S'.length = 8) : HashAt (w.setCells g 0 (flat (enK .u32) S')) g S' B n := by
  refine ⟨?_, h8, h.b64⟩
  rw [heap_setCells _ 0 _ w h.blk (by rw [hcells_size h.s8 h.b64, flatK_len, h8]; omega), flatK_len, h8]
  congr 3
  unfold hcells
  rw [List.take_zero, List.nil_append, List.drop_append_of_le_length (by rw [flatK_len, h.s8]; omega), List.drop_of_length_le (by rw [flatK_len, h.s8]; omega), List.nil_append]
theorem flat_take (k : IntKind) (X : List Nat) (n : Nat) : (flat (enK k) X).take n = flat (enK k) (X.take n) := by
  induction X generalizing n with
  | nil => simp [flat]
  | cons x X ih =>
    cases n with
    | zero => rfl
    | succ n =>
      rw [flat_cons, List.take_succ_cons, flat_cons]
      show Value.int k (x : Int) :: (flat (enK k) X).take n = _
      rw [ih]
      rfl
theorem flat_drop (k : IntKind) (X : List Nat) (n : Nat) : (flat (enK k) X).drop n = flat (enK k) (X.drop n) := by
  induction X generalizing n with
  | nil => simp [flat]
  | cons x X ih =>
    cases n with
    | zero => rfl
    | succ n =>
      rw [flat_cons, List.drop_succ_cons]
      show (flat (enK k) X).drop n = _
      rw [ih]
theorem HashAt.setBytes (h : HashAt w g S B n) {Y : List Nat} {r : Nat} (hr : r + Y.length ≤ 64) : HashAt (w.setCells g (8 + r) (flat (enK .u8) Y)) g S (into B Y r) n := by
  refine ⟨?_, h.s8, by rw [into_length (by rw [h.b64]; exact hr), h.b64]⟩
  rw [heap_setCells _ (8 + r) _ w h.blk (by rw [hcells_size h.s8 h.b64, flatK_len]; omega), flatK_len]
  congr 3
  show (hcells S B n).take (8 + r) ++ _ ++ (hcells S B n).drop (8 + r + Y.length) = _
  unfold hcells into
  rw [List.take_append, List.drop_append, flatK_len, h.s8, List.take_of_length_le (by rw [flatK_len, h.s8]; omega), List.drop_of_length_le (by rw [flatK_len, h.s8]; omega),
    show 8 + r - 8 = r by omega, show 8 + r + Y.length - 8 = r + Y.length by omega, List.take_append_of_le_length (by rw [flatK_len, h.b64]; omega), List.drop_append_of_le_length (by rw [flatK_len, h.b64]; omega),
    flat_take, flat_drop, flat_append, flat_append]
  simp
end

/-- copy(dst, s) of a text: as many bytes as there is room for -/
theorem run_copy_cut (w : World) (dT sT ty elem : TypeId) (b o dLen dCap k : Nat) (t : ByteArray)
    (hu : Tryd.prog.underlying dT = some (.slice elem)) (hz : ∀ w, (Go.sizeOf elem).run Tryd.prog w = .ok 1 w) (hk : min t.size dLen = k) (ht : w.there b o k) :
    (Builtin.copy_ #[dT, sT] ty #[.slice (some ⟨b, o, none⟩) dLen dCap, .string t]).run Tryd.prog w = .ok (.int .i64 (k : Int)) (w.setCells b o (flat (enK .u8) ((nb t).take k))) := by
  have hmin : Nat.min t.size dLen = k := hk
  have e : (t.data.toList.map fun x => Value.int .u8 (x.toNat : Int)).take k = flat (enK .u8) ((nb t).take k) := by rw [← flat_nb, flat_take]
  have hl : (flat (enK .u8) ((nb t).take k)).length ≤ k := by rw [flatK_len, List.length_take]; omega
  have hst := run_storeCells_cells (P := Tryd.prog) b o (flat (enK .u8) ((nb t).take k)) 0 w (fun j hj => by simpa using (ht j (by omega)).1) (fun j hj => by simpa using (ht j (by omega)).2) (flatK_one .u8 _)
  simp [Builtin.copy_, run_underlying hu, Builtin.lenOf, Builtin.firstCells, hz, hmin]
  rw [e]
  simp only [Nat.add_zero] at hst
  rw [hst]
  rfl
theorem step_copy_cut {ops : Array Oper} {o : Oper} {a : Act} {w : World} {K : Act → World → Prop} {Q : Exit → Act → World → Prop} {E : Prop}
    (hg : o.guard = none) (d x : Operand) (dT sT : TypeId) (hop : o.op = Op.call { callee := Callee.builtin Builtin.copy, args := #[d, x], argTypes := #[dT, sT] })
    (elem : TypeId) (hu : Tryd.prog.underlying dT = some (.slice elem)) (hz : ∀ w, (Go.sizeOf elem).run Tryd.prog w = .ok 1 w)
    (b off dLen dCap : Nat) (hd : a.eval d = .slice (some ⟨b, off, none⟩) dLen dCap) (t : ByteArray) (hx : a.eval x = .string t) (k : Nat) (hk : min t.size dLen = k) (ht : w.there b off k)
    (hK : K (a.put o.dst (.int .i64 (k : Int))) (w.setCells b off (flat (enK .u8) ((nb t).take k)))) :
    if Region.wanted o (yielded ops a.tmps) = true then Oper.wp Tryd.prog o a w K Q else E := by
  have hw : Region.wanted o (yielded ops a.tmps) = true := by simp [Region.wanted, hg]
  rw [if_pos hw]
  have hrun := run_copy_cut w dT sT o.type elem b off dLen dCap k t hu hz hk ht
  unfold Oper.wp
  simp [execOp, hop, resolve, invoke, builtin, hd, hx, hrun, Result.andThen]
  exact hK
theorem wpList_copy_cut {ops : Array Oper} {rest : List Oper} {o : Oper} {a : Act} {w : World} {Q : Exit → Act → World → Prop}
    (hg : o.guard = none) (d x : Operand) (dT sT : TypeId) (hop : o.op = Op.call { callee := Callee.builtin Builtin.copy, args := #[d, x], argTypes := #[dT, sT] })
    (elem : TypeId) (hu : Tryd.prog.underlying dT = some (.slice elem)) (hz : ∀ w, (Go.sizeOf elem).run Tryd.prog w = .ok 1 w)
    (b off dLen dCap : Nat) (hd : a.eval d = .slice (some ⟨b, off, none⟩) dLen dCap) (t : ByteArray) (hx : a.eval x = .string t) (k : Nat) (hk : min t.size dLen = k) (ht : w.there b off k)
    (h : wpList Tryd.prog ops Q rest (a.put o.dst (.int .i64 (k : Int))) (w.setCells b off (flat (enK .u8) ((nb t).take k)))) : wpList Tryd.prog ops Q (o :: rest) a w := by
  refine wpList_plain hg fun K hK => ?_
  have hrun := run_copy_cut w dT sT o.type elem b off dLen dCap k t hu hz hk ht
  unfold Oper.wp
  simp [execOp, hop, resolve, invoke, builtin, hd, hx, hrun, Result.andThen]
  exact hK _ _ h

/-- the hash g of the bytes m -/
def HashI (g : Nat) (m : List Nat) (w : World) (F : Nat → Prop) : Prop := 0 < g ∧ (∃ S B, HashAt w g S B m.length ∧ Keeps S B m) ∧ ∀ i, F i ↔ i = g
theorem HashI.res (g : Nat) (m : List Nat) : Res (HashI g m) := by
  refine ⟨fun {w F} h i hi => ?_, fun {w w' F S} h ht hS => ?_⟩
  · obtain ⟨_, ⟨_, _, h1, _⟩, hF⟩ := h
    rw [(hF i).1 hi]
    exact h1.lt
  · obtain ⟨h0, ⟨A, B, h1, h2⟩, hF⟩ := h
    exact ⟨h0, ⟨A, B, h1.turn ht (hS g ((hF g).2 rfl)), h2⟩, hF⟩
theorem hash_goes {g : Nat} {m' : List Nat} {w w' : World} {F : Nat → Prop} {S B : List Nat} (h0 : 0 < g) (hF : ∀ i, F i ↔ i = g) (h1 : HashAt w' g S B m'.length) (h2 : Keeps S B m') (ht : Turn (fun i => i = g) w w') : Goes (HashI g m') w w' F :=
  ⟨F, ⟨h0, ⟨S, B, h1, h2⟩, hF⟩, ht.mono fun _ hi => (hF _).2 hi, fun _ hi => Or.inl hi⟩
end Go.Proofs.YtibglhlhogfdnaaDoor
