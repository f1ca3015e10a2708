import Derived.Test.YtoknebbkpkcomaaTAccJ
import Derived.Test.YtoknebbkpkcomaaTRange
import Derived.Shelf.RegionOpen
import Derived.OwnWalkIn
import Derived.TacticsInMore
import Derived.LoopNIn
import Derived.LoopIn
/- A round of a scan, its first statement: one key and one value more, in whatever order its parts come. -/
namespace Go.Proofs.Ytoknebbkpkcomaa
open Go.RowKit Go.Shelf

attribute [local go_sem] Oper.semAt_some

/-- what a step wants of the world at the statement's beginning -/
structure Beg (W0 : World) (pk pv : Nat) (vk vv : Value) (K : List ByteArray) (V : List Int) : Prop where
  bk : W0.heap[pk]? = some (boxO vk 26)
  bv : W0.heap[pv]? = some (boxO vv 27)
  rk : W0.ownsRow 0 9 1 vk K.length (scells K)
  rv : W0.ownsRow 0 3 1 vv V.length (icells V)
  kb : vk.ownBlock ≠ some pk ∧ vk.ownBlock ≠ some pv
  vb : vv.ownBlock ≠ some pk ∧ vv.ownBlock ≠ some pv
  kv : ∀ i, vk.ownBlock = some i → vv.ownBlock ≠ some i
  few : K.length ≤ 100000 ∧ V.length ≤ 100000

/-- one of the two chains: load, move, build, append -/
structure Chn (W0 w : World) (e : TypeId) (v x : Value) (n : Nat) (xs : List Value) (b0 b1 b2 b3 : Bool) (u0 u1 u2 u3 : Option Value) : Prop where
  s0 : b0 = true → u0 = some v
  s1 : b1 = true → u1 = some x
  s2 : b2 = true → ∃ p, u2 = some (.slice (some ⟨p, 0, none⟩) 1 1) ∧ w.heap[p]? = some (.cells #[x] e (0, 0)) ∧ W0.heap.size ≤ p
  s3 : b3 = true → ∃ A m, u3 = some (.slice A (n + 1) m) ∧ w.ownsRow 0 e 1 (.slice A (n + 1) m) (n + 1) (xs ++ [x]) ∧ ∀ i, (Value.slice A (n + 1) m).ownBlock = some i → v.ownBlock = some i ∨ W0.heap.size ≤ i
  row : b3 = false → w.ownsRow 0 e 1 v n xs

/-- it stays while its own blocks do -/
theorem Chn.kept {W0 w w' : World} {e : TypeId} {v x : Value} {n : Nat} {xs : List Value} {b0 b1 b2 b3 : Bool} {u0 u1 u2 u3 : Option Value} (h : Chn W0 w e v x n xs b0 b1 b2 b3 u0 u1 u2 u3)
    (e1 : ∀ i, v.ownBlock = some i ∨ W0.heap.size ≤ i → i < w.heap.size → w'.heap[i]? = w.heap[i]?) : Chn W0 w' e v x n xs b0 b1 b2 b3 u0 u1 u2 u3 := by
  refine ⟨h.s0, h.s1, fun hb => ?_, fun hb => ?_, fun hb => ?_⟩
  · obtain ⟨p, h1, h2, h3⟩ := h.s2 hb
    exact ⟨p, h1, (e1 p (Or.inr h3) (lt_of h2)).trans h2, h3⟩
  · obtain ⟨A, m, h1, h2, h3⟩ := h.s3 hb
    exact ⟨A, m, h1, ownsRow_block h2 (fun i hi => e1 i (h3 i hi) (ownsRow_lt h2 hi)), h3⟩
  · exact ownsRow_block (h.row hb) (fun i hi => e1 i (Or.inl hi) (ownsRow_lt (h.row hb) hi))

structure St (W0 : World) (pm pk pv : Nat) (vk vv : Value) (K : List ByteArray) (V : List Int) (key : ByteArray) (x : Int) (b0 b1 b2 b3 b4 b5 b6 b7 : Bool) (a : Act) (w : World) : Prop where
  sz : a.tmps.size = 44
  e7 : a.tmps[7]? = some (.pointer (some ⟨pm, 0, none⟩))
  e8 : a.tmps[8]? = some (.pointer (some ⟨pk, 0, none⟩))
  e9 : a.tmps[9]? = some (.pointer (some ⟨pv, 0, none⟩))
  e13 : a.tmps[13]? = some (.string key)
  e14 : a.tmps[14]? = some (.int .i64 x)
  df : a.defers = []
  ck : Chn W0 w 9 vk (.string key) K.length (scells K) b0 b1 b2 b3 a.tmps[29]? a.tmps[30]? a.tmps[31]? a.tmps[32]?
  cv : Chn W0 w 3 vv (.int .i64 x) V.length (icells V) b4 b5 b6 b7 a.tmps[33]? a.tmps[34]? a.tmps[35]? a.tmps[36]?
  tn : Turn (fun i => vk.ownBlock = some i ∨ vv.ownBlock = some i) W0 w

theorem set_get {T : Array Value} {d j : Nat} {v : Value} (h : T.size = 44) (hd : d < 44) : (T.setIfInBounds d v)[j]? = if d = j then some v else T[j]? := by
  rw [Array.getElem?_setIfInBounds]
  by_cases e : d = j
  · subst e; rw [if_pos rfl, if_pos rfl, if_pos (by omega)]
  · rw [if_neg e, if_neg e]

section
variable {l n : Nat} {ops : Array Oper} {Q : Exit → Act → World → Prop} {W0 w : World} {pm pk pv : Nat} {vk vv : Value} {K : List ByteArray} {V : List Int} {key : ByteArray} {x : Int} {b0 b1 b2 b3 b4 b5 b6 b7 : Bool} {a : Act} {KK : Act → World → Prop}

theorem St.box (h : St W0 pm pk pv vk vv K V key x b0 b1 b2 b3 b4 b5 b6 b7 a w) (H : Beg W0 pk pv vk vv K V) : w.heap[pk]? = some (boxO vk 26) ∧ w.heap[pv]? = some (boxO vv 27) := by
  refine ⟨(h.tn.block pk (lt_of H.bk) ?_).trans H.bk, (h.tn.block pv (lt_of H.bv) ?_).trans H.bv⟩
  · rintro (e | e)
    · exact H.kb.1 e
    · exact H.vb.1 e
  · rintro (e | e)
    · exact H.kb.2 e
    · exact H.vb.2 e

/-- a slot is written, and what is known of the two chains is known again -/
theorem St.slot {c0 c1 c2 c3 c4 c5 c6 c7 : Bool} {w' : World} (h : St W0 pm pk pv vk vv K V key x b0 b1 b2 b3 b4 b5 b6 b7 a w) {d : Nat} (v : Value) (hd : 29 ≤ d ∧ d < 44)
    (ck : Chn W0 w' 9 vk (.string key) K.length (scells K) c0 c1 c2 c3 (if d = 29 then some v else a.tmps[29]?) (if d = 30 then some v else a.tmps[30]?) (if d = 31 then some v else a.tmps[31]?) (if d = 32 then some v else a.tmps[32]?))
    (cv : Chn W0 w' 3 vv (.int .i64 x) V.length (icells V) c4 c5 c6 c7 (if d = 33 then some v else a.tmps[33]?) (if d = 34 then some v else a.tmps[34]?) (if d = 35 then some v else a.tmps[35]?) (if d = 36 then some v else a.tmps[36]?))
    (tn : Turn (fun i => vk.ownBlock = some i ∨ vv.ownBlock = some i) W0 w') : St W0 pm pk pv vk vv K V key x c0 c1 c2 c3 c4 c5 c6 c7 { tmps := a.tmps.setIfInBounds d v, defers := a.defers } w' := by
  have hs := h.sz
  refine ⟨by simpa using hs, ?_, ?_, ?_, ?_, ?_, h.df, ?_, ?_, tn⟩
  · show (a.tmps.setIfInBounds d v)[7]? = _; rw [set_get hs hd.2, if_neg (by omega)]; exact h.e7
  · show (a.tmps.setIfInBounds d v)[8]? = _; rw [set_get hs hd.2, if_neg (by omega)]; exact h.e8
  · show (a.tmps.setIfInBounds d v)[9]? = _; rw [set_get hs hd.2, if_neg (by omega)]; exact h.e9
  · show (a.tmps.setIfInBounds d v)[13]? = _; rw [set_get hs hd.2, if_neg (by omega)]; exact h.e13
  · show (a.tmps.setIfInBounds d v)[14]? = _; rw [set_get hs hd.2, if_neg (by omega)]; exact h.e14
  · show Chn W0 w' _ _ _ _ _ _ _ _ _ (a.tmps.setIfInBounds d v)[29]? (a.tmps.setIfInBounds d v)[30]? (a.tmps.setIfInBounds d v)[31]? (a.tmps.setIfInBounds d v)[32]?
    rw [set_get hs hd.2, set_get hs hd.2, set_get hs hd.2, set_get hs hd.2]
    exact ck
  · show Chn W0 w' _ _ _ _ _ _ _ _ _ (a.tmps.setIfInBounds d v)[33]? (a.tmps.setIfInBounds d v)[34]? (a.tmps.setIfInBounds d v)[35]? (a.tmps.setIfInBounds d v)[36]?
    rw [set_get hs hd.2, set_get hs hd.2, set_get hs hd.2, set_get hs hd.2]
    exact cv

theorem opIn_append {p : String} {af : Array Edge} {d : Nat} {s y : Nat} {t : TypeId} {v u v' : Value} {w' : World} (hs : a.tmps[s]? = some v) (hy : a.tmps[y]? = some u) (hr : (Builtin.append_ #[t, t] t #[v, u]).run Try.prog w = .ok v' w') (h : KK { tmps := a.tmps.setIfInBounds d v', defers := a.defers } w') :
    Oper.wpIn (Fence.wide.inRound l) n Try.prog { dst := some d, op := Op.call { callee := Callee.builtin Builtin.append, args := #[Operand.tmp s, Operand.tmp y], argTypes := #[t, t] }, type := t, pos := p, after := af, guard := none } a w KK Q := by
  refine ⟨fun _ _ => trivial, ?_⟩
  rw [Oper.semAt_eq _ _ _ (fun c e => by cases e)]
  simp [execOp, resolve, invoke, builtin, Act.eval, hs, hy, hr, Result.andThen, Oper.uponIn, Act.put]
  exact h

theorem alloc_keep (w : World) (o : Obj) : ∀ i, i < w.heap.size → (w.alloc o).heap[i]? = w.heap[i]? := fun i hi => Below.heap_alloc w o i hi

variable {p : String} {af : Array Edge}
theorem op0 (h : St W0 pm pk pv vk vv K V key x false b1 b2 b3 b4 b5 b6 b7 a w) (H : Beg W0 pk pv vk vv K V) (hK : ∀ a' w', St W0 pm pk pv vk vv K V key x true b1 b2 b3 b4 b5 b6 b7 a' w' → KK a' w') :
    Oper.wpIn (Fence.wide.inRound l) n Try.prog { dst := some 29, op := Op.load 26 (Operand.tmp 8), type := 26, pos := p, after := af, guard := none } a w KK Q := by
  obtain ⟨hbk, -⟩ := h.box H
  have c0 : w.cell? ⟨pk, 0, none⟩ = some vk := by rw [cell_of hbk]; rfl
  have hsh := own_shape H.rk
  have e8 := h.e8
  have HK := hK _ _ (h.slot (d := 29) vk (by omega) ⟨fun _ => rfl, h.ck.s1, h.ck.s2, h.ck.s3, h.ck.row⟩ h.cv h.tn)
  obtain ⟨A, m, rfl⟩ := hsh
  clear h hK
  go_simp
  exact HK
theorem op4 (h : St W0 pm pk pv vk vv K V key x b0 b1 b2 b3 false b5 b6 b7 a w) (H : Beg W0 pk pv vk vv K V) (hK : ∀ a' w', St W0 pm pk pv vk vv K V key x b0 b1 b2 b3 true b5 b6 b7 a' w' → KK a' w') :
    Oper.wpIn (Fence.wide.inRound l) n Try.prog { dst := some 33, op := Op.load 27 (Operand.tmp 9), type := 27, pos := p, after := af, guard := none } a w KK Q := by
  obtain ⟨-, hbv⟩ := h.box H
  have c0 : w.cell? ⟨pv, 0, none⟩ = some vv := by rw [cell_of hbv]; rfl
  have hsh := own_shape H.rv
  have e9 := h.e9
  have HK := hK _ _ (h.slot (d := 33) vv (by omega) h.ck ⟨fun _ => rfl, h.cv.s1, h.cv.s2, h.cv.s3, h.cv.row⟩ h.tn)
  obtain ⟨A, m, rfl⟩ := hsh
  clear h hK
  go_simp
  exact HK
theorem op1 (h : St W0 pm pk pv vk vv K V key x b0 false b2 b3 b4 b5 b6 b7 a w) (hK : ∀ a' w', St W0 pm pk pv vk vv K V key x b0 true b2 b3 b4 b5 b6 b7 a' w' → KK a' w') :
    Oper.wpIn (Fence.wide.inRound l) n Try.prog { dst := some 30, op := Op.move (Operand.tmp 13), type := 9, pos := p, after := af, guard := none } a w KK Q := by
  have e13 := h.e13
  have HK := hK _ _ (h.slot (d := 30) (.string key) (by omega) ⟨h.ck.s0, fun _ => rfl, h.ck.s2, h.ck.s3, h.ck.row⟩ h.cv h.tn)
  clear h hK
  go_simp
  exact HK
theorem op5 (h : St W0 pm pk pv vk vv K V key x b0 b1 b2 b3 b4 false b6 b7 a w) (hK : ∀ a' w', St W0 pm pk pv vk vv K V key x b0 b1 b2 b3 b4 true b6 b7 a' w' → KK a' w') :
    Oper.wpIn (Fence.wide.inRound l) n Try.prog { dst := some 34, op := Op.move (Operand.tmp 14), type := 3, pos := p, after := af, guard := none } a w KK Q := by
  have e14 := h.e14
  have HK := hK _ _ (h.slot (d := 34) (.int .i64 x) (by omega) h.ck ⟨h.cv.s0, fun _ => rfl, h.cv.s2, h.cv.s3, h.cv.row⟩ h.tn)
  clear h hK
  go_simp
  exact HK
theorem op2 (h : St W0 pm pk pv vk vv K V key x b0 true false b3 b4 b5 b6 b7 a w) (hK : ∀ a' w', St W0 pm pk pv vk vv K V key x b0 true true b3 b4 b5 b6 b7 a' w' → KK a' w') :
    Oper.wpIn (Fence.wide.inRound l) n Try.prog { dst := some 31, op := Op.buildSlice 26 1 #[(0, Operand.tmp 30)], type := 26, pos := p, after := af, guard := none } a w KK Q := by
  have e30 := h.ck.s1 rfl
  have hsz := h.tn.size
  have hk := alloc_keep w (.cells #[.string key] 9)
  have c1 := h.ck.kept (w' := w.alloc (.cells #[.string key] 9)) (fun i _ hi => hk i hi)
  have c2 := h.cv.kept (w' := w.alloc (.cells #[.string key] 9)) (fun i _ hi => hk i hi)
  have HK := hK _ _ (h.slot (d := 31) (.slice (some ⟨w.heap.size, 0, none⟩) 1 1) (by omega) ⟨c1.s0, c1.s1, fun _ => ⟨w.heap.size, rfl, heap_new w _, hsz⟩, c1.s3, c1.row⟩ c2 (h.tn.trans (Turn.alloc w _)))
  clear h hK c1 c2 hk
  go_simp
  exact HK
theorem op6 (h : St W0 pm pk pv vk vv K V key x b0 b1 b2 b3 b4 true false b7 a w) (hK : ∀ a' w', St W0 pm pk pv vk vv K V key x b0 b1 b2 b3 b4 true true b7 a' w' → KK a' w') :
    Oper.wpIn (Fence.wide.inRound l) n Try.prog { dst := some 35, op := Op.buildSlice 27 1 #[(0, Operand.tmp 34)], type := 27, pos := p, after := af, guard := none } a w KK Q := by
  have e34 := h.cv.s1 rfl
  have hsz := h.tn.size
  have hk := alloc_keep w (.cells #[.int .i64 x] 3)
  have c1 := h.ck.kept (w' := w.alloc (.cells #[.int .i64 x] 3)) (fun i _ hi => hk i hi)
  have c2 := h.cv.kept (w' := w.alloc (.cells #[.int .i64 x] 3)) (fun i _ hi => hk i hi)
  have HK := hK _ _ (h.slot (d := 35) (.slice (some ⟨w.heap.size, 0, none⟩) 1 1) (by omega) c1 ⟨c2.s0, c2.s1, fun _ => ⟨w.heap.size, rfl, heap_new w _, hsz⟩, c2.s3, c2.row⟩ (h.tn.trans (Turn.alloc w _)))
  clear h hK c1 c2 hk
  go_simp
  exact HK

theorem one_at {w : World} {q : Nat} {x : Value} {e : TypeId} (h : w.heap[q]? = some (.cells #[x] e (0, 0))) : ∀ j u, [x][j]? = some u → w.cell? ⟨q, j, none⟩ = some u := fun j u hj => by
  rw [cell_of h]
  simpa using hj

theorem op3 (h : St W0 pm pk pv vk vv K V key x true b1 true false b4 b5 b6 b7 a w) (H : Beg W0 pk pv vk vv K V) (hK : ∀ a' w', St W0 pm pk pv vk vv K V key x true b1 true true b4 b5 b6 b7 a' w' → KK a' w') :
    Oper.wpIn (Fence.wide.inRound l) n Try.prog { dst := some 32, op := Op.call { callee := Callee.builtin Builtin.append, args := #[Operand.tmp 29, Operand.tmp 31], argTypes := #[26, 26] }, type := 26, pos := p, after := af, guard := none } a w KK Q := by
  obtain ⟨q, e31, hq, hq0⟩ := h.ck.s2 rfl
  have hrow := h.ck.row rfl
  obtain ⟨A, m, rfl⟩ := own_shape H.rk
  obtain ⟨A', m', w', r1, r2, r3, r4⟩ := run_one (ty := 26) Try.underlying26 infoStr rfl (by decide) (by decide) (news := [.string key]) rfl (fun u hu => by rw [List.mem_singleton.1 hu]; rfl) hrow (by have := H.few; omega) (p := q) (one_at hq)
  have hsz := h.tn.size
  have r4' : ∀ i, (Value.slice A' (K.length + 1) m').ownBlock = some i → (Value.slice A K.length m).ownBlock = some i ∨ W0.heap.size ≤ i := fun i hi => by
    rcases r4 i hi with e | e
    · exact Or.inl e
    · right; omega
  refine opIn_append (h.ck.s0 rfl) e31 r1 (hK _ _ (h.slot (d := 32) (.slice A' (K.length + 1) m') (by omega) ⟨h.ck.s0, h.ck.s1, fun _ => ⟨q, e31, (r3.block q (lt_of hq) (fun e => ?_)).trans hq, hq0⟩, fun _ => ⟨A', m', rfl, r2, r4'⟩, fun e => by cases e⟩ (h.cv.kept fun i hi hl => r3.block i hl (fun e => ?_)) (h.tn.trans (r3.mono fun i hi => Or.inl hi))))
  · have := ownsRow_lt H.rk e
    omega
  · rcases hi with hi | hi
    · exact H.kv i e hi
    · have := ownsRow_lt H.rk e
      omega
theorem op7 (h : St W0 pm pk pv vk vv K V key x b0 b1 b2 b3 true b5 true false a w) (H : Beg W0 pk pv vk vv K V) (hK : ∀ a' w', St W0 pm pk pv vk vv K V key x b0 b1 b2 b3 true b5 true true a' w' → KK a' w') :
    Oper.wpIn (Fence.wide.inRound l) n Try.prog { dst := some 36, op := Op.call { callee := Callee.builtin Builtin.append, args := #[Operand.tmp 33, Operand.tmp 35], argTypes := #[27, 27] }, type := 27, pos := p, after := af, guard := none } a w KK Q := by
  obtain ⟨q, e35, hq, hq0⟩ := h.cv.s2 rfl
  have hrow := h.cv.row rfl
  obtain ⟨A, m, rfl⟩ := own_shape H.rv
  obtain ⟨A', m', w', r1, r2, r3, r4⟩ := run_one (ty := 27) Try.underlying27 infoInt rfl (by decide) (by decide) (news := [.int .i64 x]) rfl (fun u hu => by rw [List.mem_singleton.1 hu]; rfl) hrow (by have := H.few; omega) (p := q) (one_at hq)
  have hsz := h.tn.size
  have r4' : ∀ i, (Value.slice A' (V.length + 1) m').ownBlock = some i → (Value.slice A V.length m).ownBlock = some i ∨ W0.heap.size ≤ i := fun i hi => by
    rcases r4 i hi with e | e
    · exact Or.inl e
    · right; omega
  refine opIn_append (h.cv.s0 rfl) e35 r1 (hK _ _ (h.slot (d := 36) (.slice A' (V.length + 1) m') (by omega) (h.ck.kept fun i hi hl => r3.block i hl (fun e => ?_)) ⟨h.cv.s0, h.cv.s1, fun _ => ⟨q, e35, (r3.block q (lt_of hq) (fun e => ?_)).trans hq, hq0⟩, fun _ => ⟨A', m', rfl, r2, r4'⟩, fun e => by cases e⟩ (h.tn.trans (r3.mono fun i hi => Or.inr hi))))
  · rcases hi with hi | hi
    · exact H.kv i hi e
    · have := ownsRow_lt H.rv e
      omega
  · have := ownsRow_lt H.rv e
    omega

/-- both boxes are written -/
theorem op8 (h : St W0 pm pk pv vk vv K V key x true b1 true true true b5 true true a w) (H : Beg W0 pk pv vk vv K V) (hK : ∀ A m, a.tmps[32]? = some (.slice A (K.length + 1) m) → KK a (w.setCell ⟨pk, 0, none⟩ (.slice A (K.length + 1) m))) :
    Oper.wpIn (Fence.wide.inRound l) n Try.prog { dst := none, op := Op.store 26 (Operand.tmp 8) (Operand.tmp 32), type := 0, pos := p, after := af, guard := none } a w KK Q := by
  obtain ⟨hbk, -⟩ := h.box H
  have c0 : w.cell? ⟨pk, 0, none⟩ = some vk := by rw [cell_of hbk]; rfl
  have f0 := frozen_of hbk 0
  obtain ⟨A, m, e32, -, -⟩ := h.ck.s3 rfl
  have e8 := h.e8
  have HK := hK A m e32
  obtain ⟨A0, m0, rfl⟩ := own_shape H.rk
  clear h hK
  go_simp
  exact HK
theorem op9 {W : World} (e9 : a.tmps[9]? = some (.pointer (some ⟨pv, 0, none⟩))) {A : Option Addr} {k m : Nat} (e36 : a.tmps[36]? = some (.slice A k m)) {A0 : Option Addr} {k0 m0 : Nat} (c0 : W.cell? ⟨pv, 0, none⟩ = some (.slice A0 k0 m0)) (f0 : W.frozen? ⟨pv, 0, none⟩ = false) (HK : KK a (W.setCell ⟨pv, 0, none⟩ (.slice A k m))) :
    Oper.wpIn (Fence.wide.inRound l) n Try.prog { dst := none, op := Op.store 27 (Operand.tmp 9) (Operand.tmp 36), type := 0, pos := p, after := af, guard := none } a W KK Q := by
  go_simp
  exact HK
end

end Go.Proofs.Ytoknebbkpkcomaa

/- A round of a scan, its first statement: every order that its ten operations may come in (written by a program). -/
namespace Go.Proofs.Ytoknebbkpkcomaa
open Go.RowKit Go.Shelf

structure Ops7 (ops : Array Oper) : Prop where
  o0 : ∃ p af, ops[0]? = some { dst := some 29, op := Op.load 26 (Operand.tmp 8), type := 26, pos := p, after := af, guard := none }
  o1 : ∃ p af, ops[1]? = some { dst := some 30, op := Op.move (Operand.tmp 13), type := 9, pos := p, after := af, guard := none }
  o2 : ∃ p af, ops[2]? = some { dst := some 31, op := Op.buildSlice 26 1 #[(0, Operand.tmp 30)], type := 26, pos := p, after := af, guard := none }
  o3 : ∃ p af, ops[3]? = some { dst := some 32, op := Op.call { callee := Callee.builtin Builtin.append, args := #[Operand.tmp 29, Operand.tmp 31], argTypes := #[26, 26] }, type := 26, pos := p, after := af, guard := none }
  o4 : ∃ p af, ops[4]? = some { dst := some 33, op := Op.load 27 (Operand.tmp 9), type := 27, pos := p, after := af, guard := none }
  o5 : ∃ p af, ops[5]? = some { dst := some 34, op := Op.move (Operand.tmp 14), type := 3, pos := p, after := af, guard := none }
  o6 : ∃ p af, ops[6]? = some { dst := some 35, op := Op.buildSlice 27 1 #[(0, Operand.tmp 34)], type := 27, pos := p, after := af, guard := none }
  o7 : ∃ p af, ops[7]? = some { dst := some 36, op := Op.call { callee := Callee.builtin Builtin.append, args := #[Operand.tmp 33, Operand.tmp 35], argTypes := #[27, 27] }, type := 27, pos := p, after := af, guard := none }
  o8 : ∃ p af, ops[8]? = some { dst := none, op := Op.store 26 (Operand.tmp 8) (Operand.tmp 32), type := 0, pos := p, after := af, guard := none }
  o9 : ∃ p af, ops[9]? = some { dst := none, op := Op.store 27 (Operand.tmp 9) (Operand.tmp 36), type := 0, pos := p, after := af, guard := none }
  r1111111111 : Region.ready .any ops #[true, true, true, true, true, true, true, true, true, true] = []
  r1111111110 : Region.ready .any ops #[true, true, true, true, true, true, true, true, true, false] = [9]
  r1111111100 : Region.ready .any ops #[true, true, true, true, true, true, true, true, false, false] = [8]
  r1111111000 : Region.ready .any ops #[true, true, true, true, true, true, true, false, false, false] = [7]
  r1111110000 : Region.ready .any ops #[true, true, true, true, true, true, false, false, false, false] = [6]
  r1111100000 : Region.ready .any ops #[true, true, true, true, true, false, false, false, false, false] = [5]
  r1111011000 : Region.ready .any ops #[true, true, true, true, false, true, true, false, false, false] = [4]
  r1111010000 : Region.ready .any ops #[true, true, true, true, false, true, false, false, false, false] = [4, 6]
  r1111000000 : Region.ready .any ops #[true, true, true, true, false, false, false, false, false, false] = [4, 5]
  r1110111000 : Region.ready .any ops #[true, true, true, false, true, true, true, false, false, false] = [3]
  r1110110000 : Region.ready .any ops #[true, true, true, false, true, true, false, false, false, false] = [3, 6]
  r1110100000 : Region.ready .any ops #[true, true, true, false, true, false, false, false, false, false] = [3, 5]
  r1110011000 : Region.ready .any ops #[true, true, true, false, false, true, true, false, false, false] = [3, 4]
  r1110010000 : Region.ready .any ops #[true, true, true, false, false, true, false, false, false, false] = [3, 4, 6]
  r1110000000 : Region.ready .any ops #[true, true, true, false, false, false, false, false, false, false] = [3, 4, 5]
  r1100111000 : Region.ready .any ops #[true, true, false, false, true, true, true, false, false, false] = [2]
  r1100110000 : Region.ready .any ops #[true, true, false, false, true, true, false, false, false, false] = [2, 6]
  r1100100000 : Region.ready .any ops #[true, true, false, false, true, false, false, false, false, false] = [2, 5]
  r1100011000 : Region.ready .any ops #[true, true, false, false, false, true, true, false, false, false] = [2, 4]
  r1100010000 : Region.ready .any ops #[true, true, false, false, false, true, false, false, false, false] = [2, 4, 6]
  r1100000000 : Region.ready .any ops #[true, true, false, false, false, false, false, false, false, false] = [2, 4, 5]
  r1000111000 : Region.ready .any ops #[true, false, false, false, true, true, true, false, false, false] = [1]
  r1000110000 : Region.ready .any ops #[true, false, false, false, true, true, false, false, false, false] = [1, 6]
  r1000100000 : Region.ready .any ops #[true, false, false, false, true, false, false, false, false, false] = [1, 5]
  r1000011000 : Region.ready .any ops #[true, false, false, false, false, true, true, false, false, false] = [1, 4]
  r1000010000 : Region.ready .any ops #[true, false, false, false, false, true, false, false, false, false] = [1, 4, 6]
  r1000000000 : Region.ready .any ops #[true, false, false, false, false, false, false, false, false, false] = [1, 4, 5]
  r0110111000 : Region.ready .any ops #[false, true, true, false, true, true, true, false, false, false] = [0]
  r0110110000 : Region.ready .any ops #[false, true, true, false, true, true, false, false, false, false] = [0, 6]
  r0110100000 : Region.ready .any ops #[false, true, true, false, true, false, false, false, false, false] = [0, 5]
  r0110011000 : Region.ready .any ops #[false, true, true, false, false, true, true, false, false, false] = [0, 4]
  r0110010000 : Region.ready .any ops #[false, true, true, false, false, true, false, false, false, false] = [0, 4, 6]
  r0110000000 : Region.ready .any ops #[false, true, true, false, false, false, false, false, false, false] = [0, 4, 5]
  r0100111000 : Region.ready .any ops #[false, true, false, false, true, true, true, false, false, false] = [0, 2]
  r0100110000 : Region.ready .any ops #[false, true, false, false, true, true, false, false, false, false] = [0, 2, 6]
  r0100100000 : Region.ready .any ops #[false, true, false, false, true, false, false, false, false, false] = [0, 2, 5]
  r0100011000 : Region.ready .any ops #[false, true, false, false, false, true, true, false, false, false] = [0, 2, 4]
  r0100010000 : Region.ready .any ops #[false, true, false, false, false, true, false, false, false, false] = [0, 2, 4, 6]
  r0100000000 : Region.ready .any ops #[false, true, false, false, false, false, false, false, false, false] = [0, 2, 4, 5]
  r0000111000 : Region.ready .any ops #[false, false, false, false, true, true, true, false, false, false] = [0, 1]
  r0000110000 : Region.ready .any ops #[false, false, false, false, true, true, false, false, false, false] = [0, 1, 6]
  r0000100000 : Region.ready .any ops #[false, false, false, false, true, false, false, false, false, false] = [0, 1, 5]
  r0000011000 : Region.ready .any ops #[false, false, false, false, false, true, true, false, false, false] = [0, 1, 4]
  r0000010000 : Region.ready .any ops #[false, false, false, false, false, true, false, false, false, false] = [0, 1, 4, 6]
  r0000000000 : Region.ready .any ops #[false, false, false, false, false, false, false, false, false, false] = [0, 1, 4, 5]

/-- both boxes and both rows, when all is done -/
def Fin7 (W0 : World) (pm pk pv : Nat) (vk vv : Value) (K : List ByteArray) (V : List Int) (key : ByteArray) (x : Int) (a : Act) (w : World) : Prop :=
  ∃ w1 A m A' m', St W0 pm pk pv vk vv K V key x true true true true true true true true a w1 ∧ a.tmps[32]? = some (.slice A (K.length + 1) m) ∧ a.tmps[36]? = some (.slice A' (V.length + 1) m') ∧ w = (w1.setCell ⟨pk, 0, none⟩ (.slice A (K.length + 1) m)).setCell ⟨pv, 0, none⟩ (.slice A' (V.length + 1) m')

theorem step_of {l n : Nat} {ops : Array Oper} {Q : Exit → Act → World → Prop} {i : Nat} {o : Oper} {KK : Act → World → Prop} {a : Act} {w : World} (ho : ops[i]? = some o) (hg : o.guard = none) (h : Oper.wpIn (Fence.wide.inRound l) n Try.prog o a w KK Q) : wpOpIn (Fence.wide.inRound l) n Try.prog ops Q i KK a w := by
  unfold wpOpIn
  rw [ho]
  have hw : Region.wanted o (yielded ops a.tmps) = true := by simp [Region.wanted, hg]
  simp only [hw, if_true]
  exact h

section
variable {l n : Nat} {ops : Array Oper} {Q : Exit → Act → World → Prop} {W0 : World} {pm pk pv : Nat} {vk vv : Value} {K : List ByteArray} {V : List Int} {key : ByteArray} {x : Int}

theorem w1111111111 (O : Ops7 ops) (_H : Beg W0 pk pv vk vv K V) (hQ : ∀ a w, Fin7 W0 pm pk pv vk vv K V key x a w → Q .normal a w) (a : Act) (w : World) (h : Fin7 W0 pm pk pv vk vv K V key x a w) : wpAnyIn (Fence.wide.inRound l) n Try.prog .any ops Q 0 #[true, true, true, true, true, true, true, true, true, true] a w := wpAnyIn_done O.r1111111111 (hQ a w h) _
theorem w1111111110 (O : Ops7 ops) (H : Beg W0 pk pv vk vv K V) (hQ : ∀ a w, Fin7 W0 pm pk pv vk vv K V key x a w → Q .normal a w) (a : Act) (w : World) (h : ∃ w1 A m, St W0 pm pk pv vk vv K V key x true true true true true true true true a w1 ∧ a.tmps[32]? = some (.slice A (K.length + 1) m) ∧ w = w1.setCell ⟨pk, 0, none⟩ (.slice A (K.length + 1) m)) : wpAnyIn (Fence.wide.inRound l) n Try.prog .any ops Q 1 #[true, true, true, true, true, true, true, true, true, false] a w := by
  obtain ⟨w1, A, m, hS, e32, rfl⟩ := h
  obtain ⟨A', m', e36, -, -⟩ := hS.cv.s3 rfl
  obtain ⟨hbk, hbv⟩ := hS.box H
  have hne : pv ≠ pk := fun e => by
    subst e
    rw [hbk] at hbv
    injection hbv with hbv
    injection hbv with _ hbv
    cases hbv
  have hbv' : (w1.setCell ⟨pk, 0, none⟩ (.slice A (K.length + 1) m)).heap[pv]? = some (boxO vv 27) := (Below.heap_setCell w1 ⟨pk, 0, none⟩ _ pv hne).trans hbv
  obtain ⟨A0, m0, rfl⟩ := own_shape H.rv
  obtain ⟨p, af, ho⟩ := O.o9
  refine wpAnyIn_ready O.r1111111110 (by simp) fun i hi => ?_
  rw [List.mem_singleton.1 hi]
  exact step_of ho rfl (op9 hS.e9 e36 (by rw [cell_of hbv']; rfl) (frozen_of hbv' _) (w1111111111 O H hQ a _ ⟨w1, A, m, A', m', hS, e32, e36, rfl⟩))
theorem w1111111100 (O : Ops7 ops) (H : Beg W0 pk pv vk vv K V) (hQ : ∀ a w, Fin7 W0 pm pk pv vk vv K V key x a w → Q .normal a w) (a : Act) (w : World) (h : St W0 pm pk pv vk vv K V key x true true true true true true true true a w) : wpAnyIn (Fence.wide.inRound l) n Try.prog .any ops Q 2 #[true, true, true, true, true, true, true, true, false, false] a w := by
  refine wpAnyIn_ready O.r1111111100 (by simp) fun i hi => ?_
  rw [List.mem_singleton.1 hi]
  obtain ⟨p, af, ho⟩ := O.o8
  exact step_of ho rfl (op8 h H fun A m e32 => w1111111110 O H hQ a _ ⟨w, A, m, h, e32, rfl⟩)
theorem w1111111000 (O : Ops7 ops) (H : Beg W0 pk pv vk vv K V) (hQ : ∀ a w, Fin7 W0 pm pk pv vk vv K V key x a w → Q .normal a w) (a : Act) (w : World) (h : St W0 pm pk pv vk vv K V key x true true true true true true true false a w) : wpAnyIn (Fence.wide.inRound l) n Try.prog .any ops Q 3 #[true, true, true, true, true, true, true, false, false, false] a w := by
  refine wpAnyIn_ready O.r1111111000 (by simp) fun i hi => ?_
  rw [List.mem_singleton.1 hi]
  obtain ⟨p, af, ho⟩ := O.o7
  exact step_of ho rfl (op7 h H (w1111111100 O H hQ))
theorem w1111110000 (O : Ops7 ops) (H : Beg W0 pk pv vk vv K V) (hQ : ∀ a w, Fin7 W0 pm pk pv vk vv K V key x a w → Q .normal a w) (a : Act) (w : World) (h : St W0 pm pk pv vk vv K V key x true true true true true true false false a w) : wpAnyIn (Fence.wide.inRound l) n Try.prog .any ops Q 4 #[true, true, true, true, true, true, false, false, false, false] a w := by
  refine wpAnyIn_ready O.r1111110000 (by simp) fun i hi => ?_
  rw [List.mem_singleton.1 hi]
  obtain ⟨p, af, ho⟩ := O.o6
  exact step_of ho rfl (op6 h (w1111111000 O H hQ))
theorem w1111100000 (O : Ops7 ops) (H : Beg W0 pk pv vk vv K V) (hQ : ∀ a w, Fin7 W0 pm pk pv vk vv K V key x a w → Q .normal a w) (a : Act) (w : World) (h : St W0 pm pk pv vk vv K V key x true true true true true false false false a w) : wpAnyIn (Fence.wide.inRound l) n Try.prog .any ops Q 5 #[true, true, true, true, true, false, false, false, false, false] a w := by
  refine wpAnyIn_ready O.r1111100000 (by simp) fun i hi => ?_
  rw [List.mem_singleton.1 hi]
  obtain ⟨p, af, ho⟩ := O.o5
  exact step_of ho rfl (op5 h (w1111110000 O H hQ))
theorem w1111011000 (O : Ops7 ops) (H : Beg W0 pk pv vk vv K V) (hQ : ∀ a w, Fin7 W0 pm pk pv vk vv K V key x a w → Q .normal a w) (a : Act) (w : World) (h : St W0 pm pk pv vk vv K V key x true true true true false true true false a w) : wpAnyIn (Fence.wide.inRound l) n Try.prog .any ops Q 4 #[true, true, true, true, false, true, true, false, false, false] a w := by
  refine wpAnyIn_ready O.r1111011000 (by simp) fun i hi => ?_
  rw [List.mem_singleton.1 hi]
  obtain ⟨p, af, ho⟩ := O.o4
  exact step_of ho rfl (op4 h H (w1111111000 O H hQ))
theorem w1111010000 (O : Ops7 ops) (H : Beg W0 pk pv vk vv K V) (hQ : ∀ a w, Fin7 W0 pm pk pv vk vv K V key x a w → Q .normal a w) (a : Act) (w : World) (h : St W0 pm pk pv vk vv K V key x true true true true false true false false a w) : wpAnyIn (Fence.wide.inRound l) n Try.prog .any ops Q 5 #[true, true, true, true, false, true, false, false, false, false] a w := by
  refine wpAnyIn_ready O.r1111010000 (by simp) fun i hi => ?_
  simp only [List.mem_cons, List.not_mem_nil, or_false] at hi
  rcases hi with rfl | rfl
  · obtain ⟨p, af, ho⟩ := O.o4
    exact step_of ho rfl (op4 h H (w1111110000 O H hQ))
  · obtain ⟨p, af, ho⟩ := O.o6
    exact step_of ho rfl (op6 h (w1111011000 O H hQ))
theorem w1111000000 (O : Ops7 ops) (H : Beg W0 pk pv vk vv K V) (hQ : ∀ a w, Fin7 W0 pm pk pv vk vv K V key x a w → Q .normal a w) (a : Act) (w : World) (h : St W0 pm pk pv vk vv K V key x true true true true false false false false a w) : wpAnyIn (Fence.wide.inRound l) n Try.prog .any ops Q 6 #[true, true, true, true, false, false, false, false, false, false] a w := by
  refine wpAnyIn_ready O.r1111000000 (by simp) fun i hi => ?_
  simp only [List.mem_cons, List.not_mem_nil, or_false] at hi
  rcases hi with rfl | rfl
  · obtain ⟨p, af, ho⟩ := O.o4
    exact step_of ho rfl (op4 h H (w1111100000 O H hQ))
  · obtain ⟨p, af, ho⟩ := O.o5
    exact step_of ho rfl (op5 h (w1111010000 O H hQ))
theorem w1110111000 (O : Ops7 ops) (H : Beg W0 pk pv vk vv K V) (hQ : ∀ a w, Fin7 W0 pm pk pv vk vv K V key x a w → Q .normal a w) (a : Act) (w : World) (h : St W0 pm pk pv vk vv K V key x true true true false true true true false a w) : wpAnyIn (Fence.wide.inRound l) n Try.prog .any ops Q 4 #[true, true, true, false, true, true, true, false, false, false] a w := by
  refine wpAnyIn_ready O.r1110111000 (by simp) fun i hi => ?_
  rw [List.mem_singleton.1 hi]
  obtain ⟨p, af, ho⟩ := O.o3
  exact step_of ho rfl (op3 h H (w1111111000 O H hQ))
theorem w1110110000 (O : Ops7 ops) (H : Beg W0 pk pv vk vv K V) (hQ : ∀ a w, Fin7 W0 pm pk pv vk vv K V key x a w → Q .normal a w) (a : Act) (w : World) (h : St W0 pm pk pv vk vv K V key x true true true false true true false false a w) : wpAnyIn (Fence.wide.inRound l) n Try.prog .any ops Q 5 #[true, true, true, false, true, true, false, false, false, false] a w := by
  refine wpAnyIn_ready O.r1110110000 (by simp) fun i hi => ?_
  simp only [List.mem_cons, List.not_mem_nil, or_false] at hi
  rcases hi with rfl | rfl
  · obtain ⟨p, af, ho⟩ := O.o3
    exact step_of ho rfl (op3 h H (w1111110000 O H hQ))
  · obtain ⟨p, af, ho⟩ := O.o6
    exact step_of ho rfl (op6 h (w1110111000 O H hQ))
theorem w1110100000 (O : Ops7 ops) (H : Beg W0 pk pv vk vv K V) (hQ : ∀ a w, Fin7 W0 pm pk pv vk vv K V key x a w → Q .normal a w) (a : Act) (w : World) (h : St W0 pm pk pv vk vv K V key x true true true false true false false false a w) : wpAnyIn (Fence.wide.inRound l) n Try.prog .any ops Q 6 #[true, true, true, false, true, false, false, false, false, false] a w := by
  refine wpAnyIn_ready O.r1110100000 (by simp) fun i hi => ?_
  simp only [List.mem_cons, List.not_mem_nil, or_false] at hi
  rcases hi with rfl | rfl
  · obtain ⟨p, af, ho⟩ := O.o3
    exact step_of ho rfl (op3 h H (w1111100000 O H hQ))
  · obtain ⟨p, af, ho⟩ := O.o5
    exact step_of ho rfl (op5 h (w1110110000 O H hQ))
theorem w1110011000 (O : Ops7 ops) (H : Beg W0 pk pv vk vv K V) (hQ : ∀ a w, Fin7 W0 pm pk pv vk vv K V key x a w → Q .normal a w) (a : Act) (w : World) (h : St W0 pm pk pv vk vv K V key x true true true false false true true false a w) : wpAnyIn (Fence.wide.inRound l) n Try.prog .any ops Q 5 #[true, true, true, false, false, true, true, false, false, false] a w := by
  refine wpAnyIn_ready O.r1110011000 (by simp) fun i hi => ?_
  simp only [List.mem_cons, List.not_mem_nil, or_false] at hi
  rcases hi with rfl | rfl
  · obtain ⟨p, af, ho⟩ := O.o3
    exact step_of ho rfl (op3 h H (w1111011000 O H hQ))
  · obtain ⟨p, af, ho⟩ := O.o4
    exact step_of ho rfl (op4 h H (w1110111000 O H hQ))
theorem w1110010000 (O : Ops7 ops) (H : Beg W0 pk pv vk vv K V) (hQ : ∀ a w, Fin7 W0 pm pk pv vk vv K V key x a w → Q .normal a w) (a : Act) (w : World) (h : St W0 pm pk pv vk vv K V key x true true true false false true false false a w) : wpAnyIn (Fence.wide.inRound l) n Try.prog .any ops Q 6 #[true, true, true, false, false, true, false, false, false, false] a w := by
  refine wpAnyIn_ready O.r1110010000 (by simp) fun i hi => ?_
  simp only [List.mem_cons, List.not_mem_nil, or_false] at hi
  rcases hi with rfl | rfl | rfl
  · obtain ⟨p, af, ho⟩ := O.o3
    exact step_of ho rfl (op3 h H (w1111010000 O H hQ))
  · obtain ⟨p, af, ho⟩ := O.o4
    exact step_of ho rfl (op4 h H (w1110110000 O H hQ))
  · obtain ⟨p, af, ho⟩ := O.o6
    exact step_of ho rfl (op6 h (w1110011000 O H hQ))
theorem w1110000000 (O : Ops7 ops) (H : Beg W0 pk pv vk vv K V) (hQ : ∀ a w, Fin7 W0 pm pk pv vk vv K V key x a w → Q .normal a w) (a : Act) (w : World) (h : St W0 pm pk pv vk vv K V key x true true true false false false false false a w) : wpAnyIn (Fence.wide.inRound l) n Try.prog .any ops Q 7 #[true, true, true, false, false, false, false, false, false, false] a w := by
  refine wpAnyIn_ready O.r1110000000 (by simp) fun i hi => ?_
  simp only [List.mem_cons, List.not_mem_nil, or_false] at hi
  rcases hi with rfl | rfl | rfl
  · obtain ⟨p, af, ho⟩ := O.o3
    exact step_of ho rfl (op3 h H (w1111000000 O H hQ))
  · obtain ⟨p, af, ho⟩ := O.o4
    exact step_of ho rfl (op4 h H (w1110100000 O H hQ))
  · obtain ⟨p, af, ho⟩ := O.o5
    exact step_of ho rfl (op5 h (w1110010000 O H hQ))
theorem w1100111000 (O : Ops7 ops) (H : Beg W0 pk pv vk vv K V) (hQ : ∀ a w, Fin7 W0 pm pk pv vk vv K V key x a w → Q .normal a w) (a : Act) (w : World) (h : St W0 pm pk pv vk vv K V key x true true false false true true true false a w) : wpAnyIn (Fence.wide.inRound l) n Try.prog .any ops Q 5 #[true, true, false, false, true, true, true, false, false, false] a w := by
  refine wpAnyIn_ready O.r1100111000 (by simp) fun i hi => ?_
  rw [List.mem_singleton.1 hi]
  obtain ⟨p, af, ho⟩ := O.o2
  exact step_of ho rfl (op2 h (w1110111000 O H hQ))
theorem w1100110000 (O : Ops7 ops) (H : Beg W0 pk pv vk vv K V) (hQ : ∀ a w, Fin7 W0 pm pk pv vk vv K V key x a w → Q .normal a w) (a : Act) (w : World) (h : St W0 pm pk pv vk vv K V key x true true false false true true false false a w) : wpAnyIn (Fence.wide.inRound l) n Try.prog .any ops Q 6 #[true, true, false, false, true, true, false, false, false, false] a w := by
  refine wpAnyIn_ready O.r1100110000 (by simp) fun i hi => ?_
  simp only [List.mem_cons, List.not_mem_nil, or_false] at hi
  rcases hi with rfl | rfl
  · obtain ⟨p, af, ho⟩ := O.o2
    exact step_of ho rfl (op2 h (w1110110000 O H hQ))
  · obtain ⟨p, af, ho⟩ := O.o6
    exact step_of ho rfl (op6 h (w1100111000 O H hQ))
theorem w1100100000 (O : Ops7 ops) (H : Beg W0 pk pv vk vv K V) (hQ : ∀ a w, Fin7 W0 pm pk pv vk vv K V key x a w → Q .normal a w) (a : Act) (w : World) (h : St W0 pm pk pv vk vv K V key x true true false false true false false false a w) : wpAnyIn (Fence.wide.inRound l) n Try.prog .any ops Q 7 #[true, true, false, false, true, false, false, false, false, false] a w := by
  refine wpAnyIn_ready O.r1100100000 (by simp) fun i hi => ?_
  simp only [List.mem_cons, List.not_mem_nil, or_false] at hi
  rcases hi with rfl | rfl
  · obtain ⟨p, af, ho⟩ := O.o2
    exact step_of ho rfl (op2 h (w1110100000 O H hQ))
  · obtain ⟨p, af, ho⟩ := O.o5
    exact step_of ho rfl (op5 h (w1100110000 O H hQ))
theorem w1100011000 (O : Ops7 ops) (H : Beg W0 pk pv vk vv K V) (hQ : ∀ a w, Fin7 W0 pm pk pv vk vv K V key x a w → Q .normal a w) (a : Act) (w : World) (h : St W0 pm pk pv vk vv K V key x true true false false false true true false a w) : wpAnyIn (Fence.wide.inRound l) n Try.prog .any ops Q 6 #[true, true, false, false, false, true, true, false, false, false] a w := by
  refine wpAnyIn_ready O.r1100011000 (by simp) fun i hi => ?_
  simp only [List.mem_cons, List.not_mem_nil, or_false] at hi
  rcases hi with rfl | rfl
  · obtain ⟨p, af, ho⟩ := O.o2
    exact step_of ho rfl (op2 h (w1110011000 O H hQ))
  · obtain ⟨p, af, ho⟩ := O.o4
    exact step_of ho rfl (op4 h H (w1100111000 O H hQ))
theorem w1100010000 (O : Ops7 ops) (H : Beg W0 pk pv vk vv K V) (hQ : ∀ a w, Fin7 W0 pm pk pv vk vv K V key x a w → Q .normal a w) (a : Act) (w : World) (h : St W0 pm pk pv vk vv K V key x true true false false false true false false a w) : wpAnyIn (Fence.wide.inRound l) n Try.prog .any ops Q 7 #[true, true, false, false, false, true, false, false, false, false] a w := by
  refine wpAnyIn_ready O.r1100010000 (by simp) fun i hi => ?_
  simp only [List.mem_cons, List.not_mem_nil, or_false] at hi
  rcases hi with rfl | rfl | rfl
  · obtain ⟨p, af, ho⟩ := O.o2
    exact step_of ho rfl (op2 h (w1110010000 O H hQ))
  · obtain ⟨p, af, ho⟩ := O.o4
    exact step_of ho rfl (op4 h H (w1100110000 O H hQ))
  · obtain ⟨p, af, ho⟩ := O.o6
    exact step_of ho rfl (op6 h (w1100011000 O H hQ))
theorem w1100000000 (O : Ops7 ops) (H : Beg W0 pk pv vk vv K V) (hQ : ∀ a w, Fin7 W0 pm pk pv vk vv K V key x a w → Q .normal a w) (a : Act) (w : World) (h : St W0 pm pk pv vk vv K V key x true true false false false false false false a w) : wpAnyIn (Fence.wide.inRound l) n Try.prog .any ops Q 8 #[true, true, false, false, false, false, false, false, false, false] a w := by
  refine wpAnyIn_ready O.r1100000000 (by simp) fun i hi => ?_
  simp only [List.mem_cons, List.not_mem_nil, or_false] at hi
  rcases hi with rfl | rfl | rfl
  · obtain ⟨p, af, ho⟩ := O.o2
    exact step_of ho rfl (op2 h (w1110000000 O H hQ))
  · obtain ⟨p, af, ho⟩ := O.o4
    exact step_of ho rfl (op4 h H (w1100100000 O H hQ))
  · obtain ⟨p, af, ho⟩ := O.o5
    exact step_of ho rfl (op5 h (w1100010000 O H hQ))
theorem w1000111000 (O : Ops7 ops) (H : Beg W0 pk pv vk vv K V) (hQ : ∀ a w, Fin7 W0 pm pk pv vk vv K V key x a w → Q .normal a w) (a : Act) (w : World) (h : St W0 pm pk pv vk vv K V key x true false false false true true true false a w) : wpAnyIn (Fence.wide.inRound l) n Try.prog .any ops Q 6 #[true, false, false, false, true, true, true, false, false, false] a w := by
  refine wpAnyIn_ready O.r1000111000 (by simp) fun i hi => ?_
  rw [List.mem_singleton.1 hi]
  obtain ⟨p, af, ho⟩ := O.o1
  exact step_of ho rfl (op1 h (w1100111000 O H hQ))
theorem w1000110000 (O : Ops7 ops) (H : Beg W0 pk pv vk vv K V) (hQ : ∀ a w, Fin7 W0 pm pk pv vk vv K V key x a w → Q .normal a w) (a : Act) (w : World) (h : St W0 pm pk pv vk vv K V key x true false false false true true false false a w) : wpAnyIn (Fence.wide.inRound l) n Try.prog .any ops Q 7 #[true, false, false, false, true, true, false, false, false, false] a w := by
  refine wpAnyIn_ready O.r1000110000 (by simp) fun i hi => ?_
  simp only [List.mem_cons, List.not_mem_nil, or_false] at hi
  rcases hi with rfl | rfl
  · obtain ⟨p, af, ho⟩ := O.o1
    exact step_of ho rfl (op1 h (w1100110000 O H hQ))
  · obtain ⟨p, af, ho⟩ := O.o6
    exact step_of ho rfl (op6 h (w1000111000 O H hQ))
theorem w1000100000 (O : Ops7 ops) (H : Beg W0 pk pv vk vv K V) (hQ : ∀ a w, Fin7 W0 pm pk pv vk vv K V key x a w → Q .normal a w) (a : Act) (w : World) (h : St W0 pm pk pv vk vv K V key x true false false false true false false false a w) : wpAnyIn (Fence.wide.inRound l) n Try.prog .any ops Q 8 #[true, false, false, false, true, false, false, false, false, false] a w := by
  refine wpAnyIn_ready O.r1000100000 (by simp) fun i hi => ?_
  simp only [List.mem_cons, List.not_mem_nil, or_false] at hi
  rcases hi with rfl | rfl
  · obtain ⟨p, af, ho⟩ := O.o1
    exact step_of ho rfl (op1 h (w1100100000 O H hQ))
  · obtain ⟨p, af, ho⟩ := O.o5
    exact step_of ho rfl (op5 h (w1000110000 O H hQ))
theorem w1000011000 (O : Ops7 ops) (H : Beg W0 pk pv vk vv K V) (hQ : ∀ a w, Fin7 W0 pm pk pv vk vv K V key x a w → Q .normal a w) (a : Act) (w : World) (h : St W0 pm pk pv vk vv K V key x true false false false false true true false a w) : wpAnyIn (Fence.wide.inRound l) n Try.prog .any ops Q 7 #[true, false, false, false, false, true, true, false, false, false] a w := by
  refine wpAnyIn_ready O.r1000011000 (by simp) fun i hi => ?_
  simp only [List.mem_cons, List.not_mem_nil, or_false] at hi
  rcases hi with rfl | rfl
  · obtain ⟨p, af, ho⟩ := O.o1
    exact step_of ho rfl (op1 h (w1100011000 O H hQ))
  · obtain ⟨p, af, ho⟩ := O.o4
    exact step_of ho rfl (op4 h H (w1000111000 O H hQ))
theorem w1000010000 (O : Ops7 ops) (H : Beg W0 pk pv vk vv K V) (hQ : ∀ a w, Fin7 W0 pm pk pv vk vv K V key x a w → Q .normal a w) (a : Act) (w : World) (h : St W0 pm pk pv vk vv K V key x true false false false false true false false a w) : wpAnyIn (Fence.wide.inRound l) n Try.prog .any ops Q 8 #[true, false, false, false, false, true, false, false, false, false] a w := by
  refine wpAnyIn_ready O.r1000010000 (by simp) fun i hi => ?_
  simp only [List.mem_cons, List.not_mem_nil, or_false] at hi
  rcases hi with rfl | rfl | rfl
  · obtain ⟨p, af, ho⟩ := O.o1
    exact step_of ho rfl (op1 h (w1100010000 O H hQ))
  · obtain ⟨p, af, ho⟩ := O.o4
    exact step_of ho rfl (op4 h H (w1000110000 O H hQ))
  · obtain ⟨p, af, ho⟩ := O.o6
    exact step_of ho rfl (op6 h (w1000011000 O H hQ))
theorem w1000000000 (O : Ops7 ops) (H : Beg W0 pk pv vk vv K V) (hQ : ∀ a w, Fin7 W0 pm pk pv vk vv K V key x a w → Q .normal a w) (a : Act) (w : World) (h : St W0 pm pk pv vk vv K V key x true false false false false false false false a w) : wpAnyIn (Fence.wide.inRound l) n Try.prog .any ops Q 9 #[true, false, false, false, false, false, false, false, false, false] a w := by
  refine wpAnyIn_ready O.r1000000000 (by simp) fun i hi => ?_
  simp only [List.mem_cons, List.not_mem_nil, or_false] at hi
  rcases hi with rfl | rfl | rfl
  · obtain ⟨p, af, ho⟩ := O.o1
    exact step_of ho rfl (op1 h (w1100000000 O H hQ))
  · obtain ⟨p, af, ho⟩ := O.o4
    exact step_of ho rfl (op4 h H (w1000100000 O H hQ))
  · obtain ⟨p, af, ho⟩ := O.o5
    exact step_of ho rfl (op5 h (w1000010000 O H hQ))
theorem w0110111000 (O : Ops7 ops) (H : Beg W0 pk pv vk vv K V) (hQ : ∀ a w, Fin7 W0 pm pk pv vk vv K V key x a w → Q .normal a w) (a : Act) (w : World) (h : St W0 pm pk pv vk vv K V key x false true true false true true true false a w) : wpAnyIn (Fence.wide.inRound l) n Try.prog .any ops Q 5 #[false, true, true, false, true, true, true, false, false, false] a w := by
  refine wpAnyIn_ready O.r0110111000 (by simp) fun i hi => ?_
  rw [List.mem_singleton.1 hi]
  obtain ⟨p, af, ho⟩ := O.o0
  exact step_of ho rfl (op0 h H (w1110111000 O H hQ))
theorem w0110110000 (O : Ops7 ops) (H : Beg W0 pk pv vk vv K V) (hQ : ∀ a w, Fin7 W0 pm pk pv vk vv K V key x a w → Q .normal a w) (a : Act) (w : World) (h : St W0 pm pk pv vk vv K V key x false true true false true true false false a w) : wpAnyIn (Fence.wide.inRound l) n Try.prog .any ops Q 6 #[false, true, true, false, true, true, false, false, false, false] a w := by
  refine wpAnyIn_ready O.r0110110000 (by simp) fun i hi => ?_
  simp only [List.mem_cons, List.not_mem_nil, or_false] at hi
  rcases hi with rfl | rfl
  · obtain ⟨p, af, ho⟩ := O.o0
    exact step_of ho rfl (op0 h H (w1110110000 O H hQ))
  · obtain ⟨p, af, ho⟩ := O.o6
    exact step_of ho rfl (op6 h (w0110111000 O H hQ))
theorem w0110100000 (O : Ops7 ops) (H : Beg W0 pk pv vk vv K V) (hQ : ∀ a w, Fin7 W0 pm pk pv vk vv K V key x a w → Q .normal a w) (a : Act) (w : World) (h : St W0 pm pk pv vk vv K V key x false true true false true false false false a w) : wpAnyIn (Fence.wide.inRound l) n Try.prog .any ops Q 7 #[false, true, true, false, true, false, false, false, false, false] a w := by
  refine wpAnyIn_ready O.r0110100000 (by simp) fun i hi => ?_
  simp only [List.mem_cons, List.not_mem_nil, or_false] at hi
  rcases hi with rfl | rfl
  · obtain ⟨p, af, ho⟩ := O.o0
    exact step_of ho rfl (op0 h H (w1110100000 O H hQ))
  · obtain ⟨p, af, ho⟩ := O.o5
    exact step_of ho rfl (op5 h (w0110110000 O H hQ))
theorem w0110011000 (O : Ops7 ops) (H : Beg W0 pk pv vk vv K V) (hQ : ∀ a w, Fin7 W0 pm pk pv vk vv K V key x a w → Q .normal a w) (a : Act) (w : World) (h : St W0 pm pk pv vk vv K V key x false true true false false true true false a w) : wpAnyIn (Fence.wide.inRound l) n Try.prog .any ops Q 6 #[false, true, true, false, false, true, true, false, false, false] a w := by
  refine wpAnyIn_ready O.r0110011000 (by simp) fun i hi => ?_
  simp only [List.mem_cons, List.not_mem_nil, or_false] at hi
  rcases hi with rfl | rfl
  · obtain ⟨p, af, ho⟩ := O.o0
    exact step_of ho rfl (op0 h H (w1110011000 O H hQ))
  · obtain ⟨p, af, ho⟩ := O.o4
    exact step_of ho rfl (op4 h H (w0110111000 O H hQ))
theorem w0110010000 (O : Ops7 ops) (H : Beg W0 pk pv vk vv K V) (hQ : ∀ a w, Fin7 W0 pm pk pv vk vv K V key x a w → Q .normal a w) (a : Act) (w : World) (h : St W0 pm pk pv vk vv K V key x false true true false false true false false a w) : wpAnyIn (Fence.wide.inRound l) n Try.prog .any ops Q 7 #[false, true, true, false, false, true, false, false, false, false] a w := by
  refine wpAnyIn_ready O.r0110010000 (by simp) fun i hi => ?_
  simp only [List.mem_cons, List.not_mem_nil, or_false] at hi
  rcases hi with rfl | rfl | rfl
  · obtain ⟨p, af, ho⟩ := O.o0
    exact step_of ho rfl (op0 h H (w1110010000 O H hQ))
  · obtain ⟨p, af, ho⟩ := O.o4
    exact step_of ho rfl (op4 h H (w0110110000 O H hQ))
  · obtain ⟨p, af, ho⟩ := O.o6
    exact step_of ho rfl (op6 h (w0110011000 O H hQ))
theorem w0110000000 (O : Ops7 ops) (H : Beg W0 pk pv vk vv K V) (hQ : ∀ a w, Fin7 W0 pm pk pv vk vv K V key x a w → Q .normal a w) (a : Act) (w : World) (h : St W0 pm pk pv vk vv K V key x false true true false false false false false a w) : wpAnyIn (Fence.wide.inRound l) n Try.prog .any ops Q 8 #[false, true, true, false, false, false, false, false, false, false] a w := by
  refine wpAnyIn_ready O.r0110000000 (by simp) fun i hi => ?_
  simp only [List.mem_cons, List.not_mem_nil, or_false] at hi
  rcases hi with rfl | rfl | rfl
  · obtain ⟨p, af, ho⟩ := O.o0
    exact step_of ho rfl (op0 h H (w1110000000 O H hQ))
  · obtain ⟨p, af, ho⟩ := O.o4
    exact step_of ho rfl (op4 h H (w0110100000 O H hQ))
  · obtain ⟨p, af, ho⟩ := O.o5
    exact step_of ho rfl (op5 h (w0110010000 O H hQ))
theorem w0100111000 (O : Ops7 ops) (H : Beg W0 pk pv vk vv K V) (hQ : ∀ a w, Fin7 W0 pm pk pv vk vv K V key x a w → Q .normal a w) (a : Act) (w : World) (h : St W0 pm pk pv vk vv K V key x false true false false true true true false a w) : wpAnyIn (Fence.wide.inRound l) n Try.prog .any ops Q 6 #[false, true, false, false, true, true, true, false, false, false] a w := by
  refine wpAnyIn_ready O.r0100111000 (by simp) fun i hi => ?_
  simp only [List.mem_cons, List.not_mem_nil, or_false] at hi
  rcases hi with rfl | rfl
  · obtain ⟨p, af, ho⟩ := O.o0
    exact step_of ho rfl (op0 h H (w1100111000 O H hQ))
  · obtain ⟨p, af, ho⟩ := O.o2
    exact step_of ho rfl (op2 h (w0110111000 O H hQ))
theorem w0100110000 (O : Ops7 ops) (H : Beg W0 pk pv vk vv K V) (hQ : ∀ a w, Fin7 W0 pm pk pv vk vv K V key x a w → Q .normal a w) (a : Act) (w : World) (h : St W0 pm pk pv vk vv K V key x false true false false true true false false a w) : wpAnyIn (Fence.wide.inRound l) n Try.prog .any ops Q 7 #[false, true, false, false, true, true, false, false, false, false] a w := by
  refine wpAnyIn_ready O.r0100110000 (by simp) fun i hi => ?_
  simp only [List.mem_cons, List.not_mem_nil, or_false] at hi
  rcases hi with rfl | rfl | rfl
  · obtain ⟨p, af, ho⟩ := O.o0
    exact step_of ho rfl (op0 h H (w1100110000 O H hQ))
  · obtain ⟨p, af, ho⟩ := O.o2
    exact step_of ho rfl (op2 h (w0110110000 O H hQ))
  · obtain ⟨p, af, ho⟩ := O.o6
    exact step_of ho rfl (op6 h (w0100111000 O H hQ))
theorem w0100100000 (O : Ops7 ops) (H : Beg W0 pk pv vk vv K V) (hQ : ∀ a w, Fin7 W0 pm pk pv vk vv K V key x a w → Q .normal a w) (a : Act) (w : World) (h : St W0 pm pk pv vk vv K V key x false true false false true false false false a w) : wpAnyIn (Fence.wide.inRound l) n Try.prog .any ops Q 8 #[false, true, false, false, true, false, false, false, false, false] a w := by
  refine wpAnyIn_ready O.r0100100000 (by simp) fun i hi => ?_
  simp only [List.mem_cons, List.not_mem_nil, or_false] at hi
  rcases hi with rfl | rfl | rfl
  · obtain ⟨p, af, ho⟩ := O.o0
    exact step_of ho rfl (op0 h H (w1100100000 O H hQ))
  · obtain ⟨p, af, ho⟩ := O.o2
    exact step_of ho rfl (op2 h (w0110100000 O H hQ))
  · obtain ⟨p, af, ho⟩ := O.o5
    exact step_of ho rfl (op5 h (w0100110000 O H hQ))
theorem w0100011000 (O : Ops7 ops) (H : Beg W0 pk pv vk vv K V) (hQ : ∀ a w, Fin7 W0 pm pk pv vk vv K V key x a w → Q .normal a w) (a : Act) (w : World) (h : St W0 pm pk pv vk vv K V key x false true false false false true true false a w) : wpAnyIn (Fence.wide.inRound l) n Try.prog .any ops Q 7 #[false, true, false, false, false, true, true, false, false, false] a w := by
  refine wpAnyIn_ready O.r0100011000 (by simp) fun i hi => ?_
  simp only [List.mem_cons, List.not_mem_nil, or_false] at hi
  rcases hi with rfl | rfl | rfl
  · obtain ⟨p, af, ho⟩ := O.o0
    exact step_of ho rfl (op0 h H (w1100011000 O H hQ))
  · obtain ⟨p, af, ho⟩ := O.o2
    exact step_of ho rfl (op2 h (w0110011000 O H hQ))
  · obtain ⟨p, af, ho⟩ := O.o4
    exact step_of ho rfl (op4 h H (w0100111000 O H hQ))
theorem w0100010000 (O : Ops7 ops) (H : Beg W0 pk pv vk vv K V) (hQ : ∀ a w, Fin7 W0 pm pk pv vk vv K V key x a w → Q .normal a w) (a : Act) (w : World) (h : St W0 pm pk pv vk vv K V key x false true false false false true false false a w) : wpAnyIn (Fence.wide.inRound l) n Try.prog .any ops Q 8 #[false, true, false, false, false, true, false, false, false, false] a w := by
  refine wpAnyIn_ready O.r0100010000 (by simp) fun i hi => ?_
  simp only [List.mem_cons, List.not_mem_nil, or_false] at hi
  rcases hi with rfl | rfl | rfl | rfl
  · obtain ⟨p, af, ho⟩ := O.o0
    exact step_of ho rfl (op0 h H (w1100010000 O H hQ))
  · obtain ⟨p, af, ho⟩ := O.o2
    exact step_of ho rfl (op2 h (w0110010000 O H hQ))
  · obtain ⟨p, af, ho⟩ := O.o4
    exact step_of ho rfl (op4 h H (w0100110000 O H hQ))
  · obtain ⟨p, af, ho⟩ := O.o6
    exact step_of ho rfl (op6 h (w0100011000 O H hQ))
theorem w0100000000 (O : Ops7 ops) (H : Beg W0 pk pv vk vv K V) (hQ : ∀ a w, Fin7 W0 pm pk pv vk vv K V key x a w → Q .normal a w) (a : Act) (w : World) (h : St W0 pm pk pv vk vv K V key x false true false false false false false false a w) : wpAnyIn (Fence.wide.inRound l) n Try.prog .any ops Q 9 #[false, true, false, false, false, false, false, false, false, false] a w := by
  refine wpAnyIn_ready O.r0100000000 (by simp) fun i hi => ?_
  simp only [List.mem_cons, List.not_mem_nil, or_false] at hi
  rcases hi with rfl | rfl | rfl | rfl
  · obtain ⟨p, af, ho⟩ := O.o0
    exact step_of ho rfl (op0 h H (w1100000000 O H hQ))
  · obtain ⟨p, af, ho⟩ := O.o2
    exact step_of ho rfl (op2 h (w0110000000 O H hQ))
  · obtain ⟨p, af, ho⟩ := O.o4
    exact step_of ho rfl (op4 h H (w0100100000 O H hQ))
  · obtain ⟨p, af, ho⟩ := O.o5
    exact step_of ho rfl (op5 h (w0100010000 O H hQ))
theorem w0000111000 (O : Ops7 ops) (H : Beg W0 pk pv vk vv K V) (hQ : ∀ a w, Fin7 W0 pm pk pv vk vv K V key x a w → Q .normal a w) (a : Act) (w : World) (h : St W0 pm pk pv vk vv K V key x false false false false true true true false a w) : wpAnyIn (Fence.wide.inRound l) n Try.prog .any ops Q 7 #[false, false, false, false, true, true, true, false, false, false] a w := by
  refine wpAnyIn_ready O.r0000111000 (by simp) fun i hi => ?_
  simp only [List.mem_cons, List.not_mem_nil, or_false] at hi
  rcases hi with rfl | rfl
  · obtain ⟨p, af, ho⟩ := O.o0
    exact step_of ho rfl (op0 h H (w1000111000 O H hQ))
  · obtain ⟨p, af, ho⟩ := O.o1
    exact step_of ho rfl (op1 h (w0100111000 O H hQ))
theorem w0000110000 (O : Ops7 ops) (H : Beg W0 pk pv vk vv K V) (hQ : ∀ a w, Fin7 W0 pm pk pv vk vv K V key x a w → Q .normal a w) (a : Act) (w : World) (h : St W0 pm pk pv vk vv K V key x false false false false true true false false a w) : wpAnyIn (Fence.wide.inRound l) n Try.prog .any ops Q 8 #[false, false, false, false, true, true, false, false, false, false] a w := by
  refine wpAnyIn_ready O.r0000110000 (by simp) fun i hi => ?_
  simp only [List.mem_cons, List.not_mem_nil, or_false] at hi
  rcases hi with rfl | rfl | rfl
  · obtain ⟨p, af, ho⟩ := O.o0
    exact step_of ho rfl (op0 h H (w1000110000 O H hQ))
  · obtain ⟨p, af, ho⟩ := O.o1
    exact step_of ho rfl (op1 h (w0100110000 O H hQ))
  · obtain ⟨p, af, ho⟩ := O.o6
    exact step_of ho rfl (op6 h (w0000111000 O H hQ))
theorem w0000100000 (O : Ops7 ops) (H : Beg W0 pk pv vk vv K V) (hQ : ∀ a w, Fin7 W0 pm pk pv vk vv K V key x a w → Q .normal a w) (a : Act) (w : World) (h : St W0 pm pk pv vk vv K V key x false false false false true false false false a w) : wpAnyIn (Fence.wide.inRound l) n Try.prog .any ops Q 9 #[false, false, false, false, true, false, false, false, false, false] a w := by
  refine wpAnyIn_ready O.r0000100000 (by simp) fun i hi => ?_
  simp only [List.mem_cons, List.not_mem_nil, or_false] at hi
  rcases hi with rfl | rfl | rfl
  · obtain ⟨p, af, ho⟩ := O.o0
    exact step_of ho rfl (op0 h H (w1000100000 O H hQ))
  · obtain ⟨p, af, ho⟩ := O.o1
    exact step_of ho rfl (op1 h (w0100100000 O H hQ))
  · obtain ⟨p, af, ho⟩ := O.o5
    exact step_of ho rfl (op5 h (w0000110000 O H hQ))
theorem w0000011000 (O : Ops7 ops) (H : Beg W0 pk pv vk vv K V) (hQ : ∀ a w, Fin7 W0 pm pk pv vk vv K V key x a w → Q .normal a w) (a : Act) (w : World) (h : St W0 pm pk pv vk vv K V key x false false false false false true true false a w) : wpAnyIn (Fence.wide.inRound l) n Try.prog .any ops Q 8 #[false, false, false, false, false, true, true, false, false, false] a w := by
  refine wpAnyIn_ready O.r0000011000 (by simp) fun i hi => ?_
  simp only [List.mem_cons, List.not_mem_nil, or_false] at hi
  rcases hi with rfl | rfl | rfl
  · obtain ⟨p, af, ho⟩ := O.o0
    exact step_of ho rfl (op0 h H (w1000011000 O H hQ))
  · obtain ⟨p, af, ho⟩ := O.o1
    exact step_of ho rfl (op1 h (w0100011000 O H hQ))
  · obtain ⟨p, af, ho⟩ := O.o4
    exact step_of ho rfl (op4 h H (w0000111000 O H hQ))
theorem w0000010000 (O : Ops7 ops) (H : Beg W0 pk pv vk vv K V) (hQ : ∀ a w, Fin7 W0 pm pk pv vk vv K V key x a w → Q .normal a w) (a : Act) (w : World) (h : St W0 pm pk pv vk vv K V key x false false false false false true false false a w) : wpAnyIn (Fence.wide.inRound l) n Try.prog .any ops Q 9 #[false, false, false, false, false, true, false, false, false, false] a w := by
  refine wpAnyIn_ready O.r0000010000 (by simp) fun i hi => ?_
  simp only [List.mem_cons, List.not_mem_nil, or_false] at hi
  rcases hi with rfl | rfl | rfl | rfl
  · obtain ⟨p, af, ho⟩ := O.o0
    exact step_of ho rfl (op0 h H (w1000010000 O H hQ))
  · obtain ⟨p, af, ho⟩ := O.o1
    exact step_of ho rfl (op1 h (w0100010000 O H hQ))
  · obtain ⟨p, af, ho⟩ := O.o4
    exact step_of ho rfl (op4 h H (w0000110000 O H hQ))
  · obtain ⟨p, af, ho⟩ := O.o6
    exact step_of ho rfl (op6 h (w0000011000 O H hQ))
theorem w0000000000 (O : Ops7 ops) (H : Beg W0 pk pv vk vv K V) (hQ : ∀ a w, Fin7 W0 pm pk pv vk vv K V key x a w → Q .normal a w) (a : Act) (w : World) (h : St W0 pm pk pv vk vv K V key x false false false false false false false false a w) : wpAnyIn (Fence.wide.inRound l) n Try.prog .any ops Q 10 #[false, false, false, false, false, false, false, false, false, false] a w := by
  refine wpAnyIn_ready O.r0000000000 (by simp) fun i hi => ?_
  simp only [List.mem_cons, List.not_mem_nil, or_false] at hi
  rcases hi with rfl | rfl | rfl | rfl
  · obtain ⟨p, af, ho⟩ := O.o0
    exact step_of ho rfl (op0 h H (w1000000000 O H hQ))
  · obtain ⟨p, af, ho⟩ := O.o1
    exact step_of ho rfl (op1 h (w0100000000 O H hQ))
  · obtain ⟨p, af, ho⟩ := O.o4
    exact step_of ho rfl (op4 h H (w0000100000 O H hQ))
  · obtain ⟨p, af, ho⟩ := O.o5
    exact step_of ho rfl (op5 h (w0000010000 O H hQ))

theorem region7 (O : Ops7 ops) (H : Beg W0 pk pv vk vv K V) {id : Nat} {a : Act} {W : World} (hW : W.drew = W0) (h : St W0 pm pk pv vk vv K V key x false false false false false false false false a W0) (hs : ops.size = 10) (hQ : ∀ a w, Fin7 W0 pm pk pv vk vv K V key x a w → Q .normal a w) : (Code.region id ops true).wpIn (Fence.wide.inRound l) n Try.prog Q a W := by
  refine wpIn_region_any (by kernel_rfl) ?_
  rw [hs, show ({ W with drawn := W.drawn + 1 } : World) = W0 from hW]
  exact w0000000000 O H hQ a W0 h
end

end Go.Proofs.Ytoknebbkpkcomaa

/- A round of a scan: one key and one value more; it ends when there are as many as were asked for. -/
namespace Go.Proofs.Ytoknebbkpkcomaa
open Go.RowKit Go.Shelf

attribute [local go_sem] Oper.semAt_some

section
variable {W W0 w : World} {pm pk pv ps : Nat} {most : Int} {vk vv vs : Value} {told : List Kv} {seen : List Sn} {key : ByteArray} {x : Int} {a : Act}

theorem keysOf_snoc (told : List Kv) (p : Kv) : keysOf (told ++ [p]) = keysOf told ++ [p.1] := by simp [keysOf]
theorem valsOf_snoc (told : List Kv) (p : Kv) : valsOf (told ++ [p]) = valsOf told ++ [p.2] := by simp [valsOf]
theorem keysOf_length (told : List Kv) : (keysOf told).length = told.length := by simp [keysOf]
theorem valsOf_length (told : List Kv) : (valsOf told).length = told.length := by simp [valsOf]

theorem AccG.beg (h : AccG W0 pm pk pv ps most vk vv vs told seen) (hf : told.length ≤ 100000) : Beg W0 pk pv vk vv (keysOf told) (valsOf told) :=
  ⟨h.bk, h.bv, by rw [keysOf_length]; exact h.rk, by rw [valsOf_length]; exact h.rv, ⟨fun e => (h.ok _ e).1 (by simp), fun e => (h.ok _ e).1 (by simp)⟩, ⟨fun e => (h.ov _ e).1 (by simp), fun e => (h.ov _ e).1 (by simp)⟩, fun i hi => (h.ok i hi).2.1, by rw [keysOf_length, valsOf_length]; exact ⟨hf, hf⟩⟩

/-- one key and one value more, by its parts -/
theorem AccG.more (h : AccG W0 pm pk pv ps most vk vv vs told seen) (hF : Fin7 W0 pm pk pv vk vv (keysOf told) (valsOf told) key x a w) : Goes (AccI pm pk pv ps most (told ++ [(key, x)], seen)) W0 w (accF pm pk pv ps vk vv vs) := by
  obtain ⟨w1, A, m, A', m', hS, e32, e36, rfl⟩ := hF
  obtain ⟨A2, m2, f1, rk, ok⟩ := hS.ck.s3 rfl
  obtain ⟨A3, m3, f2, rv, ov⟩ := hS.cv.s3 rfl
  rw [e32] at f1
  rw [e36] at f2
  injection f1 with f1
  injection f2 with f2
  rw [← f1] at rk ok
  rw [← f2] at rv ov
  rw [keysOf_length] at rk ok ⊢
  rw [valsOf_length] at rv ov ⊢
  obtain ⟨Wk, hWk⟩ : ∃ Wk, Value.slice A (told.length + 1) m = Wk := ⟨_, rfl⟩
  obtain ⟨Wv, hWv⟩ : ∃ Wv, Value.slice A' (told.length + 1) m' = Wv := ⟨_, rfl⟩
  rw [hWk] at rk ok ⊢
  rw [hWv] at rv ov ⊢
  have hap := h.ap
  simp only [List.nodup_cons, List.mem_cons, not_or, List.not_mem_nil, List.nodup_nil, and_true, not_false_eq_true] at hap
  have lt : ∀ i, accF pm pk pv ps vk vv vs i → i < W0.heap.size := fun i hi => h.lt hi
  have hsz := hS.tn.size
  -- the new rows' blocks
  have nk : ∀ i, Wk.ownBlock = some i → i ∉ [pm, pk, pv, ps] ∧ vv.ownBlock ≠ some i ∧ vs.ownBlock ≠ some i := fun i hi => by
    rcases ok i hi with e | e
    · exact h.ok i e
    · refine ⟨fun hm => ?_, fun e2 => ?_, fun e2 => ?_⟩
      · have := lt i (Or.inl hm); omega
      · have := lt i (Or.inr (Or.inr (Or.inl e2))); omega
      · have := lt i (Or.inr (Or.inr (Or.inr e2))); omega
  have nv : ∀ i, Wv.ownBlock = some i → i ∉ [pm, pk, pv, ps] ∧ vk.ownBlock ≠ some i ∧ vs.ownBlock ≠ some i := fun i hi => by
    rcases ov i hi with e | e
    · exact h.ov i e
    · refine ⟨fun hm => ?_, fun e2 => ?_, fun e2 => ?_⟩
      · have := lt i (Or.inl hm); omega
      · have := lt i (Or.inr (Or.inl e2)); omega
      · have := lt i (Or.inr (Or.inr (Or.inr e2))); omega
  have tyne : Wk.ownBlock = none ∨ ∀ i, Wk.ownBlock = some i → Wv.ownBlock ≠ some i := by
    right
    intro i hi hi2
    obtain ⟨c1, g1, _⟩ := ownsRow_own rk hi
    obtain ⟨c2, g2, _⟩ := ownsRow_own rv hi2
    rw [g1] at g2
    injection g2 with g2
    injection g2 with _ g2
    cases g2
  have kvne : ∀ i, Wk.ownBlock = some i → Wv.ownBlock ≠ some i := fun i hi => by
    rcases tyne with e | e
    · rw [e] at hi; cases hi
    · exact e i hi
  have kp : ∀ i, i ≠ pk → i ≠ pv → ((w1.setCell ⟨pk, 0, none⟩ Wk).setCell ⟨pv, 0, none⟩ Wv).heap[i]? = w1.heap[i]? := fun i h1 h2 => by
    rw [Below.heap_setCell _ ⟨pv, 0, none⟩ _ i h2, Below.heap_setCell _ ⟨pk, 0, none⟩ _ i h1]
  have k0 : ∀ i, i < W0.heap.size → vk.ownBlock ≠ some i → vv.ownBlock ≠ some i → w1.heap[i]? = W0.heap[i]? := fun i hi h1 h2 => hS.tn.block i hi (by
    rintro (e | e)
    · exact h1 e
    · exact h2 e)
  have nos : ∀ y, y ∈ [pm, pk, pv, ps] → vk.ownBlock ≠ some y ∧ vv.ownBlock ≠ some y := fun y hy => ⟨fun e => (h.ok y e).1 hy, fun e => (h.ov y e).1 hy⟩
  have e1 : w1.heap[pk]? = some (boxO vk 26) := (k0 pk (lt pk (Or.inl (by simp))) (nos pk (by simp)).1 (nos pk (by simp)).2).trans h.bk
  have e2 : w1.heap[pv]? = some (boxO vv 27) := (k0 pv (lt pv (Or.inl (by simp))) (nos pv (by simp)).1 (nos pv (by simp)).2).trans h.bv
  refine ⟨accF pm pk pv ps Wk Wv vs, ⟨Wk, Wv, vs, ⟨?_, ?_, ?_, ?_, ?_, ?_, ?_, h.ap, ?_, ?_, ?_⟩, fun _ => Iff.rfl⟩, ?_, fun i hi => ?_⟩
  · rw [kp pm (by omega) (by omega), k0 pm (lt pm (Or.inl (by simp))) (nos pm (by simp)).1 (nos pm (by simp)).2]; exact h.bm
  · rw [Below.heap_setCell _ ⟨pv, 0, none⟩ _ pk (by show pk ≠ pv; omega), heap_setCell_same e1]; rfl
  · rw [heap_setCell_same ((Below.heap_setCell w1 ⟨pk, 0, none⟩ _ pv (by show pv ≠ pk; omega)).trans e2)]; rfl
  · rw [kp ps (by omega) (by omega), k0 ps (lt ps (Or.inl (by simp))) (nos ps (by simp)).1 (nos ps (by simp)).2]; exact h.bs
  · show World.ownsRow _ 0 9 1 Wk (told ++ [(key, x)]).length (scells (keysOf (told ++ [(key, x)])))
    rw [keysOf_snoc, scells_append, List.length_append]
    exact ownsRow_block rk (fun i hi => kp i (fun e => (nk i hi).1 (by rw [e]; simp)) (fun e => (nk i hi).1 (by rw [e]; simp)))
  · show World.ownsRow _ 0 3 1 Wv (told ++ [(key, x)]).length (icells (valsOf (told ++ [(key, x)])))
    rw [valsOf_snoc, icells_append, List.length_append]
    exact ownsRow_block rv (fun i hi => kp i (fun e => (nv i hi).1 (by rw [e]; simp)) (fun e => (nv i hi).1 (by rw [e]; simp)))
  · refine ownsRow_block h.rs (fun i hi => ?_)
    have ho := h.os i hi
    rw [kp i (fun e => ho.1 (by rw [e]; simp)) (fun e => ho.1 (by rw [e]; simp)), k0 i (lt i (Or.inr (Or.inr (Or.inr hi)))) ho.2.1 ho.2.2]
  · exact fun i hi => ⟨(nk i hi).1, kvne i hi, (nk i hi).2.2⟩
  · exact fun i hi => ⟨(nv i hi).1, fun e => kvne i e hi, (nv i hi).2.2⟩
  · exact fun i hi => ⟨(h.os i hi).1, fun e => (nk i e).2.2 hi, fun e => (nv i e).2.2 hi⟩
  · exact ((hS.tn.mono fun i hi => by
      rcases hi with e | e
      · exact Or.inr (Or.inl e)
      · exact Or.inr (Or.inr (Or.inl e))).trans (Turn.setCell _ ⟨pk, 0, none⟩ _ (Or.inl (by simp)))).trans (Turn.setCell _ ⟨pv, 0, none⟩ _ (Or.inl (by simp)))
  · rcases hi with hi | hi | hi | hi
    · exact Or.inl (Or.inl hi)
    · rcases ok i hi with e | e
      · exact Or.inl (Or.inr (Or.inl e))
      · exact Or.inr e
    · rcases ov i hi with e | e
      · exact Or.inl (Or.inr (Or.inr (Or.inl e)))
      · exact Or.inr e
    · exact Or.inl (Or.inr (Or.inr (Or.inr hi)))
end

end Go.Proofs.Ytoknebbkpkcomaa
