/- A scan's rows as rows of one's own; texts one behind the other. -/
import Derived.Test.YtoknebbkpkcomaaTStand
import Derived.Laws.AppendOwnNone
namespace Go.Proofs.Ytoknebbkpkcomaa
open Go.RowKit

def RowsO (L : List (Nat × Obj)) (vk vv : Value) (told : List Kv) : Prop :=
  ∀ u : World, (∀ p ∈ L, u.heap[p.1]? = some p.2) → u.ownsRow 0 9 1 vk told.length (scells (keysOf told)) ∧ u.ownsRow 0 3 1 vv told.length (icells (valsOf told))

section
variable {t a : Nat} {T : Tr} {w wr w' : World} {L : List (Nat × Obj)} {k : ByteArray}
theorem HasT.scanO {f to : ByteArray} {most : Nat} {mm : Int} (hm : mm = (most : Int)) (h : HasT t T a w wr L) (h1 : 1 ≤ most) (h2 : most ≤ 4096) :
    Calls Try.prog 12 #[.pointer (some ⟨t, 0, none⟩), .string f, .string to, .int .i64 mm] wr fun x w' => ∃ vk vv vs told seen L', x = .returned (.tuple #[vk, vv, vs, .int .i64 0]) ∧ Hid (Scanned T.ls f to most told seen) ∧ Hid (RowsO L' vk vv told) ∧ Hid (HasT t T a w w' (L' ++ L)) := by
  subst hm
  obtain ⟨F, g1⟩ := h.tree
  refine (tscan_any g1 h1 h2).mono fun x w' ⟨told, seen, vk, vv, vs, e1, e2, r1, r2, _, _, _, e5⟩ => ?_
  obtain ⟨L1, p1, q1⟩ := ownsRow_rows r1
  obtain ⟨L2, p2, q2⟩ := ownsRow_rows r2
  refine ⟨vk, vv, vs, told, seen, L1 ++ L2, e1, e2, fun u hu => ⟨q1 u (fun p hp => hu p (by simp [hp])), q2 u (fun p hp => hu p (by simp [hp]))⟩, h.more (treeI_res _ _ _) e5 (fun p hp => ?_)⟩
  rcases List.mem_append.1 hp with hp | hp
  · exact ⟨(p1 p hp).1, (p1 p hp).2.1⟩
  · exact ⟨(p2 p hp).1, (p2 p hp).2.1⟩
end

theorem row_strs {u : World} {v : Value} {K : List ByteArray} {base n : Nat} (hn : n = K.length) (h : u.ownsRow base 9 1 v n (scells K)) : SliceAt u v 1 enS K := by
  subst hn
  rw [← scells_flat] at h
  exact sliceAt_row (en := enS) (m := 1) (fun _ => rfl) h
theorem row_ints {u : World} {v : Value} {K : List Int} {base n : Nat} (hn : n = K.length) (h : u.ownsRow base 3 1 v n (icells K)) : SliceAt u v 1 enI K := by
  subst hn
  rw [← icells_flat] at h
  exact sliceAt_row (en := enI) (m := 1) (fun _ => rfl) h
theorem ints_cell {w : World} {a : Option Addr} {c : Nat} {L : List Int} (h : SliceAt w (.slice a L.length c) 1 enI L) (hL : L ≠ []) : ∃ b off, a = some ⟨b, off, none⟩ ∧ ∀ (i : Nat) x, L[i]? = some x → w.cell? ⟨b, off + i, none⟩ = some (.int .i64 x) := by
  obtain ⟨a', c', e, h1, h2, h3⟩ := h
  cases e
  obtain ⟨b, off, e, _, hc⟩ := h3 hL
  refine ⟨b, off, e, fun i x hx => ?_⟩
  obtain ⟨hi, rfl⟩ := List.getElem?_eq_some_iff.1 hx
  have := hc i hi 0 _ rfl
  rw [Nat.mul_one, Nat.add_zero] at this
  exact this

theorem row_empty (w : World) (e : TypeId) (size : Nat) : (w.alloc (.cells #[] e (0, 0))).ownsRow w.heap.size e size (.slice (some ⟨w.heap.size, 0, none⟩) 0 0) 0 [] :=
  ⟨by simp, Or.inr ⟨w.heap.size, 0, #[], rfl, Nat.le_refl _, heap_new w _, Nat.le_refl _, by unfold maxLen; omega, by simp, by simp⟩⟩

theorem info_parts {e : TypeId} {z : Value} {size bytes : Nat} (h : (Try.prog.info? e).map (fun i => (i.zero, i.size, i.bytes)) = some (some z, size, bytes)) : ∃ i, Try.prog.info? e = some i ∧ i.zero = some z ∧ i.size = size ∧ i.bytes = bytes := by
  cases hq : Try.prog.info? e with
  | none => rw [hq] at h; cases h
  | some i =>
    rw [hq] at h
    simp only [Option.map_some, Option.some.injEq, Prod.mk.injEq] at h
    exact ⟨i, rfl, h.1, h.2.1, h.2.2⟩

theorem wpList_wanted {P : Program} {w : World} {ops : Array Oper} {rest : List Oper} {o : Oper} {a : Act} {Q : Exit → Act → World → Prop} (hw : Region.wanted o (yielded ops a.tmps) = true)
    (h : ∀ K : Act → World → Prop, (∀ a w, wpList P ops Q rest a w → K a w) → o.wp P a w K Q) : wpList P ops Q (o :: rest) a w := wpList_step fun K hK => by rw [if_pos hw]; exact h K hK

theorem wpList_appR {w : World} {ops : Array Oper} {rest : List Oper} {o : Oper} {a : Act} {Q : Exit → Act → World → Prop} {T e : TypeId} {z : Value} {bytes : Nat} (hT : Try.prog.underlying T = some (.slice e)) (hinfo : (Try.prog.info? e).map (fun i => (i.zero, i.size, i.bytes)) = some (some z, 1, bytes)) (hz1 : z.cells.size = 1) (hby : bytes ≤ 1024)
    (hw : Region.wanted o (yielded ops a.tmps) = true) (s x : Operand)
    (hop : o.op = .call { callee := .builtin .append, args := #[s, x], argTypes := #[T, T] }) {base n m : Nat} {v v2 : Value} {xs ys : List Value} (hone : ∀ u ∈ ys, u.oneCell' = true)
    (hs : a.eval s = v) (hown : w.ownsRow base e 1 v n xs) (hx : a.eval x = v2) (h2 : w.ownsRow 0 e 1 v2 m ys) (hA : n + m ≤ 100000) (hbase : base ≤ w.heap.size)
    (h : ∀ v' w', w'.ownsRow base e 1 v' (n + m) (xs ++ ys) → Below base w w' → wpList Try.prog ops Q rest (a.put o.dst v') w') : wpList Try.prog ops Q (o :: rest) a w := by
  obtain ⟨i, hi, hz, hsz, hb⟩ := info_parts hinfo
  refine wpList_wanted hw fun KK hKK => ?_
  have hbytes : (n + m) * bytes ≤ 140737488355328 := by
    have : (n + m) * bytes ≤ 100000 * 1024 := Nat.mul_le_mul hA hby
    omega
  rcases h2.2 with ⟨rfl, h0⟩ | ⟨g, cap, cur, rfl, _, hg, hc, hm2, hcs, htk⟩
  · have hrun := run_append_owned_none (P := Try.prog) (w := w) base T o.type e i 1 hT hi v n xs hown
    have hy : ys = [] := by
      have := h2.1
      rw [h0, Nat.zero_mul] at this
      exact List.length_eq_zero_iff.1 this
    unfold Oper.wp
    simp [execOp, hop, resolve, invoke, builtin, hs, hx, hrun, Result.andThen]
    refine hKK _ _ (h v w ?_ (Below.refl _ _))
    rw [h0, hy, List.append_nil, Nat.add_zero]
    exact hown
  · refine wp_append_own _ s x T hop base e i z 1 bytes hT hi hz hsz hb hz1 (by decide) v n xs hs hown ⟨g, 0, none⟩ m cap ys hx h2.1 (fun j u hu => ?_) hone (by unfold maxLen; omega) hbytes hbase (fun v' w' h1 h3 _ => ?_)
    · rw [Addr.add_lit, Nat.zero_add, cell_of hg, ← Array.getElem?_toList, ← hu, ← htk, List.getElem?_take, if_pos]
      have := (List.getElem?_eq_some_iff.1 hu).1
      rw [h2.1] at this
      exact this
    · refine hKK _ _ (h v' w' h1 ?_)
      have ht : Turn (fun i => base ≤ i) w w' := Turn.ofGrown h3 (fun g hg => by
        obtain ⟨cur, _, hb⟩ := ownsRow_own hown hg
        exact hb)
      exact ht.toBelow hbase
theorem scells_one (K : List ByteArray) : ∀ u ∈ scells K, u.oneCell' = true := fun u hu => by
  obtain ⟨y, _, rfl⟩ := List.mem_map.1 hu
  rfl
theorem icells_one (K : List Int) : ∀ u ∈ icells K, u.oneCell' = true := fun u hu => by
  obtain ⟨y, _, rfl⟩ := List.mem_map.1 hu
  rfl

end Go.Proofs.Ytoknebbkpkcomaa
