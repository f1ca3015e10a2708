/- Slices that are made, and copied into. -/
import Derived.Test.YtibgpjokdpagcaaWRoom
import Derived.Laws.IdiomCopy
import Derived.Laws.MakeOwn
namespace Go.Proofs.Ytibgpjokdpagcaa
open Go.RowKit

theorem made_get (z : Array Value) (n i : Nat) (h : i < n) : (madeCells z n).toList[i]? = some (z[i % z.size]!) := by
  simp [madeCells, h]
theorem made_length (z : Array Value) (n : Nat) : (madeCells z n).toList.length = n := by simp [madeCells]

/-- zeros of things of m cells -/
theorem made_flat {α : Type} {en : α → List Value} {m : Nat} (hm : ∀ g, (en g).length = m) (hpos : 0 < m) {d : α} {z : Array Value} (hz : z.toList = en d) (n : Nat) : (madeCells z (n * m)).toList = flat en (List.replicate n d) := by
  have hzs : z.size = m := by rw [← hm d, ← hz]; rfl
  apply List.ext_getElem?
  intro i
  by_cases hi : i < n * m
  · rw [made_get z _ i hi]
    have e : i = m * (i / m) + i % m := (Nat.div_add_mod i m).symm
    have hq : i / m < n := by rw [Nat.div_lt_iff_lt_mul hpos]; exact hi
    have hr : i % m < m := Nat.mod_lt _ hpos
    have h1 := flat_get hm (List.replicate n d) (i / m) (by simpa using hq) (i % m) hr
    rw [← e] at h1
    rw [h1, List.getElem_replicate, ← hz, hzs]
    have h2 : i % m < z.toList.length := by rw [Array.length_toList, hzs]; exact hr
    rw [List.getElem?_eq_getElem h2]
    congr 1
    rw [getElem!_pos z (i % m) (by rw [hzs]; exact hr)]
    simp
  · rw [List.getElem?_eq_none (by rw [made_length]; omega), List.getElem?_eq_none (by rw [flat_length hm]; simp; rw [Nat.mul_comm]; omega)]

theorem setCells_turn (b : Nat) : ∀ (vs : List Value) (o : Nat) (w : World), Turn (fun i => i = b) w (w.setCells b o vs)
  | [], _, _ => Turn.refl _ _
  | v :: r, o, w => (Turn.setCell (S := fun i => i = b) w ⟨b, o, none⟩ v rfl).trans (setCells_turn b r (o + 1) _)

theorem setCells_heap (b : Nat) : ∀ (vs : List Value) (o : Nat) (w : World) (cur : Array Value) (t : TypeId) (fz : Nat × Nat) (pre post : List Value), w.heap[b]? = some (.cells cur t fz) → cur.toList = pre ++ post → pre.length = o → post.length = vs.length →
    ∃ cur', (w.setCells b o vs).heap[b]? = some (.cells cur' t fz) ∧ cur'.toList = pre ++ vs
  | [], _, w, cur, t, fz, pre, post, hb, hc, _, hl => ⟨cur, hb, by rw [hc, List.length_eq_zero_iff.1 hl]⟩
  | v :: r, o, w, cur, t, fz, pre, post, hb, hc, ho, hl => by
    match post, hl with
    | u :: post, hl =>
      obtain ⟨cur', h1, h2⟩ := setCells_heap b r (o + 1) (w.setCell ⟨b, o, none⟩ v) (cur.setIfInBounds o v) t fz (pre ++ [v]) post (heap_setCell_same hb o v) (by
        rw [Array.toList_setIfInBounds, hc, List.set_append_right _ _ (by omega), ho, Nat.sub_self, List.set_cons_zero]
        simp) (by simp [ho]) (by simpa using hl)
      exact ⟨cur', h1, by rw [h2]; simp⟩

theorem setCells_heap3 (b : Nat) : ∀ (vs : List Value) (o : Nat) (w : World) (cur : Array Value) (t : TypeId) (fz : Nat × Nat) (pre mid post : List Value), w.heap[b]? = some (.cells cur t fz) → cur.toList = pre ++ (mid ++ post) → pre.length = o → mid.length = vs.length →
    ∃ cur', (w.setCells b o vs).heap[b]? = some (.cells cur' t fz) ∧ cur'.toList = pre ++ (vs ++ post)
  | [], _, w, cur, t, fz, pre, mid, post, hb, hc, _, hl => ⟨cur, hb, by rw [hc, List.length_eq_zero_iff.1 hl]⟩
  | v :: r, o, w, cur, t, fz, pre, mid, post, hb, hc, ho, hl => by
    match mid, hl with
    | u :: mid, hl =>
      obtain ⟨cur', h1, h2⟩ := setCells_heap3 b r (o + 1) (w.setCell ⟨b, o, none⟩ v) (cur.setIfInBounds o v) t fz (pre ++ [v]) mid post (heap_setCell_same hb o v) (by
        rw [Array.toList_setIfInBounds, hc, List.set_append_right _ _ (by omega), ho, Nat.sub_self, List.cons_append, List.set_cons_zero]
        simp) (by simp [ho]) (by simpa using hl)
      exact ⟨cur', h1, by rw [h2]; simp⟩

/-- an element of a row is written whole -/
theorem setCells_flat {α : Type} {en : α → List Value} {m : Nat} (hm : ∀ g, (en g).length = m) {w : World} {b : Nat} {cur : Array Value} {t : TypeId} {fz : Nat × Nat} {R : List α} {i : Nat} (hb : w.heap[b]? = some (.cells cur t fz)) (hc : cur.toList = flat en R) (hi : i < R.length) (r : α) :
    ∃ cur', (w.setCells b (i * m) (en r)).heap[b]? = some (.cells cur' t fz) ∧ cur'.toList = flat en (R.set i r) := by
  have e1 : R = R.take i ++ (R[i] :: R.drop (i + 1)) := by rw [← List.drop_eq_getElem_cons hi, List.take_append_drop]
  have e2 : flat en R = flat en (R.take i) ++ (en R[i] ++ flat en (R.drop (i + 1))) := by
    conv => lhs; rw [e1]
    rw [flat_append, flat_cons]
  have e3 : flat en (R.set i r) = flat en (R.take i) ++ (en r ++ flat en (R.drop (i + 1))) := by
    rw [List.set_eq_take_append_cons_drop, if_pos hi, flat_append, flat_cons]
  obtain ⟨cur', h1, h2⟩ := setCells_heap3 b (en r) (i * m) w cur t fz _ _ _ hb (hc.trans e2) (by rw [flat_length hm, List.length_take, Nat.min_eq_left (by omega), Nat.mul_comm]) (by rw [hm, hm])
  exact ⟨cur', h1, h2.trans e3.symm⟩

theorem infoU : (Try.prog.info? 38).map (fun i => (i.zero, i.size, i.bytes)) = some (some (.int .u64 0), 1, 8) := by kernel_rfl
theorem infoB : (Try.prog.info? 4).map (fun i => (i.zero, i.size, i.bytes)) = some (some (.bool false), 1, 1) := by kernel_rfl
theorem infoA : (Try.prog.info? 47).map (fun i => (i.zero, i.size, i.bytes)) = some (some (.agg #[.int .u64 0, .int .u64 0, .int .u64 0, .int .u64 0, .int .u64 0, .int .u64 0, .int .u64 0, .int .u64 0]), 8, 64) := by kernel_rfl
theorem infoM : (Try.prog.info? 59).map (fun i => (i.zero, i.size, i.bytes)) = some (some (.agg #[.slice none 0 0, .int .u64 0, .int .u64 0, .int .u64 0, .int .u64 0, .int .u64 0, .int .u64 0, .int .u64 0, .int .u64 0, .int .i64 0]), 10, 96) := by kernel_rfl

theorem make_any {t e : TypeId} {z : Value} {size bytes : Nat} (ht : Try.prog.underlying t = some (.slice e)) (hi : (Try.prog.info? e).map (fun i => (i.zero, i.size, i.bytes)) = some (some z, size, bytes)) (w : World) (n : Nat) (hn : bytes * n ≤ 281474976710656) (hn2 : n ≤ 1000000) :
    (Instr.makeSlice t (.int .i64 (n : Int)) (.int .i64 (n : Int))).run Try.prog w = .ok (.slice (some ⟨w.heap.size, 0, none⟩) n n) (w.alloc (.cells (madeCells z.cells (n * size)) e)) := by
  cases hq : Try.prog.info? e with
  | none => rw [hq] at hi; cases hi
  | some i =>
    rw [hq] at hi
    simp only [Option.map_some, Option.some.injEq, Prod.mk.injEq] at hi
    obtain ⟨h1, h2, h3⟩ := hi
    have h4 : ((bytes * n : Nat) : Int) ≤ 281474976710656 := by omega
    rw [Int.natCast_mul, ← h3] at h4
    have := run_make (P := Try.prog) w t e i z ht hq h1 .i64 .i64 (n : Int) (n : Int) (by omega) (Int.le_refl _) h4 (by omega)
    rw [h2] at this
    simpa using this

end Go.Proofs.Ytibgpjokdpagcaa
