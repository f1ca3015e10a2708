/- What Run needs: cells that are copied, machines as a system. -/
import Derived.Test.YtibgpjokdpagcaaWReport
import Derived.Test.YtibgpjokdpagcaaWStepB
namespace Go.Proofs.Ytibgpjokdpagcaa
open Go.RowKit

/-- v is a slice of the words c -/
abbrev WordsAt (w : World) (v : Value) (c : List Int) : Prop := SliceAt w v 1 (fun x : Int => [Value.int .u64 x]) c

theorem ucells_flat (c : List Int) : ucells c = flat (fun x : Int => [Value.int .u64 x]) c := by
  induction c with
  | nil => rfl
  | cons x c ih => rw [flat_cons, ← ih]; rfl
theorem infoU1 : (Try.prog.info? 38).map (·.size) = some 1 := by kernel_rfl

theorem copy_any {W : World} {h : Nat} {Z : Array Value} {a : Option Addr} {n cap : Nat} {c : List Int} (hh : W.heap[h]? = some (.cells Z 38 (0, 0))) (hZ : Z.size = n) (hc : WordsAt W (.slice a n cap) c) :
    ∃ W', (∀ ty, (Builtin.copy_ #[23, 23] ty #[.slice (some ⟨h, 0, none⟩) n n, .slice a n cap]).run Try.prog W = .ok (goInt n) W') ∧ (∃ cur, W'.heap[h]? = some (.cells cur 38 (0, 0)) ∧ cur.toList = ucells c) ∧ Turn (fun i => i = h) W W' := by
  obtain ⟨a', cap', he, hl, hm, hx⟩ := hc
  cases he
  by_cases hne : c = []
  · subst hne
    refine ⟨W, fun ty => run_copy_none W _ _ ty _ _ _ _ _ _ _ Try.underlying23 infoU1 (by simp), ⟨Z, hh, ?_⟩, Turn.refl _ _⟩
    exact List.length_eq_zero_iff.1 hZ
  · obtain ⟨b, off, rfl, hbl, hcs⟩ := hx hne
    refine ⟨W.setCells h 0 (ucells c), fun ty => ?_, ?_, setCells_turn h _ 0 W⟩
    · have := run_copy_cells (P := Try.prog) W 23 23 ty 38 h 0 c.length c.length ⟨b, off, none⟩ c.length cap (ucells c) Try.underlying23 infoU1 (by rw [ucells_length]; simp)
        (fun j v hj => by
          have hlt : j < c.length := by rw [← ucells_length]; exact (List.getElem?_eq_some_iff.1 hj).1
          have h1 := hcs j hlt 0 _ rfl
          rw [ucells_get hlt] at hj
          cases hj
          rw [getD_get hlt]
          rw [Nat.mul_one, Nat.add_zero] at h1
          rw [show (⟨b, off, none⟩ : Addr).add j = ⟨b, off + j, none⟩ from Addr.add_lit ..]
          exact h1)
        (fun j hj => by
          rw [ucells_length] at hj
          rw [cell_of hh, Nat.zero_add, Array.getElem?_eq_getElem (by omega)]
          rfl)
        (fun j _ => frozen_of hh _)
        (fun v hv => by
          obtain ⟨x, _, rfl⟩ := List.mem_map.1 hv
          rfl)
      rw [ucells_length] at this
      exact this
    · exact setCells_heap h (ucells c) 0 W Z _ _ [] Z.toList hh rfl rfl (by rw [ucells_length, Array.length_toList, hZ])

/-- the machines of a system -/
def gOf (T : List TaskV) (ms : List Mc) : List Mg := List.zipWith (fun t m => ⟨t.v, m.r, m.p⟩) T ms
theorem gOf_length {T : List TaskV} {ms : List Mc} (h : ms.length = T.length) : (gOf T ms).length = T.length := by simp [gOf, h]
theorem gOf_get {T : List TaskV} {ms : List Mc} {t : Nat} (h : t < T.length) (h' : t < ms.length) (h2 : t < (gOf T ms).length) : (gOf T ms)[t] = ⟨T[t].v, ms[t].r, ms[t].p⟩ := by simp [gOf]
theorem gOf_set {T : List TaskV} {ms : List Mc} {t : Nat} (h : t < T.length) (m : Mc) : gOf T (ms.set t m) = (gOf T ms).set t ⟨T[t].v, m.r, m.p⟩ := by
  apply List.ext_getElem?
  intro i
  unfold gOf
  rw [List.getElem?_zipWith, List.getElem?_set, List.getElem?_set, List.getElem?_zipWith]
  by_cases e : t = i
  · subst e
    rw [if_pos rfl, if_pos rfl]
    by_cases h3 : t < ms.length
    · rw [if_pos h3, if_pos (by simp; omega), List.getElem?_eq_getElem h]
    · rw [if_neg h3, if_neg (by simp; omega)]
      simp
  · rw [if_neg e, if_neg e]
theorem gOf_start (T : List TaskV) : gOf T ((codes T).map fun _ => Mc.new) = startG T T.length := by
  unfold startG
  rw [Nat.sub_self, List.replicate_zero, List.append_nil, List.take_length]
  unfold gOf codes
  induction T with
  | nil => rfl
  | cons t T ih =>
    simp only [List.map_cons, List.zipWith_cons_cons]
    rw [ih]
    rfl
def donesOf (T : List (List InsV)) (ms : List Mc) : List Bool := List.zipWith doneOf T ms
theorem gOf_r {T : List TaskV} {ms : List Mc} (h : ms.length = T.length) : (gOf T ms).map Mg.r = ms.map Mc.r := by
  apply List.ext_getElem?
  intro i
  unfold gOf
  rw [List.getElem?_map, List.getElem?_zipWith, List.getElem?_map]
  by_cases h3 : i < ms.length
  · rw [List.getElem?_eq_getElem h3, List.getElem?_eq_getElem (show i < T.length by omega)]
    rfl
  · rw [List.getElem?_eq_none (show ms.length ≤ i by omega), List.getElem?_eq_none (show T.length ≤ i by omega)]
    rfl
theorem gOf_dn {w : World} {v : Value} {T : List TaskV} (hT : TasksAt w v T) (ms : List Mc) : (gOf T ms).map Mg.dn = donesOf (codes T) ms := by
  apply List.ext_getElem?
  intro i
  unfold gOf donesOf codes
  rw [List.getElem?_map, List.getElem?_zipWith, List.getElem?_zipWith, List.getElem?_map]
  by_cases h3 : i < ms.length
  · by_cases h4 : i < T.length
    · rw [List.getElem?_eq_getElem h3, List.getElem?_eq_getElem h4]
      obtain ⟨a, c, e, _⟩ := hT.each T[i] (List.getElem_mem h4)
      show some (Mg.dn ⟨T[i].v, _, _⟩) = some (doneOf T[i].L _)
      unfold Mg.dn doneOf
      rw [e]
      rfl
    · rw [List.getElem?_eq_none (show T.length ≤ i by omega)]
      rfl
  · rw [List.getElem?_eq_none (show ms.length ≤ i by omega)]
    cases T[i]? <;> rfl

end Go.Proofs.Ytibgpjokdpagcaa
