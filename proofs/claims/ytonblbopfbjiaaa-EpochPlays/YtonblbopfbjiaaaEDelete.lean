/- slices.Delete from the beginning of a row of things. -/
import Derived.Test.YtonblbopfbjiaaaERetire
import Derived.Lib.SliceRun
import Derived.Shelf.RegionOpenPlain
namespace Go.Proofs.Ytonblbopfbjiaaa
open Go.RowKit

theorem setCells_turn (b : Nat) : ∀ (vs : List Value) (o : Nat) (w : World), Turn (fun i => i = b) w (w.setCells b o vs)
  | [], _, _ => Turn.refl _ _
  | v :: r, o, w => (Turn.setCell (S := fun i => i = b) w ⟨b, o, none⟩ v rfl).trans (setCells_turn b r (o + 1) _)

theorem setCells_heap3 (b : Nat) : ∀ (vs : List Value) (o : Nat) (w : World) (cur : Array Value) (t : TypeId) (fz : Nat × Nat) (pre mid post : List Value), w.heap[b]? = some (.cells cur t fz) → cur.toList = pre ++ (mid ++ post) → pre.length = o → mid.length = vs.length →
    ∃ cur', (w.setCells b o vs).heap[b]? = some (.cells cur' t fz) ∧ cur'.toList = pre ++ (vs ++ post)
  | [], _, w, cur, t, fz, pre, mid, post, hb, hc, _, hl => ⟨cur, hb, by rw [hc, List.length_eq_zero_iff.1 hl]⟩
  | v :: r, o, w, cur, t, fz, pre, mid, post, hb, hc, ho, hl => by
    match mid, hl with
    | u :: mid, hl =>
      obtain ⟨cur', h1, h2⟩ := setCells_heap3 b r (o + 1) (w.setCell ⟨b, o, none⟩ v) (cur.setIfInBounds o v) t fz (pre ++ [v]) mid post (heap_setCell_same hb o v) (by
        rw [Array.toList_setIfInBounds, hc, List.set_append_right _ _ (by omega), ho, Nat.sub_self, List.cons_append, List.set_cons_zero]
        simp) (by simp [ho]) (by simpa using hl)
      exact ⟨cur', h1, by rw [h2]; simp⟩

/-- clear of a slice of things of any size -/
theorem run_clear_row {w : World} {t e ty : TypeId} {z : Value} (ht : Try.prog.underlying t = some (.slice e)) (hv : ∀ w, (zeroValue e).run Try.prog w = .ok z w) (h1 : ∀ v ∈ z.cells.toList, v.oneCell' = true) {b o n c : Nat} (hn : 0 < n)
    (hc : ∀ j, j < n * z.cells.size → (w.cell? ⟨b, o + j, none⟩).isSome = true) (hf : ∀ j, j < n * z.cells.size → w.frozen? ⟨b, o + j, none⟩ = false) :
    ∃ vs : List Value, vs.length = n * z.cells.size ∧ (Builtin.clear_ #[t] ty #[.slice (some ⟨b, o, none⟩) n c]).run Try.prog w = .ok (.tuple #[]) (w.setCells b o vs) := by
  have hl : (Builtin.zeroCells z.cells n).toList.length = n * z.cells.size := by rw [Array.length_toList, size_zeroCells]
  have hm : ∀ v ∈ (Builtin.zeroCells z.cells n).toList, v.oneCell' = true := by
    intro v hv'
    simp only [Builtin.zeroCells] at hv'
    obtain ⟨i, hi, rfl⟩ := List.getElem_of_mem hv'
    simp at hi
    simp
    rcases Nat.eq_zero_or_pos z.cells.size with h0 | h0
    · rw [h0] at hi; simp at hi
    · have hlt := Nat.mod_lt i h0
      rw [getElem!_pos z.cells _ hlt]
      exact h1 _ (by simp)
  have hst := run_storeCells_cells (P := Try.prog) b o (Builtin.zeroCells z.cells n).toList 0 w (by rw [hl]; simpa using hc) (by rw [hl]; simpa using hf) hm
  simp only [Nat.add_zero] at hst
  refine ⟨_, hl, ?_⟩
  obtain ⟨m, rfl⟩ : ∃ m, n = m + 1 := ⟨n - 1, by omega⟩
  simp [Builtin.clear_, run_underlying ht, hv, hst]

set_option maxRecDepth 100000 in
theorem delete_zero {a : Option Addr} {n m : Nat} (w : World) (h : n ≤ m) (hm : m ≤ maxLen) (ha : a = none → m = 0) : Calls Try.prog 30 #[.slice a n m, .int .i64 0, .int .i64 0] w fun e w' => e = .returned (.slice a n m) ∧ w' = w := by
  unfold maxLen at hm
  cases a with
  | none =>
    have := ha rfl
    subst this
    obtain rfl : n = 0 := by omega
    clear ha h hm
    go_enter Try.func30, Try.ntmps30
    go_wp2_with fail
    go_ret
    exact ⟨rfl, rfl⟩
  | some ad =>
    clear ha
    go_enter Try.func30, Try.ntmps30
    go_wp2_with fail
    all_goals go_ret
    all_goals exact ⟨rfl, rfl⟩

set_option maxRecDepth 100000 in
set_option maxHeartbeats 1000000 in
theorem delete_some {g n m j : Nat} {cur : Array Value} {L : List (Int × Int)} {w : World} (hg : w.heap[g]? = some (.cells cur 59 (0, 0))) (hnm : n ≤ m) (hm : m ≤ maxLen) (hs : cur.size = m * 2) (ht : cur.toList.take (n * 2) = flat enT L) (hl : L.length = n) (hj : 0 < j) (hjn : j ≤ n) :
    Calls Try.prog 30 #[.slice (some ⟨g, 0, none⟩) n m, .int .i64 0, .int .i64 (j : Int)] w fun e w' => e = .returned (.slice (some ⟨g, 0, none⟩) (n - j) m) ∧ (∃ cur', w'.heap[g]? = some (.cells cur' 59 (0, 0)) ∧ cur'.size = m * 2 ∧ cur'.toList.take ((n - j) * 2) = flat enT (L.drop j)) ∧ Turn (fun i => i = g) w w' := by
  unfold maxLen at hm
  -- what is moved
  obtain ⟨news, hnews⟩ : ∃ news, news = flat enT (L.drop j) := ⟨_, rfl⟩
  have hlen : news.length = (n - j) * 2 := by rw [hnews, flat_length enT_len, List.length_drop, hl, Nat.mul_comm]
  have hcell : ∀ t u, news[t]? = some u → cur.toList[j * 2 + t]? = some u := by
    intro t u hu
    have ht1 : t < (n - j) * 2 := by rw [← hlen]; exact (List.getElem?_eq_some_iff.1 hu).1
    have e1 : flat enT L = flat enT (L.take j) ++ news := by rw [hnews, ← flat_append, List.take_append_drop]
    have e2 : (flat enT L)[j * 2 + t]? = some u := by
      rw [e1, List.getElem?_append_right (by rw [flat_length enT_len, List.length_take, hl]; omega), flat_length enT_len, List.length_take, hl, Nat.min_eq_left hjn]
      rw [show j * 2 + t - 2 * j = t by omega]
      exact hu
    rw [← ht, List.getElem?_take_of_lt (by omega)] at e2
    exact e2
  obtain ⟨A, hA, hsrc⟩ : ∃ A : Addr, (if m = j then some (⟨g, 0, none⟩ : Addr) else some ⟨g, j * 2, none⟩) = some A ∧ Hid (∀ t u, news[t]? = some u → w.drew.cell? (A.add t) = some u) := by
    by_cases h : m = j
    · refine ⟨⟨g, 0, none⟩, by simp [h], fun t u hu => ?_⟩
      have h0 : news.length = 0 := by rw [hlen]; omega
      rw [List.length_eq_zero_iff.1 h0] at hu
      simp at hu
    · refine ⟨⟨g, j * 2, none⟩, by simp [h], fun t u hu => ?_⟩
      rw [Addr.add_lit]
      show w.cell? ⟨g, j * 2 + t, none⟩ = some u
      rw [cell_of hg, ← Array.getElem?_toList]
      exact hcell t u hu
  have s1 : Hid (news.length = (n - j) * 2) := hlen
  have s2 : Hid (∀ u ∈ news, u.oneCell' = true) := by
    intro u hu
    rw [hnews] at hu
    obtain ⟨y, _, hy⟩ := List.mem_flatMap.1 hu
    exact oneT y u hy
  have s3 : Hid (∀ t, t < news.length → (w.drew.cell? ⟨g, 0 + 0 * 2 + t, none⟩).isSome = true ∧ w.drew.frozen? ⟨g, 0 + 0 * 2 + t, none⟩ = false) := by
    intro t ht'
    rw [hlen] at ht'
    refine ⟨?_, frozen_of hg _⟩
    show (w.cell? ⟨g, 0 + 0 * 2 + t, none⟩).isSome = true
    rw [cell_of hg, Array.getElem?_eq_getElem (by omega)]
    rfl
  obtain ⟨i0, hi0, -, hz2, -⟩ := info_of infoT
  -- behind the append
  obtain ⟨W1, hW1⟩ : ∃ W1, W1 = w.drew.setCells g (0 + 0 * 2) news := ⟨_, rfl⟩
  obtain ⟨cur1, g1, t1⟩ := setCells_heap3 g news 0 w.drew cur _ _ [] (cur.toList.take ((n - j) * 2)) (cur.toList.drop ((n - j) * 2)) hg (by rw [List.nil_append, List.take_append_drop]) rfl (by rw [List.length_take, Array.length_toList, hs, hlen]; omega)
  have hW1' : W1 = w.drew.setCells g 0 news := hW1
  rw [← hW1'] at g1
  have T1 : Turn (fun i => i = g) w W1 := by
    have h := setCells_turn g news 0 w.drew
    rw [← hW1'] at h
    exact ⟨h.os, h.tape, h.output, h.size, h.block⟩
  have z1 : cur1.size = m * 2 := by
    have := congrArg List.length t1
    rw [List.nil_append, List.length_append, Array.length_toList, hlen, List.length_drop, Array.length_toList, hs] at this
    omega
  obtain ⟨vs, hvl, hcl⟩ := run_clear_row (w := W1) (t := 53) (e := 59) (ty := 0) (z := .agg #[.int .i64 0, .int .i64 0]) (b := g) (o := (n - j) * 2) (n := n - (n - j)) (c := m - (n - j)) Try.underlying53 Try.zeroValue59 (by
    intro v hv
    simp [Value.cells] at hv
    rcases hv with rfl | rfl <;> rfl) (by omega) (fun t ht' => by
    have h2 : (Value.agg #[Value.int .i64 0, .int .i64 0]).cells.size = 2 := rfl
    rw [h2] at ht'
    rw [cell_of g1, Array.getElem?_eq_getElem (by omega)]
    rfl) (fun t _ => frozen_of g1 _)
  have hvl' : vs.length = (n - (n - j)) * 2 := hvl
  obtain ⟨cur2, g2, t2⟩ := setCells_heap3 g vs ((n - j) * 2) W1 cur1 _ _ news ((cur.toList.drop ((n - j) * 2)).take ((n - (n - j)) * 2)) ((cur.toList.drop ((n - j) * 2)).drop ((n - (n - j)) * 2)) g1 (by rw [List.take_append_drop, t1, List.nil_append]) hlen (by rw [hvl', List.length_take, List.length_drop, Array.length_toList, hs]; omega)
  have T2 : Turn (fun i => i = g) w (W1.setCells g ((n - j) * 2) vs) := T1.trans (setCells_turn g vs _ W1)
  have z2 : cur2.size = m * 2 := by
    have := congrArg List.length t2
    rw [List.length_append, List.length_append, Array.length_toList, hlen, hvl', List.length_drop, List.length_drop, Array.length_toList, hs] at this
    omega
  have HE : Hid ((∃ cur', (W1.setCells g ((n - j) * 2) vs).heap[g]? = some (.cells cur' 59 (0, 0)) ∧ cur'.size = m * 2 ∧ cur'.toList.take ((n - j) * 2) = flat enT (L.drop j)) ∧ Turn (fun i => i = g) w (W1.setCells g ((n - j) * 2) vs)) :=
    ⟨⟨cur2, g2, z2, by rw [t2, ← hlen, List.take_left, hnews]⟩, T2⟩
  have hW : Hid (W1 = w.drew.setCells g (0 + 0 * 2) news) := hW1
  have hjm : j ≤ m := by omega
  have hne : ¬ j = 0 := by omega
  clear hW1 hW1' g1 t1 T1 z1 hvl hvl' g2 t2 T2 z2 hg hs ht hcell hnews hlen
  go_enter Try.func30, Try.ntmps30
  go_wp2_with fail
  go_region_law (refine step_append_room (by rfl) _ _ 53 (by rfl) 59 i0 2 Try.underlying53 hi0 hz2 g 0 0 m (by simp [Act.eval, Act.put]) A (n - j) (m - j) news (by simp [Act.eval, Act.put]) s1.out hsrc.out s2.out (by omega) s3.out ?_; rw [← hW.out])
  all_goals go_wp2_with fail
  all_goals go_ret
  all_goals exact ⟨rfl, HE.out.1, HE.out.2⟩

theorem delete_any {a : Option Addr} {n m j : Nat} {L : List (Int × Int)} {w : World} (h : w.ownsRow 0 59 2 (.slice a n m) n (flat enT L)) (hl : L.length = n) (hj : j ≤ n) :
    Calls Try.prog 30 #[.slice a n m, .int .i64 0, .int .i64 (j : Int)] w fun e w' => e = .returned (.slice a (n - j) m) ∧ w'.ownsRow 0 59 2 (.slice a (n - j) m) (n - j) (flat enT (L.drop j)) ∧ Turn (fun i => (Value.slice a n m).ownBlock = some i) w w' := by
  by_cases h0 : j = 0
  · subst h0
    have h1 : n ≤ m ∧ m ≤ maxLen ∧ (a = none → m = 0) := by
      rcases h.2 with ⟨e, hn⟩ | ⟨g, cap, cur, e, hb, hg, hnc, hcm, _, _⟩
      · injection e with e1 e2 e3
        subst e3
        exact ⟨by omega, Nat.zero_le _, fun _ => rfl⟩
      · injection e with e1 e2 e3
        subst e1 e3
        exact ⟨hnc, hcm, fun e => by cases e⟩
    refine (delete_zero w h1.1 h1.2.1 h1.2.2).mono ?_
    rintro e w' ⟨rfl, rfl⟩
    exact ⟨by rw [Nat.sub_zero], by rw [Nat.sub_zero, List.drop_zero]; exact h, Turn.refl _ _⟩
  · rcases h.2 with ⟨e, hn⟩ | ⟨g, cap, cur, e, hb, hg, hnc, hcm, hs, ht⟩
    · omega
    · injection e with e1 e2 e3
      subst e1 e3
      refine (delete_some hg hnc hcm hs ht hl (by omega) hj).mono ?_
      rintro e w' ⟨rfl, ⟨cur', g1, g2, g3⟩, hT⟩
      refine ⟨rfl, ⟨by rw [flat_length enT_len, List.length_drop, hl, Nat.mul_comm], Or.inr ⟨g, m, cur', rfl, hb, g1, by omega, hcm, g2, g3⟩⟩, hT.mono (fun i hi => by rw [hi]; rfl)⟩

end Go.Proofs.Ytonblbopfbjiaaa
