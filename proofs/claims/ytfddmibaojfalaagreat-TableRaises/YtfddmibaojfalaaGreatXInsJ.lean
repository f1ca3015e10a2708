import Derived.Test.YtfddmibaojfalaaGreatXAgnJ
import Derived.Maps.OwnSet
import Derived.Shelf.Spec.SlicesInsertGrow
import Derived.Shelf.SlicesE.Delete
import Derived.Maps.AppendAt
import Derived.RangeFuncBox
import Derived.Deep.DeepMust
import Derived.OwnWalk
/- slices.Insert of one row, at a row of rows. -/
namespace Go.Proofs.YtfddmibaojfalaaGreat
open Go.RowKit Go.Lib

theorem setCells_turn (b : Nat) : ∀ (vs : List Value) (o : Nat) (w : World), Turn (fun i => i = b) w (w.setCells b o vs)
  | [], _, _ => Turn.refl _ _
  | v :: r, o, w => (Turn.setCell (S := fun i => i = b) w ⟨b, o, none⟩ v rfl).trans (setCells_turn b r (o + 1) _)
theorem setCells_heap3 (b : Nat) : ∀ (vs : List Value) (o : Nat) (w : World) (cur : Array Value) (t : TypeId) (fz : Nat × Nat) (pre mid post : List Value), w.heap[b]? = some (.cells cur t fz) → cur.toList = pre ++ (mid ++ post) → pre.length = o → mid.length = vs.length →
    ∃ cur', (w.setCells b o vs).heap[b]? = some (.cells cur' t fz) ∧ cur'.toList = pre ++ (vs ++ post)
  | [], _, w, cur, t, fz, pre, mid, post, hb, hc, _, hl => ⟨cur, hb, by rw [hc, List.length_eq_zero_iff.1 hl]⟩
  | v :: r, o, w, cur, t, fz, pre, mid, post, hb, hc, ho, hl => by
    match mid, hl with
    | u :: mid, hl =>
      obtain ⟨cur', h1, h2⟩ := setCells_heap3 b r (o + 1) (w.setCell ⟨b, o, none⟩ v) (cur.setIfInBounds o v) t fz (pre ++ [v]) mid post (heap_setCell_same hb o v) (by
        rw [Array.toList_setIfInBounds, hc, List.set_append_right _ _ (by omega), ho, Nat.sub_self, List.cons_append, List.set_cons_zero]
        simp) (by simp [ho]) (by simpa using hl)
      exact ⟨cur', h1, by rw [h2]; simp⟩

abbrev pv (q : Rw) : Value := q.val
/-- a row of slices, by its block -/
structure PtrRow (w : World) (b c : Nat) (qs : List Rw) (R : Array Value) : Prop where
  st : w.heap[b]? = some (.cells R 37 (0, 0))
  size : R.size = c
  fit : qs.length ≤ c
  big : c ≤ maxLen
  at_ : ∀ (j : Nat) (q : Rw), qs[j]? = some q → R[j]? = some (pv q)
def pcells (L : List Rw) : List Value := L.map pv
theorem pcells_length (L : List Rw) : (pcells L).length = L.length := by simp [pcells]
theorem pcells_one (L : List Rw) : ∀ v ∈ pcells L, v.oneCell' = true := fun v hv => by
  obtain ⟨q, _, rfl⟩ := List.mem_map.1 hv
  rfl
/-- a row by its list of cells -/
theorem PtrRow.list {w : World} {b c : Nat} {L : List Rw} {R : Array Value} (h : PtrRow w b c L R) : ∃ rest, R.toList = pcells L ++ rest := by
  refine ⟨R.toList.drop L.length, ?_⟩
  have e : R.toList.take L.length = pcells L := by
    apply List.ext_getElem?
    intro j
    by_cases hj : j < L.length
    · rw [List.getElem?_take_of_lt hj, Array.getElem?_toList, h.at_ j _ (List.getElem?_eq_getElem hj)]
      unfold pcells
      rw [List.getElem?_map, List.getElem?_eq_getElem hj]
      rfl
    · rw [List.getElem?_eq_none (by rw [List.length_take]; omega), List.getElem?_eq_none (by rw [pcells_length]; omega)]
  rw [← e, List.take_append_drop]
theorem ptrRow_of {w : World} {b c : Nat} {L : List Rw} {R : Array Value} {rest : List Value} (h : w.heap[b]? = some (.cells R 37 (0, 0))) (hR : R.toList = pcells L ++ rest) (hs : R.size = c) (hc : c ≤ maxLen) : PtrRow w b c L R := by
  have hl := congrArg List.length hR
  rw [List.length_append, pcells_length, Array.length_toList] at hl
  refine ⟨h, hs, by omega, hc, fun j q hq => ?_⟩
  have hj := (List.getElem?_eq_some_iff.1 hq).1
  rw [← Array.getElem?_toList, hR, List.getElem?_append_left (by rw [pcells_length]; exact hj)]
  unfold pcells
  rw [List.getElem?_map, hq]
  rfl
theorem infoP : (Tryz.prog.info? 37).map (fun i => (i.zero, i.size, i.bytes)) = some (some (.slice none 0 0), 1, 24) := by kernel_rfl
theorem insertIdx_eq {α : Type} (L : List α) (i : Nat) (x : α) (h : i ≤ L.length) : L.insertIdx i x = L.take i ++ x :: L.drop i := by
  induction L generalizing i with
  | nil => simp at h; subst h; rfl
  | cons a L ih =>
    cases i with
    | zero => rfl
    | succ i => simp at h; simp [ih i h]

/-- what Insert makes of the row -/
def InsEnd (w : World) (v : Value) (L : List Rw) (e : Ending) (w' : World) : Prop :=
  ∃ v', e = .returned v' ∧ w'.ownsRow 0 37 1 v' L.length (pcells L) ∧ (v'.ownBlock = v.ownBlock ∨ v'.ownBlock = some w.heap.size) ∧ Turn (fun i => v.ownBlock = some i) w w'

theorem PtrRow.owns {w : World} {b c : Nat} {L : List Rw} {R : Array Value} (h : PtrRow w b c L R) : w.ownsRow 0 37 1 (.slice (some ⟨b, 0, none⟩) L.length c) L.length (pcells L) := by
  obtain ⟨rest, hr⟩ := h.list
  refine ⟨by rw [pcells_length, Nat.mul_one], Or.inr ⟨b, c, R, rfl, Nat.zero_le _, h.st, h.fit, h.big, by rw [Nat.mul_one]; exact h.size, ?_⟩⟩
  rw [hr, Nat.mul_one, List.take_append_of_le_length (by rw [pcells_length]; exact Nat.le_refl _), List.take_of_length_le (by rw [pcells_length]; exact Nat.le_refl _)]
theorem ownsRow_ptr {w : World} {v : Value} {L : List Rw} (h : w.ownsRow 0 37 1 v L.length (pcells L)) (hL : L ≠ []) : ∃ b c R, v = .slice (some ⟨b, 0, none⟩) L.length c ∧ PtrRow w b c L R := by
  obtain ⟨h1, ⟨_, h2⟩ | ⟨g, cap, cur, rfl, _, hg, h3, h4, h5, h6⟩⟩ := h
  · exact absurd (List.length_eq_zero_iff.1 h2) hL
  · rw [Nat.mul_one] at h5 h6
    exact ⟨g, cap, cur, rfl, ptrRow_of hg (rest := cur.toList.drop L.length) (by rw [← h6, List.take_append_drop]) h5 h4⟩

section
variable {w : World} {b c vb : Nat} {q : Rw} {L : List Rw} {R : Array Value}

set_option maxHeartbeats 4000000 in
set_option maxRecDepth 100000 in
/-- at the end of a row, or the first of one -/
theorem insert_end {v : Value} (h : w.ownsRow 0 37 1 v L.length (pcells L)) (hv0 : ∃ a c, v = .slice a L.length c ∧ (a = none → c = 0)) (hn : L.length ≤ 5000) (hv : w.heap[vb]? = some (.cells #[pv q] 37 (0, 0))) :
    Calls Tryz.prog 48 #[v, .int .i64 (L.length : Int), .slice (some ⟨vb, 0, none⟩) 1 1] w (InsEnd w v (L ++ [q])) := by
  obtain ⟨i0, hi0, hz0, hz1, hz2⟩ := info_parts infoP
  obtain ⟨a, c, rfl, ha⟩ := hv0
  have hc : w.cell? ⟨vb, 0, none⟩ = some (pv q) := by rw [cell_of hv]; rfl
  have hL : L.length ≤ c ∧ c ≤ 9223372036854775807 := by
    rcases h.2 with ⟨h1, h2⟩ | ⟨g, cap, cur, h1, _, _, h3, h4, _⟩
    · injection h1 with _ e1 e2
      exact ⟨by omega, by omega⟩
    · injection h1 with _ e1 e2
      unfold maxLen at h4
      exact ⟨by omega, by omega⟩
  have HN : Hid (∀ j u, [pv q][j]? = some u → w.cell? ((⟨vb, 0, none⟩ : Addr).add j) = some u) := fun j u hu => by
    cases j with
    | zero => simp at hu; subst hu; exact hc
    | succ j => simp at hu
  have HE : Hid ((L ++ [q]).length = L.length + 1 ∧ pcells (L ++ [q]) = pcells L ++ [pv q]) := ⟨by simp, by simp [pcells]⟩
  obtain ⟨L', hL'⟩ : ∃ L', L ++ [q] = L' := ⟨_, rfl⟩
  rw [hL'] at HE ⊢
  have HO : Hid (w.ownsRow 0 37 1 (.slice a L.length c) L.length (pcells L)) := h
  have H1 : Hid (∀ u ∈ [pv q], u.oneCell' = true) := fun u hu => by rw [List.mem_singleton.1 hu]; rfl
  obtain ⟨N, hN⟩ : ∃ N, L.length = N := ⟨_, rfl⟩
  rw [hN] at HE HO hL hn ⊢
  obtain ⟨l1, l2⟩ := hL
  have hb : (N + 1) * 24 ≤ 140737488355328 := by omega
  clear h hN hc hv hL'
  go_enter Tryz.func48, Tryz.ntmps48
  cases a with
  | none =>
    obtain rfl : c = 0 := ha rfl
    obtain rfl : N = 0 := by omega
    go_wp2_with (at_builtin; go_must (refine wpList_append_own_at _ rfl _ _ 44 rfl 0 37 i0 (.slice none 0 0) 1 24 Tryz.underlying44 hi0 hz0 hz1 hz2 rfl (by decide) _ _ _ rfl HO.out ⟨vb, 0, none⟩ 1 1 [pv q] rfl rfl HN.out H1.out (by unfold maxLen; omega) (by omega) (Nat.zero_le _) ?_; intro v' w' k1 k2 k3 k4; obtain ⟨g', cap', rfl⟩ := ownsRow_succ k1))
    go_ret
    refine ⟨_, rfl, ?_, k4, Turn.ofGrown k2 (fun k hk => hk)⟩
    rw [HE.out.1, HE.out.2]
    exact k1
  | some a =>
    obtain ⟨ab, ao, az⟩ := a
    go_wp2_with (at_builtin; go_must (refine wpList_append_own_at _ rfl _ _ 44 rfl 0 37 i0 (.slice none 0 0) 1 24 Tryz.underlying44 hi0 hz0 hz1 hz2 rfl (by decide) _ _ _ rfl HO.out ⟨vb, 0, none⟩ 1 1 [pv q] rfl rfl HN.out H1.out (by unfold maxLen; omega) (by omega) (Nat.zero_le _) ?_; intro v' w' k1 k2 k3 k4; obtain ⟨g', cap', rfl⟩ := ownsRow_succ k1))
    all_goals go_ret
    all_goals refine ⟨_, rfl, ?_, k4, Turn.ofGrown k2 (fun k hk => hk)⟩
    all_goals rw [HE.out.1, HE.out.2]
    all_goals exact k1
end

end Go.Proofs.YtfddmibaojfalaaGreat

/- slices.Insert of one row in the middle of a row of rows. -/
namespace Go.Proofs.YtfddmibaojfalaaGreat
open Go.RowKit Go.Lib

section
variable {w : World} {b c vb i : Nat} {q : Rw} {L : List Rw} {R : Array Value}

theorem sizeP : (Tryz.prog.info? 37).map (·.size) = some 1 := by kernel_rfl
theorem drop_cell {j : Nat} {v : Value} (hj : (pcells (L.drop i))[j]? = some v) : (pcells L)[i + j]? = some v := by
  unfold pcells at hj ⊢
  rw [List.getElem?_map, List.getElem?_drop] at hj
  rw [List.getElem?_map]
  exact hj
theorem PtrRow.cell (h : PtrRow w b c L R) {j : Nat} {v : Value} (hj : (pcells L)[j]? = some v) : w.cell? ⟨b, j, none⟩ = some v := by
  unfold pcells at hj
  rw [List.getElem?_map] at hj
  obtain ⟨x, hx, rfl⟩ := Option.map_eq_some_iff.1 hj
  rw [cell_of h.st]
  exact h.at_ j x hx
theorem PtrRow.some (h : PtrRow w b c L R) {j : Nat} (hj : j < c) : (w.cell? ⟨b, j, none⟩).isSome = true := by
  rw [cell_of h.st, Array.getElem?_eq_getElem (by rw [h.size]; exact hj)]
  rfl
theorem shape_cells {u : World} {x : Nat} {C : Array Value} {t : TypeId} (h : u.heap[x]? = some (.cells C t (0, 0))) : u.shape? x = some (t, C.size) := by
  simp [World.shape?, h]

/-- the row behind both copies -/
theorem shifted (h : PtrRow w b c L R) (hi : i < L.length) (hroom : L.length + 1 ≤ c) {W : World} (hW : W.heap[b]? = w.heap[b]?) :
    ∃ R', PtrRow ((W.setCells b (i + 1) (pcells (L.drop i))).setCells b i [pv q]) b c (L.insertIdx i q) R' := by
  obtain ⟨rest, hr⟩ := h.list
  have hsz := h.size
  have hlen := congrArg List.length hr
  rw [List.length_append, pcells_length, Array.length_toList, hsz] at hlen
  have hx : pcells L = pcells (L.take (i + 1)) ++ pcells (L.drop (i + 1)) := by unfold pcells; rw [← List.map_append, List.take_append_drop]
  obtain ⟨y, hy⟩ : ∃ y, L[i]? = some y := ⟨_, List.getElem?_eq_getElem hi⟩
  have hx2 : pcells (L.take (i + 1)) = pcells (L.take i) ++ [pv y] := by unfold pcells; rw [List.take_add_one, hy]; simp
  obtain ⟨c1, g1, e1⟩ := setCells_heap3 b (pcells (L.drop i)) (i + 1) W R 37 (0, 0) (pcells (L.take (i + 1))) (pcells (L.drop (i + 1)) ++ rest.take 1) (rest.drop 1) (hW.trans h.st)
    (by rw [hr, hx, List.append_assoc, List.append_assoc (pcells (L.drop (i + 1))), List.take_append_drop]) (by rw [pcells_length, List.length_take]; omega) (by rw [List.length_append, pcells_length, pcells_length, List.length_drop, List.length_drop, List.length_take]; omega)
  obtain ⟨c2, g2, e2⟩ := setCells_heap3 b [pv q] i (W.setCells b (i + 1) (pcells (L.drop i))) c1 37 (0, 0) (pcells (L.take i)) [pv y] (pcells (L.drop i) ++ rest.drop 1) g1
    (by rw [e1, hx2]; simp) (by rw [pcells_length, List.length_take]; omega) rfl
  refine ⟨c2, ptrRow_of g2 (rest := rest.drop 1) ?_ ?_ h.big⟩
  · rw [e2, insertIdx_eq L i q (by omega)]
    unfold pcells
    simp
  · have := congrArg List.length e2
    rw [List.length_append, List.length_append, List.length_append, pcells_length, pcells_length, Array.length_toList, List.length_drop, List.length_take, List.length_drop, List.length_singleton] at this
    omega

theorem overlaps_no (h : PtrRow w b c L R) (hv : w.heap[vb]? = some (.cells #[pv q] 37 (0, 0))) (hvb : vb ≠ b) (hc : 0 < c) (o lb cb : Nat) :
    (callFunc 69 #[.slice (some ⟨vb, 0, none⟩) 1 1, .slice (some ⟨b, o, none⟩) lb cb]).run Tryz.prog w = .ok (.value (.bool false)) w := by
  rw [run_callFunc_extern Tryz.func69 (by kernel_rfl) (by kernel_rfl) (by kernel_rfl) (e := Extern.SlicesOverlaps.overlaps #[44, 44] #[4]) (by kernel_rfl),
    Lib.run_overlaps_apart w 44 4 37 Tryz.underlying44 1 Tryz.sizeOf37 ⟨vb, 0, none⟩ ⟨b, o, none⟩ 1 1 lb cb hvb 37 37 1 c (shape_cells hv) (by rw [shape_cells h.st, h.size]) (by omega) (frozen_of hv 0) (frozen_of hv 1)]
  rfl

set_option maxHeartbeats 4000000 in
set_option maxRecDepth 100000 in
theorem insert_room (h : PtrRow w b c L R) (hn : L.length ≤ 5000) (hi : i < L.length) (hroom : L.length + 1 ≤ c) (hvb : vb ≠ b) (hv : w.heap[vb]? = some (.cells #[pv q] 37 (0, 0))) :
    Calls Tryz.prog 48 #[.slice (some ⟨b, 0, none⟩) L.length c, .int .i64 (i : Int), .slice (some ⟨vb, 0, none⟩) 1 1] w fun e w' => e = .returned (.slice (some ⟨b, 0, none⟩) (L.length + 1) c) ∧ Hid ((∃ R', PtrRow w' b c (L.insertIdx i q) R') ∧ Turn (fun i => i = b) w w') := by
  have hbig := h.big
  unfold maxLen at hbig
  have hov : ∀ lb cb, (callFunc 69 #[.slice (some ⟨vb, 0, none⟩) 1 1, .slice (some ⟨b, i + 1, none⟩) lb cb]).run Tryz.prog w = .ok (.value (.bool false)) w := fun lb cb => overlaps_no h hv hvb (by omega) _ lb cb
  have HX : Hid ((∃ R', PtrRow ((w.drew.setCells b (i + 1) (pcells (L.drop i))).setCells b i [pv q]) b c (L.insertIdx i q) R') ∧ Turn (fun i => i = b) w ((w.drew.setCells b (i + 1) (pcells (L.drop i))).setCells b i [pv q])) :=
    ⟨shifted h hi hroom (W := w.drew) rfl, ((Turn.refl _ _).drew.trans (setCells_turn b _ _ _)).trans (setCells_turn b _ _ _)⟩
  have hdl : (pcells (L.drop i)).length = L.length - i := by rw [pcells_length, List.length_drop]
  obtain ⟨W1, hW1⟩ : ∃ W1, W1 = w.drew.setCells b (i + 1) (pcells (L.drop i)) := ⟨_, rfl⟩
  have hcp1 : ∀ ty dc sc, (Builtin.copy_ #[44, 44] ty #[.slice (some ⟨b, i + 1, none⟩) (L.length - i) dc, .slice (some ⟨b, i, none⟩) (L.length + 1 - i) sc]).run Tryz.prog w.drew = .ok (goInt (pcells (L.drop i)).length) W1 := fun ty dc sc => by
    rw [hW1]
    exact run_copy_cells w.drew _ _ ty 37 b (i + 1) (L.length - i) dc ⟨b, i, none⟩ (L.length + 1 - i) sc (pcells (L.drop i)) Tryz.underlying44 sizeP (by rw [hdl]; simp only [Nat.min_def]; split <;> omega)
      (fun j v hj => by rw [Addr.add_lit]; exact h.cell (drop_cell hj)) (fun j hj => h.some (by rw [hdl] at hj; omega)) (fun j _ => frozen_of h.st _) (pcells_one _)
  have hst1 : ∃ C1, W1.heap[b]? = some (.cells C1 37 (0, 0)) ∧ C1.size = c := by
    obtain ⟨rest, hr⟩ := h.list
    have hsz := h.size
    have hlen := congrArg List.length hr
    rw [List.length_append, pcells_length, Array.length_toList, hsz] at hlen
    obtain ⟨c1, g1, e1⟩ := setCells_heap3 b (pcells (L.drop i)) (i + 1) w.drew R 37 (0, 0) (R.toList.take (i + 1)) ((R.toList.drop (i + 1)).take (L.length - i)) ((R.toList.drop (i + 1)).drop (L.length - i)) h.st
      (by rw [List.take_append_drop, List.take_append_drop]) (by rw [List.length_take, show R.toList.length = R.size from Array.length_toList]; omega) (by rw [hdl, List.length_take, List.length_drop, show R.toList.length = R.size from Array.length_toList]; omega)
    refine ⟨c1, by rw [hW1]; exact g1, ?_⟩
    have := congrArg List.length e1
    rw [List.length_append, List.length_append, hdl, List.length_take, List.length_drop, List.length_drop, show R.toList.length = R.size from Array.length_toList, show c1.toList.length = c1.size from Array.length_toList] at this
    omega
  obtain ⟨C1, hC1, hC1s⟩ := hst1
  have hvw : W1.cell? ⟨vb, 0, none⟩ = some (pv q) := by
    have e : W1.heap[vb]? = w.drew.heap[vb]? := by rw [hW1]; exact (setCells_turn b _ _ _).block vb (lt_of hv) hvb
    rw [cell_of (e.trans hv)]; rfl
  have hcp2 : ∀ ty dc, (Builtin.copy_ #[44, 44] ty #[.slice (some ⟨b, i, none⟩) (L.length + 1 - i) dc, .slice (some ⟨vb, 0, none⟩) 1 1]).run Tryz.prog W1 = .ok (goInt 1) (W1.setCells b i [pv q]) := fun ty dc =>
    run_copy_cells W1 _ _ ty 37 b i (L.length + 1 - i) dc ⟨vb, 0, none⟩ 1 1 [pv q] Tryz.underlying44 sizeP (by rw [List.length_singleton]; simp only [Nat.min_def]; split <;> omega)
      (fun j v hj => by
        cases j with
        | zero => simp at hj; subst hj; exact hvw
        | succ j => simp at hj)
      (fun j hj => by rw [cell_of hC1, Array.getElem?_eq_getElem (by simp at hj; omega)]; rfl) (fun j _ => frozen_of hC1 _) (fun v hv => by rw [List.mem_singleton.1 hv]; rfl)
  have hdl2 := hdl
  obtain ⟨X, hX⟩ : ∃ X, (pcells (L.drop i)).length = X := ⟨_, rfl⟩
  rw [hX] at hcp1 hdl2
  rw [← hW1] at HX
  obtain ⟨N, hN⟩ : ∃ N, L.length = N := ⟨_, rfl⟩
  rw [hN] at hcp1 hcp2 hi hroom hn ⊢
  have hz2 : ¬ ((i : Int) = (N : Int)) := by omega
  have hw1 : IntKind.i64.wrap ((i : Int) + 1) = (i : Int) + 1 := by rw [IntKind.wrap_i64]; omega
  have hb1 : (0 : Int) ≤ (i : Int) + 1 := by omega
  have hin : i ≤ N := by omega
  have htn : ((i : Int) + 1).toNat = i + 1 := by omega
  have hb2 : ¬ (c = i + 1) := by omega
  have hb3 : (i : Int) ≤ (N : Int) + 1 := by omega
  have hb4 : ¬ (c = i) := by omega
  have hroom2 : ¬ (c : Int) < (N : Int) + 1 := by omega
  have mixed : Tryz.prog.follows .mixedOrders = true := by kernel_rfl
  clear h hv hW1 hdl hdl2 hX hC1 hC1s hvw hN
  go_enter Tryz.func48, Tryz.ntmps48
  go_wp2_with (simp only [hov])
  go_region_law_o (refine step_copy_runI rfl _ _ 44 44 rfl _ _ (by simp [Act.eval, Act.put]) (by simp [Act.eval, Act.put]) (hcp1 _ _ _) ?_)
  go_wp2_with (at_builtin; go_must (refine wpList_copy_runI _ rfl _ _ 44 44 rfl _ _ rfl rfl (hcp2 _ _) ?_))
  go_ret
  exact ⟨rfl, HX.out⟩
end

end Go.Proofs.YtfddmibaojfalaaGreat

/- slices.Insert of one row in the middle of a row of rows that is full. -/
namespace Go.Proofs.YtfddmibaojfalaaGreat
open Go.RowKit Go.Lib Go.Shelf

section
variable {w : World} {b c vb i : Nat} {q : Rw} {L : List Rw} {R : Array Value}

theorem setCells_size (b : Nat) : ∀ (vs : List Value) (o : Nat) (w : World), (w.setCells b o vs).heap.size = w.heap.size
  | [], _, _ => rfl
  | v :: r, o, w => by rw [World.setCells, setCells_size b r]; simp
theorem zero_cells (n : Nat) : (Builtin.zeroCells (Value.slice none 0 0).cells n).toList.length = n := by rw [Array.length_toList, size_zeroCells]; simp [Value.cells]

set_option maxHeartbeats 4000000 in
set_option maxRecDepth 100000 in
theorem insert_grow (h : PtrRow w b c L R) (hn : L.length ≤ 5000) (hi : i < L.length) (hroom : c < L.length + 1) (hv : w.heap[vb]? = some (.cells #[pv q] 37 (0, 0))) :
    Calls Tryz.prog 48 #[.slice (some ⟨b, 0, none⟩) L.length c, .int .i64 (i : Int), .slice (some ⟨vb, 0, none⟩) 1 1] w fun e w' => ∃ c', e = .returned (.slice (some ⟨w.heap.size, 0, none⟩) (L.length + 1) c') ∧ Hid ((∃ R', PtrRow w' w.heap.size c' (L.insertIdx i q) R') ∧ Turn (fun i => i = b) w w') := by
  have hbig := h.big
  have hfit := h.fit
  unfold maxLen at hbig
  obtain ⟨i0, hi0, hz0, hzs, hzb⟩ := info_parts infoP
  have hbw : b < w.heap.size := lt_of h.st
  have hvw : vb < w.heap.size := lt_of hv
  obtain ⟨N, hN⟩ : ∃ N, L.length = N := ⟨_, rfl⟩
  have hiN : i < N := by omega
  have hold : (Builtin.firstCells i0.size i (.slice (some ⟨b, 0, none⟩) i c)).run Tryz.prog w.drew = .ok (pcells (L.take i)).toArray w.drew := by
    rw [hzs]
    exact run_firstCells_some w.drew 1 i ⟨b, 0, none⟩ i c (pcells (L.take i)) (by rw [pcells_length, List.length_take]; omega) (fun j v hj => by
      rw [Addr.add_lit, Nat.zero_add]
      refine h.cell ?_
      unfold pcells at hj ⊢
      rw [List.getElem?_map] at hj ⊢
      by_cases hji : j < i
      · rw [List.getElem?_take_of_lt hji] at hj
        exact hj
      · rw [List.getElem?_eq_none (by rw [List.length_take]; omega)] at hj
        cases hj)
  obtain ⟨G, hG⟩ : ∃ G, G = grownCap w (N + 1) c 37 := ⟨_, rfl⟩
  have hGn : N + 1 ≤ G := by rw [hG]; exact grownCap_ge w _ _ _
  have hGm : G ≤ maxLen := by
    rw [hG]
    exact grownCap_le_maxLen w (N + 1) c 37 (by unfold maxLen; omega)
  have hG63 : G ≤ 9223372036854775807 := by unfold maxLen at hGm; omega
  obtain ⟨ROW, hROW⟩ : ∃ ROW : Array Value, ROW = (pcells (L.take i)).toArray ++ Builtin.zeroCells (Value.slice none 0 0).cells (N + 1 - i) ++ Builtin.zeroCells (Value.slice none 0 0).cells (G - (N + 1)) := ⟨_, rfl⟩
  have hik : i + (N + 1 - i) = N + 1 := by omega
  have hrz : ∀ ty, (Builtin.append_ #[44, 3] ty #[.slice (some ⟨b, 0, none⟩) i c, .int .i64 ((N : Int) + 1 - (i : Int))]).run Tryz.prog w = .ok (.slice (some ⟨w.heap.size, 0, none⟩) (N + 1) G) (w.drew.alloc (.cells ROW 37)) := fun ty => by
    have hh := Lib.run_append_grow_zeros w 44 3 ty 37 i0 _ .i64 .i64 Tryz.underlying44 Tryz.underlying3 hi0 hz0 (some ⟨b, 0, none⟩) i c (pcells (L.take i)) hold (N + 1 - i) (by omega) (by omega) (by omega) (by omega) (by rw [hzb]; omega) (by rw [hzb, hik]; exact growslice_fits (by omega) (by omega))
    rw [hik, ← hG, ← hROW] at hh
    rw [show (N : Int) + 1 - (i : Int) = ((N + 1 - i : Nat) : Int) by omega]
    exact hh
  have hRs : ROW.toList = pcells (L.take i) ++ ((Builtin.zeroCells (Value.slice none 0 0).cells (N + 1 - i)).toList ++ (Builtin.zeroCells (Value.slice none 0 0).cells (G - (N + 1))).toList) := by rw [hROW]; simp
  have htl : (pcells (L.take i)).length = i := by rw [pcells_length, List.length_take]; omega
  have hRz : ROW.size = G := by
    have := congrArg List.length hRs
    rw [List.length_append, List.length_append, htl, zero_cells, zero_cells, show ROW.toList.length = ROW.size from Array.length_toList] at this
    omega
  obtain ⟨Z1, hZ1⟩ : ∃ Z1, (Builtin.zeroCells (Value.slice none 0 0).cells (N + 1 - i)).toList = Z1 := ⟨_, rfl⟩
  obtain ⟨Z2, hZ2⟩ : ∃ Z2, (Builtin.zeroCells (Value.slice none 0 0).cells (G - (N + 1))).toList = Z2 := ⟨_, rfl⟩
  have hZ1l : Z1.length = N + 1 - i := by rw [← hZ1]; exact zero_cells _
  rw [hZ1, hZ2] at hRs
  have hdl : (pcells (L.drop i)).length = N - i := by rw [pcells_length, List.length_drop, hN]
  obtain ⟨B0, hB0⟩ : ∃ B0, w.heap.size = B0 := ⟨_, rfl⟩
  -- the first copy
  have hst0 : ∀ W : World, W.heap = (w.alloc (.cells ROW 37)).heap → W.heap[B0]? = some (.cells ROW 37 (0, 0)) ∧ W.cell? ⟨vb, 0, none⟩ = some (pv q) := fun W hW => by
    refine ⟨by rw [hW, ← hB0]; exact heap_new w _, ?_⟩
    have e : W.heap[vb]? = some (.cells #[pv q] 37 (0, 0)) := by rw [hW, Below.heap_alloc w _ vb hvw]; exact hv
    rw [cell_of e]; rfl
  have hcpA : ∀ W : World, W.heap = (w.alloc (.cells ROW 37)).heap → ∀ ty dc, (Builtin.copy_ #[44, 44] ty #[.slice (some ⟨B0, i, none⟩) (N + 1 - i) dc, .slice (some ⟨vb, 0, none⟩) 1 1]).run Tryz.prog W = .ok (goInt 1) (W.setCells B0 i [pv q]) := fun W hW ty dc =>
    run_copy_cells W _ _ ty 37 B0 i (N + 1 - i) dc ⟨vb, 0, none⟩ 1 1 [pv q] Tryz.underlying44 sizeP (by rw [List.length_singleton]; simp only [Nat.min_def]; split <;> omega)
      (fun j v hj => by
        cases j with
        | zero => simp at hj; subst hj; exact (hst0 W hW).2
        | succ j => simp at hj)
      (fun j hj => by rw [cell_of (hst0 W hW).1, Array.getElem?_eq_getElem (by simp at hj; omega)]; rfl) (fun j _ => frozen_of (hst0 W hW).1 _) (fun v hv => by rw [List.mem_singleton.1 hv]; rfl)
  -- behind it
  have hst1 : ∀ W : World, W.heap = (w.alloc (.cells ROW 37)).heap → ∃ C1, (W.setCells B0 i [pv q]).heap[B0]? = some (.cells C1 37 (0, 0)) ∧ C1.toList = pcells (L.take i) ++ ([pv q] ++ (Z1.drop 1 ++ Z2)) := fun W hW =>
    setCells_heap3 B0 [pv q] i W ROW 37 (0, 0) (pcells (L.take i)) (Z1.take 1) (Z1.drop 1 ++ Z2) (hst0 W hW).1 (by rw [hRs, ← List.append_assoc (Z1.take 1), List.take_append_drop]) htl (by rw [List.length_take, hZ1l, List.length_singleton]; omega)
  have hsrc1 : ∀ W : World, W.heap = (w.alloc (.cells ROW 37)).heap → ∀ j, (W.setCells B0 i [pv q]).cell? ⟨b, j, none⟩ = w.cell? ⟨b, j, none⟩ := fun W hW j => by
    have e : (W.setCells B0 i [pv q]).heap[b]? = some (.cells R 37 (0, 0)) := by
      rw [(setCells_turn B0 [pv q] i W).block b (by rw [hW]; simp; omega) (by omega), hW, Below.heap_alloc w _ b hbw]
      exact h.st
    rw [cell_of e, cell_of h.st]
  have hcpB : ∀ W V : World, W.heap = (w.alloc (.cells ROW 37)).heap → V.heap = (W.setCells B0 i [pv q]).heap → ∀ ty dc sc, (Builtin.copy_ #[44, 44] ty #[.slice (some ⟨B0, i + 1, none⟩) (N - i) dc, .slice (some ⟨b, i, none⟩) (N - i) sc]).run Tryz.prog V = .ok (goInt (pcells (L.drop i)).length) (V.setCells B0 (i + 1) (pcells (L.drop i))) := fun W V hW hV ty dc sc => by
    obtain ⟨C1, g1, e1⟩ := hst1 W hW
    have g1' : V.heap[B0]? = some (.cells C1 37 (0, 0)) := by rw [hV]; exact g1
    have hC1s : C1.size = G := by
      have := congrArg List.length e1
      have hZ2l : Z2.length = G - (N + 1) := by rw [← hZ2]; exact zero_cells _
      rw [List.length_append, List.length_append, List.length_append, htl, List.length_drop, hZ1l, hZ2l, List.length_singleton, show C1.toList.length = C1.size from Array.length_toList] at this
      omega
    exact run_copy_cells V _ _ ty 37 B0 (i + 1) (N - i) dc ⟨b, i, none⟩ (N - i) sc (pcells (L.drop i)) Tryz.underlying44 sizeP (by rw [hdl]; simp only [Nat.min_def]; split <;> omega)
      (fun j v hj => by
        rw [Addr.add_lit]
        have e : V.cell? ⟨b, i + j, none⟩ = (W.setCells B0 i [pv q]).cell? ⟨b, i + j, none⟩ := by simp only [World.cell?, hV]
        rw [e, hsrc1 W hW]
        exact h.cell (drop_cell hj))
      (fun j hj => by rw [cell_of g1', Array.getElem?_eq_getElem (by rw [hdl] at hj; omega)]; rfl) (fun j _ => frozen_of g1' _) (pcells_one _)
  have HX : Hid (∀ W V : World, W.heap = (w.alloc (.cells ROW 37)).heap → V.heap = (W.setCells B0 i [pv q]).heap → V.os = w.os → V.tape = w.tape → V.output = w.output → (∃ R', PtrRow (V.setCells B0 (i + 1) (pcells (L.drop i))) B0 G (L.insertIdx i q) R') ∧ Turn (fun i => i = b) w (V.setCells B0 (i + 1) (pcells (L.drop i)))) := fun W V hW hV p1 p2 p3 => by
    obtain ⟨C1, g1, e1⟩ := hst1 W hW
    have g1' : V.heap[B0]? = some (.cells C1 37 (0, 0)) := by rw [hV]; exact g1
    obtain ⟨C2, g2, e2⟩ := setCells_heap3 B0 (pcells (L.drop i)) (i + 1) V C1 37 (0, 0) (pcells (L.take i) ++ [pv q]) (Z1.drop 1) Z2 g1' (by rw [e1]; simp) (by rw [List.length_append, htl]; rfl) (by rw [List.length_drop, hZ1l, hdl]; omega)
    refine ⟨⟨C2, ptrRow_of g2 (rest := Z2) ?_ ?_ hGm⟩, ?_⟩
    · rw [e2, insertIdx_eq L i q (by omega)]
      unfold pcells
      simp
    · have := congrArg List.length e2
      have hZ2l : Z2.length = G - (N + 1) := by rw [← hZ2]; exact zero_cells _
      rw [List.length_append, List.length_append, List.length_append, htl, hdl, hZ2l, List.length_singleton, show C2.toList.length = C2.size from Array.length_toList] at this
      omega
    · have t1 := setCells_turn B0 (pcells (L.drop i)) (i + 1) V
      have t0 := setCells_turn B0 [pv q] i W
      have hWs : W.heap.size = w.heap.size + 1 := by rw [hW]; simp
      have hVs : V.heap.size = w.heap.size + 1 := by rw [hV, setCells_size]; exact hWs
      refine ⟨t1.os.trans p1, t1.tape.trans p2, t1.output.trans p3, by have := t1.size; omega, fun j hj _ => ?_⟩
      have hjB : j ≠ B0 := by omega
      rw [t1.block j (by omega) hjB, hV, t0.block j (by omega) hjB, hW]
      exact Below.heap_alloc w _ j hj
  have hX0 : (pcells (L.drop i)).length = N - i := hdl
  obtain ⟨X, hX⟩ : ∃ X, pcells (L.drop i) = X := ⟨_, rfl⟩
  rw [hX] at hcpB hX0 HX
  subst hB0
  rw [hN] at hn hi hroom hfit ⊢
  have hz2 : ¬ ((i : Int) = (N : Int)) := by omega
  have hw1 : IntKind.i64.wrap ((i : Int) + 1) = (i : Int) + 1 := by rw [IntKind.wrap_i64]; omega
  have hb1 : (0 : Int) ≤ (i : Int) + 1 := by omega
  have htn : ((i : Int) + 1).toNat = i + 1 := by omega
  have hGi : ¬ (G = i) := by omega
  have hGim : ¬ (G = i + 1) := by omega
  have hci : ¬ (c = i) := by omega
  have hb3 : (i : Int) ≤ (N : Int) := by omega
  have hroom2 : (c : Int) < (N : Int) + 1 := by omega
  have mixed : Tryz.prog.follows .mixedOrders = true := by kernel_rfl
  have hE1 : ((w.alloc (.cells ROW 37)).drew).heap = (w.alloc (.cells ROW 37)).heap := rfl
  have hE2 : ((((w.alloc (.cells ROW 37)).drew).setCells w.heap.size i [pv q]).drew).heap = (((w.alloc (.cells ROW 37)).drew).setCells w.heap.size i [pv q]).heap := rfl
  clear h hv hold hRs hRz hZ1 hZ2 hZ1l hdl hst0 hst1 hsrc1 hX hX0 hROW hG hN htl hik
  go_enter Tryz.func48, Tryz.ntmps48
  go_wp2_with (first
    | (at_builtin; refine Lib.wpList_append_run _ rfl _ _ _ _ rfl _ _ rfl rfl _ _ (hrz _) ?_)
    | (at_builtin; refine wpList_copy_runI _ rfl _ _ 44 44 rfl _ _ rfl rfl (hcpA _ hE1 _ _) ?_))
  go_region_law_o (refine step_copy_runI rfl _ _ 44 44 rfl (.slice (some ⟨w.heap.size, i + 1, none⟩) (N - i) (G - (i + 1))) (.slice (some ⟨b, i, none⟩) (N - i) (c - i)) (by simp [Act.eval, Act.put]) (by simp [Act.eval, Act.put]) (hcpB _ _ hE1 hE2 _ _ _) ?_)
  go_wp2
  go_ret
  exact ⟨_, rfl, HX.out _ _ hE1 hE2 rfl rfl rfl⟩
end

end Go.Proofs.YtfddmibaojfalaaGreat
