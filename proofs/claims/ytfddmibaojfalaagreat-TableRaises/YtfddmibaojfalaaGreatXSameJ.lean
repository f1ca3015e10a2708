import Derived.Test.YtfddmibaojfalaaGreatXNewJ
/- Are rows the same: the book's SameValue, SameRow, SameRows, where they are. -/
namespace Go.Proofs.YtfddmibaojfalaaGreat
open Go.RowKit

theorem box_val {u : World} {b : Nat} {k n : Int} {s : ByteArray} (h : u.heap[b]? = some (vobj k n s)) : u.cell? ⟨b, 0, none⟩ = some (.int .i64 k) ∧ u.cell? ⟨b, 1, none⟩ = some (.int .i64 n) ∧ u.cell? ⟨b, 2, none⟩ = some (.complex .f64 0 0) ∧ u.cell? ⟨b, 3, none⟩ = some (.string s) :=
  ⟨by rw [cell_of h]; rfl, by rw [cell_of h]; rfl, by rw [cell_of h]; rfl, by rw [cell_of h]; rfl⟩
set_option linter.unusedSimpArgs false in
set_option maxRecDepth 100000 in
set_option maxHeartbeats 2000000 in
theorem sameValue_same (k n : Int) (s : ByteArray) (w : World) : Calls Tryz.prog 29 #[vagg k n s, vagg k n s] w fun e w' => e = .returned (.bool true) ∧ Below w.heap.size w w' := by
  have hl := bits_law
  obtain ⟨b, hb⟩ : ∃ b, w.heap.size = b := ⟨_, rfl⟩
  obtain ⟨w1, hw1⟩ : ∃ u, w.alloc (vobj k n s) = u := ⟨_, rfl⟩
  obtain ⟨w2, hw2⟩ : ∃ u, w1.alloc (vobj k n s) = u := ⟨_, rfl⟩
  have z1 : w1.heap.size = b + 1 := by rw [← hw1, ← hb]; simp
  have x1 : w1.heap[b]? = some (vobj k n s) := by rw [← hw1, ← hb]; exact heap_new w _
  have x2 : w2.heap[b]? = some (vobj k n s) := by rw [← hw2, Below.heap_alloc _ _ _ (by omega)]; exact x1
  have x3 : w2.heap[b + 1]? = some (vobj k n s) := by rw [← hw2, ← z1]; exact heap_new w1 _
  have HB : Hid (Below w.heap.size w w2) := by show Below _ _ _; rw [← hw2, ← hw1]; exact bl_alloc (bl_alloc (Below.refl _ _) _) _
  obtain ⟨a0, a1, a2, a3⟩ := box_val x2
  obtain ⟨c0, c1, c2, c3⟩ := box_val x3
  clear x1 x2 x3
  go_enter Tryz.func29, Tryz.ntmps29
  go_wp2_with fail
  go_region_held3 (fun u => u.cell? ⟨b, 2, none⟩ = some (.complex .f64 0 0) ∧ u.cell? ⟨b + 1, 2, none⟩ = some (.complex .f64 0 0)) (first | (refine ⟨?_, ?_⟩ <;> (repeat (first | with_reducible assumption | with_reducible apply cell_drew)) <;> done) | go_keep) (fail)
  all_goals go_wp2_with fail
  all_goals go_ret
  all_goals exact ⟨by simp, by first | exact HB.out | exact bl_drew HB.out⟩

end Go.Proofs.YtfddmibaojfalaaGreat

/- Are rows the same: the book's SameRow, where they are. -/
namespace Go.Proofs.YtfddmibaojfalaaGreat
open Go.RowKit

set_option linter.unusedSimpArgs false in
set_option maxRecDepth 100000 in
set_option maxHeartbeats 2000000 in
theorem sameRow_same (v1 v2 : Value) (L : List V) (w w0 : World) (hb : Below w0.heap.size w0 w) (h1 : SliceAt w0 v1 4 enV L) (h2 : SliceAt w0 v2 4 enV L) (hl : L.length ≤ 5000) : Calls Tryz.prog 20 #[v1, v2] w fun e w' => e = .returned (.bool true) ∧ Below w.heap.size w w' := by
  obtain ⟨a1, c1, rfl, r1, r2, k1⟩ := h1.vals
  obtain ⟨a2, c2, rfl, r3, r4, k2⟩ := h2.vals
  have H1 : Hid (∀ u, Below w.heap.size w u → ∀ (i : Nat) (y : V), L[i]? = some y → ∃ b off, a1 = some ⟨b, off, none⟩ ∧ b < u.heap.size ∧ u.cell? ⟨b, off + i * 4, none⟩ = some (.int .i64 y.k) ∧ u.cell? ⟨b, off + i * 4 + 1, none⟩ = some (.int .i64 y.n) ∧ u.cell? ⟨b, off + i * 4 + 2, none⟩ = some (.complex .f64 0 0) ∧ u.cell? ⟨b, off + i * 4 + 3, none⟩ = some (.string y.s)) := fun u hu => k1 u (hb.trans (hu.mono hb.size))
  have H2 : Hid (∀ u, Below w.heap.size w u → ∀ (i : Nat) (y : V), L[i]? = some y → ∃ b off, a2 = some ⟨b, off, none⟩ ∧ b < u.heap.size ∧ u.cell? ⟨b, off + i * 4, none⟩ = some (.int .i64 y.k) ∧ u.cell? ⟨b, off + i * 4 + 1, none⟩ = some (.int .i64 y.n) ∧ u.cell? ⟨b, off + i * 4 + 2, none⟩ = some (.complex .f64 0 0) ∧ u.cell? ⟨b, off + i * 4 + 3, none⟩ = some (.string y.s)) := fun u hu => k2 u (hb.trans (hu.mono hb.size))
  have HV : Hid (∀ (k n : Int) (s : ByteArray) (u : World), Calls Tryz.prog 29 #[vagg k n s, vagg k n s] u fun e w' => e = .returned (.bool true) ∧ Below u.heap.size u w') := fun k n s u => sameValue_same k n s u
  obtain ⟨N, hN⟩ : ∃ N, L.length = N := ⟨_, rfl⟩
  have HN : Hid (L.length = N) := hN
  unfold maxLen at r2 r4
  rw [hN] at r1 r3 hl ⊢
  clear h1 h2 k1 k2 hb hN
  go_enter Tryz.func20, Tryz.ntmps20
  go_wp2_with fail
  go_loopw [5] (fun v wr => ∃ i : Nat, i ≤ N ∧ v = .int .i64 i ∧ Hid (Below w.heap.size w wr)) (fun v _ => N - (intOf v).toNat)
  case atStart => exact ⟨0, Nat.zero_le _, rfl, Below.refl _ _⟩
  case round =>
    obtain ⟨i, hi, rfl, HB⟩ := hrel
    by_cases hlt : i < N
    · obtain ⟨y, hy⟩ : ∃ y, L[i]? = some y := ⟨_, List.getElem?_eq_getElem (by rw [HN.out]; exact hlt)⟩
      obtain ⟨b1, o1, rfl, l1, p0, p1, p2, p3⟩ := H1.out wr HB.out i y hy
      obtain ⟨b2, o2, rfl, l2, q0, q1, q2, q3⟩ := H2.out wr HB.out i y hy
      obtain ⟨k, n, s⟩ := y
      dsimp only at p0 p1 p2 p3 q0 q1 q2 q3
      have hlI : (i : Int) < (N : Int) := by omega
      have HS : Hid (Calls Tryz.prog 29 #[vagg k n s, vagg k n s] wr.drew fun e w' => e = .returned (.bool true) ∧ Hid (Below w.heap.size w w') ∧ (w'.cell? ⟨b1, o1 + i * 4, none⟩ = some (.int .i64 k) ∧ w'.cell? ⟨b1, o1 + i * 4 + 1, none⟩ = some (.int .i64 n) ∧ w'.cell? ⟨b1, o1 + i * 4 + 2, none⟩ = some (.complex .f64 0 0) ∧ w'.cell? ⟨b1, o1 + i * 4 + 3, none⟩ = some (.string s)) ∧ (w'.cell? ⟨b2, o2 + i * 4, none⟩ = some (.int .i64 k) ∧ w'.cell? ⟨b2, o2 + i * 4 + 1, none⟩ = some (.int .i64 n) ∧ w'.cell? ⟨b2, o2 + i * 4 + 2, none⟩ = some (.complex .f64 0 0) ∧ w'.cell? ⟨b2, o2 + i * 4 + 3, none⟩ = some (.string s))) := (HV.out k n s wr.drew).mono fun e w' ⟨e1, e2⟩ => by
        have e3 : Below wr.heap.size wr w' := (bl_drew (Below.refl _ wr)).trans e2
        exact ⟨e1, HB.out.trans (e3.mono HB.out.size), ⟨cell_below p0 e3, cell_below p1 e3, cell_below p2 e3, cell_below p3 e3⟩, ⟨cell_below q0 e3, cell_below q1 e3, cell_below q2 e3, cell_below q3 e3⟩⟩
      clear hy
      go_wp2_with fail
      go_region_held3 (fun u => (u.cell? ⟨b1, o1 + i * 4, none⟩ = some (.int .i64 k) ∧ u.cell? ⟨b1, o1 + i * 4 + 1, none⟩ = some (.int .i64 n) ∧ u.cell? ⟨b1, o1 + i * 4 + 2, none⟩ = some (.complex .f64 0 0) ∧ u.cell? ⟨b1, o1 + i * 4 + 3, none⟩ = some (.string s)) ∧ (u.cell? ⟨b2, o2 + i * 4, none⟩ = some (.int .i64 k) ∧ u.cell? ⟨b2, o2 + i * 4 + 1, none⟩ = some (.int .i64 n) ∧ u.cell? ⟨b2, o2 + i * 4 + 2, none⟩ = some (.complex .f64 0 0) ∧ u.cell? ⟨b2, o2 + i * 4 + 3, none⟩ = some (.string s))) (first | (refine ⟨⟨?_, ?_, ?_, ?_⟩, ⟨?_, ?_, ?_, ?_⟩⟩ <;> (repeat (first | with_reducible assumption | with_reducible apply cell_drew)) <;> done) | go_keep) ((go_at_call 29; refine HS.out.mono ?_; rintro e w2 ⟨rfl, HB2, ⟨e0, e1, e2, e3⟩, ⟨e4, e5, e6, e7⟩⟩))
      all_goals go_wp2_with fail
      all_goals go_roundw
      case rel => exact ⟨i + 1, by omega, by go_num, HB2⟩
      case measure => simp [intOf]; omega
    · obtain rfl : i = N := by omega
      have hlI : ¬ (i : Int) < (i : Int) := by omega
      go_wp2_with fail
      go_ret
      exact ⟨rfl, HB.out⟩

end Go.Proofs.YtfddmibaojfalaaGreat

/- Are rows the same: the book's SameRows, where they are. -/
namespace Go.Proofs.YtfddmibaojfalaaGreat
open Go.RowKit

set_option linter.unusedSimpArgs false in
set_option maxRecDepth 100000 in
set_option maxHeartbeats 2000000 in
theorem sameRows_same (v1 v2 : Value) (Q1 Q2 : List Rw) (w : World) (h1 : SliceAt w v1 1 enR Q1) (h2 : SliceAt w v2 1 enR Q2) (hc : cont Q1 = cont Q2) (g1 : ∀ q ∈ Q1, RowG w q ∧ q.vs.length ≤ 5000) (g2 : ∀ q ∈ Q2, RowG w q) (hl : Q1.length ≤ 5000) : Calls Tryz.prog 9 #[v1, v2] w fun e w' => e = .returned (.bool true) ∧ Below w.heap.size w w' := by
  obtain ⟨a1, c1, rfl, r1, r2, k1⟩ := h1.rows
  obtain ⟨a2, c2, rfl, r3, r4, k2⟩ := h2.rows
  have hlen : Q2.length = Q1.length := by have := congrArg List.length hc; rw [cont_length, cont_length] at this; exact this.symm
  have H1 : Hid (∀ u, Below w.heap.size w u → ∀ (i : Nat) (y : Rw), Q1[i]? = some y → ∃ b off, a1 = some ⟨b, off, none⟩ ∧ b < u.heap.size ∧ u.cell? ⟨b, off + i, none⟩ = some y.val) := k1
  have H2 : Hid (∀ u, Below w.heap.size w u → ∀ (i : Nat) (y : Rw), Q2[i]? = some y → ∃ b off, a2 = some ⟨b, off, none⟩ ∧ b < u.heap.size ∧ u.cell? ⟨b, off + i, none⟩ = some y.val) := k2
  have HV : Hid (∀ (i : Nat) (y z : Rw), Q1[i]? = some y → Q2[i]? = some z → ∀ u, Below w.heap.size w u → Calls Tryz.prog 20 #[y.val, z.val] u fun e w' => e = .returned (.bool true) ∧ Below u.heap.size u w') := fun i y z hy hz u hu => by
    have e : y.vs = z.vs := by
      have e1 : (cont Q1)[i]? = some y.vs := by unfold cont; rw [List.getElem?_map, hy]; rfl
      have e2 : (cont Q2)[i]? = some z.vs := by unfold cont; rw [List.getElem?_map, hz]; rfl
      rw [hc, e2] at e1
      exact (Option.some.inj e1).symm
    have s1 := (g1 y (List.mem_of_getElem? hy)).1.1.slice
    have s2 := (g2 z (List.mem_of_getElem? hz)).1.slice
    rw [← e] at s2
    have s2' : SliceAt w z.val 4 enV y.vs := by unfold Rw.val; rw [← e]; exact s2
    exact sameRow_same y.val z.val y.vs u w hu s1 s2' (g1 y (List.mem_of_getElem? hy)).2
  obtain ⟨N, hN⟩ : ∃ N, Q1.length = N := ⟨_, rfl⟩
  have HN : Hid (Q1.length = N ∧ Q2.length = N) := ⟨hN, hlen.trans hN⟩
  unfold maxLen at r2 r4
  rw [hlen] at r3 ⊢
  rw [hN] at r1 r3 hl ⊢
  clear h1 h2 k1 k2 hN hlen hc g1 g2
  go_enter Tryz.func9, Tryz.ntmps9
  go_wp2_with fail
  go_loopw [5] (fun v wr => ∃ i : Nat, i ≤ N ∧ v = .int .i64 i ∧ Hid (Below w.heap.size w wr)) (fun v _ => N - (intOf v).toNat)
  case atStart => exact ⟨0, Nat.zero_le _, rfl, Below.refl _ _⟩
  case round =>
    obtain ⟨i, hi, rfl, HB⟩ := hrel
    by_cases hlt : i < N
    · obtain ⟨y, hy⟩ : ∃ y, Q1[i]? = some y := ⟨_, List.getElem?_eq_getElem (by rw [HN.out.1]; exact hlt)⟩
      obtain ⟨z, hz⟩ : ∃ y, Q2[i]? = some y := ⟨_, List.getElem?_eq_getElem (by rw [HN.out.2]; exact hlt)⟩
      obtain ⟨b1, o1, rfl, l1, p0⟩ := H1.out wr HB.out i y hy
      obtain ⟨b2, o2, rfl, l2, q0⟩ := H2.out wr HB.out i z hz
      have hlI : (i : Int) < (N : Int) := by omega
      have HC := HV.out i y z hy hz wr.drew (bl_drew HB.out)
      unfold Rw.val at HC p0 q0
      obtain ⟨yn, hyn⟩ : ∃ x, y.vs.length = x := ⟨_, rfl⟩
      obtain ⟨zn, hzn⟩ : ∃ x, z.vs.length = x := ⟨_, rfl⟩
      rw [hyn, hzn] at HC
      rw [hyn] at p0
      rw [hzn] at q0
      have HS : Hid (Calls Tryz.prog 20 #[.slice (some ⟨y.g, 0, none⟩) yn y.c, .slice (some ⟨z.g, 0, none⟩) zn z.c] wr.drew fun e w' => e = .returned (.bool true) ∧ Hid (Below w.heap.size w w') ∧ w'.cell? ⟨b1, o1 + i, none⟩ = some (.slice (some ⟨y.g, 0, none⟩) yn y.c) ∧ w'.cell? ⟨b2, o2 + i, none⟩ = some (.slice (some ⟨z.g, 0, none⟩) zn z.c)) := HC.mono fun e w' ⟨e1, e2⟩ => by
        have e3 : Below wr.heap.size wr w' := (bl_drew (Below.refl _ wr)).trans e2
        exact ⟨e1, HB.out.trans (e3.mono HB.out.size), cell_below p0 e3, cell_below q0 e3⟩
      clear hy hz HC hyn hzn
      go_wp2_with fail
      go_region_held3 (fun u => u.cell? ⟨b1, o1 + i, none⟩ = some (.slice (some ⟨y.g, 0, none⟩) yn y.c) ∧ u.cell? ⟨b2, o2 + i, none⟩ = some (.slice (some ⟨z.g, 0, none⟩) zn z.c)) (first | (refine ⟨?_, ?_⟩ <;> (repeat (first | with_reducible assumption | with_reducible apply cell_drew)) <;> done) | go_keep) ((go_at_call 20; refine HS.out.mono ?_; rintro e w2 ⟨rfl, HB2, e0, e1⟩))
      all_goals go_wp2_with fail
      all_goals go_roundw
      case rel => exact ⟨i + 1, by omega, by go_num, HB2⟩
      case measure => simp [intOf]; omega
    · obtain rfl : i = N := by omega
      have hlI : ¬ (i : Int) < (i : Int) := by omega
      go_wp2_with fail
      go_ret
      exact ⟨rfl, HB.out⟩

end Go.Proofs.YtfddmibaojfalaaGreat
