/- The law EpochPlays: its walk. -/
import Derived.Test.YtonblbopfbjiaaaEStep
namespace Go.Proofs.Ytonblbopfbjiaaa
namespace PlaysL
open Go.RowKit

abbrev planO (a b c : Int) : Obj := .cells #[.int .i64 a, .int .i64 b, .int .i64 c] 23 (0, 0)

/-- both clocks, made by the law that began in w, hold c -/
abbrev Two (g r : Nat) (c : Ck) (w wr : World) : Prop := Stand (Sep (ClockI g c) (RefI r c)) w wr []

section
variable {g r : Nat} {c : Ck} {w wr : World}
theorem Two.cells (h : Two g r c w wr) : wr.cell? ⟨r, 2, none⟩ = some (.int .i64 c.now) ∧ wr.cell? ⟨r, 3, none⟩ = some (.int .i64 c.snap) := by
  obtain ⟨F, ⟨A, B, _, ⟨b, a1, m1, a2, m2, hG, _⟩, _⟩, _⟩ := h
  exact ⟨hG.cells.c2, hG.cells.c3⟩
theorem Two.global (h : Two g r c w wr) : Calls Try.prog 11 #[.pointer (some ⟨g, 0, none⟩)] wr fun e w' => e = .returned (.int .i64 c.now) ∧ w' = wr := by
  obtain ⟨F, ⟨A, B, hA, _⟩, _⟩ := h
  exact global_any hA
theorem Two.snapshot (h : Two g r c w wr) : Calls Try.prog 12 #[.pointer (some ⟨g, 0, none⟩)] wr fun e w' => e = .returned (.int .i64 c.snap) ∧ w' = wr := by
  obtain ⟨F, ⟨A, B, hA, _⟩, _⟩ := h
  exact snapshot_any hA
theorem Two.step (h : Two g r c w wr) (k x : Int) : Calls Try.prog 10 #[.pointer (some ⟨g, 0, none⟩), .pointer (some ⟨r, 0, none⟩), .agg #[.int .i64 k, .int .i64 x]] wr fun e w' => e = .returned (.bool true) ∧ ∃ c', Two g r c' w w' := by
  obtain ⟨F, h1, h2, h3, h4, h5⟩ := h
  refine (step_true wr h1).mono ?_
  rintro e w' ⟨rfl, c', F', g1, g2, g3⟩
  refine ⟨rfl, c', Stand.start g1 (fun i hi => ?_) (h5.trans ((g2.mono h2).toBelow h5.size))⟩
  rcases g3 i hi with h | h
  · exact h2 i h
  · exact Nat.le_trans h5.size h
end

set_option maxRecDepth 100000 in
set_option maxHeartbeats 8000000 in
theorem walk (pa pb pc : Int) (v0 : Value) (L : List (Int × Int)) (w : World) (hL : SliceAt w v0 2 enT L) :
    Calls Try.prog 3 #[.agg #[.int .i64 pa, .int .i64 pb, .int .i64 pc], v0] w fun e w' => e = .returned (.bool true) ∧ Below w.heap.size w w' := by
  obtain ⟨av, cv, rfl, hlc, hcm, hx⟩ := acts_open hL
  unfold maxLen at hcm
  have HX : Hid (∀ u, Below w.heap.size w u → ∀ i, (hi : i < L.length) → ∃ b off, av = some ⟨b, off, none⟩ ∧ u.cell? ⟨b, off + i * 2, none⟩ = some (.int .i64 L[i].1) ∧ u.cell? ⟨b, off + i * 2 + 1, none⟩ = some (.int .i64 L[i].2)) := hx
  obtain ⟨m, hm⟩ : ∃ m, L.length = m := ⟨_, rfl⟩
  have HM : Hid (L.length = m) := hm
  rw [hm] at hlc ⊢
  clear hx hL hm
  have hB0 : Below w.heap.size w (w.alloc (planO pa pb pc)) := (Below.refl _ _).alloc (Nat.le_refl _) _
  have HB0 : Hid (Below w.heap.size w (w.alloc (planO pa pb pc))) := hB0
  cases hN : newOk pa pb pc with
  | false =>
    have HN1 : Hid (∀ u, Calls Try.prog 8 #[.int .i64 pa, .int .i64 pb, .int .i64 pc] u fun e w' => e = .returned (.tuple #[.pointer none, .int .i64 1]) ∧ w' = u) := fun u => new_no u hN
    have HN2 : Hid (∀ u, Calls Try.prog 9 #[.int .i64 pa, .int .i64 pb, .int .i64 pc] u fun e w' => e = .returned (.tuple #[.pointer none, .int .i64 1]) ∧ w' = u) := fun u => rnew_no u hN
    clear hN hB0
    go_enter Try.func3, Try.ntmps3
    go_wp2_with fail
    refine (HN1.out _).mono ?_
    rintro e w1 ⟨rfl, rfl⟩
    go_wp2_with fail
    refine (HN2.out _).mono ?_
    rintro e w1 ⟨rfl, rfl⟩
    go_wp2_with fail
    go_loopw [9] (fun i wr => i = .int .i64 0 ∧ Hid (Below w.heap.size w wr)) (fun _ _ => 0)
    case atStart => exact ⟨rfl, HB0⟩
    case round =>
      obtain ⟨rfl, HB⟩ := hrel
      go_wp2_with fail
      refine (works_any _).mono ?_
      rintro e w3 ⟨rfl, hb3⟩
      go_wp2_with fail
      go_ret
      exact ⟨rfl, HB.out.trans (hb3.mono HB.out.size)⟩
  | true =>
    have HNC : Hid (Calls Try.prog 8 #[.int .i64 pa, .int .i64 pb, .int .i64 pc] (w.alloc (planO pa pb pc)) fun e w' => ∃ g F, e = .returned (.tuple #[.pointer (some ⟨g, 0, none⟩), .int .i64 0]) ∧ Hid (ClockI g (Ck.new pa pb pc) w' F ∧ (∀ i, F i → w.heap.size ≤ i) ∧ Below w.heap.size w w') ∧ w'.heap[w.heap.size]? = some (planO pa pb pc)) := (new_ok _ hN).mono (by
      rintro e w' ⟨g, F, rfl, h1, h2, h3⟩
      exact ⟨g, F, rfl, ⟨h1, fun i hi => Nat.le_trans hB0.size (h2 i hi), hB0.trans (h3.mono hB0.size)⟩, (h3.block _ (by simp)).trans (heap_new w _)⟩)
    have HNW : Hid (newOk pa pb pc = true) := hN
    clear hN hB0
    go_enter Try.func3, Try.ntmps3
    go_wp2_with fail
    refine HNC.out.mono ?_
    rintro e w1 ⟨g, F, rfl, H1, hp1⟩
    have q0 : w1.cell? ⟨w.heap.size, 0, none⟩ = some (.int .i64 pa) := by rw [cell_of hp1]; rfl
    have q1 : w1.cell? ⟨w.heap.size, 1, none⟩ = some (.int .i64 pb) := by rw [cell_of hp1]; rfl
    have q2 : w1.cell? ⟨w.heap.size, 2, none⟩ = some (.int .i64 pc) := by rw [cell_of hp1]; rfl
    have HRC : Hid (Calls Try.prog 9 #[.int .i64 pa, .int .i64 pb, .int .i64 pc] w1 fun e w' => ∃ r, e = .returned (.tuple #[.pointer (some ⟨r, 0, none⟩), .int .i64 0]) ∧ Hid (Two g r (Ck.new pa pb pc) w w')) := (rnew_ok _ HNW.out).mono (by
      rintro e w' ⟨r, F', rfl, h1, h2, h3⟩
      obtain ⟨i1, i2, i3⟩ := H1.out
      have hFl : ∀ i, F i → i < w1.heap.size := fun i hi => (clockI_res _ _).lt i1 i hi
      refine ⟨r, rfl, Stand.start (Sep.mk ((clockI_res _ _).kept (S := fun _ => False) i1 (Turn.ofBelow _ h3) (fun _ _ h => h)) h1 (fun i hi hj => ?_)) (fun i hi => ?_) (i3.trans (h3.mono i3.size))⟩
      · have := hFl i hi
        have := h2 i hj
        omega
      · rcases hi with hi | hi
        · exact i2 i hi
        · exact Nat.le_trans i3.size (h2 i hi))
    clear hp1 H1
    go_wp2_with fail
    refine HRC.out.mono ?_
    rintro e w2 ⟨r, rfl, H2⟩
    clear q0 q1 q2
    obtain ⟨c0, hc0⟩ : ∃ c0, Ck.new pa pb pc = c0 := ⟨_, rfl⟩
    rw [hc0] at H2
    clear hc0 HRC HNC HB0
    go_wp2_with fail
    go_loopw [9] (fun i wr => ∃ (j : Nat) (c : Ck), j ≤ 400 ∧ i = .int .i64 j ∧ Hid (Two g r c w wr)) (fun i _ => 400 - (intOf i).toNat)
    case atStart => exact ⟨0, c0, by omega, rfl, H2⟩
    case round =>
      obtain ⟨j, c, hj, rfl, HI⟩ := hrel
      by_cases hlt : j < m ∧ j < 400
      · obtain ⟨hlt, h400⟩ := hlt
        have hlL : j < L.length := by rw [HM.out]; exact hlt
        have hlI : (j : Int) < (m : Int) := by omega
        have h400I : (j : Int) < 400 := by omega
        obtain ⟨b, off, rfl, t0, t1⟩ := HX.out wr (Stand.base HI.out) j hlL
        have HX2 : Hid (∀ u, Below w.heap.size w u → u.cell? ⟨b, off + j * 2, none⟩ = some (.int .i64 L[j].1) ∧ u.cell? ⟨b, off + j * 2 + 1, none⟩ = some (.int .i64 L[j].2)) := fun u hu => by
          obtain ⟨b', off', e, g1, g2⟩ := HX.out u hu j hlL
          cases e
          exact ⟨g1, g2⟩
        obtain ⟨k, hk⟩ : ∃ k, L[j].1 = k := ⟨_, rfl⟩
        obtain ⟨x, hx⟩ : ∃ x, L[j].2 = x := ⟨_, rfl⟩
        rw [hk] at t0 HX2
        rw [hx] at t1 HX2
        have HS : Hid (∀ W, (∃ n, W = wr.drewN n) → Calls Try.prog 10 #[.pointer (some ⟨g, 0, none⟩), .pointer (some ⟨r, 0, none⟩), .agg #[.int .i64 k, .int .i64 x]] W fun e w' => e = .returned (.bool true) ∧ ∃ c', Hid (Two g r c' w w') ∧ w'.cell? ⟨b, off + j * 2, none⟩ = some (.int .i64 k) ∧ w'.cell? ⟨b, off + j * 2 + 1, none⟩ = some (.int .i64 x) ∧ w'.cell? ⟨r, 2, none⟩ = some (.int .i64 c'.now) ∧ w'.cell? ⟨r, 3, none⟩ = some (.int .i64 c'.snap)) := by
          rintro W ⟨n, rfl⟩
          refine (Two.step (Stand.drewN (bothRes _ _ _ _) HI.out n) k x).mono ?_
          rintro e w' ⟨rfl, c', hc'⟩
          obtain ⟨e1, e2⟩ := HX2.out w' (Stand.base hc')
          exact ⟨rfl, c', hc', e1, e2, hc'.cells.1, hc'.cells.2⟩
        clear hk hx hlL HI HX2
        go_wp2_with fail
        go_region_with (first
            | (go_at_call 10; refine (HS.out _ ?_).mono ?_; exact ⟨1, rfl⟩; rintro e w3 ⟨rfl, c', HI3, p0, p1, p2, p3⟩)
            | (go_at_call 11; refine (HI3.out.global).mono ?_; rintro e w4 ⟨rfl, rfl⟩)
            | (go_at_call 12; refine (HI3.out.snapshot).mono ?_; rintro e w4 ⟨rfl, rfl⟩))
        all_goals (go_wp2_with fail; go_roundw; (case rel => exact ⟨j + 1, c', by omega, by go_num, HI3⟩); (case measure => simp [intOf]; omega))
      · by_cases h1 : j < m
        · have h400 : ¬ ((j : Int) < 400) := by omega
          have h1I : (j : Int) < (m : Int) := by omega
          go_wp2_with fail
          refine (works_any _).mono ?_
          rintro e w3 ⟨rfl, hb3⟩
          go_wp2_with fail
          go_ret
          exact ⟨rfl, (Stand.base HI.out).trans (hb3.mono (Stand.base HI.out).size)⟩
        · have h1I : ¬ ((j : Int) < (m : Int)) := by omega
          go_wp2_with fail
          refine (works_any _).mono ?_
          rintro e w3 ⟨rfl, hb3⟩
          go_wp2_with fail
          go_ret
          exact ⟨rfl, (Stand.base HI.out).trans (hb3.mono (Stand.base HI.out).size)⟩
end PlaysL
end Go.Proofs.Ytonblbopfbjiaaa
