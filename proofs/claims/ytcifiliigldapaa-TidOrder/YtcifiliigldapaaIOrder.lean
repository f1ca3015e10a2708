/- TidOrder's walk: parts that are packed are unpacked; numbers stand in order as epochs, and, of one epoch, sequences. -/
import Derived.Test.YtcifiliigldapaaIParts
import Derived.Laws.StructEq
namespace Go.Proofs.Ytcifiliigldapaa
open Go.RowKit

theorem word_facts {e s : Int} {l a t : Bool} (hp : packs e s = true) :
    packW e s l a t = wordOf e s l a t ∧ 0 ≤ wordOf e s l a t ∧ wordOf e s l a t < 18446744073709551616 ∧ may (wordOf e s l a t) = true ∧ wordOf e s l a t / 8388608 = e ∧ wordOf e s l a t / 8 % 1048576 = s ∧
    (wordOf e s l a t % 2 != 0) = l ∧ (wordOf e s l a t / 2 % 2 * 2 != 0) = a ∧ (wordOf e s l a t / 4 % 2 * 4 != 0) = t ∧ num (wordOf e s l a t) = e * 8388608 + s * 8 := by
  obtain ⟨⟨e0, e1⟩, s0, s1⟩ := packs_iff.1 hp
  refine ⟨by unfold packW; rw [if_pos hp], ?_⟩
  unfold may num wordOf
  cases l <;> cases a <;> cases t <;> simp [b1] <;> omega

theorem eqParts (e s : Int) (l a t : Bool) (W : World) :
    (Op.equalIn 10000 23 (.agg #[.int .i64 e, .int .i64 s, .bool l, .bool a, .bool t]) (.agg #[.int .i64 e, .int .i64 s, .bool l, .bool a, .bool t])).run Try.prog W = .ok true W := by
  have h0 : ∀ W, (part 3 #[.int .i64 e, .int .i64 s, .bool l, .bool a, .bool t] 0).run Try.prog W = .ok (.int .i64 e) W := fun W => by kernel_rfl
  have h1 : ∀ W, (part 3 #[.int .i64 e, .int .i64 s, .bool l, .bool a, .bool t] 1).run Try.prog W = .ok (.int .i64 s) W := fun W => by kernel_rfl
  have h2 : ∀ W, (part 4 #[.int .i64 e, .int .i64 s, .bool l, .bool a, .bool t] 2).run Try.prog W = .ok (.bool l) W := fun W => by kernel_rfl
  have h3 : ∀ W, (part 4 #[.int .i64 e, .int .i64 s, .bool l, .bool a, .bool t] 3).run Try.prog W = .ok (.bool a) W := fun W => by kernel_rfl
  have h4 : ∀ W, (part 4 #[.int .i64 e, .int .i64 s, .bool l, .bool a, .bool t] 4).run Try.prog W = .ok (.bool t) W := fun W => by kernel_rfl
  have hi : ∀ (a : Int) (W : World), (Op.equalIn 9999 3 (.int .i64 a) (.int .i64 a)).run Try.prog W = .ok true W := fun a W => by
    have := run_equalIn_int (P := Try.prog) W 9998 3 .i64 .i64 a a Try.underlying3
    simpa using this
  have hb : ∀ (a : Bool) (W : World), (Op.equalIn 9999 4 (.bool a) (.bool a)).run Try.prog W = .ok true W := fun a W => by
    have := run_equalIn_bool (P := Try.prog) W 9998 4 a a Try.underlying4
    simpa using this
  have hf : Try.prog.underlying 23 = some (.struct (Try.prog.fieldsOf 23)) := by kernel_rfl
  show (Op.equalIn (9999 + 1) 23 _ _).run Try.prog W = _
  rw [run_equalIn_agg _ _ _ _ _ hf (by kernel_rfl)]
  have hu := Try.underlying23
  rw [hf] at hu
  simp only [Option.some.injEq, TypeDesc.struct.injEq] at hu
  rw [hu]
  simp [Op.eqFields, h0, h1, h2, h3, h4, hi, hb]
theorem guardParts : Try.prog.eqGuardType Try.prog.depth 23 = false := by kernel_rfl

abbrev PartsV.cells (p : PartsV) : Obj := .cells #[.int .i64 p.e, .int .i64 p.s, .bool p.l, .bool p.a, .bool p.t] 23

/-- what a block with a word's parts in it reads as -/
theorem parts_at {w : World} {b : Nat} {p : PartsV} (h : w.heap[b]? = some p.cells) : w.cell? ⟨b, 0, none⟩ = some (.int .i64 p.e) ∧ w.cell? ⟨b, 1, none⟩ = some (.int .i64 p.s) ∧ w.cell? ⟨b, 2, none⟩ = some (.bool p.l) ∧ w.cell? ⟨b, 3, none⟩ = some (.bool p.a) ∧ w.cell? ⟨b, 4, none⟩ = some (.bool p.t) :=
  ⟨by rw [cell_of h]; rfl, by rw [cell_of h]; rfl, by rw [cell_of h]; rfl, by rw [cell_of h]; rfl, by rw [cell_of h]; rfl⟩

namespace OrderL

set_option maxRecDepth 100000 in
set_option maxHeartbeats 1000000 in
theorem walk (p q : PartsV) (w : World) :
    Calls Try.prog 5 #[p.agg, q.agg] w fun e w' => e = .returned (.bool true) ∧ Below w.heap.size w w' := by
  obtain ⟨e, s, l, a, t⟩ := p
  obtain ⟨e', s', l', a', t'⟩ := q
  have HP : Hid (∀ u, Calls Try.prog 7 #[.int .i64 e, .int .i64 s, .bool l, .bool a, .bool t] u fun x w' => x = .returned (.tuple #[.int .u64 (packW e s l a t), .int .i64 (packE e s)]) ∧ w' = u) := fun u => pack_any e s l a t u
  have HQ : Hid (∀ u, Calls Try.prog 7 #[.int .i64 e', .int .i64 s', .bool l', .bool a', .bool t'] u fun x w' => x = .returned (.tuple #[.int .u64 (packW e' s' l' a' t'), .int .i64 (packE e' s')]) ∧ w' = u) := fun u => pack_any e' s' l' a' t' u
  obtain ⟨W0, hW0⟩ : ∃ W0, (w.alloc (.cells #[.int .i64 e, .int .i64 s, .bool l, .bool a, .bool t] 23)).alloc (.cells #[.int .i64 e', .int .i64 s', .bool l', .bool a', .bool t'] 23) = W0 := ⟨_, rfl⟩
  have HB0 : Hid (Below w.heap.size w W0) := hW0 ▸ ((Below.refl _ _).alloc (Nat.le_refl _) _).alloc (by simp) _
  have HX : Hid (W0.heap[w.heap.size]? = some (PartsV.cells ⟨e, s, l, a, t⟩)) := by
    show W0.heap[_]? = _
    rw [← hW0, Below.heap_alloc _ _ _ (by simp), heap_new]
  have HY : Hid (W0.heap[w.heap.size + 1]? = some (PartsV.cells ⟨e', s', l', a', t'⟩)) := by
    show W0.heap[_]? = _
    have := heap_new (w.alloc (.cells #[.int .i64 e, .int .i64 s, .bool l, .bool a, .bool t] 23)) (.cells #[.int .i64 e', .int .i64 s', .bool l', .bool a', .bool t'] 23)
    rw [World.size_alloc] at this
    rw [← hW0]
    exact this
  have HF : Hid (∀ wr, Below W0.heap.size W0 wr → (wr.cell? ⟨w.heap.size, 0, none⟩ = some (.int .i64 e) ∧ wr.cell? ⟨w.heap.size, 1, none⟩ = some (.int .i64 s) ∧ wr.cell? ⟨w.heap.size, 2, none⟩ = some (.bool l) ∧ wr.cell? ⟨w.heap.size, 3, none⟩ = some (.bool a) ∧ wr.cell? ⟨w.heap.size, 4, none⟩ = some (.bool t)) ∧
      wr.cell? ⟨w.heap.size + 1, 0, none⟩ = some (.int .i64 e') ∧ wr.cell? ⟨w.heap.size + 1, 1, none⟩ = some (.int .i64 s') ∧ wr.cell? ⟨w.heap.size + 1, 2, none⟩ = some (.bool l') ∧ wr.cell? ⟨w.heap.size + 1, 3, none⟩ = some (.bool a') ∧ wr.cell? ⟨w.heap.size + 1, 4, none⟩ = some (.bool t')) := by
    intro wr hwr
    exact ⟨parts_at ((hwr.block _ (lt_of HX.out)).trans HX.out), parts_at ((hwr.block _ (lt_of HY.out)).trans HY.out)⟩
  have HS : Hid (Below W0.heap.size W0 ((w.alloc (.cells #[.int .i64 e, .int .i64 s, .bool l, .bool a, .bool t] 23)).alloc (.cells #[.int .i64 e', .int .i64 s', .bool l', .bool a', .bool t'] 23))) := by
    show Below _ _ _
    rw [hW0]
    exact Below.refl _ _
  clear HX HY
  by_cases hp : packs e s = true
  · by_cases hq : packs e' s' = true
    · obtain ⟨f0, f1, f2, f3, f4, f5, f6, f7, f8, f9⟩ := word_facts (l := l) (a := a) (t := t) hp
      obtain ⟨g0, g1, g2, -, -, -, -, -, -, g9⟩ := word_facts (l := l') (a := a') (t := t') hq
      have hE : packE e s = 0 := by unfold packE; rw [if_pos hp]
      have hE' : packE e' s' = 0 := by unfold packE; rw [if_pos hq]
      rw [hE, f0] at HP
      rw [hE', g0] at HQ
      obtain ⟨A, hA⟩ : ∃ A, wordOf e s l a t = A := ⟨_, rfl⟩
      obtain ⟨B, hB⟩ : ∃ B, wordOf e' s' l' a' t' = B := ⟨_, rfl⟩
      rw [hA] at HP f1 f2 f3 f4 f5 f6 f7 f8 f9
      rw [hB] at HQ g1 g2 g9
      have HU : Hid (∀ u, Calls Try.prog 11 #[.int .u64 A] u fun y w' => y = .returned (.tuple #[.int .i64 e, .int .i64 s, .bool l, .bool a, .bool t, .int .i64 0]) ∧ w' = u) := fun u => (unpack_yes A u f1 f2 f3).mono fun y w' h => by rw [f4, f5, f6, f7, f8] at h; exact h
      obtain ⟨M, hM⟩ : ∃ M, e * 8388608 + s * 8 = M := ⟨_, rfl⟩
      obtain ⟨N, hN⟩ : ∃ N, e' * 8388608 + s' * 8 = N := ⟨_, rfl⟩
      have HM : Hid (∀ u, Calls Try.prog 9 #[.int .u64 A] u fun e w' => e = .returned (.int .u64 M) ∧ w' = u) := fun u => (number_any A u f1 f2).mono fun y w' h => by rw [f9, hM] at h; exact h
      have HN : Hid (∀ u, Calls Try.prog 9 #[.int .u64 B] u fun e w' => e = .returned (.int .u64 N) ∧ w' = u) := fun u => (number_any B u g1 g2).mono fun y w' h => by rw [g9, hN] at h; exact h
      have eqp := eqParts e s l a t
      have gdp := guardParts
      obtain ⟨⟨e0, e1⟩, s0, s1⟩ := packs_iff.1 hp
      obtain ⟨⟨i0, i1⟩, j0, j1⟩ := packs_iff.1 hq
      have hcase : (e < e' ∧ (e == e') = false ∧ M < N ∧ (M == N) = false) ∨ (¬ e < e' ∧ (e == e') = true ∧ s < s' ∧ (s == s') = false ∧ M < N ∧ (M == N) = false) ∨ (¬ e < e' ∧ (e == e') = true ∧ ¬ s < s' ∧ (s == s') = true ∧ ¬ M < N ∧ (M == N) = true) ∨ (¬ e < e' ∧ (e == e') = true ∧ ¬ s < s' ∧ (s == s') = false ∧ ¬ M < N ∧ (M == N) = false) ∨ (¬ e < e' ∧ (e == e') = false ∧ ¬ M < N ∧ (M == N) = false) := by
        simp only [beq_iff_eq, beq_eq_false_iff_ne]
        omega
      clear f0 f1 f2 f3 f4 f5 f6 f7 f8 f9 g0 g1 g2 g9 hE hE' hA hB hM hN hp hq e0 e1 s0 s1 i0 i1 j0 j1
      rcases hcase with ⟨k1, k2, k3, k4⟩ | ⟨k1, k2, k3, k4, k5, k6⟩ | ⟨k1, k2, k3, k4, k5, k6⟩ | ⟨k1, k2, k3, k4, k5, k6⟩ | ⟨k1, k2, k3, k4⟩
      · have d1 : decide (e < e') = true := decide_eq_true k1
        have d3 : decide (M < N) = true := decide_eq_true k3
        go_enter Try.func5, Try.ntmps5
        clear hW0
        go_wp2_with fail
        refine (works_any _).mono ?_
        rintro y w1 ⟨rfl, hb1⟩
        have hb2 : Below W0.heap.size W0 w1 := HS.out.trans (hb1.mono HS.out.size)
        have HB1 : Hid (Below w.heap.size w w1) := HB0.out.trans (hb2.mono HB0.out.size)
        obtain ⟨⟨x0, x1, x2, x3, x4⟩, y0, y1, y2, y3, y4⟩ := HF.out w1 hb2
        clear hb1 hb2
        go_wp2_with fail
        refine (HP.out _).mono ?_
        rintro y w2 ⟨rfl, rfl⟩
        go_wp2_with fail
        refine (HQ.out _).mono ?_
        rintro y w3 ⟨rfl, rfl⟩
        go_wp2_with fail
        refine (HU.out _).mono ?_
        rintro y w4 ⟨rfl, rfl⟩
        go_wp2_with fail
        refine (HM.out _).mono ?_
        rintro y w4 ⟨rfl, rfl⟩
        go_wp2_with fail
        refine (HN.out _).mono ?_
        rintro y w4 ⟨rfl, rfl⟩
        go_wp2_with fail
        refine (HM.out _).mono ?_
        rintro y w4 ⟨rfl, rfl⟩
        go_wp2_with fail
        refine (HN.out _).mono ?_
        rintro y w4 ⟨rfl, rfl⟩
        go_wp2_with fail
        go_ret
        exact ⟨rfl, HB1.out⟩
      · have d1 : decide (e < e') = false := decide_eq_false k1
        have d2 : decide (s < s') = true := decide_eq_true k3
        have d3 : decide (M < N) = true := decide_eq_true k5
        go_enter Try.func5, Try.ntmps5
        clear hW0
        go_wp2_with fail
        refine (works_any _).mono ?_
        rintro y w1 ⟨rfl, hb1⟩
        have hb2 : Below W0.heap.size W0 w1 := HS.out.trans (hb1.mono HS.out.size)
        have HB1 : Hid (Below w.heap.size w w1) := HB0.out.trans (hb2.mono HB0.out.size)
        obtain ⟨⟨x0, x1, x2, x3, x4⟩, y0, y1, y2, y3, y4⟩ := HF.out w1 hb2
        clear hb1 hb2
        go_wp2_with fail
        refine (HP.out _).mono ?_
        rintro y w2 ⟨rfl, rfl⟩
        go_wp2_with fail
        refine (HQ.out _).mono ?_
        rintro y w3 ⟨rfl, rfl⟩
        go_wp2_with fail
        refine (HU.out _).mono ?_
        rintro y w4 ⟨rfl, rfl⟩
        go_wp2_with fail
        refine (HM.out _).mono ?_
        rintro y w4 ⟨rfl, rfl⟩
        go_wp2_with fail
        refine (HN.out _).mono ?_
        rintro y w4 ⟨rfl, rfl⟩
        go_wp2_with fail
        refine (HM.out _).mono ?_
        rintro y w4 ⟨rfl, rfl⟩
        go_wp2_with fail
        refine (HN.out _).mono ?_
        rintro y w4 ⟨rfl, rfl⟩
        go_wp2_with fail
        go_ret
        exact ⟨rfl, HB1.out⟩
      · have d1 : decide (e < e') = false := decide_eq_false k1
        have d2 : decide (s < s') = false := decide_eq_false k3
        have d3 : decide (M < N) = false := decide_eq_false k5
        go_enter Try.func5, Try.ntmps5
        clear hW0
        go_wp2_with fail
        refine (works_any _).mono ?_
        rintro y w1 ⟨rfl, hb1⟩
        have hb2 : Below W0.heap.size W0 w1 := HS.out.trans (hb1.mono HS.out.size)
        have HB1 : Hid (Below w.heap.size w w1) := HB0.out.trans (hb2.mono HB0.out.size)
        obtain ⟨⟨x0, x1, x2, x3, x4⟩, y0, y1, y2, y3, y4⟩ := HF.out w1 hb2
        clear hb1 hb2
        go_wp2_with fail
        refine (HP.out _).mono ?_
        rintro y w2 ⟨rfl, rfl⟩
        go_wp2_with fail
        refine (HQ.out _).mono ?_
        rintro y w3 ⟨rfl, rfl⟩
        go_wp2_with fail
        refine (HU.out _).mono ?_
        rintro y w4 ⟨rfl, rfl⟩
        go_wp2_with fail
        refine (HM.out _).mono ?_
        rintro y w4 ⟨rfl, rfl⟩
        go_wp2_with fail
        refine (HN.out _).mono ?_
        rintro y w4 ⟨rfl, rfl⟩
        go_wp2_with fail
        refine (HM.out _).mono ?_
        rintro y w4 ⟨rfl, rfl⟩
        go_wp2_with fail
        refine (HN.out _).mono ?_
        rintro y w4 ⟨rfl, rfl⟩
        go_wp2_with fail
        go_ret
        exact ⟨rfl, HB1.out⟩
      · have d1 : decide (e < e') = false := decide_eq_false k1
        have d2 : decide (s < s') = false := decide_eq_false k3
        have d3 : decide (M < N) = false := decide_eq_false k5
        go_enter Try.func5, Try.ntmps5
        clear hW0
        go_wp2_with fail
        refine (works_any _).mono ?_
        rintro y w1 ⟨rfl, hb1⟩
        have hb2 : Below W0.heap.size W0 w1 := HS.out.trans (hb1.mono HS.out.size)
        have HB1 : Hid (Below w.heap.size w w1) := HB0.out.trans (hb2.mono HB0.out.size)
        obtain ⟨⟨x0, x1, x2, x3, x4⟩, y0, y1, y2, y3, y4⟩ := HF.out w1 hb2
        clear hb1 hb2
        go_wp2_with fail
        refine (HP.out _).mono ?_
        rintro y w2 ⟨rfl, rfl⟩
        go_wp2_with fail
        refine (HQ.out _).mono ?_
        rintro y w3 ⟨rfl, rfl⟩
        go_wp2_with fail
        refine (HU.out _).mono ?_
        rintro y w4 ⟨rfl, rfl⟩
        go_wp2_with fail
        refine (HM.out _).mono ?_
        rintro y w4 ⟨rfl, rfl⟩
        go_wp2_with fail
        refine (HN.out _).mono ?_
        rintro y w4 ⟨rfl, rfl⟩
        go_wp2_with fail
        refine (HM.out _).mono ?_
        rintro y w4 ⟨rfl, rfl⟩
        go_wp2_with fail
        refine (HN.out _).mono ?_
        rintro y w4 ⟨rfl, rfl⟩
        go_wp2_with fail
        go_ret
        exact ⟨rfl, HB1.out⟩
      · have d1 : decide (e < e') = false := decide_eq_false k1
        have d3 : decide (M < N) = false := decide_eq_false k3
        go_enter Try.func5, Try.ntmps5
        clear hW0
        go_wp2_with fail
        refine (works_any _).mono ?_
        rintro y w1 ⟨rfl, hb1⟩
        have hb2 : Below W0.heap.size W0 w1 := HS.out.trans (hb1.mono HS.out.size)
        have HB1 : Hid (Below w.heap.size w w1) := HB0.out.trans (hb2.mono HB0.out.size)
        obtain ⟨⟨x0, x1, x2, x3, x4⟩, y0, y1, y2, y3, y4⟩ := HF.out w1 hb2
        clear hb1 hb2
        go_wp2_with fail
        refine (HP.out _).mono ?_
        rintro y w2 ⟨rfl, rfl⟩
        go_wp2_with fail
        refine (HQ.out _).mono ?_
        rintro y w3 ⟨rfl, rfl⟩
        go_wp2_with fail
        refine (HU.out _).mono ?_
        rintro y w4 ⟨rfl, rfl⟩
        go_wp2_with fail
        refine (HM.out _).mono ?_
        rintro y w4 ⟨rfl, rfl⟩
        go_wp2_with fail
        refine (HN.out _).mono ?_
        rintro y w4 ⟨rfl, rfl⟩
        go_wp2_with fail
        refine (HM.out _).mono ?_
        rintro y w4 ⟨rfl, rfl⟩
        go_wp2_with fail
        refine (HN.out _).mono ?_
        rintro y w4 ⟨rfl, rfl⟩
        go_wp2_with fail
        go_ret
        exact ⟨rfl, HB1.out⟩
    · have hE : packE e s = 0 := by unfold packE; rw [if_pos hp]
      have hE' : packE e' s' = 1 := by unfold packE; rw [if_neg hq]
      rw [hE] at HP
      rw [hE'] at HQ
      clear hE hE' hp hq
      go_enter Try.func5, Try.ntmps5
      clear hW0
      go_wp2_with fail
      refine (works_any _).mono ?_
      rintro y w1 ⟨rfl, hb1⟩
      have hb2 : Below W0.heap.size W0 w1 := HS.out.trans (hb1.mono HS.out.size)
      have HB1 : Hid (Below w.heap.size w w1) := HB0.out.trans (hb2.mono HB0.out.size)
      obtain ⟨⟨x0, x1, x2, x3, x4⟩, y0, y1, y2, y3, y4⟩ := HF.out w1 hb2
      clear hb1 hb2
      go_wp2_with fail
      refine (HP.out _).mono ?_
      rintro y w2 ⟨rfl, rfl⟩
      go_wp2_with fail
      refine (HQ.out _).mono ?_
      rintro y w3 ⟨rfl, rfl⟩
      go_wp2_with fail
      go_ret
      exact ⟨rfl, HB1.out⟩
  · have hE : packE e s = 1 := by unfold packE; rw [if_neg hp]
    rw [hE] at HP
    clear hE hp
    go_enter Try.func5, Try.ntmps5
    clear hW0
    go_wp2_with fail
    refine (works_any _).mono ?_
    rintro y w1 ⟨rfl, hb1⟩
    have hb2 : Below W0.heap.size W0 w1 := HS.out.trans (hb1.mono HS.out.size)
    have HB1 : Hid (Below w.heap.size w w1) := HB0.out.trans (hb2.mono HB0.out.size)
    obtain ⟨⟨x0, x1, x2, x3, x4⟩, y0, y1, y2, y3, y4⟩ := HF.out w1 hb2
    clear hb1 hb2
    go_wp2_with fail
    refine (HP.out _).mono ?_
    rintro y w2 ⟨rfl, rfl⟩
    go_wp2_with fail
    refine (HQ.out _).mono ?_
    rintro y w3 ⟨rfl, rfl⟩
    go_wp2_with fail
    go_ret
    exact ⟨rfl, HB1.out⟩

end OrderL

end Go.Proofs.Ytcifiliigldapaa
