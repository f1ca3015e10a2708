/- New, Global, Snapshot, Enter, Leave. -/
import Derived.Test.YtonblbopfbjiaaaEHeap
import Derived.Laws.MakeOwn
import Derived.Deep.RegionHeld3
namespace Go.Proofs.Ytonblbopfbjiaaa
open Go.RowKit

theorem from_any (n most : Int) (w : World) : Calls Try.prog 20 #[.int .i64 n, .int .i64 most] w fun e w' => e = .returned (.bool (decide (1 ≤ n) && decide (n ≤ most))) ∧ w' = w := by
  by_cases h1 : 1 ≤ n
  · by_cases h2 : n ≤ most
    · go_enter Try.func20, Try.ntmps20
      go_wp2
      go_ret
      exact ⟨ret_bool (a := true) (by symm; simp only [Bool.and_eq_true, decide_eq_true_eq]; omega), rfl⟩
    · go_enter Try.func20, Try.ntmps20
      go_wp2
      go_ret
      exact ⟨ret_bool (a := false) (by symm; simp only [decide_eq_false_iff_not]; omega), rfl⟩
  · go_enter Try.func20, Try.ntmps20
    go_wp2
    go_ret
    exact ⟨ret_bool (a := false) (by symm; simp only [Bool.and_eq_false_iff, decide_eq_false_iff_not]; omega), rfl⟩

theorem global_any {g : Nat} {c : Ck} {w : World} {F : Nat → Prop} (h : ClockI g c w F) : Calls Try.prog 11 #[.pointer (some ⟨g, 0, none⟩)] w fun e w' => e = .returned (.int .i64 c.now) ∧ w' = w := by
  obtain ⟨b, a, m, hG, -⟩ := h
  obtain ⟨c0, -, -, -, -, -, -, -⟩ := hG.cells
  clear hG
  go_enter Try.func11, Try.ntmps11
  go_wp2
  go_ret
  exact ⟨rfl, rfl⟩

theorem snapshot_any {g : Nat} {c : Ck} {w : World} {F : Nat → Prop} (h : ClockI g c w F) : Calls Try.prog 12 #[.pointer (some ⟨g, 0, none⟩)] w fun e w' => e = .returned (.int .i64 c.snap) ∧ w' = w := by
  obtain ⟨b, a, m, hG, -⟩ := h
  obtain ⟨-, c1, -, -, -, -, -, -⟩ := hG.cells
  clear hG
  go_enter Try.func12, Try.ntmps12
  go_wp2
  go_ret
  exact ⟨rfl, rfl⟩

theorem has_any {g b n : Nat} (x : Int) {w : World} (c3 : w.cell? ⟨g, 3, none⟩ = some (.slice (some ⟨b, 0, none⟩) n n)) : Calls Try.prog 32 #[.pointer (some ⟨g, 0, none⟩), .int .i64 x] w fun e w' => e = .returned (.bool (decide (0 ≤ x) && decide (x < (n : Int)))) ∧ w' = w := by
  by_cases h1 : 0 ≤ x
  · by_cases h2 : x < (n : Int)
    · go_enter Try.func32, Try.ntmps32
      go_wp2
      go_ret
      exact ⟨ret_bool (a := true) (by symm; simp only [Bool.and_eq_true, decide_eq_true_eq]; omega), rfl⟩
    · go_enter Try.func32, Try.ntmps32
      go_wp2
      go_ret
      exact ⟨ret_bool (a := false) (by symm; simp only [decide_eq_false_iff_not]; omega), rfl⟩
  · go_enter Try.func32, Try.ntmps32
    go_wp2
    go_ret
    exact ⟨ret_bool (a := false) (by symm; simp only [Bool.and_eq_false_iff, decide_eq_false_iff_not]; omega), rfl⟩

theorem has_yes {g b n k : Nat} {w : World} (c3 : w.cell? ⟨g, 3, none⟩ = some (.slice (some ⟨b, 0, none⟩) n n)) (hk : k < n) : Calls Try.prog 32 #[.pointer (some ⟨g, 0, none⟩), .int .i64 (k : Int)] w fun e w' => e = .returned (.bool true) ∧ w' = w := by
  refine (has_any (k : Int) c3).mono fun e w' h => ?_
  rw [decide_eq_true (by omega : (0 : Int) ≤ k), decide_eq_true (by omega : (k : Int) < n)] at h
  exact h
theorem has_no {g b n : Nat} {x : Int} {w : World} (c3 : w.cell? ⟨g, 3, none⟩ = some (.slice (some ⟨b, 0, none⟩) n n)) (hk : ∀ k : Nat, x = k → ¬ k < n) : Calls Try.prog 32 #[.pointer (some ⟨g, 0, none⟩), .int .i64 x] w fun e w' => e = .returned (.bool false) ∧ w' = w := by
  refine (has_any x c3).mono fun e w' h => ?_
  have h2 : (decide (0 ≤ x) && decide (x < (n : Int))) = false := by
    by_cases h0 : 0 ≤ x
    · have := hk x.toNat (by omega)
      simp
      omega
    · simp [h0]
  rw [h2] at h
  exact h

section
variable {g : Nat} {c : Ck} {w : World} {F : Nat → Prop}

set_option maxRecDepth 100000 in
theorem enter_ok (h : ClockI g c w F) {k : Nat} (hk : c.ws[k]? = some 0) : Calls Try.prog 18 #[.pointer (some ⟨g, 0, none⟩), .int .i64 (k : Int)] w fun e w' => e = .returned (.tuple #[.int .i64 c.now, .int .i64 0]) ∧ Goes (ClockI g (c.enter k)) w w' F := by
  obtain ⟨b, a, m, hG, hF⟩ := h
  obtain ⟨c0, -, -, c3, -, -, -, -⟩ := hG.cells
  have cw := hG.worker hk
  have fw : w.frozen? ⟨b, k, none⟩ = false := frozen_of hG.wk _
  have HS : Hid (Goes (ClockI g (c.enter k)) w (w.setCell ⟨b, k, none⟩ (.int .i64 c.now)) F) := hG.setW hF rfl (Ck.enter_ok hG.ok k)
  have hl : k < c.ws.length := (List.getElem?_eq_some_iff.1 hk).1
  have HH : Hid (Calls Try.prog 32 #[.pointer (some ⟨g, 0, none⟩), .int .i64 (k : Int)] w fun e w' => e = .returned (.bool true) ∧ w' = w) := has_yes c3 hl
  have hbg : ¬ b = g := fun e => hG.ne e.symm
  clear hG hk hF
  go_enter Try.func18, Try.ntmps18
  go_wp2_with (go_at_call 32; go_must (refine HH.out.mono ?_; rintro e w1 ⟨rfl, rfl⟩))
  go_region
  all_goals go_wp2
  all_goals go_ret2
  all_goals exact ⟨rfl, HS.out.thenStay (clockI_res _ _) (below_drewN _ 1)⟩

set_option maxRecDepth 100000 in
theorem enter_busy (h : ClockI g c w F) {k : Nat} {e0 : Int} (hk : c.ws[k]? = some e0) (h0 : e0 ≠ 0) : Calls Try.prog 18 #[.pointer (some ⟨g, 0, none⟩), .int .i64 (k : Int)] w fun e w' => e = .returned (.tuple #[.int .i64 0, .int .i64 100]) ∧ w' = w := by
  obtain ⟨b, a, m, hG, hF⟩ := h
  obtain ⟨-, -, -, c3, -, -, -, -⟩ := hG.cells
  have cw := hG.worker hk
  have hl : k < c.ws.length := (List.getElem?_eq_some_iff.1 hk).1
  have HH : Hid (Calls Try.prog 32 #[.pointer (some ⟨g, 0, none⟩), .int .i64 (k : Int)] w fun e w' => e = .returned (.bool true) ∧ w' = w) := has_yes c3 hl
  have hb : (e0 != 0) = true := bne_iff_ne.2 h0
  clear hG hk hF h0
  go_enter Try.func18, Try.ntmps18
  go_wp2_with (go_at_call 32; go_must (refine HH.out.mono ?_; rintro e w1 ⟨rfl, rfl⟩))
  go_ret2
  exact ⟨rfl, rfl⟩

set_option maxRecDepth 100000 in
theorem enter_none (h : ClockI g c w F) {x : Int} (hk : ∀ k : Nat, x = k → ¬ k < c.ws.length) : Calls Try.prog 18 #[.pointer (some ⟨g, 0, none⟩), .int .i64 x] w fun e w' => e = .returned (.tuple #[.int .i64 0, .int .i64 100]) ∧ w' = w := by
  obtain ⟨b, a, m, hG, hF⟩ := h
  obtain ⟨-, -, -, c3, -, -, -, -⟩ := hG.cells
  have HH : Hid (Calls Try.prog 32 #[.pointer (some ⟨g, 0, none⟩), .int .i64 x] w fun e w' => e = .returned (.bool false) ∧ w' = w) := has_no c3 hk
  clear hG hk hF
  go_enter Try.func18, Try.ntmps18
  go_wp2_with (go_at_call 32; go_must (refine HH.out.mono ?_; rintro e w1 ⟨rfl, rfl⟩))
  go_ret2
  exact ⟨rfl, rfl⟩

/-- Enter is refused: there is no such worker, or it works -/
theorem enter_no (h : ClockI g c w F) {x : Int} (hk : ∀ k : Nat, x = k → c.ws[k]? ≠ some 0) : Calls Try.prog 18 #[.pointer (some ⟨g, 0, none⟩), .int .i64 x] w fun e w' => e = .returned (.tuple #[.int .i64 0, .int .i64 100]) ∧ w' = w := by
  by_cases h1 : ∃ k : Nat, x = k ∧ k < c.ws.length
  · obtain ⟨k, rfl, hl⟩ := h1
    exact enter_busy h (List.getElem?_eq_getElem hl) (fun e => hk k rfl (by rw [List.getElem?_eq_getElem hl, e]))
  · exact enter_none h (fun k e hl => h1 ⟨k, e, hl⟩)

set_option maxRecDepth 100000 in
theorem leave_ok (h : ClockI g c w F) {k : Nat} {e0 : Int} (hk : c.ws[k]? = some e0) (h0 : e0 ≠ 0) : Calls Try.prog 19 #[.pointer (some ⟨g, 0, none⟩), .int .i64 (k : Int)] w fun e w' => e = .returned (.int .i64 0) ∧ Goes (ClockI g (c.leave k)) w w' F := by
  obtain ⟨b, a, m, hG, hF⟩ := h
  obtain ⟨-, -, -, c3, -, -, -, -⟩ := hG.cells
  have cw := hG.worker hk
  have fw : w.frozen? ⟨b, k, none⟩ = false := frozen_of hG.wk _
  have HS : Hid (Goes (ClockI g (c.leave k)) w (w.setCell ⟨b, k, none⟩ (.int .i64 0)) F) := hG.setW hF rfl (Ck.leave_ok hG.ok k)
  have hl : k < c.ws.length := (List.getElem?_eq_some_iff.1 hk).1
  have HH : Hid (Calls Try.prog 32 #[.pointer (some ⟨g, 0, none⟩), .int .i64 (k : Int)] w fun e w' => e = .returned (.bool true) ∧ w' = w) := has_yes c3 hl
  have hb : (e0 == 0) = false := by simpa using h0
  clear hG hk hF h0
  go_enter Try.func19, Try.ntmps19
  go_wp2_with (go_at_call 32; go_must (refine HH.out.mono ?_; rintro e w1 ⟨rfl, rfl⟩))
  go_ret
  exact ⟨rfl, HS.out⟩

set_option maxRecDepth 100000 in
theorem leave_idle (h : ClockI g c w F) {k : Nat} (hk : c.ws[k]? = some 0) : Calls Try.prog 19 #[.pointer (some ⟨g, 0, none⟩), .int .i64 (k : Int)] w fun e w' => e = .returned (.int .i64 100) ∧ w' = w := by
  obtain ⟨b, a, m, hG, hF⟩ := h
  obtain ⟨-, -, -, c3, -, -, -, -⟩ := hG.cells
  have cw := hG.worker hk
  have hl : k < c.ws.length := (List.getElem?_eq_some_iff.1 hk).1
  have HH : Hid (Calls Try.prog 32 #[.pointer (some ⟨g, 0, none⟩), .int .i64 (k : Int)] w fun e w' => e = .returned (.bool true) ∧ w' = w) := has_yes c3 hl
  clear hG hk hF
  go_enter Try.func19, Try.ntmps19
  go_wp2_with (go_at_call 32; go_must (refine HH.out.mono ?_; rintro e w1 ⟨rfl, rfl⟩))
  go_ret
  exact ⟨rfl, rfl⟩

set_option maxRecDepth 100000 in
theorem leave_none (h : ClockI g c w F) {x : Int} (hk : ∀ k : Nat, x = k → ¬ k < c.ws.length) : Calls Try.prog 19 #[.pointer (some ⟨g, 0, none⟩), .int .i64 x] w fun e w' => e = .returned (.int .i64 100) ∧ w' = w := by
  obtain ⟨b, a, m, hG, hF⟩ := h
  obtain ⟨-, -, -, c3, -, -, -, -⟩ := hG.cells
  have HH : Hid (Calls Try.prog 32 #[.pointer (some ⟨g, 0, none⟩), .int .i64 x] w fun e w' => e = .returned (.bool false) ∧ w' = w) := has_no c3 hk
  clear hG hk hF
  go_enter Try.func19, Try.ntmps19
  go_wp2_with (go_at_call 32; go_must (refine HH.out.mono ?_; rintro e w1 ⟨rfl, rfl⟩))
  go_ret
  exact ⟨rfl, rfl⟩

/-- Leave is refused: there is no such worker, or it is idle -/
theorem leave_no (h : ClockI g c w F) {x : Int} (hk : ∀ (k : Nat) (e : Int), x = k → c.ws[k]? = some e → e = 0) : Calls Try.prog 19 #[.pointer (some ⟨g, 0, none⟩), .int .i64 x] w fun e w' => e = .returned (.int .i64 100) ∧ w' = w := by
  by_cases h1 : ∃ k : Nat, x = k ∧ k < c.ws.length
  · obtain ⟨k, rfl, hl⟩ := h1
    have h2 : c.ws[k]? = some c.ws[k] := List.getElem?_eq_getElem hl
    exact leave_idle h (by rw [h2, hk k _ rfl h2])
  · exact leave_none h (fun k e hl => h1 ⟨k, e, hl⟩)
end

theorem infoI : (Try.prog.info? 3).map (fun i => (i.zero, i.size, i.bytes)) = some (some (.int .i64 0), 1, 8) := by kernel_rfl

theorem make_ints (w : World) (n : Nat) (hn2 : n ≤ 1000000) :
    (Instr.makeSlice 36 (.int .i64 (n : Int)) (.int .i64 (n : Int))).run Try.prog w = .ok (.slice (some ⟨w.heap.size, 0, none⟩) n n) (w.alloc (.cells (icells (List.replicate n 0)).toArray 3)) := by
  have hi := infoI
  cases hq : Try.prog.info? 3 with
  | none => rw [hq] at hi; cases hi
  | some i =>
    rw [hq] at hi
    simp only [Option.map_some, Option.some.injEq, Prod.mk.injEq] at hi
    obtain ⟨h1, h2, h3⟩ := hi
    have h4 : ((8 * n : Nat) : Int) ≤ 281474976710656 := by omega
    rw [Int.natCast_mul] at h4
    have := run_make (P := Try.prog) w 36 3 i (.int .i64 0) Try.underlying36 hq h1 .i64 .i64 (n : Int) (n : Int) (by omega) (Int.le_refl _) (by rw [h3]; exact h4) (by omega)
    rw [h2] at this
    rw [Nat.mul_one] at this
    have e : madeCells (Value.int .i64 0).cells n = (icells (List.replicate n 0)).toArray := by
      apply Array.ext'
      apply List.ext_getElem?
      intro i
      by_cases hi : i < n
      · simp [madeCells, icells, Value.cells, hi, Nat.mod_one]
      · simp [madeCells, icells, Value.cells, hi]
    rw [Int.toNat_natCast, e] at this
    exact this

set_option maxRecDepth 100000 in
theorem new_ok {n every epoch : Int} (w : World) (h : newOk n every epoch = true) : Calls Try.prog 8 #[.int .i64 n, .int .i64 every, .int .i64 epoch] w fun e w' => ∃ g F, e = .returned (.tuple #[.pointer (some ⟨g, 0, none⟩), .int .i64 0]) ∧ ClockI g (Ck.new n every epoch) w' F ∧ (∀ i, F i → w.heap.size ≤ i) ∧ Below w.heap.size w w' := by
  have HN : Hid (newOk n every epoch = true) := h
  obtain ⟨h1, h2, h3, h4, h5, h6⟩ := newOk_iff.1 h
  obtain ⟨N, rfl⟩ : ∃ N : Nat, n = (N : Int) := ⟨n.toNat, by omega⟩
  have F1 : Hid (∀ u, Calls Try.prog 20 #[.int .i64 (N : Int), .int .i64 16] u fun e w' => e = .returned (.bool true) ∧ w' = u) := fun u => (from_any _ _ u).mono fun e w' h => by
    rw [decide_eq_true h1, decide_eq_true h2] at h; exact h
  have F2 : Hid (∀ u, Calls Try.prog 20 #[.int .i64 every, .int .i64 4096] u fun e w' => e = .returned (.bool true) ∧ w' = u) := fun u => (from_any _ _ u).mono fun e w' h => by
    rw [decide_eq_true h3, decide_eq_true h4] at h; exact h
  have F3 : Hid (∀ u, Calls Try.prog 20 #[.int .i64 epoch, .int .i64 2147483648] u fun e w' => e = .returned (.bool true) ∧ w' = u) := fun u => (from_any _ _ u).mono fun e w' h => by
    rw [decide_eq_true h5, decide_eq_true h6] at h; exact h
  have hmk := fun u => make_ints u N (by omega)
  have x1 : IntKind.i64.wrap (epoch - 1) = epoch - 1 := wrap_small _ (by omega) (by omega)
  clear h
  go_enter Try.func8, Try.ntmps8
  go_wp2_with fail
  refine (F1.out _).mono ?_
  rintro e w1 ⟨rfl, rfl⟩
  go_wp2_with fail
  refine (F2.out _).mono ?_
  rintro e w1 ⟨rfl, rfl⟩
  go_wp2_with fail
  refine (F3.out _).mono ?_
  rintro e w1 ⟨rfl, rfl⟩
  go_wp2_with fail
  go_ret2
  obtain ⟨o, ho⟩ : ∃ o, Obj.cells #[Value.int .i64 epoch, .int .i64 (epoch - 1), .int .i64 every, .slice (some ⟨w1.heap.size, 0, none⟩) N N, .slice none 0 0] 55 (0, 0) = o := ⟨_, rfl⟩
  rw [ho]
  obtain ⟨u, hu⟩ : ∃ u, w1.alloc (Obj.cells (icells (List.replicate N 0)).toArray 3 (0, 0)) = u := ⟨_, rfl⟩
  rw [hu]
  have hs : u.heap.size = w1.heap.size + 1 := by rw [← hu]; simp
  have hN : (N : Int).toNat = N := by omega
  have e2 : (u.alloc o).heap[w1.heap.size]? = some (.cells (icells (List.replicate N 0)).toArray 3 (0, 0)) := by
    rw [Below.heap_alloc u o _ (by omega), ← hu]
    exact heap_new w1 _
  refine ⟨w1.heap.size + 1, fun i => i = w1.heap.size + 1 ∨ i = w1.heap.size, rfl, ⟨w1.heap.size, none, 0, ⟨?_, ?_, World.ownsRow_nil _ _ _ _, Ck.new_ok HN.out⟩, fun i => ⟨fun h => ?_, fun h => ?_⟩⟩, fun i hi => ?_, ?_⟩
  · rw [← hs, heap_new u o, ← ho]
    simp [Ck.new, hN]
  · rw [e2]
    simp [Ck.new, hN]
  · rcases h with h | h
    · exact Or.inl h
    · exact Or.inr (Or.inl h)
  · rcases h with h | h | h
    · exact Or.inl h
    · exact Or.inr h
    · cases h
  · omega
  · rw [← hu]
    exact ((Below.refl _ _).alloc (Nat.le_refl _) _).alloc (by simp) _

set_option maxRecDepth 100000 in
theorem new_no {n every epoch : Int} (w : World) (h : newOk n every epoch = false) : Calls Try.prog 8 #[.int .i64 n, .int .i64 every, .int .i64 epoch] w fun e w' => e = .returned (.tuple #[.pointer none, .int .i64 1]) ∧ w' = w := by
  obtain ⟨b1, hb1⟩ : ∃ x, (decide (1 ≤ n) && decide (n ≤ 16)) = x := ⟨_, rfl⟩
  obtain ⟨b2, hb2⟩ : ∃ x, (decide (1 ≤ every) && decide (every ≤ 4096)) = x := ⟨_, rfl⟩
  obtain ⟨b3, hb3⟩ : ∃ x, (decide (1 ≤ epoch) && decide (epoch ≤ 2147483648)) = x := ⟨_, rfl⟩
  have F1 : Hid (∀ u, Calls Try.prog 20 #[.int .i64 n, .int .i64 16] u fun e w' => e = .returned (.bool b1) ∧ w' = u) := fun u => (from_any _ _ u).mono fun e w' h => by
    rw [hb1] at h; exact h
  have F2 : Hid (∀ u, Calls Try.prog 20 #[.int .i64 every, .int .i64 4096] u fun e w' => e = .returned (.bool b2) ∧ w' = u) := fun u => (from_any _ _ u).mono fun e w' h => by
    rw [hb2] at h; exact h
  have F3 : Hid (∀ u, Calls Try.prog 20 #[.int .i64 epoch, .int .i64 2147483648] u fun e w' => e = .returned (.bool b3) ∧ w' = u) := fun u => (from_any _ _ u).mono fun e w' h => by
    rw [hb3] at h; exact h
  have hf : (b1 && b2 && b3) = false := by rw [← hb1, ← hb2, ← hb3]; exact h
  clear h hb1 hb2 hb3
  cases b1 with
  | false =>
    clear hf
    go_enter Try.func8, Try.ntmps8
    go_wp2_with fail
    refine (F1.out _).mono ?_
    rintro e w1 ⟨rfl, rfl⟩
    go_wp2_with fail
    go_ret2
    exact ⟨rfl, rfl⟩
  | true =>
    cases b2 with
    | false =>
      clear hf
      go_enter Try.func8, Try.ntmps8
      go_wp2_with fail
      refine (F1.out _).mono ?_
      rintro e w1 ⟨rfl, rfl⟩
      go_wp2_with fail
      refine (F2.out _).mono ?_
      rintro e w1 ⟨rfl, rfl⟩
      go_wp2_with fail
      go_ret2
      exact ⟨rfl, rfl⟩
    | true =>
      cases b3 with
      | false =>
        clear hf
        go_enter Try.func8, Try.ntmps8
        go_wp2_with fail
        refine (F1.out _).mono ?_
        rintro e w1 ⟨rfl, rfl⟩
        go_wp2_with fail
        refine (F2.out _).mono ?_
        rintro e w1 ⟨rfl, rfl⟩
        go_wp2_with fail
        refine (F3.out _).mono ?_
        rintro e w1 ⟨rfl, rfl⟩
        go_wp2_with fail
        go_ret2
        exact ⟨rfl, rfl⟩
      | true => cases hf
end Go.Proofs.Ytonblbopfbjiaaa
