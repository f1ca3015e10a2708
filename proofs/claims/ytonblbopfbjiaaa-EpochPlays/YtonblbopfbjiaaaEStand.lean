/- A clock that a law has made, beside blocks of the law's own: its calls. And: the chapter's example works. -/
import Derived.Test.YtonblbopfbjiaaaEFree
namespace Go.Proofs.Ytonblbopfbjiaaa
open Go.RowKit

/-- the clock c, made by a law that began in w, with the law's own blocks L -/
abbrev Has (g : Nat) (c : Ck) (w wr : World) (L : List (Nat × Obj)) : Prop := Stand (ClockI g c) w wr L

section
variable {g : Nat} {c : Ck} {w wr : World} {L : List (Nat × Obj)}

theorem Has.ok (h : Has g c w wr L) : c.Ok := by obtain ⟨F, h, _⟩ := h; exact h.ok

theorem has_new {n every epoch : Int} (hb : Below w.heap.size w wr) (h : newOk n every epoch = true) : Calls Try.prog 8 #[.int .i64 n, .int .i64 every, .int .i64 epoch] wr fun e w' => ∃ g, e = .returned (.tuple #[.pointer (some ⟨g, 0, none⟩), .int .i64 0]) ∧ Has g (Ck.new n every epoch) w w' [] ∧ Below wr.heap.size wr w' := by
  refine (new_ok wr h).mono ?_
  rintro e w' ⟨g, F, rfl, h1, h2, h3⟩
  exact ⟨g, rfl, Stand.start h1 (fun i hi => Nat.le_trans hb.size (h2 i hi)) (hb.trans (h3.mono hb.size)), h3⟩

theorem Has.global (h : Has g c w wr L) : Calls Try.prog 11 #[.pointer (some ⟨g, 0, none⟩)] wr fun e w' => e = .returned (.int .i64 c.now) ∧ w' = wr := by
  obtain ⟨F, h, _⟩ := h
  exact global_any h
theorem Has.snapshot (h : Has g c w wr L) : Calls Try.prog 12 #[.pointer (some ⟨g, 0, none⟩)] wr fun e w' => e = .returned (.int .i64 c.snap) ∧ w' = wr := by
  obtain ⟨F, h, _⟩ := h
  exact snapshot_any h
theorem Has.enter (h : Has g c w wr L) {k : Nat} (hk : c.ws[k]? = some 0) : Calls Try.prog 18 #[.pointer (some ⟨g, 0, none⟩), .int .i64 (k : Int)] wr fun e w' => e = .returned (.tuple #[.int .i64 c.now, .int .i64 0]) ∧ Has g (c.enter k) w w' L := by
  obtain ⟨F, h1, h2⟩ := Stand.call (I' := ClockI g (c.enter k)) h
  exact (enter_ok h1 hk).mono fun e w' ⟨he, hg⟩ => ⟨he, h2 w' hg⟩
theorem Has.enterNo (h : Has g c w wr L) {x : Int} (hk : ∀ k : Nat, x = k → c.ws[k]? ≠ some 0) : Calls Try.prog 18 #[.pointer (some ⟨g, 0, none⟩), .int .i64 x] wr fun e w' => e = .returned (.tuple #[.int .i64 0, .int .i64 100]) ∧ w' = wr := by
  obtain ⟨F, h, _⟩ := h
  exact enter_no h hk
theorem Has.leave (h : Has g c w wr L) {k : Nat} {e0 : Int} (hk : c.ws[k]? = some e0) (h0 : e0 ≠ 0) : Calls Try.prog 19 #[.pointer (some ⟨g, 0, none⟩), .int .i64 (k : Int)] wr fun e w' => e = .returned (.int .i64 0) ∧ Has g (c.leave k) w w' L := by
  obtain ⟨F, h1, h2⟩ := Stand.call (I' := ClockI g (c.leave k)) h
  exact (leave_ok h1 hk h0).mono fun e w' ⟨he, hg⟩ => ⟨he, h2 w' hg⟩
theorem Has.leaveNo (h : Has g c w wr L) {x : Int} (hk : ∀ (k : Nat) (e : Int), x = k → c.ws[k]? = some e → e = 0) : Calls Try.prog 19 #[.pointer (some ⟨g, 0, none⟩), .int .i64 x] wr fun e w' => e = .returned (.int .i64 100) ∧ w' = wr := by
  obtain ⟨F, h, _⟩ := h
  exact leave_no h hk
theorem Has.last (h : Has g c w wr L) (hn : c.now = 2147483648) : Calls Try.prog 16 #[.pointer (some ⟨g, 0, none⟩)] wr fun e w' => e = .returned (.tuple #[.bool false, .int .i64 1]) ∧ Has g c w w' L := by
  obtain ⟨F, h1, h2⟩ := Stand.call (I' := ClockI g c) h
  exact (adv_last h1 hn).mono fun e w' ⟨he, hg⟩ => ⟨he, h2 w' hg⟩
theorem Has.late (h : Has g c w wr L) (hn : c.now ≠ 2147483648) (hl : c.late = true) : Calls Try.prog 16 #[.pointer (some ⟨g, 0, none⟩)] wr fun e w' => e = .returned (.tuple #[.bool false, .int .i64 0]) ∧ Has g c w w' L := by
  obtain ⟨F, h1, h2⟩ := Stand.call (I' := ClockI g c) h
  exact (adv_late h1 hn hl).mono fun e w' ⟨he, hg⟩ => ⟨he, h2 w' hg⟩
theorem Has.rise (h : Has g c w wr L) (hn : c.now ≠ 2147483648) (hl : c.late = false) : Calls Try.prog 16 #[.pointer (some ⟨g, 0, none⟩)] wr fun e w' => e = .returned (.tuple #[.bool true, .int .i64 0]) ∧ Has g c.rise w w' L := by
  obtain ⟨F, h1, h2⟩ := Stand.call (I' := ClockI g c.rise) h
  exact (adv_rise h1 hn hl).mono fun e w' ⟨he, hg⟩ => ⟨he, h2 w' hg⟩
theorem Has.retireNo (h : Has g c w wr L) (x : Int) (hn : c.th.length = 4096) : Calls Try.prog 14 #[.pointer (some ⟨g, 0, none⟩), .int .i64 x] wr fun e w' => e = .returned (.int .i64 2) ∧ w' = wr := by
  obtain ⟨F, h, _⟩ := h
  exact retire_full h x hn
theorem Has.retire (h : Has g c w wr L) (x : Int) (hn : c.th.length < 4096) : Calls Try.prog 14 #[.pointer (some ⟨g, 0, none⟩), .int .i64 x] wr fun e w' => e = .returned (.int .i64 0) ∧ Has g (c.retire x) w w' L := by
  obtain ⟨F, h1, h2⟩ := Stand.call (I' := ClockI g (c.retire x)) h
  exact (retire_ok h1 x hn).mono fun e w' ⟨he, hg⟩ => ⟨he, h2 w' hg⟩

/-- what Free tells, in a block of its own -/
def Told (g : Nat) (c : Ck) (w w' : World) (L : List (Nat × Obj)) (A : Option Addr) (M : List Int) : Prop :=
  M ≠ [] → ∃ b cur, A = some ⟨b, 0, none⟩ ∧ Has g c w w' ((b, .cells cur 3 (0, 0)) :: L) ∧ ∀ i, (h : i < M.length) → cur[i]? = some (.int .i64 M[i])

theorem Has.free (h : Has g c w wr L) : Calls Try.prog 15 #[.pointer (some ⟨g, 0, none⟩)] wr fun e w' => ∃ A m, e = .returned (.slice A ((freed c.snap c.th).map (·.1)).length m) ∧ Has g c.free w w' L ∧ Told g c.free w w' L A ((freed c.snap c.th).map (·.1)) := by
  obtain ⟨F, h1, h2, h3, h4, h5⟩ := h
  refine (free_any h1).mono ?_
  rintro e w' ⟨A, m, F', rfl, k1, k2, k3, k4, k5⟩
  have hH : Has g c.free w w' L := by
    refine ⟨F', k2, fun i hi => ?_, fun p hp hF => ?_, fun p hp => ⟨(k3.block p.1 (lt_of (h4 p hp).1) (h3 p hp)).trans (h4 p hp).1, (h4 p hp).2⟩, h5.trans ((k3.mono h2).toBelow h5.size)⟩
    · rcases k4 i hi with h | h
      · exact h2 i h
      · exact Nat.le_trans h5.size h
    · rcases k4 _ hF with h | h
      · exact h3 p hp h
      · have := lt_of (h4 p hp).1; omega
  rw [List.length_map]
  refine ⟨A, m, rfl, hH, fun hne => ?_⟩
  have hl : 0 < (freed c.snap c.th).length := by
    rw [← List.length_map (f := fun p : Int × Int => p.1)]; exact List.length_pos_iff.2 hne
  rcases k1.2 with ⟨_, hn⟩ | ⟨b, cap, cur, e, hb, hg, hnc, hcm, hs, ht⟩
  · omega
  · injection e with e1 e2 e3
    subst e1 e3
    obtain ⟨F2, g1, g2, g3, g4, g5⟩ := hH
    refine ⟨b, cur, rfl, ⟨F', k2, fun i hi => ?_, fun p hp hF => ?_, fun p hp => ?_, g5⟩, fun i hi => ?_⟩
    · rcases k4 i hi with h | h
      · exact h2 i h
      · exact Nat.le_trans h5.size h
    · rcases List.mem_cons.1 hp with rfl | hp
      · exact k5 b rfl hF
      · rcases k4 _ hF with h | h
        · exact h3 p hp h
        · have := lt_of (h4 p hp).1; omega
    · rcases List.mem_cons.1 hp with rfl | hp
      · exact ⟨hg, Nat.le_trans h5.size hb⟩
      · exact g4 p hp
    · rw [List.length_map] at hi
      rw [← Array.getElem?_toList, ← List.getElem?_take_of_lt (i := i) (j := (freed c.snap c.th).length * 1) (by omega), ht]
      exact icells_get (by rw [List.length_map]; exact hi)
end

theorem exNew : newOk 2 1 1 = true := by decide

set_option maxRecDepth 100000 in
set_option maxHeartbeats 1000000 in
theorem works_any (w : World) : Calls Try.prog 13 #[] w fun e w' => e = .returned (.bool true) ∧ Below w.heap.size w w' := by
  have HN : Hid (Calls Try.prog 8 #[.int .i64 2, .int .i64 1, .int .i64 1] w fun e w' => ∃ g, e = .returned (.tuple #[.pointer (some ⟨g, 0, none⟩), .int .i64 0]) ∧ Has g ⟨[0, 0], 1, 1, 0, []⟩ w w' [] ∧ Below w.heap.size w w') := has_new (Below.refl _ _) exNew
  go_enter Try.func13, Try.ntmps13
  go_wp2_with fail
  refine HN.out.mono ?_
  rintro e w1 ⟨g, rfl, h1, -⟩
  have H1 : Hid (Calls Try.prog 18 #[.pointer (some ⟨g, 0, none⟩), .int .i64 0] w1 fun e w' => e = .returned (.tuple #[.int .i64 1, .int .i64 0]) ∧ Has g ⟨[1, 0], 1, 1, 0, []⟩ w w' []) := h1.enter (k := 0) rfl
  clear h1
  go_wp2_with fail
  refine H1.out.mono ?_
  rintro e w2 ⟨rfl, h2⟩
  have H2 : Hid (Calls Try.prog 16 #[.pointer (some ⟨g, 0, none⟩)] w2 fun e w' => e = .returned (.tuple #[.bool true, .int .i64 0]) ∧ Has g ⟨[1, 0], 1, 2, 0, []⟩ w w' []) := h2.rise (by decide) (by decide)
  clear h2
  go_wp2_with fail
  refine H2.out.mono ?_
  rintro e w3 ⟨rfl, h3⟩
  have H3 : Hid (Calls Try.prog 16 #[.pointer (some ⟨g, 0, none⟩)] w3 fun e w' => e = .returned (.tuple #[.bool false, .int .i64 0]) ∧ Has g ⟨[1, 0], 1, 2, 0, []⟩ w w' []) := h3.late (by decide) (by decide)
  clear h3
  go_wp2_with fail
  refine H3.out.mono ?_
  rintro e w4 ⟨rfl, h4⟩
  have H4 : Hid (Calls Try.prog 11 #[.pointer (some ⟨g, 0, none⟩)] w4 fun e w' => e = .returned (.int .i64 2) ∧ w' = w4) := h4.global
  have HB : Hid (Below w.heap.size w w4) := h4.base
  clear h4
  go_wp2_with fail
  refine H4.out.mono ?_
  rintro e w5 ⟨rfl, rfl⟩
  go_wp2_with fail
  go_ret
  exact ⟨rfl, HB.out⟩

end Go.Proofs.Ytonblbopfbjiaaa
