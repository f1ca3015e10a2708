/- step: a call of both, a clock and the document's. -/
import Derived.Test.YtonblbopfbjiaaaEBook
namespace Go.Proofs.Ytonblbopfbjiaaa
open Go.RowKit

section
variable {g r : Nat} {c : Ck}

/-- a call answers the same of both -/
def Both (g r : Nat) (c : Ck) (f1 f2 : Nat) (args1 args2 : Array Value) (v : Value) (c' : Ck) : Prop :=
  (∀ w F, ClockI g c w F → Calls Try.prog f1 args1 w fun e w' => e = .returned v ∧ Goes (ClockI g c') w w' F) ∧ (∀ w F, RefI r c w F → Calls Try.prog f2 args2 w fun e w' => e = .returned v ∧ Goes (RefI r c') w w' F)

theorem both_enter (x : Int) : ∃ n E c', Both g r c 18 21 #[.pointer (some ⟨g, 0, none⟩), .int .i64 x] #[.pointer (some ⟨r, 0, none⟩), .int .i64 x] (.tuple #[.int .i64 n, .int .i64 E]) c' := by
  by_cases hk : ∃ i : Nat, x = i ∧ c.ws[i]? = some 0
  · obtain ⟨i, rfl, hi⟩ := hk
    exact ⟨c.now, 0, c.enter i, fun w F h => enter_ok h hi, fun w F h => renter_ok h hi⟩
  · refine ⟨0, 100, c, fun w F h => (enter_no h (fun i e h2 => hk ⟨i, e, h2⟩)).mono ?_, fun w F h => (renter_no h (fun i e h2 => hk ⟨i, e, h2⟩)).mono ?_⟩
    · rintro e w' ⟨rfl, rfl⟩
      exact ⟨rfl, Goes.stay h⟩
    · rintro e w' ⟨rfl, rfl⟩
      exact ⟨rfl, Goes.stay h⟩

theorem both_leave (x : Int) : ∃ E c', Both g r c 19 22 #[.pointer (some ⟨g, 0, none⟩), .int .i64 x] #[.pointer (some ⟨r, 0, none⟩), .int .i64 x] (.int .i64 E) c' := by
  by_cases hk : ∃ (i : Nat) (e : Int), x = i ∧ c.ws[i]? = some e ∧ e ≠ 0
  · obtain ⟨i, e0, rfl, hi, he⟩ := hk
    exact ⟨0, c.leave i, fun w F h => leave_ok h hi he, fun w F h => rleave_ok h hi he⟩
  · refine ⟨100, c, fun w F h => (leave_no h (fun i e h1 h2 => Decidable.byContradiction fun h3 => hk ⟨i, e, h1, h2, h3⟩)).mono ?_, fun w F h => (rleave_no h (fun i e h1 h2 => Decidable.byContradiction fun h3 => hk ⟨i, e, h1, h2, h3⟩)).mono ?_⟩
    · rintro e w' ⟨rfl, rfl⟩
      exact ⟨rfl, Goes.stay h⟩
    · rintro e w' ⟨rfl, rfl⟩
      exact ⟨rfl, Goes.stay h⟩

theorem both_adv : ∃ ok E c', Both g r c 16 23 #[.pointer (some ⟨g, 0, none⟩)] #[.pointer (some ⟨r, 0, none⟩)] (.tuple #[.bool ok, .int .i64 E]) c' := by
  by_cases hn : c.now = 2147483648
  · refine ⟨false, 1, c, fun w F h => adv_last h hn, fun w F h => (radv_last h hn).mono ?_⟩
    rintro e w' ⟨rfl, rfl⟩
    exact ⟨rfl, Goes.stay h⟩
  · cases hl : c.late with
    | true =>
      refine ⟨false, 0, c, fun w F h => adv_late h hn hl, fun w F h => (radv_late h hn hl).mono ?_⟩
      rintro e w' ⟨rfl, n, rfl⟩
      exact ⟨rfl, Goes.drew (refI_res _ _) h n⟩
    | false => exact ⟨true, 0, c.rise, fun w F h => adv_rise h hn hl, fun w F h => radv_rise h hn hl⟩

theorem both_retire (ho : c.Ok) (x : Int) : ∃ E c', Both g r c 14 24 #[.pointer (some ⟨g, 0, none⟩), .int .i64 x] #[.pointer (some ⟨r, 0, none⟩), .int .i64 x] (.int .i64 E) c' := by
  by_cases hn : c.th.length < 4096
  · exact ⟨0, c.retire x, fun w F h => retire_ok h x hn, fun w F h => rretire_ok h x hn⟩
  · have hn2 : c.th.length = 4096 := by have := ho.room; omega
    refine ⟨2, c, fun w F h => (retire_full h x hn2).mono ?_, fun w F h => (rretire_full h x hn2).mono ?_⟩
    · rintro e w' ⟨rfl, rfl⟩
      exact ⟨rfl, Goes.stay h⟩
    · rintro e w' ⟨rfl, rfl⟩
      exact ⟨rfl, Goes.stay h⟩
end

/-- the clock g holds c1, the document's r holds c2; beside them the act in the block b -/
def Own (g r : Nat) (c1 c2 : Ck) (w u : World) (F : Nat → Prop) (b : Nat) (k x : Int) : Prop := Mid (Sep (ClockI g c1) (RefI r c2)) w u F [(b, actO k x)]
theorem bothRes (g r : Nat) (c1 c2 : Ck) : Res (Sep (ClockI g c1) (RefI r c2)) := Sep.res (clockI_res _ _) (refI_res _ _)

section
variable {g r : Nat} {c c1 c2 c' : Ck} {w u : World} {F : Nat → Prop} {b f1 f2 : Nat} {k x : Int} {args1 args2 : Array Value} {v : Value}
theorem Own.cell (h : Own g r c1 c2 w u F b k x) : u.cell? ⟨b, 1, none⟩ = some (.int .i64 x) := by
  rw [cell_of (Mid.at h (List.mem_singleton.2 rfl))]; rfl
theorem Own.drewN (h : Own g r c1 c2 w u F b k x) (m : Nat) : Own g r c1 c2 w (u.drewN m) F b k x := Mid.drewN (bothRes _ _ _ _) h m
theorem own_ck (h : Own g r c c2 w u F b k x) (hc : Both g r c f1 f2 args1 args2 v c') : Calls Try.prog f1 args1 u fun e w' => e = .returned v ∧ Own g r c' c2 w w' F b k x ∧ w'.cell? ⟨b, 1, none⟩ = some (.int .i64 x) := by
  obtain ⟨A, h1, h2⟩ := Mid.left (I' := ClockI g c') (refI_res _ _) h
  refine (hc.1 u A h1).mono ?_
  rintro e w' ⟨rfl, hg⟩
  exact ⟨rfl, h2 w' hg, Own.cell (h2 w' hg)⟩
theorem own_rf (h : Own g r c1 c w u F b k x) (hc : Both g r c f1 f2 args1 args2 v c') : Calls Try.prog f2 args2 u fun e w' => e = .returned v ∧ Own g r c1 c' w w' F b k x ∧ w'.cell? ⟨b, 1, none⟩ = some (.int .i64 x) := by
  obtain ⟨A, h1, h2⟩ := Mid.right (I' := RefI r c') (clockI_res _ _) h
  refine (hc.2 u A h1).mono ?_
  rintro e w' ⟨rfl, hg⟩
  exact ⟨rfl, h2 w' hg, Own.cell (h2 w' hg)⟩
end

section
variable {g r : Nat} {c : Ck} {F : Nat → Prop} {k x : Int}

set_option maxRecDepth 100000 in
set_option maxHeartbeats 1000000 in
theorem step_enter (w : World) (hI : Sep (ClockI g c) (RefI r c) w F) (hk : k % 5 = 0) :
    Calls Try.prog 10 #[.pointer (some ⟨g, 0, none⟩), .pointer (some ⟨r, 0, none⟩), .agg #[.int .i64 k, .int .i64 x]] w fun e w' => e = .returned (.bool true) ∧ ∃ c', Goes (Sep (ClockI g c') (RefI r c')) w w' F := by
  have hF : ∀ i, F i → i < w.heap.size := fun i hi => (bothRes g r c c).lt hI i hi
  have HM : Hid (Own g r c c w (w.alloc (actO k x)) F w.heap.size k x) := Mid.alloc (bothRes g r c c) hF (Mid.start hI) (actO k x)
  have A1 : Hid (∀ W, Calls Try.prog 17 #[.int .i64 k, .int .i64 5] W fun e w' => e = .returned (.int .i64 0) ∧ w' = W) := fun W => by have := among_any k 5 W (by omega) (by omega); rw [hk] at this; exact this
  obtain ⟨b, hb⟩ : ∃ b, w.heap.size = b := ⟨_, rfl⟩
  rw [hb] at HM
  obtain ⟨u0, hu0⟩ : ∃ u0, w.alloc (actO k x) = u0 := ⟨_, rfl⟩
  rw [hu0] at HM
  have HU0 : Hid (w.alloc (actO k x) = u0) := hu0
  have q1 := HM.out.cell
  obtain ⟨n, E, c', hB⟩ := both_enter (g := g) (r := r) (c := c) x
  have HN : Hid (∀ W, Own g r c c w W F b k x → Calls Try.prog 18 #[.pointer (some ⟨g, 0, none⟩), .int .i64 x] W fun e w' => e = .returned (.tuple #[.int .i64 n, .int .i64 E]) ∧ Own g r c' c w w' F b k x ∧ w'.cell? ⟨b, 1, none⟩ = some (.int .i64 x)) := fun W h => own_ck h hB
  have HR : Hid (∀ W, Own g r c' c w W F b k x → Calls Try.prog 21 #[.pointer (some ⟨r, 0, none⟩), .int .i64 x] W fun e w' => e = .returned (.tuple #[.int .i64 n, .int .i64 E]) ∧ Own g r c' c' w w' F b k x ∧ w'.cell? ⟨b, 1, none⟩ = some (.int .i64 x)) := fun W h => own_rf h hB
  clear hI hF hk hu0 hB
  go_enter Try.func10, Try.ntmps10
  go_wp2_with fail
  refine (A1.out _).mono ?_
  rintro e u ⟨rfl, rfl⟩
  rw [HU0.out]
  go_wp2_with fail
  refine (HN.out _ HM.out).mono ?_
  rintro e u1 ⟨rfl, H1, q2⟩
  have HS1 : Hid (Own g r c' c w u1 F b k x) := H1
  clear H1 HM
  go_wp2_with fail
  refine (HR.out _ HS1.out).mono ?_
  rintro e u2 ⟨rfl, H2, q3⟩
  have HS2 : Hid (Own g r c' c' w u2 F b k x) := H2
  clear H2 HS1
  go_wp2_with fail
  go_ret
  exact ⟨rfl, c', Mid.goes HS2.out⟩

set_option maxRecDepth 100000 in
set_option maxHeartbeats 1000000 in
theorem step_leave (w : World) (hI : Sep (ClockI g c) (RefI r c) w F) (hk : k % 5 = 1) :
    Calls Try.prog 10 #[.pointer (some ⟨g, 0, none⟩), .pointer (some ⟨r, 0, none⟩), .agg #[.int .i64 k, .int .i64 x]] w fun e w' => e = .returned (.bool true) ∧ ∃ c', Goes (Sep (ClockI g c') (RefI r c')) w w' F := by
  have hF : ∀ i, F i → i < w.heap.size := fun i hi => (bothRes g r c c).lt hI i hi
  have HM : Hid (Own g r c c w (w.alloc (actO k x)) F w.heap.size k x) := Mid.alloc (bothRes g r c c) hF (Mid.start hI) (actO k x)
  have A1 : Hid (∀ W, Calls Try.prog 17 #[.int .i64 k, .int .i64 5] W fun e w' => e = .returned (.int .i64 1) ∧ w' = W) := fun W => by have := among_any k 5 W (by omega) (by omega); rw [hk] at this; exact this
  obtain ⟨b, hb⟩ : ∃ b, w.heap.size = b := ⟨_, rfl⟩
  rw [hb] at HM
  obtain ⟨u0, hu0⟩ : ∃ u0, w.alloc (actO k x) = u0 := ⟨_, rfl⟩
  rw [hu0] at HM
  have HU0 : Hid (w.alloc (actO k x) = u0) := hu0
  have q1 := HM.out.cell
  obtain ⟨E, c', hB⟩ := both_leave (g := g) (r := r) (c := c) x
  have HN : Hid (∀ W m, W = u0.drewN m → Calls Try.prog 19 #[.pointer (some ⟨g, 0, none⟩), .int .i64 x] W fun e w' => e = .returned (.int .i64 E) ∧ Own g r c' c w w' F b k x ∧ w'.cell? ⟨b, 1, none⟩ = some (.int .i64 x)) := by
    rintro W m rfl
    exact own_ck (HM.out.drewN m) hB
  have HR : Hid (∀ W, Own g r c' c w W F b k x → Calls Try.prog 22 #[.pointer (some ⟨r, 0, none⟩), .int .i64 x] W fun e w' => e = .returned (.int .i64 E) ∧ Own g r c' c' w w' F b k x ∧ w'.cell? ⟨b, 1, none⟩ = some (.int .i64 x)) := fun W h => own_rf h hB
  clear hI hF hk hu0 hB
  go_enter Try.func10, Try.ntmps10
  go_wp2_with fail
  refine (A1.out _).mono ?_
  rintro e u ⟨rfl, rfl⟩
  rw [HU0.out]
  go_wp2_with fail
  go_region_held3 (fun w' => w'.cell? ⟨b, 1, none⟩ = some (.int .i64 x)) (go_keep)
    (first
      | (go_at_call 19; refine (HN.out _ 1 rfl).mono ?_; rintro e w1 ⟨rfl, hH, p1⟩)
      | (go_at_call 22; refine (HR.out _ hH).mono ?_; rintro e w2 ⟨rfl, hG, r1⟩))
  all_goals go_wp2_with fail
  all_goals go_ret
  all_goals exact ⟨rfl, c', Mid.goes hG⟩

set_option maxRecDepth 100000 in
set_option maxHeartbeats 1000000 in
theorem step_adv (w : World) (hI : Sep (ClockI g c) (RefI r c) w F) (hk : k % 5 = 2) :
    Calls Try.prog 10 #[.pointer (some ⟨g, 0, none⟩), .pointer (some ⟨r, 0, none⟩), .agg #[.int .i64 k, .int .i64 x]] w fun e w' => e = .returned (.bool true) ∧ ∃ c', Goes (Sep (ClockI g c') (RefI r c')) w w' F := by
  have hF : ∀ i, F i → i < w.heap.size := fun i hi => (bothRes g r c c).lt hI i hi
  have HM : Hid (Own g r c c w (w.alloc (actO k x)) F w.heap.size k x) := Mid.alloc (bothRes g r c c) hF (Mid.start hI) (actO k x)
  have A1 : Hid (∀ W, Calls Try.prog 17 #[.int .i64 k, .int .i64 5] W fun e w' => e = .returned (.int .i64 2) ∧ w' = W) := fun W => by have := among_any k 5 W (by omega) (by omega); rw [hk] at this; exact this
  obtain ⟨b, hb⟩ : ∃ b, w.heap.size = b := ⟨_, rfl⟩
  rw [hb] at HM
  obtain ⟨u0, hu0⟩ : ∃ u0, w.alloc (actO k x) = u0 := ⟨_, rfl⟩
  rw [hu0] at HM
  have HU0 : Hid (w.alloc (actO k x) = u0) := hu0
  have q1 := HM.out.cell
  obtain ⟨ok, E, c', hB⟩ := both_adv (g := g) (r := r) (c := c)
  have HN : Hid (∀ W, Own g r c c w W F b k x → Calls Try.prog 16 #[.pointer (some ⟨g, 0, none⟩)] W fun e w' => e = .returned (.tuple #[.bool ok, .int .i64 E]) ∧ Own g r c' c w w' F b k x ∧ w'.cell? ⟨b, 1, none⟩ = some (.int .i64 x)) := fun W h => own_ck h hB
  have HR : Hid (∀ W, Own g r c' c w W F b k x → Calls Try.prog 23 #[.pointer (some ⟨r, 0, none⟩)] W fun e w' => e = .returned (.tuple #[.bool ok, .int .i64 E]) ∧ Own g r c' c' w w' F b k x ∧ w'.cell? ⟨b, 1, none⟩ = some (.int .i64 x)) := fun W h => own_rf h hB
  clear hI hF hk hu0 hB
  go_enter Try.func10, Try.ntmps10
  go_wp2_with fail
  refine (A1.out _).mono ?_
  rintro e u ⟨rfl, rfl⟩
  rw [HU0.out]
  go_wp2_with fail
  refine (HN.out _ HM.out).mono ?_
  rintro e u1 ⟨rfl, H1, q2⟩
  have HS1 : Hid (Own g r c' c w u1 F b k x) := H1
  clear H1 HM
  go_wp2_with fail
  refine (HR.out _ HS1.out).mono ?_
  rintro e u2 ⟨rfl, H2, q3⟩
  have HS2 : Hid (Own g r c' c' w u2 F b k x) := H2
  clear H2 HS1
  go_wp2_with fail
  go_ret
  exact ⟨rfl, c', Mid.goes HS2.out⟩

set_option maxRecDepth 100000 in
set_option maxHeartbeats 1000000 in
theorem step_retire (w : World) (hI : Sep (ClockI g c) (RefI r c) w F) (hk : k % 5 = 3) :
    Calls Try.prog 10 #[.pointer (some ⟨g, 0, none⟩), .pointer (some ⟨r, 0, none⟩), .agg #[.int .i64 k, .int .i64 x]] w fun e w' => e = .returned (.bool true) ∧ ∃ c', Goes (Sep (ClockI g c') (RefI r c')) w w' F := by
  have hF : ∀ i, F i → i < w.heap.size := fun i hi => (bothRes g r c c).lt hI i hi
  have HM : Hid (Own g r c c w (w.alloc (actO k x)) F w.heap.size k x) := Mid.alloc (bothRes g r c c) hF (Mid.start hI) (actO k x)
  have A1 : Hid (∀ W, Calls Try.prog 17 #[.int .i64 k, .int .i64 5] W fun e w' => e = .returned (.int .i64 3) ∧ w' = W) := fun W => by have := among_any k 5 W (by omega) (by omega); rw [hk] at this; exact this
  obtain ⟨b, hb⟩ : ∃ b, w.heap.size = b := ⟨_, rfl⟩
  rw [hb] at HM
  obtain ⟨u0, hu0⟩ : ∃ u0, w.alloc (actO k x) = u0 := ⟨_, rfl⟩
  rw [hu0] at HM
  have HU0 : Hid (w.alloc (actO k x) = u0) := hu0
  have q1 := HM.out.cell
  obtain ⟨E, c', hB⟩ := both_retire (g := g) (r := r) (c := c) (by obtain ⟨A, B, hA, _⟩ := hI; exact hA.ok) x
  have HN : Hid (∀ W m, W = u0.drewN m → Calls Try.prog 14 #[.pointer (some ⟨g, 0, none⟩), .int .i64 x] W fun e w' => e = .returned (.int .i64 E) ∧ Own g r c' c w w' F b k x ∧ w'.cell? ⟨b, 1, none⟩ = some (.int .i64 x)) := by
    rintro W m rfl
    exact own_ck (HM.out.drewN m) hB
  have HR : Hid (∀ W, Own g r c' c w W F b k x → Calls Try.prog 24 #[.pointer (some ⟨r, 0, none⟩), .int .i64 x] W fun e w' => e = .returned (.int .i64 E) ∧ Own g r c' c' w w' F b k x ∧ w'.cell? ⟨b, 1, none⟩ = some (.int .i64 x)) := fun W h => own_rf h hB
  clear hI hF hk hu0 hB
  go_enter Try.func10, Try.ntmps10
  go_wp2_with fail
  refine (A1.out _).mono ?_
  rintro e u ⟨rfl, rfl⟩
  rw [HU0.out]
  go_wp2_with fail
  go_region_held3 (fun w' => w'.cell? ⟨b, 1, none⟩ = some (.int .i64 x)) (go_keep)
    (first
      | (go_at_call 14; refine (HN.out _ 1 rfl).mono ?_; rintro e w1 ⟨rfl, hH, p1⟩)
      | (go_at_call 24; refine (HR.out _ hH).mono ?_; rintro e w2 ⟨rfl, hG, r1⟩))
  all_goals go_wp2_with fail
  all_goals go_ret
  all_goals exact ⟨rfl, c', Mid.goes hG⟩

set_option maxRecDepth 100000 in
set_option maxHeartbeats 1000000 in
theorem step_free (w : World) (hI : Sep (ClockI g c) (RefI r c) w F) (hk : k % 5 = 4) :
    Calls Try.prog 10 #[.pointer (some ⟨g, 0, none⟩), .pointer (some ⟨r, 0, none⟩), .agg #[.int .i64 k, .int .i64 x]] w fun e w' => e = .returned (.bool true) ∧ ∃ c', Goes (Sep (ClockI g c') (RefI r c')) w w' F := by
  have hF : ∀ i, F i → i < w.heap.size := fun i hi => (bothRes g r c c).lt hI i hi
  have HM : Hid (Own g r c c w (w.alloc (actO k x)) F w.heap.size k x) := Mid.alloc (bothRes g r c c) hF (Mid.start hI) (actO k x)
  have A1 : Hid (∀ W, Calls Try.prog 17 #[.int .i64 k, .int .i64 5] W fun e w' => e = .returned (.int .i64 4) ∧ w' = W) := fun W => by have := among_any k 5 W (by omega) (by omega); rw [hk] at this; exact this
  obtain ⟨b, hb⟩ : ∃ b, w.heap.size = b := ⟨_, rfl⟩
  rw [hb] at HM
  obtain ⟨u0, hu0⟩ : ∃ u0, w.alloc (actO k x) = u0 := ⟨_, rfl⟩
  rw [hu0] at HM
  have HU0 : Hid (w.alloc (actO k x) = u0) := hu0
  have q1 := HM.out.cell
  obtain ⟨X, hX⟩ : ∃ X, (freed c.snap c.th).map (·.1) = X := ⟨_, rfl⟩
  have HN : Hid (Calls Try.prog 15 #[.pointer (some ⟨g, 0, none⟩)] u0 fun e w' => ∃ v L1, e = .returned v ∧ RowL L1 v X ∧ Hid (Mid (Sep (ClockI g c.free) (RefI r c)) w w' F L1)) := by
    obtain ⟨A, h1, h2⟩ := Mid.leftRow (I' := ClockI g c.free) (refI_res _ _) hF (Mid.drop (L' := []) HM.out (fun _ h => by cases h))
    refine (free_any h1).mono ?_
    rintro e w' ⟨a, m, F', rfl, k1, k2, k3, k4, k5⟩
    rw [hX] at k1
    obtain ⟨L1, l1, l2⟩ := RowL.of k1
    have h3 := h2 w' F' L1 k2 k3 k4 (fun p hp => ⟨k5 p.1 (l2 p hp).1, (l2 p hp).2.1, (l2 p hp).2.2⟩)
    rw [List.append_nil] at h3
    exact ⟨_, L1, rfl, l1, h3⟩
  have HR : Hid (∀ W L1, Mid (Sep (ClockI g c.free) (RefI r c)) w W F L1 → Calls Try.prog 26 #[.pointer (some ⟨r, 0, none⟩)] W fun e w' => ∃ v L2, e = .returned v ∧ RowL L2 v X ∧ Hid (Mid (Sep (ClockI g c.free) (RefI r c.free)) w w' F (L2 ++ L1))) := fun W L1 hM => by
    obtain ⟨A, h1, h2⟩ := Mid.leftRow (I' := RefI r c.free) (clockI_res _ _) hF (Mid.swap hM)
    refine (rfree_any h1).mono ?_
    rintro e w' ⟨a, m, F', rfl, k1, k2, k3, k4, k5⟩
    rw [hX] at k1
    obtain ⟨L2, l1, l2⟩ := RowL.of k1
    exact ⟨_, L2, rfl, l1, (h2 w' F' L2 k2 k3 k4 (fun p hp => ⟨k5 p.1 (l2 p hp).1, (l2 p hp).2.1, (l2 p hp).2.2⟩)).swap⟩
  clear hI hF hk hu0 hX
  go_enter Try.func10, Try.ntmps10
  go_wp2_with fail
  refine (A1.out _).mono ?_
  rintro e u ⟨rfl, rfl⟩
  rw [HU0.out]
  go_wp2_with fail
  refine HN.out.mono ?_
  rintro e u1 ⟨v1, L1, rfl, hR1, HM1⟩
  have HR1 : Hid (RowL L1 v1 X) := hR1
  obtain ⟨a1, n1, m1, rfl⟩ : ∃ a n m, v1 = .slice a n m := by
    rcases hR1 with ⟨_, rfl, _⟩ | ⟨b, cap, cur, rfl, _⟩
    · exact ⟨_, _, _, rfl⟩
    · exact ⟨_, _, _, rfl⟩
  clear hR1
  go_wp2_with fail
  refine (HR.out u1 L1 HM1.out).mono ?_
  rintro e u2 ⟨v2, L2, rfl, hR2, HM2⟩
  have HSm : Hid (Calls Try.prog 25 #[.slice a1 n1 m1, v2] u2 fun e w' => e = .returned (.bool true) ∧ ∃ n, w' = u2.drewN n) := same_ints (HR1.out.nums (fun p hp => Mid.at HM2.out (b := p.1) (o := p.2) (List.mem_append_right _ hp))) (hR2.nums (fun p hp => Mid.at HM2.out (b := p.1) (o := p.2) (List.mem_append_left _ hp)))
  obtain ⟨a2, n2, m2, rfl⟩ : ∃ a n m, v2 = .slice a n m := by
    rcases hR2 with ⟨_, rfl, _⟩ | ⟨b, cap, cur, rfl, _⟩
    · exact ⟨_, _, _, rfl⟩
    · exact ⟨_, _, _, rfl⟩
  clear hR2
  go_wp2_with fail
  refine HSm.out.mono ?_
  rintro e u3 ⟨rfl, nd, rfl⟩
  have HM3 : Hid (Mid (Sep (ClockI g c.free) (RefI r c.free)) w (u2.drewN nd) F (L2 ++ L1)) := Mid.drewN (bothRes _ _ _ _) HM2.out nd
  have HSp : Hid (Calls Try.prog 27 #[.slice a1 n1 m1, .int .i64 (-7)] (u2.drewN nd) fun e w' => e = .returned (.tuple #[]) ∧ Hid (Goes (Sep (ClockI g c.free) (RefI r c.free)) w w' F)) := by
    rcases HR1.out with ⟨_, e1, _⟩ | ⟨b, cap, cur, e1, rfl, hs, hx, hc, ht⟩
    · injection e1 with e2 e3 e4
      subst e2 e3 e4
      refine (spoil_nil _ _).mono ?_
      rintro e w' ⟨rfl, rfl⟩
      exact ⟨rfl, Mid.goes HM3.out⟩
    · injection e1 with e2 e3 e4
      subst e2 e3 e4
      refine (spoil_row _ (Mid.at HM3.out (b := b) (o := .cells cur 3 (0, 0)) (by simp)) hs hc).mono ?_
      rintro e w' ⟨rfl, hT⟩
      exact ⟨rfl, Mid.goes (Mid.write (bothRes _ _ _ _) HM3.out (b := b) (o := .cells cur 3 (0, 0)) (by simp) hT)⟩
  clear HM1 HM2 HSm
  go_wp2_with fail
  refine HSp.out.mono ?_
  rintro e u4 ⟨rfl, HG⟩
  go_wp2_with fail
  go_ret
  exact ⟨rfl, c.free, HG.out⟩

theorem step_true (w : World) (hI : Sep (ClockI g c) (RefI r c) w F) :
    Calls Try.prog 10 #[.pointer (some ⟨g, 0, none⟩), .pointer (some ⟨r, 0, none⟩), .agg #[.int .i64 k, .int .i64 x]] w fun e w' => e = .returned (.bool true) ∧ ∃ c', Goes (Sep (ClockI g c') (RefI r c')) w w' F := by
  rcases (by omega : k % 5 = 0 ∨ k % 5 = 1 ∨ k % 5 = 2 ∨ k % 5 = 3 ∨ k % 5 = 4) with h | h | h | h | h
  · exact step_enter w hI h
  · exact step_leave w hI h
  · exact step_adv w hI h
  · exact step_retire w hI h
  · exact step_free w hI h
end
end Go.Proofs.Ytonblbopfbjiaaa
