/- Values as they lie in memory; the program's Check of a row of values that may be. -/
import Derived.Test.YtfddmibaojfalaaGreatKVal
import Derived.Test.YtfddmibaojfalaaGreatXPure
import Derived.Test.YtfddmibaojfalaaGreatZHeap
namespace Go.Proofs.YtfddmibaojfalaaGreat
open Go.RowKit

abbrev vagg (k n : Int) (s : ByteArray) : Value := .agg #[.int .i64 k, .int .i64 n, .complex .f64 0 0, .string s]
def V.val (v : V) : Value := vagg v.k v.n v.s
def enV (v : V) : List Value := [.int .i64 v.k, .int .i64 v.n, .complex .f64 0 0, .string v.s]

set_option maxHeartbeats 400000 in
theorem mayBe_null (w : World) : Calls Tryz.prog 87 #[val 0 0 ByteArray.empty] w fun e w' => e = .returned (.bool true) ∧ Below w.heap.size w w' := by
  unfold val
  go_enter Tryz.func87, Tryz.ntmps87
  go_wp2_with (go_at_call 93; refine (nothing_any _).mono ?_; rintro e w' ⟨rfl, rfl⟩)
  go_ret
  refine ⟨rfl, ?_⟩
  go_grown

theorem vmayBe_any (v : V) (h : OkV v) (w : World) : Calls Tryz.prog 87 #[v.val] w fun e w' => e = .returned (.bool true) ∧ Below w.heap.size w w' := by
  obtain ⟨k, n, s⟩ := v
  rcases h with ⟨rfl, rfl, rfl⟩ | ⟨rfl, rfl⟩ | ⟨rfl, rfl, h⟩
  · exact mayBe_null w
  · exact mayBe_int n w
  · exact mayBe_text s h w

/-- the cells of a slice of values -/
theorem SliceAt.vals {w : World} {v : Value} {L : List V} (h : SliceAt w v 4 enV L) : ∃ a c, v = .slice a L.length c ∧ L.length ≤ c ∧ c ≤ maxLen ∧ ∀ u, Below w.heap.size w u → ∀ i y, L[i]? = some y → ∃ b off, a = some ⟨b, off, none⟩ ∧ b < u.heap.size ∧
    u.cell? ⟨b, off + i * 4, none⟩ = some (.int .i64 y.k) ∧ u.cell? ⟨b, off + i * 4 + 1, none⟩ = some (.int .i64 y.n) ∧ u.cell? ⟨b, off + i * 4 + 2, none⟩ = some (.complex .f64 0 0) ∧ u.cell? ⟨b, off + i * 4 + 3, none⟩ = some (.string y.s) := by
  obtain ⟨a, c, rfl, h1, h2, h3⟩ := h.opened
  refine ⟨a, c, rfl, h1, h2, fun u hu i y hy => ?_⟩
  obtain ⟨hi, rfl⟩ := List.getElem?_eq_some_iff.1 hy
  obtain ⟨b, off, e, hl, hc⟩ := h3 u hu i hi
  exact ⟨b, off, e, Nat.lt_of_lt_of_le hl hu.size, hc 0 _ rfl, hc 1 _ rfl, hc 2 _ rfl, hc 3 _ rfl⟩

set_option maxRecDepth 100000 in
set_option maxHeartbeats 1000000 in
theorem vcheck_any (v : Value) (L : List V) (w w0 : World) (h : SliceAt w0 v 4 enV L) (hb : Below w0.heap.size w0 w) (hl : L.length ≤ 32) (ho : ∀ x ∈ L, OkV x) :
    Calls Tryz.prog 72 #[v] w fun e w' => e = .returned (.tuple #[.int .i64 0, .int .i64 0]) ∧ Below w.heap.size w w' := by
  obtain ⟨a, c, rfl, h1, h2, h3⟩ := h.vals
  have HX : Hid (∀ u, Below w.heap.size w u → ∀ (i : Nat) (y : V), L[i]? = some y → ∃ b off, a = some ⟨b, off, none⟩ ∧ b < u.heap.size ∧ u.cell? ⟨b, off + i * 4, none⟩ = some (.int .i64 y.k) ∧ u.cell? ⟨b, off + i * 4 + 1, none⟩ = some (.int .i64 y.n) ∧ u.cell? ⟨b, off + i * 4 + 2, none⟩ = some (.complex .f64 0 0) ∧ u.cell? ⟨b, off + i * 4 + 3, none⟩ = some (.string y.s)) := fun u hu i y hy => h3 u (hb.trans (hu.mono hb.size)) i y hy
  have HM : Hid (∀ (i : Nat) (y : V), L[i]? = some y → ∀ u, Calls Tryz.prog 87 #[vagg y.k y.n y.s] u fun e w' => e = .returned (.bool true) ∧ Below u.heap.size u w') := fun i y hy u => vmayBe_any y (ho y (List.mem_of_getElem? hy)) u
  obtain ⟨N, hN⟩ : ∃ N, L.length = N := ⟨_, rfl⟩
  have HL : Hid (L.length = N) := hN
  unfold maxLen at h2
  rw [hN] at h1 hl ⊢
  have g : ¬ (32 : Int) < (N : Int) := by omega
  have hsl := @store_law
  clear h h3 hN hb ho
  go_enter Tryz.func72, Tryz.ntmps72
  go_wp2_with fail
  go_loopw [11] (fun v wr => ∃ i : Nat, i ≤ N ∧ v = .int .i64 i ∧ Hid (Below w.heap.size w wr)) (fun v _ => N - (intOf v).toNat)
  case atStart => exact ⟨0, Nat.zero_le _, rfl, Below.refl _ _⟩
  case round =>
    obtain ⟨i, hi, rfl, HB⟩ := hrel
    by_cases hlt : i < N
    · obtain ⟨y, hy⟩ : ∃ y, L[i]? = some y := ⟨_, List.getElem?_eq_getElem (by rw [HL.out]; exact hlt)⟩
      obtain ⟨b, off, rfl, hbl, q0, q1, q2, q3⟩ := HX.out wr HB.out i y hy
      have HC : Hid (∀ u, Calls Tryz.prog 87 #[vagg y.k y.n y.s] u fun e w' => e = .returned (.bool true) ∧ Below u.heap.size u w') := HM.out i y hy
      obtain ⟨k, n, s⟩ := y
      dsimp only at q0 q1 q3 HC
      have hlI : (i : Int) < (N : Int) := by omega
      clear hy
      go_wp2_with (go_at_call 87; go_must (refine (HC.out _).mono ?_; rintro e w1 ⟨rfl, hw1⟩))
      have HB1 : Hid (Below w.heap.size w w1) := HB.out.trans ((((Below.refl _ wr).alloc (Nat.le_refl _) _).trans (hw1.mono (by simp))).mono HB.out.size)
      clear hw1
      go_roundw
      case rel => exact ⟨i + 1, by omega, by go_num, HB1⟩
      case measure => simp [intOf]; omega
    · have hlI : ¬ (i : Int) < (N : Int) := by omega
      go_wp2_with fail
      go_ret2
      exact ⟨rfl, HB.out⟩

end Go.Proofs.YtfddmibaojfalaaGreat
