/- Rows of numbers that were told: are they the same; marks written over one. A call within a function whose objects are older. -/
import Derived.Test.YtonblbopfbjiaaaERefF
import Derived.Test.YtonblbopfbjiaaaEArr
import Derived.Deep.RegionHeld3
namespace Go.Proofs.Ytonblbopfbjiaaa
open Go.RowKit

/-- on the way from w to what Goes says, with blocks of the call's own -/
def Mid (I : World → (Nat → Prop) → Prop) (w wr : World) (F : Nat → Prop) (L : List (Nat × Obj)) : Prop :=
  ∃ F', I wr F' ∧ Turn F w wr ∧ (∀ i, F' i → F i ∨ w.heap.size ≤ i) ∧ ∀ p ∈ L, ¬ F' p.1 ∧ wr.heap[p.1]? = some p.2 ∧ w.heap.size ≤ p.1 ∧ ¬ F p.1

section
variable {I I' J : World → (Nat → Prop) → Prop} {w wr w' : World} {F : Nat → Prop} {L : List (Nat × Obj)}

theorem Mid.start (h : I w F) : Mid I w w F [] := ⟨F, h, Turn.refl _ _, fun _ hi => Or.inl hi, fun _ h => by cases h⟩
theorem Mid.goes (h : Mid I w wr F L) : Goes I w wr F := by obtain ⟨F', h1, h2, h3, _⟩ := h; exact ⟨F', h1, h2, h3⟩
theorem Mid.at (h : Mid I w wr F L) {b : Nat} {o : Obj} (hb : (b, o) ∈ L) : wr.heap[b]? = some o := by obtain ⟨_, _, _, _, h⟩ := h; exact (h _ hb).2.1
theorem Mid.drewN (R : Res I) (h : Mid I w wr F L) (m : Nat) : Mid I w (wr.drewN m) F L := by
  obtain ⟨F', h1, h2, h3, h4⟩ := h
  exact ⟨F', R.kept (S := fun _ => False) h1 (Turn.ofBelow _ (below_drewN wr m)) (fun _ _ h => h), h2.drewN m, h3, h4⟩
theorem Mid.drop {L' : List (Nat × Obj)} (h : Mid I w wr F L) (hL : ∀ p ∈ L', p ∈ L) : Mid I w wr F L' := by
  obtain ⟨F', h1, h2, h3, h4⟩ := h
  exact ⟨F', h1, h2, h3, fun p hp => h4 p (hL p hp)⟩
theorem Mid.alloc (R : Res I) (hF : ∀ i, F i → i < w.heap.size) (h : Mid I w wr F L) (o : Obj) : Mid I w (wr.alloc o) F ((wr.heap.size, o) :: L) := by
  obtain ⟨F', h1, h2, h3, h4⟩ := h
  have hb : Below wr.heap.size wr (wr.alloc o) := (Below.refl _ _).alloc (Nat.le_refl _) o
  refine ⟨F', R.kept (S := fun _ => False) h1 (Turn.ofBelow _ hb) (fun _ _ h => h), h2.trans (Turn.ofBelow _ hb), h3, fun p hp => ?_⟩
  rcases List.mem_cons.1 hp with rfl | hp
  · exact ⟨fun hi => absurd (R.lt h1 _ hi) (Nat.lt_irrefl _), heap_new wr o, h2.size, fun hi => by have := hF _ hi; have := h2.size; omega⟩
  · exact ⟨(h4 p hp).1, (hb.block p.1 (lt_of (h4 p hp).2.1)).trans (h4 p hp).2.1, (h4 p hp).2.2⟩
theorem Mid.call (h : Mid I w wr F L) : ∃ A, I wr A ∧ ∀ w', Goes I' wr w' A → Mid I' w w' F L := by
  obtain ⟨F', h1, h2, h3, h4⟩ := h
  refine ⟨F', h1, fun w' hg => ?_⟩
  obtain ⟨F2, g1, g2, g3⟩ := hg
  refine ⟨F2, g1, h2.transNew g2 h3, fun i hi => ?_, fun p hp => ⟨fun hi => ?_, (g2.block p.1 (lt_of (h4 p hp).2.1) (h4 p hp).1).trans (h4 p hp).2.1, (h4 p hp).2.2⟩⟩
  · rcases g3 i hi with h | h
    · exact h3 i h
    · exact Or.inr (Nat.le_trans h2.size h)
  · rcases g3 _ hi with h | h
    · exact (h4 p hp).1 h
    · have := lt_of (h4 p hp).2.1; omega
theorem Mid.left (hJ : Res J) (h : Mid (Sep I J) w wr F L) : ∃ A, I wr A ∧ ∀ w', Goes I' wr w' A → Mid (Sep I' J) w w' F L := by
  obtain ⟨A, h1, h2⟩ := h.call (I' := Sep I' J)
  obtain ⟨A', h3, h4⟩ := h1.left (I' := I') hJ
  exact ⟨A', h3, fun w' hg => h2 w' (h4 w' hg)⟩
theorem Mid.right (hJ : Res J) (h : Mid (Sep J I) w wr F L) : ∃ A, I wr A ∧ ∀ w', Goes I' wr w' A → Mid (Sep J I') w w' F L := by
  obtain ⟨A, h1, h2⟩ := h.call (I' := Sep J I')
  obtain ⟨A', h3, h4⟩ := h1.swap.left (I' := I') hJ
  exact ⟨A', h3, fun w' hg => h2 w' (h4 w' hg).swap⟩

/-- the same, where the call hands back a block of its own, too -/
theorem Mid.leftRow (hJ : Res J) (hF : ∀ i, F i → i < w.heap.size) (h : Mid (Sep I J) w wr F L) : ∃ A, I wr A ∧ ∀ (w' : World) (A' : Nat → Prop) (L1 : List (Nat × Obj)), I' w' A' → Turn A wr w' → (∀ i, A' i → A i ∨ wr.heap.size ≤ i) → (∀ p ∈ L1, ¬ A' p.1 ∧ w'.heap[p.1]? = some p.2 ∧ wr.heap.size ≤ p.1) → Mid (Sep I' J) w w' F (L1 ++ L) := by
  obtain ⟨F', ⟨A, B, i1, i2, i3, i4, i5, i6⟩, h2, h3, h4⟩ := h
  refine ⟨A, i1, fun w' A' L1 k1 k2 k3 k4 => ?_⟩
  have hBl : ∀ i, B i → i < wr.heap.size := fun i hi => hJ.lt i2 i hi
  refine ⟨fun i => A' i ∨ B i, ⟨A', B, k1, hJ.kept i2 k2 (fun i hi hA => i3 i hA hi), fun i hi hB => ?_, fun _ hi => Or.inl hi, fun _ hi => Or.inr hi, fun _ hi => hi⟩, h2.transNew k2 (fun i hi => h3 i (i4 i hi)), fun i hi => ?_, fun p hp => ?_⟩
  · rcases k3 i hi with h | h
    · exact i3 i h hB
    · have := hBl i hB; omega
  · rcases hi with hi | hi
    · rcases k3 i hi with h | h
      · exact h3 i (i4 i h)
      · exact Or.inr (Nat.le_trans h2.size h)
    · exact h3 i (i5 i hi)
  · rcases List.mem_append.1 hp with hp | hp
    · obtain ⟨e1, e2, e3⟩ := k4 p hp
      refine ⟨fun hi => ?_, e2, Nat.le_trans h2.size e3, fun hi => ?_⟩
      · rcases hi with hi | hi
        · exact e1 hi
        · have := hBl _ hi; omega
      · have := hF _ hi; have := h2.size; omega
    · obtain ⟨e1, e2, e3, e4⟩ := h4 p hp
      refine ⟨fun hi => ?_, (k2.block p.1 (lt_of e2) (fun hA => e1 (i4 _ hA))).trans e2, e3, e4⟩
      rcases hi with hi | hi
      · rcases k3 _ hi with h | h
        · exact e1 (i4 _ h)
        · have := lt_of e2; omega
      · exact e1 (i5 _ hi)
theorem Mid.swap (h : Mid (Sep I J) w wr F L) : Mid (Sep J I) w wr F L := by
  obtain ⟨F', h1, h2⟩ := h
  exact ⟨F', h1.swap, h2⟩

/-- a block beside the objects is written -/
theorem Mid.write (R : Res I) (h : Mid I w wr F L) {b : Nat} {o : Obj} (hb : (b, o) ∈ L) (ht : Turn (fun i => i = b) wr w') : Mid I w w' F [] := by
  obtain ⟨F', h1, h2, h3, h4⟩ := h
  obtain ⟨e1, e2, e3, e4⟩ := h4 _ hb
  exact ⟨F', R.kept h1 ht (fun j hj e => e1 (by rw [e] at hj; exact hj)), h2.transNew ht (fun i hi => Or.inr (by rw [hi]; exact e3)), h3, fun _ h => by cases h⟩
end

/-- a row of numbers that a call has told, in L1 its block if it has one -/
def RowL (L1 : List (Nat × Obj)) (v : Value) (X : List Int) : Prop :=
  (L1 = [] ∧ v = .slice none 0 0 ∧ X = []) ∨ ∃ b cap cur, v = .slice (some ⟨b, 0, none⟩) X.length cap ∧ L1 = [(b, .cells cur 3 (0, 0))] ∧ cur.size = cap ∧ X.length ≤ cap ∧ cap ≤ maxLen ∧ cur.toList.take X.length = icells X

theorem RowL.of {w : World} {base n : Nat} {v : Value} {X : List Int} (h : w.ownsRow base 3 1 v n (icells X)) : ∃ L1, RowL L1 v X ∧ ∀ p ∈ L1, v.ownBlock = some p.1 ∧ w.heap[p.1]? = some p.2 ∧ base ≤ p.1 := by
  have hn : X.length = n := by have := h.1; rw [icells_length] at this; omega
  subst hn
  rcases h.2 with ⟨rfl, h0⟩ | ⟨b, cap, cur, rfl, hb, hg, hnc, hcm, hs, ht⟩
  · exact ⟨[], Or.inl ⟨rfl, rfl, List.eq_nil_of_length_eq_zero h0⟩, fun _ h => by cases h⟩
  · refine ⟨[(b, .cells cur 3 (0, 0))], Or.inr ⟨b, cap, cur, rfl, rfl, by omega, hnc, hcm, by rw [Nat.mul_one] at ht; exact ht⟩, fun p hp => ?_⟩
    rw [List.mem_singleton.1 hp]
    exact ⟨rfl, hg, hb⟩

/-- the numbers of such a row, read in w -/
def NumsAt (w : World) (v : Value) (X : List Int) : Prop := ∃ a c, v = .slice a X.length c ∧ X.length ≤ c ∧ c ≤ maxLen ∧ (X ≠ [] → ∃ b, a = some ⟨b, 0, none⟩ ∧ ∀ i, (h : i < X.length) → w.cell? ⟨b, i, none⟩ = some (.int .i64 X[i]))

theorem RowL.nums {w : World} {L1 : List (Nat × Obj)} {v : Value} {X : List Int} (h : RowL L1 v X) (hw : ∀ p ∈ L1, w.heap[p.1]? = some p.2) : NumsAt w v X := by
  rcases h with ⟨_, rfl, rfl⟩ | ⟨b, cap, cur, rfl, rfl, hs, hx, hc, ht⟩
  · exact ⟨none, 0, rfl, Nat.le_refl _, Nat.zero_le _, fun h => absurd rfl h⟩
  · refine ⟨_, cap, rfl, hx, hc, fun _ => ⟨b, rfl, fun i hi => ?_⟩⟩
    rw [cell_of (hw _ (List.mem_singleton.2 rfl)), ← Array.getElem?_toList, ← List.getElem?_take_of_lt (i := i) (j := X.length) hi, ht, icells_get hi]

set_option maxRecDepth 100000 in
set_option maxHeartbeats 1000000 in
theorem same_ints {w : World} {v1 v2 : Value} {X : List Int} (h1 : NumsAt w v1 X) (h2 : NumsAt w v2 X) : Calls Try.prog 25 #[v1, v2] w fun e w' => e = .returned (.bool true) ∧ ∃ n, w' = w.drewN n := by
  obtain ⟨a1, c1, rfl, l1, k1, g1⟩ := h1
  obtain ⟨a2, c2, rfl, -, -, g2⟩ := h2
  have HG1 : Hid (X ≠ [] → ∃ b, a1 = some ⟨b, 0, none⟩ ∧ ∀ i, (h : i < X.length) → w.cell? ⟨b, i, none⟩ = some (.int .i64 X[i])) := g1
  have HG2 : Hid (X ≠ [] → ∃ b, a2 = some ⟨b, 0, none⟩ ∧ ∀ i, (h : i < X.length) → w.cell? ⟨b, i, none⟩ = some (.int .i64 X[i])) := g2
  unfold maxLen at k1
  obtain ⟨n, hn⟩ : ∃ n, X.length = n := ⟨_, rfl⟩
  have HN : Hid (X.length = n) := hn
  rw [hn] at l1 ⊢
  clear g1 g2 hn
  go_enter Try.func25, Try.ntmps25
  go_wp2_with fail
  go_loopw [5] (fun i wr => ∃ (k q : Nat), k ≤ n ∧ i = .int .i64 k ∧ Hid (wr = w.drewN q)) (fun i _ => n - (intOf i).toNat)
  case atStart => exact ⟨0, 0, Nat.zero_le _, rfl, (rfl : w = w.drewN 0)⟩
  case round =>
    obtain ⟨k, q, hk, rfl, HW⟩ := hrel
    by_cases hlt : k < n
    · have hlI : (k : Int) < (n : Int) := by omega
      have hlX : k < X.length := by rw [HN.out]; exact hlt
      have hne : X ≠ [] := fun e => by rw [e] at hlX; simp at hlX
      obtain ⟨b1, rfl, d1⟩ := HG1.out hne
      obtain ⟨b2, rfl, d2⟩ := HG2.out hne
      obtain ⟨x, hx⟩ : ∃ x, X[k] = x := ⟨_, rfl⟩
      have q1 : wr.cell? ⟨b1, k, none⟩ = some (.int .i64 x) := by rw [HW.out, ← hx]; exact d1 k hlX
      have q2 : wr.cell? ⟨b2, k, none⟩ = some (.int .i64 x) := by rw [HW.out, ← hx]; exact d2 k hlX
      clear d1 d2 hx hne hlX
      go_wp2_with fail
      go_quiet (fail)
      go_wp2_with fail
      go_roundw
      case rel => exact ⟨k + 1, q + nq, by omega, by go_num, (by rw [HW.out, World.drewN_drewN] : _ = _)⟩
      case measure => simp [intOf]; omega
    · have hlI : ¬ (k : Int) < (n : Int) := by omega
      go_wp2_with fail
      go_ret
      exact ⟨rfl, q, HW.out⟩

set_option maxRecDepth 100000 in
set_option maxHeartbeats 1000000 in
theorem spoil_row {w : World} {b n cap : Nat} {cur : Array Value} {t : TypeId} (mark : Int) (hb : w.heap[b]? = some (.cells cur t (0, 0))) (hs : cur.size = cap) (hc : cap ≤ maxLen) : Calls Try.prog 27 #[.slice (some ⟨b, 0, none⟩) n cap, .int .i64 mark] w fun e w' => e = .returned (.tuple #[]) ∧ Turn (fun i => i = b) w w' := by
  unfold maxLen at hc
  have HB : Hid (w.heap[b]? = some (.cells cur t (0, 0))) := hb
  have HS : Hid (cur.size = cap) := hs
  clear hb hs
  go_enter Try.func27, Try.ntmps27
  go_wp2_with fail
  go_loopw [4] (fun i wr => ∃ (k : Nat) (cur' : Array Value), k ≤ cap ∧ i = .int .i64 k ∧ Hid (wr.heap[b]? = some (.cells cur' t (0, 0))) ∧ Hid (cur'.size = cap) ∧ Hid (Turn (fun i => i = b) w wr)) (fun i _ => cap - (intOf i).toNat)
  case atStart => exact ⟨0, cur, Nat.zero_le _, rfl, HB, HS, Turn.refl _ _⟩
  case round =>
    obtain ⟨k, cur', hk, rfl, HB', HS', HT⟩ := hrel
    by_cases hlt : k < cap
    · have hlI : (k : Int) < (cap : Int) := by omega
      have hlc : k < cur'.size := by rw [HS'.out]; exact hlt
      have q1 : wr.cell? ⟨b, k, none⟩ = some cur'[k] := by rw [cell_of HB'.out, Array.getElem?_eq_getElem hlc]
      have f1 : wr.frozen? ⟨b, k, none⟩ = false := frozen_of HB'.out _
      have HB2 : Hid ((wr.setCell ⟨b, k, none⟩ (.int .i64 mark)).heap[b]? = some (.cells (cur'.setIfInBounds k (.int .i64 mark)) t (0, 0))) := heap_setCell_same HB'.out k _
      have HS2 : Hid ((cur'.setIfInBounds k (.int .i64 mark)).size = cap) := (by rw [Array.size_setIfInBounds, HS'.out] : _ = _)
      have HT2 : Hid (Turn (fun i => i = b) w (wr.setCell ⟨b, k, none⟩ (.int .i64 mark))) := HT.out.trans (Turn.setCell wr ⟨b, k, none⟩ _ rfl)
      obtain ⟨z, hz⟩ : ∃ z, cur'[k] = z := ⟨_, rfl⟩
      rw [hz] at q1
      clear hz hlc
      go_wp2_with fail
      go_roundw
      case rel => exact ⟨k + 1, _, by omega, by go_num, HB2, HS2, HT2⟩
      case measure => simp [intOf]; omega
    · have hlI : ¬ (k : Int) < (cap : Int) := by omega
      go_wp2_with fail
      go_end0
      exact ⟨rfl, HT.out⟩

set_option maxRecDepth 100000 in
theorem spoil_nil (w : World) (mark : Int) : Calls Try.prog 27 #[.slice none 0 0, .int .i64 mark] w fun e w' => e = .returned (.tuple #[]) ∧ w' = w := by
  go_enter Try.func27, Try.ntmps27
  go_wp2_with fail
  go_loopw [4] (fun i wr => i = .int .i64 0 ∧ wr = w) (fun _ _ => 0)
  case atStart => exact ⟨rfl, rfl⟩
  case round =>
    obtain ⟨rfl, hwq⟩ := hrel
    subst hwq
    go_wp2_with fail
    go_end0
    exact ⟨rfl, rfl⟩

end Go.Proofs.Ytonblbopfbjiaaa
