/- mess: the reader's lists, indexes and whole schemas. -/
import Derived.Test.YtnboanlhdllhnaaGreatZRd
import Derived.Test.YtnboanlhdllhnaaGreatZCat
namespace Go.Proofs.YtnboanlhdllhnaaGreat
open Go.RowKit

/-- what a reader of lists answers: a slice of its own -/
def ListR {α : Type} (en : α → List Value) (m : Nat) (T : TypeId) (b : Nat) (w : World) (p : List α × St) (e : Ending) (w' : World) : Prop :=
  ∃ a n c, e = .returned (.slice a n c) ∧ Hid (n = p.1.length ∧ RdI b p.2 w' ∧ At1 b w w' ∧ w'.ownsRow w.heap.size T m (.slice a n c) n (flat en p.1))

theorem make_ints (n : Nat) (hn : n ≤ 100000) (w : World) : (Instr.makeSlice 62 (.int .i64 (n : Int)) (.int .i64 (n : Int))).run Tryz.prog w = .ok (.slice (some ⟨w.heap.size, 0, none⟩) n n) (w.alloc (.cells (flat enI (List.replicate n 0)).toArray 3)) :=
  make_rows (en := enI) (m := 1) (fun _ => rfl) (by decide) 0 62 3 8 (.int .i64 0) rfl Tryz.underlying62 infoInt_parts n hn (by decide) w

theorem setI_heap {U : World} {p j : Nat} {K : List Int} (h : U.heap[p]? = some (.cells (flat enI K).toArray 3 (0, 0))) (hj : j < K.length) (k : Int) :
    (U.setCell ⟨p, j, none⟩ (.int .i64 k)).heap[p]? = some (.cells (flat enI (K.set j k)).toArray 3 (0, 0)) := by
  have h1 := heap_setCell_same h j (.int .i64 k)
  rw [h1]
  have e1 := flat_set (en := enI) (m := 1) (fun _ => rfl) K j hj 0 (.int .i64 k) k (by omega) rfl
  simp only [List.setIfInBounds_toArray]
  rw [show 1 * j + 0 = j by omega] at e1
  rw [e1]

section
variable {b : Nat} {s : St} {w : World}

set_option maxRecDepth 100000 in
set_option maxHeartbeats 1000000 in
theorem rlistN_any (h : RdI b s w) (hr : s.1.length ≤ 1000000) :
    Calls Tryz.prog 156 #[.pointer (some ⟨b, 0, none⟩), .func (.func 78) #[.pointer (some ⟨b, 0, none⟩)] #[]] w (ListR enI 1 3 b w (rL rN s)) := by
  have hbl := lt_of h
  have H1 : Hid (Calls Tryz.prog 78 #[.pointer (some ⟨b, 0, none⟩)] w fun e w' => e = .returned (.int .i64 (rN s).1) ∧ Hid (RdI b (rN s).2 w' ∧ At1 b w w')) := rnumber_any h hr
  have H2 : Hid (∀ w1, RdI b (rN s).2 w1 ∧ At1 b w w1 → Calls Tryz.prog 130 #[.pointer (some ⟨b, 0, none⟩)] w1 fun e w' => e = .returned (.tuple #[]) ∧ Hid (RdI b ([], true) w' ∧ At1 b w w')) := fun w1 hu =>
    (rfail_any hu.1).mono fun e w' ⟨e1, e2, e3⟩ => ⟨e1, e2, hu.2.trans e3⟩
  have q1 := Nat.le_trans (less_num s) hr
  have H3 : Hid (∀ u j, RdI b (rRep rN j (rN s).2).2 u → Calls Tryz.prog 78 #[.pointer (some ⟨b, 0, none⟩)] u fun e w' => e = .returned (.int .i64 (rN (rRep rN j (rN s).2).2).1) ∧ Hid (RdI b (rRep rN (j + 1) (rN s).2).2 w' ∧ At1 b u w')) := fun u j hu => by
    have := rnumber_any hu (Nat.le_trans (less_rep less_num j _) q1)
    rw [rRep_next]
    exact this
  obtain ⟨n, hn⟩ : ∃ n, (rN s).1 = n := ⟨_, rfl⟩
  have HN : Hid ((rN s).1 = n) := hn
  rw [hn] at H1
  clear h hn
  by_cases hc : 0 ≤ n ∧ n ≤ 4096
  · obtain ⟨c1, c2⟩ := hc
    obtain ⟨N, rfl⟩ := Int.eq_ofNat_of_zero_le c1
    have hm := fun u => make_ints N (by omega) u
    obtain ⟨K, hK⟩ : ∃ K, (rRep rN N (rN s).2).1 = K := ⟨_, rfl⟩
    have HK : Hid (rL rN s = (K, (rRep rN N (rN s).2).2)) := by
      show _ = _
      unfold rL
      rw [HN.out, if_pos ⟨c1, c2⟩, show ((N : Int)).toNat = N from rfl, ← hK]
    have HKl : Hid (K.length = N) := by show _ = _; rw [← hK]; exact rRep_length _ _ _
    have HKa : Hid (∀ j, j < N → K[j]? = some (rN (rRep rN j (rN s).2).2).1) := fun j hj => by rw [← hK]; exact rRep_at _ _ _ _ hj
    have k1 : ¬ ((N : Int) < 0) := by omega
    have k2 : ¬ ((4096 : Int) < (N : Int)) := by omega
    clear hK
    go_enter Tryz.func156, Tryz.ntmps156
    go_wp2_with (go_at_call 78; go_must (refine H1.out.mono ?_; rintro e w1 ⟨rfl, K1⟩))
    obtain ⟨g, hg⟩ : ∃ g, w1.heap.size = g := ⟨_, rfl⟩
    obtain ⟨wA, hwA⟩ : ∃ wA, w1.alloc (.cells (flat enI (List.replicate N 0)).toArray 3) = wA := ⟨_, rfl⟩
    have HA : Hid (RdI b (rN s).2 wA ∧ At1 b w wA ∧ wA.heap[g]? = some (.cells (flat enI (List.replicate N 0)).toArray 3 (0, 0)) ∧ w.heap.size ≤ g) := by
      rw [← hwA, ← hg]
      exact ⟨K1.out.1.below ((Below.refl _ w1).alloc (Nat.le_refl _) _), K1.out.2.trans (Turn.alloc w1 _), heap_new w1 _, K1.out.2.size⟩
    rw [hg, hwA]
    clear hm hg hwA K1
    go_loopw [22] (fun v wr => ∃ j : Nat, j ≤ N ∧ v = .int .i64 j ∧ Hid (RdI b (rRep rN j (rN s).2).2 wr ∧ At1 b w wr ∧ wr.heap[g]? = some (.cells (flat enI (partG 0 K j)).toArray 3 (0, 0)) ∧ w.heap.size ≤ g)) (fun v _ => N - (intOf v).toNat)
    case atStart => exact ⟨0, Nat.zero_le _, rfl, (by rw [partG_zero, HKl.out]; exact HA.out)⟩
    case round =>
      clear HA
      obtain ⟨j, hj, rfl, HQ⟩ := hrel
      by_cases hlt : j < N
      · have hlI : (j : Int) < (N : Int) := by omega
        have hjl : j < K.length := by rw [HKl.out]; exact hlt
        have H4 : Hid (Calls Tryz.prog 78 #[.pointer (some ⟨b, 0, none⟩)] wr fun e w' => e = .returned (.int .i64 (rN (rRep rN j (rN s).2).2).1) ∧ Hid (RdI b (rRep rN (j + 1) (rN s).2).2 w' ∧ At1 b wr w')) := H3.out wr j HQ.out.1
        have HKj := HKa.out j hlt
        obtain ⟨x, hx⟩ : ∃ x, (rN (rRep rN j (rN s).2).2).1 = x := ⟨_, rfl⟩
        rw [hx] at H4 HKj
        have HKx : Hid (K[j]? = some x) := HKj
        have HF : Hid (∀ u, At1 b wr u → u.heap[g]? = some (.cells (flat enI (partG 0 K j)).toArray 3 (0, 0))) := fun u hu => (hu.block g (lt_of HQ.out.2.2.1) (by have := HQ.out.2.2.2; omega)).trans HQ.out.2.2.1
        have HF2 : Hid (∀ u, At1 b wr u → u.cell? ⟨g, j, none⟩ = some (.int .i64 0) ∧ u.frozen? ⟨g, j, none⟩ = false) := fun u hu => by
          have c := HF.out u hu
          have c2 := rows_at (en := enI) (m := 1) (fun _ => rfl) c (partG_at hjl) (i := 0) rfl
          rw [show j * 1 + 0 = j by omega] at c2
          exact ⟨c2, frozen_of c _⟩
        clear HKj hx hjl
        go_wp2_with (go_at_call 78; go_must (refine H4.out.mono ?_; rintro e w2 ⟨rfl, K2⟩; obtain ⟨v1, v2⟩ := HF2.out _ K2.out.2))
        go_roundw
        case rel =>
          refine ⟨j + 1, by omega, by go_num, ?_⟩
          have hjl : j < K.length := by rw [HKl.out]; exact hlt
          have ht : Turn (fun i => i = g) w2 (w2.setCell ⟨g, j, none⟩ (.int .i64 x)) := Turn.setCell (S := fun i => i = g) w2 ⟨g, j, none⟩ _ rfl
          have hgb : g ≠ b := by have := HQ.out.2.2.2; omega
          refine ⟨(ht.block b (lt_of K2.out.1) (Ne.symm hgb)).trans K2.out.1, (HQ.out.2.1.trans K2.out.2).transNew ht (fun i hi => Or.inr (by have := HQ.out.2.2.2; omega)), ?_, HQ.out.2.2.2⟩
          have hs := setI_heap (HF.out _ K2.out.2) (j := j) (by rw [partG_length (by omega)]; exact hjl) x
          have hxk : x = K[j] := by have := HKx.out; rw [List.getElem?_eq_getElem hjl] at this; exact (Option.some.inj this).symm
          rw [hxk, partG_next hjl] at hs
          rw [hxk]
          exact hs
        case measure => simp [intOf]; omega
      · have hlI : ¬ (j : Int) < (N : Int) := by omega
        go_wp2
        go_ret
        show ListR _ _ _ _ _ _ _ _
        rw [HK.out]
        obtain ⟨g1, g2, g3, g4⟩ := HQ.out
        have hjN : j = N := by omega
        rw [hjN] at g1
        have e := HKl.out
        rw [hjN, ← e, partG_all] at g3
        refine ⟨_, _, _, rfl, e.symm, g1, g2, ?_⟩
        exact row_made (en := enI) (m := 1) (fun _ => rfl) e (by omega) g3 g4
  · have HK : Hid (rL rN s = ([], ([], true))) := by
      show _ = _
      unfold rL
      rw [HN.out, if_neg hc]
    by_cases h0 : n < 0
    · go_enter Tryz.func156, Tryz.ntmps156
      go_wp2_with (first
        | (go_at_call 78; go_must (refine H1.out.mono ?_; rintro e w1 ⟨rfl, K1⟩))
        | (go_at_call 130; go_must (refine (H2.out _ K1.out).mono ?_; rintro e w2 ⟨rfl, K2⟩)))
      go_ret
      show ListR _ _ _ _ _ _ _ _
      rw [HK.out]
      exact ⟨none, 0, 0, rfl, rfl, K2.out.1, K2.out.2, World.ownsRow_nil _ _ _ _⟩
    · have h1 : (4096 : Int) < n := by omega
      go_enter Tryz.func156, Tryz.ntmps156
      go_wp2_with (first
        | (go_at_call 78; go_must (refine H1.out.mono ?_; rintro e w1 ⟨rfl, K1⟩))
        | (go_at_call 130; go_must (refine (H2.out _ K1.out).mono ?_; rintro e w2 ⟨rfl, K2⟩)))
      go_ret
      show ListR _ _ _ _ _ _ _ _
      rw [HK.out]
      exact ⟨none, 0, 0, rfl, rfl, K2.out.1, K2.out.2, World.ownsRow_nil _ _ _ _⟩

set_option maxRecDepth 100000 in
set_option maxHeartbeats 1000000 in
theorem rlistC_any (h : RdI b s w) (hr : s.1.length ≤ 1000000) :
    Calls Tryz.prog 147 #[.pointer (some ⟨b, 0, none⟩), .func (.func 148) #[.pointer (some ⟨b, 0, none⟩)] #[]] w (ListR enC 2 70 b w (rL rC s)) := by
  have hbl := lt_of h
  have H1 : Hid (Calls Tryz.prog 78 #[.pointer (some ⟨b, 0, none⟩)] w fun e w' => e = .returned (.int .i64 (rN s).1) ∧ Hid (RdI b (rN s).2 w' ∧ At1 b w w')) := rnumber_any h hr
  have H2 : Hid (∀ w1, RdI b (rN s).2 w1 ∧ At1 b w w1 → Calls Tryz.prog 130 #[.pointer (some ⟨b, 0, none⟩)] w1 fun e w' => e = .returned (.tuple #[]) ∧ Hid (RdI b ([], true) w' ∧ At1 b w w')) := fun w1 hu =>
    (rfail_any hu.1).mono fun e w' ⟨e1, e2, e3⟩ => ⟨e1, e2, hu.2.trans e3⟩
  have q1 := Nat.le_trans (less_num s) hr
  have H3 : Hid (∀ u j, RdI b (rRep rC j (rN s).2).2 u → Calls Tryz.prog 148 #[.pointer (some ⟨b, 0, none⟩)] u fun e w' => e = .returned (.agg #[.string (rC (rRep rC j (rN s).2).2).1.1, .int .i64 (rC (rRep rC j (rN s).2).2).1.2]) ∧ Hid (RdI b (rRep rC (j + 1) (rN s).2).2 w' ∧ At1 b u w')) := fun u j hu => by
    have := rcolumn_any hu (Nat.le_trans (less_rep less_col j _) q1)
    rw [rRep_next]
    exact this
  obtain ⟨n, hn⟩ : ∃ n, (rN s).1 = n := ⟨_, rfl⟩
  have HN : Hid ((rN s).1 = n) := hn
  rw [hn] at H1
  clear h hn
  by_cases hc : 0 ≤ n ∧ n ≤ 4096
  · obtain ⟨c1, c2⟩ := hc
    obtain ⟨N, rfl⟩ := Int.eq_ofNat_of_zero_le c1
    have hm := fun u => make_cols N (by omega) u
    obtain ⟨K, hK⟩ : ∃ K, (rRep rC N (rN s).2).1 = K := ⟨_, rfl⟩
    have HK : Hid (rL rC s = (K, (rRep rC N (rN s).2).2)) := by
      show _ = _
      unfold rL
      rw [HN.out, if_pos ⟨c1, c2⟩, show ((N : Int)).toNat = N from rfl, ← hK]
    have HKl : Hid (K.length = N) := by show _ = _; rw [← hK]; exact rRep_length _ _ _
    have HKa : Hid (∀ j, j < N → K[j]? = some (rC (rRep rC j (rN s).2).2).1) := fun j hj => by rw [← hK]; exact rRep_at _ _ _ _ hj
    have k1 : ¬ ((N : Int) < 0) := by omega
    have k2 : ¬ ((4096 : Int) < (N : Int)) := by omega
    clear hK
    go_enter Tryz.func147, Tryz.ntmps147
    go_wp2_with (go_at_call 78; go_must (refine H1.out.mono ?_; rintro e w1 ⟨rfl, K1⟩))
    obtain ⟨g, hg⟩ : ∃ g, w1.heap.size = g := ⟨_, rfl⟩
    obtain ⟨wA, hwA⟩ : ∃ wA, w1.alloc (.cells (flat enC (List.replicate N noCol)).toArray 70) = wA := ⟨_, rfl⟩
    have HA : Hid (RdI b (rN s).2 wA ∧ At1 b w wA ∧ wA.heap[g]? = some (.cells (flat enC (List.replicate N noCol)).toArray 70 (0, 0)) ∧ w.heap.size ≤ g) := by
      rw [← hwA, ← hg]
      exact ⟨K1.out.1.below ((Below.refl _ w1).alloc (Nat.le_refl _) _), K1.out.2.trans (Turn.alloc w1 _), heap_new w1 _, K1.out.2.size⟩
    rw [hg, hwA]
    clear hm hg hwA K1
    go_loopw [22] (fun v wr => ∃ j : Nat, j ≤ N ∧ v = .int .i64 j ∧ Hid (RdI b (rRep rC j (rN s).2).2 wr ∧ At1 b w wr ∧ wr.heap[g]? = some (.cells (flat enC (partG noCol K j)).toArray 70 (0, 0)) ∧ w.heap.size ≤ g)) (fun v _ => N - (intOf v).toNat)
    case atStart => exact ⟨0, Nat.zero_le _, rfl, (by rw [partG_zero, HKl.out]; exact HA.out)⟩
    case round =>
      clear HA
      obtain ⟨j, hj, rfl, HQ⟩ := hrel
      by_cases hlt : j < N
      · have hlI : (j : Int) < (N : Int) := by omega
        have hjl : j < K.length := by rw [HKl.out]; exact hlt
        have H4 : Hid (Calls Tryz.prog 148 #[.pointer (some ⟨b, 0, none⟩)] wr fun e w' => e = .returned (.agg #[.string (rC (rRep rC j (rN s).2).2).1.1, .int .i64 (rC (rRep rC j (rN s).2).2).1.2]) ∧ Hid (RdI b (rRep rC (j + 1) (rN s).2).2 w' ∧ At1 b wr w')) := H3.out wr j HQ.out.1
        have HKj := HKa.out j hlt
        obtain ⟨⟨x, k⟩, hx⟩ : ∃ x, (rC (rRep rC j (rN s).2).2).1 = x := ⟨_, rfl⟩
        rw [hx] at H4 HKj
        dsimp only at H4
        have HKx : Hid (K[j]? = some (x, k)) := HKj
        have HF : Hid (∀ u, At1 b wr u → u.heap[g]? = some (.cells (flat enC (partG noCol K j)).toArray 70 (0, 0))) := fun u hu => (hu.block g (lt_of HQ.out.2.2.1) (by have := HQ.out.2.2.2; omega)).trans HQ.out.2.2.1
        have HF2 : Hid (∀ u, At1 b wr u → u.cell? ⟨g, j * 2, none⟩ = some (.string ⟨#[]⟩) ∧ u.cell? ⟨g, j * 2 + 1, none⟩ = some (.int .i64 0) ∧ u.frozen? ⟨g, j * 2, none⟩ = false ∧ u.frozen? ⟨g, j * 2 + 1, none⟩ = false) := fun u hu => by
          have c := HF.out u hu
          exact ⟨rows_at (en := enC) (m := 2) (fun _ => rfl) c (partG_at hjl) (i := 0) rfl, rows_at (en := enC) (m := 2) (fun _ => rfl) c (partG_at hjl) (i := 1) rfl, frozen_of c _, frozen_of c _⟩
        have hjN2 : j * 2 + 1 < N * 2 := by omega
        clear HKj hx hjl
        go_wp2_with (go_at_call 148; go_must (refine H4.out.mono ?_; rintro e w2 ⟨rfl, K2⟩; obtain ⟨v1, v2, v3, v4⟩ := HF2.out _ K2.out.2))
        go_roundw
        case rel =>
          refine ⟨j + 1, by omega, by go_num, ?_⟩
          have hjl : j < K.length := by rw [HKl.out]; exact hlt
          have ht : Turn (fun i => i = g) w2 ((w2.setCell ⟨g, j * 2, none⟩ (.string x)).setCell ⟨g, j * 2 + 1, none⟩ (.int .i64 k)) := (Turn.setCell (S := fun i => i = g) w2 ⟨g, j * 2, none⟩ _ rfl).trans (Turn.setCell _ ⟨g, j * 2 + 1, none⟩ _ rfl)
          have hgb : g ≠ b := by have := HQ.out.2.2.2; omega
          refine ⟨(ht.block b (lt_of K2.out.1) (Ne.symm hgb)).trans K2.out.1, (HQ.out.2.1.trans K2.out.2).transNew ht (fun i hi => Or.inr (by have := HQ.out.2.2.2; omega)), ?_, HQ.out.2.2.2⟩
          have hs := setC_heap (HF.out _ K2.out.2) (j := j) (by rw [partG_length (by omega)]; exact hjl) x k
          have hxk : (x, k) = K[j] := by have := HKx.out; rw [List.getElem?_eq_getElem hjl] at this; exact (Option.some.inj this).symm
          rw [hxk, partG_next hjl] at hs
          exact hs
        case measure => simp [intOf]; omega
      · have hlI : ¬ (j : Int) < (N : Int) := by omega
        go_wp2
        go_ret
        show ListR _ _ _ _ _ _ _ _
        rw [HK.out]
        obtain ⟨g1, g2, g3, g4⟩ := HQ.out
        have hjN : j = N := by omega
        rw [hjN] at g1
        have e := HKl.out
        rw [hjN, ← e, partG_all] at g3
        refine ⟨_, _, _, rfl, e.symm, g1, g2, ?_⟩
        exact row_made (en := enC) (m := 2) (fun _ => rfl) e (by omega) g3 g4
  · have HK : Hid (rL rC s = ([], ([], true))) := by
      show _ = _
      unfold rL
      rw [HN.out, if_neg hc]
    by_cases h0 : n < 0
    · go_enter Tryz.func147, Tryz.ntmps147
      go_wp2_with (first
        | (go_at_call 78; go_must (refine H1.out.mono ?_; rintro e w1 ⟨rfl, K1⟩))
        | (go_at_call 130; go_must (refine (H2.out _ K1.out).mono ?_; rintro e w2 ⟨rfl, K2⟩)))
      go_ret
      show ListR _ _ _ _ _ _ _ _
      rw [HK.out]
      exact ⟨none, 0, 0, rfl, rfl, K2.out.1, K2.out.2, World.ownsRow_nil _ _ _ _⟩
    · have h1 : (4096 : Int) < n := by omega
      go_enter Tryz.func147, Tryz.ntmps147
      go_wp2_with (first
        | (go_at_call 78; go_must (refine H1.out.mono ?_; rintro e w1 ⟨rfl, K1⟩))
        | (go_at_call 130; go_must (refine (H2.out _ K1.out).mono ?_; rintro e w2 ⟨rfl, K2⟩)))
      go_ret
      show ListR _ _ _ _ _ _ _ _
      rw [HK.out]
      exact ⟨none, 0, 0, rfl, rfl, K2.out.1, K2.out.2, World.ownsRow_nil _ _ _ _⟩

/-- what a reader of indexes answers -/
def IxR (b : Nat) (w : World) (p : Ix × St) (e : Ending) (w' : World) : Prop :=
  ∃ a n c, e = .returned (.agg #[.string p.1.nm, .slice a n c, .bool p.1.un]) ∧ Hid (n = p.1.cs.length ∧ RdI b p.2 w' ∧ At1 b w w' ∧ w'.ownsRow w.heap.size 3 1 (.slice a n c) n (flat enI p.1.cs))

theorem own_at1 {w w' : World} {base b n m : Nat} {T : TypeId} {v : Value} {xs : List Value} (h : w.ownsRow base T m v n xs) (ht : At1 b w w') (hb : b < base) : w'.ownsRow base T m v n xs :=
  ownsRow_block h fun g hg => ht.block g (World.ownsRow.lt h g hg).2 (by have := (World.ownsRow.lt h g hg).1; omega)

abbrev ixZ : Obj := .cells #[.string ⟨#[]⟩, .slice none 0 0, .bool false] 64

set_option maxRecDepth 100000 in
set_option maxHeartbeats 1000000 in
theorem rindex_any (h : RdI b s w) (hr : s.1.length ≤ 1000000) :
    Calls Tryz.prog 150 #[.pointer (some ⟨b, 0, none⟩)] w (IxR b w (rX s)) := by
  have hbl := lt_of h
  have h0 : RdI b s (w.alloc ixZ) := h.below ((Below.refl _ w).alloc (Nat.le_refl _) _)
  have HX : Hid (∀ u, At1 b (w.alloc ixZ) u → u.heap[w.heap.size]? = some ixZ) := fun u hu => (hu.block _ (by simp) (by omega)).trans (heap_new w _)
  have q1 := Nat.le_trans (less_text s) hr
  have q2 := Nat.le_trans (less_list less_num (rT s).2) q1
  have H1 : Hid (Calls Tryz.prog 131 #[.pointer (some ⟨b, 0, none⟩)] (w.alloc ixZ) fun e w' => e = .returned (.string (rT s).1) ∧ Hid (RdI b (rT s).2 w' ∧ At1 b (w.alloc ixZ) w')) := rtext_any h0 hr
  have H2 : Hid (∀ u, RdI b (rT s).2 u ∧ At1 b (w.alloc ixZ) u → Calls Tryz.prog 156 #[.pointer (some ⟨b, 0, none⟩), .func (.func 78) #[.pointer (some ⟨b, 0, none⟩)] #[]] u fun e w' => ∃ a n c, e = .returned (.slice a n c) ∧ Hid (n = (rL rN (rT s).2).1.length ∧ RdI b (rL rN (rT s).2).2 w' ∧ At1 b (w.alloc ixZ) w' ∧ w'.ownsRow (w.heap.size + 1) 3 1 (.slice a n c) n (flat enI (rL rN (rT s).2).1))) := fun u hu =>
    (rlistN_any hu.1 q1).mono fun e w' ⟨a, n, c, e1, e2⟩ => ⟨a, n, c, e1, e2.out.1, e2.out.2.1, hu.2.trans e2.out.2.2.1, ownsRow_low e2.out.2.2.2 (by have := hu.2.size; simpa using this)⟩
  have H3 : Hid (∀ u, RdI b (rL rN (rT s).2).2 u ∧ At1 b (w.alloc ixZ) u → Calls Tryz.prog 157 #[.pointer (some ⟨b, 0, none⟩)] u fun e w' => e = .returned (.bool (rF (rL rN (rT s).2).2).1) ∧ Hid (RdI b (rX s).2 w' ∧ At1 b u w')) := fun u hu => rflag_any hu.1 q2
  obtain ⟨nm, hnm⟩ : ∃ nm, (rT s).1 = nm := ⟨_, rfl⟩
  obtain ⟨un, hun⟩ : ∃ un, (rF (rL rN (rT s).2).2).1 = un := ⟨_, rfl⟩
  obtain ⟨K, hK⟩ : ∃ K, (rL rN (rT s).2).1 = K := ⟨_, rfl⟩
  have HE : Hid ((rX s).1 = ⟨nm, K, un⟩) := by show _ = _; unfold rX; rw [hnm, hun, hK]
  rw [hnm] at H1
  rw [hun] at H3
  rw [hK] at H2
  have HC : Hid (∀ u, At1 b (w.alloc ixZ) u → u.cell? ⟨w.heap.size, 0, none⟩ = some (.string ⟨#[]⟩) ∧ u.cell? ⟨w.heap.size, 1, none⟩ = some (.slice none 0 0) ∧ u.cell? ⟨w.heap.size, 2, none⟩ = some (.bool false) ∧ u.frozen? ⟨w.heap.size, 0, none⟩ = false ∧ u.frozen? ⟨w.heap.size, 1, none⟩ = false ∧ u.frozen? ⟨w.heap.size, 2, none⟩ = false) := fun u hu => by
    have k := HX.out u hu
    exact ⟨by rw [cell_of k]; rfl, by rw [cell_of k]; rfl, by rw [cell_of k]; rfl, frozen_of k 0, frozen_of k 1, frozen_of k 2⟩
  clear h h0 hnm hun hK
  go_enter Tryz.func150, Tryz.ntmps150
  go_wp2_with (first
    | (go_at_call 131; go_must (refine H1.out.mono ?_; rintro e w1 ⟨rfl, K1⟩))
    | (go_at_call 156; go_must (refine (H2.out _ K1.out).mono ?_; rintro e w2 ⟨a, n, c, rfl, K2⟩))
    | (go_at_call 157; go_must (refine (H3.out _ ⟨K2.out.2.1, K2.out.2.2.1⟩).mono ?_; rintro e w3 ⟨rfl, K3⟩; obtain ⟨c0, c1, c2, c3, c4, c5⟩ := HC.out _ (K2.out.2.2.1.trans K3.out.2))))
  have ha3 : At1 b (w.alloc ixZ) w3 := K2.out.2.2.1.trans K3.out.2
  have hk := HX.out w3 ha3
  have i0 : (w3.setCell ⟨w.heap.size, 0, none⟩ (.string nm)).cell? ⟨w.heap.size, 0, none⟩ = some (.string nm) := by rw [cell_of (heap_setCell_same hk 0 _)]; rfl
  have i1 : ∀ x, ((w3.setCell ⟨w.heap.size, 0, none⟩ x).setCell ⟨w.heap.size, 1, none⟩ (.slice a n c)).cell? ⟨w.heap.size, 1, none⟩ = some (.slice a n c) := fun x => by rw [cell_of (heap_setCell_same (heap_setCell_same hk 0 _) 1 _)]; rfl
  have i2 : ∀ x y, (((w3.setCell ⟨w.heap.size, 0, none⟩ x).setCell ⟨w.heap.size, 1, none⟩ y).setCell ⟨w.heap.size, 2, none⟩ (.bool un)).cell? ⟨w.heap.size, 2, none⟩ = some (.bool un) := fun x y => by rw [cell_of (heap_setCell_same (heap_setCell_same (heap_setCell_same hk 0 _) 1 _) 2 _)]; rfl
  refine bodyPost_ret (by simp [results, Tryz.results150, go_sem, i0, i1, i2]; rfl) rfl ?_
  have ht : Turn (fun i => i = w.heap.size) w3 (((w3.setCell ⟨w.heap.size, 0, none⟩ (.string nm)).setCell ⟨w.heap.size, 1, none⟩ (.slice a n c)).setCell ⟨w.heap.size, 2, none⟩ (.bool un)) := ((Turn.setCell (S := fun i => i = w.heap.size) w3 ⟨w.heap.size, 0, none⟩ _ rfl).trans (Turn.setCell _ ⟨w.heap.size, 1, none⟩ _ rfl)).trans (Turn.setCell _ ⟨w.heap.size, 2, none⟩ _ rfl)
  show IxR _ _ _ _ _
  unfold IxR
  rw [HE.out]
  have hrow := own_at1 K2.out.2.2.2 K3.out.2 (by omega)
  refine ⟨a, n, c, rfl, K2.out.1, (ht.block b (lt_of K3.out.1) (by omega)).trans K3.out.1, ((Turn.alloc w _).trans ha3).transNew ht (fun i hi => Or.inr (by omega)), ?_⟩
  exact ownsRow_low (ownsRow_block hrow fun g hg => ht.block g (World.ownsRow.lt hrow g hg).2 (by have := (World.ownsRow.lt hrow g hg).1; omega)) (by omega)

end

end Go.Proofs.YtnboanlhdllhnaaGreat
