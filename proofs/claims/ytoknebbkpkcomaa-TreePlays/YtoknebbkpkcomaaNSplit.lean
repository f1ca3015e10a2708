/- The program's Split. -/
import Derived.Test.YtoknebbkpkcomaaNPair
namespace Go.Proofs.Ytoknebbkpkcomaa
open Go.RowKit

section
variable {g : Nat} {n : Nd} {w : World} {F : Nat → Prop}

theorem split_few (h : NodeI g n w F) (hf : n.ks.length < 2) : Calls Try.prog 53 #[.pointer (some ⟨g, 0, none⟩)] w fun e w' => e = .returned (.tuple #[.pointer none, .string ⟨#[]⟩, .int .i64 4]) ∧ w' = w := by
  have c0 := h.cells.c0
  obtain ⟨V, hV⟩ : ∃ V, n.word = V := ⟨_, rfl⟩
  obtain ⟨N, hN⟩ : ∃ N, n.ks.length = N := ⟨_, rfl⟩
  have HU : Hid (∀ u : World, Calls Try.prog 60 #[.int .u64 V] u fun e w' => e = .returned (.int .i64 (N : Int)) ∧ w' = u) := fun u => by
    have := usedOf_any h.ok.wd u
    rw [hV, hN] at this
    exact this
  rw [hV] at c0
  have hN2 : (N : Int) < 2 := by omega
  clear h hf hV hN
  go_enter Try.func53, Try.ntmps53
  go_wp2_with (go_at_call 60; go_must (refine (HU.out _).mono ?_; rintro e w ⟨rfl, rfl⟩))
  go_ret3
  exact ⟨rfl, rfl⟩

/-- what Split leaves -/
def SplitR (g : Nat) (n : Nd) (F : Nat → Prop) (w : World) (e : Ending) (w' : World) : Prop :=
  ∃ q p, n.ks[n.stay]? = some p ∧ e = .returned (.tuple #[.pointer (some ⟨q, 0, none⟩), .string p.1, .int .i64 0]) ∧ w.heap.size ≤ q ∧ Pair g n.left q n.right w w' F

set_option maxRecDepth 100000 in
set_option maxHeartbeats 2000000 in
theorem split_ok (h : NodeI g n w F) (hf : 2 ≤ n.ks.length) (hI : 0 ≤ n.ins ∧ n.ins < 900000) (hS : 0 ≤ n.spl ∧ n.spl < 900000) : Calls Try.prog 53 #[.pointer (some ⟨g, 0, none⟩)] w (SplitR g n F w) := by
  have ho := h.ok
  have hc := h.cells
  have c0 := hc.c0
  have hfew := ho.few
  obtain ⟨N, hN⟩ : ∃ N, n.ks.length = N := ⟨_, rfl⟩
  obtain ⟨M, hM⟩ : ∃ M, n.stay = M := ⟨_, rfl⟩
  have hMN : M = N - N / 2 := by rw [← hM, ← hN]; rfl
  obtain ⟨V, hV⟩ : ∃ V, n.word = V := ⟨_, rfl⟩
  have HU : Hid (∀ u : World, Calls Try.prog 60 #[.int .u64 V] u fun e w' => e = .returned (.int .i64 (N : Int)) ∧ w' = u) := fun u => by
    have := usedOf_any ho.wd u
    rw [hV, hN] at this
    exact this
  obtain ⟨p, hp⟩ : ∃ p, n.ks[M]? = some p := ⟨_, List.getElem?_eq_getElem (by omega)⟩
  have HK0 : Hid (Calls Try.prog 61 #[.pointer (some ⟨g, 0, none⟩), .int .i64 (M : Int)] w fun e w' => e = .returned (.string p.1) ∧ ∃ m, w' = w.drewN m) := keyAt_any hc ho rfl hp
  obtain ⟨k0, hk0⟩ : ∃ k0, p.1 = k0 := ⟨_, rfl⟩
  rw [hk0] at HK0
  have HP0 : Hid (n.ks[n.stay]? = some p ∧ p.1 = k0) := ⟨by rw [hM]; exact hp, hk0⟩
  have HNew : Hid (∀ u : World, Below w.heap.size w u → Calls Try.prog 24 #[] u fun e w' => ∃ q, e = .returned (.pointer (some ⟨q, 0, none⟩)) ∧ Hid (w.heap.size ≤ q ∧ Pair g n q (rgt n 0) w w' F)) := fun u hb =>
    (new_any u).mono fun e w' ⟨q, A, h1, h2, h3, h4⟩ => ⟨q, h1, by
      have hb2 : Below w.heap.size w w' := hb.trans (h4.mono hb.size)
      refine ⟨Nat.le_trans hb.size (h3 q (h2.2 q |>.2 rfl)), ?_⟩
      rw [rgt_zero]
      exact Pair.start h h2 (fun i hi => Nat.le_trans hb.size (h3 i hi)) hb2⟩
  have HKA : Hid (∀ (n1 : Nd) (q : Nat) (r : Nd) (u : World) (j : Nat) (t : Kv), Pair g n1 q r w u F → n1.ks[j]? = some t → Calls Try.prog 61 #[.pointer (some ⟨g, 0, none⟩), .int .i64 (j : Int)] u fun e w' => e = .returned (.string t.1) ∧ ∃ m, w' = u.drewN m) := fun n1 q r u j t hP ht => by
    obtain ⟨A, hA⟩ := hP.left
    exact keyAt_any hA.cells hA.ok rfl ht
  have HN : Hid (n.ks.length = N ∧ n.stay = M ∧ n.word = V ∧ n.Ok) := ⟨hN, hM, hV, ho⟩
  have HII : Hid ((0 ≤ n.ins ∧ n.ins < 900000) ∧ (0 ≤ n.spl ∧ n.spl < 900000)) := ⟨hI, hS⟩
  rw [hV] at c0
  rw [hN] at hf hfew
  have hN2 : ¬ (N : Int) < 2 := by omega
  obtain ⟨Z, hZ⟩ : ∃ Z, N / 2 = Z := ⟨_, rfl⟩
  have hdiv : (N : Int) / 2 = (Z : Int) := by omega
  have hq2 : Int.tdiv (N : Int) 2 = (Z : Int) := by rw [Int.tdiv_eq_ediv_of_nonneg (by omega)]; omega
  rw [hZ] at hMN
  have hsub : (N : Int) - (Z : Int) = (M : Int) := by omega
  have HZ : Hid (N / 2 = Z) := hZ
  have hZN : M + Z = N := by omega
  clear h ho hc hN hM hV hp hk0 hI hS hZ hMN
  go_enter Try.func53, Try.ntmps53
  go_wp2_with (first | (go_at_call 60; go_must (refine (HU.out _).mono ?_; rintro e w ⟨rfl, rfl⟩)) | (go_at_call 61; go_must (refine HK0.out.mono ?_; rintro e w1 ⟨rfl, m1, rfl⟩)) | (go_at_call 24; go_must (refine (HNew.out _ (below_drewN w m1)).mono ?_; rintro e w2 ⟨q, rfl, HQ⟩)))
  go_loopw [7] (fun v wr => ∃ j : Nat, j ≤ Z ∧ v = .int .i64 ((M + j : Nat) : Int) ∧ Hid (Pair g n q (rgt n j) w wr F)) (fun v _ => N - (intOf v).toNat)
  case atStart => exact ⟨0, Nat.zero_le _, rfl, HQ.out.2⟩
  case round =>
    obtain ⟨j, hj, rfl, HPr⟩ := hrel
    by_cases hlt : j < Z
    · have hatI : ((M + j : Nat) : Int) < (N : Int) := by omega
      have hat : M + j < n.ks.length := by rw [HN.out.1]; omega
      obtain ⟨t, ht⟩ : ∃ t, n.ks[M + j]? = some t := ⟨_, List.getElem?_eq_getElem hat⟩
      obtain ⟨s, e1, e2, e3⟩ := slot_of HN.out.2.2.2 (j := M + j) (by omega)
      obtain ⟨A, hA⟩ := HPr.out.left
      have d0 := hA.cells.c0
      have dv := hA.cells.cv _ t ht
      rw [HN.out.2.2.1] at d0
      rw [e3] at dv
      obtain ⟨kk, hkk⟩ : ∃ kk, t.1 = kk := ⟨_, rfl⟩
      obtain ⟨vv, hvv⟩ : ∃ vv, t.2 = vv := ⟨_, rfl⟩
      have HK1 : Hid (∀ m, Calls Try.prog 61 #[.pointer (some ⟨g, 0, none⟩), .int .i64 ((M + j : Nat) : Int)] (wr.drewN m) fun e w' => e = .returned (.string kk) ∧ ∃ m', w' = (wr.drewN m).drewN m') := fun m => by
        have := HKA.out n q (rgt n j) (wr.drewN m) (M + j) t (HPr.out.stay (below_drewN wr m)) ht
        rw [hkk] at this
        exact this
      have HS1 : Hid (∀ u : World, Calls Try.prog 50 #[.int .u64 V, .int .i64 ((M + j : Nat) : Int)] u fun e w' => e = .returned (.int .i64 (s : Int)) ∧ w' = u) := fun u => by
        have := slotAt_any HN.out.2.2.2.wd (rfl : ((M + j : Nat) : Int) = (M + j : Nat)) (by omega) u
        rw [e3, HN.out.2.2.1] at this
        exact this
      have HPt : Hid (∀ W, (∃ m, W = wr.drewN m) → Calls Try.prog 35 #[.pointer (some ⟨q, 0, none⟩), .string kk, .int .i64 vv] W fun e w' => e = .returned (.tuple #[.int .i64 0, .bool false, .int .i64 0]) ∧ Hid (Pair g n q (rgt n (j + 1)) w w' F)) := by
        rintro W ⟨m, rfl⟩
        have hP2 := HPr.out.stay (below_drewN wr m)
        obtain ⟨B, hB, hB2⟩ := hP2.rightCall
        have hN' := HN.out.1
        have hM' := HN.out.2.1
        have hj2 : j < n.ks.length / 2 := by rw [hN', HZ.out]; exact hlt
        have ht2 : n.ks[n.stay + j]? = some t := by rw [hM']; exact ht
        obtain ⟨a1, a2⟩ := rgt_at HN.out.2.2.2 hj2 ht2
        have hmem := List.mem_of_getElem? ht
        have hrl := rgt_length (n := n) (j := j) (by omega)
        have := put_new hB a1 a2 (HN.out.2.2.2.short t hmem) (by omega) (HN.out.2.2.2.nums t hmem) ⟨(by show (0 : Int) ≤ j; omega), (by show (j : Int) < 1000000; omega)⟩
        rw [rgt_next HN.out.2.2.2 hj2 ht2, hkk, hvv] at this
        exact this.mono fun e w' ⟨h1, h2⟩ => ⟨h1, hB2 w' _ h2⟩
      rw [hvv] at dv
      clear hkk hvv hA ht e1 e3 hat
      go_wp2_with fail
      go_region_with (first
        | (go_at_call 61; refine (HK1.out _).mono ?_; rintro e w3 ⟨rfl, m3, rfl⟩)
        | (go_at_call 50; refine (HS1.out _).mono ?_; rintro e w3 ⟨rfl, rfl⟩)
        | (go_at_call 35; refine (HPt.out _ ?_).mono ?_; exact ⟨_, rfl⟩; rintro e w4 ⟨rfl, HP4⟩))
      all_goals (go_wp2_with fail; go_roundw; (case rel => exact ⟨j + 1, by omega, by go_num, HP4⟩); (case measure => simp [intOf]; omega))
    · have hatI : ¬ ((M + j : Nat) : Int) < (N : Int) := by omega
      obtain rfl : j = Z := by omega
      have HP1 : Hid (Pair g (lft n 0) q n.right w wr F) := by
        have := HPr.out
        rw [← HZ.out, ← HN.out.1, rgt_end] at this
        rw [lft_zero]
        exact this
      clear HPr
      go_wp2_with fail
      go_loopw [8] (fun v wr => ∃ i : Nat, i ≤ j ∧ v = .int .i64 ((N : Int) - 1 - (i : Int)) ∧ Hid (Pair g (lft n i) q n.right w wr F)) (fun v _ => (intOf v + 1).toNat)
      case atStart => exact ⟨0, Nat.zero_le _, by go_num, HP1⟩
      case round =>
        obtain ⟨i, hi, rfl, HPi⟩ := hrel
        by_cases hlt2 : i < j
        · have hI1 : (M : Int) ≤ (N : Int) - 1 - (i : Int) := by omega
          have HTk : Hid (Calls Try.prog 54 #[.pointer (some ⟨g, 0, none⟩), .int .i64 ((N : Int) - 1 - (i : Int))] wr fun e w' => ∃ y, e = .returned (.int .i64 y) ∧ Hid (Pair g (lft n (i + 1)) q n.right w w' F)) := by
            have hN' := HN.out.1
            obtain ⟨A, hA, hA2⟩ := HPi.out.leftCall
            have hb : n.ks.length - i - 1 < n.ks.length := by omega
            have ht : (lft n i).ks[n.ks.length - i - 1]? = some n.ks[n.ks.length - i - 1] := by rw [lft_get (by omega)]; exact List.getElem?_eq_getElem hb
            have hins : 0 ≤ (lft n i).ins ∧ (lft n i).ins < 1000000 := by
              have := HII.out.1
              show 0 ≤ n.ins + (i : Int) ∧ n.ins + (i : Int) < 1000000
              omega
            have := takeAt_any hA (x := (N : Int) - 1 - (i : Int)) (by omega) ht hins
            rw [lft_next HN.out.2.2.2 (by omega)] at this
            exact this.mono fun e w' ⟨h1, h2⟩ => ⟨_, h1, hA2 w' _ h2⟩
          go_wp2_with (go_at_call 54; go_must (refine HTk.out.mono ?_; rintro e w5 ⟨y, rfl, HP5⟩))
          go_roundw
          case rel => exact ⟨i + 1, by omega, by go_num, HP5⟩
          case measure => simp [intOf]; omega
        · have hI1 : ¬ (M : Int) ≤ (N : Int) - 1 - (i : Int) := by omega
          obtain rfl : i = j := by omega
          obtain ⟨A, hA, hA2⟩ := HPi.out.leftCall
          have d32 : wr.cell? ⟨g, 32, none⟩ = some (.int .i64 n.spl) := hA.cells.c32
          have f32 := hA.cells.fz 32
          obtain ⟨S, hS⟩ : ∃ S, n.spl = S := ⟨_, rfl⟩
          have HEnd : Hid (Pair g n.left q n.right w (wr.setCell ⟨g, 32, none⟩ (.int .i64 (S + 1))) F) := by
            have hg := hA.setS (I := S + 1) (by rw [← hS]; rfl)
            have := hA2 _ _ hg
            rw [← lft_end, HN.out.1, HZ.out]
            exact this
          have s0 : 0 ≤ S := by rw [← hS]; exact HII.out.2.1
          have s1 : S < 900000 := by rw [← hS]; exact HII.out.2.2
          rw [hS] at d32
          clear hA hA2 hS
          go_wp2_with fail
          go_ret3
          exact ⟨q, p, HP0.out.1, by rw [HP0.out.2]; rfl, HQ.out.1, HEnd.out⟩
end

end Go.Proofs.Ytoknebbkpkcomaa
