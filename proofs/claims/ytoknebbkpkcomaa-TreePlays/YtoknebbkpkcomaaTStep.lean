/- The law's own step: a call of both trees. -/
import Derived.Test.YtoknebbkpkcomaaTMid
import Derived.Test.YtoknebbkpkcomaaTGrown
import Derived.Test.YtoknebbkpkcomaaTArgs
namespace Go.Proofs.Ytoknebbkpkcomaa
open Go.RowKit

abbrev actO4 (S : ActV) : Obj := .cells #[.int .i64 S.kind, .string S.key, .string S.to, .int .i64 S.num] 32 (0, 0)
def StepR (t r a : Nat) (w : World) (F : Nat → Prop) (e : Ending) (w' : World) : Prop := e = .returned (.bool true) ∧ ∃ T', Goes (Sep (TreeI t T' (a + 2)) (UI r T'.ks)) w w' F

section
variable {t a r : Nat} {T : Tr} {w : World} {F : Nat → Prop} {S : ActV}
theorem act4_cells {I : World → (Nat → Prop) → Prop} {wr : World} {L : List (Nat × Obj)} {b : Nat} (h : MidS I w wr F L) (hb : (b, actO4 S) ∈ L) : wr.cell? ⟨b, 0, none⟩ = some (.int .i64 S.kind) ∧ wr.cell? ⟨b, 1, none⟩ = some (.string S.key) ∧ wr.cell? ⟨b, 2, none⟩ = some (.string S.to) ∧ wr.cell? ⟨b, 3, none⟩ = some (.int .i64 S.num) := by
  have h1 := h.at hb
  exact ⟨by rw [cell_of h1]; rfl, by rw [cell_of h1]; rfl, by rw [cell_of h1]; rfl, by rw [cell_of h1]; rfl⟩

theorem sliceAt_none {α : Type} (w : World) (n : Nat) (en : α → List Value) : SliceAt w (.slice none 0 0) n en [] := ⟨none, 0, rfl, Nat.le_refl _, Nat.zero_le _, fun h => absurd rfl h⟩

set_option maxRecDepth 100000 in
set_option maxHeartbeats 4000000 in
theorem step_put (hI : Sep (TreeI t T a) (UI r T.ks) w F) (hk : S.kind % 4 = 0) (hn : Num S.num) (ha : a ≤ 50000) : Calls Try.prog 10 #[.pointer (some ⟨t, 0, none⟩), .pointer (some ⟨r, 0, none⟩), S.agg] w (StepR t r a w F) := by
  have H1 : Hid (MidU t T a r T.ks w (w.alloc (actO4 S)) F [(w.heap.size, actO4 S)]) := MidS.alloc (midU_res _ _ _ _ _) (MidS.start hI) _
  obtain ⟨kd, x, y, n⟩ := S
  dsimp only [ActV.agg] at *
  obtain ⟨K', was, th, e0, hp⟩ := putK_ex (MidU.okT H1.out).few x n
  have HP : Hid (PutK T.ks x n K' was th e0) := hp
  have HNm : Hid (Num n) := hn
  clear hp hn
  have HA : Hid (∀ u : World, Calls Try.prog 16 #[.int .i64 kd, .int .i64 4] u fun e w' => e = .returned (.int .i64 0) ∧ w' = u) := fun u => among_to kd 4 u (by omega) (by omega) hk
  obtain ⟨W1, hW1⟩ : ∃ W1, w.alloc (actO4 ⟨kd, x, y, n⟩) = W1 := ⟨_, rfl⟩
  obtain ⟨b, hb⟩ : ∃ b, w.heap.size = b := ⟨_, rfl⟩
  rw [hW1, hb] at H1
  obtain ⟨c0, c1, c2, c3⟩ := act4_cells H1.out (List.mem_cons_self ..)
  dsimp only at c0 c1 c2 c3
  clear hI hk
  go_enter Try.func10, Try.ntmps10
  go_wp2_with fail
  refine (HA.out _).mono ?_
  rintro e w1 ⟨rfl, rfl⟩
  go_wp2_with fail
  refine (MidU.putT H1.out HP.out HNm.out ha).mono ?_
  rintro e w2 ⟨rfl, T2, H2⟩
  obtain ⟨d0, d1, d2, d3⟩ := act4_cells H2.out.2 (List.mem_cons_self ..)
  dsimp only at d0 d1 d2 d3
  go_wp2_with fail
  refine (MidU.putU H2.out.2 HP.out).mono ?_
  rintro e w3 ⟨rfl, H3⟩
  have HG : Hid (Goes (Sep (TreeI t T2 (a + 2)) (UI r T2.ks)) w w3 F) := by
    have := MidS.goes H3.out
    rw [← H2.out.1] at this
    exact this
  clear H2 H3 H1
  cases th
  all_goals
    go_wp2_with fail
    go_ret
    exact ⟨rfl, T2, HG.out⟩


set_option maxRecDepth 100000 in
set_option maxHeartbeats 4000000 in
theorem step_take (hI : Sep (TreeI t T a) (UI r T.ks) w F) (hk : S.kind % 4 = 2) (ha : a ≤ 50000) : Calls Try.prog 10 #[.pointer (some ⟨t, 0, none⟩), .pointer (some ⟨r, 0, none⟩), S.agg] w (StepR t r a w F) := by
  have H1 : Hid (MidU t T a r T.ks w (w.alloc (actO4 S)) F [(w.heap.size, actO4 S)]) := MidS.alloc (midU_res _ _ _ _ _) (MidS.start hI) _
  obtain ⟨kd, x, y, n⟩ := S
  dsimp only [ActV.agg] at *
  obtain ⟨K', was, e0, hp⟩ := takeK_ex T.ks x
  have HP : Hid (TakeK T.ks x K' was e0) := hp
  clear hp
  have HA : Hid (∀ u : World, Calls Try.prog 16 #[.int .i64 kd, .int .i64 4] u fun e w' => e = .returned (.int .i64 2) ∧ w' = u) := fun u => among_to kd 4 u (by omega) (by omega) hk
  obtain ⟨W1, hW1⟩ : ∃ W1, w.alloc (actO4 ⟨kd, x, y, n⟩) = W1 := ⟨_, rfl⟩
  obtain ⟨b, hb⟩ : ∃ b, w.heap.size = b := ⟨_, rfl⟩
  rw [hW1, hb] at H1
  obtain ⟨c0, c1, c2, c3⟩ := act4_cells H1.out (List.mem_cons_self ..)
  dsimp only at c0 c1 c2 c3
  clear hI hk
  go_enter Try.func10, Try.ntmps10
  go_wp2_with fail
  refine (HA.out _).mono ?_
  rintro e w1 ⟨rfl, rfl⟩
  go_wp2_with fail
  refine (MidU.takeT H1.out HP.out ha).mono ?_
  rintro e w2 ⟨rfl, T2, H2⟩
  obtain ⟨d0, d1, d2, d3⟩ := act4_cells H2.out.2 (List.mem_cons_self ..)
  dsimp only at d0 d1 d2 d3
  go_wp2_with fail
  refine (MidU.takeU H2.out.2 HP.out).mono ?_
  rintro e w3 ⟨rfl, H3⟩
  have HG : Hid (Goes (Sep (TreeI t T2 (a + 2)) (UI r T2.ks)) w w3 F) := by
    have := MidS.goes H3.out
    rw [← H2.out.1] at this
    exact this
  clear H2 H3 H1
  go_wp2_with fail
  go_ret
  exact ⟨rfl, T2, HG.out⟩


set_option maxRecDepth 100000 in
set_option maxHeartbeats 4000000 in
theorem step_get (hI : Sep (TreeI t T a) (UI r T.ks) w F) (hk : S.kind % 4 = 1) (ha : a ≤ 50000) : Calls Try.prog 10 #[.pointer (some ⟨t, 0, none⟩), .pointer (some ⟨r, 0, none⟩), S.agg] w (StepR t r a w F) := by
  have H1 : Hid (MidU t T a r T.ks w (w.alloc (actO4 S)) F [(w.heap.size, actO4 S)]) := MidS.alloc (midU_res _ _ _ _ _) (MidS.start hI) _
  obtain ⟨kd, x, y, n⟩ := S
  dsimp only [ActV.agg] at *
  obtain ⟨v0, b0, hp⟩ := getK_ex T.ks x
  have HP : Hid (GetK T.ks x v0 b0) := hp
  clear hp
  have HA : Hid (∀ u : World, Calls Try.prog 16 #[.int .i64 kd, .int .i64 4] u fun e w' => e = .returned (.int .i64 1) ∧ w' = u) := fun u => among_to kd 4 u (by omega) (by omega) hk
  obtain ⟨W1, hW1⟩ : ∃ W1, w.alloc (actO4 ⟨kd, x, y, n⟩) = W1 := ⟨_, rfl⟩
  obtain ⟨b, hb⟩ : ∃ b, w.heap.size = b := ⟨_, rfl⟩
  rw [hW1, hb] at H1
  obtain ⟨c0, c1, c2, c3⟩ := act4_cells H1.out (List.mem_cons_self ..)
  dsimp only at c0 c1 c2 c3
  clear hI hk
  go_enter Try.func10, Try.ntmps10
  go_wp2_with fail
  refine (HA.out _).mono ?_
  rintro e w1 ⟨rfl, rfl⟩
  go_wp2_with fail
  refine (MidU.getT H1.out HP.out).mono ?_
  rintro e w2 ⟨sb, l, rfl, HL, H2⟩
  obtain ⟨d0, d1, d2, d3⟩ := act4_cells (b := b) (S := ⟨kd, x, y, n⟩) H2.out (by simp)
  dsimp only at d0 d1 d2 d3
  go_wp2_with fail
  refine (MidU.getU H2.out HP.out).mono ?_
  rintro e w3 ⟨rfl, H3⟩
  have HV : Hid (Calls Try.prog 21 #[.pointer (some ⟨t, 0, none⟩), .slice (some ⟨sb, 0, none⟩) 1 1] w3 fun e w' => e = .returned (.bool true) ∧ Hid (Goes (Sep (TreeI t T (a + 2)) (UI r T.ks)) w w' F)) :=
    (MidU.valid H3.out (slice_seen (MidS.at H3.out (List.mem_cons_self ..))) (fun s hs => ⟨l, HL.out, (List.mem_singleton.1 hs).symm⟩) (by show 1 ≤ 10000; omega) ha).mono fun e w' ⟨e1, e2⟩ => ⟨e1, MidS.goes (MidU.mono e2.out)⟩
  clear H1 H2 H3
  cases b0
  all_goals
    go_wp2_with fail
    refine HV.out.mono ?_
    rintro e w4 ⟨rfl, H4⟩
    go_wp2_with fail
    go_ret
    exact ⟨rfl, T, H4.out⟩


set_option maxRecDepth 100000 in
set_option maxHeartbeats 4000000 in
theorem step_bad (hI : Sep (TreeI t T a) (UI r T.ks) w F) (hk : S.kind % 4 = 3) (hn : ¬ (1 ≤ S.num ∧ S.num ≤ 4096)) : Calls Try.prog 10 #[.pointer (some ⟨t, 0, none⟩), .pointer (some ⟨r, 0, none⟩), S.agg] w (StepR t r a w F) := by
  have H1 : Hid (MidU t T a r T.ks w (w.alloc (actO4 S)) F [(w.heap.size, actO4 S)]) := MidS.alloc (midU_res _ _ _ _ _) (MidS.start hI) _
  obtain ⟨kd, x, y, n⟩ := S
  dsimp only [ActV.agg] at *
  have HN : Hid (¬ (1 ≤ n ∧ n ≤ 4096)) := hn
  clear hn
  have HA : Hid (∀ u : World, Calls Try.prog 16 #[.int .i64 kd, .int .i64 4] u fun e w' => e = .returned (.int .i64 3) ∧ w' = u) := fun u => among_to kd 4 u (by omega) (by omega) hk
  obtain ⟨W1, hW1⟩ : ∃ W1, w.alloc (actO4 ⟨kd, x, y, n⟩) = W1 := ⟨_, rfl⟩
  obtain ⟨b, hb⟩ : ∃ b, w.heap.size = b := ⟨_, rfl⟩
  rw [hW1, hb] at H1
  obtain ⟨c0, c1, c2, c3⟩ := act4_cells H1.out (List.mem_cons_self ..)
  dsimp only at c0 c1 c2 c3
  clear hI hk
  go_enter Try.func10, Try.ntmps10
  go_wp2_with fail
  refine (HA.out _).mono ?_
  rintro e w1 ⟨rfl, rfl⟩
  go_wp2_with fail
  refine (tscan_bad HN.out t x y _).mono ?_
  rintro e w2 ⟨rfl, hb2⟩
  have H2 : Hid (MidU t T a r T.ks w w2 F [(b, actO4 ⟨kd, x, y, n⟩)]) := MidS.stay (midU_res _ _ _ _ _) H1.out hb2
  obtain ⟨d0, d1, d2, d3⟩ := act4_cells H2.out (List.mem_cons_self ..)
  dsimp only at d0 d1 d2 d3
  clear hb2 H1
  go_wp2_with fail
  refine (uscan_bad HN.out _).mono ?_
  rintro e w3 ⟨rfl, rfl⟩
  have HT : Hid (Calls Try.prog 13 #[.slice none 0 0, .slice none 0 0] w3 fun e w' => e = .returned (.bool true) ∧ ∃ m, w' = w3.drewN m) := by
    have := sameTexts_any (.slice none 0 0) (.slice none 0 0) [] [] w3 (sliceAt_none _ _ _) (sliceAt_none _ _ _)
    rw [decide_eq_true rfl] at this
    exact this
  have HI2 : Hid (∀ u, Calls Try.prog 14 #[.slice none 0 0, .slice none 0 0] u fun e w' => e = .returned (.bool true) ∧ ∃ m, w' = u.drewN m) := fun u => same_ints (X := []) (sliceAt_none _ _ _) (sliceAt_none _ _ _)
  go_wp2_with fail
  refine HT.out.mono ?_
  rintro e w4 ⟨rfl, m4, hw4⟩
  go_wp2_with fail
  refine (HI2.out _).mono ?_
  rintro e w5 ⟨rfl, m5, hw5⟩
  have HG : Hid (Goes (Sep (TreeI t T (a + 2)) (UI r T.ks)) w w5 F) := by
    rw [hw5]
    try rw [hw4]
    rw [World.drewN_drewN]
    exact MidS.goes (MidU.mono (MidS.stay (midU_res _ _ _ _ _) H2.out (below_drewN w3 _)))
  clear hw4 hw5 HT HI2
  go_wp2_with fail
  refine (spoil_nil _ _).mono ?_
  rintro e w6 ⟨rfl, rfl⟩
  go_wp2_with fail
  go_loopw [30] (fun i wr => i = .int .i64 0 ∧ wr = w6) (fun _ _ => 0)
  case atStart => exact ⟨rfl, rfl⟩
  case round =>
    obtain ⟨rfl, hwq⟩ := hrel
    subst hwq
    go_wp2_with fail
    go_ret
    exact ⟨rfl, T, HG.out⟩


set_option maxRecDepth 100000 in
set_option maxHeartbeats 4000000 in
theorem step_scan (hI : Sep (TreeI t T a) (UI r T.ks) w F) (hk : S.kind % 4 = 3) (hn : 1 ≤ S.num ∧ S.num ≤ 4096) (ha : a ≤ 50000) : Calls Try.prog 10 #[.pointer (some ⟨t, 0, none⟩), .pointer (some ⟨r, 0, none⟩), S.agg] w (StepR t r a w F) := by
  have H1 : Hid (MidU t T a r T.ks w (w.alloc (actO4 S)) F [(w.heap.size, actO4 S)]) := MidS.alloc (midU_res _ _ _ _ _) (MidS.start hI) _
  obtain ⟨kd, x, y, n⟩ := S
  dsimp only [ActV.agg] at *
  obtain ⟨most, rfl⟩ : ∃ most : Nat, n = (most : Int) := ⟨n.toNat, by omega⟩
  have h1 : 1 ≤ most := by omega
  have h2 : most ≤ 4096 := by omega
  clear hn
  have HA : Hid (∀ u : World, Calls Try.prog 16 #[.int .i64 kd, .int .i64 4] u fun e w' => e = .returned (.int .i64 3) ∧ w' = u) := fun u => among_to kd 4 u (by omega) (by omega) hk
  obtain ⟨W1, hW1⟩ : ∃ W1, w.alloc (actO4 ⟨kd, x, y, (most : Int)⟩) = W1 := ⟨_, rfl⟩
  obtain ⟨b, hb⟩ : ∃ b, w.heap.size = b := ⟨_, rfl⟩
  rw [hW1, hb] at H1
  obtain ⟨c0, c1, c2, c3⟩ := act4_cells H1.out (List.mem_cons_self ..)
  dsimp only at c0 c1 c2 c3
  clear hI hk
  go_enter Try.func10, Try.ntmps10
  go_wp2_with fail
  refine (HA.out _).mono ?_
  rintro e w1 ⟨rfl, rfl⟩
  go_wp2_with fail
  refine (MidU.scanT rfl H1.out h1 h2).mono ?_
  rintro e w2 ⟨vk, vv, vs, told, seen, L2, rfl, HSc, HTo, H2⟩
  obtain ⟨d0, d1, d2, d3⟩ := act4_cells (b := b) (S := ⟨kd, x, y, (most : Int)⟩) H2.out (by simp)
  dsimp only at d0 d1 d2 d3
  go_wp2_with fail
  refine (MidU.scanU rfl H2.out h1 h2).mono ?_
  rintro e w3 ⟨xk, xv, L3, rfl, HTu, H3⟩
  have HTe : Hid (told = (scanK x y T.ks).take most) := HSc.out.eq
  have HSt : Hid (Calls Try.prog 13 #[vk, xk] w3 fun e w' => e = .returned (.bool true) ∧ Hid (MidU t T a r T.ks w w' F (L3 ++ (L2 ++ [(b, actO4 ⟨kd, x, y, (most : Int)⟩)])))) := by
    have q1 := (HTo.out.rows w3 (fun p hp => MidS.heaps H3.out p (by simp [hp]))).1
    have q2 := (HTu.out w3 (fun p hp => MidS.heaps H3.out p (by simp [hp]))).1
    have := sameTexts_any _ _ _ _ _ q1 q2
    rw [decide_eq_true (by rw [HTe.out])] at this
    exact this.mono fun e w' ⟨e1, m, e2⟩ => ⟨e1, e2 ▸ MidS.stay (midU_res _ _ _ _ _) H3.out (below_drewN w3 m)⟩
  have HSi : Hid (∀ u, MidU t T a r T.ks w u F (L3 ++ (L2 ++ [(b, actO4 ⟨kd, x, y, (most : Int)⟩)])) → Calls Try.prog 14 #[vv, xv] u fun e w' => e = .returned (.bool true) ∧ Hid (MidU t T a r T.ks w w' F (L3 ++ (L2 ++ [(b, actO4 ⟨kd, x, y, (most : Int)⟩)])))) := fun u hu => by
    have q1 := (HTo.out.rows u (fun p hp => MidS.heaps hu p (by simp [hp]))).2.1
    have q2 := (HTu.out u (fun p hp => MidS.heaps hu p (by simp [hp]))).2
    rw [HTe.out] at q1
    exact (same_ints q1 q2).mono fun e w' ⟨e1, m, e2⟩ => ⟨e1, e2 ▸ MidS.stay (midU_res _ _ _ _ _) hu (below_drewN u m)⟩
  have HVa : Hid (∀ u, MidU t T a r T.ks w u F (L3 ++ (L2 ++ [(b, actO4 ⟨kd, x, y, (most : Int)⟩)])) → Calls Try.prog 21 #[.pointer (some ⟨t, 0, none⟩), vs] u fun e w' => e = .returned (.bool true) ∧ Hid (MidU t T (a + 2) r T.ks w w' F L2)) := fun u hu =>
    (MidU.valid hu (HTo.out.rows u (fun p hp => MidS.heaps hu p (by simp [hp]))).2.2 HSc.out.real (scanned_small (MidU.okT hu) ha HSc.out).2 ha).mono fun e w' ⟨e1, e2⟩ => ⟨e1, MidU.mono (MidS.drop e2.out (fun p hp => by simp [hp]))⟩
  have HBk : Hid (RowB L2 vk told.length 9) := HTo.out.bk
  have HBv : Hid (RowB L2 vv told.length 3 ∧ ∀ g, vk.ownBlock = some g → vv.ownBlock ≠ some g) := ⟨HTo.out.bv, HTo.out.ne⟩
  have hlen : told.length ≤ 4096 := by rw [HTe.out, List.length_take]; omega
  obtain ⟨N, hN⟩ : ∃ N, told.length = N := ⟨_, rfl⟩
  rw [hN] at HBk HBv hlen
  clear H1 H2 H3 HTo HTu HTe HSc hN
  go_wp2_with fail
  refine HSt.out.mono ?_
  rintro e w4 ⟨rfl, H4⟩
  go_wp2_with fail
  refine (HSi.out _ H4.out).mono ?_
  rintro e w5 ⟨rfl, H5⟩
  go_wp2_with fail
  refine (HVa.out _ H5.out).mono ?_
  rintro e w6 ⟨rfl, H6⟩
  clear H4 H5 HSt HSi HVa
  have HSp : Hid (Calls Try.prog 29 #[vv, .int .i64 (-7)] w6 fun e w' => e = .returned (.tuple #[]) ∧ ((vk = .slice none 0 0 ∧ N = 0 ∧ Hid (MidU t T (a + 2) r T.ks w w' F [])) ∨ ∃ g cap cur, vk = .slice (some ⟨g, 0, none⟩) N cap ∧ Hid (cur.size = cap ∧ N ≤ cap ∧ cap ≤ maxLen) ∧ Hid (MidU t T (a + 2) r T.ks w w' F [(g, .cells cur 9 (0, 0))]))) := by
    rcases HBv.out.1 with ⟨rfl, h0⟩ | ⟨bv, cv, cuv, rfl, v1, v2, v3, v4⟩
    · refine (spoil_nil w6 (-7)).mono fun e w' ⟨e1, e2⟩ => ⟨e1, ?_⟩
      subst e2
      rcases HBk.out with ⟨k1, k2⟩ | ⟨bk, ck, cuk, k1, k2, k3, k4, k5⟩
      · exact Or.inl ⟨k1, k2, MidS.drop H6.out (by simp)⟩
      · exact Or.inr ⟨bk, ck, cuk, k1, ⟨k3, k4, k5⟩, MidS.drop H6.out (fun p hp => by rw [List.mem_singleton.1 hp]; exact k2)⟩
    · refine (spoil_row (-7) (MidS.at H6.out v1) v2 v4).mono fun e w' ⟨e1, e2⟩ => ⟨e1, ?_⟩
      rcases HBk.out with ⟨k1, k2⟩ | ⟨bk, ck, cuk, k1, k2, k3, k4, k5⟩
      · exact Or.inl ⟨k1, k2, MidS.write (o' := .map #[] 0) (midU_res _ _ _ _ _) H6.out v1 e2 [] (by simp)⟩
      · refine Or.inr ⟨bk, ck, cuk, k1, ⟨k3, k4, k5⟩, MidS.write (o' := .map #[] 0) (midU_res _ _ _ _ _) H6.out v1 e2 _ (fun p hp => ?_)⟩
        rw [List.mem_singleton.1 hp]
        refine Or.inl ⟨k2, fun e => HBv.out.2 bk (by rw [k1]; rfl) ?_⟩
        dsimp only at e
        rw [e]
        rfl
  clear HBk HBv H6
  go_wp2_with fail
  refine HSp.out.mono ?_
  rintro e w7 ⟨rfl, ⟨rfl, rfl, H7⟩ | ⟨g, cap, cur, rfl, HCu, H7⟩⟩
  · clear HSp
    go_wp2_with fail
    go_loopw [30] (fun i wr => i = .int .i64 0 ∧ wr = w7) (fun _ _ => 0)
    case atStart => exact ⟨rfl, rfl⟩
    case round =>
      obtain ⟨rfl, hwq⟩ := hrel
      subst hwq
      go_wp2_with fail
      go_ret
      exact ⟨rfl, T, MidS.goes H7.out⟩
  · clear HSp
    have hN1 := HCu.out.2.1
    have hN2 := HCu.out.2.2
    unfold maxLen at hN2
    have HCs : Hid (cur.size = cap) := HCu.out.1
    clear HCu
    go_wp2_with fail
    go_loopw [30] (fun i wr => ∃ (z : Nat) (cu : Array Value), z ≤ N ∧ i = .int .i64 z ∧ Hid (cu.size = cap) ∧ Hid (MidU t T (a + 2) r T.ks w wr F [(g, .cells cu 9 (0, 0))])) (fun i _ => N - (intOf i).toNat)
    case atStart => exact ⟨0, cur, Nat.zero_le _, rfl, HCs, H7⟩
    case round =>
      clear H7 HCs
      obtain ⟨z, cu, hz, rfl, HCs, HM⟩ := hrel
      by_cases hlt : z < N
      · have hlI : (z : Int) < (N : Int) := by omega
        have hlc : z < cu.size := by rw [HCs.out]; omega
        have hg := MidS.at HM.out (List.mem_cons_self ..)
        have q1 : wr.cell? ⟨g, z, none⟩ = some cu[z] := by rw [cell_of hg, Array.getElem?_eq_getElem hlc]
        have f1 : wr.frozen? ⟨g, z, none⟩ = false := frozen_of hg _
        have HM2 : Hid (MidU t T (a + 2) r T.ks w (wr.setCell ⟨g, z, none⟩ (.string ⟨#[115, 112, 111, 105, 108, 116]⟩)) F [(g, .cells (cu.setIfInBounds z (.string ⟨#[115, 112, 111, 105, 108, 116]⟩)) 9 (0, 0))]) :=
          MidS.write (midU_res _ _ _ _ _) HM.out (List.mem_cons_self ..) (Turn.setCell wr ⟨g, z, none⟩ _ rfl) _ (fun p hp => Or.inr ⟨List.mem_singleton.1 hp, heap_setCell_same hg z _⟩)
        have HCs2 : Hid ((cu.setIfInBounds z (Value.string ⟨#[115, 112, 111, 105, 108, 116]⟩)).size = cap) := (by rw [Array.size_setIfInBounds, HCs.out] : _ = _)
        obtain ⟨q, hq⟩ : ∃ q, cu[z] = q := ⟨_, rfl⟩
        rw [hq] at q1
        clear hq hlc hg HM
        go_wp2_with fail
        go_roundw
        case rel => exact ⟨z + 1, _, by omega, by go_num, HCs2, HM2⟩
        case measure => simp [intOf]; omega
      · have hlI : ¬ (z : Int) < (N : Int) := by omega
        go_wp2_with fail
        go_ret
        exact ⟨rfl, T, MidS.goes HM.out⟩


theorem step_any (hI : Sep (TreeI t T a) (UI r T.ks) w F) (hS : S.Ok) (ha : a ≤ 50000) : Calls Try.prog 10 #[.pointer (some ⟨t, 0, none⟩), .pointer (some ⟨r, 0, none⟩), S.agg] w (StepR t r a w F) := by
  rcases (by omega : S.kind % 4 = 0 ∨ S.kind % 4 = 1 ∨ S.kind % 4 = 2 ∨ S.kind % 4 = 3) with h | h | h | h
  · exact step_put hI h hS.num ha
  · exact step_get hI h ha
  · exact step_take hI h ha
  · by_cases hn : 1 ≤ S.num ∧ S.num ≤ 4096
    · exact step_scan hI h hn ha
    · exact step_bad hI h hn
end

end Go.Proofs.Ytoknebbkpkcomaa
