/- The law TreePlays: its walk. -/
import Derived.Test.YtoknebbkpkcomaaTStep
import Derived.Test.YtoknebbkpkcomaaTWorks
import Derived.Test.YtoknebbkpkcomaaTSide
namespace Go.Proofs.Ytoknebbkpkcomaa
open Go.RowKit

abbrev BothT (t : Nat) (T : Tr) (a r : Nat) (K : List Kv) (w wr : World) (L : List (Nat × Obj)) : Prop := Stand (Sep (TreeI t T a) (UI r K)) w wr L
section
variable {t a r : Nat} {T : Tr} {K : List Kv} {w wr : World} {L : List (Nat × Obj)}
theorem bothT_new (h : HasT t T a w wr L) : BothT t T a wr.heap.size [] w (wr.alloc (.cells #[.slice none 0 0, .slice none 0 0] 29 (0, 0))) L :=
  Stand.also (treeI_res _ _ _) h (ui_new wr) (fun i hi => by rw [hi]; exact Nat.le_refl _) ((Below.refl _ _).alloc (Nat.le_refl _) _)
theorem BothT.step {S : ActV} (h : BothT t T a r T.ks w wr L) (hS : S.Ok) (ha : a ≤ 50000) : Calls Try.prog 10 #[.pointer (some ⟨t, 0, none⟩), .pointer (some ⟨r, 0, none⟩), S.agg] wr fun e w' => e = .returned (.bool true) ∧ ∃ T', Hid (BothT t T' (a + 2) r T'.ks w w' L) := by
  obtain ⟨F, h1, h2⟩ := Stand.callA h
  exact (step_any h1 hS ha).mono fun e w' ⟨e1, T', e2⟩ => ⟨e1, T', h2 _ w' e2⟩
theorem BothT.len (h : BothT t T a r K w wr L) : Calls Try.prog 11 #[.pointer (some ⟨t, 0, none⟩)] wr fun x w' => x = .returned (.int .i64 (T.ks.length : Int)) ∧ w' = wr := by
  obtain ⟨A, ⟨b, m, c, h1, _⟩, _⟩ := Stand.callL (ui_res _ _) h
  exact len_any h1
theorem BothT.ok (h : BothT t T a r K w wr L) : T.Ok a := by obtain ⟨A, h1, _⟩ := Stand.callL (ui_res _ _) h; exact h1.ok
theorem BothT.scan {f to : ByteArray} {most : Nat} {mm : Int} (hm : mm = (most : Int)) (h : BothT t T a r K w wr L) (h1 : 1 ≤ most) (h2 : most ≤ 4096) :
    Calls Try.prog 12 #[.pointer (some ⟨t, 0, none⟩), .string f, .string to, .int .i64 mm] wr fun x w' => ∃ vk vv vs told seen L', x = .returned (.tuple #[vk, vv, vs, .int .i64 0]) ∧ Hid (Scanned T.ls f to most told seen) ∧ Hid (Rows L' vk vv vs told seen) ∧ Hid (BothT t T a r K w w' (L' ++ L)) := by
  obtain ⟨A, g1, _⟩ := Stand.callL (ui_res _ _) h
  exact (scan_rows hm g1 h1 h2).mono fun x w' ⟨vk, vv, vs, told, seen, L', e1, e2, e3, e4⟩ => ⟨vk, vv, vs, told, seen, L', e1, e2, e3, Stand.more (midU_res _ _ _ _ _) h e4.out.1 e4.out.2⟩
/-- the document's rows -/
theorem BothT.rows (h : BothT t T a r K w wr L) : ∃ aK cK aV cV, K.length ≤ cK ∧ cK ≤ maxLen ∧ ∀ u, Below wr.heap.size wr u → u.cell? ⟨r, 0, none⟩ = some (.slice aK K.length cK) ∧ u.cell? ⟨r, 1, none⟩ = some (.slice aV K.length cV) ∧ SliceAt u (.slice aK K.length cK) 1 enS (keysOf K) ∧ SliceAt u (.slice aV K.length cV) 1 enI (valsOf K) := by
  obtain ⟨A, g1, _⟩ := Stand.callR (treeI_res _ _ _) h
  obtain ⟨aK, cK, aV, cV, x1, x2, _, _, hc, _, _⟩ := g1.shape
  refine ⟨aK, cK, aV, cV, x1, x2, fun u hu => ?_⟩
  obtain ⟨k1, k2, k3, _⟩ := hc u hu
  exact ⟨k2, k3, row_strs (keysOf_length K).symm k1.rk, row_ints (valsOf_length K).symm k1.rv⟩
end

namespace PlaysL

set_option maxRecDepth 100000 in
set_option maxHeartbeats 8000000 in
theorem walk (v0 : Value) (L : List ActV) (w : World) (hL : SliceAt w v0 4 ActV.en L) (hZ : ∀ a ∈ L, a.Ok) :
    Calls Try.prog 3 #[v0] w fun e w' => e = .returned (.bool true) ∧ Below w.heap.size w w' := by
  have HWk : Hid (∀ u : World, Calls Try.prog 15 #[] u fun e w' => e = .returned (.bool true) ∧ Below u.heap.size u w') := works_any
  obtain ⟨av, cv, rfl, hlc, hcm, hx⟩ := acts_open hL
  unfold maxLen at hcm
  have HX : Hid (∀ u, Below w.heap.size w u → ∀ i, (hi : i < L.length) → ∃ b off, av = some ⟨b, off, none⟩ ∧ u.cell? ⟨b, off + i * 4, none⟩ = some (.int .i64 L[i].kind) ∧ u.cell? ⟨b, off + i * 4 + 1, none⟩ = some (.string L[i].key) ∧ u.cell? ⟨b, off + i * 4 + 2, none⟩ = some (.string L[i].to) ∧ u.cell? ⟨b, off + i * 4 + 3, none⟩ = some (.int .i64 L[i].num)) := hx
  have HZ : Hid (∀ a ∈ L, a.Ok) := hZ
  obtain ⟨m, hm⟩ : ∃ m, L.length = m := ⟨_, rfl⟩
  have HM : Hid (L.length = m) := hm
  rw [hm] at hlc ⊢
  have HNew : Hid (Calls Try.prog 9 #[] w fun e w' => ∃ t T, e = .returned (.pointer (some ⟨t, 0, none⟩)) ∧ Hid (T.ks = [] ∧ HasT t T 0 w w' [])) := hast_new (Below.refl _ _)
  clear hx hL hm hZ
  go_enter Try.func3, Try.ntmps3
  go_wp2_with fail
  refine HNew.out.mono ?_
  rintro e w1 ⟨t, T0, rfl, H1⟩
  have H2 : Hid (BothT t T0 0 w1.heap.size T0.ks w (w1.alloc (.cells #[.slice none 0 0, .slice none 0 0] 29 (0, 0))) []) := by
    have := bothT_new H1.out.2
    rw [← H1.out.1] at this
    exact this
  obtain ⟨r, hr⟩ : ∃ r, w1.heap.size = r := ⟨_, rfl⟩
  rw [hr] at H2
  clear HNew H1
  go_wp2_with fail
  try rw [hr]
  go_loopw [5] (fun i wr => ∃ (j : Nat) (T : Tr), j ≤ 400 ∧ i = .int .i64 j ∧ Hid (BothT t T (2 * j) r T.ks w wr [])) (fun i _ => 400 - (intOf i).toNat)
  case atStart => exact ⟨0, T0, Nat.zero_le _, rfl, H2⟩
  case round =>
    clear H2 hr
    obtain ⟨j, T, hj, rfl, HI⟩ := hrel
    by_cases hlt : j < m ∧ j < 400
    · obtain ⟨hlt, h400⟩ := hlt
      have hlL : j < L.length := by rw [HM.out]; exact hlt
      have hlI : (j : Int) < (m : Int) := by omega
      have h400I : (j : Int) < 400 := by omega
      obtain ⟨b, off, rfl, t0, t1, t2, t3⟩ := HX.out wr (Stand.base HI.out) j hlL
      have HOk : Hid (L[j]).Ok := HZ.out _ (List.getElem_mem hlL)
      obtain ⟨S, hS⟩ : ∃ S, L[j] = S := ⟨_, rfl⟩
      rw [hS] at t0 t1 t2 t3 HOk
      have HSt : Hid (∀ u, (∃ q, u = wr.drewN q) → Calls Try.prog 10 #[.pointer (some ⟨t, 0, none⟩), .pointer (some ⟨r, 0, none⟩), S.agg] u fun e w' => e = .returned (.bool true) ∧ ∃ T' N aK cK, Hid (T'.ks.length = N ∧ BothT t T' (2 * j + 2) r T'.ks w w' []) ∧ N ≤ cK ∧ cK ≤ 9223372036854775807 ∧ w'.cell? ⟨r, 0, none⟩ = some (.slice aK N cK)) := fun u ⟨q, hu⟩ => (BothT.step (a := 2 * j) (T := T) (w := w) (L := []) (show BothT t T (2 * j) r T.ks w u [] by rw [hu]; exact Stand.drewN (midU_res _ _ _ _ _) HI.out q) HOk.out (by omega)).mono fun e w' ⟨e1, T', e2⟩ => by
        obtain ⟨aK, cK, _, _, x1, x2, hc⟩ := BothT.rows e2.out
        exact ⟨e1, T', _, aK, cK, ⟨rfl, e2.out⟩, x1, x2, (hc w' (Below.refl _ _)).1⟩
      have HLe : Hid (∀ (u : World) (T' : Tr) (N : Nat), (T'.ks.length = N ∧ BothT t T' (2 * j + 2) r T'.ks w u []) → Calls Try.prog 11 #[.pointer (some ⟨t, 0, none⟩)] u fun e w' => e = .returned (.int .i64 (N : Int)) ∧ w' = u) := fun u T' N h => by
        have := BothT.len h.2
        rw [h.1] at this
        exact this
      obtain ⟨kd, x, y, n⟩ := S
      dsimp only [ActV.agg] at t0 t1 t2 t3 HSt
      clear hS HOk hlL
      go_wp2_with fail
      go_region_with (first
        | (go_at_call 10; refine (HSt.out _ ?_).mono ?_; exact ⟨1, rfl⟩; rintro e w3 ⟨rfl, T3, N, aK, cK, H3, p0, p1, p2⟩)
        | (go_at_call 11; refine (HLe.out _ T3 N H3.out).mono ?_; rintro e w4 ⟨rfl, rfl⟩))
      all_goals (go_wp2_with fail; go_roundw; (case rel => exact ⟨j + 1, T3, by omega, by go_num, H3.out.2⟩); (case measure => simp [intOf]; omega))
    · by_cases h1 : j < m
      · have h400 : ¬ ((j : Int) < 400) := by omega
        have h1I : (j : Int) < (m : Int) := by omega
        have HTe : Hid (∀ told seen, Scanned T.ls ⟨#[]⟩ ⟨#[]⟩ 4096 told seen → told = T.ks) := fun told seen hs => by
          rw [hs.eq]
          have e : scanK ⟨#[]⟩ ⟨#[]⟩ (allK T.ls) = T.ks := List.filter_eq_self.2 (fun p _ => by unfold inK; rw [bl_empty]; rfl)
          rw [e]
          exact List.take_of_length_le (BothT.ok HI.out).few
        go_wp2_with fail
        refine (BothT.scan (most := 4096) rfl HI.out (by omega) (by omega)).mono ?_
        rintro e w7 ⟨vk, vv, vs, told, seen, L1, rfl, HSc, HR, H7⟩
        obtain rfl := HTe.out told seen HSc.out
        obtain ⟨aK, cK, aV, cV, x1, x2, hc⟩ := BothT.rows H7.out
        obtain ⟨N, hN⟩ : ∃ N, T.ks.length = N := ⟨_, rfl⟩
        rw [hN] at hc x1
        have HC : Hid (∀ u, Below w7.heap.size w7 u → u.cell? ⟨r, 0, none⟩ = some (.slice aK N cK) ∧ u.cell? ⟨r, 1, none⟩ = some (.slice aV N cV)) := fun u hu => ⟨(hc u hu).1, (hc u hu).2.1⟩
        have HSt : Hid (Calls Try.prog 13 #[vk, .slice aK N cK] w7 fun e w' => e = .returned (.bool true) ∧ Hid (Below w7.heap.size w7 w')) := by
          have q1 := (HR.out w7 (fun p hp => Stand.heaps H7.out p (by simp [hp]))).1
          have := sameTexts_any _ _ _ _ _ q1 (hc w7 (Below.refl _ _)).2.2.1
          rw [decide_eq_true rfl] at this
          exact this.mono fun e w' ⟨e1, n, e2⟩ => ⟨e1, e2 ▸ below_drewN w7 n⟩
        have HSi : Hid (∀ u, Below w7.heap.size w7 u → Calls Try.prog 14 #[vv, .slice aV N cV] u fun e w' => e = .returned (.bool true) ∧ Hid (Below w7.heap.size w7 w')) := fun u hu => by
          have q1 := (HR.out u (fun p hp => Stand.heaps (Stand.below (midU_res _ _ _ _ _) H7.out hu) p (by simp [hp]))).2.1
          exact (same_ints q1 (hc u hu).2.2.2).mono fun e w' ⟨e1, n, e2⟩ => ⟨e1, e2 ▸ below_dr hu n⟩
        have HB7 : Hid (Below w.heap.size w w7) := Stand.base H7.out
        obtain ⟨c0, c1⟩ := HC.out w7 (Below.refl _ _)
        clear hc hN HR HSc HI HTe
        go_wp2_with fail
        refine HSt.out.mono ?_
        rintro e w8 ⟨rfl, H8⟩
        obtain ⟨d0, d1⟩ := HC.out w8 H8.out
        go_wp2_with fail
        refine (HSi.out _ H8.out).mono ?_
        rintro e w9 ⟨rfl, H9⟩
        go_wp2_with fail
        refine (HWk.out _).mono ?_
        rintro e w10 ⟨rfl, hb10⟩
        have HB : Hid (Below w.heap.size w w10) := HB7.out.trans ((H9.out.trans (hb10.mono H9.out.size)).mono HB7.out.size)
        clear hb10
        go_wp2_with fail
        go_ret
        exact ⟨rfl, HB.out⟩
      · have h1I : ¬ ((j : Int) < (m : Int)) := by omega
        have HTe : Hid (∀ told seen, Scanned T.ls ⟨#[]⟩ ⟨#[]⟩ 4096 told seen → told = T.ks) := fun told seen hs => by
          rw [hs.eq]
          have e : scanK ⟨#[]⟩ ⟨#[]⟩ (allK T.ls) = T.ks := List.filter_eq_self.2 (fun p _ => by unfold inK; rw [bl_empty]; rfl)
          rw [e]
          exact List.take_of_length_le (BothT.ok HI.out).few
        go_wp2_with fail
        refine (BothT.scan (most := 4096) rfl HI.out (by omega) (by omega)).mono ?_
        rintro e w7 ⟨vk, vv, vs, told, seen, L1, rfl, HSc, HR, H7⟩
        obtain rfl := HTe.out told seen HSc.out
        obtain ⟨aK, cK, aV, cV, x1, x2, hc⟩ := BothT.rows H7.out
        obtain ⟨N, hN⟩ : ∃ N, T.ks.length = N := ⟨_, rfl⟩
        rw [hN] at hc x1
        have HC : Hid (∀ u, Below w7.heap.size w7 u → u.cell? ⟨r, 0, none⟩ = some (.slice aK N cK) ∧ u.cell? ⟨r, 1, none⟩ = some (.slice aV N cV)) := fun u hu => ⟨(hc u hu).1, (hc u hu).2.1⟩
        have HSt : Hid (Calls Try.prog 13 #[vk, .slice aK N cK] w7 fun e w' => e = .returned (.bool true) ∧ Hid (Below w7.heap.size w7 w')) := by
          have q1 := (HR.out w7 (fun p hp => Stand.heaps H7.out p (by simp [hp]))).1
          have := sameTexts_any _ _ _ _ _ q1 (hc w7 (Below.refl _ _)).2.2.1
          rw [decide_eq_true rfl] at this
          exact this.mono fun e w' ⟨e1, n, e2⟩ => ⟨e1, e2 ▸ below_drewN w7 n⟩
        have HSi : Hid (∀ u, Below w7.heap.size w7 u → Calls Try.prog 14 #[vv, .slice aV N cV] u fun e w' => e = .returned (.bool true) ∧ Hid (Below w7.heap.size w7 w')) := fun u hu => by
          have q1 := (HR.out u (fun p hp => Stand.heaps (Stand.below (midU_res _ _ _ _ _) H7.out hu) p (by simp [hp]))).2.1
          exact (same_ints q1 (hc u hu).2.2.2).mono fun e w' ⟨e1, n, e2⟩ => ⟨e1, e2 ▸ below_dr hu n⟩
        have HB7 : Hid (Below w.heap.size w w7) := Stand.base H7.out
        obtain ⟨c0, c1⟩ := HC.out w7 (Below.refl _ _)
        clear hc hN HR HSc HI HTe
        go_wp2_with fail
        refine HSt.out.mono ?_
        rintro e w8 ⟨rfl, H8⟩
        obtain ⟨d0, d1⟩ := HC.out w8 H8.out
        go_wp2_with fail
        refine (HSi.out _ H8.out).mono ?_
        rintro e w9 ⟨rfl, H9⟩
        go_wp2_with fail
        refine (HWk.out _).mono ?_
        rintro e w10 ⟨rfl, hb10⟩
        have HB : Hid (Below w.heap.size w w10) := HB7.out.trans ((H9.out.trans (hb10.mono H9.out.size)).mono HB7.out.size)
        clear hb10
        go_wp2_with fail
        go_ret
        exact ⟨rfl, HB.out⟩
end PlaysL
end Go.Proofs.Ytoknebbkpkcomaa
