/- The law EpochFrees: its walk. -/
import Derived.Test.YtonblbopfbjiaaaEFreesP
namespace Go.Proofs.Ytonblbopfbjiaaa
namespace FreesL
open Go.RowKit

abbrev planO (a b c : Int) : Obj := .cells #[.int .i64 a, .int .i64 b, .int .i64 c] 23 (0, 0)

set_option maxRecDepth 100000 in
set_option maxHeartbeats 4000000 in
theorem walk (pa pb pc : Int) (v0 : Value) (L : List (Int × Int)) (w : World) (hL : SliceAt w v0 2 enT L) :
    Calls Try.prog 6 #[.agg #[.int .i64 pa, .int .i64 pb, .int .i64 pc], v0] w fun e w' => e = .returned (.bool true) ∧ Below w.heap.size w w' := by
  obtain ⟨av, cv, rfl, hlc, hcm, hx⟩ := acts_open hL
  unfold maxLen at hcm
  have HX : Hid (∀ u, Below w.heap.size w u → ∀ i, (hi : i < L.length) → ∃ b off, av = some ⟨b, off, none⟩ ∧ u.cell? ⟨b, off + i * 2, none⟩ = some (.int .i64 L[i].1) ∧ u.cell? ⟨b, off + i * 2 + 1, none⟩ = some (.int .i64 L[i].2)) := hx
  obtain ⟨m, hm⟩ : ∃ m, L.length = m := ⟨_, rfl⟩
  have HM : Hid (L.length = m) := hm
  rw [hm] at hlc ⊢
  clear hx hL hm
  have hB0 : Below w.heap.size w (w.alloc (planO pa pb pc)) := (Below.refl _ _).alloc (Nat.le_refl _) _
  have HW : Hid (Calls Try.prog 13 #[] (w.alloc (planO pa pb pc)) fun e w' => e = .returned (.bool true) ∧ Below w.heap.size w w' ∧ w'.heap[w.heap.size]? = some (planO pa pb pc)) := (works_any _).mono (by
    rintro e w' ⟨rfl, h⟩
    exact ⟨rfl, hB0.trans (h.mono hB0.size), (h.block _ (by simp)).trans (heap_new w _)⟩)
  clear hB0
  cases hN : newOk pa pb pc with
  | false =>
    go_enter Try.func6, Try.ntmps6
    go_wp2_with fail
    refine HW.out.mono ?_
    rintro e w1 ⟨rfl, hb1, hp1⟩
    have q0 : w1.cell? ⟨w.heap.size, 0, none⟩ = some (.int .i64 pa) := by rw [cell_of hp1]; rfl
    have q1 : w1.cell? ⟨w.heap.size, 1, none⟩ = some (.int .i64 pb) := by rw [cell_of hp1]; rfl
    have q2 : w1.cell? ⟨w.heap.size, 2, none⟩ = some (.int .i64 pc) := by rw [cell_of hp1]; rfl
    have HB : Hid (Below w.heap.size w w1) := hb1
    clear hp1 hb1
    go_wp2_with fail
    refine (new_no _ hN).mono ?_
    rintro e w2 ⟨rfl, rfl⟩
    go_wp2_with fail
    go_ret
    exact ⟨rfl, HB.out⟩
  | true =>
    have HNW : Hid (newOk pa pb pc = true) := hN
    clear hN
    go_enter Try.func6, Try.ntmps6
    go_wp2_with fail
    refine HW.out.mono ?_
    rintro e w1 ⟨rfl, hb1, hp1⟩
    have q0 : w1.cell? ⟨w.heap.size, 0, none⟩ = some (.int .i64 pa) := by rw [cell_of hp1]; rfl
    have q1 : w1.cell? ⟨w.heap.size, 1, none⟩ = some (.int .i64 pb) := by rw [cell_of hp1]; rfl
    have q2 : w1.cell? ⟨w.heap.size, 2, none⟩ = some (.int .i64 pc) := by rw [cell_of hp1]; rfl
    have HNC : Hid (Calls Try.prog 8 #[.int .i64 pa, .int .i64 pb, .int .i64 pc] w1 fun e w' => ∃ g, e = .returned (.tuple #[.pointer (some ⟨g, 0, none⟩), .int .i64 0]) ∧ Has g (Ck.new pa pb pc) w w' [] ∧ Below w1.heap.size w1 w') := has_new hb1 HNW.out
    clear hp1 hb1
    go_wp2_with fail
    refine HNC.out.mono ?_
    rintro e w2 ⟨g, rfl, h2, -⟩
    have HI0 : Hid (Has g (Ck.new pa pb pc) w ((w2.alloc (arrO (List.replicate 16 0))).alloc (.map #[] 0)) [(w2.heap.size, arrO (List.replicate 16 0)), (w2.heap.size + 1, .map #[] 0)]) := by
      have h := Stand.alloc (clockI_res _ _) (Stand.alloc (clockI_res _ _) h2 (arrO (List.replicate 16 0))) (.map #[] 0)
      rw [World.size_alloc] at h
      exact Stand.drop h (fun z hz => by
        rcases List.mem_cons.1 hz with rfl | hz
        · exact List.mem_cons_of_mem _ (List.mem_cons_self ..)
        · rw [List.mem_singleton.1 hz]; exact List.mem_cons_self ..)
    have HM0 : Hid (MapO (w2.heap.size + 1) (.map #[] 0) 0 []) := by
      have h := mapIs_made (w2.alloc (arrO (List.replicate 16 0)))
      rw [World.size_alloc] at h
      refine ⟨_, ?_, h⟩
      have h' := heap_new (w2.alloc (arrO (List.replicate 16 0))) (.map #[] 0)
      rw [World.size_alloc] at h'
      exact h'
    obtain ⟨p, hp⟩ : ∃ p, w2.heap.size = p := ⟨_, rfl⟩
    rw [hp] at HI0 HM0
    have hpm : p ≠ p + 1 := by omega
    clear h2 q0 q1 q2
    have hmm := @run_makeMap Try.prog
    have HP0 : Hid (FrP (Ck.new pa pb pc) (List.replicate 16 0) 0) := FrP.start
    obtain ⟨c0, hc0⟩ : ∃ c0, Ck.new pa pb pc = c0 := ⟨_, rfl⟩
    have HT0 : Hid (c0.th = []) := hc0 ▸ (rfl : (Ck.new pa pb pc).th = [])
    rw [hc0] at HI0 HP0
    clear HNC hc0
    obtain ⟨mb, hmb⟩ : ∃ mb, p + 1 = mb := ⟨_, rfl⟩
    rw [hmb] at HI0 HM0 hpm
    go_wp2_with fail
    go_loopw [9] (fun i wr => ∃ (j : Nat) (c : Ck) (E : List Int) (O : Obj), j ≤ 300 ∧ i = .int .i64 j ∧ Hid (MapO mb O j (c.th.map (·.1))) ∧ Hid (Has g c w wr [(p, arrO E), (mb, O)]) ∧ Hid (FrP c E j)) (fun i _ => 300 - (intOf i).toNat)
    case atStart => exact ⟨0, c0, _, _, by omega, rfl, by rw [HT0.out]; exact HM0, HI0, HP0⟩
    case round =>
      obtain ⟨j, c, E, O, hj, rfl, HO, HI, HP⟩ := hrel
      by_cases hlt : j < m ∧ j < 300
      · obtain ⟨hlt, h300⟩ := hlt
        have hlL : j < L.length := by rw [HM.out]; exact hlt
        obtain ⟨b, off, rfl, t0, t1⟩ := HX.out wr (Stand.base HI.out) j hlL
        obtain ⟨k, hk⟩ : ∃ k, L[j].1 = k := ⟨_, rfl⟩
        obtain ⟨x, hx⟩ : ∃ x, L[j].2 = x := ⟨_, rfl⟩
        rw [hk] at t0
        rw [hx] at t1
        have hlI : (j : Int) < (m : Int) := by omega
        have h300I : (j : Int) < 300 := by omega
        have HB2 : Hid (Has g c w (wr.alloc (actO k x)) [(wr.heap.size, actO k x), (p, arrO E), (mb, O)]) := Stand.alloc (clockI_res _ _) HI.out _
        obtain ⟨r, hr⟩ : ∃ r, k % 5 = r := ⟨_, rfl⟩
        have hr0 : 0 ≤ r ∧ r < 5 := by omega
        have HAm : Hid (Calls Try.prog 17 #[.int .i64 k, .int .i64 5] (wr.alloc (actO k x)) fun e w' => e = .returned (.int .i64 r) ∧ Hid (Has g c w w' [(wr.heap.size, actO k x), (p, arrO E), (mb, O)])) := (among_any k 5 _ (by omega) (by omega)).mono fun e w' ⟨he, hw⟩ => ⟨hr ▸ he, hw ▸ HB2⟩
        obtain ⟨q, hq⟩ : ∃ q, wr.heap.size = q := ⟨_, rfl⟩
        rw [hq] at HAm HB2
        clear hk hx hr HB2 hlL
        go_wp2_with fail
        try rw [hq]
        refine HAm.out.mono ?_
        rintro e w5 ⟨rfl, H5⟩
        have q5 : w5.cell? ⟨q, 1, none⟩ = some (.int .i64 x) := by rw [cell_of (Stand.at H5.out (List.mem_cons_self ..))]; rfl
        have HD5 : Hid (Has g c w w5 [(p, arrO E), (mb, O)]) := Stand.drop H5.out (fun _ hz => List.mem_cons_of_mem _ hz)
        clear HAm hq t0 t1
        rcases (by omega : r = 0 ∨ r = 1 ∨ r = 2 ∨ r = 3 ∨ r = 4) with rfl | rfl | rfl | rfl | rfl
        · by_cases hk : ∃ i : Nat, x = i ∧ c.ws[i]? = some 0
          · obtain ⟨i, rfl, hi⟩ := hk
            have hi16 : i < 16 := by have := H5.out.ok.few; have := (List.getElem?_eq_some_iff.1 hi).1; omega
            have HE : Hid (Calls Try.prog 18 #[.pointer (some ⟨g, 0, none⟩), .int .i64 (i : Int)] w5 fun e w' => e = .returned (.tuple #[.int .i64 c.now, .int .i64 0]) ∧ Hid (Has g (c.enter i) w w' [(q, actO k i), (p, arrO E), (mb, O)])) := (H5.out.enter hi).mono fun _ _ ⟨he, h⟩ => ⟨he, h⟩
            have hlE : i < E.length := by rw [HP.out.len]; exact hi16
            have HP2 : Hid (FrP (c.enter i) (E.set i (j + 1 : Int)) (j + 1)) := HP.out.enter H5.out.ok hi
            have HO2 : Hid (MapO mb O (j + 1) ((c.enter i).th.map (·.1))) := HO.out.mono (Nat.le_succ j)
            clear hi
            go_wp2_with fail
            refine HE.out.mono ?_
            rintro e w6 ⟨rfl, H6⟩
            have q6 : w6.cell? ⟨q, 1, none⟩ = some (.int .i64 (i : Int)) := by rw [cell_of (Stand.at H6.out (List.mem_cons_self ..))]; rfl
            have hA := Stand.at H6.out (b := p) (o := arrO E) (by simp)
            have a6 : w6.cell? ⟨p, i, none⟩ = some (.int .i64 E[i]) := by rw [cell_of hA, arrO_get hlE]
            have f6 : w6.frozen? ⟨p, i, none⟩ = false := frozen_of hA _
            have HIu : Hid (Has g (c.enter i) w (w6.setCell ⟨p, i, none⟩ (.int .i64 (j + 1 : Int))) [(p, arrO (E.set i (j + 1 : Int))), (mb, O)]) := by
              refine Stand.set (clockI_res _ _) H6.out (b := p) (c := (icells E).toArray) (t := 46) (fz := (0, 0)) (by simp) i _ _ (fun z hz => ?_)
              rcases List.mem_cons.1 hz with rfl | hz
              · right; rw [arrO_set]
              · left; rw [List.mem_singleton.1 hz]; exact ⟨by simp, fun e => hpm e.symm⟩
            have hiI : (0 : Int) ≤ (i : Int) ∧ (i : Int) < 16 := by omega
            have x1 : IntKind.i64.wrap ((j : Int) + 1) = (j : Int) + 1 := wrap_small _ (by omega) (by omega)
            clear HE hA
            go_wp2_with fail
            go_roundw
            case rel => exact ⟨j + 1, _, _, O, by omega, by go_num, HO2, HIu, HP2⟩
            case measure => simp [intOf]; omega
          · have HE : Hid (Calls Try.prog 18 #[.pointer (some ⟨g, 0, none⟩), .int .i64 x] w5 fun e w' => e = .returned (.tuple #[.int .i64 0, .int .i64 100]) ∧ w' = w5) := H5.out.enterNo (fun i e h => hk ⟨i, e, h⟩)
            have HP2 : Hid (FrP c E (j + 1)) := HP.out.later rfl rfl
            have HO2 : Hid (MapO mb O (j + 1) (c.th.map (·.1))) := HO.out.mono (Nat.le_succ j)
            clear hk
            go_wp2_with fail
            refine HE.out.mono ?_
            rintro e u ⟨rfl, rfl⟩
            clear HE
            go_wp2_with fail
            go_roundw
            case rel => exact ⟨j + 1, c, E, O, by omega, by go_num, HO2, HD5, HP2⟩
            case measure => simp [intOf]; omega
        · by_cases hk : ∃ (i : Nat) (e : Int), x = i ∧ c.ws[i]? = some e ∧ e ≠ 0
          · obtain ⟨i, e1, rfl, hi, he1⟩ := hk
            have hi16 : i < 16 := by have := H5.out.ok.few; have := (List.getElem?_eq_some_iff.1 hi).1; omega
            have HE : Hid (Calls Try.prog 19 #[.pointer (some ⟨g, 0, none⟩), .int .i64 (i : Int)] w5 fun e w' => e = .returned (.int .i64 0) ∧ Hid (Has g (c.leave i) w w' [(q, actO k i), (p, arrO E), (mb, O)])) := (H5.out.leave hi he1).mono fun _ _ ⟨he, h⟩ => ⟨he, h⟩
            have hlE : i < E.length := by rw [HP.out.len]; exact hi16
            have HP2 : Hid (FrP (c.leave i) (E.set i 0) (j + 1)) := HP.out.leave i
            have HO2 : Hid (MapO mb O (j + 1) ((c.leave i).th.map (·.1))) := HO.out.mono (Nat.le_succ j)
            clear hi he1
            go_wp2_with fail
            refine HE.out.mono ?_
            rintro e w6 ⟨rfl, H6⟩
            have q6 : w6.cell? ⟨q, 1, none⟩ = some (.int .i64 (i : Int)) := by rw [cell_of (Stand.at H6.out (List.mem_cons_self ..))]; rfl
            have hA := Stand.at H6.out (b := p) (o := arrO E) (by simp)
            have a6 : w6.cell? ⟨p, i, none⟩ = some (.int .i64 E[i]) := by rw [cell_of hA, arrO_get hlE]
            have f6 : w6.frozen? ⟨p, i, none⟩ = false := frozen_of hA _
            have HIu : Hid (Has g (c.leave i) w (w6.setCell ⟨p, i, none⟩ (.int .i64 0)) [(p, arrO (E.set i 0)), (mb, O)]) := by
              refine Stand.set (clockI_res _ _) H6.out (b := p) (c := (icells E).toArray) (t := 46) (fz := (0, 0)) (by simp) i _ _ (fun z hz => ?_)
              rcases List.mem_cons.1 hz with rfl | hz
              · right; rw [arrO_set]
              · left; rw [List.mem_singleton.1 hz]; exact ⟨by simp, fun e => hpm e.symm⟩
            have hiI : (0 : Int) ≤ (i : Int) ∧ (i : Int) < 16 := by omega
            clear HE hA
            go_wp2_with fail
            go_roundw
            case rel => exact ⟨j + 1, _, _, O, by omega, by go_num, HO2, HIu, HP2⟩
            case measure => simp [intOf]; omega
          · have HE : Hid (Calls Try.prog 19 #[.pointer (some ⟨g, 0, none⟩), .int .i64 x] w5 fun e w' => e = .returned (.int .i64 100) ∧ w' = w5) := H5.out.leaveNo (fun i e h1 h2 => Decidable.byContradiction fun h3 => hk ⟨i, e, h1, h2, h3⟩)
            have HP2 : Hid (FrP c E (j + 1)) := HP.out.later rfl rfl
            have HO2 : Hid (MapO mb O (j + 1) (c.th.map (·.1))) := HO.out.mono (Nat.le_succ j)
            clear hk
            go_wp2_with fail
            refine HE.out.mono ?_
            rintro e u ⟨rfl, rfl⟩
            clear HE
            go_wp2_with fail
            go_roundw
            case rel => exact ⟨j + 1, c, E, O, by omega, by go_num, HO2, HD5, HP2⟩
            case measure => simp [intOf]; omega
        · have HE : Hid (Calls Try.prog 16 #[.pointer (some ⟨g, 0, none⟩)] w5 fun e w' => ∃ v, e = .returned v ∧ ∃ c', Hid (c'.ws = c.ws ∧ c'.th = c.th) ∧ Hid (Has g c' w w' [(p, arrO E), (mb, O)])) := HD5.out.adv''
          go_wp2_with fail
          refine HE.out.mono ?_
          rintro e u ⟨v, rfl, c', HC, H6⟩
          have HP2 : Hid (FrP c' E (j + 1)) := HP.out.later HC.out.1 HC.out.2
          have HO2 : Hid (MapO mb O (j + 1) (c'.th.map (·.1))) := by
            rw [HC.out.2]
            exact HO.out.mono (Nat.le_succ j)
          clear HE
          go_wp2_with fail
          go_roundw
          case rel => exact ⟨j + 1, c', E, O, by omega, by go_num, HO2, H6, HP2⟩
          case measure => simp [intOf]; omega
        · by_cases hroom : c.th.length < 4096
          · have HE : Hid (Calls Try.prog 14 #[.pointer (some ⟨g, 0, none⟩), .int .i64 (j : Int)] w5 fun e w' => e = .returned (.int .i64 0) ∧ Hid (Has g (c.retire j) w w' [(p, arrO E), (mb, O)])) := (HD5.out.retire _ hroom).mono fun _ _ ⟨he, h⟩ => ⟨he, h⟩
            have HP2 : Hid (FrP (c.retire j) E (j + 1)) := HP.out.retire HD5.out.ok
            clear hroom
            go_wp2_with fail
            refine HE.out.mono ?_
            rintro e w6 ⟨rfl, H6⟩
            have HMi : Hid (MapIs w6 mb j (c.th.map (·.1))) := HO.out.is (Stand.at H6.out (by simp))
            go_wp2_with (refine wpList_write rfl _ _ _ rfl rfl HMi.out (by omega) rfl rfl (by omega) ?_; intro w7 k1 k2; have K1 : Hid (MapIs w7 mb (j + 1) (c.th.map (·.1) ++ [(j : Int)])) := k1; have K2 : Hid (Turn (fun i => i = mb) w6 w7) := k2; clear k1 k2)
            obtain ⟨O2, ho2, HO3⟩ := K1.out.obj
            have HO2 : Hid (MapO mb O2 (j + 1) ((c.retire j).th.map (·.1))) := by
              show MapO mb O2 (j + 1) ((c.th ++ [((j : Int), c.now)]).map (·.1))
              rw [List.map_append]
              exact HO3
            have HIu : Hid (Has g (c.retire j) w w7 [(p, arrO E), (mb, O2)]) := Stand.write (clockI_res _ _) H6.out (b := mb) (o := O) (by simp) K2.out ho2 _ (fun z hz => by
              rcases List.mem_cons.1 hz with rfl | hz
              · exact Or.inl ⟨by simp, hpm⟩
              · exact Or.inr (List.mem_singleton.1 hz))
            clear ho2 HO3
            go_roundw
            case rel => exact ⟨j + 1, _, E, O2, by omega, by go_num, HO2, HIu, HP2⟩
            case measure => simp [intOf]; omega
          · have HE : Hid (Calls Try.prog 14 #[.pointer (some ⟨g, 0, none⟩), .int .i64 (j : Int)] w5 fun e w' => e = .returned (.int .i64 2) ∧ w' = w5) := HD5.out.retireNo _ (by have := HD5.out.ok.room; omega)
            have HP2 : Hid (FrP c E (j + 1)) := HP.out.later rfl rfl
            have HO2 : Hid (MapO mb O (j + 1) (c.th.map (·.1))) := HO.out.mono (Nat.le_succ j)
            clear hroom
            go_wp2_with fail
            refine HE.out.mono ?_
            rintro e u ⟨rfl, rfl⟩
            clear HE
            go_wp2_with fail
            go_roundw
            case rel => exact ⟨j + 1, c, E, O, by omega, by go_num, HO2, HD5, HP2⟩
            case measure => simp [intOf]; omega
        · obtain ⟨M, hM⟩ : ∃ M, (freed c.snap c.th).map (·.1) = M := ⟨_, rfl⟩
          have HMf : Hid ((freed c.snap c.th).map (·.1) = M) := hM
          have HE : Hid (Calls Try.prog 15 #[.pointer (some ⟨g, 0, none⟩)] w5 fun e w' => ∃ A m, e = .returned (.slice A M.length m) ∧ Hid (Has g c.free w w' [(p, arrO E), (mb, O)]) ∧ Hid (Told g c.free w w' [(p, arrO E), (mb, O)] A M)) := HD5.out.free.mono (by
            rintro e w' ⟨A, m, rfl, h1, h2⟩
            rw [hM] at h2 ⊢
            exact ⟨A, m, rfl, h1, h2⟩)
          have HP2 : Hid (FrP c.free E (j + 1)) := HP.out.free
          have HK2 : Hid ((c.th.map (·.1)).drop M.length = c.free.th.map (·.1)) := (by
            rw [← hM, List.length_map]
            show _ = (c.th.drop _).map (·.1)
            rw [List.map_drop] : _ = _)
          have hMl : M.length ≤ 4096 := by
            rw [← hM, List.length_map]
            exact Nat.le_trans (freed_prefix c.snap c.th).length_le HD5.out.ok.room
          have HOk : Hid c.Ok := HD5.out.ok
          clear hM
          go_wp2_with fail
          refine HE.out.mono ?_
          rintro e w6 ⟨A, m6, rfl, H6, HT6⟩
          clear HE
          by_cases hne : M = []
          · subst hne
            have HO2 : Hid (MapO mb O (j + 1) (c.free.th.map (·.1))) := by
              rw [← HK2.out]
              exact HO.out.mono (Nat.le_succ j)
            go_wp2_with fail
            go_loopw [64] (fun i wq => i = .int .i64 0 ∧ wq = w6) (fun _ _ => 0)
            case atStart => exact ⟨rfl, rfl⟩
            case round =>
              obtain ⟨rfl, hwq⟩ := hrel
              subst hwq
              go_wp2_with fail
              go_roundw
              case rel => exact ⟨j + 1, _, E, O, by omega, by go_num, HO2, H6, HP2⟩
              case measure => simp [intOf]; omega
          · obtain ⟨rb, cur, rfl, hI6, hcells⟩ := HT6.out hne
            have H7 : Hid (Has g c.free w w6 [(rb, .cells cur 3 (0, 0)), (p, arrO E), (mb, O)]) := hI6
            have HCe : Hid (∀ i, (h : i < M.length) → cur[i]? = some (.int .i64 M[i])) := hcells
            obtain ⟨n, hn⟩ : ∃ n, M.length = n := ⟨_, rfl⟩
            have HNl : Hid (M.length = n) := hn
            have hrm : rb ≠ mb := fun e => by
              have h1 := Stand.at hI6 (List.mem_cons_self ..)
              obtain ⟨D, ⟨es, clock, h2, _⟩, _⟩ := HO.out.is (Stand.at hI6 (b := mb) (o := O) (by simp))
              rw [e, h2] at h1
              simp at h1
            rw [hn] at hMl ⊢
            clear hI6 hcells HT6 hne hn
            go_wp2_with fail
            go_loopw [64] (fun i wq => ∃ (y : Nat) (O' : Obj), y ≤ n ∧ i = .int .i64 y ∧ Hid (MapO mb O' j ((c.th.map (·.1)).drop y)) ∧ Hid (Has g c.free w wq [(rb, .cells cur 3 (0, 0)), (p, arrO E), (mb, O')])) (fun i _ => n - (intOf i).toNat)
            case atStart => exact ⟨0, O, Nat.zero_le _, rfl, HO, H7⟩
            case round =>
              obtain ⟨y, O', hy, rfl, HO', H8⟩ := hrel
              by_cases hyn : y < n
              · have hyI : (y : Int) < (n : Int) := by omega
                have hyM : y < M.length := by rw [HNl.out]; exact hyn
                obtain ⟨t, ht⟩ : ∃ t, M[y] = t := ⟨_, rfl⟩
                have q8 : wr.cell? ⟨rb, y, none⟩ = some (.int .i64 t) := by
                  rw [cell_of (Stand.at H8.out (List.mem_cons_self ..)), HCe.out y hyM, ht]
                obtain ⟨d1, d2, d3, d4, d5⟩ := HP.out.told HOk.out (y := y) (x := t) (by rw [HMf.out, List.getElem?_eq_getElem hyM, ht])
                have HMi : Hid (MapIs wr mb j (t :: (c.th.map (·.1)).drop (y + 1))) := by
                  rw [← d1]
                  exact HO'.out.is (Stand.at H8.out (by simp))
                have HD2 : Hid (t ∉ (c.th.map (·.1)).drop (y + 1)) := d2
                have HD5' : Hid (∀ z, (hz : z < E.length) → E[z] = 0 ∨ (1 ≤ E[z] ∧ E[z] ≤ j ∧ ¬ E[z] - 1 < t)) := d5
                have HMm : Hid (t ∈ t :: (c.th.map (·.1)).drop (y + 1)) := List.mem_cons_self ..
                clear d1 d2 d5 ht hyM
                go_wp2_with (first
                  | (refine wpList_look rfl _ _ rfl rfl HMi.out rfl HMm.out (by omega) ?_)
                  | (refine wpList_strike rfl _ _ rfl rfl HMi.out HD2.out rfl (by omega) ?_; intro w9 k1 k2; have K1 : Hid (MapIs w9 mb j ((c.th.map (·.1)).drop (y + 1))) := k1; have K2 : Hid (Turn (fun i => i = mb) wr w9) := k2; clear k1 k2; have HAr : Hid (w9.heap[p]? = some (arrO E)) := (K2.out.block p (Stand.lt H8.out (b := p) (o := arrO E) (by simp)).2 hpm).trans (Stand.at H8.out (by simp)))
                  | (refine wpList_arr rfl _ rfl p rfl E HP.out.len HAr.out ?_))
                obtain ⟨O2, ho2, HO3⟩ := K1.out.obj
                have HO2 : Hid (MapO mb O2 j ((c.th.map (·.1)).drop (y + 1))) := HO3
                have H9 : Hid (Has g c.free w w9 [(rb, .cells cur 3 (0, 0)), (p, arrO E), (mb, O2)]) := Stand.write (clockI_res _ _) H8.out (b := mb) (o := O') (by simp) K2.out ho2 _ (fun z hz => by
                  rcases List.mem_cons.1 hz with rfl | hz
                  · exact Or.inl ⟨by simp, hrm⟩
                  · rcases List.mem_cons.1 hz with rfl | hz
                    · exact Or.inl ⟨by simp, hpm⟩
                    · exact Or.inr (List.mem_singleton.1 hz))
                clear ho2 HO3 K1 K2 HMi
                go_loopw [79] (fun i wq => ∃ z : Nat, z ≤ 16 ∧ i = .int .i64 z ∧ wq = w9) (fun i _ => 16 - (intOf i).toNat)
                case atStart => exact ⟨0, Nat.zero_le _, rfl, rfl⟩
                case round =>
                  obtain ⟨z, hz, rfl, hwq⟩ := hrel
                  subst hwq
                  by_cases hz2 : z < 16
                  · have hzI : (z : Int) < 16 := by omega
                    have hzl : z < E.length := by rw [HP.out.len]; exact hz2
                    obtain ⟨e0, he0⟩ : ∃ e0, E[z] = e0 := ⟨_, rfl⟩
                    have hix : ∀ v, (Instr.index 46 (.agg (icells E).toArray) (.int .i64 (z : Int))).run Try.prog v = .ok (.int .i64 e0) v := fun v => he0 ▸ index_arr HP.out.len hzl v
                    have h5 := HD5'.out z hzl
                    rw [he0] at h5
                    clear he0
                    rcases h5 with rfl | ⟨b1, b2, b3⟩
                    · go_wp2_with fail
                      go_roundw
                      case rel => exact ⟨z + 1, by omega, by go_num, trivial⟩
                      case measure => simp [intOf]; omega
                    · have b4 : 0 < e0 := by omega
                      have x1 : IntKind.i64.wrap (e0 - 1) = e0 - 1 := wrap_small _ (by omega) (by omega)
                      go_wp2_with fail
                      go_roundw
                      case rel => exact ⟨z + 1, by omega, by go_num, trivial⟩
                      case measure => simp [intOf]; omega
                  · have hzI : ¬ (z : Int) < 16 := by omega
                    go_wp2_with fail
                    go_roundw
                    case rel => exact ⟨y + 1, O2, by omega, by go_num, HO2, H9⟩
                    case measure => simp [intOf]; omega
              · have hyI : ¬ (y : Int) < (n : Int) := by omega
                obtain rfl : y = n := by omega
                have HO2 : Hid (MapO mb O' (j + 1) (c.free.th.map (·.1))) := by
                  rw [← HK2.out, HNl.out]
                  exact HO'.out.mono (Nat.le_succ j)
                have H9 : Hid (Has g c.free w wr [(p, arrO E), (mb, O')]) := Stand.drop H8.out (fun _ hz => List.mem_cons_of_mem _ hz)
                go_wp2_with fail
                go_roundw
                case rel => exact ⟨j + 1, _, E, O', by omega, by go_num, HO2, H9, HP2⟩
                case measure => simp [intOf]; omega
      · by_cases h1 : j < m
        · have h300 : ¬ ((j : Int) < 300) := by omega
          have h1I : (j : Int) < (m : Int) := by omega
          go_wp2_with fail
          go_ret
          exact ⟨rfl, Stand.base HI.out⟩
        · have h1I : ¬ ((j : Int) < (m : Int)) := by omega
          go_wp2_with fail
          go_ret
          exact ⟨rfl, Stand.base HI.out⟩
end FreesL
end Go.Proofs.Ytonblbopfbjiaaa
