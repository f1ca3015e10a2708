/- The law EpochBounds: its walk. -/
import Derived.Test.YtonblbopfbjiaaaEArr
namespace Go.Proofs.Ytonblbopfbjiaaa
namespace BoundsL
open Go.RowKit

abbrev planO (a b c : Int) : Obj := .cells #[.int .i64 a, .int .i64 b, .int .i64 c] 23 (0, 0)

set_option maxRecDepth 100000 in
set_option maxHeartbeats 4000000 in
theorem walk (pa pb pc : Int) (v0 : Value) (L : List (Int × Int)) (w : World) (hL : SliceAt w v0 2 enT L) :
    Calls Try.prog 5 #[.agg #[.int .i64 pa, .int .i64 pb, .int .i64 pc], v0] w fun e w' => e = .returned (.bool true) ∧ Below w.heap.size w w' := by
  obtain ⟨av, cv, rfl, hlc, hcm, hx⟩ := acts_open hL
  unfold maxLen at hcm
  have HX : Hid (∀ u, Below w.heap.size w u → ∀ i, (hi : i < L.length) → ∃ b off, av = some ⟨b, off, none⟩ ∧ u.cell? ⟨b, off + i * 2, none⟩ = some (.int .i64 L[i].1) ∧ u.cell? ⟨b, off + i * 2 + 1, none⟩ = some (.int .i64 L[i].2)) := hx
  obtain ⟨m, hm⟩ : ∃ m, L.length = m := ⟨_, rfl⟩
  have HM : Hid (L.length = m) := hm
  rw [hm] at hlc ⊢
  clear hx hL hm
  have hB0 : Below w.heap.size w (w.alloc (planO pa pb pc)) := (Below.refl _ _).alloc (Nat.le_refl _) _
  have HW : Hid (Calls Try.prog 13 #[] (w.alloc (planO pa pb pc)) fun e w' => e = .returned (.bool true) ∧ Below w.heap.size w w' ∧ w'.heap[w.heap.size]? = some (planO pa pb pc)) := (works_any _).mono (by
    rintro e w' ⟨rfl, h⟩
    exact ⟨rfl, hB0.trans (h.mono hB0.size), (h.block _ (by simp)).trans (heap_new w _)⟩)
  clear hB0
  cases hN : newOk pa pb pc with
  | false =>
    go_enter Try.func5, Try.ntmps5
    go_wp2_with fail
    refine HW.out.mono ?_
    rintro e w1 ⟨rfl, hb1, hp1⟩
    have q0 : w1.cell? ⟨w.heap.size, 0, none⟩ = some (.int .i64 pa) := by rw [cell_of hp1]; rfl
    have q1 : w1.cell? ⟨w.heap.size, 1, none⟩ = some (.int .i64 pb) := by rw [cell_of hp1]; rfl
    have q2 : w1.cell? ⟨w.heap.size, 2, none⟩ = some (.int .i64 pc) := by rw [cell_of hp1]; rfl
    have HB : Hid (Below w.heap.size w w1) := hb1
    clear hp1 hb1
    go_wp2_with fail
    refine (new_no _ hN).mono ?_
    rintro e w2 ⟨rfl, rfl⟩
    go_wp2_with fail
    go_ret
    exact ⟨rfl, HB.out⟩
  | true =>
    have HNW : Hid (newOk pa pb pc = true) := hN
    clear hN
    go_enter Try.func5, Try.ntmps5
    go_wp2_with fail
    refine HW.out.mono ?_
    rintro e w1 ⟨rfl, hb1, hp1⟩
    have q0 : w1.cell? ⟨w.heap.size, 0, none⟩ = some (.int .i64 pa) := by rw [cell_of hp1]; rfl
    have q1 : w1.cell? ⟨w.heap.size, 1, none⟩ = some (.int .i64 pb) := by rw [cell_of hp1]; rfl
    have q2 : w1.cell? ⟨w.heap.size, 2, none⟩ = some (.int .i64 pc) := by rw [cell_of hp1]; rfl
    have HNC : Hid (Calls Try.prog 8 #[.int .i64 pa, .int .i64 pb, .int .i64 pc] w1 fun e w' => ∃ g, e = .returned (.tuple #[.pointer (some ⟨g, 0, none⟩), .int .i64 0]) ∧ Has g (Ck.new pa pb pc) w w' [] ∧ Below w1.heap.size w1 w') := has_new hb1 HNW.out
    clear hp1 hb1
    go_wp2_with fail
    refine HNC.out.mono ?_
    rintro e w2 ⟨g, rfl, h2, -⟩
    have HI0 : Hid (Has g (Ck.new pa pb pc) w (w2.alloc (arrO (List.replicate 16 0))) [(w2.heap.size, arrO (arr (Ck.new pa pb pc)))]) := by
      have h := Stand.alloc (clockI_res _ _) h2 (arrO (List.replicate 16 0))
      rw [arr_new HNW.out]
      exact h
    obtain ⟨p, hp⟩ : ∃ p, w2.heap.size = p := ⟨_, rfl⟩
    rw [hp] at HI0
    clear h2 q0 q1 q2
    have HG0 : Hid (Calls Try.prog 11 #[.pointer (some ⟨g, 0, none⟩)] (w2.alloc (arrO (List.replicate 16 0))) fun e w' => e = .returned (.int .i64 (Ck.new pa pb pc).now) ∧ Hid (Has g (Ck.new pa pb pc) w w' [(p, arrO (arr (Ck.new pa pb pc)))])) := HI0.out.global.mono fun e w' ⟨he, hw⟩ => ⟨he, hw ▸ HI0⟩
    obtain ⟨c0, hc0⟩ : ∃ c0, Ck.new pa pb pc = c0 := ⟨_, rfl⟩
    rw [hc0] at HG0
    clear HI0 HNC hc0
    go_wp2_with fail
    try rw [hp]
    refine HG0.out.mono ?_
    rintro e w3 ⟨rfl, HI⟩
    have HS0 : Hid (Calls Try.prog 12 #[.pointer (some ⟨g, 0, none⟩)] w3 fun e w' => e = .returned (.int .i64 c0.snap) ∧ w' = w3) := HI.out.snapshot
    clear HG0 hp
    go_wp2_with fail
    refine HS0.out.mono ?_
    rintro e w4 ⟨rfl, rfl⟩
    clear HS0
    go_wp2_with fail
    go_loopw [8, 9, 10] (fun gl sn i wr => ∃ (j : Nat) (c : Ck), j ≤ 300 ∧ i = .int .i64 j ∧ gl = .int .i64 c.now ∧ sn = .int .i64 c.snap ∧ Hid (Has g c w wr [(p, arrO (arr c))])) (fun _ _ i _ => 300 - (intOf i).toNat)
    case atStart => exact ⟨0, c0, by omega, rfl, rfl, rfl, HI⟩
    case round =>
      clear HI
      obtain ⟨j, c, hj, rfl, rfl, rfl, HI⟩ := hrel
      by_cases hlt : j < m ∧ j < 300
      · obtain ⟨hlt, h300⟩ := hlt
        have hlL : j < L.length := by rw [HM.out]; exact hlt
        obtain ⟨b, off, rfl, t0, t1⟩ := HX.out wr (Stand.base HI.out) j hlL
        obtain ⟨k, hk⟩ : ∃ k, L[j].1 = k := ⟨_, rfl⟩
        obtain ⟨x, hx⟩ : ∃ x, L[j].2 = x := ⟨_, rfl⟩
        rw [hk] at t0
        rw [hx] at t1
        have hlI : (j : Int) < (m : Int) := by omega
        have h300I : (j : Int) < 300 := by omega
        have HB2 : Hid (Has g c w (wr.alloc (actO k x)) [(wr.heap.size, actO k x), (p, arrO (arr c))]) := HI.out.boxAct k x
        obtain ⟨r, hr⟩ : ∃ r, k % 3 = r := ⟨_, rfl⟩
        have hr0 : 0 ≤ r ∧ r < 3 := by omega
        have HAm : Hid (Calls Try.prog 17 #[.int .i64 k, .int .i64 3] (wr.alloc (actO k x)) fun e w' => e = .returned (.int .i64 r) ∧ Hid (Has g c w w' [(wr.heap.size, actO k x), (p, arrO (arr c))])) := (among_any k 3 _ (by omega) (by omega)).mono fun e w' ⟨he, hw⟩ => ⟨hr ▸ he, hw ▸ HB2⟩
        obtain ⟨q, hq⟩ : ∃ q, wr.heap.size = q := ⟨_, rfl⟩
        rw [hq] at HAm HB2
        clear hk hx hr HB2 hlL
        go_wp2_with fail
        try rw [hq]
        refine HAm.out.mono ?_
        rintro e w5 ⟨rfl, H5⟩
        have q5 := H5.out.actCell.2
        clear HAm hq t0 t1
        rcases (by omega : r = 0 ∨ r = 1 ∨ r = 2) with rfl | rfl | rfl
        · by_cases hk : ∃ i : Nat, x = i ∧ c.ws[i]? = some 0
          · obtain ⟨i, rfl, hi⟩ := hk
            have hil : i < c.ws.length := (List.getElem?_eq_some_iff.1 hi).1
            have hi16 : i < 16 := by have := H5.out.ok.few; omega
            have HE : Hid (Calls Try.prog 18 #[.pointer (some ⟨g, 0, none⟩), .int .i64 (i : Int)] w5 fun e w' => e = .returned (.tuple #[.int .i64 c.now, .int .i64 0]) ∧ ∃ c', Hid (c' = c.enter i) ∧ Hid (Steps c c') ∧ Hid (Has g c' w w' [(q, actO k i), (p, arrO (arr c))])) := H5.out.enter' hi
            have hlA : i < (arr c).length := by rw [arr_len H5.out.ok]; exact hi16
            have HR : Hid ((arr c).set i c.now = arr (c.enter i)) := arr_enter hil
            clear hi hil
            go_wp2_with fail
            refine HE.out.mono ?_
            rintro e w6 ⟨rfl, c', HC, HST, H6⟩
            have q6 := H6.out.actCell.2
            obtain ⟨a6, f6⟩ := H6.out.unAct.arrCell hlA
            have HIu : Hid (Has g c' w (w6.setCell ⟨p, i, none⟩ (.int .i64 c.now)) [(p, arrO (arr c'))]) := by
              have h := H6.out.setArr2 i c.now
              rw [HR.out, ← HC.out] at h
              exact h
            have hiI : (0 : Int) ≤ (i : Int) ∧ (i : Int) < 16 := by omega
            clear HE HR
            go_wp2_with fail
            generalize w6.setCell ⟨p, i, none⟩ (.int .i64 c.now) = u at HIu ⊢
            have HO : Hid c'.Ok := HIu.out.ok
            have n1 : ¬ c'.now < c.now := by have := HST.out.now; omega
            have n2 : ¬ c'.snap < c.snap := by have := HST.out.snap; omega
            have n3 : ¬ c'.now ≤ c'.snap := by have := HO.out.snap2; omega
            have n4 : 1 ≤ c'.now := HO.out.now1
            have n5 : c'.now ≤ 2147483648 := HO.out.now2
            have HG1 : Hid (Calls Try.prog 11 #[.pointer (some ⟨g, 0, none⟩)] u fun e w' => e = .returned (.int .i64 c'.now) ∧ w' = u) := HIu.out.global
            have HS1 : Hid (Calls Try.prog 12 #[.pointer (some ⟨g, 0, none⟩)] u fun e w' => e = .returned (.int .i64 c'.snap) ∧ w' = u) := HIu.out.snapshot
            have HAr : Hid (u.heap[p]? = some (arrO (arr c'))) := Stand.at HIu.out (List.mem_singleton.2 rfl)
            refine HG1.out.mono ?_
            rintro e u1 ⟨rfl, rfl⟩
            go_wp2_with fail
            refine HS1.out.mono ?_
            rintro e u2 ⟨rfl, rfl⟩
            go_wp2_with fail
            refine HS1.out.mono ?_
            rintro e u3 ⟨rfl, rfl⟩
            go_wp2_with fail
            refine HG1.out.mono ?_
            rintro e u4 ⟨rfl, rfl⟩
            go_wp2_with fail
            refine HG1.out.mono ?_
            rintro e u5 ⟨rfl, rfl⟩
            go_wp2_with fail
            refine HS1.out.mono ?_
            rintro e u6 ⟨rfl, rfl⟩
            go_wp2_with (refine wpList_arr rfl _ rfl p rfl (arr c') (arr_len HO.out) HAr.out ?_)
            go_loopw [110] (fun i wq => ∃ x : Nat, x ≤ 16 ∧ i = .int .i64 x ∧ wq = u6) (fun i _ => 16 - (intOf i).toNat)
            case atStart => exact ⟨0, Nat.zero_le _, rfl, rfl⟩
            case round =>
              obtain ⟨y, hy, rfl, hwq⟩ := hrel
              subst hwq
              by_cases hy2 : y < 16
              · have hyI : (y : Int) < 16 := by omega
                have hyl : y < (arr c').length := by rw [arr_len HO.out]; exact hy2
                obtain ⟨e0, he0⟩ : ∃ e0, (arr c')[y] = e0 := ⟨_, rfl⟩
                have hix : ∀ v, (Instr.index 46 (.agg (icells (arr c')).toArray) (.int .i64 (y : Int))).run Try.prog v = .ok (.int .i64 e0) v := fun v => he0 ▸ index_arr (arr_len HO.out) hyl v
                have x1 : IntKind.i64.wrap (c'.now - 1) = c'.now - 1 := wrap_small _ (by omega) (by omega)
                rcases arr_all HO.out e0 (he0 ▸ List.getElem_mem hyl) with rfl | ⟨b1, b2, b3⟩
                · clear he0
                  go_wp2_with fail
                  go_roundw
                  case rel => exact ⟨y + 1, by omega, by go_num, trivial⟩
                  case measure => simp [intOf]; omega
                · have hs0 := HO.out.snap1
                  have b4 : 0 < e0 := by omega
                  have b5 : ¬ e0 < c'.now - 1 := by omega
                  have b6 : ¬ c'.now < e0 := by omega
                  have b7 : ¬ e0 ≤ c'.snap := by omega
                  clear he0
                  go_wp2_with fail
                  go_roundw
                  case rel => exact ⟨y + 1, by omega, by go_num, trivial⟩
                  case measure => simp [intOf]; omega
              · have hyI : ¬ (y : Int) < 16 := by omega
                go_wp2_with fail
                go_roundw
                case rel => exact ⟨j + 1, c', by omega, by go_num, rfl, rfl, HIu⟩
                case measure => simp [intOf]; omega
          · have HE : Hid (Calls Try.prog 18 #[.pointer (some ⟨g, 0, none⟩), .int .i64 x] w5 fun e w' => e = .returned (.tuple #[.int .i64 0, .int .i64 100]) ∧ w' = w5) := H5.out.enterNo (fun i e h => hk ⟨i, e, h⟩)
            clear hk
            go_wp2_with fail
            refine HE.out.mono ?_
            rintro e u ⟨rfl, rfl⟩
            clear HE
            obtain ⟨c', hc'⟩ : ∃ c', c' = c := ⟨_, rfl⟩
            have HIu : Hid (Has g c' w u [(p, arrO (arr c'))]) := hc' ▸ H5.out.unAct
            have HST : Hid (Steps c c') := hc' ▸ (⟨Int.le_refl _, Int.le_refl _⟩ : Steps c c)
            clear hc'
            go_wp2_with fail
            have HO : Hid c'.Ok := HIu.out.ok
            have n1 : ¬ c'.now < c.now := by have := HST.out.now; omega
            have n2 : ¬ c'.snap < c.snap := by have := HST.out.snap; omega
            have n3 : ¬ c'.now ≤ c'.snap := by have := HO.out.snap2; omega
            have n4 : 1 ≤ c'.now := HO.out.now1
            have n5 : c'.now ≤ 2147483648 := HO.out.now2
            have HG1 : Hid (Calls Try.prog 11 #[.pointer (some ⟨g, 0, none⟩)] u fun e w' => e = .returned (.int .i64 c'.now) ∧ w' = u) := HIu.out.global
            have HS1 : Hid (Calls Try.prog 12 #[.pointer (some ⟨g, 0, none⟩)] u fun e w' => e = .returned (.int .i64 c'.snap) ∧ w' = u) := HIu.out.snapshot
            have HAr : Hid (u.heap[p]? = some (arrO (arr c'))) := Stand.at HIu.out (List.mem_singleton.2 rfl)
            refine HG1.out.mono ?_
            rintro e u1 ⟨rfl, rfl⟩
            go_wp2_with fail
            refine HS1.out.mono ?_
            rintro e u2 ⟨rfl, rfl⟩
            go_wp2_with fail
            refine HS1.out.mono ?_
            rintro e u3 ⟨rfl, rfl⟩
            go_wp2_with fail
            refine HG1.out.mono ?_
            rintro e u4 ⟨rfl, rfl⟩
            go_wp2_with fail
            refine HG1.out.mono ?_
            rintro e u5 ⟨rfl, rfl⟩
            go_wp2_with fail
            refine HS1.out.mono ?_
            rintro e u6 ⟨rfl, rfl⟩
            go_wp2_with (refine wpList_arr rfl _ rfl p rfl (arr c') (arr_len HO.out) HAr.out ?_)
            go_loopw [110] (fun i wq => ∃ x : Nat, x ≤ 16 ∧ i = .int .i64 x ∧ wq = u6) (fun i _ => 16 - (intOf i).toNat)
            case atStart => exact ⟨0, Nat.zero_le _, rfl, rfl⟩
            case round =>
              obtain ⟨y, hy, rfl, hwq⟩ := hrel
              subst hwq
              by_cases hy2 : y < 16
              · have hyI : (y : Int) < 16 := by omega
                have hyl : y < (arr c').length := by rw [arr_len HO.out]; exact hy2
                obtain ⟨e0, he0⟩ : ∃ e0, (arr c')[y] = e0 := ⟨_, rfl⟩
                have hix : ∀ v, (Instr.index 46 (.agg (icells (arr c')).toArray) (.int .i64 (y : Int))).run Try.prog v = .ok (.int .i64 e0) v := fun v => he0 ▸ index_arr (arr_len HO.out) hyl v
                have x1 : IntKind.i64.wrap (c'.now - 1) = c'.now - 1 := wrap_small _ (by omega) (by omega)
                rcases arr_all HO.out e0 (he0 ▸ List.getElem_mem hyl) with rfl | ⟨b1, b2, b3⟩
                · clear he0
                  go_wp2_with fail
                  go_roundw
                  case rel => exact ⟨y + 1, by omega, by go_num, trivial⟩
                  case measure => simp [intOf]; omega
                · have hs0 := HO.out.snap1
                  have b4 : 0 < e0 := by omega
                  have b5 : ¬ e0 < c'.now - 1 := by omega
                  have b6 : ¬ c'.now < e0 := by omega
                  have b7 : ¬ e0 ≤ c'.snap := by omega
                  clear he0
                  go_wp2_with fail
                  go_roundw
                  case rel => exact ⟨y + 1, by omega, by go_num, trivial⟩
                  case measure => simp [intOf]; omega
              · have hyI : ¬ (y : Int) < 16 := by omega
                go_wp2_with fail
                go_roundw
                case rel => exact ⟨j + 1, c', by omega, by go_num, rfl, rfl, HIu⟩
                case measure => simp [intOf]; omega
        · by_cases hk : ∃ (i : Nat) (e : Int), x = i ∧ c.ws[i]? = some e ∧ e ≠ 0
          · obtain ⟨i, e1, rfl, hi, he1⟩ := hk
            have hil : i < c.ws.length := (List.getElem?_eq_some_iff.1 hi).1
            have hi16 : i < 16 := by have := H5.out.ok.few; omega
            have HE : Hid (Calls Try.prog 19 #[.pointer (some ⟨g, 0, none⟩), .int .i64 (i : Int)] w5 fun e w' => e = .returned (.int .i64 0) ∧ ∃ c', Hid (c' = c.leave i) ∧ Hid (Steps c c') ∧ Hid (Has g c' w w' [(q, actO k i), (p, arrO (arr c))])) := H5.out.leave' hi he1
            have hlA : i < (arr c).length := by rw [arr_len H5.out.ok]; exact hi16
            have HR : Hid ((arr c).set i 0 = arr (c.leave i)) := arr_leave hil
            clear hi hil he1
            go_wp2_with fail
            refine HE.out.mono ?_
            rintro e w6 ⟨rfl, c', HC, HST, H6⟩
            have q6 := H6.out.actCell.2
            obtain ⟨a6, f6⟩ := H6.out.unAct.arrCell hlA
            have HIu : Hid (Has g c' w (w6.setCell ⟨p, i, none⟩ (.int .i64 0)) [(p, arrO (arr c'))]) := by
              have h := H6.out.setArr2 i 0
              rw [HR.out, ← HC.out] at h
              exact h
            have hiI : (0 : Int) ≤ (i : Int) ∧ (i : Int) < 16 := by omega
            clear HE HR
            go_wp2_with fail
            generalize w6.setCell ⟨p, i, none⟩ (.int .i64 0) = u at HIu ⊢
            have HO : Hid c'.Ok := HIu.out.ok
            have n1 : ¬ c'.now < c.now := by have := HST.out.now; omega
            have n2 : ¬ c'.snap < c.snap := by have := HST.out.snap; omega
            have n3 : ¬ c'.now ≤ c'.snap := by have := HO.out.snap2; omega
            have n4 : 1 ≤ c'.now := HO.out.now1
            have n5 : c'.now ≤ 2147483648 := HO.out.now2
            have HG1 : Hid (Calls Try.prog 11 #[.pointer (some ⟨g, 0, none⟩)] u fun e w' => e = .returned (.int .i64 c'.now) ∧ w' = u) := HIu.out.global
            have HS1 : Hid (Calls Try.prog 12 #[.pointer (some ⟨g, 0, none⟩)] u fun e w' => e = .returned (.int .i64 c'.snap) ∧ w' = u) := HIu.out.snapshot
            have HAr : Hid (u.heap[p]? = some (arrO (arr c'))) := Stand.at HIu.out (List.mem_singleton.2 rfl)
            refine HG1.out.mono ?_
            rintro e u1 ⟨rfl, rfl⟩
            go_wp2_with fail
            refine HS1.out.mono ?_
            rintro e u2 ⟨rfl, rfl⟩
            go_wp2_with fail
            refine HS1.out.mono ?_
            rintro e u3 ⟨rfl, rfl⟩
            go_wp2_with fail
            refine HG1.out.mono ?_
            rintro e u4 ⟨rfl, rfl⟩
            go_wp2_with fail
            refine HG1.out.mono ?_
            rintro e u5 ⟨rfl, rfl⟩
            go_wp2_with fail
            refine HS1.out.mono ?_
            rintro e u6 ⟨rfl, rfl⟩
            go_wp2_with (refine wpList_arr rfl _ rfl p rfl (arr c') (arr_len HO.out) HAr.out ?_)
            go_loopw [110] (fun i wq => ∃ x : Nat, x ≤ 16 ∧ i = .int .i64 x ∧ wq = u6) (fun i _ => 16 - (intOf i).toNat)
            case atStart => exact ⟨0, Nat.zero_le _, rfl, rfl⟩
            case round =>
              obtain ⟨y, hy, rfl, hwq⟩ := hrel
              subst hwq
              by_cases hy2 : y < 16
              · have hyI : (y : Int) < 16 := by omega
                have hyl : y < (arr c').length := by rw [arr_len HO.out]; exact hy2
                obtain ⟨e0, he0⟩ : ∃ e0, (arr c')[y] = e0 := ⟨_, rfl⟩
                have hix : ∀ v, (Instr.index 46 (.agg (icells (arr c')).toArray) (.int .i64 (y : Int))).run Try.prog v = .ok (.int .i64 e0) v := fun v => he0 ▸ index_arr (arr_len HO.out) hyl v
                have x1 : IntKind.i64.wrap (c'.now - 1) = c'.now - 1 := wrap_small _ (by omega) (by omega)
                rcases arr_all HO.out e0 (he0 ▸ List.getElem_mem hyl) with rfl | ⟨b1, b2, b3⟩
                · clear he0
                  go_wp2_with fail
                  go_roundw
                  case rel => exact ⟨y + 1, by omega, by go_num, trivial⟩
                  case measure => simp [intOf]; omega
                · have hs0 := HO.out.snap1
                  have b4 : 0 < e0 := by omega
                  have b5 : ¬ e0 < c'.now - 1 := by omega
                  have b6 : ¬ c'.now < e0 := by omega
                  have b7 : ¬ e0 ≤ c'.snap := by omega
                  clear he0
                  go_wp2_with fail
                  go_roundw
                  case rel => exact ⟨y + 1, by omega, by go_num, trivial⟩
                  case measure => simp [intOf]; omega
              · have hyI : ¬ (y : Int) < 16 := by omega
                go_wp2_with fail
                go_roundw
                case rel => exact ⟨j + 1, c', by omega, by go_num, rfl, rfl, HIu⟩
                case measure => simp [intOf]; omega
          · have HE : Hid (Calls Try.prog 19 #[.pointer (some ⟨g, 0, none⟩), .int .i64 x] w5 fun e w' => e = .returned (.int .i64 100) ∧ w' = w5) := H5.out.leaveNo (fun i e h1 h2 => Decidable.byContradiction fun h3 => hk ⟨i, e, h1, h2, h3⟩)
            clear hk
            go_wp2_with fail
            refine HE.out.mono ?_
            rintro e u ⟨rfl, rfl⟩
            clear HE
            obtain ⟨c', hc'⟩ : ∃ c', c' = c := ⟨_, rfl⟩
            have HIu : Hid (Has g c' w u [(p, arrO (arr c'))]) := hc' ▸ H5.out.unAct
            have HST : Hid (Steps c c') := hc' ▸ (⟨Int.le_refl _, Int.le_refl _⟩ : Steps c c)
            clear hc'
            go_wp2_with fail
            have HO : Hid c'.Ok := HIu.out.ok
            have n1 : ¬ c'.now < c.now := by have := HST.out.now; omega
            have n2 : ¬ c'.snap < c.snap := by have := HST.out.snap; omega
            have n3 : ¬ c'.now ≤ c'.snap := by have := HO.out.snap2; omega
            have n4 : 1 ≤ c'.now := HO.out.now1
            have n5 : c'.now ≤ 2147483648 := HO.out.now2
            have HG1 : Hid (Calls Try.prog 11 #[.pointer (some ⟨g, 0, none⟩)] u fun e w' => e = .returned (.int .i64 c'.now) ∧ w' = u) := HIu.out.global
            have HS1 : Hid (Calls Try.prog 12 #[.pointer (some ⟨g, 0, none⟩)] u fun e w' => e = .returned (.int .i64 c'.snap) ∧ w' = u) := HIu.out.snapshot
            have HAr : Hid (u.heap[p]? = some (arrO (arr c'))) := Stand.at HIu.out (List.mem_singleton.2 rfl)
            refine HG1.out.mono ?_
            rintro e u1 ⟨rfl, rfl⟩
            go_wp2_with fail
            refine HS1.out.mono ?_
            rintro e u2 ⟨rfl, rfl⟩
            go_wp2_with fail
            refine HS1.out.mono ?_
            rintro e u3 ⟨rfl, rfl⟩
            go_wp2_with fail
            refine HG1.out.mono ?_
            rintro e u4 ⟨rfl, rfl⟩
            go_wp2_with fail
            refine HG1.out.mono ?_
            rintro e u5 ⟨rfl, rfl⟩
            go_wp2_with fail
            refine HS1.out.mono ?_
            rintro e u6 ⟨rfl, rfl⟩
            go_wp2_with (refine wpList_arr rfl _ rfl p rfl (arr c') (arr_len HO.out) HAr.out ?_)
            go_loopw [110] (fun i wq => ∃ x : Nat, x ≤ 16 ∧ i = .int .i64 x ∧ wq = u6) (fun i _ => 16 - (intOf i).toNat)
            case atStart => exact ⟨0, Nat.zero_le _, rfl, rfl⟩
            case round =>
              obtain ⟨y, hy, rfl, hwq⟩ := hrel
              subst hwq
              by_cases hy2 : y < 16
              · have hyI : (y : Int) < 16 := by omega
                have hyl : y < (arr c').length := by rw [arr_len HO.out]; exact hy2
                obtain ⟨e0, he0⟩ : ∃ e0, (arr c')[y] = e0 := ⟨_, rfl⟩
                have hix : ∀ v, (Instr.index 46 (.agg (icells (arr c')).toArray) (.int .i64 (y : Int))).run Try.prog v = .ok (.int .i64 e0) v := fun v => he0 ▸ index_arr (arr_len HO.out) hyl v
                have x1 : IntKind.i64.wrap (c'.now - 1) = c'.now - 1 := wrap_small _ (by omega) (by omega)
                rcases arr_all HO.out e0 (he0 ▸ List.getElem_mem hyl) with rfl | ⟨b1, b2, b3⟩
                · clear he0
                  go_wp2_with fail
                  go_roundw
                  case rel => exact ⟨y + 1, by omega, by go_num, trivial⟩
                  case measure => simp [intOf]; omega
                · have hs0 := HO.out.snap1
                  have b4 : 0 < e0 := by omega
                  have b5 : ¬ e0 < c'.now - 1 := by omega
                  have b6 : ¬ c'.now < e0 := by omega
                  have b7 : ¬ e0 ≤ c'.snap := by omega
                  clear he0
                  go_wp2_with fail
                  go_roundw
                  case rel => exact ⟨y + 1, by omega, by go_num, trivial⟩
                  case measure => simp [intOf]; omega
              · have hyI : ¬ (y : Int) < 16 := by omega
                go_wp2_with fail
                go_roundw
                case rel => exact ⟨j + 1, c', by omega, by go_num, rfl, rfl, HIu⟩
                case measure => simp [intOf]; omega
        · have HE : Hid (Calls Try.prog 16 #[.pointer (some ⟨g, 0, none⟩)] w5 fun e w' => ∃ v, e = .returned v ∧ ∃ c', Hid (c'.ws = c.ws) ∧ Hid (Steps c c') ∧ Hid (Has g c' w w' [(q, actO k x), (p, arrO (arr c))])) := H5.out.adv'
          go_wp2_with fail
          refine HE.out.mono ?_
          rintro e u ⟨v, rfl, c', HC, HST, H6⟩
          have HIu : Hid (Has g c' w u [(p, arrO (arr c'))]) := by
            rw [arr_ws HC.out]
            exact H6.out.unAct
          clear HE
          go_wp2_with fail
          have HO : Hid c'.Ok := HIu.out.ok
          have n1 : ¬ c'.now < c.now := by have := HST.out.now; omega
          have n2 : ¬ c'.snap < c.snap := by have := HST.out.snap; omega
          have n3 : ¬ c'.now ≤ c'.snap := by have := HO.out.snap2; omega
          have n4 : 1 ≤ c'.now := HO.out.now1
          have n5 : c'.now ≤ 2147483648 := HO.out.now2
          have HG1 : Hid (Calls Try.prog 11 #[.pointer (some ⟨g, 0, none⟩)] u fun e w' => e = .returned (.int .i64 c'.now) ∧ w' = u) := HIu.out.global
          have HS1 : Hid (Calls Try.prog 12 #[.pointer (some ⟨g, 0, none⟩)] u fun e w' => e = .returned (.int .i64 c'.snap) ∧ w' = u) := HIu.out.snapshot
          have HAr : Hid (u.heap[p]? = some (arrO (arr c'))) := Stand.at HIu.out (List.mem_singleton.2 rfl)
          refine HG1.out.mono ?_
          rintro e u1 ⟨rfl, rfl⟩
          go_wp2_with fail
          refine HS1.out.mono ?_
          rintro e u2 ⟨rfl, rfl⟩
          go_wp2_with fail
          refine HS1.out.mono ?_
          rintro e u3 ⟨rfl, rfl⟩
          go_wp2_with fail
          refine HG1.out.mono ?_
          rintro e u4 ⟨rfl, rfl⟩
          go_wp2_with fail
          refine HG1.out.mono ?_
          rintro e u5 ⟨rfl, rfl⟩
          go_wp2_with fail
          refine HS1.out.mono ?_
          rintro e u6 ⟨rfl, rfl⟩
          go_wp2_with (refine wpList_arr rfl _ rfl p rfl (arr c') (arr_len HO.out) HAr.out ?_)
          go_loopw [110] (fun i wq => ∃ x : Nat, x ≤ 16 ∧ i = .int .i64 x ∧ wq = u6) (fun i _ => 16 - (intOf i).toNat)
          case atStart => exact ⟨0, Nat.zero_le _, rfl, rfl⟩
          case round =>
            obtain ⟨y, hy, rfl, hwq⟩ := hrel
            subst hwq
            by_cases hy2 : y < 16
            · have hyI : (y : Int) < 16 := by omega
              have hyl : y < (arr c').length := by rw [arr_len HO.out]; exact hy2
              obtain ⟨e0, he0⟩ : ∃ e0, (arr c')[y] = e0 := ⟨_, rfl⟩
              have hix : ∀ v, (Instr.index 46 (.agg (icells (arr c')).toArray) (.int .i64 (y : Int))).run Try.prog v = .ok (.int .i64 e0) v := fun v => he0 ▸ index_arr (arr_len HO.out) hyl v
              have x1 : IntKind.i64.wrap (c'.now - 1) = c'.now - 1 := wrap_small _ (by omega) (by omega)
              rcases arr_all HO.out e0 (he0 ▸ List.getElem_mem hyl) with rfl | ⟨b1, b2, b3⟩
              · clear he0
                go_wp2_with fail
                go_roundw
                case rel => exact ⟨y + 1, by omega, by go_num, trivial⟩
                case measure => simp [intOf]; omega
              · have hs0 := HO.out.snap1
                have b4 : 0 < e0 := by omega
                have b5 : ¬ e0 < c'.now - 1 := by omega
                have b6 : ¬ c'.now < e0 := by omega
                have b7 : ¬ e0 ≤ c'.snap := by omega
                clear he0
                go_wp2_with fail
                go_roundw
                case rel => exact ⟨y + 1, by omega, by go_num, trivial⟩
                case measure => simp [intOf]; omega
            · have hyI : ¬ (y : Int) < 16 := by omega
              go_wp2_with fail
              go_roundw
              case rel => exact ⟨j + 1, c', by omega, by go_num, rfl, rfl, HIu⟩
              case measure => simp [intOf]; omega
      · by_cases h1 : j < m
        · have h300 : ¬ ((j : Int) < 300) := by omega
          have h1I : (j : Int) < (m : Int) := by omega
          go_wp2_with fail
          go_ret
          exact ⟨rfl, Stand.base HI.out⟩
        · have h1I : ¬ ((j : Int) < (m : Int)) := by omega
          go_wp2_with fail
          go_ret
          exact ⟨rfl, Stand.base HI.out⟩
end BoundsL
end Go.Proofs.Ytonblbopfbjiaaa
