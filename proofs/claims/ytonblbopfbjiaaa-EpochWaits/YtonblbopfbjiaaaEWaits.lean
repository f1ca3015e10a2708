/- The law EpochWaits: its walk. -/
import Derived.Test.YtonblbopfbjiaaaEArr
namespace Go.Proofs.Ytonblbopfbjiaaa
namespace WaitsL
open Go.RowKit

abbrev planO (a b c : Int) : Obj := .cells #[.int .i64 a, .int .i64 b, .int .i64 c] 23 (0, 0)

/-- the first y workers have left -/
structure Gone (c c' : Ck) (y : Nat) : Prop where
  now : c'.now = c.now
  len : c'.ws.length = c.ws.length
  idle : ∀ i, i < y → i < c.ws.length → c'.ws[i]? = some 0
  same : ∀ i, y ≤ i → c'.ws[i]? = c.ws[i]?

theorem Gone.start (c : Ck) : Gone c c 0 := ⟨rfl, rfl, fun _ h => by omega, fun _ _ => rfl⟩
theorem Gone.skip {c c' : Ck} {y : Nat} (h : Gone c c' y) (hy : y < (arr c).length) (h0 : (arr c)[y] = 0) : Gone c c' (y + 1) := by
  refine ⟨h.now, h.len, fun i hi hl => ?_, fun i hi => h.same i (by omega)⟩
  by_cases e : i = y
  · subst e
    rw [h.same i (Nat.le_refl _), List.getElem?_eq_getElem hl]
    have h1 : (arr c)[i] = c.ws[i] := List.getElem_append_left hl
    rw [← h1, h0]
  · exact h.idle i (by omega) hl
theorem Gone.at {c c' : Ck} {y : Nat} (h : Gone c c' y) (hy : y < (arr c).length) (h0 : (arr c)[y] ≠ 0) : y < c.ws.length ∧ c'.ws[y]? = some (arr c)[y] := by
  have hl : y < c.ws.length := by
    rcases Nat.lt_or_ge y c.ws.length with h1 | h1
    · exact h1
    · exfalso
      apply h0
      have : (arr c)[y] = (List.replicate (16 - c.ws.length) (0 : Int))[y - c.ws.length]'(by
        rw [arr, List.length_append] at hy
        omega) := List.getElem_append_right h1
      rw [this, List.getElem_replicate]
  refine ⟨hl, ?_⟩
  have h1 : (arr c)[y] = c.ws[y] := List.getElem_append_left hl
  rw [h.same y (Nat.le_refl _), h1, List.getElem?_eq_getElem hl]
theorem Gone.next {c c' : Ck} {y : Nat} (h : Gone c c' y) (hl : y < c.ws.length) : Gone c (c'.leave y) (y + 1) := by
  refine ⟨h.now, ?_, fun i hi hil => ?_, fun i hi => ?_⟩
  · show (c'.ws.set y 0).length = _
    rw [List.length_set, h.len]
  · show (c'.ws.set y 0)[i]? = _
    by_cases e : y = i
    · subst e
      rw [List.getElem?_set_self (by rw [h.len]; exact hl)]
    · rw [List.getElem?_set_ne e]
      exact h.idle i (by omega) hil
  · show (c'.ws.set y 0)[i]? = _
    rw [List.getElem?_set_ne (by omega)]
    exact h.same i (by omega)
theorem Gone.late {c c' : Ck} (h : Gone c c' 16) (ho : c.Ok) : c'.late = false := by
  refine lates_iff.2 fun e he => Or.inl ?_
  obtain ⟨i, hi, rfl⟩ := List.getElem_of_mem he
  have h1 := h.idle i (by have := ho.few; have := h.len; omega) (by rw [← h.len]; exact hi)
  rw [List.getElem?_eq_getElem hi] at h1
  injection h1

set_option maxRecDepth 100000 in
set_option maxHeartbeats 4000000 in
theorem walk (pa pb pc : Int) (v0 : Value) (L : List (Int × Int)) (w : World) (hL : SliceAt w v0 2 enT L) :
    Calls Try.prog 7 #[.agg #[.int .i64 pa, .int .i64 pb, .int .i64 pc], v0] w fun e w' => e = .returned (.bool true) ∧ Below w.heap.size w w' := by
  obtain ⟨av, cv, rfl, hlc, hcm, hx⟩ := acts_open hL
  unfold maxLen at hcm
  have HX : Hid (∀ u, Below w.heap.size w u → ∀ i, (hi : i < L.length) → ∃ b off, av = some ⟨b, off, none⟩ ∧ u.cell? ⟨b, off + i * 2, none⟩ = some (.int .i64 L[i].1) ∧ u.cell? ⟨b, off + i * 2 + 1, none⟩ = some (.int .i64 L[i].2)) := hx
  obtain ⟨m, hm⟩ : ∃ m, L.length = m := ⟨_, rfl⟩
  have HM : Hid (L.length = m) := hm
  rw [hm] at hlc ⊢
  clear hx hL hm
  have hB0 : Below w.heap.size w (w.alloc (planO pa pb pc)) := (Below.refl _ _).alloc (Nat.le_refl _) _
  have HW : Hid (Calls Try.prog 13 #[] (w.alloc (planO pa pb pc)) fun e w' => e = .returned (.bool true) ∧ Below w.heap.size w w' ∧ w'.heap[w.heap.size]? = some (planO pa pb pc)) := (works_any _).mono (by
    rintro e w' ⟨rfl, h⟩
    exact ⟨rfl, hB0.trans (h.mono hB0.size), (h.block _ (by simp)).trans (heap_new w _)⟩)
  clear hB0
  cases hN : newOk pa pb pc with
  | false =>
    go_enter Try.func7, Try.ntmps7
    go_wp2_with fail
    refine HW.out.mono ?_
    rintro e w1 ⟨rfl, hb1, hp1⟩
    have q0 : w1.cell? ⟨w.heap.size, 0, none⟩ = some (.int .i64 pa) := by rw [cell_of hp1]; rfl
    have q1 : w1.cell? ⟨w.heap.size, 1, none⟩ = some (.int .i64 pb) := by rw [cell_of hp1]; rfl
    have q2 : w1.cell? ⟨w.heap.size, 2, none⟩ = some (.int .i64 pc) := by rw [cell_of hp1]; rfl
    have HB : Hid (Below w.heap.size w w1) := hb1
    clear hp1 hb1
    go_wp2_with fail
    refine (new_no _ hN).mono ?_
    rintro e w2 ⟨rfl, rfl⟩
    go_wp2_with fail
    go_ret
    exact ⟨rfl, HB.out⟩
  | true =>
    have HNW : Hid (newOk pa pb pc = true) := hN
    clear hN
    go_enter Try.func7, Try.ntmps7
    go_wp2_with fail
    refine HW.out.mono ?_
    rintro e w1 ⟨rfl, hb1, hp1⟩
    have q0 : w1.cell? ⟨w.heap.size, 0, none⟩ = some (.int .i64 pa) := by rw [cell_of hp1]; rfl
    have q1 : w1.cell? ⟨w.heap.size, 1, none⟩ = some (.int .i64 pb) := by rw [cell_of hp1]; rfl
    have q2 : w1.cell? ⟨w.heap.size, 2, none⟩ = some (.int .i64 pc) := by rw [cell_of hp1]; rfl
    have HNC : Hid (Calls Try.prog 8 #[.int .i64 pa, .int .i64 pb, .int .i64 pc] w1 fun e w' => ∃ g, e = .returned (.tuple #[.pointer (some ⟨g, 0, none⟩), .int .i64 0]) ∧ Has g (Ck.new pa pb pc) w w' [] ∧ Below w1.heap.size w1 w') := has_new hb1 HNW.out
    clear hp1 hb1
    go_wp2_with fail
    refine HNC.out.mono ?_
    rintro e w2 ⟨g, rfl, h2, -⟩
    have HI0 : Hid (Has g (Ck.new pa pb pc) w (w2.alloc (arrO (List.replicate 16 0))) [(w2.heap.size, arrO (arr (Ck.new pa pb pc)))]) := by
      have h := Stand.alloc (clockI_res _ _) h2 (arrO (List.replicate 16 0))
      rw [arr_new HNW.out]
      exact h
    obtain ⟨p, hp⟩ : ∃ p, w2.heap.size = p := ⟨_, rfl⟩
    rw [hp] at HI0
    clear h2 q0 q1 q2
    have HI0' : Hid (Has g (Ck.new pa pb pc) w (w2.alloc (arrO (List.replicate 16 0))) [(p, arrO (arr (Ck.new pa pb pc)))]) := HI0
    clear HI0 HNC
    go_wp2_with fail
    go_loopw [8] (fun i wr => ∃ (j : Nat) (c : Ck), j ≤ 300 ∧ i = .int .i64 j ∧ Hid (Has g c w wr [(p, arrO (arr c))])) (fun i _ => 300 - (intOf i).toNat)
    case atStart => exact ⟨0, _, by omega, rfl, HI0'⟩
    case round =>
      obtain ⟨j, c, hj, rfl, HI⟩ := hrel
      by_cases hlt : j < m ∧ j < 300
      · obtain ⟨hlt, h300⟩ := hlt
        have hlL : j < L.length := by rw [HM.out]; exact hlt
        obtain ⟨b, off, rfl, t0, t1⟩ := HX.out wr (Stand.base HI.out) j hlL
        obtain ⟨k, hk⟩ : ∃ k, L[j].1 = k := ⟨_, rfl⟩
        obtain ⟨x, hx⟩ : ∃ x, L[j].2 = x := ⟨_, rfl⟩
        rw [hk] at t0
        rw [hx] at t1
        have hlI : (j : Int) < (m : Int) := by omega
        have h300I : (j : Int) < 300 := by omega
        have HB2 : Hid (Has g c w (wr.alloc (actO k x)) [(wr.heap.size, actO k x), (p, arrO (arr c))]) := HI.out.boxAct k x
        obtain ⟨r, hr⟩ : ∃ r, k % 3 = r := ⟨_, rfl⟩
        have hr0 : 0 ≤ r ∧ r < 3 := by omega
        have HAm : Hid (Calls Try.prog 17 #[.int .i64 k, .int .i64 3] (wr.alloc (actO k x)) fun e w' => e = .returned (.int .i64 r) ∧ Hid (Has g c w w' [(wr.heap.size, actO k x), (p, arrO (arr c))])) := (among_any k 3 _ (by omega) (by omega)).mono fun e w' ⟨he, hw⟩ => ⟨hr ▸ he, hw ▸ HB2⟩
        obtain ⟨q, hq⟩ : ∃ q, wr.heap.size = q := ⟨_, rfl⟩
        rw [hq] at HAm HB2
        clear hk hx hr HB2 hlL
        go_wp2_with fail
        try rw [hq]
        refine HAm.out.mono ?_
        rintro e w5 ⟨rfl, H5⟩
        have q5 := H5.out.actCell.2
        clear HAm hq t0 t1
        rcases (by omega : r = 0 ∨ r = 1 ∨ r = 2) with rfl | rfl | rfl
        · by_cases hk : ∃ i : Nat, x = i ∧ c.ws[i]? = some 0
          · obtain ⟨i, rfl, hi⟩ := hk
            have hil : i < c.ws.length := (List.getElem?_eq_some_iff.1 hi).1
            have hi16 : i < 16 := by have := H5.out.ok.few; omega
            have HE : Hid (Calls Try.prog 18 #[.pointer (some ⟨g, 0, none⟩), .int .i64 (i : Int)] w5 fun e w' => e = .returned (.tuple #[.int .i64 c.now, .int .i64 0]) ∧ ∃ c', Hid (c' = c.enter i) ∧ Hid (Steps c c') ∧ Hid (Has g c' w w' [(q, actO k i), (p, arrO (arr c))])) := H5.out.enter' hi
            have hlA : i < (arr c).length := by rw [arr_len H5.out.ok]; exact hi16
            have HR : Hid ((arr c).set i c.now = arr (c.enter i)) := arr_enter hil
            clear hi hil
            go_wp2_with fail
            refine HE.out.mono ?_
            rintro e w6 ⟨rfl, c', HC, HST, H6⟩
            have q6 := H6.out.actCell.2
            obtain ⟨a6, f6⟩ := H6.out.unAct.arrCell hlA
            have HIu : Hid (Has g c' w (w6.setCell ⟨p, i, none⟩ (.int .i64 c.now)) [(p, arrO (arr c'))]) := by
              have h := H6.out.setArr2 i c.now
              rw [HR.out, ← HC.out] at h
              exact h
            have hiI : (0 : Int) ≤ (i : Int) ∧ (i : Int) < 16 := by omega
            clear HE HR
            go_wp2_with fail
            go_roundw
            case rel => exact ⟨j + 1, c', by omega, by go_num, HIu⟩
            case measure => simp [intOf]; omega
          · have HE : Hid (Calls Try.prog 18 #[.pointer (some ⟨g, 0, none⟩), .int .i64 x] w5 fun e w' => e = .returned (.tuple #[.int .i64 0, .int .i64 100]) ∧ w' = w5) := H5.out.enterNo (fun i e h => hk ⟨i, e, h⟩)
            clear hk
            go_wp2_with fail
            refine HE.out.mono ?_
            rintro e u ⟨rfl, rfl⟩
            clear HE
            obtain ⟨c', hc'⟩ : ∃ c', c' = c := ⟨_, rfl⟩
            have HIu : Hid (Has g c' w u [(p, arrO (arr c'))]) := hc' ▸ H5.out.unAct
            have HST : Hid (Steps c c') := hc' ▸ (⟨Int.le_refl _, Int.le_refl _⟩ : Steps c c)
            clear hc'
            go_wp2_with fail
            go_roundw
            case rel => exact ⟨j + 1, c', by omega, by go_num, HIu⟩
            case measure => simp [intOf]; omega
        · by_cases hk : ∃ (i : Nat) (e : Int), x = i ∧ c.ws[i]? = some e ∧ e ≠ 0
          · obtain ⟨i, e1, rfl, hi, he1⟩ := hk
            have hil : i < c.ws.length := (List.getElem?_eq_some_iff.1 hi).1
            have hi16 : i < 16 := by have := H5.out.ok.few; omega
            have HE : Hid (Calls Try.prog 19 #[.pointer (some ⟨g, 0, none⟩), .int .i64 (i : Int)] w5 fun e w' => e = .returned (.int .i64 0) ∧ ∃ c', Hid (c' = c.leave i) ∧ Hid (Steps c c') ∧ Hid (Has g c' w w' [(q, actO k i), (p, arrO (arr c))])) := H5.out.leave' hi he1
            have hlA : i < (arr c).length := by rw [arr_len H5.out.ok]; exact hi16
            have HR : Hid ((arr c).set i 0 = arr (c.leave i)) := arr_leave hil
            clear hi hil he1
            go_wp2_with fail
            refine HE.out.mono ?_
            rintro e w6 ⟨rfl, c', HC, HST, H6⟩
            have q6 := H6.out.actCell.2
            obtain ⟨a6, f6⟩ := H6.out.unAct.arrCell hlA
            have HIu : Hid (Has g c' w (w6.setCell ⟨p, i, none⟩ (.int .i64 0)) [(p, arrO (arr c'))]) := by
              have h := H6.out.setArr2 i 0
              rw [HR.out, ← HC.out] at h
              exact h
            have hiI : (0 : Int) ≤ (i : Int) ∧ (i : Int) < 16 := by omega
            clear HE HR
            go_wp2_with fail
            go_roundw
            case rel => exact ⟨j + 1, c', by omega, by go_num, HIu⟩
            case measure => simp [intOf]; omega
          · have HE : Hid (Calls Try.prog 19 #[.pointer (some ⟨g, 0, none⟩), .int .i64 x] w5 fun e w' => e = .returned (.int .i64 100) ∧ w' = w5) := H5.out.leaveNo (fun i e h1 h2 => Decidable.byContradiction fun h3 => hk ⟨i, e, h1, h2, h3⟩)
            clear hk
            go_wp2_with fail
            refine HE.out.mono ?_
            rintro e u ⟨rfl, rfl⟩
            clear HE
            obtain ⟨c', hc'⟩ : ∃ c', c' = c := ⟨_, rfl⟩
            have HIu : Hid (Has g c' w u [(p, arrO (arr c'))]) := hc' ▸ H5.out.unAct
            have HST : Hid (Steps c c') := hc' ▸ (⟨Int.le_refl _, Int.le_refl _⟩ : Steps c c)
            clear hc'
            go_wp2_with fail
            go_roundw
            case rel => exact ⟨j + 1, c', by omega, by go_num, HIu⟩
            case measure => simp [intOf]; omega
        · have HO : Hid c.Ok := H5.out.ok
          have HIu : Hid (Has g c w w5 [(p, arrO (arr c))]) := H5.out.unAct
          have HAr : Hid (w5.heap[p]? = some (arrO (arr c))) := Stand.at HIu.out (List.mem_singleton.2 rfl)
          have HG1 : Hid (Calls Try.prog 11 #[.pointer (some ⟨g, 0, none⟩)] w5 fun e w' => e = .returned (.int .i64 c.now) ∧ w' = w5) := HIu.out.global
          go_wp2_with (refine wpList_arr rfl _ rfl p rfl (arr c) (arr_len HO.out) HAr.out ?_)
          go_loopw [12, 64] (fun bh i wq => ∃ y : Nat, y ≤ 16 ∧ i = .int .i64 y ∧ bh = .bool (lates c.now ((arr c).take y)) ∧ wq = w5) (fun _ i _ => 16 - (intOf i).toNat)
          case atStart => exact ⟨0, Nat.zero_le _, rfl, rfl, rfl⟩
          case round =>
            obtain ⟨y, hy, rfl, rfl, hwq⟩ := hrel
            subst hwq
            by_cases hy2 : y < 16
            · have hyI : (y : Int) < 16 := by omega
              have hyl : y < (arr c).length := by rw [arr_len HO.out]; exact hy2
              obtain ⟨e0, he0⟩ : ∃ e0, (arr c)[y] = e0 := ⟨_, rfl⟩
              have hix : ∀ v, (Instr.index 46 (.agg (icells (arr c)).toArray) (.int .i64 (y : Int))).run Try.prog v = .ok (.int .i64 e0) v := fun v => he0 ▸ index_arr (arr_len HO.out) hyl v
              have HNx : Hid (lates c.now ((arr c).take (y + 1)) = (lates c.now ((arr c).take y) || (e0 != 0 && decide (e0 < c.now)))) := he0 ▸ lates_take_next hyl
              have h0 : e0 = 0 ∨ 0 < e0 := by
                have h1 := HO.out.snap1
                rcases arr_all HO.out e0 (he0 ▸ List.getElem_mem hyl) with h | h
                · exact Or.inl h
                · right; omega
              clear he0
              cases hbh : lates c.now ((arr c).take y) with
              | true =>
                have HN2 : Hid (lates c.now ((arr c).take (y + 1)) = true) := (by rw [HNx.out, hbh, Bool.true_or] : _ = _)
                clear hbh
                go_wp2_with fail
                go_roundw
                case rel => exact ⟨y + 1, by omega, by go_num, by rw [HN2.out], trivial⟩
                case measure => simp [intOf]; omega
              | false =>
                rcases h0 with rfl | h0
                · have HN2 : Hid (lates c.now ((arr c).take (y + 1)) = false) := (by rw [HNx.out, hbh]; rfl : _ = _)
                  clear hbh
                  go_wp2_with fail
                  go_roundw
                  case rel => exact ⟨y + 1, by omega, by go_num, by rw [HN2.out], trivial⟩
                  case measure => simp [intOf]; omega
                · obtain ⟨d, hd⟩ : ∃ d, decide (e0 < c.now) = d := ⟨_, rfl⟩
                  have HN2 : Hid (lates c.now ((arr c).take (y + 1)) = d) := (by rw [HNx.out, hbh, bne_iff_ne.2 (by omega : e0 ≠ 0), hd, Bool.true_and, Bool.false_or] : _ = _)
                  clear hbh HNx
                  go_wp2_with fail
                  refine HG1.out.mono ?_
                  rintro e u1 ⟨rfl, rfl⟩
                  cases d with
                  | true =>
                    have hd' : e0 < c.now := of_decide_eq_true hd
                    go_wp2_with fail
                    go_roundw
                    case rel => exact ⟨y + 1, by omega, by go_num, by rw [HN2.out], trivial⟩
                    case measure => simp [intOf]; omega
                  | false =>
                    have hd' : ¬ e0 < c.now := of_decide_eq_false hd
                    go_wp2_with fail
                    go_roundw
                    case rel => exact ⟨y + 1, by omega, by go_num, by rw [HN2.out], trivial⟩
                    case measure => simp [intOf]; omega
            · have hyI : ¬ (y : Int) < 16 := by omega
              obtain rfl : y = 16 := by omega
              have HLt : Hid (lates c.now ((arr c).take 16) = c.late) := (by rw [List.take_of_length_le (by rw [arr_len HO.out]; exact Nat.le_refl _), arr_late] : _ = _)
              have n4 := HO.out.now1
              have n5 := HO.out.now2
              by_cases hn : c.now = 2147483648
              · have HE : Hid (Calls Try.prog 16 #[.pointer (some ⟨g, 0, none⟩)] wr fun e w' => e = .returned (.tuple #[.bool false, .int .i64 1]) ∧ Hid (Has g c w w' [(p, arrO (arr c))])) := (HIu.out.last hn).mono fun _ _ ⟨he, h⟩ => ⟨he, h⟩
                have HG2 : Hid (Calls Try.prog 11 #[.pointer (some ⟨g, 0, none⟩)] wr fun e w' => e = .returned (.int .i64 2147483648) ∧ w' = wr) := HG1.out.mono fun _ _ ⟨he, h⟩ => ⟨hn ▸ he, h⟩
                clear hn n4 n5
                go_wp2_with fail
                refine HG2.out.mono ?_
                rintro e u1 ⟨rfl, rfl⟩
                go_wp2_with fail
                refine HE.out.mono ?_
                rintro e w7 ⟨rfl, H7⟩
                go_wp2_with fail
                go_roundw
                case rel => exact ⟨j + 1, c, by omega, by go_num, H7⟩
                case measure => simp [intOf]; omega
              · have hnb : (c.now == 2147483648) = false := by simpa using hn
                have x1 : IntKind.i64.wrap (c.now + 1) = c.now + 1 := wrap_small _ (by omega) (by omega)
                cases hl : c.late with
                | true =>
                  have HE : Hid (Calls Try.prog 16 #[.pointer (some ⟨g, 0, none⟩)] wr fun e w' => e = .returned (.tuple #[.bool false, .int .i64 0]) ∧ Hid (Has g c w w' [(p, arrO (arr c))])) := (HIu.out.late hn hl).mono fun _ _ ⟨he, h⟩ => ⟨he, h⟩
                  have hne : (c.now == c.now + 1) = false := by rw [beq_eq_false_iff_ne]; omega
                  rw [HLt.out, hl]
                  clear hn hl
                  go_wp2_with fail
                  refine HG1.out.mono ?_
                  rintro e u1 ⟨rfl, rfl⟩
                  go_wp2_with fail
                  refine HE.out.mono ?_
                  rintro e w7 ⟨rfl, H7⟩
                  have HG2 : Hid (Calls Try.prog 11 #[.pointer (some ⟨g, 0, none⟩)] w7 fun e w' => e = .returned (.int .i64 c.now) ∧ w' = w7) := H7.out.global
                  go_wp2_with fail
                  refine HG2.out.mono ?_
                  rintro e w8 ⟨rfl, rfl⟩
                  go_wp2_with fail
                  go_roundw
                  case rel => exact ⟨j + 1, c, by omega, by go_num, H7⟩
                  case measure => simp [intOf]; omega
                | false =>
                  have HE : Hid (Calls Try.prog 16 #[.pointer (some ⟨g, 0, none⟩)] wr fun e w' => e = .returned (.tuple #[.bool true, .int .i64 0]) ∧ Hid (Has g c.rise w w' [(p, arrO (arr c.rise))])) := (HIu.out.rise hn hl).mono fun _ _ ⟨he, h⟩ => ⟨he, h⟩
                  rw [HLt.out, hl]
                  clear hn hl
                  go_wp2_with fail
                  refine HG1.out.mono ?_
                  rintro e u1 ⟨rfl, rfl⟩
                  go_wp2_with fail
                  refine HE.out.mono ?_
                  rintro e w7 ⟨rfl, H7⟩
                  have HG2 : Hid (Calls Try.prog 11 #[.pointer (some ⟨g, 0, none⟩)] w7 fun e w' => e = .returned (.int .i64 (c.now + 1)) ∧ w' = w7) := H7.out.global
                  go_wp2_with fail
                  refine HG2.out.mono ?_
                  rintro e w8 ⟨rfl, rfl⟩
                  go_wp2_with fail
                  go_roundw
                  case rel => exact ⟨j + 1, c.rise, by omega, by go_num, H7⟩
                  case measure => simp [intOf]; omega
      · by_cases h1 : j < m
        · have h300 : ¬ ((j : Int) < 300) := by omega
          have h1I : (j : Int) < (m : Int) := by omega
          have HO : Hid c.Ok := HI.out.ok
          have HAr : Hid (wr.heap[p]? = some (arrO (arr c))) := Stand.at HI.out (List.mem_singleton.2 rfl)
          go_wp2_with (refine wpList_arr rfl _ rfl p rfl (arr c) (arr_len HO.out) HAr.out ?_)
          go_loopw [135] (fun i wq => ∃ (y : Nat) (c' : Ck), y ≤ 16 ∧ i = .int .i64 y ∧ Hid (Gone c c' y) ∧ Hid (Has g c' w wq [(p, arrO (arr c))])) (fun i _ => 16 - (intOf i).toNat)
          case atStart => exact ⟨0, c, Nat.zero_le _, rfl, Gone.start c, HI⟩
          case round =>
            obtain ⟨y, c', hy, rfl, HGn, HI2⟩ := hrel
            by_cases hy2 : y < 16
            · have hyI : (y : Int) < 16 := by omega
              have hyl : y < (arr c).length := by rw [arr_len HO.out]; exact hy2
              obtain ⟨e0, he0⟩ : ∃ e0, (arr c)[y] = e0 := ⟨_, rfl⟩
              have hix : ∀ v, (Instr.index 46 (.agg (icells (arr c)).toArray) (.int .i64 (y : Int))).run Try.prog v = .ok (.int .i64 e0) v := fun v => he0 ▸ index_arr (arr_len HO.out) hyl v
              rcases arr_all HO.out e0 (he0 ▸ List.getElem_mem hyl) with rfl | ⟨b1, b2, b3⟩
              · have HG2 : Hid (Gone c c' (y + 1)) := HGn.out.skip hyl he0
                clear he0
                go_wp2_with fail
                go_roundw
                case rel => exact ⟨y + 1, c', by omega, by go_num, HG2, HI2⟩
                case measure => simp [intOf]; omega
              · have hs0 := HO.out.snap1
                have b4 : 0 < e0 := by omega
                have h9 := HGn.out.at hyl (by rw [he0]; omega)
                rw [he0] at h9
                have HG2 : Hid (Gone c (c'.leave y) (y + 1)) := HGn.out.next h9.1
                have HE : Hid (Calls Try.prog 19 #[.pointer (some ⟨g, 0, none⟩), .int .i64 (y : Int)] wr fun e w' => e = .returned (.int .i64 0) ∧ Hid (Has g (c'.leave y) w w' [(p, arrO (arr c))])) := (HI2.out.leave h9.2 (by omega)).mono fun _ _ ⟨he, h⟩ => ⟨he, h⟩
                clear he0 h9
                go_wp2_with fail
                refine HE.out.mono ?_
                rintro e w7 ⟨rfl, H7⟩
                go_wp2_with fail
                go_roundw
                case rel => exact ⟨y + 1, c'.leave y, by omega, by go_num, HG2, H7⟩
                case measure => simp [intOf]; omega
            · have hyI : ¬ (y : Int) < 16 := by omega
              obtain rfl : y = 16 := by omega
              by_cases hn : c'.now = 2147483648
              · have HE : Hid (Calls Try.prog 16 #[.pointer (some ⟨g, 0, none⟩)] wr fun e w' => e = .returned (.tuple #[.bool false, .int .i64 1]) ∧ Hid (Has g c' w w' [(p, arrO (arr c))])) := (HI2.out.last hn).mono fun _ _ ⟨he, h⟩ => ⟨he, h⟩
                have HNow : Hid (c'.now = 2147483648) := hn
                clear hn
                go_wp2_with fail
                refine HE.out.mono ?_
                rintro e w7 ⟨rfl, H7⟩
                have HG1 : Hid (Calls Try.prog 11 #[.pointer (some ⟨g, 0, none⟩)] w7 fun e w' => e = .returned (.int .i64 2147483648) ∧ w' = w7) := H7.out.global.mono fun _ _ ⟨he, h⟩ => ⟨HNow.out ▸ he, h⟩
                go_wp2_with fail
                refine HG1.out.mono ?_
                rintro e w8 ⟨rfl, rfl⟩
                go_wp2_with fail
                go_ret
                exact ⟨rfl, Stand.base H7.out⟩
              · have HE : Hid (Calls Try.prog 16 #[.pointer (some ⟨g, 0, none⟩)] wr fun e w' => e = .returned (.tuple #[.bool true, .int .i64 0]) ∧ Hid (Has g c'.rise w w' [(p, arrO (arr c))])) := (HI2.out.rise hn (HGn.out.late HO.out)).mono fun _ _ ⟨he, h⟩ => ⟨he, h⟩
                clear hn
                go_wp2_with fail
                refine HE.out.mono ?_
                rintro e w7 ⟨rfl, H7⟩
                go_wp2_with fail
                go_ret
                exact ⟨rfl, Stand.base H7.out⟩
        · have h1I : ¬ ((j : Int) < (m : Int)) := by omega
          have HO : Hid c.Ok := HI.out.ok
          have HAr : Hid (wr.heap[p]? = some (arrO (arr c))) := Stand.at HI.out (List.mem_singleton.2 rfl)
          go_wp2_with (refine wpList_arr rfl _ rfl p rfl (arr c) (arr_len HO.out) HAr.out ?_)
          go_loopw [135] (fun i wq => ∃ (y : Nat) (c' : Ck), y ≤ 16 ∧ i = .int .i64 y ∧ Hid (Gone c c' y) ∧ Hid (Has g c' w wq [(p, arrO (arr c))])) (fun i _ => 16 - (intOf i).toNat)
          case atStart => exact ⟨0, c, Nat.zero_le _, rfl, Gone.start c, HI⟩
          case round =>
            obtain ⟨y, c', hy, rfl, HGn, HI2⟩ := hrel
            by_cases hy2 : y < 16
            · have hyI : (y : Int) < 16 := by omega
              have hyl : y < (arr c).length := by rw [arr_len HO.out]; exact hy2
              obtain ⟨e0, he0⟩ : ∃ e0, (arr c)[y] = e0 := ⟨_, rfl⟩
              have hix : ∀ v, (Instr.index 46 (.agg (icells (arr c)).toArray) (.int .i64 (y : Int))).run Try.prog v = .ok (.int .i64 e0) v := fun v => he0 ▸ index_arr (arr_len HO.out) hyl v
              rcases arr_all HO.out e0 (he0 ▸ List.getElem_mem hyl) with rfl | ⟨b1, b2, b3⟩
              · have HG2 : Hid (Gone c c' (y + 1)) := HGn.out.skip hyl he0
                clear he0
                go_wp2_with fail
                go_roundw
                case rel => exact ⟨y + 1, c', by omega, by go_num, HG2, HI2⟩
                case measure => simp [intOf]; omega
              · have hs0 := HO.out.snap1
                have b4 : 0 < e0 := by omega
                have h9 := HGn.out.at hyl (by rw [he0]; omega)
                rw [he0] at h9
                have HG2 : Hid (Gone c (c'.leave y) (y + 1)) := HGn.out.next h9.1
                have HE : Hid (Calls Try.prog 19 #[.pointer (some ⟨g, 0, none⟩), .int .i64 (y : Int)] wr fun e w' => e = .returned (.int .i64 0) ∧ Hid (Has g (c'.leave y) w w' [(p, arrO (arr c))])) := (HI2.out.leave h9.2 (by omega)).mono fun _ _ ⟨he, h⟩ => ⟨he, h⟩
                clear he0 h9
                go_wp2_with fail
                refine HE.out.mono ?_
                rintro e w7 ⟨rfl, H7⟩
                go_wp2_with fail
                go_roundw
                case rel => exact ⟨y + 1, c'.leave y, by omega, by go_num, HG2, H7⟩
                case measure => simp [intOf]; omega
            · have hyI : ¬ (y : Int) < 16 := by omega
              obtain rfl : y = 16 := by omega
              by_cases hn : c'.now = 2147483648
              · have HE : Hid (Calls Try.prog 16 #[.pointer (some ⟨g, 0, none⟩)] wr fun e w' => e = .returned (.tuple #[.bool false, .int .i64 1]) ∧ Hid (Has g c' w w' [(p, arrO (arr c))])) := (HI2.out.last hn).mono fun _ _ ⟨he, h⟩ => ⟨he, h⟩
                have HNow : Hid (c'.now = 2147483648) := hn
                clear hn
                go_wp2_with fail
                refine HE.out.mono ?_
                rintro e w7 ⟨rfl, H7⟩
                have HG1 : Hid (Calls Try.prog 11 #[.pointer (some ⟨g, 0, none⟩)] w7 fun e w' => e = .returned (.int .i64 2147483648) ∧ w' = w7) := H7.out.global.mono fun _ _ ⟨he, h⟩ => ⟨HNow.out ▸ he, h⟩
                go_wp2_with fail
                refine HG1.out.mono ?_
                rintro e w8 ⟨rfl, rfl⟩
                go_wp2_with fail
                go_ret
                exact ⟨rfl, Stand.base H7.out⟩
              · have HE : Hid (Calls Try.prog 16 #[.pointer (some ⟨g, 0, none⟩)] wr fun e w' => e = .returned (.tuple #[.bool true, .int .i64 0]) ∧ Hid (Has g c'.rise w w' [(p, arrO (arr c))])) := (HI2.out.rise hn (HGn.out.late HO.out)).mono fun _ _ ⟨he, h⟩ => ⟨he, h⟩
                clear hn
                go_wp2_with fail
                refine HE.out.mono ?_
                rintro e w7 ⟨rfl, H7⟩
                go_wp2_with fail
                go_ret
                exact ⟨rfl, Stand.base H7.out⟩
end WaitsL
end Go.Proofs.Ytonblbopfbjiaaa
