/- The program's Valid. -/
import Derived.Test.YtoknebbkpkcomaaTTake
import Derived.Laws.StructEq
namespace Go.Proofs.Ytoknebbkpkcomaa
open Go.RowKit

theorem eqSn (x y : Sn) (W : World) : (Op.equalIn 10000 73 (snV x) (snV y)).run Try.prog W = .ok (decide (x = y)) W := by
  obtain ⟨x0, x1, x2⟩ := x
  obtain ⟨y0, y1, y2⟩ := y
  have hp : ∀ (a b c : Int) (W : World), (_root_.Go.part 3 #[.int .i64 a, .int .i64 b, .int .i64 c] 0).run Try.prog W = .ok (.int .i64 a) W ∧ (_root_.Go.part 3 #[.int .i64 a, .int .i64 b, .int .i64 c] 1).run Try.prog W = .ok (.int .i64 b) W ∧ (_root_.Go.part 3 #[.int .i64 a, .int .i64 b, .int .i64 c] 2).run Try.prog W = .ok (.int .i64 c) W := fun a b c W => ⟨by kernel_rfl, by kernel_rfl, by kernel_rfl⟩
  have h0 := fun a b c W => (hp a b c W).1
  have h1 := fun a b c W => (hp a b c W).2.1
  have h2 := fun a b c W => (hp a b c W).2.2
  have hi : ∀ (a b : Int) (W : World), (Op.equalIn 9999 3 (.int .i64 a) (.int .i64 b)).run Try.prog W = .ok (a == b) W := fun a b W => run_equalIn_int (P := Try.prog) W 9998 3 .i64 .i64 a b Try.underlying3
  have hf : Try.prog.underlying 73 = some (.struct (Try.prog.fieldsOf 73)) := by kernel_rfl
  show (Op.equalIn (9999 + 1) 73 _ _).run Try.prog W = _
  rw [run_equalIn_agg _ _ _ _ _ hf (by kernel_rfl)]
  have hu := Try.underlying73
  rw [hf] at hu
  simp only [Option.some.injEq, TypeDesc.struct.injEq] at hu
  rw [hu]
  by_cases e0 : x0 = y0
  · by_cases e1 : x1 = y1
    · by_cases e2 : x2 = y2
      · simp [Op.eqFields, h0, h1, h2, hi, e0, e1, e2]
      · have n2 : (x2 == y2) = false := by simpa using e2
        simp [Op.eqFields, h0, h1, h2, hi, e0, e1, e2]
    · simp [Op.eqFields, h0, h1, h2, hi, e0, e1]
  · simp [Op.eqFields, h0, h1, h2, hi, e0]
theorem guardSn : Try.prog.eqGuardType Try.prog.depth 73 = false := by kernel_rfl

section
variable {w : World} {t a : Nat} {T : Tr} {F : Nat → Prop}

set_option maxRecDepth 100000 in
set_option maxHeartbeats 1000000 in
theorem tvalid_any (h : TreeI t T a w F) {v : Value} {seen : List Sn} (hv : SliceAt w v 3 enSn seen) (hs : ∀ s ∈ seen, 0 ≤ s.1 ∧ s.1 < 1000000) (hn : seen.length ≤ 10000) :
    Calls Try.prog 21 #[.pointer (some ⟨t, 0, none⟩), v] w fun e w' => e = .returned (.bool (validB T.ls seen)) ∧ Below w.heap.size w w' := by
  obtain ⟨b, m, c, hG, hO, hF⟩ := h
  have hU : ∀ u, Below w.heap.size w u → TreeG u t b m c T.ls T.made (T.ks.length : Int) := fun u hb => hG.turn (Turn.ofBelow (fun _ => False) hb) (fun _ _ h => h)
  obtain ⟨A, cc, rfl, v1, v2, v3⟩ := hv
  have HV : Hid (∀ u, Below w.heap.size w u → ∀ i, (hi : i < seen.length) → ∃ b off, A = some ⟨b, off, none⟩ ∧ u.cell? ⟨b, off + i * 3, none⟩ = some (.int .i64 seen[i].1) ∧ u.cell? ⟨b, off + i * 3 + 1, none⟩ = some (.int .i64 seen[i].2.1) ∧ u.cell? ⟨b, off + i * 3 + 2, none⟩ = some (.int .i64 seen[i].2.2)) := fun u hu i hi => by
    obtain ⟨b, off, e, hl, hc⟩ := v3 (fun e => by rw [e] at hi; simp at hi)
    exact ⟨b, off, e, by rw [hu.cell (p := ⟨b, off + i * 3, none⟩) hl]; exact hc i hi 0 _ rfl, by rw [hu.cell (p := ⟨b, off + i * 3 + 1, none⟩) hl]; exact hc i hi 1 _ rfl, by rw [hu.cell (p := ⟨b, off + i * 3 + 2, none⟩) hl]; exact hc i hi 2 _ rfl⟩
  have HC : Hid (∀ u, Below w.heap.size w u → u.cell? ⟨t, 1, none⟩ = some (.map (some m))) := fun u hb => (hU u hb).cells.c1
  have htl : t < w.heap.size := lt_of hG.st
  -- what a look at a number tells
  have HM : Hid (∀ u, Below w.heap.size w u → ∀ s : Sn, 0 ≤ s.1 ∧ s.1 < 1000000 → ((∃ l ∈ T.ls, l.num = s.1 ∧ (Instr.lookup 60 (.map (some m)) (.int .i64 s.1) true).run Try.prog u = .ok (.tuple #[.pointer (some ⟨l.q, 0, none⟩), .bool true]) u) ∨ ((∀ l ∈ T.ls, l.num ≠ s.1) ∧ ∃ x, (Instr.lookup 60 (.map (some m)) (.int .i64 s.1) true).run Try.prog u = .ok (.tuple #[x, .bool false]) u))) := fun u hb s hs => by
    by_cases hx : ∃ l ∈ T.ls, l.num = s.1
    · obtain ⟨l, hl, e⟩ := hx
      exact Or.inl ⟨l, hl, e, (hU u hb).map.look hs (List.mem_map.2 ⟨l, hl, by rw [e]⟩)⟩
    · refine Or.inr ⟨fun l hl e => hx ⟨l, hl, e⟩, (hU u hb).map.miss hs (fun q hq => ?_)⟩
      obtain ⟨l, hl, e⟩ := List.mem_map.1 hq
      exact hx ⟨l, hl, congrArg (·.1) e⟩
  have HS : Hid (∀ u, Below w.heap.size w u → ∀ l ∈ T.ls, Calls Try.prog 31 #[.pointer (some ⟨l.q, 0, none⟩)] u fun e w' => e = .returned (snV (sn l)) ∧ Below u.heap.size u w') := fun u hb l hl => seen_any (hU u hb) hl
  have HU : Hid (∀ l ∈ T.ls, ∀ s : Sn, l.num = s.1 → sn l ≠ s → ∀ x ∈ T.ls, sn x ≠ s) := fun l hl s e hne x hx ex => hne (by
    have e2 : x.num = s.1 := congrArg (·.1) ex
    rw [num_uniq hO.ok hl hx (e.trans e2.symm)]
    exact ex)
  have hmx : cc ≤ 9223372036854775807 := by unfold maxLen at v2; omega
  obtain ⟨n, hnn⟩ : ∃ n, seen.length = n := ⟨_, rfl⟩
  have HN : Hid (seen.length = n) := hnn
  rw [hnn] at hn v1 ⊢
  have gd := guardSn
  clear hG hO hF hU v3 hnn
  go_enter Try.func21, Try.ntmps21
  go_wp2_with fail
  go_loopw [11] (fun v wr => ∃ j : Nat, j ≤ n ∧ v = .int .i64 j ∧ Hid (Below w.heap.size w wr) ∧ Hid (∀ i s, i < j → seen[i]? = some s → ∃ l ∈ T.ls, sn l = s)) (fun v _ => n - (intOf v).toNat)
  case atStart => exact ⟨0, Nat.zero_le _, rfl, Below.refl _ _, fun i s hi => absurd hi (by omega)⟩
  case round =>
    obtain ⟨j, hj, rfl, HB, HD⟩ := hrel
    by_cases hlt : j < n
    · have hjI : (j : Int) < (n : Int) := by omega
      have hjs : j < seen.length := by rw [HN.out]; exact hlt
      obtain ⟨bb, off, rfl, x0, x1, x2⟩ := HV.out wr HB.out j hjs
      obtain ⟨⟨s0, s1, s2⟩, hsj⟩ : ∃ s : Sn, seen[j] = s := ⟨_, rfl⟩
      rw [hsj] at x0 x1 x2
      dsimp only at x0 x1 x2
      have HSJ : Hid (seen[j]? = some (s0, s1, s2)) := by show _ = _; rw [List.getElem?_eq_getElem hjs, hsj]
      have hs0 : 0 ≤ s0 ∧ s0 < 1000000 := hs (s0, s1, s2) (List.mem_of_getElem? HSJ.out)
      have hb1 : Below w.heap.size w (wr.alloc (snO (s0, s1, s2))) := HB.out.trans (((Below.refl _ _).alloc (Nat.le_refl _) _).mono HB.out.size)
      have HB1 : Hid (Below w.heap.size w (wr.alloc (snO (s0, s1, s2))).drew) := hb1.trans ((below_drewN _ 1).mono hb1.size)
      have c1 := HC.out wr HB.out
      have c1' : (wr.alloc (snO (s0, s1, s2))).cell? ⟨t, 1, none⟩ = some (.map (some m)) := HC.out _ hb1
      have HX : Hid (∀ u, Below (wr.alloc (snO (s0, s1, s2))).heap.size (wr.alloc (snO (s0, s1, s2))) u → u.cell? ⟨wr.heap.size, 0, none⟩ = some (.int .i64 s0) ∧ u.cell? ⟨wr.heap.size, 1, none⟩ = some (.int .i64 s1) ∧ u.cell? ⟨wr.heap.size, 2, none⟩ = some (.int .i64 s2)) := fun u hu => by
        have e := (hu.block wr.heap.size (by simp)).trans (heap_new wr (snO (s0, s1, s2)))
        exact ⟨by rw [cell_of e]; rfl, by rw [cell_of e]; rfl, by rw [cell_of e]; rfl⟩
      have htr : t < wr.heap.size := Nat.lt_of_lt_of_le htl HB.out.size
      rcases HM.out _ HB1.out (s0, s1, s2) hs0 with ⟨l, hl, hnum, hrun⟩ | ⟨hno, x, hrun⟩
      · obtain ⟨⟨z0, z1, z2⟩, hz⟩ : ∃ z : Sn, sn l = z := ⟨_, rfl⟩
        have HSe : Hid (∀ u, Below w.heap.size w u → Calls Try.prog 31 #[.pointer (some ⟨l.q, 0, none⟩)] u fun e w' => e = .returned (.agg #[.int .i64 z0, .int .i64 z1, .int .i64 z2]) ∧ Below u.heap.size u w') := fun u hb => by
          have := HS.out u hb l hl
          rw [hz] at this
          exact this
        have eqs0 : ∀ W, (Op.equalIn 10000 73 (.agg #[.int .i64 z0, .int .i64 z1, .int .i64 z2]) (.agg #[.int .i64 s0, .int .i64 s1, .int .i64 s2])).run Try.prog W = .ok (decide (((z0, z1, z2) : Sn) = (s0, s1, s2))) W := fun W => eqSn (z0, z1, z2) (s0, s1, s2) W
        obtain ⟨lq, hlq⟩ : ∃ lq, l.q = lq := ⟨_, rfl⟩
        rw [hlq] at hrun HSe
        by_cases he : ((z0, z1, z2) : Sn) = (s0, s1, s2)
        · have eqs : ∀ W, (Op.equalIn 10000 73 (.agg #[.int .i64 z0, .int .i64 z1, .int .i64 z2]) (.agg #[.int .i64 s0, .int .i64 s1, .int .i64 s2])).run Try.prog W = .ok true W := fun W => by rw [eqs0 W, decide_eq_true he]
          have HD2 : Hid (∀ i s, i < j + 1 → seen[i]? = some s → ∃ l ∈ T.ls, sn l = s) := fun i s hi hi2 => by
            by_cases e : i = j
            · subst e
              rw [HSJ.out] at hi2
              cases hi2
              exact ⟨l, hl, hz.trans he⟩
            · exact HD.out i s (by omega) hi2
          clear hl hnum he hlq hjs hsj hb1 eqs0 hz hs0 HM
          go_wp2_with fail
          go_region
          all_goals go_wp2_with fail
          all_goals go_region_with (go_at_call 31; go_must (refine (HSe.out _ (HB1.out.trans ((below_drewN _ _).mono HB1.out.size))).mono ?_; rintro e w4 ⟨rfl, hb4⟩; have HB4 : Hid (Below w.heap.size w w4) := (HB1.out.trans ((below_drewN _ _).mono HB1.out.size)).trans (hb4.mono HB1.out.size); obtain ⟨y0, y1, y2⟩ := HX.out w4 ((below_drewN (wr.alloc (snO (s0, s1, s2))) 1).trans ((below_drewN ((wr.alloc (snO (s0, s1, s2))).drew) _).trans hb4)); clear hb4))
          all_goals go_wp2_with fail
          all_goals go_roundw
          all_goals first | exact ⟨j + 1, by omega, by go_num, HB4, HD2⟩ | (simp [intOf]; omega)
        · have eqs : ∀ W, (Op.equalIn 10000 73 (.agg #[.int .i64 z0, .int .i64 z1, .int .i64 z2]) (.agg #[.int .i64 s0, .int .i64 s1, .int .i64 s2])).run Try.prog W = .ok false W := fun W => by rw [eqs0 W, decide_eq_false he]
          have HE : Hid (validB T.ls seen = false) := by
            show _ = _
            cases e : validB T.ls seen with
            | false => rfl
            | true =>
              obtain ⟨x, hx, ex⟩ := validB_iff.1 e _ (List.mem_of_getElem? HSJ.out)
              exact absurd ex (HU.out l hl (s0, s1, s2) hnum (fun q => he (hz.symm.trans q)) x hx)
          clear hl hnum he hlq hjs hsj hb1 eqs0 hz hs0 HM
          go_wp2_with fail
          go_region
          all_goals go_wp2_with fail
          all_goals go_region_with (go_at_call 31; go_must (refine (HSe.out _ (HB1.out.trans ((below_drewN _ _).mono HB1.out.size))).mono ?_; rintro e w4 ⟨rfl, hb4⟩; have HB4 : Hid (Below w.heap.size w w4) := (HB1.out.trans ((below_drewN _ _).mono HB1.out.size)).trans (hb4.mono HB1.out.size); obtain ⟨y0, y1, y2⟩ := HX.out w4 ((below_drewN (wr.alloc (snO (s0, s1, s2))) 1).trans ((below_drewN ((wr.alloc (snO (s0, s1, s2))).drew) _).trans hb4)); clear hb4))
          all_goals go_wp2_with fail
          all_goals go_ret
          all_goals exact ⟨by rw [HE.out]; rfl, HB4.out⟩
      · have HE : Hid (validB T.ls seen = false) := by
          show _ = _
          cases e : validB T.ls seen with
          | false => rfl
          | true =>
            obtain ⟨y, hy, ey⟩ := validB_iff.1 e _ (List.mem_of_getElem? HSJ.out)
            exact absurd (congrArg (·.1) ey) (hno y hy)
        clear hno hjs hsj hb1 hs0 HM
        go_wp2_with fail
        go_region
        all_goals go_wp2_with fail
        all_goals go_quiet (fail)
        all_goals go_wp2_with fail
        all_goals go_ret
        all_goals exact ⟨by rw [HE.out]; rfl, HB1.out.trans ((below_drewN _ _).mono HB1.out.size)⟩
    · have hjI : ¬ (j : Int) < (n : Int) := by omega
      obtain rfl : j = n := by omega
      have HE : Hid (validB T.ls seen = true) := validB_iff.2 fun s hs' => by
        obtain ⟨i, hi⟩ := List.getElem?_of_mem hs'
        exact HD.out i s (by have := (List.getElem?_eq_some_iff.1 hi).1; rw [HN.out] at this; exact this) hi
      go_wp2_with fail
      go_ret
      exact ⟨by rw [HE.out]; rfl, HB.out⟩
end

end Go.Proofs.Ytoknebbkpkcomaa
