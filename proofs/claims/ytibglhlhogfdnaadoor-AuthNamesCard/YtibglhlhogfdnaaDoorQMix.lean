/- The program's mix: what a block makes of the state. -/
import Derived.Test.YtibglhlhogfdnaaDoorQSprd
namespace Go.Proofs.YtibglhlhogfdnaaDoor
open Go.RowKit QP

/-- the program's table of constants, as the program's text lays it -/
def Con (w : World) : Prop := 0 < w.heap.size ∧ ∀ i x : Nat, K[i]? = some x → w.cell? ⟨0, i, none⟩ = some (.int .u32 (x : Int))
theorem Con.below {w w' : World} (h : Con w) (hb : Below w.heap.size w w') : Con w' := ⟨Nat.lt_of_lt_of_le h.1 hb.size, fun i x hx => (hb.cell (p := ⟨0, i, none⟩) h.1).trans (h.2 i x hx)⟩
theorem zeros8 : (#[.int .u32 0, .int .u32 0, .int .u32 0, .int .u32 0, .int .u32 0, .int .u32 0, .int .u32 0, .int .u32 0] : Array Value) = (flat (enK .u32) (List.replicate 8 0)).toArray := rfl
theorem size8 : (Tryd.prog.info? 85).map (·.size) = some 8 := by kernel_rfl
theorem size64b : (Tryd.prog.info? 87).map (·.size) = some 64 := by kernel_rfl
theorem size64w : (Tryd.prog.info? 99).map (·.size) = some 64 := by kernel_rfl
theorem flat_size (k : IntKind) (X : List Nat) : (flat (enK k) X).toArray.size = X.length := by rw [List.size_toArray, flatK_len]

theorem build8 (x0 x1 x2 x3 x4 x5 x6 x7 : Int) (w : World) : (Instr.build 85 #[(0, .int .u32 x0), (1, .int .u32 x1), (2, .int .u32 x2), (3, .int .u32 x3), (4, .int .u32 x4), (5, .int .u32 x5), (6, .int .u32 x6), (7, .int .u32 x7)]).run Tryd.prog w = .ok (.agg #[.int .u32 x0, .int .u32 x1, .int .u32 x2, .int .u32 x3, .int .u32 x4, .int .u32 x5, .int .u32 x6, .int .u32 x7]) w := run_build w 85 _ _ (by kernel_rfl)

/-- the array X as a value -/
abbrev arrK (k : IntKind) (X : List Nat) : Value := .agg (flat (enK k) X).toArray

set_option maxRecDepth 100000 in
set_option maxHeartbeats 4000000 in
theorem mix_any (S m : List Nat) (w : World) (hc : Con w) (hS8 : S.length = 8) (hSs : Small S) (hm : m.length = 64) (hb : ∀ x ∈ m, x < 256) : Calls Tryd.prog 50 #[arrK .u32 S, arrK .u8 m] w fun e w' => e = .returned (arrK .u32 (blk S m)) ∧ Below w.heap.size w w' := by
  obtain ⟨A, hA⟩ : ∃ A, (flat (enK .u32) S).toArray = A := ⟨_, rfl⟩
  obtain ⟨C, hC⟩ : ∃ C, (flat (enK .u8) m).toArray = C := ⟨_, rfl⟩
  obtain ⟨D, hD⟩ : ∃ D, (flat (enK .u32) (sch m 48)).toArray = D := ⟨_, rfl⟩
  obtain ⟨w3, hw3⟩ : ∃ u, ((w.alloc (.cells A 85)).alloc (.cells C 87)).alloc (.cells #[.int .u32 0, .int .u32 0, .int .u32 0, .int .u32 0, .int .u32 0, .int .u32 0, .int .u32 0, .int .u32 0] 85) = u := ⟨_, rfl⟩
  obtain ⟨ps, hps⟩ : ∃ p, w.heap.size = p := ⟨_, rfl⟩
  obtain ⟨t1, t2, t3, t4⟩ := three_heap w (.cells A 85) (.cells C 87) (.cells #[.int .u32 0, .int .u32 0, .int .u32 0, .int .u32 0, .int .u32 0, .int .u32 0, .int .u32 0, .int .u32 0] 85)
  rw [hw3, hps] at t1 t2 t3 t4
  have HAs : Hid (w3.heap[ps]? = some (.cells A 85 (0, 0))) := t1
  have HCs : Hid (w3.heap[ps + 1]? = some (.cells C 87 (0, 0))) := t2
  have HRs : Hid (w3.heap[ps + 1 + 1]? = some (.cells #[.int .u32 0, .int .u32 0, .int .u32 0, .int .u32 0, .int .u32 0, .int .u32 0, .int .u32 0, .int .u32 0] 85 (0, 0))) := t3
  have HB3 : Hid (Below w.heap.size w w3) := by show Below _ _ _; rw [hps]; exact t4
  have HSp : Hid (∀ u, Calls Tryd.prog 58 #[.agg C] u fun e w' => e = .returned (.agg D) ∧ Below u.heap.size u w') := fun u => by
    have h := spread_any m u hm hb
    rw [hC, hD] at h
    exact h
  have HD : Hid ((flat (enK .u32) (sch m 48)).toArray = D) := hD
  have HA : Hid ((flat (enK .u32) S).toArray = A) := hA
  have HC : Hid ((flat (enK .u8) m).toArray = C) := hC
  have HSz : Hid ((Tryd.prog.info? 87).map (·.size) = some C.size) := by show _ = _; rw [← hC, flat_size, hm]; exact size64b
  have HDz : Hid ((Tryd.prog.info? 99).map (·.size) = some D.size) := by show _ = _; rw [← hD, flat_size, sch_length]; exact size64w
  have HDo : Hid (D.all (·.oneCell') = true) := by show _ = _; rw [← hD]; exact all_oneCell_toArray (flatK_one .u32 _)
  have HD64 : Hid ((#[.int .u32 0, .int .u32 0, .int .u32 0, .int .u32 0, .int .u32 0, .int .u32 0, .int .u32 0, .int .u32 0, .int .u32 0, .int .u32 0, .int .u32 0, .int .u32 0, .int .u32 0, .int .u32 0, .int .u32 0, .int .u32 0, .int .u32 0, .int .u32 0, .int .u32 0, .int .u32 0, .int .u32 0, .int .u32 0, .int .u32 0, .int .u32 0, .int .u32 0, .int .u32 0, .int .u32 0, .int .u32 0, .int .u32 0, .int .u32 0, .int .u32 0, .int .u32 0, .int .u32 0, .int .u32 0, .int .u32 0, .int .u32 0, .int .u32 0, .int .u32 0, .int .u32 0, .int .u32 0, .int .u32 0, .int .u32 0, .int .u32 0, .int .u32 0, .int .u32 0, .int .u32 0, .int .u32 0, .int .u32 0, .int .u32 0, .int .u32 0, .int .u32 0, .int .u32 0, .int .u32 0, .int .u32 0, .int .u32 0, .int .u32 0, .int .u32 0, .int .u32 0, .int .u32 0, .int .u32 0, .int .u32 0, .int .u32 0, .int .u32 0, .int .u32 0] : Array Value).size = D.size) := by show _ = _; rw [← hD, flat_size, sch_length]; rfl
  have HCon : Hid (Con w) := hc
  have HS8 : Hid (S.length = 8) := hS8
  have HSs : Hid (Small S) := hSs
  have Hm : Hid (m.length = 64) := hm
  have Hmb : Hid (∀ x ∈ m, x < 256) := hb
  rw [show arrK .u32 S = .agg A from by rw [← hA], show arrK .u8 m = .agg C from by rw [← hC]]
  clear hc hS8 hSs hm hb hA hC hD t1 t2 t3 t4
  go_enter Tryd.func50, Tryd.ntmps50
  go_wp2_with (first | (refine wpList_load_row rfl 87 _ rfl (ps + 1) rfl 87 C (0, 0) _ HCs.out Tryd.underlying87 rfl HSz.out ?_) | (go_at_call 58; go_must (refine (HSp.out _).mono ?_; rintro e w4 ⟨rfl, hb4⟩)) | (refine wpList_store_row rfl 99 _ _ rfl w4.heap.size D rfl rfl 99 _ (heap_new w4 _) HDz.out HD64.out HDo.out ?_))
  have HW5 : Hid (ArrG .u32 99 ((w4.alloc (.cells #[.int .u32 0, .int .u32 0, .int .u32 0, .int .u32 0, .int .u32 0, .int .u32 0, .int .u32 0, .int .u32 0, .int .u32 0, .int .u32 0, .int .u32 0, .int .u32 0, .int .u32 0, .int .u32 0, .int .u32 0, .int .u32 0, .int .u32 0, .int .u32 0, .int .u32 0, .int .u32 0, .int .u32 0, .int .u32 0, .int .u32 0, .int .u32 0, .int .u32 0, .int .u32 0, .int .u32 0, .int .u32 0, .int .u32 0, .int .u32 0, .int .u32 0, .int .u32 0, .int .u32 0, .int .u32 0, .int .u32 0, .int .u32 0, .int .u32 0, .int .u32 0, .int .u32 0, .int .u32 0, .int .u32 0, .int .u32 0, .int .u32 0, .int .u32 0, .int .u32 0, .int .u32 0, .int .u32 0, .int .u32 0, .int .u32 0, .int .u32 0, .int .u32 0, .int .u32 0, .int .u32 0, .int .u32 0, .int .u32 0, .int .u32 0, .int .u32 0, .int .u32 0, .int .u32 0, .int .u32 0, .int .u32 0, .int .u32 0, .int .u32 0, .int .u32 0] 99)).setRow w4.heap.size D) w4.heap.size (sch m 48)) := by
    have h := setRow_heap (w4.alloc (.cells #[.int .u32 0, .int .u32 0, .int .u32 0, .int .u32 0, .int .u32 0, .int .u32 0, .int .u32 0, .int .u32 0, .int .u32 0, .int .u32 0, .int .u32 0, .int .u32 0, .int .u32 0, .int .u32 0, .int .u32 0, .int .u32 0, .int .u32 0, .int .u32 0, .int .u32 0, .int .u32 0, .int .u32 0, .int .u32 0, .int .u32 0, .int .u32 0, .int .u32 0, .int .u32 0, .int .u32 0, .int .u32 0, .int .u32 0, .int .u32 0, .int .u32 0, .int .u32 0, .int .u32 0, .int .u32 0, .int .u32 0, .int .u32 0, .int .u32 0, .int .u32 0, .int .u32 0, .int .u32 0, .int .u32 0, .int .u32 0, .int .u32 0, .int .u32 0, .int .u32 0, .int .u32 0, .int .u32 0, .int .u32 0, .int .u32 0, .int .u32 0, .int .u32 0, .int .u32 0, .int .u32 0, .int .u32 0, .int .u32 0, .int .u32 0, .int .u32 0, .int .u32 0, .int .u32 0, .int .u32 0, .int .u32 0, .int .u32 0, .int .u32 0, .int .u32 0] 99)) w4.heap.size _ D _ _ (heap_new w4 _)
    show ArrG _ _ _ _ _
    unfold ArrG
    rw [HD.out]
    exact h
  have HB5 : Hid (Below w3.heap.size w3 ((w4.alloc (.cells #[.int .u32 0, .int .u32 0, .int .u32 0, .int .u32 0, .int .u32 0, .int .u32 0, .int .u32 0, .int .u32 0, .int .u32 0, .int .u32 0, .int .u32 0, .int .u32 0, .int .u32 0, .int .u32 0, .int .u32 0, .int .u32 0, .int .u32 0, .int .u32 0, .int .u32 0, .int .u32 0, .int .u32 0, .int .u32 0, .int .u32 0, .int .u32 0, .int .u32 0, .int .u32 0, .int .u32 0, .int .u32 0, .int .u32 0, .int .u32 0, .int .u32 0, .int .u32 0, .int .u32 0, .int .u32 0, .int .u32 0, .int .u32 0, .int .u32 0, .int .u32 0, .int .u32 0, .int .u32 0, .int .u32 0, .int .u32 0, .int .u32 0, .int .u32 0, .int .u32 0, .int .u32 0, .int .u32 0, .int .u32 0, .int .u32 0, .int .u32 0, .int .u32 0, .int .u32 0, .int .u32 0, .int .u32 0, .int .u32 0, .int .u32 0, .int .u32 0, .int .u32 0, .int .u32 0, .int .u32 0, .int .u32 0, .int .u32 0, .int .u32 0, .int .u32 0] 99)).setRow w4.heap.size D)) := below_setRow (hb4.alloc hb4.size _) hb4.size _
  obtain ⟨w5, hw5⟩ : ∃ u, (w4.alloc (.cells #[.int .u32 0, .int .u32 0, .int .u32 0, .int .u32 0, .int .u32 0, .int .u32 0, .int .u32 0, .int .u32 0, .int .u32 0, .int .u32 0, .int .u32 0, .int .u32 0, .int .u32 0, .int .u32 0, .int .u32 0, .int .u32 0, .int .u32 0, .int .u32 0, .int .u32 0, .int .u32 0, .int .u32 0, .int .u32 0, .int .u32 0, .int .u32 0, .int .u32 0, .int .u32 0, .int .u32 0, .int .u32 0, .int .u32 0, .int .u32 0, .int .u32 0, .int .u32 0, .int .u32 0, .int .u32 0, .int .u32 0, .int .u32 0, .int .u32 0, .int .u32 0, .int .u32 0, .int .u32 0, .int .u32 0, .int .u32 0, .int .u32 0, .int .u32 0, .int .u32 0, .int .u32 0, .int .u32 0, .int .u32 0, .int .u32 0, .int .u32 0, .int .u32 0, .int .u32 0, .int .u32 0, .int .u32 0, .int .u32 0, .int .u32 0, .int .u32 0, .int .u32 0, .int .u32 0, .int .u32 0, .int .u32 0, .int .u32 0, .int .u32 0, .int .u32 0] 99)).setRow w4.heap.size D = u := ⟨_, rfl⟩
  obtain ⟨pw, hpw⟩ : ∃ p, w4.heap.size = p := ⟨_, rfl⟩
  rw [hw5, hpw] at HW5
  rw [hw5] at HB5
  rw [hw5, hpw]
  obtain ⟨a0, b0, c0, d0, e0, f0, g0, h0, hS⟩ := eight HS8.out
  have HSe : Hid (S = [a0, b0, c0, d0, e0, f0, g0, h0]) := hS
  have hrS : RowK .u32 85 w5 ps S := by
    have h1 : ArrG .u32 85 w3 ps S := by unfold ArrG; rw [HA.out]; exact HAs.out
    exact (h1.below HB5.out).row
  have HrS : Hid (RowK .u32 85 w5 ps S) := hrS
  rw [hS] at hrS
  have k0 := hrS.cell (i := 0) (x := a0) rfl
  have k1 := hrS.cell (i := 1) (x := b0) rfl
  have k2 := hrS.cell (i := 2) (x := c0) rfl
  have k3 := hrS.cell (i := 3) (x := d0) rfl
  have k4 := hrS.cell (i := 4) (x := e0) rfl
  have k5 := hrS.cell (i := 5) (x := f0) rfl
  have k6 := hrS.cell (i := 6) (x := g0) rfl
  have k7 := hrS.cell (i := 7) (x := h0) rfl
  have HB05 : Hid (Below w.heap.size w w5) := HB3.out.trans (HB5.out.mono HB3.out.size)
  have HC5 : Hid (Con w5) := HCon.out.below HB05.out
  have HR5 : Hid (w5.heap[ps + 1 + 1]? = some (.cells #[.int .u32 0, .int .u32 0, .int .u32 0, .int .u32 0, .int .u32 0, .int .u32 0, .int .u32 0, .int .u32 0] 85 (0, 0))) := (HB5.out.block _ (lt_of HRs.out)).trans HRs.out
  have hps5 : ps + 1 + 1 < w5.heap.size := lt_of HR5.out
  have hpsw : Hid (w.heap.size ≤ ps + 1 + 1) := by show _ ≤ _; omega
  clear hS hrS hw5 hpw hb4 hw3 hps
  go_wp2_with fail
  go_quiet (fail)
  go_wp2_with fail
  clear k0 k1 k2 k3 k4 k5 k6 k7
  obtain ⟨w6, hw6⟩ : ∃ u, w5.drewN nq = u := ⟨_, rfl⟩
  have HB6 : Hid (Below w5.heap.size w5 w6) := by show Below _ _ _; rw [← hw6]; exact below_drewN w5 nq
  rw [hw6]
  clear hw6
  go_loopw [6, 7, 8, 9, 10, 11, 12, 13, 35] (fun v6 v7 v8 v9 v10 v11 v12 v13 tv wr => ∃ (t a b cc d e f gg h : Nat), t ≤ 64 ∧ tv = .int .i64 t ∧ v6 = .int .u32 a ∧ v7 = .int .u32 b ∧ v8 = .int .u32 cc ∧ v9 = .int .u32 d ∧ v10 = .int .u32 e ∧ v11 = .int .u32 f ∧ v12 = .int .u32 gg ∧ v13 = .int .u32 h ∧ Hid (rnds (sch m 48) S t = [a, b, cc, d, e, f, gg, h]) ∧ Hid (Below w5.heap.size w5 wr)) (fun _ _ _ _ _ _ _ _ tv _ => 64 - (intOf tv).toNat)
  case atStart => exact ⟨0, a0, b0, c0, d0, e0, f0, g0, h0, by omega, rfl, rfl, rfl, rfl, rfl, rfl, rfl, rfl, rfl, HSe.out, HB6⟩
  case round =>
    obtain ⟨t, a, b, cc, d, e, f, gg, h, ht, rfl, rfl, rfl, rfl, rfl, rfl, rfl, rfl, rfl, HV, HB⟩ := hrel
    clear HB6
    obtain ⟨W, hWe⟩ : ∃ W, sch m 48 = W := ⟨_, rfl⟩
    have HWl : Hid (W.length = 64) := by show _ = _; rw [← hWe]; exact sch_length m 48
    have HWs : Hid (Small W) := by show Small _; rw [← hWe]; exact sch_small Hmb.out 48
    have HEnd : Hid (blk S m = adds (rnds W S 64) S) := by show _ = _; unfold blk; rw [hWe]
    have hgo := fun t' => congrArg (fun X => rnds X S t') hWe
    rw [hWe] at HV HW5
    have HWe : Hid (sch m 48 = W) := hWe
    clear hWe
    by_cases hlt : t < 64
    · have hlI : (t : Int) < 64 := by omega
      have ht0 : (0 : Int) ≤ (t : Int) := by omega
      obtain ⟨hV8, hVs⟩ := rnds_ok W HS8.out HSs.out t
      have HNs : Hid (rnds W S (t + 1) = rnd (K.getD t 0) (W.getD t 0) [a, b, cc, d, e, f, gg, h]) := by show rnd _ _ _ = _; rw [HV.out]
      rw [HV.out] at hV8 hVs
      have ba : a < 4294967296 := hVs a (by simp)
      have bb : b < 4294967296 := hVs b (by simp)
      have bc : cc < 4294967296 := hVs cc (by simp)
      have bd : d < 4294967296 := hVs d (by simp)
      have be : e < 4294967296 := hVs e (by simp)
      have bf : f < 4294967296 := hVs f (by simp)
      have bg : gg < 4294967296 := hVs gg (by simp)
      have bh : h < 4294967296 := hVs h (by simp)
      have hWl : t < W.length := by rw [HWl.out]; exact hlt
      have hKl : t < K.length := by rw [K_length]; exact hlt
      obtain ⟨wt, hwt⟩ : ∃ x, W[t] = x := ⟨_, rfl⟩
      obtain ⟨kt, hkt⟩ : ∃ x, K[t] = x := ⟨_, rfl⟩
      have hWt : W[t]? = some wt := by rw [List.getElem?_eq_getElem hWl, hwt]
      have hKt : K[t]? = some kt := by rw [List.getElem?_eq_getElem hKl, hkt]
      have dW := (HW5.out.below HB.out).row.cell hWt
      have dK := (HC5.out.below HB.out).2 t kt hKt
      have gW : W.getD t 0 = wt := by rw [List.getD_eq_getElem?_getD, hWt]; rfl
      have gK : K.getD t 0 = kt := by rw [List.getD_eq_getElem?_getD, hKt]; rfl
      rw [gW, gK] at HNs
      have bw : wt < 4294967296 := HWs.out.at hWt
      have bk : kt < 4294967296 := K_small.at hKt
      obtain ⟨r6, er6⟩ : ∃ r, rot e 6 = r := ⟨_, rfl⟩
      have hr6 : r6 < 4294967296 := by rw [← er6]; exact rot_lt be
      have T6 : Hid (∀ u, Calls Tryd.prog 59 #[.int .u32 e, .int .i64 6] u fun e w' => e = .returned (.int .u32 (r6 : Nat)) ∧ w' = u) := fun u => er6 ▸ right_any e 6 u be (by omega) (by omega)
      obtain ⟨r11, er11⟩ : ∃ r, rot e 11 = r := ⟨_, rfl⟩
      have hr11 : r11 < 4294967296 := by rw [← er11]; exact rot_lt be
      have T11 : Hid (∀ u, Calls Tryd.prog 59 #[.int .u32 e, .int .i64 11] u fun e w' => e = .returned (.int .u32 (r11 : Nat)) ∧ w' = u) := fun u => er11 ▸ right_any e 11 u be (by omega) (by omega)
      obtain ⟨r25, er25⟩ : ∃ r, rot e 25 = r := ⟨_, rfl⟩
      have hr25 : r25 < 4294967296 := by rw [← er25]; exact rot_lt be
      have T25 : Hid (∀ u, Calls Tryd.prog 59 #[.int .u32 e, .int .i64 25] u fun e w' => e = .returned (.int .u32 (r25 : Nat)) ∧ w' = u) := fun u => er25 ▸ right_any e 25 u be (by omega) (by omega)
      obtain ⟨r2, er2⟩ : ∃ r, rot a 2 = r := ⟨_, rfl⟩
      have hr2 : r2 < 4294967296 := by rw [← er2]; exact rot_lt ba
      have T2 : Hid (∀ u, Calls Tryd.prog 59 #[.int .u32 a, .int .i64 2] u fun e w' => e = .returned (.int .u32 (r2 : Nat)) ∧ w' = u) := fun u => er2 ▸ right_any a 2 u ba (by omega) (by omega)
      obtain ⟨r13, er13⟩ : ∃ r, rot a 13 = r := ⟨_, rfl⟩
      have hr13 : r13 < 4294967296 := by rw [← er13]; exact rot_lt ba
      have T13 : Hid (∀ u, Calls Tryd.prog 59 #[.int .u32 a, .int .i64 13] u fun e w' => e = .returned (.int .u32 (r13 : Nat)) ∧ w' = u) := fun u => er13 ▸ right_any a 13 u ba (by omega) (by omega)
      obtain ⟨r22, er22⟩ : ∃ r, rot a 22 = r := ⟨_, rfl⟩
      have hr22 : r22 < 4294967296 := by rw [← er22]; exact rot_lt ba
      have T22 : Hid (∀ u, Calls Tryd.prog 59 #[.int .u32 a, .int .i64 22] u fun e w' => e = .returned (.int .u32 (r22 : Nat)) ∧ w' = u) := fun u => er22 ▸ right_any a 22 u ba (by omega) (by omega)
      obtain ⟨hS1e, ehS1e⟩ : ∃ q, r6 ^^^ r11 = q := ⟨_, rfl⟩
      obtain ⟨S1e, eS1e⟩ : ∃ q, hS1e ^^^ r25 = q := ⟨_, rfl⟩
      have bhS1e : hS1e < 4294967296 := by rw [← ehS1e]; exact xor_lt hr6 hr11
      have bS1e : S1e < 4294967296 := by rw [← eS1e]; exact xor_lt bhS1e hr25
      have u1S1e : bits .xor .u32 (r6 : Int) (r11 : Int) = (hS1e : Int) := by rw [u32_xor_nat r6 r11 hr6 hr11, ehS1e]
      have u2S1e : bits .xor .u32 (hS1e : Int) (r25 : Int) = (S1e : Int) := by rw [u32_xor_nat hS1e r25 bhS1e hr25, eS1e]
      have eS1 : S1 e = S1e := by unfold S1; rw [er6, er11, er25, ehS1e, eS1e]
      obtain ⟨hS0a, ehS0a⟩ : ∃ q, r2 ^^^ r13 = q := ⟨_, rfl⟩
      obtain ⟨S0a, eS0a⟩ : ∃ q, hS0a ^^^ r22 = q := ⟨_, rfl⟩
      have bhS0a : hS0a < 4294967296 := by rw [← ehS0a]; exact xor_lt hr2 hr13
      have bS0a : S0a < 4294967296 := by rw [← eS0a]; exact xor_lt bhS0a hr22
      have u1S0a : bits .xor .u32 (r2 : Int) (r13 : Int) = (hS0a : Int) := by rw [u32_xor_nat r2 r13 hr2 hr13, ehS0a]
      have u2S0a : bits .xor .u32 (hS0a : Int) (r22 : Int) = (S0a : Int) := by rw [u32_xor_nat hS0a r22 bhS0a hr22, eS0a]
      have eS0 : S0 a = S0a := by unfold S0; rw [er2, er13, er22, ehS0a, eS0a]
      obtain ⟨c1, ec1⟩ : ∃ q, ch e f gg = q := ⟨_, rfl⟩
      obtain ⟨m5, em5⟩ : ∃ q, maj a b cc = q := ⟨_, rfl⟩
      have TC : Hid (∀ u, Calls Tryd.prog 60 #[.int .u32 e, .int .u32 f, .int .u32 gg] u fun e w' => e = .returned (.int .u32 (c1 : Nat)) ∧ w' = u) := fun u => ec1 ▸ chosen_any e f gg u be bf bg
      have TM : Hid (∀ u, Calls Tryd.prog 61 #[.int .u32 a, .int .u32 b, .int .u32 cc] u fun e w' => e = .returned (.int .u32 (m5 : Nat)) ∧ w' = u) := fun u => em5 ▸ most_any a b cc u ba bb bc
      have sum (x y : Nat) : ∃ z : Nat, (x + y) % 4294967296 = z ∧ IntKind.u32.wrap ((x : Int) + (y : Int)) = (z : Int) ∧ ((x : Int) + (y : Int)) % 4294967296 = (z : Int) := ⟨_, rfl, by rw [IntKind.wrap_u32']; omega, by omega⟩
      obtain ⟨z1, ez1, p1, o1⟩ := sum h S1e
      obtain ⟨z2, ez2, p2, o2⟩ := sum z1 c1
      obtain ⟨z3, ez3, p3, o3⟩ := sum z2 kt
      obtain ⟨z4, ez4, p4, o4⟩ := sum z3 wt
      obtain ⟨y1, ey1, p5, o5⟩ := sum S0a m5
      obtain ⟨x1, ex1, p6, o6⟩ := sum z4 y1
      obtain ⟨x5, ex5, p7, o7⟩ := sum d z4
      have HR : Hid (rnds W S (t + 1) = [x1, a, b, cc, x5, e, f, gg]) := by
        show _ = _
        rw [HNs.out]
        show [((h + S1 e + ch e f gg + kt + wt) % 4294967296 + (S0 a + maj a b cc) % 4294967296) % 4294967296, a, b, cc, (d + (h + S1 e + ch e f gg + kt + wt) % 4294967296) % 4294967296, e, f, gg] = _
        rw [eS1, eS0, ec1, em5]
        have q5 : (h + S1e + c1 + kt + wt) % 4294967296 = z4 := by omega
        rw [q5, ey1, ex1, ex5]
      have hHB := HB.out
      clear sum ehS1e eS1e er6 er11 er25 ehS0a eS0a er2 er13 er22 ec1 em5 ez1 ez2 ez3 ez4 ey1 ex1 ex5 eS1 eS0 gW gK hwt hkt hWt hKt hWl hKl hVs hV8 hgo HNs HV
      go_wp2_with fail
      go_quiet (first | (go_at_call 59; first | with_reducible exact Calls.quiet_of_same (T6.out _) | with_reducible exact quiet_more_same (T6.out _) | with_reducible exact Calls.quiet_of_same (T11.out _) | with_reducible exact quiet_more_same (T11.out _) | with_reducible exact Calls.quiet_of_same (T25.out _) | with_reducible exact quiet_more_same (T25.out _)) | (go_at_call 60; first | with_reducible exact Calls.quiet_of_same (TC.out _) | with_reducible exact quiet_more_same (TC.out _)))
      go_wp2_with fail
      refine (T2.out _).mono ?_
      rintro y w2 ⟨rfl, rfl⟩
      go_wp2_with fail
      refine (T13.out _).mono ?_
      rintro y w2 ⟨rfl, rfl⟩
      go_wp2_with fail
      refine (T22.out _).mono ?_
      rintro y w2 ⟨rfl, rfl⟩
      go_wp2_with fail
      refine (TM.out _).mono ?_
      rintro y w2 ⟨rfl, rfl⟩
      go_wp2_with fail
      go_roundw
      case rel => exact ⟨t + 1, x1, a, b, cc, x5, e, f, gg, by omega, by go_num, rfl, rfl, rfl, rfl, rfl, rfl, rfl, rfl, by show _ = _; rw [HWe.out]; exact HR.out, hHB.trans ((below_drewN wr nq).mono hHB.size)⟩
      case measure => simp [intOf]; omega
    · obtain rfl : t = 64 := by omega
      have hlI : ¬ ((64 : Nat) : Int) < 64 := by omega
      have hrS := HrS.out.below HB.out
      have hSe := HSe.out
      rw [hSe] at hrS
      have k0 := hrS.cell (i := 0) (x := a0) rfl
      have k1 := hrS.cell (i := 1) (x := b0) rfl
      have k2 := hrS.cell (i := 2) (x := c0) rfl
      have k3 := hrS.cell (i := 3) (x := d0) rfl
      have k4 := hrS.cell (i := 4) (x := e0) rfl
      have k5 := hrS.cell (i := 5) (x := f0) rfl
      have k6 := hrS.cell (i := 6) (x := g0) rfl
      have k7 := hrS.cell (i := 7) (x := h0) rfl
      have sum (x y : Nat) : ∃ z : Nat, (x + y) % 4294967296 = z ∧ IntKind.u32.wrap ((y : Int) + (x : Int)) = (z : Int) ∧ ((y : Int) + (x : Int)) % 4294967296 = (z : Int) := ⟨_, rfl, by rw [IntKind.wrap_u32']; omega, by omega⟩
      obtain ⟨y0, ey0, p0, o0⟩ := sum a a0
      obtain ⟨y1, ey1, p1, o1⟩ := sum b b0
      obtain ⟨y2, ey2, p2, o2⟩ := sum cc c0
      obtain ⟨y3, ey3, p3, o3⟩ := sum d d0
      obtain ⟨y4, ey4, p4, o4⟩ := sum e e0
      obtain ⟨y5, ey5, p5, o5⟩ := sum f f0
      obtain ⟨y6, ey6, p6, o6⟩ := sum gg g0
      obtain ⟨y7, ey7, p7, o7⟩ := sum h h0
      have HBl : Hid (blk S m = [y0, y1, y2, y3, y4, y5, y6, y7]) := by
        show _ = _
        rw [HEnd.out, HV.out, hSe]
        show [(a + a0) % 4294967296, (b + b0) % 4294967296, (cc + c0) % 4294967296, (d + d0) % 4294967296, (e + e0) % 4294967296, (f + f0) % 4294967296, (gg + g0) % 4294967296, (h + h0) % 4294967296] = _
        rw [ey0, ey1, ey2, ey3, ey4, ey5, ey6, ey7]
      have HRr : Hid (wr.heap[ps + 1 + 1]? = some (.cells #[.int .u32 0, .int .u32 0, .int .u32 0, .int .u32 0, .int .u32 0, .int .u32 0, .int .u32 0, .int .u32 0] 85 (0, 0))) := (HB.out.block _ hps5).trans HR5.out
      have HBw : Hid (Below w.heap.size w wr) := HB05.out.trans (HB.out.mono HB05.out.size)
      have HSz8 : Hid ((Tryd.prog.info? 85).map (·.size) = some (#[.int .u32 (y0 : Int), .int .u32 (y1 : Int), .int .u32 (y2 : Int), .int .u32 (y3 : Int), .int .u32 (y4 : Int), .int .u32 (y5 : Int), .int .u32 (y6 : Int), .int .u32 (y7 : Int)] : Array Value).size) := size8
      have HOl8 : Hid ((#[.int .u32 0, .int .u32 0, .int .u32 0, .int .u32 0, .int .u32 0, .int .u32 0, .int .u32 0, .int .u32 0] : Array Value).size = (#[.int .u32 (y0 : Int), .int .u32 (y1 : Int), .int .u32 (y2 : Int), .int .u32 (y3 : Int), .int .u32 (y4 : Int), .int .u32 (y5 : Int), .int .u32 (y6 : Int), .int .u32 (y7 : Int)] : Array Value).size) := (rfl : _ = _)
      have HO8 : Hid ((#[.int .u32 (y0 : Int), .int .u32 (y1 : Int), .int .u32 (y2 : Int), .int .u32 (y3 : Int), .int .u32 (y4 : Int), .int .u32 (y5 : Int), .int .u32 (y6 : Int), .int .u32 (y7 : Int)] : Array Value).all (·.oneCell') = true) := all_oneCell_toArray (flatK_one .u32 [y0, y1, y2, y3, y4, y5, y6, y7])
      have hb8 := build8 (y0 : Int) (y1 : Int) (y2 : Int) (y3 : Int) (y4 : Int) (y5 : Int) (y6 : Int) (y7 : Int)
      clear sum hrS hSe HV HB hgo ey0 ey1 ey2 ey3 ey4 ey5 ey6 ey7
      go_wp2_with (refine wpList_store_row rfl 85 _ _ rfl (ps + 1 + 1) #[.int .u32 (y0 : Int), .int .u32 (y1 : Int), .int .u32 (y2 : Int), .int .u32 (y3 : Int), .int .u32 (y4 : Int), .int .u32 (y5 : Int), .int .u32 (y6 : Int), .int .u32 (y7 : Int)] rfl rfl 85 _ HRr.out HSz8.out HOl8.out HO8.out ?_)
      have hfin := setRow_heap wr (ps + 1 + 1) _ #[.int .u32 (y0 : Int), .int .u32 (y1 : Int), .int .u32 (y2 : Int), .int .u32 (y3 : Int), .int .u32 (y4 : Int), .int .u32 (y5 : Int), .int .u32 (y6 : Int), .int .u32 (y7 : Int)] _ _ HRr.out
      refine bodyPost_ret (results_cell_row (p := 4) (ty := 85) rfl _ _ (ps + 1 + 1) 85 #[.int .u32 (y0 : Int), .int .u32 (y1 : Int), .int .u32 (y2 : Int), .int .u32 (y3 : Int), .int .u32 (y4 : Int), .int .u32 (y5 : Int), .int .u32 (y6 : Int), .int .u32 (y7 : Int)] (0, 0) _ rfl hfin Tryd.underlying85 rfl HSz8.out) rfl ⟨by rw [HBl.out]; rfl, ?_⟩
      exact below_setRow HBw.out hpsw.out _
end Go.Proofs.YtibglhlhogfdnaaDoor
