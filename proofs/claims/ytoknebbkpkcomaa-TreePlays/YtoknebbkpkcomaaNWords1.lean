/- The program's Empty, Check, Insert, Remove. -/
import Derived.Test.YtoknebbkpkcomaaNCalls
namespace Go.Proofs.Ytoknebbkpkcomaa
open Go.RowKit

def empL (j : Nat) : List Nat := 0 :: (List.range j ++ List.replicate (15 - j) 0)
theorem empL_next : ∀ j, j < 15 → pt (empL j) (j + 1) j = empL (j + 1) := by decide
theorem empL_ok : ∀ j, j ≤ 15 → (empL j).length = 16 ∧ ∀ d ∈ empL j, d < 16 := by decide
def emptyW : Int := 17134975606245761280
theorem empL_end : val (empL 15) = 17134975606245761280 := by decide
theorem emptyW_wd : Wd emptyW 0 (List.range 15) := ⟨by decide, by decide, by decide, by unfold Dig; decide⟩
theorem may_range : May (List.range 15) := by unfold May; decide

set_option maxRecDepth 100000 in
theorem empty_any (w : World) : Calls Try.prog 41 #[] w fun e w' => e = .returned (.int .u64 emptyW) ∧ w' = w := by
  go_enter Try.func41, Try.ntmps41
  go_wp2
  go_loop [1, 3] (fun v i => ∃ (j : Nat) (V : Int), j ≤ 15 ∧ i = .int .i64 j ∧ v = .int .u64 V ∧ Hid (V = ((val (empL j) : Nat) : Int))) (fun _ i => 15 - (intOf i).toNat)
  case atStart => exact ⟨0, 0, by omega, rfl, rfl, (rfl : _ = _)⟩
  case round =>
    obtain ⟨j, V, hj, rfl, rfl, HV⟩ := hrel
    by_cases hlt : j < 15
    · have hlI : (j : Int) < 15 := by omega
      have H : Hid (∀ u : World, Calls Try.prog 59 #[.int .u64 V, .int .i64 (j : Int), .int .i64 (j : Int)] u fun e w' => e = .returned (.int .u64 ((val (empL (j + 1)) : Nat) : Int)) ∧ w' = u) := fun u => by
        have h := putIn_any (empL_ok j hj).2 (empL_ok j hj).1 HV.out (rfl : (j : Int) = (j : Nat)) (by omega) (rfl : (j : Int) = (j : Nat)) (by omega) u
        rw [empL_next j hlt] at h
        exact h
      obtain ⟨V', hV'⟩ : ∃ V' : Int, ((val (empL (j + 1)) : Nat) : Int) = V' := ⟨_, rfl⟩
      rw [hV'] at H
      have HV' : Hid (V' = ((val (empL (j + 1)) : Nat) : Int)) := hV'.symm
      clear hV'
      go_wp2_with (go_at_call 59; go_must (refine (H.out _).mono ?_; rintro e w1 ⟨rfl, rfl⟩))
      go_round
      case rel => exact ⟨j + 1, V', by omega, by go_num, rfl, HV'⟩
      case measure => simp [intOf]; omega
    · have hgI : ¬ (j : Int) < 15 := by omega
      have hj15 : j = 15 := by omega
      have HE : Hid (V = emptyW) := by
        have := HV.out
        rw [hj15, empL_end] at this
        exact this
      clear hj15
      go_wp2
      go_ret
      exact ⟨ret_int HE.out, rfl⟩

set_option maxRecDepth 100000 in
theorem check_any {W : Int} {u : Nat} {l : List Nat} (h : Wd W u l) (w : World) : Calls Try.prog 63 #[.int .u64 W] w fun e w' => e = .returned (.int .i64 (chk l)) ∧ w' = w := by
  have HW : Hid (Wd W u l) := h
  clear h
  go_enter Try.func63, Try.ntmps63
  go_wp2
  go_loop [3, 5] (fun v i => ∃ (j : Nat) (V : Int), j ≤ 15 ∧ i = .int .i64 j ∧ v = .int .u64 V ∧ Hid (V = ((told (l.take j) : Nat) : Int))) (fun _ i => 15 - (intOf i).toNat)
  case atStart => exact ⟨0, 0, by omega, rfl, rfl, (rfl : _ = _)⟩
  case round =>
    obtain ⟨j, V, hj, rfl, rfl, HV⟩ := hrel
    by_cases hlt : j < 15
    · have hlI : (j : Int) < 15 := by omega
      have hl : l.length = 15 := HW.out.len
      have hx : l.getD j 0 < 16 := getD_lt HW.out.dig j
      have hT : Dig (l.take j) := fun x hx => HW.out.dig x (List.mem_of_mem_take hx)
      have k1 := or_told hT hx
      have k2 := shift_two hx
      have h16 : 2 ^ l.getD j 0 < 2 ^ 16 := Nat.pow_lt_pow_right (by decide) hx
      have e1 : l.take (j + 1) = l.take j ++ [l.getD j 0] := by
        rw [List.take_add_one, List.getElem?_eq_getElem (by omega), getD_of (by omega)]
        rfl
      rw [← HV.out, ← e1] at k1
      have H : Hid (∀ u : World, Calls Try.prog 50 #[.int .u64 W, .int .i64 (j : Int)] u fun e w' => e = .returned (.int .i64 ((l.getD j 0 : Nat) : Int)) ∧ w' = u) := fun u => slotAt_any HW.out rfl (by omega) u
      obtain ⟨x, hxe⟩ : ∃ x : Int, ((l.getD j 0 : Nat) : Int) = x := ⟨_, rfl⟩
      obtain ⟨B, hB⟩ : ∃ B : Int, ((2 ^ l.getD j 0 : Nat) : Int) = B := ⟨_, rfl⟩
      obtain ⟨V', hV'⟩ : ∃ V' : Int, ((told (l.take (j + 1)) : Nat) : Int) = V' := ⟨_, rfl⟩
      have x0 : 0 ≤ x := by omega
      have b0 : 0 ≤ B := by rw [← hB]; exact Int.natCast_nonneg _
      have b1 : B < 65536 := by rw [← hB]; exact Int.ofNat_lt.2 h16
      rw [hxe] at H k2
      rw [hB] at k1 k2
      rw [hV'] at k1
      have HV' : Hid (V' = ((told (l.take (j + 1)) : Nat) : Int)) := hV'.symm
      clear hV' hB hxe e1 h16 hT hx hl
      go_wp2_with (go_at_call 50; go_must (refine (H.out _).mono ?_; rintro e w1 ⟨rfl, rfl⟩))
      go_round
      case rel => exact ⟨j + 1, V', by omega, by go_num, rfl, HV'⟩
      case measure => simp [intOf]; omega
    · have hgI : ¬ (j : Int) < 15 := by omega
      have e1 : l.take j = l := List.take_of_length_le (by have := HW.out.len; omega)
      have hV : V = ((told l : Nat) : Int) := by have := HV.out; rw [e1] at this; exact this
      by_cases hm : May l
      · have hV2 : V = 32767 := by
          have := (told_may HW.out.len).2 hm
          omega
        have HM : Hid (chk l = 0) := chk_yes hm
        subst hV2
        clear hV e1 hm
        go_wp2
        go_ret
        exact ⟨ret_int HM.out.symm, rfl⟩
      · have hV2 : ¬ V = 32767 := fun e => hm ((told_may HW.out.len).1 (by omega))
        have HM : Hid (chk l = 4) := chk_no hm
        have hV3 : (V != 32767) = true := bne_iff_ne.2 hV2
        clear hV e1 hm
        go_wp2
        go_ret
        exact ⟨ret_int HM.out.symm, rfl⟩

theorem results_tmp3 {fn : Func} {t0 t1 t2 : Tmp} (h : fn.results = #[.tmp t0, .tmp t1, .tmp t2]) (tmps : Array Value) (P : Program) (w : World) :
    (results fn tmps).run P w = .ok (.tuple #[tmps.getD t0 undef, tmps.getD t1 undef, tmps.getD t2 undef]) w := by
  simp [results, h]

def Ans3 (a b c : Int) : Ending := .returned (.tuple #[.int .u64 a, .int .i64 b, .int .i64 c])
theorem ans3 {a b c a' b' c' : Int} (h1 : a = a') (h2 : b = b') (h3 : c = c') : Ending.returned (.tuple #[.int .u64 a, .int .i64 b, .int .i64 c]) = Ans3 a' b' c' := by rw [h1, h2, h3]; rfl

section
variable {W : Int} {u : Nat} {l : List Nat}

theorem insert_shape (h : Wd W u l) (hm : ¬ May l) (x : Int) (w : World) : Calls Try.prog 51 #[.int .u64 W, .int .i64 x] w fun e w' => e = Ans3 0 0 4 ∧ w' = w := by
  have HC : Hid (∀ v : World, Calls Try.prog 63 #[.int .u64 W] v fun e w' => e = .returned (.int .i64 4) ∧ w' = v) := fun v => by have := check_any h v; rw [chk_no hm] at this; exact this
  clear h hm
  go_enter Try.func51, Try.ntmps51
  go_wp2_with (go_at_call 63; go_must (refine (HC.out _).mono ?_; rintro e w1 ⟨rfl, rfl⟩))
  go_ret3
  exact ⟨rfl, rfl⟩

theorem insert_full (h : Wd W u l) (hm : May l) (hu : u = 15) (x : Int) (w : World) : Calls Try.prog 51 #[.int .u64 W, .int .i64 x] w fun e w' => e = Ans3 0 0 120 ∧ w' = w := by
  have HC : Hid (∀ v : World, Calls Try.prog 63 #[.int .u64 W] v fun e w' => e = .returned (.int .i64 0) ∧ w' = v) := fun v => by have := check_any h v; rw [chk_yes hm] at this; exact this
  have HU : Hid (∀ v : World, Calls Try.prog 60 #[.int .u64 W] v fun e w' => e = .returned (.int .i64 15) ∧ w' = v) := fun v => by have := usedOf_any h v; rw [hu] at this; exact this
  clear h hm hu
  go_enter Try.func51, Try.ntmps51
  go_wp2_with (first | (go_at_call 63; go_must (refine (HC.out _).mono ?_; rintro e w1 ⟨rfl, rfl⟩)) | (go_at_call 60; go_must (refine (HU.out _).mono ?_; rintro e w1 ⟨rfl, rfl⟩)))
  go_ret3
  exact ⟨rfl, rfl⟩

theorem insert_range (h : Wd W u l) (hm : May l) (hu : u < 15) {x : Int} (hx : ¬ (0 ≤ x ∧ x ≤ u)) (w : World) : Calls Try.prog 51 #[.int .u64 W, .int .i64 x] w fun e w' => e = Ans3 0 0 1 ∧ w' = w := by
  have HC : Hid (∀ v : World, Calls Try.prog 63 #[.int .u64 W] v fun e w' => e = .returned (.int .i64 0) ∧ w' = v) := fun v => by have := check_any h v; rw [chk_yes hm] at this; exact this
  have HU : Hid (∀ v : World, Calls Try.prog 60 #[.int .u64 W] v fun e w' => e = .returned (.int .i64 (u : Int)) ∧ w' = v) := fun v => usedOf_any h v
  have hu1 : ¬ (u : Int) = 15 := by omega
  clear h hm
  by_cases hx0 : x < 0
  · clear hx
    go_enter Try.func51, Try.ntmps51
    go_wp2_with (first | (go_at_call 63; go_must (refine (HC.out _).mono ?_; rintro e w1 ⟨rfl, rfl⟩)) | (go_at_call 60; go_must (refine (HU.out _).mono ?_; rintro e w1 ⟨rfl, rfl⟩)))
    go_ret3
    exact ⟨rfl, rfl⟩
  · have hx1 : (u : Int) < x := by omega
    clear hx
    go_enter Try.func51, Try.ntmps51
    go_wp2_with (first | (go_at_call 63; go_must (refine (HC.out _).mono ?_; rintro e w1 ⟨rfl, rfl⟩)) | (go_at_call 60; go_must (refine (HU.out _).mono ?_; rintro e w1 ⟨rfl, rfl⟩)))
    go_ret3
    exact ⟨rfl, rfl⟩

theorem insert_ok (h : Wd W u l) (hm : May l) (hu : u < 15) {x : Int} {a : Nat} (hx : x = a) (ha : a ≤ u) (w : World) : Calls Try.prog 51 #[.int .u64 W, .int .i64 x] w fun e w' => ∃ W', Wd W' (u + 1) (insW l u a) ∧ e = Ans3 W' ((l.getD u 0 : Nat) : Int) 0 ∧ w' = w := by
  have HC : Hid (∀ v : World, Calls Try.prog 63 #[.int .u64 W] v fun e w' => e = .returned (.int .i64 0) ∧ w' = v) := fun v => by have := check_any h v; rw [chk_yes hm] at this; exact this
  have HU : Hid (∀ v : World, Calls Try.prog 60 #[.int .u64 W] v fun e w' => e = .returned (.int .i64 (u : Int)) ∧ w' = v) := fun v => usedOf_any h v
  have hs := getD_lt h.dig u
  obtain ⟨s, hse⟩ : ∃ s : Int, ((l.getD u 0 : Nat) : Int) = s := ⟨_, rfl⟩
  have HS : Hid (∀ v : World, Calls Try.prog 50 #[.int .u64 W, .int .i64 (u : Int)] v fun e w' => e = .returned (.int .i64 s) ∧ w' = v) := fun v => by rw [← hse]; exact slotAt_any h rfl (by omega) v
  have hl16 : (u :: l).length = 16 := by simp [h.len]
  obtain ⟨T, hT⟩ : ∃ T : Int, T = ((val (tk (u :: l) (u + 1)) : Nat) : Int) := ⟨_, rfl⟩
  have HT : Hid (∀ v : World, Calls Try.prog 64 #[.int .u64 W, .int .i64 (u : Int)] v fun e w' => e = .returned (.int .u64 T) ∧ w' = v) := fun v => by rw [hT]; exact takeOut_any h.all hl16 h.eq rfl (by omega) v
  obtain ⟨R, hR⟩ : ∃ R : Int, R = ((val (pt (tk (u :: l) (u + 1)) (a + 1) (l.getD u 0)) : Nat) : Int) := ⟨_, rfl⟩
  have HP : Hid (∀ v : World, Calls Try.prog 59 #[.int .u64 T, .int .i64 x, .int .i64 s] v fun e w' => e = .returned (.int .u64 R) ∧ w' = v) := fun v => by
    rw [hR]
    exact putIn_any (tk_dig h.all _) (tk_length hl16 (by omega)) hT hx (by omega) hse.symm hs v
  have hwd := h.ins hu ha (W' := R + 1) (by rw [hR])
  have HW : Hid (Wd (R + 1) (u + 1) (insW l u a)) := hwd
  obtain ⟨r0, r1⟩ := hwd.range
  have r2 : 0 ≤ R := by omega
  have HE : Hid (s = ((l.getD u 0 : Nat) : Int)) := hse.symm
  have hu1 : ¬ (u : Int) = 15 := by omega
  have hx0 : ¬ x < 0 := by omega
  have hx1 : ¬ (u : Int) < x := by omega
  clear hwd hR hT hse h hm hs hl16 hx ha
  go_enter Try.func51, Try.ntmps51
  go_wp2_with (first | (go_at_call 63; go_must (refine (HC.out _).mono ?_; rintro e w1 ⟨rfl, rfl⟩)) | (go_at_call 60; go_must (refine (HU.out _).mono ?_; rintro e w1 ⟨rfl, rfl⟩)) | (go_at_call 50; go_must (refine (HS.out _).mono ?_; rintro e w1 ⟨rfl, rfl⟩)) | (go_at_call 64; go_must (refine (HT.out _).mono ?_; rintro e w1 ⟨rfl, rfl⟩)) | (go_at_call 59; go_must (refine (HP.out _).mono ?_; rintro e w1 ⟨rfl, rfl⟩)))
  go_ret3
  exact ⟨R + 1, HW.out, ans3 rfl HE.out rfl, rfl⟩

theorem remove_shape (h : Wd W u l) (hm : ¬ May l) (x : Int) (w : World) : Calls Try.prog 66 #[.int .u64 W, .int .i64 x] w fun e w' => e = Ans3 0 0 4 ∧ w' = w := by
  have HC : Hid (∀ v : World, Calls Try.prog 63 #[.int .u64 W] v fun e w' => e = .returned (.int .i64 4) ∧ w' = v) := fun v => by have := check_any h v; rw [chk_no hm] at this; exact this
  clear h hm
  go_enter Try.func66, Try.ntmps66
  go_wp2_with (go_at_call 63; go_must (refine (HC.out _).mono ?_; rintro e w1 ⟨rfl, rfl⟩))
  go_ret3
  exact ⟨rfl, rfl⟩

theorem remove_range (h : Wd W u l) (hm : May l) {x : Int} (hx : ¬ (0 ≤ x ∧ x < u)) (w : World) : Calls Try.prog 66 #[.int .u64 W, .int .i64 x] w fun e w' => e = Ans3 0 0 1 ∧ w' = w := by
  have HC : Hid (∀ v : World, Calls Try.prog 63 #[.int .u64 W] v fun e w' => e = .returned (.int .i64 0) ∧ w' = v) := fun v => by have := check_any h v; rw [chk_yes hm] at this; exact this
  have HU : Hid (∀ v : World, Calls Try.prog 60 #[.int .u64 W] v fun e w' => e = .returned (.int .i64 (u : Int)) ∧ w' = v) := fun v => usedOf_any h v
  clear h hm
  by_cases hx0 : x < 0
  · clear hx
    go_enter Try.func66, Try.ntmps66
    go_wp2_with (first | (go_at_call 63; go_must (refine (HC.out _).mono ?_; rintro e w1 ⟨rfl, rfl⟩)) | (go_at_call 60; go_must (refine (HU.out _).mono ?_; rintro e w1 ⟨rfl, rfl⟩)))
    go_ret3
    exact ⟨rfl, rfl⟩
  · have hx1 : (u : Int) ≤ x := by omega
    clear hx
    go_enter Try.func66, Try.ntmps66
    go_wp2_with (first | (go_at_call 63; go_must (refine (HC.out _).mono ?_; rintro e w1 ⟨rfl, rfl⟩)) | (go_at_call 60; go_must (refine (HU.out _).mono ?_; rintro e w1 ⟨rfl, rfl⟩)))
    go_ret3
    exact ⟨rfl, rfl⟩

theorem remove_ok (h : Wd W u l) (hm : May l) {x : Int} {a : Nat} (hx : x = a) (ha : a < u) (w : World) : Calls Try.prog 66 #[.int .u64 W, .int .i64 x] w fun e w' => ∃ W', Wd W' (u - 1) (remW l u a) ∧ e = Ans3 W' ((l.getD a 0 : Nat) : Int) 0 ∧ w' = w := by
  have HC : Hid (∀ v : World, Calls Try.prog 63 #[.int .u64 W] v fun e w' => e = .returned (.int .i64 0) ∧ w' = v) := fun v => by have := check_any h v; rw [chk_yes hm] at this; exact this
  have HU : Hid (∀ v : World, Calls Try.prog 60 #[.int .u64 W] v fun e w' => e = .returned (.int .i64 (u : Int)) ∧ w' = v) := fun v => usedOf_any h v
  have hs := getD_lt h.dig a
  have hu := h.u16
  obtain ⟨s, hse⟩ : ∃ s : Int, ((l.getD a 0 : Nat) : Int) = s := ⟨_, rfl⟩
  have HS : Hid (∀ v : World, Calls Try.prog 50 #[.int .u64 W, .int .i64 x] v fun e w' => e = .returned (.int .i64 s) ∧ w' = v) := fun v => by rw [← hse]; exact slotAt_any h hx (by omega) v
  have hl16 : (u :: l).length = 16 := by simp [h.len]
  obtain ⟨T, hT⟩ : ∃ T : Int, T = ((val (tk (u :: l) (a + 1)) : Nat) : Int) := ⟨_, rfl⟩
  have HT : Hid (∀ v : World, Calls Try.prog 64 #[.int .u64 W, .int .i64 x] v fun e w' => e = .returned (.int .u64 T) ∧ w' = v) := fun v => by rw [hT]; exact takeOut_any h.all hl16 h.eq hx (by omega) v
  obtain ⟨R, hR⟩ : ∃ R : Int, R = ((val (pt (tk (u :: l) (a + 1)) (u - 1 + 1) (l.getD a 0)) : Nat) : Int) := ⟨_, rfl⟩
  have HP : Hid (∀ v : World, Calls Try.prog 59 #[.int .u64 T, .int .i64 ((u : Int) - 1), .int .i64 s] v fun e w' => e = .returned (.int .u64 R) ∧ w' = v) := fun v => by
    rw [hR]
    exact putIn_any (tk_dig h.all _) (tk_length hl16 (by omega)) hT (by omega) (by omega) hse.symm hs v
  have hwd := h.rem ha (W' := R - 1) (by rw [hR])
  have HW : Hid (Wd (R - 1) (u - 1) (remW l u a)) := hwd
  obtain ⟨r0, r1⟩ := hwd.range
  have r2 : R < 18446744073709551616 := by
    have hL := val_lt (pt (tk (u :: l) (a + 1)) (u - 1 + 1) (l.getD a 0)) (by
      rw [pt_tk h.len (by omega) (by omega)]
      intro y hy
      rcases List.mem_cons.1 hy with rfl | hy
      · exact hu
      · exact ins_dig h.dig _ _ _ hs y hy)
    rw [pt_tk h.len (by omega) (by omega), List.length_cons, ins_length h.len (by omega) (by omega), pow16, ← pt_tk (u := u) h.len (by omega) (by omega)] at hL
    omega
  have HE : Hid (s = ((l.getD a 0 : Nat) : Int)) := hse.symm
  have hx0 : ¬ x < 0 := by omega
  have hx1 : ¬ (u : Int) ≤ x := by omega
  clear hwd hR hT hse h hm hs hl16 hx ha
  go_enter Try.func66, Try.ntmps66
  go_wp2_with (first | (go_at_call 63; go_must (refine (HC.out _).mono ?_; rintro e w1 ⟨rfl, rfl⟩)) | (go_at_call 60; go_must (refine (HU.out _).mono ?_; rintro e w1 ⟨rfl, rfl⟩)) | (go_at_call 50; go_must (refine (HS.out _).mono ?_; rintro e w1 ⟨rfl, rfl⟩)) | (go_at_call 64; go_must (refine (HT.out _).mono ?_; rintro e w1 ⟨rfl, rfl⟩)) | (go_at_call 59; go_must (refine (HP.out _).mono ?_; rintro e w1 ⟨rfl, rfl⟩)))
  go_ret3
  exact ⟨R - 1, HW.out, ans3 rfl HE.out rfl, rfl⟩
end

end Go.Proofs.Ytoknebbkpkcomaa
