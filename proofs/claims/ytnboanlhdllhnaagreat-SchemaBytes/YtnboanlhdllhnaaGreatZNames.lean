/- The program's names: which may be, and none twice. -/
import Derived.Test.YtnboanlhdllhnaaGreatZHeap
namespace Go.Proofs.YtnboanlhdllhnaaGreat
open Go.RowKit

def okB (c : Int) : Bool := (decide (97 ≤ c) && decide (c ≤ 122)) || (decide (48 ≤ c) && decide (c ≤ 57))
theorem okB_eq (c : UInt8) : okB (c.toNat : Int) = nameB c := by
  unfold okB nameB
  rw [Bool.eq_iff_iff]
  simp
  omega

set_option maxHeartbeats 400000 in
theorem nameByte_any (c : Int) (w : World) :
    Calls Tryz.prog 62 #[.int .u8 c] w fun e w' => e = .returned (.bool (okB c)) ∧ w' = w := by
  go_enter Tryz.func62, Tryz.ntmps62
  go_wp2
  all_goals (go_ret; refine ⟨ret_bool ?_, rfl⟩; rw [Bool.eq_iff_iff]; simp [okB]; omega)

theorem name_take (k : ByteArray) (j : Nat) (hj : j < k.size) (h : (k.data.toList.take j).all nameB = true) : (k.data.toList.take (j + 1)).all nameB = okB (k[j].toNat : Int) := by
  rw [List.take_succ_eq_append_getElem (by simpa using hj), List.all_append, h, okB_eq]
  simp
  rfl
theorem name_no (k : ByteArray) (n : Nat) (h : (k.data.toList.take n).all nameB = false) : nameOk k = false := by
  unfold nameOk
  have e : k.data.toList.all nameB = false := by
    rw [← List.take_append_drop n k.data.toList, List.all_append, h]; rfl
  rw [e, Bool.and_false]
theorem name_yes (k : ByteArray) (j : Nat) (hj : ¬ j < k.size) (h1 : ¬ (k.size : Int) < 1) (h2 : ¬ (32 : Int) < k.size) (h : (k.data.toList.take j).all nameB = true) : nameOk k = true := by
  rw [List.take_of_length_le (by rw [size_list]; omega)] at h
  unfold nameOk
  rw [h, decide_eq_true (by omega), decide_eq_true (by omega)]
  rfl

set_option maxHeartbeats 400000 in
theorem nameMayBe_any (k : ByteArray) (w : World) (hk : k.size ≤ 9223372036854775807) :
    Calls Tryz.prog 40 #[.string k] w fun e w' => e = .returned (.bool (nameOk k)) ∧ w' = w := by
  by_cases h1 : k.size < 1 ∨ 32 < k.size
  · have hf : nameOk k = false := by
      unfold nameOk
      rcases h1 with h | h
      · have : decide (1 ≤ k.size) = false := decide_eq_false (by omega)
        rw [this]; rfl
      · have : decide (k.size ≤ 32) = false := decide_eq_false (by omega)
        rw [this]; simp
    rw [hf]
    by_cases h2 : k.size < 1
    · have h2' : (k.size : Int) < 1 := by omega
      go_enter Tryz.func40, Tryz.ntmps40
      go_wp2
      go_ret
      exact ⟨rfl, rfl⟩
    · have h3 : (32 : Int) < k.size := by omega
      have h2' : ¬ (k.size : Int) < 1 := by omega
      go_enter Tryz.func40, Tryz.ntmps40
      go_wp2
      go_ret
      exact ⟨rfl, rfl⟩
  · have h2 : ¬ (k.size : Int) < 1 := by omega
    have h3 : ¬ (32 : Int) < k.size := by omega
    go_enter Tryz.func40, Tryz.ntmps40
    go_wp2
    go_loop [3, 14] (fun _ i => ∃ j : Nat, j ≤ k.size ∧ i = .int .i64 j ∧ Hid ((k.data.toList.take j).all nameB = true)) (fun _ i => k.size - (intOf i).toNat)
    case atStart => exact ⟨0, Nat.zero_le _, rfl, (rfl : _ = _)⟩
    case round =>
      obtain ⟨j, hj, rfl, HA⟩ := hrel
      by_cases hlt : j < k.size
      · have HS : Hid ((k.data.toList.take (j + 1)).all nameB = okB (k[j].toNat : Int)) := name_take k j hlt HA.out
        go_wp2_with (go_at_call 62; refine (nameByte_any _ _).mono ?_; rintro e w' ⟨rfl, rfl⟩)
        · have hb : okB (k[j].toNat : Int) = false := by simpa using ‹(!okB (k[j].toNat : Int)) = true›
          go_ret
          exact ⟨ret_bool (name_no k (j + 1) (HS.out.trans hb)).symm, rfl⟩
        · have hb : okB (k[j].toNat : Int) = true := by simpa using ‹(!okB (k[j].toNat : Int)) = false›
          go_round
          case rel => exact ⟨j + 1, by omega, by go_num, HS.out.trans hb⟩
          case measure => simp [intOf]; omega
      · go_wp2
        go_ret
        exact ⟨ret_bool (name_yes k j hlt (by omega) (by omega) HA.out).symm, rfl⟩

theorem isIn_take {x y : ByteArray} {K : List ByteArray} {i : Nat} (h : K[i]? = some y) : isIn x (K.take (i + 1)) = (isIn x (K.take i) || decide (y = x)) := by
  unfold isIn
  rw [List.take_add_one, h, List.any_append]
  simp

set_option maxHeartbeats 400000 in
theorem index_any (b : Nat) (K : List ByteArray) (x : ByteArray) (j c : Nat) (w : World) (h : TextsAt w b K) (hj : j ≤ K.length) (hc : j ≤ c) (hcm : c ≤ 1000) :
    Calls Tryz.prog 117 #[.slice (some ⟨b, 0, none⟩) j c, .string x] w fun e w' => ∃ n : Int, e = .returned (.int .i64 n) ∧ Hid (decide (0 ≤ n) = isIn x (K.take j)) ∧ w' = w := by
  have HB : Hid (∀ i y, K[i]? = some y → w.cell? ⟨b, i, none⟩ = some (.string y)) := fun i y hy => h.cell hy
  have HL : Hid (j ≤ K.length) := hj
  clear h hj
  go_enter Tryz.func117, Tryz.ntmps117
  go_wp2
  go_loop [8] (fun v => ∃ i : Nat, i ≤ j ∧ v = .int .i64 i ∧ Hid (isIn x (K.take i) = false)) (fun v => j - (intOf v).toNat)
  case atStart => exact ⟨0, Nat.zero_le _, rfl, (rfl : _ = _)⟩
  case round =>
    obtain ⟨i, hi, rfl, HA⟩ := hrel
    by_cases hlt : i < j
    · obtain ⟨y, hy⟩ : ∃ y, K[i]? = some y := ⟨_, List.getElem?_eq_getElem (Nat.lt_of_lt_of_le hlt HL.out)⟩
      have q1 := HB.out i y hy
      have HY : Hid (K[i]? = some y) := hy
      have hlI : (i : Int) < (j : Int) := by omega
      clear hy
      by_cases hxy : x = y
      · subst hxy
        go_wp2
        go_ret
        refine ⟨_, rfl, ?_, rfl⟩
        show _ = _
        have h1 : isIn x (K.take j) = true := by
          rw [isIn_iff]
          exact List.mem_of_getElem? (i := i) (by rw [List.getElem?_take_of_lt hlt]; exact HY.out)
        rw [h1]
        simp
      · have hne1 : (x.toList == y.toList) = false := by rw [beq_eq_false_iff_ne]; exact fun e => hxy (toList_inj e)
        have hne2 : ¬ x.toList = y.toList := fun e => hxy (toList_inj e)
        have HN : Hid (isIn x (K.take (i + 1)) = false) := by
          show _ = _
          rw [isIn_take HY.out, HA.out, decide_eq_false (fun e => hxy e.symm)]
          rfl
        clear hxy
        go_wp2
        go_round
        case rel => exact ⟨i + 1, by omega, by go_num, HN⟩
        case measure => simp [intOf]; omega
    · have hlI : ¬ (i : Int) < (j : Int) := by omega
      go_wp2
      go_ret
      refine ⟨-1, rfl, ?_, rfl⟩
      show _ = _
      rw [show j = i by omega, HA.out]
      rfl

set_option maxHeartbeats 400000 in
theorem contains_any (b : Nat) (K : List ByteArray) (x : ByteArray) (j c : Nat) (w : World) (h : TextsAt w b K) (hj : j ≤ K.length) (hc : j ≤ c) (hcm : c ≤ 1000) :
    Calls Tryz.prog 84 #[.slice (some ⟨b, 0, none⟩) j c, .string x] w fun e w' => e = .returned (.bool (isIn x (K.take j))) ∧ w' = w := by
  have HI : Hid (Calls Tryz.prog 117 #[.slice (some ⟨b, 0, none⟩) j c, .string x] w fun e w' => ∃ n : Int, e = .returned (.int .i64 n) ∧ Hid (decide (0 ≤ n) = isIn x (K.take j)) ∧ w' = w) := index_any b K x j c w h hj hc hcm
  clear h
  go_enter Tryz.func84, Tryz.ntmps84
  go_wp2_with (go_at_call 117; go_must (refine HI.out.mono ?_; rintro e w' ⟨n, rfl, HN, rfl⟩))
  go_ret
  refine ⟨ret_bool ?_, rfl⟩
  rw [← HN.out]

theorem names_step (K : List ByteArray) {j : Nat} {x : ByteArray} (h : K[j]? = some x) : namesOk (K.take j) (K.drop j) = (nameOk x && !(isIn x (K.take j)) && namesOk (K.take (j + 1)) (K.drop (j + 1))) := by
  obtain ⟨hj, rfl⟩ := List.getElem?_eq_some_iff.1 h
  rw [List.drop_eq_getElem_cons hj, namesOk, List.take_add_one, h]
  rfl

set_option maxHeartbeats 400000 in
theorem namesMayBe_any (b : Nat) (K : List ByteArray) (N : Nat) (w : World) (h : TextsAt w b K) (hN : K.length = N) (hs : ∀ x ∈ K, x.size ≤ 9223372036854775807) (hcm : N ≤ 1000) :
    Calls Tryz.prog 63 #[.slice (some ⟨b, 0, none⟩) N N] w fun e w' => e = .returned (.bool (namesOk [] K)) ∧ w' = w := by
  have HB : Hid (∀ i y, K[i]? = some y → w.cell? ⟨b, i, none⟩ = some (.string y)) := fun i y hy => h.cell hy
  have HT : Hid (TextsAt w b K) := h
  have HL : Hid (K.length = N) := hN
  have HZ : Hid (∀ x ∈ K, x.size ≤ 9223372036854775807) := hs
  clear h hN hs
  go_enter Tryz.func63, Tryz.ntmps63
  go_wp2
  go_loop [7] (fun v => ∃ i : Nat, i ≤ N ∧ v = .int .i64 i ∧ Hid (namesOk [] K = namesOk (K.take i) (K.drop i))) (fun v => N - (intOf v).toNat)
  case atStart => exact ⟨0, Nat.zero_le _, rfl, (rfl : _ = _)⟩
  case round =>
    obtain ⟨i, hi, rfl, HA⟩ := hrel
    by_cases hlt : i < N
    · obtain ⟨y, hy⟩ : ∃ y, K[i]? = some y := ⟨_, List.getElem?_eq_getElem (by rw [HL.out]; exact hlt)⟩
      have q1 := HB.out i y hy
      have HS : Hid (namesOk [] K = (nameOk y && !(isIn y (K.take i)) && namesOk (K.take (i + 1)) (K.drop (i + 1)))) := by show _ = _; rw [HA.out, names_step K hy]
      have hlI : (i : Int) < (N : Int) := by omega
      have HM : Hid (Calls Tryz.prog 40 #[.string y] w fun e w' => e = .returned (.bool (nameOk y)) ∧ w' = w) := nameMayBe_any y w (HZ.out y (List.mem_of_getElem? hy))
      have HC : Hid (Calls Tryz.prog 84 #[.slice (some ⟨b, 0, none⟩) i N, .string y] w fun e w' => e = .returned (.bool (isIn y (K.take i))) ∧ w' = w) := contains_any b K y i N w HT.out (by rw [HL.out]; exact hi) hi hcm
      clear hy HA
      obtain ⟨nb, hnb⟩ : ∃ nb, nameOk y = nb := ⟨_, rfl⟩
      obtain ⟨ib, hib⟩ : ∃ ib, isIn y (K.take i) = ib := ⟨_, rfl⟩
      rw [hnb] at HM HS
      rw [hib] at HC HS
      clear hnb hib
      cases nb
      · go_wp2_with (go_at_call 40; go_must (refine HM.out.mono ?_; rintro e w' ⟨rfl, rfl⟩))
        go_ret
        exact ⟨ret_bool HS.out.symm, rfl⟩
      · cases ib
        · go_wp2_with (first
            | (go_at_call 40; go_must (refine HM.out.mono ?_; rintro e w' ⟨rfl, rfl⟩))
            | (go_at_call 84; go_must (refine HC.out.mono ?_; rintro e w' ⟨rfl, rfl⟩)))
          go_round
          case rel => exact ⟨i + 1, by omega, by go_num, HS.out.trans rfl⟩
          case measure => simp [intOf]; omega
        · go_wp2_with (first
            | (go_at_call 40; go_must (refine HM.out.mono ?_; rintro e w' ⟨rfl, rfl⟩))
            | (go_at_call 84; go_must (refine HC.out.mono ?_; rintro e w' ⟨rfl, rfl⟩)))
          go_ret
          exact ⟨ret_bool HS.out.symm, rfl⟩
    · have hlI : ¬ (i : Int) < (N : Int) := by omega
      go_wp2
      go_ret
      refine ⟨ret_bool ?_, rfl⟩
      rw [HA.out, List.drop_of_length_le (by rw [HL.out]; omega)]
      rfl

end Go.Proofs.YtnboanlhdllhnaaGreat
