import Derived.Test.YtfddmibaojfalaaGreatZHeap
/- The program's names: which may be, and none twice. -/
namespace Go.Proofs.YtfddmibaojfalaaGreat
open Go.RowKit

def okB (c : Int) : Bool := (decide (97 ≤ c) && decide (c ≤ 122)) || (decide (48 ≤ c) && decide (c ≤ 57))
theorem okB_eq (c : UInt8) : okB (c.toNat : Int) = nameB c := by
  unfold okB nameB
  rw [Bool.eq_iff_iff]
  simp
  omega

set_option maxHeartbeats 400000 in
theorem nameByte_any (c : Int) (w : World) :
    Calls Tryz.prog 50 #[.int .u8 c] w fun e w' => e = .returned (.bool (okB c)) ∧ w' = w := by
  go_enter Tryz.func50, Tryz.ntmps50
  go_wp2
  all_goals (go_ret; refine ⟨ret_bool ?_, rfl⟩; rw [Bool.eq_iff_iff]; simp [okB]; omega)

theorem name_take (k : ByteArray) (j : Nat) (hj : j < k.size) (h : (k.data.toList.take j).all nameB = true) : (k.data.toList.take (j + 1)).all nameB = okB (k[j].toNat : Int) := by
  rw [List.take_succ_eq_append_getElem (by simpa using hj), List.all_append, h, okB_eq]
  simp
  rfl
theorem name_no (k : ByteArray) (n : Nat) (h : (k.data.toList.take n).all nameB = false) : nameOk k = false := by
  unfold nameOk
  have e : k.data.toList.all nameB = false := by
    rw [← List.take_append_drop n k.data.toList, List.all_append, h]; rfl
  rw [e, Bool.and_false]
theorem name_yes (k : ByteArray) (j : Nat) (hj : ¬ j < k.size) (h1 : ¬ (k.size : Int) < 1) (h2 : ¬ (32 : Int) < k.size) (h : (k.data.toList.take j).all nameB = true) : nameOk k = true := by
  rw [List.take_of_length_le (by rw [size_list]; omega)] at h
  unfold nameOk
  rw [h, decide_eq_true (by omega), decide_eq_true (by omega)]
  rfl

set_option maxHeartbeats 400000 in
theorem nameMayBe_any (k : ByteArray) (w : World) (hk : k.size ≤ 9223372036854775807) :
    Calls Tryz.prog 30 #[.string k] w fun e w' => e = .returned (.bool (nameOk k)) ∧ w' = w := by
  by_cases h1 : k.size < 1 ∨ 32 < k.size
  · have hf : nameOk k = false := by
      unfold nameOk
      rcases h1 with h | h
      · have : decide (1 ≤ k.size) = false := decide_eq_false (by omega)
        rw [this]; rfl
      · have : decide (k.size ≤ 32) = false := decide_eq_false (by omega)
        rw [this]; simp
    rw [hf]
    by_cases h2 : k.size < 1
    · have h2' : (k.size : Int) < 1 := by omega
      go_enter Tryz.func30, Tryz.ntmps30
      go_wp2
      go_ret
      exact ⟨rfl, rfl⟩
    · have h3 : (32 : Int) < k.size := by omega
      have h2' : ¬ (k.size : Int) < 1 := by omega
      go_enter Tryz.func30, Tryz.ntmps30
      go_wp2
      go_ret
      exact ⟨rfl, rfl⟩
  · have h2 : ¬ (k.size : Int) < 1 := by omega
    have h3 : ¬ (32 : Int) < k.size := by omega
    go_enter Tryz.func30, Tryz.ntmps30
    go_wp2
    go_loop [3, 14] (fun _ i => ∃ j : Nat, j ≤ k.size ∧ i = .int .i64 j ∧ Hid ((k.data.toList.take j).all nameB = true)) (fun _ i => k.size - (intOf i).toNat)
    case atStart => exact ⟨0, Nat.zero_le _, rfl, (rfl : _ = _)⟩
    case round =>
      obtain ⟨j, hj, rfl, HA⟩ := hrel
      by_cases hlt : j < k.size
      · have HS : Hid ((k.data.toList.take (j + 1)).all nameB = okB (k[j].toNat : Int)) := name_take k j hlt HA.out
        go_wp2_with (go_at_call 50; refine (nameByte_any _ _).mono ?_; rintro e w' ⟨rfl, rfl⟩)
        · have hb : okB (k[j].toNat : Int) = false := by simpa using ‹(!okB (k[j].toNat : Int)) = true›
          go_ret
          exact ⟨ret_bool (name_no k (j + 1) (HS.out.trans hb)).symm, rfl⟩
        · have hb : okB (k[j].toNat : Int) = true := by simpa using ‹(!okB (k[j].toNat : Int)) = false›
          go_round
          case rel => exact ⟨j + 1, by omega, by go_num, HS.out.trans hb⟩
          case measure => simp [intOf]; omega
      · go_wp2
        go_ret
        exact ⟨ret_bool (name_yes k j hlt (by omega) (by omega) HA.out).symm, rfl⟩

theorem isIn_take {x y : ByteArray} {K : List ByteArray} {i : Nat} (h : K[i]? = some y) : isIn x (K.take (i + 1)) = (isIn x (K.take i) || decide (y = x)) := by
  unfold isIn
  rw [List.take_add_one, h, List.any_append]
  simp

set_option maxHeartbeats 400000 in
theorem index_any (b : Nat) (K : List ByteArray) (x : ByteArray) (j c : Nat) (w : World) (h : TextsAt w b K) (hj : j ≤ K.length) (hc : j ≤ c) (hcm : c ≤ 1000) :
    Calls Tryz.prog 86 #[.slice (some ⟨b, 0, none⟩) j c, .string x] w fun e w' => ∃ n : Int, e = .returned (.int .i64 n) ∧ Hid (decide (0 ≤ n) = isIn x (K.take j)) ∧ w' = w := by
  have HB : Hid (∀ i y, K[i]? = some y → w.cell? ⟨b, i, none⟩ = some (.string y)) := fun i y hy => h.cell hy
  have HL : Hid (j ≤ K.length) := hj
  clear h hj
  go_enter Tryz.func86, Tryz.ntmps86
  go_wp2
  go_loop [8] (fun v => ∃ i : Nat, i ≤ j ∧ v = .int .i64 i ∧ Hid (isIn x (K.take i) = false)) (fun v => j - (intOf v).toNat)
  case atStart => exact ⟨0, Nat.zero_le _, rfl, (rfl : _ = _)⟩
  case round =>
    obtain ⟨i, hi, rfl, HA⟩ := hrel
    by_cases hlt : i < j
    · obtain ⟨y, hy⟩ : ∃ y, K[i]? = some y := ⟨_, List.getElem?_eq_getElem (Nat.lt_of_lt_of_le hlt HL.out)⟩
      have q1 := HB.out i y hy
      have HY : Hid (K[i]? = some y) := hy
      have hlI : (i : Int) < (j : Int) := by omega
      clear hy
      by_cases hxy : x = y
      · subst hxy
        go_wp2
        go_ret
        refine ⟨_, rfl, ?_, rfl⟩
        show _ = _
        have h1 : isIn x (K.take j) = true := by
          rw [isIn_iff]
          exact List.mem_of_getElem? (i := i) (by rw [List.getElem?_take_of_lt hlt]; exact HY.out)
        rw [h1]
        simp
      · have hne1 : (x.toList == y.toList) = false := by rw [beq_eq_false_iff_ne]; exact fun e => hxy (toList_inj e)
        have hne2 : ¬ x.toList = y.toList := fun e => hxy (toList_inj e)
        have HN : Hid (isIn x (K.take (i + 1)) = false) := by
          show _ = _
          rw [isIn_take HY.out, HA.out, decide_eq_false (fun e => hxy e.symm)]
          rfl
        clear hxy
        go_wp2
        go_round
        case rel => exact ⟨i + 1, by omega, by go_num, HN⟩
        case measure => simp [intOf]; omega
    · have hlI : ¬ (i : Int) < (j : Int) := by omega
      go_wp2
      go_ret
      refine ⟨-1, rfl, ?_, rfl⟩
      show _ = _
      rw [show j = i by omega, HA.out]
      rfl

set_option maxHeartbeats 400000 in
theorem contains_any (b : Nat) (K : List ByteArray) (x : ByteArray) (j c : Nat) (w : World) (h : TextsAt w b K) (hj : j ≤ K.length) (hc : j ≤ c) (hcm : c ≤ 1000) :
    Calls Tryz.prog 71 #[.slice (some ⟨b, 0, none⟩) j c, .string x] w fun e w' => e = .returned (.bool (isIn x (K.take j))) ∧ w' = w := by
  have HI : Hid (Calls Tryz.prog 86 #[.slice (some ⟨b, 0, none⟩) j c, .string x] w fun e w' => ∃ n : Int, e = .returned (.int .i64 n) ∧ Hid (decide (0 ≤ n) = isIn x (K.take j)) ∧ w' = w) := index_any b K x j c w h hj hc hcm
  clear h
  go_enter Tryz.func71, Tryz.ntmps71
  go_wp2_with (go_at_call 86; go_must (refine HI.out.mono ?_; rintro e w' ⟨n, rfl, HN, rfl⟩))
  go_ret
  refine ⟨ret_bool ?_, rfl⟩
  rw [← HN.out]

theorem names_step (K : List ByteArray) {j : Nat} {x : ByteArray} (h : K[j]? = some x) : namesOk (K.take j) (K.drop j) = (nameOk x && !(isIn x (K.take j)) && namesOk (K.take (j + 1)) (K.drop (j + 1))) := by
  obtain ⟨hj, rfl⟩ := List.getElem?_eq_some_iff.1 h
  rw [List.drop_eq_getElem_cons hj, namesOk, List.take_add_one, h]
  rfl

set_option maxHeartbeats 400000 in
theorem namesMayBe_any (b : Nat) (K : List ByteArray) (N : Nat) (w : World) (h : TextsAt w b K) (hN : K.length = N) (hs : ∀ x ∈ K, x.size ≤ 9223372036854775807) (hcm : N ≤ 1000) :
    Calls Tryz.prog 51 #[.slice (some ⟨b, 0, none⟩) N N] w fun e w' => e = .returned (.bool (namesOk [] K)) ∧ w' = w := by
  have HB : Hid (∀ i y, K[i]? = some y → w.cell? ⟨b, i, none⟩ = some (.string y)) := fun i y hy => h.cell hy
  have HT : Hid (TextsAt w b K) := h
  have HL : Hid (K.length = N) := hN
  have HZ : Hid (∀ x ∈ K, x.size ≤ 9223372036854775807) := hs
  clear h hN hs
  go_enter Tryz.func51, Tryz.ntmps51
  go_wp2
  go_loop [7] (fun v => ∃ i : Nat, i ≤ N ∧ v = .int .i64 i ∧ Hid (namesOk [] K = namesOk (K.take i) (K.drop i))) (fun v => N - (intOf v).toNat)
  case atStart => exact ⟨0, Nat.zero_le _, rfl, (rfl : _ = _)⟩
  case round =>
    obtain ⟨i, hi, rfl, HA⟩ := hrel
    by_cases hlt : i < N
    · obtain ⟨y, hy⟩ : ∃ y, K[i]? = some y := ⟨_, List.getElem?_eq_getElem (by rw [HL.out]; exact hlt)⟩
      have q1 := HB.out i y hy
      have HS : Hid (namesOk [] K = (nameOk y && !(isIn y (K.take i)) && namesOk (K.take (i + 1)) (K.drop (i + 1)))) := by show _ = _; rw [HA.out, names_step K hy]
      have hlI : (i : Int) < (N : Int) := by omega
      have HM : Hid (Calls Tryz.prog 30 #[.string y] w fun e w' => e = .returned (.bool (nameOk y)) ∧ w' = w) := nameMayBe_any y w (HZ.out y (List.mem_of_getElem? hy))
      have HC : Hid (Calls Tryz.prog 71 #[.slice (some ⟨b, 0, none⟩) i N, .string y] w fun e w' => e = .returned (.bool (isIn y (K.take i))) ∧ w' = w) := contains_any b K y i N w HT.out (by rw [HL.out]; exact hi) hi hcm
      clear hy HA
      obtain ⟨nb, hnb⟩ : ∃ nb, nameOk y = nb := ⟨_, rfl⟩
      obtain ⟨ib, hib⟩ : ∃ ib, isIn y (K.take i) = ib := ⟨_, rfl⟩
      rw [hnb] at HM HS
      rw [hib] at HC HS
      clear hnb hib
      cases nb
      · go_wp2_with (go_at_call 30; go_must (refine HM.out.mono ?_; rintro e w' ⟨rfl, rfl⟩))
        go_ret
        exact ⟨ret_bool HS.out.symm, rfl⟩
      · cases ib
        · go_wp2_with (first
            | (go_at_call 30; go_must (refine HM.out.mono ?_; rintro e w' ⟨rfl, rfl⟩))
            | (go_at_call 71; go_must (refine HC.out.mono ?_; rintro e w' ⟨rfl, rfl⟩)))
          go_round
          case rel => exact ⟨i + 1, by omega, by go_num, HS.out.trans rfl⟩
          case measure => simp [intOf]; omega
        · go_wp2_with (first
            | (go_at_call 30; go_must (refine HM.out.mono ?_; rintro e w' ⟨rfl, rfl⟩))
            | (go_at_call 71; go_must (refine HC.out.mono ?_; rintro e w' ⟨rfl, rfl⟩)))
          go_ret
          exact ⟨ret_bool HS.out.symm, rfl⟩
    · have hlI : ¬ (i : Int) < (N : Int) := by omega
      go_wp2
      go_ret
      refine ⟨ret_bool ?_, rfl⟩
      rw [HA.out, List.drop_of_length_le (by rw [HL.out]; omega)]
      rfl

end Go.Proofs.YtfddmibaojfalaaGreat

/- The program's Check. -/
namespace Go.Proofs.YtfddmibaojfalaaGreat
open Go.RowKit

/-- all its numbers are ints, all its texts have lengths -/
structure Rg (T : Tab) : Prop where
  nm : Sz T.nm
  co : ∀ c ∈ T.co, OkCol c
  key : I64 T.key
  ix : ∀ x ∈ T.ix, Sz x.nm ∧ ∀ n ∈ x.cs, I64 n

theorem numOk_iff {n : Nat} {x : Int} : numOk n x = true ↔ 0 ≤ x ∧ x < (n : Int) := by unfold numOk; simp

set_option maxHeartbeats 400000 in
theorem numbersMayBe_any (v : Value) (L : List Int) (n : Nat) (w w0 : World) (h : SliceAt w0 v 1 enI L) (hb : Below w0.heap.size w0 w) :
    Calls Tryz.prog 52 #[v, .int .i64 (n : Int)] w fun e w' => e = .returned (.bool (numsOk n L)) ∧ w' = w := by
  obtain ⟨a, c, rfl, h1, h2, h3⟩ := h.opened
  have HX : Hid (∀ i y, L[i]? = some y → ∃ b off, a = some ⟨b, off, none⟩ ∧ w.cell? ⟨b, off + i, none⟩ = some (.int .i64 y)) := fun i y hy => by
    obtain ⟨hi, rfl⟩ := List.getElem?_eq_some_iff.1 hy
    obtain ⟨b, off, e, _, hc⟩ := h3 w hb i hi
    have := hc 0 _ rfl
    rw [Nat.mul_one] at this
    exact ⟨b, off, e, this⟩
  obtain ⟨N, hN⟩ : ∃ N, L.length = N := ⟨_, rfl⟩
  have HL : Hid (L.length = N) := hN
  unfold maxLen at h2
  rw [hN] at h1 ⊢
  clear h h3 hN hb
  by_cases g1 : N < 1
  · have g1' : (N : Int) < 1 := by omega
    have hf : numsOk n L = false := by unfold numsOk; rw [decide_eq_false (by rw [HL.out]; omega)]; rfl
    rw [hf]
    go_enter Tryz.func52, Tryz.ntmps52
    go_wp2
    go_ret
    exact ⟨rfl, rfl⟩
  · have g1' : ¬ (N : Int) < 1 := by omega
    by_cases g2 : 32 < N
    · have g2' : (32 : Int) < (N : Int) := by omega
      have hf : numsOk n L = false := by unfold numsOk; rw [decide_eq_false (p := L.length ≤ 32) (by rw [HL.out]; omega)]; simp
      rw [hf]
      go_enter Tryz.func52, Tryz.ntmps52
      go_wp2
      go_ret
      exact ⟨rfl, rfl⟩
    · have g2' : ¬ (32 : Int) < (N : Int) := by omega
      have HE : Hid (numsOk n L = L.all (numOk n)) := by show _ = _; unfold numsOk; rw [HL.out, decide_eq_true (by omega), decide_eq_true (by omega)]; rfl
      go_enter Tryz.func52, Tryz.ntmps52
      go_wp2
      go_loop [17] (fun v => ∃ i : Nat, i ≤ N ∧ v = .int .i64 i ∧ Hid ((L.take i).all (numOk n) = true)) (fun v => N - (intOf v).toNat)
      case atStart => exact ⟨0, Nat.zero_le _, rfl, (rfl : _ = _)⟩
      case round =>
        obtain ⟨i, hi, rfl, HA⟩ := hrel
        by_cases hlt : i < N
        · obtain ⟨y, hy⟩ : ∃ y, L[i]? = some y := ⟨_, List.getElem?_eq_getElem (by rw [HL.out]; exact hlt)⟩
          obtain ⟨b, off, rfl, q1⟩ := HX.out i y hy
          have hlI : (i : Int) < (N : Int) := by omega
          have HS : Hid ((L.take (i + 1)).all (numOk n) = numOk n y) := by show _ = _; rw [List.take_add_one, hy, List.all_append, HA.out]; simp
          have HF : Hid (numOk n y = false → numsOk n L = false) := fun hf => by
            rw [HE.out, ← List.take_append_drop (i + 1) L, List.all_append, HS.out, hf]; rfl
          clear hy
          by_cases k1 : y < 0
          · go_wp2
            go_ret
            refine ⟨ret_bool (HF.out ?_).symm, rfl⟩
            unfold numOk; rw [decide_eq_false (by omega)]; rfl
          · by_cases k2 : (n : Int) ≤ y
            · go_wp2
              go_ret
              refine ⟨ret_bool (HF.out ?_).symm, rfl⟩
              unfold numOk; rw [decide_eq_false (p := y < (n : Int)) (by omega)]; simp
            · go_wp2
              go_round
              case rel => exact ⟨i + 1, by omega, by go_num, HS.out.trans (numOk_iff.2 ⟨by omega, by omega⟩)⟩
              case measure => simp [intOf]; omega
        · have hlI : ¬ (i : Int) < (N : Int) := by omega
          go_wp2
          go_ret
          refine ⟨ret_bool ?_, rfl⟩
          have := HA.out
          rw [List.take_of_length_le (by rw [HL.out]; omega)] at this
          rw [HE.out, this]

theorem set_alloc_below {w wr : World} {nb : Nat} (h : Below nb w wr) (hl : nb < wr.heap.size) (i : Nat) (x : Value) (o : Obj) : Below nb w ((wr.setCell ⟨nb, i, none⟩ x).alloc o) :=
  (h.trans ((Turn.setCell (S := fun j => nb ≤ j) wr ⟨nb, i, none⟩ x (Nat.le_refl _)).toBelow (by omega))).trans (((Below.refl _ _).alloc (Nat.le_refl _) o).mono (by simp; omega))
theorem kindOk_iff {k : Int} : kindOk k = true ↔ 1 ≤ k ∧ k ≤ 5 := by unfold kindOk; simp

set_option maxRecDepth 100000 in
set_option maxHeartbeats 1000000 in
theorem columnsMayBe_any (v : Value) (L : List (ByteArray × Int)) (w : World) (h : SliceAt w v 2 enC L) (hs : ∀ c ∈ L, Sz c.1) :
    Calls Tryz.prog 31 #[v] w fun e w' => e = .returned (.bool (colsOk L)) ∧ Below w.heap.size w w' := by
  obtain ⟨a, c, rfl, h1, h2, h3⟩ := h.opened
  have HX : Hid (∀ u, Below w.heap.size w u → ∀ i y, L[i]? = some y → ∃ b off, a = some ⟨b, off, none⟩ ∧ u.cell? ⟨b, off + i * 2, none⟩ = some (.string y.1) ∧ u.cell? ⟨b, off + i * 2 + 1, none⟩ = some (.int .i64 y.2)) := fun u hu i y hy => by
    obtain ⟨hi, rfl⟩ := List.getElem?_eq_some_iff.1 hy
    obtain ⟨b, off, e, _, hc⟩ := h3 u hu i hi
    exact ⟨b, off, e, hc 0 _ rfl, hc 1 _ rfl⟩
  obtain ⟨N, hN⟩ : ∃ N, L.length = N := ⟨_, rfl⟩
  have HL : Hid (L.length = N) := hN
  unfold maxLen at h2
  rw [hN] at h1 ⊢
  have HZ : Hid (∀ c ∈ L, Sz c.1) := hs
  clear h h3 hN hs
  by_cases g1 : N < 1
  · have g1' : (N : Int) < 1 := by omega
    have hf : colsOk L = false := by unfold colsOk; rw [decide_eq_false (by rw [HL.out]; omega)]; rfl
    rw [hf]
    go_enter Tryz.func31, Tryz.ntmps31
    go_wp2
    go_ret
    exact ⟨rfl, Below.refl _ _⟩
  · have g1' : ¬ (N : Int) < 1 := by omega
    by_cases g2 : 32 < N
    · have g2' : (32 : Int) < (N : Int) := by omega
      have hf : colsOk L = false := by unfold colsOk; rw [decide_eq_false (p := L.length ≤ 32) (by rw [HL.out]; omega)]; simp
      rw [hf]
      go_enter Tryz.func31, Tryz.ntmps31
      go_wp2
      go_ret
      exact ⟨rfl, Below.refl _ _⟩
    · have g2' : ¬ (32 : Int) < (N : Int) := by omega
      have HE : Hid (colsOk L = (L.all (fun c => kindOk c.2) && namesOk [] (L.map (·.1)))) := by show _ = _; unfold colsOk; rw [HL.out, decide_eq_true (by omega), decide_eq_true (by omega)]; rfl
      obtain ⟨K, hK⟩ : ∃ K, L.map (·.1) = K := ⟨_, rfl⟩
      have HK : Hid (L.map (·.1) = K) := hK
      have HKL : Hid (K.length = N) := by show _ = _; rw [← hK, List.length_map, HL.out]
      have hmk := fun u => make_strs u N (by omega)
      clear hK
      go_enter Tryz.func31, Tryz.ntmps31
      go_wp2
      obtain ⟨nb, hb⟩ : ∃ nb, w.heap.size = nb := ⟨_, rfl⟩
      have HBE : Hid (w.heap.size = nb) := hb
      rw [hb]
      go_loopw [19] (fun v wr => ∃ i : Nat, i ≤ N ∧ v = .int .i64 i ∧ Hid (TextsAt wr nb (part K i)) ∧ Hid (Below nb w wr) ∧ Hid ((L.take i).all (fun c => kindOk c.2) = true)) (fun v _ => N - (intOf v).toNat)
      case atStart =>
        refine ⟨0, Nat.zero_le _, rfl, ?_, ?_, (rfl : _ = _)⟩
        · show TextsAt _ nb (part K 0)
          rw [part_zero, HKL.out, ← HBE.out]
          exact heap_new w _
        · show Below nb w _
          rw [← HBE.out]
          exact (Below.refl _ _).alloc (Nat.le_refl _) _
      case round =>
        clear hb
        obtain ⟨i, hi, rfl, HT, HB, HA⟩ := hrel
        have hbl : nb < wr.heap.size := lt_of HT.out
        by_cases hlt : i < N
        · obtain ⟨⟨y, k⟩, hy⟩ : ∃ y, L[i]? = some y := ⟨_, List.getElem?_eq_getElem (by rw [HL.out]; exact hlt)⟩
          obtain ⟨b, off, rfl, q1, q2⟩ := HX.out wr (by rw [HBE.out]; exact HB.out) i (y, k) hy
          dsimp only at q1 q2
          have hlI : (i : Int) < (N : Int) := by omega
          have hiK : i < K.length := by rw [HKL.out]; exact hlt
          have HY : Hid (K[i]? = some y) := by show _ = _; rw [← HK.out, List.getElem?_map, hy]; rfl
          have HS : Hid ((L.take (i + 1)).all (fun c => kindOk c.2) = kindOk k) := by show _ = _; rw [List.take_add_one, hy, List.all_append, HA.out]; simp
          have HF : Hid (kindOk k = false → colsOk L = false) := fun hf => by
            rw [HE.out, ← List.take_append_drop (i + 1) L, List.all_append, HS.out, hf]; rfl
          have q0 : wr.cell? ⟨nb, i, none⟩ = some (.string ⟨#[]⟩) := HT.out.cell (part_at K hiK)
          have q3 := frozen_of HT.out i
          have HBA : Hid (∀ o : Obj, Below w.heap.size w (wr.alloc o)) := fun o => by rw [HBE.out]; exact HB.out.trans (((Below.refl _ wr).alloc (Nat.le_refl _) o).mono (by omega))
          clear hy hiK
          by_cases k1 : k < 1
          · go_wp2
            go_ret
            refine ⟨ret_bool (HF.out ?_).symm, HBA.out _⟩
            unfold kindOk; rw [decide_eq_false (by omega)]; rfl
          · by_cases k2 : 5 < k
            · go_wp2
              go_ret
              refine ⟨ret_bool (HF.out ?_).symm, HBA.out _⟩
              unfold kindOk; rw [decide_eq_false (p := k ≤ 5) (by omega)]; simp
            · go_wp2
              go_roundw
              case rel =>
                have hiK : i < K.length := by rw [HKL.out]; exact hlt
                refine ⟨i + 1, by omega, by go_num, ?_, ?_, HS.out.trans (kindOk_iff.2 ⟨by omega, by omega⟩)⟩
                · show TextsAt _ nb (part K (i + 1))
                  rw [← part_next K hiK, show y = K[i] by have := HY.out; rw [List.getElem?_eq_getElem hiK] at this; exact (Option.some.inj this).symm]
                  exact (HT.out.set i _).below ((Below.refl _ _).alloc (Nat.le_refl _) _)
                · show Below nb w _
                  exact set_alloc_below HB.out hbl i _ _
              case measure => simp [intOf]; omega
        · have hlI : ¬ (i : Int) < (N : Int) := by omega
          obtain rfl : i = N := by omega
          have HNs : Hid (Calls Tryz.prog 51 #[.slice (some ⟨nb, 0, none⟩) i i] wr fun e w' => e = .returned (.bool (namesOk [] K)) ∧ w' = wr) := by
            have ht := HT.out
            rw [← HKL.out, part_all] at ht
            refine namesMayBe_any nb K i wr ht HKL.out (fun x hx => ?_) (by omega)
            rw [← HK.out] at hx
            obtain ⟨p, hp, rfl⟩ := List.mem_map.1 hx
            exact HZ.out p hp
          go_wp2_with (go_at_call 51; go_must (refine HNs.out.mono ?_; rintro e w' ⟨rfl, rfl⟩))
          go_ret
          refine ⟨ret_bool ?_, by rw [HBE.out]; exact HB.out⟩
          have := HA.out
          rw [List.take_of_length_le (by rw [HL.out]; omega)] at this
          rw [HE.out, this, HK.out]
          rfl

set_option maxRecDepth 100000 in
set_option maxHeartbeats 1000000 in
theorem indexesMayBe_any (v : Value) (L : List Iv) (n : Nat) (w w0 : World) (hbb : Below w0.heap.size w0 w) (h0 : SliceAt w0 v 3 enX L) (hi : ∀ x ∈ L, SliceAt w0 x.v 1 enI x.ix.cs) (hs : ∀ x ∈ L, Sz x.ix.nm) :
    Calls Tryz.prog 32 #[v, .int .i64 (n : Int)] w fun e w' => e = .returned (.bool (ixsOk n (L.map Iv.ix))) ∧ Below w.heap.size w w' := by
  have h := h0.below hbb
  obtain ⟨a, c, rfl, h1, h2, h3⟩ := h.opened
  have HX : Hid (∀ u, Below w.heap.size w u → ∀ i y, L[i]? = some y → ∃ b off, a = some ⟨b, off, none⟩ ∧ u.cell? ⟨b, off + i * 3, none⟩ = some (.string y.ix.nm) ∧ u.cell? ⟨b, off + i * 3 + 1, none⟩ = some y.v ∧ u.cell? ⟨b, off + i * 3 + 2, none⟩ = some (.bool y.ix.un)) := fun u hu i y hy => by
    obtain ⟨hi, rfl⟩ := List.getElem?_eq_some_iff.1 hy
    obtain ⟨b, off, e, _, hc⟩ := h3 u hu i hi
    exact ⟨b, off, e, hc 0 _ rfl, hc 1 _ rfl, hc 2 _ rfl⟩
  obtain ⟨N, hN⟩ : ∃ N, L.length = N := ⟨_, rfl⟩
  have HL : Hid (L.length = N) := hN
  unfold maxLen at h2
  rw [hN] at h1 ⊢
  have HZ : Hid (∀ c ∈ L, Sz c.ix.nm) := hs
  have HI : Hid (∀ u, Below w.heap.size w u → ∀ x ∈ L, Calls Tryz.prog 52 #[x.v, .int .i64 (n : Int)] u fun e w' => e = .returned (.bool (numsOk n x.ix.cs)) ∧ w' = u) := fun u hu x hx => numbersMayBe_any x.v x.ix.cs n u w ((hi x hx).below hbb) hu
  have HV : Hid (∀ x ∈ L, ∃ a c, x.v = .slice a x.ix.cs.length c) := fun x hx => by
    obtain ⟨a, c, e, _⟩ := hi x hx
    exact ⟨a, c, e⟩
  clear h h0 h3 hN hs hi hbb
  by_cases g2 : 8 < N
  · have g2' : (8 : Int) < (N : Int) := by omega
    have hf : ixsOk n (L.map Iv.ix) = false := by unfold ixsOk; rw [decide_eq_false (by rw [List.length_map, HL.out]; omega)]; simp
    rw [hf]
    go_enter Tryz.func32, Tryz.ntmps32
    go_wp2
    go_ret
    exact ⟨rfl, Below.refl _ _⟩
  · have g2' : ¬ (8 : Int) < (N : Int) := by omega
    obtain ⟨K, hK⟩ : ∃ K, (L.map Iv.ix).map (·.nm) = K := ⟨_, rfl⟩
    have HE : Hid (ixsOk n (L.map Iv.ix) = (L.all (fun c => numsOk n c.ix.cs) && namesOk [] K)) := by
      show _ = _
      unfold ixsOk
      rw [List.length_map, HL.out, decide_eq_true (by omega), ← hK, List.all_map]
      rfl
    have HK : Hid ((L.map Iv.ix).map (·.nm) = K) := hK
    have HKL : Hid (K.length = N) := by show _ = _; rw [← hK, List.length_map, List.length_map, HL.out]
    have hmk := fun u => make_strs u N (by omega)
    clear hK
    go_enter Tryz.func32, Tryz.ntmps32
    go_wp2
    obtain ⟨nb, hb⟩ : ∃ nb, w.heap.size = nb := ⟨_, rfl⟩
    have HBE : Hid (w.heap.size = nb) := hb
    rw [hb]
    go_loopw [16] (fun v wr => ∃ i : Nat, i ≤ N ∧ v = .int .i64 i ∧ Hid (TextsAt wr nb (part K i)) ∧ Hid (Below nb w wr) ∧ Hid ((L.take i).all (fun c => numsOk n c.ix.cs) = true)) (fun v _ => N - (intOf v).toNat)
    case atStart =>
      refine ⟨0, Nat.zero_le _, rfl, ?_, ?_, (rfl : _ = _)⟩
      · show TextsAt _ nb (part K 0)
        rw [part_zero, HKL.out, ← HBE.out]
        exact heap_new w _
      · show Below nb w _
        rw [← HBE.out]
        exact (Below.refl _ _).alloc (Nat.le_refl _) _
    case round =>
      clear hb
      obtain ⟨i, hi, rfl, HT, HB, HA⟩ := hrel
      have hbl : nb < wr.heap.size := lt_of HT.out
      by_cases hlt : i < N
      · obtain ⟨⟨⟨y, cs, un⟩, vv⟩, hy⟩ : ∃ y, L[i]? = some y := ⟨_, List.getElem?_eq_getElem (by rw [HL.out]; exact hlt)⟩
        have hmem := List.mem_of_getElem? hy
        obtain ⟨b, off, rfl, q1, q2, q4⟩ := HX.out wr (by rw [HBE.out]; exact HB.out) i _ hy
        obtain ⟨va, vc, hvv⟩ := HV.out _ hmem
        dsimp only at q1 q2 q4 hvv
        subst hvv
        obtain ⟨nc, hnc⟩ : ∃ nc, cs.length = nc := ⟨_, rfl⟩
        have hlI : (i : Int) < (N : Int) := by omega
        have hiK : i < K.length := by rw [HKL.out]; exact hlt
        have HY : Hid (K[i]? = some y) := by show _ = _; rw [← HK.out, List.getElem?_map, List.getElem?_map, hy]; rfl
        have HS : Hid ((L.take (i + 1)).all (fun c => numsOk n c.ix.cs) = numsOk n cs) := by show _ = _; rw [List.take_add_one, hy, List.all_append, HA.out]; simp
        have HF : Hid (numsOk n cs = false → ixsOk n (L.map Iv.ix) = false) := fun hf => by
          rw [HE.out, ← List.take_append_drop (i + 1) L, List.all_append, HS.out, hf]; rfl
        have q0 : wr.cell? ⟨nb, i, none⟩ = some (.string ⟨#[]⟩) := HT.out.cell (part_at K hiK)
        have q3 := frozen_of HT.out i
        have HBA : Hid (∀ o : Obj, Below w.heap.size w (wr.alloc o)) := fun o => by rw [HBE.out]; exact HB.out.trans (((Below.refl _ wr).alloc (Nat.le_refl _) o).mono (by omega))
        have HNm : Hid (∀ o : Obj, Calls Tryz.prog 52 #[.slice va nc vc, .int .i64 (n : Int)] (wr.alloc o) fun e w' => e = .returned (.bool (numsOk n cs)) ∧ wr.alloc o = w') := fun o => by
          have := HI.out (wr.alloc o) (HBA.out o) _ hmem
          dsimp only at this
          rw [hnc] at this
          exact this.mono fun e w' ⟨h1, h2⟩ => ⟨h1, h2.symm⟩
        obtain ⟨bb, hbb⟩ : ∃ bb, numsOk n cs = bb := ⟨_, rfl⟩
        rw [hbb] at HNm HF HS
        rw [hnc] at q2
        clear hy hiK hmem hbb hnc
        cases bb
        · go_wp2_with (go_at_call 52; go_must (refine (HNm.out _).mono ?_; rintro e w' ⟨rfl, rfl⟩))
          go_ret
          exact ⟨ret_bool (HF.out trivial).symm, HBA.out _⟩
        · go_wp2_with (go_at_call 52; go_must (refine (HNm.out _).mono ?_; rintro e w' ⟨rfl, rfl⟩))
          go_roundw
          case rel =>
            have hiK : i < K.length := by rw [HKL.out]; exact hlt
            refine ⟨i + 1, by omega, by go_num, ?_, ?_, HS⟩
            · show TextsAt _ nb (part K (i + 1))
              rw [← part_next K hiK, show y = K[i] by have := HY.out; rw [List.getElem?_eq_getElem hiK] at this; exact (Option.some.inj this).symm]
              exact (HT.out.set i _).below ((Below.refl _ _).alloc (Nat.le_refl _) _)
            · show Below nb w _
              exact set_alloc_below HB.out hbl i _ _
          case measure => simp [intOf]; omega
      · have hlI : ¬ (i : Int) < (N : Int) := by omega
        obtain rfl : i = N := by omega
        have HNs : Hid (Calls Tryz.prog 51 #[.slice (some ⟨nb, 0, none⟩) i i] wr fun e w' => e = .returned (.bool (namesOk [] K)) ∧ w' = wr) := by
          have ht := HT.out
          rw [← HKL.out, part_all] at ht
          refine namesMayBe_any nb K i wr ht HKL.out (fun x hx => ?_) (by omega)
          rw [← HK.out] at hx
          obtain ⟨p, hp, rfl⟩ := List.mem_map.1 hx
          obtain ⟨q, hq, rfl⟩ := List.mem_map.1 hp
          exact HZ.out q hq
        go_wp2_with (go_at_call 51; go_must (refine HNs.out.mono ?_; rintro e w' ⟨rfl, rfl⟩))
        go_ret
        refine ⟨ret_bool ?_, by rw [HBE.out]; exact HB.out⟩
        have := HA.out
        rw [List.take_of_length_le (by rw [HL.out]; omega)] at this
        rw [HE.out, this]
        rfl

end Go.Proofs.YtfddmibaojfalaaGreat

/- The program's Check, whole. -/
namespace Go.Proofs.YtfddmibaojfalaaGreat
open Go.RowKit

theorem box4 {w u : World} {a b c d : Value} {t : TypeId} (hu : Below (w.alloc (.cells #[a, b, c, d] t)).heap.size (w.alloc (.cells #[a, b, c, d] t)) u) :
    u.cell? ⟨w.heap.size, 0, none⟩ = some a ∧ u.cell? ⟨w.heap.size, 1, none⟩ = some b ∧ u.cell? ⟨w.heap.size, 2, none⟩ = some c ∧ u.cell? ⟨w.heap.size, 3, none⟩ = some d := by
  have e := (hu.block w.heap.size (by simp)).trans (heap_new w (.cells #[a, b, c, d] t))
  exact ⟨by rw [cell_of e]; rfl, by rw [cell_of e]; rfl, by rw [cell_of e]; rfl, by rw [cell_of e]; rfl⟩

theorem slice_shape {α : Type} {w : World} {v : Value} {n : Nat} {en : α → List Value} {L : List α} (h : SliceAt w v n en L) : ∃ a c, v = .slice a L.length c ∧ L.length ≤ c ∧ c ≤ 9223372036854775807 := by
  obtain ⟨a, c, e, h1, h2, _⟩ := h
  unfold maxLen at h2
  exact ⟨a, c, e, h1, by omega⟩

def chk (T : Tab) : Int := if T.may then 0 else 140
theorem chk_yes {T : Tab} (h : T.may = true) : chk T = 0 := by unfold chk; rw [if_pos h]
theorem chk_no {T : Tab} (h : T.may = false) : chk T = 140 := by unfold chk; rw [h]; rfl

set_option maxRecDepth 100000 in
set_option maxHeartbeats 1000000 in
theorem check_any (cv iv : Value) (T : Tab) (w w0 : World) (hb : Below w0.heap.size w0 w) (h : TabV w0 cv iv T) (hr : Rg T) :
    Calls Tryz.prog 21 #[tabVal cv iv T] w fun e w' => e = .returned (.int .i64 (chk T)) ∧ Below w.heap.size w w' := by
  obtain ⟨h1, X, h2, h3, h4⟩ := h
  have HN : Hid (∀ u, Calls Tryz.prog 30 #[.string T.nm] u fun e w' => e = .returned (.bool (nameOk T.nm)) ∧ u = w') := fun u => (nameMayBe_any T.nm u hr.nm).mono fun e w' ⟨a, b⟩ => ⟨a, b.symm⟩
  have HC : Hid (∀ u, Below w0.heap.size w0 u → Calls Tryz.prog 31 #[cv] u fun e w' => e = .returned (.bool (colsOk T.co)) ∧ Below u.heap.size u w') := fun u hu => columnsMayBe_any cv T.co u (h1.below hu) (fun c hc => (hr.co c hc).1)
  have HI : Hid (∀ u, Below w0.heap.size w0 u → Calls Tryz.prog 32 #[iv, .int .i64 (T.co.length : Int)] u fun e w' => e = .returned (.bool (ixsOk T.co.length T.ix)) ∧ Below u.heap.size u w') := fun u hu => by
    have := indexesMayBe_any iv X T.co.length u w0 hu h2 h4 (fun x hx => (hr.ix x.ix (by rw [← h3]; exact List.mem_map.2 ⟨x, hx, rfl⟩)).1)
    rw [h3] at this
    exact this
  obtain ⟨ca, cc, rfl, hcl, hcm⟩ := slice_shape h1
  obtain ⟨ia, ic, rfl, hil, him⟩ := slice_shape h2
  have hXl : X.length = T.ix.length := by rw [← h3, List.length_map]
  rw [hXl] at HI hil ⊢
  obtain ⟨A, hA⟩ : ∃ A, nameOk T.nm = A := ⟨_, rfl⟩
  obtain ⟨B, hB⟩ : ∃ B, colsOk T.co = B := ⟨_, rfl⟩
  obtain ⟨C, hC⟩ : ∃ C, ixsOk T.co.length T.ix = C := ⟨_, rfl⟩
  have HM : Hid (T.may = (A && B && decide (1 ≤ T.key) && decide (T.key ≤ (T.co.length : Int)) && C)) := by show _ = _; unfold Tab.may; rw [hA, hB, hC]
  rw [hA] at HN
  rw [hB] at HC
  rw [hC] at HI
  unfold tabVal
  obtain ⟨N, hNn⟩ : ∃ N, T.co.length = N := ⟨_, rfl⟩
  obtain ⟨M, hMm⟩ : ∃ M, T.ix.length = M := ⟨_, rfl⟩
  obtain ⟨key, hkey⟩ : ∃ key, T.key = key := ⟨_, rfl⟩
  obtain ⟨nm, hnm⟩ : ∃ nm, T.nm = nm := ⟨_, rfl⟩
  have hk := hr.key
  rw [hNn] at HC HI HM hcl ⊢
  rw [hMm] at HI hil ⊢
  rw [hkey] at HM hk ⊢
  rw [hnm] at HN ⊢
  have HW : Hid (Below w0.heap.size w0 (w.alloc (.cells #[.string nm, .slice ca N cc, .int .i64 key, .slice ia M ic] 29))) := hb.trans (((Below.refl _ w).alloc (Nat.le_refl _) _).mono hb.size)
  have HBA : Hid (∀ u, Below (w.alloc (.cells #[.string nm, .slice ca N cc, .int .i64 key, .slice ia M ic] 29)).heap.size (w.alloc (.cells #[.string nm, .slice ca N cc, .int .i64 key, .slice ia M ic] 29)) u → Below w.heap.size w u) := fun u hu => ((Below.refl _ w).alloc (Nat.le_refl _) _).trans (hu.mono (by simp))
  clear h1 h2 h3 h4 hA hB hC hr hb hXl hNn hMm hkey hnm
  cases A
  · have hM : chk T = 140 := chk_no (by rw [HM.out]; rfl)
    rw [hM]
    go_enter Tryz.func21, Tryz.ntmps21
    go_wp2_with (go_at_call 30; go_must (refine (HN.out _).mono ?_; rintro e w' ⟨rfl, rfl⟩))
    go_ret
    exact ⟨rfl, HBA.out _ (Below.refl _ _)⟩
  · cases B
    · have hM : chk T = 140 := chk_no (by rw [HM.out]; rfl)
      rw [hM]
      go_enter Tryz.func21, Tryz.ntmps21
      go_wp2_with (first
        | (go_at_call 30; go_must (refine (HN.out _).mono ?_; rintro e w' ⟨rfl, rfl⟩))
        | (go_at_call 31; go_must (refine (HC.out _ HW.out).mono ?_; rintro e w1 ⟨rfl, hb1⟩; obtain ⟨c0, c1, c2, c3⟩ := box4 hb1)))
      go_ret
      exact ⟨rfl, HBA.out _ hb1⟩
    · by_cases k1 : key < 1
      · have hM : chk T = 140 := chk_no (by rw [HM.out, decide_eq_false (p := (1 : Int) ≤ key) (by omega)]; rfl)
        rw [hM]
        go_enter Tryz.func21, Tryz.ntmps21
        go_wp2_with (first
          | (go_at_call 30; go_must (refine (HN.out _).mono ?_; rintro e w' ⟨rfl, rfl⟩))
          | (go_at_call 31; go_must (refine (HC.out _ HW.out).mono ?_; rintro e w1 ⟨rfl, hb1⟩; obtain ⟨c0, c1, c2, c3⟩ := box4 hb1)))
        go_ret
        exact ⟨rfl, HBA.out _ hb1⟩
      · by_cases k2 : (N : Int) < key
        · have hM : chk T = 140 := chk_no (by rw [HM.out, decide_eq_false (p := key ≤ (N : Int)) (by omega)]; simp)
          rw [hM]
          go_enter Tryz.func21, Tryz.ntmps21
          go_wp2_with (first
            | (go_at_call 30; go_must (refine (HN.out _).mono ?_; rintro e w' ⟨rfl, rfl⟩))
            | (go_at_call 31; go_must (refine (HC.out _ HW.out).mono ?_; rintro e w1 ⟨rfl, hb1⟩; obtain ⟨c0, c1, c2, c3⟩ := box4 hb1)))
          go_ret
          exact ⟨rfl, HBA.out _ hb1⟩
        · have HM2 : Hid (chk T = if C then 0 else 140) := by
            show _ = _
            unfold chk
            rw [HM.out, decide_eq_true (p := (1 : Int) ≤ key) (by omega), decide_eq_true (p := key ≤ (N : Int)) (by omega)]
            rfl
          cases C
          all_goals (
            rw [HM2.out]
            go_enter Tryz.func21, Tryz.ntmps21
            go_wp2_with (first
              | (go_at_call 30; go_must (refine (HN.out _).mono ?_; rintro e w' ⟨rfl, rfl⟩))
              | (go_at_call 31; go_must (refine (HC.out _ HW.out).mono ?_; rintro e w1 ⟨rfl, hb1⟩; obtain ⟨c0, c1, c2, c3⟩ := box4 hb1))
              | (go_at_call 32; go_must (refine (HI.out _ (HW.out.trans (hb1.mono HW.out.size))).mono ?_; rintro e w2 ⟨rfl, hb2⟩)))
            go_ret
            exact ⟨rfl, HBA.out _ (hb1.trans (hb2.mono hb1.size))⟩)

end Go.Proofs.YtfddmibaojfalaaGreat
