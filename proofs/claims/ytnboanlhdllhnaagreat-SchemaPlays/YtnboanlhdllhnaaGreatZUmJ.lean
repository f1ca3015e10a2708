import Derived.Test.YtnboanlhdllhnaaGreatZWrJ
import Derived.BigQuiet
import Derived.Test.YtnboanlhdllhnaaGreatZCat
/- hopperref14: which names, columns, indexes and schemas may be. -/
namespace Go.Proofs.YtnboanlhdllhnaaGreat
open Go.RowKit

set_option maxRecDepth 100000 in
set_option maxHeartbeats 1000000 in
theorem named_any (k : ByteArray) (w : World) (hk : k.size ≤ 9223372036854775807) :
    Calls Tryz.prog 44 #[.string k] w fun e w' => e = .returned (.bool (nameOk k)) ∧ w' = w := by
  by_cases h1 : k.size < 1
  · have hf : nameOk k = false := by
      unfold nameOk
      have : decide (1 ≤ k.size) = false := decide_eq_false (by omega)
      rw [this]; rfl
    have he : k = ⟨#[]⟩ := by
      have hl := size_list k
      rw [← list_ba k, List.eq_nil_of_length_eq_zero (show k.data.toList.length = 0 by omega)]
    rw [hf]
    subst he
    go_enter Tryz.func44, Tryz.ntmps44
    go_wp2
    go_ret
    exact ⟨rfl, rfl⟩
  · have e1 : ¬ k.toList = [] := fun e => by
      rw [Go.ByteArray.toList_eq] at e
      have hl := size_list k
      rw [e] at hl
      simp at hl
      omega
    have e2 : k.toList.isEmpty = false := by cases hq : k.toList with | nil => exact absurd hq e1 | cons _ _ => rfl
    by_cases h2 : 32 < k.size
    · have hf : nameOk k = false := by
        unfold nameOk
        have : decide (k.size ≤ 32) = false := decide_eq_false (by omega)
        rw [this]; simp
      rw [hf]
      have h3 : (32 : Int) < k.size := by omega
      go_enter Tryz.func44, Tryz.ntmps44
      go_wp2
      go_ret
      exact ⟨rfl, rfl⟩
    · have h3 : ¬ (32 : Int) < k.size := by omega
      go_enter Tryz.func44, Tryz.ntmps44
      go_wp2
      go_loop [3] (fun i => ∃ j : Nat, j ≤ k.size ∧ i = .int .i64 j ∧ Hid ((k.data.toList.take j).all nameB = true)) (fun i => k.size - (intOf i).toNat)
      case atStart => exact ⟨0, Nat.zero_le _, rfl, (rfl : _ = _)⟩
      case round =>
        obtain ⟨j, hj, rfl, HA⟩ := hrel
        by_cases hlt : j < k.size
        · have HS : Hid ((k.data.toList.take (j + 1)).all nameB = okB (k[j].toNat : Int)) := name_take k j hlt HA.out
          obtain ⟨c, hc⟩ : ∃ c, k[j].toNat = c := ⟨_, rfl⟩
          have hlI : (j : Int) < (k.size : Int) := by omega
          have hidx : ∀ W, (Instr.index 9 (.string k) (.int .i64 (j : Int))).run Tryz.prog W = .ok (.int .u8 (c : Int)) W := fun W => by
            rw [run_index_string W _ k _ _ Tryz.underlying9, dif_pos ⟨by omega, by omega⟩]
            have e : ((j : Int)).toNat = j := rfl
            simp only [e, hc]
          rw [hc] at HS
          clear hc
          by_cases ha : (97 : Int) ≤ c ∧ (c : Int) ≤ 122
          · obtain ⟨a1, a2⟩ := ha
            have hb : okB (c : Int) = true := by unfold okB; simp [a1, a2]
            go_wp2
            go_round
            case rel => exact ⟨j + 1, by omega, by go_num, HS.out.trans hb⟩
            case measure => simp [intOf]; omega
          · by_cases hd : (48 : Int) ≤ c ∧ (c : Int) ≤ 57
            · obtain ⟨a1, a2⟩ := hd
              have a3 : ¬ (97 : Int) ≤ c := by omega
              have hb : okB (c : Int) = true := by unfold okB; simp [a1, a2]
              go_wp2
              go_round
              case rel => exact ⟨j + 1, by omega, by go_num, HS.out.trans hb⟩
              case measure => simp [intOf]; omega
            · have hb : okB (c : Int) = false := by
                unfold okB
                rw [Bool.eq_false_iff]
                simp
                omega
              have HNo : Hid (nameOk k = false) := name_no k (j + 1) (HS.out.trans hb)
              have hcs : ((c : Int) < 48) ∨ (57 < (c : Int) ∧ (c : Int) < 97) ∨ 122 < (c : Int) := by omega
              rcases hcs with h | ⟨h, h'⟩ | h
              · have x1 : ¬ (97 : Int) ≤ c := by omega
                have x2 : ¬ (48 : Int) ≤ c := by omega
                go_wp2
                go_ret
                exact ⟨by rw [HNo.out]; rfl, rfl⟩
              · have x1 : ¬ (97 : Int) ≤ c := by omega
                have x2 : (48 : Int) ≤ c := by omega
                have x3 : ¬ (c : Int) ≤ 57 := by omega
                go_wp2
                go_ret
                exact ⟨by rw [HNo.out]; rfl, rfl⟩
              · have x1 : (97 : Int) ≤ c := by omega
                have x2 : ¬ (c : Int) ≤ 122 := by omega
                have x3 : (48 : Int) ≤ c := by omega
                have x4 : ¬ (c : Int) ≤ 57 := by omega
                go_wp2
                go_ret
                exact ⟨by rw [HNo.out]; rfl, rfl⟩
        · have hlI : ¬ (j : Int) < (k.size : Int) := by omega
          go_wp2
          go_ret
          exact ⟨ret_bool (name_yes k j hlt (by omega) (by omega) HA.out).symm, rfl⟩

theorem all_step {α : Type} (f : α → Bool) {L : List α} {j : Nat} {x : α} (h : L[j]? = some x) : (L.drop j).all f = (f x && (L.drop (j + 1)).all f) := by
  obtain ⟨hj, rfl⟩ := List.getElem?_eq_some_iff.1 h
  rw [List.drop_eq_getElem_cons hj, List.all_cons]

set_option maxRecDepth 100000 in
set_option maxHeartbeats 2000000 in
theorem rcolumns_any (v : Value) (L : List (ByteArray × Int)) (w w0 : World) (hb : Below w0.heap.size w0 w) (h : SliceAt w0 v 2 enC L) (hs : ∀ c ∈ L, Sz c.1) :
    Calls Tryz.prog 45 #[v] w fun e w' => e = .returned (.bool (colsOk L)) ∧ Below w.heap.size w w' := by
  obtain ⟨a, c, rfl, h1, h2, h3⟩ := h.opened
  have HX : Hid (∀ u, Below w.heap.size w u → ∀ i y, L[i]? = some y → ∃ b off, a = some ⟨b, off, none⟩ ∧ u.cell? ⟨b, off + i * 2, none⟩ = some (.string y.1) ∧ u.cell? ⟨b, off + i * 2 + 1, none⟩ = some (.int .i64 y.2)) := fun u hu i y hy => by
    obtain ⟨hi, rfl⟩ := List.getElem?_eq_some_iff.1 hy
    obtain ⟨b, off, e, _, hc⟩ := h3 u (hb.trans (hu.mono hb.size)) i hi
    exact ⟨b, off, e, hc 0 _ rfl, hc 1 _ rfl⟩
  obtain ⟨N, hN⟩ : ∃ N, L.length = N := ⟨_, rfl⟩
  have HL : Hid (L.length = N) := hN
  unfold maxLen at h2
  rw [hN] at h1 ⊢
  have HZ : Hid (∀ c ∈ L, Sz c.1) := hs
  clear h h3 hN hs hb
  by_cases g1 : N < 1
  · have g1' : (N : Int) < 1 := by omega
    have hf : colsOk L = false := by unfold colsOk; rw [decide_eq_false (by rw [HL.out]; omega)]; rfl
    rw [hf]
    go_enter Tryz.func45, Tryz.ntmps45
    go_wp2
    go_ret
    exact ⟨rfl, Below.refl _ _⟩
  · have g1' : ¬ (N : Int) < 1 := by omega
    by_cases g2 : 32 < N
    · have g2' : (32 : Int) < (N : Int) := by omega
      have hf : colsOk L = false := by unfold colsOk; rw [decide_eq_false (p := L.length ≤ 32) (by rw [HL.out]; omega)]; simp
      rw [hf]
      go_enter Tryz.func45, Tryz.ntmps45
      go_wp2
      go_ret
      exact ⟨rfl, Below.refl _ _⟩
    · have g2' : ¬ (32 : Int) < (N : Int) := by omega
      obtain ⟨K, hK⟩ : ∃ K, L.map (·.1) = K := ⟨_, rfl⟩
      have HK : Hid (∀ (i : Nat) (y : ByteArray × Int), L[i]? = some y → K[i]? = some y.1) := fun i y hy => by rw [← hK, List.getElem?_map, hy]; rfl
      have HKl : Hid (K.length = N) := by show _ = _; rw [← hK, List.length_map, HL.out]
      have HE : Hid (colsOk L = ((L.drop 0).all (fun c => kindOk c.2) && namesOk (K.take 0) (K.drop 0))) := by
        show _ = _
        unfold colsOk
        rw [HL.out, decide_eq_true (by omega), decide_eq_true (by omega), hK]
        rfl
      clear hK
      go_enter Tryz.func45, Tryz.ntmps45
      go_wp2_with fail
      go_loopw [3] (fun v wr => ∃ i : Nat, i ≤ N ∧ v = .int .i64 i ∧ Hid (colsOk L = ((L.drop i).all (fun c => kindOk c.2) && namesOk (K.take i) (K.drop i))) ∧ Hid (Below w.heap.size w wr)) (fun v _ => N - (intOf v).toNat)
      case atStart => exact ⟨0, Nat.zero_le _, rfl, HE, Below.refl _ _⟩
      case round =>
        clear HE
        obtain ⟨i, hi, rfl, HE, HB⟩ := hrel
        by_cases hlt : i < N
        · have hlI : (i : Int) < (N : Int) := by omega
          obtain ⟨⟨nm, kd⟩, hy⟩ : ∃ y, L[i]? = some y := ⟨_, List.getElem?_eq_getElem (by rw [HL.out]; exact hlt)⟩
          obtain ⟨b, off, rfl, q1, q2⟩ := HX.out wr HB.out i _ hy
          dsimp only at q1 q2
          have HNm : Hid (∀ u, Calls Tryz.prog 44 #[.string nm] u fun e w' => e = .returned (.bool (nameOk nm)) ∧ u = w') := fun u => (named_any nm u (HZ.out _ (List.mem_of_getElem? hy))).mono fun e w' ⟨e1, e2⟩ => ⟨e1, e2.symm⟩
          have hE2 := HE.out
          rw [all_step _ hy, names_step K (HK.out i _ hy)] at hE2
          dsimp only at hE2
          have HKi : Hid (K[i]? = some nm) := HK.out i _ hy
          cases hnk : nameOk nm with
          | false =>
            rw [hnk] at hE2 HNm
            have HF : Hid (colsOk L = false) := by show _ = _; rw [hE2]; simp
            clear hE2 hy
            go_wp2_with (go_at_call 44; go_must (refine (HNm.out _).mono ?_; rintro e w2 ⟨rfl, rfl⟩))
            go_ret
            exact ⟨by rw [HF.out]; rfl, HB.out⟩
          | true =>
            rw [hnk] at hE2 HNm
            by_cases hk : 1 ≤ kd ∧ kd ≤ 5
            · have hkk : kindOk kd = true := by unfold kindOk; simp [hk.1, hk.2]
              rw [hkk] at hE2
              have k1 : ¬ kd < 1 := by omega
              have k2 : ¬ (5 : Int) < kd := by omega
              have HE2 : Hid (colsOk L = (true && (L.drop (i + 1)).all (fun c => kindOk c.2) && (true && !(isIn nm (K.take i)) && namesOk (K.take (i + 1)) (K.drop (i + 1))))) := hE2
              have HXk : Hid (∀ u, Below w.heap.size w u → ∀ j x, K[j]? = some x → j < N → u.cell? ⟨b, off + j * 2, none⟩ = some (.string x)) := fun u hu j x hx hj => by
                obtain ⟨y, hy⟩ : ∃ y, L[j]? = some y := ⟨_, List.getElem?_eq_getElem (by rw [HL.out]; exact hj)⟩
                obtain ⟨b', off', e, r1, _⟩ := HX.out u hu j y hy
                cases e
                have := HK.out j y hy
                rw [hx] at this
                cases this
                exact r1
              clear hE2 hy hkk
              go_wp2_with (go_at_call 44; go_must (refine (HNm.out _).mono ?_; rintro e w2 ⟨rfl, rfl⟩))
              go_loopw [4] (fun v wr => ∃ j : Nat, j ≤ i ∧ v = .int .i64 j ∧ Hid (isIn nm (K.take j) = false) ∧ Hid (Below w.heap.size w wr)) (fun v _ => i - (intOf v).toNat)
              case atStart => exact ⟨0, Nat.zero_le _, rfl, (rfl : _ = _), HB⟩
              case round =>
                obtain ⟨j, hj, rfl, HI, HBj⟩ := hrel
                by_cases hji : j < i
                · have hjI : (j : Int) < (i : Int) := by omega
                  obtain ⟨x, hx⟩ : ∃ x, K[j]? = some x := ⟨_, List.getElem?_eq_getElem (by rw [HKl.out]; omega)⟩
                  have r1 := HXk.out wr HBj.out j x hx (by omega)
                  have r2 := HXk.out wr HBj.out i nm HKi.out hlt
                  have HIs : Hid (isIn nm (K.take (j + 1)) = (isIn nm (K.take j) || decide (x = nm))) := isIn_take hx
                  have hjN : (j : Int) < (N : Int) := by omega
                  by_cases hxn : x = nm
                  · have HF : Hid (colsOk L = false) := by
                      show _ = _
                      have h1 : isIn nm (K.take i) = true := isIn_iff.2 (by
                        rw [← hxn]
                        exact List.mem_of_getElem? (show (K.take i)[j]? = some x by rw [List.getElem?_take_of_lt hji]; exact hx))
                      rw [HE2.out, h1]
                      simp
                    subst hxn
                    clear hx
                    go_wp2_with fail
                    go_quiet (fail)
                    go_wp2_with fail
                    go_ret
                    exact ⟨by rw [HF.out]; rfl, HBj.out.trans ((below_drewN wr _).mono HBj.out.size)⟩
                  · have b1 : ¬ x.toList = nm.toList := fun e => hxn (toList_inj e)
                    have b2 : (x.toList == nm.toList) = false := beq_false_of_ne b1
                    clear hx
                    go_wp2_with fail
                    go_quiet (fail)
                    go_wp2_with fail
                    go_roundw
                    case rel => exact ⟨j + 1, by omega, by go_num, (by rw [HIs.out, HI.out, decide_eq_false hxn]; rfl : _ = _), HBj.out.trans ((below_drewN wr _).mono HBj.out.size)⟩
                    case measure => simp [intOf]; omega
                · have hjI : ¬ (j : Int) < (i : Int) := by omega
                  have HE3 : Hid (colsOk L = ((L.drop (i + 1)).all (fun c => kindOk c.2) && namesOk (K.take (i + 1)) (K.drop (i + 1)))) := by
                    show _ = _
                    have := HI.out
                    rw [show j = i by omega] at this
                    rw [HE2.out, this]
                    simp
                  go_wp2_with fail
                  go_roundw
                  case rel => exact ⟨i + 1, by omega, by go_num, HE3, HBj⟩
                  case measure => simp [intOf]; omega
            · have HF : Hid (colsOk L = false) := by
                show _ = _
                have hkk : kindOk kd = false := by unfold kindOk; rw [Bool.eq_false_iff]; simp; omega
                rw [hE2, hkk]
                simp
              clear hE2 hy
              by_cases k1 : kd < 1
              · go_wp2_with (go_at_call 44; go_must (refine (HNm.out _).mono ?_; rintro e w2 ⟨rfl, rfl⟩))
                go_ret
                exact ⟨by rw [HF.out]; rfl, HB.out⟩
              · have k2 : (5 : Int) < kd := by omega
                go_wp2_with (go_at_call 44; go_must (refine (HNm.out _).mono ?_; rintro e w2 ⟨rfl, rfl⟩))
                go_ret
                exact ⟨by rw [HF.out]; rfl, HB.out⟩
        · have hlI : ¬ (i : Int) < (N : Int) := by omega
          have HT : Hid (colsOk L = true) := by
            show _ = _
            rw [HE.out, List.drop_eq_nil_of_le (by rw [HL.out]; omega), List.drop_eq_nil_of_le (by rw [HKl.out]; omega)]
            rfl
          go_wp2_with fail
          go_ret
          exact ⟨by rw [HT.out]; rfl, HB.out⟩

set_option maxRecDepth 100000 in
set_option maxHeartbeats 2000000 in
theorem rindex1_any (x : Ix) (v : Value) (n : Nat) (w w0 : World) (hb : Below w0.heap.size w0 w) (h : SliceAt w0 v 1 enI x.cs) (hs : Sz x.nm) :
    Calls Tryz.prog 46 #[.agg #[.string x.nm, v, .bool x.un], .int .i64 (n : Int)] w fun e w' => e = .returned (.bool (nameOk x.nm && numsOk n x.cs)) ∧ Below w.heap.size w w' := by
  obtain ⟨nm, L, un⟩ := x
  dsimp only at h hs ⊢
  obtain ⟨a, c, rfl, h1, h2, h3⟩ := h.opened
  have HX : Hid (∀ u, Below w.heap.size w u → ∀ (i : Nat) (y : Int), L[i]? = some y → ∃ b off, a = some ⟨b, off, none⟩ ∧ u.cell? ⟨b, off + i, none⟩ = some (.int .i64 y)) := fun u hu i y hy => by
    obtain ⟨hi, rfl⟩ := List.getElem?_eq_some_iff.1 hy
    obtain ⟨b, off, e, _, hc⟩ := h3 u (hb.trans (hu.mono hb.size)) i hi
    have := hc 0 _ rfl
    rw [Nat.mul_one] at this
    exact ⟨b, off, e, this⟩
  obtain ⟨N, hN⟩ : ∃ N, L.length = N := ⟨_, rfl⟩
  have HL : Hid (L.length = N) := hN
  unfold maxLen at h2
  rw [hN] at h1 ⊢
  have HNm : Hid (∀ u, Calls Tryz.prog 44 #[.string nm] u fun e w' => e = .returned (.bool (nameOk nm)) ∧ u = w') := fun u => (named_any nm u hs).mono fun e w' ⟨e1, e2⟩ => ⟨e1, e2.symm⟩
  obtain ⟨xb, hxb⟩ : ∃ xb, w.heap.size = xb := ⟨_, rfl⟩
  obtain ⟨w1, hw1⟩ : ∃ w1, w.alloc (ixBox nm a N c un) = w1 := ⟨_, rfl⟩
  have HB1 : Hid (Below w.heap.size w w1) := by show Below _ _ _; rw [← hw1]; exact (Below.refl _ w).alloc (Nat.le_refl _) _
  have hx1 : w1.heap[xb]? = some (ixBox nm a N c un) := by rw [← hw1, ← hxb]; exact heap_new w _
  have p0 : w1.cell? ⟨xb, 0, none⟩ = some (.string nm) := by rw [cell_of hx1]; rfl
  have p1 : w1.cell? ⟨xb, 1, none⟩ = some (.slice a N c) := by rw [cell_of hx1]; rfl
  clear h h3 hN hs hb hx1
  cases hnk : nameOk nm with
  | false =>
    rw [hnk] at HNm
    go_enter Tryz.func46, Tryz.ntmps46
    go_wp2_with (go_at_call 44; go_must (refine (HNm.out _).mono ?_; rintro e w2 ⟨rfl, rfl⟩))
    go_ret
    exact ⟨rfl, by first | exact HB1.out | (rw [← hxb]; exact HB1.out)⟩
  | true =>
    rw [hnk] at HNm
    by_cases g1 : N < 1
    · have g1' : (N : Int) < 1 := by omega
      have hf : numsOk n L = false := by unfold numsOk; rw [decide_eq_false (by rw [HL.out]; omega)]; rfl
      rw [hf]
      go_enter Tryz.func46, Tryz.ntmps46
      go_wp2_with (go_at_call 44; go_must (refine (HNm.out _).mono ?_; rintro e w2 ⟨rfl, rfl⟩))
      go_ret
      exact ⟨rfl, by first | exact HB1.out | (rw [← hxb]; exact HB1.out)⟩
    · have g1' : ¬ (N : Int) < 1 := by omega
      by_cases g2 : 32 < N
      · have g2' : (32 : Int) < (N : Int) := by omega
        have hf : numsOk n L = false := by unfold numsOk; rw [decide_eq_false (p := L.length ≤ 32) (by rw [HL.out]; omega)]; simp
        rw [hf]
        go_enter Tryz.func46, Tryz.ntmps46
        go_wp2_with (go_at_call 44; go_must (refine (HNm.out _).mono ?_; rintro e w2 ⟨rfl, rfl⟩))
        go_ret
        exact ⟨rfl, by first | exact HB1.out | (rw [← hxb]; exact HB1.out)⟩
      · have g2' : ¬ (32 : Int) < (N : Int) := by omega
        have HE : Hid (numsOk n L = (L.drop 0).all (numOk n)) := by
          show _ = _
          unfold numsOk
          rw [HL.out, decide_eq_true (by omega), decide_eq_true (by omega)]
          rfl
        go_enter Tryz.func46, Tryz.ntmps46
        go_wp2_with (go_at_call 44; go_must (refine (HNm.out _).mono ?_; rintro e w2 ⟨rfl, rfl⟩))
        go_loopw [5] (fun v wr => ∃ i : Nat, i ≤ N ∧ v = .int .i64 i ∧ Hid (numsOk n L = (L.drop i).all (numOk n)) ∧ wr = w1) (fun v _ => N - (intOf v).toNat)
        case atStart => exact ⟨0, Nat.zero_le _, rfl, HE, rfl⟩
        case round =>
          clear HE
          obtain ⟨i, hi, rfl, HE, rfl⟩ := hrel
          by_cases hlt : i < N
          · have hlI : (i : Int) < (N : Int) := by omega
            obtain ⟨y, hy⟩ : ∃ y, L[i]? = some y := ⟨_, List.getElem?_eq_getElem (by rw [HL.out]; exact hlt)⟩
            obtain ⟨b, off, rfl, q1⟩ := HX.out wr HB1.out i y hy
            have HS : Hid (numsOk n L = (numOk n y && (L.drop (i + 1)).all (numOk n))) := by show _ = _; rw [HE.out, all_step _ hy]
            clear hy hw1
            by_cases k1 : y < 0
            · have HF : Hid (numsOk n L = false) := by
                show _ = _
                have : numOk n y = false := by unfold numOk; rw [decide_eq_false (by omega)]; rfl
                rw [HS.out, this]; rfl
              go_wp2_with fail
              go_ret
              exact ⟨by rw [HF.out]; rfl, by first | exact HB1.out | (rw [← hxb]; exact HB1.out)⟩
            · by_cases k2 : (n : Int) ≤ y
              · have HF : Hid (numsOk n L = false) := by
                  show _ = _
                  have : numOk n y = false := by unfold numOk; rw [decide_eq_false (p := y < (n : Int)) (by omega)]; simp
                  rw [HS.out, this]; rfl
                go_wp2_with fail
                go_ret
                exact ⟨by rw [HF.out]; rfl, by first | exact HB1.out | (rw [← hxb]; exact HB1.out)⟩
              · have HS2 : Hid (numsOk n L = (L.drop (i + 1)).all (numOk n)) := by
                  show _ = _
                  have : numOk n y = true := numOk_iff.2 ⟨by omega, by omega⟩
                  rw [HS.out, this]; rfl
                go_wp2_with fail
                go_roundw
                case rel => exact ⟨i + 1, by omega, by go_num, HS2, trivial⟩
                case measure => simp [intOf]; omega
          · have hlI : ¬ (i : Int) < (N : Int) := by omega
            have HT : Hid (numsOk n L = true) := by
              show _ = _
              rw [HE.out, List.drop_eq_nil_of_le (by rw [HL.out]; omega)]
              rfl
            clear hw1
            go_wp2_with fail
            go_ret
            exact ⟨by rw [HT.out]; rfl, by first | exact HB1.out | (rw [← hxb]; exact HB1.out)⟩

end Go.Proofs.YtnboanlhdllhnaaGreat

/- hopperref14: which schemas may be. -/
namespace Go.Proofs.YtnboanlhdllhnaaGreat
open Go.RowKit

set_option maxRecDepth 100000 in
set_option maxHeartbeats 4000000 in
theorem rmay_any (cv iv : Value) (T : Tab) (w w0 : World) (hb : Below w0.heap.size w0 w) (h : TabV w0 cv iv T) (hr : Rg T) :
    Calls Tryz.prog 27 #[tabVal cv iv T] w fun e w' => e = .returned (.bool T.may) ∧ Below w.heap.size w w' := by
  obtain ⟨g1, X, g2, g3, g4⟩ := h
  have HCo : Hid (∀ u, Below w.heap.size w u → Calls Tryz.prog 45 #[cv] u fun e w' => e = .returned (.bool (colsOk T.co)) ∧ Hid (Below u.heap.size u w')) := fun u hu => rcolumns_any cv T.co u w0 (hb.trans (hu.mono hb.size)) g1 (fun c hc => (hr.co c hc).1)
  obtain ⟨ca, cc, rfl, s1, s2⟩ := slice_shape g1
  obtain ⟨ia, ic, rfl, t1, t2, t3⟩ := g2.opened
  unfold maxLen at t2
  have hXl : T.ix.length = X.length := by rw [← g3, List.length_map]
  have HXX : Hid (∀ u, Below w.heap.size w u → ∀ (i : Nat) (y : Iv), X[i]? = some y → ∃ b off, ia = some ⟨b, off, none⟩ ∧ u.cell? ⟨b, off + i * 3, none⟩ = some (.string y.ix.nm) ∧ u.cell? ⟨b, off + i * 3 + 1, none⟩ = some y.v ∧ u.cell? ⟨b, off + i * 3 + 2, none⟩ = some (.bool y.ix.un)) := fun u hu i y hy => by
    obtain ⟨hi, rfl⟩ := List.getElem?_eq_some_iff.1 hy
    obtain ⟨b, off, e, _, hc⟩ := t3 u (hb.trans (hu.mono hb.size)) i hi
    exact ⟨b, off, e, hc 0 _ rfl, hc 1 _ rfl, hc 2 _ rfl⟩
  have HIx : Hid (∀ (u : World) (y : Iv), Below w.heap.size w u → y ∈ X → (∃ a c, y.v = .slice a y.ix.cs.length c) ∧ Calls Tryz.prog 46 #[.agg #[.string y.ix.nm, y.v, .bool y.ix.un], .int .i64 (T.co.length : Int)] u fun e w' => e = .returned (.bool (nameOk y.ix.nm && numsOk T.co.length y.ix.cs)) ∧ Hid (Below u.heap.size u w')) := fun u y hu hy => by
    obtain ⟨a, c, e, _⟩ := g4 y hy
    refine ⟨⟨a, c, e⟩, ?_⟩
    exact rindex1_any y.ix y.v T.co.length u w0 (hb.trans (hu.mono hb.size)) (g4 y hy) (hr.ix y.ix (by rw [← g3]; exact List.mem_map.2 ⟨y, hy, rfl⟩)).1
  have HNm : Hid (∀ u, Calls Tryz.prog 44 #[.string T.nm] u fun e w' => e = .returned (.bool (nameOk T.nm)) ∧ u = w') := fun u => (named_any T.nm u hr.nm).mono fun e w' ⟨e1, e2⟩ => ⟨e1, e2.symm⟩
  obtain ⟨K, hK⟩ : ∃ K, X.map (fun y => y.ix.nm) = K := ⟨_, rfl⟩
  have HMay : Hid (T.may = (nameOk T.nm && colsOk T.co && decide (1 ≤ T.key) && decide (T.key ≤ (T.co.length : Int)) && (decide (X.length ≤ 8) && (X.drop 0).all (fun y => numsOk T.co.length y.ix.cs) && namesOk (K.take 0) (K.drop 0)))) := by
    show _ = _
    unfold Tab.may ixsOk
    rw [← g3, List.length_map, List.map_map, ← hK]
    simp only [List.drop_zero, List.take_zero, List.all_map]
    rfl
  have HKa : Hid (∀ (i : Nat) (y : Iv), X[i]? = some y → K[i]? = some y.ix.nm) := fun i y hy => by rw [← hK, List.getElem?_map, hy]; rfl
  have HKl : Hid (K.length = X.length) := by show _ = _; rw [← hK, List.length_map]
  unfold tabVal
  obtain ⟨N, hN⟩ : ∃ N, T.co.length = N := ⟨_, rfl⟩
  obtain ⟨M, hM⟩ : ∃ M, X.length = M := ⟨_, rfl⟩
  have HM : Hid (X.length = M) := hM
  obtain ⟨key, hkey⟩ : ∃ key, T.key = key := ⟨_, rfl⟩
  obtain ⟨nm, hnm⟩ : ∃ nm, T.nm = nm := ⟨_, rfl⟩
  have hkr := hr.key
  rw [hkey] at hkr
  obtain ⟨kr1, kr2⟩ := hkr
  rw [hN] at HCo HIx HMay s1
  rw [hM] at HMay HKl t1
  rw [hkey, hnm] at HMay
  rw [hnm] at HNm
  rw [hN, hM, hkey, hnm]
  obtain ⟨co, hco⟩ : ∃ co, colsOk T.co = co := ⟨_, rfl⟩
  have HN32 : Hid (co = true → N ≤ 32) := fun e => by
    rw [← hco] at e
    unfold colsOk at e
    simp only [Bool.and_eq_true, decide_eq_true_eq] at e
    have := e.1.1.2
    omega
  rw [hco] at HCo HMay
  obtain ⟨xb, hxb⟩ : ∃ xb, w.heap.size = xb := ⟨_, rfl⟩
  obtain ⟨w1, hw1⟩ : ∃ w1, w.alloc (tabBox nm ca N cc key ia M ic) = w1 := ⟨_, rfl⟩
  have HB1 : Hid (Below w.heap.size w w1) := by show Below _ _ _; rw [← hw1]; exact (Below.refl _ w).alloc (Nat.le_refl _) _
  have hx1 : w1.heap[xb]? = some (tabBox nm ca N cc key ia M ic) := by rw [← hw1, ← hxb]; exact heap_new w _
  have HA : Hid (∀ u, Below w1.heap.size w1 u → u.cell? ⟨xb, 0, none⟩ = some (.string nm) ∧ u.cell? ⟨xb, 1, none⟩ = some (.slice ca N cc) ∧ u.cell? ⟨xb, 2, none⟩ = some (.int .i64 key) ∧ u.cell? ⟨xb, 3, none⟩ = some (.slice ia M ic)) := fun u hu => by
    have k1 := (hu.block _ (lt_of hx1)).trans hx1
    exact ⟨by rw [cell_of k1]; rfl, by rw [cell_of k1]; rfl, by rw [cell_of k1]; rfl, by rw [cell_of k1]; rfl⟩
  obtain ⟨p0, p1, p2, p3⟩ := HA.out w1 (Below.refl _ _)
  have HBw : Hid (∀ u, Below w1.heap.size w1 u → Below w.heap.size w u) := fun u hu => HB1.out.trans (hu.mono HB1.out.size)
  have HCo1 : Hid (Calls Tryz.prog 45 #[.slice ca N cc] w1 fun e w' => e = .returned (.bool co) ∧ Hid (Below w1.heap.size w1 w')) := HCo.out w1 HB1.out
  clear g1 g2 g3 g4 t3 hb hr hN hM hkey hnm hco hx1 hXl hK
  cases hnk : nameOk nm with
  | false =>
    rw [hnk] at HNm HMay
    have HF : Hid (T.may = false) := by show _ = _; rw [HMay.out]; simp
    go_enter Tryz.func27, Tryz.ntmps27
    go_wp2_with (go_at_call 44; go_must (refine (HNm.out _).mono ?_; rintro e w2 ⟨rfl, rfl⟩))
    go_ret
    exact ⟨by rw [HF.out]; rfl, by first | exact HB1.out | (rw [← hxb]; exact HB1.out)⟩
  | true =>
    rw [hnk] at HNm HMay
    cases co with
    | false =>
      have HF : Hid (T.may = false) := by show _ = _; rw [HMay.out]; simp
      go_enter Tryz.func27, Tryz.ntmps27
      go_wp2_with (first
        | (go_at_call 44; go_must (refine (HNm.out _).mono ?_; rintro e w2 ⟨rfl, rfl⟩))
        | (go_at_call 45; go_must (refine HCo1.out.mono ?_; rintro e w3 ⟨rfl, B3⟩)))
      go_ret
      exact ⟨by rw [HF.out]; rfl, by first | exact HBw.out _ B3.out | (rw [← hxb]; exact HBw.out _ B3.out)⟩
    | true =>
      have hN32 := HN32.out rfl
      by_cases hk1 : key < 1
      · have HF : Hid (T.may = false) := by show _ = _; rw [HMay.out, decide_eq_false (p := 1 ≤ key) (by omega)]; simp
        go_enter Tryz.func27, Tryz.ntmps27
        go_wp2_with (first
          | (go_at_call 44; go_must (refine (HNm.out _).mono ?_; rintro e w2 ⟨rfl, rfl⟩))
          | (go_at_call 45; go_must (refine HCo1.out.mono ?_; rintro e w3 ⟨rfl, B3⟩; obtain ⟨r0, r1, r2, r3⟩ := HA.out _ B3.out)))
        go_ret
        exact ⟨by rw [HF.out]; rfl, by first | exact HBw.out _ B3.out | (rw [← hxb]; exact HBw.out _ B3.out)⟩
      · by_cases hk2 : (N : Int) < key
        · have HF : Hid (T.may = false) := by show _ = _; rw [HMay.out, decide_eq_false (p := key ≤ (N : Int)) (by omega)]; simp
          go_enter Tryz.func27, Tryz.ntmps27
          go_wp2_with (first
            | (go_at_call 44; go_must (refine (HNm.out _).mono ?_; rintro e w2 ⟨rfl, rfl⟩))
            | (go_at_call 45; go_must (refine HCo1.out.mono ?_; rintro e w3 ⟨rfl, B3⟩; obtain ⟨r0, r1, r2, r3⟩ := HA.out _ B3.out)))
          go_ret
          exact ⟨by rw [HF.out]; rfl, by first | exact HBw.out _ B3.out | (rw [← hxb]; exact HBw.out _ B3.out)⟩
        · by_cases hM8 : (8 : Int) < (M : Int)
          · have HF : Hid (T.may = false) := by show _ = _; rw [HMay.out, decide_eq_false (p := M ≤ 8) (by omega)]; simp
            go_enter Tryz.func27, Tryz.ntmps27
            go_wp2_with (first
              | (go_at_call 44; go_must (refine (HNm.out _).mono ?_; rintro e w2 ⟨rfl, rfl⟩))
              | (go_at_call 45; go_must (refine HCo1.out.mono ?_; rintro e w3 ⟨rfl, B3⟩; obtain ⟨r0, r1, r2, r3⟩ := HA.out _ B3.out)))
            go_ret
            exact ⟨by rw [HF.out]; rfl, by first | exact HBw.out _ B3.out | (rw [← hxb]; exact HBw.out _ B3.out)⟩
          · have HM0 : Hid (T.may = ((X.drop 0).all (fun y => numsOk N y.ix.cs) && namesOk (K.take 0) (K.drop 0))) := by
              show _ = _
              rw [HMay.out, decide_eq_true (p := 1 ≤ key) (by omega), decide_eq_true (p := key ≤ (N : Int)) (by omega), decide_eq_true (p := M ≤ 8) (by omega)]
              simp
            have HXe : Hid (∀ u, Below w1.heap.size w1 u → ∀ (j : Nat) (x : ByteArray), K[j]? = some x → j < M → ∃ b off, ia = some ⟨b, off, none⟩ ∧ u.cell? ⟨b, off + j * 3, none⟩ = some (.string x)) := fun u hu j x hx hj => by
              obtain ⟨y, hy⟩ : ∃ y, X[j]? = some y := ⟨_, List.getElem?_eq_getElem (by rw [HM.out]; exact hj)⟩
              obtain ⟨b', off', e, r1, _⟩ := HXX.out u (HBw.out u hu) j y hy
              have := HKa.out j y hy
              rw [hx] at this
              cases this
              exact ⟨b', off', e, r1⟩
            have hM8' : M ≤ 8 := by omega
            go_enter Tryz.func27, Tryz.ntmps27
            go_wp2_with (first
              | (go_at_call 44; go_must (refine (HNm.out _).mono ?_; rintro e w2 ⟨rfl, rfl⟩))
              | (go_at_call 45; go_must (refine HCo1.out.mono ?_; rintro e w3 ⟨rfl, B3⟩; obtain ⟨r0, r1, r2, r3⟩ := HA.out _ B3.out)))
            clear hw1 p0 p1 p2 p3 r0 r1 r2 r3 HMay HCo HCo1 HNm
            go_loopw [3] (fun v wr => ∃ i : Nat, i ≤ M ∧ v = .int .i64 i ∧ Hid (T.may = ((X.drop i).all (fun y => numsOk N y.ix.cs) && namesOk (K.take i) (K.drop i))) ∧ Hid (Below w1.heap.size w1 wr)) (fun v _ => M - (intOf v).toNat)
            case atStart => exact ⟨0, Nat.zero_le _, rfl, HM0, B3⟩
            case round =>
              clear HM0 B3
              obtain ⟨i, hi, rfl, HE, HB⟩ := hrel
              obtain ⟨r0, r1, r2, r3⟩ := HA.out _ HB.out
              by_cases hlt : i < M
              · have hlI : (i : Int) < (M : Int) := by omega
                obtain ⟨y, hy⟩ : ∃ y, X[i]? = some y := ⟨_, List.getElem?_eq_getElem (by rw [HM.out]; exact hlt)⟩
                have HY := HKa.out i y hy
                obtain ⟨b, off, rfl, q1, q2, q3⟩ := HXX.out wr (HBw.out _ HB.out) i _ hy
                have hmem := List.mem_of_getElem? hy
                have HS5 : Hid (∀ u, Below w1.heap.size w1 u → u.cell? ⟨b, off + i * 3, none⟩ = some (.string y.ix.nm) ∧ u.cell? ⟨b, off + i * 3 + 1, none⟩ = some y.v ∧ u.cell? ⟨b, off + i * 3 + 2, none⟩ = some (.bool y.ix.un)) := fun u hu => by
                  obtain ⟨b', off', e, k1, k2, k3⟩ := HXX.out u (HBw.out _ hu) i _ hy
                  cases e
                  exact ⟨k1, k2, k3⟩
                obtain ⟨⟨va, vc, hv⟩, -⟩ := HIx.out wr y (HBw.out _ HB.out) hmem
                have HE2 : Hid (T.may = ((numsOk N y.ix.cs && (X.drop (i + 1)).all (fun y => numsOk N y.ix.cs)) && (nameOk y.ix.nm && !(isIn y.ix.nm (K.take i)) && namesOk (K.take (i + 1)) (K.drop (i + 1))))) := by
                  show _ = _
                  rw [HE.out, all_step _ hy, names_step K HY]
                have HIy0 : Hid (∀ u, Below w1.heap.size w1 u → Calls Tryz.prog 46 #[.agg #[.string y.ix.nm, y.v, .bool y.ix.un], .int .i64 (N : Int)] u fun e w' => e = .returned (.bool (nameOk y.ix.nm && numsOk N y.ix.cs)) ∧ Hid (Below w1.heap.size w1 w')) := fun u hu => (HIx.out u y (HBw.out _ hu) hmem).2.mono fun e w' ⟨e1, e2⟩ => ⟨e1, hu.trans (e2.out.mono hu.size)⟩
                obtain ⟨⟨xn, cs, un⟩, vv⟩ := y
                dsimp only at q1 q2 q3 hv HE2 HIy0 HY HS5
                subst hv
                obtain ⟨nc, hnc⟩ : ∃ nc, cs.length = nc := ⟨_, rfl⟩
                obtain ⟨g, hg⟩ : ∃ g, (nameOk xn && numsOk N cs) = g := ⟨_, rfl⟩
                have HG : Hid ((nameOk xn && numsOk N cs) = g) := hg
                rw [hnc] at q2 HIy0 HS5
                rw [hg] at HIy0
                have HIy : Hid (∀ m, Calls Tryz.prog 46 #[.agg #[.string xn, .slice va nc vc, .bool un], .int .i64 (N : Int)] (wr.drewN m) fun e w' => e = .returned (.bool g) ∧ Hid (Below w1.heap.size w1 w')) := fun m => HIy0.out _ (HB.out.trans ((below_drewN wr m).mono HB.out.size))
                have HKi : Hid (K[i]? = some xn) := HY
                clear hy hmem hnc hg HIy0 HY
                go_wp2_with fail
                go_region_held3 (fun u => u.cell? ⟨xb, 3, none⟩ = some (.slice (some ⟨b, off, none⟩) M ic) ∧ u.cell? ⟨xb, 1, none⟩ = some (.slice ca N cc) ∧ u.cell? ⟨b, off + i * 3, none⟩ = some (.string xn) ∧ u.cell? ⟨b, off + i * 3 + 1, none⟩ = some (.slice va nc vc) ∧ u.cell? ⟨b, off + i * 3 + 2, none⟩ = some (.bool un)) (first | (refine ⟨?_, ?_, ?_, ?_, ?_⟩ <;> (repeat (first | with_reducible assumption | with_reducible apply cell_drew)) <;> done) | go_keep)
                  ((go_at_call 46; go_must (refine (HIy.out _).mono ?_; rintro e w5 ⟨rfl, B5⟩; obtain ⟨x1, x2, x3⟩ := HS5.out _ B5.out; obtain ⟨y0, y1, y2, y3⟩ := HA.out _ B5.out)))
                cases g with
                | false =>
                  have HF : Hid (T.may = false) := by
                    show _ = _
                    have h1 := HG.out
                    rw [HE2.out]
                    rcases Bool.and_eq_false_iff.1 h1 with h | h
                    · rw [h]; simp
                    · rw [h]; simp
                  go_wp2_with fail
                  go_ret
                  exact ⟨by rw [HF.out]; rfl, by first | exact HBw.out _ B5.out | (rw [← hxb]; exact HBw.out _ B5.out)⟩
                | true =>
                  have HE3 : Hid (T.may = ((X.drop (i + 1)).all (fun y => numsOk N y.ix.cs) && (!(isIn xn (K.take i)) && namesOk (K.take (i + 1)) (K.drop (i + 1))))) := by
                    show _ = _
                    obtain ⟨h1, h2⟩ := Bool.and_eq_true_iff.1 HG.out
                    rw [HE2.out, h1, h2]
                    simp
                  obtain ⟨z0, z1, z2, z3⟩ := HA.out _ B5.out
                  go_wp2_with fail
                  go_loopw [4] (fun v wr => ∃ j : Nat, j ≤ i ∧ v = .int .i64 j ∧ Hid (isIn xn (K.take j) = false) ∧ Hid (Below w1.heap.size w1 wr)) (fun v _ => i - (intOf v).toNat)
                  case atStart => exact ⟨0, Nat.zero_le _, rfl, (rfl : _ = _), B5⟩
                  case round =>
                    clear z0 z1 z2 z3 r0 r1 r2 r3 q1 q2 q3 x1 x2 x3 y0 y1 y2 y3
                    obtain ⟨j, hj, rfl, HI, HBj⟩ := hrel
                    obtain ⟨z0, z1, z2, z3⟩ := HA.out _ HBj.out
                    by_cases hji : j < i
                    · have hjI : (j : Int) < (i : Int) := by omega
                      obtain ⟨x, hx⟩ : ∃ x, K[j]? = some x := ⟨_, List.getElem?_eq_getElem (by rw [HKl.out]; omega)⟩
                      obtain ⟨b1, off1, eb1, t1'⟩ := HXe.out wr HBj.out j x hx (by omega)
                      obtain ⟨b2, off2, eb2, t2'⟩ := HXe.out wr HBj.out i xn HKi.out hlt
                      cases eb1
                      cases eb2
                      have HIs : Hid (isIn xn (K.take (j + 1)) = (isIn xn (K.take j) || decide (x = xn))) := isIn_take hx
                      have hjN : (j : Int) < (M : Int) := by omega
                      by_cases hxn : x = xn
                      · have HF : Hid (T.may = false) := by
                          show _ = _
                          have h1 : isIn xn (K.take i) = true := isIn_iff.2 (by
                            rw [← hxn]
                            exact List.mem_of_getElem? (show (K.take i)[j]? = some x by rw [List.getElem?_take_of_lt hji]; exact hx))
                          rw [HE3.out, h1]
                          simp
                        subst hxn
                        clear hx
                        go_wp2_with fail
                        go_quiet (fail)
                        go_wp2_with fail
                        go_ret
                        have hbq := HBj.out.trans ((below_drewN wr nq).mono HBj.out.size)
                        exact ⟨by rw [HF.out]; rfl, by first | exact HBw.out _ hbq | (rw [← hxb]; exact HBw.out _ hbq)⟩
                      · have b1' : ¬ x.toList = xn.toList := fun e => hxn (toList_inj e)
                        have b2' : (x.toList == xn.toList) = false := beq_false_of_ne b1'
                        clear hx
                        go_wp2_with fail
                        go_quiet (fail)
                        go_wp2_with fail
                        go_roundw
                        case rel => exact ⟨j + 1, by omega, by go_num, (by rw [HIs.out, HI.out, decide_eq_false hxn]; rfl : _ = _), HBj.out.trans ((below_drewN wr _).mono HBj.out.size)⟩
                        case measure => simp [intOf]; omega
                    · have hjI : ¬ (j : Int) < (i : Int) := by omega
                      have HE4 : Hid (T.may = ((X.drop (i + 1)).all (fun y => numsOk N y.ix.cs) && namesOk (K.take (i + 1)) (K.drop (i + 1)))) := by
                        show _ = _
                        have := HI.out
                        rw [show j = i by omega] at this
                        rw [HE3.out, this]
                        simp
                      go_wp2_with fail
                      go_roundw
                      case rel => exact ⟨i + 1, by omega, by go_num, HE4, HBj⟩
                      case measure => simp [intOf]; omega
              · have hlI : ¬ (i : Int) < (M : Int) := by omega
                have HT : Hid (T.may = true) := by
                  show _ = _
                  rw [HE.out, List.drop_eq_nil_of_le (by rw [HM.out]; omega), List.drop_eq_nil_of_le (by rw [HKl.out]; omega)]
                  rfl
                go_wp2_with fail
                go_ret
                exact ⟨by rw [HT.out]; rfl, by first | exact HBw.out _ HB.out | (rw [← hxb]; exact HBw.out _ HB.out)⟩

end Go.Proofs.YtnboanlhdllhnaaGreat
