/- The law TreeUnseen: its walk. -/
import Derived.Test.YtoknebbkpkcomaaTGrown
namespace Go.Proofs.Ytoknebbkpkcomaa
open Go.RowKit

theorem sliceAt_below {α : Type} {w u : World} {v : Value} {n : Nat} {en : α → List Value} {L : List α} (h : SliceAt w v n en L) (hb : Below w.heap.size w u) : SliceAt u v n en L := by
  obtain ⟨a, c, e, h1, h2, h3⟩ := h
  refine ⟨a, c, e, h1, h2, fun hne => ?_⟩
  obtain ⟨b, off, e, hl, hc⟩ := h3 hne
  exact ⟨b, off, e, Nat.lt_of_lt_of_le hl hb.size, fun i hi j x hx => by rw [hb.cell (p := ⟨b, off + i * n + j, none⟩) hl]; exact hc i hi j x hx⟩

namespace UnseenL

set_option maxRecDepth 100000 in
set_option maxHeartbeats 8000000 in
theorem walk (v0 v2 : Value) (L M : List ActV) (S : ActV) (w : World) (hL : SliceAt w v0 4 ActV.en L) (hZ : ∀ a ∈ L, a.Ok) (hM : SliceAt w v2 4 ActV.en M) (hY : ∀ a ∈ M, a.Ok) :
    Calls Try.prog 5 #[v0, .agg #[.int .i64 S.kind, .string S.key, .string S.to, .int .i64 S.num], v2] w fun e w' => e = .returned (.bool true) ∧ Below w.heap.size w w' := by
  have HWk : Hid (∀ u : World, Calls Try.prog 15 #[] u fun e w' => e = .returned (.bool true) ∧ Below u.heap.size u w') := works_any
  obtain ⟨kS, kf, kt, kn⟩ := S
  dsimp only
  obtain ⟨W1, hW1⟩ : ∃ W1, w.alloc (.cells #[.int .i64 kS, .string kf, .string kt, .int .i64 kn] 32) = W1 := ⟨_, rfl⟩
  have hb1 : Below w.heap.size w W1 := by rw [← hW1]; exact (Below.refl _ _).alloc (Nat.le_refl _) _
  have hp1 : W1.heap[w.heap.size]? = some (.cells #[.int .i64 kS, .string kf, .string kt, .int .i64 kn] 32 (0, 0)) := by rw [← hW1]; exact heap_new w _
  have HB1 : Hid (Below w.heap.size w W1) := hb1
  have HGr : Hid (∀ u : World, Below W1.heap.size W1 u → Calls Try.prog 20 #[v0] u fun e w' => ∃ t, e = .returned (.pointer (some ⟨t, 0, none⟩)) ∧ ∃ T, Hid (HasT t T 400 W1 w' [])) := fun u hu => grown_any v0 L W1 u hu (sliceAt_below hL hb1) hZ
  obtain ⟨p, hp⟩ : ∃ p, w.heap.size = p := ⟨_, rfl⟩
  rw [hp] at hp1
  have HC : Hid (∀ u, Below W1.heap.size W1 u → u.cell? ⟨p, 1, none⟩ = some (.string kf) ∧ u.cell? ⟨p, 2, none⟩ = some (.string kt) ∧ u.cell? ⟨p, 3, none⟩ = some (.int .i64 kn)) := fun u hu => by
    have := (hu.block p (lt_of hp1)).trans hp1
    rw [cell_of this, cell_of this, cell_of this]
    exact ⟨rfl, rfl, rfl⟩
  obtain ⟨av, cv, rfl, hlc, hcm, hx⟩ := acts_open (sliceAt_below hM hb1)
  unfold maxLen at hcm
  have HX : Hid (∀ u, Below W1.heap.size W1 u → ∀ i, (hi : i < M.length) → ∃ b off, av = some ⟨b, off, none⟩ ∧ u.cell? ⟨b, off + i * 4, none⟩ = some (.int .i64 M[i].kind) ∧ u.cell? ⟨b, off + i * 4 + 1, none⟩ = some (.string M[i].key) ∧ u.cell? ⟨b, off + i * 4 + 2, none⟩ = some (.string M[i].to) ∧ u.cell? ⟨b, off + i * 4 + 3, none⟩ = some (.int .i64 M[i].num)) := hx
  have HZ : Hid (∀ a ∈ M, a.Ok) := hY
  obtain ⟨m, hm⟩ : ∃ m, M.length = m := ⟨_, rfl⟩
  have HM : Hid (M.length = m) := hm
  rw [hm] at hlc ⊢
  clear hx hL hm hZ hM hY hb1 hp1
  go_enter Try.func5, Try.ntmps5
  go_wp2_with fail
  refine (HWk.out _).mono ?_
  rintro e w2 ⟨rfl, hb2⟩
  have HB2 : Hid (Below W1.heap.size W1 w2) := hb2
  clear hb2 hW1
  go_wp2_with fail
  refine (HGr.out _ HB2.out).mono ?_
  rintro e w3 ⟨t, rfl, T0, H0⟩
  clear HB2 HGr
  obtain ⟨c1, c2, c3⟩ := HC.out w3 H0.out.base
  obtain ⟨r, hr⟩ : ∃ r : Nat, kn % 30 = r := ⟨(kn % 30).toNat, by omega⟩
  have hr30 : r < 30 := by omega
  have HAm : Hid (Calls Try.prog 16 #[.int .i64 kn, .int .i64 30] w3 fun e w' => e = .returned (.int .i64 (r : Int)) ∧ w' = w3) := among_to kn 30 w3 (by omega) (by omega) hr
  clear hr
  go_wp2_with (go_at_call 16; go_must (refine HAm.out.mono ?_; rintro e w4 ⟨rfl, rfl⟩))
  clear HAm
  obtain ⟨mo, hmo⟩ : ∃ mo : Nat, mo = 1 + r := ⟨_, rfl⟩
  have hmo1 : 1 ≤ mo := by omega
  have hmo2 : mo ≤ 4096 := by omega
  obtain ⟨MO, hMO⟩ : ∃ MO : Int, 1 + (r : Int) = MO := ⟨_, rfl⟩
  have HMo : Hid (MO = (mo : Int)) := by show _ = _; omega
  rw [hMO]
  clear hmo hMO hr30
  have HS : Hid (Calls Try.prog 12 #[.pointer (some ⟨t, 0, none⟩), .string kf, .string kt, .int .i64 MO] w4 fun x w' => ∃ vk vv vs told seen L', x = .returned (.tuple #[vk, vv, vs, .int .i64 0]) ∧ Hid (Scanned T0.ls kf kt mo told seen) ∧ Hid (Rows L' vk vv vs told seen) ∧ Hid (HasT t T0 400 W1 w' (L' ++ []))) := H0.out.scanI HMo.out hmo1 hmo2
  refine HS.out.mono ?_
  rintro e w5 ⟨vk, vv, vs, told, seen, L', rfl, HSc, HR, H5⟩
  clear HS H0
  have HSm : Hid ((∀ s ∈ seen, 0 ≤ s.1 ∧ s.1 < 1000000) ∧ seen.length ≤ 10000) := scanned_small H5.out.ok (by omega) HSc.out
  have HLo : Hid (T0.Ok 400) := H5.out.ok
  have hv1 : validB T0.ls seen = true := valid_now HSc.out.real
  have HV1 : Hid (Calls Try.prog 21 #[.pointer (some ⟨t, 0, none⟩), vs] w5 fun e w' => e = .returned (.bool true) ∧ Hid (HasT t T0 400 W1 w' (L' ++ []))) := by
    have := HasT.valid H5.out (HR.out w5 (fun p hp => H5.out.heaps p (by simp [hp]))).2.2 HSm.out.1 HSm.out.2
    rw [hv1] at this
    exact this
  have HVa : Hid (validB T0.ls seen = true) := hv1
  clear hv1 H5 c1 c2 c3
  go_wp2_with fail
  refine HV1.out.mono ?_
  rintro e w6 ⟨rfl, H6⟩
  clear HV1
  go_wp2_with fail
  go_loopw [13, 14] (fun c i wr => ∃ (j : Nat) (ch : Bool) (T : Tr), j ≤ 100 ∧ i = .int .i64 j ∧ c = .bool ch ∧ Hid (Grew T0.ls T0.made T.ls T.made ∧ (ch = false → validB T.ls seen = true)) ∧ Hid (HasT t T (400 + 2 * j) W1 wr (L' ++ []))) (fun _ i _ => 100 - (intOf i).toNat)
  case atStart => exact ⟨0, false, T0, by omega, rfl, rfl, ⟨Grew.refl _ _, fun _ => HVa.out⟩, H6⟩
  case round =>
    clear H6 HVa
    obtain ⟨j, ch, T, hj, rfl, rfl, HG, HI⟩ := hrel
    by_cases hlt : j < m ∧ j < 100
    · obtain ⟨hlt, h200⟩ := hlt
      have hlL : j < M.length := by rw [HM.out]; exact hlt
      obtain ⟨b, off, rfl, t0, t1, -, t3⟩ := HX.out wr (Stand.base HI.out) j hlL
      have hOk := HZ.out _ (List.getElem_mem hlL)
      obtain ⟨k, hk⟩ : ∃ k, M[j].kind = k := ⟨_, rfl⟩
      obtain ⟨x, hx⟩ : ∃ x, M[j].key = x := ⟨_, rfl⟩
      obtain ⟨y, hy⟩ : ∃ y, M[j].num = y := ⟨_, rfl⟩
      have HNm : Hid (Num y) := by rw [← hy]; exact hOk.num
      rw [hk] at t0
      rw [hx] at t1
      rw [hy] at t3
      have HT : Hid (∀ u, Below W1.heap.size W1 u → u.cell? ⟨b, off + j * 4 + 1, none⟩ = some (.string x) ∧ u.cell? ⟨b, off + j * 4 + 3, none⟩ = some (.int .i64 y)) := fun u hu => by
        obtain ⟨b', off', e, _, q1, _, q3⟩ := HX.out u hu j hlL
        cases e
        exact ⟨hx ▸ q1, hy ▸ q3⟩
      have hlI : (j : Int) < (m : Int) := by omega
      have h200I : (j : Int) < 100 := by omega
      obtain ⟨r, hr⟩ : ∃ r, k % 2 = r := ⟨_, rfl⟩
      have HAm : Hid (Calls Try.prog 16 #[.int .i64 k, .int .i64 2] wr fun e w' => e = .returned (.int .i64 r) ∧ w' = wr) := among_to k 2 wr (by omega) (by omega) hr
      obtain ⟨n0, hn0⟩ : ∃ n0 : Int, (T.ks.length : Int) = n0 := ⟨_, rfl⟩
      have HLn : Hid (Calls Try.prog 11 #[.pointer (some ⟨t, 0, none⟩)] wr fun e w' => e = .returned (.int .i64 n0) ∧ w' = wr) := by rw [← hn0]; exact HI.out.len
      have HN0 : Hid ((T.ks.length : Int) = n0) := hn0
      clear hk hx hy hr hlL hOk hn0
      go_wp2_with fail
      refine HLn.out.mono ?_
      rintro e w7 ⟨rfl, rfl⟩
      clear HLn
      go_wp2_with (go_at_call 16; go_must (refine HAm.out.mono ?_; rintro e w8 ⟨rfl, rfl⟩))
      · obtain ⟨K', was, th, e0, hp⟩ := putK_ex HI.out.ok.few x y
        have HP : Hid (∀ u, Below w8.heap.size w8 u → Calls Try.prog 17 #[.pointer (some ⟨t, 0, none⟩), .string x, .int .i64 y] u fun e w' => e = .returned (.tuple #[.int .i64 was, .bool th, .int .i64 e0]) ∧ ∃ T', Hid (T'.ks = K' ∧ Moves T T' ∧ HasT t T' (400 + 2 * j + 2) W1 w' (L' ++ []))) := fun u hu => HasT.put (Stand.below (treeI_res _ _ _) HI.out hu) hp HNm.out (by omega)
        clear hp HI
        go_region_held3 (fun u => u.cell? ⟨b, off + j * 4 + 1, none⟩ = some (.string x) ∧ u.cell? ⟨b, off + j * 4 + 3, none⟩ = some (.int .i64 y)) (go_keep)
          ((go_at_call 17; go_must (refine (HP.out _ (below_drewN w8 _)).mono ?_; rintro e w9 ⟨rfl, T9, H9⟩; obtain ⟨r0, r1⟩ := HT.out w9 H9.out.2.2.base)))
        have HMv : Hid (Grew T0.ls T0.made T9.ls T9.made) := HG.out.1.trans H9.out.2.1.grew
        obtain ⟨n1, hn1⟩ : ∃ n1 : Int, (T9.ks.length : Int) = n1 := ⟨_, rfl⟩
        have HLn : Hid (Calls Try.prog 11 #[.pointer (some ⟨t, 0, none⟩)] w9 fun e w' => e = .returned (.int .i64 n1) ∧ w' = w9) := by rw [← hn1]; exact H9.out.2.2.len
        obtain ⟨vb, hvb⟩ : ∃ vb, validB T9.ls seen = vb := ⟨_, rfl⟩
        have HVa : Hid (validB T9.ls seen = vb) := hvb
        have HV : Hid (Calls Try.prog 21 #[.pointer (some ⟨t, 0, none⟩), vs] w9 fun e w' => e = .returned (.bool vb) ∧ Hid (HasT t T9 (400 + 2 * (j + 1)) W1 w' (L' ++ []))) := by
          have := HasT.valid H9.out.2.2 (HR.out w9 (fun p hp => H9.out.2.2.heaps p (by simp [hp]))).2.2 HSm.out.1 HSm.out.2
          rw [hvb] at this
          exact this
        have HCh : Hid (ch = false → n1 = n0 → vb = true) := fun hc hn => by rw [← hvb]; exact H9.out.2.1.still (by have := HN0.out; omega) seen (HG.out.2 hc)
        clear hvb hn1 H9 HG HN0
        cases ch with
        | true =>
          go_wp2_with (go_at_call 11; go_must (refine HLn.out.mono ?_; rintro e w91 ⟨rfl, rfl⟩))
          refine HV.out.mono ?_
          rintro e w10 ⟨rfl, H10⟩
          clear HV
          obtain ⟨c1, c2, c3⟩ := HC.out w10 H10.out.base
          go_wp2_with fail
          refine (H10.out.scanI HMo.out hmo1 hmo2).mono ?_
          rintro e w11 ⟨vk11, vv11, vs11, told11, seen11, L11, rfl, HSc11, HR11, H11⟩
          clear H10
          cases vb with
          | true =>
            have HSame : Hid (Calls Try.prog 13 #[vk11, vk] w11 fun e w' => e = .returned (.bool true) ∧ Hid (HasT t T9 (400 + 2 * (j + 1)) W1 w' (L' ++ []))) := by
              have q1 := (HR11.out w11 (fun p hp => H11.out.heaps p (by simp [hp]))).1
              have q2 := (HR.out w11 (fun p hp => H11.out.heaps p (by simp [hp]))).1
              have q3 := unseen HLo.out.ok H11.out.ok.ok HMv.out hmo1 HSc.out HVa.out
              rw [← HSc11.out.eq] at q3
              have := sameTexts_any _ _ _ _ _ q1 q2
              rw [decide_eq_true q3] at this
              exact this.mono fun e w' ⟨e1, n, e2⟩ => ⟨e1, e2 ▸ Stand.drop (Stand.drewN (treeI_res _ _ _) H11.out n) (fun p hp => List.mem_append_right _ hp)⟩
            go_wp2_with (go_at_call 13; go_must (refine HSame.out.mono ?_; rintro e w12 ⟨rfl, H12⟩))
            go_roundw
            case rel => exact ⟨j + 1, true, T9, by omega, by go_num, rfl, ⟨HMv.out, fun hc => by cases hc⟩, H12⟩
            case measure => simp [intOf]; omega
          | false =>
            have H12 : Hid (HasT t T9 (400 + 2 * (j + 1)) W1 w11 (L' ++ [])) := Stand.drop H11.out (fun p hp => List.mem_append_right _ hp)
            go_wp2_with fail
            go_roundw
            case rel => exact ⟨j + 1, true, T9, by omega, by go_num, rfl, ⟨HMv.out, fun hc => by cases hc⟩, H12⟩
            case measure => simp [intOf]; omega
        | false =>
          by_cases hnn : n1 = n0
          · obtain rfl := HCh.out rfl hnn
            subst hnn
            go_wp2_with (go_at_call 11; go_must (refine HLn.out.mono ?_; rintro e w91 ⟨rfl, rfl⟩))
            refine HV.out.mono ?_
            rintro e w10 ⟨rfl, H10⟩
            clear HV
            obtain ⟨c1, c2, c3⟩ := HC.out w10 H10.out.base
            go_wp2_with fail
            refine (H10.out.scanI HMo.out hmo1 hmo2).mono ?_
            rintro e w11 ⟨vk11, vv11, vs11, told11, seen11, L11, rfl, HSc11, HR11, H11⟩
            clear H10
            have HSame : Hid (Calls Try.prog 13 #[vk11, vk] w11 fun e w' => e = .returned (.bool true) ∧ Hid (HasT t T9 (400 + 2 * (j + 1)) W1 w' (L' ++ []))) := by
              have q1 := (HR11.out w11 (fun p hp => H11.out.heaps p (by simp [hp]))).1
              have q2 := (HR.out w11 (fun p hp => H11.out.heaps p (by simp [hp]))).1
              have q3 := unseen HLo.out.ok H11.out.ok.ok HMv.out hmo1 HSc.out HVa.out
              rw [← HSc11.out.eq] at q3
              have := sameTexts_any _ _ _ _ _ q1 q2
              rw [decide_eq_true q3] at this
              exact this.mono fun e w' ⟨e1, n, e2⟩ => ⟨e1, e2 ▸ Stand.drop (Stand.drewN (treeI_res _ _ _) H11.out n) (fun p hp => List.mem_append_right _ hp)⟩
            go_wp2_with (go_at_call 13; go_must (refine HSame.out.mono ?_; rintro e w12 ⟨rfl, H12⟩))
            go_roundw
            case rel => exact ⟨j + 1, false, T9, by omega, by go_num, rfl, ⟨HMv.out, fun hc => HVa.out⟩, H12⟩
            case measure => simp [intOf]; omega
          · go_wp2_with (go_at_call 11; go_must (refine HLn.out.mono ?_; rintro e w91 ⟨rfl, rfl⟩))
            refine HV.out.mono ?_
            rintro e w10 ⟨rfl, H10⟩
            clear HV
            obtain ⟨c1, c2, c3⟩ := HC.out w10 H10.out.base
            go_wp2_with fail
            refine (H10.out.scanI HMo.out hmo1 hmo2).mono ?_
            rintro e w11 ⟨vk11, vv11, vs11, told11, seen11, L11, rfl, HSc11, HR11, H11⟩
            clear H10
            cases vb with
            | true =>
              have HSame : Hid (Calls Try.prog 13 #[vk11, vk] w11 fun e w' => e = .returned (.bool true) ∧ Hid (HasT t T9 (400 + 2 * (j + 1)) W1 w' (L' ++ []))) := by
                have q1 := (HR11.out w11 (fun p hp => H11.out.heaps p (by simp [hp]))).1
                have q2 := (HR.out w11 (fun p hp => H11.out.heaps p (by simp [hp]))).1
                have q3 := unseen HLo.out.ok H11.out.ok.ok HMv.out hmo1 HSc.out HVa.out
                rw [← HSc11.out.eq] at q3
                have := sameTexts_any _ _ _ _ _ q1 q2
                rw [decide_eq_true q3] at this
                exact this.mono fun e w' ⟨e1, n, e2⟩ => ⟨e1, e2 ▸ Stand.drop (Stand.drewN (treeI_res _ _ _) H11.out n) (fun p hp => List.mem_append_right _ hp)⟩
              go_wp2_with (go_at_call 13; go_must (refine HSame.out.mono ?_; rintro e w12 ⟨rfl, H12⟩))
              go_roundw
              case rel => exact ⟨j + 1, true, T9, by omega, by go_num, by rw [show (n1 != n0) = true by simpa using hnn], ⟨HMv.out, fun hc => by cases hc⟩, H12⟩
              case measure => simp [intOf]; omega
            | false =>
              have H12 : Hid (HasT t T9 (400 + 2 * (j + 1)) W1 w11 (L' ++ [])) := Stand.drop H11.out (fun p hp => List.mem_append_right _ hp)
              go_wp2_with fail
              go_roundw
              case rel => exact ⟨j + 1, true, T9, by omega, by go_num, by rw [show (n1 != n0) = true by simpa using hnn], ⟨HMv.out, fun hc => by cases hc⟩, H12⟩
              case measure => simp [intOf]; omega
      · obtain ⟨K', was, e0, hp⟩ := takeK_ex T.ks x
        have HP : Hid (Calls Try.prog 19 #[.pointer (some ⟨t, 0, none⟩), .string x] w8 fun e w' => e = .returned (.tuple #[.int .i64 was, .int .i64 e0]) ∧ ∃ T', Hid (T'.ks = K' ∧ Moves T T' ∧ HasT t T' (400 + 2 * j + 2) W1 w' (L' ++ []))) := HasT.take HI.out hp (by omega)
        clear hp HI
        refine HP.out.mono ?_
        rintro e w9 ⟨rfl, T9, H9⟩
        have HMv : Hid (Grew T0.ls T0.made T9.ls T9.made) := HG.out.1.trans H9.out.2.1.grew
        obtain ⟨n1, hn1⟩ : ∃ n1 : Int, (T9.ks.length : Int) = n1 := ⟨_, rfl⟩
        have HLn : Hid (Calls Try.prog 11 #[.pointer (some ⟨t, 0, none⟩)] w9 fun e w' => e = .returned (.int .i64 n1) ∧ w' = w9) := by rw [← hn1]; exact H9.out.2.2.len
        obtain ⟨vb, hvb⟩ : ∃ vb, validB T9.ls seen = vb := ⟨_, rfl⟩
        have HVa : Hid (validB T9.ls seen = vb) := hvb
        have HV : Hid (Calls Try.prog 21 #[.pointer (some ⟨t, 0, none⟩), vs] w9 fun e w' => e = .returned (.bool vb) ∧ Hid (HasT t T9 (400 + 2 * (j + 1)) W1 w' (L' ++ []))) := by
          have := HasT.valid H9.out.2.2 (HR.out w9 (fun p hp => H9.out.2.2.heaps p (by simp [hp]))).2.2 HSm.out.1 HSm.out.2
          rw [hvb] at this
          exact this
        have HCh : Hid (ch = false → n1 = n0 → vb = true) := fun hc hn => by rw [← hvb]; exact H9.out.2.1.still (by have := HN0.out; omega) seen (HG.out.2 hc)
        clear hvb hn1 H9 HG HN0
        cases ch with
        | true =>
          go_wp2_with (go_at_call 11; go_must (refine HLn.out.mono ?_; rintro e w91 ⟨rfl, rfl⟩))
          refine HV.out.mono ?_
          rintro e w10 ⟨rfl, H10⟩
          clear HV
          obtain ⟨c1, c2, c3⟩ := HC.out w10 H10.out.base
          go_wp2_with fail
          refine (H10.out.scanI HMo.out hmo1 hmo2).mono ?_
          rintro e w11 ⟨vk11, vv11, vs11, told11, seen11, L11, rfl, HSc11, HR11, H11⟩
          clear H10
          cases vb with
          | true =>
            have HSame : Hid (Calls Try.prog 13 #[vk11, vk] w11 fun e w' => e = .returned (.bool true) ∧ Hid (HasT t T9 (400 + 2 * (j + 1)) W1 w' (L' ++ []))) := by
              have q1 := (HR11.out w11 (fun p hp => H11.out.heaps p (by simp [hp]))).1
              have q2 := (HR.out w11 (fun p hp => H11.out.heaps p (by simp [hp]))).1
              have q3 := unseen HLo.out.ok H11.out.ok.ok HMv.out hmo1 HSc.out HVa.out
              rw [← HSc11.out.eq] at q3
              have := sameTexts_any _ _ _ _ _ q1 q2
              rw [decide_eq_true q3] at this
              exact this.mono fun e w' ⟨e1, n, e2⟩ => ⟨e1, e2 ▸ Stand.drop (Stand.drewN (treeI_res _ _ _) H11.out n) (fun p hp => List.mem_append_right _ hp)⟩
            go_wp2_with (go_at_call 13; go_must (refine HSame.out.mono ?_; rintro e w12 ⟨rfl, H12⟩))
            go_roundw
            case rel => exact ⟨j + 1, true, T9, by omega, by go_num, rfl, ⟨HMv.out, fun hc => by cases hc⟩, H12⟩
            case measure => simp [intOf]; omega
          | false =>
            have H12 : Hid (HasT t T9 (400 + 2 * (j + 1)) W1 w11 (L' ++ [])) := Stand.drop H11.out (fun p hp => List.mem_append_right _ hp)
            go_wp2_with fail
            go_roundw
            case rel => exact ⟨j + 1, true, T9, by omega, by go_num, rfl, ⟨HMv.out, fun hc => by cases hc⟩, H12⟩
            case measure => simp [intOf]; omega
        | false =>
          by_cases hnn : n1 = n0
          · obtain rfl := HCh.out rfl hnn
            subst hnn
            go_wp2_with (go_at_call 11; go_must (refine HLn.out.mono ?_; rintro e w91 ⟨rfl, rfl⟩))
            refine HV.out.mono ?_
            rintro e w10 ⟨rfl, H10⟩
            clear HV
            obtain ⟨c1, c2, c3⟩ := HC.out w10 H10.out.base
            go_wp2_with fail
            refine (H10.out.scanI HMo.out hmo1 hmo2).mono ?_
            rintro e w11 ⟨vk11, vv11, vs11, told11, seen11, L11, rfl, HSc11, HR11, H11⟩
            clear H10
            have HSame : Hid (Calls Try.prog 13 #[vk11, vk] w11 fun e w' => e = .returned (.bool true) ∧ Hid (HasT t T9 (400 + 2 * (j + 1)) W1 w' (L' ++ []))) := by
              have q1 := (HR11.out w11 (fun p hp => H11.out.heaps p (by simp [hp]))).1
              have q2 := (HR.out w11 (fun p hp => H11.out.heaps p (by simp [hp]))).1
              have q3 := unseen HLo.out.ok H11.out.ok.ok HMv.out hmo1 HSc.out HVa.out
              rw [← HSc11.out.eq] at q3
              have := sameTexts_any _ _ _ _ _ q1 q2
              rw [decide_eq_true q3] at this
              exact this.mono fun e w' ⟨e1, n, e2⟩ => ⟨e1, e2 ▸ Stand.drop (Stand.drewN (treeI_res _ _ _) H11.out n) (fun p hp => List.mem_append_right _ hp)⟩
            go_wp2_with (go_at_call 13; go_must (refine HSame.out.mono ?_; rintro e w12 ⟨rfl, H12⟩))
            go_roundw
            case rel => exact ⟨j + 1, false, T9, by omega, by go_num, rfl, ⟨HMv.out, fun hc => HVa.out⟩, H12⟩
            case measure => simp [intOf]; omega
          · go_wp2_with (go_at_call 11; go_must (refine HLn.out.mono ?_; rintro e w91 ⟨rfl, rfl⟩))
            refine HV.out.mono ?_
            rintro e w10 ⟨rfl, H10⟩
            clear HV
            obtain ⟨c1, c2, c3⟩ := HC.out w10 H10.out.base
            go_wp2_with fail
            refine (H10.out.scanI HMo.out hmo1 hmo2).mono ?_
            rintro e w11 ⟨vk11, vv11, vs11, told11, seen11, L11, rfl, HSc11, HR11, H11⟩
            clear H10
            cases vb with
            | true =>
              have HSame : Hid (Calls Try.prog 13 #[vk11, vk] w11 fun e w' => e = .returned (.bool true) ∧ Hid (HasT t T9 (400 + 2 * (j + 1)) W1 w' (L' ++ []))) := by
                have q1 := (HR11.out w11 (fun p hp => H11.out.heaps p (by simp [hp]))).1
                have q2 := (HR.out w11 (fun p hp => H11.out.heaps p (by simp [hp]))).1
                have q3 := unseen HLo.out.ok H11.out.ok.ok HMv.out hmo1 HSc.out HVa.out
                rw [← HSc11.out.eq] at q3
                have := sameTexts_any _ _ _ _ _ q1 q2
                rw [decide_eq_true q3] at this
                exact this.mono fun e w' ⟨e1, n, e2⟩ => ⟨e1, e2 ▸ Stand.drop (Stand.drewN (treeI_res _ _ _) H11.out n) (fun p hp => List.mem_append_right _ hp)⟩
              go_wp2_with (go_at_call 13; go_must (refine HSame.out.mono ?_; rintro e w12 ⟨rfl, H12⟩))
              go_roundw
              case rel => exact ⟨j + 1, true, T9, by omega, by go_num, by rw [show (n1 != n0) = true by simpa using hnn], ⟨HMv.out, fun hc => by cases hc⟩, H12⟩
              case measure => simp [intOf]; omega
            | false =>
              have H12 : Hid (HasT t T9 (400 + 2 * (j + 1)) W1 w11 (L' ++ [])) := Stand.drop H11.out (fun p hp => List.mem_append_right _ hp)
              go_wp2_with fail
              go_roundw
              case rel => exact ⟨j + 1, true, T9, by omega, by go_num, by rw [show (n1 != n0) = true by simpa using hnn], ⟨HMv.out, fun hc => by cases hc⟩, H12⟩
              case measure => simp [intOf]; omega
    · have HE : Hid (Below w.heap.size w wr) := HB1.out.trans (HI.out.base.mono HB1.out.size)
      by_cases hm : j < m
      · have hlI : (j : Int) < (m : Int) := by omega
        have h200I : ¬ (j : Int) < 100 := by omega
        go_wp2_with fail
        go_ret
        exact ⟨rfl, hp ▸ HE.out⟩
      · have hlI : ¬ (j : Int) < (m : Int) := by omega
        go_wp2_with fail
        go_ret
        exact ⟨rfl, hp ▸ HE.out⟩
end UnseenL

end Go.Proofs.Ytoknebbkpkcomaa
