/- The law TreeMisses: its walk. -/
import Derived.Test.YtoknebbkpkcomaaTGrown
namespace Go.Proofs.Ytoknebbkpkcomaa
open Go.RowKit

theorem GetK.mem {K : List Kv} {k : ByteArray} {v : Int} {b : Bool} (h : GetK K k v b) (hr : Rise K) : b = true ↔ ∃ v, (k, v) ∈ K := by
  rcases h with ⟨h, -, rfl⟩ | ⟨h, rfl⟩
  · exact ⟨(fun e => by cases e), fun ⟨v, hv⟩ => absurd rfl (getK_none.1 h _ hv)⟩
  · exact ⟨fun _ => ⟨v, (getK_some hr).1 h⟩, fun _ => rfl⟩
theorem get_same {T T' : Tr} {a a' : Nat} {k : ByteArray} {v v' : Int} {b b' : Bool} {l : Lf} (h : T.Ok a) (h' : T'.Ok a') (hg : Grew T.ls T.made T'.ls T'.made) (hl : l ∈ T.ls ∧ InR (lst T.ls) k l.least) (hv : validB T'.ls [sn l] = true) (g : GetK T.ks k v b) (g' : GetK T'.ks k v' b') : b' = b := by
  have h1 := g.mem (allK_rise h.ok)
  have h2 := g'.mem (allK_rise h'.ok)
  have h3 := seen_same h.ok h'.ok hg hl.1 (List.mem_singleton.2 rfl) hv hl.2
  have h4 : b' = true ↔ b = true := h2.trans (h3.symm.trans h1.symm)
  cases b <;> cases b' <;> simp_all
theorem slice_one {u : World} {sb : Nat} {s : Sn} (h : u.heap[sb]? = some (snO s)) : SliceAt u (.slice (some ⟨sb, 0, none⟩) 1 1) 3 enSn [s] := by
  refine ⟨_, 1, rfl, Nat.le_refl _, by unfold maxLen; omega, fun _ => ⟨sb, 0, rfl, lt_of h, fun i hi j x hx => ?_⟩⟩
  obtain rfl : i = 0 := by simp at hi; exact hi
  have hj : j < 3 := (List.getElem?_eq_some_iff.1 hx).1
  rw [cell_of h]
  rcases (by omega : j = 0 ∨ j = 1 ∨ j = 2) with rfl | rfl | rfl <;> exact hx

namespace MissesL

set_option maxRecDepth 100000 in
set_option maxHeartbeats 8000000 in
theorem walk (v0 v2 : Value) (L M : List ActV) (key : ByteArray) (w : World) (hL : SliceAt w v0 4 ActV.en L) (hZ : ∀ a ∈ L, a.Ok) (hM : SliceAt w v2 4 ActV.en M) (hY : ∀ a ∈ M, a.Ok) :
    Calls Try.prog 6 #[v0, .string key, v2] w fun e w' => e = .returned (.bool true) ∧ Below w.heap.size w w' := by
  have HWk : Hid (∀ u : World, Calls Try.prog 15 #[] u fun e w' => e = .returned (.bool true) ∧ Below u.heap.size u w') := works_any
  have HGr : Hid (∀ u : World, Below w.heap.size w u → Calls Try.prog 20 #[v0] u fun e w' => ∃ t, e = .returned (.pointer (some ⟨t, 0, none⟩)) ∧ ∃ T, Hid (HasT t T 400 w w' [])) := fun u hu => grown_any v0 L w u hu hL hZ
  obtain ⟨av, cv, rfl, hlc, hcm, hx⟩ := acts_open hM
  unfold maxLen at hcm
  have HX : Hid (∀ u, Below w.heap.size w u → ∀ i, (hi : i < M.length) → ∃ b off, av = some ⟨b, off, none⟩ ∧ u.cell? ⟨b, off + i * 4, none⟩ = some (.int .i64 M[i].kind) ∧ u.cell? ⟨b, off + i * 4 + 1, none⟩ = some (.string M[i].key) ∧ u.cell? ⟨b, off + i * 4 + 2, none⟩ = some (.string M[i].to) ∧ u.cell? ⟨b, off + i * 4 + 3, none⟩ = some (.int .i64 M[i].num)) := hx
  have HZ : Hid (∀ a ∈ M, a.Ok) := hY
  obtain ⟨m, hm⟩ : ∃ m, M.length = m := ⟨_, rfl⟩
  have HM : Hid (M.length = m) := hm
  rw [hm] at hlc ⊢
  clear hx hL hm hZ hM hY
  go_enter Try.func6, Try.ntmps6
  go_wp2_with fail
  refine (HWk.out _).mono ?_
  rintro e w2 ⟨rfl, hb2⟩
  have HB2 : Hid (Below w.heap.size w w2) := hb2
  clear hb2
  go_wp2_with fail
  refine (HGr.out _ HB2.out).mono ?_
  rintro e w3 ⟨t, rfl, T0, H0⟩
  clear HB2 HGr
  obtain ⟨vT, bT, hgT⟩ := getK_ex T0.ks key
  have HGT : Hid (GetK T0.ks key vT bT) := hgT
  have HGc : Hid (Calls Try.prog 22 #[.pointer (some ⟨t, 0, none⟩), .string key] w3 fun x w' => ∃ sb l, x = .returned (.tuple #[.int .i64 vT, .bool bT, .slice (some ⟨sb, 0, none⟩) 1 1]) ∧ Hid (l ∈ T0.ls ∧ InR (lst T0.ls) key l.least) ∧ Hid (HasT t T0 400 w w' ((sb, snO (sn l)) :: []))) := H0.out.get hgT
  clear hgT
  go_wp2_with fail
  refine HGc.out.mono ?_
  rintro e w4 ⟨sb, l0, rfl, Hl, H4⟩
  have HLo : Hid (T0.Ok 400) := H0.out.ok
  clear HGc H0
  have HSm : Hid ((∀ s ∈ [sn l0], 0 ≤ s.1 ∧ s.1 < 1000000) ∧ [sn l0].length ≤ 10000) := ⟨fun s hs => by rw [List.mem_singleton.1 hs]; exact sn_small HLo.out (by omega) Hl.out.1, by simp⟩
  have HVa : Hid (validB T0.ls [sn l0] = true) := valid_now (fun s hs => ⟨l0, Hl.out.1, (List.mem_singleton.1 hs).symm⟩)
  go_wp2_with fail
  go_loopw [11, 12] (fun c i wr => ∃ (j : Nat) (ch : Bool) (T : Tr), j ≤ 100 ∧ i = .int .i64 j ∧ c = .bool ch ∧ Hid (Grew T0.ls T0.made T.ls T.made ∧ (ch = false → validB T.ls [sn l0] = true)) ∧ Hid (HasT t T (400 + 2 * j) w wr [(sb, snO (sn l0))])) (fun _ i _ => 100 - (intOf i).toNat)
  case atStart => exact ⟨0, false, T0, by omega, rfl, rfl, ⟨Grew.refl _ _, fun _ => HVa.out⟩, H4⟩
  case round =>
    clear H4 HVa
    obtain ⟨j, ch, T, hj, rfl, rfl, HG, HI⟩ := hrel
    by_cases hlt : j < m ∧ j < 100
    · obtain ⟨hlt, h200⟩ := hlt
      have hlL : j < M.length := by rw [HM.out]; exact hlt
      obtain ⟨b, off, rfl, t0, t1, -, t3⟩ := HX.out wr (Stand.base HI.out) j hlL
      have hOk := HZ.out _ (List.getElem_mem hlL)
      obtain ⟨k, hk⟩ : ∃ k, M[j].kind = k := ⟨_, rfl⟩
      obtain ⟨x, hx⟩ : ∃ x, M[j].key = x := ⟨_, rfl⟩
      obtain ⟨y, hy⟩ : ∃ y, M[j].num = y := ⟨_, rfl⟩
      have HNm : Hid (Num y) := by rw [← hy]; exact hOk.num
      rw [hk] at t0
      rw [hx] at t1
      rw [hy] at t3
      have hlI : (j : Int) < (m : Int) := by omega
      have h200I : (j : Int) < 100 := by omega
      obtain ⟨r, hr⟩ : ∃ r, k % 2 = r := ⟨_, rfl⟩
      obtain ⟨r4, hr4⟩ : ∃ r4, y % 4 = r4 := ⟨_, rfl⟩
      have HAm : Hid (Calls Try.prog 16 #[.int .i64 k, .int .i64 2] wr fun e w' => e = .returned (.int .i64 r) ∧ w' = wr) := among_to k 2 wr (by omega) (by omega) hr
      have HA4 : Hid (Calls Try.prog 16 #[.int .i64 y, .int .i64 4] wr fun e w' => e = .returned (.int .i64 r4) ∧ w' = wr) := among_to y 4 wr (by omega) (by omega) hr4
      obtain ⟨n0, hn0⟩ : ∃ n0 : Int, (T.ks.length : Int) = n0 := ⟨_, rfl⟩
      have HLn : Hid (Calls Try.prog 11 #[.pointer (some ⟨t, 0, none⟩)] wr fun e w' => e = .returned (.int .i64 n0) ∧ w' = wr) := by rw [← hn0]; exact HI.out.len
      have HN0 : Hid ((T.ks.length : Int) = n0) := hn0
      clear hk hx hy hr hr4 hlL hOk hn0
      go_wp2_with fail
      refine HLn.out.mono ?_
      rintro e w7 ⟨rfl, rfl⟩
      clear HLn
      go_wp2_with fail
      refine HA4.out.mono ?_
      rintro e w71 ⟨rfl, rfl⟩
      go_wp2_with fail
      · refine HAm.out.mono ?_
        rintro e w8 ⟨rfl, rfl⟩
        clear HAm HA4
        go_wp2_with fail
        · obtain ⟨K', was, th, e0, hp⟩ := putK_ex HI.out.ok.few key y
          have HP : Hid (∀ u, Below w8.heap.size w8 u → Calls Try.prog 17 #[.pointer (some ⟨t, 0, none⟩), .string key, .int .i64 y] u fun e w' => e = .returned (.tuple #[.int .i64 was, .bool th, .int .i64 e0]) ∧ ∃ T', Hid (T'.ks = K' ∧ Moves T T' ∧ HasT t T' (400 + 2 * j + 2) w w' [(sb, snO (sn l0))])) := fun u hu => HasT.put (Stand.below (treeI_res _ _ _) HI.out hu) hp HNm.out (by omega)
          clear hp HI
          refine (HP.out _ (Below.refl _ _)).mono ?_
          rintro e w9 ⟨rfl, T9, H9⟩
          have HMv : Hid (Grew T0.ls T0.made T9.ls T9.made) := HG.out.1.trans H9.out.2.1.grew
          obtain ⟨n1, hn1⟩ : ∃ n1 : Int, (T9.ks.length : Int) = n1 := ⟨_, rfl⟩
          have HLn : Hid (Calls Try.prog 11 #[.pointer (some ⟨t, 0, none⟩)] w9 fun e w' => e = .returned (.int .i64 n1) ∧ w' = w9) := by rw [← hn1]; exact H9.out.2.2.len
          obtain ⟨vb, hvb⟩ : ∃ vb, validB T9.ls [sn l0] = vb := ⟨_, rfl⟩
          have HVa : Hid (validB T9.ls [sn l0] = vb) := hvb
          have HV : Hid (Calls Try.prog 21 #[.pointer (some ⟨t, 0, none⟩), .slice (some ⟨sb, 0, none⟩) 1 1] w9 fun e w' => e = .returned (.bool vb) ∧ Hid (HasT t T9 (400 + 2 * (j + 1)) w w' [(sb, snO (sn l0))])) := by
            have := HasT.valid H9.out.2.2 (slice_one (H9.out.2.2.at (List.mem_singleton.2 rfl))) HSm.out.1 HSm.out.2
            rw [hvb] at this
            exact this
          have HCh : Hid (ch = false → n1 = n0 → vb = true) := fun hc hn => by rw [← hvb]; exact H9.out.2.1.still (by have := HN0.out; omega) [sn l0] (HG.out.2 hc)
          clear hvb hn1 H9 HG HN0
          cases ch with
          | true =>
            go_wp2_with (go_at_call 11; go_must (refine HLn.out.mono ?_; rintro e w91 ⟨rfl, rfl⟩))
            refine HV.out.mono ?_
            rintro e w10 ⟨rfl, H10⟩
            clear HV
            obtain ⟨v9, b9, hg9⟩ := getK_ex T9.ks key
            have HB9 : Hid (validB T9.ls [sn l0] = true → b9 = bT) := fun hv => get_same HLo.out H10.out.ok HMv.out Hl.out hv HGT.out hg9
            have HG9 : Hid (Calls Try.prog 22 #[.pointer (some ⟨t, 0, none⟩), .string key] w10 fun x w' => ∃ sb' l, x = .returned (.tuple #[.int .i64 v9, .bool b9, .slice (some ⟨sb', 0, none⟩) 1 1]) ∧ Hid (l ∈ T9.ls ∧ InR (lst T9.ls) key l.least) ∧ Hid (HasT t T9 (400 + 2 * (j + 1)) w w' ((sb', snO (sn l)) :: [(sb, snO (sn l0))]))) := H10.out.get hg9
            clear hg9 H10
            go_wp2_with fail
            refine HG9.out.mono ?_
            rintro e w11 ⟨sb11, l11, rfl, -, H11⟩
            clear HG9
            have H12 : Hid (HasT t T9 (400 + 2 * (j + 1)) w w11 [(sb, snO (sn l0))]) := Stand.drop H11.out (fun p hp => List.mem_cons_of_mem _ hp)
            clear H11
            cases vb with
            | true =>
              obtain rfl := HB9.out HVa.out
              go_wp2_with fail
              go_roundw
              case rel => exact ⟨j + 1, true, T9, by omega, by go_num, rfl, ⟨HMv.out, fun hc => by cases hc⟩, H12⟩
              case measure => simp [intOf]; omega
            | false =>
              go_wp2_with fail
              go_roundw
              case rel => exact ⟨j + 1, true, T9, by omega, by go_num, rfl, ⟨HMv.out, fun hc => by cases hc⟩, H12⟩
              case measure => simp [intOf]; omega
          | false =>
            by_cases hnn : n1 = n0
            · obtain rfl := HCh.out rfl hnn
              subst hnn
              go_wp2_with (go_at_call 11; go_must (refine HLn.out.mono ?_; rintro e w91 ⟨rfl, rfl⟩))
              refine HV.out.mono ?_
              rintro e w10 ⟨rfl, H10⟩
              clear HV
              obtain ⟨v9, b9, hg9⟩ := getK_ex T9.ks key
              have HB9 : Hid (validB T9.ls [sn l0] = true → b9 = bT) := fun hv => get_same HLo.out H10.out.ok HMv.out Hl.out hv HGT.out hg9
              have HG9 : Hid (Calls Try.prog 22 #[.pointer (some ⟨t, 0, none⟩), .string key] w10 fun x w' => ∃ sb' l, x = .returned (.tuple #[.int .i64 v9, .bool b9, .slice (some ⟨sb', 0, none⟩) 1 1]) ∧ Hid (l ∈ T9.ls ∧ InR (lst T9.ls) key l.least) ∧ Hid (HasT t T9 (400 + 2 * (j + 1)) w w' ((sb', snO (sn l)) :: [(sb, snO (sn l0))]))) := H10.out.get hg9
              clear hg9 H10
              go_wp2_with fail
              refine HG9.out.mono ?_
              rintro e w11 ⟨sb11, l11, rfl, -, H11⟩
              clear HG9
              have H12 : Hid (HasT t T9 (400 + 2 * (j + 1)) w w11 [(sb, snO (sn l0))]) := Stand.drop H11.out (fun p hp => List.mem_cons_of_mem _ hp)
              clear H11
              obtain rfl := HB9.out HVa.out
              go_wp2_with fail
              go_roundw
              case rel => exact ⟨j + 1, false, T9, by omega, by go_num, rfl, ⟨HMv.out, fun hc => HVa.out⟩, H12⟩
              case measure => simp [intOf]; omega
            · go_wp2_with (go_at_call 11; go_must (refine HLn.out.mono ?_; rintro e w91 ⟨rfl, rfl⟩))
              refine HV.out.mono ?_
              rintro e w10 ⟨rfl, H10⟩
              clear HV
              obtain ⟨v9, b9, hg9⟩ := getK_ex T9.ks key
              have HB9 : Hid (validB T9.ls [sn l0] = true → b9 = bT) := fun hv => get_same HLo.out H10.out.ok HMv.out Hl.out hv HGT.out hg9
              have HG9 : Hid (Calls Try.prog 22 #[.pointer (some ⟨t, 0, none⟩), .string key] w10 fun x w' => ∃ sb' l, x = .returned (.tuple #[.int .i64 v9, .bool b9, .slice (some ⟨sb', 0, none⟩) 1 1]) ∧ Hid (l ∈ T9.ls ∧ InR (lst T9.ls) key l.least) ∧ Hid (HasT t T9 (400 + 2 * (j + 1)) w w' ((sb', snO (sn l)) :: [(sb, snO (sn l0))]))) := H10.out.get hg9
              clear hg9 H10
              go_wp2_with fail
              refine HG9.out.mono ?_
              rintro e w11 ⟨sb11, l11, rfl, -, H11⟩
              clear HG9
              have H12 : Hid (HasT t T9 (400 + 2 * (j + 1)) w w11 [(sb, snO (sn l0))]) := Stand.drop H11.out (fun p hp => List.mem_cons_of_mem _ hp)
              clear H11
              cases vb with
              | true =>
                obtain rfl := HB9.out HVa.out
                go_wp2_with fail
                go_roundw
                case rel => exact ⟨j + 1, true, T9, by omega, by go_num, by rw [show (n1 != n0) = true by simpa using hnn], ⟨HMv.out, fun hc => by cases hc⟩, H12⟩
                case measure => simp [intOf]; omega
              | false =>
                go_wp2_with fail
                go_roundw
                case rel => exact ⟨j + 1, true, T9, by omega, by go_num, by rw [show (n1 != n0) = true by simpa using hnn], ⟨HMv.out, fun hc => by cases hc⟩, H12⟩
                case measure => simp [intOf]; omega
        · obtain ⟨K', was, e0, hp⟩ := takeK_ex T.ks key
          have HP : Hid (Calls Try.prog 19 #[.pointer (some ⟨t, 0, none⟩), .string key] w8 fun e w' => e = .returned (.tuple #[.int .i64 was, .int .i64 e0]) ∧ ∃ T', Hid (T'.ks = K' ∧ Moves T T' ∧ HasT t T' (400 + 2 * j + 2) w w' [(sb, snO (sn l0))])) := HasT.take HI.out hp (by omega)
          clear hp HI
          refine HP.out.mono ?_
          rintro e w9 ⟨rfl, T9, H9⟩
          have HMv : Hid (Grew T0.ls T0.made T9.ls T9.made) := HG.out.1.trans H9.out.2.1.grew
          obtain ⟨n1, hn1⟩ : ∃ n1 : Int, (T9.ks.length : Int) = n1 := ⟨_, rfl⟩
          have HLn : Hid (Calls Try.prog 11 #[.pointer (some ⟨t, 0, none⟩)] w9 fun e w' => e = .returned (.int .i64 n1) ∧ w' = w9) := by rw [← hn1]; exact H9.out.2.2.len
          obtain ⟨vb, hvb⟩ : ∃ vb, validB T9.ls [sn l0] = vb := ⟨_, rfl⟩
          have HVa : Hid (validB T9.ls [sn l0] = vb) := hvb
          have HV : Hid (Calls Try.prog 21 #[.pointer (some ⟨t, 0, none⟩), .slice (some ⟨sb, 0, none⟩) 1 1] w9 fun e w' => e = .returned (.bool vb) ∧ Hid (HasT t T9 (400 + 2 * (j + 1)) w w' [(sb, snO (sn l0))])) := by
            have := HasT.valid H9.out.2.2 (slice_one (H9.out.2.2.at (List.mem_singleton.2 rfl))) HSm.out.1 HSm.out.2
            rw [hvb] at this
            exact this
          have HCh : Hid (ch = false → n1 = n0 → vb = true) := fun hc hn => by rw [← hvb]; exact H9.out.2.1.still (by have := HN0.out; omega) [sn l0] (HG.out.2 hc)
          clear hvb hn1 H9 HG HN0
          cases ch with
          | true =>
            go_wp2_with (go_at_call 11; go_must (refine HLn.out.mono ?_; rintro e w91 ⟨rfl, rfl⟩))
            refine HV.out.mono ?_
            rintro e w10 ⟨rfl, H10⟩
            clear HV
            obtain ⟨v9, b9, hg9⟩ := getK_ex T9.ks key
            have HB9 : Hid (validB T9.ls [sn l0] = true → b9 = bT) := fun hv => get_same HLo.out H10.out.ok HMv.out Hl.out hv HGT.out hg9
            have HG9 : Hid (Calls Try.prog 22 #[.pointer (some ⟨t, 0, none⟩), .string key] w10 fun x w' => ∃ sb' l, x = .returned (.tuple #[.int .i64 v9, .bool b9, .slice (some ⟨sb', 0, none⟩) 1 1]) ∧ Hid (l ∈ T9.ls ∧ InR (lst T9.ls) key l.least) ∧ Hid (HasT t T9 (400 + 2 * (j + 1)) w w' ((sb', snO (sn l)) :: [(sb, snO (sn l0))]))) := H10.out.get hg9
            clear hg9 H10
            go_wp2_with fail
            refine HG9.out.mono ?_
            rintro e w11 ⟨sb11, l11, rfl, -, H11⟩
            clear HG9
            have H12 : Hid (HasT t T9 (400 + 2 * (j + 1)) w w11 [(sb, snO (sn l0))]) := Stand.drop H11.out (fun p hp => List.mem_cons_of_mem _ hp)
            clear H11
            cases vb with
            | true =>
              obtain rfl := HB9.out HVa.out
              go_wp2_with fail
              go_roundw
              case rel => exact ⟨j + 1, true, T9, by omega, by go_num, rfl, ⟨HMv.out, fun hc => by cases hc⟩, H12⟩
              case measure => simp [intOf]; omega
            | false =>
              go_wp2_with fail
              go_roundw
              case rel => exact ⟨j + 1, true, T9, by omega, by go_num, rfl, ⟨HMv.out, fun hc => by cases hc⟩, H12⟩
              case measure => simp [intOf]; omega
          | false =>
            by_cases hnn : n1 = n0
            · obtain rfl := HCh.out rfl hnn
              subst hnn
              go_wp2_with (go_at_call 11; go_must (refine HLn.out.mono ?_; rintro e w91 ⟨rfl, rfl⟩))
              refine HV.out.mono ?_
              rintro e w10 ⟨rfl, H10⟩
              clear HV
              obtain ⟨v9, b9, hg9⟩ := getK_ex T9.ks key
              have HB9 : Hid (validB T9.ls [sn l0] = true → b9 = bT) := fun hv => get_same HLo.out H10.out.ok HMv.out Hl.out hv HGT.out hg9
              have HG9 : Hid (Calls Try.prog 22 #[.pointer (some ⟨t, 0, none⟩), .string key] w10 fun x w' => ∃ sb' l, x = .returned (.tuple #[.int .i64 v9, .bool b9, .slice (some ⟨sb', 0, none⟩) 1 1]) ∧ Hid (l ∈ T9.ls ∧ InR (lst T9.ls) key l.least) ∧ Hid (HasT t T9 (400 + 2 * (j + 1)) w w' ((sb', snO (sn l)) :: [(sb, snO (sn l0))]))) := H10.out.get hg9
              clear hg9 H10
              go_wp2_with fail
              refine HG9.out.mono ?_
              rintro e w11 ⟨sb11, l11, rfl, -, H11⟩
              clear HG9
              have H12 : Hid (HasT t T9 (400 + 2 * (j + 1)) w w11 [(sb, snO (sn l0))]) := Stand.drop H11.out (fun p hp => List.mem_cons_of_mem _ hp)
              clear H11
              obtain rfl := HB9.out HVa.out
              go_wp2_with fail
              go_roundw
              case rel => exact ⟨j + 1, false, T9, by omega, by go_num, rfl, ⟨HMv.out, fun hc => HVa.out⟩, H12⟩
              case measure => simp [intOf]; omega
            · go_wp2_with (go_at_call 11; go_must (refine HLn.out.mono ?_; rintro e w91 ⟨rfl, rfl⟩))
              refine HV.out.mono ?_
              rintro e w10 ⟨rfl, H10⟩
              clear HV
              obtain ⟨v9, b9, hg9⟩ := getK_ex T9.ks key
              have HB9 : Hid (validB T9.ls [sn l0] = true → b9 = bT) := fun hv => get_same HLo.out H10.out.ok HMv.out Hl.out hv HGT.out hg9
              have HG9 : Hid (Calls Try.prog 22 #[.pointer (some ⟨t, 0, none⟩), .string key] w10 fun x w' => ∃ sb' l, x = .returned (.tuple #[.int .i64 v9, .bool b9, .slice (some ⟨sb', 0, none⟩) 1 1]) ∧ Hid (l ∈ T9.ls ∧ InR (lst T9.ls) key l.least) ∧ Hid (HasT t T9 (400 + 2 * (j + 1)) w w' ((sb', snO (sn l)) :: [(sb, snO (sn l0))]))) := H10.out.get hg9
              clear hg9 H10
              go_wp2_with fail
              refine HG9.out.mono ?_
              rintro e w11 ⟨sb11, l11, rfl, -, H11⟩
              clear HG9
              have H12 : Hid (HasT t T9 (400 + 2 * (j + 1)) w w11 [(sb, snO (sn l0))]) := Stand.drop H11.out (fun p hp => List.mem_cons_of_mem _ hp)
              clear H11
              cases vb with
              | true =>
                obtain rfl := HB9.out HVa.out
                go_wp2_with fail
                go_roundw
                case rel => exact ⟨j + 1, true, T9, by omega, by go_num, by rw [show (n1 != n0) = true by simpa using hnn], ⟨HMv.out, fun hc => by cases hc⟩, H12⟩
                case measure => simp [intOf]; omega
              | false =>
                go_wp2_with fail
                go_roundw
                case rel => exact ⟨j + 1, true, T9, by omega, by go_num, by rw [show (n1 != n0) = true by simpa using hnn], ⟨HMv.out, fun hc => by cases hc⟩, H12⟩
                case measure => simp [intOf]; omega
      · refine HAm.out.mono ?_
        rintro e w8 ⟨rfl, rfl⟩
        clear HAm HA4
        go_wp2_with fail
        · obtain ⟨K', was, th, e0, hp⟩ := putK_ex HI.out.ok.few x y
          have HP : Hid (∀ u, Below w8.heap.size w8 u → Calls Try.prog 17 #[.pointer (some ⟨t, 0, none⟩), .string x, .int .i64 y] u fun e w' => e = .returned (.tuple #[.int .i64 was, .bool th, .int .i64 e0]) ∧ ∃ T', Hid (T'.ks = K' ∧ Moves T T' ∧ HasT t T' (400 + 2 * j + 2) w w' [(sb, snO (sn l0))])) := fun u hu => HasT.put (Stand.below (treeI_res _ _ _) HI.out hu) hp HNm.out (by omega)
          clear hp HI
          refine (HP.out _ (Below.refl _ _)).mono ?_
          rintro e w9 ⟨rfl, T9, H9⟩
          have HMv : Hid (Grew T0.ls T0.made T9.ls T9.made) := HG.out.1.trans H9.out.2.1.grew
          obtain ⟨n1, hn1⟩ : ∃ n1 : Int, (T9.ks.length : Int) = n1 := ⟨_, rfl⟩
          have HLn : Hid (Calls Try.prog 11 #[.pointer (some ⟨t, 0, none⟩)] w9 fun e w' => e = .returned (.int .i64 n1) ∧ w' = w9) := by rw [← hn1]; exact H9.out.2.2.len
          obtain ⟨vb, hvb⟩ : ∃ vb, validB T9.ls [sn l0] = vb := ⟨_, rfl⟩
          have HVa : Hid (validB T9.ls [sn l0] = vb) := hvb
          have HV : Hid (Calls Try.prog 21 #[.pointer (some ⟨t, 0, none⟩), .slice (some ⟨sb, 0, none⟩) 1 1] w9 fun e w' => e = .returned (.bool vb) ∧ Hid (HasT t T9 (400 + 2 * (j + 1)) w w' [(sb, snO (sn l0))])) := by
            have := HasT.valid H9.out.2.2 (slice_one (H9.out.2.2.at (List.mem_singleton.2 rfl))) HSm.out.1 HSm.out.2
            rw [hvb] at this
            exact this
          have HCh : Hid (ch = false → n1 = n0 → vb = true) := fun hc hn => by rw [← hvb]; exact H9.out.2.1.still (by have := HN0.out; omega) [sn l0] (HG.out.2 hc)
          clear hvb hn1 H9 HG HN0
          cases ch with
          | true =>
            go_wp2_with (go_at_call 11; go_must (refine HLn.out.mono ?_; rintro e w91 ⟨rfl, rfl⟩))
            refine HV.out.mono ?_
            rintro e w10 ⟨rfl, H10⟩
            clear HV
            obtain ⟨v9, b9, hg9⟩ := getK_ex T9.ks key
            have HB9 : Hid (validB T9.ls [sn l0] = true → b9 = bT) := fun hv => get_same HLo.out H10.out.ok HMv.out Hl.out hv HGT.out hg9
            have HG9 : Hid (Calls Try.prog 22 #[.pointer (some ⟨t, 0, none⟩), .string key] w10 fun x w' => ∃ sb' l, x = .returned (.tuple #[.int .i64 v9, .bool b9, .slice (some ⟨sb', 0, none⟩) 1 1]) ∧ Hid (l ∈ T9.ls ∧ InR (lst T9.ls) key l.least) ∧ Hid (HasT t T9 (400 + 2 * (j + 1)) w w' ((sb', snO (sn l)) :: [(sb, snO (sn l0))]))) := H10.out.get hg9
            clear hg9 H10
            go_wp2_with fail
            refine HG9.out.mono ?_
            rintro e w11 ⟨sb11, l11, rfl, -, H11⟩
            clear HG9
            have H12 : Hid (HasT t T9 (400 + 2 * (j + 1)) w w11 [(sb, snO (sn l0))]) := Stand.drop H11.out (fun p hp => List.mem_cons_of_mem _ hp)
            clear H11
            cases vb with
            | true =>
              obtain rfl := HB9.out HVa.out
              go_wp2_with fail
              go_roundw
              case rel => exact ⟨j + 1, true, T9, by omega, by go_num, rfl, ⟨HMv.out, fun hc => by cases hc⟩, H12⟩
              case measure => simp [intOf]; omega
            | false =>
              go_wp2_with fail
              go_roundw
              case rel => exact ⟨j + 1, true, T9, by omega, by go_num, rfl, ⟨HMv.out, fun hc => by cases hc⟩, H12⟩
              case measure => simp [intOf]; omega
          | false =>
            by_cases hnn : n1 = n0
            · obtain rfl := HCh.out rfl hnn
              subst hnn
              go_wp2_with (go_at_call 11; go_must (refine HLn.out.mono ?_; rintro e w91 ⟨rfl, rfl⟩))
              refine HV.out.mono ?_
              rintro e w10 ⟨rfl, H10⟩
              clear HV
              obtain ⟨v9, b9, hg9⟩ := getK_ex T9.ks key
              have HB9 : Hid (validB T9.ls [sn l0] = true → b9 = bT) := fun hv => get_same HLo.out H10.out.ok HMv.out Hl.out hv HGT.out hg9
              have HG9 : Hid (Calls Try.prog 22 #[.pointer (some ⟨t, 0, none⟩), .string key] w10 fun x w' => ∃ sb' l, x = .returned (.tuple #[.int .i64 v9, .bool b9, .slice (some ⟨sb', 0, none⟩) 1 1]) ∧ Hid (l ∈ T9.ls ∧ InR (lst T9.ls) key l.least) ∧ Hid (HasT t T9 (400 + 2 * (j + 1)) w w' ((sb', snO (sn l)) :: [(sb, snO (sn l0))]))) := H10.out.get hg9
              clear hg9 H10
              go_wp2_with fail
              refine HG9.out.mono ?_
              rintro e w11 ⟨sb11, l11, rfl, -, H11⟩
              clear HG9
              have H12 : Hid (HasT t T9 (400 + 2 * (j + 1)) w w11 [(sb, snO (sn l0))]) := Stand.drop H11.out (fun p hp => List.mem_cons_of_mem _ hp)
              clear H11
              obtain rfl := HB9.out HVa.out
              go_wp2_with fail
              go_roundw
              case rel => exact ⟨j + 1, false, T9, by omega, by go_num, rfl, ⟨HMv.out, fun hc => HVa.out⟩, H12⟩
              case measure => simp [intOf]; omega
            · go_wp2_with (go_at_call 11; go_must (refine HLn.out.mono ?_; rintro e w91 ⟨rfl, rfl⟩))
              refine HV.out.mono ?_
              rintro e w10 ⟨rfl, H10⟩
              clear HV
              obtain ⟨v9, b9, hg9⟩ := getK_ex T9.ks key
              have HB9 : Hid (validB T9.ls [sn l0] = true → b9 = bT) := fun hv => get_same HLo.out H10.out.ok HMv.out Hl.out hv HGT.out hg9
              have HG9 : Hid (Calls Try.prog 22 #[.pointer (some ⟨t, 0, none⟩), .string key] w10 fun x w' => ∃ sb' l, x = .returned (.tuple #[.int .i64 v9, .bool b9, .slice (some ⟨sb', 0, none⟩) 1 1]) ∧ Hid (l ∈ T9.ls ∧ InR (lst T9.ls) key l.least) ∧ Hid (HasT t T9 (400 + 2 * (j + 1)) w w' ((sb', snO (sn l)) :: [(sb, snO (sn l0))]))) := H10.out.get hg9
              clear hg9 H10
              go_wp2_with fail
              refine HG9.out.mono ?_
              rintro e w11 ⟨sb11, l11, rfl, -, H11⟩
              clear HG9
              have H12 : Hid (HasT t T9 (400 + 2 * (j + 1)) w w11 [(sb, snO (sn l0))]) := Stand.drop H11.out (fun p hp => List.mem_cons_of_mem _ hp)
              clear H11
              cases vb with
              | true =>
                obtain rfl := HB9.out HVa.out
                go_wp2_with fail
                go_roundw
                case rel => exact ⟨j + 1, true, T9, by omega, by go_num, by rw [show (n1 != n0) = true by simpa using hnn], ⟨HMv.out, fun hc => by cases hc⟩, H12⟩
                case measure => simp [intOf]; omega
              | false =>
                go_wp2_with fail
                go_roundw
                case rel => exact ⟨j + 1, true, T9, by omega, by go_num, by rw [show (n1 != n0) = true by simpa using hnn], ⟨HMv.out, fun hc => by cases hc⟩, H12⟩
                case measure => simp [intOf]; omega
        · obtain ⟨K', was, e0, hp⟩ := takeK_ex T.ks x
          have HP : Hid (Calls Try.prog 19 #[.pointer (some ⟨t, 0, none⟩), .string x] w8 fun e w' => e = .returned (.tuple #[.int .i64 was, .int .i64 e0]) ∧ ∃ T', Hid (T'.ks = K' ∧ Moves T T' ∧ HasT t T' (400 + 2 * j + 2) w w' [(sb, snO (sn l0))])) := HasT.take HI.out hp (by omega)
          clear hp HI
          refine HP.out.mono ?_
          rintro e w9 ⟨rfl, T9, H9⟩
          have HMv : Hid (Grew T0.ls T0.made T9.ls T9.made) := HG.out.1.trans H9.out.2.1.grew
          obtain ⟨n1, hn1⟩ : ∃ n1 : Int, (T9.ks.length : Int) = n1 := ⟨_, rfl⟩
          have HLn : Hid (Calls Try.prog 11 #[.pointer (some ⟨t, 0, none⟩)] w9 fun e w' => e = .returned (.int .i64 n1) ∧ w' = w9) := by rw [← hn1]; exact H9.out.2.2.len
          obtain ⟨vb, hvb⟩ : ∃ vb, validB T9.ls [sn l0] = vb := ⟨_, rfl⟩
          have HVa : Hid (validB T9.ls [sn l0] = vb) := hvb
          have HV : Hid (Calls Try.prog 21 #[.pointer (some ⟨t, 0, none⟩), .slice (some ⟨sb, 0, none⟩) 1 1] w9 fun e w' => e = .returned (.bool vb) ∧ Hid (HasT t T9 (400 + 2 * (j + 1)) w w' [(sb, snO (sn l0))])) := by
            have := HasT.valid H9.out.2.2 (slice_one (H9.out.2.2.at (List.mem_singleton.2 rfl))) HSm.out.1 HSm.out.2
            rw [hvb] at this
            exact this
          have HCh : Hid (ch = false → n1 = n0 → vb = true) := fun hc hn => by rw [← hvb]; exact H9.out.2.1.still (by have := HN0.out; omega) [sn l0] (HG.out.2 hc)
          clear hvb hn1 H9 HG HN0
          cases ch with
          | true =>
            go_wp2_with (go_at_call 11; go_must (refine HLn.out.mono ?_; rintro e w91 ⟨rfl, rfl⟩))
            refine HV.out.mono ?_
            rintro e w10 ⟨rfl, H10⟩
            clear HV
            obtain ⟨v9, b9, hg9⟩ := getK_ex T9.ks key
            have HB9 : Hid (validB T9.ls [sn l0] = true → b9 = bT) := fun hv => get_same HLo.out H10.out.ok HMv.out Hl.out hv HGT.out hg9
            have HG9 : Hid (Calls Try.prog 22 #[.pointer (some ⟨t, 0, none⟩), .string key] w10 fun x w' => ∃ sb' l, x = .returned (.tuple #[.int .i64 v9, .bool b9, .slice (some ⟨sb', 0, none⟩) 1 1]) ∧ Hid (l ∈ T9.ls ∧ InR (lst T9.ls) key l.least) ∧ Hid (HasT t T9 (400 + 2 * (j + 1)) w w' ((sb', snO (sn l)) :: [(sb, snO (sn l0))]))) := H10.out.get hg9
            clear hg9 H10
            go_wp2_with fail
            refine HG9.out.mono ?_
            rintro e w11 ⟨sb11, l11, rfl, -, H11⟩
            clear HG9
            have H12 : Hid (HasT t T9 (400 + 2 * (j + 1)) w w11 [(sb, snO (sn l0))]) := Stand.drop H11.out (fun p hp => List.mem_cons_of_mem _ hp)
            clear H11
            cases vb with
            | true =>
              obtain rfl := HB9.out HVa.out
              go_wp2_with fail
              go_roundw
              case rel => exact ⟨j + 1, true, T9, by omega, by go_num, rfl, ⟨HMv.out, fun hc => by cases hc⟩, H12⟩
              case measure => simp [intOf]; omega
            | false =>
              go_wp2_with fail
              go_roundw
              case rel => exact ⟨j + 1, true, T9, by omega, by go_num, rfl, ⟨HMv.out, fun hc => by cases hc⟩, H12⟩
              case measure => simp [intOf]; omega
          | false =>
            by_cases hnn : n1 = n0
            · obtain rfl := HCh.out rfl hnn
              subst hnn
              go_wp2_with (go_at_call 11; go_must (refine HLn.out.mono ?_; rintro e w91 ⟨rfl, rfl⟩))
              refine HV.out.mono ?_
              rintro e w10 ⟨rfl, H10⟩
              clear HV
              obtain ⟨v9, b9, hg9⟩ := getK_ex T9.ks key
              have HB9 : Hid (validB T9.ls [sn l0] = true → b9 = bT) := fun hv => get_same HLo.out H10.out.ok HMv.out Hl.out hv HGT.out hg9
              have HG9 : Hid (Calls Try.prog 22 #[.pointer (some ⟨t, 0, none⟩), .string key] w10 fun x w' => ∃ sb' l, x = .returned (.tuple #[.int .i64 v9, .bool b9, .slice (some ⟨sb', 0, none⟩) 1 1]) ∧ Hid (l ∈ T9.ls ∧ InR (lst T9.ls) key l.least) ∧ Hid (HasT t T9 (400 + 2 * (j + 1)) w w' ((sb', snO (sn l)) :: [(sb, snO (sn l0))]))) := H10.out.get hg9
              clear hg9 H10
              go_wp2_with fail
              refine HG9.out.mono ?_
              rintro e w11 ⟨sb11, l11, rfl, -, H11⟩
              clear HG9
              have H12 : Hid (HasT t T9 (400 + 2 * (j + 1)) w w11 [(sb, snO (sn l0))]) := Stand.drop H11.out (fun p hp => List.mem_cons_of_mem _ hp)
              clear H11
              obtain rfl := HB9.out HVa.out
              go_wp2_with fail
              go_roundw
              case rel => exact ⟨j + 1, false, T9, by omega, by go_num, rfl, ⟨HMv.out, fun hc => HVa.out⟩, H12⟩
              case measure => simp [intOf]; omega
            · go_wp2_with (go_at_call 11; go_must (refine HLn.out.mono ?_; rintro e w91 ⟨rfl, rfl⟩))
              refine HV.out.mono ?_
              rintro e w10 ⟨rfl, H10⟩
              clear HV
              obtain ⟨v9, b9, hg9⟩ := getK_ex T9.ks key
              have HB9 : Hid (validB T9.ls [sn l0] = true → b9 = bT) := fun hv => get_same HLo.out H10.out.ok HMv.out Hl.out hv HGT.out hg9
              have HG9 : Hid (Calls Try.prog 22 #[.pointer (some ⟨t, 0, none⟩), .string key] w10 fun x w' => ∃ sb' l, x = .returned (.tuple #[.int .i64 v9, .bool b9, .slice (some ⟨sb', 0, none⟩) 1 1]) ∧ Hid (l ∈ T9.ls ∧ InR (lst T9.ls) key l.least) ∧ Hid (HasT t T9 (400 + 2 * (j + 1)) w w' ((sb', snO (sn l)) :: [(sb, snO (sn l0))]))) := H10.out.get hg9
              clear hg9 H10
              go_wp2_with fail
              refine HG9.out.mono ?_
              rintro e w11 ⟨sb11, l11, rfl, -, H11⟩
              clear HG9
              have H12 : Hid (HasT t T9 (400 + 2 * (j + 1)) w w11 [(sb, snO (sn l0))]) := Stand.drop H11.out (fun p hp => List.mem_cons_of_mem _ hp)
              clear H11
              cases vb with
              | true =>
                obtain rfl := HB9.out HVa.out
                go_wp2_with fail
                go_roundw
                case rel => exact ⟨j + 1, true, T9, by omega, by go_num, by rw [show (n1 != n0) = true by simpa using hnn], ⟨HMv.out, fun hc => by cases hc⟩, H12⟩
                case measure => simp [intOf]; omega
              | false =>
                go_wp2_with fail
                go_roundw
                case rel => exact ⟨j + 1, true, T9, by omega, by go_num, by rw [show (n1 != n0) = true by simpa using hnn], ⟨HMv.out, fun hc => by cases hc⟩, H12⟩
                case measure => simp [intOf]; omega
    · have HE : Hid (Below w.heap.size w wr) := HI.out.base
      by_cases hm : j < m
      · have hlI : (j : Int) < (m : Int) := by omega
        have h200I : ¬ (j : Int) < 100 := by omega
        go_wp2_with fail
        go_ret
        exact ⟨rfl, HE.out⟩
      · have hlI : ¬ (j : Int) < (m : Int) := by omega
        go_wp2_with fail
        go_ret
        exact ⟨rfl, HE.out⟩
end MissesL

end Go.Proofs.Ytoknebbkpkcomaa
