/- The law NodeHalves: its walk. -/
import Derived.Test.YtnnkflghnapnpaaNHalvesP
namespace Go.Proofs.Ytnnkflghnapnpaa
open Go.RowKit Go.Maps
namespace HalvesL

set_option maxRecDepth 100000 in
set_option maxHeartbeats 16000000 in
theorem walk (v0 : Value) (L : List ByteArray) (add : Int) (w : World) (hL : SliceAt w v0 1 enS L) :
    Calls Try.prog 7 #[v0, .int .i64 add] w fun e w' => e = .returned (.bool true) ∧ Below w.heap.size w w' := by
  obtain ⟨av, cv, rfl, hlc, hcm, hx⟩ := strs_open hL
  unfold maxLen at hcm
  have HX : Hid (∀ u, Below w.heap.size w u → ∀ i, (hi : i < L.length) → ∃ b off, av = some ⟨b, off, none⟩ ∧ u.cell? ⟨b, off + i, none⟩ = some (.string L[i])) := hx
  obtain ⟨m, hm⟩ : ∃ m, L.length = m := ⟨_, rfl⟩
  have HM : Hid (L.length = m) := hm
  rw [hm] at hlc ⊢
  clear hx hL hm
  have HNew : Hid (Calls Try.prog 18 #[] w fun e w' => ∃ g, e = .returned (.pointer (some ⟨g, 0, none⟩)) ∧ Hid (Has g Nd.new w w' [])) := has_new (Below.refl _ _)
  have HWk : Hid (∀ u : World, Calls Try.prog 17 #[] u fun e w' => e = .returned (.bool true) ∧ w' = u) := works_any
  obtain ⟨A, hA⟩ : ∃ A, add % 1000 = A := ⟨_, rfl⟩
  have hA0 : 0 ≤ A := by omega
  have hA1 : A < 1000 := by omega
  have HAm : Hid (∀ u : World, Calls Try.prog 20 #[.int .i64 add, .int .i64 1000] u fun e w' => e = .returned (.int .i64 A) ∧ w' = u) := fun u => hA ▸ among_any add 1000 u (by omega) (by omega)
  have hmm := @run_makeMap Try.prog
  clear hA
  go_enter Try.func7, Try.ntmps7
  go_wp2_with fail
  refine HNew.out.mono ?_
  rintro e w1 ⟨g, rfl, H1⟩
  clear HNew
  go_wp2_with fail
  refine (HWk.out _).mono ?_
  rintro e w2 ⟨rfl, rfl⟩
  have HC0 : Hid (Cnt Nd.new 0) := (by decide : (0 : Int) ≤ 0 ∧ (0 : Int) ≤ 8 * ((0 : Nat) : Int) ∧ (0 : Int) ≤ 0 ∧ (0 : Int) ≤ ((0 : Nat) : Int))
  go_wp2_with fail
  go_loopw [6] (fun i wr => ∃ (j : Nat) (n : Nd), j ≤ 40 ∧ i = .int .i64 j ∧ Hid (Cnt n j) ∧ Hid (Has g n w wr [])) (fun i _ => 40 - (intOf i).toNat)
  case atStart => exact ⟨0, Nd.new, by omega, rfl, HC0, H1⟩
  case round =>
    clear HC0 H1
    obtain ⟨j, n, hj, rfl, HC, HI⟩ := hrel
    have HCI : Hid ((0 ≤ n.ins ∧ n.ins < 900000) ∧ (0 ≤ n.spl ∧ n.spl < 900000)) := by
      obtain ⟨c1, c2, c3, c4⟩ := HC.out
      exact ⟨⟨c1, by omega⟩, ⟨c3, by omega⟩⟩
    by_cases hlt : j < m ∧ j < 40
    · obtain ⟨hlt, h40⟩ := hlt
      have hlL : j < L.length := by rw [HM.out]; exact hlt
      obtain ⟨b, off, rfl, t0⟩ := HX.out wr (Stand.base HI.out) j hlL
      obtain ⟨x, hx⟩ : ∃ x, L[j] = x := ⟨_, rfl⟩
      rw [hx] at t0
      have hlI : (j : Int) < (m : Int) := by omega
      have h40I : (j : Int) < 40 := by omega
      obtain ⟨V, hV⟩ : ∃ V, (j : Int) + A = V := ⟨_, rfl⟩
      have hV2 : IntKind.i64.wrap V = V := by rw [IntKind.wrap_i64]; omega
      obtain ⟨n', was, th, e0, hp⟩ := puts_ex HI.out.ok x V
      have HC' : Hid (Cnt n' (j + 1)) := hp.stp.cnt HC.out
      have HP : Hid (∀ W, (∃ q, W = wr.drewN q) → Calls Try.prog 21 #[.pointer (some ⟨g, 0, none⟩), .string x, .int .i64 V] W fun e w' => e = .returned (.tuple #[.int .i64 was, .bool th, .int .i64 e0]) ∧ Hid (Has g n' w w' [])) := by
        rintro W ⟨q, rfl⟩
        exact Stand.put (Stand.drewN (nodeI_res _ _) HI.out q) hp (by unfold Num; omega) HCI.out.1
      clear hp hx hlL HC HI
      go_wp2_with fail
      go_region_with (first
        | (go_at_call 20; go_must (refine (HAm.out _).mono ?_; rintro e w3 ⟨rfl, rfl⟩))
        | (go_at_call 21; go_must (refine (HP.out _ ?_).mono ?_; exact ⟨1, rfl⟩; rintro e w4 ⟨rfl, H4⟩)))
      all_goals (go_wp2_with fail; go_roundw; (case rel => exact ⟨j + 1, n', by omega, by go_num, HC', H4⟩); (case measure => simp [intOf]; omega))
    · clear HAm HX HM hlc hcm
      by_cases h1 : j < m
      · have h40 : ¬ ((j : Int) < 40) := by omega
        have h1I : (j : Int) < (m : Int) := by omega
        clear h1 hlt
        go_wp2_with fail
        refine (HI.out.keys).mono ?_
        rintro e w3 ⟨kb, rfl, H3⟩
        have hokn := H3.out.ok
        have hkl : n.keys.length = n.ks.length := by simp [Nd.keys]
        obtain ⟨N, hN⟩ : ∃ N, n.ks.length = N := ⟨_, rfl⟩
        have hN15 : N ≤ 15 := by have := hokn.few; omega
        have HN : Hid (n.ks.length = N ∧ n.keys.length = N) := ⟨hN, by omega⟩
        have HOk : Hid n.Ok := hokn
        have H4 : Hid (Has g n w (w3.alloc (.map #[] 0)) [(w3.heap.size, .map #[] 0), (kb, textsO n.keys)]) := Stand.alloc (nodeI_res _ _) H3.out (.map #[] 0)
        have HM0 : Hid (MapO w3.heap.size (.map #[] 0) 0 (n.ks.take 0)) := by
          rw [List.take_zero]
          exact ⟨_, heap_new w3 _, mapIs_made w3⟩
        obtain ⟨mb, hmb⟩ : ∃ mb, w3.heap.size = mb := ⟨_, rfl⟩
        rw [hmb] at H4 HM0
        have HKM : Hid (kb ≠ mb) := by
          have := (Stand.lt H3.out (b := kb) (o := textsO n.keys) (by simp)).2
          show _ ≠ _
          omega
        rw [hkl, hN]
        clear hokn hkl hN HI H3
        go_wp2_with fail
        try rw [hmb]
        clear hmb
        go_loopw [56] (fun i wr => ∃ (y : Nat) (O : Obj), y ≤ N ∧ i = .int .i64 y ∧ Hid (MapO mb O y (n.ks.take y)) ∧ Hid (Has g n w wr [(mb, O), (kb, textsO n.keys)])) (fun i _ => N - (intOf i).toNat)
        case atStart => exact ⟨0, _, Nat.zero_le _, rfl, HM0, H4⟩
        case round =>
          clear HM0 H4
          obtain ⟨y, O, hy, rfl, HO, HQ⟩ := hrel
          by_cases hyl : y < N
          · have hyI : (y : Int) < (N : Int) := by omega
            obtain ⟨⟨kk, vv⟩, hkv⟩ : ∃ p, n.ks[y]? = some p := ⟨_, List.getElem?_eq_getElem (by rw [HN.out.1]; exact hyl)⟩
            have hmem := List.mem_of_getElem? hkv
            have HKs : Hid (kk.size ≤ maxLen) := by
              have := HOk.out.short _ hmem
              show _ ≤ _
              unfold maxLen
              dsimp only at this
              omega
            have HNm : Hid (Num vv) := HOk.out.nums _ hmem
            have HPL : Hid (PutL (n.ks.take y) (n.ks.take (y + 1)) kk vv) := take_putL HOk.out hkv
            have c0 : wr.cell? ⟨kb, y, none⟩ = some (.string kk) := by
              rw [cell_of (Stand.at HQ.out (b := kb) (o := textsO n.keys) (by simp)), List.getElem?_toArray]
              refine scells_get ?_
              unfold Nd.keys
              rw [List.getElem?_map, hkv]
              rfl
            have HGt : Hid (Calls Try.prog 23 #[.pointer (some ⟨g, 0, none⟩), .string kk] wr fun e w' => e = .returned (.tuple #[.int .i64 vv, .bool true]) ∧ Hid (Has g n w w' [(mb, O), (kb, textsO n.keys)])) := (HQ.out.get (.some y vv hkv)).mono fun e w' ⟨h1, h2, _⟩ => ⟨h1, h2⟩
            clear hkv hmem HQ
            go_wp2_with (first
              | (go_at_call 23; go_must (refine HGt.out.mono ?_; rintro e w6 ⟨rfl, H6⟩; have HMi : Hid (MapIs w6 mb y (n.ks.take y)) := HO.out.is (Stand.at H6.out (by simp))))
              | (refine wpList_putS rfl _ _ _ rfl rfl HMi.out (by omega) rfl HKs.out rfl HNm.out HPL.out ?_; intro wt k1 k2; have K1 : Hid (MapIs wt mb (y + 1) (n.ks.take (y + 1))) := k1; have K2 : Hid (Turn (fun i => i = mb) w6 wt) := k2; clear k1 k2))
            obtain ⟨O2, hO2, hO3⟩ := K1.out.obj
            have HO2 : Hid (MapO mb O2 (y + 1) (n.ks.take (y + 1))) := hO3
            have HT : Hid (Has g n w wt [(mb, O2), (kb, textsO n.keys)]) := Stand.write (nodeI_res _ _) H6.out (b := mb) (o := O) (by simp) K2.out hO2 _ (by
              intro p hp
              rcases List.mem_cons.1 hp with rfl | hp
              · exact Or.inr rfl
              · rw [List.mem_singleton.1 hp]
                exact Or.inl ⟨by simp, HKM.out⟩)
            clear hO2 hO3 K1 K2 H6 HMi HPL c0 HGt
            go_wp2_with fail
            go_roundw
            case rel => exact ⟨y + 1, O2, by omega, by go_num, HO2, HT⟩
            case measure => simp [intOf]; omega
          · have hyI : ¬ (y : Int) < (N : Int) := by omega
            obtain rfl : y = N := by omega
            have HOm : Hid (MapO mb O y n.ks) := by
              have := HO.out
              rw [List.take_of_length_le (by rw [HN.out.1]; exact Nat.le_refl _)] at this
              exact this
            by_cases hfew : y < 2
            · have hyI2 : (y : Int) < 2 := by omega
              have HSp : Hid (Calls Try.prog 27 #[.pointer (some ⟨g, 0, none⟩)] wr fun e w' => e = .returned (.tuple #[.pointer none, .string ⟨#[]⟩, .int .i64 4]) ∧ Hid (Has g n w w' [(mb, O), (kb, textsO n.keys)])) := (HQ.out.splitFew (by rw [HN.out.1]; exact hfew)).mono fun e w' ⟨h1, h2⟩ => ⟨h1, h2 ▸ HQ⟩
              clear HQ hfew
              go_wp2_with fail
              refine HSp.out.mono ?_
              rintro e w6 ⟨rfl, H6⟩
              go_wp2_with fail
              refine (H6.out.keys).mono ?_
              rintro e w7 ⟨kc, rfl, H7⟩
              have hK15 : n.keys.length ≤ 1000 := by rw [HN.out.2]; omega
              have HSm : Hid (Calls Try.prog 33 #[.slice (some ⟨kc, 0, none⟩) y y, .slice (some ⟨kb, 0, none⟩) y y] w7 fun e w' => e = .returned (.bool true) ∧ Below w.heap.size w w') := by
                have t1 := H7.out.texts (b := kc) (K := n.keys) (by simp) hK15
                have t2 := H7.out.texts (b := kb) (K := n.keys) (by simp) hK15
                rw [HN.out.2] at t1 t2
                refine (sameTexts_any _ _ _ _ _ t1 t2).mono fun e w' ⟨he, m9, hw⟩ => ⟨by rw [he, decide_eq_true rfl], ?_⟩
                rw [hw]
                exact (Stand.base H7.out).trans ((below_drewN w7 m9).mono (Stand.base H7.out).size)
              rw [HN.out.2]
              clear hK15
              go_wp2_with (go_at_call 33; go_must (refine HSm.out.mono ?_; rintro e w8 ⟨rfl, hb8⟩))
              go_ret
              exact ⟨rfl, hb8⟩
            · have HSp : Hid (Calls Try.prog 27 #[.pointer (some ⟨g, 0, none⟩)] wr fun x w' => ∃ (q : Nat) (p : Kv), Hid (n.ks[n.stay]? = some p) ∧ x = .returned (.tuple #[.pointer (some ⟨q, 0, none⟩), .string p.1, .int .i64 0]) ∧ Hid (Two g n.left q n.right w w' [(mb, O), (kb, textsO n.keys)])) := HQ.out.splitOk (by rw [HN.out.1]; omega) HCI.out.1 HCI.out.2
              clear HQ
              go_wp2_with fail
              refine HSp.out.mono ?_
              rintro e w6 ⟨q, p, HPf, rfl, H6⟩
              obtain ⟨k0, hk0⟩ : ∃ k0, p.1 = k0 := ⟨_, rfl⟩
              have HF0 : Hid (n.right.keys[0]? = some k0) := by rw [← hk0]; exact right_first HPf.out
              rw [hk0]
              clear HSp hk0
              go_wp2_with fail
              refine (Two.keysL H6.out).mono ?_
              rintro e w7 ⟨lb, rfl, H7⟩
              clear H6
              go_wp2_with fail
              refine (Two.keysR H7.out).mono ?_
              rintro e w8 ⟨rb, rfl, H8⟩
              clear H7
              obtain ⟨S, hS⟩ : ∃ S, n.stay = S := ⟨_, rfl⟩
              obtain ⟨Z, hZ⟩ : ∃ Z, y / 2 = Z := ⟨_, rfl⟩
              have hSZ : S + Z = y := by rw [← hS, ← hZ]; unfold Nd.stay; rw [HN.out.1]; omega
              have HSZ : Hid (n.stay = S ∧ n.left.keys.length = S ∧ n.right.keys.length = Z) := ⟨hS, by rw [left_len, hS], by rw [right_len, HN.out.1, hZ]⟩
              rw [HSZ.out.2.1, HSZ.out.2.2]
              have hZ0 : ((Z : Int) == 0) = false := by rw [beq_eq_false_iff_ne]; omega
              have hZ1 : ¬ (Z : Int) = 0 := by omega
              have hZp : (0 : Int) < (Z : Int) := by omega
              have r0 : w8.cell? ⟨rb, 0, none⟩ = some (.string k0) := by
                rw [cell_of (Stand.at H8.out (b := rb) (o := textsO n.right.keys) (by simp)), List.getElem?_toArray]
                exact scells_get HF0.out
              have HTl : Hid (∀ u, Below w8.heap.size w8 u → TextsAt u lb n.left.keys) := fun u hb => (hb.block lb (Stand.lt H8.out (b := lb) (o := textsO n.left.keys) (by simp)).2).trans (Stand.at H8.out (b := lb) (o := textsO n.left.keys) (by simp))
              have HTr : Hid (∀ u, Below w8.heap.size w8 u → TextsAt u rb n.right.keys) := fun u hb => (hb.block rb (Stand.lt H8.out (b := rb) (o := textsO n.right.keys) (by simp)).2).trans (Stand.at H8.out (b := rb) (o := textsO n.right.keys) (by simp))
              have HR0 : Hid ((w8.alloc (.cells #[] 9 (0, 0))).ownsRow w8.heap.size 9 1 (.slice (some ⟨w8.heap.size, 0, none⟩) 0 0) ([] : List ByteArray).length (scells [])) := row_empty w8 9 1
              have HB0 : Hid (Below w8.heap.size w8 (w8.alloc (.cells #[] 9 (0, 0)))) := (Below.refl _ _).alloc (Nat.le_refl _) _
              have HSm : Hid (∀ u v, Below w8.heap.size w8 u → u.ownsRow w8.heap.size 9 1 v (([] ++ n.left.keys) ++ n.right.keys).length (scells (([] ++ n.left.keys) ++ n.right.keys)) → Calls Try.prog 33 #[v, .slice (some ⟨kb, 0, none⟩) y y] u fun e w' => e = .returned (.bool true) ∧ Hid (Two g n.left q n.right w w' [(mb, O), (kb, textsO n.keys)])) := fun u v hb hr => by
                have h9 := Stand.below (pair_res _ _ _ _) H8.out hb
                have t1 := row_texts hr
                rw [List.nil_append, halves_keys] at t1
                have t2 := Stand.texts h9 (b := kb) (K := n.keys) (by simp) (by rw [HN.out.2]; omega)
                rw [HN.out.2] at t2
                refine (sameTexts_any _ _ _ _ _ t1 t2).mono fun e w' ⟨he, m9, hw⟩ => ⟨by rw [he, decide_eq_true rfl], ?_⟩
                rw [hw]
                exact Stand.drop (Stand.drewN (pair_res _ _ _ _) h9 m9) (by
                  intro p hp
                  simp only [List.mem_cons] at hp ⊢
                  exact Or.inr (Or.inr hp))
              obtain ⟨D, hD⟩ : ∃ D, (S : Int) - (Z : Int) = D := ⟨_, rfl⟩
              have hD01 : D = 0 ∨ D = 1 := by omega
              have HLs : Hid (([] : List ByteArray).length + n.left.keys.length ≤ 1000 ∧ ([] ++ n.left.keys).length + n.right.keys.length ≤ 1000) := by
                rw [List.nil_append, HSZ.out.2.1, HSZ.out.2.2]
                refine ⟨?_, by omega⟩
                show 0 + S ≤ 1000
                omega
              have hs8 : w8.heap.size ≤ (w8.alloc (.cells #[] 9 (0, 0))).heap.size := by simp
              have HS8 : Hid (w8.heap.size ≤ (w8.alloc (.cells #[] 9 (0, 0))).heap.size) := hs8
              clear hs8 hS hZ H8 HF0
              rcases hD01 with rfl | rfl
              all_goals
                go_wp2_with (first
                  | (refine wpList_appS rfl _ _ rfl rfl HR0.out rfl HSZ.out.2.1 (HTl.out _ HB0.out) HLs.out.1 HS8.out ?_; intro v10 w10 r10 b10; have R10 : Hid (w10.ownsRow w8.heap.size 9 1 v10 ([] ++ n.left.keys).length (scells ([] ++ n.left.keys))) := r10; have B10 : Hid (Below w8.heap.size w8 w10) := HB0.out.trans b10; clear r10 b10)
                  | (refine wpList_appS rfl _ _ rfl rfl R10.out rfl HSZ.out.2.2 (HTr.out _ B10.out) HLs.out.2 B10.out.size ?_; intro v11 w11 r11 b11; have HSm2 : Hid (Calls Try.prog 33 #[v11, .slice (some ⟨kb, 0, none⟩) y y] w11 fun e w' => e = .returned (.bool true) ∧ Hid (Two g n.left q n.right w w' [(mb, O), (kb, textsO n.keys)])) := HSm.out w11 v11 (B10.out.trans b11) r11; clear r11 b11)
                  | (go_at_call 33; go_must (refine HSm2.out.mono ?_; rintro e w12 ⟨rfl, H12⟩)))
                clear HR0 HB0 HSm HSm2 R10 B10 HTl HTr HLs HS8 r0
                go_loopw [141] (fun i wr => ∃ y' : Nat, y' ≤ y ∧ i = .int .i64 y' ∧ Hid (Two g n.left q n.right w wr [(mb, O), (kb, textsO n.keys)])) (fun i _ => y - (intOf i).toNat)
                case atStart => exact ⟨0, Nat.zero_le _, rfl, H12⟩
                case round =>
                  clear H12
                  obtain ⟨z, hz, rfl, HQ⟩ := hrel
                  by_cases hzl : z < y
                  · have hzI : (z : Int) < (y : Int) := by omega
                    obtain ⟨⟨kk, vv⟩, hkv⟩ : ∃ p, n.ks[z]? = some p := ⟨_, List.getElem?_eq_getElem (by rw [HN.out.1]; exact hzl)⟩
                    have hmem := List.mem_of_getElem? hkv
                    have HMem : Hid ((kk, vv) ∈ n.ks) := hmem
                    have HKs : Hid (kk.size ≤ maxLen) := by
                      have := HOk.out.short _ hmem
                      show _ ≤ _
                      unfold maxLen
                      dsimp only at this
                      omega
                    obtain ⟨v1, v2⟩ : Num vv := HOk.out.nums _ hmem
                    have c0 : wr.cell? ⟨kb, z, none⟩ = some (.string kk) := by
                      rw [cell_of (Stand.at HQ.out (b := kb) (o := textsO n.keys) (by simp)), List.getElem?_toArray]
                      refine scells_get ?_
                      unfold Nd.keys
                      rw [List.getElem?_map, hkv]
                      rfl
                    by_cases hzs : z < S
                    · have hg2 := left_gets HOk.out hkv (by rw [HSZ.out.1]; exact hzs)
                      have HG : Hid (GetsTo n.left kk vv true ∧ GetsTo n.right kk 0 false) := hg2
                      clear hg2 hkv hmem
                      go_wp2_with fail
                      refine (Two.getL HQ.out HG.out.1).mono ?_
                      rintro e w13 ⟨rfl, H13⟩
                      go_wp2_with fail
                      refine (Two.getR H13.out HG.out.2).mono ?_
                      rintro e w14 ⟨rfl, H14⟩
                      have HMi : Hid (MapIs w14 mb y n.ks) := HOm.out.is (Stand.at H14.out (by simp))
                      clear HQ H13
                      go_wp2_with (refine wpList_look1 rfl _ _ rfl rfl HMi.out rfl HKs.out HMem.out ?_)
                      go_roundw
                      case rel => exact ⟨z + 1, by omega, by go_num, H14⟩
                      case measure => simp [intOf]; omega
                    · have hg2 := right_gets HOk.out hkv (by rw [HSZ.out.1]; exact hzs)
                      have HG : Hid (GetsTo n.left kk 0 false ∧ GetsTo n.right kk vv true) := hg2
                      clear hg2 hkv hmem
                      go_wp2_with fail
                      refine (Two.getL HQ.out HG.out.1).mono ?_
                      rintro e w13 ⟨rfl, H13⟩
                      go_wp2_with fail
                      refine (Two.getR H13.out HG.out.2).mono ?_
                      rintro e w14 ⟨rfl, H14⟩
                      have HMi : Hid (MapIs w14 mb y n.ks) := HOm.out.is (Stand.at H14.out (by simp))
                      clear HQ H13
                      go_wp2_with (refine wpList_look1 rfl _ _ rfl rfl HMi.out rfl HKs.out HMem.out ?_)
                      go_roundw
                      case rel => exact ⟨z + 1, by omega, by go_num, H14⟩
                      case measure => simp [intOf]; omega
                  · have hzI : ¬ (z : Int) < (y : Int) := by omega
                    go_wp2_with fail
                    go_ret
                    exact ⟨rfl, Stand.base HQ.out⟩
      · have h1I : ¬ ((j : Int) < (m : Int)) := by omega
        clear h1 hlt
        go_wp2_with fail
        refine (HI.out.keys).mono ?_
        rintro e w3 ⟨kb, rfl, H3⟩
        have hokn := H3.out.ok
        have hkl : n.keys.length = n.ks.length := by simp [Nd.keys]
        obtain ⟨N, hN⟩ : ∃ N, n.ks.length = N := ⟨_, rfl⟩
        have hN15 : N ≤ 15 := by have := hokn.few; omega
        have HN : Hid (n.ks.length = N ∧ n.keys.length = N) := ⟨hN, by omega⟩
        have HOk : Hid n.Ok := hokn
        have H4 : Hid (Has g n w (w3.alloc (.map #[] 0)) [(w3.heap.size, .map #[] 0), (kb, textsO n.keys)]) := Stand.alloc (nodeI_res _ _) H3.out (.map #[] 0)
        have HM0 : Hid (MapO w3.heap.size (.map #[] 0) 0 (n.ks.take 0)) := by
          rw [List.take_zero]
          exact ⟨_, heap_new w3 _, mapIs_made w3⟩
        obtain ⟨mb, hmb⟩ : ∃ mb, w3.heap.size = mb := ⟨_, rfl⟩
        rw [hmb] at H4 HM0
        have HKM : Hid (kb ≠ mb) := by
          have := (Stand.lt H3.out (b := kb) (o := textsO n.keys) (by simp)).2
          show _ ≠ _
          omega
        rw [hkl, hN]
        clear hokn hkl hN HI H3
        go_wp2_with fail
        try rw [hmb]
        clear hmb
        go_loopw [56] (fun i wr => ∃ (y : Nat) (O : Obj), y ≤ N ∧ i = .int .i64 y ∧ Hid (MapO mb O y (n.ks.take y)) ∧ Hid (Has g n w wr [(mb, O), (kb, textsO n.keys)])) (fun i _ => N - (intOf i).toNat)
        case atStart => exact ⟨0, _, Nat.zero_le _, rfl, HM0, H4⟩
        case round =>
          clear HM0 H4
          obtain ⟨y, O, hy, rfl, HO, HQ⟩ := hrel
          by_cases hyl : y < N
          · have hyI : (y : Int) < (N : Int) := by omega
            obtain ⟨⟨kk, vv⟩, hkv⟩ : ∃ p, n.ks[y]? = some p := ⟨_, List.getElem?_eq_getElem (by rw [HN.out.1]; exact hyl)⟩
            have hmem := List.mem_of_getElem? hkv
            have HKs : Hid (kk.size ≤ maxLen) := by
              have := HOk.out.short _ hmem
              show _ ≤ _
              unfold maxLen
              dsimp only at this
              omega
            have HNm : Hid (Num vv) := HOk.out.nums _ hmem
            have HPL : Hid (PutL (n.ks.take y) (n.ks.take (y + 1)) kk vv) := take_putL HOk.out hkv
            have c0 : wr.cell? ⟨kb, y, none⟩ = some (.string kk) := by
              rw [cell_of (Stand.at HQ.out (b := kb) (o := textsO n.keys) (by simp)), List.getElem?_toArray]
              refine scells_get ?_
              unfold Nd.keys
              rw [List.getElem?_map, hkv]
              rfl
            have HGt : Hid (Calls Try.prog 23 #[.pointer (some ⟨g, 0, none⟩), .string kk] wr fun e w' => e = .returned (.tuple #[.int .i64 vv, .bool true]) ∧ Hid (Has g n w w' [(mb, O), (kb, textsO n.keys)])) := (HQ.out.get (.some y vv hkv)).mono fun e w' ⟨h1, h2, _⟩ => ⟨h1, h2⟩
            clear hkv hmem HQ
            go_wp2_with (first
              | (go_at_call 23; go_must (refine HGt.out.mono ?_; rintro e w6 ⟨rfl, H6⟩; have HMi : Hid (MapIs w6 mb y (n.ks.take y)) := HO.out.is (Stand.at H6.out (by simp))))
              | (refine wpList_putS rfl _ _ _ rfl rfl HMi.out (by omega) rfl HKs.out rfl HNm.out HPL.out ?_; intro wt k1 k2; have K1 : Hid (MapIs wt mb (y + 1) (n.ks.take (y + 1))) := k1; have K2 : Hid (Turn (fun i => i = mb) w6 wt) := k2; clear k1 k2))
            obtain ⟨O2, hO2, hO3⟩ := K1.out.obj
            have HO2 : Hid (MapO mb O2 (y + 1) (n.ks.take (y + 1))) := hO3
            have HT : Hid (Has g n w wt [(mb, O2), (kb, textsO n.keys)]) := Stand.write (nodeI_res _ _) H6.out (b := mb) (o := O) (by simp) K2.out hO2 _ (by
              intro p hp
              rcases List.mem_cons.1 hp with rfl | hp
              · exact Or.inr rfl
              · rw [List.mem_singleton.1 hp]
                exact Or.inl ⟨by simp, HKM.out⟩)
            clear hO2 hO3 K1 K2 H6 HMi HPL c0 HGt
            go_wp2_with fail
            go_roundw
            case rel => exact ⟨y + 1, O2, by omega, by go_num, HO2, HT⟩
            case measure => simp [intOf]; omega
          · have hyI : ¬ (y : Int) < (N : Int) := by omega
            obtain rfl : y = N := by omega
            have HOm : Hid (MapO mb O y n.ks) := by
              have := HO.out
              rw [List.take_of_length_le (by rw [HN.out.1]; exact Nat.le_refl _)] at this
              exact this
            by_cases hfew : y < 2
            · have hyI2 : (y : Int) < 2 := by omega
              have HSp : Hid (Calls Try.prog 27 #[.pointer (some ⟨g, 0, none⟩)] wr fun e w' => e = .returned (.tuple #[.pointer none, .string ⟨#[]⟩, .int .i64 4]) ∧ Hid (Has g n w w' [(mb, O), (kb, textsO n.keys)])) := (HQ.out.splitFew (by rw [HN.out.1]; exact hfew)).mono fun e w' ⟨h1, h2⟩ => ⟨h1, h2 ▸ HQ⟩
              clear HQ hfew
              go_wp2_with fail
              refine HSp.out.mono ?_
              rintro e w6 ⟨rfl, H6⟩
              go_wp2_with fail
              refine (H6.out.keys).mono ?_
              rintro e w7 ⟨kc, rfl, H7⟩
              have hK15 : n.keys.length ≤ 1000 := by rw [HN.out.2]; omega
              have HSm : Hid (Calls Try.prog 33 #[.slice (some ⟨kc, 0, none⟩) y y, .slice (some ⟨kb, 0, none⟩) y y] w7 fun e w' => e = .returned (.bool true) ∧ Below w.heap.size w w') := by
                have t1 := H7.out.texts (b := kc) (K := n.keys) (by simp) hK15
                have t2 := H7.out.texts (b := kb) (K := n.keys) (by simp) hK15
                rw [HN.out.2] at t1 t2
                refine (sameTexts_any _ _ _ _ _ t1 t2).mono fun e w' ⟨he, m9, hw⟩ => ⟨by rw [he, decide_eq_true rfl], ?_⟩
                rw [hw]
                exact (Stand.base H7.out).trans ((below_drewN w7 m9).mono (Stand.base H7.out).size)
              rw [HN.out.2]
              clear hK15
              go_wp2_with (go_at_call 33; go_must (refine HSm.out.mono ?_; rintro e w8 ⟨rfl, hb8⟩))
              go_ret
              exact ⟨rfl, hb8⟩
            · have HSp : Hid (Calls Try.prog 27 #[.pointer (some ⟨g, 0, none⟩)] wr fun x w' => ∃ (q : Nat) (p : Kv), Hid (n.ks[n.stay]? = some p) ∧ x = .returned (.tuple #[.pointer (some ⟨q, 0, none⟩), .string p.1, .int .i64 0]) ∧ Hid (Two g n.left q n.right w w' [(mb, O), (kb, textsO n.keys)])) := HQ.out.splitOk (by rw [HN.out.1]; omega) HCI.out.1 HCI.out.2
              clear HQ
              go_wp2_with fail
              refine HSp.out.mono ?_
              rintro e w6 ⟨q, p, HPf, rfl, H6⟩
              obtain ⟨k0, hk0⟩ : ∃ k0, p.1 = k0 := ⟨_, rfl⟩
              have HF0 : Hid (n.right.keys[0]? = some k0) := by rw [← hk0]; exact right_first HPf.out
              rw [hk0]
              clear HSp hk0
              go_wp2_with fail
              refine (Two.keysL H6.out).mono ?_
              rintro e w7 ⟨lb, rfl, H7⟩
              clear H6
              go_wp2_with fail
              refine (Two.keysR H7.out).mono ?_
              rintro e w8 ⟨rb, rfl, H8⟩
              clear H7
              obtain ⟨S, hS⟩ : ∃ S, n.stay = S := ⟨_, rfl⟩
              obtain ⟨Z, hZ⟩ : ∃ Z, y / 2 = Z := ⟨_, rfl⟩
              have hSZ : S + Z = y := by rw [← hS, ← hZ]; unfold Nd.stay; rw [HN.out.1]; omega
              have HSZ : Hid (n.stay = S ∧ n.left.keys.length = S ∧ n.right.keys.length = Z) := ⟨hS, by rw [left_len, hS], by rw [right_len, HN.out.1, hZ]⟩
              rw [HSZ.out.2.1, HSZ.out.2.2]
              have hZ0 : ((Z : Int) == 0) = false := by rw [beq_eq_false_iff_ne]; omega
              have hZ1 : ¬ (Z : Int) = 0 := by omega
              have hZp : (0 : Int) < (Z : Int) := by omega
              have r0 : w8.cell? ⟨rb, 0, none⟩ = some (.string k0) := by
                rw [cell_of (Stand.at H8.out (b := rb) (o := textsO n.right.keys) (by simp)), List.getElem?_toArray]
                exact scells_get HF0.out
              have HTl : Hid (∀ u, Below w8.heap.size w8 u → TextsAt u lb n.left.keys) := fun u hb => (hb.block lb (Stand.lt H8.out (b := lb) (o := textsO n.left.keys) (by simp)).2).trans (Stand.at H8.out (b := lb) (o := textsO n.left.keys) (by simp))
              have HTr : Hid (∀ u, Below w8.heap.size w8 u → TextsAt u rb n.right.keys) := fun u hb => (hb.block rb (Stand.lt H8.out (b := rb) (o := textsO n.right.keys) (by simp)).2).trans (Stand.at H8.out (b := rb) (o := textsO n.right.keys) (by simp))
              have HR0 : Hid ((w8.alloc (.cells #[] 9 (0, 0))).ownsRow w8.heap.size 9 1 (.slice (some ⟨w8.heap.size, 0, none⟩) 0 0) ([] : List ByteArray).length (scells [])) := row_empty w8 9 1
              have HB0 : Hid (Below w8.heap.size w8 (w8.alloc (.cells #[] 9 (0, 0)))) := (Below.refl _ _).alloc (Nat.le_refl _) _
              have HSm : Hid (∀ u v, Below w8.heap.size w8 u → u.ownsRow w8.heap.size 9 1 v (([] ++ n.left.keys) ++ n.right.keys).length (scells (([] ++ n.left.keys) ++ n.right.keys)) → Calls Try.prog 33 #[v, .slice (some ⟨kb, 0, none⟩) y y] u fun e w' => e = .returned (.bool true) ∧ Hid (Two g n.left q n.right w w' [(mb, O), (kb, textsO n.keys)])) := fun u v hb hr => by
                have h9 := Stand.below (pair_res _ _ _ _) H8.out hb
                have t1 := row_texts hr
                rw [List.nil_append, halves_keys] at t1
                have t2 := Stand.texts h9 (b := kb) (K := n.keys) (by simp) (by rw [HN.out.2]; omega)
                rw [HN.out.2] at t2
                refine (sameTexts_any _ _ _ _ _ t1 t2).mono fun e w' ⟨he, m9, hw⟩ => ⟨by rw [he, decide_eq_true rfl], ?_⟩
                rw [hw]
                exact Stand.drop (Stand.drewN (pair_res _ _ _ _) h9 m9) (by
                  intro p hp
                  simp only [List.mem_cons] at hp ⊢
                  exact Or.inr (Or.inr hp))
              obtain ⟨D, hD⟩ : ∃ D, (S : Int) - (Z : Int) = D := ⟨_, rfl⟩
              have hD01 : D = 0 ∨ D = 1 := by omega
              have HLs : Hid (([] : List ByteArray).length + n.left.keys.length ≤ 1000 ∧ ([] ++ n.left.keys).length + n.right.keys.length ≤ 1000) := by
                rw [List.nil_append, HSZ.out.2.1, HSZ.out.2.2]
                refine ⟨?_, by omega⟩
                show 0 + S ≤ 1000
                omega
              have hs8 : w8.heap.size ≤ (w8.alloc (.cells #[] 9 (0, 0))).heap.size := by simp
              have HS8 : Hid (w8.heap.size ≤ (w8.alloc (.cells #[] 9 (0, 0))).heap.size) := hs8
              clear hs8 hS hZ H8 HF0
              rcases hD01 with rfl | rfl
              all_goals
                go_wp2_with (first
                  | (refine wpList_appS rfl _ _ rfl rfl HR0.out rfl HSZ.out.2.1 (HTl.out _ HB0.out) HLs.out.1 HS8.out ?_; intro v10 w10 r10 b10; have R10 : Hid (w10.ownsRow w8.heap.size 9 1 v10 ([] ++ n.left.keys).length (scells ([] ++ n.left.keys))) := r10; have B10 : Hid (Below w8.heap.size w8 w10) := HB0.out.trans b10; clear r10 b10)
                  | (refine wpList_appS rfl _ _ rfl rfl R10.out rfl HSZ.out.2.2 (HTr.out _ B10.out) HLs.out.2 B10.out.size ?_; intro v11 w11 r11 b11; have HSm2 : Hid (Calls Try.prog 33 #[v11, .slice (some ⟨kb, 0, none⟩) y y] w11 fun e w' => e = .returned (.bool true) ∧ Hid (Two g n.left q n.right w w' [(mb, O), (kb, textsO n.keys)])) := HSm.out w11 v11 (B10.out.trans b11) r11; clear r11 b11)
                  | (go_at_call 33; go_must (refine HSm2.out.mono ?_; rintro e w12 ⟨rfl, H12⟩)))
                clear HR0 HB0 HSm HSm2 R10 B10 HTl HTr HLs HS8 r0
                go_loopw [141] (fun i wr => ∃ y' : Nat, y' ≤ y ∧ i = .int .i64 y' ∧ Hid (Two g n.left q n.right w wr [(mb, O), (kb, textsO n.keys)])) (fun i _ => y - (intOf i).toNat)
                case atStart => exact ⟨0, Nat.zero_le _, rfl, H12⟩
                case round =>
                  clear H12
                  obtain ⟨z, hz, rfl, HQ⟩ := hrel
                  by_cases hzl : z < y
                  · have hzI : (z : Int) < (y : Int) := by omega
                    obtain ⟨⟨kk, vv⟩, hkv⟩ : ∃ p, n.ks[z]? = some p := ⟨_, List.getElem?_eq_getElem (by rw [HN.out.1]; exact hzl)⟩
                    have hmem := List.mem_of_getElem? hkv
                    have HMem : Hid ((kk, vv) ∈ n.ks) := hmem
                    have HKs : Hid (kk.size ≤ maxLen) := by
                      have := HOk.out.short _ hmem
                      show _ ≤ _
                      unfold maxLen
                      dsimp only at this
                      omega
                    obtain ⟨v1, v2⟩ : Num vv := HOk.out.nums _ hmem
                    have c0 : wr.cell? ⟨kb, z, none⟩ = some (.string kk) := by
                      rw [cell_of (Stand.at HQ.out (b := kb) (o := textsO n.keys) (by simp)), List.getElem?_toArray]
                      refine scells_get ?_
                      unfold Nd.keys
                      rw [List.getElem?_map, hkv]
                      rfl
                    by_cases hzs : z < S
                    · have hg2 := left_gets HOk.out hkv (by rw [HSZ.out.1]; exact hzs)
                      have HG : Hid (GetsTo n.left kk vv true ∧ GetsTo n.right kk 0 false) := hg2
                      clear hg2 hkv hmem
                      go_wp2_with fail
                      refine (Two.getL HQ.out HG.out.1).mono ?_
                      rintro e w13 ⟨rfl, H13⟩
                      go_wp2_with fail
                      refine (Two.getR H13.out HG.out.2).mono ?_
                      rintro e w14 ⟨rfl, H14⟩
                      have HMi : Hid (MapIs w14 mb y n.ks) := HOm.out.is (Stand.at H14.out (by simp))
                      clear HQ H13
                      go_wp2_with (refine wpList_look1 rfl _ _ rfl rfl HMi.out rfl HKs.out HMem.out ?_)
                      go_roundw
                      case rel => exact ⟨z + 1, by omega, by go_num, H14⟩
                      case measure => simp [intOf]; omega
                    · have hg2 := right_gets HOk.out hkv (by rw [HSZ.out.1]; exact hzs)
                      have HG : Hid (GetsTo n.left kk 0 false ∧ GetsTo n.right kk vv true) := hg2
                      clear hg2 hkv hmem
                      go_wp2_with fail
                      refine (Two.getL HQ.out HG.out.1).mono ?_
                      rintro e w13 ⟨rfl, H13⟩
                      go_wp2_with fail
                      refine (Two.getR H13.out HG.out.2).mono ?_
                      rintro e w14 ⟨rfl, H14⟩
                      have HMi : Hid (MapIs w14 mb y n.ks) := HOm.out.is (Stand.at H14.out (by simp))
                      clear HQ H13
                      go_wp2_with (refine wpList_look1 rfl _ _ rfl rfl HMi.out rfl HKs.out HMem.out ?_)
                      go_roundw
                      case rel => exact ⟨z + 1, by omega, by go_num, H14⟩
                      case measure => simp [intOf]; omega
                  · have hzI : ¬ (z : Int) < (y : Int) := by omega
                    go_wp2_with fail
                    go_ret
                    exact ⟨rfl, Stand.base HQ.out⟩
end HalvesL
end Go.Proofs.Ytnnkflghnapnpaa
