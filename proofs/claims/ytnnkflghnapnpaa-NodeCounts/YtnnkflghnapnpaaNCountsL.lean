/- The law NodeCounts: its walk. -/
import Derived.Test.YtnnkflghnapnpaaNCountsP
import Derived.Test.YtnnkflghnapnpaaNTexts
namespace Go.Proofs.Ytnnkflghnapnpaa
open Go.RowKit

namespace CountsL

set_option maxRecDepth 100000 in
set_option maxHeartbeats 8000000 in
theorem walk (v0 : Value) (L : List ActV) (w : World) (hL : SliceAt w v0 3 ActV.en L) (hZ : ∀ a ∈ L, a.Ok) :
    Calls Try.prog 6 #[v0] w fun e w' => e = .returned (.bool true) ∧ Below w.heap.size w w' := by
  obtain ⟨av, cv, rfl, hlc, hcm, hx⟩ := acts_open hL
  unfold maxLen at hcm
  have HX : Hid (∀ u, Below w.heap.size w u → ∀ i, (hi : i < L.length) → ∃ b off, av = some ⟨b, off, none⟩ ∧ u.cell? ⟨b, off + i * 3, none⟩ = some (.int .i64 L[i].kind) ∧ u.cell? ⟨b, off + i * 3 + 1, none⟩ = some (.string L[i].key) ∧ u.cell? ⟨b, off + i * 3 + 2, none⟩ = some (.int .i64 L[i].value)) := hx
  have HZ : Hid (∀ a ∈ L, a.Ok) := hZ
  obtain ⟨m, hm⟩ : ∃ m, L.length = m := ⟨_, rfl⟩
  have HM : Hid (L.length = m) := hm
  rw [hm] at hlc ⊢
  clear hx hL hm hZ
  have HNew : Hid (Calls Try.prog 18 #[] w fun e w' => ∃ g, e = .returned (.pointer (some ⟨g, 0, none⟩)) ∧ Hid (Has g Nd.new w w' [])) := has_new (Below.refl _ _)
  have HWk : Hid (∀ u : World, Calls Try.prog 17 #[] u fun e w' => e = .returned (.bool true) ∧ w' = u) := works_any
  go_enter Try.func6, Try.ntmps6
  go_wp2_with fail
  refine HNew.out.mono ?_
  rintro e w1 ⟨g, rfl, H1⟩
  clear HNew
  go_wp2_with fail
  refine (HWk.out _).mono ?_
  rintro e w2 ⟨rfl, rfl⟩
  go_wp2_with fail
  refine (H1.out.counts).mono ?_
  rintro e w3 ⟨rfl, H3, m3, rfl⟩
  clear H1
  go_wp2_with fail
  refine (H3.out.keys).mono ?_
  rintro e w4 ⟨kb, rfl, H4⟩
  clear H3
  obtain ⟨n0, hn0⟩ : ∃ n0, Nd.new = n0 := ⟨_, rfl⟩
  have HC0 : Hid (Cnt n0 0) := by
    rw [← hn0]
    exact (by decide : (0 : Int) ≤ 0 ∧ (0 : Int) ≤ 8 * ((0 : Nat) : Int) ∧ (0 : Int) ≤ 0 ∧ (0 : Int) ≤ ((0 : Nat) : Int))
  rw [hn0] at H4 ⊢
  clear hn0
  go_wp2_with fail
  go_loopw [4, 5, 6, 7] (fun a b s i wr => ∃ (j : Nat) (n : Nd) (I S : Int) (K : Nat) (kb : Nat), j ≤ 200 ∧ i = .int .i64 j ∧ a = .int .i64 I ∧ b = .int .i64 S ∧ s = .slice (some ⟨kb, 0, none⟩) K K ∧ Hid (n.ins = I ∧ n.spl = S ∧ n.keys.length = K) ∧ Hid (Cnt n j) ∧ Hid (Has g n w wr [(kb, textsO n.keys)])) (fun _ _ _ i _ => 200 - (intOf i).toNat)
  case atStart => exact ⟨0, n0, _, _, _, kb, by omega, rfl, rfl, rfl, rfl, (⟨rfl, rfl, rfl⟩ : _ ∧ _ ∧ _), HC0, H4⟩
  case round =>
    clear H4 HC0
    obtain ⟨j, n, I, S, K, kb, hj, rfl, rfl, rfl, rfl, HIS, HC, HI⟩ := hrel
    by_cases hlt : j < m ∧ j < 200
    · obtain ⟨hlt, h200⟩ := hlt
      have hlL : j < L.length := by rw [HM.out]; exact hlt
      obtain ⟨b, off, rfl, t0, t1, t2⟩ := HX.out wr (Stand.base HI.out) j hlL
      have hOk := HZ.out _ (List.getElem_mem hlL)
      obtain ⟨k, hk⟩ : ∃ k, L[j].kind = k := ⟨_, rfl⟩
      obtain ⟨x, hx⟩ : ∃ x, L[j].key = x := ⟨_, rfl⟩
      obtain ⟨y, hy⟩ : ∃ y, L[j].value = y := ⟨_, rfl⟩
      have HNm : Hid (Num y) := by rw [← hy]; exact hOk.value
      rw [hk] at t0
      rw [hx] at t1
      rw [hy] at t2
      have hlI : (j : Int) < (m : Int) := by omega
      have h200I : (j : Int) < 200 := by omega
      have HB2 : Hid (Has g n w (wr.alloc (actO k x y)) [(wr.heap.size, actO k x y), (kb, textsO n.keys)]) := HI.out.boxAct k x y
      obtain ⟨r, hr⟩ : ∃ r, k % 4 = r := ⟨_, rfl⟩
      have hr0 : 0 ≤ r ∧ r < 4 := by omega
      have HAm : Hid (Calls Try.prog 20 #[.int .i64 k, .int .i64 4] (wr.alloc (actO k x y)) fun e w' => e = .returned (.int .i64 r) ∧ Hid (Has g n w w' [(wr.heap.size, actO k x y), (kb, textsO n.keys)])) := (among_any k 4 _ (by omega) (by omega)).mono fun e w' ⟨he, hw⟩ => ⟨hr ▸ he, hw ▸ HB2⟩
      obtain ⟨q, hq⟩ : ∃ q, wr.heap.size = q := ⟨_, rfl⟩
      rw [hq] at HAm HB2
      have HCI : Hid ((0 ≤ n.ins ∧ n.ins < 900000) ∧ (0 ≤ n.spl ∧ n.spl < 900000)) := by
        obtain ⟨c1, c2, c3, c4⟩ := HC.out
        exact ⟨⟨c1, by omega⟩, ⟨c3, by omega⟩⟩
      have HKl : Hid (n.keys.length ≤ 15) := by have := HI.out.ok.few; show _ ≤ _; simp [Nd.keys]; omega
      clear hk hx hy hr HB2 hlL hOk
      go_wp2_with fail
      try rw [hq]
      refine HAm.out.mono ?_
      rintro e w5 ⟨rfl, H5⟩
      obtain ⟨q0, q1, q2⟩ := H5.out.actCells (k := x) (x := k) (v := y) (List.mem_cons_self ..)
      clear HAm hq t0 t1 t2 HI
      rcases (by omega : r = 0 ∨ r = 1 ∨ r = 2 ∨ r = 3) with rfl | rfl | rfl | rfl
      · obtain ⟨n', was, th, e0, hp⟩ := puts_ex H5.out.ok x y
        have HP : Hid (Calls Try.prog 21 #[.pointer (some ⟨g, 0, none⟩), .string x, .int .i64 y] w5 fun e w' => e = .returned (.tuple #[.int .i64 was, .bool th, .int .i64 e0]) ∧ Hid (Has g n' w w' [(q, actO k x y), (kb, textsO n.keys)])) := H5.out.put hp HNm.out HCI.out.1
        have HSt : Hid (Stp n n') := hp.stp
        clear hp H5 hr0
        go_wp2_with (go_at_call 21; go_must (refine HP.out.mono ?_; rintro e w6 ⟨rfl, H6⟩))
        refine (H6.out.counts).mono ?_
        rintro e w7 ⟨rfl, H7, m7, rfl⟩
        clear H6
        go_wp2_with fail
        refine (H7.out.keys).mono ?_
        rintro e w8 ⟨kb', rfl, H8⟩
        clear H7
        obtain ⟨I', hI'⟩ : ∃ I', n'.ins = I' := ⟨_, rfl⟩
        obtain ⟨S', hS'⟩ : ∃ S', n'.spl = S' := ⟨_, rfl⟩
        obtain ⟨K', hK'⟩ : ∃ K', n'.keys.length = K' := ⟨_, rfl⟩
        have HIS' : Hid (n'.ins = I' ∧ n'.spl = S' ∧ n'.keys.length = K') := ⟨hI', hS', hK'⟩
        have HSm : Hid (Calls Try.prog 33 #[.slice (some ⟨kb', 0, none⟩) K' K', .slice (some ⟨kb, 0, none⟩) K K] w8 fun e w' => e = .returned (.bool (decide (n'.keys = n.keys))) ∧ Hid (Has g n' w w' [(kb', textsO n'.keys)])) := by
          have hf' : n'.keys.length ≤ 1000 := by have := H8.out.ok.few; simp [Nd.keys]; omega
          have hK : n.keys.length = K := HIS.out.2.2
          have hf : n.keys.length ≤ 1000 := by have := HKl.out; omega
          have t1 := H8.out.texts (b := kb') (K := n'.keys) (List.mem_cons_self ..) hf'
          have t2 := H8.out.texts (b := kb) (K := n.keys) (by simp) hf
          rw [hK'] at t1
          rw [hK] at t2
          exact (sameTexts_any _ _ _ _ _ t1 t2).mono fun e w' ⟨he, m9, hw⟩ => ⟨he, hw ▸ Stand.drop (Stand.drewN (nodeI_res _ _) H8.out m9) (by simp)⟩
        have hI : n.ins = I := HIS.out.1
        have hS : n.spl = S := HIS.out.2.1
        have b1 : ¬ I' < I := by have := HSt.out.i1; omega
        have b2 : ¬ S' < S := by have := HSt.out.s1; omega
        have HC' : Hid (Cnt n' (j + 1)) := HSt.out.cnt HC.out
        rw [hI', hS', hK']
        by_cases hsame : n'.keys = n.keys
        · have hh := HSt.out.same.2 hsame
          obtain rfl : I' = I := by omega
          obtain rfl : S' = S := by omega
          rw [decide_eq_true hsame] at HSm
          clear hsame hI hS hI' hS' hK' HSt hh
          go_wp2_with fail
          refine HSm.out.mono ?_
          rintro e w9 ⟨rfl, H9⟩
          go_wp2_with fail
          go_roundw
          case rel => exact ⟨j + 1, n', _, _, _, kb', by omega, by go_num, rfl, rfl, rfl, HIS', HC', H9⟩
          case measure => simp [intOf]; omega
        · rw [decide_eq_false hsame] at HSm
          have hnot : ¬ (I' = I ∧ S' = S) := fun e => hsame (HSt.out.same.1 (by omega))
          by_cases hII : I' = I
          · subst hII
            have hSS : (S' == S) = false := by rw [beq_eq_false_iff_ne]; omega
            have hSS2 : ¬ S' = S := by omega
            clear hsame hI hS hI' hS' hK' HSt hnot
            go_wp2_with fail
            refine HSm.out.mono ?_
            rintro e w9 ⟨rfl, H9⟩
            go_wp2_with fail
            go_roundw
            case rel => exact ⟨j + 1, n', _, _, _, kb', by omega, by go_num, rfl, rfl, rfl, HIS', HC', H9⟩
            case measure => simp [intOf]; omega
          · have hII1 : (I' == I) = false := by rw [beq_eq_false_iff_ne]; exact hII
            clear hsame hI hS hI' hS' hK' HSt hnot
            go_wp2_with fail
            refine HSm.out.mono ?_
            rintro e w9 ⟨rfl, H9⟩
            go_wp2_with fail
            go_roundw
            case rel => exact ⟨j + 1, n', _, _, _, kb', by omega, by go_num, rfl, rfl, rfl, HIS', HC', H9⟩
            case measure => simp [intOf]; omega
      · obtain ⟨n', was, th, e0, hp⟩ := puts_ex H5.out.ok x y
        have HP : Hid (Calls Try.prog 21 #[.pointer (some ⟨g, 0, none⟩), .string x, .int .i64 y] w5 fun e w' => e = .returned (.tuple #[.int .i64 was, .bool th, .int .i64 e0]) ∧ Hid (Has g n' w w' [(q, actO k x y), (kb, textsO n.keys)])) := H5.out.put hp HNm.out HCI.out.1
        have HSt : Hid (Stp n n') := hp.stp
        clear hp H5 hr0
        go_wp2_with (go_at_call 21; go_must (refine HP.out.mono ?_; rintro e w6 ⟨rfl, H6⟩))
        refine (H6.out.counts).mono ?_
        rintro e w7 ⟨rfl, H7, m7, rfl⟩
        clear H6
        go_wp2_with fail
        refine (H7.out.keys).mono ?_
        rintro e w8 ⟨kb', rfl, H8⟩
        clear H7
        obtain ⟨I', hI'⟩ : ∃ I', n'.ins = I' := ⟨_, rfl⟩
        obtain ⟨S', hS'⟩ : ∃ S', n'.spl = S' := ⟨_, rfl⟩
        obtain ⟨K', hK'⟩ : ∃ K', n'.keys.length = K' := ⟨_, rfl⟩
        have HIS' : Hid (n'.ins = I' ∧ n'.spl = S' ∧ n'.keys.length = K') := ⟨hI', hS', hK'⟩
        have HSm : Hid (Calls Try.prog 33 #[.slice (some ⟨kb', 0, none⟩) K' K', .slice (some ⟨kb, 0, none⟩) K K] w8 fun e w' => e = .returned (.bool (decide (n'.keys = n.keys))) ∧ Hid (Has g n' w w' [(kb', textsO n'.keys)])) := by
          have hf' : n'.keys.length ≤ 1000 := by have := H8.out.ok.few; simp [Nd.keys]; omega
          have hK : n.keys.length = K := HIS.out.2.2
          have hf : n.keys.length ≤ 1000 := by have := HKl.out; omega
          have t1 := H8.out.texts (b := kb') (K := n'.keys) (List.mem_cons_self ..) hf'
          have t2 := H8.out.texts (b := kb) (K := n.keys) (by simp) hf
          rw [hK'] at t1
          rw [hK] at t2
          exact (sameTexts_any _ _ _ _ _ t1 t2).mono fun e w' ⟨he, m9, hw⟩ => ⟨he, hw ▸ Stand.drop (Stand.drewN (nodeI_res _ _) H8.out m9) (by simp)⟩
        have hI : n.ins = I := HIS.out.1
        have hS : n.spl = S := HIS.out.2.1
        have b1 : ¬ I' < I := by have := HSt.out.i1; omega
        have b2 : ¬ S' < S := by have := HSt.out.s1; omega
        have HC' : Hid (Cnt n' (j + 1)) := HSt.out.cnt HC.out
        rw [hI', hS', hK']
        by_cases hsame : n'.keys = n.keys
        · have hh := HSt.out.same.2 hsame
          obtain rfl : I' = I := by omega
          obtain rfl : S' = S := by omega
          rw [decide_eq_true hsame] at HSm
          clear hsame hI hS hI' hS' hK' HSt hh
          go_wp2_with fail
          refine HSm.out.mono ?_
          rintro e w9 ⟨rfl, H9⟩
          go_wp2_with fail
          go_roundw
          case rel => exact ⟨j + 1, n', _, _, _, kb', by omega, by go_num, rfl, rfl, rfl, HIS', HC', H9⟩
          case measure => simp [intOf]; omega
        · rw [decide_eq_false hsame] at HSm
          have hnot : ¬ (I' = I ∧ S' = S) := fun e => hsame (HSt.out.same.1 (by omega))
          by_cases hII : I' = I
          · subst hII
            have hSS : (S' == S) = false := by rw [beq_eq_false_iff_ne]; omega
            have hSS2 : ¬ S' = S := by omega
            clear hsame hI hS hI' hS' hK' HSt hnot
            go_wp2_with fail
            refine HSm.out.mono ?_
            rintro e w9 ⟨rfl, H9⟩
            go_wp2_with fail
            go_roundw
            case rel => exact ⟨j + 1, n', _, _, _, kb', by omega, by go_num, rfl, rfl, rfl, HIS', HC', H9⟩
            case measure => simp [intOf]; omega
          · have hII1 : (I' == I) = false := by rw [beq_eq_false_iff_ne]; exact hII
            clear hsame hI hS hI' hS' hK' HSt hnot
            go_wp2_with fail
            refine HSm.out.mono ?_
            rintro e w9 ⟨rfl, H9⟩
            go_wp2_with fail
            go_roundw
            case rel => exact ⟨j + 1, n', _, _, _, kb', by omega, by go_num, rfl, rfl, rfl, HIS', HC', H9⟩
            case measure => simp [intOf]; omega
      · obtain ⟨n', was, e0, hp⟩ := takes_ex n x
        have HP : Hid (Calls Try.prog 25 #[.pointer (some ⟨g, 0, none⟩), .string x] w5 fun e w' => e = .returned (.tuple #[.int .i64 was, .int .i64 e0]) ∧ Hid (Has g n' w w' [(q, actO k x y), (kb, textsO n.keys)])) := H5.out.take hp HCI.out.1
        have HSt : Hid (Stp n n') := hp.stp
        clear hp H5 hr0
        go_wp2_with (go_at_call 25; go_must (refine HP.out.mono ?_; rintro e w6 ⟨rfl, H6⟩))
        refine (H6.out.counts).mono ?_
        rintro e w7 ⟨rfl, H7, m7, rfl⟩
        clear H6
        go_wp2_with fail
        refine (H7.out.keys).mono ?_
        rintro e w8 ⟨kb', rfl, H8⟩
        clear H7
        obtain ⟨I', hI'⟩ : ∃ I', n'.ins = I' := ⟨_, rfl⟩
        obtain ⟨S', hS'⟩ : ∃ S', n'.spl = S' := ⟨_, rfl⟩
        obtain ⟨K', hK'⟩ : ∃ K', n'.keys.length = K' := ⟨_, rfl⟩
        have HIS' : Hid (n'.ins = I' ∧ n'.spl = S' ∧ n'.keys.length = K') := ⟨hI', hS', hK'⟩
        have HSm : Hid (Calls Try.prog 33 #[.slice (some ⟨kb', 0, none⟩) K' K', .slice (some ⟨kb, 0, none⟩) K K] w8 fun e w' => e = .returned (.bool (decide (n'.keys = n.keys))) ∧ Hid (Has g n' w w' [(kb', textsO n'.keys)])) := by
          have hf' : n'.keys.length ≤ 1000 := by have := H8.out.ok.few; simp [Nd.keys]; omega
          have hK : n.keys.length = K := HIS.out.2.2
          have hf : n.keys.length ≤ 1000 := by have := HKl.out; omega
          have t1 := H8.out.texts (b := kb') (K := n'.keys) (List.mem_cons_self ..) hf'
          have t2 := H8.out.texts (b := kb) (K := n.keys) (by simp) hf
          rw [hK'] at t1
          rw [hK] at t2
          exact (sameTexts_any _ _ _ _ _ t1 t2).mono fun e w' ⟨he, m9, hw⟩ => ⟨he, hw ▸ Stand.drop (Stand.drewN (nodeI_res _ _) H8.out m9) (by simp)⟩
        have hI : n.ins = I := HIS.out.1
        have hS : n.spl = S := HIS.out.2.1
        have b1 : ¬ I' < I := by have := HSt.out.i1; omega
        have b2 : ¬ S' < S := by have := HSt.out.s1; omega
        have HC' : Hid (Cnt n' (j + 1)) := HSt.out.cnt HC.out
        rw [hI', hS', hK']
        by_cases hsame : n'.keys = n.keys
        · have hh := HSt.out.same.2 hsame
          obtain rfl : I' = I := by omega
          obtain rfl : S' = S := by omega
          rw [decide_eq_true hsame] at HSm
          clear hsame hI hS hI' hS' hK' HSt hh
          go_wp2_with fail
          refine HSm.out.mono ?_
          rintro e w9 ⟨rfl, H9⟩
          go_wp2_with fail
          go_roundw
          case rel => exact ⟨j + 1, n', _, _, _, kb', by omega, by go_num, rfl, rfl, rfl, HIS', HC', H9⟩
          case measure => simp [intOf]; omega
        · rw [decide_eq_false hsame] at HSm
          have hnot : ¬ (I' = I ∧ S' = S) := fun e => hsame (HSt.out.same.1 (by omega))
          by_cases hII : I' = I
          · subst hII
            have hSS : (S' == S) = false := by rw [beq_eq_false_iff_ne]; omega
            have hSS2 : ¬ S' = S := by omega
            clear hsame hI hS hI' hS' hK' HSt hnot
            go_wp2_with fail
            refine HSm.out.mono ?_
            rintro e w9 ⟨rfl, H9⟩
            go_wp2_with fail
            go_roundw
            case rel => exact ⟨j + 1, n', _, _, _, kb', by omega, by go_num, rfl, rfl, rfl, HIS', HC', H9⟩
            case measure => simp [intOf]; omega
          · have hII1 : (I' == I) = false := by rw [beq_eq_false_iff_ne]; exact hII
            clear hsame hI hS hI' hS' hK' HSt hnot
            go_wp2_with fail
            refine HSm.out.mono ?_
            rintro e w9 ⟨rfl, H9⟩
            go_wp2_with fail
            go_roundw
            case rel => exact ⟨j + 1, n', _, _, _, kb', by omega, by go_num, rfl, rfl, rfl, HIS', HC', H9⟩
            case measure => simp [intOf]; omega
      · by_cases hfew : n.ks.length < 2
        · have HP : Hid (Calls Try.prog 27 #[.pointer (some ⟨g, 0, none⟩)] w5 fun e w' => e = .returned (.tuple #[.pointer none, .string ⟨#[]⟩, .int .i64 4]) ∧ Hid (Has g n w w' [(q, actO k x y), (kb, textsO n.keys)])) := (H5.out.splitFew hfew).mono fun e w' ⟨he, hw⟩ => ⟨he, hw ▸ H5⟩
          obtain ⟨n', hn'⟩ : ∃ n' : Nd, n' = n := ⟨_, rfl⟩
          have HP2 : Hid (Calls Try.prog 27 #[.pointer (some ⟨g, 0, none⟩)] w5 fun e w' => e = .returned (.tuple #[.pointer none, .string ⟨#[]⟩, .int .i64 4]) ∧ Hid (Has g n' w w' [(q, actO k x y), (kb, textsO n.keys)])) := by rw [hn']; exact HP
          have HSt : Hid (Stp n n') := by rw [hn']; exact Stp.refl _
          clear hn' HP H5 hr0 hfew
          go_wp2_with (go_at_call 27; go_must (refine HP2.out.mono ?_; rintro e w6 ⟨rfl, H6⟩))
          refine (H6.out.counts).mono ?_
          rintro e w7 ⟨rfl, H7, m7, rfl⟩
          clear H6
          go_wp2_with fail
          refine (H7.out.keys).mono ?_
          rintro e w8 ⟨kb', rfl, H8⟩
          clear H7
          obtain ⟨I', hI'⟩ : ∃ I', n'.ins = I' := ⟨_, rfl⟩
          obtain ⟨S', hS'⟩ : ∃ S', n'.spl = S' := ⟨_, rfl⟩
          obtain ⟨K', hK'⟩ : ∃ K', n'.keys.length = K' := ⟨_, rfl⟩
          have HIS' : Hid (n'.ins = I' ∧ n'.spl = S' ∧ n'.keys.length = K') := ⟨hI', hS', hK'⟩
          have HSm : Hid (Calls Try.prog 33 #[.slice (some ⟨kb', 0, none⟩) K' K', .slice (some ⟨kb, 0, none⟩) K K] w8 fun e w' => e = .returned (.bool (decide (n'.keys = n.keys))) ∧ Hid (Has g n' w w' [(kb', textsO n'.keys)])) := by
            have hf' : n'.keys.length ≤ 1000 := by have := H8.out.ok.few; simp [Nd.keys]; omega
            have hK : n.keys.length = K := HIS.out.2.2
            have hf : n.keys.length ≤ 1000 := by have := HKl.out; omega
            have t1 := H8.out.texts (b := kb') (K := n'.keys) (List.mem_cons_self ..) hf'
            have t2 := H8.out.texts (b := kb) (K := n.keys) (by simp) hf
            rw [hK'] at t1
            rw [hK] at t2
            exact (sameTexts_any _ _ _ _ _ t1 t2).mono fun e w' ⟨he, m9, hw⟩ => ⟨he, hw ▸ Stand.drop (Stand.drewN (nodeI_res _ _) H8.out m9) (by simp)⟩
          have hI : n.ins = I := HIS.out.1
          have hS : n.spl = S := HIS.out.2.1
          have b1 : ¬ I' < I := by have := HSt.out.i1; omega
          have b2 : ¬ S' < S := by have := HSt.out.s1; omega
          have HC' : Hid (Cnt n' (j + 1)) := HSt.out.cnt HC.out
          rw [hI', hS', hK']
          by_cases hsame : n'.keys = n.keys
          · have hh := HSt.out.same.2 hsame
            obtain rfl : I' = I := by omega
            obtain rfl : S' = S := by omega
            rw [decide_eq_true hsame] at HSm
            clear hsame hI hS hI' hS' hK' HSt hh
            go_wp2_with fail
            refine HSm.out.mono ?_
            rintro e w9 ⟨rfl, H9⟩
            go_wp2_with fail
            go_roundw
            case rel => exact ⟨j + 1, n', _, _, _, kb', by omega, by go_num, rfl, rfl, rfl, HIS', HC', H9⟩
            case measure => simp [intOf]; omega
          · rw [decide_eq_false hsame] at HSm
            have hnot : ¬ (I' = I ∧ S' = S) := fun e => hsame (HSt.out.same.1 (by omega))
            by_cases hII : I' = I
            · subst hII
              have hSS : (S' == S) = false := by rw [beq_eq_false_iff_ne]; omega
              have hSS2 : ¬ S' = S := by omega
              clear hsame hI hS hI' hS' hK' HSt hnot
              go_wp2_with fail
              refine HSm.out.mono ?_
              rintro e w9 ⟨rfl, H9⟩
              go_wp2_with fail
              go_roundw
              case rel => exact ⟨j + 1, n', _, _, _, kb', by omega, by go_num, rfl, rfl, rfl, HIS', HC', H9⟩
              case measure => simp [intOf]; omega
            · have hII1 : (I' == I) = false := by rw [beq_eq_false_iff_ne]; exact hII
              clear hsame hI hS hI' hS' hK' HSt hnot
              go_wp2_with fail
              refine HSm.out.mono ?_
              rintro e w9 ⟨rfl, H9⟩
              go_wp2_with fail
              go_roundw
              case rel => exact ⟨j + 1, n', _, _, _, kb', by omega, by go_num, rfl, rfl, rfl, HIS', HC', H9⟩
              case measure => simp [intOf]; omega
        · have HP : Hid (Calls Try.prog 27 #[.pointer (some ⟨g, 0, none⟩)] w5 fun e w' => ∃ (z : Nat) (y0 : ByteArray), e = .returned (.tuple #[.pointer (some ⟨z, 0, none⟩), .string y0, .int .i64 0]) ∧ Hid (Has g n.left w w' [(q, actO k x y), (kb, textsO n.keys)])) := (H5.out.splitOk (by omega) HCI.out.1 HCI.out.2).mono fun e w' ⟨z, p, _, he, hw⟩ => ⟨z, p.1, he, hw.out.onlyLeft⟩
          have hSt := left_stp H5.out.ok (by omega)
          obtain ⟨n', hn'⟩ : ∃ n' : Nd, n.left = n' := ⟨_, rfl⟩
          rw [hn'] at HP hSt
          have HSt : Hid (Stp n n') := hSt
          clear hn' hSt H5 hr0 hfew
          go_wp2_with (go_at_call 27; go_must (refine HP.out.mono ?_; rintro e w6 ⟨z, y0, rfl, H6⟩))
          refine (H6.out.counts).mono ?_
          rintro e w7 ⟨rfl, H7, m7, rfl⟩
          clear H6
          go_wp2_with fail
          refine (H7.out.keys).mono ?_
          rintro e w8 ⟨kb', rfl, H8⟩
          clear H7
          obtain ⟨I', hI'⟩ : ∃ I', n'.ins = I' := ⟨_, rfl⟩
          obtain ⟨S', hS'⟩ : ∃ S', n'.spl = S' := ⟨_, rfl⟩
          obtain ⟨K', hK'⟩ : ∃ K', n'.keys.length = K' := ⟨_, rfl⟩
          have HIS' : Hid (n'.ins = I' ∧ n'.spl = S' ∧ n'.keys.length = K') := ⟨hI', hS', hK'⟩
          have HSm : Hid (Calls Try.prog 33 #[.slice (some ⟨kb', 0, none⟩) K' K', .slice (some ⟨kb, 0, none⟩) K K] w8 fun e w' => e = .returned (.bool (decide (n'.keys = n.keys))) ∧ Hid (Has g n' w w' [(kb', textsO n'.keys)])) := by
            have hf' : n'.keys.length ≤ 1000 := by have := H8.out.ok.few; simp [Nd.keys]; omega
            have hK : n.keys.length = K := HIS.out.2.2
            have hf : n.keys.length ≤ 1000 := by have := HKl.out; omega
            have t1 := H8.out.texts (b := kb') (K := n'.keys) (List.mem_cons_self ..) hf'
            have t2 := H8.out.texts (b := kb) (K := n.keys) (by simp) hf
            rw [hK'] at t1
            rw [hK] at t2
            exact (sameTexts_any _ _ _ _ _ t1 t2).mono fun e w' ⟨he, m9, hw⟩ => ⟨he, hw ▸ Stand.drop (Stand.drewN (nodeI_res _ _) H8.out m9) (by simp)⟩
          have hI : n.ins = I := HIS.out.1
          have hS : n.spl = S := HIS.out.2.1
          have b1 : ¬ I' < I := by have := HSt.out.i1; omega
          have b2 : ¬ S' < S := by have := HSt.out.s1; omega
          have HC' : Hid (Cnt n' (j + 1)) := HSt.out.cnt HC.out
          rw [hI', hS', hK']
          by_cases hsame : n'.keys = n.keys
          · have hh := HSt.out.same.2 hsame
            obtain rfl : I' = I := by omega
            obtain rfl : S' = S := by omega
            rw [decide_eq_true hsame] at HSm
            clear hsame hI hS hI' hS' hK' HSt hh
            go_wp2_with fail
            refine HSm.out.mono ?_
            rintro e w9 ⟨rfl, H9⟩
            go_wp2_with fail
            go_roundw
            case rel => exact ⟨j + 1, n', _, _, _, kb', by omega, by go_num, rfl, rfl, rfl, HIS', HC', H9⟩
            case measure => simp [intOf]; omega
          · rw [decide_eq_false hsame] at HSm
            have hnot : ¬ (I' = I ∧ S' = S) := fun e => hsame (HSt.out.same.1 (by omega))
            by_cases hII : I' = I
            · subst hII
              have hSS : (S' == S) = false := by rw [beq_eq_false_iff_ne]; omega
              have hSS2 : ¬ S' = S := by omega
              clear hsame hI hS hI' hS' hK' HSt hnot
              go_wp2_with fail
              refine HSm.out.mono ?_
              rintro e w9 ⟨rfl, H9⟩
              go_wp2_with fail
              go_roundw
              case rel => exact ⟨j + 1, n', _, _, _, kb', by omega, by go_num, rfl, rfl, rfl, HIS', HC', H9⟩
              case measure => simp [intOf]; omega
            · have hII1 : (I' == I) = false := by rw [beq_eq_false_iff_ne]; exact hII
              clear hsame hI hS hI' hS' hK' HSt hnot
              go_wp2_with fail
              refine HSm.out.mono ?_
              rintro e w9 ⟨rfl, H9⟩
              go_wp2_with fail
              go_roundw
              case rel => exact ⟨j + 1, n', _, _, _, kb', by omega, by go_num, rfl, rfl, rfl, HIS', HC', H9⟩
              case measure => simp [intOf]; omega
    · by_cases h1 : j < m
      · have h200 : ¬ ((j : Int) < 200) := by omega
        have h1I : (j : Int) < (m : Int) := by omega
        go_wp2_with fail
        go_ret
        exact ⟨rfl, Stand.base HI.out⟩
      · have h1I : ¬ ((j : Int) < (m : Int)) := by omega
        go_wp2_with fail
        go_ret
        exact ⟨rfl, Stand.base HI.out⟩
end CountsL
end Go.Proofs.Ytnnkflghnapnpaa
