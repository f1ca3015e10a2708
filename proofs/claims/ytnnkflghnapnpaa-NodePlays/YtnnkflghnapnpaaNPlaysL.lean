/- The law NodePlays: its walk. -/
import Derived.Test.YtnnkflghnapnpaaNBoth
namespace Go.Proofs.Ytnnkflghnapnpaa
open Go.RowKit
namespace PlaysL

set_option maxRecDepth 100000 in
set_option maxHeartbeats 16000000 in
theorem walk (v0 : Value) (L : List ActV) (w : World) (hL : SliceAt w v0 3 ActV.en L) (hZ : ∀ a ∈ L, a.Ok) :
    Calls Try.prog 4 #[v0] w fun e w' => e = .returned (.bool true) ∧ Below w.heap.size w w' := by
  obtain ⟨av, cv, rfl, hlc, hcm, hx⟩ := acts_open hL
  unfold maxLen at hcm
  have HX : Hid (∀ u, Below w.heap.size w u → ∀ i, (hi : i < L.length) → ∃ b off, av = some ⟨b, off, none⟩ ∧ u.cell? ⟨b, off + i * 3, none⟩ = some (.int .i64 L[i].kind) ∧ u.cell? ⟨b, off + i * 3 + 1, none⟩ = some (.string L[i].key) ∧ u.cell? ⟨b, off + i * 3 + 2, none⟩ = some (.int .i64 L[i].value)) := hx
  have HZ : Hid (∀ a ∈ L, a.Ok) := hZ
  obtain ⟨m, hm⟩ : ∃ m, L.length = m := ⟨_, rfl⟩
  have HM : Hid (L.length = m) := hm
  rw [hm] at hlc ⊢
  clear hx hL hm hZ
  have HNew : Hid (Calls Try.prog 18 #[] w fun e w' => ∃ g, e = .returned (.pointer (some ⟨g, 0, none⟩)) ∧ Hid (Has g Nd.new w w' [])) := has_new (Below.refl _ _)
  have HWk : Hid (∀ u : World, Calls Try.prog 17 #[] u fun e w' => e = .returned (.bool true) ∧ w' = u) := works_any
  go_enter Try.func4, Try.ntmps4
  go_wp2_with fail
  refine HNew.out.mono ?_
  rintro e w1 ⟨g0, rfl, H1⟩
  clear HNew
  go_wp2_with fail
  refine (both_new H1.out).mono ?_
  rintro e w2 ⟨r0, rfl, H2⟩
  clear H1
  have HC0 : Hid (Cnt Nd.new 0) := (by decide : (0 : Int) ≤ 0 ∧ (0 : Int) ≤ 8 * ((0 : Nat) : Int) ∧ (0 : Int) ≤ 0 ∧ (0 : Int) ≤ ((0 : Nat) : Int))
  go_wp2_with fail
  go_loopw [3, 4, 5] (fun a b i wr => ∃ (j : Nat) (n : Nd) (g r : Nat), j ≤ 300 ∧ i = .int .i64 j ∧ a = .pointer (some ⟨g, 0, none⟩) ∧ b = .pointer (some ⟨r, 0, none⟩) ∧ Hid (Cnt n j) ∧ Hid (Both g n r n w wr [])) (fun _ _ i _ => 300 - (intOf i).toNat)
  case atStart => exact ⟨0, Nd.new, g0, r0, by omega, rfl, rfl, rfl, HC0, H2⟩
  case round =>
    clear H2 HC0
    obtain ⟨j, n, g, r, hj, rfl, rfl, rfl, HC, HI⟩ := hrel
    by_cases hlt : j < m ∧ j < 300
    · obtain ⟨hlt, h300⟩ := hlt
      have hlL : j < L.length := by rw [HM.out]; exact hlt
      obtain ⟨b, off, rfl, t0, t1, t2⟩ := HX.out wr (Stand.base HI.out) j hlL
      have hOk := HZ.out _ (List.getElem_mem hlL)
      obtain ⟨k, hk⟩ : ∃ k, L[j].kind = k := ⟨_, rfl⟩
      obtain ⟨x, hx⟩ : ∃ x, L[j].key = x := ⟨_, rfl⟩
      obtain ⟨y, hy⟩ : ∃ y, L[j].value = y := ⟨_, rfl⟩
      have HNm : Hid (Num y) := by rw [← hy]; exact hOk.value
      rw [hk] at t0
      rw [hx] at t1
      rw [hy] at t2
      have hlI : (j : Int) < (m : Int) := by omega
      have h300I : (j : Int) < 300 := by omega
      have HB2 : Hid (Both g n r n w (wr.alloc (actO k x y)) [(wr.heap.size, actO k x y)]) := Stand.alloc (both_res _ _ _ _) HI.out _
      obtain ⟨ki, hr⟩ : ∃ ki, k % 5 = ki := ⟨_, rfl⟩
      have hr0 : 0 ≤ ki ∧ ki < 5 := by omega
      have HAg : Hid (∀ u : World, Calls Try.prog 20 #[.int .i64 k, .int .i64 5] u fun e w' => e = .returned (.int .i64 ki) ∧ w' = u) := fun u => hr ▸ among_any k 5 u (by omega) (by omega)
      have HAm : Hid (Calls Try.prog 20 #[.int .i64 k, .int .i64 5] (wr.alloc (actO k x y)) fun e w' => e = .returned (.int .i64 ki) ∧ Hid (Both g n r n w w' [(wr.heap.size, actO k x y)])) := (HAg.out _).mono fun e w' ⟨he, hw⟩ => ⟨he, hw ▸ HB2⟩
      obtain ⟨ab, hab⟩ : ∃ ab, wr.heap.size = ab := ⟨_, rfl⟩
      rw [hab] at HAm HB2
      have HCI : Hid ((0 ≤ n.ins ∧ n.ins < 800000) ∧ (0 ≤ n.spl ∧ n.spl < 900000)) := by
        obtain ⟨c1, c2, c3, c4⟩ := HC.out
        exact ⟨⟨c1, by omega⟩, ⟨c3, by omega⟩⟩
      have HC9 : Hid ((0 ≤ n.ins ∧ n.ins < 900000)) := by have := HCI.out.1; exact ⟨this.1, by omega⟩
      clear hk hx hy hr HB2 hlL hOk
      go_wp2_with fail
      try rw [hab]
      refine HAm.out.mono ?_
      rintro e w5 ⟨rfl, H5⟩
      obtain ⟨q0, q1, q2⟩ := act_cells H5.out (k := x) (x := k) (v := y) (List.mem_cons_self ..)
      clear HAm hab t0 t1 t2 HI
      rcases (by omega : ki = 0 ∨ ki = 1 ∨ ki = 2 ∨ ki = 3 ∨ ki = 4) with rfl | rfl | rfl | rfl | rfl
      · obtain ⟨n', was, th, e0, hp⟩ := puts_ex (Both.okL H5.out) x y
        have HC' : Hid (Cnt n' (j + 1)) := hp.stp.cnt HC.out
        have HP : Hid (PutsTo n x y n' was th e0) := hp
        clear hp hr0
        go_wp2_with fail
        refine (Both.putL H5.out HP.out HNm.out HC9.out).mono ?_
        rintro e w6 ⟨rfl, H6⟩
        obtain ⟨p0, p1, p2⟩ := act_cells H6.out (k := x) (x := k) (v := y) (List.mem_cons_self ..)
        clear H5
        go_wp2_with fail
        refine (Both.putR H6.out HP.out HNm.out HC9.out).mono ?_
        rintro e w7 ⟨rfl, H7⟩
        clear H6
        cases th
        all_goals
          go_wp2_with fail
          refine (Both.same H7.out).mono ?_
          rintro e w8 ⟨rfl, H8⟩
          go_wp2_with fail
          go_roundw
          case rel => exact ⟨j + 1, n', g, r, by omega, by go_num, rfl, rfl, HC', Stand.drop H8.out (by simp)⟩
          case measure => simp [intOf]; omega
      · obtain ⟨v, bb, hg⟩ := gets_ex n x
        have HC' : Hid (Cnt n (j + 1)) := (Stp.refl n).cnt HC.out
        have HG : Hid (GetsTo n x v bb) := hg
        clear hg hr0
        go_wp2_with fail
        refine (Both.getL H5.out HG.out).mono ?_
        rintro e w6 ⟨rfl, H6⟩
        obtain ⟨p0, p1, p2⟩ := act_cells H6.out (k := x) (x := k) (v := y) (List.mem_cons_self ..)
        clear H5
        go_wp2_with fail
        refine (Both.getR H6.out HG.out).mono ?_
        rintro e w7 ⟨rfl, H7⟩
        clear H6
        cases bb
        all_goals
          go_wp2_with fail
          refine (Both.same H7.out).mono ?_
          rintro e w8 ⟨rfl, H8⟩
          go_wp2_with fail
          go_roundw
          case rel => exact ⟨j + 1, n, g, r, by omega, by go_num, rfl, rfl, HC', Stand.drop H8.out (by simp)⟩
          case measure => simp [intOf]; omega
      · obtain ⟨n', was, e0, hp⟩ := takes_ex n x
        have HC' : Hid (Cnt n' (j + 1)) := hp.stp.cnt HC.out
        have HP : Hid (TakesTo n x n' was e0) := hp
        clear hp hr0
        go_wp2_with fail
        refine (Both.takeL H5.out HP.out HC9.out).mono ?_
        rintro e w6 ⟨rfl, H6⟩
        obtain ⟨p0, p1, p2⟩ := act_cells H6.out (k := x) (x := k) (v := y) (List.mem_cons_self ..)
        clear H5
        go_wp2_with fail
        refine (Both.takeR H6.out HP.out HC9.out).mono ?_
        rintro e w7 ⟨rfl, H7⟩
        clear H6
        go_wp2_with fail
        refine (Both.same H7.out).mono ?_
        rintro e w8 ⟨rfl, H8⟩
        go_wp2_with fail
        go_roundw
        case rel => exact ⟨j + 1, n', g, r, by omega, by go_num, rfl, rfl, HC', Stand.drop H8.out (by simp)⟩
        case measure => simp [intOf]; omega
      · have HOk : Hid n.Ok := Both.okL H5.out
        by_cases hfew : n.ks.length < 2
        · have HF : Hid (n.ks.length < 2) := hfew
          have HC' : Hid (Cnt n (j + 1)) := (Stp.refl n).cnt HC.out
          clear hfew hr0
          go_wp2_with fail
          refine (Both.fewL H5.out HF.out).mono ?_
          rintro e w6 ⟨rfl, H6⟩
          clear H5
          go_wp2_with fail
          refine (Both.fewR H6.out HF.out).mono ?_
          rintro e w7 ⟨rfl, H7⟩
          clear H6
          go_wp2_with fail
          refine (Both.same H7.out).mono ?_
          rintro e w8 ⟨rfl, H8⟩
          clear H7
          go_wp2_with fail
          refine (Both.same H8.out).mono ?_
          rintro e w9 ⟨rfl, H9⟩
          go_wp2_with fail
          go_roundw
          case rel => exact ⟨j + 1, n, g, r, by omega, by go_num, rfl, rfl, HC', Stand.drop H9.out (by simp)⟩
          case measure => simp [intOf]; omega
        · have HF : Hid (2 ≤ n.ks.length) := (by omega : 2 ≤ n.ks.length)
          obtain ⟨p, hp⟩ : ∃ p, n.ks[n.stay]? = some p := ⟨_, List.getElem?_eq_getElem (by unfold Nd.stay; omega)⟩
          have HP : Hid (n.ks[n.stay]? = some p) := hp
          have HC' : Hid (Cnt n.left (j + 1)) := (left_stp HOk.out (by omega)).cnt HC.out
          have HC92 : Hid (0 ≤ n.spl ∧ n.spl < 900000) := HCI.out.2
          obtain ⟨k0, hk0⟩ : ∃ k0, p.1 = k0 := ⟨_, rfl⟩
          have HSL : Hid (Calls Try.prog 27 #[.pointer (some ⟨g, 0, none⟩)] w5 fun x' w' => ∃ q, x' = .returned (.tuple #[.pointer (some ⟨q, 0, none⟩), .string k0, .int .i64 0]) ∧ Hid (Stand (Sep (Sep (NodeI g n.left) (NodeI q n.right)) (RefI r n)) w w' [(ab, actO k x y)])) := by rw [← hk0]; exact Both.splitL H5.out HF.out HC9.out HC92.out HP.out
          have HSR : Hid (∀ u q, Stand (Sep (Sep (NodeI g n.left) (NodeI q n.right)) (RefI r n)) w u [(ab, actO k x y)] → Calls Try.prog 28 #[.pointer (some ⟨r, 0, none⟩)] u fun x' w' => ∃ s, x' = .returned (.tuple #[.pointer (some ⟨s, 0, none⟩), .string k0, .int .i64 0]) ∧ Hid (Four g n.left q n.right r n.left s n.right w w' [(ab, actO k x y)])) := fun u q hu => by rw [← hk0]; exact splitR hu HF.out HCI.out.1 HC92.out HP.out
          clear hp hk0 hfew hr0 H5
          go_wp2_with fail
          refine HSL.out.mono ?_
          rintro e w6 ⟨q, rfl, H6⟩
          go_wp2_with fail
          refine (HSR.out _ q H6.out).mono ?_
          rintro e w7 ⟨s, rfl, H7⟩
          clear HSL HSR H6
          go_wp2_with fail
          refine (Four.sameB H7.out).mono ?_
          rintro e w8 ⟨rfl, H8⟩
          clear H7
          go_wp2_with fail
          refine (Four.sameA H8.out).mono ?_
          rintro e w9 ⟨rfl, H9⟩
          clear H8
          obtain ⟨p0, p1, p2⟩ := act_cells H9.out (k := x) (x := k) (v := y) (List.mem_cons_self ..)
          go_wp2_with (go_at_call 20; go_must (refine (HAg.out _).mono ?_; rintro e w9 ⟨rfl, rfl⟩))
          have H10 : Hid (Both g n.left r n.left w w9 [(ab, actO k x y)]) := Stand.first H9.out
          try refine (Both.same H10.out).mono ?_
          rintro e w11 ⟨rfl, H11⟩
          go_wp2_with fail
          go_roundw
          case rel => exact ⟨j + 1, n.left, g, r, by omega, by go_num, rfl, rfl, HC', Stand.drop H11.out (by simp)⟩
          case measure => simp [intOf]; omega
      · have HOk : Hid n.Ok := Both.okL H5.out
        by_cases hfew : n.ks.length < 2
        · have HF : Hid (n.ks.length < 2) := hfew
          have HC' : Hid (Cnt n (j + 1)) := (Stp.refl n).cnt HC.out
          clear hfew hr0
          go_wp2_with fail
          refine (Both.fewL H5.out HF.out).mono ?_
          rintro e w6 ⟨rfl, H6⟩
          clear H5
          go_wp2_with fail
          refine (Both.fewR H6.out HF.out).mono ?_
          rintro e w7 ⟨rfl, H7⟩
          clear H6
          go_wp2_with fail
          refine (Both.same H7.out).mono ?_
          rintro e w8 ⟨rfl, H8⟩
          clear H7
          go_wp2_with fail
          refine (Both.same H8.out).mono ?_
          rintro e w9 ⟨rfl, H9⟩
          go_wp2_with fail
          go_roundw
          case rel => exact ⟨j + 1, n, g, r, by omega, by go_num, rfl, rfl, HC', Stand.drop H9.out (by simp)⟩
          case measure => simp [intOf]; omega
        · have HF : Hid (2 ≤ n.ks.length) := (by omega : 2 ≤ n.ks.length)
          obtain ⟨p, hp⟩ : ∃ p, n.ks[n.stay]? = some p := ⟨_, List.getElem?_eq_getElem (by unfold Nd.stay; omega)⟩
          have HP : Hid (n.ks[n.stay]? = some p) := hp
          have HC' : Hid (Cnt n.right (j + 1)) := right_cnt HOk.out j
          have HC92 : Hid (0 ≤ n.spl ∧ n.spl < 900000) := HCI.out.2
          obtain ⟨k0, hk0⟩ : ∃ k0, p.1 = k0 := ⟨_, rfl⟩
          have HSL : Hid (Calls Try.prog 27 #[.pointer (some ⟨g, 0, none⟩)] w5 fun x' w' => ∃ q, x' = .returned (.tuple #[.pointer (some ⟨q, 0, none⟩), .string k0, .int .i64 0]) ∧ Hid (Stand (Sep (Sep (NodeI g n.left) (NodeI q n.right)) (RefI r n)) w w' [(ab, actO k x y)])) := by rw [← hk0]; exact Both.splitL H5.out HF.out HC9.out HC92.out HP.out
          have HSR : Hid (∀ u q, Stand (Sep (Sep (NodeI g n.left) (NodeI q n.right)) (RefI r n)) w u [(ab, actO k x y)] → Calls Try.prog 28 #[.pointer (some ⟨r, 0, none⟩)] u fun x' w' => ∃ s, x' = .returned (.tuple #[.pointer (some ⟨s, 0, none⟩), .string k0, .int .i64 0]) ∧ Hid (Four g n.left q n.right r n.left s n.right w w' [(ab, actO k x y)])) := fun u q hu => by rw [← hk0]; exact splitR hu HF.out HCI.out.1 HC92.out HP.out
          clear hp hk0 hfew hr0 H5
          go_wp2_with fail
          refine HSL.out.mono ?_
          rintro e w6 ⟨q, rfl, H6⟩
          go_wp2_with fail
          refine (HSR.out _ q H6.out).mono ?_
          rintro e w7 ⟨s, rfl, H7⟩
          clear HSL HSR H6
          go_wp2_with fail
          refine (Four.sameB H7.out).mono ?_
          rintro e w8 ⟨rfl, H8⟩
          clear H7
          go_wp2_with fail
          refine (Four.sameA H8.out).mono ?_
          rintro e w9 ⟨rfl, H9⟩
          clear H8
          obtain ⟨p0, p1, p2⟩ := act_cells H9.out (k := x) (x := k) (v := y) (List.mem_cons_self ..)
          go_wp2_with (go_at_call 20; go_must (refine (HAg.out _).mono ?_; rintro e w9 ⟨rfl, rfl⟩))
          have H10 : Hid (Both q n.right s n.right w w9 [(ab, actO k x y)]) := Stand.second H9.out
          try refine (Both.same H10.out).mono ?_
          rintro e w11 ⟨rfl, H11⟩
          go_wp2_with fail
          go_roundw
          case rel => exact ⟨j + 1, n.right, q, s, by omega, by go_num, rfl, rfl, HC', Stand.drop H11.out (by simp)⟩
          case measure => simp [intOf]; omega
    · by_cases h1 : j < m
      · have h300 : ¬ ((j : Int) < 300) := by omega
        have h1I : (j : Int) < (m : Int) := by omega
        go_wp2_with fail
        refine (HWk.out _).mono ?_
        rintro e w3 ⟨rfl, rfl⟩
        go_wp2_with fail
        go_ret
        exact ⟨rfl, Stand.base HI.out⟩
      · have h1I : ¬ ((j : Int) < (m : Int)) := by omega
        go_wp2_with fail
        refine (HWk.out _).mono ?_
        rintro e w3 ⟨rfl, rfl⟩
        go_wp2_with fail
        go_ret
        exact ⟨rfl, Stand.base HI.out⟩
end PlaysL
end Go.Proofs.Ytnnkflghnapnpaa
