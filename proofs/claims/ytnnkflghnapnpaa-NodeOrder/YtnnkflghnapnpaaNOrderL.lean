/- The law NodeOrder: its walk. -/
import Derived.Test.YtnnkflghnapnpaaNMap
import Derived.Test.YtnnkflghnapnpaaNCountsP
namespace Go.Proofs.Ytnnkflghnapnpaa
open Go.RowKit Go.Maps

theorem PutsTo.err {n n' : Nd} {k : ByteArray} {v was e : Int} {there : Bool} (h : PutsTo n k v n' was there e) (he : e ≠ 0) : n' = n := by
  rcases h with ⟨_, h, _⟩ | ⟨i, _, _, _, h⟩ | ⟨_, _, _, h, _⟩ | ⟨i, _, _, _, _, _, _, _, h⟩
  · exact h
  · exact absurd h he
  · exact h
  · exact absurd h he

namespace OrderL

set_option maxRecDepth 100000 in
set_option maxHeartbeats 8000000 in
theorem walk (v0 : Value) (L : List ActV) (w : World) (hL : SliceAt w v0 3 ActV.en L) (hZ : ∀ a ∈ L, a.Ok) :
    Calls Try.prog 5 #[v0] w fun e w' => e = .returned (.bool true) ∧ Below w.heap.size w w' := by
  obtain ⟨av, cv, rfl, hlc, hcm, hx⟩ := acts_open hL
  unfold maxLen at hcm
  have HX : Hid (∀ u, Below w.heap.size w u → ∀ i, (hi : i < L.length) → ∃ b off, av = some ⟨b, off, none⟩ ∧ u.cell? ⟨b, off + i * 3, none⟩ = some (.int .i64 L[i].kind) ∧ u.cell? ⟨b, off + i * 3 + 1, none⟩ = some (.string L[i].key) ∧ u.cell? ⟨b, off + i * 3 + 2, none⟩ = some (.int .i64 L[i].value)) := hx
  have HZ : Hid (∀ a ∈ L, a.Ok) := hZ
  obtain ⟨m, hm⟩ : ∃ m, L.length = m := ⟨_, rfl⟩
  have HM : Hid (L.length = m) := hm
  rw [hm] at hlc ⊢
  clear hx hL hm hZ
  have HNew : Hid (Calls Try.prog 18 #[] w fun e w' => ∃ g, e = .returned (.pointer (some ⟨g, 0, none⟩)) ∧ Hid (Has g Nd.new w w' [])) := has_new (Below.refl _ _)
  have HWk : Hid (∀ u : World, Calls Try.prog 17 #[] u fun e w' => e = .returned (.bool true) ∧ w' = u) := works_any
  have hmm := @run_makeMap Try.prog
  go_enter Try.func5, Try.ntmps5
  go_wp2_with fail
  refine HNew.out.mono ?_
  rintro e w1 ⟨g, rfl, H1⟩
  clear HNew
  go_wp2_with fail
  refine (HWk.out _).mono ?_
  rintro e w2 ⟨rfl, rfl⟩
  have H2 : Hid (Has g Nd.new w (w2.alloc (.map #[] 0)) [(w2.heap.size, .map #[] 0)]) := Stand.alloc (nodeI_res _ _) H1.out (.map #[] 0)
  have HM0 : Hid (MapO w2.heap.size (.map #[] 0) 0 Nd.new.ks) := ⟨_, heap_new w2 _, mapIs_made w2⟩
  obtain ⟨mb, hmb⟩ : ∃ mb, w2.heap.size = mb := ⟨_, rfl⟩
  rw [hmb] at H2 HM0
  obtain ⟨n0, hn0⟩ : ∃ n0, Nd.new = n0 := ⟨_, rfl⟩
  have HC0 : Hid (Cnt n0 0) := by
    rw [← hn0]
    exact (by decide : (0 : Int) ≤ 0 ∧ (0 : Int) ≤ 8 * ((0 : Nat) : Int) ∧ (0 : Int) ≤ 0 ∧ (0 : Int) ≤ ((0 : Nat) : Int))
  rw [hn0] at H2 HM0
  clear hn0 H1
  go_wp2_with fail
  try rw [hmb]
  go_loopw [5] (fun i wr => ∃ (j : Nat) (n : Nd) (O : Obj), j ≤ 200 ∧ i = .int .i64 j ∧ Hid (Cnt n j) ∧ Hid (MapO mb O j n.ks) ∧ Hid (Has g n w wr [(mb, O)])) (fun i _ => 200 - (intOf i).toNat)
  case atStart => exact ⟨0, n0, _, by omega, rfl, HC0, HM0, H2⟩
  case round =>
    clear H2 HC0 HM0 hmb
    obtain ⟨j, n, O, hj, rfl, HC, HO, HI⟩ := hrel
    by_cases hlt : j < m ∧ j < 200
    · obtain ⟨hlt, h200⟩ := hlt
      have hlL : j < L.length := by rw [HM.out]; exact hlt
      obtain ⟨b, off, rfl, t0, t1, t2⟩ := HX.out wr (Stand.base HI.out) j hlL
      have hOk := HZ.out _ (List.getElem_mem hlL)
      obtain ⟨k, hk⟩ : ∃ k, L[j].kind = k := ⟨_, rfl⟩
      obtain ⟨x, hx⟩ : ∃ x, L[j].key = x := ⟨_, rfl⟩
      obtain ⟨y, hy⟩ : ∃ y, L[j].value = y := ⟨_, rfl⟩
      have HNm : Hid (Num y) := by rw [← hy]; exact hOk.value
      have HKs : Hid (x.size ≤ maxLen) := by
        rw [← hx]
        have := hOk.key
        show _ ≤ _
        unfold reachBytes at this
        unfold maxLen
        omega
      rw [hk] at t0
      rw [hx] at t1
      rw [hy] at t2
      have hlI : (j : Int) < (m : Int) := by omega
      have h200I : (j : Int) < 200 := by omega
      have HB2 : Hid (Has g n w (wr.alloc (actO k x y)) [(wr.heap.size, actO k x y), (mb, O)]) := HI.out.boxAct k x y
      obtain ⟨r, hr⟩ : ∃ r, k % 3 = r := ⟨_, rfl⟩
      have hr0 : 0 ≤ r ∧ r < 3 := by omega
      have HAm : Hid (Calls Try.prog 20 #[.int .i64 k, .int .i64 3] (wr.alloc (actO k x y)) fun e w' => e = .returned (.int .i64 r) ∧ Hid (Has g n w w' [(wr.heap.size, actO k x y), (mb, O)])) := (among_any k 3 _ (by omega) (by omega)).mono fun e w' ⟨he, hw⟩ => ⟨hr ▸ he, hw ▸ HB2⟩
      obtain ⟨q, hq⟩ : ∃ q, wr.heap.size = q := ⟨_, rfl⟩
      have HQ : Hid (q ≠ mb) := by
        show _ ≠ _
        have := (Stand.lt HI.out (b := mb) (o := O) (by simp)).2
        omega
      rw [hq] at HAm HB2
      have HCI : Hid ((0 ≤ n.ins ∧ n.ins < 900000) ∧ (0 ≤ n.spl ∧ n.spl < 900000)) := by
        obtain ⟨c1, c2, c3, c4⟩ := HC.out
        exact ⟨⟨c1, by omega⟩, ⟨c3, by omega⟩⟩
      clear hk hx hy hr HB2 hlL hOk
      go_wp2_with fail
      try rw [hq]
      refine HAm.out.mono ?_
      rintro e w5 ⟨rfl, H5⟩
      obtain ⟨q0, q1, q2⟩ := H5.out.actCells (k := x) (x := k) (v := y) (List.mem_cons_self ..)
      clear HAm hq t0 t1 t2 HI
      rcases (by omega : r = 0 ∨ r = 1 ∨ r = 2) with rfl | rfl | rfl
      · obtain ⟨n', was, th, e0, hp⟩ := puts_ex H5.out.ok x y
        have HP : Hid (Calls Try.prog 21 #[.pointer (some ⟨g, 0, none⟩), .string x, .int .i64 y] w5 fun e w' => e = .returned (.tuple #[.int .i64 was, .bool th, .int .i64 e0]) ∧ Hid (Has g n' w w' [(q, actO k x y), (mb, O)])) := H5.out.put hp HNm.out HCI.out.1
        have HC' : Hid (Cnt n' (j + 1)) := hp.stp.cnt HC.out
        by_cases he : e0 = 0
        · have HPL : Hid (PutL n.ks n'.ks x y) := hp.putL H5.out.ok he
          subst he
          clear hp H5 hr0
          go_wp2_with (first
            | (go_at_call 21; go_must (refine HP.out.mono ?_; rintro e w6 ⟨rfl, H6⟩; obtain ⟨p0, p1, p2⟩ := H6.out.actCells (k := x) (x := k) (v := y) (List.mem_cons_self ..); have HMi : Hid (MapIs w6 mb j n.ks) := HO.out.is (Stand.at H6.out (by simp))))
            | (refine wpList_putS rfl _ _ _ rfl rfl HMi.out (by omega) rfl HKs.out rfl HNm.out HPL.out ?_; intro wt k1 k2; have K1 : Hid (MapIs wt mb (j + 1) n'.ks) := k1; have K2 : Hid (Turn (fun i => i = mb) w6 wt) := k2; clear k1 k2))
          obtain ⟨O2, hO2, hO3⟩ := K1.out.obj
          have HO2 : Hid (MapO mb O2 (j + 1) n'.ks) := hO3
          have HT : Hid (Has g n' w wt [(mb, O2)]) := Stand.write (nodeI_res _ _) H6.out (b := mb) (o := O) (by simp) K2.out hO2 _ (by simp)
          clear hO2 hO3 K1 K2 H6 HMi HPL q0 q1 q2 p0 p1 p2
          go_wp2_with fail
          refine (HT.out.keys).mono ?_
          rintro e w8 ⟨kb, rfl, H8⟩
          clear HT
          have hNk : n'.keys.length = n'.ks.length := by simp [Nd.keys]
          obtain ⟨N, hN⟩ : ∃ N, n'.ks.length = N := ⟨_, rfl⟩
          obtain ⟨W, hW⟩ : ∃ W, n'.word = W := ⟨_, rfl⟩
          have HLn : Hid (n'.ks.length = N) := hN
          have hok := H8.out.ok
          have hf : N ≤ 15 := by have := hok.few; omega
          have hW16 : W % 16 = (N : Int) := by rw [← hW, ← hN]; exact hok.wd.used
          obtain ⟨hW0, hW1⟩ : 0 ≤ W ∧ W < 18446744073709551616 := by rw [← hW]; exact hok.wd.range
          have HOr : Hid (Calls Try.prog 31 #[.pointer (some ⟨g, 0, none⟩)] w8 fun e w' => e = .returned (.int .u64 W) ∧ w' = w8) := by rw [← hW]; exact H8.out.order
          have HCk : Hid (∀ u : World, Calls Try.prog 15 #[.int .u64 W] u fun e w' => e = .returned (.int .i64 0) ∧ w' = u) := fun u => by
            have := check_any hok.wd u
            rw [chk_yes hok.may, hW] at this
            exact this
          have HMi8 : Hid (MapIs w8 mb (j + 1) n'.ks) := HO2.out.is (Stand.at H8.out (by simp))
          have HTx : Hid (TextsAt w8 kb n'.keys) := Stand.at H8.out (by simp)
          have HRise : Hid (∀ z a c, n'.keys[z]? = some a → n'.keys[z + 1]? = some c → bl a c = true) := fun z a c ha hc => by
            unfold Nd.keys at ha hc
            rw [List.getElem?_map] at ha hc
            obtain ⟨pa, hpa, rfl⟩ := Option.map_eq_some_iff.1 ha
            obtain ⟨pc, hpc, rfl⟩ := Option.map_eq_some_iff.1 hc
            exact hok.lt (Nat.lt_succ_self z) hpa hpc
          rw [hNk, hN]
          clear hN hW hok hNk
          go_wp2_with (first
            | (refine wpList_lenS rfl _ rfl rfl HMi8.out HLn.out ?_)
            | (go_at_call 31; go_must (refine HOr.out.mono ?_; rintro e w8 ⟨rfl, rfl⟩))
            | (go_at_call 15; go_must (refine (HCk.out _).mono ?_; rintro e w8 ⟨rfl, rfl⟩)))
          go_loopw [19] (fun i wq => ∃ (z m : Nat), (z + 1 ≤ N ∨ z = 0) ∧ i = .int .i64 ((z : Int) + 1) ∧ wq = w8.drewN m) (fun i _ => N + 1 - (intOf i).toNat)
          case atStart => exact ⟨0, 0, Or.inr rfl, rfl, rfl⟩
          case round =>
            obtain ⟨z, mm, hz, rfl, rfl⟩ := hrel
            by_cases hzl : z + 1 < N
            · have hzI : (z : Int) + 1 < (N : Int) := by omega
              have hkl : n'.keys.length = N := by rw [← HLn.out]; simp [Nd.keys]
              obtain ⟨a, ha⟩ : ∃ a, n'.keys[z]? = some a := ⟨_, List.getElem?_eq_getElem (by omega)⟩
              obtain ⟨c, hc⟩ : ∃ c, n'.keys[z + 1]? = some c := ⟨_, List.getElem?_eq_getElem (by omega)⟩
              have hb : Op.bytesLess a.toList c.toList = true := HRise.out z a c ha hc
              have u0 : w8.cell? ⟨kb, z, none⟩ = some (.string a) := by rw [cell_of HTx.out, List.getElem?_toArray]; exact scells_get ha
              have u1 : w8.cell? ⟨kb, z + 1, none⟩ = some (.string c) := by rw [cell_of HTx.out, List.getElem?_toArray]; exact scells_get hc
              clear ha hc hkl
              go_wp2
              go_quiet (fail)
              go_wp2
              go_roundw
              case rel => exact ⟨z + 1, _, by omega, by go_num, rfl⟩
              case measure => simp [intOf]; omega
            · have hzI : ¬ (z : Int) + 1 < (N : Int) := by omega
              go_wp2
              go_roundw
              case rel => exact ⟨j + 1, n', _, by omega, by go_num, HC', HO2, Stand.drop (Stand.drewN (nodeI_res _ _) H8.out mm) (by simp)⟩
              case measure => simp [intOf]; omega
        · have HO2 : Hid (MapO mb O (j + 1) n'.ks) := by
            rw [hp.err he]
            exact HO.out.mono (Nat.le_succ j)
          have heb : (e0 == 0) = false := by rw [beq_eq_false_iff_ne]; exact he
          clear hp H5 hr0 
          go_wp2_with (go_at_call 21; go_must (refine HP.out.mono ?_; rintro e wt ⟨rfl, H6⟩))
          have HT : Hid (Has g n' w wt [(mb, O)]) := Stand.drop H6.out (by simp)
          clear H6 q0 q1 q2
          go_wp2_with fail
          refine (HT.out.keys).mono ?_
          rintro e w8 ⟨kb, rfl, H8⟩
          clear HT
          have hNk : n'.keys.length = n'.ks.length := by simp [Nd.keys]
          obtain ⟨N, hN⟩ : ∃ N, n'.ks.length = N := ⟨_, rfl⟩
          obtain ⟨W, hW⟩ : ∃ W, n'.word = W := ⟨_, rfl⟩
          have HLn : Hid (n'.ks.length = N) := hN
          have hok := H8.out.ok
          have hf : N ≤ 15 := by have := hok.few; omega
          have hW16 : W % 16 = (N : Int) := by rw [← hW, ← hN]; exact hok.wd.used
          obtain ⟨hW0, hW1⟩ : 0 ≤ W ∧ W < 18446744073709551616 := by rw [← hW]; exact hok.wd.range
          have HOr : Hid (Calls Try.prog 31 #[.pointer (some ⟨g, 0, none⟩)] w8 fun e w' => e = .returned (.int .u64 W) ∧ w' = w8) := by rw [← hW]; exact H8.out.order
          have HCk : Hid (∀ u : World, Calls Try.prog 15 #[.int .u64 W] u fun e w' => e = .returned (.int .i64 0) ∧ w' = u) := fun u => by
            have := check_any hok.wd u
            rw [chk_yes hok.may, hW] at this
            exact this
          have HMi8 : Hid (MapIs w8 mb (j + 1) n'.ks) := HO2.out.is (Stand.at H8.out (by simp))
          have HTx : Hid (TextsAt w8 kb n'.keys) := Stand.at H8.out (by simp)
          have HRise : Hid (∀ z a c, n'.keys[z]? = some a → n'.keys[z + 1]? = some c → bl a c = true) := fun z a c ha hc => by
            unfold Nd.keys at ha hc
            rw [List.getElem?_map] at ha hc
            obtain ⟨pa, hpa, rfl⟩ := Option.map_eq_some_iff.1 ha
            obtain ⟨pc, hpc, rfl⟩ := Option.map_eq_some_iff.1 hc
            exact hok.lt (Nat.lt_succ_self z) hpa hpc
          rw [hNk, hN]
          clear hN hW hok hNk
          go_wp2_with (first
            | (refine wpList_lenS rfl _ rfl rfl HMi8.out HLn.out ?_)
            | (go_at_call 31; go_must (refine HOr.out.mono ?_; rintro e w8 ⟨rfl, rfl⟩))
            | (go_at_call 15; go_must (refine (HCk.out _).mono ?_; rintro e w8 ⟨rfl, rfl⟩)))
          go_loopw [19] (fun i wq => ∃ (z m : Nat), (z + 1 ≤ N ∨ z = 0) ∧ i = .int .i64 ((z : Int) + 1) ∧ wq = w8.drewN m) (fun i _ => N + 1 - (intOf i).toNat)
          case atStart => exact ⟨0, 0, Or.inr rfl, rfl, rfl⟩
          case round =>
            obtain ⟨z, mm, hz, rfl, rfl⟩ := hrel
            by_cases hzl : z + 1 < N
            · have hzI : (z : Int) + 1 < (N : Int) := by omega
              have hkl : n'.keys.length = N := by rw [← HLn.out]; simp [Nd.keys]
              obtain ⟨a, ha⟩ : ∃ a, n'.keys[z]? = some a := ⟨_, List.getElem?_eq_getElem (by omega)⟩
              obtain ⟨c, hc⟩ : ∃ c, n'.keys[z + 1]? = some c := ⟨_, List.getElem?_eq_getElem (by omega)⟩
              have hb : Op.bytesLess a.toList c.toList = true := HRise.out z a c ha hc
              have u0 : w8.cell? ⟨kb, z, none⟩ = some (.string a) := by rw [cell_of HTx.out, List.getElem?_toArray]; exact scells_get ha
              have u1 : w8.cell? ⟨kb, z + 1, none⟩ = some (.string c) := by rw [cell_of HTx.out, List.getElem?_toArray]; exact scells_get hc
              clear ha hc hkl
              go_wp2
              go_quiet (fail)
              go_wp2
              go_roundw
              case rel => exact ⟨z + 1, _, by omega, by go_num, rfl⟩
              case measure => simp [intOf]; omega
            · have hzI : ¬ (z : Int) + 1 < (N : Int) := by omega
              go_wp2
              go_roundw
              case rel => exact ⟨j + 1, n', _, by omega, by go_num, HC', HO2, Stand.drop (Stand.drewN (nodeI_res _ _) H8.out mm) (by simp)⟩
              case measure => simp [intOf]; omega
      · obtain ⟨v, bb, hg⟩ := gets_ex n x
        have HP : Hid (Calls Try.prog 23 #[.pointer (some ⟨g, 0, none⟩), .string x] w5 fun e w' => e = .returned (.tuple #[.int .i64 v, .bool bb]) ∧ Hid (Has g n w w' [(q, actO k x y), (mb, O)]) ∧ ∃ m, w' = w5.drewN m) := H5.out.get hg
        have HG : Hid (GetsTo n x v bb) := hg
        have HC' : Hid (Cnt n (j + 1)) := (Stp.refl n).cnt HC.out
        have HO2 : Hid (MapO mb O (j + 1) n.ks) := HO.out.mono (Nat.le_succ j)
        clear hg H5 hr0
        cases bb
        all_goals
          go_wp2_with (first
            | (go_at_call 23; go_must (refine HP.out.mono ?_; rintro e wt ⟨rfl, H6, -⟩; obtain ⟨p0, p1, p2⟩ := H6.out.actCells (k := x) (x := k) (v := y) (List.mem_cons_self ..); have HMi : Hid (MapIs wt mb j n.ks) := HO.out.is (Stand.at H6.out (by simp))))
            | (refine wpList_lookS rfl _ _ rfl rfl HMi.out rfl HKs.out HG.out ?_))
          have HT : Hid (Has g n w wt [(mb, O)]) := Stand.drop H6.out (by simp)
          clear H6 q0 q1 q2 p0 p1 p2 HMi
          go_wp2_with fail
          refine (HT.out.keys).mono ?_
          rintro e w8 ⟨kb, rfl, H8⟩
          clear HT
          have hNk : n.keys.length = n.ks.length := by simp [Nd.keys]
          obtain ⟨N, hN⟩ : ∃ N, n.ks.length = N := ⟨_, rfl⟩
          obtain ⟨W, hW⟩ : ∃ W, n.word = W := ⟨_, rfl⟩
          have HLn : Hid (n.ks.length = N) := hN
          have hok := H8.out.ok
          have hf : N ≤ 15 := by have := hok.few; omega
          have hW16 : W % 16 = (N : Int) := by rw [← hW, ← hN]; exact hok.wd.used
          obtain ⟨hW0, hW1⟩ : 0 ≤ W ∧ W < 18446744073709551616 := by rw [← hW]; exact hok.wd.range
          have HOr : Hid (Calls Try.prog 31 #[.pointer (some ⟨g, 0, none⟩)] w8 fun e w' => e = .returned (.int .u64 W) ∧ w' = w8) := by rw [← hW]; exact H8.out.order
          have HCk : Hid (∀ u : World, Calls Try.prog 15 #[.int .u64 W] u fun e w' => e = .returned (.int .i64 0) ∧ w' = u) := fun u => by
            have := check_any hok.wd u
            rw [chk_yes hok.may, hW] at this
            exact this
          have HMi8 : Hid (MapIs w8 mb (j + 1) n.ks) := HO2.out.is (Stand.at H8.out (by simp))
          have HTx : Hid (TextsAt w8 kb n.keys) := Stand.at H8.out (by simp)
          have HRise : Hid (∀ z a c, n.keys[z]? = some a → n.keys[z + 1]? = some c → bl a c = true) := fun z a c ha hc => by
            unfold Nd.keys at ha hc
            rw [List.getElem?_map] at ha hc
            obtain ⟨pa, hpa, rfl⟩ := Option.map_eq_some_iff.1 ha
            obtain ⟨pc, hpc, rfl⟩ := Option.map_eq_some_iff.1 hc
            exact hok.lt (Nat.lt_succ_self z) hpa hpc
          rw [hNk, hN]
          clear hN hW hok hNk
          go_wp2_with (first
            | (refine wpList_lenS rfl _ rfl rfl HMi8.out HLn.out ?_)
            | (go_at_call 31; go_must (refine HOr.out.mono ?_; rintro e w8 ⟨rfl, rfl⟩))
            | (go_at_call 15; go_must (refine (HCk.out _).mono ?_; rintro e w8 ⟨rfl, rfl⟩)))
          go_loopw [19] (fun i wq => ∃ (z m : Nat), (z + 1 ≤ N ∨ z = 0) ∧ i = .int .i64 ((z : Int) + 1) ∧ wq = w8.drewN m) (fun i _ => N + 1 - (intOf i).toNat)
          case atStart => exact ⟨0, 0, Or.inr rfl, rfl, rfl⟩
          case round =>
            obtain ⟨z, mm, hz, rfl, rfl⟩ := hrel
            by_cases hzl : z + 1 < N
            · have hzI : (z : Int) + 1 < (N : Int) := by omega
              have hkl : n.keys.length = N := by rw [← HLn.out]; simp [Nd.keys]
              obtain ⟨a, ha⟩ : ∃ a, n.keys[z]? = some a := ⟨_, List.getElem?_eq_getElem (by omega)⟩
              obtain ⟨c, hc⟩ : ∃ c, n.keys[z + 1]? = some c := ⟨_, List.getElem?_eq_getElem (by omega)⟩
              have hb : Op.bytesLess a.toList c.toList = true := HRise.out z a c ha hc
              have u0 : w8.cell? ⟨kb, z, none⟩ = some (.string a) := by rw [cell_of HTx.out, List.getElem?_toArray]; exact scells_get ha
              have u1 : w8.cell? ⟨kb, z + 1, none⟩ = some (.string c) := by rw [cell_of HTx.out, List.getElem?_toArray]; exact scells_get hc
              clear ha hc hkl
              go_wp2
              go_quiet (fail)
              go_wp2
              go_roundw
              case rel => exact ⟨z + 1, _, by omega, by go_num, rfl⟩
              case measure => simp [intOf]; omega
            · have hzI : ¬ (z : Int) + 1 < (N : Int) := by omega
              go_wp2
              go_roundw
              case rel => exact ⟨j + 1, n, _, by omega, by go_num, HC', HO2, Stand.drop (Stand.drewN (nodeI_res _ _) H8.out mm) (by simp)⟩
              case measure => simp [intOf]; omega
      · obtain ⟨n', was, e0, hp⟩ := takes_ex n x
        have HP : Hid (Calls Try.prog 25 #[.pointer (some ⟨g, 0, none⟩), .string x] w5 fun e w' => e = .returned (.tuple #[.int .i64 was, .int .i64 e0]) ∧ Hid (Has g n' w w' [(q, actO k x y), (mb, O)])) := H5.out.take hp HCI.out.1
        have HC' : Hid (Cnt n' (j + 1)) := hp.stp.cnt HC.out
        have HDL : Hid (DelL n.ks n'.ks x) := hp.delL H5.out.ok
        have hg := hp.gets
        by_cases he : e0 = 0
        · rw [decide_eq_true he] at hg
          have HG : Hid (GetsTo n x was true) := hg
          subst he
          clear hp hg H5 hr0
          go_wp2_with (first
            | (go_at_call 25; go_must (refine HP.out.mono ?_; rintro e w6 ⟨rfl, H6⟩; obtain ⟨p0, p1, p2⟩ := H6.out.actCells (k := x) (x := k) (v := y) (List.mem_cons_self ..); have HMi : Hid (MapIs w6 mb j n.ks) := HO.out.is (Stand.at H6.out (by simp))))
            | (refine wpList_lookS rfl _ _ rfl rfl HMi.out rfl HKs.out HG.out ?_)
            | (refine wpList_delS rfl _ _ rfl rfl HMi.out rfl HKs.out HDL.out ?_; intro wt k1 k2; have K1 : Hid (MapIs wt mb j n'.ks) := k1; have K2 : Hid (Turn (fun i => i = mb) w6 wt) := k2; clear k1 k2))
          obtain ⟨O2, hO2, hO3⟩ := K1.out.obj
          have HO2 : Hid (MapO mb O2 (j + 1) n'.ks) := hO3.mono (Nat.le_succ j)
          have HT : Hid (Has g n' w wt [(mb, O2)]) := Stand.write (nodeI_res _ _) H6.out (b := mb) (o := O) (by simp) K2.out hO2 _ (by simp)
          clear hO2 hO3 K1 K2 H6 HMi HDL q0 q1 q2 p0 p1 p2
          go_wp2_with fail
          refine (HT.out.keys).mono ?_
          rintro e w8 ⟨kb, rfl, H8⟩
          clear HT
          have hNk : n'.keys.length = n'.ks.length := by simp [Nd.keys]
          obtain ⟨N, hN⟩ : ∃ N, n'.ks.length = N := ⟨_, rfl⟩
          obtain ⟨W, hW⟩ : ∃ W, n'.word = W := ⟨_, rfl⟩
          have HLn : Hid (n'.ks.length = N) := hN
          have hok := H8.out.ok
          have hf : N ≤ 15 := by have := hok.few; omega
          have hW16 : W % 16 = (N : Int) := by rw [← hW, ← hN]; exact hok.wd.used
          obtain ⟨hW0, hW1⟩ : 0 ≤ W ∧ W < 18446744073709551616 := by rw [← hW]; exact hok.wd.range
          have HOr : Hid (Calls Try.prog 31 #[.pointer (some ⟨g, 0, none⟩)] w8 fun e w' => e = .returned (.int .u64 W) ∧ w' = w8) := by rw [← hW]; exact H8.out.order
          have HCk : Hid (∀ u : World, Calls Try.prog 15 #[.int .u64 W] u fun e w' => e = .returned (.int .i64 0) ∧ w' = u) := fun u => by
            have := check_any hok.wd u
            rw [chk_yes hok.may, hW] at this
            exact this
          have HMi8 : Hid (MapIs w8 mb (j + 1) n'.ks) := HO2.out.is (Stand.at H8.out (by simp))
          have HTx : Hid (TextsAt w8 kb n'.keys) := Stand.at H8.out (by simp)
          have HRise : Hid (∀ z a c, n'.keys[z]? = some a → n'.keys[z + 1]? = some c → bl a c = true) := fun z a c ha hc => by
            unfold Nd.keys at ha hc
            rw [List.getElem?_map] at ha hc
            obtain ⟨pa, hpa, rfl⟩ := Option.map_eq_some_iff.1 ha
            obtain ⟨pc, hpc, rfl⟩ := Option.map_eq_some_iff.1 hc
            exact hok.lt (Nat.lt_succ_self z) hpa hpc
          rw [hNk, hN]
          clear hN hW hok hNk
          go_wp2_with (first
            | (refine wpList_lenS rfl _ rfl rfl HMi8.out HLn.out ?_)
            | (go_at_call 31; go_must (refine HOr.out.mono ?_; rintro e w8 ⟨rfl, rfl⟩))
            | (go_at_call 15; go_must (refine (HCk.out _).mono ?_; rintro e w8 ⟨rfl, rfl⟩)))
          go_loopw [19] (fun i wq => ∃ (z m : Nat), (z + 1 ≤ N ∨ z = 0) ∧ i = .int .i64 ((z : Int) + 1) ∧ wq = w8.drewN m) (fun i _ => N + 1 - (intOf i).toNat)
          case atStart => exact ⟨0, 0, Or.inr rfl, rfl, rfl⟩
          case round =>
            obtain ⟨z, mm, hz, rfl, rfl⟩ := hrel
            by_cases hzl : z + 1 < N
            · have hzI : (z : Int) + 1 < (N : Int) := by omega
              have hkl : n'.keys.length = N := by rw [← HLn.out]; simp [Nd.keys]
              obtain ⟨a, ha⟩ : ∃ a, n'.keys[z]? = some a := ⟨_, List.getElem?_eq_getElem (by omega)⟩
              obtain ⟨c, hc⟩ : ∃ c, n'.keys[z + 1]? = some c := ⟨_, List.getElem?_eq_getElem (by omega)⟩
              have hb : Op.bytesLess a.toList c.toList = true := HRise.out z a c ha hc
              have u0 : w8.cell? ⟨kb, z, none⟩ = some (.string a) := by rw [cell_of HTx.out, List.getElem?_toArray]; exact scells_get ha
              have u1 : w8.cell? ⟨kb, z + 1, none⟩ = some (.string c) := by rw [cell_of HTx.out, List.getElem?_toArray]; exact scells_get hc
              clear ha hc hkl
              go_wp2
              go_quiet (fail)
              go_wp2
              go_roundw
              case rel => exact ⟨z + 1, _, by omega, by go_num, rfl⟩
              case measure => simp [intOf]; omega
            · have hzI : ¬ (z : Int) + 1 < (N : Int) := by omega
              go_wp2
              go_roundw
              case rel => exact ⟨j + 1, n', _, by omega, by go_num, HC', HO2, Stand.drop (Stand.drewN (nodeI_res _ _) H8.out mm) (by simp)⟩
              case measure => simp [intOf]; omega
        · rw [decide_eq_false he] at hg
          have HG : Hid (GetsTo n x was false) := hg
          have heb : (e0 == 0) = false := by rw [beq_eq_false_iff_ne]; exact he
          clear hp hg H5 hr0
          go_wp2_with (first
            | (go_at_call 25; go_must (refine HP.out.mono ?_; rintro e w6 ⟨rfl, H6⟩; obtain ⟨p0, p1, p2⟩ := H6.out.actCells (k := x) (x := k) (v := y) (List.mem_cons_self ..); have HMi : Hid (MapIs w6 mb j n.ks) := HO.out.is (Stand.at H6.out (by simp))))
            | (refine wpList_lookS rfl _ _ rfl rfl HMi.out rfl HKs.out HG.out ?_)
            | (refine wpList_delS rfl _ _ rfl rfl HMi.out rfl HKs.out HDL.out ?_; intro wt k1 k2; have K1 : Hid (MapIs wt mb j n'.ks) := k1; have K2 : Hid (Turn (fun i => i = mb) w6 wt) := k2; clear k1 k2))
          obtain ⟨O2, hO2, hO3⟩ := K1.out.obj
          have HO2 : Hid (MapO mb O2 (j + 1) n'.ks) := hO3.mono (Nat.le_succ j)
          have HT : Hid (Has g n' w wt [(mb, O2)]) := Stand.write (nodeI_res _ _) H6.out (b := mb) (o := O) (by simp) K2.out hO2 _ (by simp)
          clear hO2 hO3 K1 K2 H6 HMi HDL q0 q1 q2 p0 p1 p2
          go_wp2_with fail
          refine (HT.out.keys).mono ?_
          rintro e w8 ⟨kb, rfl, H8⟩
          clear HT
          have hNk : n'.keys.length = n'.ks.length := by simp [Nd.keys]
          obtain ⟨N, hN⟩ : ∃ N, n'.ks.length = N := ⟨_, rfl⟩
          obtain ⟨W, hW⟩ : ∃ W, n'.word = W := ⟨_, rfl⟩
          have HLn : Hid (n'.ks.length = N) := hN
          have hok := H8.out.ok
          have hf : N ≤ 15 := by have := hok.few; omega
          have hW16 : W % 16 = (N : Int) := by rw [← hW, ← hN]; exact hok.wd.used
          obtain ⟨hW0, hW1⟩ : 0 ≤ W ∧ W < 18446744073709551616 := by rw [← hW]; exact hok.wd.range
          have HOr : Hid (Calls Try.prog 31 #[.pointer (some ⟨g, 0, none⟩)] w8 fun e w' => e = .returned (.int .u64 W) ∧ w' = w8) := by rw [← hW]; exact H8.out.order
          have HCk : Hid (∀ u : World, Calls Try.prog 15 #[.int .u64 W] u fun e w' => e = .returned (.int .i64 0) ∧ w' = u) := fun u => by
            have := check_any hok.wd u
            rw [chk_yes hok.may, hW] at this
            exact this
          have HMi8 : Hid (MapIs w8 mb (j + 1) n'.ks) := HO2.out.is (Stand.at H8.out (by simp))
          have HTx : Hid (TextsAt w8 kb n'.keys) := Stand.at H8.out (by simp)
          have HRise : Hid (∀ z a c, n'.keys[z]? = some a → n'.keys[z + 1]? = some c → bl a c = true) := fun z a c ha hc => by
            unfold Nd.keys at ha hc
            rw [List.getElem?_map] at ha hc
            obtain ⟨pa, hpa, rfl⟩ := Option.map_eq_some_iff.1 ha
            obtain ⟨pc, hpc, rfl⟩ := Option.map_eq_some_iff.1 hc
            exact hok.lt (Nat.lt_succ_self z) hpa hpc
          rw [hNk, hN]
          clear hN hW hok hNk
          go_wp2_with (first
            | (refine wpList_lenS rfl _ rfl rfl HMi8.out HLn.out ?_)
            | (go_at_call 31; go_must (refine HOr.out.mono ?_; rintro e w8 ⟨rfl, rfl⟩))
            | (go_at_call 15; go_must (refine (HCk.out _).mono ?_; rintro e w8 ⟨rfl, rfl⟩)))
          go_loopw [19] (fun i wq => ∃ (z m : Nat), (z + 1 ≤ N ∨ z = 0) ∧ i = .int .i64 ((z : Int) + 1) ∧ wq = w8.drewN m) (fun i _ => N + 1 - (intOf i).toNat)
          case atStart => exact ⟨0, 0, Or.inr rfl, rfl, rfl⟩
          case round =>
            obtain ⟨z, mm, hz, rfl, rfl⟩ := hrel
            by_cases hzl : z + 1 < N
            · have hzI : (z : Int) + 1 < (N : Int) := by omega
              have hkl : n'.keys.length = N := by rw [← HLn.out]; simp [Nd.keys]
              obtain ⟨a, ha⟩ : ∃ a, n'.keys[z]? = some a := ⟨_, List.getElem?_eq_getElem (by omega)⟩
              obtain ⟨c, hc⟩ : ∃ c, n'.keys[z + 1]? = some c := ⟨_, List.getElem?_eq_getElem (by omega)⟩
              have hb : Op.bytesLess a.toList c.toList = true := HRise.out z a c ha hc
              have u0 : w8.cell? ⟨kb, z, none⟩ = some (.string a) := by rw [cell_of HTx.out, List.getElem?_toArray]; exact scells_get ha
              have u1 : w8.cell? ⟨kb, z + 1, none⟩ = some (.string c) := by rw [cell_of HTx.out, List.getElem?_toArray]; exact scells_get hc
              clear ha hc hkl
              go_wp2
              go_quiet (fail)
              go_wp2
              go_roundw
              case rel => exact ⟨z + 1, _, by omega, by go_num, rfl⟩
              case measure => simp [intOf]; omega
            · have hzI : ¬ (z : Int) + 1 < (N : Int) := by omega
              go_wp2
              go_roundw
              case rel => exact ⟨j + 1, n', _, by omega, by go_num, HC', HO2, Stand.drop (Stand.drewN (nodeI_res _ _) H8.out mm) (by simp)⟩
              case measure => simp [intOf]; omega
    · by_cases h1 : j < m
      · have h200 : ¬ ((j : Int) < 200) := by omega
        have h1I : (j : Int) < (m : Int) := by omega
        go_wp2_with fail
        go_ret
        exact ⟨rfl, Stand.base HI.out⟩
      · have h1I : ¬ ((j : Int) < (m : Int)) := by omega
        go_wp2_with fail
        go_ret
        exact ⟨rfl, Stand.base HI.out⟩
end OrderL
end Go.Proofs.Ytnnkflghnapnpaa
