/- SchemaBack's walk (the end, which two ways lead to, is written twice by a program). -/
import Derived.Test.YtnboanlhdllhnaaGreatZBackP
import Derived.Test.YtnboanlhdllhnaaGreatZSideA
import Derived.Test.YtnboanlhdllhnaaGreatZWorks
import Derived.Test.YtnboanlhdllhnaaGreatZTexts
namespace Go.Proofs.YtnboanlhdllhnaaGreat
open Go.RowKit Go.Maps

namespace BackL

set_option maxRecDepth 100000 in
set_option maxHeartbeats 8000000 in
theorem walk (v0 : Value) (L0 : List Tv) (bs : ByteArray) (w : World) (h0 : SliceAt w v0 4 enT L0) (hZ : ∀ a ∈ L0, a.Ok w) (_hd : bs.size ≤ reachBytes) :
    Calls Tryz.prog 5 #[v0, .string bs] w fun e w' => e = .returned (.bool true) ∧ Below w.heap.size w w' := by
  obtain ⟨av, cv, rfl, hlc, hcm, hx⟩ := h0.opened
  unfold maxLen at hcm
  have HX : Hid (∀ u, Below w.heap.size w u → ∀ i t, L0[i]? = some t → ∃ b off, av = some ⟨b, off, none⟩ ∧ u.cell? ⟨b, off + i * 4, none⟩ = some (.string t.T.nm) ∧ u.cell? ⟨b, off + i * 4 + 1, none⟩ = some t.cv ∧ u.cell? ⟨b, off + i * 4 + 2, none⟩ = some (.int .i64 t.T.key) ∧ u.cell? ⟨b, off + i * 4 + 3, none⟩ = some t.iv) := fun u hu i t ht => by
    obtain ⟨hi, rfl⟩ := List.getElem?_eq_some_iff.1 ht
    obtain ⟨b, off, e, _, hc⟩ := hx u hu i hi
    exact ⟨b, off, e, hc 0 _ rfl, hc 1 _ rfl, hc 2 _ rfl, hc 3 _ rfl⟩
  have HSh : Hid (∀ t ∈ L0, (∃ a n c, t.cv = .slice a n c) ∧ (∃ a n c, t.iv = .slice a n c)) := fun t ht => by
    obtain ⟨k1, X, k2, _⟩ := (hZ t ht).tab
    obtain ⟨a, c, e, _⟩ := k1
    obtain ⟨a', c', e', _⟩ := k2
    exact ⟨⟨a, _, c, e⟩, ⟨a', _, c', e'⟩⟩
  have HCr : Hid (∀ u c L (t : Tv), t ∈ L0 → Stand (CatI c L) w u [] → Calls Tryz.prog 9 #[.pointer (some ⟨c, 0, none⟩), tabVal t.cv t.iv t.T] u fun e w' => e = .returned (.int .i64 (crE L t.T)) ∧ Hid (Stand (CatI c (crL L t.T)) w w' [])) := fun u c L t ht hu => by
    have hok := hZ t ht
    obtain ⟨F, k1, k2, k3⟩ := Stand.callF (I' := CatI c (crL L t.T)) hu
    exact (create_any c L t.cv t.iv t.T u w F hu.base hok.tab hok.rg (by have := hok.nm; unfold reachBytes at this; unfold maxLen; omega) k1).mono fun e w' ⟨e1, e2⟩ => ⟨e1, k3 w' e2⟩
  obtain ⟨m, hm⟩ : ∃ m, L0.length = m := ⟨_, rfl⟩
  have HM : Hid (L0.length = m) := hm
  rw [hm] at hlc ⊢
  obtain ⟨b1, hb1⟩ : ∃ b1, bs.data.toList = b1 := ⟨_, rfl⟩
  have HBs : Hid (bytesOf b1 = bs) := by show _ = _; rw [← hb1]; exact list_ba bs
  have HN1 : Hid (Calls Tryz.prog 6 #[] w fun e w' => ∃ c, e = .returned (.pointer (some ⟨c, 0, none⟩)) ∧ Hid (Stand (CatI c []) w w' [])) := one_new w
  have HWk : Hid (∀ u, Calls Tryz.prog 19 #[] u fun e w' => e = .returned (.bool true) ∧ Below u.heap.size u w') := works_any
  have hgf := guardFlt
  clear h0 hx hZ hm hb1 _hd
  go_enter Tryz.func5, Tryz.ntmps5
  go_wp2_with (first
    | (go_at_call 6; go_must (refine HN1.out.mono ?_; rintro e wa ⟨c, rfl, KA⟩))
    | (go_at_call 19; go_must (refine (HWk.out _).mono ?_; rintro e w1 ⟨rfl, hb1⟩; have KB : Hid (Stand (CatI c []) w w1 []) := KA.out.below (catI_res _ _) hb1; clear hb1)))
  clear HN1 HWk KA
  go_loopw [6] (fun v wr => ∃ i : Nat, i ≤ 30 ∧ v = .int .i64 i ∧ Hid (Stand (CatI c (upA (L0.map Tv.T) i)) w wr [])) (fun v _ => 30 - (intOf v).toNat)
  case atStart => exact ⟨0, by omega, rfl, KB⟩
  case round =>
    clear KB
    obtain ⟨i, hi, rfl, HI⟩ := hrel
    by_cases hlt : i < m ∧ i < 30
    · obtain ⟨hlt, h30⟩ := hlt
      obtain ⟨t, ht⟩ : ∃ t, L0[i]? = some t := ⟨_, List.getElem?_eq_getElem (by rw [HM.out]; exact hlt)⟩
      have hmem := List.mem_of_getElem? ht
      obtain ⟨⟨a1, n1, c1, e1⟩, ⟨a2, n2, c2, e2⟩⟩ := HSh.out t hmem
      obtain ⟨bb, off, rfl, q0, q1, q2, q3⟩ := HX.out wr HI.out.base i t ht
      obtain ⟨nm, hnm⟩ : ∃ nm, t.T.nm = nm := ⟨_, rfl⟩
      obtain ⟨key, hkey⟩ : ∃ key, t.T.key = key := ⟨_, rfl⟩
      obtain ⟨E, hE⟩ : ∃ E, crE (upA (L0.map Tv.T) i) t.T = E := ⟨_, rfl⟩
      have HUp : Hid (upA (L0.map Tv.T) (i + 1) = crL (upA (L0.map Tv.T) i) t.T) := upA_next (by rw [List.getElem?_map, ht]; rfl)
      have K1 : Hid (Calls Tryz.prog 9 #[.pointer (some ⟨c, 0, none⟩), .agg #[.string nm, .slice a1 n1 c1, .int .i64 key, .slice a2 n2 c2]] wr fun e w' => e = .returned (.int .i64 E) ∧ Hid (Stand (CatI c (crL (upA (L0.map Tv.T) i) t.T)) w w' [])) := by
        have := HCr.out wr c _ t hmem HI.out
        unfold tabVal at this
        rw [hnm, hkey, e1, e2, hE] at this
        exact this
      rw [hnm] at q0
      rw [e1] at q1
      rw [hkey] at q2
      rw [e2] at q3
      have hlI : (i : Int) < (m : Int) := by omega
      have h30I : (i : Int) < 30 := by omega
      clear ht hmem e1 e2 hnm hkey hE
      go_wp2_with (go_at_call 9; go_must (refine K1.out.mono ?_; rintro e w2 ⟨rfl, H2⟩))
      go_roundw
      case rel => exact ⟨i + 1, by omega, by go_num, by show Stand _ _ _ _; rw [HUp.out]; exact H2.out⟩
      case measure => simp [intOf]; omega
    · have hex : (¬ (i : Int) < (m : Int)) ∨ ((i : Int) < (m : Int) ∧ ¬ (i : Int) < 30) := by omega
      obtain ⟨LA, hLA⟩ : ∃ LA, upA (L0.map Tv.T) i = LA := ⟨_, rfl⟩
      have HOk : Hid (CatOk LA ∧ LA.length ≤ 4096) := by
        have := up_ok (L0.map Tv.T) i
        rw [hLA] at this
        exact ⟨this.1, by omega⟩
      rw [hLA] at HI
      have HEn : Hid (∀ u, Stand (CatI c LA) w u [] → Calls Tryz.prog 17 #[.pointer (some ⟨c, 0, none⟩)] u fun e w' => e = .returned (.tuple #[.string (encS LA), .int .i64 (encE LA)]) ∧ Hid (Stand (CatI c LA) w w' [])) := fun u hu => by
        obtain ⟨F, k1, -⟩ := Stand.callF (I' := CatI c LA) hu
        exact (encode_any c LA u F k1).mono fun e w' ⟨e1, e2⟩ => ⟨e1, hu.below (catI_res _ _) e2⟩
      clear hLA HX HSh HCr
      by_cases hbig : (catB LA).length ≤ 262144
      · obtain ⟨en1, en2⟩ := enc_good hbig
        obtain ⟨sA, hsA⟩ : ∃ sA, bytesOf (catB LA) = sA := ⟨_, rfl⟩
        rw [en1, en2, hsA] at HEn
        have HDc : Hid (∀ u, Stand (CatI c LA) w u [] → Calls Tryz.prog 20 #[.string sA] u fun e w' => ∃ d, e = .returned (.tuple #[.pointer (some ⟨d, 0, none⟩), .agg #[.int .i64 0, .int .i64 0]]) ∧ Hid (TwoC c LA d LA w w' [])) := fun u hu => by
          rw [← hsA]
          refine (decode_good u hbig ⟨rfl, HOk.out.1, HOk.out.2⟩).mono fun e w' ⟨d, e1, e2⟩ => ?_
          obtain ⟨F, f1, f2, f3⟩ := e2.out
          exact ⟨d, e1, Stand.also (catI_res _ _) hu f1 f2 f3⟩
        have hq : ∀ W : World, (Op.equalIn 10000 48 (.agg #[.int .i64 0, .int .i64 0]) (.agg #[.int .i64 0, .int .i64 0])).run Tryz.prog W = .ok true W := fun W => eqFlt 0 W
        have KN1 : Hid (∀ u d, TwoC c LA d LA w u [] → Calls Tryz.prog 22 #[.pointer (some ⟨c, 0, none⟩)] u fun e w' => ∃ A cap, e = .returned (.slice A (namesC LA).length cap) ∧ Hid (SliceAt w' (.slice A (namesC LA).length cap) 1 enS (namesC LA)) ∧ Hid (TwoC c LA d LA w w' []) ∧ Hid (Below u.heap.size u w')) := fun u d hu => by
          obtain ⟨F, k1, k2⟩ := Stand.callL (catI_res d LA) hu
          exact (names_any c LA u F k1).mono fun e w' ⟨A, cap, e1, e2, e3⟩ => ⟨A, cap, e1, names_strs e2.out, hu.below (twoC_res _ _ _ _) e3.out, e3⟩
        have KN2 : Hid (∀ u d, TwoC c LA d LA w u [] → Calls Tryz.prog 22 #[.pointer (some ⟨d, 0, none⟩)] u fun e w' => ∃ A cap, e = .returned (.slice A (namesC LA).length cap) ∧ Hid (SliceAt w' (.slice A (namesC LA).length cap) 1 enS (namesC LA)) ∧ Hid (TwoC c LA d LA w w' []) ∧ Hid (Below u.heap.size u w')) := fun u d hu => by
          obtain ⟨F, k1, k2⟩ := Stand.callR (catI_res c LA) hu
          exact (names_any d LA u F k1).mono fun e w' ⟨A, cap, e1, e2, e3⟩ => ⟨A, cap, e1, names_strs e2.out, hu.below (twoC_res _ _ _ _) e3.out, e3⟩
        have KS : Hid (∀ u v v', SliceAt u v 1 enS (namesC LA) → SliceAt u v' 1 enS (namesC LA) → Calls Tryz.prog 21 #[v, v'] u fun e w' => e = .returned (.bool true) ∧ Hid (Below u.heap.size u w')) := fun u v v' h1 h2 => by
          have := sameTexts_any v v' (namesC LA) (namesC LA) u h1 h2
          rw [decide_eq_true rfl] at this
          exact this.mono fun e w' ⟨e1, m, e2⟩ => ⟨e1, by rw [e2]; exact below_drewN u m⟩
        obtain ⟨K, hK⟩ : ∃ K, namesC LA = K := ⟨_, rfl⟩
        have HK : Hid (namesC LA = K) := hK
        obtain ⟨N, hN⟩ : ∃ N, K.length = N := ⟨_, rfl⟩
        have HN : Hid (K.length = N) := hN
        have hN4 : N ≤ 4096 := by rw [← hN, ← hK, namesC_length]; exact HOk.out.2
        rw [hK, hN] at KN1 KN2
        rw [hK] at KS
        clear en1 en2 hsA hK hN
        go_wp2_with (first
          | (go_at_call 17; go_must (refine (HEn.out _ HI.out).mono ?_; rintro e w2 ⟨rfl, H2⟩))
          | (go_at_call 20; go_must (refine (HDc.out _ H2.out).mono ?_; rintro e w3 ⟨d, rfl, H3⟩; have H3' : Hid (∀ o : Obj, TwoC c LA d LA w (w3.alloc o) []) := fun o => H3.out.below (twoC_res _ _ _ _) ((Below.refl _ w3).alloc (Nat.le_refl _) o)))
          | (go_at_call 22; refine (KN1.out _ d H6.out).mono ?_; rintro e w7 ⟨A7, cap7, rfl, S7, H7, B7⟩)
          | (go_at_call 21; go_must (refine (KS.out _ _ _ S4'.out S5.out).mono ?_; rintro e w6 ⟨rfl, B6⟩; have H6 : Hid (TwoC c LA d LA w w6 []) := H5.out.below (twoC_res _ _ _ _) B6.out))
          | (go_at_call 22; refine (KN2.out _ d H4.out).mono ?_; rintro e w5 ⟨A5, cap5, rfl, S5, H5, B5⟩; have S4' : Hid (SliceAt w5 (.slice A4 N cap4) 1 enS K) := S4.out.below B5.out)
          | (go_at_call 22; go_must (refine (KN1.out _ d (H3'.out _)).mono ?_; rintro e w4 ⟨A4, cap4, rfl, S4, H4, B4⟩)))
        all_goals (
          clear HEn HDc HI H2 H3 H3' S4 S4' H4 B4 S5 H5 B5 B6 H6 KN1 KN2 KS B7
          have HXN : Hid (∀ u, Below w7.heap.size w7 u → ∀ j n, K[j]? = some n → ∃ b off, A7 = some ⟨b, off, none⟩ ∧ u.cell? ⟨b, off + j, none⟩ = some (.string n)) := fun u hu j n hj => by
            have hs := S7.out.below hu
            rw [← HN.out] at hs
            obtain ⟨b, off, e, h⟩ := strs_cell hs (fun e => by rw [e] at hj; cases hj)
            exact ⟨b, off, e, h j n hj⟩
          have HB7 : Hid (∀ u, Below w7.heap.size w7 u → TwoC c LA d LA w u [] ∧ Below w.heap.size w u) := fun u hu => by
            have := Stand.below (twoC_res _ _ _ _) H7.out hu
            exact ⟨this, this.base⟩
          have HFL : Hid (∀ u T, Below w7.heap.size w7 u → T.nm.size ≤ maxLen → Dk.getL (kb T.nm) LA = some T → Calls Tryz.prog 15 #[.pointer (some ⟨c, 0, none⟩), .string T.nm] u fun e w' => ∃ ca cn cc ia n ic, e = .returned (.tuple #[.agg #[.string T.nm, .slice ca cn cc, .int .i64 T.key, .slice ia n ic], .int .i64 0]) ∧ Hid (∃ X, Below u.heap.size u w' ∧ TabO w' u.heap.size (.slice ca cn cc) (.slice ia n ic) X T)) := fun u T hu hs hg => by
            obtain ⟨F, k1, k2⟩ := Stand.callL (catI_res d LA) (HB7.out u hu).1
            exact find_some c LA T.nm T u F hs k1 hg
          have HFR : Hid (∀ u T, Below w7.heap.size w7 u → T.nm.size ≤ maxLen → Dk.getL (kb T.nm) LA = some T → Calls Tryz.prog 15 #[.pointer (some ⟨d, 0, none⟩), .string T.nm] u fun e w' => ∃ ca cn cc ia n ic, e = .returned (.tuple #[.agg #[.string T.nm, .slice ca cn cc, .int .i64 T.key, .slice ia n ic], .int .i64 0]) ∧ Hid (∃ X, Below u.heap.size u w' ∧ TabO w' u.heap.size (.slice ca cn cc) (.slice ia n ic) X T)) := fun u T hu hs hg => by
            obtain ⟨F, k1, k2⟩ := Stand.callR (catI_res c LA) (HB7.out u hu).1
            exact find_some d LA T.nm T u F hs k1 hg
          go_loopw [72] (fun v wr => ∃ j : Nat, j ≤ N ∧ v = .int .i64 j ∧ Hid (Below w7.heap.size w7 wr)) (fun v _ => N - (intOf v).toNat)
          case atStart => exact ⟨0, Nat.zero_le _, rfl, Below.refl _ _⟩
          case round =>
            obtain ⟨j, hj, rfl, HJ⟩ := hrel
            by_cases hjl : j < N
            · have hjI : (j : Int) < (N : Int) := by omega
              obtain ⟨nm, hnm⟩ : ∃ nm, K[j]? = some nm := ⟨_, List.getElem?_eq_getElem (by rw [HN.out]; exact hjl)⟩
              obtain ⟨nb, noff, rfl, qn⟩ := HXN.out wr HJ.out j nm hnm
              obtain ⟨T, hTn, hTg, hTm⟩ := name_at HOk.out.1 (by rw [HK.out]; exact hnm)
              have hTs : T.nm.size ≤ maxLen := by have := (nameOk_size (may_parts hTm).nm).2; unfold maxLen; omega
              obtain ⟨key, hkey⟩ : ∃ key, T.key = key := ⟨_, rfl⟩
              have HF1 : Hid (∀ u, Below w7.heap.size w7 u → Calls Tryz.prog 15 #[.pointer (some ⟨c, 0, none⟩), .string nm] u fun e w' => ∃ ca cn cc ia n ic, e = .returned (.tuple #[.agg #[.string nm, .slice ca cn cc, .int .i64 key, .slice ia n ic], .int .i64 0]) ∧ Hid (∃ X, Below u.heap.size u w' ∧ TabO w' u.heap.size (.slice ca cn cc) (.slice ia n ic) X T)) := fun u hu => by
                have := HFL.out u T hu hTs (by rw [hTn]; exact hTg)
                rw [hTn, hkey] at this
                exact this
              have HF2 : Hid (∀ u, Below w7.heap.size w7 u → Calls Tryz.prog 15 #[.pointer (some ⟨d, 0, none⟩), .string nm] u fun e w' => ∃ ca cn cc ia n ic, e = .returned (.tuple #[.agg #[.string nm, .slice ca cn cc, .int .i64 key, .slice ia n ic], .int .i64 0]) ∧ Hid (∃ X, Below u.heap.size u w' ∧ TabO w' u.heap.size (.slice ca cn cc) (.slice ia n ic) X T)) := fun u hu => by
                have := HFR.out u T hu hTs (by rw [hTn]; exact hTg)
                rw [hTn, hkey] at this
                exact this
              have HSm : Hid (∀ u u0 cv iv cv' iv', TabV u0 cv iv T → TabV u0 cv' iv' T → Below u0.heap.size u0 u → Calls Tryz.prog 11 #[.agg #[.string nm, cv, .int .i64 key, iv], .agg #[.string nm, cv', .int .i64 key, iv']] u fun e w' => e = .returned (.bool true) ∧ Hid (Below u.heap.size u w')) := fun u u0 cv iv cv' iv' h1 h2 hb => by
                have := sameTable_same cv iv cv' iv' T u u0 hb h1 h2
                unfold tabVal at this
                rw [hTn, hkey] at this
                exact this
              have HCk : Hid (∀ u u0 cv iv, TabV u0 cv iv T → Below u0.heap.size u0 u → Calls Tryz.prog 25 #[.agg #[.string nm, cv, .int .i64 key, iv]] u fun e w' => e = .returned (.int .i64 0) ∧ Hid (Below u.heap.size u w')) := fun u u0 cv iv h1 hb => by
                have := check_any cv iv T u u0 hb h1 (may_parts hTm).ok.rg
                unfold tabVal at this
                rw [hTn, hkey, chk_yes hTm] at this
                exact this
              clear hnm hTn hTg hTm hTs hkey HFL HFR
              go_wp2_with (first
                | (go_at_call 25; go_must (refine (HCk.out _ w10 _ _ V1.out HB12.out).mono ?_; rintro e w13 ⟨rfl, B13⟩; have HB13 : Hid (Below w10.heap.size w10 w13) := HB12.out.trans (B13.out.mono HB12.out.size); obtain ⟨z0, z1, z2, z3⟩ := HXc.out _ HB13.out))
                | (go_at_call 11; go_must (refine (HSm.out _ w10 _ _ _ _ V1.out V2.out ((Below.refl _ w10).alloc (Nat.le_refl _) _)).mono ?_; rintro e w12 ⟨rfl, B12⟩; have HB12 : Hid (Below w10.heap.size w10 w12) := ((Below.refl _ w10).alloc (Nat.le_refl _) _).trans (B12.out.mono (by simp)); obtain ⟨y0, y1, y2, y3⟩ := HXc.out _ HB12.out))
                | (go_at_call 15; refine (HF2.out _ (HB8.out _)).mono ?_; rintro e w10 ⟨da, dn, dc, ea, en, ec, rfl, K10⟩; have V1 : Hid (TabV w10 (.slice ca cn cc) (.slice ia n8 ic) T) := (by obtain ⟨X, k1, k2⟩ := K8.out; obtain ⟨X', k3, k4⟩ := K10.out; exact k2.tabV.below (((Below.refl _ w8).alloc (Nat.le_refl _) _).trans (k3.mono (by simp)))); have V2 : Hid (TabV w10 (.slice da dn dc) (.slice ea en ec) T) := (by obtain ⟨X', k3, k4⟩ := K10.out; exact k4.tabV); have HXc : Hid (∀ u, Below w10.heap.size w10 u → u.cell? ⟨w8.heap.size, 0, none⟩ = some (.string nm) ∧ u.cell? ⟨w8.heap.size, 1, none⟩ = some (.slice ca cn cc) ∧ u.cell? ⟨w8.heap.size, 2, none⟩ = some (.int .i64 key) ∧ u.cell? ⟨w8.heap.size, 3, none⟩ = some (.slice ia n8 ic)) := (fun u hu => by obtain ⟨X', k3, k4⟩ := K10.out; have e1 := (k3.block w8.heap.size (by simp)).trans (heap_new w8 (tabBox nm ca cn cc key ia n8 ic)); have e2 := (hu.block _ (lt_of e1)).trans e1; exact ⟨by rw [cell_of e2]; rfl, by rw [cell_of e2]; rfl, by rw [cell_of e2]; rfl, by rw [cell_of e2]; rfl⟩); have HB10 : Hid (Below w7.heap.size w7 w10) := (by obtain ⟨X', k3, k4⟩ := K10.out; exact (HB8.out (tabBox nm ca cn cc key ia n8 ic)).trans (k3.mono (HB8.out (tabBox nm ca cn cc key ia n8 ic)).size)); obtain ⟨x0, x1, x2, x3⟩ := HXc.out _ (Below.refl _ w10); have h810 : w8.heap.size < w10.heap.size := (by obtain ⟨X', k3, k4⟩ := K10.out; have := k3.size; simp at this; omega))
                | (go_at_call 15; go_must (refine (HF1.out _ HJ.out).mono ?_; rintro e w8 ⟨ca, cn, cc, ia, n8, ic, rfl, K8⟩; have HB8 : Hid (∀ o : Obj, Below w7.heap.size w7 (w8.alloc o)) := (fun o => by obtain ⟨X, k1, k2⟩ := K8.out; have h := HJ.out.trans (k1.mono HJ.out.size); exact h.alloc h.size o))))
              go_roundw
              case rel => exact ⟨j + 1, by omega, by go_num, HB10.out.trans (HB13.out.mono HB10.out.size)⟩
              case measure => simp [intOf]; omega
            · have hjI : ¬ (j : Int) < (N : Int) := by omega
              have KW : Hid (Below w.heap.size w wr) := (HB7.out wr HJ.out).2
              clear HFL HFR HXN HB7 H7 S7 hq
              have HEn2 : Hid (∀ u d L, Stand (CatI d L) w u [] → Calls Tryz.prog 17 #[.pointer (some ⟨d, 0, none⟩)] u fun e w' => e = .returned (.tuple #[.string (encS L), .int .i64 (encE L)]) ∧ Hid (Below w.heap.size w w')) := fun u d L hu => by
                obtain ⟨F, k1, -⟩ := Stand.callF (I' := CatI d L) hu
                exact (encode_any d L u F k1).mono fun e w' ⟨e1, e2⟩ => ⟨e1, hu.base.trans (e2.mono hu.base.size)⟩
              by_cases hlong : 262144 < b1.length
              · have HD : Hid (∀ u, Calls Tryz.prog 20 #[.string bs] u fun e w' => e = .returned (.tuple #[.pointer none, .agg #[.int .i64 0, .int .i64 2]]) ∧ Hid (Below u.heap.size u w')) := fun u => by rw [← HBs.out]; exact decode_long u hlong
                have hq : ∀ W : World, (Op.equalIn 10000 48 (.agg #[.int .i64 0, .int .i64 2]) (.agg #[.int .i64 0, .int .i64 0])).run Tryz.prog W = .ok false W := fun W => eqFlt 2 W
                go_wp2_with (go_at_call 20; go_must (refine (HD.out _).mono ?_; rintro e wd ⟨rfl, KD⟩))
                go_ret
                have hbw := KW.out.trans (KD.out.mono KW.out.size)
                exact ⟨rfl, hbw.alloc hbw.size _⟩
              · by_cases hgood : ∃ L, Good b1 L
                · obtain ⟨L, hL⟩ := hgood
                  have HD : Hid (∀ u, Below w.heap.size w u → Calls Tryz.prog 20 #[.string bs] u fun e w' => ∃ d, e = .returned (.tuple #[.pointer (some ⟨d, 0, none⟩), .agg #[.int .i64 0, .int .i64 0]]) ∧ Hid (Stand (CatI d L) w w' [])) := fun u hu => by
                    rw [← HBs.out]
                    refine (decode_good u (by omega) hL).mono fun e w' ⟨d, e1, e2⟩ => ?_
                    obtain ⟨F, f1, f2, f3⟩ := e2.out
                    exact ⟨d, e1, Stand.start f1 (fun i hi => Nat.le_trans hu.size (f2 i hi)) (hu.trans (f3.mono hu.size))⟩
                  have hen := enc_good (L := L) (by rw [← hL.eq]; omega)
                  have hes : encS L = bs := by rw [hen.1, ← hL.eq]; exact HBs.out
                  have HEn3 : Hid (∀ u d, Stand (CatI d L) w u [] → Calls Tryz.prog 17 #[.pointer (some ⟨d, 0, none⟩)] u fun e w' => e = .returned (.tuple #[.string bs, .int .i64 0]) ∧ Hid (Below w.heap.size w w')) := fun u d hu => by
                    have := HEn2.out u d L hu
                    rw [hes, hen.2] at this
                    exact this
                  have hq : ∀ W : World, (Op.equalIn 10000 48 (.agg #[.int .i64 0, .int .i64 0]) (.agg #[.int .i64 0, .int .i64 0])).run Tryz.prog W = .ok true W := fun W => eqFlt 0 W
                  clear hen hes
                  go_wp2_with (first
                    | (go_at_call 20; go_must (refine (HD.out _ KW.out).mono ?_; rintro e wd ⟨d2, rfl, KD⟩; have KE : Hid (∀ o : Obj, Stand (CatI d2 L) w (wd.alloc o) []) := fun o => KD.out.below (catI_res _ _) ((Below.refl _ wd).alloc (Nat.le_refl _) o)))
                    | (go_at_call 17; go_must (refine (HEn3.out _ _ (KE.out _)).mono ?_; rintro e we ⟨rfl, KF⟩)))
                  go_ret
                  exact ⟨rfl, KF.out⟩
                · have HD : Hid (∀ u, Calls Tryz.prog 20 #[.string bs] u fun e w' => e = .returned (.tuple #[.pointer none, .agg #[.int .i64 0, .int .i64 3]]) ∧ Hid (Below u.heap.size u w')) := fun u => by rw [← HBs.out]; exact decode_bad u (by omega) (fun L hL => hgood ⟨L, hL⟩)
                  have hq : ∀ W : World, (Op.equalIn 10000 48 (.agg #[.int .i64 0, .int .i64 3]) (.agg #[.int .i64 0, .int .i64 0])).run Tryz.prog W = .ok false W := fun W => eqFlt 3 W
                  go_wp2_with (go_at_call 20; go_must (refine (HD.out _).mono ?_; rintro e wd ⟨rfl, KD⟩))
                  go_ret
                  have hbw := KW.out.trans (KD.out.mono KW.out.size)
                  exact ⟨rfl, hbw.alloc hbw.size _⟩)
      · have hee : encE LA = 2 := by unfold encE; rw [if_neg hbig]
        obtain ⟨es, hes⟩ : ∃ es, encS LA = es := ⟨_, rfl⟩
        rw [hee, hes] at HEn
        clear hee hes
        rcases hex with hx1 | ⟨hx1, hx2⟩
        all_goals (
          have HEn2 : Hid (∀ u d L, Stand (CatI d L) w u [] → Calls Tryz.prog 17 #[.pointer (some ⟨d, 0, none⟩)] u fun e w' => e = .returned (.tuple #[.string (encS L), .int .i64 (encE L)]) ∧ Hid (Below w.heap.size w w')) := fun u d L hu => by
            obtain ⟨F, k1, -⟩ := Stand.callF (I' := CatI d L) hu
            exact (encode_any d L u F k1).mono fun e w' ⟨e1, e2⟩ => ⟨e1, hu.base.trans (e2.mono hu.base.size)⟩
          by_cases hlong : 262144 < b1.length
          · have HD : Hid (∀ u, Calls Tryz.prog 20 #[.string bs] u fun e w' => e = .returned (.tuple #[.pointer none, .agg #[.int .i64 0, .int .i64 2]]) ∧ Hid (Below u.heap.size u w')) := fun u => by rw [← HBs.out]; exact decode_long u hlong
            have hq : ∀ W : World, (Op.equalIn 10000 48 (.agg #[.int .i64 0, .int .i64 2]) (.agg #[.int .i64 0, .int .i64 0])).run Tryz.prog W = .ok false W := fun W => eqFlt 2 W
            go_wp2_with (first
              | (go_at_call 17; go_must (refine (HEn.out _ HI.out).mono ?_; rintro e w2 ⟨rfl, H2⟩; have KW : Hid (Below w.heap.size w w2) := H2.out.base))
              | (go_at_call 20; go_must (refine (HD.out _).mono ?_; rintro e wd ⟨rfl, KD⟩)))
            go_ret
            have hbw := KW.out.trans (KD.out.mono KW.out.size)
            exact ⟨rfl, hbw.alloc hbw.size _⟩
          · by_cases hgood : ∃ L, Good b1 L
            · obtain ⟨L, hL⟩ := hgood
              have HD : Hid (∀ u, Below w.heap.size w u → Calls Tryz.prog 20 #[.string bs] u fun e w' => ∃ d, e = .returned (.tuple #[.pointer (some ⟨d, 0, none⟩), .agg #[.int .i64 0, .int .i64 0]]) ∧ Hid (Stand (CatI d L) w w' [])) := fun u hu => by
                rw [← HBs.out]
                refine (decode_good u (by omega) hL).mono fun e w' ⟨d, e1, e2⟩ => ?_
                obtain ⟨F, f1, f2, f3⟩ := e2.out
                exact ⟨d, e1, Stand.start f1 (fun i hi => Nat.le_trans hu.size (f2 i hi)) (hu.trans (f3.mono hu.size))⟩
              have hen := enc_good (L := L) (by rw [← hL.eq]; omega)
              have hes : encS L = bs := by rw [hen.1, ← hL.eq]; exact HBs.out
              have HEn3 : Hid (∀ u d, Stand (CatI d L) w u [] → Calls Tryz.prog 17 #[.pointer (some ⟨d, 0, none⟩)] u fun e w' => e = .returned (.tuple #[.string bs, .int .i64 0]) ∧ Hid (Below w.heap.size w w')) := fun u d hu => by
                have := HEn2.out u d L hu
                rw [hes, hen.2] at this
                exact this
              have hq : ∀ W : World, (Op.equalIn 10000 48 (.agg #[.int .i64 0, .int .i64 0]) (.agg #[.int .i64 0, .int .i64 0])).run Tryz.prog W = .ok true W := fun W => eqFlt 0 W
              clear hen hes
              go_wp2_with (first
                | (go_at_call 20; go_must (refine (HD.out _ KW.out).mono ?_; rintro e wd ⟨d2, rfl, KD⟩; have KE : Hid (∀ o : Obj, Stand (CatI d2 L) w (wd.alloc o) []) := fun o => KD.out.below (catI_res _ _) ((Below.refl _ wd).alloc (Nat.le_refl _) o)))
                | (go_at_call 17; refine (HEn3.out _ _ (KE.out _)).mono ?_; rintro e we ⟨rfl, KF⟩)
                | (go_at_call 17; go_must (refine (HEn.out _ HI.out).mono ?_; rintro e w2 ⟨rfl, H2⟩; have KW : Hid (Below w.heap.size w w2) := H2.out.base)))
              go_ret
              exact ⟨rfl, KF.out⟩
            · have HD : Hid (∀ u, Calls Tryz.prog 20 #[.string bs] u fun e w' => e = .returned (.tuple #[.pointer none, .agg #[.int .i64 0, .int .i64 3]]) ∧ Hid (Below u.heap.size u w')) := fun u => by rw [← HBs.out]; exact decode_bad u (by omega) (fun L hL => hgood ⟨L, hL⟩)
              have hq : ∀ W : World, (Op.equalIn 10000 48 (.agg #[.int .i64 0, .int .i64 3]) (.agg #[.int .i64 0, .int .i64 0])).run Tryz.prog W = .ok false W := fun W => eqFlt 3 W
              go_wp2_with (first
              | (go_at_call 17; go_must (refine (HEn.out _ HI.out).mono ?_; rintro e w2 ⟨rfl, H2⟩; have KW : Hid (Below w.heap.size w w2) := H2.out.base))
              | (go_at_call 20; go_must (refine (HD.out _).mono ?_; rintro e wd ⟨rfl, KD⟩)))
              go_ret
              have hbw := KW.out.trans (KD.out.mono KW.out.size)
              exact ⟨rfl, hbw.alloc hbw.size _⟩)

end BackL
end Go.Proofs.YtnboanlhdllhnaaGreat
