/- SchemaBytes's walk. -/
import Derived.Test.YtnboanlhdllhnaaGreatZBytesP
namespace Go.Proofs.YtnboanlhdllhnaaGreat
open Go.RowKit Go.Maps

namespace BytesL

abbrev fltO (x : Int) : Obj := .cells #[.int .i64 0, .int .i64 x] 48

set_option maxRecDepth 100000 in
set_option maxHeartbeats 4000000 in
theorem walk_none (bs : ByteArray) (w : World) (x : Int)
    (HD : Hid (∀ u, Calls Tryz.prog 20 #[.string bs] u fun e w' => e = .returned (.tuple #[.pointer none, .agg #[.int .i64 0, .int .i64 x]]) ∧ Hid (Below u.heap.size u w')))
    (HR : Hid (∀ u, Calls Tryz.prog 24 #[.string bs] u fun e w' => e = .returned (.tuple #[.pointer none, .agg #[.int .i64 0, .int .i64 x]]) ∧ Hid (Below u.heap.size u w'))) :
    Calls Tryz.prog 4 #[.string bs] w fun e w' => e = .returned (.bool true) ∧ Below w.heap.size w w' := by
  have HWk : Hid (∀ u, Calls Tryz.prog 19 #[] u fun e w' => e = .returned (.bool true) ∧ Hid (Below u.heap.size u w')) := works_any
  have hgf := guardFlt
  have hq : ∀ W : World, (Op.equalIn 10000 48 (.agg #[.int .i64 0, .int .i64 x]) (.agg #[.int .i64 0, .int .i64 x])).run Tryz.prog W = .ok true W := fun W => eqFltSame x W
  go_enter Tryz.func4, Tryz.ntmps4
  go_wp2_with (first
    | (go_at_call 20; go_must (refine (HD.out _).mono ?_; rintro e w1 ⟨rfl, K1⟩))
    | (go_at_call 24; go_must (refine (HR.out _).mono ?_; rintro e w2 ⟨rfl, K2⟩; obtain ⟨q0', q1'⟩ := flt_cells ((K2.out.block w1.heap.size (by simp)).trans (heap_new w1 (fltO x))); have q0 := cell_new (o := fltO x) q0'; have q1 := cell_new (o := fltO x) q1'; clear q0' q1'))
    | (go_at_call 19; go_must (refine (HWk.out _).mono ?_; rintro e w3 ⟨rfl, K3⟩)))
  go_ret
  have b1 := K1.out.alloc K1.out.size (fltO x)
  have b2 := b1.trans (K2.out.mono b1.size)
  have b3 := b2.alloc b2.size (fltO x)
  exact ⟨rfl, b3.trans (K3.out.mono b3.size)⟩

set_option maxRecDepth 100000 in
set_option maxHeartbeats 4000000 in
theorem walk (bs : ByteArray) (w : World) (_hd : bs.size ≤ reachBytes) :
    Calls Tryz.prog 4 #[.string bs] w fun e w' => e = .returned (.bool true) ∧ Below w.heap.size w w' := by
  obtain ⟨b1, hb1⟩ : ∃ b1, bs.data.toList = b1 := ⟨_, rfl⟩
  have HBs : bytesOf b1 = bs := by rw [← hb1]; exact list_ba bs
  by_cases hlong : 262144 < b1.length
  · exact walk_none bs w 2 (fun u => by rw [← HBs]; exact decode_long u hlong) (fun u => by rw [← HBs]; exact rdecode_long u hlong)
  by_cases hgood : ∃ L, Good b1 L
  · obtain ⟨L, hL⟩ := hgood
    have HD : Hid (∀ u, Calls Tryz.prog 20 #[.string bs] u fun e w' => ∃ d, e = .returned (.tuple #[.pointer (some ⟨d, 0, none⟩), .agg #[.int .i64 0, .int .i64 0]]) ∧ Hid (∃ F, CatI d L w' F ∧ (∀ i, F i → u.heap.size ≤ i) ∧ Below u.heap.size u w')) := fun u => by rw [← HBs]; exact decode_good u (by omega) hL
    have HR : Hid (∀ u, Calls Tryz.prog 24 #[.string bs] u fun e w' => ∃ c, e = .returned (.tuple #[.pointer (some ⟨c, 0, none⟩), .agg #[.int .i64 0, .int .i64 0]]) ∧ Hid (∃ S G, L = catOf G ∧ RcG w' c S G ∧ (∀ i, rcFoot c S G i → u.heap.size ≤ i) ∧ Below u.heap.size u w')) := fun u => by rw [← HBs]; exact rdecode_good u (by omega) hL
    have HOk : Hid (CatOk L ∧ L.length ≤ 4096) := ⟨hL.ok, hL.few⟩
    have hgf := guardFlt
    have hq : ∀ W : World, (Op.equalIn 10000 48 (.agg #[.int .i64 0, .int .i64 0]) (.agg #[.int .i64 0, .int .i64 0])).run Tryz.prog W = .ok true W := fun W => eqFltSame 0 W
    clear hL HBs hb1 hlong _hd
    go_enter Tryz.func4, Tryz.ntmps4
    go_upto_region 7 with (first
      | (go_at_call 20; go_must (refine (HD.out _).mono ?_; rintro e w1 ⟨d, rfl, K1⟩))
      | (go_at_call 24; go_must (refine (HR.out _).mono ?_; rintro e w2 ⟨rc, rfl, K2⟩; obtain ⟨q0', q1'⟩ := (by obtain ⟨S, G, _, _, _, k⟩ := K2.out; exact flt_cells ((k.block w1.heap.size (by simp)).trans (heap_new w1 (fltO 0))) : w2.cell? ⟨w1.heap.size, 0, none⟩ = some (.int .i64 0) ∧ w2.cell? ⟨w1.heap.size, 1, none⟩ = some (.int .i64 0)); have q0 := cell_new (o := fltO 0) q0'; have q1 := cell_new (o := fltO 0) q1'; clear q0' q1')))
    obtain ⟨w3, hw3⟩ : ∃ w3, w2.alloc (fltO 0) = w3 := ⟨_, rfl⟩
    obtain ⟨⟨SA, SN, SC⟩, G, hLG, hRc, hB3, F, hCat⟩ : ∃ S G, L = catOf G ∧ RcG w3 rc S G ∧ Below w.heap.size w w3 ∧ ∃ F, CatI d L w3 F := by
      obtain ⟨F, k1, k2, k3⟩ := K1.out
      obtain ⟨S, G, k4, k5, k6, k7⟩ := K2.out
      have b1 := k3.alloc k3.size (fltO 0)
      have b2 := b1.trans (k7.mono b1.size)
      have b3 := b2.alloc b2.size (fltO 0)
      have c1 : Below w1.heap.size w1 w2 := ((Below.refl _ w1).alloc (Nat.le_refl _) (fltO 0)).trans (k7.mono (by simp))
      have c2 : Below w2.heap.size w2 w3 := by rw [← hw3]; exact (Below.refl _ w2).alloc (Nat.le_refl _) _
      refine ⟨S, G, k4, k5.below c2, by rw [← hw3]; exact b3, F, (catI_res d L).kept ((catI_res d L).kept k1 (Turn.ofBelow (fun _ => False) c1) (fun _ _ h => h)) (Turn.ofBelow (fun _ => False) c2) (fun _ _ h => h)⟩
    rw [hw3]
    have HB3 : Hid (Below w.heap.size w w3) := hB3
    have HRc : Hid (RcG w3 rc ⟨SA, SN, SC⟩ G) := hRc
    have HRr : Hid (∀ u, Below w3.heap.size w3 u → RcG u rc ⟨SA, SN, SC⟩ G) := fun u hu => HRc.out.below hu
    have HCa : Hid (∀ u, Below w3.heap.size w3 u → CatI d L u F) := fun u hu => (catI_res d L).kept hCat (Turn.ofBelow (fun _ => False) hu) (fun _ _ h => h)
    have HLn : Hid (L.length = SN ∧ G.length = SN) := by
      have h1 : G.length = SN := hRc.len
      exact ⟨by rw [hLG]; unfold catOf; rw [List.length_map, h1], h1⟩
    obtain ⟨K, hK⟩ : ∃ K, namesC L = K := ⟨_, rfl⟩
    have HKG : Hid ((G.map fun g => g.T.nm) = K) := by show _ = _; rw [← hK, hLG, names_cat]
    have HKn : Hid (K.length = SN) := by show _ = _; rw [← hK, namesC_length]; exact HLn.out.1
    have KN1 : Hid (∀ u, Below w3.heap.size w3 u → Calls Tryz.prog 22 #[.pointer (some ⟨d, 0, none⟩)] u fun e w' => ∃ A cap, e = .returned (.slice A SN cap) ∧ Hid (SliceAt w' (.slice A SN cap) 1 enS K) ∧ Hid (Below w3.heap.size w3 w' ∧ Below u.heap.size u w')) := fun u hu => by
      refine (names_any d L u F (HCa.out u hu)).mono fun e w' ⟨A, cap, e1, e2, e3⟩ => ?_
      rw [hK, HKn.out] at e1 e2
      refine ⟨A, cap, e1, strs_of (base := u.heap.size) HKn.out.symm ?_, hu.trans (e3.out.mono hu.size), e3.out⟩
      rw [scells_flat]
      exact e2.out
    have KN2 : Hid (∀ u, Below w3.heap.size w3 u → Calls Tryz.prog 23 #[.pointer (some ⟨rc, 0, none⟩)] u fun e w' => ∃ A n cap, e = .returned (.slice A n cap) ∧ Hid (SliceAt w' (.slice A n cap) 1 enS K) ∧ Hid (Below w3.heap.size w3 w' ∧ Below u.heap.size u w')) := fun u hu => by
      refine (rnames_any (HRr.out u hu)).mono fun e w' ⟨A, n, cap, e1, e2⟩ => ?_
      obtain ⟨x1, x2, x3⟩ := e2.out
      rw [HKG.out] at x2
      exact ⟨A, n, cap, e1, strs_of (by rw [x1, HLn.out.2, HKn.out]) x2, hu.trans (x3.mono hu.size), x3⟩
    have KS : Hid (∀ u v v', SliceAt u v 1 enS K → SliceAt u v' 1 enS K → Calls Tryz.prog 21 #[v, v'] u fun e w' => e = .returned (.bool true) ∧ Hid (Below u.heap.size u w')) := fun u v v' h1 h2 => by
      have := sameTexts_any v v' K K u h1 h2
      rw [decide_eq_true rfl] at this
      exact this.mono fun e w' ⟨e1, m, e2⟩ => ⟨e1, by rw [e2]; exact below_drewN u m⟩
    have HWk : Hid (∀ u, Below w3.heap.size w3 u → Calls Tryz.prog 19 #[] u fun e w' => e = .returned (.bool true) ∧ Hid (Below w.heap.size w w')) := fun u hu => (works_any u).mono fun e w' ⟨e1, e2⟩ => by
      have h1 := HB3.out.trans (hu.mono HB3.out.size)
      exact ⟨e1, h1.trans (e2.mono h1.size)⟩
    have HGt : Hid (∀ (i : Nat) (g : Ge), G[i]? = some g → Dk.getL (kb g.T.nm) L = some g.T ∧ g.T.nm.size ≤ maxLen ∧ TabO w3 0 g.cv g.iv g.X g.T) := fun i g hg => by
      have hm := List.mem_of_getElem? hg
      have h1 : (kb g.T.nm, g.T) ∈ L := by rw [hLG]; exact List.mem_map.2 ⟨g, hm, rfl⟩
      have h2 := (HOk.out.1.own _ h1).2
      refine ⟨getL_of_mem HOk.out.1.rise h1, ?_, (HRc.out.tabs g hm).1⟩
      have := (nameOk_size (may_parts h2).nm).2
      dsimp only at this
      unfold maxLen
      omega
    have hfew : SN ≤ 4096 := by have h1 := HLn.out.1; have h2 := HOk.out.2; omega
    have hsc : SN ≤ SC := by
      have hs : SliceAt w3 (.slice SA SN SC) 4 enG G := own_slice (en := enG) (fun _ => rfl) (by rw [HLn.out.2]; exact hRc.row)
      obtain ⟨a, c', e, h1, _⟩ := hs
      simp only [Value.slice.injEq] at e
      have := HLn.out.2
      omega
    clear hw3 hLG hRc hB3 hCat hK K1 K2 HD HR q0 q1
    have B0 : Hid (Below w3.heap.size w3 w3) := Below.refl _ _
    go_wp2_with (first
      | (go_at_call 22; go_must (refine (KN1.out _ B0.out).mono ?_; rintro e w4 ⟨A4, cap4, rfl, S4, B4⟩))
      | (go_at_call 23; go_must (refine (KN2.out _ B4.out.1).mono ?_; rintro e w5 ⟨A5, n5, cap5, rfl, S5, B5⟩; have S4' : Hid (SliceAt w5 (.slice A4 SN cap4) 1 enS K) := S4.out.below B5.out.2))
      | (go_at_call 21; go_must (refine (KS.out _ _ _ S4'.out S5.out).mono ?_; rintro e w6 ⟨rfl, B6⟩; have B6' : Hid (Below w3.heap.size w3 w6) := B5.out.1.trans (B6.out.mono B5.out.1.size))))
    clear KN1 KN2 KS S4 B4 S5 S4' B5 B6 B0
    go_loopw [7] (fun v wr => ∃ j : Nat, j ≤ SN ∧ v = .int .i64 j ∧ Hid (Below w3.heap.size w3 wr)) (fun v _ => SN - (intOf v).toNat)
    case atStart => exact ⟨0, Nat.zero_le _, rfl, B6'⟩
    case round =>
      clear B6'
      obtain ⟨j, hj, rfl, HJ⟩ := hrel
      have c0 := (HRr.out wr HJ.out).cell
      dsimp only [Sl.v] at c0
      by_cases hlt : j < SN
      · have hlI : (j : Int) < (SN : Int) := by omega
        obtain ⟨g, hg⟩ : ∃ g, G[j]? = some g := ⟨_, List.getElem?_eq_getElem (by rw [HLn.out.2]; exact hlt)⟩
        obtain ⟨hgl, hgs, hgT⟩ := HGt.out j g hg
        obtain ⟨b, off, hSA, q0, q1, q2, q3⟩ := HRc.out.rows wr HJ.out j g hg
        dsimp only at hSA
        subst hSA
        obtain ⟨⟨gT, gcv, giv, gX⟩, rfl⟩ : ∃ g', g' = g := ⟨_, rfl⟩
        dsimp only at hgl hgs hgT q0 q1 q2 q3
        obtain ⟨⟨c1a, c1n, c1c, rfl⟩, ⟨c2a, c2n, c2c, rfl⟩⟩ := hgT.shape
        obtain ⟨nm, hnm⟩ : ∃ nm, gT.nm = nm := ⟨_, rfl⟩
        obtain ⟨key, hkey⟩ : ∃ key, gT.key = key := ⟨_, rfl⟩
        have HF1 : Hid (∀ u, Below w3.heap.size w3 u → Calls Tryz.prog 15 #[.pointer (some ⟨d, 0, none⟩), .string nm] u fun e w' => ∃ ca cn cc ia n ic, e = .returned (.tuple #[.agg #[.string nm, .slice ca cn cc, .int .i64 key, .slice ia n ic], .int .i64 0]) ∧ Hid (Below w3.heap.size w3 w' ∧ TabV w' (.slice ca cn cc) (.slice ia n ic) gT)) := fun u hu => by
          have := find_some d L gT.nm gT u F hgs (HCa.out u hu) hgl
          rw [hnm, hkey] at this
          exact this.mono fun e w' ⟨ca, cn, cc, ia, n, ic, e1, e2⟩ => by
            obtain ⟨X, x1, x2⟩ := e2.out
            exact ⟨ca, cn, cc, ia, n, ic, e1, hu.trans (x1.mono hu.size), x2.tabV⟩
        have HV : Hid (∀ u, Below w3.heap.size w3 u → TabV u (.slice c1a c1n c1c) (.slice c2a c2n c2c) gT) := fun u hu => hgT.tabV.below hu
        have HSm : Hid (∀ u u0 cv iv cv' iv', TabV u0 cv iv gT → TabV u0 cv' iv' gT → Below u0.heap.size u0 u → Calls Tryz.prog 11 #[.agg #[.string nm, cv, .int .i64 key, iv], .agg #[.string nm, cv', .int .i64 key, iv']] u fun e w' => e = .returned (.bool true) ∧ Hid (Below u.heap.size u w')) := fun u u0 cv iv cv' iv' h1 h2 hb => by
          have := sameTable_same cv iv cv' iv' gT u u0 hb h1 h2
          unfold tabVal at this
          rw [hnm, hkey] at this
          exact this
        have HRw : Hid (∀ u, Below w3.heap.size w3 u → u.cell? ⟨rc, 0, none⟩ = some (.slice (some ⟨b, off, none⟩) SN SC) ∧ u.cell? ⟨b, off + j * 4, none⟩ = some (.string nm) ∧ u.cell? ⟨b, off + j * 4 + 1, none⟩ = some (.slice c1a c1n c1c) ∧ u.cell? ⟨b, off + j * 4 + 2, none⟩ = some (.int .i64 key) ∧ u.cell? ⟨b, off + j * 4 + 3, none⟩ = some (.slice c2a c2n c2c)) := fun u hu => by
          obtain ⟨b', off', e', r0, r1, r2, r3⟩ := HRc.out.rows u hu j _ hg
          dsimp only at e' r0 r1 r2 r3
          simp only [Option.some.injEq, Addr.mk.injEq] at e'
          obtain ⟨rfl, rfl, -⟩ := e'
          rw [hnm] at r0
          rw [hkey] at r2
          exact ⟨(HRr.out u hu).cell, r0, r1, r2, r3⟩
        rw [hnm] at q0
        rw [hkey] at q2
        clear hg hgl hgs hgT hnm hkey
        go_upto_region 13 with (go_at_call 15; go_must (refine (HF1.out _ HJ.out).mono ?_; rintro e w8 ⟨ca, cn, cc, ia, n8, ic, rfl, K8⟩))
        obtain ⟨tb, htb⟩ : ∃ tb, w8.heap.size = tb := ⟨_, rfl⟩
        obtain ⟨w9, hw9⟩ : ∃ u, w8.alloc (.cells #[.string nm, .slice ca cn cc, .int .i64 key, .slice ia n8 ic] 32) = u := ⟨_, rfl⟩
        have B89 : Below w8.heap.size w8 w9 := by rw [← hw9]; exact (Below.refl _ w8).alloc (Nat.le_refl _) _
        have T9 : w9.heap[tb]? = some (.cells #[.string nm, .slice ca cn cc, .int .i64 key, .slice ia n8 ic] 32 (0, 0)) := by rw [← hw9, ← htb]; exact heap_new w8 _
        have HB9 : Hid (Below w3.heap.size w3 w9) := K8.out.1.trans (B89.mono K8.out.1.size)
        have HS : Hid (∀ u, Below w9.heap.size w9 u → u.cell? ⟨tb, 0, none⟩ = some (.string nm) ∧ u.cell? ⟨tb, 1, none⟩ = some (.slice ca cn cc) ∧ u.cell? ⟨tb, 2, none⟩ = some (.int .i64 key) ∧ u.cell? ⟨tb, 3, none⟩ = some (.slice ia n8 ic) ∧ u.cell? ⟨rc, 0, none⟩ = some (.slice (some ⟨b, off, none⟩) SN SC) ∧ u.cell? ⟨b, off + j * 4, none⟩ = some (.string nm) ∧ u.cell? ⟨b, off + j * 4 + 1, none⟩ = some (.slice c1a c1n c1c) ∧ u.cell? ⟨b, off + j * 4 + 2, none⟩ = some (.int .i64 key) ∧ u.cell? ⟨b, off + j * 4 + 3, none⟩ = some (.slice c2a c2n c2c)) := fun u hu => by
          obtain ⟨x0, x1, x2, x3⟩ := box_cells ((hu.block tb (lt_of T9)).trans T9)
          exact ⟨x0, x1, x2, x3, HRw.out u (HB9.out.trans (hu.mono HB9.out.size))⟩
        have HSm2 : Hid (Calls Tryz.prog 11 #[.agg #[.string nm, .slice ca cn cc, .int .i64 key, .slice ia n8 ic], .agg #[.string nm, .slice c1a c1n c1c, .int .i64 key, .slice c2a c2n c2c]] w9.drew fun e w' => e = .returned (.bool true) ∧ Hid (Below w9.heap.size w9 w')) := by
          have hd : Below w9.heap.size w9 w9.drew := below_drewed (Below.refl _ w9)
          refine (HSm.out w9.drew w9 _ _ _ _ (K8.out.2.below B89) (HV.out w9 HB9.out) hd).mono fun e w' ⟨e1, e2⟩ => ⟨e1, hd.trans (e2.out.mono hd.size)⟩
        rw [htb, hw9]
        have HD9 : Hid (Below w9.heap.size w9 w9.drew) := below_drewed (Below.refl _ w9)
        clear htb hw9 T9 B89 K8 HSm HV HF1 c0 q0 q1 q2 q3
        have hj0 : (0 : Int) ≤ (j : Int) := by omega
        go_region_held3 (fun u => u.cell? ⟨tb, 0, none⟩ = some (.string nm) ∧ u.cell? ⟨tb, 1, none⟩ = some (.slice ca cn cc) ∧ u.cell? ⟨tb, 2, none⟩ = some (.int .i64 key) ∧ u.cell? ⟨tb, 3, none⟩ = some (.slice ia n8 ic) ∧ u.cell? ⟨rc, 0, none⟩ = some (.slice (some ⟨b, off, none⟩) SN SC) ∧ u.cell? ⟨b, off + j * 4, none⟩ = some (.string nm) ∧ u.cell? ⟨b, off + j * 4 + 1, none⟩ = some (.slice c1a c1n c1c) ∧ u.cell? ⟨b, off + j * 4 + 2, none⟩ = some (.int .i64 key) ∧ u.cell? ⟨b, off + j * 4 + 3, none⟩ = some (.slice c2a c2n c2c)) (first | exact HS.out _ HD9.out | exact HS.out _ K10.out)
          (first | (go_at_call 11; go_must (refine HSm2.out.mono ?_; rintro e w10 ⟨rfl, K10⟩)))
        go_wp2_with fail
        go_roundw
        case rel => exact ⟨j + 1, by omega, by go_num, HB9.out.trans (K10.out.mono HB9.out.size)⟩
        case measure => simp [intOf]; omega
      · have hlI : ¬ (j : Int) < (SN : Int) := by omega
        go_wp2_with (go_at_call 19; go_must (refine (HWk.out _ HJ.out).mono ?_; rintro e w9 ⟨rfl, K9⟩))
        go_ret
        exact ⟨rfl, K9.out⟩
  · exact walk_none bs w 3 (fun u => by rw [← HBs]; exact decode_bad u (by omega) (fun L hL => hgood ⟨L, hL⟩)) (fun u => by rw [← HBs]; exact rdecode_bad u (by omega) (fun L hL => hgood ⟨L, hL⟩))

end BytesL
end Go.Proofs.YtnboanlhdllhnaaGreat
