/- DiskTwice: for all calls and all draws the call returns true, and each argument reads behind it as it read before. -/
import Derived.Test.YtbiombolpfhdlaaRows
import Derived.Test.YtbiombolpfhdlaaAmong
import Derived.Test.YtbiombolpfhdlaaActs
import Derived.Test.YtbiombolpfhdlaaAll
namespace Go.Proofs.Ytbiombolpfhdlaa.Twice
open Go.ChangeShapes Go.WideShapes Go.ChangeAt Go.RowKit Go.Joins

set_option maxRecDepth 100000 in
set_option maxHeartbeats 4000000 in
theorem walk (v0 v1 v2 : Value) (L : List ActV) (ds1 ds2 : List Int) (w : World) (hA : ActsAt w v0 L) (hd1 : DrawsAt w (fun i => w.heap.size ≤ i) v1 ds1) (hd2 : DrawsAt w (fun i => w.heap.size ≤ i) v2 ds2) :
    Calls Try.prog 5 #[v0, v1, v2] w fun e w' => e = .returned (.bool true) ∧ Below w.heap.size w w' := by
  obtain ⟨a, c, rfl, hlc, hcm, hcells, hok⟩ := hA
  have HC : Hid (L ≠ [] → ∃ b off, a = some ⟨b, off, none⟩ ∧ b < w.heap.size ∧ ∀ i, (h : i < L.length) → ActCells w b (off + i * 5) L[i]) := hcells
  have HO : Hid (∀ x ∈ L, ActOk w x) := hok
  have HD1 : Hid (DrawsAt w (fun i => w.heap.size ≤ i) v1 ds1) := hd1
  have HD2 : Hid (DrawsAt w (fun i => w.heap.size ≤ i) v2 ds2) := hd2
  unfold maxLen at hcm
  clear hcells hok hd1 hd2
  go_enter Try.func5, Try.ntmps5
  go_wp2_with fail
  refine (has_new _).mono ?_
  rintro e u1 ⟨rfl, H1⟩
  go_wp2_with fail
  refine (works_any _).mono ?_
  rintro e u2 ⟨rfl, H2⟩
  have H3 := H1.below H2
  clear H1 H2
  go_wp2_with fail
  go_loopw [8] (fun i wr => ∃ j : Nat, j ≤ L.length ∧ j ≤ 100 ∧ i = .int .i64 j ∧ ∃ s, Has w.heap.size w wr (w.heap.size + 1) s) (fun i _ => L.length - (intOf i).toNat)
  case atStart => exact ⟨0, Nat.zero_le _, Nat.zero_le _, rfl, _, H3⟩
  case round =>
    obtain ⟨j, hj, hj2, rfl, s, HJ⟩ := hrel
    clear H3
    by_cases hlt : j < L.length ∧ j < 100
    · obtain ⟨hlt, hl100⟩ := hlt
      obtain ⟨b, off, rfl, hb, hc⟩ := HC.out (fun e => by rw [e] at hlt; simp at hlt)
      have hx := (hc j hlt).below HJ.pull hb
      have hxo := HO.out _ (List.getElem_mem hlt)
      obtain ⟨x, hxe⟩ : ∃ x, L[j] = x := ⟨_, rfl⟩
      rw [hxe] at hx hxo
      obtain ⟨g0, g1, g2, g3, g4⟩ := hx
      obtain ⟨n1, n2, n3, n4⟩ := hxo
      obtain ⟨da, dc, hdv, -⟩ := n4
      rw [hdv] at g4
      have hljI : (j : Int) < (L.length : Int) := by omega
      have hl1I : (j : Int) < 100 := by omega
      clear hc hxe
      go_wp2_with fail
      have HB := HJ.below ((Below.refl _ wr).alloc (Nat.le_refl _) (.cells #[.int .i64 x.kind, .string x.name, .string x.data, .int .i64 x.num, .slice da x.ds.length dc] 31 (0, 0)))
      have p1 := Int.emod_nonneg x.kind (show (4 : Int) ≠ 0 by omega)
      have p2 := Int.emod_lt_of_pos x.kind (show (0 : Int) < 4 by omega)
      obtain ⟨n, hn⟩ := Int.eq_ofNat_of_zero_le p1
      have A1 := among_any x.kind 4 (wr.alloc (.cells #[.int .i64 x.kind, .string x.name, .string x.data, .int .i64 x.num, .slice da x.ds.length dc] 31 (0, 0))) (by omega) (by omega)
      rw [hn] at A1
      have hn4 : n < 4 := by omega
      refine A1.mono ?_
      rintro e u3 ⟨rfl, rfl⟩
      clear A1 p1 p2 hn HJ g0 g1 g2 g3 g4
      match n, hn4 with
      | 0, _ =>
        go_wp2_with fail
        refine (has_append x.name x.data _ HB n1 n2 rfl rfl).mono ?_
        rintro e u4 ⟨rfl, H4⟩
        go_wp2_with fail
        go_roundw
        case rel => exact ⟨j + 1, by omega, by omega, by go_num, _, H4⟩
        case measure => simp [intOf]; omega
      | 1, _ =>
        go_wp2_with fail
        refine (has_sync x.name _ HB n1 rfl rfl).mono ?_
        rintro e u4 ⟨rfl, H4⟩
        go_wp2_with fail
        go_roundw
        case rel => exact ⟨j + 1, by omega, by omega, by go_num, _, H4⟩
        case measure => simp [intOf]; omega
      | 2, _ =>
        go_wp2_with fail
        refine (has_rename x.name x.data _ HB n1 n2 rfl rfl).mono ?_
        rintro e u4 ⟨rfl, H4⟩
        go_wp2_with fail
        go_roundw
        case rel => exact ⟨j + 1, by omega, by omega, by go_num, _, H4⟩
        case measure => simp [intOf]; omega
      | 3, _ =>
        go_wp2_with fail
        refine (has_fuse x.num _ HB n3 rfl rfl).mono ?_
        rintro e u4 ⟨rfl, H4⟩
        go_wp2_with fail
        go_roundw
        case rel => exact ⟨j + 1, by omega, by omega, by go_num, _, H4⟩
        case measure => simp [intOf]; omega
    · have HD1w := HD1.out.under HJ.pull
      have HSafe : Hid (∀ p ∈ s.fs, p.2.safe ≤ p.2.data.length) := by
        obtain ⟨m, G, hD, -⟩ := HJ
        intro p hp
        rw [hD.fs] at hp
        unfold Dk.mapL at hp
        obtain ⟨q, hq, rfl⟩ := List.mem_map.1 hp
        exact (hD.files q hq).safe
      obtain ⟨a2, c2, hv2, -, hc2, -⟩ := HD2.out
      unfold maxLen at hc2
      by_cases hlI : (j : Int) < (L.length : Int)
      · have hl1I : ¬ (j : Int) < 100 := by omega
        clear hlt hj hj2 HC HO
        by_cases hL1 : 4096 < ds1.length
        · go_wp2_with fail
          refine (has_crash v1 ds1 _ HJ HD1w (E := 2) (by unfold Dk.crashE; rw [if_pos hL1]) rfl).mono ?_
          rintro e u3 ⟨rfl, H4⟩
          go_wp2_with fail
          go_ret
          exact ⟨rfl, H4.pull⟩
        · have HL1 : Hid (¬ 4096 < ds1.length) := hL1
          clear hL1
          go_wp2_with fail
          refine (has_crash v1 ds1 _ HJ HD1w (E := 0) (by unfold Dk.crashE; rw [if_neg HL1.out]) rfl).mono ?_
          rintro e u3 ⟨rfl, H4⟩
          clear HJ HD1w
          obtain ⟨m, G, hD, hfo, hbe, hsz⟩ := H4
          go_wp2_with fail
          refine (all_any u3 hD).mono ?_
          rintro e u4 ⟨vb, rfl, hrow, hD4, hb4⟩
          have HRow : Hid (u4.ownsRow u3.heap.size 9 1 vb (2 * (Dk.crashS s ds1).fs.length) ((flat (Dk.crashS s ds1).fs).map Go.Proofs.encStr)) := hrow
          have HBe4 : Hid (Below w.heap.size w u4) := hbe.trans (hb4.mono hsz)
          have HSz4 : Hid (w.heap.size ≤ u4.heap.size) := Nat.le_trans hsz hb4.size
          have HD2w : Hid (DrawsAt u4 (foot (w.heap.size + 1) m G) v2 ds2) := by
            obtain ⟨xa, xc, e1, e2, e3, e4, e5⟩ := HD2.out.under HBe4.out
            refine ⟨xa, xc, e1, e2, e3, fun hr => ?_, e5⟩
            obtain ⟨xb, xo, e6, e7, e8, e9⟩ := e4 hr
            exact ⟨xb, xo, e6, e7, fun hf => e8 (hfo xb hf), e9⟩
          have HFo : Hid (∀ i, foot (w.heap.size + 1) m G i → w.heap.size ≤ i) := hfo
          have HFl : Hid (∀ i, foot (w.heap.size + 1) m G i → i < u3.heap.size) := fun i hi => hD.lt hi
          have HCr := crash_any v2 ds2 u4 hD4 HD2w.out
          clear hrow hfo hbe hsz hb4 hD hD4
          rw [hv2] at HCr
          subst hv2
          by_cases hL2 : 4096 < ds2.length
          · have e1 : Dk.crashE ds2 = 2 := by unfold Dk.crashE; rw [if_pos hL2]
            rw [e1] at HCr
            have hL2I : (4096 : Int) < (ds2.length : Int) := by omega
            clear e1 hL2
            go_wp2_with fail
            refine HCr.mono ?_
            rintro e u5 ⟨rfl, hG⟩
            have H5 := Has.goes HFo.out HBe4.out HSz4.out hG
            clear HCr hG
            go_wp2_with fail
            go_ret
            exact ⟨rfl, H5.pull⟩
          · have e1 : Dk.crashE ds2 = 0 := by unfold Dk.crashE; rw [if_neg hL2]
            rw [e1] at HCr
            have HEq : Hid ((Dk.crashS (Dk.crashS s ds1) ds2).fs = (Dk.crashS s ds1).fs) := Dk.crashS_twice s ds1 ds2 HSafe.out HL1.out hL2
            clear e1 hL2
            go_wp2_with fail
            refine HCr.mono ?_
            rintro e u5 ⟨rfl, hG⟩
            have H5 := Has.goes HFo.out HBe4.out HSz4.out hG
            clear HCr
            obtain ⟨G5, hD5, ht5, -⟩ := hG
            have HR5 : Hid (u5.ownsRow u3.heap.size 9 1 vb (2 * (Dk.crashS s ds1).fs.length) ((flat (Dk.crashS s ds1).fs).map Go.Proofs.encStr)) := by
              refine ownsRow_block HRow.out (fun g hg => ht5.block g ((HRow.out.lt g hg).2) (fun hf => ?_))
              have := HFl.out g hf
              have := (HRow.out.lt g hg).1
              omega
            clear ht5
            go_wp2_with fail
            refine (all_any u5 hD5).mono ?_
            rintro e u6 ⟨v6, rfl, hrow6, hD6, hb6⟩
            have HR6 : Hid (u6.ownsRow u3.heap.size 9 1 vb (2 * (Dk.crashS s ds1).fs.length) ((flat (Dk.crashS s ds1).fs).map Go.Proofs.encStr)) :=
              ownsRow_block HR5.out (fun g hg => hb6.block g ((HR5.out.lt g hg).2))
            have HSame := sameTexts_true v6 vb (flat (Dk.crashS s ds1).fs) u6 (HEq.out ▸ (strs_of_row hrow6).1) (strs_of_row HR6.out).1
            have H6 := H5.below hb6
            clear hrow6 hD6 hD5
            go_wp2_with fail
            refine HSame.mono ?_
            rintro e u7 ⟨rfl, nd, rfl⟩
            clear HSame
            have H7 := H6.below (below_drewN u6 nd)
            go_wp2_with fail
            go_ret
            exact ⟨rfl, H7.pull⟩
      · skip
        clear hlt hj hj2 HC HO
        by_cases hL1 : 4096 < ds1.length
        · go_wp2_with fail
          refine (has_crash v1 ds1 _ HJ HD1w (E := 2) (by unfold Dk.crashE; rw [if_pos hL1]) rfl).mono ?_
          rintro e u3 ⟨rfl, H4⟩
          go_wp2_with fail
          go_ret
          exact ⟨rfl, H4.pull⟩
        · have HL1 : Hid (¬ 4096 < ds1.length) := hL1
          clear hL1
          go_wp2_with fail
          refine (has_crash v1 ds1 _ HJ HD1w (E := 0) (by unfold Dk.crashE; rw [if_neg HL1.out]) rfl).mono ?_
          rintro e u3 ⟨rfl, H4⟩
          clear HJ HD1w
          obtain ⟨m, G, hD, hfo, hbe, hsz⟩ := H4
          go_wp2_with fail
          refine (all_any u3 hD).mono ?_
          rintro e u4 ⟨vb, rfl, hrow, hD4, hb4⟩
          have HRow : Hid (u4.ownsRow u3.heap.size 9 1 vb (2 * (Dk.crashS s ds1).fs.length) ((flat (Dk.crashS s ds1).fs).map Go.Proofs.encStr)) := hrow
          have HBe4 : Hid (Below w.heap.size w u4) := hbe.trans (hb4.mono hsz)
          have HSz4 : Hid (w.heap.size ≤ u4.heap.size) := Nat.le_trans hsz hb4.size
          have HD2w : Hid (DrawsAt u4 (foot (w.heap.size + 1) m G) v2 ds2) := by
            obtain ⟨xa, xc, e1, e2, e3, e4, e5⟩ := HD2.out.under HBe4.out
            refine ⟨xa, xc, e1, e2, e3, fun hr => ?_, e5⟩
            obtain ⟨xb, xo, e6, e7, e8, e9⟩ := e4 hr
            exact ⟨xb, xo, e6, e7, fun hf => e8 (hfo xb hf), e9⟩
          have HFo : Hid (∀ i, foot (w.heap.size + 1) m G i → w.heap.size ≤ i) := hfo
          have HFl : Hid (∀ i, foot (w.heap.size + 1) m G i → i < u3.heap.size) := fun i hi => hD.lt hi
          have HCr := crash_any v2 ds2 u4 hD4 HD2w.out
          clear hrow hfo hbe hsz hb4 hD hD4
          rw [hv2] at HCr
          subst hv2
          by_cases hL2 : 4096 < ds2.length
          · have e1 : Dk.crashE ds2 = 2 := by unfold Dk.crashE; rw [if_pos hL2]
            rw [e1] at HCr
            have hL2I : (4096 : Int) < (ds2.length : Int) := by omega
            clear e1 hL2
            go_wp2_with fail
            refine HCr.mono ?_
            rintro e u5 ⟨rfl, hG⟩
            have H5 := Has.goes HFo.out HBe4.out HSz4.out hG
            clear HCr hG
            go_wp2_with fail
            go_ret
            exact ⟨rfl, H5.pull⟩
          · have e1 : Dk.crashE ds2 = 0 := by unfold Dk.crashE; rw [if_neg hL2]
            rw [e1] at HCr
            have HEq : Hid ((Dk.crashS (Dk.crashS s ds1) ds2).fs = (Dk.crashS s ds1).fs) := Dk.crashS_twice s ds1 ds2 HSafe.out HL1.out hL2
            clear e1 hL2
            go_wp2_with fail
            refine HCr.mono ?_
            rintro e u5 ⟨rfl, hG⟩
            have H5 := Has.goes HFo.out HBe4.out HSz4.out hG
            clear HCr
            obtain ⟨G5, hD5, ht5, -⟩ := hG
            have HR5 : Hid (u5.ownsRow u3.heap.size 9 1 vb (2 * (Dk.crashS s ds1).fs.length) ((flat (Dk.crashS s ds1).fs).map Go.Proofs.encStr)) := by
              refine ownsRow_block HRow.out (fun g hg => ht5.block g ((HRow.out.lt g hg).2) (fun hf => ?_))
              have := HFl.out g hf
              have := (HRow.out.lt g hg).1
              omega
            clear ht5
            go_wp2_with fail
            refine (all_any u5 hD5).mono ?_
            rintro e u6 ⟨v6, rfl, hrow6, hD6, hb6⟩
            have HR6 : Hid (u6.ownsRow u3.heap.size 9 1 vb (2 * (Dk.crashS s ds1).fs.length) ((flat (Dk.crashS s ds1).fs).map Go.Proofs.encStr)) :=
              ownsRow_block HR5.out (fun g hg => hb6.block g ((HR5.out.lt g hg).2))
            have HSame := sameTexts_true v6 vb (flat (Dk.crashS s ds1).fs) u6 (HEq.out ▸ (strs_of_row hrow6).1) (strs_of_row HR6.out).1
            have H6 := H5.below hb6
            clear hrow6 hD6 hD5
            go_wp2_with fail
            refine HSame.mono ?_
            rintro e u7 ⟨rfl, nd, rfl⟩
            clear HSame
            have H7 := H6.below (below_drewN u6 nd)
            go_wp2_with fail
            go_ret
            exact ⟨rfl, H7.pull⟩

set_option maxRecDepth 100000 in
theorem lifted (os : Os) (started : os.Started) (H : Type) (enc : TypeId × Value → H) :
    ReturnsInHanded {} Try.checked os 5 .any (Rows.diskTwiceSpec.pre6 enc Try.prog Try.f5 Rows.diskTwiceRow.domain false) (Rows.diskTwiceSpec.post enc Try.prog Try.f5 false true false false) := by
  refine returnsInHanded_of_change (C := Try.checked) own started (by kernel_rfl) Try.func5
    (ChangeSpec.witness6 (enc := enc) (C := Try.checked) false ⟨#[], #[.slice none 0 0, .slice none 0 0, .slice none 0 0], []⟩ 8 (by kernel_rfl) (by kernel_rfl) (by kernel_rfl) (by kernel_rfl)) ?_
  intro W base args ds gs before hval0 hW hcnd _
  have hval : ∀ (j : Nat) t v, Try.f5.params[j]? = some t → args[j]? = some v → Value.okWide Try.prog W .any base t v := hval0
  have hW' := hW
  obtain ⟨p, q, hA0, hV, rfl, hfz, hnd⟩ := hW
  have hA : DataW.TrodAll enc Try.prog W 0 (fun _ => true) true Try.f5.params.toList args.toList ds p := hA0
  rw [Try.params5] at hA hval
  obtain ⟨v0, vs0, d0, ds0, p0, q0, hargs, rfl, rfl, h0, r0⟩ := trodAll_cons hA
  obtain ⟨v1, vs1, d1, ds1, p1, q1, rfl, rfl, rfl, h1, r1⟩ := trodAll_cons r0
  obtain ⟨v2, vs2, d2, ds2, p2, q2, rfl, rfl, rfl, h2, r2⟩ := trodAll_cons r1
  obtain ⟨rfl, rfl, rfl⟩ := trodAll_nil r2
  obtain rfl : args = #[v0, v1, v2] := by cases args; simp_all
  obtain ⟨rfl, rfl⟩ := trodVars_none hV
  have lt0 : ∀ x ∈ p0, x.block < W.heap.size := by obtain ⟨m, hm⟩ := h0; exact DataW.trod_lt m _ _ _ hm
  have lt1 : ∀ x ∈ p1, x.block < W.heap.size := by obtain ⟨m, hm⟩ := h1; exact DataW.trod_lt m _ _ _ hm
  have lt2 : ∀ x ∈ p2, x.block < W.heap.size := by obtain ⟨m, hm⟩ := h2; exact DataW.trod_lt m _ _ _ hm
  have x0 : ∃ L, ActsAt W v0 L := by
    obtain ⟨a, l, c, rfl⟩ := okWide_slice Try.underlying22 (hval 0 22 v0 rfl rfl)
    obtain ⟨m, hm⟩ := h0
    exact acts_of hm
  have x1 : ∃ dl, DrawsAt W (fun i => W.heap.size ≤ i) v1 dl := by
    obtain ⟨a, l, c, rfl⟩ := okWide_slice Try.underlying29 (hval 1 29 v1 rfl rfl)
    obtain ⟨m, hm⟩ := h1
    obtain ⟨a', dl, c', e, hd⟩ := draws_of hm
    exact ⟨dl, e ▸ hd⟩
  have x2 : ∃ dl, DrawsAt W (fun i => W.heap.size ≤ i) v2 dl := by
    obtain ⟨a, l, c, rfl⟩ := okWide_slice Try.underlying29 (hval 2 29 v2 rfl rfl)
    obtain ⟨m, hm⟩ := h2
    obtain ⟨a', dl, c', e, hd⟩ := draws_of hm
    exact ⟨dl, e ▸ hd⟩
  obtain ⟨L, hL⟩ := x0
  obtain ⟨dl1, hd1⟩ := x1
  obtain ⟨dl2, hd2⟩ := x2
  clear hA0 hval0
  refine (walk v0 v1 v2 L dl1 dl2 W hL hd1 hd2).mono fun e W' ⟨he, bel⟩ => ?_
  subst he
  exact ⟨_, rfl, _, _, _, [], _, [], hW', trodAll_mk1 (shut_bool Try.underlying4 _), (trodAll_cons_mk (Below.trod laidOut (by kernel_rfl) (of_decide_eq_true (by kernel_rfl)) h0 bel lt0) (trodAll_cons_mk (Below.trod laidOut (by kernel_rfl) (of_decide_eq_true (by kernel_rfl)) h1 bel lt1) (trodAll_cons_mk (Below.trod laidOut (by kernel_rfl) (of_decide_eq_true (by kernel_rfl)) h2 bel lt2) trodAll_mk0))), rfl, bel.frame _, fun h => by cases h⟩

end Go.Proofs.Ytbiombolpfhdlaa.Twice

namespace Go.Proofs.Ytbiombolpfhdlaa
theorem diskTwice_holds : Rows.DiskTwiceSaid :=
  OpenClaim.holds_of_wide 5 Try.f5 rfl rfl rfl rfl rfl rfl rfl ⟨rfl, rfl, rfl, rfl, rfl⟩ rfl rfl rfl rfl rfl (by kernel_rfl) Try.func5 (by kernel_rfl)
    (of_decide_eq_true (by kernel_rfl)) (by unfold Func.isWrapper; first | (rw [if_pos (by decide +kernel)]; kernel_rfl) | (rw [if_neg (by decide +kernel)]; exact ⟨rfl, rfl⟩))
    (fun os started H enc _ => Twice.lifted os started H enc)
end Go.Proofs.Ytbiombolpfhdlaa
