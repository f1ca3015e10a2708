/- The reference disk: Crash. -/
import Derived.Test.YtbiombolpfhdlaaRefJ
namespace Go.Proofs.Ytbiombolpfhdlaa
open Go.RowKit Go.Maps

theorem cutS (hb : ByteArray) (n : Nat) (h : n ≤ hb.size) (W : World) : (Instr.slice 9 (.string hb) none (some (.int .i64 (n : Int))) none).run Try.prog W = .ok (.string (hb.extract 0 n)) W := by
  have h1 : (n : Int) ≤ (hb.size : Int) := by omega
  simp [Instr.slice, run_underlying Try.underlying9, Instr.sliceBounds, run_sliceBound, h1, Result.andThen]

theorem bs_take (l : List UInt8) (n : Nat) : bs (l.take n) = (bs l).extract 0 n := by
  apply ByteArray.ext
  apply Array.ext'
  simp [bs]

theorem midL_get {l : List (List UInt8 × Dk.Fil)} {ds : List Int} {j : Nat} (h : j < l.length) : ∃ h' : j < (Dk.midL l ds j).length, (Dk.midL l ds j)[j] = l[j] := by
  have e := Dk.midL_split l ds j h
  have hl : (Dk.crashL (l.take j) ds).length = j := by rw [Dk.length_crashL, List.length_take]; omega
  have h' : j < (Dk.midL l ds j).length := by rw [e]; simp; omega
  refine ⟨h', ?_⟩
  have h2 : (Dk.midL l ds j)[j]? = some l[j] := by
    rw [e, List.getElem?_append_right (by omega), hl, Nat.sub_self]
    rfl
  obtain ⟨_, h3⟩ := List.getElem?_eq_some_iff.1 h2
  exact h3

theorem midL_length (l : List (List UInt8 × Dk.Fil)) (ds : List Int) (j : Nat) : (Dk.midL l ds j).length = l.length := by
  have := congrArg List.length (Dk.keysL_midL l ds j)
  unfold Dk.keysL at this
  simpa using this

theorem midL_rise {l : List (List UInt8 × Dk.Fil)} (h : Dk.Rise l) (ds : List Int) (j : Nat) : Dk.Rise (Dk.midL l ds j) := by
  have e := Dk.keysL_midL l ds j
  unfold Dk.Rise at h ⊢
  unfold Dk.keysL at e
  have h1 : (l.map (fun p => p.1)).Pairwise (fun a b => bytesBefore a b = true) := List.pairwise_map.2 h
  rw [← e] at h1
  exact List.pairwise_map.1 h1

section
variable {r : Nat} {v : Value} {s : Dk.Dsk}

/-- three stores into the row's file j: it is torn -/
theorem rcrash_tear {w W2 : World} {g c j : Nat} {ds : List Int} {k0 cut : ByteArray} {n0 : Int} (h : RefG W2 r v (sMid s ds j)) (hv : v = .slice (some ⟨g, 0, none⟩) s.fs.length c) (hI : Inv s) (hT : Turn (rfoot r v) w W2) (hj : j < s.fs.length) (he : (s.fs[j]).2.data.length ≠ (s.fs[j]).2.safe)
    (h0 : bs (s.fs[j]).1 = k0) (h1 : bs (Dk.tearF (s.fs[j]).2 ((Dk.restD (s.fs.take j) ds).headD 0)).data = cut) (h2 : ((Dk.tearF (s.fs[j]).2 ((Dk.restD (s.fs.take j) ds).headD 0)).safe : Int) = n0) :
    RefG (((W2.setCell ⟨g, j * 3, none⟩ (.string k0)).setCell ⟨g, j * 3 + 1, none⟩ (.string cut)).setCell ⟨g, j * 3 + 2, none⟩ (.int .i64 n0)) r v (sMid s ds (j + 1)) ∧
    Turn (rfoot r v) w (((W2.setCell ⟨g, j * 3, none⟩ (.string k0)).setCell ⟨g, j * 3 + 1, none⟩ (.string cut)).setCell ⟨g, j * 3 + 2, none⟩ (.int .i64 n0)) := by
  subst h0 h1 h2
  have hg : v.ownBlock = some g := by rw [hv]; rfl
  have hrg : r ≠ g := h.r_row hg
  have ts : ∀ (W : World) (j : Nat) (u : Value), Turn (rfoot r v) W (W.setCell ⟨g, j, none⟩ u) := fun W j u => Turn.setCell W ⟨g, j, none⟩ u (Or.inr hg)
  refine ⟨⟨?_, ?_⟩, ((hT.trans (ts _ _ _)).trans (ts _ _ _)).trans (ts _ _ _)⟩
  · show (World.heap _)[r]? = some (.cells #[v, .int .i64 (leftI (sMid s ds (j + 1))), .bool (sMid s ds (j + 1)).down] 56 (0, 0))
    rw [Below.heap_setCell _ _ _ _ hrg, Below.heap_setCell _ _ _ _ hrg, Below.heap_setCell _ _ _ _ hrg]
    exact h.top
  · obtain ⟨h', hget⟩ := midL_get (ds := ds) hj
    have hR := midL_rise hI.rise ds j
    have e : Dk.midL s.fs ds (j + 1) = (Dk.midL s.fs ds j).set j ((s.fs[j]).1, Dk.tearF (s.fs[j]).2 ((Dk.restD (s.fs.take j) ds).headD 0)) := by
      rw [(Dk.mid_tear hj hR he).1]
      exact put_old _ hR h' (by rw [hget])
    show World.ownsRow _ 0 61 3 v (Dk.midL s.fs ds (j + 1)).length (rcells (Dk.midL s.fs ds (j + 1)))
    rw [e, List.length_set, rcells_set _ _ h', hv]
    have hr := h.row
    have hl : (sMid s ds j).fs.length = s.fs.length := midL_length s.fs ds j
    rw [hv, hl] at hr
    rw [midL_length]
    exact ownsRow_setCell (ownsRow_setCell (ownsRow_setCell hr _ _) _ _) _ _

set_option maxRecDepth 100000 in
set_option maxHeartbeats 400000 in
theorem rcrash_long (u : Value) (ds : List Int) (w : World) (h : RefG w r v s) {S : Nat → Prop} (hd : DrawsAt w S u ds) (hl : 4096 < ds.length) :
    Calls Try.prog 32 #[.pointer (some ⟨r, 0, none⟩), u] w fun e w' => e = .returned (.int .i64 (Dk.crashE ds)) ∧ RGoes w w' r v (Dk.crashS s ds) := by
  have H : Hid (RefG w r v s) := h
  obtain ⟨a, c, rfl, -, hc, -⟩ := hd
  rw [show Dk.crashE ds = 2 from by unfold Dk.crashE; rw [if_pos hl], show Dk.crashS s ds = s from by unfold Dk.crashS; rw [if_pos hl]]
  unfold maxLen at hc
  have hl' : (4096 : Int) < (ds.length : Int) := by omega
  clear h hl
  go_enter Try.func32, Try.ntmps32
  go_wp2
  go_ret
  exact ⟨rfl, RGoes.stay H.out⟩

def rUp (w : World) (r : Nat) : World := (w.setCell ⟨r, 2, none⟩ (.bool false)).setCell ⟨r, 1, none⟩ (.int .i64 (-1))
theorem rup_turn (w : World) (r : Nat) : Turn (fun i => i = r) w (rUp w r) := (Turn.setCell (S := fun i => i = r) w ⟨r, 2, none⟩ _ rfl).trans (Turn.setCell _ ⟨r, 1, none⟩ _ rfl)
theorem rup_ref {w : World} (h : RefG w r v s) (ds : List Int) : RefG (rUp w r) r v (sMid s ds 0) := by
  refine h.topped (rup_turn w r) ?_ rfl
  unfold rUp
  rw [heap_setCell_same (heap_setCell_same h.top 2 _) 1]
  simp [sMid, leftI]

theorem rest_head {ds : List Int} {n : Nat} : (ds.drop n).headD 0 = ds.getD n 0 := by
  simp [List.headD_eq_head?_getD, List.head?_drop, List.getD_eq_getElem?_getD]

/-- a box beside it: written, drawn -/
theorem RefG.beside {wr W2 : World} {b : Nat} (h : RefG wr r v s) (ht : Turn (fun i => i = b) wr W2) (hb : wr.heap.size ≤ b) : RefG W2 r v s := h.kept ht (fun i hi e => by have := h.lt hi; omega)

set_option maxRecDepth 100000 in
set_option maxHeartbeats 1000000 in
theorem rcrash_some (u : Value) (ds : List Int) (w : World) (h : RefG w r v s) (hI : Inv s) (hd : DrawsAt w (rfoot r v) u ds) (hl : ds.length ≤ 4096) (hp : 0 < s.fs.length) :
    Calls Try.prog 32 #[.pointer (some ⟨r, 0, none⟩), u] w fun e w' => e = .returned (.int .i64 (Dk.crashE ds)) ∧ RGoes w w' r v (Dk.crashS s ds) := by
  have H : Hid (RefG w r v s) := h
  have HD : Hid (DrawsAt w (rfoot r v) u ds) := hd
  have HI : Hid (Inv s) := hI
  have hfew := hI.few
  obtain ⟨a', c', hv', -, hc', -, -⟩ := hd
  have HE : Hid (Dk.crashE ds = 0) := by show _ = _; unfold Dk.crashE; rw [if_neg (by omega)]
  have HS : Hid (sMid s ds s.fs.length = Dk.crashS s ds) := by
    show _ = _
    unfold Dk.crashS sMid
    rw [if_neg (by omega), Dk.midL_all _ _ _ (Nat.le_refl _)]
  rw [HE.out]
  obtain ⟨a, c, hv, hnc, hcm, hpos⟩ := row3 h.row
  obtain ⟨g, rfl⟩ := hpos hp
  have HV : Hid (v = .slice (some ⟨g, 0, none⟩) s.fs.length c) := hv
  unfold maxLen at hc' hcm
  have hl' : ¬ (4096 : Int) < (ds.length : Int) := by omega
  have hlN : (ds.length : Int) ≤ 4096 := by omega
  obtain ⟨c0, c1, c2⟩ := h.cells
  have f1 := frozen_of h.top 1
  have f2 := frozen_of h.top 2
  have HU : Hid (RefG (rUp w r) r v (sMid s ds 0)) := rup_ref h ds
  have HUT : Hid (Turn (rfoot r v) w (rUp w r)) := (rup_turn w r).mono (fun _ hi => Or.inl hi)
  obtain ⟨wu, hwu⟩ : ∃ wu, (w.setCell ⟨r, 2, none⟩ (.bool false)).setCell ⟨r, 1, none⟩ (.int .i64 (-1)) = wu := ⟨_, rfl⟩
  have hwu' : rUp w r = wu := hwu
  rw [hwu'] at HU HUT
  clear h hI hl hpos hv hwu'
  subst hv'
  go_enter Try.func32, Try.ntmps32
  go_wp2
  clear hwu c0 c1 c2 f1 f2
  go_loopw [5, 6] (fun nx i wr => ∃ j n : Nat, j ≤ s.fs.length ∧ n ≤ j ∧ nx = .int .i64 n ∧ i = .int .i64 j ∧ Dk.restD (s.fs.take j) ds = ds.drop n ∧ RefG wr r v (sMid s ds j) ∧ Turn (rfoot r v) w wr) (fun _ i _ => s.fs.length - (intOf i).toNat)
  case atStart => exact ⟨0, 0, Nat.zero_le _, Nat.zero_le _, rfl, rfl, rfl, HU.out, HUT.out⟩
  case round =>
    obtain ⟨j, n, hj, hnj, rfl, rfl, hrest, hG, hT⟩ := hrel
    have HRest : Hid (Dk.restD (s.fs.take j) ds = ds.drop n) := hrest
    have HG : Hid (RefG wr r v (sMid s ds j)) := hG
    have HT : Hid (Turn (rfoot r v) w wr) := hT
    have c0 : wr.cell? ⟨r, 0, none⟩ = some (.slice (some ⟨g, 0, none⟩) s.fs.length c) := hG.cells.1.trans (congrArg some HV.out)
    have hrl : r < wr.heap.size := lt_of hG.top
    have hrow := hG.row
    rw [HV.out, show (sMid s ds j).fs.length = s.fs.length from midL_length s.fs ds j] at hrow
    have hgl : g < wr.heap.size := (hrow.lt g rfl).2
    have HRow : Hid (wr.ownsRow 0 61 3 (.slice (some ⟨g, 0, none⟩) s.fs.length c) s.fs.length (rcells (Dk.midL s.fs ds j))) := hrow
    clear hrest hG hT hrow
    by_cases hlt : j < s.fs.length
    · obtain ⟨h', hget⟩ := midL_get (ds := ds) hlt
      have hrow := HRow.out
      rw [show s.fs.length = (Dk.midL s.fs ds j).length from (midL_length s.fs ds j).symm] at hrow
      obtain ⟨q0, q1, q2⟩ := row_file hrow h'
      rw [hget] at q0 q1 q2
      have hfg : ∀ i, wr.frozen? ⟨g, i, none⟩ = false := by
        intro i
        rcases hrow.2 with ⟨e, _⟩ | ⟨g', cap', cur, e, _, hg, _⟩
        · cases e
        · cases e; exact frozen_of hg i
      have fz0 := hfg (j * 3)
      have fz1 := hfg (j * 3 + 1)
      have fz2 := hfg (j * 3 + 2)
      obtain ⟨k0, hk0⟩ : ∃ k0, bs (s.fs[j]).1 = k0 := ⟨_, rfl⟩
      obtain ⟨hb, hhb⟩ : ∃ hb, bs (s.fs[j]).2.data = hb := ⟨_, rfl⟩
      obtain ⟨S0, hS0⟩ : ∃ S0 : Nat, (s.fs[j]).2.safe = S0 := ⟨_, rfl⟩
      rw [hk0] at q0
      rw [hhb] at q1
      rw [hS0] at q2
      have HK0 : Hid (bs (s.fs[j]).1 = k0) := hk0
      have HHb : Hid (bs (s.fs[j]).2.data = hb) := hhb
      have HS0 : Hid ((s.fs[j]).2.safe = S0) := hS0
      have hsz : hb.size = (s.fs[j]).2.data.length := by rw [← hhb]; exact bs_size _
      have HSz : Hid (hb.size = (s.fs[j]).2.data.length) := hsz
      have hsl : S0 ≤ hb.size := by rw [hsz, ← hS0]; exact HI.out.safe _ (List.getElem_mem hlt)
      have hbl : hb.size ≤ 262144 := by rw [hsz]; exact HI.out.len _ (List.getElem_mem hlt)
      have hlI : (j : Int) < (s.fs.length : Int) := by omega
      clear hget hrow hfg hk0 hhb hS0 hsz h'
      by_cases he : S0 = hb.size
      · have heI : ((S0 : Int) == (hb.size : Int)) = true := by rw [beq_iff_eq]; omega
        have HEq : Hid ((s.fs[j]).2.data.length = (s.fs[j]).2.safe) := by show _ = _; rw [← HSz.out, HS0.out, he]
        clear he
        go_wp2
        go_roundw
        case rel =>
          have e2 : sMid s ds (j + 1) = sMid s ds j := by unfold sMid; rw [(Dk.mid_stay hlt HEq.out).1]
          refine ⟨j + 1, n, by omega, by omega, rfl, by go_num, (Dk.mid_stay hlt HEq.out).2.trans HRest.out, ?_, ?_⟩
          · rw [e2]
            exact HG.out.below ((Below.refl _ _).alloc (Nat.le_refl _) _)
          · exact HT.out.trans (Turn.alloc wr _)
        case measure => simp [intOf]; omega
      · have heI : ((S0 : Int) == (hb.size : Int)) = false := by rw [beq_eq_false_iff_ne]; omega
        have HNe : Hid ((s.fs[j]).2.data.length ≠ (s.fs[j]).2.safe) := by show _ ≠ _; rw [← HSz.out, HS0.out]; omega
        clear he
        have HTm := Dk.mid_tear (ds := ds) hlt (midL_rise HI.out.rise ds j) HNe.out
        have HNext : Hid (Dk.restD (s.fs.take (j + 1)) ds = ds.drop (n + 1)) := by
          show _ = _
          rw [HTm.2, HRest.out, List.tail_drop]
        have HHead : Hid ((Dk.restD (s.fs.take j) ds).headD 0 = ds.getD n 0) := by show _ = _; rw [HRest.out, rest_head]
        clear HTm
        by_cases hn : n < ds.length
        · obtain ⟨b, off, ha', hbl2, hbS, hbc⟩ := (show ds ≠ [] → ∃ b off, a' = some ⟨b, off, none⟩ ∧ b < w.heap.size ∧ ¬ rfoot r v b ∧ ∀ i, i < ds.length → w.cell? ⟨b, off + i, none⟩ = some (.int .i64 (ds.getD i 0)) from by
            obtain ⟨a2, c2, e1, _, _, e4, _⟩ := HD.out
            cases e1
            exact e4) (by intro e; rw [e] at hn; simp at hn)
          subst ha'
          have hx : ds.getD n 0 ≤ 9223372036854775807 := by
            obtain ⟨_, _, _, _, _, _, e5⟩ := HD.out
            rw [List.getD_eq_getElem?_getD, List.getElem?_eq_getElem hn]
            exact e5 _ (List.getElem_mem hn)
          have cx : wr.cell? ⟨b, off + n, none⟩ = some (.int .i64 (ds.getD n 0)) := (World.cell?_of_block (w := w) (a := ⟨b, off + n, none⟩) (HT.out.block b hbl2 hbS)).trans (hbc n hn)
          obtain ⟨x, hxe⟩ : ∃ x, ds.getD n 0 = x := ⟨_, rfl⟩
          rw [hxe] at hx cx HHead
          have hnI : (n : Int) < (ds.length : Int) := by omega
          have hbr : b < wr.heap.size := Nat.lt_of_lt_of_le hbl2 HT.out.size
          clear hxe hbc hbl2 hbS
          obtain ⟨kp, hkp⟩ : ∃ kp : Nat, Dk.keep (s.fs[j]).2 x = kp := ⟨_, rfl⟩
          have hle := Dk.keep_le (s.fs[j]).2 x (HI.out.safe _ (List.getElem_mem hlt))
          have hm : max 0 x % ((hb.size : Int) - (S0 : Int) + 1) = (kp : Int) := by
            have e : (((s.fs[j]).2.data.length - (s.fs[j]).2.safe : Nat) : Int) + 1 = (hb.size : Int) - (S0 : Int) + 1 := by rw [← HSz.out, HS0.out]; omega
            rw [← hkp]
            unfold Dk.keep
            rw [e]
            by_cases h0x : 0 < x
            · have h2 := Int.emod_nonneg x (show ((hb.size : Int) - (S0 : Int) + 1) ≠ 0 by omega)
              rw [if_pos h0x, show max 0 x = x from by omega]
              omega
            · rw [if_neg h0x, show max 0 x = 0 from by omega]
              simp
          rw [hkp, ← HSz.out, HS0.out] at hle
          have HKp : Hid (Dk.keep (s.fs[j]).2 x = kp) := hkp
          have hmx : 0 ≤ max 0 x := by omega
          have hmx2 : max 0 x ≤ 9223372036854775807 := by omega
          have hnz : ¬ ((hb.size : Int) - (S0 : Int) + 1) = 0 := by omega
          have hw1 : IntKind.i64.wrap ((hb.size : Int) - (S0 : Int)) = (hb.size : Int) - (S0 : Int) := wrap_small _ (by omega) (by omega)
          have hw2 : IntKind.i64.wrap ((hb.size : Int) - (S0 : Int) + 1) = (hb.size : Int) - (S0 : Int) + 1 := wrap_small _ (by omega) (by omega)
          have hw3 : IntKind.i64.wrap ((S0 : Int) + (kp : Int)) = (S0 : Int) + (kp : Int) := wrap_small _ (by omega) (by omega)
          have hw4 : IntKind.i64.wrap (kp : Int) = (kp : Int) := wrap_small _ (by omega) (by omega)
          have hcut : ∀ W, (Instr.slice 9 (.string hb) none (some (.int .i64 ((S0 : Int) + (kp : Int)))) none).run Try.prog W = .ok (.string (hb.extract 0 (S0 + kp))) W := fun W => by
            rw [show (S0 : Int) + (kp : Int) = ((S0 + kp : Nat) : Int) from by omega]
            exact cutS hb (S0 + kp) (by omega) W
          clear hkp
          go_wp2
          go_region
          all_goals go_wp2
          go_region
          all_goals go_wp2
          go_roundw
          case rel =>
            obtain ⟨hA, hB⟩ := rcrash_tear (w := w) (cut := hb.extract 0 (S0 + kp)) (n0 := (S0 : Int) + (kp : Int)) HG.out HV.out HI.out HT.out hlt HNe.out HK0.out (by rw [HHead.out]; unfold Dk.tearF; rw [HS0.out, HKp.out, bs_take, HHb.out]) (by rw [HHead.out]; unfold Dk.tearF; rw [HS0.out, HKp.out]; show ((S0 + kp : Nat) : Int) = _; omega)
            exact ⟨j + 1, n + 1, by omega, by omega, by go_num, by go_num, HNext.out, (hA.below ((Below.refl _ _).alloc (Nat.le_refl _) _)).below (below_drewN _ 2), (hB.trans (Turn.alloc _ _)).drewN 2⟩
          case measure => simp [intOf]; omega
        · have hnI : ¬ (n : Int) < (ds.length : Int) := by omega
          have h0x : ds.getD n 0 = 0 := by rw [List.getD_eq_getElem?_getD, List.getElem?_eq_none (by omega)]; rfl
          rw [h0x] at HHead
          have HKp : Hid (Dk.keep (s.fs[j]).2 0 = 0) := by show _ = _; unfold Dk.keep; rw [if_neg (by omega)]
          have hnz : ¬ ((hb.size : Int) - (S0 : Int) + 1) = 0 := by omega
          have hw1 : IntKind.i64.wrap ((hb.size : Int) - (S0 : Int)) = (hb.size : Int) - (S0 : Int) := wrap_small _ (by omega) (by omega)
          have hw2 : IntKind.i64.wrap ((hb.size : Int) - (S0 : Int) + 1) = (hb.size : Int) - (S0 : Int) + 1 := wrap_small _ (by omega) (by omega)
          have hw3 : IntKind.i64.wrap (S0 : Int) = (S0 : Int) := wrap_small _ (by omega) (by omega)
          have hcut : ∀ W, (Instr.slice 9 (.string hb) none (some (.int .i64 (S0 : Int))) none).run Try.prog W = .ok (.string (hb.extract 0 S0)) W := fun W => cutS hb S0 hsl W
          clear h0x
          go_wp2
          go_region
          all_goals go_wp2
          go_region
          all_goals go_wp2
          go_roundw
          case rel =>
            obtain ⟨hA, hB⟩ := rcrash_tear (w := w) (cut := hb.extract 0 S0) (n0 := (S0 : Int)) HG.out HV.out HI.out HT.out hlt HNe.out HK0.out (by rw [HHead.out]; unfold Dk.tearF; rw [HS0.out, HKp.out, bs_take, HHb.out]; rfl) (by rw [HHead.out]; unfold Dk.tearF; rw [HS0.out, HKp.out]; rfl)
            exact ⟨j + 1, n + 1, by omega, by omega, by go_num, by go_num, HNext.out, (hA.below ((Below.refl _ _).alloc (Nat.le_refl _) _)).below (below_drewN _ 2), (hB.trans (Turn.alloc _ _)).drewN 2⟩
          case measure => simp [intOf]; omega
    · have ej : j = s.fs.length := by omega
      subst ej
      have HGoes : Hid (RGoes w wr r v (Dk.crashS s ds)) := HS.out ▸ ⟨v, HG.out, HT.out, fun _ hi => Or.inl hi⟩
      go_wp2
      go_ret
      exact ⟨rfl, HGoes.out⟩

set_option maxRecDepth 100000 in
set_option maxHeartbeats 400000 in
theorem rcrash_none (u : Value) (ds : List Int) (w : World) (h : RefG w r v s) {S : Nat → Prop} (hd : DrawsAt w S u ds) (hl : ds.length ≤ 4096) (hp : s.fs = []) :
    Calls Try.prog 32 #[.pointer (some ⟨r, 0, none⟩), u] w fun e w' => e = .returned (.int .i64 (Dk.crashE ds)) ∧ RGoes w w' r v (Dk.crashS s ds) := by
  obtain ⟨a', c', rfl, -, hc', -, -⟩ := hd
  have HS : Hid (sMid s ds 0 = Dk.crashS s ds) := by
    show _ = _
    unfold Dk.crashS sMid
    rw [if_neg (by omega), hp]
    rfl
  rw [show Dk.crashE ds = 0 from by unfold Dk.crashE; rw [if_neg (by omega)]]
  obtain ⟨a, c, hv, -, hcm, -⟩ := row3 h.row
  rw [hp] at hv
  unfold maxLen at hc' hcm
  have hl' : ¬ (4096 : Int) < (ds.length : Int) := by omega
  obtain ⟨c0, c1, c2⟩ := h.cells
  have f1 := frozen_of h.top 1
  have f2 := frozen_of h.top 2
  have HU : Hid (RefG (rUp w r) r v (sMid s ds 0)) := rup_ref h ds
  have HUT : Hid (Turn (fun i => i = r) w (rUp w r)) := rup_turn w r
  obtain ⟨wu, hwu⟩ : ∃ wu, (w.setCell ⟨r, 2, none⟩ (.bool false)).setCell ⟨r, 1, none⟩ (.int .i64 (-1)) = wu := ⟨_, rfl⟩
  have hwu' : rUp w r = wu := hwu
  rw [hwu'] at HU HUT
  have d0 : wu.cell? ⟨r, 0, none⟩ = some (.slice a 0 c) := HU.out.cells.1.trans (congrArg some hv)
  clear h hl hwu' hv
  go_enter Try.func32, Try.ntmps32
  go_wp2
  clear hwu c0 c1 c2 f1 f2
  go_loopw [5, 6] (fun nx i wr => nx = .int .i64 0 ∧ i = .int .i64 0 ∧ wr = wu) (fun _ _ _ => 0)
  case atStart => exact ⟨rfl, rfl, rfl⟩
  case round =>
    obtain ⟨rfl, rfl, rfl⟩ := hrel
    go_wp2
    go_ret
    exact ⟨rfl, HS.out ▸ RGoes.top HU.out HUT.out⟩

theorem rcrash_any (u : Value) (ds : List Int) (w : World) (h : RefG w r v s) (hI : Inv s) (hd : DrawsAt w (rfoot r v) u ds) :
    Calls Try.prog 32 #[.pointer (some ⟨r, 0, none⟩), u] w fun e w' => e = .returned (.int .i64 (Dk.crashE ds)) ∧ RGoes w w' r v (Dk.crashS s ds) := by
  by_cases hl : 4096 < ds.length
  · exact rcrash_long u ds w h hd hl
  · by_cases hp : 0 < s.fs.length
    · exact rcrash_some u ds w h hI hd (by omega) hp
    · exact rcrash_none u ds w h hd (by omega) (List.eq_nil_of_length_eq_zero (by omega))

end
end Go.Proofs.Ytbiombolpfhdlaa
