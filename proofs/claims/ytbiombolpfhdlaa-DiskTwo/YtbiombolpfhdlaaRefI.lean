/- The reference disk: Rename. -/
import Derived.Test.YtbiombolpfhdlaaRefH
namespace Go.Proofs.Ytbiombolpfhdlaa
open Go.RowKit Go.Maps

section
variable {r : Nat} {v : Value} {s : Dk.Dsk}

theorem RGoes.next {v' : Value} {s' : Dk.Dsk} {w w1 w2 : World} (ht : Turn (rfoot r v) w w1) (hf : ∀ i, rfoot r v' i → rfoot r v i ∨ w.heap.size ≤ i) (h : RGoes w1 w2 r v' s') : RGoes w w2 r v s' := by
  obtain ⟨v2, h1, h2, h3⟩ := h
  refine ⟨v2, h1, ht.transNew h2 hf, fun i hi => ?_⟩
  rcases h3 i hi with h4 | h4
  · exact hf i h4
  · exact Or.inr (Nat.le_trans ht.size h4)

theorem inv_del (hI : Inv s) (k : List UInt8) : Inv { s with fs := Dk.delL k s.fs } := by
  have hm : ∀ p ∈ Dk.delL k s.fs, p ∈ s.fs := fun p hp => (Dk.mem_delL.1 hp).1
  refine ⟨hI.rise.filter _, ?_, fun p hp => hI.safe p (hm p hp), fun p hp => hI.len p (hm p hp), fun p hp => hI.names p (hm p hp), hI.left⟩
  exact Nat.le_trans (List.length_filter_le _ _) hI.few

theorem put_del {k : List UInt8} {f : Dk.Fil} {fs : List (List UInt8 × Dk.Fil)} (hr : Dk.Rise fs) {t : Nat} (ht : t < fs.length) (hif : fs[t] = (k, f)) : Dk.putL k f (Dk.delL k fs) = fs := by
  have e : Dk.delL k (Dk.delL k fs) = Dk.delL k fs := Dk.delL_other (fun p hp => (Dk.mem_delL.1 hp).2)
  have e2 : Dk.putL k f (Dk.delL k fs) = Dk.putL k f fs := by unfold Dk.putL; rw [e]
  rw [e2, put_old f hr ht (by rw [hif])]
  exact set_same (by rw [List.getElem?_eq_getElem ht, hif])

/-- behind the drop: the new name is written into the box, and the box is put -/
theorem rrename_put {w w1 w2 : World} {k k' hb : ByteArray} {f : Dk.Fil} (hI : Inv s) (hh : bs f.data = hb) (ht : Turn (fun i => i = r) w w1) (hvl : ∀ i, rfoot r v i → i < w.heap.size)
    (hG : RGoes (boxV w1 k hb (f.safe : Int)) w2 r v { Dk.changeS s with fs := Dk.delL k.data.toList s.fs }) (hlen : (Dk.delL k.data.toList s.fs).length < 64) :
    w2.cell? ⟨w1.heap.size, 0, none⟩ = some (.string k) ∧ w2.cell? ⟨w1.heap.size, 1, none⟩ = some (.string hb) ∧ w2.cell? ⟨w1.heap.size, 2, none⟩ = some (.int .i64 (f.safe : Int)) ∧ w2.frozen? ⟨w1.heap.size, 0, none⟩ = false ∧
    Calls Try.prog 44 #[.pointer (some ⟨r, 0, none⟩), .agg #[.string k', .string hb, .int .i64 (f.safe : Int)]] (w2.setCell ⟨w1.heap.size, 0, none⟩ (.string k')) fun e w' => e = .returned (.tuple #[]) ∧ RGoes w w' r v { Dk.changeS s with fs := Dk.putL k'.data.toList f (Dk.delL k.data.toList s.fs) } := by
  obtain ⟨v', h2, t2, hf⟩ := hG
  have hsz := ht.size
  have hbs : (boxV w1 k hb (f.safe : Int)).heap.size = w1.heap.size + 1 := World.size_alloc _ _
  have hnot : ¬ rfoot r v w1.heap.size := fun hi => by have := hvl _ hi; omega
  have hbox : w2.heap[w1.heap.size]? = some (.cells #[.string k, .string hb, .int .i64 (f.safe : Int)] 61 (0, 0)) := (t2.block w1.heap.size (by omega) hnot).trans (heap_new w1 _)
  refine ⟨by rw [cell_of hbox]; rfl, by rw [cell_of hbox]; rfl, by rw [cell_of hbox]; rfl, frozen_of hbox 0, ?_⟩
  have t3 : Turn (fun i => i = w1.heap.size) w2 (w2.setCell ⟨w1.heap.size, 0, none⟩ (.string k')) := Turn.setCell w2 ⟨w1.heap.size, 0, none⟩ _ rfl
  have h3 := h2.kept t3 (fun i hi e => by
    rcases hf i hi with h4 | h4
    · exact hnot (e ▸ h4)
    · omega)
  have hp := rput_any (k'.data.toList, f) _ h3 (by have := inv_del (inv_change hI) k.data.toList; rw [changeS_fs] at this; exact this) (fun _ => by show (Dk.delL k.data.toList s.fs).length < 64; exact hlen)
  simp only [bs_back, hh] at hp
  refine hp.mono ?_
  rintro e w' ⟨rfl, hG'⟩
  refine ⟨rfl, ?_⟩
  have T1 : Turn (rfoot r v) w w1 := ht.mono (fun _ hi => Or.inl hi)
  have T2 : Turn (rfoot r v) w w2 := (T1.trans (Turn.alloc w1 _)).trans t2
  have T3 : Turn (rfoot r v) w (w2.setCell ⟨w1.heap.size, 0, none⟩ (.string k')) := T2.transNew t3 (fun i hi => Or.inr (by omega))
  refine RGoes.next T3 (fun i hi => ?_) hG'
  rcases hf i hi with h4 | h4
  · exact Or.inl h4
  · exact Or.inr (by omega)

theorem renameE_not {k k' : ByteArray} (ho : (Dk.okS k && Dk.okS k') = false) : Dk.renameE s k.data.toList k'.data.toList = 10 := by unfold Dk.renameE; rw [← okS_def, ← okS_def, ho]; rfl
theorem renameS_not {k k' : ByteArray} (ho : (Dk.okS k && Dk.okS k') = false) : Dk.renameS s k.data.toList k'.data.toList = s := by unfold Dk.renameS; rw [← okS_def, ← okS_def, ho]; rfl

set_option maxRecDepth 100000 in
set_option maxHeartbeats 400000 in
theorem rrename_bad (k k' : ByteArray) (w : World) (h : RefG w r v s) (hk : k.size ≤ maxLen) (hk' : k'.size ≤ maxLen) (ho : (Dk.okS k && Dk.okS k') = false) :
    Calls Try.prog 26 #[.pointer (some ⟨r, 0, none⟩), .string k, .string k'] w fun e w' => e = .returned (.int .i64 (Dk.renameE s k.data.toList k'.data.toList)) ∧ RGoes w w' r v (Dk.renameS s k.data.toList k'.data.toList) := by
  have H : Hid (RefG w r v s) := h
  rw [renameE_not ho, renameS_not ho]
  clear h
  cases ho1 : Dk.okS k with
  | false =>
    clear ho
    go_enter Try.func26, Try.ntmps26
    go_wp2_with fail
    refine (named_any _ _ hk).mono ?_
    rintro e u ⟨rfl, rfl⟩
    go_wp2_with fail
    go_ret
    exact ⟨rfl, RGoes.stay H.out⟩
  | true =>
    have ho2 : Dk.okS k' = false := by rw [ho1] at ho; simpa using ho
    clear ho
    go_enter Try.func26, Try.ntmps26
    go_wp2_with fail
    refine (named_any _ _ hk).mono ?_
    rintro e u ⟨rfl, rfl⟩
    go_wp2_with fail
    refine (named_any _ _ hk').mono ?_
    rintro e u ⟨rfl, rfl⟩
    go_wp2_with fail
    go_ret
    exact ⟨rfl, RGoes.stay H.out⟩

set_option maxRecDepth 100000 in
set_option maxHeartbeats 400000 in
theorem rrename_any (k k' : ByteArray) (w : World) (h : RefG w r v s) (hI : Inv s) (hk : k.size ≤ maxLen) (hk' : k'.size ≤ maxLen) :
    Calls Try.prog 26 #[.pointer (some ⟨r, 0, none⟩), .string k, .string k'] w fun e w' => e = .returned (.int .i64 (Dk.renameE s k.data.toList k'.data.toList)) ∧ RGoes w w' r v (Dk.renameS s k.data.toList k'.data.toList) := by
  cases hoo : Dk.okS k && Dk.okS k' with
  | false => exact rrename_bad k k' w h hk hk' hoo
  | true =>
    have H : Hid (RefG w r v s) := h
    have hfew := hI.few
    obtain ⟨ho1, ho2⟩ : Dk.okS k = true ∧ Dk.okS k' = true := by simpa using hoo
    have hE0 : Dk.renameE s k.data.toList k'.data.toList = if Dk.findE s k.data.toList = 0 then Dk.changeE s else Dk.findE s k.data.toList := by unfold Dk.renameE; rw [← okS_def, ← okS_def, hoo]; rfl
    have hS0 : Dk.renameS s k.data.toList k'.data.toList = if Dk.findE s k.data.toList = 0 then (if Dk.burnt s then Dk.changeS s else { Dk.changeS s with fs := Dk.putL k'.data.toList (Dk.fileOr (Dk.getL k.data.toList s.fs)) (Dk.delL k.data.toList s.fs) }) else s := by unfold Dk.renameS; rw [← okS_def, ← okS_def, hoo]; rfl
    rw [hE0, hS0]
    clear hE0 hS0 hoo
    cases hg : Dk.getL k.data.toList s.fs with
    | none =>
      rw [rfindE_none ho1 hg]
      have HK : Hid (Calls Try.prog 45 #[.pointer (some ⟨r, 0, none⟩), .string k] w fun e w' => e = .returned (.tuple #[.int .i64 0, .int .i64 5]) ∧ w = w') := rknown_none k w h hfew hk ho1 hg
      rw [if_neg (by decide), if_neg (by decide)]
      clear hg h
      go_enter Try.func26, Try.ntmps26
      go_wp2_with fail
      refine (named_any _ _ hk).mono ?_
      rintro e u ⟨rfl, rfl⟩
      go_wp2_with fail
      refine (named_any _ _ hk').mono ?_
      rintro e u ⟨rfl, rfl⟩
      go_wp2_with fail
      refine HK.out.mono ?_
      rintro e u ⟨rfl, rfl⟩
      go_wp2_with fail
      go_ret
      exact ⟨rfl, RGoes.stay H.out⟩
    | some f =>
      obtain ⟨i, hi, hif, hib⟩ := getL_index hg
      rw [if_pos (rfindE_some ho1 hg), if_pos (rfindE_some ho1 hg)]
      have HK : Hid (Calls Try.prog 45 #[.pointer (some ⟨r, 0, none⟩), .string k] w fun e w' => e = .returned (.tuple #[.int .i64 (i : Int), .int .i64 0]) ∧ w = w') := rknown_some k w h hfew hk ho1 hi (by rw [hif]) hib
      have HC : Hid (Calls Try.prog 43 #[.pointer (some ⟨r, 0, none⟩)] w fun e w' => e = .returned (.bool (!Dk.burnt s)) ∧ RefG w' r v (Dk.changeS s) ∧ Turn (fun i => i = r) w w') := rchange_any _ h hI.left
      cases hb : Dk.burnt s with
      | true =>
        rw [changeE_burnt hb, if_pos rfl]
        clear hg h hI hif hib
        go_enter Try.func26, Try.ntmps26
        go_wp2_with fail
        refine (named_any _ _ hk).mono ?_
        rintro e u ⟨rfl, rfl⟩
        go_wp2_with fail
        refine (named_any _ _ hk').mono ?_
        rintro e u ⟨rfl, rfl⟩
        go_wp2_with fail
        refine HK.out.mono ?_
        rintro e u ⟨rfl, rfl⟩
        go_wp2_with fail
        refine HC.out.mono ?_
        rintro e w1 ⟨rfl, h1, ht⟩
        go_wp2_with fail
        go_ret
        exact ⟨rfl, RGoes.top h1 ht⟩
      | false =>
        rw [changeE_not hb, if_neg (by decide)]
        by_cases hkk : k = k'
        · subst hkk
          have e2 : { Dk.changeS s with fs := Dk.putL k.data.toList (Dk.fileOr (some f)) (Dk.delL k.data.toList s.fs) } = Dk.changeS s := by
            have e3 : Dk.putL k.data.toList (Dk.fileOr (some f)) (Dk.delL k.data.toList s.fs) = (Dk.changeS s).fs := by rw [changeS_fs]; exact put_del hI.rise hi hif
            rw [e3]
          rw [e2]
          have hsame : (k.toList == k.toList) = true := by simp
          clear hg h hI hif hib e2 ho2
          go_enter Try.func26, Try.ntmps26
          go_wp2_with fail
          refine (named_any _ _ hk).mono ?_
          rintro e u ⟨rfl, rfl⟩
          go_wp2_with fail
          refine (named_any _ _ hk').mono ?_
          rintro e u ⟨rfl, rfl⟩
          go_wp2_with fail
          refine HK.out.mono ?_
          rintro e u ⟨rfl, rfl⟩
          go_wp2_with fail
          refine HC.out.mono ?_
          rintro e w1 ⟨rfl, h1, ht⟩
          go_wp2_with fail
          go_ret
          exact ⟨rfl, RGoes.top h1 ht⟩
        · have hsame : (k.toList == k'.toList) = false := by
            rw [bb_eq]
            refine decide_eq_false (fun e => hkk ?_)
            rw [← bs_back k, ← bs_back k', e]
          have HVl : Hid (∀ i, rfoot r v i → i < w.heap.size) := fun i hi => h.lt hi
          have HLen : Hid ((Dk.delL k.data.toList s.fs).length < 64) := by
            show (Dk.delL k.data.toList s.fs).length < 64
            rw [del_at hI.rise hi (by rw [hif])]
            simp
            omega
          obtain ⟨a, c, hv, hnc, hcm, hpos⟩ := row3 h.row
          obtain ⟨g, rfl⟩ := hpos (by omega)
          unfold maxLen at hcm
          have HI : Hid (Inv s) := hI
          have HV : Hid (v = .slice (some ⟨g, 0, none⟩) s.fs.length c) := hv
          have HIf : Hid (s.fs[i] = (k.data.toList, f)) := hif
          obtain ⟨hb0, hhb⟩ : ∃ hb0, bs f.data = hb0 := ⟨_, rfl⟩
          have HHb : Hid (bs f.data = hb0) := hhb
          have hlI : (i : Int) < (s.fs.length : Int) := by omega
          have hi0 : (0 : Int) ≤ (i : Int) := by omega
          have HFo : Hid (Dk.fileOr (some f) = f) := rfl
          rw [HFo.out]
          clear hg h hI hif hib hpos hhb hv hkk
          go_enter Try.func26, Try.ntmps26
          go_wp2_with fail
          refine (named_any _ _ hk).mono ?_
          rintro e u ⟨rfl, rfl⟩
          go_wp2_with fail
          refine (named_any _ _ hk').mono ?_
          rintro e u ⟨rfl, rfl⟩
          go_wp2_with fail
          refine HK.out.mono ?_
          rintro e u ⟨rfl, rfl⟩
          go_wp2_with fail
          refine HC.out.mono ?_
          rintro e w1 ⟨rfl, h1, ht⟩
          have H1 : Hid (RefG w1 r v (Dk.changeS s)) := h1
          have HT : Hid (Turn (fun i => i = r) w w1) := ht
          have c0 : w1.cell? ⟨r, 0, none⟩ = some (.slice (some ⟨g, 0, none⟩) s.fs.length c) := h1.cells.1.trans (congrArg some HV.out)
          have hrow := h1.row
          rw [changeS_fs, HV.out] at hrow
          obtain ⟨q0, q1, q2⟩ := row_file hrow hi
          rw [HIf.out] at q0 q1 q2
          dsimp only at q0 q1 q2
          rw [HHb.out] at q1
          rw [bs_back] at q0
          have hD := rdrop_any (j := i) k.data.toList _ (ref_boxV h1 k hb0 (f.safe : Int)) (inv_change HI.out) (by rw [changeS_fs]; exact hi) (by simp only [changeS_fs]; rw [HIf.out])
          rw [changeS_fs] at hD
          have HD : Hid (Calls Try.prog 46 #[.pointer (some ⟨r, 0, none⟩), .int .i64 (i : Int)] (w1.alloc (.cells #[.string k, .string hb0, .int .i64 (f.safe : Int)] 61 (0, 0))) fun e w' => e = .returned (.tuple #[]) ∧ RGoes (boxV w1 k hb0 (f.safe : Int)) w' r v { Dk.changeS s with fs := Dk.delL k.data.toList s.fs }) := hD
          clear h1 hrow ht hD
          go_wp2_with fail
          refine HD.out.mono ?_
          rintro e w2 ⟨rfl, hG⟩
          obtain ⟨d0, d1, d2, d3, hP⟩ := rrename_put (k' := k') HI.out HHb.out HT.out HVl.out hG HLen.out
          have HP : Hid (Calls Try.prog 44 #[.pointer (some ⟨r, 0, none⟩), .agg #[.string k', .string hb0, .int .i64 (f.safe : Int)]] (w2.setCell ⟨w1.heap.size, 0, none⟩ (.string k')) fun e w' => e = .returned (.tuple #[]) ∧ RGoes w w' r v { Dk.changeS s with fs := Dk.putL k'.data.toList f (Dk.delL k.data.toList s.fs) }) := hP
          clear hP hG
          go_wp2_with fail
          refine HP.out.mono ?_
          rintro e w3 ⟨rfl, hG⟩
          have HG2 : Hid (RGoes w w3 r v { Dk.changeS s with fs := Dk.putL k'.data.toList f (Dk.delL k.data.toList s.fs) }) := hG
          clear hG
          go_wp2_with fail
          go_ret
          exact ⟨rfl, HG2.out⟩

end
end Go.Proofs.Ytbiombolpfhdlaa
