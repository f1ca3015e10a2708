/- The reference disk: Append, a file that is there. -/
import Derived.Test.YtbiombolpfhdlaaRefF
namespace Go.Proofs.Ytbiombolpfhdlaa
open Go.RowKit Go.Maps

section
variable {r : Nat} {v : Value} {s : Dk.Dsk}

set_option maxRecDepth 100000 in
set_option maxHeartbeats 400000 in
theorem rappend_some (k data : ByteArray) (w : World) (h : RefG w r v s) (hI : Inv s) (hk : k.size ≤ maxLen) (_hds : data.size ≤ 140737488355328) (ho : Dk.okS k = true) {f : Dk.Fil} (hg : Dk.getL k.data.toList s.fs = some f) :
    Calls Try.prog 24 #[.pointer (some ⟨r, 0, none⟩), .string k, .string data] w fun e w' => e = .returned (.int .i64 (Dk.appendE s k.data.toList data.data.toList)) ∧ RGoes w w' r v (Dk.appendS s k.data.toList data.data.toList) := by
  have H : Hid (RefG w r v s) := h
  have hfew := hI.few
  have HI : Hid (Inv s) := hI
  have hrl : r < w.heap.size := lt_of h.top
  have HVl : Hid (∀ i, v.ownBlock = some i → i < w.heap.size) := fun i hi => (h.row.lt i hi).2
  obtain ⟨i, hi, hif, hib⟩ := getL_index hg
  have HF : Hid (Calls Try.prog 42 #[.pointer (some ⟨r, 0, none⟩), .string k] w fun e w' => e = .returned (.int .i64 (i : Int)) ∧ w = w') := rfind_some k w h hfew hi (by rw [hif]) hib
  obtain ⟨a, c, hv, hnc, hcm, hpos⟩ := row3 h.row
  obtain ⟨g, rfl⟩ := hpos (by omega)
  have hrow := h.row
  rw [hv] at hrow
  have hgl : g < w.heap.size := (hrow.lt g rfl).2
  obtain ⟨q0, q1, q2⟩ := row_file hrow hi
  rw [hif] at q0 q1 q2
  dsimp only at q0 q1 q2
  simp only [bs_back] at q0
  obtain ⟨hb, hhb⟩ : ∃ hb, bs f.data = hb := ⟨_, rfl⟩
  simp only [hhb] at q1
  have HHb : Hid (bs f.data = hb) := hhb
  have hbs : hb.size = f.data.length := by rw [← hhb]; exact bs_size _
  have hfl : f.data.length ≤ 262144 := hI.len _ (Dk.getL_mem hg)
  have c0 : w.cell? ⟨r, 0, none⟩ = some (.slice (some ⟨g, 0, none⟩) s.fs.length c) := h.cells.1.trans (congrArg some hv)
  have c0' : (boxV w k ByteArray.empty 0).cell? ⟨r, 0, none⟩ = some (.slice (some ⟨g, 0, none⟩) s.fs.length c) := (ref_boxV h k ByteArray.empty 0).cells.1.trans (congrArg some hv)
  unfold boxV at c0'
  have HC : Hid (Calls Try.prog 43 #[.pointer (some ⟨r, 0, none⟩)] (w.alloc (.cells #[.string k, .string hb, .int .i64 (f.safe : Int)] 61 (0, 0))) fun e w' => e = .returned (.bool (!Dk.burnt s)) ∧ RefG w' r v (Dk.changeS s) ∧ Turn (fun i => i = r) (w.alloc (.cells #[.string k, .string hb, .int .i64 (f.safe : Int)] 61 (0, 0))) w') := rchange_any _ (ref_boxV h k hb (f.safe : Int)) hI.left
  have hTL : Dk.tooLong s k.data.toList data.data.toList = decide (262144 < f.data.length + data.size) := by
    unfold Dk.tooLong
    rw [hg]
    rw [Bool.eq_iff_iff]
    simp [Dk.fileOr]
    exact decide_eq_true_iff
  have HGn : Hid (Dk.getL k.data.toList s.fs = some f) := hg
  have HTB : Hid (Turn (rfoot r v) w (w.alloc (.cells #[.string k, .string hb, .int .i64 (f.safe : Int)] 61 (0, 0)))) := Turn.alloc w _
  have HRB : Hid (RefG (w.alloc (.cells #[.string k, .string hb, .int .i64 (f.safe : Int)] 61 (0, 0))) r v s) := ref_boxV h k hb (f.safe : Int)
  have hlI : (i : Int) < (s.fs.length : Int) := by omega
  have hi0 : ¬ (i : Int) < 0 := by omega
  have hi0' : (0 : Int) ≤ (i : Int) := by omega
  have hbI : (hb.size : Int) ≤ 262144 := by omega
  unfold maxLen at hcm
  have HBS : Hid (hb.size = f.data.length) := hbs
  clear hg h hI hv hrow hif hib hpos hhb hbs
  by_cases hlong : (262144 : Int) < (hb.size : Int) + (data.size : Int)
  · have e0 : Dk.tooLong s k.data.toList data.data.toList = true := by rw [hTL, ← HBS.out]; exact decide_eq_true (by omega)
    have e1 : Dk.appendE s k.data.toList data.data.toList = 2 := by unfold Dk.appendE; rw [← okS_def, ho, e0]; rfl
    have e2 : Dk.appendS s k.data.toList data.data.toList = s := by unfold Dk.appendS; rw [← okS_def, ho, e0]; rfl
    rw [e1, e2]
    clear e0 e1 e2 hTL
    go_enter Try.func24, Try.ntmps24
    go_wp2_with fail
    refine (named_any _ _ hk).mono ?_
    rintro e u ⟨rfl, rfl⟩
    go_wp2_with fail
    refine HF.out.mono ?_
    rintro e u ⟨rfl, rfl⟩
    go_wp2_with fail
    go_ret
    exact ⟨rfl, RGoes.after HTB.out (RGoes.stay HRB.out)⟩
  · have e0 : Dk.tooLong s k.data.toList data.data.toList = false := by rw [hTL, ← HBS.out]; exact decide_eq_false (by omega)
    have e1 : Dk.appendE s k.data.toList data.data.toList = Dk.changeE s := by unfold Dk.appendE; rw [← okS_def, ho, e0]; rfl
    rw [e1]
    cases hb' : Dk.burnt s with
    | true =>
      rw [changeE_burnt hb', show Dk.appendS s k.data.toList data.data.toList = Dk.changeS s from by unfold Dk.appendS; rw [← okS_def, ho, e0, hb']; rfl]
      clear e0 e1 hTL
      go_enter Try.func24, Try.ntmps24
      go_wp2_with fail
      refine (named_any _ _ hk).mono ?_
      rintro e u ⟨rfl, rfl⟩
      go_wp2_with fail
      refine HF.out.mono ?_
      rintro e u ⟨rfl, rfl⟩
      go_wp2_with fail
      refine HC.out.mono ?_
      rintro e w1 ⟨rfl, h1, ht⟩
      go_wp2_with fail
      go_ret
      exact ⟨rfl, RGoes.after HTB.out (RGoes.top h1 ht)⟩
    | false =>
      rw [changeE_not hb']
      have HS : Hid (Dk.appendS s k.data.toList data.data.toList = { Dk.changeS s with fs := Dk.putL k.data.toList ⟨f.data ++ data.data.toList, f.safe⟩ s.fs }) := by
        show _ = _
        unfold Dk.appendS; rw [← okS_def, ho, e0, hb', HGn.out]; rfl
      have HMore : Hid (Dk.getL k.data.toList s.fs = none → s.fs.length < 64) := fun e => by rw [HGn.out] at e; cases e
      clear e0 e1 hTL
      go_enter Try.func24, Try.ntmps24
      go_wp2_with fail
      refine (named_any _ _ hk).mono ?_
      rintro e u ⟨rfl, rfl⟩
      go_wp2_with fail
      refine HF.out.mono ?_
      rintro e u ⟨rfl, rfl⟩
      go_wp2_with fail
      refine HC.out.mono ?_
      rintro e w1 ⟨rfl, h1, ht⟩
      obtain ⟨d0, d1, d2, d3, -⟩ := boxV_cells (a := k) (b := hb) (n := (f.safe : Int)) ht hrl
      obtain ⟨T2, hP⟩ := rappend_put (data := data) HI.out HHb.out ht h1 hrl HVl.out HMore.out
      have HP : Hid (Calls Try.prog 44 #[.pointer (some ⟨r, 0, none⟩), .agg #[.string k, .string (hb ++ data), .int .i64 (f.safe : Int)]] (w1.setCell ⟨w.heap.size, 1, none⟩ (.string (hb ++ data))) fun e w' => e = .returned (.tuple #[]) ∧ RGoes (w1.setCell ⟨w.heap.size, 1, none⟩ (.string (hb ++ data))) w' r v { Dk.changeS s with fs := Dk.putL k.data.toList ⟨f.data ++ data.data.toList, f.safe⟩ s.fs }) := hP
      have HT2 : Hid (Turn (rfoot r v) w (w1.setCell ⟨w.heap.size, 1, none⟩ (.string (hb ++ data)))) := T2
      clear hP T2
      go_wp2_with fail
      refine HP.out.mono ?_
      rintro e w2 ⟨rfl, hG⟩
      have HG2 : Hid (RGoes w w2 r v (Dk.appendS s k.data.toList data.data.toList)) := by
        show RGoes w w2 r v (Dk.appendS s k.data.toList data.data.toList)
        rw [HS.out]
        exact RGoes.after HT2.out hG
      clear hG
      go_wp2_with fail
      go_ret
      exact ⟨rfl, HG2.out⟩

theorem rappend_any (k data : ByteArray) (w : World) (h : RefG w r v s) (hI : Inv s) (hk : k.size ≤ maxLen) (hds : data.size ≤ 140737488355328) :
    Calls Try.prog 24 #[.pointer (some ⟨r, 0, none⟩), .string k, .string data] w fun e w' => e = .returned (.int .i64 (Dk.appendE s k.data.toList data.data.toList)) ∧ RGoes w w' r v (Dk.appendS s k.data.toList data.data.toList) := by
  cases ho : Dk.okS k with
  | false => exact rappend_bad k data w h hk ho
  | true =>
    cases hg : Dk.getL k.data.toList s.fs with
    | none => exact rappend_none k data w h hI hk (by unfold maxLen; omega) ho hg
    | some f => exact rappend_some k data w h hI hk hds ho hg

end
end Go.Proofs.Ytbiombolpfhdlaa
