/- The reference disk: Sync, Remove. -/
import Derived.Test.YtbiombolpfhdlaaRefG
namespace Go.Proofs.Ytbiombolpfhdlaa
open Go.RowKit Go.Maps

theorem set_same {α : Type} {l : List α} {i : Nat} {x : α} (h : l[i]? = some x) : l.set i x = l := by
  apply List.ext_getElem?
  intro j
  rw [List.getElem?_set]
  by_cases e : i = j
  · subst e
    have : i < l.length := by
      rcases Nat.lt_or_ge i l.length with h' | h'
      · exact h'
      · rw [List.getElem?_eq_none h'] at h; cases h
    rw [if_pos rfl, if_pos this, h]
  · simp [e]

section
variable {r : Nat} {v : Value} {s : Dk.Dsk}

theorem rsync_end {w w1 : World} {g c : Nat} (h1 : RefG w1 r v (Dk.changeS s)) (hv : v = .slice (some ⟨g, 0, none⟩) s.fs.length c) (hI : Inv s) (ht : Turn (fun i => i = r) w w1) {k : List UInt8} {f : Dk.Fil} {t : Nat} (hlt : t < s.fs.length) (hif : s.fs[t] = (k, f)) (N : Nat) :
    RGoes w ((w1.drewN N).setCell ⟨g, t * 3 + 2, none⟩ (.int .i64 (f.data.length : Int))) r v { Dk.changeS s with fs := Dk.putL k ⟨f.data, f.data.length⟩ s.fs } := by
  have hg : v.ownBlock = some g := by rw [hv]; rfl
  have hrg : r ≠ g := h1.r_row hg
  have t1 : Turn (rfoot r v) w (w1.drewN N) := (ht.mono (fun _ hi => Or.inl hi)).drewN N
  refine ⟨v, ⟨?_, ?_⟩, t1.trans (Turn.setCell _ ⟨g, t * 3 + 2, none⟩ _ (Or.inr hg)), fun i hi => Or.inl hi⟩
  · show (World.heap _)[r]? = some (.cells #[v, .int .i64 (leftI (Dk.changeS s)), .bool (Dk.changeS s).down] 56 (0, 0))
    rw [Below.heap_setCell _ _ _ _ hrg]
    exact h1.top
  · show World.ownsRow _ 0 61 3 v (Dk.putL k ⟨f.data, f.data.length⟩ s.fs).length (rcells (Dk.putL k ⟨f.data, f.data.length⟩ s.fs))
    have e : Dk.putL k ⟨f.data, f.data.length⟩ s.fs = s.fs.set t (k, ⟨f.data, f.data.length⟩) := put_old _ hI.rise hlt (by rw [hif])
    obtain ⟨g0, g1, -⟩ := rcells_get s.fs t hlt
    rw [hif] at g0 g1
    rw [e, List.length_set, rcells_set _ _ hlt, set_same g0, set_same g1]
    have hr : (w1.drewN N).ownsRow 0 61 3 v s.fs.length (rcells s.fs) := by
      have := h1.row
      rw [changeS_fs] at this
      exact this
    rw [hv] at hr ⊢
    exact ownsRow_setCell hr _ _

set_option maxRecDepth 100000 in
set_option maxHeartbeats 400000 in
theorem rsync_any (k : ByteArray) (w : World) (h : RefG w r v s) (hI : Inv s) (hk : k.size ≤ maxLen) :
    Calls Try.prog 25 #[.pointer (some ⟨r, 0, none⟩), .string k] w fun e w' => e = .returned (.int .i64 (Dk.syncE s k.data.toList)) ∧ RGoes w w' r v (Dk.syncS s k.data.toList) := by
  have H : Hid (RefG w r v s) := h
  have hfew := hI.few
  cases ho : Dk.okS k with
  | false =>
    have e1 : Dk.syncE s k.data.toList = 10 := by unfold Dk.syncE; rw [rfindE_bad ho]; rfl
    have e2 : Dk.syncS s k.data.toList = s := by unfold Dk.syncS; rw [rfindE_bad ho]; rfl
    rw [e1, e2]
    clear e1 e2
    go_enter Try.func25, Try.ntmps25
    go_wp2_with fail
    refine (rknown_bad _ _ hk ho).mono ?_
    rintro e u ⟨rfl, rfl⟩
    go_wp2_with fail
    go_ret
    exact ⟨rfl, RGoes.stay H.out⟩
  | true =>
    cases hg : Dk.getL k.data.toList s.fs with
    | none =>
      have e1 : Dk.syncE s k.data.toList = 5 := by unfold Dk.syncE; rw [rfindE_none ho hg]; rfl
      have e2 : Dk.syncS s k.data.toList = s := by unfold Dk.syncS; rw [rfindE_none ho hg]; rfl
      rw [e1, e2]
      have HK : Hid (Calls Try.prog 45 #[.pointer (some ⟨r, 0, none⟩), .string k] w fun e w' => e = .returned (.tuple #[.int .i64 0, .int .i64 5]) ∧ w = w') := rknown_none k w h hfew hk ho hg
      clear e1 e2 hg h
      go_enter Try.func25, Try.ntmps25
      go_wp2_with fail
      refine HK.out.mono ?_
      rintro e u ⟨rfl, rfl⟩
      go_wp2_with fail
      go_ret
      exact ⟨rfl, RGoes.stay H.out⟩
    | some f =>
      obtain ⟨i, hi, hif, hib⟩ := getL_index hg
      have e1 : Dk.syncE s k.data.toList = Dk.changeE s := by unfold Dk.syncE; rw [if_pos (rfindE_some ho hg)]
      rw [e1]
      have HK : Hid (Calls Try.prog 45 #[.pointer (some ⟨r, 0, none⟩), .string k] w fun e w' => e = .returned (.tuple #[.int .i64 (i : Int), .int .i64 0]) ∧ w = w') := rknown_some k w h hfew hk ho hi (by rw [hif]) hib
      have HC : Hid (Calls Try.prog 43 #[.pointer (some ⟨r, 0, none⟩)] w fun e w' => e = .returned (.bool (!Dk.burnt s)) ∧ RefG w' r v (Dk.changeS s) ∧ Turn (fun i => i = r) w w') := rchange_any _ h hI.left
      cases hb : Dk.burnt s with
      | true =>
        have e2 : Dk.syncS s k.data.toList = Dk.changeS s := by unfold Dk.syncS; rw [if_pos (rfindE_some ho hg), hb]; rfl
        rw [changeE_burnt hb, e2]
        clear e1 e2 hg h hI hif hib
        go_enter Try.func25, Try.ntmps25
        go_wp2_with fail
        refine HK.out.mono ?_
        rintro e u ⟨rfl, rfl⟩
        go_wp2_with fail
        refine HC.out.mono ?_
        rintro e w1 ⟨rfl, h1, ht⟩
        go_wp2_with fail
        go_ret
        exact ⟨rfl, RGoes.top h1 ht⟩
      | false =>
        have e2 : Dk.syncS s k.data.toList = { Dk.changeS s with fs := Dk.putL k.data.toList ⟨f.data, f.data.length⟩ s.fs } := by unfold Dk.syncS; rw [if_pos (rfindE_some ho hg), hb, hg]; rfl
        rw [changeE_not hb, e2]
        obtain ⟨a, c, hv, hnc, hcm, hpos⟩ := row3 h.row
        obtain ⟨g, rfl⟩ := hpos (by omega)
        unfold maxLen at hcm
        have HI : Hid (Inv s) := hI
        have HV : Hid (v = .slice (some ⟨g, 0, none⟩) s.fs.length c) := hv
        have HIf : Hid (s.fs[i] = (k.data.toList, f)) := hif
        obtain ⟨hb0, hhb⟩ : ∃ hb0, bs f.data = hb0 := ⟨_, rfl⟩
        have hsz : hb0.size = f.data.length := by rw [← hhb]; exact bs_size _
        have HSz : Hid (hb0.size = f.data.length) := hsz
        have HHb : Hid (bs f.data = hb0) := hhb
        have hlI : (i : Int) < (s.fs.length : Int) := by omega
        have hi0 : (0 : Int) ≤ (i : Int) := by omega
        clear e1 e2 hg h hI hif hib hpos hhb hsz hv
        go_enter Try.func25, Try.ntmps25
        go_wp2_with fail
        refine HK.out.mono ?_
        rintro e u ⟨rfl, rfl⟩
        go_wp2_with fail
        refine HC.out.mono ?_
        rintro e w1 ⟨rfl, h1, ht⟩
        have H1 : Hid (RefG w1 r v (Dk.changeS s)) := h1
        have c0 : w1.cell? ⟨r, 0, none⟩ = some (.slice (some ⟨g, 0, none⟩) s.fs.length c) := h1.cells.1.trans (congrArg some HV.out)
        have hrow := h1.row
        rw [changeS_fs, HV.out] at hrow
        obtain ⟨-, q1, q2⟩ := row_file hrow hi
        rw [HIf.out] at q1 q2
        dsimp only at q1 q2
        rw [HHb.out] at q1
        have f2 : w1.frozen? ⟨g, i * 3 + 2, none⟩ = false := by
          rcases hrow.2 with ⟨e, _⟩ | ⟨g', cap', cur, e, _, hg', _⟩
          · cases e
          · cases e; exact frozen_of hg' _
        clear h1 hrow
        go_wp2_with fail
        go_region
        all_goals go_wp2
        all_goals go_ret
        all_goals refine ⟨rfl, ?_⟩
        all_goals (rw [HSz.out]; exact rsync_end H1.out HV.out HI.out ht hi HIf.out _)

set_option maxRecDepth 100000 in
set_option maxHeartbeats 400000 in
theorem rremove_any (k : ByteArray) (w : World) (h : RefG w r v s) (hI : Inv s) (hk : k.size ≤ maxLen) :
    Calls Try.prog 28 #[.pointer (some ⟨r, 0, none⟩), .string k] w fun e w' => e = .returned (.int .i64 (Dk.removeE s k.data.toList)) ∧ RGoes w w' r v (Dk.removeS s k.data.toList) := by
  have H : Hid (RefG w r v s) := h
  have hfew := hI.few
  cases ho : Dk.okS k with
  | false =>
    have e1 : Dk.removeE s k.data.toList = 10 := by unfold Dk.removeE; rw [rfindE_bad ho]; rfl
    have e2 : Dk.removeS s k.data.toList = s := by unfold Dk.removeS; rw [rfindE_bad ho]; rfl
    rw [e1, e2]
    clear e1 e2
    go_enter Try.func28, Try.ntmps28
    go_wp2_with fail
    refine (rknown_bad _ _ hk ho).mono ?_
    rintro e u ⟨rfl, rfl⟩
    go_wp2_with fail
    go_ret
    exact ⟨rfl, RGoes.stay H.out⟩
  | true =>
    cases hg : Dk.getL k.data.toList s.fs with
    | none =>
      have e1 : Dk.removeE s k.data.toList = 5 := by unfold Dk.removeE; rw [rfindE_none ho hg]; rfl
      have e2 : Dk.removeS s k.data.toList = s := by unfold Dk.removeS; rw [rfindE_none ho hg]; rfl
      rw [e1, e2]
      have HK : Hid (Calls Try.prog 45 #[.pointer (some ⟨r, 0, none⟩), .string k] w fun e w' => e = .returned (.tuple #[.int .i64 0, .int .i64 5]) ∧ w = w') := rknown_none k w h hfew hk ho hg
      clear e1 e2 hg h
      go_enter Try.func28, Try.ntmps28
      go_wp2_with fail
      refine HK.out.mono ?_
      rintro e u ⟨rfl, rfl⟩
      go_wp2_with fail
      go_ret
      exact ⟨rfl, RGoes.stay H.out⟩
    | some f =>
      obtain ⟨i, hi, hif, hib⟩ := getL_index hg
      have e1 : Dk.removeE s k.data.toList = Dk.changeE s := by unfold Dk.removeE; rw [if_pos (rfindE_some ho hg)]
      rw [e1]
      have HK : Hid (Calls Try.prog 45 #[.pointer (some ⟨r, 0, none⟩), .string k] w fun e w' => e = .returned (.tuple #[.int .i64 (i : Int), .int .i64 0]) ∧ w = w') := rknown_some k w h hfew hk ho hi (by rw [hif]) hib
      have HC : Hid (Calls Try.prog 43 #[.pointer (some ⟨r, 0, none⟩)] w fun e w' => e = .returned (.bool (!Dk.burnt s)) ∧ RefG w' r v (Dk.changeS s) ∧ Turn (fun i => i = r) w w') := rchange_any _ h hI.left
      cases hb : Dk.burnt s with
      | true =>
        have e2 : Dk.removeS s k.data.toList = Dk.changeS s := by unfold Dk.removeS; rw [if_pos (rfindE_some ho hg), hb]; rfl
        rw [changeE_burnt hb, e2]
        clear e1 e2 hg h hI hif hib
        go_enter Try.func28, Try.ntmps28
        go_wp2_with fail
        refine HK.out.mono ?_
        rintro e u ⟨rfl, rfl⟩
        go_wp2_with fail
        refine HC.out.mono ?_
        rintro e w1 ⟨rfl, h1, ht⟩
        go_wp2_with fail
        go_ret
        exact ⟨rfl, RGoes.top h1 ht⟩
      | false =>
        have e2 : Dk.removeS s k.data.toList = { Dk.changeS s with fs := Dk.delL k.data.toList s.fs } := by unfold Dk.removeS; rw [if_pos (rfindE_some ho hg), hb]; rfl
        rw [changeE_not hb, e2]
        have HI : Hid (Inv s) := hI
        have HIf : Hid (s.fs[i] = (k.data.toList, f)) := hif
        clear e1 e2 hg h hI hif hib
        go_enter Try.func28, Try.ntmps28
        go_wp2_with fail
        refine HK.out.mono ?_
        rintro e u ⟨rfl, rfl⟩
        go_wp2_with fail
        refine HC.out.mono ?_
        rintro e w1 ⟨rfl, h1, ht⟩
        have hD := rdrop_any (j := i) k.data.toList w1 h1 (inv_change HI.out) (by rw [changeS_fs]; exact hi) (by simp only [changeS_fs]; rw [HIf.out])
        rw [changeS_fs] at hD
        have HD : Hid (Calls Try.prog 46 #[.pointer (some ⟨r, 0, none⟩), .int .i64 (i : Int)] w1 fun e w' => e = .returned (.tuple #[]) ∧ RGoes w1 w' r v { Dk.changeS s with fs := Dk.delL k.data.toList s.fs }) := hD
        have HT : Hid (Turn (rfoot r v) w w1) := ht.mono (fun _ hi => Or.inl hi)
        clear hD h1 ht
        go_wp2_with fail
        refine HD.out.mono ?_
        rintro e w2 ⟨rfl, hG⟩
        have HG2 : Hid (RGoes w w2 r v { Dk.changeS s with fs := Dk.delL k.data.toList s.fs }) := RGoes.after HT.out hG
        clear hG
        go_wp2_with fail
        go_ret
        exact ⟨rfl, HG2.out⟩

end
end Go.Proofs.Ytbiombolpfhdlaa
