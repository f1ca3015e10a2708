/- The reference disk: Append. -/
import Derived.Test.YtbiombolpfhdlaaRefE
namespace Go.Proofs.Ytbiombolpfhdlaa
open Go.RowKit Go.Maps

theorem RGoes.after {r : Nat} {v : Value} {s' : Dk.Dsk} {w w1 w2 : World} (ht : Turn (rfoot r v) w w1) (h : RGoes w1 w2 r v s') : RGoes w w2 r v s' := by
  obtain ⟨v', h1, h2, h3⟩ := h
  exact ⟨v', h1, ht.trans h2, fun i hi => (h3 i hi).imp id (fun h4 => Nat.le_trans ht.size h4)⟩

theorem bs_append (l : List UInt8) (d : ByteArray) : bs (l ++ d.data.toList) = bs l ++ d := by
  apply ByteArray.ext
  apply Array.ext'
  simp [bs, ByteArray.data_append]

section
variable {r : Nat} {v : Value} {s : Dk.Dsk}

/-- a box of the call's own -/
def boxV (w : World) (a b : ByteArray) (n : Int) : World := w.alloc (.cells #[.string a, .string b, .int .i64 n] 61 (0, 0))

theorem inv_change (hI : Inv s) : Inv (Dk.changeS s) := by
  have e := changeS_fs (s := s)
  refine ⟨by rw [e]; exact hI.rise, by rw [e]; exact hI.few, by rw [e]; exact hI.safe, by rw [e]; exact hI.len, by rw [e]; exact hI.names, ?_⟩
  have := hI.left
  unfold Dk.changeS
  split
  · exact this
  · split
    · show s.left - 1 ≤ _; omega
    · exact this

/-- behind the change: what is written into the box, and put -/
theorem rappend_put {w w1 : World} {k hb data : ByteArray} {f : Dk.Fil} (hI : Inv s) (hh : bs f.data = hb) (ht0 : Turn (fun i => i = r) (boxV w k hb (f.safe : Int)) w1) (h1 : RefG w1 r v (Dk.changeS s)) (hrl : r < w.heap.size) (hvl : ∀ i, v.ownBlock = some i → i < w.heap.size)
    (hmore : Dk.getL k.data.toList s.fs = none → s.fs.length < 64) :
    Turn (rfoot r v) w (w1.setCell ⟨w.heap.size, 1, none⟩ (.string (hb ++ data))) ∧
    Calls Try.prog 44 #[.pointer (some ⟨r, 0, none⟩), .agg #[.string k, .string (hb ++ data), .int .i64 (f.safe : Int)]] (w1.setCell ⟨w.heap.size, 1, none⟩ (.string (hb ++ data))) fun e w' => e = .returned (.tuple #[]) ∧ RGoes (w1.setCell ⟨w.heap.size, 1, none⟩ (.string (hb ++ data))) w' r v { Dk.changeS s with fs := Dk.putL k.data.toList ⟨f.data ++ data.data.toList, f.safe⟩ s.fs } := by
  have t1 : Turn (rfoot r v) w w1 := (Turn.alloc w _).trans (ht0.mono (fun i hi => Or.inl hi))
  have t2 : Turn (fun i => i = w.heap.size) w1 (w1.setCell ⟨w.heap.size, 1, none⟩ (.string (hb ++ data))) := Turn.setCell w1 ⟨w.heap.size, 1, none⟩ _ rfl
  refine ⟨t1.transNew t2 (fun i hi => Or.inr (by omega)), ?_⟩
  have h2 : RefG (w1.setCell ⟨w.heap.size, 1, none⟩ (.string (hb ++ data))) r v (Dk.changeS s) := h1.kept t2 (fun i hi e => by
    rcases hi with hi | hi
    · omega
    · have := hvl i hi; omega)
  have := rput_any (k.data.toList, ⟨f.data ++ data.data.toList, f.safe⟩) _ h2 (inv_change hI) (by rw [changeS_fs]; exact hmore)
  simp only [bs_back, bs_append, hh, changeS_fs] at this
  exact this

set_option maxHeartbeats 400000 in
theorem rappend_bad (k data : ByteArray) (w : World) (h : RefG w r v s) (hk : k.size ≤ maxLen) (ho : Dk.okS k = false) :
    Calls Try.prog 24 #[.pointer (some ⟨r, 0, none⟩), .string k, .string data] w fun e w' => e = .returned (.int .i64 (Dk.appendE s k.data.toList data.data.toList)) ∧ RGoes w w' r v (Dk.appendS s k.data.toList data.data.toList) := by
  have H : Hid (RefG w r v s) := h
  have e1 : Dk.appendE s k.data.toList data.data.toList = 10 := by unfold Dk.appendE; rw [← okS_def, ho]; rfl
  have e2 : Dk.appendS s k.data.toList data.data.toList = s := by unfold Dk.appendS; rw [← okS_def, ho]; rfl
  rw [e1, e2]
  clear e1 e2 h
  go_enter Try.func24, Try.ntmps24
  go_wp2_with fail
  refine (named_any _ _ hk).mono ?_
  rintro e u ⟨rfl, rfl⟩
  go_wp2_with fail
  go_ret
  exact ⟨rfl, RGoes.stay H.out⟩

theorem ref_boxV {w : World} (h : RefG w r v s) (a b : ByteArray) (n : Int) : RefG (boxV w a b n) r v s := h.kept (S := fun _ => False) (Turn.alloc w _) (fun _ _ h => h)
theorem boxV_turn (S : Nat → Prop) (w : World) (a b : ByteArray) (n : Int) : Turn S w (boxV w a b n) := Turn.alloc w _

/-- the box behind a turn of the struct alone -/
theorem boxV_cells {w w1 : World} {a b : ByteArray} {n : Int} (ht : Turn (fun i => i = r) (boxV w a b n) w1) (hr : r < w.heap.size) :
    w1.cell? ⟨w.heap.size, 0, none⟩ = some (.string a) ∧ w1.cell? ⟨w.heap.size, 1, none⟩ = some (.string b) ∧ w1.cell? ⟨w.heap.size, 2, none⟩ = some (.int .i64 n) ∧ w1.frozen? ⟨w.heap.size, 1, none⟩ = false ∧ w1.frozen? ⟨w.heap.size, 0, none⟩ = false := by
  have hb : w1.heap[w.heap.size]? = some (.cells #[.string a, .string b, .int .i64 n] 61 (0, 0)) := (ht.block w.heap.size (by simp [boxV]) (by omega)).trans (heap_new w _)
  exact ⟨by rw [cell_of hb]; rfl, by rw [cell_of hb]; rfl, by rw [cell_of hb]; rfl, frozen_of hb 1, frozen_of hb 0⟩

set_option maxRecDepth 100000 in
set_option maxHeartbeats 2000000 in
theorem rappend_none (k data : ByteArray) (w : World) (h : RefG w r v s) (hI : Inv s) (hk : k.size ≤ maxLen) (_hds : data.size ≤ maxLen) (ho : Dk.okS k = true) (hg : Dk.getL k.data.toList s.fs = none) :
    Calls Try.prog 24 #[.pointer (some ⟨r, 0, none⟩), .string k, .string data] w fun e w' => e = .returned (.int .i64 (Dk.appendE s k.data.toList data.data.toList)) ∧ RGoes w w' r v (Dk.appendS s k.data.toList data.data.toList) := by
  have H : Hid (RefG w r v s) := h
  have hfew := hI.few
  have HI : Hid (Inv s) := hI
  have hrl : r < w.heap.size := lt_of h.top
  have HVl : Hid (∀ i, v.ownBlock = some i → i < w.heap.size) := fun i hi => (h.row.lt i hi).2
  have HF : Hid (Calls Try.prog 42 #[.pointer (some ⟨r, 0, none⟩), .string k] w fun e w' => e = .returned (.int .i64 (-1)) ∧ w = w') := rfind_none k w h hfew hg
  obtain ⟨a, c, hv, hnc, hcm, -⟩ := row3 h.row
  have c0 : w.cell? ⟨r, 0, none⟩ = some (.slice a s.fs.length c) := h.cells.1.trans (congrArg some hv)
  have c0' : (boxV w k ByteArray.empty 0).cell? ⟨r, 0, none⟩ = some (.slice a s.fs.length c) := (ref_boxV h k ByteArray.empty 0).cells.1.trans (congrArg some hv)
  unfold boxV at c0'
  have HC : Hid (Calls Try.prog 43 #[.pointer (some ⟨r, 0, none⟩)] (w.alloc (.cells #[.string k, .string ByteArray.empty, .int .i64 0] 61 (0, 0))) fun e w' => e = .returned (.bool (!Dk.burnt s)) ∧ RefG w' r v (Dk.changeS s) ∧ Turn (fun i => i = r) (w.alloc (.cells #[.string k, .string ByteArray.empty, .int .i64 0] 61 (0, 0))) w') := rchange_any _ (ref_boxV h k ByteArray.empty 0) hI.left
  have hTL : Dk.tooLong s k.data.toList data.data.toList = (decide (262144 < data.size) || decide (64 ≤ s.fs.length)) := by
    unfold Dk.tooLong
    rw [hg]
    simp [Dk.fileOr]
  have HGn : Hid (Dk.getL k.data.toList s.fs = none) := hg
  have HTB : Hid (Turn (rfoot r v) w (w.alloc (.cells #[.string k, .string ByteArray.empty, .int .i64 0] 61 (0, 0)))) := Turn.alloc w _
  have HRB : Hid (RefG (w.alloc (.cells #[.string k, .string ByteArray.empty, .int .i64 0] 61 (0, 0))) r v s) := ref_boxV h k ByteArray.empty 0
  unfold maxLen at hcm _hds
  clear hg h hI hv
  by_cases hlong : (262144 : Int) < (data.size : Int)
  · have e0 : Dk.tooLong s k.data.toList data.data.toList = true := by rw [hTL, decide_eq_true (by omega)]; rfl
    have e1 : Dk.appendE s k.data.toList data.data.toList = 2 := by unfold Dk.appendE; rw [← okS_def, ho, e0]; rfl
    have e2 : Dk.appendS s k.data.toList data.data.toList = s := by unfold Dk.appendS; rw [← okS_def, ho, e0]; rfl
    rw [e1, e2]
    clear e0 e1 e2 hTL
    go_enter Try.func24, Try.ntmps24
    go_wp2_with fail
    refine (named_any _ _ hk).mono ?_
    rintro e u ⟨rfl, rfl⟩
    go_wp2_with fail
    refine HF.out.mono ?_
    rintro e u ⟨rfl, rfl⟩
    go_wp2_with fail
    go_ret
    exact ⟨rfl, RGoes.after HTB.out (RGoes.stay HRB.out)⟩
  · by_cases hmany : (64 : Int) ≤ (s.fs.length : Int)
    · have e0 : Dk.tooLong s k.data.toList data.data.toList = true := by rw [hTL, decide_eq_true (p := 64 ≤ s.fs.length) (by omega)]; simp
      have e1 : Dk.appendE s k.data.toList data.data.toList = 2 := by unfold Dk.appendE; rw [← okS_def, ho, e0]; rfl
      have e2 : Dk.appendS s k.data.toList data.data.toList = s := by unfold Dk.appendS; rw [← okS_def, ho, e0]; rfl
      rw [e1, e2]
      clear e0 e1 e2 hTL
      go_enter Try.func24, Try.ntmps24
      go_wp2_with fail
      refine (named_any _ _ hk).mono ?_
      rintro e u ⟨rfl, rfl⟩
      go_wp2_with fail
      refine HF.out.mono ?_
      rintro e u ⟨rfl, rfl⟩
      go_wp2_with fail
      go_ret
      exact ⟨rfl, RGoes.after HTB.out (RGoes.stay HRB.out)⟩
    · have e0 : Dk.tooLong s k.data.toList data.data.toList = false := by rw [hTL, decide_eq_false (p := 64 ≤ s.fs.length) (by omega), decide_eq_false (p := 262144 < data.size) (by omega)]; rfl
      have e1 : Dk.appendE s k.data.toList data.data.toList = Dk.changeE s := by unfold Dk.appendE; rw [← okS_def, ho, e0]; rfl
      rw [e1]
      cases hb : Dk.burnt s with
      | true =>
        rw [changeE_burnt hb, show Dk.appendS s k.data.toList data.data.toList = Dk.changeS s from by unfold Dk.appendS; rw [← okS_def, ho, e0, hb]; rfl]
        clear e0 e1 hTL
        go_enter Try.func24, Try.ntmps24
        go_wp2_with fail
        refine (named_any _ _ hk).mono ?_
        rintro e u ⟨rfl, rfl⟩
        go_wp2_with fail
        refine HF.out.mono ?_
        rintro e u ⟨rfl, rfl⟩
        go_wp2_with fail
        refine HC.out.mono ?_
        rintro e w1 ⟨rfl, h1, ht⟩
        go_wp2_with fail
        go_ret
        exact ⟨rfl, RGoes.after HTB.out (RGoes.top h1 ht)⟩
      | false =>
        rw [changeE_not hb]
        have HS : Hid (Dk.appendS s k.data.toList data.data.toList = { Dk.changeS s with fs := Dk.putL k.data.toList ⟨[] ++ data.data.toList, 0⟩ s.fs }) := by
          show _ = _
          unfold Dk.appendS; rw [← okS_def, ho, e0, hb, HGn.out]; rfl
        have HMore : Hid (Dk.getL k.data.toList s.fs = none → s.fs.length < 64) := fun _ => by omega
        clear e0 e1 hTL
        go_enter Try.func24, Try.ntmps24
        go_wp2_with fail
        refine (named_any _ _ hk).mono ?_
        rintro e u ⟨rfl, rfl⟩
        go_wp2_with fail
        refine HF.out.mono ?_
        rintro e u ⟨rfl, rfl⟩
        go_wp2_with fail
        refine HC.out.mono ?_
        rintro e w1 ⟨rfl, h1, ht⟩
        obtain ⟨d0, d1, d2, d3, -⟩ := boxV_cells (a := k) (b := ByteArray.empty) (n := 0) ht hrl
        obtain ⟨T2, hP⟩ := rappend_put (data := data) (f := ⟨[], 0⟩) (hb := ByteArray.empty) HI.out rfl ht h1 hrl HVl.out HMore.out
        have ee : ByteArray.empty ++ data = data := by simp
        rw [ee] at T2 hP
        have HP : Hid (Calls Try.prog 44 #[.pointer (some ⟨r, 0, none⟩), .agg #[.string k, .string data, .int .i64 0]] (w1.setCell ⟨w.heap.size, 1, none⟩ (.string data)) fun e w' => e = .returned (.tuple #[]) ∧ RGoes (w1.setCell ⟨w.heap.size, 1, none⟩ (.string data)) w' r v { Dk.changeS s with fs := Dk.putL k.data.toList ⟨[] ++ data.data.toList, 0⟩ s.fs }) := hP
        have HT2 : Hid (Turn (rfoot r v) w (w1.setCell ⟨w.heap.size, 1, none⟩ (.string data))) := T2
        clear hP T2 ee
        go_wp2_with fail
        refine HP.out.mono ?_
        rintro e w2 ⟨rfl, hG⟩
        have HG2 : Hid (RGoes w w2 r v (Dk.appendS s k.data.toList data.data.toList)) := by
          show RGoes w w2 r v (Dk.appendS s k.data.toList data.data.toList)
          rw [HS.out]
          exact RGoes.after HT2.out hG
        clear hG
        go_wp2_with fail
        go_ret
        exact ⟨rfl, HG2.out⟩

end
end Go.Proofs.Ytbiombolpfhdlaa
