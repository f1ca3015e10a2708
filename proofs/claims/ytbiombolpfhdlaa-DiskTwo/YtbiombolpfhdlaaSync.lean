/- Sync, Read. -/
import Derived.Test.YtbiombolpfhdlaaDisk
namespace Go.Proofs.Ytbiombolpfhdlaa
open Go.RowKit Go.Maps

def Goes (w w' : World) (d m : Nat) (G : List (List UInt8 × Gc)) (s' : Dk.Dsk) : Prop :=
  ∃ G', DiskG Try.prog w' d m G' s' ∧ Turn (foot d m G) w w' ∧ ∀ i, foot d m G' i → foot d m G i ∨ w.heap.size ≤ i

theorem Goes.stay {w : World} {d m : Nat} {G : List (List UInt8 × Gc)} {s : Dk.Dsk} (h : DiskG Try.prog w d m G s) : Goes w w d m G s :=
  ⟨G, h, Turn.refl _ _, fun _ hi => Or.inl hi⟩
theorem Goes.top {w w' : World} {d m : Nat} {G : List (List UInt8 × Gc)} {s : Dk.Dsk} (h : DiskG Try.prog w' d m G s) (ht : Turn (fun i => i = d) w w') : Goes w w' d m G s :=
  ⟨G, h, ht.mono (fun _ hi => Or.inl hi), fun _ hi => Or.inl hi⟩

theorem Goes.of {w w1 w2 : World} {d m : Nat} {G G' : List (List UInt8 × Gc)} {s' : Dk.Dsk} (ht : Turn (fun i => i = d) w w1) (hts : Turn (foot d m G) w1 w2) (hD : DiskG Try.prog w2 d m G' s')
    (hfoot : ∀ i, foot d m G' i → foot d m G i ∨ w1.heap.size ≤ i) : Goes w w2 d m G s' :=
  ⟨G', hD, (ht.mono (fun _ hi => Or.inl hi)).trans hts, fun i hi => (hfoot i hi).imp id (fun h2 => Nat.le_trans ht.size h2)⟩

theorem okS_def (k : ByteArray) : Dk.okS k = Dk.okName k.data.toList := rfl

section
variable {d m : Nat} {G : List (List UInt8 × Gc)} {s : Dk.Dsk}

theorem findE_bad {k : ByteArray} (ho : Dk.okS k = false) : Dk.findE s k.data.toList = 10 := by unfold Dk.findE; rw [← okS_def, ho]; rfl
theorem findE_none {w : World} {k : ByteArray} (h : DiskG Try.prog w d m G s) (ho : Dk.okS k = true) (hg : Dk.getL k.data.toList G = none) : Dk.findE s k.data.toList = 5 := by
  unfold Dk.findE; rw [← okS_def, ho, h.getL_fs, hg]; rfl
theorem findE_some {w : World} {k : ByteArray} (h : DiskG Try.prog w d m G s) (ho : Dk.okS k = true) {g : Gc} (hg : Dk.getL k.data.toList G = some g) : Dk.findE s k.data.toList = 0 := by
  unfold Dk.findE; rw [← okS_def, ho, h.getL_fs, hg]; rfl
theorem fileOr_some {w : World} {k : ByteArray} (h : DiskG Try.prog w d m G s) {g : Gc} (hg : Dk.getL k.data.toList G = some g) : Dk.fileOr (Dk.getL k.data.toList s.fs) = g.fil := by
  rw [h.getL_fs, hg]; rfl

theorem changeE_burnt (hb : Dk.burnt s = true) : Dk.changeE s = 11 := by unfold Dk.changeE; rw [hb]; rfl
theorem changeE_not (hb : Dk.burnt s = false) : Dk.changeE s = 0 := by unfold Dk.changeE; rw [hb]; rfl
theorem changeS_fs : (Dk.changeS s).fs = s.fs := by unfold Dk.changeS; split <;> (try split) <;> rfl

/-- behind Sync's store -/
theorem sync_end {w w1 : World} {k : ByteArray} {g : Gc} (h : DiskG Try.prog w d m G s) (h1 : DiskG Try.prog w1 d m G (Dk.changeS s)) (ht : Turn (fun i => i = d) w w1) (hg : Dk.getL k.data.toList G = some g) (hb : Dk.burnt s = false) (hE : Dk.findE s k.data.toList = 0) :
    Goes w (w1.setCell ⟨g.blk, 1, none⟩ (.int .i64 (g.fil.data.length : Int))) d m G (Dk.syncS s k.data.toList) := by
  have hf := h1.files _ (Dk.getL_mem hg)
  have hf' : FileAt (w1.setCell ⟨g.blk, 1, none⟩ (.int .i64 (g.fil.data.length : Int))) ⟨g.blk, g.val, ⟨g.fil.data, g.fil.data.length⟩⟩ := by
    refine ⟨?_, ?_, Nat.le_refl _, hf.len⟩
    · show (World.heap _)[g.blk]? = _
      rw [heap_setCell_same hf.cell]
      simp
    · refine ownsRow_block hf.row (fun i hi => Below.heap_setCell _ _ _ _ ?_)
      exact fun e => file_row hf hf hi e.symm
  have hts : Turn (fileS g) w1 (w1.setCell ⟨g.blk, 1, none⟩ (.int .i64 (g.fil.data.length : Int))) := Turn.setCell w1 ⟨g.blk, 1, none⟩ _ (Or.inl rfl)
  obtain ⟨hD, hfoot⟩ := h1.setFile hg hts hf' rfl (fun i hi => Or.inl hi)
  have e : Dk.syncS s k.data.toList = { Dk.changeS s with fs := Dk.putL k.data.toList ⟨g.fil.data, g.fil.data.length⟩ (Dk.changeS s).fs } := by
    unfold Dk.syncS
    rw [if_pos hE, hb, changeS_fs, fileOr_some h hg]
    rfl
  rw [e]
  exact Goes.of ht (hts.mono (fun i hi => DiskG.footFile hg i hi)) hD hfoot

set_option maxHeartbeats 400000 in
theorem sync_any (k : ByteArray) (w : World) (h : DiskG Try.prog w d m G s) (hk : k.size ≤ maxLen) :
    Calls Try.prog 17 #[.pointer (some ⟨d, 0, none⟩), .string k] w fun e w' => e = .returned (.int .i64 (Dk.syncE s k.data.toList)) ∧ Goes w w' d m G (Dk.syncS s k.data.toList) := by
  have H : Hid (DiskG Try.prog w d m G s) := h
  cases ho : Dk.okS k with
  | false =>
    have HF : Hid (Dk.findE s k.data.toList = 10) := findE_bad ho
    go_enter Try.func17, Try.ntmps17
    go_wp2_with (go_at_call 38; refine (find_bad _ _ hk ho).mono ?_; rintro e w' ⟨rfl, rfl⟩)
    go_ret
    refine ⟨ret_int (by unfold Dk.syncE; rw [HF.out]; rfl), ?_⟩
    rw [show Dk.syncS s k.data.toList = s from by unfold Dk.syncS; rw [HF.out]; rfl]
    exact Goes.stay H.out
  | true =>
    cases hg : Dk.getL k.data.toList G with
    | none =>
      have HF : Hid (Dk.findE s k.data.toList = 5) := findE_none h ho hg
      have HG : Hid (Dk.getL k.data.toList G = none) := hg
      clear hg
      go_enter Try.func17, Try.ntmps17
      go_wp2_with (go_at_call 38; refine (find_none _ _ H.out hk ho HG.out).mono ?_; rintro e w' ⟨rfl, rfl⟩)
      go_ret
      refine ⟨ret_int (by unfold Dk.syncE; rw [HF.out]; rfl), ?_⟩
      rw [show Dk.syncS s k.data.toList = s from by unfold Dk.syncS; rw [HF.out]; rfl]
      exact Goes.stay H.out
    | some g =>
      have HF : Hid (Dk.findE s k.data.toList = 0) := findE_some h ho hg
      have HG : Hid (Dk.getL k.data.toList G = some g) := hg
      clear hg
      cases hb : Dk.burnt s with
      | true =>
        have hE := changeE_burnt hb
        go_enter Try.func17, Try.ntmps17
        go_wp2_with (first
          | (go_at_call 38; refine (find_some _ _ H.out hk ho HG.out).mono ?_; rintro e w' ⟨rfl, rfl⟩)
          | (go_at_call 37; refine (change_any _ H.out).mono ?_; rintro e w1 ⟨rfl, h1, ht⟩))
        go_ret
        refine ⟨ret_int (by unfold Dk.syncE; rw [if_pos HF.out, hE]), ?_⟩
        rw [show Dk.syncS s k.data.toList = Dk.changeS s from by unfold Dk.syncS; rw [if_pos HF.out, hb]; rfl]
        exact Goes.top h1 ht
      | false =>
        have hE := changeE_not hb
        go_enter Try.func17, Try.ntmps17
        go_wp2_with (first
          | (go_at_call 38; refine (find_some _ _ H.out hk ho HG.out).mono ?_; rintro e w' ⟨rfl, rfl⟩)
          | (go_at_call 37; refine (change_any _ H.out).mono ?_; rintro e w1 ⟨rfl, h1, ht⟩; have hf := h1.files _ (Dk.getL_mem HG.out); obtain ⟨c0, c1⟩ := hf.cells; have f1 := frozen_of hf.cell 1; obtain ⟨a, c, hv, -, -, -⟩ := hf.shape; have c0' : w1.cell? ⟨g.blk, 0, none⟩ = some (.slice a g.fil.data.length c) := c0.trans (congrArg some hv); have hv' : Hid (g.val = .slice a g.fil.data.length c) := hv; clear hv c0))
        go_ret
        refine ⟨ret_int (by unfold Dk.syncE; rw [if_pos HF.out, hE]), ?_⟩
        exact sync_end H.out h1 ht HG.out hb HF.out

theorem readV_bad {k : ByteArray} (ho : Dk.okS k = false) : Dk.readV s k.data.toList = [] := by unfold Dk.readV; rw [findE_bad ho]; rfl
theorem readV_none {w : World} {k : ByteArray} (h : DiskG Try.prog w d m G s) (ho : Dk.okS k = true) (hg : Dk.getL k.data.toList G = none) : Dk.readV s k.data.toList = [] := by unfold Dk.readV; rw [findE_none h ho hg]; rfl
theorem readV_some {w : World} {k : ByteArray} (h : DiskG Try.prog w d m G s) (ho : Dk.okS k = true) {g : Gc} (hg : Dk.getL k.data.toList G = some g) : Dk.readV s k.data.toList = g.fil.data := by
  unfold Dk.readV; rw [if_pos (findE_some h ho hg), fileOr_some h hg]

/-- a file's bytes as a string -/
theorem FileAt.text {w : World} {g : Gc} (h : FileAt w g) {a : Option Addr} {c : Nat} (hv : g.val = .slice a g.fil.data.length c) :
    (convert 65 9 (.slice a g.fil.data.length c)).run Try.prog w = .ok (.string ⟨g.fil.data.toArray⟩) w := by
  have hr := h.row
  rw [hv] at hr
  rcases hr.2 with ⟨e, hn⟩ | ⟨b, cap, cur, e, _⟩
  · obtain ⟨rfl, _, rfl⟩ : a = none ∧ g.fil.data.length = 0 ∧ c = 0 := by simpa using e
    rw [run_convert_bytes_nil w 65 5 Try.underlying65 Try.underlying5 _ _ 9 Try.underlying9]
    rw [List.eq_nil_of_length_eq_zero hn]
    rfl
  · cases e
    rw [run_convert_bytes_arg w 65 5 Try.underlying65 Try.underlying5 b 0 g.fil.data.length c (g.fil.data.map fun x => (x.toNat : Int)) (by simp) ?_ 9 Try.underlying9]
    · refine congrArg (fun x => Result.ok (Value.string x) w) ?_
      unfold strOfNums
      simp [List.map_map, Function.comp_def]
    · intro i hi
      have := hr.cells (g := b) rfl i (.int .u8 (g.fil.data[i].toNat : Int)) (by simp [bcells, hi])
      rw [Addr.add_lit] at this
      rw [this]
      simp [List.getD, hi]

set_option maxHeartbeats 400000 in
theorem read_any (k : ByteArray) (w : World) (h : DiskG Try.prog w d m G s) (hk : k.size ≤ maxLen) :
    Calls Try.prog 23 #[.pointer (some ⟨d, 0, none⟩), .string k] w fun e w' => e = .returned (.tuple #[.string ⟨(Dk.readV s k.data.toList).toArray⟩, .int .i64 (Dk.findE s k.data.toList)]) ∧ w' = w := by
  have H : Hid (DiskG Try.prog w d m G s) := h
  cases ho : Dk.okS k with
  | false =>
    rw [findE_bad ho, readV_bad ho]
    go_enter Try.func23, Try.ntmps23
    go_wp2_with (go_at_call 38; refine (find_bad _ _ hk ho).mono ?_; rintro e w' ⟨rfl, rfl⟩)
    go_ret2
    exact ⟨rfl, rfl⟩
  | true =>
    cases hg : Dk.getL k.data.toList G with
    | none =>
      rw [findE_none h ho hg, readV_none h ho hg]
      have HG : Hid (Dk.getL k.data.toList G = none) := hg
      clear hg
      go_enter Try.func23, Try.ntmps23
      go_wp2_with (go_at_call 38; refine (find_none _ _ H.out hk ho HG.out).mono ?_; rintro e w' ⟨rfl, rfl⟩)
      go_ret2
      exact ⟨rfl, rfl⟩
    | some g =>
      rw [findE_some h ho hg, readV_some h ho hg]
      have HG : Hid (Dk.getL k.data.toList G = some g) := hg
      have hf := h.files _ (Dk.getL_mem hg)
      obtain ⟨c0, c1⟩ := hf.cells
      obtain ⟨a, c, hv, -, -, -⟩ := hf.shape
      have hx := hf.text hv
      have c0' : w.cell? ⟨g.blk, 0, none⟩ = some (.slice a g.fil.data.length c) := c0.trans (congrArg some hv)
      clear hg hv c0
      go_enter Try.func23, Try.ntmps23
      go_wp2_with (go_at_call 38; refine (find_some _ _ H.out hk ho HG.out).mono ?_; rintro e w' ⟨rfl, rfl⟩)
      go_ret2
      exact ⟨rfl, rfl⟩

end
end Go.Proofs.Ytbiombolpfhdlaa
