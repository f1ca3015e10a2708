/- The reference disk: put. -/
import Derived.Test.YtbiombolpfhdlaaRefP
import Derived.Laws.AppendOwnNone
namespace Go.Proofs.Ytbiombolpfhdlaa
open Go.RowKit Go.Maps

theorem infoF : (Try.prog.info? 61).map (fun i => (i.zero, i.size, i.bytes)) = some (some (.agg #[.string ByteArray.empty, .string ByteArray.empty, .int .i64 0]), 3, 40) := by kernel_rfl

theorem cutF (g n c t : Nat) (h : t ≤ c) (W : World) :
    (Instr.slice 54 (.slice (some ⟨g, 0, none⟩) n c) none (some (.int .i64 (t : Int))) none).run Try.prog W = .ok (.slice (some ⟨g, 0, none⟩) t c) W := by
  have hz : ∀ W, (sizeOf 61).run Try.prog W = .ok 3 W := fun W => by kernel_rfl
  have h1 : (t : Int) ≤ (c : Int) := by omega
  simp [Instr.slice, run_underlying Try.underlying54, Instr.sliceBounds, run_sliceBound, h1, hz, Result.andThen, Addr.add_lit]
theorem cutF0 (W : World) : (Instr.slice 54 (.slice none 0 0) none (some (.int .i64 0)) none).run Try.prog W = .ok (.slice none 0 0) W := by
  have hz : ∀ W, (sizeOf 61).run Try.prog W = .ok 3 W := fun W => by kernel_rfl
  simp [Instr.slice, run_underlying Try.underlying54, Instr.sliceBounds, run_sliceBound, hz, Result.andThen]
theorem restF (g n c t : Nat) (h : t ≤ n) (W : World) :
    (Instr.slice 54 (.slice (some ⟨g, 0, none⟩) n c) (some (.int .i64 (t : Int))) none none).run Try.prog W = .ok (.slice (if c = t then some ⟨g, 0, none⟩ else some ⟨g, t * 3, none⟩) (n - t) (c - t)) W := by
  have hz : ∀ W, (sizeOf 61).run Try.prog W = .ok 3 W := fun W => by kernel_rfl
  have h1 : (t : Int) ≤ (n : Int) := by omega
  simp [Instr.slice, run_underlying Try.underlying54, Instr.sliceBounds, run_sliceBound, h1, hz, Result.andThen, Addr.add_lit]
theorem restF0 (W : World) : (Instr.slice 54 (.slice none 0 0) (some (.int .i64 0)) none none).run Try.prog W = .ok (.slice none 0 0) W := by
  have hz : ∀ W, (sizeOf 61).run Try.prog W = .ok 3 W := fun W => by kernel_rfl
  simp [Instr.slice, run_underlying Try.underlying54, Instr.sliceBounds, run_sliceBound, hz, Result.andThen]

/-- a file, in its box -/
def boxF (w : World) (p : List UInt8 × Dk.Fil) : World := w.alloc (.cells #[.string (bs p.1), .string (bs p.2.data), .int .i64 (p.2.safe : Int)] 61 (0, 0))
theorem boxF_turn (S : Nat → Prop) (w : World) (p : List UInt8 × Dk.Fil) : Turn S w (boxF w p) := Turn.alloc w _
theorem boxF_size (w : World) (p : List UInt8 × Dk.Fil) : (boxF w p).heap.size = w.heap.size + 1 := World.size_alloc _ _
theorem boxF_cells (w : World) (p : List UInt8 × Dk.Fil) : (boxF w p).cell? ⟨w.heap.size, 0, none⟩ = some (.string (bs p.1)) ∧ (boxF w p).cell? ⟨w.heap.size, 1, none⟩ = some (.string (bs p.2.data)) ∧ (boxF w p).cell? ⟨w.heap.size, 2, none⟩ = some (.int .i64 (p.2.safe : Int)) := by
  unfold boxF
  exact ⟨by rw [cell_of (heap_new w _)]; rfl, by rw [cell_of (heap_new w _)]; rfl, by rw [cell_of (heap_new w _)]; rfl⟩

section
variable {r : Nat} {v : Value} {s : Dk.Dsk}

theorem rput_old_end (p : List UInt8 × Dk.Fil) {w w0 : World} (h : RefG w r v s) (hI : Inv s) {g c : Nat} (hv : v = .slice (some ⟨g, 0, none⟩) s.fs.length c) (hw0 : boxF w p = w0) {t : Nat} (ht : t < s.fs.length) (hk : (s.fs[t]).1 = p.1) (N : Nat) :
    RGoes w ((((w0.drewN N).setCell ⟨g, t * 3, none⟩ (.string (bs p.1))).setCell ⟨g, t * 3 + 1, none⟩ (.string (bs p.2.data))).setCell ⟨g, t * 3 + 2, none⟩ (.int .i64 (p.2.safe : Int))) r v { s with fs := Dk.putL p.1 p.2 s.fs } := by
  subst hw0
  have hT0 : Turn (rfoot r v) w ((boxF w p).drewN N) := (boxF_turn _ w p).drewN N
  have h1 : RefG ((boxF w p).drewN N) r v s := h.kept (S := fun _ => False) ((boxF_turn _ w p).drewN N) (fun _ _ h => h)
  have hg : v.ownBlock = some g := by rw [hv]; rfl
  have hrg : r ≠ g := h.r_row hg
  have ts : ∀ (W : World) (j : Nat) (u : Value), Turn (rfoot r v) W (W.setCell ⟨g, j, none⟩ u) := fun W j u => Turn.setCell W ⟨g, j, none⟩ u (Or.inr hg)
  refine ⟨v, ⟨?_, ?_⟩, ((hT0.trans (ts _ _ _)).trans (ts _ _ _)).trans (ts _ _ _), fun i hi => Or.inl hi⟩
  · show (World.heap _)[r]? = some (.cells #[v, .int .i64 (leftI s), .bool s.down] 56 (0, 0))
    rw [Below.heap_setCell _ _ _ _ hrg, Below.heap_setCell _ _ _ _ hrg, Below.heap_setCell _ _ _ _ hrg]
    exact h1.top
  · show World.ownsRow _ 0 61 3 v (Dk.putL p.1 p.2 s.fs).length (rcells (Dk.putL p.1 p.2 s.fs))
    have e : Dk.putL p.1 p.2 s.fs = s.fs.set t p := put_old p.2 hI.rise ht hk
    rw [e, List.length_set, rcells_set _ _ ht, hv]
    have hr := h1.row
    rw [hv] at hr
    exact ownsRow_setCell (ownsRow_setCell (ownsRow_setCell hr _ _) _ _) _ _

set_option maxRecDepth 100000 in
set_option maxHeartbeats 2000000 in
theorem rput_old (p : List UInt8 × Dk.Fil) (w : World) (h : RefG w r v s) (hI : Inv s) {t : Nat} (ht : t < s.fs.length) (hb : ∀ i, (h : i < s.fs.length) → i < t → bytesBefore (s.fs[i]).1 p.1 = true) (hk : (s.fs[t]).1 = p.1) :
    Calls Try.prog 44 #[.pointer (some ⟨r, 0, none⟩), .agg #[.string (bs p.1), .string (bs p.2.data), .int .i64 (p.2.safe : Int)]] w fun e w' => e = .returned (.tuple #[]) ∧ RGoes w w' r v { s with fs := Dk.putL p.1 p.2 s.fs } := by
  have H : Hid (RefG w r v s) := h
  have hfew := hI.few
  have HI : Hid (Inv s) := hI
  obtain ⟨a, c, hv, hnc, hcm, hpos⟩ := row3 h.row
  obtain ⟨g, rfl⟩ := hpos (by omega)
  unfold maxLen at hcm
  have HB : Hid (∀ i, (h : i < s.fs.length) → i < t → bytesBefore (s.fs[i]).1 p.1 = true) := hb
  have HK : Hid ((s.fs[t]).1 = p.1) := hk
  have hbox : RefG (boxF w p) r v s := h.kept (S := fun _ => False) (boxF_turn _ w p) (fun _ _ h => h)
  rw [hv] at hbox
  have HBox : Hid (RefG (boxF w p) r (.slice (some ⟨g, 0, none⟩) s.fs.length c) s) := hbox
  obtain ⟨b0, b1, b2⟩ := boxF_cells w p
  obtain ⟨k0, hk0⟩ : ∃ k0, bs p.1 = k0 := ⟨_, rfl⟩
  obtain ⟨k1, hk1⟩ : ∃ k1, bs p.2.data = k1 := ⟨_, rfl⟩
  have HK0 : Hid (bs p.1 = k0) := hk0
  have HK1 : Hid (bs p.2.data = k1) := hk1
  obtain ⟨w0, hw0⟩ : ∃ w0, boxF w p = w0 := ⟨_, rfl⟩
  have HW0 : Hid (boxF w p = w0) := hw0
  have c0 := hbox.cells.1
  rw [hw0] at c0 b0 b1 b2 HBox
  rw [hk0] at b0
  rw [hk1] at b1
  have hwe : w.alloc (.cells #[.string k0, .string k1, .int .i64 (p.2.safe : Int)] 61 (0, 0)) = w0 := by rw [← hw0, ← hk0, ← hk1]; rfl
  rw [hk0, hk1]
  have HV : Hid (v = .slice (some ⟨g, 0, none⟩) s.fs.length c) := hv
  have hfg : ∀ i, w0.frozen? ⟨g, i, none⟩ = false := by
    intro i
    rcases HBox.out.row.2 with ⟨e, _⟩ | ⟨g', cap', cur, e, _, hg, _⟩
    · cases e
    · cases e; exact frozen_of hg i
  have HFG : Hid (∀ i, w0.frozen? ⟨g, i, none⟩ = false) := hfg
  clear h hI hpos hb hk hbox hk0 hk1 hw0 hv hfg
  go_enter Try.func44, Try.ntmps44
  go_wp2
  go_loopw [4] (fun i wr => ∃ j : Nat, j ≤ t ∧ i = .int .i64 j ∧ ∃ n, wr = w0.drewN n) (fun i _ => t - (intOf i).toNat)
  case atStart => exact ⟨0, Nat.zero_le _, rfl, 0, rfl⟩
  case round =>
    obtain ⟨j, hj, rfl, nn, rfl⟩ := hrel
    have hlt : j < s.fs.length := by omega
    have hlI : (j : Int) < (s.fs.length : Int) := by omega
    obtain ⟨q0, q1, q2⟩ := row_file HBox.out.row hlt
    by_cases hjt : j = t
    · subst hjt
      have hless : Op.bytesLess (bs (s.fs[j]).1).toList k0.toList = false := by
        rw [bb_less, bs_data, ← HK0.out, bs_data, HK.out, WideAt.bytes_irrefl]
      have heq : ((bs (s.fs[j]).1).toList == k0.toList) = true := by
        rw [bb_eq, bs_data, ← HK0.out, bs_data]; exact decide_eq_true HK.out
      obtain ⟨kj, hkj⟩ : ∃ kj, bs (s.fs[j]).1 = kj := ⟨_, rfl⟩
      rw [hkj] at q0 hless heq
      have f0 := HFG.out (j * 3)
      have f1 := HFG.out (j * 3 + 1)
      have f2 := HFG.out (j * 3 + 2)
      clear hkj
      go_wp2
      go_quiet (fail)
      go_wp2
      go_quiet (fail)
      go_wp2
      go_region
      all_goals go_wp2
      all_goals refine bodyPost_ret (results_none rfl _ _ _) rfl ?_
      all_goals refine ⟨rfl, ?_⟩
      all_goals (rw [← HK0.out, ← HK1.out]; exact rput_old_end p H.out HI.out HV.out HW0.out hlt HK.out _)
    · have hless : Op.bytesLess (bs (s.fs[j]).1).toList k0.toList = true := by
        rw [bb_less, bs_data, ← HK0.out, bs_data]; exact HB.out j hlt (by omega)
      obtain ⟨kj, hkj⟩ : ∃ kj, bs (s.fs[j]).1 = kj := ⟨_, rfl⟩
      rw [hkj] at q0 hless
      clear hkj
      go_wp2
      go_quiet (fail)
      go_wp2
      go_roundw
      case rel => exact ⟨j + 1, by omega, by go_num, _, rfl⟩
      case measure => simp [intOf]; omega

end
end Go.Proofs.Ytbiombolpfhdlaa
