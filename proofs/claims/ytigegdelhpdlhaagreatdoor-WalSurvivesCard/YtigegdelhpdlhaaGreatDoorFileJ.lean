import Derived.Test.YtigegdelhpdlhaaGreatDoorSmallJ
import Derived.BigRegion
/- One file: tail, tear. -/
namespace Go.Proofs.YtigegdelhpdlhaaGreatDoor
open Go.RowKit Go.Maps

theorem FileAt.cells {w : World} {g : Gc} (h : FileAt w g) : w.cell? ⟨g.blk, 0, none⟩ = some g.val ∧ w.cell? ⟨g.blk, 1, none⟩ = some (.int .i64 (g.fil.safe : Int)) :=
  ⟨by rw [cell_ofD h.cell]; rfl, by rw [cell_ofD h.cell]; rfl⟩

/-- the slice's shape -/
theorem FileAt.shape {w : World} {g : Gc} (h : FileAt w g) : ∃ a c, g.val = .slice a g.fil.data.length c ∧ (a = none → g.fil.data.length = 0 ∧ c = 0) ∧ g.fil.data.length ≤ c ∧ c ≤ maxLen := by
  rcases h.row.2 with ⟨e, hn⟩ | ⟨b, cap, cur, e, _, _, h1, h2, _⟩
  · exact ⟨none, 0, by rw [e, hn], fun _ => ⟨hn, rfl⟩, by omega, Nat.zero_le _⟩
  · exact ⟨_, _, e, (fun h => by cases h), h1, h2⟩

set_option maxHeartbeats 400000 in
theorem tail_any (g : Gc) (w : World) (h : FileAt w g) :
    Calls Tryz.prog 43 #[.pointer (some ⟨g.blk, 0, none⟩)] w fun e w' => e = .returned (.int .i64 ((g.fil.data.length - g.fil.safe : Nat) : Int)) ∧ ∃ n, w' = w.drewN n := by
  obtain ⟨c0, c1⟩ := h.cells
  obtain ⟨a, c, hv, -, -, -⟩ := h.shape
  rw [hv] at c0
  have hs := h.safe
  have hl := h.len
  have HV : Hid (g.val = .slice a g.fil.data.length c) := hv
  clear h hv
  generalize g.fil.data.length = n at *
  generalize g.fil.safe = f at *
  have e1 : ((n - f : Nat) : Int) = (n : Int) - f := by omega
  rw [e1]
  clear e1
  go_enter Tryz.func43, Tryz.ntmps43
  go_wp2
  go_quiet (fail)
  go_wp2
  go_ret
  exact ⟨rfl, _, rfl⟩

theorem clone_at (a : Addr) (n c : Nat) (xs : List Int) (w : World) (hx : xs.length = n) (hbig : n ≤ 140737488355328) (hc : ∀ i, i < n → w.cell? (a.add i) = some (.int .u8 (xs.getD i 0))) :
    Calls Tryz.prog 73 #[.slice (some a) n c] w fun e w' => ∃ v', e = .returned v' ∧ w'.ownsRow w.heap.size 5 1 v' n (xs.map (Value.int .u8)) ∧ v' ≠ .slice none 0 0 ∧ Below w.heap.size w w' :=
  Any.bytes_Clone_at Tryz.clone73 a n c xs w hx hbig hc
theorem clone_nil (n c : Nat) (w : World) : Calls Tryz.prog 73 #[.slice none n c] w fun e w' => e = .returned (.slice none 0 0) ∧ w' = w :=
  Any.bytes_Clone_nil Tryz.clone73 n c w

theorem row_shape {w : World} {base : Nat} {e : TypeId} {v : Value} {n : Nat} {xs : List Value} (h : w.ownsRow base e 1 v n xs) : ∃ a c, v = .slice a n c := by
  rcases h.2 with ⟨e, hn⟩ | ⟨b, cap, cur, e, _⟩
  · exact ⟨none, 0, by rw [e, hn]⟩
  · exact ⟨_, _, e⟩

theorem FileAt.copy {w : World} {g : Gc} (h : FileAt w g) {a : Addr} {c : Nat} (hv : g.val = .slice (some a) g.fil.data.length c) (W : World) (hW : ∃ n, W = w.drewN n) (k : Nat) (hk : k ≤ g.fil.data.length) :
    Calls Tryz.prog 73 #[.slice (some a) k c] W fun e w' => ∃ a' c', e = .returned (.slice a' k c') ∧ w'.ownsRow w.heap.size 5 1 (.slice a' k c') k (bcellsD (g.fil.data.take k)) ∧ Below w.heap.size w w' := by
  have hl := h.len
  obtain ⟨nd, rfl⟩ := hW
  refine (clone_at a k c ((g.fil.data.take k).map fun b => (b.toNat : Int)) _ (by simp; omega) (by omega) ?_).mono ?_
  · intro i hi
    have e : (w.drewN nd).cell? (a.add i) = w.cell? (a.add i) := rfl
    have hr := h.row
    rw [hv] at hr
    rcases hr.2 with ⟨e', _⟩ | ⟨b, cap, cur, e', _⟩
    · cases e'
    · cases e'
      have hi' : i < g.fil.data.length := by omega
      rw [e, hr.cells (g := b) rfl i (.int .u8 (g.fil.data[i].toNat : Int)) (by simp [bcellsD, hi'])]
      simp [List.getD, hi, hi']
  · rintro e w' ⟨v', rfl, hrow, -, hb⟩
    obtain ⟨a', c', rfl⟩ := row_shape hrow
    refine ⟨a', c', rfl, ?_, ⟨hb.os, hb.tape, hb.output, hb.size, hb.block⟩⟩
    simpa [bcellsD, List.map_map, Function.comp_def] using hrow

theorem cut_run (a : Addr) (n c k : Nat) (h : k ≤ c) (W : World) :
    (Instr.slice 54 (.slice (some a) n c) none (some (.int .i64 (k : Int))) none).run Tryz.prog W = .ok (.slice (some a) k c) W := by
  have hz : ∀ W, (sizeOf 5).run Tryz.prog W = .ok 1 W := fun W => by kernel_rfl
  have h1 : (k : Int) ≤ (c : Int) := by omega
  have ha : a.add 0 = a := by simp [Addr.add]
  simp [Instr.slice, run_underlying Tryz.underlying54, Instr.sliceBounds, run_sliceBound, h1, hz, Result.andThen, ha]

theorem tear_end {w w' : World} {g : Gc} (draw : Int) (h : FileAt w g) {k : Nat} (hk : g.fil.safe + Dk.keep g.fil draw = k) {v' : Value} (hrow : w'.ownsRow w.heap.size 5 1 v' k (bcellsD (g.fil.data.take k))) (hb : Below w.heap.size w w') :
    ∃ u, FileAt ((w'.setCell ⟨g.blk, 0, none⟩ v').setCell ⟨g.blk, 1, none⟩ (.int .i64 (k : Int))) ⟨g.blk, u, Dk.tearF g.fil draw⟩ ∧
      TurnD (fun i => i = g.blk) w ((w'.setCell ⟨g.blk, 0, none⟩ v').setCell ⟨g.blk, 1, none⟩ (.int .i64 (k : Int))) ∧ ∀ b, u.ownBlock = some b → w.heap.size ≤ b := by
  have hlt : g.blk < w.heap.size := lt_ofD h.cell
  have hle := Dk.keep_le g.fil draw h.safe
  have hown : ∀ b, v'.ownBlock = some b → w.heap.size ≤ b := fun b hb' => (ownsRow_ownD hrow hb').choose_spec.2
  have hd : (Dk.tearF g.fil draw).data = g.fil.data.take k := by unfold Dk.tearF; rw [hk]
  have hs : (Dk.tearF g.fil draw).safe = k := hk
  have hkl : k ≤ g.fil.data.length := by omega
  have hlen : (g.fil.data.take k).length = k := by simp; omega
  have hl := h.len
  refine ⟨v', ⟨?_, ?_, ?_, ?_⟩, ?_, hown⟩
  · show (World.heap _)[g.blk]? = some (.cells #[v', .int .i64 ((Dk.tearF g.fil draw).safe : Int)] 89 (0, 0))
    rw [heap_setCell_sameD (heap_setCell_sameD ((hb.block _ hlt).trans h.cell) 0 v') 1, hs]
    simp
  · show World.ownsRow _ 0 5 1 v' (Dk.tearF g.fil draw).data.length (bcellsD (Dk.tearF g.fil draw).data)
    rw [hd, hlen]
    refine ownsRow_blockD (ownsRow_zeroD hrow) (fun b hb' => ?_)
    have := hown b hb'
    rw [Below.heap_setCell _ _ _ _ (by show b ≠ g.blk; omega), Below.heap_setCell _ _ _ _ (by show b ≠ g.blk; omega)]
  · show (Dk.tearF g.fil draw).safe ≤ (Dk.tearF g.fil draw).data.length
    rw [hd, hs, hlen]
    exact Nat.le_refl _
  · show (Dk.tearF g.fil draw).data.length ≤ 262144
    rw [hd, hlen]
    omega
  · exact ((TurnD.ofBelow _ hb).trans (TurnD.setCell (S := fun i => i = g.blk) w' ⟨g.blk, 0, none⟩ v' rfl)).trans (TurnD.setCell (S := fun i => i = g.blk) _ ⟨g.blk, 1, none⟩ _ rfl)

theorem nil_run (W : World) :
    (Instr.slice 54 (.slice none 0 0) none (some (.int .i64 0)) none).run Tryz.prog W = .ok (.slice none 0 0) W := by
  have hz : ∀ W, (sizeOf 5).run Tryz.prog W = .ok 1 W := fun W => by kernel_rfl
  simp [Instr.slice, run_underlying Tryz.underlying54, Instr.sliceBounds, run_sliceBound, hz, Result.andThen]

theorem below_drewND (w : World) (n : Nat) : Below w.heap.size w (w.drewN n) := ⟨rfl, rfl, rfl, Nat.le_refl _, fun _ _ => rfl⟩

set_option maxHeartbeats 1000000 in
theorem tear_neg (g : Gc) (draw : Int) (w : World) (h : FileAt w g) (hd : draw ≤ 0) :
    Calls Tryz.prog 44 #[.pointer (some ⟨g.blk, 0, none⟩), .int .i64 draw] w fun e w' => e = .returned (.tuple #[]) ∧ ∃ u, FileAt w' ⟨g.blk, u, Dk.tearF g.fil draw⟩ ∧ TurnD (fun i => i = g.blk) w w' ∧ ∀ b, u.ownBlock = some b → w.heap.size ≤ b := by
  obtain ⟨c0, c1⟩ := h.cells
  obtain ⟨a, c, hv, hnil, hcap, hmax⟩ := h.shape
  unfold maxLen at hmax
  rw [hv] at c0
  have hs := h.safe
  have hl := h.len
  have f0 := frozen_ofD h.cell 0
  have f1 := frozen_ofD h.cell 1
  have H : Hid (FileAt w g) := h
  have HV : Hid (g.val = .slice a g.fil.data.length c) := hv
  have hlt : g.blk < w.heap.size := lt_ofD h.cell
  have HK : Hid (g.fil.safe + Dk.keep g.fil draw = g.fil.safe) := by show _ = _; unfold Dk.keep; rw [if_neg (by omega)]; rfl
  clear h hv
  cases a with
  | none =>
    obtain ⟨z1, rfl⟩ := hnil rfl
    have z2 : g.fil.safe = 0 := by omega
    have HZ : Hid (g.fil.data.length = 0) := z1
    have HZ2 : Hid (g.fil.safe = 0) := z2
    rw [z1] at c0
    rw [z2] at c1
    clear hs hl hnil hcap hmax z1 z2
    have hsl := nil_run
    go_enter Tryz.func44, Tryz.ntmps44
    go_wp2
    go_region_with (go_at_call 73; refine (clone_nil _ _ _).mono ?_; rintro e w' ⟨rfl, rfl⟩)
    all_goals go_wp2
    all_goals go_end0
    all_goals refine ⟨rfl, ?_⟩
    all_goals exact tear_end (w' := w.drew) (k := 0) (v' := .slice none 0 0) draw H.out (HK.out.trans HZ2.out) (World.ownsRow_nil _ _ _ _) (below_drewND w 1)
  | some a =>
    clear hnil
    have hsc : (g.fil.safe : Int) ≤ (c : Int) := by omega
    have hsI : (g.fil.safe : Int) ≤ 262144 := by omega
    have hw : IntKind.i64.wrap (g.fil.safe : Int) = (g.fil.safe : Int) := wrap_small _ (by omega) (by omega)
    have hsl : ∀ W, (Instr.slice 54 (.slice (some a) g.fil.data.length c) none (some (.int .i64 (g.fil.safe : Int))) none).run Tryz.prog W = .ok (.slice (some a) g.fil.safe c) W := fun W => cut_run a _ _ _ (by omega) W
    have HC : Hid (∀ (W : World), (∃ n, W = w.drewN n) → Calls Tryz.prog 73 #[.slice (some a) g.fil.safe c] W fun e w' => ∃ a' c', e = .returned (.slice a' g.fil.safe c') ∧ w'.ownsRow w.heap.size 5 1 (.slice a' g.fil.safe c') g.fil.safe (bcellsD (g.fil.data.take g.fil.safe)) ∧ Below w.heap.size w w') := fun W hW => H.out.copy HV.out W hW _ hs
    go_enter Tryz.func44, Tryz.ntmps44
    go_wp2
    go_region_with (go_at_call 73; refine (HC.out _ ?_).mono ?_; exact ⟨1, rfl⟩; rintro e w' ⟨a', c', rfl, hrow, hb⟩; have q0 := hb.cell (p := ⟨g.blk, 0, none⟩) hlt; have q1 := hb.frozen (p := ⟨g.blk, 0, none⟩) hlt; have q2 := hb.cell (p := ⟨g.blk, 1, none⟩) hlt; have q3 := hb.frozen (p := ⟨g.blk, 1, none⟩) hlt)
    all_goals go_wp2
    all_goals go_end0
    all_goals exact ⟨rfl, tear_end draw H.out HK.out hrow hb⟩

end Go.Proofs.YtigegdelhpdlhaaGreatDoor

/- One file: tear, at every draw. -/
namespace Go.Proofs.YtigegdelhpdlhaaGreatDoor
open Go.RowKit Go.Maps

set_option maxHeartbeats 1000000 in
theorem tear_pos (g : Gc) (draw : Int) (w : World) (h : FileAt w g) (hd : 0 < draw) (hd2 : draw ≤ 9223372036854775807) :
    Calls Tryz.prog 44 #[.pointer (some ⟨g.blk, 0, none⟩), .int .i64 draw] w fun e w' => e = .returned (.tuple #[]) ∧ ∃ u, FileAt w' ⟨g.blk, u, Dk.tearF g.fil draw⟩ ∧ TurnD (fun i => i = g.blk) w w' ∧ ∀ b, u.ownBlock = some b → w.heap.size ≤ b := by
  obtain ⟨c0, c1⟩ := h.cells
  obtain ⟨a, c, hv, hnil, hcap, hmax⟩ := h.shape
  unfold maxLen at hmax
  rw [hv] at c0
  have hs := h.safe
  have hl := h.len
  have f0 := frozen_ofD h.cell 0
  have f1 := frozen_ofD h.cell 1
  have H : Hid (FileAt w g) := h
  have HV : Hid (g.val = .slice a g.fil.data.length c) := hv
  have hlt : g.blk < w.heap.size := lt_ofD h.cell
  obtain ⟨kp, hkp⟩ : ∃ kp : Nat, Dk.keep g.fil draw = kp := ⟨_, rfl⟩
  have hle := Dk.keep_le g.fil draw hs
  rw [hkp] at hle
  have hm : draw % (((g.fil.data.length - g.fil.safe : Nat) : Int) + 1) = (kp : Int) := by
    have h2 := Int.emod_nonneg draw (show (((g.fil.data.length - g.fil.safe : Nat) : Int) + 1) ≠ 0 by omega)
    rw [← hkp]; unfold Dk.keep; rw [if_pos hd]; omega
  have HK : Hid (g.fil.safe + Dk.keep g.fil draw = g.fil.safe + kp) := by show _ = _; rw [hkp]
  clear h hv hkp
  have HT : Hid (∀ W, (∃ n, W = w.drewN n) → Calls Tryz.prog 43 #[.pointer (some ⟨g.blk, 0, none⟩)] W fun e w' => e = .returned (.int .i64 ((g.fil.data.length - g.fil.safe : Nat) : Int)) ∧ ∃ n, w' = W.drewN n) := by
    rintro W ⟨n, rfl⟩
    exact tail_any g _ (H.out.kept rfl (fun _ _ => rfl))
  cases a with
  | none =>
    obtain ⟨z1, rfl⟩ := hnil rfl
    have z2 : g.fil.safe = 0 := by omega
    have z3 : kp = 0 := by omega
    subst z3
    have HZ : Hid (g.fil.data.length = 0) := z1
    have HZ2 : Hid (g.fil.safe = 0) := z2
    rw [z1, z2] at hm
    rw [z1] at c0
    rw [z2] at c1
    have hT2 : Hid (∀ W, (∃ n, W = w.drewN n) → Calls Tryz.prog 43 #[.pointer (some ⟨g.blk, 0, none⟩)] W fun e w' => e = .returned (.int .i64 0) ∧ ∃ n, w' = W.drewN n) := by
      intro W hW
      have := HT.out W hW
      rw [z1, z2] at this
      exact this
    clear hs hl hnil hcap hmax z1 z2 hle HT
    have hsl := nil_run
    go_enter Tryz.func44, Tryz.ntmps44
    go_wp2_with (go_at_call 43; refine (hT2.out _ ?_).mono ?_; exact ⟨0, rfl⟩; rintro e w' ⟨rfl, nd, rfl⟩)
    go_region_with (go_at_call 73; refine (clone_nil _ _ _).mono ?_; rintro e w' ⟨rfl, rfl⟩)
    all_goals go_wp2
    all_goals go_end0
    all_goals refine ⟨rfl, ?_⟩
    all_goals exact tear_end (w' := w.drewN (nd + 1)) (k := 0) (v' := .slice none 0 0) draw H.out (HK.out.trans HZ2.out) (World.ownsRow_nil _ _ _ _) (below_drewND w (nd + 1))
  | some a =>
    clear hnil
    have hsc : (g.fil.safe : Int) + (kp : Int) ≤ (c : Int) := by omega
    have hsI : (g.fil.safe : Int) + (kp : Int) ≤ 262144 := by omega
    have hw : IntKind.i64.wrap ((g.fil.safe : Int) + (kp : Int)) = (g.fil.safe : Int) + (kp : Int) := wrap_small _ (by omega) (by omega)
    have hsl : ∀ W, (Instr.slice 54 (.slice (some a) g.fil.data.length c) none (some (.int .i64 ((g.fil.safe : Int) + (kp : Int)))) none).run Tryz.prog W = .ok (.slice (some a) (g.fil.safe + kp) c) W := fun W => by
      rw [show (g.fil.safe : Int) + (kp : Int) = ((g.fil.safe + kp : Nat) : Int) from by omega]
      exact cut_run a _ _ _ (by omega) W
    have HC : Hid (∀ (W : World), (∃ n, W = w.drewN n) → Calls Tryz.prog 73 #[.slice (some a) (g.fil.safe + kp) c] W fun e w' => ∃ a' c', e = .returned (.slice a' (g.fil.safe + kp) c') ∧ w'.ownsRow w.heap.size 5 1 (.slice a' (g.fil.safe + kp) c') (g.fil.safe + kp) (bcellsD (g.fil.data.take (g.fil.safe + kp))) ∧ Below w.heap.size w w') := fun W hW => H.out.copy HV.out W hW _ hle
    go_enter Tryz.func44, Tryz.ntmps44
    go_wp2_with (go_at_call 43; refine (HT.out _ ?_).mono ?_; exact ⟨0, rfl⟩; rintro e w' ⟨rfl, nd, rfl⟩)
    go_region_with (go_at_call 73; refine (HC.out _ ?_).mono ?_; exact ⟨nd + 1, rfl⟩; rintro e w' ⟨a', c', rfl, hrow, hb⟩; have q0 := hb.cell (p := ⟨g.blk, 0, none⟩) hlt; have q1 := hb.frozen (p := ⟨g.blk, 0, none⟩) hlt; have q2 := hb.cell (p := ⟨g.blk, 1, none⟩) hlt; have q3 := hb.frozen (p := ⟨g.blk, 1, none⟩) hlt)
    all_goals go_wp2
    all_goals go_end0
    all_goals refine ⟨rfl, ?_⟩
    all_goals exact tear_end draw H.out HK.out hrow hb

theorem tear_any (g : Gc) (draw : Int) (w : World) (h : FileAt w g) (hd2 : draw ≤ 9223372036854775807) :
    Calls Tryz.prog 44 #[.pointer (some ⟨g.blk, 0, none⟩), .int .i64 draw] w fun e w' => e = .returned (.tuple #[]) ∧ ∃ u, FileAt w' ⟨g.blk, u, Dk.tearF g.fil draw⟩ ∧ TurnD (fun i => i = g.blk) w w' ∧ ∀ b, u.ownBlock = some b → w.heap.size ≤ b := by
  by_cases hd : 0 < draw
  · exact tear_pos g draw w h hd hd2
  · exact tear_neg g draw w h (by omega)

end Go.Proofs.YtigegdelhpdlhaaGreatDoor

/- A disk one of whose files is turned: what becomes of the whole. -/
namespace Go.Proofs.YtigegdelhpdlhaaGreatDoor
open Go.RowKit Go.Maps

section
variable {w w' : World} {d m : Nat} {G : List (List UInt8 × Gc)} {s : Dk.Dsk}

theorem DiskG.rise (h : DiskG Tryz.prog w d m G s) : Dk.Rise G := Dk.rise_of_canon tok (h.map.canon keyed)

theorem DiskG.riseF (h : DiskG Tryz.prog w d m G s) : Dk.Rise s.fs := by
  have := h.rise
  rw [h.fs]
  unfold Dk.Rise Dk.mapL at *
  exact List.pairwise_map.2 this

theorem DiskG.d_file (h : DiskG Tryz.prog w d m G s) {g : Gc} (hf : FileAt w g) : d ≠ g.blk := by
  intro e
  have := hf.cell
  rw [← e, h.top] at this
  simp at this
theorem DiskG.d_row (h : DiskG Tryz.prog w d m G s) {g : Gc} (hf : FileAt w g) {i : Nat} (hi : g.val.ownBlock = some i) : d ≠ i := by
  intro e
  obtain ⟨cur, hc, _⟩ := ownsRow_ownD hf.row hi
  rw [← e, h.top] at hc
  simp at hc
theorem DiskG.m_file (h : DiskG Tryz.prog w d m G s) {g : Gc} (hf : FileAt w g) : m ≠ g.blk := by
  intro e
  obtain ⟨es, clock, hb, _⟩ := h.map
  have := hf.cell
  rw [← e, hb] at this
  simp at this
theorem DiskG.m_row (h : DiskG Tryz.prog w d m G s) {g : Gc} (hf : FileAt w g) {i : Nat} (hi : g.val.ownBlock = some i) : m ≠ i := by
  intro e
  obtain ⟨cur, hc, _⟩ := ownsRow_ownD hf.row hi
  obtain ⟨es, clock, hb, _⟩ := h.map
  rw [← e, hb] at hc
  simp at hc
theorem DiskG.m_d (h : DiskG Tryz.prog w d m G s) : m ≠ d := by
  intro e
  obtain ⟨es, clock, hb, _⟩ := h.map
  rw [e, h.top] at hb
  simp at hb
theorem file_row {g g' : Gc} (hf : FileAt w g) (hf' : FileAt w g') {i : Nat} (hi : g'.val.ownBlock = some i) : g.blk ≠ i := by
  intro e
  obtain ⟨cur, hc, _⟩ := ownsRow_ownD hf'.row hi
  have := hf.cell
  rw [e, hc] at this
  simp at this

def fileS (g : Gc) (i : Nat) : Prop := i = g.blk ∨ g.val.ownBlock = some i

theorem DiskG.apart_of (h : DiskG Tryz.prog w d m G s) {p q : List UInt8 × Gc} (hp : p ∈ G) (hq : q ∈ G) (hne : p.1 ≠ q.1) : Apart p.2 q.2 := by
  have hs : ∀ {a b : Gc}, Apart a b → Apart b a := fun h => ⟨fun e => h.1 e.symm, fun i h1 h2 => h.2 i h2 h1⟩
  have H : ∀ (l : List (List UInt8 × Gc)), l.Pairwise (fun a b => Apart a.2 b.2) → ∀ p ∈ l, ∀ q ∈ l, p.1 ≠ q.1 → Apart p.2 q.2 := by
    intro l
    induction l with
    | nil => intro _ p hp; cases hp
    | cons y r ih =>
      intro hl p hp q hq hne
      obtain ⟨h1, h2⟩ := List.pairwise_cons.1 hl
      rcases List.mem_cons.1 hp with rfl | hp'
      · rcases List.mem_cons.1 hq with rfl | hq'
        · exact absurd rfl hne
        · exact h1 q hq'
      · rcases List.mem_cons.1 hq with rfl | hq'
        · exact hs (h1 p hp')
        · exact ih h2 p hp' q hq' hne
  exact H G h.apart p hp q hq hne

/-- Another file's blocks are none of this one's. -/
theorem DiskG.others (h : DiskG Tryz.prog w d m G s) {k : List UInt8} {g : Gc} (hg : Dk.getL k G = some g) {p : List UInt8 × Gc} (hp : p ∈ G) (hne : p.1 ≠ k) :
    ¬ fileS g p.2.blk ∧ ∀ i, p.2.val.ownBlock = some i → ¬ fileS g i := by
  have hm := Dk.getL_mem hg
  have ha := h.apart_of hp hm hne
  have hf := h.files p hp
  have hf' := h.files _ hm
  refine ⟨fun e => ?_, fun i hi e => ?_⟩
  · rcases e with e | e
    · exact ha.1 e
    · exact file_row hf hf' e rfl
  · rcases e with e | e
    · exact file_row hf' hf hi e.symm
    · exact ha.2 i hi e

/-- One file is turned, in its place. -/
theorem DiskG.setFile (h : DiskG Tryz.prog w d m G s) {k : List UInt8} {g g' : Gc} (hg : Dk.getL k G = some g) (ht : TurnD (fileS g) w w') (hf : FileAt w' g') (hb : g'.blk = g.blk)
    (hnew : ∀ i, g'.val.ownBlock = some i → g.val.ownBlock = some i ∨ w.heap.size ≤ i) :
    DiskG Tryz.prog w' d m (Dk.putL k g' G) { s with fs := Dk.putL k g'.fil s.fs } ∧ ∀ i, foot d m (Dk.putL k g' G) i → foot d m G i ∨ w.heap.size ≤ i := by
  have hm := Dk.getL_mem hg
  have hfg := h.files _ hm
  have hR := h.rise
  have hset := Dk.putL_set g' hR hg
  have hlt : ∀ p ∈ G, p.2.blk < w.heap.size ∧ ∀ i, p.2.val.ownBlock = some i → i < w.heap.size := fun p hp =>
    ⟨lt_ofD (h.files p hp).cell, fun i hi => by obtain ⟨cur, hc, _⟩ := ownsRow_ownD (h.files p hp).row hi; exact lt_ofD hc⟩
  have hmem : ∀ p, p ∈ Dk.putL k g' G → p = (k, g') ∨ (p ∈ G ∧ p.1 ≠ k) := by
    intro p hp
    unfold Dk.putL at hp
    rcases Dk.mem_insL.1 hp with e | e
    · exact Or.inl e
    · exact Or.inr (Dk.mem_delL.1 e)
  refine ⟨⟨?_, ?_, ?_, ?_, ?_, ?_, h.left, ?_⟩, ?_⟩
  · have := ht.block d (lt_ofD h.top) (fun e => by rcases e with e | e; exact h.d_file hfg e; exact h.d_row hfg e rfl)
    exact this.trans h.top
  · have e1 : Dk.toD tok (Dk.putL k g' G) = Dk.toD tok G := by
      rw [hset]; exact Dk.toD_setL tok hR hg (by unfold tok; rw [hb])
    have e2 : (Dk.putL k g' G).length = G.length := by rw [hset]; unfold Dk.setL; simp
    rw [e1, e2]
    exact ownsMap_block h.map (ht.block m h.map.lt (fun e => by rcases e with e | e; exact h.m_file hfg e; exact h.m_row hfg e rfl))
  · intro p hp
    rcases hmem p hp with rfl | ⟨hp', hne⟩
    · exact hf
    · obtain ⟨o1, o2⟩ := h.others hg hp' hne
      exact (h.files p hp').kept (ht.block _ (hlt p hp').1 o1) (fun i hi => ht.block i ((hlt p hp').2 i hi) (o2 i hi))
  · rw [hset]
    unfold Dk.setL
    refine List.pairwise_map.2 ?_
    refine (List.Pairwise.and h.apart (Dk.rise_ne hR)).imp_of_mem ?_
    rintro p q hp hq ⟨ha, hne⟩
    by_cases e1 : p.1 = k
    · have e2 : q.1 ≠ k := fun e => hne (e1.trans e.symm)
      have hq2 : p.2 = g := Dk.getL_unique hR hg (by rw [← e1]; exact hp)
      simp only [e1, beq_self_eq_true, if_true, beq_eq_false_iff_ne.2 e2, Bool.false_eq_true, if_false]
      rw [hq2] at ha
      refine ⟨by show g'.blk ≠ q.2.blk; rw [hb]; exact ha.1, fun i hi hi' => ?_⟩
      rcases hnew i hi with h1 | h1
      · exact ha.2 i h1 hi'
      · have := (hlt q hq).2 i hi'; omega
    · simp only [beq_eq_false_iff_ne.2 e1, Bool.false_eq_true, if_false]
      by_cases e2 : q.1 = k
      · have hq2 : q.2 = g := Dk.getL_unique hR hg (by rw [← e2]; exact hq)
        simp only [e2, beq_self_eq_true, if_true]
        rw [hq2] at ha
        refine ⟨by show p.2.blk ≠ g'.blk; rw [hb]; exact ha.1, fun i hi hi' => ?_⟩
        rcases hnew i hi' with h1 | h1
        · exact ha.2 i hi h1
        · have := (hlt p hp).2 i hi; omega
      · simp only [beq_eq_false_iff_ne.2 e2, Bool.false_eq_true, if_false]
        exact ha
  · show Dk.putL k g'.fil s.fs = _
    rw [Dk.mapL_putL, h.fs]
  · intro p hp
    rcases hmem p hp with rfl | ⟨hp', _⟩
    · exact h.names (k, g) hm
    · exact h.names p hp'
  · rw [hset]; unfold Dk.setL; simpa using h.few
  · rintro i (rfl | rfl | ⟨p, hp, hi⟩)
    · exact Or.inl (Or.inl rfl)
    · exact Or.inl (Or.inr (Or.inl rfl))
    · rcases hmem p hp with rfl | ⟨hp', _⟩
      · rcases hi with hi | hi
        · exact Or.inl (Or.inr (Or.inr ⟨_, hm, Or.inl (hi.trans hb)⟩))
        · rcases hnew i hi with h1 | h1
          · exact Or.inl (Or.inr (Or.inr ⟨_, hm, Or.inr h1⟩))
          · exact Or.inr h1
      · exact Or.inl (Or.inr (Or.inr ⟨p, hp', hi⟩))

theorem DiskG.footFile {k : List UInt8} {g : Gc} (hg : Dk.getL k G = some g) : ∀ i, fileS g i → foot d m G i := by
  intro i hi
  exact Or.inr (Or.inr ⟨_, Dk.getL_mem hg, hi⟩)

end
end Go.Proofs.YtigegdelhpdlhaaGreatDoor
