/- One file: tear, at every draw. -/
import Derived.Test.YtbiombolpfhdlaaFile
namespace Go.Proofs.Ytbiombolpfhdlaa
open Go.RowKit Go.Maps

set_option maxHeartbeats 1000000 in
theorem tear_pos (g : Gc) (draw : Int) (w : World) (h : FileAt w g) (hd : 0 < draw) (hd2 : draw ≤ 9223372036854775807) :
    Calls Try.prog 40 #[.pointer (some ⟨g.blk, 0, none⟩), .int .i64 draw] w fun e w' => e = .returned (.tuple #[]) ∧ ∃ u, FileAt w' ⟨g.blk, u, Dk.tearF g.fil draw⟩ ∧ Turn (fun i => i = g.blk) w w' ∧ ∀ b, u.ownBlock = some b → w.heap.size ≤ b := by
  obtain ⟨c0, c1⟩ := h.cells
  obtain ⟨a, c, hv, hnil, hcap, hmax⟩ := h.shape
  unfold maxLen at hmax
  rw [hv] at c0
  have hs := h.safe
  have hl := h.len
  have f0 := frozen_of h.cell 0
  have f1 := frozen_of h.cell 1
  have H : Hid (FileAt w g) := h
  have HV : Hid (g.val = .slice a g.fil.data.length c) := hv
  have hlt : g.blk < w.heap.size := lt_of h.cell
  obtain ⟨kp, hkp⟩ : ∃ kp : Nat, Dk.keep g.fil draw = kp := ⟨_, rfl⟩
  have hle := Dk.keep_le g.fil draw hs
  rw [hkp] at hle
  have hm : draw % (((g.fil.data.length - g.fil.safe : Nat) : Int) + 1) = (kp : Int) := by
    have h2 := Int.emod_nonneg draw (show (((g.fil.data.length - g.fil.safe : Nat) : Int) + 1) ≠ 0 by omega)
    rw [← hkp]; unfold Dk.keep; rw [if_pos hd]; omega
  have HK : Hid (g.fil.safe + Dk.keep g.fil draw = g.fil.safe + kp) := by show _ = _; rw [hkp]
  clear h hv hkp
  have HT : Hid (∀ W, (∃ n, W = w.drewN n) → Calls Try.prog 39 #[.pointer (some ⟨g.blk, 0, none⟩)] W fun e w' => e = .returned (.int .i64 ((g.fil.data.length - g.fil.safe : Nat) : Int)) ∧ ∃ n, w' = W.drewN n) := by
    rintro W ⟨n, rfl⟩
    exact tail_any g _ (H.out.kept rfl (fun _ _ => rfl))
  cases a with
  | none =>
    obtain ⟨z1, rfl⟩ := hnil rfl
    have z2 : g.fil.safe = 0 := by omega
    have z3 : kp = 0 := by omega
    subst z3
    have HZ : Hid (g.fil.data.length = 0) := z1
    have HZ2 : Hid (g.fil.safe = 0) := z2
    rw [z1, z2] at hm
    rw [z1] at c0
    rw [z2] at c1
    have hT2 : Hid (∀ W, (∃ n, W = w.drewN n) → Calls Try.prog 39 #[.pointer (some ⟨g.blk, 0, none⟩)] W fun e w' => e = .returned (.int .i64 0) ∧ ∃ n, w' = W.drewN n) := by
      intro W hW
      have := HT.out W hW
      rw [z1, z2] at this
      exact this
    clear hs hl hnil hcap hmax z1 z2 hle HT
    have hsl := nil_run
    go_enter Try.func40, Try.ntmps40
    go_wp2_with (go_at_call 39; refine (hT2.out _ ?_).mono ?_; exact ⟨0, rfl⟩; rintro e w' ⟨rfl, nd, rfl⟩)
    go_region_with (go_at_call 51; refine (clone_nil _ _ _).mono ?_; rintro e w' ⟨rfl, rfl⟩)
    all_goals go_wp2
    all_goals go_end0
    all_goals refine ⟨rfl, ?_⟩
    all_goals exact tear_end (w' := w.drewN (nd + 1)) (k := 0) (v' := .slice none 0 0) draw H.out (HK.out.trans HZ2.out) (World.ownsRow_nil _ _ _ _) (below_drewN w (nd + 1))
  | some a =>
    clear hnil
    have hsc : (g.fil.safe : Int) + (kp : Int) ≤ (c : Int) := by omega
    have hsI : (g.fil.safe : Int) + (kp : Int) ≤ 262144 := by omega
    have hw : IntKind.i64.wrap ((g.fil.safe : Int) + (kp : Int)) = (g.fil.safe : Int) + (kp : Int) := wrap_small _ (by omega) (by omega)
    have hsl : ∀ W, (Instr.slice 65 (.slice (some a) g.fil.data.length c) none (some (.int .i64 ((g.fil.safe : Int) + (kp : Int)))) none).run Try.prog W = .ok (.slice (some a) (g.fil.safe + kp) c) W := fun W => by
      rw [show (g.fil.safe : Int) + (kp : Int) = ((g.fil.safe + kp : Nat) : Int) from by omega]
      exact cut_run a _ _ _ (by omega) W
    have HC : Hid (∀ (W : World), (∃ n, W = w.drewN n) → Calls Try.prog 51 #[.slice (some a) (g.fil.safe + kp) c] W fun e w' => ∃ a' c', e = .returned (.slice a' (g.fil.safe + kp) c') ∧ w'.ownsRow w.heap.size 5 1 (.slice a' (g.fil.safe + kp) c') (g.fil.safe + kp) (bcells (g.fil.data.take (g.fil.safe + kp))) ∧ Below w.heap.size w w') := fun W hW => H.out.copy HV.out W hW _ hle
    go_enter Try.func40, Try.ntmps40
    go_wp2_with (go_at_call 39; refine (HT.out _ ?_).mono ?_; exact ⟨0, rfl⟩; rintro e w' ⟨rfl, nd, rfl⟩)
    go_region_with (go_at_call 51; refine (HC.out _ ?_).mono ?_; exact ⟨nd + 1, rfl⟩; rintro e w' ⟨a', c', rfl, hrow, hb⟩; have q0 := hb.cell (p := ⟨g.blk, 0, none⟩) hlt; have q1 := hb.frozen (p := ⟨g.blk, 0, none⟩) hlt; have q2 := hb.cell (p := ⟨g.blk, 1, none⟩) hlt; have q3 := hb.frozen (p := ⟨g.blk, 1, none⟩) hlt)
    all_goals go_wp2
    all_goals go_end0
    all_goals refine ⟨rfl, ?_⟩
    all_goals exact tear_end draw H.out HK.out hrow hb

theorem tear_any (g : Gc) (draw : Int) (w : World) (h : FileAt w g) (hd2 : draw ≤ 9223372036854775807) :
    Calls Try.prog 40 #[.pointer (some ⟨g.blk, 0, none⟩), .int .i64 draw] w fun e w' => e = .returned (.tuple #[]) ∧ ∃ u, FileAt w' ⟨g.blk, u, Dk.tearF g.fil draw⟩ ∧ Turn (fun i => i = g.blk) w w' ∧ ∀ b, u.ownBlock = some b → w.heap.size ≤ b := by
  by_cases hd : 0 < draw
  · exact tear_pos g draw w h hd hd2
  · exact tear_neg g draw w h (by omega)

end Go.Proofs.Ytbiombolpfhdlaa
