/- Layer 22: lists of numbers held against each other. -/
import Derived.Test.YtfaelefeiinbaaaDoorMShareC
import Derived.Deep.DeepMust
namespace Go.Proofs.YtfaelefeiinbaaaDoor
open Go.RowKit MP

set_option maxRecDepth 100000 in
set_option maxHeartbeats 400000 in
theorem sameInts_true (v v' : Value) (L : List Int) (w : World) (h : IntsAt w v L) (h' : IntsAt w v' L) :
    Calls Tryd.prog 24 #[v, v'] w fun e w' => e = .returned (.bool true) ∧ Below w.heap.size w w' := by
  obtain ⟨a, c, rfl, hl, hc, hx⟩ := h
  obtain ⟨a', c', rfl, hl', hc', hx'⟩ := h'
  have HX : Hid (L ≠ [] → ∃ b off, a = some ⟨b, off, none⟩ ∧ b < w.heap.size ∧ ∀ i, (h : i < L.length) → ∀ (j : Nat) (u : Value), ([Value.int .i64 L[i]])[j]? = some u → w.cell? ⟨b, off + i * 1 + j, none⟩ = some u) := hx
  have HX' : Hid (L ≠ [] → ∃ b off, a' = some ⟨b, off, none⟩ ∧ b < w.heap.size ∧ ∀ i, (h : i < L.length) → ∀ (j : Nat) (u : Value), ([Value.int .i64 L[i]])[j]? = some u → w.cell? ⟨b, off + i * 1 + j, none⟩ = some u) := hx'
  unfold maxLen at hc hc'
  clear hx hx'
  go_enter Tryd.func24, Tryd.ntmps24
  go_wp2_with fail
  go_loopw [5] (fun i wr => ∃ j : Nat, j ≤ L.length ∧ i = .int .i64 j ∧ Below w.heap.size w wr) (fun i _ => L.length - (intOf i).toNat)
  case atStart => exact ⟨0, Nat.zero_le _, rfl, Below.refl _ _⟩
  case round =>
    obtain ⟨j, hj, rfl, hb⟩ := hrel
    have HB : Hid (Below w.heap.size w wr) := hb
    clear hb
    by_cases hlt : j < L.length
    · have hlI : (j : Int) < (L.length : Int) := by omega
      have hne : L ≠ [] := by intro e; rw [e] at hlt; simp at hlt
      obtain ⟨b, off, rfl, hbl, hcs⟩ := HX.out hne
      obtain ⟨b', off', rfl, hbl', hcs'⟩ := HX'.out hne
      obtain ⟨x, hxe⟩ : ∃ x, L[j] = x := ⟨_, rfl⟩
      have q := hcs j hlt 0 _ rfl
      have q' := hcs' j hlt 0 _ rfl
      rw [hxe, Nat.mul_one, Nat.add_zero] at q q'
      have p : wr.cell? ⟨b, off + j, none⟩ = some (.int .i64 x) := (HB.out.cell hbl).trans q
      have p' : wr.cell? ⟨b', off' + j, none⟩ = some (.int .i64 x) := (HB.out.cell hbl').trans q'
      clear hcs hcs' q q' hxe hne
      go_wp2_with fail
      go_quiet (fail)
      have HB2 : Hid (Below w.heap.size w (wr.drewN nq)) := HB.out.trans ((below_drewN wr nq).mono HB.out.size)
      go_wp2_with fail
      go_roundw
      case rel => exact ⟨j + 1, by omega, by go_num, HB2.out⟩
      case measure => simp [intOf]; omega
    · have hgI : ¬ (j : Int) < (L.length : Int) := by omega
      go_wp2_with fail
      go_ret
      exact ⟨rfl, HB.out⟩

theorem cutI (a : Addr) (n c k : Nat) (h : k ≤ c) (W : World) :
    (Instr.slice 29 (.slice (some a) n c) none (some (.int .i64 (k : Int))) none).run Tryd.prog W = .ok (.slice (some a) k c) W := by
  have hz : ∀ W, (sizeOf 3).run Tryd.prog W = .ok 1 W := fun W => by kernel_rfl
  have h1 : (k : Int) ≤ (c : Int) := by omega
  obtain ⟨b, off, sp⟩ := a
  cases sp with
  | none => simp [Instr.slice, run_underlying Tryd.underlying29, Instr.sliceBounds, run_sliceBound, h1, hz, Result.andThen, Addr.add_lit]
  | some s => simp [Instr.slice, run_underlying Tryd.underlying29, Instr.sliceBounds, run_sliceBound, h1, hz, Result.andThen, Addr.add]

end Go.Proofs.YtfaelefeiinbaaaDoor
