/- Rows of numbers: are they the same; marks written over one. -/
import Derived.Test.YtoknebbkpkcomaaTStandO
namespace Go.Proofs.Ytoknebbkpkcomaa
open Go.RowKit

set_option maxRecDepth 100000 in
set_option maxHeartbeats 1000000 in
theorem same_ints {w : World} {v1 v2 : Value} {X : List Int} (h1 : SliceAt w v1 1 enI X) (h2 : SliceAt w v2 1 enI X) : Calls Try.prog 14 #[v1, v2] w fun e w' => e = .returned (.bool true) ∧ ∃ n, w' = w.drewN n := by
  obtain ⟨a1, c1, rfl, l1, k1, -⟩ := id h1
  obtain ⟨a2, c2, rfl, -, -, -⟩ := id h2
  have HG1 : Hid (X ≠ [] → ∃ b off, a1 = some ⟨b, off, none⟩ ∧ ∀ (i : Nat) x, X[i]? = some x → w.cell? ⟨b, off + i, none⟩ = some (.int .i64 x)) := ints_cell h1
  have HG2 : Hid (X ≠ [] → ∃ b off, a2 = some ⟨b, off, none⟩ ∧ ∀ (i : Nat) x, X[i]? = some x → w.cell? ⟨b, off + i, none⟩ = some (.int .i64 x)) := ints_cell h2
  unfold maxLen at k1
  obtain ⟨n, hn⟩ : ∃ n, X.length = n := ⟨_, rfl⟩
  have HN : Hid (X.length = n) := hn
  rw [hn] at l1 ⊢
  clear h1 h2 hn
  go_enter Try.func14, Try.ntmps14
  go_wp2_with fail
  go_loopw [5] (fun i wr => ∃ (k q : Nat), k ≤ n ∧ i = .int .i64 k ∧ Hid (wr = w.drewN q)) (fun i _ => n - (intOf i).toNat)
  case atStart => exact ⟨0, 0, Nat.zero_le _, rfl, (rfl : w = w.drewN 0)⟩
  case round =>
    obtain ⟨k, q, hk, rfl, HW⟩ := hrel
    by_cases hlt : k < n
    · have hlI : (k : Int) < (n : Int) := by omega
      have hlX : k < X.length := by rw [HN.out]; exact hlt
      have hne : X ≠ [] := fun e => by rw [e] at hlX; simp at hlX
      obtain ⟨b1, o1, rfl, d1⟩ := HG1.out hne
      obtain ⟨b2, o2, rfl, d2⟩ := HG2.out hne
      obtain ⟨x, hx⟩ : ∃ x, X[k]? = some x := ⟨_, List.getElem?_eq_getElem hlX⟩
      have q1 : wr.cell? ⟨b1, o1 + k, none⟩ = some (.int .i64 x) := by rw [HW.out]; exact d1 k x hx
      have q2 : wr.cell? ⟨b2, o2 + k, none⟩ = some (.int .i64 x) := by rw [HW.out]; exact d2 k x hx
      clear d1 d2 hx hne hlX
      go_wp2_with fail
      go_quiet (fail)
      go_wp2_with fail
      go_roundw
      case rel => exact ⟨k + 1, q + nq, by omega, by go_num, (by rw [HW.out, World.drewN_drewN] : _ = _)⟩
      case measure => simp [intOf]; omega
    · have hlI : ¬ (k : Int) < (n : Int) := by omega
      go_wp2_with fail
      go_ret
      exact ⟨rfl, q, HW.out⟩

set_option maxRecDepth 100000 in
set_option maxHeartbeats 1000000 in
theorem spoil_row {w : World} {b n cap : Nat} {cur : Array Value} {t : TypeId} (mark : Int) (hb : w.heap[b]? = some (.cells cur t (0, 0))) (hs : cur.size = cap) (hc : cap ≤ maxLen) : Calls Try.prog 29 #[.slice (some ⟨b, 0, none⟩) n cap, .int .i64 mark] w fun e w' => e = .returned (.tuple #[]) ∧ Turn (fun i => i = b) w w' := by
  unfold maxLen at hc
  have HB : Hid (w.heap[b]? = some (.cells cur t (0, 0))) := hb
  have HS : Hid (cur.size = cap) := hs
  clear hb hs
  go_enter Try.func29, Try.ntmps29
  go_wp2_with fail
  go_loopw [4] (fun i wr => ∃ (k : Nat) (cur' : Array Value), k ≤ cap ∧ i = .int .i64 k ∧ Hid (wr.heap[b]? = some (.cells cur' t (0, 0))) ∧ Hid (cur'.size = cap) ∧ Hid (Turn (fun i => i = b) w wr)) (fun i _ => cap - (intOf i).toNat)
  case atStart => exact ⟨0, cur, Nat.zero_le _, rfl, HB, HS, Turn.refl _ _⟩
  case round =>
    obtain ⟨k, cur', hk, rfl, HB', HS', HT⟩ := hrel
    by_cases hlt : k < cap
    · have hlI : (k : Int) < (cap : Int) := by omega
      have hlc : k < cur'.size := by rw [HS'.out]; exact hlt
      have q1 : wr.cell? ⟨b, k, none⟩ = some cur'[k] := by rw [cell_of HB'.out, Array.getElem?_eq_getElem hlc]
      have f1 : wr.frozen? ⟨b, k, none⟩ = false := frozen_of HB'.out _
      have HB2 : Hid ((wr.setCell ⟨b, k, none⟩ (.int .i64 mark)).heap[b]? = some (.cells (cur'.setIfInBounds k (.int .i64 mark)) t (0, 0))) := heap_setCell_same HB'.out k _
      have HS2 : Hid ((cur'.setIfInBounds k (.int .i64 mark)).size = cap) := (by rw [Array.size_setIfInBounds, HS'.out] : _ = _)
      have HT2 : Hid (Turn (fun i => i = b) w (wr.setCell ⟨b, k, none⟩ (.int .i64 mark))) := HT.out.trans (Turn.setCell wr ⟨b, k, none⟩ _ rfl)
      obtain ⟨z, hz⟩ : ∃ z, cur'[k] = z := ⟨_, rfl⟩
      rw [hz] at q1
      clear hz hlc
      go_wp2_with fail
      go_roundw
      case rel => exact ⟨k + 1, _, by omega, by go_num, HB2, HS2, HT2⟩
      case measure => simp [intOf]; omega
    · have hlI : ¬ (k : Int) < (cap : Int) := by omega
      go_wp2_with fail
      go_end0
      exact ⟨rfl, HT.out⟩

set_option maxRecDepth 100000 in
theorem spoil_nil (w : World) (mark : Int) : Calls Try.prog 29 #[.slice none 0 0, .int .i64 mark] w fun e w' => e = .returned (.tuple #[]) ∧ w' = w := by
  go_enter Try.func29, Try.ntmps29
  go_wp2_with fail
  go_loopw [4] (fun i wr => i = .int .i64 0 ∧ wr = w) (fun _ _ => 0)
  case atStart => exact ⟨rfl, rfl⟩
  case round =>
    obtain ⟨rfl, hwq⟩ := hrel
    subst hwq
    go_wp2_with fail
    go_end0
    exact ⟨rfl, rfl⟩

end Go.Proofs.Ytoknebbkpkcomaa
