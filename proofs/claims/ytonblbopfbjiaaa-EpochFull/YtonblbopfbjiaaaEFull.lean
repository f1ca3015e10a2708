/- The law EpochFull: its walk. -/
import Derived.Test.YtonblbopfbjiaaaEStand
namespace Go.Proofs.Ytonblbopfbjiaaa
namespace FullL
open Go.RowKit

def full (x : Int) (k : Nat) : Ck := ⟨[0], 1, 1, 0, List.replicate k (x, 1)⟩
def up (x : Int) (k j : Nat) : Ck := ⟨[0], 1, 1 + j, if j = 2 then 1 else 0, List.replicate k (x, 1)⟩

theorem full_next (x : Int) (k : Nat) : (full x k).retire x = full x (k + 1) := by
  simp [full, Ck.retire, List.replicate_succ']
theorem freed_none (x : Int) (k : Nat) : freed 0 (List.replicate k (x, (1 : Int))) = [] := by
  cases k <;> simp [freed, List.replicate_succ]
theorem freed_all (x : Int) : ∀ k : Nat, freed 1 (List.replicate k (x, (1 : Int))) = List.replicate k (x, 1)
  | 0 => rfl
  | k + 1 => by
    have := freed_all x k
    unfold freed at this ⊢
    rw [List.replicate_succ, List.takeWhile_cons_of_pos (by simp), this]

theorem up_rise (x : Int) (k j : Nat) (h : j < 2) : (up x k j).rise = up x k (j + 1) := by
  rcases (by omega : j = 0 ∨ j = 1) with rfl | rfl
  · simp [up, Ck.rise]
  · simp [up, Ck.rise]
    decide

set_option maxRecDepth 100000 in
set_option maxHeartbeats 2000000 in
theorem walk (x : Int) (w : World) : Calls Try.prog 4 #[.int .i64 x] w fun e w' => e = .returned (.bool true) ∧ Below w.heap.size w w' := by
  have HN : Hid (Calls Try.prog 8 #[.int .i64 1, .int .i64 1, .int .i64 1] w fun e w' => ∃ g, e = .returned (.tuple #[.pointer (some ⟨g, 0, none⟩), .int .i64 0]) ∧ Has g (full x 0) w w' [] ∧ Below w.heap.size w w') := has_new (Below.refl _ _) (by decide)
  go_enter Try.func4, Try.ntmps4
  go_wp2_with fail
  refine HN.out.mono ?_
  rintro e w1 ⟨g, rfl, h1, -⟩
  have H1 : Hid (Has g (full x 0) w w1 []) := h1
  clear h1
  go_wp2_with fail
  refine (works_any _).mono ?_
  rintro e w2 ⟨rfl, hb2⟩
  have H2 : Hid (Has g (full x 0) w w2 []) := Stand.below (clockI_res _ _) H1.out hb2
  clear hb2
  go_wp2_with fail
  go_loopw [5] (fun i wr => ∃ k : Nat, k ≤ 4096 ∧ i = .int .i64 k ∧ Hid (Has g (full x k) w wr [])) (fun i _ => 4096 - (intOf i).toNat)
  case atStart => exact ⟨0, by omega, rfl, H2⟩
  case round =>
    obtain ⟨k, hk, rfl, HI⟩ := hrel
    by_cases hlt : k < 4096
    · have hlI : (k : Int) < 4096 := by omega
      have HC : Hid (Calls Try.prog 14 #[.pointer (some ⟨g, 0, none⟩), .int .i64 x] wr fun e w' => e = .returned (.int .i64 0) ∧ Has g (full x (k + 1)) w w' []) := by
        have := HI.out.retire x (by simp [full, hlt])
        rw [full_next] at this
        exact this
      go_wp2_with (go_at_call 14; go_must (refine HC.out.mono ?_; rintro e w3 ⟨rfl, h3⟩))
      go_roundw
      case rel => exact ⟨k + 1, by omega, by go_num, h3⟩
      case measure => simp [intOf]; omega
    · have hg : ¬ (k : Int) < 4096 := by omega
      obtain rfl : k = 4096 := by omega
      have HC : Hid (Calls Try.prog 14 #[.pointer (some ⟨g, 0, none⟩), .int .i64 x] wr fun e w' => e = .returned (.int .i64 2) ∧ w' = wr) := HI.out.retireNo x (by simp [full])
      have HF : Hid (Calls Try.prog 15 #[.pointer (some ⟨g, 0, none⟩)] wr fun e w' => ∃ A m, e = .returned (.slice A 0 m) ∧ Has g (up x 4096 0) w w' []) := HI.out.free.mono (by
        rintro e w' ⟨A, m, rfl, h1, -⟩
        have e0 : freed (full x 4096).snap (full x 4096).th = [] := freed_none x 4096
        rw [e0]
        refine ⟨A, m, rfl, ?_⟩
        have e1 : (full x 4096).free = up x 4096 0 := by
          unfold Ck.free
          rw [e0]
          rfl
        rw [e1] at h1
        exact h1)
      clear hk hlt
      go_wp2_with fail
      refine HC.out.mono ?_
      rintro e w3 ⟨rfl, rfl⟩
      go_wp2_with fail
      refine HF.out.mono ?_
      rintro e w4 ⟨A4, m4, rfl, h4⟩
      have H4 : Hid (Has g (up x 4096 0) w w4 []) := h4
      clear h4
      go_wp2_with fail
      go_loopw [6] (fun i wr => ∃ j : Nat, j ≤ 2 ∧ i = .int .i64 j ∧ Hid (Has g (up x 4096 j) w wr [])) (fun i _ => 2 - (intOf i).toNat)
      case atStart => exact ⟨0, by omega, rfl, H4⟩
      case round =>
        obtain ⟨j, hj, rfl, HI⟩ := hrel
        by_cases hlt : j < 2
        · have hlI : (j : Int) < 2 := by omega
          have HC : Hid (Calls Try.prog 16 #[.pointer (some ⟨g, 0, none⟩)] wr fun e w' => e = .returned (.tuple #[.bool true, .int .i64 0]) ∧ Has g (up x 4096 (j + 1)) w w' []) := by
            have h1 := HI.out.rise (by show (1 : Int) + j ≠ 2147483648; omega) rfl
            have e1 : (up x 4096 j).rise = up x 4096 (j + 1) := by
              exact up_rise x 4096 j hlt
            rw [e1] at h1
            exact h1
          go_wp2_with (go_at_call 16; go_must (refine HC.out.mono ?_; rintro e w5 ⟨rfl, h5⟩))
          go_roundw
          case rel => exact ⟨j + 1, by omega, by go_num, h5⟩
          case measure => simp [intOf]; omega
        · have hg : ¬ (j : Int) < 2 := by omega
          obtain rfl : j = 2 := by omega
          have HF : Hid (Calls Try.prog 15 #[.pointer (some ⟨g, 0, none⟩)] wr fun e w' => ∃ b m, e = .returned (.slice (some ⟨b, 0, none⟩) 4096 m) ∧ Has g (up x 0 2) w w' [] ∧ w'.cell? ⟨b, 0, none⟩ = some (.int .i64 x) ∧ b < w'.heap.size) := HI.out.free.mono (by
            rintro e w' ⟨A, m, rfl, h1, h2⟩
            have e0 : freed (up x 4096 2).snap (up x 4096 2).th = List.replicate 4096 (x, 1) := freed_all x 4096
            rw [e0, List.map_replicate] at h2
            rw [e0, List.map_replicate, List.length_replicate]
            have e1 : (up x 4096 2).free = up x 0 2 := by
              unfold Ck.free
              rw [e0, List.length_replicate, List.drop_of_length_le (by simp [up])]
              rfl
            rw [e1] at h1 h2
            obtain ⟨b, cur, rfl, h3, h4⟩ := h2 (by simp)
            have h5 := h3.at (b := b) (List.mem_cons_self ..)
            refine ⟨b, m, rfl, h1, ?_, lt_of h5⟩
            rw [cell_of h5, h4 0 (by simp), List.getElem_replicate])
          clear hj hlt
          go_wp2_with fail
          refine HF.out.mono ?_
          rintro e w5 ⟨b, m5, rfl, h5, q5, hb5⟩
          have HF2 : Hid (Calls Try.prog 15 #[.pointer (some ⟨g, 0, none⟩)] w5 fun e w' => ∃ A m, e = .returned (.slice A 0 m) ∧ Has g (up x 0 2) w w' []) := h5.free.mono (by
            rintro e w' ⟨A, m, rfl, h1, -⟩
            exact ⟨A, m, rfl, h1⟩)
          clear h5
          go_wp2_with fail
          refine HF2.out.mono ?_
          rintro e w6 ⟨A6, m6, rfl, h6⟩
          have HR : Hid (Calls Try.prog 14 #[.pointer (some ⟨g, 0, none⟩), .int .i64 x] w6 fun e w' => e = .returned (.int .i64 0) ∧ Has g ((up x 0 2).retire x) w w' []) := h6.retire x (by simp [up])
          clear h6
          go_wp2_with fail
          refine HR.out.mono ?_
          rintro e w7 ⟨rfl, h7⟩
          have HB : Hid (Below w.heap.size w w7) := h7.base
          clear h7
          go_wp2_with fail
          go_ret
          exact ⟨rfl, HB.out⟩
end FullL
end Go.Proofs.Ytonblbopfbjiaaa
