/- The program's Next. -/
import Derived.Test.YtcifiliigldapaaIPack
namespace Go.Proofs.Ytcifiliigldapaa
open Go.RowKit

abbrev WordsAt (w : World) (v : Value) (L : List Int) : Prop := SliceAt w v 1 (fun x : Int => [Value.int .u64 x]) L
def Words (L : List Int) : Prop := ∀ x ∈ L, 0 ≤ x ∧ x < 18446744073709551616

theorem all_take_next {p : Int → Bool} {L : List Int} {j : Nat} (h : j < L.length) (h1 : (L.take j).all p = true) (h2 : p L[j] = true) : (L.take (j + 1)).all p = true := by
  rw [take_snoc L j h, List.all_append, h1]
  simp [h2]
theorem all_no {p : Int → Bool} {L : List Int} {j : Nat} (h : j < L.length) (h2 : p L[j] = false) : L.all p = false := by
  rw [List.all_eq_false]
  exact ⟨L[j], List.getElem_mem h, by simp [h2]⟩

theorem nexts_of {ep : Int} {L : List Int} (h1 : within ep 2147483648 = true) (h2 : L.all may = true) (h3 : fits ep L = true) : nexts ep L = true := by
  unfold nexts; rw [h1, h2, h3]; rfl

set_option maxRecDepth 100000 in
set_option maxHeartbeats 1000000 in
theorem next_any (ep : Int) (v : Value) (L : List Int) (w : World) (hv : WordsAt w v L) (hL : Words L) :
    Calls Try.prog 16 #[.int .i64 ep, v] w fun e w' => e = .returned (.tuple #[.int .u64 (nextW ep L), .int .i64 (nextE ep L)]) ∧ w' = w := by
  obtain ⟨a, c, rfl, hl, hc, hx⟩ := hv
  have HX : Hid (L ≠ [] → ∃ b off, a = some ⟨b, off, none⟩ ∧ b < w.heap.size ∧ ∀ i, (h : i < L.length) → ∀ (j : Nat) (u : Value), ([Value.int .u64 L[i]])[j]? = some u → w.cell? ⟨b, off + i * 1 + j, none⟩ = some u) := hx
  have HL : Hid (Words L) := hL
  unfold maxLen at hc
  clear hx hL
  by_cases h1 : within ep 2147483648 = true
  · have HE : Hid (within ep 2147483648 = true) := h1
    have hr : 0 ≤ ep ∧ ep ≤ 2147483648 := by simpa [within] using h1
    obtain ⟨e0, e1⟩ := hr
    clear h1
    go_enter Try.func16, Try.ntmps16
    go_wp2_with fail
    refine (within_yes ep _ _ HE.out).mono ?_
    rintro y w1 ⟨rfl, rfl⟩
    go_wp2_with fail
    go_loop [18] (fun i => ∃ j : Nat, j ≤ L.length ∧ i = .int .i64 j ∧ Hid ((L.take j).all may = true)) (fun i => L.length - (intOf i).toNat)
    case atStart => exact ⟨0, Nat.zero_le _, rfl, (rfl : _ = _)⟩
    case round =>
      obtain ⟨j, hj, rfl, HA⟩ := hrel
      by_cases hlt : j < L.length
      · have hlI : (j : Int) < (L.length : Int) := by omega
        have hne : L ≠ [] := by intro e; rw [e] at hlt; simp at hlt
        obtain ⟨b, off, rfl, hbl, hcs⟩ := HX.out hne
        obtain ⟨x, hxe⟩ : ∃ x, L[j] = x := ⟨_, rfl⟩
        have q := hcs j hlt 0 _ rfl
        rw [hxe, Nat.mul_one, Nat.add_zero] at q
        obtain ⟨x0, x1⟩ := HL.out x (hxe ▸ List.getElem_mem hlt)
        have HXE : Hid (L[j] = x) := hxe
        clear hcs hxe hne
        by_cases hm : may x = true
        · have HM : Hid (may x = true) := hm
          have HC : Hid (∀ u, Calls Try.prog 21 #[.int .u64 x] u fun e w' => e = .returned (.bool true) ∧ w' = u) := fun u => (mayBe_any x u x0 x1).mono fun e w' h => by rw [hm] at h; exact h
          clear hm
          go_wp2_with (go_at_call 21; go_must (refine (HC.out _).mono ?_; rintro y w2 ⟨rfl, rfl⟩))
          go_round
          case rel => exact ⟨j + 1, by omega, by go_num, all_take_next hlt HA.out (by rw [HXE.out]; exact HM.out)⟩
          case measure => simp [intOf]; omega
        · have hm' : may x = false := by simpa using hm
          have HM : Hid (may x = false) := hm'
          have HC : Hid (∀ u, Calls Try.prog 21 #[.int .u64 x] u fun e w' => e = .returned (.bool false) ∧ w' = u) := fun u => (mayBe_any x u x0 x1).mono fun e w' h => by rw [hm'] at h; exact h
          clear hm hm'
          go_wp2_with (go_at_call 21; go_must (refine (HC.out _).mono ?_; rintro y w2 ⟨rfl, rfl⟩))
          go_ret2
          have hA : L.all may = false := all_no hlt (by rw [HXE.out]; exact HM.out)
          refine ⟨ret_pair ?_ ?_, rfl⟩
          · unfold nextW nexts
            rw [hA, Bool.and_false, Bool.false_and]
            rfl
          · unfold nextE
            rw [HE.out, hA]
            rfl
      · have hgI : ¬ (j : Int) < (L.length : Int) := by omega
        have HA2 : Hid (L.all may = true) := by
          have := HA.out
          rw [List.take_of_length_le (by omega)] at this
          exact this
        clear hj HA
        go_wp2_with fail
        go_loop [8, 33] (fun n i => ∃ (k : Nat) (N : Int), k ≤ L.length ∧ i = .int .i64 k ∧ n = .int .u64 N ∧ Hid (above (ep * 8388608) (L.take k) = N) ∧ Hid (fits ep (L.take k) = true) ∧ 0 ≤ N ∧ N ≤ ep * 8388608 + 8388600) (fun _ i => L.length - (intOf i).toNat)
        case atStart => exact ⟨0, ep * 8388608, Nat.zero_le _, rfl, rfl, (rfl : _ = _), (rfl : _ = _), by omega, by omega⟩
        case round =>
          obtain ⟨k, N, hk, rfl, rfl, HN, HF, n0, n1⟩ := hrel
          by_cases hlt : k < L.length
          · have hlI : (k : Int) < (L.length : Int) := by omega
            have hne : L ≠ [] := by intro e; rw [e] at hlt; simp at hlt
            obtain ⟨b, off, rfl, hbl, hcs⟩ := HX.out hne
            obtain ⟨x, hxe⟩ : ∃ x, L[k] = x := ⟨_, rfl⟩
            have q := hcs k hlt 0 _ rfl
            rw [hxe, Nat.mul_one, Nat.add_zero] at q
            obtain ⟨x0, x1⟩ := HL.out x (hxe ▸ List.getElem_mem hlt)
            have HXE : Hid (L[k] = x) := hxe
            obtain ⟨y, hy⟩ : ∃ y, num x = y := ⟨_, rfl⟩
            have hy0 : 0 ≤ y := hy ▸ (num_range x0 x1).1
            have hy1 : y ≤ x := hy ▸ (num_range x0 x1).2
            have hy8 : y % 8 = 0 := hy ▸ num_mod x
            have HY : Hid (num x = y) := hy
            have HC : Hid (∀ u, Calls Try.prog 9 #[.int .u64 x] u fun e w' => e = .returned (.int .u64 y) ∧ w' = u) := fun u => (number_any x u x0 x1).mono fun e w' h => by rw [hy] at h; exact h
            clear hcs hxe hne hy
            by_cases hge : ep * 8388608 + 8388600 ≤ y
            · go_wp2_with (go_at_call 9; go_must (refine (HC.out _).mono ?_; rintro y w2 ⟨rfl, rfl⟩))
              go_ret2
              have hF : fits ep L = false := all_no hlt (by rw [HXE.out, HY.out]; simpa using hge)
              refine ⟨ret_pair ?_ ?_, rfl⟩
              · unfold nextW nexts
                rw [hF, Bool.and_false]
                rfl
              · unfold nextE
                rw [HE.out, HA2.out, hF]
                rfl
            · obtain ⟨M, hM⟩ : ∃ M, max N (y + 8) = M := ⟨_, rfl⟩
              have HMx : Hid (max N (y + 8) = M) := hM
              clear hM
              go_wp2_with (go_at_call 9; go_must (refine (HC.out _).mono ?_; rintro y w2 ⟨rfl, rfl⟩))
              go_round
              case rel =>
                refine ⟨k + 1, M, by omega, by go_num, ?_, ?_, ?_, ?_, ?_⟩
                · rw [← HMx.out]
                  congr 1
                  split <;> omega
                · show _ = _
                  rw [take_snoc L k hlt, above_snoc, HN.out, HXE.out, HY.out, HMx.out]
                · exact all_take_next hlt HF.out (by rw [HXE.out, HY.out]; simpa using hge)
                · have := HMx.out
                  omega
                · have := HMx.out
                  omega
              case measure => simp [intOf]; omega
          · have hgI : ¬ (k : Int) < (L.length : Int) := by omega
            have HF2 : Hid (fits ep L = true) := by
              have := HF.out
              rw [List.take_of_length_le (by omega)] at this
              exact this
            have HN2 : Hid (above (ep * 8388608) L = N) := by
              have := HN.out
              rw [List.take_of_length_le (by omega)] at this
              exact this
            go_wp2_with fail
            go_ret2
            refine ⟨ret_pair ?_ ?_, rfl⟩
            · unfold nextW
              rw [if_pos (nexts_of HE.out HA2.out HF2.out), HN2.out]
            · unfold nextE
              rw [HE.out, HA2.out, HF2.out]
              rfl
  · have HE : Hid (within ep 2147483648 = false) := by show _ = _; simpa using h1
    clear h1
    go_enter Try.func16, Try.ntmps16
    go_wp2_with fail
    refine (within_no ep _ _ HE.out).mono ?_
    rintro y w1 ⟨rfl, rfl⟩
    go_wp2_with fail
    go_ret2
    refine ⟨ret_pair ?_ ?_, rfl⟩
    · unfold nextW nexts
      rw [HE.out, Bool.false_and, Bool.false_and]
      rfl
    · unfold nextE
      rw [HE.out]
      rfl

end Go.Proofs.Ytcifiliigldapaa
