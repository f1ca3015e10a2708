/- The document's Next. -/
import Derived.Test.YtcifiliigldapaaIRef
namespace Go.Proofs.Ytcifiliigldapaa
open Go.RowKit

theorem le_take_next {p : Int → Prop} {L : List Int} {j : Nat} (h : j < L.length) (h1 : ∀ x ∈ L.take j, p x) (h2 : p L[j]) : ∀ x ∈ L.take (j + 1), p x := by
  intro x hx
  rw [take_snoc L j h] at hx
  rcases List.mem_append.1 hx with hx | hx
  · exact h1 x hx
  · have : x = L[j] := by simpa using hx
    subst this
    exact h2

theorem fits_late {ep : Int} {L : List Int} (h0 : ∀ x ∈ L, 0 ≤ x) {x : Int} (hx : x ∈ L) (h : ep < x / 8388608) : fits ep L = false := by
  cases hf : fits ep L with
  | false => rfl
  | true =>
    have := ((fits_iff h0).1 hf).1 x hx
    omega

set_option maxRecDepth 100000 in
set_option maxHeartbeats 2000000 in
theorem rnext_any (ep : Int) (v : Value) (L : List Int) (w : World) (hv : WordsAt w v L) (hL : Words L) :
    Calls Try.prog 17 #[.int .i64 ep, v] w fun e w' => e = .returned (.tuple #[.int .u64 (nextW ep L), .int .i64 (nextE ep L)]) ∧ w' = w := by
  obtain ⟨a, c, rfl, hl, hc, hx⟩ := hv
  have HX : Hid (L ≠ [] → ∃ b off, a = some ⟨b, off, none⟩ ∧ b < w.heap.size ∧ ∀ i, (h : i < L.length) → ∀ (j : Nat) (u : Value), ([Value.int .u64 L[i]])[j]? = some u → w.cell? ⟨b, off + i * 1 + j, none⟩ = some u) := hx
  have HL : Hid (Words L) := hL
  unfold maxLen at hc
  clear hx hL
  have H0 : Hid (∀ x ∈ L, 0 ≤ x) := fun x hx => (HL.out x hx).1
  by_cases h1 : within ep 2147483648 = true
  · have HE : Hid (within ep 2147483648 = true) := h1
    have hr : 0 ≤ ep ∧ ep ≤ 2147483648 := by simpa [within] using h1
    obtain ⟨e0, e1⟩ := hr
    have e2 : ¬ ep < 0 := by omega
    have e3 : ¬ 2147483648 < ep := by omega
    clear h1
    go_enter Try.func17, Try.ntmps17
    go_wp2_with fail
    go_loop [6] (fun i => ∃ j : Nat, j ≤ L.length ∧ i = .int .i64 j ∧ Hid ((L.take j).all may = true)) (fun i => L.length - (intOf i).toNat)
    case atStart => exact ⟨0, Nat.zero_le _, rfl, (rfl : _ = _)⟩
    case round =>
      obtain ⟨j, hj, rfl, HA⟩ := hrel
      by_cases hlt : j < L.length
      · have hlI : (j : Int) < (L.length : Int) := by omega
        have hne : L ≠ [] := by intro e; rw [e] at hlt; simp at hlt
        obtain ⟨b, off, rfl, hbl, hcs⟩ := HX.out hne
        obtain ⟨x, hxe⟩ : ∃ x, L[j] = x := ⟨_, rfl⟩
        have q := hcs j hlt 0 _ rfl
        rw [hxe, Nat.mul_one, Nat.add_zero] at q
        obtain ⟨x0, x1⟩ := HL.out x (hxe ▸ List.getElem_mem hlt)
        have HXE : Hid (L[j] = x) := hxe
        clear hcs hxe hne
        by_cases hm : may x = true
        · have HM : Hid (may x = true) := hm
          have HC : Hid (∀ u, Calls Try.prog 12 #[.int .u64 x] u fun e w' => e = .returned (.bool true) ∧ w' = u) := fun u => (rmay_any x u x0 x1).mono fun e w' h => by rw [hm] at h; exact h
          clear hm
          go_wp2_with (go_at_call 12; go_must (refine (HC.out _).mono ?_; rintro y w2 ⟨rfl, rfl⟩))
          go_round
          case rel => exact ⟨j + 1, by omega, by go_num, all_take_next hlt HA.out (by rw [HXE.out]; exact HM.out)⟩
          case measure => simp [intOf]; omega
        · have hm' : may x = false := by simpa using hm
          have HM : Hid (may x = false) := hm'
          have HC : Hid (∀ u, Calls Try.prog 12 #[.int .u64 x] u fun e w' => e = .returned (.bool false) ∧ w' = u) := fun u => (rmay_any x u x0 x1).mono fun e w' h => by rw [hm'] at h; exact h
          clear hm hm'
          go_wp2_with (go_at_call 12; go_must (refine (HC.out _).mono ?_; rintro y w2 ⟨rfl, rfl⟩))
          go_ret2
          have hA : L.all may = false := all_no hlt (by rw [HXE.out]; exact HM.out)
          refine ⟨ret_pair ?_ ?_, rfl⟩
          · unfold nextW nexts
            rw [hA, Bool.and_false, Bool.false_and]
            rfl
          · unfold nextE
            rw [HE.out, hA]
            rfl
      · have hgI : ¬ (j : Int) < (L.length : Int) := by omega
        have HA2 : Hid (L.all may = true) := by
          have := HA.out
          rw [List.take_of_length_le (by omega)] at this
          exact this
        clear hj HA
        go_wp2_with fail
        go_loop [7, 8] (fun n i => ∃ (k : Nat) (N : Int), k ≤ L.length ∧ i = .int .i64 k ∧ n = .int .i64 N ∧ Hid (seqs ep (L.take k) = N) ∧ Hid (∀ x ∈ L.take k, x / 8388608 ≤ ep) ∧ 0 ≤ N ∧ N ≤ 1048576) (fun _ i => L.length - (intOf i).toNat)
        case atStart => exact ⟨0, 0, Nat.zero_le _, rfl, rfl, (rfl : _ = _), (fun x h => by simp at h : ∀ x ∈ L.take 0, _), by omega, by omega⟩
        case round =>
          obtain ⟨k, N, hk, rfl, rfl, HN, HF, n0, n1⟩ := hrel
          by_cases hlt : k < L.length
          · have hlI : (k : Int) < (L.length : Int) := by omega
            have hne : L ≠ [] := by intro e; rw [e] at hlt; simp at hlt
            obtain ⟨b, off, rfl, hbl, hcs⟩ := HX.out hne
            obtain ⟨x, hxe⟩ : ∃ x, L[k] = x := ⟨_, rfl⟩
            have q := hcs k hlt 0 _ rfl
            rw [hxe, Nat.mul_one, Nat.add_zero] at q
            obtain ⟨x0, x1⟩ := HL.out x (hxe ▸ List.getElem_mem hlt)
            have HXE : Hid (L[k] = x) := hxe
            obtain ⟨y, hy⟩ : ∃ y, x / 8388608 = y := ⟨_, rfl⟩
            obtain ⟨z, hz⟩ : ∃ z, x / 8 % 1048576 = z := ⟨_, rfl⟩
            have hy0 : 0 ≤ y := by omega
            have hy1 : y < 18446744073709551616 := by omega
            have hz0 : 0 ≤ z := by omega
            have hz1 : z ≤ 1048575 := by omega
            have HY : Hid (x / 8388608 = y) := hy
            have HZ : Hid (x / 8 % 1048576 = z) := hz
            have HC : Hid (∀ u, Calls Try.prog 14 #[.int .u64 x] u fun e w' => e = .returned (.int .u64 y) ∧ w' = u) := fun u => (repoch_any x u x0 x1).mono fun e w' h => by rw [hy] at h; exact h
            have HS : Hid (∀ u, Calls Try.prog 15 #[.int .u64 x] u fun e w' => e = .returned (.int .i64 z) ∧ w' = u) := fun u => (rseq_any x u x0 x1).mono fun e w' h => by rw [hz] at h; exact h
            clear hcs hxe hne hy hz
            by_cases hge : ep < y
            · go_wp2_with (go_at_call 14; go_must (refine (HC.out _).mono ?_; rintro y w2 ⟨rfl, rfl⟩))
              go_ret2
              have hF : fits ep L = false := fits_late H0.out (x := x) (HXE.out ▸ List.getElem_mem hlt) (by rw [HY.out]; exact hge)
              refine ⟨ret_pair ?_ ?_, rfl⟩
              · unfold nextW nexts
                rw [hF, Bool.and_false]
                rfl
              · unfold nextE
                rw [HE.out, HA2.out, hF]
                rfl
            · by_cases heq : y = ep
              · have heqB : (y == ep) = true := by simpa using heq
                have HQ : Hid (y = ep) := heq
                clear heq
                go_wp2_with (first | (go_at_call 14; refine (HC.out _).mono ?_; rintro y w2 ⟨rfl, rfl⟩) | (go_at_call 15; refine (HS.out _).mono ?_; rintro y w2 ⟨rfl, rfl⟩))
                go_round
                case rel =>
                  refine ⟨k + 1, max N (z + 1), by omega, by go_num, ?_, ?_, ?_, ?_, ?_⟩
                  · congr 1
                    split <;> omega
                  · show _ = _
                    rw [take_snoc L k hlt, seqs_snoc, HN.out, HXE.out, HZ.out, HY.out, if_pos HQ.out]
                  · exact le_take_next hlt HF.out (by rw [HXE.out, HY.out]; omega)
                  · omega
                  · omega
                case measure => simp [intOf]; omega
              · have heqB : (y == ep) = false := by simpa using heq
                have HQ : Hid (¬ y = ep) := heq
                clear heq
                go_wp2_with (go_at_call 14; go_must (refine (HC.out _).mono ?_; rintro y w2 ⟨rfl, rfl⟩))
                go_round
                case rel =>
                  refine ⟨k + 1, N, by omega, by go_num, rfl, ?_, ?_, n0, n1⟩
                  · show _ = _
                    rw [take_snoc L k hlt, seqs_snoc, HN.out, HXE.out, HY.out, if_neg HQ.out]
                  · exact le_take_next hlt HF.out (by rw [HXE.out, HY.out]; omega)
                case measure => simp [intOf]; omega
          · have hgI : ¬ (k : Int) < (L.length : Int) := by omega
            have HF2 : Hid (∀ x ∈ L, x / 8388608 ≤ ep) := by
              have := HF.out
              rw [List.take_of_length_le (by omega)] at this
              exact this
            have HN2 : Hid (seqs ep L = N) := by
              have := HN.out
              rw [List.take_of_length_le (by omega)] at this
              exact this
            by_cases hlast : 1048575 < N
            · go_wp2_with fail
              go_ret2
              have hF : fits ep L = false := by
                cases hf : fits ep L with
                | false => rfl
                | true =>
                  have h5 := ((fits_iff H0.out).1 hf).2
                  rw [HN2.out] at h5
                  omega
              refine ⟨ret_pair ?_ ?_, rfl⟩
              · unfold nextW nexts
                rw [hF, Bool.and_false]
                rfl
              · unfold nextE
                rw [HE.out, HA2.out, hF]
                rfl
            · have HW : Hid (∀ u, Calls Try.prog 20 #[.int .i64 ep, .int .i64 N, .bool false, .bool false, .bool false] u fun x w' => x = .returned (.int .u64 (wordOf ep N false false false)) ∧ w' = u) := fun u => rword_any ep N false false false u (packs_iff.2 ⟨⟨e0, e1⟩, n0, by omega⟩)
              go_wp2_with (go_at_call 20; go_must (refine (HW.out _).mono ?_; rintro y w2 ⟨rfl, rfl⟩))
              go_ret2
              have hF : fits ep L = true := (fits_iff H0.out).2 ⟨HF2.out, by rw [HN2.out]; omega⟩
              have hn := nexts_of HE.out HA2.out hF
              refine ⟨ret_pair ?_ ?_, rfl⟩
              · rw [(nextW_seqs H0.out hn).1, HN2.out]
              · unfold nextE
                rw [HE.out, HA2.out, hF]
                rfl
  · have HE : Hid (within ep 2147483648 = false) := by show _ = _; simpa using h1
    have hq : ep < 0 ∨ (¬ ep < 0 ∧ 2147483648 < ep) := by
      have : ¬ (0 ≤ ep ∧ ep ≤ 2147483648) := by simpa [within] using h1
      omega
    clear h1
    rcases hq with h1 | ⟨h1, h2⟩
    all_goals
      go_enter Try.func17, Try.ntmps17
      go_wp2_with fail
      go_ret2
      refine ⟨ret_pair ?_ ?_, rfl⟩
      · unfold nextW nexts
        rw [HE.out, Bool.false_and, Bool.false_and]
        rfl
      · unfold nextE
        rw [HE.out]
        rfl

end Go.Proofs.Ytcifiliigldapaa
