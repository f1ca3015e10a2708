/- TidAbove's walk: what Next tells is of a greater number than all words that were seen, of the epoch, and of no flag. -/
import Derived.Test.YtcifiliigldapaaIWorks
import Derived.Test.YtcifiliigldapaaCopy
namespace Go.Proofs.Ytcifiliigldapaa
open Go.RowKit

theorem nexts_iff {ep : Int} {L : List Int} : nexts ep L = true ↔ within ep 2147483648 = true ∧ L.all may = true ∧ fits ep L = true := by
  unfold nexts
  simp only [Bool.and_eq_true, and_assoc]
theorem nextE_iff {ep : Int} {L : List Int} : nextE ep L = 0 ↔ nexts ep L = true := by
  rw [nexts_iff]
  unfold nextE
  cases within ep 2147483648 <;> cases L.all may <;> cases fits ep L <;> simp
theorem nextW_no {ep : Int} {L : List Int} (h : ¬ nexts ep L = true) : nextW ep L = 0 := by unfold nextW; rw [if_neg h]

/-- what the next word is like -/
theorem next_facts {ep : Int} {L : List Int} (hL : Words L) (h : nexts ep L = true) :
    (0 ≤ ep ∧ ep ≤ 2147483648) ∧ 0 ≤ nextW ep L ∧ nextW ep L < 18446744073709551616 ∧ nextW ep L % 8 = 0 ∧ nextW ep L / 8388608 = ep ∧ ∀ x ∈ L, num x < nextW ep L := by
  obtain ⟨h1, h2, h3⟩ := nexts_iff.1 h
  have hr : 0 ≤ ep ∧ ep ≤ 2147483648 := by simpa [within] using h1
  have h0 : ∀ x ∈ L, 0 ≤ x := fun x hx => (hL x hx).1
  obtain ⟨e1, s0, s1⟩ := nextW_seqs h0 h
  have hW : nextW ep L = above (ep * 8388608) L := by unfold nextW; rw [if_pos h]
  have e2 : nextW ep L = ep * 8388608 + seqs ep L * 8 := by rw [e1]; simp [wordOf, b1]
  refine ⟨hr, by omega, by omega, by omega, by omega, fun x hx => ?_⟩
  have := above_mem (ep * 8388608) L x hx
  omega

namespace Above

set_option maxRecDepth 100000 in
set_option maxHeartbeats 1000000 in
theorem walk (ep : Int) (v : Value) (L : List Int) (w : World) (hv : WordsAt w v L) (hL : Words L) :
    Calls Try.prog 6 #[.int .i64 ep, v] w fun e w' => e = .returned (.bool true) ∧ Below w.heap.size w w' := by
  have HL : Hid (Words L) := hL
  have HV : Hid (WordsAt w v L) := hv
  by_cases hn : nexts ep L = true
  · obtain ⟨⟨e0, e1⟩, n0, n1, n8, nE, nA⟩ := next_facts hL hn
    have HE : Hid (nextE ep L = 0) := nextE_iff.2 hn
    obtain ⟨N, hN⟩ : ∃ N, nextW ep L = N := ⟨_, rfl⟩
    rw [hN] at n0 n1 n8 nE nA
    have HC : Hid (∀ u, WordsAt u v L → Calls Try.prog 16 #[.int .i64 ep, v] u fun e w' => e = .returned (.tuple #[.int .u64 N, .int .i64 0]) ∧ w' = u) := fun u hu => (next_any ep v L u hu hL).mono fun e w' h => by rw [hN, HE.out] at h; exact h
    have HA : Hid (∀ x ∈ L, num x < N) := nA
    have hmay : may N = true := by unfold may; simp; omega
    obtain ⟨S, hS⟩ : ∃ S, N / 8 % 1048576 = S := ⟨_, rfl⟩
    have HU : Hid (∀ u, Calls Try.prog 11 #[.int .u64 N] u fun e w' => e = .returned (.tuple #[.int .i64 ep, .int .i64 S, .bool false, .bool false, .bool false, .int .i64 0]) ∧ w' = u) := fun u => (unpack_yes N u n0 n1 hmay).mono fun e w' h => by
      rw [nE, hS, show (N % 2 != 0) = false by simp; omega, show (N / 2 % 2 * 2 != 0) = false by simp; omega, show (N / 4 % 2 * 4 != 0) = false by simp; omega] at h
      exact h
    have HM : Hid (∀ u, Calls Try.prog 9 #[.int .u64 N] u fun e w' => e = .returned (.int .u64 N) ∧ w' = u) := fun u => (number_any N u n0 n1).mono fun e w' h => by
      rw [show num N = N by unfold num; omega] at h
      exact h
    obtain ⟨a, c, rfl, hl, hc, -⟩ := hv
    unfold maxLen at hc
    clear hL hn HE hN nA hmay hS n8 nE
    go_enter Try.func6, Try.ntmps6
    go_wp2_with fail
    refine (works_any _).mono ?_
    rintro y w1 ⟨rfl, hb1⟩
    have HB : Hid (Below w.heap.size w w1) := hb1
    obtain ⟨a', c', e', -, -, hx⟩ := HV.out.below hb1
    cases e'
    have HX : Hid (L ≠ [] → ∃ b off, a = some ⟨b, off, none⟩ ∧ b < w1.heap.size ∧ ∀ i, (h : i < L.length) → ∀ (j : Nat) (u : Value), ([Value.int .u64 L[i]])[j]? = some u → w1.cell? ⟨b, off + i * 1 + j, none⟩ = some u) := hx
    clear hx
    go_wp2_with fail
    refine (HC.out _ (HV.out.below hb1)).mono ?_
    rintro y w2 ⟨rfl, rfl⟩
    clear hb1
    go_wp2_with fail
    go_loop [29] (fun i => ∃ j : Nat, j ≤ L.length ∧ i = .int .i64 j) (fun i => L.length - (intOf i).toNat)
    case atStart => exact ⟨0, Nat.zero_le _, rfl⟩
    case round =>
      obtain ⟨j, hj, rfl⟩ := hrel
      by_cases hlt : j < L.length
      · have hlI : (j : Int) < (L.length : Int) := by omega
        have hne : L ≠ [] := by intro e; rw [e] at hlt; simp at hlt
        obtain ⟨b, off, rfl, hbl, hcs⟩ := HX.out hne
        obtain ⟨x, hxe⟩ : ∃ x, L[j] = x := ⟨_, rfl⟩
        have q := hcs j hlt 0 _ rfl
        rw [hxe, Nat.mul_one, Nat.add_zero] at q
        obtain ⟨x0, x1⟩ := HL.out x (hxe ▸ List.getElem_mem hlt)
        have hlow : num x < N := HA.out x (hxe ▸ List.getElem_mem hlt)
        obtain ⟨z, hz⟩ : ∃ z, num x = z := ⟨_, rfl⟩
        rw [hz] at hlow
        have HD : Hid (∀ u, Calls Try.prog 9 #[.int .u64 x] u fun e w' => e = .returned (.int .u64 z) ∧ w' = u) := fun u => (number_any x u x0 x1).mono fun e w' h => by rw [hz] at h; exact h
        have hlow' : ¬ N ≤ z := by omega
        clear hcs hxe hne hz
        go_wp2_with (go_at_call 9; go_must (refine (HD.out _).mono ?_; rintro y w3 ⟨rfl, rfl⟩))
        go_round
        case rel => exact ⟨j + 1, by omega, by go_num⟩
        case measure => simp [intOf]; omega
      · have hgI : ¬ (j : Int) < (L.length : Int) := by omega
        go_wp2_with (first | (go_at_call 11; refine (HU.out _).mono ?_; rintro y w3 ⟨rfl, rfl⟩) | (go_at_call 9; refine (HM.out _).mono ?_; rintro y w3 ⟨rfl, rfl⟩))
        go_ret
        exact ⟨rfl, HB.out⟩
  · have hne : ¬ nextE ep L = 0 := fun h => hn (nextE_iff.1 h)
    have hz := nextW_no hn
    obtain ⟨E, hE⟩ : ∃ E, nextE ep L = E := ⟨_, rfl⟩
    rw [hE] at hne
    have hneB : (E != 0) = true := by simpa using hne
    have HC : Hid (∀ u, WordsAt u v L → Calls Try.prog 16 #[.int .i64 ep, v] u fun e w' => e = .returned (.tuple #[.int .u64 0, .int .i64 E]) ∧ w' = u) := fun u hu => (next_any ep v L u hu hL).mono fun e w' h => by rw [hz, hE] at h; exact h
    clear hL hn hz hE hne
    obtain ⟨a, c, rfl, hl, hc, -⟩ := hv
    go_enter Try.func6, Try.ntmps6
    go_wp2_with fail
    refine (works_any _).mono ?_
    rintro y w1 ⟨rfl, hb1⟩
    go_wp2_with fail
    refine (HC.out _ (HV.out.below hb1)).mono ?_
    rintro y w2 ⟨rfl, rfl⟩
    go_wp2_with fail
    go_ret
    exact ⟨rfl, hb1⟩

end Above
end Go.Proofs.Ytcifiliigldapaa
