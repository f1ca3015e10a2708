/- Layer 24: the document's primes. -/
import Derived.Test.YtibglhlhogfdnaaDoorQConv
import Derived.Test.YtibglhlhogfdnaaDoorQRefK
import Derived.Deep.DeepMust
namespace Go.Proofs.YtibglhlhogfdnaaDoor
open Go.RowKit QP

theorem pr_len {k : Nat} (h : k ≤ 310) : (prF k).length ≤ 64 := by
  have := prF_grow h
  rw [prF_ps] at this
  exact this
theorem pr_end {k : Nat} (h : k ≤ 310) (h2 : 64 ≤ (prF k).length) : k = 310 := by
  rcases Nat.lt_or_ge k 310 with h3 | h3
  · have := prF_grow (show k ≤ 309 by omega)
    rw [prF_before] at this
    omega
  · omega
theorem pr_in {k : Nat} (h : k ≤ 310) (h2 : (prF k).length < 64) : k < 310 := by
  rcases Nat.lt_or_ge k 310 with h3 | h3
  · exact h3
  · obtain rfl : k = 310 := by omega
    rw [prF_ps] at h2
    exact absurd h2 (by decide)
theorem all_snoc {p : Nat → Bool} {L : List Nat} {j : Nat} (h : j < L.length) : (L.take (j + 1)).all p = ((L.take j).all p && p L[j]) := by
  rw [List.take_succ_eq_append_getElem h, List.all_append]
  simp

/-- what primes tells -/
def PrR (w : World) (e : Ending) (w' : World) : Prop := ∃ g c, e = .returned (.slice (some ⟨g, 0, none⟩) 64 c) ∧ RowK .u64 29 w' g ps ∧ w.heap.size ≤ g ∧ 64 ≤ c ∧ c ≤ maxLen ∧ Below w.heap.size w w'

set_option maxRecDepth 100000 in
set_option maxHeartbeats 1000000 in
theorem primes_any (w : World) : Calls Tryd.prog 38 #[.int .i64 64] w (PrR w) := by
  go_enter Tryd.func38, Tryd.ntmps38
  go_wp2_with fail
  go_loopw [3, 4] (fun ov nv wr => ∃ (k m c : Nat) (A : Option Addr), k ≤ 310 ∧ nv = .int .u64 ((k + 2 : Nat) : Int) ∧ ov = .slice A m c ∧ m ≤ 64 ∧ Hid ((prF k).length = m) ∧ Hid (wr.ownsRow w.heap.size 29 1 (.slice A m c) m (flat (enK .u64) (prF k))) ∧ Hid (Below w.heap.size w wr)) (fun _ nv _ => 400 - (intOf nv).toNat)
  case atStart => exact ⟨0, 0, 0, none, by omega, rfl, rfl, by omega, (rfl : _ = _), own_nil, Below.refl _ _⟩
  case round =>
    obtain ⟨k, m, c, A, hk, rfl, rfl, hm, HM, HO, HB⟩ := hrel
    by_cases hlt : m < 64
    · have hlI : (m : Int) < 64 := by omega
      have hk3 : k < 310 := pr_in hk (by rw [HM.out]; exact hlt)
      obtain ⟨N, hN⟩ : ∃ N, k + 2 = N := ⟨_, rfl⟩
      have HN : Hid (k + 2 = N) := hN
      have hN1 : N < 400 := by omega
      have HNx : Hid (prF (k + 1) = if (prF k).all (fun q => N % q != 0) then prF k ++ [N] else prF k) := by show _ = _; rw [prF_succ, hN]
      rw [hN]
      obtain ⟨L, hL⟩ : ∃ L, prF k = L := ⟨_, rfl⟩
      have HLm : Hid (∀ q ∈ L, 2 ≤ q) := fun q hq => (prF_mem (hL ▸ hq)).1
      rw [hL] at HM HO HNx
      have HL : Hid (prF k = L) := hL
      have hcc : c ≤ 9223372036854775807 := by
        rcases HO.out.2 with ⟨h1, _⟩ | ⟨g, cap, cur, h1, h3, h4, h5, h6, _, h8⟩
        · cases h1; omega
        · cases h1; exact h6
      clear hL hN
      go_wp2_with fail
      go_loop [5, 6] (fun fv iv => ∃ (j : Nat) (b : Bool), j ≤ m ∧ iv = .int .i64 j ∧ fv = .bool b ∧ Hid ((L.take j).all (fun q => N % q != 0) = b)) (fun _ iv => m - (intOf iv).toNat)
      case atStart => exact ⟨0, true, Nat.zero_le _, rfl, rfl, (rfl : _ = _)⟩
      case round =>
        obtain ⟨j, b, hj, rfl, rfl, HA⟩ := hrel
        have wj : IntKind.i64.wrap ((j : Int) + 1) = (j : Int) + 1 := wrapI (by omega) (by omega)
        by_cases hjm : j < m
        · have hjI : (j : Int) < (m : Int) := by omega
          have hjL : j < L.length := by rw [HM.out]; exact hjm
          have HS := all_snoc (p := fun q => N % q != 0) hjL
          rw [HA.out] at HS
          cases b with
          | false =>
            have HS2 : Hid ((L.take (j + 1)).all (fun q => N % q != 0) = false) := by show _ = _; rw [HS]; rfl
            clear HS
            go_wp2_with fail
            go_round
            case rel => exact ⟨j + 1, false, by omega, by go_num, rfl, HS2⟩
            case measure => simp [intOf]; omega
          | true =>
            obtain ⟨g, rfl, hg, hrow, hmc, hmc2⟩ := row_ofK HO.out (by omega) HM.out
            obtain ⟨q, hq⟩ : ∃ q, L[j] = q := ⟨_, rfl⟩
            have hc := hrow.cell (i := j) (x := q) (by rw [List.getElem?_eq_getElem hjL, hq])
            have hq2 : 2 ≤ q := HLm.out q (hq ▸ List.getElem_mem hjL)
            rw [hq] at HS
            obtain ⟨z, hz⟩ : ∃ z, N % q = z := ⟨_, rfl⟩
            have hzI : (N : Int) % (q : Int) = (z : Int) := by rw [← hz]; simp
            have hzT : (N : Int).tmod (q : Int) = (z : Int) := by rw [Int.tmod_eq_emod_of_nonneg (by omega)]; exact hzI
            have hq0 : ¬ (q : Int) = 0 := by omega
            have hzb : z < 400 := by rw [← hz]; exact Nat.lt_of_le_of_lt (Nat.mod_le _ _) hN1
            have wz : IntKind.u64.wrap (z : Int) = (z : Int) := wrapU (by omega) (by omega)
            simp only [hz] at HS
            clear hrow hmc hmc2 hg hq hz
            by_cases hz0 : z = 0
            · subst hz0
              have HS2 : Hid ((L.take (j + 1)).all (fun q => N % q != 0) = false) := by show _ = _; rw [HS]; rfl
              clear HS
              go_wp2_with fail
              go_round
              case rel => exact ⟨j + 1, false, by omega, by go_num, rfl, HS2⟩
              case measure => simp [intOf]; omega
            · have HS2 : Hid ((L.take (j + 1)).all (fun q => N % q != 0) = true) := by show _ = _; rw [HS]; simpa using hz0
              have hzn : ((z : Int) != 0) = true := by simp; omega
              clear HS hz0
              go_wp2_with fail
              go_round
              case rel => exact ⟨j + 1, true, by omega, by go_num, rfl, HS2⟩
              case measure => simp [intOf]; omega
        · have hjI : ¬ (j : Int) < (m : Int) := by omega
          have hAll : L.all (fun q => N % q != 0) = b := by
            have := HA.out
            rw [List.take_of_length_le (by rw [HM.out]; omega)] at this
            exact this
          have hNx := HNx.out
          rw [hAll] at hNx
          have wN : IntKind.u64.wrap ((N : Int) + 1) = (N : Int) + 1 := wrapU (by omega) (by omega)
          have HN1 : Hid ((N : Int) + 1 = ((k + 1 + 2 : Nat) : Int)) := by have := HN.out; show _ = _; omega
          have HMs : Hid (400 - ((N : Int) + 1).toNat < 400 - ((N : Int)).toNat) := by show _ < _; omega
          cases b with
          | false =>
            have hNx' : prF (k + 1) = L := hNx
            have HM2 : Hid ((prF (k + 1)).length = m) := by show _ = _; rw [hNx']; exact HM.out
            have HO2 : Hid (wr.ownsRow w.heap.size 29 1 (.slice A m c) m (flat (enK .u64) (prF (k + 1)))) := by show World.ownsRow _ _ _ _ _ _ _; rw [hNx']; exact HO.out
            clear hNx hNx' hAll
            go_wp2_with fail
            go_roundw
            case rel => exact ⟨k + 1, m, c, A, by omega, by rw [← HN1.out], rfl, hm, HM2, HO2, HB⟩
            case measure => exact HMs.out
          | true =>
            have hNx' : prF (k + 1) = L ++ [N] := hNx
            have HM2 : Hid ((prF (k + 1)).length = m + 1) := by show _ = _; rw [hNx']; have := HM.out; simp; omega
            have hB1 : w.heap.size ≤ wr.heap.size := HB.out.size
            have HPr : Hid (prF (k + 1) = L ++ [N]) := hNx'
            clear hNx hNx' hAll
            go_wp2_with (at_builtin; go_must (refine wpList_nums okU64 rfl _ _ rfl w.heap.size L [N] A m c rfl ?q1 (by omega) ?q2 wr.heap.size 1 rfl rfl (by omega) ?q3 ?_))
            case q1 => exact HO.out.alloc _
            case q2 => first | (simp; omega) | (simp_all; omega)
            case q3 => exact RowK.new wr .u64 _ [N] _ rfl
            intro A' c' w3 ho hb3 _ _
            have HO3 : Hid (w3.ownsRow w.heap.size 29 1 (.slice A' (m + 1) c') (m + 1) (flat (enK .u64) (prF (k + 1)))) := by show World.ownsRow _ _ _ _ _ _ _; rw [HPr.out]; exact ho
            have HB3 : Hid (Below w.heap.size w w3) := (HB.out.alloc hB1 _).trans hb3
            clear ho hb3
            go_wp2_with fail
            go_roundw
            case rel => exact ⟨k + 1, m + 1, c', A', by omega, by rw [← HN1.out], rfl, by omega, HM2, HO3, HB3⟩
            case measure => exact HMs.out
    · obtain rfl : m = 64 := by omega
      obtain rfl : k = 310 := pr_end hk (by rw [HM.out]; omega)
      have hO := HO.out
      rw [prF_ps] at hO
      obtain ⟨g, rfl, hg, hrow, hmc, hmc2⟩ := row_ofK hO (by omega) rfl
      have HR : Hid (PrR w (.returned (.slice (some ⟨g, 0, none⟩) 64 c)) wr) := ⟨g, c, rfl, hrow, hg, hmc, hmc2, HB.out⟩
      unfold maxLen at hmc2
      clear hO hg hrow
      go_wp2_with fail
      go_ret
      exact HR.out
end Go.Proofs.YtibglhlhogfdnaaDoor
