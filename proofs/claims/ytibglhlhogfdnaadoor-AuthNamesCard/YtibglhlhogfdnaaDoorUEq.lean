/- The program's Equal (QText's, for a seat that has no hopperref24.Hex). -/
import Derived.Test.YtibglhlhogfdnaaDoorQMacP
import Derived.Laws.StandIn
namespace Go.Proofs.YtibglhlhogfdnaaDoor
open Go.RowKit QP

theorem nb_at (b : ByteArray) {i : Nat} (h : i < b.size) : (nb b)[i]? = some (b[i]'h).toNat := by
  unfold nb
  rw [List.getElem?_map, List.getElem?_eq_getElem (show i < b.data.toList.length from h)]
  rfl

theorem or_none {a b : Nat} : a ||| b = 0 ↔ a = 0 ∧ b = 0 := by
  refine ⟨fun h => ?_, fun ⟨h1, h2⟩ => by subst h1; subst h2; rfl⟩
  have h1 : a ≤ a ||| b := Nat.left_le_or
  have h2 : b ≤ a ||| b := Nat.right_le_or
  omega
theorem xor_none {a b : Nat} : a ^^^ b = 0 ↔ a = b := by
  refine ⟨fun h => ?_, fun h => by subst h; exact Nat.xor_self _⟩
  have h1 : (a ^^^ b) ^^^ b = a := by rw [Nat.xor_assoc, Nat.xor_self, Nat.xor_zero]
  rw [h, Nat.zero_xor] at h1
  exact h1.symm
theorem take_snoc {m : List Nat} {i x : Nat} (h : m[i]? = some x) : m.take (i + 1) = m.take i ++ [x] := by
  obtain ⟨h1, h2⟩ := List.getElem?_eq_some_iff.1 h
  rw [List.take_succ_eq_append_getElem h1, h2]
theorem snoc_same {a b : List Nat} {x y : Nat} : a ++ [x] = b ++ [y] ↔ a = b ∧ x = y := by
  refine ⟨fun h => ?_, fun ⟨h1, h2⟩ => by rw [h1, h2]⟩
  obtain ⟨h1, h2⟩ := List.append_inj' h rfl
  exact ⟨h1, by simpa using h2⟩

set_option maxRecDepth 100000 in
set_option maxHeartbeats 2000000 in
theorem equal_any (a b : ByteArray) (w : World) (hza : a.size ≤ 140737488355328) : Calls Tryd.prog 32 #[.string a, .string b] w fun e w' => e = .returned (.bool (decide (a = b))) ∧ Below w.heap.size w w' := by
  by_cases hl : a.size = b.size
  · obtain ⟨n, hn⟩ : ∃ n, a.size = n := ⟨_, rfl⟩
    have hb : b.size = n := by omega
    have hzn : n ≤ 140737488355328 := by omega
    have HE : Hid (nb a = nb b ↔ a = b) := ⟨nb_inj, fun h => by rw [h]⟩
    have HNa : Hid ((nb a).length = n) := by show _ = _; rw [nb_length, hn]
    have HNb : Hid ((nb b).length = n) := by show _ = _; rw [nb_length, hb]
    clear hl
    go_enter Tryd.func32, Tryd.ntmps32
    go_wp2_with fail
    go_loopw [5, 14] (fun dv iv wx => ∃ i d : Nat, i ≤ n ∧ d < 256 ∧ iv = .int .i64 i ∧ dv = .int .u8 d ∧ Hid (d = 0 ↔ (nb a).take i = (nb b).take i) ∧ Hid (Below w.heap.size w wx)) (fun _ iv _ => n - (intOf iv).toNat)
    case atStart => exact ⟨0, 0, Nat.zero_le _, by decide, rfl, rfl, ⟨fun _ => rfl, fun _ => rfl⟩, Below.refl _ _⟩
    case round =>
      obtain ⟨i, d, hi, hd, rfl, rfl, HD, HB⟩ := hrel
      by_cases hlt : i < n
      · have hlI : (i : Int) < (n : Int) := by omega
        have l0 : i < a.size := by omega
        have l1 : i < b.size := by omega
        have ta := nb_at a l0
        have tb := nb_at b l1
        obtain ⟨x, hx⟩ : ∃ x, (a[i]'l0).toNat = x := ⟨_, rfl⟩
        obtain ⟨y, hy⟩ : ∃ x, (b[i]'l1).toNat = x := ⟨_, rfl⟩
        rw [hx] at ta
        rw [hy] at tb
        have bx : x < 256 := by rw [← hx]; exact UInt8.toNat_lt _
        have bY : y < 256 := by rw [← hy]; exact UInt8.toNat_lt _
        obtain ⟨z, hz⟩ : ∃ z, x ^^^ y = z := ⟨_, rfl⟩
        have bz : z < 256 := by rw [← hz]; exact Nat.xor_lt_two_pow (n := 8) bx bY
        obtain ⟨d2, hd2⟩ : ∃ q, d ||| z = q := ⟨_, rfl⟩
        have bd2 : d2 < 256 := by rw [← hd2]; exact Nat.or_lt_two_pow (n := 8) hd bz
        have k1 : bits .xor .u8 (x : Int) (y : Int) = (z : Int) := by rw [u8_xor_nat x y bx bY, hz]
        have k2 : bits .or .u8 (d : Int) (z : Int) = (d2 : Int) := by rw [u8_or_nat d z hd bz, hd2]
        have HD2 : Hid (d2 = 0 ↔ (nb a).take (i + 1) = (nb b).take (i + 1)) := by
          show _ ↔ _
          rw [take_snoc ta, take_snoc tb, snoc_same, ← HD.out, ← hd2, or_none, ← hz, xor_none]
        have hi1 : Hid (i + 1 ≤ n) := hlt
        have hme : Hid (n - (i + 1) < n - i) := by show _ < _; omega
        clear ta tb hz hd2 HD
        go_wp2_with fail
        go_quiet (fail)
        have HB2 : Hid (Below w.heap.size w (wr.drewN nq)) := HB.out.trans ((below_drewN wr nq).mono HB.out.size)
        go_wp2_with fail
        go_roundw
        case rel => exact ⟨i + 1, d2, hi1.out, bd2, by go_num, rfl, HD2, HB2⟩
        case measure => simp [intOf]; omega
      · obtain rfl : i = n := by omega
        have hlI : ¬ (i : Int) < (i : Int) := by omega
        have hD := HD.out
        rw [List.take_of_length_le (by rw [HNa.out]; exact Nat.le_refl _), List.take_of_length_le (by rw [HNb.out]; exact Nat.le_refl _), HE.out] at hD
        by_cases h0 : d = 0
        · subst h0
          have HR : Hid (decide (a = b) = true) := decide_eq_true (hD.1 rfl)
          clear hD HD
          go_wp2_with fail
          go_ret
          exact ⟨by rw [HR.out]; rfl, HB.out⟩
        · have HR : Hid (decide (a = b) = false) := decide_eq_false fun e => h0 (hD.2 e)
          have hdI : ¬ (d : Int) = 0 := by omega
          have hdB : ((d : Int) == 0) = false := by rw [beq_eq_false_iff_ne]; omega
          clear hD HD
          go_wp2_with fail
          go_ret
          exact ⟨by rw [HR.out]; rfl, HB.out⟩
  · have hlI : ¬ (a.size : Int) = (b.size : Int) := by omega
    have hlB : ((a.size : Int) == (b.size : Int)) = false := by rw [beq_eq_false_iff_ne]; omega
    have HR : Hid (decide (a = b) = false) := decide_eq_false fun e => hl (by rw [e])
    go_enter Tryd.func32, Tryd.ntmps32
    go_wp2_with fail
    go_ret
    exact ⟨by rw [HR.out]; rfl, Below.refl _ _⟩
end Go.Proofs.YtibglhlhogfdnaaDoor
