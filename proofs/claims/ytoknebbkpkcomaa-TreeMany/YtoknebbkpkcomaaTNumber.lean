/- A number below a million as a text of six digits. -/
import Derived.Test.YtoknebbkpkcomaaTWorks
import Derived.Lib.ConvBytes
namespace Go.Proofs.Ytoknebbkpkcomaa
open Go.RowKit

def digN (n p : Nat) : Nat := 48 + n / 10 ^ p % 10
def num6 (n : Nat) : List UInt8 := [UInt8.ofNat (digN n 5), UInt8.ofNat (digN n 4), UInt8.ofNat (digN n 3), UInt8.ofNat (digN n 2), UInt8.ofNat (digN n 1), UInt8.ofNat (digN n 0)]
abbrev num (n : Nat) : ByteArray := ⟨(num6 n).toArray⟩

theorem dig_nat (n p : Nat) : (UInt8.ofNat (digN n p)).toNat = digN n p := by
  unfold digN
  simp
  omega
theorem dig_eq {n m p : Nat} (h : UInt8.ofNat (digN n p) = UInt8.ofNat (digN m p)) : n / 10 ^ p % 10 = m / 10 ^ p % 10 := by
  have h1 := congrArg UInt8.toNat h
  unfold digN at h1
  simp at h1
  omega
theorem num_inj {n m : Nat} (hn : n < 1000000) (hm : m < 1000000) (h : num n = num m) : n = m := by
  injection h with h
  have h : num6 n = num6 m := by simpa using h
  unfold num6 at h
  simp only [List.cons.injEq, and_true] at h
  obtain ⟨h5, h4, h3, h2, h1, h0⟩ := h
  have d5 := dig_eq h5
  have d4 := dig_eq h4
  have d3 := dig_eq h3
  have d2 := dig_eq h2
  have d1 := dig_eq h1
  have d0 := dig_eq h0
  simp only [Nat.reducePow] at d5 d4 d3 d2 d1 d0
  omega

def numJ (n j : Nat) : List Value := [.int .u8 (if 6 ≤ j then (digN n 5 : Int) else 48), .int .u8 (if 5 ≤ j then (digN n 4 : Int) else 48), .int .u8 (if 4 ≤ j then (digN n 3 : Int) else 48), .int .u8 (if 3 ≤ j then (digN n 2 : Int) else 48), .int .u8 (if 2 ≤ j then (digN n 1 : Int) else 48), .int .u8 (if 1 ≤ j then (digN n 0 : Int) else 48)]
abbrev numO (n j : Nat) : Obj := .cells (numJ n j).toArray 5 (0, 0)
theorem numJ_step (n : Nat) : ∀ j i, j + i = 5 → (numJ n j).toArray.setIfInBounds i (.int .u8 (digN n j : Int)) = (numJ n (j + 1)).toArray
  | 0, 5, _ => rfl
  | 1, 4, _ => rfl
  | 2, 3, _ => rfl
  | 3, 2, _ => rfl
  | 4, 1, _ => rfl
  | 5, 0, _ => rfl
  | 0, 0, h | 0, 1, h | 0, 2, h | 0, 3, h | 0, 4, h | 0, _ + 6, h => by omega
  | 1, 0, h | 1, 1, h | 1, 2, h | 1, 3, h | 1, _ + 5, h => by omega
  | 2, 0, h | 2, 1, h | 2, 2, h | 2, _ + 4, h => by omega
  | 3, 0, h | 3, 1, h | 3, _ + 3, h => by omega
  | 4, 0, h | 4, _ + 2, h => by omega
  | 5, _ + 1, h => by omega
  | _ + 6, _, h => by omega
theorem numJ_cell (n j i : Nat) (h : i < 6) : ∃ x, (numJ n j)[i]? = some (.int .u8 x) := by
  rcases (by omega : i = 0 ∨ i = 1 ∨ i = 2 ∨ i = 3 ∨ i = 4 ∨ i = 5) with rfl | rfl | rfl | rfl | rfl | rfl <;> exact ⟨_, rfl⟩

set_option maxRecDepth 100000 in
set_option maxHeartbeats 2000000 in
theorem number_any (n : Nat) (hn : n < 1000000) (w : World) : Calls Try.prog 18 #[.int .i64 (n : Int)] w fun e w' => e = .returned (.string (num n)) ∧ Below w.heap.size w w' := by
  have HN : Hid (n < 1000000) := hn
  obtain ⟨B, hB⟩ : ∃ B, w.heap.size = B := ⟨_, rfl⟩
  have H0 : Hid ((w.alloc (.cells #[.int .u8 48, .int .u8 48, .int .u8 48, .int .u8 48, .int .u8 48, .int .u8 48] 5)).heap[B]? = some (numO n 0) ∧ Below B w (w.alloc (.cells #[.int .u8 48, .int .u8 48, .int .u8 48, .int .u8 48, .int .u8 48, .int .u8 48] 5))) := by
    rw [← hB]
    exact ⟨heap_new w _, (Below.refl _ _).alloc (Nat.le_refl _) _⟩
  have HB : Hid (w.heap.size = B) := hB
  clear hn
  go_enter Try.func18, Try.ntmps18
  go_wp2_with fail
  try rw [hB]
  clear hB
  go_loopw [0, 4] (fun nv iv wr => ∃ j : Nat, j ≤ 6 ∧ iv = .int .i64 (5 - (j : Int)) ∧ nv = .int .i64 ((n / 10 ^ j : Nat) : Int) ∧ Hid (wr.heap[B]? = some (numO n j) ∧ Below B w wr)) (fun _ iv _ => ((intOf iv) + 1).toNat)
  case atStart => exact ⟨0, by omega, rfl, by simp, H0⟩
  case round =>
    clear H0
    obtain ⟨j, hj, rfl, rfl, HI⟩ := hrel
    obtain ⟨m, hm⟩ : ∃ m, n / 10 ^ j = m := ⟨_, rfl⟩
    by_cases hlt : j < 6
    · obtain ⟨i, hi⟩ : ∃ i : Nat, j + i = 5 := ⟨5 - j, by omega⟩
      have hiI : 5 - (j : Int) = (i : Int) := by omega
      have HD : Hid (digN n j = 48 + m % 10) := by show _ = _; rw [← hm]; rfl
      have hm6 : m < 1000000 := by rw [← hm]; exact Nat.lt_of_le_of_lt (Nat.div_le_self _ _) HN.out
      have Hm : Hid (n / 10 ^ (j + 1) = m / 10) := by show _ = _; rw [← hm, Nat.pow_succ, Nat.div_div_eq_div_mul]
      have HIj : Hid (j + i = 5) := hi
      have hi6 : (i : Int) < 6 := by omega
      have hi0 : (0 : Int) ≤ (i : Int) := by omega
      rw [hiI, hm]
      obtain ⟨x, hx⟩ := numJ_cell n j i (by omega)
      have c0 : wr.cell? ⟨B, i, none⟩ = some (.int .u8 x) := by rw [cell_of HI.out.1, List.getElem?_toArray]; exact hx
      have f0 : wr.frozen? ⟨B, i, none⟩ = false := frozen_of HI.out.1 _
      clear hx hm hiI
      go_wp2_with fail
      refine ⟨⟨j + 1, by omega, by have := HIj.out; congr 1; omega, by rw [Hm.out]; rfl, ?_, ?_⟩, by simp [intOf]⟩
      · rw [heap_setCell_same HI.out.1]
        have e := numJ_step n j i HIj.out
        rw [HD.out] at e
        exact congrArg (fun c => some (Obj.cells c 5 (0, 0))) e
      · exact HI.out.2.setCell (p := ⟨B, i, none⟩) (Nat.le_refl _) _
    · obtain rfl : j = 6 := by omega
      have hc : (convert 83 9 (.slice (some ⟨B, 0, none⟩) 6 6)).run Try.prog wr = .ok (.string (num n)) wr := by
        refine run_convert_bytes_back wr 83 9 5 ⟨B, 0, none⟩ 6 (num6 n) Try.underlying83 Try.underlying5 Try.underlying9 fun j hj => ?_
        have hj : j < 6 := hj
        rw [Addr.add_lit, Nat.zero_add, cell_of HI.out.1, List.getElem?_toArray]
        rcases (by omega : j = 0 ∨ j = 1 ∨ j = 2 ∨ j = 3 ∨ j = 4 ∨ j = 5) with rfl | rfl | rfl | rfl | rfl | rfl
        · exact congrArg (fun c : Nat => some (Value.int .u8 (c : Int))) (dig_nat n 5).symm
        · exact congrArg (fun c : Nat => some (Value.int .u8 (c : Int))) (dig_nat n 4).symm
        · exact congrArg (fun c : Nat => some (Value.int .u8 (c : Int))) (dig_nat n 3).symm
        · exact congrArg (fun c : Nat => some (Value.int .u8 (c : Int))) (dig_nat n 2).symm
        · exact congrArg (fun c : Nat => some (Value.int .u8 (c : Int))) (dig_nat n 1).symm
        · exact congrArg (fun c : Nat => some (Value.int .u8 (c : Int))) (dig_nat n 0).symm
      have HE : Hid (Below B w wr) := HI.out.2
      go_wp2_with fail
      go_ret
      exact ⟨rfl, HB.out ▸ HE.out⟩

end Go.Proofs.Ytoknebbkpkcomaa
