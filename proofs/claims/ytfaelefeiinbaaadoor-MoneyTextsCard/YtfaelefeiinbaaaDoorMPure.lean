/- Layer 22 in plain words: amounts that are shared. Nothing here speaks of a program. -/
import Derived.Test.YtfaelefeiinbaaaDoorBase
namespace Go.Proofs.YtfaelefeiinbaaaDoor
namespace MP
def sumN : List Nat → Nat | [] => 0 | x :: l => x + sumN l
def cnt : List Nat → Nat | [] => 0 | w :: l => (if w = 0 then 0 else 1) + cnt l
def bases (A all : Nat) (ws : List Nat) : List Nat := ws.map fun w => A * w / all
/-- what is left goes, one by one, to those whose weights are above 0 -/
def give : Nat → List Nat → List Nat → List Nat
  | m, w :: ws, x :: xs => if w = 0 ∨ m = 0 then x :: give m ws xs else (x + 1) :: give (m - 1) ws xs
  | _, _, _ => []
def shares (A : Nat) (ws : List Nat) : List Nat := give (A - sumN (bases A (sumN ws) ws)) ws (bases A (sumN ws) ws)

theorem base_length (A all : Nat) (ws : List Nat) : (bases A all ws).length = ws.length := by simp [bases]
theorem give_length : ∀ (m : Nat) (ws xs : List Nat), xs.length = ws.length → (give m ws xs).length = ws.length
  | m, [], [], _ => by simp [give]
  | m, w :: ws, x :: xs, h => by
    simp only [List.length_cons, Nat.add_right_cancel_iff] at h
    unfold give
    split <;> simp [give_length _ ws xs h]
  | m, [], x :: xs, h => by simp at h
  | m, w :: ws, [], h => by simp at h
theorem give_sum : ∀ (m : Nat) (ws xs : List Nat), xs.length = ws.length → m ≤ cnt ws → sumN (give m ws xs) = sumN xs + m
  | m, [], [], _, h => by simp [cnt] at h; subst h; rfl
  | m, w :: ws, x :: xs, h, hm => by
    simp only [List.length_cons, Nat.add_right_cancel_iff] at h
    simp only [cnt] at hm
    unfold give
    split
    · rename_i hw
      have : m ≤ cnt ws := by rcases hw with hw | hw <;> simp [hw] at hm ⊢; omega
      simp only [sumN, give_sum m ws xs h this]; omega
    · rename_i hw
      have hw' : w ≠ 0 ∧ m ≠ 0 := by omega
      rw [if_neg hw'.1] at hm
      simp only [sumN, give_sum (m - 1) ws xs h (by omega)]; omega
  | m, [], x :: xs, h, _ => by simp at h
  | m, w :: ws, [], h, _ => by simp at h
theorem give_at : ∀ (m : Nat) (ws xs : List Nat) (i : Nat) (h : i < ws.length) (h2 : i < xs.length) (h3 : i < (give m ws xs).length),
    (ws[i] = 0 → (give m ws xs)[i] = xs[i]) ∧ xs[i] ≤ (give m ws xs)[i] ∧ (give m ws xs)[i] ≤ xs[i] + 1
  | m, w :: ws, x :: xs, 0, _, _, h3 => by
    unfold give at h3 ⊢
    split
    · simp
    · rename_i hw
      simp; omega
  | m, w :: ws, x :: xs, i + 1, h, h2, h3 => by
    by_cases hw : w = 0 ∨ m = 0
    · have e : give m (w :: ws) (x :: xs) = x :: give m ws xs := by rw [give, if_pos hw]
      simp only [e, List.length_cons, List.getElem_cons_succ] at h h2 h3 ⊢
      exact give_at m ws xs i (by omega) (by omega) (by omega)
    · have e : give m (w :: ws) (x :: xs) = (x + 1) :: give (m - 1) ws xs := by rw [give, if_neg hw]
      simp only [e, List.length_cons, List.getElem_cons_succ] at h h2 h3 ⊢
      exact give_at (m - 1) ws xs i (by omega) (by omega) (by omega)
  | _, [], _, _, h, _, _ => by simp at h
  | _, _ :: _, [], _, _, h, _ => by simp at h

/-- what the parts come to, and what is left of A times the weights so far -/
theorem base_sum (A all : Nat) (h : 0 < all) : ∀ ws : List Nat, sumN (bases A all ws) * all ≤ A * sumN ws ∧ A * sumN ws + cnt ws ≤ sumN (bases A all ws) * all + cnt ws * all
  | [] => by simp [bases, sumN, cnt]
  | w :: ws => by
    obtain ⟨h1, h2⟩ := base_sum A all h ws
    have e : sumN (bases A all (w :: ws)) = A * w / all + sumN (bases A all ws) := by simp [bases, sumN]
    have d := Nat.div_add_mod (A * w) all
    have l := Nat.mod_lt (A * w) h
    have q : sumN (w :: ws) = w + sumN ws := rfl
    have c : cnt (w :: ws) = (if w = 0 then 0 else 1) + cnt ws := rfl
    rw [e, q, c]
    have e1 : (A * w / all + sumN (bases A all ws)) * all = all * (A * w / all) + sumN (bases A all ws) * all := by rw [Nat.add_mul, Nat.mul_comm (A * w / all)]
    have e2 : A * (w + sumN ws) = A * w + A * sumN ws := Nat.mul_add _ _ _
    rw [e1, e2]
    refine ⟨by omega, ?_⟩
    by_cases hw : w = 0
    · subst hw
      simp only [Nat.mul_zero, Nat.zero_div, if_true, Nat.zero_add] at d ⊢
      omega
    · rw [if_neg hw]
      have e3 : (1 + cnt ws) * all = all + cnt ws * all := by rw [Nat.add_mul, Nat.one_mul]
      rw [e3]; omega
theorem sum_pos_cnt : ∀ ws : List Nat, 0 < sumN ws → 0 < cnt ws
  | [], h => by simp [sumN] at h
  | w :: ws, h => by
    simp only [sumN, cnt] at h ⊢
    by_cases hw : w = 0
    · have := sum_pos_cnt ws (by omega); omega
    · simp [hw]; omega
theorem left_bound (A : Nat) (ws : List Nat) (h : 0 < sumN ws) : sumN (bases A (sumN ws) ws) ≤ A ∧ A - sumN (bases A (sumN ws) ws) < cnt ws := by
  obtain ⟨h1, h2⟩ := base_sum A (sumN ws) h ws
  have hc := sum_pos_cnt ws h
  have h3 : sumN (bases A (sumN ws) ws) ≤ A := Nat.le_of_mul_le_mul_right h1 h
  refine ⟨h3, ?_⟩
  have : A * sumN ws < (sumN (bases A (sumN ws) ws) + cnt ws) * sumN ws := by rw [Nat.add_mul]; omega
  have := Nat.lt_of_mul_lt_mul_right this
  omega
theorem shares_length (A : Nat) (ws : List Nat) : (shares A ws).length = ws.length := give_length _ _ _ (base_length _ _ _)
theorem shares_sum (A : Nat) (ws : List Nat) (h : 0 < sumN ws) : sumN (shares A ws) = A := by
  obtain ⟨h1, h2⟩ := left_bound A ws h
  rw [shares, give_sum _ _ _ (base_length _ _ _) (by omega)]; omega
theorem shares_at (A : Nat) (ws : List Nat) (i : Nat) (h : i < ws.length) (h3 : i < (shares A ws).length) :
    (ws[i] = 0 → (shares A ws)[i] = 0) ∧ A * ws[i] / sumN ws ≤ (shares A ws)[i] ∧ (shares A ws)[i] ≤ A * ws[i] / sumN ws + 1 := by
  have hb : i < (bases A (sumN ws) ws).length := by rw [base_length]; exact h
  obtain ⟨g1, g2, g3⟩ := give_at (A - sumN (bases A (sumN ws) ws)) ws (bases A (sumN ws) ws) i h hb h3
  have e : (bases A (sumN ws) ws)[i] = A * ws[i] / sumN ws := by simp [bases]
  rw [e] at g1 g2 g3
  refine ⟨fun h0 => ?_, g2, g3⟩
  have := g1 h0
  rw [h0, Nat.mul_zero, Nat.zero_div] at this
  exact this
theorem shares_mono (A : Nat) (ws : List Nat) (i k : Nat) (hi : i < ws.length) (hk : k < ws.length) (hi' : i < (shares A ws).length) (hk' : k < (shares A ws).length) (h : ws[i] ≤ ws[k]) : (shares A ws)[i] ≤ (shares A ws)[k] + 1 := by
  have h1 := (shares_at A ws i hi hi').2.2
  have h2 := (shares_at A ws k hk hk').2.1
  have : A * ws[i] / sumN ws ≤ A * ws[k] / sumN ws := Nat.div_le_div_right (Nat.mul_le_mul_left _ h)
  omega
theorem sum_ge : ∀ (l : List Nat) (i : Nat) (h : i < l.length), l[i] ≤ sumN l
  | x :: l, 0, _ => by simp [sumN]
  | x :: l, i + 1, h => by simp only [List.getElem_cons_succ, sumN]; have := sum_ge l i (by simpa using h); omega
  | [], _, h => by simp at h
theorem shares_le (A : Nat) (ws : List Nat) (h : 0 < sumN ws) (i : Nat) (hi : i < (shares A ws).length) : (shares A ws)[i] ≤ A := by
  have := sum_ge (shares A ws) i hi
  rw [shares_sum A ws h] at this; exact this
/-- the document's way to a times w by all -/
theorem part_eq (A all w : Nat) (h : 0 < all) : A / all * w + A % all * w / all = A * w / all := by
  have e : A * w = all * (A / all * w) + A % all * w := by
    have := Nat.div_add_mod A all
    calc A * w = (all * (A / all) + A % all) * w := by rw [this]
      _ = all * (A / all * w) + A % all * w := by rw [Nat.add_mul, Nat.mul_assoc]
  rw [e, Nat.mul_add_div h]

end MP
end Go.Proofs.YtfaelefeiinbaaaDoor
