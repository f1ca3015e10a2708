/- Layer 22 in plain words: amounts of either sign that are shared, cent by cent. Nothing here speaks of a program. -/
import Derived.Test.YtfaelefeiinbaaaDoorMPure
import Derived.Test.YtfaelefeiinbaaaDoorMSum
namespace Go.Proofs.YtfaelefeiinbaaaDoor
namespace MP
theorem cnt_append : ∀ a b : List Nat, cnt (a ++ b) = cnt a + cnt b
  | [], b => by simp [cnt]
  | x :: a, b => by simp only [List.cons_append, cnt, cnt_append a b]; omega
theorem cnt_take_succ {ws : List Nat} {n : Nat} (h : n < ws.length) : cnt (ws.take (n + 1)) = cnt (ws.take n) + (if ws[n] = 0 then 0 else 1) := by
  rw [List.take_succ_eq_append_getElem h, cnt_append]; simp [cnt]
theorem cnt_take_lt {ws : List Nat} {n : Nat} (h : cnt (ws.take n) < cnt ws) : n < ws.length := by
  rcases Nat.lt_or_ge n ws.length with h1 | h1
  · exact h1
  · rw [List.take_of_length_le h1] at h; omega
theorem cnt_take_le (ws : List Nat) (n : Nat) : cnt (ws.take n) ≤ cnt ws := by
  have := cnt_append (ws.take n) (ws.drop n)
  rw [List.take_append_drop] at this; omega
theorem cnt_length : ∀ ws : List Nat, cnt ws ≤ ws.length
  | [] => by simp [cnt]
  | w :: ws => by have := cnt_length ws; simp only [cnt, List.length_cons]; split <;> omega
theorem give_zero : ∀ ws xs : List Nat, xs.length = ws.length → give 0 ws xs = xs
  | [], [], _ => by simp [give]
  | w :: ws, x :: xs, h => by
    rw [give, if_pos (Or.inr rfl), give_zero ws xs (by simpa using h)]
  | [], x :: xs, h => by simp at h
  | w :: ws, [], h => by simp at h
/-- one cent more goes to the next one that has a weight -/
theorem give_next : ∀ (ws xs : List Nat) (n : Nat), xs.length = ws.length → ∀ (h : n < ws.length), ws[n] ≠ 0 →
    ∀ x, (give (cnt (ws.take n)) ws xs)[n]? = some x → give (cnt (ws.take n) + 1) ws xs = (give (cnt (ws.take n)) ws xs).set n (x + 1)
  | [], _, _, _, h, _, _, _ => by simp at h
  | w :: ws, [], _, h, _, _, _, _ => by simp at h
  | w :: ws, x :: xs, 0, hl, _, hw, y, hy => by
    simp only [List.getElem_cons_zero] at hw
    simp only [List.take_zero, cnt] at hy ⊢
    have hl' : xs.length = ws.length := by simpa using hl
    have e0 : give 0 (w :: ws) (x :: xs) = x :: give 0 ws xs := by rw [give, if_pos (Or.inr rfl)]
    rw [e0] at hy ⊢
    rw [give, if_neg (by omega)]
    simp only [List.getElem?_cons_zero, Option.some.injEq] at hy
    subst hy; rfl
  | w :: ws, x :: xs, n + 1, hl, h, hw, y, hy => by
    have hl' : xs.length = ws.length := by simpa using hl
    have h' : n < ws.length := by simpa using h
    have hw' : ws[n] ≠ 0 := by simpa using hw
    simp only [List.take_succ_cons, cnt] at hy ⊢
    by_cases h0 : w = 0
    · rw [if_pos h0, Nat.zero_add] at hy ⊢
      rw [give, if_pos (Or.inl h0)] at hy
      rw [give, if_pos (Or.inl h0), give, if_pos (Or.inl h0)]
      rw [give_next ws xs n hl' h' hw' y (by simpa using hy)]
      rfl
    · rw [if_neg h0, Nat.add_comm 1] at hy ⊢
      rw [give, if_neg (by omega), Nat.add_sub_cancel] at hy
      rw [give, if_neg (by omega), give, if_neg (by omega), Nat.add_sub_cancel, Nat.add_sub_cancel]
      rw [give_next ws xs n hl' h' hw' y (by simpa using hy)]
      rfl

/-! ### either sign -/
def sg (a : Int) (x : Nat) : Int := if a < 0 then -(x : Int) else x
def nat (W : List Int) : List Nat := W.map Int.toNat
def basesI (a : Int) (W : List Int) : List Int := (bases a.natAbs (sumN (nat W)) (nat W)).map (sg a)
def sharesI (a : Int) (W : List Int) : List Int := (shares a.natAbs (nat W)).map (sg a)
/-- the shares when j cents of what was left are given -/
def giveI (a : Int) (W : List Int) (j : Nat) : List Int := (give j (nat W) (bases a.natAbs (sumN (nat W)) (nat W))).map (sg a)
def leftN (a : Int) (W : List Int) : Nat := a.natAbs - sumN (bases a.natAbs (sumN (nat W)) (nat W))
def okW (W : List Int) : Bool := decide (1 ≤ W.length ∧ W.length ≤ 1000) && W.all isRate && decide (sumI W ≠ 0)
def shE (a : Int) (W : List Int) : Int := if may a then (if okW W then 0 else 1) else 220
def shV (a : Int) (W : List Int) : List Int := if may a && okW W then sharesI a W else []
theorem nat_length (W : List Int) : (nat W).length = W.length := by simp [nat]
theorem sum_nat : ∀ W : List Int, W.all isRate = true → sumI W = (sumN (nat W) : Int) ∧ sumN (nat W) ≤ W.length * 1000000
  | [], _ => by simp [sumI, nat, sumN]
  | x :: W, h => by
    simp only [List.all_cons, Bool.and_eq_true] at h
    have h1 := (isRate_iff x).1 h.1
    obtain ⟨h2, h3⟩ := sum_nat W h.2
    have e : nat (x :: W) = x.toNat :: nat W := rfl
    simp only [e, sumI, sumN, List.length_cons, h2]
    omega
theorem okW_iff (W : List Int) : okW W = true ↔ 1 ≤ W.length ∧ W.length ≤ 1000 ∧ W.all isRate = true ∧ sumI W ≠ 0 := by
  unfold okW; simp only [Bool.and_eq_true, decide_eq_true_eq]; simp only [and_assoc]
theorem okW_pos {W : List Int} (h : okW W = true) : 0 < sumN (nat W) ∧ sumN (nat W) ≤ 1000000000 ∧ sumI W = (sumN (nat W) : Int) := by
  obtain ⟨_, h2, h3, h4⟩ := (okW_iff W).1 h
  obtain ⟨h5, h6⟩ := sum_nat W h3
  omega
theorem giveI_zero (a : Int) (W : List Int) : giveI a W 0 = basesI a W := by
  unfold giveI basesI; rw [give_zero _ _ (base_length _ _ _)]
theorem giveI_left (a : Int) (W : List Int) : giveI a W (leftN a W) = sharesI a W := rfl
theorem giveI_length (a : Int) (W : List Int) (j : Nat) : (giveI a W j).length = W.length := by
  unfold giveI; rw [List.length_map, give_length _ _ _ (base_length _ _ _), nat_length]
theorem sharesI_length (a : Int) (W : List Int) : (sharesI a W).length = W.length := giveI_length a W _
theorem basesI_length (a : Int) (W : List Int) : (basesI a W).length = W.length := by rw [← giveI_zero]; exact giveI_length a W 0
theorem sg_succ (a : Int) (x : Nat) : sg a (x + 1) = sg a x + (if a < 0 then -1 else 1) := by unfold sg; split <;> omega
theorem nat_at {W : List Int} {n : Nat} (h : n < W.length) (h' : n < (nat W).length) : (nat W)[n] = (W[n]).toNat := by simp [nat]
theorem giveI_next {a : Int} {W : List Int} {n : Nat} (h : n < W.length) (hw : 0 < W[n]) {y : Int} (hy : (giveI a W (cnt ((nat W).take n)))[n]? = some y) :
    giveI a W (cnt ((nat W).take n) + 1) = (giveI a W (cnt ((nat W).take n))).set n (y + (if a < 0 then -1 else 1)) := by
  unfold giveI at hy ⊢
  rw [List.getElem?_map] at hy
  obtain ⟨x, hx, e⟩ := Option.map_eq_some_iff.1 hy
  have h' : n < (nat W).length := by rw [nat_length]; exact h
  rw [give_next (nat W) _ n (base_length _ _ _) h' (by rw [nat_at h h']; omega) x hx, List.map_set, sg_succ, e]
theorem sumI_sg (a : Int) : ∀ l : List Nat, sumI (l.map (sg a)) = sg a (sumN l)
  | [] => by simp [sumI, sumN, sg]
  | x :: l => by
    simp only [List.map_cons, sumI, sumN, sumI_sg a l]
    unfold sg; split <;> omega
theorem left_sg {a : Int} {W : List Int} (h : okW W = true) : a - sumI (basesI a W) = sg a (leftN a W) ∧ leftN a W < cnt (nat W) ∧ leftN a W ≤ 1000 ∧ sumN (bases a.natAbs (sumN (nat W)) (nat W)) ≤ a.natAbs := by
  obtain ⟨h1, h2⟩ := left_bound a.natAbs (nat W) (okW_pos h).1
  have h3 := cnt_length (nat W)
  have h4 := (okW_iff W).1 h
  rw [nat_length] at h3
  refine ⟨?_, h2, by unfold leftN; omega, h1⟩
  unfold basesI
  rw [sumI_sg]
  unfold leftN sg
  split <;> omega
theorem shares_sumI {a : Int} {W : List Int} (h : okW W = true) : sumI (sharesI a W) = a := by
  unfold sharesI
  rw [sumI_sg, shares_sum _ _ (okW_pos h).1]
  unfold sg; split <;> omega
theorem sg_may {a : Int} {x : Nat} (h : x ≤ a.natAbs) (ha : may a = true) : may (sg a x) = true := by
  rw [may_iff] at ha ⊢
  unfold sg; split <;> omega
theorem shares_all {a : Int} {W : List Int} (h : okW W = true) (ha : may a = true) : (sharesI a W).all may = true := by
  rw [List.all_eq_true]
  intro y hy
  obtain ⟨x, hx, rfl⟩ := List.mem_map.1 hy
  obtain ⟨i, hi, rfl⟩ := List.getElem_of_mem hx
  exact sg_may (shares_le _ _ (okW_pos h).1 i hi) ha
theorem base_all {a : Int} {W : List Int} (h : okW W = true) (ha : may a = true) : (basesI a W).all may = true := by
  rw [List.all_eq_true]
  intro y hy
  obtain ⟨x, hx, rfl⟩ := List.mem_map.1 hy
  obtain ⟨i, hi, rfl⟩ := List.getElem_of_mem hx
  have := sum_ge _ i hi
  exact sg_may (Nat.le_trans this (left_sg (a := a) h).2.2.2) ha
/-- how a times w by all is reckoned: a is divided first -/
theorem portion_eq {a all w : Int} (hall : 0 < all) (hw : 0 ≤ w) : (a.tdiv all) * w + ((a.tmod all) * w).tdiv all = sg a (a.natAbs * w.toNat / all.toNat) := by
  obtain ⟨D, rfl⟩ := Int.eq_ofNat_of_zero_le (Int.le_of_lt hall)
  obtain ⟨n, rfl⟩ := Int.eq_ofNat_of_zero_le hw
  have hD : 0 < D := by omega
  have key := part_eq a.natAbs D n hD
  simp only [Int.toNat_natCast]
  by_cases hs : a < 0
  · obtain ⟨A, rfl⟩ : ∃ A : Nat, a = -(A : Int) := ⟨a.natAbs, by omega⟩
    rw [Int.neg_tdiv, Int.neg_tmod, ← Int.ofNat_tdiv, ← Int.ofNat_tmod, Int.neg_mul, Int.neg_mul, Int.neg_tdiv]
    rw [show ((A % D : Nat) : Int) * (n : Int) = ((A % D * n : Nat) : Int) from (Int.natCast_mul _ _).symm, ← Int.ofNat_tdiv]
    rw [show ((A / D : Nat) : Int) * (n : Int) = ((A / D * n : Nat) : Int) from (Int.natCast_mul _ _).symm]
    unfold sg
    rw [if_pos hs]
    simp only [Int.natAbs_neg, Int.natAbs_natCast] at key ⊢
    omega
  · obtain ⟨A, rfl⟩ := Int.eq_ofNat_of_zero_le (show 0 ≤ a by omega)
    rw [← Int.ofNat_tdiv, ← Int.ofNat_tmod]
    rw [show ((A % D : Nat) : Int) * (n : Int) = ((A % D * n : Nat) : Int) from (Int.natCast_mul _ _).symm, ← Int.ofNat_tdiv]
    rw [show ((A / D : Nat) : Int) * (n : Int) = ((A / D * n : Nat) : Int) from (Int.natCast_mul _ _).symm]
    unfold sg
    rw [if_neg hs]
    simp only [Int.natAbs_natCast] at key ⊢
    omega
end MP
end Go.Proofs.YtfaelefeiinbaaaDoor
