/- Layer 22: the program's Share. -/
import Derived.Test.YtfaelefeiinbaaaDoorMRow
namespace Go.Proofs.YtfaelefeiinbaaaDoor
open Go.RowKit MP

/-- numbers that a call has told, in a block of its own if there are any -/
def ToldI (w : World) (B : Nat) (v : Value) (X : List Int) : Prop := (v = .slice none 0 0 ∧ X = []) ∨ ∃ g c, v = .slice (some ⟨g, 0, none⟩) X.length c ∧ B ≤ g ∧ RowG w g X ∧ X.length ≤ c ∧ c ≤ maxLen
theorem ToldI.ints {w : World} {B : Nat} {v : Value} {X : List Int} (h : ToldI w B v X) : IntsAt w v X := by
  rcases h with ⟨rfl, rfl⟩ | ⟨g, c, rfl, _, h3, h4, h5⟩
  · exact ⟨none, 0, rfl, Nat.le_refl _, Nat.zero_le _, fun h => absurd rfl h⟩
  · exact h3.ints h4 h5
theorem ToldI.below {w w' : World} {B : Nat} {v : Value} {X : List Int} (h : ToldI w B v X) (hb : Below w.heap.size w w') : ToldI w' B v X := by
  rcases h with h | ⟨g, c, h1, h2, h3, h4⟩
  · exact Or.inl h
  · exact Or.inr ⟨g, c, h1, h2, h3.below hb, h4⟩
def ShareR (a : Int) (W : List Int) (w : World) (e : Ending) (w' : World) : Prop := ∃ v, e = .returned (.tuple #[v, .int .i64 (shE a W)]) ∧ ToldI w' w.heap.size v (shV a W) ∧ Below w.heap.size w w'

theorem share_no {a : Int} {W : List Int} {E : Int} (h : shE a W = E) (h0 : E ≠ 0) : shV a W = [] := by
  unfold shE at h
  unfold shV
  cases h1 : may a
  · rfl
  · rw [h1] at h
    cases h2 : okW W
    · rfl
    · rw [h2] at h
      exact absurd h.symm h0
theorem share_yes {a : Int} {W : List Int} (h1 : may a = true) (h2 : okW W = true) : shE a W = 0 ∧ shV a W = sharesI a W := by
  unfold shE shV
  rw [h1, h2]
  exact ⟨rfl, rfl⟩
theorem all_may {W : List Int} (h : W.all isRate = true) : W.all may = true := by
  rw [List.all_eq_true] at h ⊢
  intro x hx
  have := (isRate_iff x).1 (h x hx)
  exact (may_iff x).2 (by omega)
theorem base_at {a : Int} {W : List Int} (h : okW W = true) {i : Nat} (hi : i < W.length) : (basesI a W)[i]? = some (a.tdiv (sumI W) * W[i] + (a.tmod (sumI W) * W[i]).tdiv (sumI W)) := by
  obtain ⟨h1, h2, h3⟩ := okW_pos h
  have hr := (isRate_iff W[i]).1 (List.all_eq_true.1 ((okW_iff W).1 h).2.2.1 _ (List.getElem_mem hi))
  rw [portion_eq (by omega) hr.1]
  unfold basesI bases nat
  simp only [List.getElem?_map, List.getElem?_eq_getElem hi, Option.map_some]
  rw [h3]
  simp [nat]
theorem base_room {a : Int} {W : List Int} (ha : may a = true) (h : okW W = true) {i : Nat} (hi : i < W.length) : -1000000000000000000 ≤ a.tdiv (sumI W) * W[i] ∧ a.tdiv (sumI W) * W[i] ≤ 1000000000000000000 := by
  obtain ⟨h1, h2, h3⟩ := okW_pos h
  have hr := (isRate_iff W[i]).1 (List.all_eq_true.1 ((okW_iff W).1 h).2.2.1 _ (List.getElem_mem hi))
  have ha' := (may_iff a).1 ha
  have hw : W[i] ≤ sumI W := by
    have h' : i < (nat W).length := by rw [nat_length]; exact hi
    have := sum_ge (nat W) i h'
    rw [nat_at hi h'] at this
    omega
  have e := Int.mul_tdiv_add_tmod a (sumI W)
  have b := tmod_bound (a := a) (d := sumI W) (by omega)
  have k1 : (a.tdiv (sumI W)).natAbs * (W[i]).natAbs ≤ (a.tdiv (sumI W)).natAbs * (sumI W).natAbs := Nat.mul_le_mul_left _ (by omega)
  have k2 : (a.tdiv (sumI W)).natAbs * (sumI W).natAbs ≤ a.natAbs := by
    rw [Int.natAbs_tdiv]
    exact Nat.div_mul_le_self _ _
  rw [← Int.natAbs_mul] at k1
  omega

/-- the first n shares stand, the rest is 0 -/
def partW (a : Int) (W : List Int) (n : Nat) : List Int := (basesI a W).take n ++ List.replicate (W.length - n) 0
theorem partW_length {a : Int} {W : List Int} {n : Nat} (h : n ≤ W.length) : (partW a W n).length = W.length := by
  unfold partW; rw [List.length_append, List.length_take, basesI_length, List.length_replicate]; omega
theorem partW_end (a : Int) (W : List Int) : partW a W W.length = giveI a W 0 := by
  unfold partW
  rw [giveI_zero, List.take_of_length_le (by rw [basesI_length]; omega)]
  simp
theorem partW_next {a : Int} {W : List Int} {n : Nat} (h : n < W.length) {x : Int} (hx : (basesI a W)[n]? = some x) : (partW a W n).set n x = partW a W (n + 1) := by
  unfold partW
  have hl : ((basesI a W).take n).length = n := by rw [List.length_take, basesI_length]; omega
  have e : W.length - n = (W.length - (n + 1)) + 1 := by omega
  obtain ⟨hn, hx'⟩ := List.getElem?_eq_some_iff.1 hx
  rw [List.set_append_right _ _ (by omega), hl, Nat.sub_self, e, List.replicate_succ, List.set_cons_zero, take_snoc _ n hn, hx', List.append_assoc]
  rfl

theorem share_deal {a : Int} {v : Value} {W : List Int} {g : Nat} {w0 w : World} (hv : IntsAt w0 v W) (hb : Below w0.heap.size w0 w) (hg : w0.heap.size ≤ g) (hrow : RowG w g (giveI a W 0)) (hok : okW W = true) (ha : may a = true) :
    Calls Tryd.prog 40 #[.int .i64 (a - sumI (basesI a W)), .slice (some ⟨g, 0, none⟩) W.length W.length, v] w fun e w' => e = .returned (.tuple #[]) ∧ Below w0.heap.size w0 w' ∧ RowG w' g (sharesI a W) := by
  rw [(left_sg hok).1]
  unfold sg
  by_cases hs : a < 0
  · rw [if_pos hs]
    rcases Nat.eq_zero_or_pos (leftN a W) with h0 | h0
    · have := deal_up a v W g W.length 0 w0 w hv hb hg hrow hok ha h0.symm (fun h => absurd h (Nat.lt_irrefl _))
      rw [h0]
      exact this
    · exact deal_down a v W g W.length (leftN a W) w0 w hv hb hg hrow hok ha rfl (fun _ => by rw [if_pos hs]) h0
  · rw [if_neg hs]
    exact deal_up a v W g W.length (leftN a W) w0 w hv hb hg hrow hok ha rfl (fun _ => by rw [if_neg hs])
end Go.Proofs.YtfaelefeiinbaaaDoor
