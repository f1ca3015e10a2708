/- Layer 12 in plain words: order words as digits; a digit put in, and taken out. Nothing here speaks of a program. -/
import Derived.Test.YtoknebbkpkcomaaBase
import Derived.Laws.BitsAllLaws
import Derived.Laws.BitsLemmas
namespace Go.Proofs.Ytoknebbkpkcomaa

/-! ### digits -/
def val : List Nat → Nat
  | [] => 0
  | d :: r => d + 16 * val r
def Dig (L : List Nat) : Prop := ∀ d ∈ L, d < 16

theorem val_nil : val [] = 0 := rfl
theorem val_cons (d : Nat) (r : List Nat) : val (d :: r) = d + 16 * val r := rfl
theorem val_append : ∀ A B : List Nat, val (A ++ B) = val A + 16 ^ A.length * val B
  | [], B => by simp [val_nil]
  | d :: A, B => by
    rw [List.cons_append, val_cons, val_cons, val_append A B, List.length_cons, Nat.pow_succ, Nat.mul_add, Nat.mul_comm (16 ^ A.length) 16, Nat.mul_assoc]
    omega
theorem val_lt : ∀ L : List Nat, Dig L → val L < 16 ^ L.length
  | [], _ => by simp [val_nil]
  | d :: L, h => by
    have h1 := val_lt L (fun x hx => h x (List.mem_cons_of_mem _ hx))
    have h2 := h d (List.mem_cons_self ..)
    rw [val_cons, List.length_cons, Nat.pow_succ]
    omega
theorem Dig.left {A B : List Nat} (h : Dig (A ++ B)) : Dig A := fun x hx => h x (List.mem_append_left _ hx)
theorem Dig.right {A B : List Nat} (h : Dig (A ++ B)) : Dig B := fun x hx => h x (List.mem_append_right _ hx)
theorem val_mod {A B : List Nat} (h : Dig A) : val (A ++ B) % 16 ^ A.length = val A := by
  rw [val_append, Nat.add_mul_mod_self_left, Nat.mod_eq_of_lt (val_lt A h)]
theorem val_div {A B : List Nat} (h : Dig A) : val (A ++ B) / 16 ^ A.length = val B := by
  rw [val_append, Nat.add_mul_div_left _ _ (Nat.pow_pos (by decide)), Nat.div_eq_of_lt (val_lt A h), Nat.zero_add]
theorem val_inj : ∀ {A B : List Nat}, Dig A → Dig B → A.length = B.length → val A = val B → A = B
  | [], [], _, _, _, _ => rfl
  | [], _ :: _, _, _, h, _ => by simp at h
  | _ :: _, [], _, _, h, _ => by simp at h
  | a :: A, b :: B, hA, hB, hl, hv => by
    have ha := hA a (List.mem_cons_self ..)
    have hb := hB b (List.mem_cons_self ..)
    rw [val_cons, val_cons] at hv
    have h1 : a = b := by omega
    have h2 : val A = val B := by omega
    rw [h1, val_inj (fun x hx => hA x (List.mem_cons_of_mem _ hx)) (fun x hx => hB x (List.mem_cons_of_mem _ hx)) (by simpa using hl) h2]

def digits : Nat → Nat → List Nat
  | 0, _ => []
  | n + 1, w => w % 16 :: digits n (w / 16)
theorem digits_length : ∀ n w, (digits n w).length = n
  | 0, _ => rfl
  | n + 1, w => by rw [digits, List.length_cons, digits_length n]
theorem digits_dig : ∀ n w, Dig (digits n w)
  | 0, _, _, h => by cases h
  | n + 1, w, x, h => by
    rw [digits] at h
    rcases List.mem_cons.1 h with rfl | h
    · omega
    · exact digits_dig n _ x h
theorem val_digits : ∀ n w, w < 16 ^ n → val (digits n w) = w
  | 0, w, h => by
    have : w = 0 := by simpa using h
    subst this
    rfl
  | n + 1, w, h => by
    rw [Nat.pow_succ] at h
    rw [digits, val_cons, val_digits n (w / 16) (by omega)]
    omega

/-! ### a word: how many are used, and fifteen slots -/
structure Wd (W : Int) (u : Nat) (l : List Nat) : Prop where
  eq : W = (val (u :: l) : Nat)
  u16 : u < 16
  len : l.length = 15
  dig : Dig l

theorem pow16 : (16 : Nat) ^ 16 = 18446744073709551616 := by decide
theorem Wd.all {W : Int} {u : Nat} {l : List Nat} (h : Wd W u l) : Dig (u :: l) := fun x hx => by
  rcases List.mem_cons.1 hx with rfl | hx
  · exact h.u16
  · exact h.dig x hx
theorem Wd.range {W : Int} {u : Nat} {l : List Nat} (h : Wd W u l) : 0 ≤ W ∧ W < 18446744073709551616 := by
  have h1 := val_lt _ h.all
  rw [List.length_cons, h.len, pow16] at h1
  have := h.eq
  omega
theorem wd_of {W : Int} (h0 : 0 ≤ W) (h1 : W < 18446744073709551616) : ∃ u l, Wd W u l := by
  obtain ⟨X, rfl⟩ := Int.eq_ofNat_of_zero_le h0
  have hX : X < 16 ^ 16 := by rw [pow16]; omega
  refine ⟨X % 16, digits 15 (X / 16), ?_, by omega, digits_length _ _, digits_dig _ _⟩
  rw [show X % 16 :: digits 15 (X / 16) = digits 16 X from rfl, val_digits 16 X hX]
theorem Wd.inj {W : Int} {u v : Nat} {l m : List Nat} (h : Wd W u l) (k : Wd W v m) : u = v ∧ l = m := by
  have h1 : (val (u :: l) : Int) = (val (v :: m) : Nat) := h.eq.symm.trans k.eq
  have h2 := val_inj h.all k.all (by simp [h.len, k.len]) (by omega)
  injection h2 with h3 h4
  exact ⟨h3, h4⟩
theorem Wd.used {W : Int} {u : Nat} {l : List Nat} (h : Wd W u l) : W % 16 = u := by
  have h1 := h.eq
  have h2 := h.u16
  rw [val_cons] at h1
  omega

/-- the power of a place -/
def pw (a : Nat) : Nat := 16 ^ (a + 1)
theorem pw_two (a : Nat) : pw a = 2 ^ (4 * (a + 1)) := by unfold pw; rw [show (16 : Nat) = 2 ^ 4 from rfl, ← Nat.pow_mul]
theorem pw_le {a : Nat} (h : a ≤ 14) : pw a ≤ 1152921504606846976 := by
  have : pw a ≤ pw 14 := Nat.pow_le_pow_right (by decide) (by omega)
  exact this
theorem pw_ge (a : Nat) : 16 ≤ pw a := by
  have : 16 ^ 1 ≤ pw a := Nat.pow_le_pow_right (by decide) (by omega)
  exact this

/-- the digits ahead of a place, and those from there on -/
theorem split_at {L : List Nat} {k : Nat} (h : k ≤ L.length) : ∃ A B, L = A ++ B ∧ A.length = k := ⟨L.take k, L.drop k, (List.take_append_drop k L).symm, by simp [h]⟩

theorem ins_here (s : Nat) : ∀ A B : List Nat, (A ++ B).insertIdx A.length s = A ++ s :: B
  | [], B => rfl
  | x :: A, B => by rw [List.cons_append, List.length_cons, List.insertIdx_succ_cons, ins_here s A B, List.cons_append]
theorem ins_left (s : Nat) (B : List Nat) : ∀ (A : List Nat) (a : Nat), a ≤ A.length → (A ++ B).insertIdx a s = A.insertIdx a s ++ B
  | A, 0, _ => by rw [List.insertIdx_zero, List.insertIdx_zero, List.cons_append]
  | [], a + 1, h => by simp at h
  | x :: A, a + 1, h => by rw [List.cons_append, List.insertIdx_succ_cons, List.insertIdx_succ_cons, ins_left s B A a (by simpa using h), List.cons_append]
theorem erase_ins {α : Type} : ∀ (l : List α) (j : Nat) (h : j < l.length), (l.eraseIdx j).insertIdx j l[j] = l
  | x :: l, 0, _ => rfl
  | x :: l, j + 1, h => by rw [List.eraseIdx_cons_succ, List.insertIdx_succ_cons, List.getElem_cons_succ, erase_ins l j (by simpa using h)]

def tk (L : List Nat) (k : Nat) : List Nat := L.eraseIdx k ++ [0]
def pt (L : List Nat) (k s : Nat) : List Nat := (L.insertIdx k s).dropLast

theorem slot_val {L : List Nat} (hL : Dig L) (hl : L.length = 16) {a : Nat} (ha : a ≤ 14) : val L / pw a % 16 = L[a + 1]'(by omega) := by
  obtain ⟨A, B, rfl, hA⟩ := split_at (L := L) (k := a + 1) (by omega)
  have h1 := val_div (A := A) (B := B) hL.left
  rw [hA] at h1
  unfold pw
  rw [h1]
  cases B with
  | nil => simp at hl; omega
  | cons b B =>
    have hb := hL b (by simp)
    have h2 : (A ++ b :: B)[a + 1]? = some b := by rw [← hA]; simp
    rw [(List.getElem?_eq_some_iff.1 h2).2, val_cons]
    omega

theorem take_val {L : List Nat} (hL : Dig L) (hl : L.length = 16) {a : Nat} (ha : a ≤ 14) : val L % pw a + (val L / 16 - val L / 16 % pw a) = val (tk L (a + 1)) := by
  obtain ⟨A, B, rfl, hA⟩ := split_at (L := L) (k := a + 1) (by omega)
  cases B with
  | nil => simp at hl; omega
  | cons b B =>
    have hb := hL b (by simp)
    have e1 : val (A ++ b :: B) % pw a = val A := by unfold pw; rw [← hA, val_mod hL.left]
    have e2 : val (A ++ b :: B) / 16 / pw a = val B := by
      have := val_div (A := A) (B := b :: B) hL.left
      rw [hA] at this
      unfold pw
      rw [Nat.div_div_eq_div_mul, Nat.mul_comm, ← Nat.div_div_eq_div_mul, this, val_cons]
      omega
    have e3 : tk (A ++ b :: B) (a + 1) = A ++ (B ++ [0]) := by
      unfold tk
      rw [← hA, List.eraseIdx_append_of_length_le (Nat.le_refl _), Nat.sub_self, List.append_assoc]
      rfl
    have e4 : val (A ++ (B ++ [0])) = val A + pw a * val B := by
      rw [val_append, val_append, hA]
      have : val [0] = 0 := rfl
      rw [this, Nat.mul_zero, Nat.add_zero]
      rfl
    have e5 := Nat.div_add_mod (val (A ++ b :: B) / 16) (pw a)
    rw [e2] at e5
    rw [e1, e3, e4]
    omega

theorem put_val {L : List Nat} (hL : Dig L) (hl : L.length = 16) {a s : Nat} (ha : a ≤ 14) : val L % pw a + s * pw a + (val L - val L % pw a) * 16 % 18446744073709551616 = val (pt L (a + 1) s) := by
  obtain ⟨A, B, rfl, hA⟩ := split_at (L := L) (k := a + 1) (by omega)
  have hB : B ≠ [] := by rintro rfl; simp at hl; omega
  obtain ⟨C, c, rfl⟩ : ∃ C c, B = C ++ [c] := ⟨B.dropLast, B.getLast hB, (List.dropLast_concat_getLast hB).symm⟩
  have hC : C.length = 14 - a := by simp at hl; omega
  have e1 : val (A ++ (C ++ [c])) % pw a = val A := by unfold pw; rw [← hA, val_mod hL.left]
  have e2 : val (A ++ (C ++ [c])) - val A = pw a * val (C ++ [c]) := by rw [val_append, hA]; unfold pw; omega
  have e3 : pt (A ++ (C ++ [c])) (a + 1) s = A ++ s :: C := by
    unfold pt
    rw [← hA, ins_here, ← List.cons_append, ← List.append_assoc, List.dropLast_concat]
  have e4 : pw a * val (C ++ [c]) * 16 % 18446744073709551616 = pw a * 16 * val C := by
    have h1 : (18446744073709551616 : Nat) = pw a * 16 * 16 ^ C.length := by
      rw [hC]; unfold pw
      rw [← Nat.pow_succ, ← Nat.pow_add, show a + 1 + 1 + (14 - a) = 16 by omega]
    rw [Nat.mul_right_comm, h1, Nat.mul_mod_mul_left, val_mod (hL.right.left)]
  rw [e1, e2, e3, e4, val_append, hA, val_cons, Nat.mul_add]
  show val A + s * pw a + pw a * 16 * val C = val A + (pw a * s + pw a * (16 * val C))
  rw [Nat.mul_comm s, Nat.mul_assoc (pw a) 16]
  omega

/-! ### one put in, one taken out -/
def insW (l : List Nat) (u a : Nat) : List Nat := (l.eraseIdx u).insertIdx a (l.getD u 0)
def remW (l : List Nat) (u a : Nat) : List Nat := (l.eraseIdx a).insertIdx (u - 1) (l.getD a 0)

theorem pt_tk {l : List Nat} {u j a s : Nat} (hl : l.length = 15) (hj : j < 15) (ha : a ≤ 14) : pt (tk (u :: l) (j + 1)) (a + 1) s = u :: (l.eraseIdx j).insertIdx a s := by
  unfold pt tk
  rw [List.eraseIdx_cons_succ, List.cons_append, List.insertIdx_succ_cons]
  have h1 : (l.eraseIdx j).length = 14 := by rw [List.length_eraseIdx_of_lt (by omega)]; omega
  have h2 : (l.eraseIdx j ++ [0]).insertIdx a s = (l.eraseIdx j).insertIdx a s ++ [0] := ins_left s [0] _ a (by omega)
  rw [h2, ← List.cons_append, List.dropLast_concat]

theorem tk_dig {L : List Nat} (h : Dig L) (k : Nat) : Dig (tk L k) := fun x hx => by
  rcases List.mem_append.1 hx with hx | hx
  · exact h x (List.mem_of_mem_eraseIdx hx)
  · rw [List.mem_singleton.1 hx]; decide
theorem tk_length {L : List Nat} (h : L.length = 16) {k : Nat} (hk : k < 16) : (tk L k).length = 16 := by
  unfold tk
  rw [List.length_append, List.length_eraseIdx_of_lt (by omega), List.length_singleton]
  omega
theorem ins_dig {l : List Nat} (h : Dig l) (j a s : Nat) (hs : s < 16) : Dig ((l.eraseIdx j).insertIdx a s) := fun x hx => by
  by_cases ha : a ≤ (l.eraseIdx j).length
  · rcases (List.mem_insertIdx ha).1 hx with rfl | hx
    · exact hs
    · exact h x (List.mem_of_mem_eraseIdx hx)
  · rw [List.insertIdx_of_length_lt (by omega)] at hx
    exact h x (List.mem_of_mem_eraseIdx hx)
theorem ins_length {l : List Nat} (h : l.length = 15) {j a s : Nat} (hj : j < 15) (ha : a ≤ 14) : ((l.eraseIdx j).insertIdx a s).length = 15 := by
  have h1 : (l.eraseIdx j).length = 14 := by rw [List.length_eraseIdx_of_lt (by omega)]; omega
  rw [List.length_insertIdx_of_le_length (by omega), h1]

theorem getD_lt {l : List Nat} (h : Dig l) (j : Nat) : l.getD j 0 < 16 := by
  rw [List.getD_eq_getElem?_getD]
  cases hj : l[j]? with
  | none => decide
  | some x => exact h x (List.mem_of_getElem? hj)

theorem Wd.ins {W : Int} {u : Nat} {l : List Nat} (h : Wd W u l) {a : Nat} (hu : u < 15) (ha : a ≤ u) {W' : Int} (hW : W' = ((val (pt (tk (u :: l) (u + 1)) (a + 1) (l.getD u 0)) : Nat) : Int) + 1) : Wd W' (u + 1) (insW l u a) := by
  rw [pt_tk h.len hu (by omega), val_cons] at hW
  exact ⟨by rw [val_cons]; unfold insW; omega, by omega, ins_length h.len hu (by omega), ins_dig h.dig _ _ _ (getD_lt h.dig _)⟩
theorem Wd.rem {W : Int} {u : Nat} {l : List Nat} (h : Wd W u l) {a : Nat} (ha : a < u) {W' : Int} (hW : W' = ((val (pt (tk (u :: l) (a + 1)) (u - 1 + 1) (l.getD a 0)) : Nat) : Int) - 1) : Wd W' (u - 1) (remW l u a) := by
  have hu := h.u16
  rw [pt_tk h.len (by omega) (by omega), val_cons] at hW
  exact ⟨by rw [val_cons]; unfold remW; omega, by omega, ins_length h.len (by omega) (by omega), ins_dig h.dig _ _ _ (getD_lt h.dig _)⟩

/-! ### which may be -/
def May (l : List Nat) : Prop := l.Nodup ∧ ∀ x ∈ l, x < 15
/-- what Check tells -/
def chk (l : List Nat) : Int := if l.Nodup ∧ (∀ x ∈ l, x < 15) then 0 else 4
theorem chk_yes {l : List Nat} (h : May l) : chk l = 0 := if_pos h
theorem chk_no {l : List Nat} (h : ¬ May l) : chk l = 4 := if_neg h

/-- the bits of the slots -/
def told : List Nat → Nat
  | [] => 0
  | x :: l => 2 ^ x ||| told l
theorem told_bit (i : Nat) : ∀ l : List Nat, (told l).testBit i = decide (i ∈ l)
  | [] => by simp [told]
  | x :: l => by
    rw [told, Nat.testBit_or, told_bit i l, Nat.testBit_two_pow]
    by_cases h : x = i
    · subst h; simp
    · have h2 : ¬ i = x := fun e => h e.symm
      simp [h, h2]
theorem told_snoc (l : List Nat) (x : Nat) : told (l ++ [x]) = told l ||| 2 ^ x := by
  apply Nat.eq_of_testBit_eq
  intro i
  rw [told_bit, Nat.testBit_or, told_bit, Nat.testBit_two_pow]
  by_cases h : x = i
  · subst h; simp
  · have h2 : ¬ i = x := fun e => h e.symm
    simp [h, h2]
theorem told_lt : ∀ {l : List Nat}, Dig l → told l < 65536
  | [], _ => by decide
  | x :: l, h => by
    have h1 := told_lt (l := l) (fun y hy => h y (List.mem_cons_of_mem _ hy))
    have h2 := h x (List.mem_cons_self ..)
    have h3 : 2 ^ x < 2 ^ 16 := Nat.pow_lt_pow_right (by decide) h2
    exact Nat.or_lt_two_pow (n := 16) h3 h1
theorem told_all {l : List Nat} : told l = 32767 ↔ ∀ i, i ∈ l ↔ i < 15 := by
  constructor
  · intro h i
    have h1 := told_bit i l
    rw [h, show (32767 : Nat) = 2 ^ 15 - 1 from rfl, Nat.testBit_two_pow_sub_one] at h1
    have h2 : decide (i < 15) = decide (i ∈ l) := h1
    simp only [decide_eq_decide] at h2
    exact h2.symm
  · intro h
    apply Nat.eq_of_testBit_eq
    intro i
    rw [told_bit, show (32767 : Nat) = 2 ^ 15 - 1 from rfl, Nat.testBit_two_pow_sub_one]
    simp only [decide_eq_decide]
    exact h i

theorem may_iff {l : List Nat} (hl : l.length = 15) : May l ↔ ∀ i, i ∈ l ↔ i < 15 := by
  constructor
  · rintro ⟨h1, h2⟩ i
    refine ⟨h2 i, fun hi => ?_⟩
    by_cases hm : i ∈ l
    · exact hm
    · exfalso
      have h3 : (i :: l).Nodup := List.nodup_cons.2 ⟨hm, h1⟩
      have h4 := h3.length_le_of_subset (l₂ := List.range 15) (fun x hx => by
        rcases List.mem_cons.1 hx with rfl | hx
        · exact List.mem_range.2 hi
        · exact List.mem_range.2 (h2 x hx))
      simp at h4
      omega
  · intro h
    refine ⟨?_, fun x hx => (h x).1 hx⟩
    rw [List.nodup_iff_count]
    intro x
    by_cases hx : 1 < l.count x
    · exfalso
      have hxl : x ∈ l := List.count_pos_iff.1 (by omega)
      have hxe : x ∈ l.erase x := List.count_pos_iff.1 (by rw [List.count_erase_self]; omega)
      have h3 := (List.nodup_range (n := 15)).length_le_of_subset (l₂ := l.erase x) (fun y hy => by
        have hyl := (h y).2 (List.mem_range.1 hy)
        by_cases e : y = x
        · rw [e]; exact hxe
        · exact (List.mem_erase_of_ne e).2 hyl)
      rw [List.length_range, List.length_erase_of_mem hxl] at h3
      omega
    · omega

theorem told_may {l : List Nat} (hl : l.length = 15) : told l = 32767 ↔ May l := by rw [may_iff hl, told_all]

theorem May.ins {l : List Nat} (h : May l) {j : Nat} (hj : j < l.length) (a : Nat) (ha : a ≤ l.length - 1) : May ((l.eraseIdx j).insertIdx a (l.getD j 0)) := by
  have hp : ((l.eraseIdx j).insertIdx a (l.getD j 0)).Perm l := by
    have h1 : ((l.eraseIdx j).insertIdx a (l.getD j 0)).Perm (l.getD j 0 :: l.eraseIdx j) := List.perm_insertIdx _ _ (by rw [List.length_eraseIdx_of_lt hj]; omega)
    refine h1.trans ?_
    have h2 := List.perm_insertIdx l[j] (l.eraseIdx j) (i := j) (by rw [List.length_eraseIdx_of_lt hj]; omega)
    rw [erase_ins l j hj] at h2
    rw [List.getD_eq_getElem?_getD, List.getElem?_eq_getElem hj]
    exact h2.symm
  exact ⟨hp.nodup_iff.2 h.1, fun x hx => h.2 x (hp.mem_iff.1 hx)⟩

theorem getD_of {l : List Nat} {j : Nat} (h : j < l.length) : l.getD j 0 = l[j] := by simp [List.getD_eq_getElem?_getD, h]

/-- one put in and taken out again -/
theorem rem_ins {l : List Nat} {u a : Nat} (hl : l.length = 15) (hu : u < 15) (ha : a ≤ u) : remW (insW l u a) (u + 1) a = l ∧ (insW l u a).getD a 0 = l.getD u 0 := by
  have h1 : (l.eraseIdx u).length = 14 := by rw [List.length_eraseIdx_of_lt (by omega)]; omega
  have h2 : (insW l u a).getD a 0 = l.getD u 0 := by
    have : a < ((l.eraseIdx u).insertIdx a (l.getD u 0)).length := by rw [ins_length hl hu (by omega)]; omega
    unfold insW
    rw [getD_of this, List.getElem_insertIdx_self]
  refine ⟨?_, h2⟩
  unfold remW
  rw [h2]
  unfold insW
  rw [List.eraseIdx_insertIdx_self, Nat.add_sub_cancel, getD_of (by omega), erase_ins l u (by omega)]

end Go.Proofs.Ytoknebbkpkcomaa
