import Derived.Test.YtigegdelhpdlhaaGreatDoorLayCJ
import Derived.Test.YtigegdelhpdlhaaGreatDoorBase
import Derived.Laws.BitsAllLaws
import Derived.Laws.BitsLemmas
import Derived.Test.YtigegdelhpdlhaaGreatDoorProg
import Derived.Test.YtigegdelhpdlhaaGreatDoorKValJ
import Derived.OwnWalk
import Derived.WalkMore
/- Layer 18: wal's reader: numbers, sizes, texts, flags, rows of one whole number. -/
namespace Go.Proofs.YtigegdelhpdlhaaGreatDoor
open Go.RowKit QP

section
variable {b : Nat} {B : List Nat} {w : World}
set_option maxRecDepth 100000 in
set_option maxHeartbeats 1000000 in
theorem jrnumber_any (n : Nat) (h : JrI b (lo n 8 ++ B) w) (hn : n < 18446744073709551616) (hB : B.length ≤ 100000) :
    Calls Tryz.prog 148 #[.pointer (some ⟨b, 0, none⟩)] w fun e w' => e = .returned (.int .u64 (n : Int)) ∧ JrI b B w' ∧ AtJ b w w' := by
  have HT : Hid (Calls Tryz.prog 171 #[.pointer (some ⟨b, 0, none⟩), .int .i64 8] w fun e w' => e = .returned (.string (ofN (lo n 8))) ∧ Hid (JrI b B w' ∧ AtJ b w w')) := by
    have := jtake_any b (lo n 8) B w h (by rw [List.length_append, lo_length]; omega)
    rw [lo_length] at this
    exact this
  have HN : Hid (∀ u, Calls Tryz.prog 100 #[.string (ofN (lo n 8))] u fun e w' => e = .returned (.int .u64 (n : Int)) ∧ Below u.heap.size u w') := fun u => numOf_any n u hn
  clear h
  go_enter Tryz.func148, Tryz.ntmps148
  go_wp2_with (first
    | (go_at_call 171; (with_reducible refine HT.out.mono ?_); rintro e w1 ⟨rfl, K1⟩)
    | (go_at_call 100; (with_reducible refine (HN.out _).mono ?_); rintro e w2 ⟨rfl, hb2⟩))
  go_ret
  exact ⟨rfl, K1.out.1.below hb2, K1.out.2.trans (Turn.ofBelow _ hb2)⟩

set_option maxRecDepth 100000 in
set_option maxHeartbeats 1000000 in
theorem jrsize_any (n most : Nat) (h : JrI b (lo n 8 ++ B) w) (hn : n ≤ most) (hm : most ≤ 100000) (hB : B.length ≤ 100000) :
    Calls Tryz.prog 172 #[.pointer (some ⟨b, 0, none⟩), .int .i64 (most : Int)] w fun e w' => e = .returned (.int .i64 (n : Int)) ∧ JrI b B w' ∧ AtJ b w w' := by
  have HN : Hid (Calls Tryz.prog 148 #[.pointer (some ⟨b, 0, none⟩)] w fun e w' => e = .returned (.int .u64 (n : Int)) ∧ Hid (JrI b B w' ∧ AtJ b w w')) := jrnumber_any n h (by omega) hB
  have HRf : Hid (∀ u, Calls Tryz.prog 55 #[.bool false, .int .i64 180] u fun r w' => r = .returned (.tuple #[]) ∧ u = w') := fun u => (refuse_no 180 u).mono fun _ _ h => ⟨h.1, h.2.symm⟩
  have k1 : decide (most < n) = false := decide_eq_false (by omega)
  have wm : IntKind.u64.wrap (most : Int) = (most : Int) := by
    simp [IntKind.wrap, IntKind.bits, IntKind.signed]
    omega
  have wm2 : (most : Int) % 18446744073709551616 = (most : Int) := by omega
  have wn : IntKind.i64.wrap (n : Int) = (n : Int) := jwrapI (by omega) (by omega)
  clear h
  go_enter Tryz.func172, Tryz.ntmps172
  go_wp2_with (first
    | (go_at_call 148; (with_reducible refine HN.out.mono ?_); rintro e w1 ⟨rfl, K1⟩)
    | (go_at_call 55; (with_reducible refine (HRf.out _).mono ?_); rintro e w2 ⟨rfl, rfl⟩))
  go_ret
  exact ⟨rfl, K1.out⟩

set_option maxRecDepth 100000 in
set_option maxHeartbeats 1000000 in
theorem jrtext_any (s : ByteArray) (h : JrI b (lo s.size 8 ++ (nb s ++ B)) w) (hs : s.size ≤ 4096) (hB : B.length ≤ 10000) :
    Calls Tryz.prog 173 #[.pointer (some ⟨b, 0, none⟩)] w fun e w' => e = .returned (.string s) ∧ JrI b B w' ∧ AtJ b w w' := by
  have H1 : Hid (Calls Tryz.prog 172 #[.pointer (some ⟨b, 0, none⟩), .int .i64 4096] w fun e w' => e = .returned (.int .i64 (s.size : Int)) ∧ Hid (JrI b (nb s ++ B) w' ∧ AtJ b w w')) := jrsize_any s.size 4096 h hs (by decide) (by rw [List.length_append, nb_length]; omega)
  have H2 : Hid (∀ u, JrI b (nb s ++ B) u → Calls Tryz.prog 171 #[.pointer (some ⟨b, 0, none⟩), .int .i64 (s.size : Int)] u fun e w' => e = .returned (.string s) ∧ Hid (JrI b B w' ∧ AtJ b u w')) := fun u hu => by
    have := jtake_any b (nb s) B u hu (by rw [List.length_append, nb_length]; omega)
    rw [nb_length, ofN_nb] at this
    exact this
  have H3 : Hid (∀ u, Calls Tryz.prog 146 #[.string s] u fun e w' => e = .returned (.string s) ∧ Below u.heap.size u w') := fun u => sClone_any s u (by omega)
  clear h
  go_enter Tryz.func173, Tryz.ntmps173
  go_wp2_with (first
    | (go_at_call 172; (with_reducible refine H1.out.mono ?_); rintro e w1 ⟨rfl, K1⟩; have H2' := H2.out w1 K1.out.1)
    | (go_at_call 171; (with_reducible refine H2'.mono ?_); rintro e w2 ⟨rfl, K2⟩; clear H2')
    | (go_at_call 146; (with_reducible refine (H3.out _).mono ?_); rintro e w3 ⟨rfl, hb3⟩))
  go_ret
  exact ⟨rfl, K2.out.1.below hb3, (K1.out.2.trans K2.out.2).trans (Turn.ofBelow _ hb3)⟩

set_option maxRecDepth 100000 in
set_option maxHeartbeats 1000000 in
theorem jrflag_any (h : JrI b ([0] ++ B) w) (hB : B.length ≤ 10000) :
    Calls Tryz.prog 174 #[.pointer (some ⟨b, 0, none⟩)] w fun e w' => e = .returned (.bool false) ∧ JrI b B w' ∧ AtJ b w w' := by
  have H1 : Hid (Calls Tryz.prog 171 #[.pointer (some ⟨b, 0, none⟩), .int .i64 1] w fun e w' => e = .returned (.string ⟨#[0]⟩) ∧ Hid (JrI b B w' ∧ AtJ b w w')) := jtake_any b [0] B w h (by simp; omega)
  have HRf : Hid (∀ u, Calls Tryz.prog 55 #[.bool false, .int .i64 180] u fun r w' => r = .returned (.tuple #[]) ∧ u = w') := fun u => (refuse_no 180 u).mono fun _ _ h => ⟨h.1, h.2.symm⟩
  clear h
  go_enter Tryz.func174, Tryz.ntmps174
  go_wp2_with (first
    | (go_at_call 171; (with_reducible refine H1.out.mono ?_); rintro e w1 ⟨rfl, K1⟩)
    | (go_at_call 55; (with_reducible refine (HRf.out _).mono ?_); rintro e w2 ⟨rfl, rfl⟩))
  go_ret
  exact ⟨rfl, K1.out⟩

set_option maxRecDepth 100000 in
set_option maxHeartbeats 1000000 in
theorem jrrow_any (n : Nat) (h : JrI b (lo 10 8 ++ (rowB n ++ B)) w) (hn : n < 9223372036854775808) (hB : B.length ≤ 10000) :
    Calls Tryz.prog 175 #[.pointer (some ⟨b, 0, none⟩)] w fun e w' => ∃ x, e = .returned (.slice (some ⟨x, 0, none⟩) 1 1) ∧ Hid (OneAt w' x 2 (n : Int) ByteArray.empty ∧ w.heap.size ≤ x) ∧ Hid (JrI b B w' ∧ AtJ b w w') := by
  have H1 : Hid (Calls Tryz.prog 172 #[.pointer (some ⟨b, 0, none⟩), .int .i64 65536] w fun e w' => e = .returned (.int .i64 10) ∧ Hid (JrI b (rowB n ++ B) w' ∧ AtJ b w w')) := jrsize_any 10 65536 h (by decide) (by decide) (by rw [List.length_append, rowB_length]; omega)
  have H2 : Hid (∀ u, JrI b (rowB n ++ B) u → Calls Tryz.prog 171 #[.pointer (some ⟨b, 0, none⟩), .int .i64 10] u fun e w' => e = .returned (.string (ofN (rowB n))) ∧ Hid (JrI b B w' ∧ AtJ b u w')) := fun u hu => by
    have := jtake_any b (rowB n) B u hu (by rw [List.length_append, rowB_length]; omega)
    rw [rowB_length] at this
    exact this
  have H3 : Hid (∀ u, Calls Tryz.prog 185 #[.string (ofN (rowB n))] u fun e w' => ∃ x, e = .returned (.tuple #[.slice (some ⟨x, 0, none⟩) 1 1, .agg #[.int .i64 0, .int .i64 0]]) ∧ Hid (OneAt w' x 2 (n : Int) ByteArray.empty ∧ u.heap.size ≤ x) ∧ Hid (Below u.heap.size u w')) := fun u => vdecode_any n u hn
  have HRf : Hid (∀ u, Calls Tryz.prog 55 #[.bool false, .int .i64 180] u fun r w' => r = .returned (.tuple #[]) ∧ u = w') := fun u => (refuse_no 180 u).mono fun _ _ h => ⟨h.1, h.2.symm⟩
  clear h
  go_enter Tryz.func175, Tryz.ntmps175
  go_wp2_with (first
    | (go_at_call 172; (with_reducible refine H1.out.mono ?_); rintro e w1 ⟨rfl, K1⟩; have H2' := H2.out w1 K1.out.1)
    | (go_at_call 171; (with_reducible refine H2'.mono ?_); rintro e w2 ⟨rfl, K2⟩; clear H2')
    | (go_at_call 185; (with_reducible refine (H3.out _).mono ?_); rintro e w3 ⟨x, rfl, K3, HB3⟩)
    | (go_at_call 55; (with_reducible refine (HRf.out _).mono ?_); rintro e w4 ⟨rfl, rfl⟩))
  go_ret
  have hbA := (Below.refl w3.heap.size w3).alloc (Nat.le_refl _) (.cells #[.int .i64 0, .int .i64 0] 176)
  have hs : w.heap.size ≤ w2.heap.size := (K1.out.2.trans K2.out.2).size
  refine ⟨x, rfl, ⟨K3.out.1.below hbA, Nat.le_trans hs K3.out.2⟩, (K2.out.1.below HB3.out).below hbA, ((K1.out.2.trans K2.out.2).trans (Turn.ofBelow _ HB3.out)).trans (Turn.ofBelow _ hbA)⟩
end
end Go.Proofs.YtigegdelhpdlhaaGreatDoor

/- Layer 9 in plain words: words, their numbers and parts, the next word. Nothing here speaks of a program. -/
namespace Go.Proofs.YtigegdelhpdlhaaGreatDoor

def b1 (b : Bool) : Int := if b then 1 else 0
def num (x : Int) : Int := x - x % 8
def may (x : Int) : Bool := decide (x / 8388608 ≤ 2147483648)
def wordOf (e s : Int) (l a t : Bool) : Int := e * 8388608 + s * 8 + b1 t * 4 + b1 a * 2 + b1 l
def within (n m : Int) : Bool := decide (0 ≤ n ∧ n ≤ m)
def packs (e s : Int) : Bool := within e 2147483648 && within s 1048575
def packW (e s : Int) (l a t : Bool) : Int := if packs e s then wordOf e s l a t else 0
def packE (e s : Int) : Int := if packs e s then 0 else 1

theorem b1_range (b : Bool) : 0 ≤ b1 b ∧ b1 b ≤ 1 := by cases b <;> simp [b1]

/-! ### bits -/
theorem or_join {x y : Int} (i : Nat) (hx0 : 0 ≤ x) (hx : x % 2 ^ i = 0) (hx1 : x < 18446744073709551616) (hy0 : 0 ≤ y) (hy : y < 2 ^ i) (hy1 : y < 18446744073709551616) : bits .or .u64 x y = x + y :=
  bits_join .u64 64 (by decide) (fun n h0 h1 => by rw [IntKind.wrap_u64]; omega) i x y hx0 hx (by omega) hy0 hy (by omega)

theorem nat_seq (X : Nat) : X &&& 8388600 = X / 8 % 1048576 * 8 := by
  have h1 : (X &&& 8388600) / 2 ^ 3 = X / 2 ^ 3 &&& 8388600 / 2 ^ 3 := Nat.and_div_two_pow
  have h2 : (X &&& 8388600) % 2 ^ 3 = X % 2 ^ 3 &&& 8388600 % 2 ^ 3 := Nat.and_mod_two_pow
  have h3 : (8388600 / 2 ^ 3 : Nat) = 2 ^ 20 - 1 := by decide
  have h4 : (8388600 % 2 ^ 3 : Nat) = 0 := by decide
  rw [h3, Nat.and_two_pow_sub_one_eq_mod] at h1
  rw [h4, Nat.and_zero] at h2
  omega

theorem nat_num (X : Nat) (h : X < 18446744073709551616) : X &&& 18446744073709551608 = X - X % 8 := by
  have h1 : (X &&& 18446744073709551608) / 2 ^ 3 = X / 2 ^ 3 &&& 18446744073709551608 / 2 ^ 3 := Nat.and_div_two_pow
  have h2 : (X &&& 18446744073709551608) % 2 ^ 3 = X % 2 ^ 3 &&& 18446744073709551608 % 2 ^ 3 := Nat.and_mod_two_pow
  have h3 : (18446744073709551608 / 2 ^ 3 : Nat) = 2 ^ 61 - 1 := by decide
  have h4 : (18446744073709551608 % 2 ^ 3 : Nat) = 0 := by decide
  rw [h3, Nat.and_two_pow_sub_one_eq_mod] at h1
  rw [h4, Nat.and_zero] at h2
  omega

theorem nat_two (X : Nat) : X &&& 2 = X / 2 % 2 * 2 := by
  have h1 : (X &&& 2) / 2 ^ 1 = X / 2 ^ 1 &&& 2 / 2 ^ 1 := Nat.and_div_two_pow
  have h2 : (X &&& 2) % 2 ^ 1 = X % 2 ^ 1 &&& 2 % 2 ^ 1 := Nat.and_mod_two_pow
  have h3 : (2 / 2 ^ 1 : Nat) = 2 ^ 1 - 1 := by decide
  have h4 : (2 % 2 ^ 1 : Nat) = 0 := by decide
  rw [h3, Nat.and_two_pow_sub_one_eq_mod] at h1
  rw [h4, Nat.and_zero] at h2
  omega

theorem nat_four (X : Nat) : X &&& 4 = X / 4 % 2 * 4 := by
  have h1 : (X &&& 4) / 2 ^ 2 = X / 2 ^ 2 &&& 4 / 2 ^ 2 := Nat.and_div_two_pow
  have h2 : (X &&& 4) % 2 ^ 2 = X % 2 ^ 2 &&& 4 % 2 ^ 2 := Nat.and_mod_two_pow
  have h3 : (4 / 2 ^ 2 : Nat) = 2 ^ 1 - 1 := by decide
  have h4 : (4 % 2 ^ 2 : Nat) = 0 := by decide
  rw [h3, Nat.and_two_pow_sub_one_eq_mod] at h1
  rw [h4, Nat.and_zero] at h2
  omega

theorem and_seq {x : Int} (h0 : 0 ≤ x) (h1 : x < 18446744073709551616) : bits .and .u64 x 8388600 = x / 8 % 1048576 * 8 := by
  obtain ⟨X, rfl⟩ := Int.eq_ofNat_of_zero_le h0
  have := u64_and_nat X 8388600 (by omega) (by decide)
  rw [nat_seq] at this
  exact this.trans (by omega)
theorem and_one {x : Int} (h0 : 0 ≤ x) (h1 : x < 18446744073709551616) : bits .and .u64 x 1 = x % 2 := by
  obtain ⟨X, rfl⟩ := Int.eq_ofNat_of_zero_le h0
  have := u64_and_nat X 1 (by omega) (by decide)
  rw [Nat.and_one_is_mod] at this
  exact this.trans (by omega)
theorem and_two {x : Int} (h0 : 0 ≤ x) (h1 : x < 18446744073709551616) : bits .and .u64 x 2 = x / 2 % 2 * 2 := by
  obtain ⟨X, rfl⟩ := Int.eq_ofNat_of_zero_le h0
  have := u64_and_nat X 2 (by omega) (by decide)
  rw [nat_two] at this
  exact this.trans (by omega)
theorem and_four {x : Int} (h0 : 0 ≤ x) (h1 : x < 18446744073709551616) : bits .and .u64 x 4 = x / 4 % 2 * 4 := by
  obtain ⟨X, rfl⟩ := Int.eq_ofNat_of_zero_le h0
  have := u64_and_nat X 4 (by omega) (by decide)
  rw [nat_four] at this
  exact this.trans (by omega)
theorem andNot_num {x : Int} (h0 : 0 ≤ x) (h1 : x < 18446744073709551616) : bits .andNot .u64 x 7 = num x := by
  obtain ⟨X, rfl⟩ := Int.eq_ofNat_of_zero_le h0
  have := u64_andNot_nat X 7 (by omega) (by decide)
  rw [show 18446744073709551615 - 7 = 18446744073709551608 from rfl, nat_num X (by omega)] at this
  refine this.trans ?_
  unfold num
  omega

/-! ### the next word -/
/-- the first number of an epoch, or the one behind the greatest of L, whichever is greater -/
def above (n : Int) (L : List Int) : Int := L.foldl (fun a x => max a (num x + 8)) n
/-- does no word of L stand at the end of this epoch, or behind it? -/
def fits (ep : Int) (L : List Int) : Bool := L.all fun x => decide (num x < ep * 8388608 + 8388600)
def nexts (ep : Int) (L : List Int) : Bool := within ep 2147483648 && L.all may && fits ep L
def nextW (ep : Int) (L : List Int) : Int := if nexts ep L then above (ep * 8388608) L else 0
def nextE (ep : Int) (L : List Int) : Int := if within ep 2147483648 then (if L.all may then (if fits ep L then 0 else 1) else 90) else 1

theorem above_nil (n : Int) : above n [] = n := rfl
theorem above_snoc (n : Int) (L : List Int) (x : Int) : above n (L ++ [x]) = max (above n L) (num x + 8) := by simp [above]
theorem take_snoc {α : Type} (L : List α) (j : Nat) (h : j < L.length) : L.take (j + 1) = L.take j ++ [L[j]] := by
  rw [List.take_add_one, List.getElem?_eq_getElem h]; rfl

theorem above_ge (n : Int) : ∀ L : List Int, n ≤ above n L := by
  intro L
  induction L generalizing n with
  | nil => exact Int.le_refl _
  | cons x L ih => exact Int.le_trans (Int.le_max_left _ _) (ih _)
theorem above_mem (n : Int) : ∀ (L : List Int) (x : Int), x ∈ L → num x + 8 ≤ above n L := by
  intro L
  induction L generalizing n with
  | nil => intro x h; cases h
  | cons y L ih =>
    intro x h
    rcases List.mem_cons.1 h with rfl | h
    · exact Int.le_trans (Int.le_max_right n _) (above_ge _ _)
    · exact ih _ x h
theorem above_le {n B : Int} : ∀ (L : List Int), n ≤ B → (∀ x ∈ L, num x + 8 ≤ B) → above n L ≤ B := by
  intro L
  induction L generalizing n with
  | nil => intro h _; exact h
  | cons y L ih =>
    intro h hx
    exact ih (Int.max_le.2 ⟨h, hx y (by simp)⟩) (fun x hm => hx x (by simp [hm]))
theorem above_mod {n : Int} (hn : n % 8 = 0) : ∀ (L : List Int), above n L % 8 = 0 := by
  intro L
  induction L generalizing n with
  | nil => exact hn
  | cons y L ih =>
    refine ih ?_
    show max n (num y + 8) % 8 = 0
    unfold num
    omega

theorem num_mod (x : Int) : num x % 8 = 0 := by unfold num; omega
theorem num_range {x : Int} (h0 : 0 ≤ x) (h1 : x < 18446744073709551616) : 0 ≤ num x ∧ num x ≤ x := by unfold num; omega

/-- the document's sequence: one more than the greatest of this epoch's -/
def seqs (ep : Int) (L : List Int) : Int := L.foldl (fun s x => if x / 8388608 = ep then max s (x / 8 % 1048576 + 1) else s) 0
theorem seqs_snoc (ep : Int) (L : List Int) (x : Int) : seqs ep (L ++ [x]) = if x / 8388608 = ep then max (seqs ep L) (x / 8 % 1048576 + 1) else seqs ep L := by simp [seqs]

theorem snoc_ind {α : Type} {P : List α → Prop} (h0 : P []) (h1 : ∀ L x, P L → P (L ++ [x])) : ∀ L, P L := by
  intro L
  have : ∀ M : List α, P M.reverse := by
    intro M
    induction M with
    | nil => exact h0
    | cons x M ih => rw [List.reverse_cons]; exact h1 _ _ ih
  have h := this L.reverse
  rwa [List.reverse_reverse] at h

/-- where no word is of a later epoch: the document's sequence and the program's number go together -/
theorem seqs_above {ep : Int} : ∀ L : List Int, (∀ x ∈ L, 0 ≤ x) → (∀ x ∈ L, x / 8388608 ≤ ep) → 0 ≤ seqs ep L ∧ seqs ep L ≤ 1048576 ∧ above (ep * 8388608) L = ep * 8388608 + seqs ep L * 8 := by
  refine snoc_ind (fun _ _ => ⟨Int.le_refl 0, by show (0 : Int) ≤ 1048576; decide, by simp [above, seqs]⟩) (fun L x ih h0 h1 => ?_)
  obtain ⟨i1, i2, i3⟩ := ih (fun y hy => h0 y (by simp [hy])) (fun y hy => h1 y (by simp [hy]))
  have hx0 := h0 x (by simp)
  have hx1 := h1 x (by simp)
  rw [above_snoc, seqs_snoc, i3]
  unfold num
  by_cases e : x / 8388608 = ep
  · rw [if_pos e]
    have h5 := Int.le_max_left (seqs ep L) (x / 8 % 1048576 + 1)
    have h6 : max (seqs ep L) (x / 8 % 1048576 + 1) ≤ 1048576 := Int.max_le.2 ⟨i2, by omega⟩
    exact ⟨by omega, h6, by omega⟩
  · rw [if_neg e]
    exact ⟨i1, i2, by omega⟩

/-- what fits is of no later epoch, and of no last sequence -/
theorem fits_iff {ep : Int} {L : List Int} (h0 : ∀ x ∈ L, 0 ≤ x) : fits ep L = true ↔ (∀ x ∈ L, x / 8388608 ≤ ep) ∧ seqs ep L ≤ 1048575 := by
  constructor
  · intro h
    have h1 : ∀ x ∈ L, num x < ep * 8388608 + 8388600 := by simpa [fits] using h
    have h2 : ∀ x ∈ L, x / 8388608 ≤ ep := fun x hx => by
      have := h1 x hx
      unfold num at this
      omega
    refine ⟨h2, ?_⟩
    obtain ⟨i1, i2, i3⟩ := seqs_above L h0 h2
    have := above_le (n := ep * 8388608) (B := ep * 8388608 + 8388600) L (by omega) (fun x hx => by
      have := h1 x hx
      have := num_mod x
      omega)
    omega
  · rintro ⟨h2, h3⟩
    obtain ⟨i1, i2, i3⟩ := seqs_above L h0 h2
    have : ∀ x ∈ L, num x < ep * 8388608 + 8388600 := fun x hx => by
      have := above_mem (ep * 8388608) L x hx
      omega
    simpa [fits] using this

theorem nextW_seqs {ep : Int} {L : List Int} (h0 : ∀ x ∈ L, 0 ≤ x) (h : nexts ep L = true) : nextW ep L = wordOf ep (seqs ep L) false false false ∧ 0 ≤ seqs ep L ∧ seqs ep L ≤ 1048575 := by
  have hf : fits ep L = true := by
    unfold nexts at h
    simp only [Bool.and_eq_true] at h
    exact h.2
  obtain ⟨h2, h3⟩ := (fits_iff h0).1 hf
  obtain ⟨i1, i2, i3⟩ := seqs_above L h0 h2
  refine ⟨?_, i1, h3⟩
  unfold nextW
  rw [if_pos h, i3]
  simp [wordOf, b1]

end Go.Proofs.YtigegdelhpdlhaaGreatDoor

/- The program's calls of layer 9 on words alone: isWithin, mayBe, Pack, Unpack, Number; and the document's. -/
namespace Go.Proofs.YtigegdelhpdlhaaGreatDoor
open Go.RowKit

theorem within_yes (n m : Int) (w : World) (h : within n m = true) : Calls Tryz.prog 61 #[.int .i64 n, .int .i64 m] w fun e w' => e = .returned (.bool true) ∧ w' = w := by
  have h0 : 0 ≤ n ∧ n ≤ m := by simpa [within] using h
  obtain ⟨h1, h2⟩ := h0
  clear h
  go_enter Tryz.func61, Tryz.ntmps61
  go_wp2
  go_ret
  exact ⟨rfl, rfl⟩
theorem within_no (n m : Int) (w : World) (h : within n m = false) : Calls Tryz.prog 61 #[.int .i64 n, .int .i64 m] w fun e w' => e = .returned (.bool false) ∧ w' = w := by
  have h0 : ¬ (0 ≤ n ∧ n ≤ m) := by simpa [within] using h
  clear h
  by_cases h1 : 0 ≤ n
  · have h2 : ¬ n ≤ m := fun h2 => h0 ⟨h1, h2⟩
    clear h0
    go_enter Tryz.func61, Tryz.ntmps61
    go_wp2
    go_ret
    exact ⟨rfl, rfl⟩
  · clear h0
    go_enter Tryz.func61, Tryz.ntmps61
    go_wp2
    go_ret
    exact ⟨rfl, rfl⟩

theorem mayBe_any (x : Int) (w : World) (h0 : 0 ≤ x) (h1 : x < 18446744073709551616) : Calls Tryz.prog 47 #[.int .u64 x] w fun e w' => e = .returned (.bool (may x)) ∧ w' = w := by
  go_enter Tryz.func47, Tryz.ntmps47
  go_wp2
  go_ret
  exact ⟨rfl, rfl⟩

theorem number_any (x : Int) (w : World) (h0 : 0 ≤ x) (h1 : x < 18446744073709551616) : Calls Tryz.prog 107 #[.int .u64 x] w fun e w' => e = .returned (.int .u64 (num x)) ∧ w' = w := by
  have hn := andNot_num h0 h1
  go_enter Tryz.func107, Tryz.ntmps107
  go_wp2
  go_ret
  exact ⟨rfl, rfl⟩

end Go.Proofs.YtigegdelhpdlhaaGreatDoor
