/- MoneyPrices: the law's walk. -/
import Derived.Test.YtfaelefeiinbaabDoorMWorks
import Derived.Test.YtfaelefeiinbaabDoorMApp
namespace Go.Proofs.YtfaelefeiinbaabDoor
open Go.RowKit MP
namespace PricesL

theorem ints_nil (w : World) : IntsAt w (.slice none 0 0) [] := ⟨none, 0, rfl, Nat.le_refl _, Nat.zero_le _, fun h => absurd rfl h⟩
theorem ints_one (u : World) (x : Int) : IntsAt (u.alloc (.cells #[.int .i64 x] 3)) (.slice (some ⟨u.heap.size, 0, none⟩) 1 1) [x] :=
  sliceAt_flat (L := [x]) (n := 1) (fun _ => rfl) (heap_new u _) rfl (Nat.le_refl _) (by decide)
theorem own_one (u : World) (base : Nat) (hb : base ≤ u.heap.size) (x : Int) : (u.alloc (.cells #[.int .i64 x] 3)).ownsRow base 3 1 (.slice (some ⟨u.heap.size, 0, none⟩) 1 1) 1 (flat en1 [x]) :=
  ⟨rfl, Or.inr ⟨u.heap.size, 1, #[.int .i64 x], rfl, hb, heap_new u _, Nat.le_refl _, by decide, rfl, rfl⟩⟩

/-! ### in plain words -/
def row (a : Int) (k : Nat) : List Int := 0 :: List.replicate k a
theorem row_length (a : Int) (k : Nat) : (row a k).length = k + 1 := by simp [row]
theorem row_succ (a : Int) (k : Nat) : row a k ++ [a] = row a (k + 1) := by
  unfold row
  rw [List.replicate_succ', List.cons_append]
theorem row_sum (a : Int) (k : Nat) : sumI (row a k) = a * k := by
  unfold row sumI
  rw [sum_replicate]; omega
theorem row_all {a : Int} (k : Nat) (h : may a = true) : (row a k).all may = true := by
  unfold row
  rw [List.all_cons, List.all_replicate, h]
  simp [may]
theorem row_bad {a : Int} {k : Nat} (h : may a = false) (hk : 0 < k) : (row a k).all may = false := by
  unfold row
  rw [List.all_cons, List.all_replicate, h]
  simp; omega
theorem many_k {k : Nat} (h : k < 30) : isMany (k : Int) = true := by unfold isMany; simp; omega
theorem price_none {a : Int} {k : Nat} (hk : k < 30) (h : may a = true) : priceV a k [] = amV (a * k) ∧ priceE a k [] = amE (a * k) := by
  unfold priceV priceE priceO amV amE
  rw [h, many_k hk]
  cases may (a * (k : Int)) <;> exact ⟨rfl, rfl⟩
theorem sum_row {a : Int} (k : Nat) (h : may a = true) : sumV (row a k) = amV (a * k) ∧ sumE (row a k) = amE (a * k) := by
  unfold sumV sumE amV amE
  rw [row_all k h, row_sum]
  cases may (a * (k : Int)) <;> exact ⟨rfl, rfl⟩
theorem sum_row_bad {a : Int} {k : Nat} (h : may a = false) (hk : 0 < k) : sumV (row a k) = 0 ∧ sumE (row a k) = 220 := by
  unfold sumV sumE
  rw [row_bad h hk]
  exact ⟨rfl, rfl⟩
theorem price_one {a r : Int} {k : Nat} (hk : k < 30) (h : may a = true) (hm : may (a * k) = true) (hp : partE (a * k) r = 0) :
    priceV a k [r] = sumV [a * k, partV (a * k) r] ∧ priceE a k [r] = sumE [a * k, partV (a * k) r] := by
  obtain ⟨_, h2, h3⟩ := partE_ok hp
  have e := partV_ok hp
  unfold priceV priceE priceO sumV sumE
  rw [h, many_k hk, hm, e]
  have e2 : [a * (k : Int), partI (a * k) r].all may = true := by simp [hm, h3]
  have e3 : sumI [a * (k : Int), partI (a * k) r] = a * k + partI (a * k) r := by simp [sumI]
  have e4 : [r].all isRate = true := by simp [h2]
  rw [e2, e3, e4]
  simp only [adds, h3]
  cases may (a * (k : Int) + partI (a * k) r) <;> exact ⟨rfl, rfl⟩
theorem price_one_no {a r : Int} {k : Nat} (h : may a = true) (hm : may (a * k) = true) (hp : ¬ partE (a * k) r = 0) :
    priceV a k [r] = 0 ∧ priceE a k [r] = 1 ∧ partE (a * k) r = 1 := by
  unfold partE at hp ⊢
  rw [hm] at hp ⊢
  unfold priceV priceE priceO
  rw [h, hm]
  cases h2 : isRate r with
  | false =>
    have e4 : [r].all isRate = false := by simp [h2]
    rw [e4]
    simp
  | true =>
    cases h3 : may (partI (a * k) r) with
    | true => rw [h2, h3] at hp; exact absurd rfl hp
    | false =>
      simp only [adds, h3]
      simp

set_option maxRecDepth 100000 in
set_option maxHeartbeats 1000000 in
theorem walk (a m r : Int) (w : World) : Calls Tryd.prog 3 #[.int .i64 a, .int .i64 m, .int .i64 r] w fun e w' => e = .returned (.bool true) ∧ Below w.heap.size w w' := by
  have HW : Hid (Calls Tryd.prog 4 #[] w fun e w' => e = .returned (.bool true) ∧ Below w.heap.size w w') := works_any w
  obtain ⟨U, hU⟩ : ∃ U, IntKind.u64.wrap m = U := ⟨_, rfl⟩
  have hU0 : 0 ≤ U := by rw [← hU]; simp [IntKind.wrap, IntKind.bits, IntKind.signed]; omega
  obtain ⟨k, hk⟩ : ∃ k : Nat, U % 30 = (k : Int) := ⟨(U % 30).toNat, by omega⟩
  have hk30 : k < 30 := by omega
  have hk' : U.tmod 30 = (k : Int) := by rw [Int.tmod_eq_emod_of_nonneg hU0]; exact hk
  have wk : IntKind.i64.wrap (k : Int) = (k : Int) := wrapI (by omega) (by omega)
  have wku : IntKind.u64.wrap (k : Int) = (k : Int) := by simp [IntKind.wrap, IntKind.bits, IntKind.signed]; omega
  obtain ⟨P, hP⟩ : ∃ P, priceV a k [] = P := ⟨_, rfl⟩
  obtain ⟨E, hE⟩ : ∃ E, priceE a k [] = E := ⟨_, rfl⟩
  obtain ⟨S, hS⟩ : ∃ P, sumV (row a k) = P := ⟨_, rfl⟩
  obtain ⟨F, hF⟩ : ∃ E, sumE (row a k) = E := ⟨_, rfl⟩
  have H1 : Hid (∀ u, Below w.heap.size w u → Calls Tryd.prog 5 #[.int .i64 a, .int .i64 k, .slice none 0 0] u fun e w' => e = .returned (.tuple #[.int .i64 P, .int .i64 E]) ∧ Below w.heap.size w w') := fun u hu => by
    refine (Price_any a k _ [] u (ints_nil u)).mono fun e w' h => ?_
    rw [hP, hE] at h
    exact ⟨h.1, hu.trans (h.2.mono hu.size)⟩
  have H2 : Hid (∀ u A mm, Below w.heap.size w u → u.ownsRow w.heap.size 3 1 (.slice A (k + 1) mm) (k + 1) (flat en1 (row a k)) → Calls Tryd.prog 6 #[.slice A (k + 1) mm] u fun e w' => e = .returned (.tuple #[.int .i64 S, .int .i64 F]) ∧ Below w.heap.size w w') := fun u A mm hu ho => by
    obtain ⟨g, rfl, hg, hrow, hmm, hmm2⟩ := row_of ho (by omega) (row_length a k)
    have hi := hrow.ints (c := mm) (by rw [row_length]; exact hmm) hmm2
    rw [row_length] at hi
    refine (Sum_any _ (row a k) u hi (by rw [row_length]; omega)).mono fun e w' h => ?_
    rw [hS, hF] at h
    exact ⟨h.1, by rw [h.2]; exact hu⟩
  have HCase : Hid ((k = 0 ∧ ((E = 220 ∧ F = 0 ∧ P = 0) ∨ (E = 0 ∧ F = 0 ∧ P = 0))) ∨ (0 < k ∧ E = F ∧ P = S ∧ (¬ E = 0 ∨ (E = 0 ∧ P = a * k ∧ may a = true ∧ may (a * k) = true)))) := by
    cases hm : may a with
    | false =>
      obtain ⟨e1, e2⟩ := price_bad (m := (k : Int)) (L := []) hm
      rw [hP] at e1
      rw [hE] at e2
      rcases Nat.eq_zero_or_pos k with h0 | h0
      · refine Or.inl ⟨h0, Or.inl ⟨e2, ?_, e1⟩⟩
        rw [← hF, h0]
        exact (show sumE (row a 0) = sumE [0] from rfl).trans (by decide)
      · obtain ⟨e3, e4⟩ := sum_row_bad hm h0
        rw [hS] at e3
        rw [hF] at e4
        exact Or.inr ⟨h0, by rw [e2, e4], by rw [e1, e3], Or.inl (by omega)⟩
    | true =>
      obtain ⟨e1, e2⟩ := price_none hk30 hm
      obtain ⟨e3, e4⟩ := sum_row k hm
      rw [hP] at e1
      rw [hE] at e2
      rw [hS] at e3
      rw [hF] at e4
      rcases Nat.eq_zero_or_pos k with h0 | h0
      · subst h0
        have ez : a * ((0 : Nat) : Int) = 0 := by simp
        rw [ez] at e1 e2 e3 e4
        exact Or.inl ⟨rfl, Or.inr ⟨e2, e4, e1⟩⟩
      · refine Or.inr ⟨h0, by rw [e2, e4], by rw [e1, e3], ?_⟩
        unfold amE amV at *
        cases hmk : may (a * (k : Int)) with
        | false => rw [hmk] at e2; left; rw [e2]; decide
        | true => rw [hmk] at e1 e2; right; exact ⟨e2, e1, rfl, rfl⟩
  clear hP hE hS hF
  go_enter Tryd.func3, Tryd.ntmps3
  go_wp2_with fail
  refine HW.out.mono ?_
  rintro y w1 ⟨rfl, hb1⟩
  go_wp2_with fail
  refine (H1.out _ hb1).mono ?_
  rintro y w2 ⟨rfl, hb2⟩
  have HB2 : Hid (Below w.heap.size w w2) := hb2
  have hs2 : w.heap.size ≤ w2.heap.size := hb2.size
  clear hb1 hb2 HW H1
  go_wp2_with fail
  go_loopw [9, 32] (fun l i wr => ∃ (j mm : Nat) (A : Option Addr), j ≤ k ∧ i = .int .i64 j ∧ l = .slice A (j + 1) mm ∧ Hid (wr.ownsRow w.heap.size 3 1 (.slice A (j + 1) mm) (j + 1) (flat en1 (row a j))) ∧ Hid (Below w.heap.size w wr)) (fun _ i _ => k - (intOf i).toNat)
  case atStart => exact ⟨0, 1, some ⟨w2.heap.size, 0, none⟩, Nat.zero_le _, rfl, rfl, own_one w2 _ hs2 0, HB2.out.alloc hs2 _⟩
  case round =>
    clear HB2 hs2
    obtain ⟨j, mm, A, hj, rfl, rfl, HO, HB⟩ := hrel
    by_cases hlt : j < k
    · have hlI : (j : Int) < (k : Int) := by omega
      have hB1 : w.heap.size ≤ wr.heap.size := HB.out.size
      go_wp2_with (at_builtin; go_must (refine wpList_int rfl _ _ rfl w.heap.size (row a j) a A (j + 1) mm rfl ?q1 (by omega) ?q2 _ rfl ?q3 ?_))
      case q1 => exact HO.out.alloc _
      case q2 => simp; omega
      case q3 => simp
      intro A' m' w3 ho hb3
      rw [row_succ] at ho
      have HO3 : Hid (w3.ownsRow w.heap.size 3 1 (.slice A' (j + 1 + 1) m') (j + 1 + 1) (flat en1 (row a (j + 1)))) := ho
      have HB3 : Hid (Below w.heap.size w w3) := (HB.out.alloc hB1 _).trans hb3
      clear ho hb3
      go_wp2_with fail
      go_roundw
      case rel => exact ⟨j + 1, m', A', by omega, by go_num, rfl, HO3, HB3⟩
      case measure => simp [intOf]; omega
    · obtain rfl : j = k := by omega
      have hlI : ¬ (j : Int) < (j : Int) := by omega
      go_wp2_with fail
      refine (H2.out _ _ _ HB.out HO.out).mono ?_
      rintro y w3 ⟨rfl, hb3⟩
      have HB3 : Hid (Below w.heap.size w w3) := hb3
      clear hb3 HO HB H2 hlt
      rcases HCase.out with ⟨rfl, h⟩ | ⟨hk0, rfl, rfl, h⟩
      · clear HCase
        rcases h with ⟨rfl, rfl, rfl⟩ | ⟨rfl, rfl, rfl⟩
        · go_wp2_with fail
          go_ret
          exact ⟨rfl, HB3.out⟩
        · go_wp2_with fail
          go_ret
          exact ⟨rfl, HB3.out⟩
      · clear HCase
        have hkI : ¬ (j : Int) = 0 := by omega
        have hkb : ((j : Int) == 0) = false := by simp; omega
        have bP : (P != P) = false := by simp
        have bE : (E != E) = false := by simp
        rcases h with h | ⟨rfl, rfl, hm, hmk⟩
        · have hEb : (E != 0) = true := by simp; exact h
          go_wp2_with fail
          go_ret
          exact ⟨rfl, HB3.out⟩
        · obtain ⟨V, hV⟩ : ∃ V, partV (a * (j : Int)) r = V := ⟨_, rfl⟩
          obtain ⟨G, hG⟩ : ∃ V, partE (a * (j : Int)) r = V := ⟨_, rfl⟩
          obtain ⟨Q, hQ⟩ : ∃ V, priceV a (j : Int) [r] = V := ⟨_, rfl⟩
          obtain ⟨D, hD⟩ : ∃ V, priceE a (j : Int) [r] = V := ⟨_, rfl⟩
          obtain ⟨p, hp⟩ : ∃ p, a * (j : Int) = p := ⟨_, rfl⟩
          have H3 : Hid (∀ u, Below w.heap.size w u → Calls Tryd.prog 7 #[.int .i64 (a * (j : Int)), .int .i64 r] u fun e w' => e = .returned (.tuple #[.int .i64 V, .int .i64 G]) ∧ Below w.heap.size w w') := fun u hu => by
            refine (Part_any (a * (j : Int)) r u).mono fun e w' h => ?_
            rw [hV, hG] at h
            obtain ⟨h1, n, h2⟩ := h
            exact ⟨h1, by rw [h2]; exact hu.trans ((below_drewN u n).mono hu.size)⟩
          have H4 : Hid (∀ u, Below w.heap.size w u → Calls Tryd.prog 5 #[.int .i64 a, .int .i64 j, .slice (some ⟨u.heap.size, 0, none⟩) 1 1] (u.alloc (.cells #[.int .i64 r] 3)) fun e w' => e = .returned (.tuple #[.int .i64 Q, .int .i64 D]) ∧ Below w.heap.size w w') := fun u hu => by
            refine (Price_any a j _ [r] _ (ints_one u r)).mono fun e w' h => ?_
            rw [hQ, hD] at h
            have hb := hu.alloc hu.size (.cells #[.int .i64 r] 3)
            exact ⟨h.1, hb.trans (h.2.mono hb.size)⟩
          have H5 : Hid (∀ u, Below w.heap.size w u → Calls Tryd.prog 6 #[.slice (some ⟨u.heap.size, 0, none⟩) 2 2] (u.alloc (.cells #[.int .i64 (a * (j : Int)), .int .i64 V] 3)) fun e w' => e = .returned (.tuple #[.int .i64 (sumV [a * (j : Int), V]), .int .i64 (sumE [a * (j : Int), V])]) ∧ Below w.heap.size w w') := fun u hu => by
            refine (Sum_any _ [a * (j : Int), V] _ (ints_two u (a * (j : Int)) V) (by simp)).mono fun e w' h => ?_
            exact ⟨h.1, by rw [h.2]; exact hu.alloc hu.size _⟩
          by_cases hG0 : G = 0
          · have h5 := price_one hk30 hm hmk (hG.trans hG0)
            rw [hV, hQ, hD] at h5
            rw [← h5.1, ← h5.2] at H5
            rw [hp] at H3 H5 ⊢
            subst hG0
            have bQ : (Q == Q) = true := by simp
            have bD : (D == D) = true := by simp
            clear h5 hV hG hQ hD hm hmk hp bP bE
            go_wp2_with fail
            refine (H3.out _ HB3.out).mono ?_
            rintro y w4 ⟨rfl, hb4⟩
            go_wp2_with fail
            refine (H4.out _ hb4).mono ?_
            rintro y w5 ⟨rfl, hb5⟩
            go_wp2_with fail
            refine (H5.out _ hb5).mono ?_
            rintro y w6 ⟨rfl, hb6⟩
            go_wp2_with fail
            go_ret
            exact ⟨rfl, hb6⟩
          · obtain ⟨e1, e2, e3⟩ := price_one_no hm hmk (by rw [hG]; exact hG0)
            rw [hQ] at e1
            rw [hD] at e2
            rw [hG] at e3
            rw [hp] at H3 ⊢
            subst e1 e2 e3
            clear hV hG hQ hD hm hmk hp H5 bP bE
            go_wp2_with fail
            refine (H3.out _ HB3.out).mono ?_
            rintro y w4 ⟨rfl, hb4⟩
            go_wp2_with fail
            refine (H4.out _ hb4).mono ?_
            rintro y w5 ⟨rfl, hb5⟩
            go_wp2_with fail
            go_ret
            exact ⟨rfl, hb5⟩
end PricesL
end Go.Proofs.YtfaelefeiinbaabDoor
