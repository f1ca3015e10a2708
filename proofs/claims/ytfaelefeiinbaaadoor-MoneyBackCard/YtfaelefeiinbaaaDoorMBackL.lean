/- MoneyBack: the law's walk. -/
import Derived.Test.YtfaelefeiinbaaaDoorMWorks
import Derived.Test.YtfaelefeiinbaaaDoorMParse
namespace Go.Proofs.YtfaelefeiinbaaaDoor
open Go.RowKit MP
namespace BackL

theorem size_text {a : Int} (h : may a = true) : (ofL (text a)).size ≤ 18 := by
  rw [← bl_size, bl_ofL]
  exact text_length h
/-- the second half: what is read of any text, and what that is written as -/
def Half (s : ByteArray) (w : World) : Prop :=
  (∃ G, readN (bl s) = 0 ∧ readE (bl s) = G ∧ (G != 0) = true) ∨
  (∃ n, readN (bl s) = n ∧ readE (bl s) = 0 ∧ ∀ u, Below w.heap.size w u → Calls Tryd.prog 9 #[.int .i64 n] u fun e w' => e = .returned (.tuple #[.string s, .int .i64 0]) ∧ Below w.heap.size w w')
theorem half_any (s : ByteArray) (w : World) (ht : Tab w) : Half s w := by
  cases hr : reads (bl s) with
  | false =>
    obtain ⟨e1, e2⟩ := read_no hr
    exact Or.inl ⟨3, e1, e2, rfl⟩
  | true =>
    obtain ⟨e1, e2⟩ := read_yes hr
    refine Or.inr ⟨_, rfl, e2, fun u hu => ?_⟩
    have h := hr
    unfold reads at h
    simp only [Bool.and_eq_true, decide_eq_true_eq] at h
    refine (Text_any _ u (Or.inr (ht.below hu))).mono fun e w' hh => ?_
    have hV : txV (readN (bl s)) = s := by rw [e1]; unfold txV; rw [h.1, if_pos rfl, h.2, ofL_bl]
    have hE : txE (readN (bl s)) = 0 := by rw [e1]; unfold txE; rw [h.1]; rfl
    rw [hV, hE] at hh
    exact ⟨hh.1, hu.trans (hh.2.mono hu.size)⟩

set_option maxRecDepth 100000 in
set_option maxHeartbeats 1000000 in
theorem walk (a : Int) (s : ByteArray) (w : World) (hz : s.size ≤ 140737488351232) (ht : Tab w) (he : Errs w) : Calls Tryd.prog 6 #[.int .i64 a, .string s] w fun e w' => e = .returned (.bool true) ∧ Below w.heap.size w w' := by
  have H0 : Hid (Calls Tryd.prog 13 #[] w fun e w' => e = .returned (.bool true) ∧ Below w.heap.size w w') := works_any w
  have H1 : Hid (∀ u, Below w.heap.size w u → Calls Tryd.prog 9 #[.int .i64 a] u fun e w' => e = .returned (.tuple #[.string (txV a), .int .i64 (txE a)]) ∧ Below w.heap.size w w') := fun u hu =>
    (Text_any a u (Or.inr (ht.below hu))).mono fun e w' h => ⟨h.1, hu.trans (h.2.mono hu.size)⟩
  have HP : ∀ z : ByteArray, z.size ≤ 140737488351232 → ∀ u, Below w.heap.size w u → Calls Tryd.prog 11 #[.string z] u fun e w' => e = .returned (.tuple #[.int .i64 (readN (bl z)), .int .i64 (readE (bl z))]) ∧ Below w.heap.size w w' := fun z hz u hu =>
    (Parse_any z hz u (ht.below hu) (he.below hu)).mono fun e w' h => ⟨h.1, hu.trans (h.2.mono hu.size)⟩
  have H3 : Hid (∀ u, Below w.heap.size w u → Calls Tryd.prog 11 #[.string s] u fun e w' => e = .returned (.tuple #[.int .i64 (readN (bl s)), .int .i64 (readE (bl s))]) ∧ Below w.heap.size w w') := HP s hz
  have hH := half_any s w ht
  cases hm : may a with
  | true =>
    have hV : txV a = ofL (text a) := by unfold txV; rw [hm]; rfl
    have hE : txE a = 0 := by unfold txE; rw [hm]; rfl
    obtain ⟨_, r1, r2⟩ := reads_text hm
    obtain ⟨T, eT⟩ : ∃ T, ofL (text a) = T := ⟨_, rfl⟩
    have H2 : Hid (∀ u, Below w.heap.size w u → Calls Tryd.prog 11 #[.string T] u fun e w' => e = .returned (.tuple #[.int .i64 a, .int .i64 0]) ∧ Below w.heap.size w w') := fun u hu => by
      have hsz := size_text hm
      rw [eT] at hsz
      have := HP T (by omega) u hu
      rw [← eT, bl_ofL, r1, r2] at this
      rw [← eT]
      exact this
    rw [hV, hE, eT] at H1
    have ba : (a != a) = false := by simp
    rcases hH with ⟨G, e1, e2, hg⟩ | ⟨n, e1, e2, h4⟩
    · rw [e1, e2] at H3
      clear e1 e2 hV hE hm r1 r2 eT ht he HP
      go_enter Tryd.func6, Tryd.ntmps6
      go_wp2_with fail
      refine H0.out.mono ?_
      rintro y w1 ⟨rfl, hb1⟩
      go_wp2_with fail
      refine (H1.out _ hb1).mono ?_
      rintro y w2 ⟨rfl, hb2⟩
      go_wp2_with fail
      refine (H2.out _ hb2).mono ?_
      rintro y w3 ⟨rfl, hb3⟩
      go_wp2_with fail
      refine (H3.out _ hb3).mono ?_
      rintro y w4 ⟨rfl, hb4⟩
      go_wp2_with fail
      go_ret
      exact ⟨rfl, hb4⟩
    · have H4 : Hid (∀ u, Below w.heap.size w u → Calls Tryd.prog 9 #[.int .i64 n] u fun e w' => e = .returned (.tuple #[.string s, .int .i64 0]) ∧ Below w.heap.size w w') := h4
      rw [e1, e2] at H3
      clear e1 e2 hV hE hm r1 r2 eT ht he HP h4
      go_enter Tryd.func6, Tryd.ntmps6
      go_wp2_with fail
      refine H0.out.mono ?_
      rintro y w1 ⟨rfl, hb1⟩
      go_wp2_with fail
      refine (H1.out _ hb1).mono ?_
      rintro y w2 ⟨rfl, hb2⟩
      go_wp2_with fail
      refine (H2.out _ hb2).mono ?_
      rintro y w3 ⟨rfl, hb3⟩
      go_wp2_with fail
      refine (H3.out _ hb3).mono ?_
      rintro y w4 ⟨rfl, hb4⟩
      go_wp2_with fail
      refine (H4.out _ hb4).mono ?_
      rintro y w5 ⟨rfl, hb5⟩
      go_wp2_with fail
      go_ret
      exact ⟨rfl, hb5⟩
  | false =>
    have hV : txV a = ofL [] := by unfold txV; rw [hm]; rfl
    have hE : txE a = 220 := by unfold txE; rw [hm]; rfl
    rw [hV, hE] at H1
    rcases hH with ⟨G, e1, e2, hg⟩ | ⟨n, e1, e2, h4⟩
    · rw [e1, e2] at H3
      clear e1 e2 hV hE hm ht he HP
      go_enter Tryd.func6, Tryd.ntmps6
      go_wp2_with fail
      refine H0.out.mono ?_
      rintro y w1 ⟨rfl, hb1⟩
      go_wp2_with fail
      refine (H1.out _ hb1).mono ?_
      rintro y w2 ⟨rfl, hb2⟩
      go_wp2_with fail
      refine (H3.out _ hb2).mono ?_
      rintro y w4 ⟨rfl, hb4⟩
      go_wp2_with fail
      go_ret
      exact ⟨rfl, hb4⟩
    · have H4 : Hid (∀ u, Below w.heap.size w u → Calls Tryd.prog 9 #[.int .i64 n] u fun e w' => e = .returned (.tuple #[.string s, .int .i64 0]) ∧ Below w.heap.size w w') := h4
      rw [e1, e2] at H3
      clear e1 e2 hV hE hm ht he HP h4
      go_enter Tryd.func6, Tryd.ntmps6
      go_wp2_with fail
      refine H0.out.mono ?_
      rintro y w1 ⟨rfl, hb1⟩
      go_wp2_with fail
      refine (H1.out _ hb1).mono ?_
      rintro y w2 ⟨rfl, hb2⟩
      go_wp2_with fail
      refine (H3.out _ hb2).mono ?_
      rintro y w4 ⟨rfl, hb4⟩
      go_wp2_with fail
      refine (H4.out _ hb4).mono ?_
      rintro y w5 ⟨rfl, hb5⟩
      go_wp2_with fail
      go_ret
      exact ⟨rfl, hb5⟩
end BackL
end Go.Proofs.YtfaelefeiinbaaaDoor
