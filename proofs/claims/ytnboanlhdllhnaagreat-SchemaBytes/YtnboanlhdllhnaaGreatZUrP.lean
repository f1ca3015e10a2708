/- The document's reader of schemas, plainly: what it comes to, by what the bytes behind its place are. -/
import Derived.Test.YtnboanlhdllhnaaGreatZUr
namespace Go.Proofs.YtnboanlhdllhnaaGreat

def uRep {α : Type} (f : Us → α × Us) : Nat → Us → List α × Us
  | 0, s => ([], s)
  | k + 1, s => if s.2 = true then ([], s) else ((f s).1 :: (uRep f k (f s).2).1, (uRep f k (f s).2).2)
theorem uRep_stop {α : Type} (f : Us → α × Us) : ∀ (k : Nat) (s : Us), s.2 = true → uRep f k s = ([], s)
  | 0, _, _ => rfl
  | k + 1, s, h => by rw [uRep, if_pos h]
theorem uRep_next {α : Type} (f : Us → α × Us) : ∀ (k : Nat) (s : Us), (uRep f k s).2.2 = false → uRep f (k + 1) s = ((uRep f k s).1 ++ [(f (uRep f k s).2).1], (f (uRep f k s).2).2)
  | 0, s, h => by
    have h' : ¬ s.2 = true := by have : s.2 = false := h; rw [this]; decide
    show (if s.2 = true then (([] : List α), s) else ((f s).1 :: (uRep f 0 (f s).2).1, (uRep f 0 (f s).2).2)) = _
    rw [if_neg h']
    rfl
  | k + 1, s, h => by
    by_cases hs : s.2 = true
    · rw [uRep_stop f _ _ hs] at h
      rw [show s.2 = false from h] at hs; cases hs
    · rw [uRep, if_neg hs] at h
      rw [uRep, if_neg hs, uRep_next f k (f s).2 h]
      conv => rhs; rw [uRep, if_neg hs]
      rfl
theorem uRep_end {α : Type} (f : Us → α × Us) : ∀ (k m : Nat) (s : Us), k ≤ m → (uRep f k s).2.2 = true → uRep f m s = uRep f k s
  | 0, m, s, _, h => by rw [uRep_stop f m s h]; rfl
  | k + 1, m, s, hm, h => by
    obtain ⟨m, rfl⟩ : ∃ m', m = m' + 1 := ⟨m - 1, by omega⟩
    by_cases hs : s.2 = true
    · rw [uRep_stop f _ _ hs, uRep_stop f _ _ hs]
    · rw [uRep, if_neg hs] at h
      rw [uRep, if_neg hs, uRep_end f k m (f s).2 (by omega) h]
      conv => rhs; rw [uRep, if_neg hs]

section
variable (B : List UInt8)
def uL {α : Type} (f : Us → α × Us) (s : Us) : List α × Us := uRep f (uM B s).1 (uM B s).2
def uC (s : Us) : (ByteArray × Int) × Us := (((uT B s).1, (uN B (uT B s).2).1), (uN B (uT B s).2).2)
def uX (s : Us) : Ix × Us := (⟨(uT B s).1, (uL B (uN B) (uT B s).2).1, (uF B (uL B (uN B) (uT B s).2).2).1⟩, (uF B (uL B (uN B) (uT B s).2).2).2)
def uTb (s : Us) : Tab × Us :=
  (⟨(uT B s).1, (uL B (uC B) (uT B s).2).1, (uN B (uL B (uC B) (uT B s).2).2).1, (uL B (uX B) (uN B (uL B (uC B) (uT B s).2).2).2).1⟩, (uL B (uX B) (uN B (uL B (uC B) (uT B s).2).2).2).2)

theorem stays_rep {α : Type} {f : Us → α × Us} (h : Stays B f) : ∀ k, Stays B (uRep f k)
  | 0, _, hs => hs
  | k + 1, s, hs => by
    unfold uRep
    split
    · exact hs
    · exact stays_rep h k (f s).2 (h s hs)
theorem stays_list {α : Type} {f : Us → α × Us} (h : Stays B f) : Stays B (uL B f) := fun s hs => stays_rep B h _ _ (stays_many B s hs)
theorem stays_col : Stays B (uC B) := fun s hs => stays_num B _ (stays_text B s hs)
theorem stays_ix : Stays B (uX B) := fun s hs => stays_flag B _ (stays_list B (stays_num B) _ (stays_text B s hs))
theorem stays_tab : Stays B (uTb B) := fun s hs => stays_list B (stays_ix B) _ (stays_num B _ (stays_list B (stays_col B) _ (stays_text B s hs)))

/-- what it comes to, by what the bytes are -/
structure URds {α : Type} (rd : Rd α) (f : Us → α × Us) : Prop where
  yes : ∀ p x r, p ≤ B.length → rd (B.drop p) = some (x, r) → ∃ p', f (p, false) = (x, (p', false)) ∧ p' ≤ B.length ∧ B.drop p' = r
  no : ∀ p, p ≤ B.length → rd (B.drop p) = none → (f (p, false)).2.2 = true
  stuck : ∀ p, (f (p, true)).2.2 = true
theorem urd_num : URds B rdNum (uN B) := by
  refine ⟨fun p x r hp h => ?_, fun p hp h => ?_, fun p => ?_⟩
  · unfold rdNum at h
    rw [List.length_drop] at h
    split at h
    · rename_i h8
      simp only [Option.some.injEq, Prod.mk.injEq] at h
      refine ⟨p + 8, ?_, by omega, by rw [← h.2, List.drop_drop]⟩
      unfold uN
      rw [if_neg (by rw [not_or]; exact ⟨by simp, by simp only; omega⟩)]
      simp only
      rw [h.1]
    · cases h
  · unfold rdNum at h
    rw [List.length_drop] at h
    split at h
    · cases h
    · unfold uN
      rw [if_pos (Or.inr (by simp only; omega))]
  · unfold uN
    rw [if_pos (Or.inl rfl)]
theorem uN_zero {p : Nat} {z : Bool} (h : (uN B (p, z)).2.2 = true) : (uN B (p, z)).1 = 0 := by
  unfold uN at h ⊢
  split at h
  · rename_i hc; rw [if_pos hc]
  · cases h
theorem urd_many : URds B rdMany (uM B) := by
  refine ⟨fun p x r hp h => ?_, fun p hp h => ?_, fun p => ?_⟩
  · unfold rdMany at h
    obtain ⟨⟨n, q⟩, h1, h2⟩ := bind_some h
    obtain ⟨p', e1, e2, e3⟩ := (urd_num B).yes p n q hp h1
    simp only at h2
    split at h2
    · rename_i hc
      simp only [Option.some.injEq, Prod.mk.injEq] at h2
      obtain ⟨rfl, rfl⟩ := h2
      refine ⟨p', ?_, e2, e3⟩
      unfold uM
      rw [e1]
      simp only
      rw [if_neg (by omega)]
    · cases h2
  · unfold rdMany at h
    unfold uM
    rcases bind_none h with h1 | ⟨⟨n, q⟩, h1, h2⟩
    · have := (urd_num B).no p hp h1
      split
      · rfl
      · exact this
    · obtain ⟨p', e1, e2, e3⟩ := (urd_num B).yes p n q hp h1
      simp only at h2
      split at h2
      · cases h2
      · rename_i hc
        rw [e1]
        simp only
        rw [if_pos (by omega)]
  · unfold uM
    have := (urd_num B).stuck p
    split
    · rfl
    · exact this
theorem urd_text : URds B rdTxt (uT B) := by
  refine ⟨fun p x r hp h => ?_, fun p hp h => ?_, fun p => ?_⟩
  · unfold rdTxt at h
    obtain ⟨⟨n, q⟩, h1, h2⟩ := bind_some h
    obtain ⟨p', e1, e2, e3⟩ := (urd_num B).yes p n q hp h1
    simp only at h2
    split at h2
    · rename_i hc
      simp only [Option.some.injEq, Prod.mk.injEq] at h2
      obtain ⟨rfl, rfl⟩ := h2
      have hl : q.length = B.length - p' := by rw [← e3, List.length_drop]
      refine ⟨p' + n.toNat, ?_, by omega, by rw [← e3, List.drop_drop]⟩
      unfold uT
      rw [e1]
      simp only
      rw [if_neg (by rw [not_or, not_or]; exact ⟨by simp, by omega, by omega⟩), e3]
      rfl
    · cases h2
  · unfold rdTxt at h
    unfold uT
    rcases bind_none h with h1 | ⟨⟨n, q⟩, h1, h2⟩
    · rw [if_pos (Or.inl ((urd_num B).no p hp h1))]
    · obtain ⟨p', e1, e2, e3⟩ := (urd_num B).yes p n q hp h1
      have hl : q.length = B.length - p' := by rw [← e3, List.length_drop]
      simp only at h2
      split at h2
      · cases h2
      · rename_i hc
        rw [e1]
        simp only
        rw [if_pos (by omega)]
  · unfold uT
    rw [if_pos (Or.inl ((urd_num B).stuck p))]
theorem urd_flag : URds B rdFlag (uF B) := by
  refine ⟨fun p x r hp h => ?_, fun p hp h => ?_, fun p => rfl⟩
  · cases hq : B.drop p with
    | nil => rw [hq] at h; cases h
    | cons y q =>
      rw [hq] at h
      have hy : B[p]? = some y := by
        have : (B.drop p)[0]? = some y := by rw [hq]; rfl
        rw [List.getElem?_drop] at this
        exact this
      have hlt := (List.getElem?_eq_some_iff.1 hy).1
      have hd : B.drop (p + 1) = q := by rw [← List.drop_drop, hq]; rfl
      unfold rdFlag at h
      simp only at h
      unfold uF
      simp only
      rw [if_neg (by simp), hy]
      simp only
      split at h
      · rename_i h0
        cases h
        exact ⟨p + 1, by rw [if_neg (by omega), decide_eq_false (by omega)], by omega, hd⟩
      · split at h
        · rename_i h0 h1
          cases h
          exact ⟨p + 1, by rw [if_neg (by omega), decide_eq_true h1], by omega, hd⟩
        · cases h
  · unfold uF
    simp only
    rw [if_neg (by simp)]
    cases hq : B.drop p with
    | nil =>
      have hn : B[p]? = none := List.getElem?_eq_none (by have := congrArg List.length hq; rw [List.length_drop] at this; simp at this; omega)
      rw [hn]
    | cons y q =>
      rw [hq] at h
      have hy : B[p]? = some y := by
        have : (B.drop p)[0]? = some y := by rw [hq]; rfl
        rw [List.getElem?_drop] at this
        exact this
      rw [hy]
      simp only
      unfold rdFlag at h
      simp only at h
      split at h
      · cases h
      · split at h
        · cases h
        · rw [if_pos (by omega)]
section
variable {α : Type} {rd : Rd α} {f : Us → α × Us}
theorem urep_yes (h : URds B rd f) : ∀ k p x r, p ≤ B.length → rdRep rd k (B.drop p) = some (x, r) → ∃ p', uRep f k (p, false) = (x, (p', false)) ∧ p' ≤ B.length ∧ B.drop p' = r
  | 0, p, x, r, hp, e => by cases e; exact ⟨p, rfl, hp, rfl⟩
  | k + 1, p, x, r, hp, e => by
    rw [rdRep] at e
    obtain ⟨⟨y, q⟩, h1, h2⟩ := bind_some e
    obtain ⟨⟨l, s⟩, h3, h4⟩ := bind_some h2
    obtain ⟨rfl, rfl⟩ : y :: l = x ∧ s = r := by simpa using h4
    obtain ⟨p1, e1, e2, rfl⟩ := h.yes p y q hp h1
    obtain ⟨p2, f1, f2, f3⟩ := urep_yes h k p1 l s e2 h3
    exact ⟨p2, by rw [uRep, if_neg (by simp), e1, f1], f2, f3⟩
theorem urep_no (h : URds B rd f) : ∀ k p, p ≤ B.length → rdRep rd k (B.drop p) = none → (uRep f k (p, false)).2.2 = true
  | 0, p, _, e => by cases e
  | k + 1, p, hp, e => by
    rw [rdRep] at e
    rw [uRep, if_neg (by simp)]
    rcases bind_none e with h1 | ⟨⟨y, q⟩, h1, h2⟩
    · have := h.no p hp h1
      simp only
      rw [uRep_stop f _ _ this]
      exact this
    · obtain ⟨p1, e1, e2, rfl⟩ := h.yes p y q hp h1
      rw [e1]
      rcases bind_none h2 with h3 | ⟨⟨l, s⟩, h3, h4⟩
      · exact urep_no h k p1 e2 h3
      · cases h4
theorem urd_list (h : URds B rd f) : URds B (rdList rd) (uL B f) := by
  refine ⟨fun p x r hp e => ?_, fun p hp e => ?_, fun p => ?_⟩
  · unfold rdList at e
    obtain ⟨⟨n, q⟩, h1, h2⟩ := bind_some e
    obtain ⟨p1, e1, e2, rfl⟩ := (urd_many B).yes p n q hp h1
    obtain ⟨p2, f1, f2, f3⟩ := urep_yes B h n p1 x r e2 h2
    exact ⟨p2, by unfold uL; rw [e1]; exact f1, f2, f3⟩
  · unfold rdList at e
    unfold uL
    rcases bind_none e with h1 | ⟨⟨n, q⟩, h1, h2⟩
    · have := (urd_many B).no p hp h1
      rw [uRep_stop f _ _ this]
      exact this
    · obtain ⟨p1, e1, e2, rfl⟩ := (urd_many B).yes p n q hp h1
      rw [e1]
      exact urep_no B h n p1 e2 h2
  · unfold uL
    have := (urd_many B).stuck p
    rw [uRep_stop f _ _ this]
    exact this
end
theorem bad_at {s : Us} (h : s.2 = true) : ∃ p, s = (p, true) := ⟨s.1, Prod.ext rfl h⟩
theorem urd_col : URds B rdCol (uC B) := by
  have st : ∀ p, (uC B (p, true)).2.2 = true := fun p => by
    unfold uC
    obtain ⟨p1, e1⟩ := bad_at ((urd_text B).stuck p)
    rw [e1]
    exact (urd_num B).stuck p1
  refine ⟨fun p x r hp e => ?_, fun p hp e => ?_, st⟩
  · unfold rdCol at e
    obtain ⟨⟨t, q⟩, h1, h2⟩ := bind_some e
    obtain ⟨⟨n, u⟩, h3, h4⟩ := bind_some h2
    cases h4
    obtain ⟨p1, e1, e2, rfl⟩ := (urd_text B).yes p t q hp h1
    obtain ⟨p2, f1, f2, f3⟩ := (urd_num B).yes p1 n _ e2 h3
    exact ⟨p2, by unfold uC; rw [e1]; simp only; rw [f1], f2, f3⟩
  · unfold rdCol at e
    unfold uC
    rcases bind_none e with h1 | ⟨⟨t, q⟩, h1, h2⟩
    · obtain ⟨p1, e1⟩ := bad_at ((urd_text B).no p hp h1)
      rw [e1]
      exact (urd_num B).stuck p1
    · obtain ⟨p1, e1, e2, rfl⟩ := (urd_text B).yes p t q hp h1
      rw [e1]
      rcases bind_none h2 with h3 | ⟨⟨l, u⟩, h3, h4⟩
      · exact (urd_num B).no p1 e2 h3
      · cases h4
theorem urd_ix : URds B rdIx (uX B) := by
  have hn := urd_list B (urd_num B)
  refine ⟨fun p x r hp e => ?_, fun p hp e => ?_, fun p => ?_⟩
  · unfold rdIx at e
    obtain ⟨⟨t, q⟩, h1, h2⟩ := bind_some e
    obtain ⟨⟨n, u⟩, h3, h4⟩ := bind_some h2
    obtain ⟨⟨z, v⟩, h5, h6⟩ := bind_some h4
    cases h6
    obtain ⟨p1, e1, e2, rfl⟩ := (urd_text B).yes p t q hp h1
    obtain ⟨p2, f1, f2, rfl⟩ := hn.yes p1 n u e2 h3
    obtain ⟨p3, g1, g2, g3⟩ := (urd_flag B).yes p2 z _ f2 h5
    exact ⟨p3, by unfold uX; rw [e1]; simp only; rw [f1]; simp only; rw [g1], g2, g3⟩
  · unfold rdIx at e
    unfold uX
    rcases bind_none e with h1 | ⟨⟨t, q⟩, h1, h2⟩
    · obtain ⟨p1, e1⟩ := bad_at ((urd_text B).no p hp h1)
      rw [e1]
      obtain ⟨p2, e2⟩ := bad_at (hn.stuck p1)
      rw [e2]
      exact (urd_flag B).stuck p2
    · obtain ⟨p1, e1, e2, rfl⟩ := (urd_text B).yes p t q hp h1
      rw [e1]
      simp only
      rcases bind_none h2 with h3 | ⟨⟨l, u⟩, h3, h4⟩
      · obtain ⟨p2, f2⟩ := bad_at (hn.no p1 e2 h3)
        rw [f2]
        exact (urd_flag B).stuck p2
      · obtain ⟨p2, f1, f2, rfl⟩ := hn.yes p1 l u e2 h3
        rw [f1]
        rcases bind_none h4 with h5 | ⟨⟨z, v⟩, h5, h6⟩
        · exact (urd_flag B).no p2 f2 h5
        · cases h6
  · unfold uX
    obtain ⟨p1, e1⟩ := bad_at ((urd_text B).stuck p)
    rw [e1]
    obtain ⟨p2, e2⟩ := bad_at (hn.stuck p1)
    rw [e2]
    exact (urd_flag B).stuck p2
theorem urd_tab : URds B rdTab (uTb B) := by
  have hc := urd_list B (urd_col B)
  have hx := urd_list B (urd_ix B)
  refine ⟨fun p x r hp e => ?_, fun p hp e => ?_, fun p => ?_⟩
  · unfold rdTab at e
    obtain ⟨⟨t, q⟩, h1, h2⟩ := bind_some e
    obtain ⟨⟨n, u⟩, h3, h4⟩ := bind_some h2
    obtain ⟨⟨z, v⟩, h5, h6⟩ := bind_some h4
    obtain ⟨⟨y, m⟩, h7, h8⟩ := bind_some h6
    cases h8
    obtain ⟨p1, e1, e2, rfl⟩ := (urd_text B).yes p t q hp h1
    obtain ⟨p2, f1, f2, rfl⟩ := hc.yes p1 n u e2 h3
    obtain ⟨p3, g1, g2, rfl⟩ := (urd_num B).yes p2 z v f2 h5
    obtain ⟨p4, k1, k2, k3⟩ := hx.yes p3 y _ g2 h7
    exact ⟨p4, by unfold uTb; rw [e1]; simp only; rw [f1]; simp only; rw [g1]; simp only; rw [k1], k2, k3⟩
  · unfold rdTab at e
    unfold uTb
    rcases bind_none e with h1 | ⟨⟨t, q⟩, h1, h2⟩
    · obtain ⟨p1, e1⟩ := bad_at ((urd_text B).no p hp h1)
      rw [e1]
      obtain ⟨p2, e2⟩ := bad_at (hc.stuck p1)
      rw [e2]
      obtain ⟨p3, e3⟩ := bad_at ((urd_num B).stuck p2)
      rw [e3]
      exact hx.stuck p3
    · obtain ⟨p1, e1, e2, rfl⟩ := (urd_text B).yes p t q hp h1
      rw [e1]
      simp only
      rcases bind_none h2 with h3 | ⟨⟨l, u⟩, h3, h4⟩
      · obtain ⟨p2, f2⟩ := bad_at (hc.no p1 e2 h3)
        rw [f2]
        obtain ⟨p3, e3⟩ := bad_at ((urd_num B).stuck p2)
        rw [e3]
        exact hx.stuck p3
      · obtain ⟨p2, f1, f2, rfl⟩ := hc.yes p1 l u e2 h3
        rw [f1]
        simp only
        rcases bind_none h4 with h5 | ⟨⟨z, v⟩, h5, h6⟩
        · obtain ⟨p3, e3⟩ := bad_at ((urd_num B).no p2 f2 h5)
          rw [e3]
          exact hx.stuck p3
        · obtain ⟨p3, g1, g2, rfl⟩ := (urd_num B).yes p2 z v f2 h5
          rw [g1]
          rcases bind_none h6 with h7 | ⟨⟨y, m⟩, h7, h8⟩
          · exact hx.no p3 g2 h7
          · cases h8
  · unfold uTb
    obtain ⟨p1, e1⟩ := bad_at ((urd_text B).stuck p)
    rw [e1]
    obtain ⟨p2, e2⟩ := bad_at (hc.stuck p1)
    rw [e2]
    obtain ⟨p3, e3⟩ := bad_at ((urd_num B).stuck p2)
    rw [e3]
    exact hx.stuck p3
end

end Go.Proofs.YtnboanlhdllhnaaGreat
