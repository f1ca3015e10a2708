/- Layer 14, decoding, in plain words: what the walker leaves, and what the reader reads, of any bytes. Nothing here speaks of a program. -/
import Derived.Test.YtnboanlhdllhnaaGreatZWrJ
namespace Go.Proofs.YtnboanlhdllhnaaGreat

/-- the number at the front, 0 if there is none -/
def nv (r : List UInt8) : Int := if 8 ≤ r.length then rd8 (r.take 8) else 0
theorem nv_i64 (r : List UInt8) : I64 (nv r) := by
  unfold nv
  split
  · rename_i h
    exact rd8_i64 (by rw [List.length_take]; omega)
  · exact ⟨by decide, by decide⟩
def dropW (n : Int) (r : List UInt8) : List UInt8 := if 0 ≤ n ∧ n ≤ (r.length : Int) then r.drop n.toNat else []
theorem dropW_8 (r : List UInt8) : dropW 8 r = r.drop 8 := by
  unfold dropW
  by_cases h : 8 ≤ r.length
  · rw [if_pos ⟨by decide, by omega⟩]; rfl
  · rw [if_neg (by omega), List.drop_eq_nil_of_le (by omega)]
def textW (r : List UInt8) : List UInt8 := dropW (nv r) (r.drop 8)
def repW (m : List UInt8 → List UInt8) : Nat → List UInt8 → List UInt8
  | 0, r => r
  | k + 1, r => if r = [] then [] else repW m k (m r)
def listW (m : List UInt8 → List UInt8) (r : List UInt8) : List UInt8 := repW m (nv r).toNat (r.drop 8)
def colW (r : List UInt8) : List UInt8 := (textW r).drop 8
def numW (r : List UInt8) : List UInt8 := r.drop 8
def ixW (r : List UInt8) : List UInt8 := dropW 1 (listW numW (textW r))
def tabW (r : List UInt8) : List UInt8 := listW ixW ((listW colW (textW r)).drop 8)

/-- what it leaves is the end of what it was given -/
abbrev Ends (m : List UInt8 → List UInt8) : Prop := ∀ r, m r <:+ r
theorem ends_drop (n : Int) : Ends (dropW n) := fun r => by
  unfold dropW
  split
  · exact List.drop_suffix _ _
  · exact List.nil_suffix
theorem ends_num : Ends numW := fun _ => List.drop_suffix _ _
theorem ends_text : Ends textW := fun _ => (ends_drop _ _).trans (List.drop_suffix _ _)
theorem ends_rep {m : List UInt8 → List UInt8} (h : Ends m) : ∀ k r, repW m k r <:+ r
  | 0, _ => List.suffix_refl _
  | k + 1, r => by
    unfold repW
    split
    · exact List.nil_suffix
    · exact (ends_rep h k (m r)).trans (h r)
theorem ends_list {m : List UInt8 → List UInt8} (h : Ends m) : Ends (listW m) := fun _ => (ends_rep h _ _).trans (List.drop_suffix _ _)
theorem ends_col : Ends colW := fun r => (List.drop_suffix _ _).trans (ends_text r)
theorem ends_ix : Ends ixW := fun r => ((ends_drop _ _).trans (ends_list ends_num _)).trans (ends_text r)
theorem ends_tab : Ends tabW := fun r => (((ends_list ends_ix _).trans (List.drop_suffix _ _)).trans (ends_list ends_col _)).trans (ends_text r)

/-- where a reader reads, the walker goes as far -/
structure Far {α : Type} (rd : Rd α) (m : List UInt8 → List UInt8) : Prop where
  go : ∀ b x r, rd b = some (x, r) → m b = r
  nil : rd [] = none
theorem rdNum_nv {b : List UInt8} {x : Int} {r : List UInt8} (h : rdNum b = some (x, r)) : nv b = x ∧ b.drop 8 = r := by
  unfold rdNum at h
  split at h
  · rename_i h8
    simp only [Option.some.injEq, Prod.mk.injEq] at h
    exact ⟨by unfold nv; rw [if_pos h8]; exact h.1, h.2⟩
  · cases h
theorem far_num : Far rdNum numW := ⟨fun _ _ _ h => (rdNum_nv h).2, rfl⟩
theorem rdTxt_nil : rdTxt [] = none := rfl
theorem far_text : Far rdTxt textW := by
  refine ⟨fun b x r h => ?_, rfl⟩
  unfold rdTxt at h
  obtain ⟨⟨n, q⟩, h1, h2⟩ := bind_some h
  obtain ⟨rfl, rfl⟩ := rdNum_nv h1
  simp only at h2
  split at h2
  · rename_i hc
    simp only [Option.some.injEq, Prod.mk.injEq] at h2
    unfold textW dropW
    rw [if_pos hc]
    exact h2.2
  · cases h2
theorem far_rep {α : Type} {rd : Rd α} {m : List UInt8 → List UInt8} (h : Far rd m) : ∀ k b (x : List α) r, rdRep rd k b = some (x, r) → repW m k b = r
  | 0, b, x, r, e => by cases e; rfl
  | k + 1, b, x, r, e => by
    rw [rdRep] at e
    obtain ⟨⟨y, q⟩, h1, h2⟩ := bind_some e
    obtain ⟨⟨l, s⟩, h3, h4⟩ := bind_some h2
    obtain ⟨-, rfl⟩ : y :: l = x ∧ s = r := by simpa using h4
    unfold repW
    rw [if_neg (fun e => by rw [e, h.nil] at h1; cases h1), h.go _ _ _ h1]
    exact far_rep h k q l s h3
theorem far_list {α : Type} {rd : Rd α} {m : List UInt8 → List UInt8} (h : Far rd m) : Far (rdList rd) (listW m) := by
  refine ⟨fun b x r e => ?_, rfl⟩
  unfold rdList at e
  obtain ⟨⟨n, q⟩, h1, h2⟩ := bind_some e
  unfold rdMany at h1
  obtain ⟨⟨n', q'⟩, h3, h4⟩ := bind_some h1
  obtain ⟨rfl, rfl⟩ := rdNum_nv h3
  simp only at h4
  split at h4
  · simp only [Option.some.injEq, Prod.mk.injEq] at h4
    obtain ⟨rfl, rfl⟩ := h4
    exact far_rep h _ _ _ _ h2
  · cases h4
theorem far_col : Far rdCol colW := by
  refine ⟨fun b x r e => ?_, rfl⟩
  unfold rdCol at e
  obtain ⟨⟨s, q⟩, h1, h2⟩ := bind_some e
  obtain ⟨⟨n, t⟩, h3, h4⟩ := bind_some h2
  cases h4
  unfold colW
  rw [far_text.go _ _ _ h1]
  exact far_num.go _ _ _ h3
theorem far_flag {b : List UInt8} {x : Bool} {r : List UInt8} (h : rdFlag b = some (x, r)) : dropW 1 b = r := by
  obtain ⟨-, rfl⟩ := two_flag.back _ _ _ h
  cases x
  all_goals (
    unfold dropW flagB
    rw [if_pos ⟨by decide, by simp; omega⟩]
    rfl)
theorem far_ix : Far rdIx ixW := by
  refine ⟨fun b x r e => ?_, rfl⟩
  unfold rdIx at e
  obtain ⟨⟨s, q⟩, h1, h2⟩ := bind_some e
  obtain ⟨⟨n, t⟩, h3, h4⟩ := bind_some h2
  obtain ⟨⟨u, v⟩, h5, h6⟩ := bind_some h4
  cases h6
  unfold ixW
  rw [far_text.go _ _ _ h1, (far_list far_num).go _ _ _ h3]
  exact far_flag h5
theorem far_tab : Far rdTab tabW := by
  refine ⟨fun b x r e => ?_, rfl⟩
  unfold rdTab at e
  obtain ⟨⟨s, q⟩, h1, h2⟩ := bind_some e
  obtain ⟨⟨n, t⟩, h3, h4⟩ := bind_some h2
  obtain ⟨⟨u, v⟩, h5, h6⟩ := bind_some h4
  obtain ⟨⟨y, z⟩, h7, h8⟩ := bind_some h6
  cases h8
  unfold tabW
  rw [far_text.go _ _ _ h1, (far_list far_col).go _ _ _ h3]
  have := far_num.go _ _ _ h5
  unfold numW at this
  rw [this]
  exact (far_list far_ix).go _ _ _ h7

/-! ### the reader: what is left, and whether something was wrong -/
abbrev St := List UInt8 × Bool
def rTk (n : Int) (s : St) : List UInt8 × St := if 0 ≤ n ∧ n ≤ (s.1.length : Int) then (s.1.take n.toNat, (s.1.drop n.toNat, s.2)) else ([], ([], true))
def rN (s : St) : Int × St := (nv s.1, (rTk 8 s).2)
def rT (s : St) : ByteArray × St := (bytesOf (rTk (rN s).1 (rN s).2).1, (rTk (rN s).1 (rN s).2).2)
def rF (s : St) : Bool × St := (decide ((rTk 1 s).1 = [1]), if (rTk 1 s).1 = [0] ∨ (rTk 1 s).1 = [1] then (rTk 1 s).2 else ([], true))
def rRep {α : Type} (f : St → α × St) : Nat → St → List α × St
  | 0, s => ([], s)
  | k + 1, s => ((f s).1 :: (rRep f k (f s).2).1, (rRep f k (f s).2).2)
def rL {α : Type} (f : St → α × St) (s : St) : List α × St := if 0 ≤ (rN s).1 ∧ (rN s).1 ≤ 4096 then rRep f (rN s).1.toNat (rN s).2 else ([], ([], true))
def rC (s : St) : (ByteArray × Int) × St := (((rT s).1, (rN (rT s).2).1), (rN (rT s).2).2)
def rX (s : St) : Ix × St := (⟨(rT s).1, (rL rN (rT s).2).1, (rF (rL rN (rT s).2).2).1⟩, (rF (rL rN (rT s).2).2).2)
def rTb (s : St) : Tab × St := (⟨(rT s).1, (rL rC (rT s).2).1, (rN (rL rC (rT s).2).2).1, (rL rX (rN (rL rC (rT s).2).2).2).1⟩, (rL rX (rN (rL rC (rT s).2).2).2).2)

theorem rRep_length {α : Type} (f : St → α × St) : ∀ k s, (rRep f k s).1.length = k
  | 0, _ => rfl
  | k + 1, s => by rw [rRep, List.length_cons, rRep_length]
theorem rRep_next {α : Type} (f : St → α × St) : ∀ k s, rRep f (k + 1) s = ((rRep f k s).1 ++ [(f (rRep f k s).2).1], (f (rRep f k s).2).2)
  | 0, s => rfl
  | k + 1, s => by
    have := rRep_next f k (f s).2
    rw [rRep, this]
    simp [rRep]
theorem rRep_at {α : Type} (f : St → α × St) : ∀ (N : Nat) (s : St) (j : Nat), j < N → (rRep f N s).1[j]? = some (f (rRep f j s).2).1
  | 0, _, j, h => by omega
  | N + 1, s, j, h => by
    rw [rRep]
    cases j with
    | zero => rfl
    | succ j => rw [List.getElem?_cons_succ]; exact rRep_at f N (f s).2 j (by omega)

/-- what the reader comes to, by what the bytes are -/
structure Reads {α : Type} (rd : Rd α) (f : St → α × St) : Prop where
  yes : ∀ b x r, rd b = some (x, r) → f (b, false) = (x, (r, false))
  no : ∀ b, rd b = none → (f (b, false)).2 = ([], true)
  stuck : (f ([], true)).2 = ([], true)
theorem bind_none {α β : Type} {o : Option α} {f : α → Option β} (h : o.bind f = none) : o = none ∨ ∃ x, o = some x ∧ f x = none := by
  cases o with
  | none => exact Or.inl rfl
  | some x => exact Or.inr ⟨x, rfl, h⟩
theorem reads_num : Reads rdNum rN := by
  refine ⟨fun b x r h => ?_, fun b h => ?_, rfl⟩
  · obtain ⟨h1, h2⟩ := rdNum_nv h
    unfold rdNum at h
    split at h
    · rename_i h8
      unfold rN rTk
      simp only
      rw [if_pos ⟨by decide, by omega⟩, h1, ← h2]
      rfl
    · cases h
  · unfold rdNum at h
    split at h
    · cases h
    · rename_i h8
      unfold rN rTk
      simp only
      rw [if_neg (by omega)]
theorem reads_text : Reads rdTxt rT := by
  refine ⟨fun b x r h => ?_, fun b h => ?_, rfl⟩
  · unfold rdTxt at h
    obtain ⟨⟨n, q⟩, h1, h2⟩ := bind_some h
    simp only at h2
    unfold rT
    rw [reads_num.yes _ _ _ h1]
    simp only
    unfold rTk
    simp only
    split at h2
    · rename_i hc
      rw [if_pos hc]
      simp only [Option.some.injEq, Prod.mk.injEq] at h2
      obtain ⟨rfl, rfl⟩ := h2
      rfl
    · cases h2
  · unfold rdTxt at h
    unfold rT
    rcases bind_none h with h1 | ⟨⟨n, q⟩, h1, h2⟩
    · rw [reads_num.no _ h1]
      have hn : (rN (b, false)).1 = 0 := by
        unfold rN nv
        unfold rdNum at h1
        split at h1
        · cases h1
        · rename_i h8
          simp only
          rw [if_neg h8]
      rw [hn]
      rfl
    · rw [reads_num.yes _ _ _ h1]
      simp only at h2 ⊢
      unfold rTk
      simp only
      split at h2
      · cases h2
      · rename_i hc
        rw [if_neg hc]
theorem reads_flag : Reads rdFlag rF := by
  have e0 : ∀ x : UInt8, x.toNat = 0 → x = 0 := fun x h => UInt8.toNat_inj.1 h
  have e1 : ∀ x : UInt8, x.toNat = 1 → x = 1 := fun x h => UInt8.toNat_inj.1 h
  have ht : ∀ (x : UInt8) (r : List UInt8) (z : Bool), rTk 1 (x :: r, z) = ([x], (r, z)) := fun x r z => by
    unfold rTk
    simp only
    rw [if_pos ⟨by decide, by simp; omega⟩]
    rfl
  refine ⟨fun b x r h => ?_, fun b h => ?_, rfl⟩
  · obtain ⟨-, rfl⟩ := two_flag.back _ _ _ h
    cases x
    · show rF (0 :: r, false) = _
      unfold rF
      rw [ht]
      rfl
    · show rF (1 :: r, false) = _
      unfold rF
      rw [ht]
      rfl
  · cases b with
    | nil => rfl
    | cons y q =>
      unfold rdFlag at h
      simp only at h
      split at h
      · cases h
      · rename_i h0
        split at h
        · cases h
        · rename_i h1
          unfold rF
          rw [ht]
          simp only
          rw [if_neg]
          rintro (h | h)
          · simp only [List.cons.injEq, and_true] at h; rw [h] at h0; exact h0 rfl
          · simp only [List.cons.injEq, and_true] at h; rw [h] at h1; exact h1 rfl
section
variable {α : Type} {rd : Rd α} {f : St → α × St}
theorem rep_stuck (h : Reads rd f) : ∀ k, (rRep f k ([], true)).2 = ([], true)
  | 0 => rfl
  | k + 1 => by rw [rRep, h.stuck]; exact rep_stuck h k
theorem rep_yes (h : Reads rd f) : ∀ k b x r, rdRep rd k b = some (x, r) → rRep f k (b, false) = (x, (r, false))
  | 0, b, x, r, e => by cases e; rfl
  | k + 1, b, x, r, e => by
    rw [rdRep] at e
    obtain ⟨⟨y, q⟩, h1, h2⟩ := bind_some e
    obtain ⟨⟨l, s⟩, h3, h4⟩ := bind_some h2
    obtain ⟨rfl, rfl⟩ : y :: l = x ∧ s = r := by simpa using h4
    rw [rRep, h.yes _ _ _ h1, rep_yes h k q l s h3]
theorem rep_no (h : Reads rd f) : ∀ k b, rdRep rd k b = none → (rRep f k (b, false)).2 = ([], true)
  | 0, b, e => by cases e
  | k + 1, b, e => by
    rw [rdRep] at e
    rw [rRep]
    rcases bind_none e with h1 | ⟨⟨y, q⟩, h1, h2⟩
    · rw [h.no _ h1]; exact rep_stuck h k
    · rw [h.yes _ _ _ h1]
      rcases bind_none h2 with h3 | ⟨⟨l, s⟩, h3, h4⟩
      · exact rep_no h k q h3
      · cases h4
theorem reads_list (h : Reads rd f) : Reads (rdList rd) (rL f) := by
  refine ⟨fun b x r e => ?_, fun b e => ?_, rfl⟩
  · unfold rdList at e
    obtain ⟨⟨n, q⟩, h1, h2⟩ := bind_some e
    unfold rdMany at h1
    obtain ⟨⟨n', q'⟩, h3, h4⟩ := bind_some h1
    simp only at h4 h2
    unfold rL
    rw [reads_num.yes _ _ _ h3]
    simp only
    split at h4
    · rename_i hc
      rw [if_pos hc]
      simp only [Option.some.injEq, Prod.mk.injEq] at h4
      obtain ⟨rfl, rfl⟩ := h4
      exact rep_yes h _ _ _ _ h2
    · cases h4
  · unfold rdList at e
    unfold rL
    rcases bind_none e with h1 | ⟨⟨n, q⟩, h1, h2⟩
    · unfold rdMany at h1
      rcases bind_none h1 with h3 | ⟨⟨n', q'⟩, h3, h4⟩
      · rw [reads_num.no _ h3]
        split
        · exact rep_stuck h _
        · rfl
      · rw [reads_num.yes _ _ _ h3]
        simp only at h4 ⊢
        split at h4
        · cases h4
        · rename_i hc
          rw [if_neg hc]
    · unfold rdMany at h1
      obtain ⟨⟨n', q'⟩, h3, h4⟩ := bind_some h1
      rw [reads_num.yes _ _ _ h3]
      simp only at h4 h2 ⊢
      split at h4
      · rename_i hc
        rw [if_pos hc]
        simp only [Option.some.injEq, Prod.mk.injEq] at h4
        obtain ⟨rfl, rfl⟩ := h4
        exact rep_no h _ _ h2
      · cases h4
end
theorem list_stuck {α : Type} {rd : Rd α} {f : St → α × St} (h : Reads rd f) : (rL f ([], true)).2 = ([], true) := (reads_list h).stuck
theorem reads_col : Reads rdCol rC := by
  refine ⟨fun b x r e => ?_, fun b e => ?_, rfl⟩
  · unfold rdCol at e
    obtain ⟨⟨s, q⟩, h1, h2⟩ := bind_some e
    obtain ⟨⟨n, t⟩, h3, h4⟩ := bind_some h2
    cases h4
    unfold rC
    rw [reads_text.yes _ _ _ h1]
    simp only at h3 ⊢
    rw [reads_num.yes _ _ _ h3]
  · unfold rdCol at e
    unfold rC
    rcases bind_none e with h1 | ⟨⟨s, q⟩, h1, h2⟩
    · rw [reads_text.no _ h1]; rfl
    · rw [reads_text.yes _ _ _ h1]
      rcases bind_none h2 with h3 | ⟨⟨l, s⟩, h3, h4⟩
      · exact reads_num.no _ h3
      · cases h4
theorem reads_ix : Reads rdIx rX := by
  have hn := reads_list reads_num
  refine ⟨fun b x r e => ?_, fun b e => ?_, rfl⟩
  · unfold rdIx at e
    obtain ⟨⟨s, q⟩, h1, h2⟩ := bind_some e
    obtain ⟨⟨n, t⟩, h3, h4⟩ := bind_some h2
    obtain ⟨⟨u, v⟩, h5, h6⟩ := bind_some h4
    cases h6
    unfold rX
    rw [reads_text.yes _ _ _ h1]
    simp only at h3 h5 ⊢
    rw [hn.yes _ _ _ h3]
    simp only
    rw [reads_flag.yes _ _ _ h5]
  · unfold rdIx at e
    unfold rX
    rcases bind_none e with h1 | ⟨⟨s, q⟩, h1, h2⟩
    · rw [reads_text.no _ h1, hn.stuck]; rfl
    · rw [reads_text.yes _ _ _ h1]
      simp only at h2 ⊢
      rcases bind_none h2 with h3 | ⟨⟨l, t⟩, h3, h4⟩
      · rw [hn.no _ h3]; rfl
      · rw [hn.yes _ _ _ h3]
        rcases bind_none h4 with h5 | ⟨⟨u, v⟩, h5, h6⟩
        · exact reads_flag.no _ h5
        · cases h6
theorem reads_tab : Reads rdTab rTb := by
  have hc := reads_list reads_col
  have hx := reads_list reads_ix
  refine ⟨fun b x r e => ?_, fun b e => ?_, rfl⟩
  · unfold rdTab at e
    obtain ⟨⟨s, q⟩, h1, h2⟩ := bind_some e
    obtain ⟨⟨n, t⟩, h3, h4⟩ := bind_some h2
    obtain ⟨⟨u, v⟩, h5, h6⟩ := bind_some h4
    obtain ⟨⟨y, z⟩, h7, h8⟩ := bind_some h6
    cases h8
    unfold rTb
    rw [reads_text.yes _ _ _ h1]
    simp only at h3 h5 h7 ⊢
    rw [hc.yes _ _ _ h3]
    simp only
    rw [reads_num.yes _ _ _ h5]
    simp only
    rw [hx.yes _ _ _ h7]
  · unfold rdTab at e
    unfold rTb
    rcases bind_none e with h1 | ⟨⟨s, q⟩, h1, h2⟩
    · rw [reads_text.no _ h1, hc.stuck, reads_num.stuck]; exact hx.stuck
    · rw [reads_text.yes _ _ _ h1]
      simp only at h2 ⊢
      rcases bind_none h2 with h3 | ⟨⟨l, t⟩, h3, h4⟩
      · rw [hc.no _ h3, reads_num.stuck]; exact hx.stuck
      · rw [hc.yes _ _ _ h3]
        simp only at h4 ⊢
        rcases bind_none h4 with h5 | ⟨⟨u, v⟩, h5, h6⟩
        · rw [reads_num.no _ h5]; exact hx.stuck
        · rw [reads_num.yes _ _ _ h5]
          rcases bind_none h6 with h7 | ⟨⟨y, z⟩, h7, h8⟩
          · exact hx.no _ h7
          · cases h8

/-! ### numbers of eight bytes, one by one -/
theorem ofInt_wrap (z : Int) : BitVec.ofInt 64 (IntKind.i64.wrap z) = BitVec.ofInt 64 z := by
  apply BitVec.eq_of_toNat_eq
  rw [BitVec.toNat_ofInt, BitVec.toNat_ofInt, IntKind.wrap_i64]
  congr 1
  omega
theorem or_wrap {a b : Nat} (i : Nat) (ha : a < 2 ^ i) (ha1 : a < 2 ^ 64) (hb : b < 2 ^ 64) (hd : b % 2 ^ i = 0) : bits .or .i64 (IntKind.i64.wrap (a : Int)) (IntKind.i64.wrap (b : Int)) = IntKind.i64.wrap ((a + b : Nat) : Int) := by
  have hq : b = 2 ^ i * (b / 2 ^ i) := by
    have := Nat.div_add_mod b (2 ^ i)
    omega
  have e : a ||| b = a + b := by
    rw [Nat.or_comm, hq, ← Nat.two_pow_add_eq_or_of_lt ha (b / 2 ^ i), Nat.add_comm]
  show IntKind.i64.wrap ((BitVec.ofInt 64 (IntKind.i64.wrap (a : Int)) ||| BitVec.ofInt 64 (IntKind.i64.wrap (b : Int))).toNat : Int) = _
  rw [ofInt_wrap, ofInt_wrap, BitVec.ofInt_natCast, BitVec.ofInt_natCast, BitVec.toNat_or, BitVec.toNat_ofNat, BitVec.toNat_ofNat, Nat.mod_eq_of_lt ha1, Nat.mod_eq_of_lt hb, e]
theorem sOf_wrap {u : Nat} (h : u < 18446744073709551616) : sOf u = IntKind.i64.wrap (u : Int) := by
  rw [IntKind.wrap_i64]
  unfold sOf
  split <;> omega
/-- the first i bytes as a number -/
def upto (l : List UInt8) (i : Nat) : Int := IntKind.i64.wrap (valN (l.take i) : Int)
theorem upto_zero (l : List UInt8) : upto l 0 = 0 := by unfold upto; rw [List.take_zero]; rfl
theorem upto_all {l : List UInt8} (h : l.length = 8) : upto l 8 = rd8 l := by
  unfold upto rd8
  rw [List.take_of_length_le (by omega), sOf_wrap]
  have := valN_lt l
  rw [h] at this
  omega
theorem upto_next {l : List UInt8} {i : Nat} {c : UInt8} (hc : l[i]? = some c) (hi : i < 8) : bits .or .i64 (upto l i) (IntKind.i64.wrap ((c.toNat : Int) * 2 ^ (8 * i))) = upto l (i + 1) := by
  have hlt : i < l.length := (List.getElem?_eq_some_iff.1 hc).1
  have hl : (l.take i).length = i := by rw [List.length_take]; omega
  have h1 := valN_lt (l.take i)
  rw [hl] at h1
  have h2 : c.toNat < 256 := c.toNat_lt
  have e256 : (256 : Nat) ^ i = 2 ^ (8 * i) := by rw [Nat.pow_mul]
  have h3 : 2 ^ (8 * i) * 256 ≤ 2 ^ 64 := by
    rw [show (256 : Nat) = 2 ^ 8 by rfl, ← Nat.pow_add]
    exact Nat.pow_le_pow_right (by decide) (by omega)
  have h4 : 0 < 2 ^ (8 * i) := Nat.two_pow_pos _
  have h5 : c.toNat * 2 ^ (8 * i) < 2 ^ 64 := by
    have : c.toNat * 2 ^ (8 * i) < 256 * 2 ^ (8 * i) := Nat.mul_lt_mul_of_pos_right h2 h4
    rw [Nat.mul_comm 256] at this
    omega
  have h6 : valN (l.take (i + 1)) = valN (l.take i) + c.toNat * 2 ^ (8 * i) := by
    rw [List.take_add_one, hc]
    show valN (l.take i ++ [c]) = _
    rw [valN_append, hl, e256]
    show _ + _ * (c.toNat + 256 * 0) = _
    rw [Nat.mul_zero, Nat.add_zero, Nat.mul_comm]
  have hcast : ((c.toNat : Int) * 2 ^ (8 * i)) = ((c.toNat * 2 ^ (8 * i) : Nat) : Int) := by simp
  unfold upto
  rw [hcast, or_wrap (8 * i) (by rw [← e256]; exact h1) (by rw [e256] at h1; omega) h5 (Nat.mul_mod_left _ _), h6]

end Go.Proofs.YtnboanlhdllhnaaGreat
