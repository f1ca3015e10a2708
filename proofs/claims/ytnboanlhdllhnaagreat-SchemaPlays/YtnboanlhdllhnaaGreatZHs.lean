/- The program's catalogue and the document's, side by side, with a stretch of blocks that neither of them touches. -/
import Derived.Test.YtnboanlhdllhnaaGreatZPlJ
import Derived.Test.YtnboanlhdllhnaaGreatZRenJ
import Derived.Test.YtnboanlhdllhnaaGreatZSp
import Derived.Test.YtnboanlhdllhnaaGreatZArgsJ
import Derived.Test.YtnboanlhdllhnaaGreatZBytesP
namespace Go.Proofs.YtnboanlhdllhnaaGreat
open Go.RowKit

def HS (c : Nat) (L : Cat) (rb : Nat) (L' : Cat) (w u : World) (m M : Nat) : Prop :=
  ∃ A B, CatI c L u A ∧ RcI rb L' u B ∧ (∀ i, A i → ¬ B i) ∧ (∀ i, A i ∨ B i → w.heap.size ≤ i ∧ (i < m ∨ M ≤ i)) ∧ Below w.heap.size w u ∧ M ≤ u.heap.size
section
variable {c rb m M : Nat} {L L' : Cat} {w u u' : World}
theorem HS.base (h : HS c L rb L' w u m M) : Below w.heap.size w u := by obtain ⟨_, _, _, _, _, _, h, _⟩ := h; exact h
theorem HS.callL (h : HS c L rb L' w u m M) : ∃ A, CatI c L u A ∧ ∀ u' L2, Goes (CatI c L2) u u' A → HS c L2 rb L' w u' m M ∧ Turn (fun i => i < m ∨ M ≤ i) u u' := by
  obtain ⟨A, B, h1, h2, h3, h4, h5, h6⟩ := h
  refine ⟨A, h1, fun u' L2 ⟨A', g1, g2, g3⟩ => ⟨⟨A', B, g1, (rcI_res _ _).kept h2 g2 (fun i hB hA => h3 i hA hB), fun i hA hB => ?_, fun i hi => ?_, h5.trans ((g2.mono (S' := fun i => w.heap.size ≤ i) (fun i hi => (h4 i (Or.inl hi)).1)).toBelow h5.size), Nat.le_trans h6 g2.size⟩, g2.mono fun i hi => (h4 i (Or.inl hi)).2⟩⟩
  · rcases g3 i hA with k | k
    · exact h3 i k hB
    · have := (rcI_res _ _).lt h2 i hB; omega
  · rcases hi with hi | hi
    · rcases g3 i hi with k | k
      · exact h4 i (Or.inl k)
      · have := h5.size; exact ⟨by omega, Or.inr (by omega)⟩
    · exact h4 i (Or.inr hi)
theorem HS.callR (h : HS c L rb L' w u m M) : ∃ B, RcI rb L' u B ∧ ∀ u' L2, Goes (RcI rb L2) u u' B → HS c L rb L2 w u' m M ∧ Turn (fun i => i < m ∨ M ≤ i) u u' := by
  obtain ⟨A, B, h1, h2, h3, h4, h5, h6⟩ := h
  refine ⟨B, h2, fun u' L2 ⟨B', g1, g2, g3⟩ => ⟨⟨A, B', (catI_res _ _).kept h1 g2 (fun i hA hB => h3 i hA hB), g1, fun i hA hB => ?_, fun i hi => ?_, h5.trans ((g2.mono (S' := fun i => w.heap.size ≤ i) (fun i hi => (h4 i (Or.inr hi)).1)).toBelow h5.size), Nat.le_trans h6 g2.size⟩, g2.mono fun i hi => (h4 i (Or.inr hi)).2⟩⟩
  · rcases g3 i hB with k | k
    · exact h3 i hA k
    · have := (catI_res _ _).lt h1 i hA; omega
  · rcases hi with hi | hi
    · exact h4 i (Or.inl hi)
    · rcases g3 i hi with k | k
      · exact h4 i (Or.inr k)
      · have := h5.size; exact ⟨by omega, Or.inr (by omega)⟩
theorem HS.below (h : HS c L rb L' w u m M) (hb : Below u.heap.size u u') : HS c L rb L' w u' m M := by
  obtain ⟨A, B, h1, h2, h3, h4, h5, h6⟩ := h
  exact ⟨A, B, (catI_res _ _).kept h1 (Turn.ofBelow (fun _ => False) hb) (fun _ _ h => h), (rcI_res _ _).kept h2 (Turn.ofBelow (fun _ => False) hb) (fun _ _ h => h), h3, h4, h5.trans (hb.mono h5.size), Nat.le_trans h6 hb.size⟩
/-- what was made since is such a stretch -/
theorem HS.hole (h : HS c L rb L' w u m M) (hb : Below u.heap.size u u') : HS c L rb L' w u' u.heap.size u'.heap.size := by
  obtain ⟨A, B, h1, h2, h3, h4, h5, h6⟩ := h
  exact ⟨A, B, (catI_res _ _).kept h1 (Turn.ofBelow (fun _ => False) hb) (fun _ _ h => h), (rcI_res _ _).kept h2 (Turn.ofBelow (fun _ => False) hb) (fun _ _ h => h), h3, fun i hi => ⟨(h4 i hi).1, Or.inl (by
    rcases hi with hi | hi
    · exact (catI_res _ _).lt h1 i hi
    · exact (rcI_res _ _).lt h2 i hi)⟩, h5.trans (hb.mono h5.size), Nat.le_refl _⟩
theorem HS.free (h : HS c L rb L' w u m M) : HS c L rb L' w u 0 0 := by
  obtain ⟨A, B, h1, h2, h3, h4, h5, h6⟩ := h
  exact ⟨A, B, h1, h2, h3, fun i hi => ⟨(h4 i hi).1, Or.inr (Nat.zero_le _)⟩, h5, Nat.zero_le _⟩
/-- the stretch is written -/
theorem HS.spoil (h : HS c L rb L' w u m M) {S : Nat → Prop} (ht : Turn S u u') (hS : ∀ i, S i → m ≤ i ∧ i < M ∧ w.heap.size ≤ i) : HS c L rb L' w u' 0 0 := by
  obtain ⟨A, B, h1, h2, h3, h4, h5, h6⟩ := h
  refine ⟨A, B, (catI_res _ _).kept h1 ht (fun i hA hs => ?_), (rcI_res _ _).kept h2 ht (fun i hB hs => ?_), h3, fun i hi => ⟨(h4 i hi).1, Or.inr (Nat.zero_le _)⟩, h5.trans ((ht.mono (S' := fun i => w.heap.size ≤ i) (fun i hi => (hS i hi).2.2)).toBelow h5.size), Nat.zero_le _⟩
  · have a := (h4 i (Or.inl hA)).2
    have b := hS i hs
    omega
  · have a := (h4 i (Or.inr hB)).2
    have b := hS i hs
    omega
/-- another catalogue of the program's in place of its first -/
theorem HS.other (h : HS c L rb L' w u m M) {d : Nat} {L2 : Cat} {F : Nat → Prop} (hd : CatI d L2 u' F) (hF : ∀ i, F i → u.heap.size ≤ i) (hb : Below u.heap.size u u') : HS d L2 rb L' w u' 0 0 := by
  obtain ⟨A, B, h1, h2, h3, h4, h5, h6⟩ := h
  refine ⟨F, B, hd, (rcI_res _ _).kept h2 (Turn.ofBelow (fun _ => False) hb) (fun _ _ h => h), fun i hi hB => ?_, fun i hi => ⟨?_, Or.inr (Nat.zero_le _)⟩, h5.trans (hb.mono h5.size), Nat.zero_le _⟩
  · have := (rcI_res _ _).lt h2 i hB
    have := hF i hi
    omega
  · rcases hi with hi | hi
    · exact Nat.le_trans h5.size (hF i hi)
    · exact (h4 i (Or.inr hi)).1

/-! ### calls -/
theorem HS.create (h : HS c L rb L' w u m M) {cv iv : Value} {T : Tab} {w0 : World} (hb : Below w0.heap.size w0 u) (ht : TabV w0 cv iv T) (hr : Rg T) (hn : T.nm.size ≤ maxLen) :
    Calls Tryz.prog 9 #[.pointer (some ⟨c, 0, none⟩), tabVal cv iv T] u fun e w' => e = .returned (.int .i64 (crE L T)) ∧ Hid (HS c (crL L T) rb L' w w' m M ∧ Turn (fun i => i < m ∨ M ≤ i) u w') := by
  obtain ⟨A, h1, h2⟩ := h.callL
  exact (create_any c L cv iv T u w0 A hb ht hr hn h1).mono fun e w' ⟨e1, e2⟩ => ⟨e1, h2 w' _ e2⟩
theorem HS.rcreate (h : HS c L rb L' w u m M) {cv iv : Value} {X : List Iv} {T : Tab} {w0 : World} (hri : Dk.Rise L') (hb : Below w0.heap.size w0 u) (ht : CpOk w0 cv iv X T) (hr : Rg T) :
    Calls Tryz.prog 10 #[.pointer (some ⟨rb, 0, none⟩), tabVal cv iv T] u fun e w' => e = .returned (.int .i64 (crE L' T)) ∧ Hid (HS c L rb (crL L' T) w w' m M ∧ Turn (fun i => i < m ∨ M ≤ i) u w') := by
  obtain ⟨B, h1, h2⟩ := h.callR
  exact (rcreate_any rb L' cv iv X T u w0 B hri hb ht hr h1).mono fun e w' ⟨e1, e2⟩ => ⟨e1, h2 w' _ e2⟩
theorem HS.dropP (h : HS c L rb L' w u m M) {k : ByteArray} (hk : k.size ≤ maxLen) :
    Calls Tryz.prog 13 #[.pointer (some ⟨c, 0, none⟩), .string k] u fun e w' => e = .returned (.int .i64 (drE L k)) ∧ Hid (HS c (drL L k) rb L' w w' m M ∧ Turn (fun i => i < m ∨ M ≤ i) u w') := by
  obtain ⟨A, h1, h2⟩ := h.callL
  exact (drop_any c L k u A hk h1).mono fun e w' ⟨e1, e2⟩ => ⟨e1, h2 w' _ e2⟩
theorem HS.dropR (h : HS c L rb L' w u m M) {k : ByteArray} (hri : Dk.Rise L') :
    Calls Tryz.prog 14 #[.pointer (some ⟨rb, 0, none⟩), .string k] u fun e w' => e = .returned (.int .i64 (drE L' k)) ∧ Hid (HS c L rb (drL L' k) w w' m M ∧ Turn (fun i => i < m ∨ M ≤ i) u w') := by
  obtain ⟨B, h1, h2⟩ := h.callR
  exact (rdrop_any rb L' k u B hri h1).mono fun e w' ⟨e1, e2⟩ => ⟨e1, h2 w' _ e2⟩

/-- what Find tells -/
def fndT (L : Cat) (k : ByteArray) : Tab := (Dk.getL (kb k) L).getD ⟨⟨#[]⟩, [], 0, []⟩
def fndE (L : Cat) (k : ByteArray) : Int := if (Dk.getL (kb k) L).isSome then 0 else 141
theorem tabO_zero (w : World) (base : Nat) : TabO w base (.slice none 0 0) (.slice none 0 0) [] ⟨⟨#[]⟩, [], 0, []⟩ := ⟨World.ownsRow_nil _ _ _ _, World.ownsRow_nil _ _ _ _, rfl, (fun _ h => by cases h)⟩
theorem HS.findP (h : HS c L rb L' w u m M) {k : ByteArray} (hk : k.size ≤ maxLen) :
    Calls Tryz.prog 15 #[.pointer (some ⟨c, 0, none⟩), .string k] u fun e w' => ∃ ca cn cc ia n ic, e = .returned (.tuple #[.agg #[.string (fndT L k).nm, .slice ca cn cc, .int .i64 (fndT L k).key, .slice ia n ic], .int .i64 (fndE L k)]) ∧ Hid (∃ X, Below u.heap.size u w' ∧ TabO w' u.heap.size (.slice ca cn cc) (.slice ia n ic) X (fndT L k)) := by
  obtain ⟨A, h1, h2⟩ := h.callL
  unfold fndT fndE
  cases hg : Dk.getL (kb k) L with
  | none => exact (find_none c L k u A hk h1 hg).mono fun e w' ⟨e1, e2⟩ => ⟨none, 0, 0, none, 0, 0, e1, [], e2, tabO_zero _ _⟩
  | some T => exact find_some c L k T u A hk h1 hg
theorem HS.findR (h : HS c L rb L' w u m M) {k : ByteArray} (hri : Dk.Rise L') :
    Calls Tryz.prog 16 #[.pointer (some ⟨rb, 0, none⟩), .string k] u fun e w' => ∃ ca cn cc ia n ic, e = .returned (.tuple #[.agg #[.string (fndT L' k).nm, .slice ca cn cc, .int .i64 (fndT L' k).key, .slice ia n ic], .int .i64 (fndE L' k)]) ∧ Hid (∃ X, Below u.heap.size u w' ∧ TabO w' u.heap.size (.slice ca cn cc) (.slice ia n ic) X (fndT L' k)) := by
  obtain ⟨B, ⟨S, G, g1, g2, g3⟩, h2⟩ := h.callR
  subst g2
  unfold fndT fndE
  cases hg : Dk.getL (kb k) (catOf G) with
  | none => exact (rfind_none hri g1 hg).mono fun e w' ⟨e1, e2⟩ => ⟨none, 0, 0, none, 0, 0, e1, [], e2.out, tabO_zero _ _⟩
  | some T => exact rfind_some hri g1 hg
theorem HS.encP (h : HS c L rb L' w u m M) : Calls Tryz.prog 17 #[.pointer (some ⟨c, 0, none⟩)] u fun e w' => e = .returned (.tuple #[.string (encS L), .int .i64 (encE L)]) ∧ Hid (Below u.heap.size u w') := by
  obtain ⟨A, h1, h2⟩ := h.callL
  exact encode_any c L u A h1
theorem HS.encR (h : HS c L rb L' w u m M) : Calls Tryz.prog 18 #[.pointer (some ⟨rb, 0, none⟩)] u fun e w' => e = .returned (.tuple #[.string (encS L'), .int .i64 (encE L')]) ∧ Hid (Below u.heap.size u w') := by
  obtain ⟨B, ⟨S, G, g1, g2, g3⟩, h2⟩ := h.callR
  subst g2
  exact rencode_any g1
theorem HS.namesP (h : HS c L rb L' w u m M) {N : Nat} (hN : L.length = N) : Calls Tryz.prog 22 #[.pointer (some ⟨c, 0, none⟩)] u fun e w' => ∃ A cap, e = .returned (.slice A N cap) ∧ Hid (SliceAt w' (.slice A N cap) 1 enS (namesC L) ∧ Below u.heap.size u w') := by
  obtain ⟨A, h1, h2⟩ := h.callL
  refine (names_any c L u A h1).mono fun e w' ⟨A, cap, e1, e2, e3⟩ => ?_
  rw [namesC_length, hN] at e1 e2
  exact ⟨A, cap, e1, strs_of (base := u.heap.size) (by rw [namesC_length, hN]) (by rw [scells_flat]; exact e2.out), e3.out⟩
theorem HS.namesR (h : HS c L rb L' w u m M) : Calls Tryz.prog 23 #[.pointer (some ⟨rb, 0, none⟩)] u fun e w' => ∃ A n cap, e = .returned (.slice A n cap) ∧ Hid (SliceAt w' (.slice A n cap) 1 enS (namesC L') ∧ Below u.heap.size u w') := by
  obtain ⟨B, ⟨S, G, g1, g2, g3⟩, h2⟩ := h.callR
  subst g2
  refine (rnames_any g1).mono fun e w' ⟨A, n, cap, e1, e2⟩ => ?_
  obtain ⟨x1, x2, x3⟩ := e2.out
  rw [names_cat]
  exact ⟨A, n, cap, e1, strs_of (by rw [x1, List.length_map]) x2, x3⟩
end

end Go.Proofs.YtnboanlhdllhnaaGreat
