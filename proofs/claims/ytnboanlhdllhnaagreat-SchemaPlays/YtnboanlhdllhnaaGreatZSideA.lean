/- Two catalogues of a law's own side by side (the first part of ZSide, for seats without maps of bools). -/
import Derived.Test.YtnboanlhdllhnaaGreatZEncode
import Derived.Test.YtnboanlhdllhnaaGreatZArgsJ
namespace Go.Proofs.YtnboanlhdllhnaaGreat
open Go.RowKit Go.Maps

section
variable {I J : World → (Nat → Prop) → Prop} {w wr w' : World} {L : List (Nat × Obj)}

theorem Stand.callL (hJ : Res J) (h : Stand (Sep I J) w wr L) : ∃ A, I wr A ∧ ∀ w' I', Goes I' wr w' A → Stand (Sep I' J) w w' L := by
  obtain ⟨F, ⟨A, B, k1, k2, k3, k4, k5, k6⟩, h2, h3, h4, h5⟩ := h
  refine ⟨A, k1, fun w' I' hg => ?_⟩
  obtain ⟨A2, g1, g2, g3⟩ := hg
  refine ⟨fun i => A2 i ∨ B i, ⟨A2, B, g1, hJ.kept k2 g2 (fun i hi hA => k3 i hA hi), fun i hi hB => ?_, fun _ hi => Or.inl hi, fun _ hi => Or.inr hi, fun _ hi => hi⟩, fun i hi => ?_, fun p hp hF => ?_, fun p hp => ⟨(g2.block p.1 (lt_of (h4 p hp).1) (fun hA => h3 p hp (k4 _ hA))).trans (h4 p hp).1, (h4 p hp).2⟩, h5.trans ((g2.mono (fun i hi => h2 i (k4 i hi))).toBelow h5.size)⟩
  · rcases g3 i hi with h | h
    · exact k3 i h hB
    · have := hJ.lt k2 i hB; omega
  · rcases hi with hi | hi
    · rcases g3 i hi with h | h
      · exact h2 i (k4 i h)
      · exact Nat.le_trans h5.size h
    · exact h2 i (k5 i hi)
  · rcases hF with hF | hF
    · rcases g3 _ hF with h | h
      · exact h3 p hp (k4 _ h)
      · have := lt_of (h4 p hp).1; omega
    · exact h3 p hp (k5 _ hF)
theorem Stand.swap (h : Stand (Sep I J) w wr L) : Stand (Sep J I) w wr L := by
  obtain ⟨F, h1, h2⟩ := h
  exact ⟨F, h1.swap, h2⟩
theorem Stand.callR (hI : Res I) (h : Stand (Sep I J) w wr L) : ∃ A, J wr A ∧ ∀ w' J', Goes J' wr w' A → Stand (Sep I J') w w' L := by
  obtain ⟨A, h1, h2⟩ := Stand.callL hI h.swap
  exact ⟨A, h1, fun w' J' hg => (h2 w' J' hg).swap⟩
/-- a second object, made now -/
theorem Stand.also (R : Res I) (h : Stand I w wr L) {A : Nat → Prop} (h2 : J w' A) (h3 : ∀ i, A i → wr.heap.size ≤ i) (h4 : Below wr.heap.size wr w') : Stand (Sep I J) w w' L := by
  obtain ⟨F, x1, x2, x3, x4, x5⟩ := h
  refine ⟨fun i => F i ∨ A i, Sep.mk (R.kept (S := fun _ => False) x1 (Turn.ofBelow _ h4) (fun _ _ h => h)) h2 (fun i hi hA => ?_), fun i hi => ?_, fun p hp hF => ?_, fun p hp => ⟨(h4.block p.1 (lt_of (x4 p hp).1)).trans (x4 p hp).1, (x4 p hp).2⟩, x5.trans (h4.mono x5.size)⟩
  · have := R.lt x1 i hi
    have := h3 i hA
    omega
  · rcases hi with h | h
    · exact x2 i h
    · exact Nat.le_trans x5.size (h3 i h)
  · rcases hF with h | h
    · exact x3 p hp h
    · have := h3 _ h
      have := lt_of (x4 p hp).1
      omega
end

/-- rows of one's own, by the blocks that they lie in -/
theorem ownsRow_rows {w : World} {base size n : Nat} {e : TypeId} {v : Value} {xs : List Value} (h : w.ownsRow base e size v n xs) :
    ∃ L' : List (Nat × Obj), (∀ p ∈ L', w.heap[p.1]? = some p.2 ∧ base ≤ p.1 ∧ v.ownBlock = some p.1) ∧ ∀ u : World, (∀ p ∈ L', u.heap[p.1]? = some p.2) → u.ownsRow 0 e size v n xs := by
  rcases h.2 with k | ⟨g, cap, cur, h1, h2, h3, h4⟩
  · exact ⟨[], (fun _ h => by cases h), fun u _ => ⟨h.1, Or.inl k⟩⟩
  · exact ⟨[(g, .cells cur e (0, 0))], fun p hp => by rw [List.mem_singleton.1 hp]; exact ⟨h3, h2, by rw [h1]; rfl⟩, fun u hu => ⟨h.1, Or.inr ⟨g, cap, cur, h1, Nat.zero_le _, hu _ (List.mem_singleton.2 rfl), h4⟩⟩⟩

section
variable {w wr w' : World} {L : List (Nat × Obj)}
theorem Stand.more {I : World → (Nat → Prop) → Prop} (R : Res I) (h : Stand I w wr L) (hb : Below wr.heap.size wr w') {L' : List (Nat × Obj)} (hL : ∀ p ∈ L', w'.heap[p.1]? = some p.2 ∧ wr.heap.size ≤ p.1) : Stand I w w' (L' ++ L) := by
  obtain ⟨F, h1, h2, h3, h4, h5⟩ := h
  refine ⟨F, R.kept (S := fun _ => False) h1 (Turn.ofBelow _ hb) (fun _ _ h => h), h2, fun p hp hF => ?_, fun p hp => ?_, h5.trans (hb.mono h5.size)⟩
  · rcases List.mem_append.1 hp with hp | hp
    · have := R.lt h1 _ hF
      have := (hL p hp).2
      omega
    · exact h3 p hp hF
  · rcases List.mem_append.1 hp with hp | hp
    · exact ⟨(hL p hp).1, Nat.le_trans h5.size (hL p hp).2⟩
    · exact ⟨(hb.block p.1 (lt_of (h4 p hp).1)).trans (h4 p hp).1, (h4 p hp).2⟩
end

/-! ### two catalogues -/
abbrev TwoC (a : Nat) (A : Cat) (b : Nat) (B : Cat) (w wr : World) (L : List (Nat × Obj)) : Prop := Stand (Sep (CatI a A) (CatI b B)) w wr L
theorem twoC_res (a : Nat) (A : Cat) (b : Nat) (B : Cat) : Res (Sep (CatI a A) (CatI b B)) := Sep.res (catI_res a A) (catI_res b B)

section
variable {a b : Nat} {A B : Cat} {w wr w0 : World} {L : List (Nat × Obj)}
theorem one_new (w : World) : Calls Tryz.prog 6 #[] w fun e w' => ∃ c, e = .returned (.pointer (some ⟨c, 0, none⟩)) ∧ Hid (Stand (CatI c []) w w' []) := (new_any w).mono fun e w' ⟨c, e1, e2⟩ => by
  obtain ⟨F, h1, h2, h3⟩ := e2.out
  exact ⟨c, e1, Stand.start h1 h2 h3⟩
theorem two_new (h : Stand (CatI a A) w wr L) : Calls Tryz.prog 6 #[] wr fun e w' => ∃ c, e = .returned (.pointer (some ⟨c, 0, none⟩)) ∧ Hid (TwoC a A c [] w w' L) := (new_any wr).mono fun e w' ⟨c, e1, e2⟩ => by
  obtain ⟨F, h1, h2, h3⟩ := e2.out
  exact ⟨c, e1, Stand.also (catI_res _ _) h h1 h2 h3⟩
theorem TwoC.createL (h : TwoC a A b B w wr L) {t : Tv} (hb : Below w0.heap.size w0 wr) (ht : t.Ok w0) : Calls Tryz.prog 9 #[.pointer (some ⟨a, 0, none⟩), tabVal t.cv t.iv t.T] wr fun e w' => e = .returned (.int .i64 (crE A t.T)) ∧ Hid (TwoC a (crL A t.T) b B w w' L) := by
  obtain ⟨F, k1, k2⟩ := Stand.callL (catI_res b B) h
  exact (create_any a A t.cv t.iv t.T wr w0 F hb ht.tab ht.rg (by have := ht.nm; unfold reachBytes at this; unfold maxLen; omega) k1).mono fun e w' ⟨e1, e2⟩ => ⟨e1, k2 w' _ e2⟩
theorem TwoC.createR (h : TwoC a A b B w wr L) {t : Tv} (hb : Below w0.heap.size w0 wr) (ht : t.Ok w0) : Calls Tryz.prog 9 #[.pointer (some ⟨b, 0, none⟩), tabVal t.cv t.iv t.T] wr fun e w' => e = .returned (.int .i64 (crE B t.T)) ∧ Hid (TwoC a A b (crL B t.T) w w' L) := by
  obtain ⟨F, k1, k2⟩ := Stand.callR (catI_res a A) h
  exact (create_any b B t.cv t.iv t.T wr w0 F hb ht.tab ht.rg (by have := ht.nm; unfold reachBytes at this; unfold maxLen; omega) k1).mono fun e w' ⟨e1, e2⟩ => ⟨e1, k2 w' _ e2⟩
theorem TwoC.dropR (h : TwoC a A b B w wr L) {k : ByteArray} (hk : k.size ≤ maxLen) : Calls Tryz.prog 13 #[.pointer (some ⟨b, 0, none⟩), .string k] wr fun e w' => e = .returned (.int .i64 (drE B k)) ∧ Hid (TwoC a A b (drL B k) w w' L) := by
  obtain ⟨F, k1, k2⟩ := Stand.callR (catI_res a A) h
  exact (drop_any b B k wr F hk k1).mono fun e w' ⟨e1, e2⟩ => ⟨e1, k2 w' _ e2⟩
theorem TwoC.encodeL (h : TwoC a A b B w wr L) : Calls Tryz.prog 17 #[.pointer (some ⟨a, 0, none⟩)] wr fun e w' => e = .returned (.tuple #[.string (encS A), .int .i64 (encE A)]) ∧ Hid (TwoC a A b B w w' L) := by
  obtain ⟨F, k1, k2⟩ := Stand.callL (catI_res b B) h
  exact (encode_any a A wr F k1).mono fun e w' ⟨e1, e2⟩ => ⟨e1, h.below (twoC_res _ _ _ _) e2⟩
theorem TwoC.encodeR (h : TwoC a A b B w wr L) : Calls Tryz.prog 17 #[.pointer (some ⟨b, 0, none⟩)] wr fun e w' => e = .returned (.tuple #[.string (encS B), .int .i64 (encE B)]) ∧ Hid (TwoC a A b B w w' L) := by
  obtain ⟨F, k1, k2⟩ := Stand.callR (catI_res a A) h
  exact (encode_any b B wr F k1).mono fun e w' ⟨e1, e2⟩ => ⟨e1, h.below (twoC_res _ _ _ _) e2⟩
theorem names_strs {w' : World} {base : Nat} {A : Option Addr} {cap : Nat} {K : List ByteArray} (h : w'.ownsRow base 9 1 (.slice A K.length cap) K.length (scells K)) : SliceAt w' (.slice A K.length cap) 1 enS K := own_slice (en := enS) (n := 1) (fun _ => rfl) (by rw [scells_flat]; exact h)
theorem TwoC.namesL (h : TwoC a A b B w wr L) : Calls Tryz.prog 22 #[.pointer (some ⟨a, 0, none⟩)] wr fun e w' => ∃ v, e = .returned v ∧ Hid (SliceAt w' v 1 enS (namesC A)) ∧ Hid (TwoC a A b B w w' L) ∧ Hid (Below wr.heap.size wr w') := by
  obtain ⟨F, k1, k2⟩ := Stand.callL (catI_res b B) h
  exact (names_any a A wr F k1).mono fun e w' ⟨A, cap, e1, e2, e3⟩ => ⟨_, e1, names_strs e2.out, h.below (twoC_res _ _ _ _) e3.out, e3⟩
theorem TwoC.namesR (h : TwoC a A b B w wr L) : Calls Tryz.prog 22 #[.pointer (some ⟨b, 0, none⟩)] wr fun e w' => ∃ v, e = .returned v ∧ Hid (SliceAt w' v 1 enS (namesC B)) ∧ Hid (TwoC a A b B w w' L) ∧ Hid (Below wr.heap.size wr w') := by
  obtain ⟨F, k1, k2⟩ := Stand.callR (catI_res a A) h
  exact (names_any b B wr F k1).mono fun e w' ⟨A, cap, e1, e2, e3⟩ => ⟨_, e1, names_strs e2.out, h.below (twoC_res _ _ _ _) e3.out, e3⟩
end

end Go.Proofs.YtnboanlhdllhnaaGreat
