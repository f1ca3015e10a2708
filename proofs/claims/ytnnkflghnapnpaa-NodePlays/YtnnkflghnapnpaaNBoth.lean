/- The program's node and the document's side by side, beside blocks of the law's own. -/
import Derived.Test.YtnnkflghnapnpaaNSame
import Derived.Test.YtnnkflghnapnpaaNCountsP
namespace Go.Proofs.Ytnnkflghnapnpaa
open Go.RowKit

section
variable {I J A' B' C' D' : World → (Nat → Prop) → Prop} {w wr w' : World} {L : List (Nat × Obj)}

theorem Stand.callL (hJ : Res J) (h : Stand (Sep I J) w wr L) : ∃ A, I wr A ∧ ∀ w' I', Goes I' wr w' A → Stand (Sep I' J) w w' L := by
  obtain ⟨F, ⟨A, B, k1, k2, k3, k4, k5, k6⟩, h2, h3, h4, h5⟩ := h
  refine ⟨A, k1, fun w' I' hg => ?_⟩
  obtain ⟨A2, g1, g2, g3⟩ := hg
  refine ⟨fun i => A2 i ∨ B i, ⟨A2, B, g1, hJ.kept k2 g2 (fun i hi hA => k3 i hA hi), fun i hi hB => ?_, fun _ hi => Or.inl hi, fun _ hi => Or.inr hi, fun _ hi => hi⟩, fun i hi => ?_, fun p hp hF => ?_, fun p hp => ⟨(g2.block p.1 (lt_of (h4 p hp).1) (fun hA => h3 p hp (k4 _ hA))).trans (h4 p hp).1, (h4 p hp).2⟩, h5.trans ((g2.mono (fun i hi => h2 i (k4 i hi))).toBelow h5.size)⟩
  · rcases g3 i hi with h | h
    · exact k3 i h hB
    · have := hJ.lt k2 i hB; omega
  · rcases hi with hi | hi
    · rcases g3 i hi with h | h
      · exact h2 i (k4 i h)
      · exact Nat.le_trans h5.size h
    · exact h2 i (k5 i hi)
  · rcases hF with hF | hF
    · rcases g3 _ hF with h | h
      · exact h3 p hp (k4 _ h)
      · have := lt_of (h4 p hp).1; omega
    · exact h3 p hp (k5 _ hF)
theorem Stand.swap (h : Stand (Sep I J) w wr L) : Stand (Sep J I) w wr L := by
  obtain ⟨F, h1, h2⟩ := h
  exact ⟨F, h1.swap, h2⟩
theorem Stand.callR (hI : Res I) (h : Stand (Sep I J) w wr L) : ∃ A, J wr A ∧ ∀ w' J', Goes J' wr w' A → Stand (Sep I J') w w' L := by
  obtain ⟨A, h1, h2⟩ := Stand.callL hI h.swap
  exact ⟨A, h1, fun w' J' hg => (h2 w' J' hg).swap⟩
/-- of four the first and the third -/
theorem Stand.first (h : Stand (Sep (Sep A' B') (Sep C' D')) w wr L) : Stand (Sep A' C') w wr L := by
  obtain ⟨F, ⟨X, Y, ⟨X1, X2, a1, a2, a3, a4, a5, a6⟩, ⟨Y1, Y2, b1, b2, b3, b4, b5, b6⟩, k3, k4, k5, k6⟩, h2, h3, h4, h5⟩ := h
  refine ⟨fun i => X1 i ∨ Y1 i, Sep.mk a1 b1 (fun i hi hY => k3 i (a4 i hi) (b4 i hY)), fun i hi => ?_, fun p hp hF => ?_, h4, h5⟩
  · rcases hi with h | h
    · exact h2 i (k4 i (a4 i h))
    · exact h2 i (k5 i (b4 i h))
  · rcases hF with h | h
    · exact h3 p hp (k4 _ (a4 _ h))
    · exact h3 p hp (k5 _ (b4 _ h))
theorem Sep.swapBoth {u : World} {F : Nat → Prop} (h : Sep (Sep A' B') (Sep C' D') u F) : Sep (Sep B' A') (Sep D' C') u F := by
  obtain ⟨X, Y, h1, h2, h3⟩ := h
  exact ⟨X, Y, h1.swap, h2.swap, h3⟩
theorem Stand.second (h : Stand (Sep (Sep A' B') (Sep C' D')) w wr L) : Stand (Sep B' D') w wr L := by
  obtain ⟨F, h1, h2⟩ := h
  exact Stand.first (A' := B') (B' := A') (C' := D') (D' := C') ⟨F, h1.swapBoth, h2⟩
theorem act_cells {x v : Int} {k : ByteArray} {b : Nat} (h : Stand I w wr L) (hb : (b, actO x k v) ∈ L) : wr.cell? ⟨b, 0, none⟩ = some (.int .i64 x) ∧ wr.cell? ⟨b, 1, none⟩ = some (.string k) ∧ wr.cell? ⟨b, 2, none⟩ = some (.int .i64 v) := by
  have h1 := Stand.at h hb
  exact ⟨by rw [cell_of h1]; rfl, by rw [cell_of h1]; rfl, by rw [cell_of h1]; rfl⟩
end

abbrev Both (g : Nat) (a : Nd) (r : Nat) (b : Nd) (w wr : World) (L : List (Nat × Obj)) : Prop := Stand (Sep (NodeI g a) (RefI r b)) w wr L
theorem both_res (g : Nat) (a : Nd) (r : Nat) (b : Nd) : Res (Sep (NodeI g a) (RefI r b)) := Sep.res (nodeI_res g a) (refI_res r b)
abbrev Four (g : Nat) (a : Nd) (q : Nat) (b : Nd) (r : Nat) (c : Nd) (s : Nat) (d : Nd) (w wr : World) (L : List (Nat × Obj)) : Prop := Stand (Sep (Sep (NodeI g a) (NodeI q b)) (Sep (RefI r c) (RefI s d))) w wr L
theorem four_res (g : Nat) (a : Nd) (q : Nat) (b : Nd) (r : Nat) (c : Nd) (s : Nat) (d : Nd) : Res (Sep (Sep (NodeI g a) (NodeI q b)) (Sep (RefI r c) (RefI s d))) := Sep.res (Sep.res (nodeI_res g a) (nodeI_res q b)) (Sep.res (refI_res r c) (refI_res s d))

section
variable {g r q s : Nat} {n n' m : Nd} {w wr : World} {L : List (Nat × Obj)} {k : ByteArray}

theorem both_new {w w1 : World} {g : Nat} {n : Nd} (h : Has g n w w1 []) : Calls Try.prog 19 #[] w1 fun e w' => ∃ r, e = .returned (.pointer (some ⟨r, 0, none⟩)) ∧ Hid (Both g n r Nd.new w w' []) :=
  (onew_any w1).mono fun e w' ⟨r, A, h1, h2, h3, h4⟩ => ⟨r, h1, by
    obtain ⟨F, x1, x2, x3, x4, x5⟩ := h
    refine ⟨fun i => F i ∨ A i, Sep.mk ((nodeI_res g n).kept (S := fun _ => False) x1 (Turn.ofBelow _ h4) (fun _ _ h => h)) h2 (fun i hi hA => ?_), fun i hi => ?_, (fun _ h => by cases h), (fun _ h => by cases h), x5.trans (h4.mono x5.size)⟩
    · have := (nodeI_res g n).lt x1 i hi
      have := h3 i hA
      omega
    · rcases hi with h | h
      · exact x2 i h
      · exact Nat.le_trans x5.size (h3 i h)⟩

theorem Both.okL (h : Both g n r m w wr L) : n.Ok := by obtain ⟨A, h1, _⟩ := Stand.callL (refI_res r m) h; exact h1.ok
theorem Both.putL {v was e : Int} {there : Bool} (h : Both g n r m w wr L) (hp : PutsTo n k v n' was there e) (hv : Num v) (hI : 0 ≤ n.ins ∧ n.ins < 900000) :
    Calls Try.prog 21 #[.pointer (some ⟨g, 0, none⟩), .string k, .int .i64 v] wr fun x w' => x = .returned (.tuple #[.int .i64 was, .bool there, .int .i64 e]) ∧ Hid (Both g n' r m w w' L) := by
  obtain ⟨A, h1, h2⟩ := Stand.callL (refI_res r m) h
  exact (put_to hp h1 hv hI).mono fun x w' ⟨a, b⟩ => ⟨a, h2 w' _ b⟩
theorem Both.putR {v was e : Int} {there : Bool} (h : Both g m r n w wr L) (hp : PutsTo n k v n' was there e) (hv : Num v) (hI : 0 ≤ n.ins ∧ n.ins < 900000) :
    Calls Try.prog 22 #[.pointer (some ⟨r, 0, none⟩), .string k, .int .i64 v] wr fun x w' => x = .returned (.tuple #[.int .i64 was, .bool there, .int .i64 e]) ∧ Hid (Both g m r n' w w' L) := by
  obtain ⟨A, h1, h2⟩ := Stand.callR (nodeI_res g m) h
  exact (oput_to hp h1 hv hI).mono fun x w' ⟨a, b⟩ => ⟨a, h2 w' _ b⟩
theorem Both.takeL {was e : Int} (h : Both g n r m w wr L) (hp : TakesTo n k n' was e) (hI : 0 ≤ n.ins ∧ n.ins < 900000) :
    Calls Try.prog 25 #[.pointer (some ⟨g, 0, none⟩), .string k] wr fun x w' => x = .returned (.tuple #[.int .i64 was, .int .i64 e]) ∧ Hid (Both g n' r m w w' L) := by
  obtain ⟨A, h1, h2⟩ := Stand.callL (refI_res r m) h
  exact (take_to hp h1 hI).mono fun x w' ⟨a, b⟩ => ⟨a, h2 w' _ b⟩
theorem Both.takeR {was e : Int} (h : Both g m r n w wr L) (hp : TakesTo n k n' was e) (hI : 0 ≤ n.ins ∧ n.ins < 900000) :
    Calls Try.prog 26 #[.pointer (some ⟨r, 0, none⟩), .string k] wr fun x w' => x = .returned (.tuple #[.int .i64 was, .int .i64 e]) ∧ Hid (Both g m r n' w w' L) := by
  obtain ⟨A, h1, h2⟩ := Stand.callR (nodeI_res g m) h
  exact (otake_to hp h1 hI).mono fun x w' ⟨a, b⟩ => ⟨a, h2 w' _ b⟩
theorem Both.getL {v : Int} {t : Bool} (h : Both g n r m w wr L) (hp : GetsTo n k v t) :
    Calls Try.prog 23 #[.pointer (some ⟨g, 0, none⟩), .string k] wr fun x w' => x = .returned (.tuple #[.int .i64 v, .bool t]) ∧ Hid (Both g n r m w w' L) := by
  obtain ⟨A, h1, _⟩ := Stand.callL (refI_res r m) h
  exact (get_to hp h1).mono fun x w' ⟨a, m9, hw⟩ => ⟨a, hw ▸ Stand.drewN (both_res _ _ _ _) h m9⟩
theorem Both.getR {v : Int} {t : Bool} (h : Both g m r n w wr L) (hp : GetsTo n k v t) :
    Calls Try.prog 24 #[.pointer (some ⟨r, 0, none⟩), .string k] wr fun x w' => x = .returned (.tuple #[.int .i64 v, .bool t]) ∧ Hid (Both g m r n w w' L) := by
  obtain ⟨A, h1, _⟩ := Stand.callR (nodeI_res g m) h
  exact (oget_to hp h1).mono fun x w' ⟨a, hw⟩ => ⟨a, Stand.below (both_res _ _ _ _) h hw⟩
theorem Both.same (h : Both g n r n w wr L) : Calls Try.prog 29 #[.pointer (some ⟨g, 0, none⟩), .pointer (some ⟨r, 0, none⟩)] wr fun x w' => x = .returned (.bool true) ∧ Hid (Both g n r n w w' L) := by
  obtain ⟨A, h1, _⟩ := Stand.callL (refI_res r n) h
  obtain ⟨B, h2, _⟩ := Stand.callR (nodeI_res g n) h
  exact (same_any h1 h2).mono fun x w' ⟨a, hw⟩ => ⟨a, Stand.below (both_res _ _ _ _) h hw⟩
theorem Both.fewL (h : Both g n r m w wr L) (hf : n.ks.length < 2) : Calls Try.prog 27 #[.pointer (some ⟨g, 0, none⟩)] wr fun x w' => x = .returned (.tuple #[.pointer none, .string ⟨#[]⟩, .int .i64 4]) ∧ Hid (Both g n r m w w' L) := by
  obtain ⟨A, h1, _⟩ := Stand.callL (refI_res r m) h
  exact (split_few h1 hf).mono fun x w' ⟨a, hw⟩ => ⟨a, by subst hw; exact h⟩
theorem Both.fewR (h : Both g m r n w wr L) (hf : n.ks.length < 2) : Calls Try.prog 28 #[.pointer (some ⟨r, 0, none⟩)] wr fun x w' => x = .returned (.tuple #[.pointer none, .string ⟨#[]⟩, .int .i64 4]) ∧ Hid (Both g m r n w w' L) := by
  obtain ⟨A, h1, _⟩ := Stand.callR (nodeI_res g m) h
  exact (osplit_few h1 hf).mono fun x w' ⟨a, hw⟩ => ⟨a, Stand.below (both_res _ _ _ _) h hw⟩
theorem Both.splitL {p : Kv} (h : Both g n r m w wr L) (hf : 2 ≤ n.ks.length) (hI : 0 ≤ n.ins ∧ n.ins < 900000) (hS : 0 ≤ n.spl ∧ n.spl < 900000) (hp : n.ks[n.stay]? = some p) :
    Calls Try.prog 27 #[.pointer (some ⟨g, 0, none⟩)] wr fun x w' => ∃ q, x = .returned (.tuple #[.pointer (some ⟨q, 0, none⟩), .string p.1, .int .i64 0]) ∧ Hid (Stand (Sep (Sep (NodeI g n.left) (NodeI q n.right)) (RefI r m)) w w' L) := by
  obtain ⟨A, h1, h2⟩ := Stand.callL (refI_res r m) h
  refine (split_ok h1 hf hI hS).mono fun x w' ⟨q, p', e1, e2, _, e4⟩ => ⟨q, ?_, h2 w' _ e4⟩
  rw [hp] at e1
  cases e1
  exact e2
theorem splitR {p : Kv} {a b : Nd} (h : Stand (Sep (Sep (NodeI g a) (NodeI q b)) (RefI r n)) w wr L) (hf : 2 ≤ n.ks.length) (hI : 0 ≤ n.ins ∧ n.ins < 800000) (hS : 0 ≤ n.spl ∧ n.spl < 900000) (hp : n.ks[n.stay]? = some p) :
    Calls Try.prog 28 #[.pointer (some ⟨r, 0, none⟩)] wr fun x w' => ∃ s, x = .returned (.tuple #[.pointer (some ⟨s, 0, none⟩), .string p.1, .int .i64 0]) ∧ Hid (Four g a q b r n.left s n.right w w' L) := by
  obtain ⟨A, h1, h2⟩ := Stand.callR (Sep.res (nodeI_res g a) (nodeI_res q b)) h
  refine (osplit_ok h1 hf hI hS).mono fun x w' ⟨s, p', e1, e2, e4⟩ => ⟨s, ?_, h2 w' _ e4⟩
  rw [hp] at e1
  cases e1
  exact e2
theorem Four.sameB {a b : Nd} (h : Four g a q b r a s b w wr L) : Calls Try.prog 29 #[.pointer (some ⟨q, 0, none⟩), .pointer (some ⟨s, 0, none⟩)] wr fun x w' => x = .returned (.bool true) ∧ Hid (Four g a q b r a s b w w' L) := by
  have h' := Stand.second h
  obtain ⟨A, h1, _⟩ := Stand.callL (refI_res s b) h'
  obtain ⟨B, h2, _⟩ := Stand.callR (nodeI_res q b) h'
  exact (same_any h1 h2).mono fun x w' ⟨e, hw⟩ => ⟨e, Stand.below (four_res _ _ _ _ _ _ _ _) h hw⟩
theorem Four.sameA {a b : Nd} (h : Four g a q b r a s b w wr L) : Calls Try.prog 29 #[.pointer (some ⟨g, 0, none⟩), .pointer (some ⟨r, 0, none⟩)] wr fun x w' => x = .returned (.bool true) ∧ Hid (Four g a q b r a s b w w' L) := by
  have h' := Stand.first h
  obtain ⟨A, h1, _⟩ := Stand.callL (refI_res r a) h'
  obtain ⟨B, h2, _⟩ := Stand.callR (nodeI_res g a) h'
  exact (same_any h1 h2).mono fun x w' ⟨e, hw⟩ => ⟨e, Stand.below (four_res _ _ _ _ _ _ _ _) h hw⟩
theorem right_cnt {n : Nd} (ho : n.Ok) (j : Nat) : Cnt n.right (j + 1) := by
  have hf := ho.few
  have e1 : n.right.ins = ((n.ks.length / 2 : Nat) : Int) := rfl
  have e2 : n.right.spl = 0 := rfl
  exact ⟨by omega, by omega, by omega, by omega⟩
end

end Go.Proofs.Ytnnkflghnapnpaa
