/- A net among other things: the calls, in whatever stands around it. -/
import Derived.Test.YthfmppghdlniiaaSStand
namespace Go.Proofs.Ythfmppghdlniiaa
open Go.RowKit

/-- P speaks of the net n, and of what stands around it -/
def Slot (n : Nat) (P : List Dr → World → Prop) : Prop := ∀ s wr, P s wr → ∃ F, NetI n s wr F ∧ ∀ s' w', Goes (NetI n s') wr w' F → P s' w'

theorem Stand.left {I I' J : World → (Nat → Prop) → Prop} (hJ : Res J) {w wr : World} {L : List (Nat × Obj)} (h : Stand (Sep I J) w wr L) : ∃ A, I wr A ∧ ∀ w', Goes I' wr w' A → Stand (Sep I' J) w w' L := by
  obtain ⟨F, h1, h2⟩ := h.call (I' := Sep I' J)
  obtain ⟨A, h3, h4⟩ := h1.left (I' := I') hJ
  exact ⟨A, h3, fun w' hg => h2 w' (h4 w' hg)⟩

theorem Stand.swap {I J : World → (Nat → Prop) → Prop} {w wr : World} {L : List (Nat × Obj)} (h : Stand (Sep I J) w wr L) : Stand (Sep J I) w wr L := by
  obtain ⟨F, h1, h2⟩ := h
  exact ⟨F, h1.swap, h2⟩

theorem slot_one (n : Nat) (w : World) (L : List (Nat × Obj)) : Slot n (fun s wr => Stand (NetI n s) w wr L) := fun s wr h => by
  obtain ⟨F, h1, h2, h3, h4, h5⟩ := h
  refine ⟨F, h1, fun s' w' hg => ?_⟩
  have h : Stand (NetI n s) w wr L := ⟨F, h1, h2, h3, h4, h5⟩
  obtain ⟨F', g1, g2, g3⟩ := hg
  refine ⟨F', g1, fun i hi => ?_, fun p hp hF => ?_, fun p hp => ⟨(g2.block p.1 (lt_of (h4 p hp).1) (h3 p hp)).trans (h4 p hp).1, (h4 p hp).2⟩, h5.trans ((g2.mono h2).toBelow h5.size)⟩
  · rcases g3 i hi with h | h
    · exact h2 i h
    · exact Nat.le_trans h5.size h
  · rcases g3 _ hF with h | h
    · exact h3 p hp h
    · have := lt_of (h4 p hp).1; omega

theorem slot_sep {J : World → (Nat → Prop) → Prop} (hJ : Res J) (n : Nat) (w : World) (L : List (Nat × Obj)) : Slot n (fun s wr => Stand (Sep (NetI n s) J) w wr L) := fun s wr h => by
  obtain ⟨F, hS, h2, h3, h4, h5⟩ := h
  obtain ⟨A, B, a1, a2, a3, a4, a5, a6⟩ := hS
  refine ⟨A, a1, fun s' w' hg => ?_⟩
  obtain ⟨A', g1, g2, g3⟩ := hg
  have hlt : ∀ i, B i → i < wr.heap.size := fun i hi => hJ.lt a2 i hi
  refine ⟨fun i => A' i ∨ B i, ⟨A', B, g1, hJ.kept a2 g2 (fun i hi hA => a3 i hA hi), fun i hi hB => ?_, fun _ hi => Or.inl hi, fun _ hi => Or.inr hi, fun _ hi => hi⟩, fun i hi => ?_, fun p hp hF => ?_, fun p hp => ⟨(g2.block p.1 (lt_of (h4 p hp).1) (fun hA => h3 p hp (a4 _ hA))).trans (h4 p hp).1, (h4 p hp).2⟩, h5.trans ((g2.mono (fun i hi => h2 i (a4 i hi))).toBelow h5.size)⟩
  · rcases g3 i hi with h | h
    · exact a3 i h hB
    · have := hlt i hB; omega
  · rcases hi with hi | hi
    · rcases g3 i hi with h | h
      · exact h2 i (a4 i h)
      · exact Nat.le_trans h5.size h
    · exact h2 i (a5 i hi)
  · rcases hF with hF | hF
    · rcases g3 _ hF with h | h
      · exact h3 p hp (a4 _ h)
      · have := lt_of (h4 p hp).1; omega
    · exact h3 p hp (a5 _ hF)

theorem slot_sep2 {J : World → (Nat → Prop) → Prop} (hJ : Res J) (n : Nat) (w : World) (L : List (Nat × Obj)) : Slot n (fun s wr => Stand (Sep J (NetI n s)) w wr L) := fun s wr h => by
  obtain ⟨F, h1, h2⟩ := slot_sep hJ n w L s wr h.swap
  exact ⟨F, h1, fun s' w' hg => (h2 s' w' hg).swap⟩

section
variable {n : Nat} {P : List Dr → World → Prop} {s s' : List Dr} {wr : World}

theorem sl_dial (hP : Slot n P) (h : P s wr) {K : Nat} (hs : s.length = 2 * K) (hK : K < 64) :
    Calls Try.prog 12 #[.pointer (some ⟨n, 0, none⟩)] wr fun e w' => e = .returned (.tuple #[.int .i64 (K : Int), .int .i64 0]) ∧ P (s ++ [Dr.fresh, Dr.fresh]) w' := by
  obtain ⟨F, hI, hgo⟩ := hP s wr h
  refine (dial_ok wr hI hs hK).mono ?_
  rintro e w' ⟨rfl, hg⟩
  exact ⟨rfl, hgo _ w' hg⟩

theorem sl_write (hP : Slot n P) (h : P s wr) (j t : Nat) (x : ByteArray) {d : Dr} (ht : t < 2) (hd : s[2 * j + (1 - t)]? = some d) {E : Int} (hE : d.wrE x.size = E) (hs : s.set (2 * j + (1 - t)) (d.wrS x.data.toList) = s') :
    Calls Try.prog 14 #[.pointer (some ⟨n, 0, none⟩), .int .i64 (j : Int), .int .i64 (t : Int), .string x] wr fun e w' => e = .returned (.int .i64 E) ∧ P s' w' := by
  obtain ⟨F, hI, hgo⟩ := hP s wr h
  refine (write_ok j t x wr hI ht hd).mono ?_
  rintro e w' ⟨rfl, hg⟩
  exact ⟨by rw [hE], hgo _ w' (hs ▸ hg)⟩

theorem sl_arrive (hP : Slot n P) (h : P s wr) (j t : Nat) (m : Int) {d : Dr} (ht : t < 2) (hd : s[2 * j + t]? = some d) (hm : 0 ≤ m) {k : Nat} (hk : d.arN m.toNat = k) (hs : s.set (2 * j + t) (d.arS m.toNat) = s') :
    Calls Try.prog 15 #[.pointer (some ⟨n, 0, none⟩), .int .i64 (j : Int), .int .i64 (t : Int), .int .i64 m] wr fun e w' => e = .returned (.tuple #[.int .i64 (k : Int), .int .i64 0]) ∧ P s' w' := by
  obtain ⟨F, hI, hgo⟩ := hP s wr h
  refine (arrive_ok j t m wr hI ht hd hm).mono ?_
  rintro e w' ⟨rfl, hg⟩
  exact ⟨by rw [hk], hgo _ w' (hs ▸ hg)⟩

theorem sl_read (hP : Slot n P) (h : P s wr) (j t : Nat) (m : Int) {d : Dr} (ht : t < 2) (hd : s[2 * j + t]? = some d) (hm : 0 ≤ m) {y : ByteArray} (hy : (⟨(d.q.take (d.rdN m.toNat)).toArray⟩ : ByteArray) = y) (hs : s.set (2 * j + t) (d.rdS m.toNat) = s') :
    Calls Try.prog 16 #[.pointer (some ⟨n, 0, none⟩), .int .i64 (j : Int), .int .i64 (t : Int), .int .i64 m] wr fun e w' => e = .returned (.tuple #[.string y, .int .i64 0]) ∧ P s' w' := by
  obtain ⟨F, hI, hgo⟩ := hP s wr h
  refine (read_ok j t m wr hI ht hd hm).mono ?_
  rintro e w' ⟨rfl, hg⟩
  exact ⟨by rw [hy], hgo _ w' (hs ▸ hg)⟩
end

end Go.Proofs.Ythfmppghdlniiaa
