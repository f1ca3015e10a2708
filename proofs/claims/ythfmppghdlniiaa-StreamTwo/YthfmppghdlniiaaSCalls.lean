/- What each call of a net does: New, Write, Arrive, Read, Close, Ended, Pending. -/
import Derived.Test.YthfmppghdlniiaaSFind
namespace Go.Proofs.Ythfmppghdlniiaa
open Go.RowKit

theorem find_net {n g cap K o1 o2 : Nat} {G : List Gd} (j t : Nat) (w : World) (h : NetG w n (.slice (some ⟨g, 0, none⟩) K cap) K G) (hj : j < K) (ht : t < 2) (h1 : 3 * (2 * j + t) = o1) (h2 : 3 * (2 * j + (1 - t)) = o2) :
    Calls Try.prog 27 #[.pointer (some ⟨n, 0, none⟩), .int .i64 (j : Int), .int .i64 (t : Int)] w fun e w' => e = .returned (.tuple #[.pointer (some ⟨g, o1, none⟩), .pointer (some ⟨g, o2, none⟩), .int .i64 0]) ∧ NetG w' n (.slice (some ⟨g, 0, none⟩) K cap) K G ∧ Below w.heap.size w w' ∧ w'.heap.size = w.heap.size := by
  refine (find_ok j t w h hj ht).mono ?_
  rintro e w' ⟨rfl, m, rfl⟩
  exact ⟨by rw [h1, h2], h.drewN m, below_drewN w m, rfl⟩

theorem new_any (w : World) : Calls Try.prog 8 #[] w fun e w' => e = .returned (.pointer (some ⟨w.heap.size, 0, none⟩)) ∧ NetI w.heap.size [] w' (fun i => i = w.heap.size) ∧ Below w.heap.size w w' := by
  go_enter Try.func8, Try.ntmps8
  go_wp2
  go_ret
  refine ⟨rfl, ⟨_, 0, [], ⟨heap_new w _, World.ownsRow_nil _ _ _ _, rfl, by omega, by simp, by simp, by simp⟩, rfl, fun i => ⟨fun h => Or.inl h, fun h => ?_⟩⟩, (Below.refl _ _).alloc (Nat.le_refl _) _⟩
  rcases h with h | h | ⟨g, hg, _⟩
  · exact h
  · cases h
  · cases hg

section
variable {n : Nat} {s : List Dr} {F : Nat → Prop}

theorem NetI.at {w : World} (h : NetI n s w F) {i : Nat} {d : Dr} (hd : s[i]? = some d) : ∃ g cap K G, ∃ hi : i < G.length, NetG w n (.slice (some ⟨g, 0, none⟩) K cap) K G ∧ s = G.map Gd.dr ∧ (∀ j, F j ↔ foot n (.slice (some ⟨g, 0, none⟩) K cap) G j) ∧ (G[i]'hi).dr = d ∧ s.length = 2 * K := by
  obtain ⟨v, K, G, hG, rfl, hF⟩ := h
  rw [List.getElem?_map] at hd
  obtain ⟨x, hx, rfl⟩ := Option.map_eq_some_iff.1 hd
  obtain ⟨hi, rfl⟩ := List.getElem?_eq_some_iff.1 hx
  have h2 := hG.two
  obtain ⟨g, cap, cur, rfl, -⟩ := hG.rowAt (by omega)
  exact ⟨g, cap, K, G, hi, hG, rfl, hF, rfl, by simpa using h2⟩

theorem set_self {d : Dr} {i : Nat} (hd : s[i]? = some d) : s.set i d = s := by
  obtain ⟨hi, rfl⟩ := List.getElem?_eq_some_iff.1 hd
  exact List.set_getElem_self hi

/-- a direction of a net, as a call meets it in w: where its cells lie, what they hold, and what becomes of the net when they are written -/
structure DirC (w : World) (n : Nat) (F : Nat → Prop) (s : List Dr) (i : Nat) (d : Dr) (g o : Nat) (a : Option Addr) (c : Nat) : Prop where
  c0 : w.cell? ⟨g, o, none⟩ = some (.slice a d.q.length c)
  c1 : w.cell? ⟨g, o + 1, none⟩ = some (.int .i64 (d.here : Int))
  c2 : w.cell? ⟨g, o + 2, none⟩ = some (.bool d.shut)
  f0 : w.frozen? ⟨g, o, none⟩ = false
  f1 : w.frozen? ⟨g, o + 1, none⟩ = false
  f2 : w.frozen? ⟨g, o + 2, none⟩ = false
  q : QAt w (.slice a d.q.length c) d.q
  ok : d.Ok
  cap : d.q.length ≤ c
  stay : NetI n s w F
  setHere : ∀ h' : Nat, h' ≤ d.q.length → Goes (NetI n (s.set i ⟨d.q, h', d.shut⟩)) w (w.setCell ⟨g, o + 1, none⟩ (.int .i64 (h' : Int))) F
  setShut : Goes (NetI n (s.set i d.clS)) w (w.setCell ⟨g, o + 2, none⟩ (.bool true)) F
  setTake : ∀ k : Nat, k ≤ d.here → Goes (NetI n (s.set i ⟨d.q.drop k, d.here - k, d.shut⟩)) w ((w.setCell ⟨g, o, none⟩ (.slice (if c = k then a else a.map (·.add k)) (d.q.length - k) (c - k))).setCell ⟨g, o + 1, none⟩ (.int .i64 ((d.here - k : Nat) : Int))) F
  setQueue : ∀ (x : ByteArray) (w2 : World) (a' : Option Addr) (c' : Nat), d.q.length + x.size ≤ 262144 → QAt w2 (.slice a' (d.q.length + x.size) c') (d.q ++ x.data.toList) → w.grownBy w2 (Value.slice a d.q.length c).ownBlock →
      (∀ b, (Value.slice a' (d.q.length + x.size) c').ownBlock = some b → (Value.slice a d.q.length c).ownBlock = some b ∨ w.heap.size ≤ b) →
      Goes (NetI n (s.set i ⟨d.q ++ x.data.toList, d.here, d.shut⟩)) w (w2.setCell ⟨g, o, none⟩ (.slice a' (d.q.length + x.size) c')) F
  keepC : ∀ w2, w.grownBy w2 (Value.slice a d.q.length c).ownBlock → w2.cell? ⟨g, o, none⟩ = some (.slice a d.q.length c) ∧ w2.frozen? ⟨g, o, none⟩ = false

theorem NetG.dirC {w : World} {g cap K : Nat} {G : List Gd} (h1 : NetG w n (.slice (some ⟨g, 0, none⟩) K cap) K G) (hF : ∀ j, F j ↔ foot n (.slice (some ⟨g, 0, none⟩) K cap) G j) {i o : Nat} (hi : i < G.length) (ho : 3 * i = o) {a : Option Addr} {c : Nat} {d : Dr} (hdr : (G[i]).dr = d) (hv : (G[i]).val = .slice a d.q.length c) (hcap : d.q.length ≤ c) :
    DirC w n F (G.map Gd.dr) i d g o a c := by
  have hmem : G[i] ∈ G := List.getElem_mem hi
  have hok := h1.ok _ hmem
  rw [hdr] at hok
  have hq := h1.qs _ hmem
  rw [hdr, hv] at hq
  obtain ⟨q0, q1, q2, q3, q4, q5⟩ := h1.cells hi ho.symm
  rw [hv] at q0
  rw [hdr] at q1 q2
  have h2 := h1.two
  obtain ⟨g', cap', cur, hvv, hg, r3, r4, r5, r6⟩ := h1.rowAt (by omega)
  cases hvv
  have hgq : some g ≠ (Value.slice a d.q.length c).ownBlock := by
    rw [← hv]
    exact fun e => h1.row_q hmem rfl e.symm
  refine ⟨q0, q1, q2, q3, q4, q5, hq, hok, hcap, ⟨_, K, G, h1, rfl, hF⟩, fun h' hh => ?_, ?_, fun k hk => ?_, fun x w2 a' c' h4 h5 h6 h7 => ?_, fun w2 h6 => ?_⟩
  · refine h1.goesSet hF hi (d := ⟨.slice a d.q.length c, ⟨d.q, h', d.shut⟩⟩) (Turn.setCell w ⟨g, o + 1, none⟩ _ (Or.inl rfl)) (row_set (f := 1) hg r5 r6 hi ho.symm (by omega) ?_) ?_ ⟨hh, hok.len⟩ (fun b hb => Or.inl (by rw [hv]; exact hb))
    · unfold gcells
      rw [hdr, hv]
      rfl
    · refine hq.block (fun b hb => Below.heap_setCell _ _ _ _ ?_)
      exact fun e => hgq (by rw [hb, ← show b = g from e])
  · refine h1.goesSet hF hi (d := ⟨.slice a d.q.length c, d.clS⟩) (Turn.setCell w ⟨g, o + 2, none⟩ _ (Or.inl rfl)) (row_set (f := 2) hg r5 r6 hi ho.symm (by omega) ?_) ?_ hok.cl (fun b hb => Or.inl (by rw [hv]; exact hb))
    · unfold gcells
      rw [hdr, hv]
      rfl
    · refine hq.block (fun b hb => Below.heap_setCell _ _ _ _ ?_)
      exact fun e => hgq (by rw [hb, ← show b = g from e])
  · have hh := hok.here
    have hl := hok.len
    obtain ⟨k1, k2⟩ := hq.cut k (by omega)
    obtain ⟨v2, hv2⟩ : ∃ v2, Value.slice (if c = k then a else a.map (·.add k)) (d.q.length - k) (c - k) = v2 := ⟨_, rfl⟩
    rw [hv2] at k1 k2 ⊢
    obtain ⟨cu1, s1, s2, s3⟩ := row_set (f := 0) (K := K) (G := G) (d := ⟨v2, d⟩) (u := v2) hg r5 r6 hi ho.symm (by omega) (by unfold gcells; rw [hdr]; rfl)
    have hi' : i < (G.set i ⟨v2, d⟩).length := by simpa using hi
    obtain ⟨cu2, t1, t2, t3⟩ := row_set (f := 1) (K := K) (G := G.set i ⟨v2, d⟩) (d := ⟨v2, ⟨d.q.drop k, d.here - k, d.shut⟩⟩) (u := .int .i64 ((d.here - k : Nat) : Int)) s1 s2 s3 hi' ho.symm (by omega) (by unfold gcells; simp)
    rw [List.set_set] at t3
    refine h1.goesSet hF hi (d := ⟨v2, ⟨d.q.drop k, d.here - k, d.shut⟩⟩) ?_ ⟨cu2, t1, t2, t3⟩ ?_ ?_ (fun b hb => Or.inl ?_)
    · exact Turn.trans (b := w.setCell ⟨g, o, none⟩ v2) (Turn.setCell w ⟨g, o, none⟩ _ (Or.inl rfl)) (Turn.setCell _ ⟨g, o + 1, none⟩ _ (Or.inl rfl))
    · refine k1.block (fun b hb => ?_)
      have hne : b ≠ g := fun e => hgq (by rw [← k2, hb, e])
      rw [Below.heap_setCell _ _ _ _ hne, Below.heap_setCell _ _ _ _ hne]
    · exact ⟨by show d.here - k ≤ (d.q.drop k).length; rw [List.length_drop]; omega, by show (d.q.drop k).length ≤ 262144; rw [List.length_drop]; omega⟩
    · rw [hv, ← k2]
      exact hb
  · have hg2 := (h6.block g (lt_of hg) hgq).trans hg
    refine h1.goesSet hF hi (d := ⟨.slice a' (d.q.length + x.size) c', ⟨d.q ++ x.data.toList, d.here, d.shut⟩⟩) ?_ ?_ ?_ ?_ ?_
    · refine Turn.trans (b := w2) (Turn.ofGrown h6 (fun k hk => Or.inr (by rw [hv]; exact hk))) (Turn.setCell w2 ⟨g, o, none⟩ _ (Or.inl rfl))
    · refine row_set (f := 0) hg2 r5 r6 hi ho.symm (by omega) ?_
      unfold gcells
      rw [hdr]
      rfl
    · refine h5.block (fun b hb => Below.heap_setCell _ _ _ _ ?_)
      intro e
      obtain ⟨cu, hcu⟩ := h5.own hb
      rw [show b = g from e, hg2] at hcu
      simp at hcu
    · have := hok.here
      exact ⟨by simp; omega, by show (d.q ++ x.data.toList).length ≤ 262144; rw [List.length_append]; exact h4⟩
    · rw [hv]
      exact h7
  · have hg2 := (h6.block g (lt_of hg) hgq).trans hg
    exact ⟨(World.cell?_of_block (h6.block g (lt_of hg) hgq)).trans q0, frozen_of hg2 _⟩

/-- a direction is found, wherever find is called -/
theorem NetI.dir {w : World} (hI : NetI n s w F) {j t i : Nat} {d : Dr} (ht : t < 2) (hi : i = 2 * j + t ∨ i = 2 * j + (1 - t)) (hd : s[i]? = some d) :
    ∃ g o1 o2 a c, Calls Try.prog 27 #[.pointer (some ⟨n, 0, none⟩), .int .i64 (j : Int), .int .i64 (t : Int)] w (fun e w' => e = .returned (.tuple #[.pointer (some ⟨g, o1, none⟩), .pointer (some ⟨g, o2, none⟩), .int .i64 0]) ∧ DirC w' n F s i d g (if i = 2 * j + t then o1 else o2) a c ∧ Below w.heap.size w w' ∧ w'.heap.size = w.heap.size) := by
  obtain ⟨g, cap, K, G, hl, hG, hs, hF, hdr, hlen⟩ := hI.at hd
  have hq := hG.qs _ (List.getElem_mem hl)
  rw [hdr] at hq
  obtain ⟨a, c, hv, hlc, -, -⟩ := hq.shape
  have hil : i < s.length := by rw [hs]; simpa using hl
  refine ⟨g, 3 * (2 * j + t), 3 * (2 * j + (1 - t)), a, c, (find_net j t w hG (by omega) ht rfl rfl).mono ?_⟩
  rintro e w' ⟨rfl, h1, h2, h3⟩
  refine ⟨rfl, ?_, h2, h3⟩
  rw [hs]
  refine h1.dirC hF hl ?_ hdr hv hlc
  rcases hi with hi | hi
  · rw [if_pos hi, hi]
  · rw [if_neg (by omega), hi]

end
end Go.Proofs.Ythfmppghdlniiaa
