/- Dial; and the calls at a connection or a side that there is not. -/
import Derived.Test.YthfmppghdlniiaaSMeth2
import Derived.Deep.AppendLies
namespace Go.Proofs.Ythfmppghdlniiaa
open Go.RowKit

theorem infoL : (Try.prog.info? 61).map (fun i => (i.zero, i.size, i.bytes)) = some (some (.agg #[.slice none 0 0, .int .i64 0, .bool false, .slice none 0 0, .int .i64 0, .bool false]), 6, 80) := by kernel_rfl

def blank : Gd := ⟨.slice none 0 0, Dr.fresh⟩
def links : List Value := [.slice none 0 0, .int .i64 0, .bool false, .slice none 0 0, .int .i64 0, .bool false]
theorem links_eq : lcells [blank, blank] = links := rfl

theorem links_one : ∀ u ∈ links, u.oneCell' = true := by decide

section
variable {n : Nat} {s : List Dr} {F : Nat → Prop}

/-- what Dial leaves -/
theorem NetG.dialled {w w1 w2 : World} {v : Value} {K : Nat} {G : List Gd} (h : NetG w n v K G) (hs : s = G.map Gd.dr) (hF : ∀ j, F j ↔ foot n v G j) (hK : K < 64) (hb : Below w.heap.size w w1) {g cap : Nat} (hown : w2.ownsRow 0 61 6 (.slice (some ⟨g, 0, none⟩) (K + 1) cap) (K + 1) (lcells G ++ links)) (hgrow : w1.grownBy w2 v.ownBlock) (hat : v.ownBlock = some g ∨ w.heap.size ≤ g) :
    Goes (NetI n (s ++ [Dr.fresh, Dr.fresh])) w (w2.setCell ⟨n, 0, none⟩ (.slice (some ⟨g, 0, none⟩) (K + 1) cap)) F := by
  have ht1 : Turn (foot n v G) w w2 := (Turn.ofBelow _ hb).trans (Turn.ofGrown hgrow (fun k hk => Or.inr (Or.inl hk)))
  have ht : Turn (foot n v G) w (w2.setCell ⟨n, 0, none⟩ (.slice (some ⟨g, 0, none⟩) (K + 1) cap)) := ht1.trans (Turn.setCell w2 ⟨n, 0, none⟩ _ (Or.inl rfl))
  have hnv : some n ≠ v.ownBlock := fun e => h.n_row e.symm rfl
  have hn2 : w2.heap[n]? = some (.cells #[v] 53 (0, 0)) := (hgrow.block n (Nat.lt_of_lt_of_le (lt_of h.top) hb.size) hnv).trans ((hb.block n (lt_of h.top)).trans h.top)
  have hng : n ≠ g := by
    intro e
    obtain ⟨cur, hc, _⟩ := ownsRow_own hown (g := g) rfl
    rw [← e, hn2] at hc
    simp at hc
  have hqb : ∀ x ∈ G, ∀ b, x.val.ownBlock = some b → (w2.setCell ⟨n, 0, none⟩ (.slice (some ⟨g, 0, none⟩) (K + 1) cap)).heap[b]? = w.heap[b]? := fun x hx b hb' => by
    have h1 : b ≠ n := fun e => h.n_q hx hb' e.symm
    have h2 : some b ≠ v.ownBlock := fun e => h.row_q hx e.symm hb'
    have h3 : b < w.heap.size := h.lt (Or.inr (Or.inr ⟨x, hx, hb'⟩))
    rw [Below.heap_setCell _ _ _ _ h1]
    exact (hgrow.block b (Nat.lt_of_lt_of_le h3 hb.size) h2).trans (hb.block b h3)
  refine ⟨foot n (.slice (some ⟨g, 0, none⟩) (K + 1) cap) (G ++ [blank, blank]), ⟨_, K + 1, G ++ [blank, blank], ⟨?_, ?_, ?_, by omega, fun x hx => ?_, fun x hx => ?_, fun a b x y hx hy hne k hk hk2 => ?_⟩, ?_, fun _ => Iff.rfl⟩, ht.mono (fun j hj => (hF j).2 hj), fun j hj => ?_⟩
  · rw [heap_setCell_same hn2]
    simp
  · rw [lcells_append, links_eq]
    refine ownsRow_block hown (fun b hb' => Below.heap_setCell _ _ _ _ ?_)
    cases hb'
    exact fun e => hng e.symm
  · rw [List.length_append, h.two]
    show 2 * K + 2 = _
    omega
  · rcases List.mem_append.1 hx with hx | hx
    · exact (h.qs x hx).block (hqb x hx)
    · have hx : x = blank := by simpa using hx
      rw [hx]
      exact QAt.nil _
  · rcases List.mem_append.1 hx with hx | hx
    · exact h.ok x hx
    · have hx : x = blank := by simpa using hx
      rw [hx]
      exact Dr.Ok.fresh
  · have hb1 : ∀ (i : Nat) (z : Gd) (b : Nat), (G ++ [blank, blank])[i]? = some z → z.val.ownBlock = some b → G[i]? = some z := fun i z b hz hzb => by
      by_cases hi : i < G.length
      · rwa [List.getElem?_append_left hi] at hz
      · rw [List.getElem?_append_right (by omega)] at hz
        have hz' : z ∈ [blank, blank] := List.mem_of_getElem? hz
        have : z = blank := by simpa using hz'
        rw [this] at hzb
        cases hzb
    exact h.apart a b x y (hb1 a x k hx hk) (hb1 b y k hy hk2) hne k hk hk2
  · rw [hs, List.map_append]
    rfl
  · rcases hj with rfl | hj | ⟨x, hx, hj⟩
    · exact Or.inl ((hF _).2 (Or.inl rfl))
    · cases hj
      rcases hat with hh | hh
      · exact Or.inl ((hF _).2 (Or.inr (Or.inl hh)))
      · exact Or.inr hh
    · rcases List.mem_append.1 hx with hx | hx
      · exact Or.inl ((hF _).2 (Or.inr (Or.inr ⟨x, hx, hj⟩)))
      · have hx : x = blank := by simpa using hx
        rw [hx] at hj
        cases hj

set_option maxHeartbeats 400000 in
theorem dial_full (w : World) (hI : NetI n s w F) (hK : 128 ≤ s.length) :
    Calls Try.prog 12 #[.pointer (some ⟨n, 0, none⟩)] w fun e w' => e = .returned (.tuple #[.int .i64 0, .int .i64 2]) ∧ w = w' := by
  obtain ⟨v, K, G, hG, rfl, hF⟩ := hI
  have c0 := hG.c0
  have h2 := hG.two
  have h3 : G.length = (G.map Gd.dr).length := by simp
  have h4 : (64 : Int) ≤ (K : Int) := by omega
  obtain ⟨a, cap, rfl⟩ := hG.shape
  clear hG hF h2 h3 hK
  go_enter Try.func12, Try.ntmps12
  go_wp2
  go_ret2
  exact ⟨rfl, rfl⟩

set_option maxRecDepth 100000 in
set_option maxHeartbeats 400000 in
theorem dial_ok (w : World) {K : Nat} (hI : NetI n s w F) (hs : s.length = 2 * K) (hK : K < 64) :
    Calls Try.prog 12 #[.pointer (some ⟨n, 0, none⟩)] w fun e w' => e = .returned (.tuple #[.int .i64 (K : Int), .int .i64 0]) ∧ Goes (NetI n (s ++ [Dr.fresh, Dr.fresh])) w w' F := by
  obtain ⟨v, K', G, hG, hsG, hF⟩ := hI
  have h2 := hG.two
  obtain rfl : K' = K := by
    rw [hsG, List.length_map] at hs
    omega
  have c0 := hG.c0
  have f0 := frozen_of hG.top 0
  obtain ⟨a, c, rfl⟩ := hG.shape
  have HG : Hid (NetG w n (.slice a K' c) K' G) := hG
  have HE : Hid (∀ (w1 w2 : World) (g cap : Nat), Below w.heap.size w w1 → w2.ownsRow 0 61 6 (.slice (some ⟨g, 0, none⟩) (K' + 1) cap) (K' + 1) (lcells G ++ links) → w1.grownBy w2 (Value.slice a K' c).ownBlock → ((Value.slice a K' c).ownBlock = some g ∨ w.heap.size ≤ g) →
      Goes (NetI n (s ++ [Dr.fresh, Dr.fresh])) w (w2.setCell ⟨n, 0, none⟩ (.slice (some ⟨g, 0, none⟩) (K' + 1) cap)) F) := fun w1 w2 g cap k1 k2 k3 k4 => hG.dialled hsG hF hK k1 k2 k3 k4
  have HN : Hid (some n ≠ (Value.slice a K' c).ownBlock ∧ n < w.heap.size) := ⟨fun e => hG.n_row e.symm rfl, lt_of hG.top⟩
  have h64 : ¬ (64 : Int) ≤ (K' : Int) := by omega
  obtain ⟨i0, hi, hz0, hz1, hz2⟩ := info_parts infoL
  clear hG hF hsG hs h2
  go_enter Try.func12, Try.ntmps12
  go_wp2_with (at_builtin; go_must (refine wpList_append_lies _ rfl _ _ 51 rfl 0 61 i0 _ 6 80 Try.underlying51 hi hz0 hz1 hz2 rfl (by decide) _ K' (lcells G) rfl (HG.out.row.alloc _) ⟨w.heap.size, 0, none⟩ 1 1 links rfl rfl ?q1 ?q2 (by omega) ?q3 ?q4 (by simp) (w.heap.size + 1) ?q5 ?_))
  case q1 => exact fun j u hu => hu
  case q2 => exact links_one
  case q3 => unfold maxLen; omega
  case q4 => omega
  intro g cap w2 r1 r2 r3 r4
  have hb : Below w.heap.size w (w.alloc (.cells #[.slice none 0 0, .int .i64 0, .bool false, .slice none 0 0, .int .i64 0, .bool false] 61 (0, 0))) := (Below.refl _ _).alloc (Nat.le_refl _) _
  have HE2 : Hid (Goes (NetI n (s ++ [Dr.fresh, Dr.fresh])) w (w2.setCell ⟨n, 0, none⟩ (.slice (some ⟨g, 0, none⟩) (K' + 1) cap)) F) := HE.out _ w2 g cap hb r1 r2 (by
    rcases r3 with r3 | r3
    · exact Or.inl r3
    · exact Or.inr (by omega))
  have hn1 : n < (w.alloc (.cells #[.slice none 0 0, .int .i64 0, .bool false, .slice none 0 0, .int .i64 0, .bool false] 61 (0, 0))).heap.size := by simp; have := HN.out.2; omega
  have hbn : w2.heap[n]? = w.heap[n]? := (r2.block n hn1 HN.out.1).trans (hb.block n HN.out.2)
  have c1 : w2.cell? ⟨n, 0, none⟩ = some (.slice a K' c) := (World.cell?_of_block hbn).trans c0
  have f1 : w2.frozen? ⟨n, 0, none⟩ = false := (World.frozen?_of_block hbn).trans f0
  clear r1 r2 r3 r4 hb hn1 hbn HE HN HG c0 f0
  go_wp2
  go_ret2
  exact ⟨by go_num, HE2.out⟩

/-! ### no such connection, no such side -/
def badE (s : List Dr) (c d : Int) : Int := if c < 0 ∨ (s.length : Int) ≤ 2 * c then 5 else if d = 0 ∨ d = 1 then 0 else 1

theorem find_bad (c d : Int) (w : World) (hI : NetI n s w F) (hb : badE s c d ≠ 0) :
    Calls Try.prog 27 #[.pointer (some ⟨n, 0, none⟩), .int .i64 c, .int .i64 d] w fun e w' => e = .returned (.tuple #[.pointer none, .pointer none, .int .i64 (badE s c d)]) ∧ w' = w := by
  obtain ⟨v, K, G, hG, rfl, hF⟩ := hI
  have h2 := hG.two
  unfold badE at hb ⊢
  rw [List.length_map] at hb ⊢
  by_cases h1 : c < 0 ∨ (G.length : Int) ≤ 2 * c
  · rw [if_pos h1]
    exact find_conn c d w hG (by omega)
  · rw [if_neg h1] at hb ⊢
    by_cases h3 : d = 0 ∨ d = 1
    · rw [if_pos h3] at hb
      exact absurd rfl hb
    · rw [if_neg h3]
      exact find_side c d w hG (by omega) (by omega) (fun e => h3 (Or.inl e)) (fun e => h3 (Or.inr e))

end
end Go.Proofs.Ythfmppghdlniiaa
