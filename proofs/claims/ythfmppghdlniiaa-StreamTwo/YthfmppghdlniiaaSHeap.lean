/- Directions in plain words, and where a net lies in memory: its struct, its row of connections, the queues. -/
import Derived.Test.YthfmppghdlniiaaSQueue
namespace Go.Proofs.Ythfmppghdlniiaa
open Go.RowKit

/-- a direction: what was written and not read, how many of it have arrived, whether the writer has closed -/
structure Dr where
  q : List UInt8
  here : Nat
  shut : Bool

namespace Dr
def fresh : Dr := ⟨[], 0, false⟩
def wrE (d : Dr) (n : Nat) : Int := if d.shut then 20 else if 262144 < d.q.length + n then 2 else 0
def wrS (d : Dr) (x : List UInt8) : Dr := if d.shut then d else if 262144 < d.q.length + x.length then d else ⟨d.q ++ x, d.here, d.shut⟩
def arN (d : Dr) (m : Nat) : Nat := min m (d.q.length - d.here)
def arS (d : Dr) (m : Nat) : Dr := ⟨d.q, d.here + d.arN m, d.shut⟩
def rdN (d : Dr) (m : Nat) : Nat := min m d.here
def rdS (d : Dr) (m : Nat) : Dr := ⟨d.q.drop (d.rdN m), d.here - d.rdN m, d.shut⟩
def clE (d : Dr) : Int := if d.shut then 20 else 0
def clS (d : Dr) : Dr := ⟨d.q, d.here, true⟩
def enV (d : Dr) : Bool := d.shut && decide (d.q.length = 0)
structure Ok (d : Dr) : Prop where
  here : d.here ≤ d.q.length
  len : d.q.length ≤ 262144
theorem Ok.fresh : Ok fresh := ⟨Nat.le_refl _, Nat.zero_le _⟩
theorem Ok.wr {d : Dr} (h : Ok d) (x : List UInt8) : Ok (d.wrS x) := by
  unfold wrS
  split
  · exact h
  · split
    · exact h
    · have := h.here
      exact ⟨by simp; omega, by simp; omega⟩
theorem Ok.ar {d : Dr} (h : Ok d) (m : Nat) : Ok (d.arS m) := by
  have h1 := h.here
  have h2 : d.arN m ≤ d.q.length - d.here := Nat.min_le_right _ _
  exact ⟨by show d.here + d.arN m ≤ d.q.length; omega, h.len⟩
theorem Ok.rd {d : Dr} (h : Ok d) (m : Nat) : Ok (d.rdS m) := by
  have h1 := h.here
  have h2 := h.len
  have h3 : d.rdN m ≤ d.here := Nat.min_le_right _ _
  exact ⟨by show d.here - d.rdN m ≤ (d.q.drop (d.rdN m)).length; rw [List.length_drop]; omega, by show (d.q.drop (d.rdN m)).length ≤ 262144; rw [List.length_drop]; omega⟩
theorem Ok.cl {d : Dr} (h : Ok d) : Ok d.clS := ⟨h.here, h.len⟩
end Dr

/-- a direction in memory: the slice of its queue, and what it holds -/
structure Gd where
  val : Value
  dr : Dr

def gcells (g : Gd) : List Value := [g.val, .int .i64 (g.dr.here : Int), .bool g.dr.shut]
def lcells (G : List Gd) : List Value := G.flatMap gcells

theorem lcells_cons (g : Gd) (G : List Gd) : lcells (g :: G) = gcells g ++ lcells G := by simp [lcells]
theorem lcells_append (A B : List Gd) : lcells (A ++ B) = lcells A ++ lcells B := by simp [lcells]
theorem lcells_length : ∀ G : List Gd, (lcells G).length = 3 * G.length
  | [] => rfl
  | g :: G => by rw [lcells_cons, List.length_append, lcells_length G, List.length_cons]; show 3 + _ = _; omega

theorem lcells_get : ∀ (G : List Gd) (i : Nat) (h : i < G.length) (f : Nat), f < 3 → (lcells G)[3 * i + f]? = (gcells G[i])[f]?
  | g :: G, 0, _, f, hf => by
    rw [lcells_cons, List.getElem?_append_left (by show 3 * 0 + f < 3; omega)]
    simp
  | g :: G, i + 1, h, f, hf => by
    rw [lcells_cons, List.getElem?_append_right (by show 3 ≤ _; omega)]
    rw [show 3 * (i + 1) + f - (gcells g).length = 3 * i + f from by show 3 * (i + 1) + f - 3 = _; omega]
    rw [lcells_get G i (by simpa using h) f hf]
    simp

theorem lcells_set : ∀ (G : List Gd) (i : Nat) (h : i < G.length) (f : Nat) (u : Value) (d : Gd), f < 3 → (gcells G[i]).set f u = gcells d → (lcells G).set (3 * i + f) u = lcells (G.set i d)
  | g :: G, 0, _, f, u, d, hf, e => by
    rw [lcells_cons, List.set_append_left _ _ (by show 3 * 0 + f < 3; omega)]
    rw [List.set_cons_zero, lcells_cons, ← e]
    simp
  | g :: G, i + 1, h, f, u, d, hf, e => by
    rw [lcells_cons, List.set_append_right _ _ (by show 3 ≤ _; omega)]
    rw [show 3 * (i + 1) + f - (gcells g).length = 3 * i + f from by show 3 * (i + 1) + f - 3 = _; omega]
    rw [lcells_set G i (by simpa using h) f u d hf (by simpa using e), List.set_cons_succ, lcells_cons]

structure NetG (w : World) (n : Nat) (v : Value) (K : Nat) (G : List Gd) : Prop where
  top : w.heap[n]? = some (.cells #[v] 53 (0, 0))
  row : w.ownsRow 0 61 6 v K (lcells G)
  two : G.length = 2 * K
  few : K ≤ 64
  qs : ∀ g ∈ G, QAt w g.val g.dr.q
  ok : ∀ g ∈ G, g.dr.Ok
  apart : ∀ (i j : Nat) (a c : Gd), G[i]? = some a → G[j]? = some c → i ≠ j → ∀ b, a.val.ownBlock = some b → c.val.ownBlock ≠ some b

def foot (n : Nat) (v : Value) (G : List Gd) (i : Nat) : Prop := i = n ∨ v.ownBlock = some i ∨ ∃ g ∈ G, g.val.ownBlock = some i

def NetI (n : Nat) (s : List Dr) (w : World) (F : Nat → Prop) : Prop := ∃ v K G, NetG w n v K G ∧ s = G.map Gd.dr ∧ ∀ i, F i ↔ foot n v G i

section
variable {w w' : World} {n : Nat} {v : Value} {K : Nat} {G : List Gd}

theorem NetG.lt (h : NetG w n v K G) {i : Nat} (hi : foot n v G i) : i < w.heap.size := by
  rcases hi with rfl | hi | ⟨g, hg, hi⟩
  · exact lt_of h.top
  · obtain ⟨cur, hc, _⟩ := ownsRow_own h.row hi
    exact lt_of hc
  · obtain ⟨cur, hc⟩ := (h.qs g hg).own hi
    exact lt_of hc

theorem NetG.n_row (h : NetG w n v K G) {g : Nat} (hv : v.ownBlock = some g) : n ≠ g := by
  intro e
  obtain ⟨cur, hc, _⟩ := ownsRow_own h.row hv
  rw [← e, h.top] at hc
  simp at hc
theorem NetG.n_q (h : NetG w n v K G) {d : Gd} (hd : d ∈ G) {g : Nat} (hv : d.val.ownBlock = some g) : n ≠ g := by
  intro e
  obtain ⟨cur, hc⟩ := (h.qs d hd).own hv
  rw [← e, h.top] at hc
  simp at hc
theorem NetG.row_q (h : NetG w n v K G) {d : Gd} (hd : d ∈ G) {g : Nat} (hv : v.ownBlock = some g) : d.val.ownBlock ≠ some g := by
  intro e
  obtain ⟨cur, hc, _⟩ := ownsRow_own h.row hv
  obtain ⟨cur2, hc2⟩ := (h.qs d hd).own e
  rw [hc] at hc2
  simp at hc2

theorem NetG.kept (h : NetG w n v K G) {S : Nat → Prop} (ht : Turn S w w') (hS : ∀ i, foot n v G i → ¬ S i) : NetG w' n v K G := by
  have e : ∀ i, foot n v G i → w'.heap[i]? = w.heap[i]? := fun i hi => ht.block i (h.lt hi) (hS i hi)
  exact ⟨(e n (Or.inl rfl)).trans h.top, ownsRow_block h.row (fun g hg => e g (Or.inr (Or.inl hg))), h.two, h.few, fun g hg => (h.qs g hg).block (fun b hb => e b (Or.inr (Or.inr ⟨g, hg, hb⟩))), h.ok, h.apart⟩

theorem netI_res (n : Nat) (s : List Dr) : Res (NetI n s) := by
  refine ⟨fun {w F} h i hi => ?_, fun {w w' F S} h ht hS => ?_⟩
  · obtain ⟨v, K, G, hG, _, hF⟩ := h
    exact hG.lt ((hF i).1 hi)
  · obtain ⟨v, K, G, hG, hs, hF⟩ := h
    exact ⟨v, K, G, hG.kept ht (fun i hi => hS i ((hF i).2 hi)), hs, hF⟩

theorem NetG.drewN (h : NetG w n v K G) (m : Nat) : NetG (w.drewN m) n v K G := h.kept (S := fun _ => False) (Turn.ofBelow _ (below_drewN w m)) (fun _ _ h => h)

/-- the row, where there is a connection -/
theorem NetG.rowAt (h : NetG w n v K G) (hK : 0 < K) : ∃ g cap cur, v = .slice (some ⟨g, 0, none⟩) K cap ∧ w.heap[g]? = some (.cells cur 61 (0, 0)) ∧ K ≤ cap ∧ cap ≤ maxLen ∧ cur.size = cap * 6 ∧ cur.toList.take (K * 6) = lcells G := by
  rcases h.row.2 with ⟨_, h0⟩ | ⟨g, cap, cur, hv, _, hg, h1, h2, h3, h4⟩
  · omega
  · exact ⟨g, cap, cur, hv, hg, h1, h2, h3, h4⟩

theorem NetG.shape (h : NetG w n v K G) : ∃ a cap, v = .slice a K cap := by
  rcases h.row.2 with ⟨rfl, rfl⟩ | ⟨g, cap, cur, hv, _⟩
  · exact ⟨none, 0, rfl⟩
  · exact ⟨_, _, hv⟩

/-- a direction's cells -/
theorem NetG.cells {g cap : Nat} (h : NetG w n (.slice (some ⟨g, 0, none⟩) K cap) K G) {i : Nat} (hi : i < G.length) {o : Nat} (ho : o = 3 * i) :
    w.cell? ⟨g, o, none⟩ = some (G[i]).val ∧ w.cell? ⟨g, o + 1, none⟩ = some (.int .i64 ((G[i]).dr.here : Int)) ∧ w.cell? ⟨g, o + 2, none⟩ = some (.bool (G[i]).dr.shut) ∧
      w.frozen? ⟨g, o, none⟩ = false ∧ w.frozen? ⟨g, o + 1, none⟩ = false ∧ w.frozen? ⟨g, o + 2, none⟩ = false := by
  have h2 := h.two
  obtain ⟨g', cap', cur, hv, hg, h3, h4, h5, h6⟩ := h.rowAt (by omega)
  cases hv
  have key : ∀ f, f < 3 → w.cell? ⟨g, o + f, none⟩ = (gcells G[i])[f]? := fun f hf => by
    rw [cell_of hg, ho, ← lcells_get G i hi f hf, ← h6, List.getElem?_take_of_lt (by omega)]
    simp
  exact ⟨key 0 (by omega), key 1 (by omega), key 2 (by omega), frozen_of hg _, frozen_of hg _, frozen_of hg _⟩

theorem NetG.setDir {g cap : Nat} (h : NetG w n (.slice (some ⟨g, 0, none⟩) K cap) K G) {i : Nat} (hi : i < G.length) {d : Gd} (ht : Turn (fun j => j = g ∨ (G[i]).val.ownBlock = some j) w w')
    (hc : ∃ cur, w'.heap[g]? = some (.cells cur 61 (0, 0)) ∧ cur.size = cap * 6 ∧ cur.toList.take (K * 6) = lcells (G.set i d)) (hq : QAt w' d.val d.dr.q) (hok : d.dr.Ok)
    (hloc : ∀ b, d.val.ownBlock = some b → (G[i]).val.ownBlock = some b ∨ w.heap.size ≤ b) : NetG w' n (.slice (some ⟨g, 0, none⟩) K cap) K (G.set i d) := by
  have h2 := h.two
  obtain ⟨g', cap', cur0, hv, hg, h3, h4, h5, h6⟩ := h.rowAt (by omega)
  cases hv
  obtain ⟨cur, hc1, hc2, hc3⟩ := hc
  have hmem : G[i] ∈ G := List.getElem_mem hi
  refine ⟨?_, ⟨?_, Or.inr ⟨g, cap, cur, rfl, Nat.zero_le _, hc1, h3, h4, hc2, hc3⟩⟩, ?_, h.few, fun x hx => ?_, fun x hx => ?_, fun a b x y hx hy hne k hk => ?_⟩
  · refine (ht.block n (lt_of h.top) (fun hn => ?_)).trans h.top
    rcases hn with hn | hn
    · exact h.n_row rfl hn
    · exact h.n_q hmem hn rfl
  · rw [lcells_length, List.length_set, h.two]; omega
  · rw [List.length_set]; exact h.two
  · obtain ⟨j, hj⟩ := List.mem_iff_getElem?.1 hx
    rw [List.getElem?_set] at hj
    by_cases e : i = j
    · subst e
      simp [hi] at hj
      rw [← hj]
      exact hq
    · rw [if_neg e] at hj
      have hx' : x ∈ G := List.mem_iff_getElem?.2 ⟨j, hj⟩
      refine (h.qs x hx').block (fun b hb => ht.block b ?_ (fun hn => ?_))
      · obtain ⟨c, hcc⟩ := (h.qs x hx').own hb
        exact lt_of hcc
      · rcases hn with rfl | hn
        · exact h.row_q hx' rfl hb
        · exact h.apart i j _ _ (List.getElem?_eq_getElem hi) hj e b hn hb
  · rcases List.mem_or_eq_of_mem_set hx with hx' | rfl
    · exact h.ok x hx'
    · exact hok
  · rw [List.getElem?_set] at hx hy
    have hlt : ∀ z ∈ G, ∀ b, z.val.ownBlock = some b → b < w.heap.size := fun z hz b hb => h.lt (Or.inr (Or.inr ⟨z, hz, hb⟩))
    by_cases ea : i = a
    · subst ea
      rw [if_neg hne] at hy
      simp [hi] at hx
      subst hx
      intro hk2
      have hy' : y ∈ G := List.mem_iff_getElem?.2 ⟨b, hy⟩
      rcases hloc k hk with hh | hh
      · exact h.apart i b _ _ (List.getElem?_eq_getElem hi) hy hne k hh hk2
      · have := hlt y hy' k hk2; omega
    · rw [if_neg ea] at hx
      have hx' : x ∈ G := List.mem_iff_getElem?.2 ⟨a, hx⟩
      by_cases eb : i = b
      · subst eb
        simp [hi] at hy
        subst hy
        intro hk2
        rcases hloc k hk2 with hh | hh
        · exact h.apart a i _ _ hx (List.getElem?_eq_getElem hi) hne k hk hh
        · have := hlt x hx' k hk; omega
      · rw [if_neg eb] at hy
        exact h.apart a b _ _ hx hy hne k hk

/-- the whole call: one direction has become another one -/
theorem NetG.goesSet {g cap : Nat} {F : Nat → Prop} (h : NetG w n (.slice (some ⟨g, 0, none⟩) K cap) K G) (hF : ∀ j, F j ↔ foot n (.slice (some ⟨g, 0, none⟩) K cap) G j) {i : Nat} (hi : i < G.length) {d : Gd} (ht : Turn (fun j => j = g ∨ (G[i]).val.ownBlock = some j) w w')
    (hc : ∃ cur, w'.heap[g]? = some (.cells cur 61 (0, 0)) ∧ cur.size = cap * 6 ∧ cur.toList.take (K * 6) = lcells (G.set i d)) (hq : QAt w' d.val d.dr.q) (hok : d.dr.Ok)
    (hloc : ∀ b, d.val.ownBlock = some b → (G[i]).val.ownBlock = some b ∨ w.heap.size ≤ b) : Goes (NetI n ((G.map Gd.dr).set i d.dr)) w w' F := by
  have hmem : G[i] ∈ G := List.getElem_mem hi
  have hf : ∀ j, (j = g ∨ (G[i]).val.ownBlock = some j) → foot n (.slice (some ⟨g, 0, none⟩) K cap) G j := fun j hj => by
    rcases hj with rfl | hj
    · exact Or.inr (Or.inl rfl)
    · exact Or.inr (Or.inr ⟨_, hmem, hj⟩)
  refine ⟨foot n (.slice (some ⟨g, 0, none⟩) K cap) (G.set i d), ⟨_, K, _, h.setDir hi ht hc hq hok hloc, by rw [List.map_set], fun _ => Iff.rfl⟩, ht.mono (fun j hj => (hF j).2 (hf j hj)), fun j hj => ?_⟩
  rcases hj with rfl | hj | ⟨x, hx, hj⟩
  · exact Or.inl ((hF _).2 (Or.inl rfl))
  · exact Or.inl ((hF _).2 (Or.inr (Or.inl hj)))
  · rcases List.mem_or_eq_of_mem_set hx with hx' | rfl
    · exact Or.inl ((hF _).2 (Or.inr (Or.inr ⟨x, hx', hj⟩)))
    · rcases hloc j hj with hh | hh
      · exact Or.inl ((hF _).2 (hf j (Or.inr hh)))
      · exact Or.inr hh

/-- one cell of a direction is written: how the row reads behind it -/
theorem row_set {w1 : World} {g cap o f i : Nat} {cur : Array Value} {d : Gd} {u : Value} (hg : w1.heap[g]? = some (.cells cur 61 (0, 0))) (hs : cur.size = cap * 6) (hl : cur.toList.take (K * 6) = lcells G) (hi : i < G.length) (ho : o = 3 * i) (hf : f < 3) (hd : (gcells G[i]).set f u = gcells d) :
    ∃ cur', (w1.setCell ⟨g, o + f, none⟩ u).heap[g]? = some (.cells cur' 61 (0, 0)) ∧ cur'.size = cap * 6 ∧ cur'.toList.take (K * 6) = lcells (G.set i d) := by
  refine ⟨_, heap_setCell_same hg (o + f) u, by simpa using hs, ?_⟩
  rw [Array.toList_setIfInBounds, List.take_set, hl, ho]
  exact lcells_set G i hi f u d hf hd

end
end Go.Proofs.Ythfmppghdlniiaa
