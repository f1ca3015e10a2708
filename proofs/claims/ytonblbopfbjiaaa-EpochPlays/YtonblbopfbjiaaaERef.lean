/- The document's clock: where it lies; New, Enter, Leave. -/
import Derived.Test.YtonblbopfbjiaaaEFree
namespace Go.Proofs.Ytonblbopfbjiaaa
open Go.RowKit

abbrev own (a : Option Addr) (n m : Nat) : Option Nat := (Value.slice a n m).ownBlock

structure RefG (w : World) (r b : Nat) (a1 : Option Addr) (m1 : Nat) (a2 : Option Addr) (m2 : Nat) (c : Ck) : Prop where
  st : w.heap[r]? = some (.cells #[.slice (some ⟨b, 0, none⟩) c.ws.length c.ws.length, .int .i64 c.every, .int .i64 c.now, .int .i64 c.snap, .slice a1 c.th.length m1, .slice a2 c.th.length m2] 38 (0, 0))
  wk : w.heap[b]? = some (.cells (icells c.ws).toArray 3 (0, 0))
  t1 : w.ownsRow 0 3 1 (.slice a1 c.th.length m1) c.th.length (icells (c.th.map (·.1)))
  t2 : w.ownsRow 0 3 1 (.slice a2 c.th.length m2) c.th.length (icells (c.th.map (·.2)))
  n1 : own a1 c.th.length m1 ≠ some b
  n2 : own a2 c.th.length m2 ≠ some b
  n3 : ∀ i, own a1 c.th.length m1 = some i → own a2 c.th.length m2 ≠ some i
  ok : c.Ok

def RefF (r b : Nat) (a1 : Option Addr) (m1 : Nat) (a2 : Option Addr) (m2 : Nat) (n : Nat) (F : Nat → Prop) : Prop := ∀ i, F i ↔ (i = r ∨ i = b ∨ own a1 n m1 = some i ∨ own a2 n m2 = some i)
def RefI (r : Nat) (c : Ck) (w : World) (F : Nat → Prop) : Prop := ∃ b a1 m1 a2 m2, RefG w r b a1 m1 a2 m2 c ∧ RefF r b a1 m1 a2 m2 c.th.length F

section
variable {w w' : World} {r b : Nat} {a1 a2 : Option Addr} {m1 m2 : Nat} {c : Ck} {F : Nat → Prop}

theorem RefG.ne (h : RefG w r b a1 m1 a2 m2 c) : r ≠ b := by
  intro e
  have h1 := h.st
  rw [e, h.wk] at h1
  simp at h1
theorem RefG.r1 (h : RefG w r b a1 m1 a2 m2 c) : own a1 c.th.length m1 ≠ some r := by
  intro e
  obtain ⟨cur, h1, _⟩ := ownsRow_own h.t1 e
  rw [h.st] at h1
  simp at h1
theorem RefG.r2 (h : RefG w r b a1 m1 a2 m2 c) : own a2 c.th.length m2 ≠ some r := by
  intro e
  obtain ⟨cur, h1, _⟩ := ownsRow_own h.t2 e
  rw [h.st] at h1
  simp at h1
theorem RefG.l1 (h : RefG w r b a1 m1 a2 m2 c) {i : Nat} (hi : own a1 c.th.length m1 = some i) : i < w.heap.size := by
  obtain ⟨cur, h1, _⟩ := ownsRow_own h.t1 hi
  exact lt_of h1
theorem RefG.l2 (h : RefG w r b a1 m1 a2 m2 c) {i : Nat} (hi : own a2 c.th.length m2 = some i) : i < w.heap.size := by
  obtain ⟨cur, h1, _⟩ := ownsRow_own h.t2 hi
  exact lt_of h1

theorem RefG.kept (h : RefG w r b a1 m1 a2 m2 c) (h1 : w'.heap[r]? = w.heap[r]?) (h2 : w'.heap[b]? = w.heap[b]?) (h3 : ∀ t, own a1 c.th.length m1 = some t → w'.heap[t]? = w.heap[t]?) (h4 : ∀ t, own a2 c.th.length m2 = some t → w'.heap[t]? = w.heap[t]?) : RefG w' r b a1 m1 a2 m2 c :=
  ⟨h1.trans h.st, h2.trans h.wk, ownsRow_block h.t1 h3, ownsRow_block h.t2 h4, h.n1, h.n2, h.n3, h.ok⟩
theorem RefG.below (h : RefG w r b a1 m1 a2 m2 c) (hb : Below w.heap.size w w') : RefG w' r b a1 m1 a2 m2 c :=
  h.kept (hb.block r (lt_of h.st)) (hb.block b (lt_of h.wk)) (fun t e => hb.block t (h.l1 e)) (fun t e => hb.block t (h.l2 e))

theorem RefG.lt (h : RefG w r b a1 m1 a2 m2 c) (hF : RefF r b a1 m1 a2 m2 c.th.length F) : ∀ i, F i → i < w.heap.size := fun i hi => by
  rcases (hF i).1 hi with rfl | rfl | hi | hi
  · exact lt_of h.st
  · exact lt_of h.wk
  · exact h.l1 hi
  · exact h.l2 hi

theorem refI_res (r : Nat) (c : Ck) : Res (RefI r c) := by
  refine ⟨fun {w F} h i hi => ?_, fun {w w' F S} h ht hS => ?_⟩
  · obtain ⟨b, a1, m1, a2, m2, h1, hF⟩ := h
    exact h1.lt hF i hi
  · obtain ⟨b, a1, m1, a2, m2, h1, hF⟩ := h
    have k : ∀ i, F i → w'.heap[i]? = w.heap[i]? := fun i hi => ht.block i (h1.lt hF i hi) (hS i hi)
    exact ⟨b, a1, m1, a2, m2, h1.kept (k r ((hF r).2 (Or.inl rfl))) (k b ((hF b).2 (Or.inr (Or.inl rfl)))) (fun t e => k t ((hF t).2 (Or.inr (Or.inr (Or.inl e))))) (fun t e => k t ((hF t).2 (Or.inr (Or.inr (Or.inr e))))), hF⟩

/-- a clock put anew: other things, epochs -/
theorem RefG.put (h : RefG w r b a1 m1 a2 m2 c) (hF : RefF r b a1 m1 a2 m2 c.th.length F) {W : World} {a1' a2' : Option Addr} {m1' m2' : Nat} {c' : Ck} (hws : c'.ws = c.ws) (ho : c'.Ok) (hT : Turn F w W)
    (hst : W.heap[r]? = some (.cells #[.slice (some ⟨b, 0, none⟩) c'.ws.length c'.ws.length, .int .i64 c'.every, .int .i64 c'.now, .int .i64 c'.snap, .slice a1' c'.th.length m1', .slice a2' c'.th.length m2'] 38 (0, 0)))
    (hb : W.heap[b]? = w.heap[b]?)
    (h1 : W.ownsRow 0 3 1 (.slice a1' c'.th.length m1') c'.th.length (icells (c'.th.map (·.1)))) (h2 : W.ownsRow 0 3 1 (.slice a2' c'.th.length m2') c'.th.length (icells (c'.th.map (·.2))))
    (k1 : ∀ t, own a1' c'.th.length m1' = some t → own a1 c.th.length m1 = some t ∨ w.heap.size ≤ t) (k2 : ∀ t, own a2' c'.th.length m2' = some t → own a2 c.th.length m2 = some t ∨ w.heap.size ≤ t)
    (k3 : ∀ i, own a1' c'.th.length m1' = some i → own a2' c'.th.length m2' ≠ some i) : Goes (RefI r c') w W F := by
  have hbl := lt_of h.wk
  refine ⟨fun i => i = r ∨ i = b ∨ own a1' c'.th.length m1' = some i ∨ own a2' c'.th.length m2' = some i, ⟨b, a1', m1', a2', m2', ⟨hst, by rw [hb, h.wk, hws], h1, h2, fun e => ?_, fun e => ?_, k3, ho⟩, fun i => Iff.rfl⟩, hT, fun i hi => ?_⟩
  · rcases k1 b e with e | e
    · exact h.n1 e
    · omega
  · rcases k2 b e with e | e
    · exact h.n2 e
    · omega
  · rcases hi with hi | hi | hi | hi
    · exact Or.inl ((hF i).2 (Or.inl hi))
    · exact Or.inl ((hF i).2 (Or.inr (Or.inl hi)))
    · rcases k1 i hi with e | e
      · exact Or.inl ((hF i).2 (Or.inr (Or.inr (Or.inl e))))
      · exact Or.inr e
    · rcases k2 i hi with e | e
      · exact Or.inl ((hF i).2 (Or.inr (Or.inr (Or.inr e))))
      · exact Or.inr e

/-- a worker's epoch is written -/
theorem RefG.setW (h : RefG w r b a1 m1 a2 m2 c) (hF : RefF r b a1 m1 a2 m2 c.th.length F) {k : Nat} {x : Int} {c' : Ck} (hc : c' = { c with ws := c.ws.set k x }) (ho : c'.Ok) : Goes (RefI r c') w (w.setCell ⟨b, k, none⟩ (.int .i64 x)) F := by
  have ht : Turn (fun i => i = b) w (w.setCell ⟨b, k, none⟩ (.int .i64 x)) := Turn.setCell w ⟨b, k, none⟩ _ rfl
  subst hc
  refine ⟨F, ⟨b, a1, m1, a2, m2, ⟨?_, ?_, ?_, ?_, h.n1, h.n2, h.n3, ho⟩, hF⟩, ht.mono (fun i hi => (hF i).2 (Or.inr (Or.inl hi))), fun i hi => Or.inl hi⟩
  · rw [ht.block r (lt_of h.st) h.ne, h.st, List.length_set]
  · rw [heap_setCell_same h.wk, List.setIfInBounds_toArray, icells_set]
  · exact ownsRow_block h.t1 (fun t e => ht.block t (h.l1 e) (fun e2 => h.n1 (e2 ▸ e)))
  · exact ownsRow_block h.t2 (fun t e => ht.block t (h.l2 e) (fun e2 => h.n2 (e2 ▸ e)))

/-- the epochs are written -/
theorem RefG.setE (h : RefG w r b a1 m1 a2 m2 c) (hF : RefF r b a1 m1 a2 m2 c.th.length F) {W : World} {c' : Ck} (hc : c'.ws = c.ws ∧ c'.every = c.every ∧ c'.th = c.th) (ho : c'.Ok) (hW : Turn (fun i => i = r) w W)
    (hg : W.heap[r]? = some (.cells #[.slice (some ⟨b, 0, none⟩) c.ws.length c.ws.length, .int .i64 c.every, .int .i64 c'.now, .int .i64 c'.snap, .slice a1 c.th.length m1, .slice a2 c.th.length m2] 38 (0, 0))) : Goes (RefI r c') w W F := by
  obtain ⟨e1, e2, e3⟩ := hc
  refine h.put hF (a1' := a1) (m1' := m1) (a2' := a2) (m2' := m2) e1 ho (hW.mono (fun i hi => (hF i).2 (Or.inl hi))) (by rw [hg, e1, e2, e3]) (hW.block b (lt_of h.wk) (fun e => h.ne e.symm)) ?_ ?_ ?_ ?_ ?_
  · rw [e3]
    exact ownsRow_block h.t1 (fun t e => hW.block t (h.l1 e) (fun e2 => h.r1 (e2 ▸ e)))
  · rw [e3]
    exact ownsRow_block h.t2 (fun t e => hW.block t (h.l2 e) (fun e2 => h.r2 (e2 ▸ e)))
  · rw [e3]
    exact fun t e => Or.inl e
  · rw [e3]
    exact fun t e => Or.inl e
  · rw [e3]
    exact h.n3

structure RefC (w : World) (r b : Nat) (a1 : Option Addr) (m1 : Nat) (a2 : Option Addr) (m2 : Nat) (c : Ck) : Prop where
  c0 : w.cell? ⟨r, 0, none⟩ = some (.slice (some ⟨b, 0, none⟩) c.ws.length c.ws.length)
  c1 : w.cell? ⟨r, 1, none⟩ = some (.int .i64 c.every)
  c2 : w.cell? ⟨r, 2, none⟩ = some (.int .i64 c.now)
  c3 : w.cell? ⟨r, 3, none⟩ = some (.int .i64 c.snap)
  c4 : w.cell? ⟨r, 4, none⟩ = some (.slice a1 c.th.length m1)
  c5 : w.cell? ⟨r, 5, none⟩ = some (.slice a2 c.th.length m2)
  f : ∀ i, w.frozen? ⟨r, i, none⟩ = false

theorem RefG.cells (h : RefG w r b a1 m1 a2 m2 c) : RefC w r b a1 m1 a2 m2 c := by
  have h1 := h.st
  refine ⟨?_, ?_, ?_, ?_, ?_, ?_, fun i => frozen_of h1 i⟩ <;> (rw [cell_of h1]; rfl)

theorem RefG.worker (h : RefG w r b a1 m1 a2 m2 c) {k : Nat} {e : Int} (hk : c.ws[k]? = some e) : w.cell? ⟨b, k, none⟩ = some (.int .i64 e) := by
  obtain ⟨hl, rfl⟩ := List.getElem?_eq_some_iff.1 hk
  rw [cell_of h.wk, List.getElem?_toArray, icells_get hl]

theorem work_pos (h : c.Ok) {e : Int} (he : e ∈ c.ws) : e = 0 ∨ (1 ≤ e ∧ e ≤ 2147483648 ∧ c.snap < e) := by
  have h1 := h.snap1
  have h2 := h.now2
  rcases h.work e he with h | h
  · exact Or.inl h
  · right; omega

set_option maxRecDepth 100000 in
theorem renter_ok (h : RefI r c w F) {k : Nat} (hk : c.ws[k]? = some 0) : Calls Try.prog 21 #[.pointer (some ⟨r, 0, none⟩), .int .i64 (k : Int)] w fun e w' => e = .returned (.tuple #[.int .i64 c.now, .int .i64 0]) ∧ Goes (RefI r (c.enter k)) w w' F := by
  obtain ⟨b, a1, m1, a2, m2, hG, hF⟩ := h
  obtain ⟨c0, -, c2, -, -, -, -⟩ := hG.cells
  have cw := hG.worker hk
  have fw : w.frozen? ⟨b, k, none⟩ = false := frozen_of hG.wk _
  have HS : Hid (Goes (RefI r (c.enter k)) w (w.setCell ⟨b, k, none⟩ (.int .i64 c.now)) F) := hG.setW hF rfl (Ck.enter_ok hG.ok k)
  have hl : k < c.ws.length := (List.getElem?_eq_some_iff.1 hk).1
  have hl2 : ¬ ((c.ws.length : Int) ≤ (k : Int)) := by omega
  have hl3 : ¬ ((k : Int) < 0) := by omega
  have hbr : ¬ b = r := fun e => hG.ne e.symm
  clear hG hk hF
  go_enter Try.func21, Try.ntmps21
  go_wp2_with fail
  go_region
  all_goals go_wp2_with fail
  all_goals go_ret2
  all_goals exact ⟨rfl, HS.out.thenStay (refI_res _ _) (below_drewN _ 1)⟩

set_option maxRecDepth 100000 in
theorem renter_no (h : RefI r c w F) {x : Int} (hk : ∀ k : Nat, x = k → c.ws[k]? ≠ some 0) : Calls Try.prog 21 #[.pointer (some ⟨r, 0, none⟩), .int .i64 x] w fun e w' => e = .returned (.tuple #[.int .i64 0, .int .i64 100]) ∧ w' = w := by
  obtain ⟨b, a1, m1, a2, m2, hG, hF⟩ := h
  obtain ⟨c0, -, c2, -, -, -, -⟩ := hG.cells
  by_cases hx : x < 0
  · clear hG hk hF
    go_enter Try.func21, Try.ntmps21
    go_wp2_with fail
    go_ret2
    exact ⟨rfl, rfl⟩
  · by_cases hx2 : (c.ws.length : Int) ≤ x
    · clear hG hk hF
      go_enter Try.func21, Try.ntmps21
      go_wp2_with fail
      go_ret2
      exact ⟨rfl, rfl⟩
    · obtain ⟨k, rfl⟩ : ∃ k : Nat, x = k := ⟨x.toNat, by omega⟩
      have hl : k < c.ws.length := by omega
      obtain ⟨e0, he0⟩ : ∃ e0, c.ws[k] = e0 := ⟨_, rfl⟩
      have hke : c.ws[k]? = some e0 := by rw [List.getElem?_eq_getElem hl, he0]
      have cw := hG.worker hke
      have hp : 0 < e0 := by
        rcases work_pos hG.ok (he0 ▸ List.getElem_mem hl) with h | h
        · exact absurd (h ▸ hke) (hk k rfl)
        · omega
      clear hG hk hF hke he0
      go_enter Try.func21, Try.ntmps21
      go_wp2_with fail
      go_ret2
      exact ⟨rfl, rfl⟩

set_option maxRecDepth 100000 in
theorem rleave_ok (h : RefI r c w F) {k : Nat} {e0 : Int} (hk : c.ws[k]? = some e0) (h0 : e0 ≠ 0) : Calls Try.prog 22 #[.pointer (some ⟨r, 0, none⟩), .int .i64 (k : Int)] w fun e w' => e = .returned (.int .i64 0) ∧ Goes (RefI r (c.leave k)) w w' F := by
  obtain ⟨b, a1, m1, a2, m2, hG, hF⟩ := h
  obtain ⟨c0, -, -, -, -, -, -⟩ := hG.cells
  have cw := hG.worker hk
  have fw : w.frozen? ⟨b, k, none⟩ = false := frozen_of hG.wk _
  have HS : Hid (Goes (RefI r (c.leave k)) w (w.setCell ⟨b, k, none⟩ (.int .i64 0)) F) := hG.setW hF rfl (Ck.leave_ok hG.ok k)
  have hl : k < c.ws.length := (List.getElem?_eq_some_iff.1 hk).1
  have hl2 : ¬ ((c.ws.length : Int) ≤ (k : Int)) := by omega
  have hl3 : ¬ ((k : Int) < 0) := by omega
  have hb : (e0 == 0) = false := by simpa using h0
  clear hG hk hF h0
  go_enter Try.func22, Try.ntmps22
  go_wp2_with fail
  go_ret
  exact ⟨rfl, HS.out⟩

set_option maxRecDepth 100000 in
theorem rleave_no (h : RefI r c w F) {x : Int} (hk : ∀ (k : Nat) (e : Int), x = k → c.ws[k]? = some e → e = 0) : Calls Try.prog 22 #[.pointer (some ⟨r, 0, none⟩), .int .i64 x] w fun e w' => e = .returned (.int .i64 100) ∧ w' = w := by
  obtain ⟨b, a1, m1, a2, m2, hG, hF⟩ := h
  obtain ⟨c0, -, -, -, -, -, -⟩ := hG.cells
  by_cases hx : x < 0
  · clear hG hk hF
    go_enter Try.func22, Try.ntmps22
    go_wp2_with fail
    go_ret
    exact ⟨rfl, rfl⟩
  · by_cases hx2 : (c.ws.length : Int) ≤ x
    · clear hG hk hF
      go_enter Try.func22, Try.ntmps22
      go_wp2_with fail
      go_ret
      exact ⟨rfl, rfl⟩
    · obtain ⟨k, rfl⟩ : ∃ k : Nat, x = k := ⟨x.toNat, by omega⟩
      have hl : k < c.ws.length := by omega
      have h2 : c.ws[k]? = some c.ws[k] := List.getElem?_eq_getElem hl
      have cw := hG.worker h2
      rw [hk k _ rfl h2] at cw
      clear hG hk hF h2
      go_enter Try.func22, Try.ntmps22
      go_wp2_with fail
      go_ret
      exact ⟨rfl, rfl⟩
end

set_option maxRecDepth 100000 in
theorem rnew_no {n every epoch : Int} (w : World) (h : newOk n every epoch = false) : Calls Try.prog 9 #[.int .i64 n, .int .i64 every, .int .i64 epoch] w fun e w' => e = .returned (.tuple #[.pointer none, .int .i64 1]) ∧ w' = w := by
  have h' : ¬ (1 ≤ n ∧ n ≤ 16 ∧ 1 ≤ every ∧ every ≤ 4096 ∧ 1 ≤ epoch ∧ epoch ≤ 2147483648) := fun hh => by
    rw [newOk_iff.2 hh] at h
    cases h
  clear h
  by_cases h1 : n < 1
  · clear h'
    go_enter Try.func9, Try.ntmps9
    go_wp2_with fail
    go_ret2
    exact ⟨rfl, rfl⟩
  by_cases h2 : 16 < n
  · clear h'
    go_enter Try.func9, Try.ntmps9
    go_wp2_with fail
    go_ret2
    exact ⟨rfl, rfl⟩
  by_cases h3 : every < 1
  · clear h'
    go_enter Try.func9, Try.ntmps9
    go_wp2_with fail
    go_ret2
    exact ⟨rfl, rfl⟩
  by_cases h4 : 4096 < every
  · clear h'
    go_enter Try.func9, Try.ntmps9
    go_wp2_with fail
    go_ret2
    exact ⟨rfl, rfl⟩
  by_cases h5 : epoch < 1
  · clear h'
    go_enter Try.func9, Try.ntmps9
    go_wp2_with fail
    go_ret2
    exact ⟨rfl, rfl⟩
  have h6 : 2147483648 < epoch := by omega
  clear h'
  go_enter Try.func9, Try.ntmps9
  go_wp2_with fail
  go_ret2
  exact ⟨rfl, rfl⟩

set_option maxRecDepth 100000 in
theorem rnew_ok {n every epoch : Int} (w : World) (h : newOk n every epoch = true) : Calls Try.prog 9 #[.int .i64 n, .int .i64 every, .int .i64 epoch] w fun e w' => ∃ r F, e = .returned (.tuple #[.pointer (some ⟨r, 0, none⟩), .int .i64 0]) ∧ RefI r (Ck.new n every epoch) w' F ∧ (∀ i, F i → w.heap.size ≤ i) ∧ Below w.heap.size w w' := by
  have HN : Hid (newOk n every epoch = true) := h
  obtain ⟨h1, h2, h3, h4, h5, h6⟩ := newOk_iff.1 h
  obtain ⟨N, rfl⟩ : ∃ N : Nat, n = (N : Int) := ⟨n.toNat, by omega⟩
  have hmk := fun u => make_ints u N (by omega)
  have x1 : IntKind.i64.wrap (epoch - 1) = epoch - 1 := wrap_small _ (by omega) (by omega)
  have g1 : ¬ ((N : Int) < 1) := by omega
  have g2 : ¬ (16 < (N : Int)) := by omega
  have g3 : ¬ (every < 1) := by omega
  have g4 : ¬ (4096 < every) := by omega
  have g5 : ¬ (epoch < 1) := by omega
  have g6 : ¬ (2147483648 < epoch) := by omega
  clear h
  go_enter Try.func9, Try.ntmps9
  go_wp2_with fail
  go_ret2
  obtain ⟨o, ho⟩ : ∃ o, Obj.cells #[Value.slice (some ⟨w.heap.size, 0, none⟩) N N, .int .i64 every, .int .i64 epoch, .int .i64 (epoch - 1), .slice none 0 0, .slice none 0 0] 38 (0, 0) = o := ⟨_, rfl⟩
  rw [ho]
  obtain ⟨u, hu⟩ : ∃ u, w.alloc (Obj.cells (icells (List.replicate N 0)).toArray 3 (0, 0)) = u := ⟨_, rfl⟩
  rw [hu]
  have hs : u.heap.size = w.heap.size + 1 := by rw [← hu]; simp
  have hN : (N : Int).toNat = N := by omega
  have e2 : (u.alloc o).heap[w.heap.size]? = some (.cells (icells (List.replicate N 0)).toArray 3 (0, 0)) := by
    rw [Below.heap_alloc u o _ (by omega), ← hu]
    exact heap_new w _
  refine ⟨w.heap.size + 1, rfl, fun i => i = w.heap.size + 1 ∨ i = w.heap.size, ⟨w.heap.size, none, 0, none, 0, ⟨?_, ?_, World.ownsRow_nil _ _ _ _, World.ownsRow_nil _ _ _ _, (fun e => by cases e), (fun e => by cases e), (fun i e => by cases e), Ck.new_ok HN.out⟩, fun i => ⟨fun h => ?_, fun h => ?_⟩⟩, fun i hi => ?_, ?_⟩
  · rw [← hs, heap_new u o, ← ho]
    simp [Ck.new, hN]
  · rw [e2]
    simp [Ck.new, hN]
  · rcases h with h | h
    · exact Or.inl h
    · exact Or.inr (Or.inl h)
  · rcases h with h | h | h | h
    · exact Or.inl h
    · exact Or.inr h
    · cases h
    · cases h
  · omega
  · rw [← hu]
    exact ((Below.refl _ _).alloc (Nat.le_refl _) _).alloc (by simp) _

end Go.Proofs.Ytonblbopfbjiaaa
