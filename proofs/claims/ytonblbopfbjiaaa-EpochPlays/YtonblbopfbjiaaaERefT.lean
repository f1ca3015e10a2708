/- The document's clock: Retire; may a thing be freed? -/
import Derived.Test.YtonblbopfbjiaaaERefA
namespace Go.Proofs.Ytonblbopfbjiaaa
open Go.RowKit

def enI (x : Int) : List Value := [.int .i64 x]
theorem flat_icells (L : List Int) : flat enI L = icells L := by
  induction L with
  | nil => rfl
  | cons x L ih => rw [flat_cons, ih]; rfl
theorem oneI : ∀ y, ∀ u ∈ enI y, u.oneCell' = true := fun y u hu => by
  rw [List.mem_singleton.1 hu]; rfl
theorem num_at (w : World) (x : Int) : ∀ j u, (enI x)[j]? = some u → (w.alloc (.cells #[.int .i64 x] 3 (0, 0))).drew.cell? ⟨w.heap.size, j, none⟩ = some u := fun j u hu => by
  show (w.alloc (.cells #[.int .i64 x] 3 (0, 0))).cell? ⟨w.heap.size, j, none⟩ = some u
  rw [cell_of (heap_new w _)]
  simpa [enI] using hu

section
variable {w : World} {r b : Nat} {a1 a2 : Option Addr} {m1 m2 : Nat} {c : Ck} {F : Nat → Prop}

/-- within Retire: the thing is there, its epoch not yet -/
structure RetM (w W : World) (r b : Nat) (A1 : Option Addr) (M1 : Nat) (a1 : Option Addr) (m1 : Nat) (a2 : Option Addr) (m2 : Nat) (n : Nat) (c : Ck) (x : Int) (F : Nat → Prop) : Prop where
  turn : Turn F w W
  st : W.heap[r]? = some (.cells #[.slice (some ⟨b, 0, none⟩) c.ws.length c.ws.length, .int .i64 c.every, .int .i64 c.now, .int .i64 c.snap, .slice A1 (n + 1) M1, .slice a2 n m2] 38 (0, 0))
  wk : W.heap[b]? = w.heap[b]?
  t1 : W.ownsRow 0 3 1 (.slice A1 (n + 1) M1) (n + 1) (icells (c.th.map (·.1) ++ [x]))
  t2 : W.ownsRow 0 3 1 (.slice a2 n m2) n (icells (c.th.map (·.2)))
  k1 : ∀ t, own A1 (n + 1) M1 = some t → own a1 n m1 = some t ∨ w.heap.size ≤ t

theorem ret_mid (hG : RefG w r b a1 m1 a2 m2 c) (hF : RefF r b a1 m1 a2 m2 c.th.length F) {n : Nat} (hn : c.th.length = n) {x : Int} {W W1 : World} {A1 : Option Addr} {M1 : Nat} (hb : Below w.heap.size w W)
    (h1 : W1.ownsRow 0 3 1 (.slice A1 (n + 1) M1) (n + 1) (icells (c.th.map (·.1) ++ [x]))) (h2 : Turn (fun i => own a1 n m1 = some i) W W1) (h3 : ∀ t, own A1 (n + 1) M1 = some t → own a1 n m1 = some t ∨ w.heap.size ≤ t) :
    RetM w (W1.setCell ⟨r, 4, none⟩ (.slice A1 (n + 1) M1)) r b A1 M1 a1 m1 a2 m2 n c x F := by
  subst hn
  have hs := hb.size
  have hr : W1.heap[r]? = w.heap[r]? := (h2.block r (Nat.lt_of_lt_of_le (lt_of hG.st) hs) hG.r1).trans (hb.block r (lt_of hG.st))
  have hbb : W1.heap[b]? = w.heap[b]? := (h2.block b (Nat.lt_of_lt_of_le (lt_of hG.wk) hs) hG.n1).trans (hb.block b (lt_of hG.wk))
  have ht : Turn (fun i => i = r) W1 (W1.setCell ⟨r, 4, none⟩ (.slice A1 (c.th.length + 1) M1)) := Turn.setCell W1 ⟨r, 4, none⟩ _ rfl
  have hor : ∀ t, own A1 (c.th.length + 1) M1 = some t → t ≠ r := fun t e e2 => by
    obtain ⟨cur, k1, _⟩ := ownsRow_own h1 e
    rw [e2, hr, hG.st] at k1
    simp at k1
  have hto2 : ∀ t, own a2 c.th.length m2 = some t → W1.heap[t]? = w.heap[t]? := fun t e => (h2.block t (Nat.lt_of_lt_of_le (hG.l2 e) hs) (fun e2 => hG.n3 t e2 e)).trans (hb.block t (hG.l2 e))
  refine ⟨?_, ?_, ?_, ?_, ?_, h3⟩
  · refine ((Turn.ofBelow F hb).trans (h2.mono (fun i hi => (hF i).2 (Or.inr (Or.inr (Or.inl hi)))))).trans (ht.mono (fun i hi => (hF i).2 (Or.inl hi)))
  · rw [heap_setCell_same (hr.trans hG.st)]
    rfl
  · rw [ht.block b (lt_of (hbb.trans hG.wk)) (fun e => hG.ne e.symm), hbb]
  · refine ownsRow_block h1 (fun t e => ?_)
    obtain ⟨cur, k1, _⟩ := ownsRow_own h1 e
    exact ht.block t (lt_of k1) (hor t e)
  · refine ownsRow_block hG.t2 (fun t e => ?_)
    have k1 := hto2 t e
    obtain ⟨cur, k2, _⟩ := ownsRow_own hG.t2 e
    rw [ht.block t (lt_of (k1.trans k2)) (fun e2 => hG.r2 (e2 ▸ e)), k1]

theorem ret_end (hG : RefG w r b a1 m1 a2 m2 c) (hF : RefF r b a1 m1 a2 m2 c.th.length F) {n : Nat} (hn : c.th.length = n) (hroom : n < 4096) {x : Int} {W1 W W2 : World} {A1 A2 : Option Addr} {M1 M2 : Nat} (hM : RetM w W1 r b A1 M1 a1 m1 a2 m2 n c x F) (hb : Below W1.heap.size W1 W)
    (h1 : W2.ownsRow 0 3 1 (.slice A2 (n + 1) M2) (n + 1) (icells (c.th.map (·.2) ++ [c.now]))) (h2 : Turn (fun i => own a2 n m2 = some i) W W2) (h3 : ∀ t, own A2 (n + 1) M2 = some t → own a2 n m2 = some t ∨ W1.heap.size ≤ t) :
    Goes (RefI r (c.retire x)) w (W2.setCell ⟨r, 5, none⟩ (.slice A2 (n + 1) M2)) F := by
  subst hn
  have hs := hb.size
  have hs1 := hM.turn.size
  have hr2 := hG.r2
  have hr : W2.heap[r]? = W1.heap[r]? := (h2.block r (Nat.lt_of_lt_of_le (lt_of hM.st) hs) hG.r2).trans (hb.block r (lt_of hM.st))
  have hwkb : W1.heap[b]? = some _ := hM.wk.trans hG.wk
  have hbb : W2.heap[b]? = W1.heap[b]? := (h2.block b (Nat.lt_of_lt_of_le (lt_of hwkb) hs) hG.n2).trans (hb.block b (lt_of hwkb))
  have ht : Turn (fun i => i = r) W2 (W2.setCell ⟨r, 5, none⟩ (.slice A2 (c.th.length + 1) M2)) := Turn.setCell W2 ⟨r, 5, none⟩ _ rfl
  have hl : (c.retire x).th.length = c.th.length + 1 := by
    show (c.th ++ [(x, c.now)]).length = _
    rw [List.length_append]; rfl
  have hm1 : (c.retire x).th.map (·.1) = c.th.map (·.1) ++ [x] := by
    show (c.th ++ [(x, c.now)]).map (·.1) = _
    rw [List.map_append]; rfl
  have hm2 : (c.retire x).th.map (·.2) = c.th.map (·.2) ++ [c.now] := by
    show (c.th ++ [(x, c.now)]).map (·.2) = _
    rw [List.map_append]; rfl
  -- the things' block is not the epochs' old one
  have hx : ∀ t, own A1 (c.th.length + 1) M1 = some t → own a2 c.th.length m2 ≠ some t := fun t e e2 => by
    rcases hM.k1 t e with k | k
    · exact hG.n3 t k e2
    · have := hG.l2 e2; omega
  have hl1 : ∀ t, own A1 (c.th.length + 1) M1 = some t → t < W1.heap.size := fun t e => by
    obtain ⟨cur, k1, _⟩ := ownsRow_own hM.t1 e
    exact lt_of k1
  have hk1 : ∀ t, own A1 (c.th.length + 1) M1 = some t → W2.heap[t]? = W1.heap[t]? := fun t e => (h2.block t (Nat.lt_of_lt_of_le (hl1 t e) hs) (hx t e)).trans (hb.block t (hl1 t e))
  refine hG.put hF (c' := c.retire x) (a1' := A1) (m1' := M1) (a2' := A2) (m2' := M2) rfl (Ck.retire_ok hG.ok hroom x) ?_ ?_ ?_ ?_ ?_ ?_ ?_ ?_
  · refine ((hM.turn.trans (Turn.ofBelow F hb)).trans (h2.mono (fun i hi => (hF i).2 (Or.inr (Or.inr (Or.inr hi)))))).trans (ht.mono (fun i hi => (hF i).2 (Or.inl hi)))
  · rw [heap_setCell_same (hr.trans hM.st), hl]
    rfl
  · rw [ht.block b (lt_of (hbb.trans hwkb)) (fun e => hG.ne e.symm), hbb, hM.wk]
  · rw [hl, hm1]
    refine ownsRow_block hM.t1 (fun t e => ?_)
    obtain ⟨cur, k1, _⟩ := ownsRow_own hM.t1 e
    rw [ht.block t (lt_of ((hk1 t e).trans k1)) (fun e2 => ?_), hk1 t e]
    rw [e2, hM.st] at k1
    simp at k1
  · rw [hl, hm2]
    refine ownsRow_block h1 (fun t e => ?_)
    obtain ⟨cur, k1, _⟩ := ownsRow_own h1 e
    refine ht.block t (lt_of k1) (fun e2 => ?_)
    rw [e2, hr, hM.st] at k1
    simp at k1
  · rw [hl]
    exact hM.k1
  · rw [hl]
    intro t e
    rcases h3 t e with k | k
    · exact Or.inl k
    · exact Or.inr (Nat.le_trans hs1 k)
  · rw [hl]
    intro t e e2
    rcases h3 t e2 with k | k
    · exact hx t e k
    · have := hl1 t e; omega

set_option maxRecDepth 100000 in
theorem rretire_full (h : RefI r c w F) (x : Int) (hn : c.th.length = 4096) : Calls Try.prog 24 #[.pointer (some ⟨r, 0, none⟩), .int .i64 x] w fun e w' => e = .returned (.int .i64 2) ∧ w' = w := by
  obtain ⟨b, a1, m1, a2, m2, hG, hF⟩ := h
  obtain ⟨-, -, -, -, c4, -, -⟩ := hG.cells
  rw [hn] at c4
  clear hG hF hn
  go_enter Try.func24, Try.ntmps24
  go_wp2_with fail
  go_ret
  exact ⟨rfl, rfl⟩

set_option maxRecDepth 100000 in
set_option maxHeartbeats 1000000 in
theorem rretire_ok (h : RefI r c w F) (x : Int) (hn : c.th.length < 4096) : Calls Try.prog 24 #[.pointer (some ⟨r, 0, none⟩), .int .i64 x] w fun e w' => e = .returned (.int .i64 0) ∧ Goes (RefI r (c.retire x)) w w' F := by
  obtain ⟨b, a1, m1, a2, m2, hG, hF⟩ := h
  obtain ⟨-, -, -, -, c4, -, cf⟩ := hG.cells
  have hr : r < w.heap.size := lt_of hG.st
  obtain ⟨n, hnn⟩ : ∃ n, c.th.length = n := ⟨_, rfl⟩
  rw [hnn] at c4 hn
  have hn2 : ¬ (4096 : Int) ≤ (n : Int) := by omega
  have hB1 : Below w.heap.size w (w.alloc (.cells #[.int .i64 x] 3 (0, 0))) := (Below.refl _ _).alloc (Nat.le_refl _) _
  have HO1 : Hid ((w.alloc (.cells #[.int .i64 x] 3 (0, 0))).ownsRow 0 3 1 (.slice a1 n m1) n (icells (c.th.map (·.1)))) := by
    have h1 := hG.t1
    rw [hnn] at h1
    exact h1.alloc _
  have HS1 : Hid ((w.alloc (.cells #[.int .i64 x] 3 (0, 0))).cell? ⟨w.heap.size, 0, none⟩ = some (.int .i64 x)) := (by rw [cell_of (heap_new w _)]; rfl : _ = _)
  have HQ1 : Hid (∀ W1, Turn (fun i => own a1 n m1 = some i) (w.alloc (.cells #[.int .i64 x] 3 (0, 0))) W1 → W1.cell? ⟨r, 4, none⟩ = some (.slice a1 n m1) ∧ W1.frozen? ⟨r, 4, none⟩ = false) := fun W1 h2 => by
    have hrr := hG.r1
    rw [hnn] at hrr
    have h3 := (h2.block r (Nat.lt_of_lt_of_le hr hB1.size) hrr).trans ((hB1.block r hr).trans hG.st)
    rw [hnn] at h3
    exact ⟨by rw [cell_of h3]; rfl, frozen_of h3 _⟩
  have HM : Hid (∀ A1 M1 W1, W1.ownsRow 0 3 1 (.slice A1 (n + 1) M1) (n + 1) (icells (c.th.map (·.1) ++ [x])) → Turn (fun i => own a1 n m1 = some i) (w.alloc (.cells #[.int .i64 x] 3 (0, 0))) W1 → (∀ i, own A1 (n + 1) M1 = some i → own a1 n m1 = some i ∨ i = (w.alloc (.cells #[.int .i64 x] 3 (0, 0))).heap.size) → RetM w (W1.setCell ⟨r, 4, none⟩ (.slice A1 (n + 1) M1)) r b A1 M1 a1 m1 a2 m2 n c x F) := fun A1 M1 W1 k1 k2 k3 =>
    ret_mid hG hF hnn hB1 k1 k2 (fun t e => (k3 t e).imp id (fun h => by rw [h, World.size_alloc]; omega))
  have HE : Hid (∀ A1 M1 A2 M2 W1 W W2, RetM w W1 r b A1 M1 a1 m1 a2 m2 n c x F → Below W1.heap.size W1 W → W2.ownsRow 0 3 1 (.slice A2 (n + 1) M2) (n + 1) (icells (c.th.map (·.2) ++ [c.now])) → Turn (fun i => own a2 n m2 = some i) W W2 → (∀ t, own A2 (n + 1) M2 = some t → own a2 n m2 = some t ∨ W1.heap.size ≤ t) → Goes (RefI r (c.retire x)) w (W2.setCell ⟨r, 5, none⟩ (.slice A2 (n + 1) M2)) F) := fun A1 M1 A2 M2 W1 W W2 h1 h2 h3 h4 h5 => ret_end hG hF hnn hn h1 h2 h3 h4 h5
  have HR2 : Hid (own a2 n m2 ≠ some r) := hnn ▸ hG.r2
  clear hG hF hnn hB1 cf
  go_enter Try.func24, Try.ntmps24
  go_wp2_with (at_builtin; go_must (refine wpList_int rfl _ _ rfl 0 (c.th.map (·.1)) x a1 n m1 rfl HO1.out (by omega) (Nat.zero_le _) w.heap.size rfl HS1.out ?_; intro A1 M1 W1 k1 k2 k3; have q4 := (HQ1.out W1 k2).1; have f4 := (HQ1.out W1 k2).2; have HM1 : Hid (RetM w (W1.setCell ⟨r, 4, none⟩ (.slice A1 (n + 1) M1)) r b A1 M1 a1 m1 a2 m2 n c x F) := HM.out A1 M1 W1 k1 k2 k3; clear k1 k2 k3))
  obtain ⟨u, hu⟩ : ∃ u, W1.setCell ⟨r, 4, none⟩ (.slice A1 (n + 1) M1) = u := ⟨_, rfl⟩
  rw [hu] at HM1 ⊢
  have d2 : u.cell? ⟨r, 2, none⟩ = some (.int .i64 c.now) := by rw [cell_of HM1.out.st]; rfl
  have d5 : u.cell? ⟨r, 5, none⟩ = some (.slice a2 n m2) := by rw [cell_of HM1.out.st]; rfl
  have hru : r < u.heap.size := lt_of HM1.out.st
  have HO2 : Hid (((u.alloc (.cells #[.int .i64 c.now] 3 (0, 0))).drew).ownsRow 0 3 1 (.slice a2 n m2) n (flat enI (c.th.map (·.2)))) := by
    rw [flat_icells]
    exact HM1.out.t2.alloc _
  have HQ2 : Hid (∀ W2, Turn (fun i => own a2 n m2 = some i) (u.alloc (.cells #[.int .i64 c.now] 3 (0, 0))).drew W2 → W2.cell? ⟨r, 5, none⟩ = some (.slice a2 n m2) ∧ W2.frozen? ⟨r, 5, none⟩ = false) := fun W2 h2 => by
    have hB := below_box u (.cells #[.int .i64 c.now] 3 (0, 0))
    have h3 := (h2.block r (Nat.lt_of_lt_of_le hru hB.size) HR2.out).trans ((hB.block r hru).trans HM1.out.st)
    exact ⟨by rw [cell_of h3]; rfl, frozen_of h3 _⟩
  have HE2 : Hid (∀ A2 M2 W2, W2.ownsRow 0 3 1 (.slice A2 (n + 1) M2) (n + 1) (flat enI (c.th.map (·.2) ++ [c.now])) → Turn (fun i => own a2 n m2 = some i) (u.alloc (.cells #[.int .i64 c.now] 3 (0, 0))).drew W2 → (∀ i, own A2 (n + 1) M2 = some i → own a2 n m2 = some i ∨ (u.alloc (.cells #[.int .i64 c.now] 3 (0, 0))).drew.heap.size ≤ i) → Goes (RefI r (c.retire x)) w (W2.setCell ⟨r, 5, none⟩ (.slice A2 (n + 1) M2)) F) := fun A2 M2 W2 k1 k2 k3 => by
    rw [flat_icells] at k1
    have hB := below_box u (.cells #[.int .i64 c.now] 3 (0, 0))
    exact HE.out A1 M1 A2 M2 u _ W2 HM1.out hB k1 k2 (fun t e => (k3 t e).imp id (fun h => Nat.le_trans hB.size h))
  clear hu q4 f4
  go_wp2_with fail
  go_region_law (refine step_append_one (by rfl) _ _ 36 (by rfl) 3 (.int .i64 0) 1 8 Try.underlying36 infoI rfl (by decide) (by decide) enI (fun _ => rfl) oneI (c.th.map (·.2)) c.now a2 n m2 (by rfl) HO2.out (by omega) u.heap.size (by rfl) (num_at u c.now) ?_; intro A2 M2 W2 k1 k2 k3; have q5 := (HQ2.out W2 k2).1; have f5 := (HQ2.out W2 k2).2; have HZ := HE2.out A2 M2 W2 k1 k2 k3; clear k1 k2 k3)
  all_goals go_wp2_with fail
  all_goals go_ret
  all_goals exact ⟨rfl, by assumption⟩

set_option maxRecDepth 100000 in
set_option maxHeartbeats 1000000 in
theorem rfreeq_any (h : RefI r c w F) (t : Int) : Calls Try.prog 33 #[.pointer (some ⟨r, 0, none⟩), .int .i64 t] w fun e w' => e = .returned (.bool (decide (t ≤ c.snap))) ∧ w' = w := by
  obtain ⟨b, a1, m1, a2, m2, hG, hF⟩ := h
  obtain ⟨c0, -, -, c3, -, -, -⟩ := hG.cells
  by_cases ht : c.snap < t
  · have h1 : decide (t ≤ c.snap) = false := decide_eq_false (by omega)
    rw [h1]
    clear hG hF h1
    go_enter Try.func33, Try.ntmps33
    go_wp2_with fail
    go_ret
    exact ⟨rfl, rfl⟩
  · have h1 : decide (t ≤ c.snap) = true := decide_eq_true (by omega)
    rw [h1]
    have HG : Hid (RefG w r b a1 m1 a2 m2 c) := hG
    have hn16 := hG.ok.few
    obtain ⟨N, hN⟩ : ∃ N, c.ws.length = N := ⟨_, rfl⟩
    have HN : Hid (c.ws.length = N) := hN
    rw [hN] at c0 hn16
    clear hG hF h1 hN
    go_enter Try.func33, Try.ntmps33
    go_wp2_with fail
    go_loop [5] (fun i => ∃ k : Nat, k ≤ N ∧ i = .int .i64 k) (fun i => N - (intOf i).toNat)
    case atStart => exact ⟨0, Nat.zero_le _, rfl⟩
    case round =>
      obtain ⟨k, hk, rfl⟩ := hrel
      by_cases hlt : k < N
      · have hlI : (k : Int) < (N : Int) := by omega
        have hlL : k < c.ws.length := by rw [HN.out]; exact hlt
        obtain ⟨e0, he0⟩ : ∃ e0, c.ws[k] = e0 := ⟨_, rfl⟩
        have dw : w.cell? ⟨b, k, none⟩ = some (.int .i64 e0) := HG.out.worker (by rw [List.getElem?_eq_getElem hlL, he0])
        have hpos := work_pos HG.out.ok (he0 ▸ List.getElem_mem hlL)
        clear he0
        rcases hpos with rfl | ⟨p1, p2, p3⟩
        · go_wp2_with fail
          go_round
          case rel => exact ⟨k + 1, by omega, by go_num⟩
          case measure => simp [intOf]; omega
        · have p4 : 0 < e0 := by omega
          have p5 : ¬ e0 ≤ t := by omega
          go_wp2_with fail
          go_round
          case rel => exact ⟨k + 1, by omega, by go_num⟩
          case measure => simp [intOf]; omega
      · have hlI : ¬ (k : Int) < (N : Int) := by omega
        go_wp2_with fail
        go_ret
        exact ⟨rfl, rfl⟩
end
end Go.Proofs.Ytonblbopfbjiaaa
