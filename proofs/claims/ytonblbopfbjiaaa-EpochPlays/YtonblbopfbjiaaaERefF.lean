/- The document's clock: Free. -/
import Derived.Test.YtonblbopfbjiaaaERefT
namespace Go.Proofs.Ytonblbopfbjiaaa
open Go.RowKit

def past (snap : Int) (p : Int × Int) : Bool := decide (p.2 ≤ snap)

theorem split_sorted {snap : Int} : ∀ {L : List (Int × Int)}, L.Pairwise (fun p q => p.2 ≤ q.2) → L.filter (past snap) = freed snap L ∧ L.filter (fun p => !past snap p) = L.drop (freed snap L).length
  | [], _ => ⟨rfl, rfl⟩
  | p :: L, h => by
    rw [List.pairwise_cons] at h
    by_cases hp : p.2 ≤ snap
    · have ih := split_sorted (snap := snap) h.2
      have e : freed snap (p :: L) = p :: freed snap L := by
        unfold freed
        rw [List.takeWhile_cons_of_pos (by simpa using hp)]
      have hq : past snap p = true := by simpa [past] using hp
      refine ⟨?_, ?_⟩
      · rw [List.filter_cons_of_pos hq, e, ih.1]
      · rw [List.filter_cons_of_neg (by simp [hq]), e, List.length_cons, List.drop_succ_cons, ih.2]
    · have hq : ∀ q ∈ p :: L, past snap q = false := fun q hq => by
        rcases List.mem_cons.1 hq with rfl | hq
        · simpa [past] using hp
        · have := h.1 q hq
          simp only [past, decide_eq_false_iff_not]
          omega
      have e : freed snap (p :: L) = [] := by
        unfold freed
        rw [List.takeWhile_cons_of_neg (by simpa using hp)]
      refine ⟨?_, ?_⟩
      · rw [e, List.filter_eq_nil_iff]
        intro q hm
        rw [hq q hm]
        simp
      · rw [e, List.length_nil, List.drop_zero, List.filter_eq_self]
        intro q hm
        rw [hq q hm]
        rfl

theorem filter_take_next {α : Type} (f : α → Bool) {L : List α} {k : Nat} (h : k < L.length) : (L.take (k + 1)).filter f = (L.take k).filter f ++ (if f L[k] then [L[k]] else []) := by
  rw [List.take_succ_eq_append_getElem h, List.filter_append]
  congr 1
  by_cases hf : f L[k] <;> simp [hf]

/-- three rows of a call's own, apart from one another -/
structure Rows3 (w wr : World) (A1 : Option Addr) (n1 M1 : Nat) (L1 : List Int) (A2 : Option Addr) (n2 M2 : Nat) (L2 : List Int) (A3 : Option Addr) (n3 M3 : Nat) (L3 : List Int) : Prop where
  below : Below w.heap.size w wr
  r1 : wr.ownsRow w.heap.size 3 1 (.slice A1 n1 M1) n1 (icells L1)
  r2 : wr.ownsRow w.heap.size 3 1 (.slice A2 n2 M2) n2 (icells L2)
  r3 : wr.ownsRow w.heap.size 3 1 (.slice A3 n3 M3) n3 (icells L3)
  d12 : ∀ i, own A1 n1 M1 = some i → own A2 n2 M2 ≠ some i
  d13 : ∀ i, own A1 n1 M1 = some i → own A3 n3 M3 ≠ some i
  d23 : ∀ i, own A2 n2 M2 = some i → own A3 n3 M3 ≠ some i

section
variable {w wr w' : World} {A1 A2 A3 A1' : Option Addr} {n1 M1 n2 M2 n3 M3 M1' : Nat} {L1 L2 L3 : List Int} {x : Int}

theorem Rows3.swap12 (h : Rows3 w wr A1 n1 M1 L1 A2 n2 M2 L2 A3 n3 M3 L3) : Rows3 w wr A2 n2 M2 L2 A1 n1 M1 L1 A3 n3 M3 L3 :=
  ⟨h.below, h.r2, h.r1, h.r3, fun i e1 e2 => h.d12 i e2 e1, h.d23, h.d13⟩
theorem Rows3.swap13 (h : Rows3 w wr A1 n1 M1 L1 A2 n2 M2 L2 A3 n3 M3 L3) : Rows3 w wr A3 n3 M3 L3 A2 n2 M2 L2 A1 n1 M1 L1 :=
  ⟨h.below, h.r3, h.r2, h.r1, fun i e1 e2 => h.d23 i e2 e1, fun i e1 e2 => h.d13 i e2 e1, fun i e1 e2 => h.d12 i e2 e1⟩
theorem Rows3.alloc (h : Rows3 w wr A1 n1 M1 L1 A2 n2 M2 L2 A3 n3 M3 L3) (o : Obj) : Rows3 w (wr.alloc o) A1 n1 M1 L1 A2 n2 M2 L2 A3 n3 M3 L3 :=
  ⟨h.below.trans (((Below.refl _ _).alloc (Nat.le_refl _) o).mono h.below.size), h.r1.alloc _, h.r2.alloc _, h.r3.alloc _, h.d12, h.d13, h.d23⟩

theorem Rows3.grow (h : Rows3 w wr A1 n1 M1 L1 A2 n2 M2 L2 A3 n3 M3 L3) (k1 : w'.ownsRow w.heap.size 3 1 (.slice A1' (n1 + 1) M1') (n1 + 1) (icells (L1 ++ [x]))) (k2 : Turn (fun i => own A1 n1 M1 = some i) wr w') (k3 : ∀ i, own A1' (n1 + 1) M1' = some i → own A1 n1 M1 = some i ∨ i = wr.heap.size) :
    Rows3 w w' A1' (n1 + 1) M1' (L1 ++ [x]) A2 n2 M2 L2 A3 n3 M3 L3 := by
  have l2 : ∀ i, own A2 n2 M2 = some i → i < wr.heap.size := fun i e => by
    obtain ⟨cur, h1, _⟩ := ownsRow_own h.r2 e
    exact lt_of h1
  have l3 : ∀ i, own A3 n3 M3 = some i → i < wr.heap.size := fun i e => by
    obtain ⟨cur, h1, _⟩ := ownsRow_own h.r3 e
    exact lt_of h1
  refine ⟨h.below.trans ((k2.mono (fun i hi => ?_)).toBelow h.below.size), k1, ownsRow_block h.r2 (fun t e => k2.block t (l2 t e) (fun e2 => h.d12 t e2 e)), ownsRow_block h.r3 (fun t e => k2.block t (l3 t e) (fun e2 => h.d13 t e2 e)), fun i e1 e2 => ?_, fun i e1 e2 => ?_, h.d23⟩
  · obtain ⟨cur, _, h1⟩ := ownsRow_own h.r1 hi
    exact h1
  · rcases k3 i e1 with k | k
    · exact h.d12 i k e2
    · have := l2 i e2; omega
  · rcases k3 i e1 with k | k
    · exact h.d13 i k e2
    · have := l3 i e2; omega
end

/-- what Free does -/
def RFreeR (r : Nat) (c : Ck) (w : World) (F : Nat → Prop) (e : Ending) (w' : World) : Prop :=
  ∃ A m F', e = .returned (.slice A (freed c.snap c.th).length m) ∧ w'.ownsRow w.heap.size 3 1 (.slice A (freed c.snap c.th).length m) (freed c.snap c.th).length (icells ((freed c.snap c.th).map (·.1))) ∧ RefI r c.free w' F' ∧ Turn F w w' ∧ (∀ i, F' i → F i ∨ w.heap.size ≤ i) ∧ ∀ i, (Value.slice A (freed c.snap c.th).length m).ownBlock = some i → ¬ F' i

section
variable {w : World} {r b : Nat} {a1 a2 : Option Addr} {m1 m2 : Nat} {c : Ck} {F : Nat → Prop}

abbrev FrL (c : Ck) (k : Nat) : List Int := ((c.th.take k).filter (past c.snap)).map (·.1)
abbrev StT (c : Ck) (k : Nat) : List Int := ((c.th.take k).filter (fun p => !past c.snap p)).map (·.1)
abbrev StW (c : Ck) (k : Nat) : List Int := ((c.th.take k).filter (fun p => !past c.snap p)).map (·.2)

theorem rfree_end (hG : RefG w r b a1 m1 a2 m2 c) (hF : RefF r b a1 m1 a2 m2 c.th.length F) {wr : World} {A1 A2 A3 : Option Addr} {n1 M1 n2 M2 n3 M3 k : Nat} (hk : c.th.length ≤ k) (h : Rows3 w wr A1 n1 M1 (FrL c k) A2 n2 M2 (StT c k) A3 n3 M3 (StW c k)) :
    RFreeR r c w F (.returned (.slice A1 n1 M1)) ((wr.setCell ⟨r, 4, none⟩ (.slice A2 n2 M2)).setCell ⟨r, 5, none⟩ (.slice A3 n3 M3)) := by
  obtain ⟨s1, s2⟩ := split_sorted (snap := c.snap) hG.ok.sorted
  have eT : c.th.take k = c.th := List.take_of_length_le hk
  have e1 : FrL c k = (freed c.snap c.th).map (·.1) := by unfold FrL; rw [eT, s1]
  have e2 : StT c k = c.free.th.map (·.1) := by unfold StT; rw [eT, s2]; rfl
  have e3 : StW c k = c.free.th.map (·.2) := by unfold StW; rw [eT, s2]; rfl
  rw [e1, e2, e3] at h
  have f1 : n1 = (freed c.snap c.th).length := by have := h.r1.1; rw [icells_length, List.length_map] at this; omega
  have f2 : n2 = c.free.th.length := by have := h.r2.1; rw [icells_length, List.length_map] at this; omega
  have f3 : n3 = c.free.th.length := by have := h.r3.1; rw [icells_length, List.length_map] at this; omega
  subst f1
  subst f2
  subst f3
  have hb := h.below
  have hr : wr.heap[r]? = w.heap[r]? := hb.block r (lt_of hG.st)
  have hbb : wr.heap[b]? = w.heap[b]? := hb.block b (lt_of hG.wk)
  have ht : Turn (fun i => i = r) wr ((wr.setCell ⟨r, 4, none⟩ (.slice A2 c.free.th.length M2)).setCell ⟨r, 5, none⟩ (.slice A3 c.free.th.length M3)) := (Turn.setCell (S := fun i => i = r) wr ⟨r, 4, none⟩ _ rfl).trans (Turn.setCell (S := fun i => i = r) _ ⟨r, 5, none⟩ _ rfl)
  have hlr : r < w.heap.size := lt_of hG.st
  have hnew : ∀ (A : Option Addr) (n M : Nat) (X : List Int), wr.ownsRow w.heap.size 3 1 (.slice A n M) n (icells X) → ∀ t, own A n M = some t → w.heap.size ≤ t ∧ t < wr.heap.size := fun A n M X hX t e => by
    obtain ⟨cur, k1, k2⟩ := ownsRow_own hX e
    exact ⟨k2, lt_of k1⟩
  have hrow : ∀ (A : Option Addr) (n M : Nat) (X : List Int), wr.ownsRow w.heap.size 3 1 (.slice A n M) n (icells X) → ((wr.setCell ⟨r, 4, none⟩ (.slice A2 c.free.th.length M2)).setCell ⟨r, 5, none⟩ (.slice A3 c.free.th.length M3)).ownsRow w.heap.size 3 1 (.slice A n M) n (icells X) := fun A n M X hX =>
    ownsRow_block hX (fun t e => by
      obtain ⟨k1, k2⟩ := hnew A n M X hX t e
      exact ht.block t k2 (by omega))
  have hst : wr.heap[r]? = _ := hr.trans hG.st
  refine ⟨A1, M1, fun i => i = r ∨ i = b ∨ own A2 c.free.th.length M2 = some i ∨ own A3 c.free.th.length M3 = some i, rfl, hrow _ _ _ _ h.r1, ⟨b, A2, M2, A3, M3, ⟨?_, ?_, ownsRow_zero (hrow _ _ _ _ h.r2), ownsRow_zero (hrow _ _ _ _ h.r3), fun e => ?_, fun e => ?_, h.d23, Ck.free_ok hG.ok⟩, fun i => Iff.rfl⟩, (Turn.ofBelow F hb).trans (ht.mono (fun i hi => (hF i).2 (Or.inl hi))), fun i hi => ?_, fun i hi hF' => ?_⟩
  · have h1 := heap_setCell_same hst 4 (.slice A2 c.free.th.length M2)
    rw [heap_setCell_same h1]
    rfl
  · rw [ht.block b (lt_of (hbb.trans hG.wk)) (fun e => hG.ne e.symm), hbb, hG.wk]
    rfl
  · have := (hnew _ _ _ _ h.r2 b e).1
    have := lt_of hG.wk
    omega
  · have := (hnew _ _ _ _ h.r3 b e).1
    have := lt_of hG.wk
    omega
  · rcases hi with hi | hi | hi | hi
    · exact Or.inl ((hF i).2 (Or.inl hi))
    · exact Or.inl ((hF i).2 (Or.inr (Or.inl hi)))
    · exact Or.inr (hnew _ _ _ _ h.r2 i hi).1
    · exact Or.inr (hnew _ _ _ _ h.r3 i hi).1
  · have h1 := (hnew _ _ _ _ h.r1 i hi).1
    have h2 := lt_of hG.wk
    rcases hF' with h3 | h3 | h3 | h3
    · omega
    · omega
    · exact h.d12 i hi h3
    · exact h.d13 i hi h3

set_option maxRecDepth 100000 in
set_option maxHeartbeats 2000000 in
theorem rfree_any (h : RefI r c w F) : Calls Try.prog 26 #[.pointer (some ⟨r, 0, none⟩)] w (RFreeR r c w F) := by
  have hI : RefI r c w F := h
  obtain ⟨b, a1, m1, a2, m2, hG, hF⟩ := h
  have hlr : r < w.heap.size := lt_of hG.st
  have hroom := hG.ok.room
  obtain ⟨n, hnn⟩ : ∃ n, c.th.length = n := ⟨_, rfl⟩
  have HN : Hid (c.th.length = n) := hnn
  have HC : Hid (∀ W, Below w.heap.size w W → W.cell? ⟨r, 4, none⟩ = some (.slice a1 n m1) ∧ W.cell? ⟨r, 5, none⟩ = some (.slice a2 n m2) ∧ ∀ i, W.frozen? ⟨r, i, none⟩ = false) := fun W hW => by
    have h1 := (hG.below hW).cells
    rw [← hnn]
    exact ⟨h1.c4, h1.c5, h1.f⟩
  have HT : Hid (∀ W, Below w.heap.size w W → ∀ k, (hk : k < c.th.length) → ∃ t1 t2, a1 = some ⟨t1, 0, none⟩ ∧ a2 = some ⟨t2, 0, none⟩ ∧ W.cell? ⟨t1, k, none⟩ = some (.int .i64 c.th[k].1) ∧ W.cell? ⟨t2, k, none⟩ = some (.int .i64 c.th[k].2)) := fun W hW k hk => by
    have h1 := hG.below hW
    have g : ∀ (a : Option Addr) (m : Nat) (X : List Int) (hX : X.length = c.th.length), W.ownsRow 0 3 1 (.slice a c.th.length m) c.th.length (icells X) → ∃ t, a = some ⟨t, 0, none⟩ ∧ W.cell? ⟨t, k, none⟩ = some (.int .i64 (X[k]'(by omega))) := fun a m X hX hr => by
      rcases hr.2 with ⟨e, h0⟩ | ⟨t, cap, cur, e, _, hg, hnc, _, hs, ht⟩
      · omega
      · injection e with e1 e2 e3
        refine ⟨t, e1, ?_⟩
        rw [cell_of hg, ← Array.getElem?_toList, ← List.getElem?_take_of_lt (i := k) (j := c.th.length * 1) (by omega), ht]
        exact icells_get (by omega)
    obtain ⟨t1, e1, g1⟩ := g a1 m1 (c.th.map (·.1)) (List.length_map ..) h1.t1
    obtain ⟨t2, e2, g2⟩ := g a2 m2 (c.th.map (·.2)) (List.length_map ..) h1.t2
    exact ⟨t1, t2, e1, e2, by rw [g1, List.getElem_map], by rw [g2, List.getElem_map]⟩
  have HQ : Hid (∀ W, Below w.heap.size w W → ∀ t : Int, Calls Try.prog 33 #[.pointer (some ⟨r, 0, none⟩), .int .i64 t] W fun e w' => e = .returned (.bool (decide (t ≤ c.snap))) ∧ w' = W) := fun W hW t => rfreeq_any (F := F) ((refI_res r c).kept (S := fun _ => False) hI (Turn.ofBelow _ hW) (fun _ _ h => h)) t
  have HE : Hid (∀ wr A1 n1 M1 A2 n2 M2 A3 n3 M3, Rows3 w wr A1 n1 M1 (FrL c n) A2 n2 M2 (StT c n) A3 n3 M3 (StW c n) → RFreeR r c w F (.returned (.slice A1 n1 M1)) ((wr.setCell ⟨r, 4, none⟩ (.slice A2 n2 M2)).setCell ⟨r, 5, none⟩ (.slice A3 n3 M3))) := fun wr A1 n1 M1 A2 n2 M2 A3 n3 M3 h => rfree_end hG hF (by omega) h
  have HI0 : Hid (Rows3 w w none 0 0 (FrL c 0) none 0 0 (StT c 0) none 0 0 (StW c 0)) := ⟨Below.refl _ _, World.ownsRow_nil _ _ _ _, World.ownsRow_nil _ _ _ _, World.ownsRow_nil _ _ _ _, (fun _ e => by cases e), (fun _ e => by cases e), (fun _ e => by cases e)⟩
  rw [hnn] at hroom
  clear hG hF hnn hI
  go_enter Try.func26, Try.ntmps26
  go_wp2_with fail
  go_loopw [3, 4, 5, 6] (fun v1 v2 v3 i wr => ∃ (k n1 M1 n2 M2 n3 M3 : Nat) (A1 A2 A3 : Option Addr), k ≤ n ∧ i = .int .i64 k ∧ v1 = .slice A1 n1 M1 ∧ v2 = .slice A2 n2 M2 ∧ v3 = .slice A3 n3 M3 ∧ n1 ≤ k ∧ n2 ≤ k ∧ n3 ≤ k ∧ Hid (Rows3 w wr A1 n1 M1 (FrL c k) A2 n2 M2 (StT c k) A3 n3 M3 (StW c k))) (fun _ _ _ i _ => n - (intOf i).toNat)
  case atStart => exact ⟨0, 0, 0, 0, 0, 0, 0, none, none, none, Nat.zero_le _, rfl, rfl, rfl, rfl, Nat.le_refl _, Nat.le_refl _, Nat.le_refl _, HI0⟩
  case round =>
    obtain ⟨k, n1, M1, n2, M2, n3, M3, A1, A2, A3, hk, rfl, rfl, rfl, rfl, hk1, hk2, hk3, HI⟩ := hrel
    obtain ⟨q4, q5, qf⟩ := HC.out wr HI.out.below
    have f4 := qf 4
    have f5 := qf 5
    have hwl : w.heap.size ≤ wr.heap.size := HI.out.below.size
    have hrl : r < wr.heap.size := by omega
    clear qf
    by_cases hlt : k < n
    · have hl : k < c.th.length := by rw [HN.out]; exact hlt
      have hlI : (k : Int) < (n : Int) := by omega
      obtain ⟨t1, t2, rfl, rfl, g1, g2⟩ := HT.out wr HI.out.below k hl
      have HG1 : Hid (∀ W, Below w.heap.size w W → W.cell? ⟨t1, k, none⟩ = some (.int .i64 c.th[k].1) ∧ W.cell? ⟨t2, k, none⟩ = some (.int .i64 c.th[k].2)) := fun W hW => by
        obtain ⟨t1', t2', e1, e2, g1', g2'⟩ := HT.out W hW k hl
        cases e1
        cases e2
        exact ⟨g1', g2'⟩
      obtain ⟨x, hx⟩ : ∃ x, c.th[k].1 = x := ⟨_, rfl⟩
      obtain ⟨t, ht⟩ : ∃ t, c.th[k].2 = t := ⟨_, rfl⟩
      rw [hx] at g1
      rw [ht] at g2
      have HFq : Hid (Calls Try.prog 33 #[.pointer (some ⟨r, 0, none⟩), .int .i64 t] wr fun e w' => e = .returned (.bool (decide (t ≤ c.snap))) ∧ w' = wr) := HQ.out wr HI.out.below t
      have HS : Hid (((wr.alloc (.cells #[.int .i64 x] 3 (0, 0)))).cell? ⟨wr.heap.size, 0, none⟩ = some (.int .i64 x)) := (by rw [cell_of (heap_new wr _)]; rfl : _ = _)
      have hR1 : Rows3 w (wr.alloc (.cells #[.int .i64 x] 3 (0, 0))) A1 n1 M1 (FrL c k) A2 n2 M2 (StT c k) A3 n3 M3 (StW c k) := HI.out.alloc _
      have hpt : past c.snap c.th[k] = decide (t ≤ c.snap) := by unfold past; rw [ht]
      by_cases hs : t ≤ c.snap
      · have e1 : FrL c (k + 1) = FrL c k ++ [x] := by
          unfold FrL
          rw [filter_take_next _ hl, hpt, decide_eq_true hs, if_pos rfl, List.map_append, ← hx]; rfl
        have e2 : StT c (k + 1) = StT c k := by
          unfold StT
          rw [filter_take_next _ hl, hpt, decide_eq_true hs, if_neg (by simp), List.append_nil]
        have e3 : StW c (k + 1) = StW c k := by
          unfold StW
          rw [filter_take_next _ hl, hpt, decide_eq_true hs, if_neg (by simp), List.append_nil]
        have HR1 : Hid (Rows3 w (wr.alloc (.cells #[.int .i64 x] 3 (0, 0))) A1 n1 M1 (FrL c k) A2 n2 M2 (StT c k) A3 n3 M3 (StW c k)) := hR1
        have HK : Hid (∀ A' M' w', w'.ownsRow w.heap.size 3 1 (.slice A' (n1 + 1) M') (n1 + 1) (icells (FrL c k ++ [x])) → Turn (fun i => own A1 n1 M1 = some i) (wr.alloc (.cells #[.int .i64 x] 3 (0, 0))) w' → (∀ i, own A' (n1 + 1) M' = some i → own A1 n1 M1 = some i ∨ i = (wr.alloc (.cells #[.int .i64 x] 3 (0, 0))).heap.size) → Rows3 w w' A' (n1 + 1) M' (FrL c (k + 1)) A2 n2 M2 (StT c (k + 1)) A3 n3 M3 (StW c (k + 1))) := fun A' M' w' k1 k2 k3 => by
          rw [e1, e2, e3]
          exact HR1.out.grow k1 k2 k3
        have HFq2 : Hid (Calls Try.prog 33 #[.pointer (some ⟨r, 0, none⟩), .int .i64 t] wr fun e w' => e = .returned (.bool true) ∧ w' = wr) := HFq.out.mono fun e w' h => by rw [decide_eq_true hs] at h; exact h
        clear e1 e2 e3 hR1 hpt hx ht HFq
        go_wp2_with (first
          | (go_at_call 33; go_must (refine HFq2.out.mono ?_; rintro e w2 ⟨rfl, rfl⟩))
          | (at_builtin; go_must (refine wpList_int rfl _ _ rfl w.heap.size (FrL c k) x A1 n1 M1 rfl HR1.out.r1 (by omega) (by simp; omega) _ rfl HS.out ?_; intro A' M' w' k1 k2 k3; have HI2 := HK.out A' M' w' k1 k2 k3; clear k1 k2 k3)))
        go_roundw
        case rel => exact ⟨k + 1, n1 + 1, M', n2, M2, n3, M3, A', A2, A3, by omega, by go_num, rfl, rfl, rfl, by omega, by omega, by omega, HI2⟩
        case measure => simp [intOf]; omega
      · have hsf : decide (t ≤ c.snap) = false := decide_eq_false hs
        have e1 : FrL c (k + 1) = FrL c k := by
          unfold FrL
          rw [filter_take_next _ hl, hpt, hsf, if_neg (by simp), List.append_nil]
        have e2 : StT c (k + 1) = StT c k ++ [x] := by
          unfold StT
          rw [filter_take_next _ hl, hpt, hsf, Bool.not_false, if_pos rfl, List.map_append, ← hx]; rfl
        have e3 : StW c (k + 1) = StW c k ++ [t] := by
          unfold StW
          rw [filter_take_next _ hl, hpt, hsf, Bool.not_false, if_pos rfl, List.map_append, ← ht]; rfl
        have HR1 : Hid (Rows3 w (wr.alloc (.cells #[.int .i64 x] 3 (0, 0))) A1 n1 M1 (FrL c k) A2 n2 M2 (StT c k) A3 n3 M3 (StW c k)) := hR1
        have HK : Hid (∀ A' M' w', w'.ownsRow w.heap.size 3 1 (.slice A' (n2 + 1) M') (n2 + 1) (icells (StT c k ++ [x])) → Turn (fun i => own A2 n2 M2 = some i) (wr.alloc (.cells #[.int .i64 x] 3 (0, 0))) w' → (∀ i, own A' (n2 + 1) M' = some i → own A2 n2 M2 = some i ∨ i = (wr.alloc (.cells #[.int .i64 x] 3 (0, 0))).heap.size) → Rows3 w w' A1 n1 M1 (FrL c k) A' (n2 + 1) M' (StT c k ++ [x]) A3 n3 M3 (StW c k)) := fun A' M' w' k1 k2 k3 =>
          (HR1.out.swap12.grow k1 k2 k3).swap12
        have HK2 : Hid (∀ (W w' : World) A2' M2' A' M', Rows3 w W A1 n1 M1 (FrL c k) A2' (n2 + 1) M2' (StT c k ++ [x]) A3 n3 M3 (StW c k) → w'.ownsRow w.heap.size 3 1 (.slice A' (n3 + 1) M') (n3 + 1) (icells (StW c k ++ [t])) → Turn (fun i => own A3 n3 M3 = some i) (W.alloc (.cells #[.int .i64 t] 3 (0, 0))) w' → (∀ i, own A' (n3 + 1) M' = some i → own A3 n3 M3 = some i ∨ i = (W.alloc (.cells #[.int .i64 t] 3 (0, 0))).heap.size) → Rows3 w w' A1 n1 M1 (FrL c (k + 1)) A2' (n2 + 1) M2' (StT c (k + 1)) A' (n3 + 1) M' (StW c (k + 1))) := fun W w' A2' M2' A' M' hW k1 k2 k3 => by
          rw [e1, e2, e3]
          exact ((hW.alloc _).swap13.grow k1 k2 k3).swap13
        have HFq2 : Hid (Calls Try.prog 33 #[.pointer (some ⟨r, 0, none⟩), .int .i64 t] wr fun e w' => e = .returned (.bool false) ∧ w' = wr) := HFq.out.mono fun e w' h => by rw [hsf] at h; exact h
        have HG2 : Hid (∀ W, Below w.heap.size w W → W.cell? ⟨t2, k, none⟩ = some (.int .i64 t)) := fun W hW => ht ▸ (HG1.out W hW).2
        clear e1 e2 e3 hR1 hpt hx ht HFq hsf HG1
        go_wp2_with (first
          | (go_at_call 33; go_must (refine HFq2.out.mono ?_; rintro e w2 ⟨rfl, rfl⟩))
          | (at_builtin; refine wpList_int rfl _ _ rfl w.heap.size (StT c k) x A2 n2 M2 rfl HR1.out.r2 (by omega) (by simp; omega) _ rfl HS.out ?_; intro A2' M2' W1 k1 k2 k3; have HI2 : Hid (Rows3 w W1 A1 n1 M1 (FrL c k) A2' (n2 + 1) M2' (StT c k ++ [x]) A3 n3 M3 (StW c k)) := HK.out A2' M2' W1 k1 k2 k3; clear k1 k2 k3; have p4 := (HC.out W1 HI2.out.below).1; have p5 := (HC.out W1 HI2.out.below).2.1; have pt := HG2.out W1 HI2.out.below; have pw := HI2.out.below.size)
          | (at_builtin; refine wpList_int rfl _ _ rfl w.heap.size (StW c k) t A3 n3 M3 rfl (HI2.out.alloc _).r3 (by omega) (by simp; omega) W1.heap.size rfl (by rw [cell_of (heap_new W1 _)]; rfl) ?_; intro A3' M3' W2 k1 k2 k3; have HI3 : Hid (Rows3 w W2 A1 n1 M1 (FrL c (k + 1)) A2' (n2 + 1) M2' (StT c (k + 1)) A3' (n3 + 1) M3' (StW c (k + 1))) := HK2.out W1 W2 A2' M2' A3' M3' HI2.out k1 k2 k3; clear k1 k2 k3))
        go_roundw
        case rel => exact ⟨k + 1, n1, M1, n2 + 1, M2', n3 + 1, M3', A1, A2', A3', by omega, by go_num, rfl, rfl, rfl, by omega, by omega, by omega, HI3⟩
        case measure => simp [intOf]; omega
    · have hg : ¬ (k : Int) < (n : Int) := by omega
      obtain rfl : k = n := by omega
      have HZ : Hid (RFreeR r c w F (.returned (.slice A1 n1 M1)) ((wr.setCell ⟨r, 4, none⟩ (.slice A2 n2 M2)).setCell ⟨r, 5, none⟩ (.slice A3 n3 M3))) := HE.out wr A1 n1 M1 A2 n2 M2 A3 n3 M3 HI.out
      go_wp2_with fail
      go_ret
      exact HZ.out
end
end Go.Proofs.Ytonblbopfbjiaaa
