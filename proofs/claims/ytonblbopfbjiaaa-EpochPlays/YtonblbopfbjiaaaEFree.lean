/- Free. -/
import Derived.Test.YtonblbopfbjiaaaEDelete
namespace Go.Proofs.Ytonblbopfbjiaaa
open Go.RowKit

theorem freed_eq {snap : Int} : ∀ {L : List (Int × Int)} {k : Nat}, (∀ q ∈ L.take k, q.2 ≤ snap) → (L.length ≤ k ∨ ∃ h : k < L.length, snap < L[k].2) → freed snap L = L.take k
  | [], k, _, _ => by simp [freed]
  | p :: L, 0, _, h => by
    rcases h with h | ⟨_, h⟩
    · simp at h
    · have h' : ¬ p.2 ≤ snap := by simp at h; omega
      simp [freed, h']
  | p :: L, k + 1, h1, h2 => by
    have hp : p.2 ≤ snap := h1 p (by simp)
    have ih := freed_eq (snap := snap) (L := L) (k := k) (fun q hq => h1 q (by simp [hq])) (by
      rcases h2 with h | ⟨h, h'⟩
      · left; simpa using h
      · exact Or.inr ⟨by simpa using h, by simpa using h'⟩)
    unfold freed at ih ⊢
    rw [List.takeWhile_cons_of_pos (by simpa using hp), ih, List.take_succ_cons]

/-- one number more at the end of a row of a call's own -/
theorem wpList_int {w : World} {ops : Array Oper} {rest : List Oper} {o : Oper} {a : Act} {Q : Exit → Act → World → Prop} (hgd : o.guard = none) (s x : Operand)
    (ho : o.op = .call { callee := .builtin .append, args := #[s, x], argTypes := #[36, 36] })
    (base : Nat) (L : List Int) (y : Int) (A : Option Addr) (n m : Nat) (hs : a.eval s = .slice A n m) (hown : w.ownsRow base 3 1 (.slice A n m) n (icells L)) (hn : n ≤ 1000000) (hbase : base ≤ w.heap.size)
    (p : Nat) (hx : a.eval x = .slice (some ⟨p, 0, none⟩) 1 1) (hp : w.cell? ⟨p, 0, none⟩ = some (.int .i64 y))
    (h : ∀ A' m' w', w'.ownsRow base 3 1 (.slice A' (n + 1) m') (n + 1) (icells (L ++ [y])) → Turn (fun i => (Value.slice A n m).ownBlock = some i) w w' → (∀ i, (Value.slice A' (n + 1) m').ownBlock = some i → (Value.slice A n m).ownBlock = some i ∨ i = w.heap.size) → wpList Try.prog ops Q rest (a.put o.dst (.slice A' (n + 1) m')) w') :
    wpList Try.prog ops Q (o :: rest) a w := by
  obtain ⟨i, hi, hz, h1, h2⟩ := info_of infoI
  refine wpList_append_own_at _ hgd s x 36 ho base 3 i (.int .i64 0) 1 8 Try.underlying36 hi hz h1 h2 rfl (by decide) _ n _ hs hown ⟨p, 0, none⟩ 1 1 [.int .i64 y] hx rfl (fun j u hu => ?_) (fun u hu => ?_) (by unfold maxLen; omega) (by omega) hbase (fun v' w' k1 k2 _ k4 => ?_)
  · cases j with
    | zero => simp at hu; rw [Addr.add_lit, ← hu]; exact hp
    | succ j => simp at hu
  · rw [List.mem_singleton.1 hu]; rfl
  · obtain ⟨A', m', rfl⟩ := own_shape k1
    refine h A' m' w' ?_ (Turn.ofGrown k2 (fun k hk => hk)) (fun i hi => ?_)
    · have e : icells (L ++ [y]) = icells L ++ [.int .i64 y] := by simp [icells]
      rw [e]
      exact k1
    · rcases k4 with k | k
      · exact Or.inl (k ▸ hi)
      · rw [k] at hi
        injection hi with hi
        exact Or.inr hi.symm

/-- what Free does -/
def FreeR (g : Nat) (c : Ck) (w : World) (F : Nat → Prop) (e : Ending) (w' : World) : Prop :=
  ∃ A m F', e = .returned (.slice A (freed c.snap c.th).length m) ∧ w'.ownsRow w.heap.size 3 1 (.slice A (freed c.snap c.th).length m) (freed c.snap c.th).length (icells ((freed c.snap c.th).map (·.1))) ∧ ClockI g c.free w' F' ∧ Turn F w w' ∧ (∀ i, F' i → F i ∨ w.heap.size ≤ i) ∧ ∀ i, (Value.slice A (freed c.snap c.th).length m).ownBlock = some i → ¬ F' i

section
variable {g : Nat} {c : Ck} {w : World} {F : Nat → Prop}

/-- within Free -/
structure FreeC (w wr : World) (c : Ck) (A : Option Addr) (k M : Nat) : Prop where
  row : wr.ownsRow w.heap.size 3 1 (.slice A k M) k (icells ((c.th.take k).map (·.1)))
  below : Below w.heap.size w wr
  box : wr.heap[w.heap.size]? = some (boxI c.snap)
  apart : (Value.slice A k M).ownBlock ≠ some w.heap.size
  past : ∀ q ∈ c.th.take k, q.2 ≤ c.snap

theorem FreeC.alloc {wr : World} {A : Option Addr} {k M : Nat} (h : FreeC w wr c A k M) (o : Obj) : FreeC w (wr.alloc o) c A k M :=
  have hb : Below wr.heap.size wr (wr.alloc o) := (Below.refl _ _).alloc (Nat.le_refl _) o
  ⟨h.row.alloc _, h.below.trans (hb.mono h.below.size), (hb.block _ (lt_of h.box)).trans h.box, h.apart, h.past⟩

theorem FreeC.next {wr w' : World} {A A' : Option Addr} {k M M' : Nat} (h : FreeC w wr c A k M) (hk : k < c.th.length) (ht : c.th[k].2 ≤ c.snap) (h1 : w'.ownsRow w.heap.size 3 1 (.slice A' (k + 1) M') (k + 1) (icells ((c.th.take k).map (·.1) ++ [c.th[k].1]))) (h2 : Turn (fun i => (Value.slice A k M).ownBlock = some i) wr w') (h3 : ∀ i, (Value.slice A' (k + 1) M').ownBlock = some i → (Value.slice A k M).ownBlock = some i ∨ i = wr.heap.size) : FreeC w w' c A' (k + 1) M' := by
  have e : c.th.take (k + 1) = c.th.take k ++ [c.th[k]] := List.take_succ_eq_append_getElem hk
  refine ⟨?_, h.below.trans ((h2.mono (fun i hi => ?_)).toBelow h.below.size), (h2.block _ (lt_of h.box) h.apart).trans h.box, fun hh => ?_, fun q hq => ?_⟩
  · rw [e, List.map_append]
    exact h1
  · obtain ⟨cur, _, hb⟩ := ownsRow_own h.row hi
    exact hb
  · rcases h3 _ hh with h4 | h4
    · exact h.apart h4
    · have := lt_of h.box; omega
  · rw [e] at hq
    rcases List.mem_append.1 hq with hq | hq
    · exact h.past q hq
    · rw [List.mem_singleton.1 hq]; exact ht

/-- the end of Free, behind Delete -/
theorem free_end {b m : Nat} {a : Option Addr} (hG : ClockG w g b a m c) (hF : ∀ i, F i ↔ (i = g ∨ i = b ∨ (Value.slice a c.th.length m).ownBlock = some i)) {wr w' : World} {A : Option Addr} {k M : Nat} (h : FreeC w wr c A k M) (hk : k ≤ c.th.length) (hd : c.th.length ≤ k ∨ ∃ h : k < c.th.length, c.snap < c.th[k].2)
    (k1 : w'.ownsRow 0 59 2 (.slice a (c.th.length - k) m) (c.th.length - k) (flat enT (c.th.drop k))) (k2 : Turn (fun i => (Value.slice a c.th.length m).ownBlock = some i) wr w') :
    FreeR g c w F (.returned (.slice A k M)) (w'.setCell ⟨g, 4, none⟩ (.slice a (c.th.length - k) m)) := by
  have hfr := freed_eq h.past hd
  have hfl : (freed c.snap c.th).length = k := by rw [hfr, List.length_take, Nat.min_eq_left hk]
  have hb := h.below
  have hlt : ∀ i, F i → i < w.heap.size := fun i hi => by
    rcases (hF i).1 hi with rfl | rfl | hi
    · exact lt_of hG.st
    · exact lt_of hG.wk
    · obtain ⟨cur, h2, _⟩ := ownsRow_own hG.th hi
      exact lt_of h2
  have hGr : ClockG wr g b a m c := hG.kept (hb.block g (lt_of hG.st)) (hb.block b (lt_of hG.wk)) (fun t e => by
    obtain ⟨cur, h2, _⟩ := ownsRow_own hG.th e
    exact hb.block t (lt_of h2))
  have hdl : (c.th.drop k).length = c.th.length - k := List.length_drop ..
  have hs := hGr.setT hF (c' := c.free) (L := c.th.drop k) (a' := a) (m' := m) (W := w') (by rw [← hfl]; rfl) (Ck.free_ok hG.ok) k2 (by rw [hdl]; exact k1) (fun t ht => by
    left
    rw [hdl] at ht
    cases a with
    | none => exact ht
    | some ad => exact ht)
  rw [hdl] at hs
  obtain ⟨F', s1, s2, s3⟩ := hs
  have hrow : ∀ i, (Value.slice A k M).ownBlock = some i → i ≠ g ∧ (Value.slice a c.th.length m).ownBlock ≠ some i ∧ w.heap.size ≤ i ∧ i < wr.heap.size := fun i hi => by
    obtain ⟨cur, h2, h3⟩ := ownsRow_own h.row hi
    refine ⟨fun e => ?_, fun e => ?_, h3, lt_of h2⟩
    · have := lt_of hG.st; omega
    · obtain ⟨cur2, h4, _⟩ := ownsRow_own hG.th e
      have := lt_of h4; omega
  refine ⟨A, M, F', by rw [hfl], ?_, s1, (Turn.ofBelow F hb).trans s2, fun i hi => ?_, fun i hi hF' => ?_⟩
  · rw [hfl, hfr]
    refine ownsRow_block h.row (fun i hi => ?_)
    obtain ⟨e1, e2, e3, e4⟩ := hrow i hi
    rw [Below.heap_setCell _ _ _ _ e1, k2.block i e4 e2]
  · rcases s3 i hi with h1 | h1
    · exact Or.inl h1
    · exact Or.inr (Nat.le_trans hb.size h1)
  · rw [hfl] at hi
    obtain ⟨e1, e2, e3, e4⟩ := hrow i hi
    rcases s3 i hF' with h1 | h1
    · have := hlt i h1; omega
    · omega

set_option maxRecDepth 100000 in
set_option maxHeartbeats 1000000 in
theorem free_any (h : ClockI g c w F) : Calls Try.prog 15 #[.pointer (some ⟨g, 0, none⟩)] w (FreeR g c w F) := by
  obtain ⟨b, a, m, hG, hF⟩ := h
  obtain ⟨-, c1, -, -, c4, -, -, -⟩ := hG.cells
  have hlt : g < w.heap.size := lt_of hG.st
  have HG : Hid (ClockG w g b a m c) := hG
  have HF : Hid (∀ i, F i ↔ (i = g ∨ i = b ∨ (Value.slice a c.th.length m).ownBlock = some i)) := hF
  have hroom := hG.ok.room
  obtain ⟨n, hnn⟩ : ∃ n, c.th.length = n := ⟨_, rfl⟩
  have HN : Hid (c.th.length = n) := hnn
  have HE : Hid (Calls Try.prog 28 #[.pointer (some ⟨g, 0, none⟩), .func (.func 29) #[] #[.pointer (some ⟨w.heap.size, 0, none⟩)]] (w.alloc (boxI c.snap)) fun e w' => e = .returned (.tuple #[]) ∧ FreeC w w' c none 0 0) := by
    have hB : Below w.heap.size w (w.alloc (boxI c.snap)) := (Below.refl _ _).alloc (Nat.le_refl _) _
    have hG2 : ClockG (w.alloc (boxI c.snap)) g b a m c := hG.kept (hB.block g (lt_of hG.st)) (hB.block b (lt_of hG.wk)) (fun t e => by
      obtain ⟨cur, h2, _⟩ := ownsRow_own hG.th e
      exact hB.block t (lt_of h2))
    refine (each_last hG2 (heap_new w _) (by have := lt_of hG.wk; omega)).mono ?_
    rintro e w' ⟨rfl, ht, hb⟩
    exact ⟨rfl, ⟨World.ownsRow_nil _ _ _ _, hB.trans ((ht.mono (fun i hi => (by omega : w.heap.size ≤ i))).toBelow hB.size), hb, (fun e => by cases e), fun q hq => by simp at hq⟩⟩
  have HC : Hid (∀ W, Below w.heap.size w W → W.cell? ⟨g, 4, none⟩ = some (.slice a n m)) := fun W hW => by
    have := hG.cells.c4
    rw [hnn] at this
    rw [hW.cell (p := ⟨g, 4, none⟩) hlt]
    exact this
  have HT : Hid (∀ W, Below w.heap.size w W → ∀ k, (hk : k < c.th.length) → ∃ tb, a = some ⟨tb, 0, none⟩ ∧ W.cell? ⟨tb, k * 2, none⟩ = some (.int .i64 c.th[k].1) ∧ W.cell? ⟨tb, k * 2 + 1, none⟩ = some (.int .i64 c.th[k].2)) := fun W hW k hk => by
    rcases hG.th.2 with ⟨e, hn⟩ | ⟨tb, cap, cur, e, hb, hg, hnc, hcm, hs, ht⟩
    · omega
    · injection e with e1 e2 e3
      have h1 : ∀ f, f < 2 → W.cell? ⟨tb, k * 2 + f, none⟩ = (enT c.th[k])[f]? := fun f hf => by
        rw [cell_of ((hW.block tb (lt_of hg)).trans hg), ← Array.getElem?_toList, ← flat_get enT_len c.th k hk f hf, ← ht, List.getElem?_take_of_lt (by omega), Nat.mul_comm]
      exact ⟨tb, e1, h1 0 (by omega), h1 1 (by omega)⟩
  have HD : Hid (∀ W A k M, FreeC w W c A k M → k ≤ n → Calls Try.prog 30 #[.slice a n m, .int .i64 0, .int .i64 (k : Int)] W fun e w' => e = .returned (.slice a (n - k) m) ∧ w'.cell? ⟨g, 4, none⟩ = some (.slice a n m) ∧ w'.frozen? ⟨g, 4, none⟩ = false ∧
      Hid ((c.th.length ≤ k ∨ ∃ h : k < c.th.length, c.snap < c.th[k].2) → FreeR g c w F (.returned (.slice A k M)) (w'.setCell ⟨g, 4, none⟩ (.slice a (n - k) m)))) := fun W A k M hW hk => by
    have hr : W.ownsRow 0 59 2 (.slice a n m) n (flat enT c.th) := by
      have h1 := hG.th
      rw [hnn] at h1
      exact ownsRow_block h1 (fun t e => by
        obtain ⟨cur, h2, _⟩ := ownsRow_own h1 e
        exact hW.below.block t (lt_of h2))
    refine (delete_any hr hnn hk).mono ?_
    rintro e w' ⟨rfl, k1, k2⟩
    have h1 := hG.tg
    rw [hnn] at h1
    have h2 := (k2.block g (Nat.lt_of_lt_of_le hlt hW.below.size) h1).trans ((hW.below.block g hlt).trans hG.st)
    rw [hnn] at h2
    refine ⟨rfl, by rw [cell_of h2]; rfl, frozen_of h2 _, fun hd => ?_⟩
    have h3 := free_end (g := g) hG hF hW (by omega) hd (w' := w') (by rw [hnn]; exact k1) (by rw [hnn]; exact k2)
    rw [hnn] at h3
    exact h3
  rw [hnn] at c4 hroom
  clear hG hF hnn
  go_enter Try.func15, Try.ntmps15
  go_wp2_with fail
  refine HE.out.mono ?_
  rintro e w1 ⟨rfl, hC⟩
  have q4 := HC.out w1 hC.below
  have HI : Hid (FreeC w w1 c none 0 0) := hC
  clear hC
  go_wp2_with fail
  go_loopw [4, 19] (fun v i wr => ∃ (k M : Nat) (A : Option Addr), k ≤ n ∧ i = .int .i64 k ∧ v = .slice A k M ∧ Hid (FreeC w wr c A k M)) (fun _ i _ => n - (intOf i).toNat)
  case atStart => exact ⟨0, 0, none, Nat.zero_le _, rfl, rfl, HI⟩
  case round =>
    obtain ⟨k, M, A, hk, rfl, rfl, HI⟩ := hrel
    have q5 := HC.out wr HI.out.below
    have q6 : wr.cell? ⟨w.heap.size, 0, none⟩ = some (.int .i64 c.snap) := by rw [cell_of HI.out.box]; rfl
    have hwl : w.heap.size < wr.heap.size := lt_of HI.out.box
    have hgl : g < wr.heap.size := by omega
    by_cases hlt2 : k < n
    · have hl : k < c.th.length := by rw [HN.out]; exact hlt2
      have hlI : (k : Int) < (n : Int) := by omega
      obtain ⟨tb, rfl, t0, t1⟩ := HT.out wr HI.out.below k hl
      obtain ⟨x, hx⟩ : ∃ x, c.th[k].1 = x := ⟨_, rfl⟩
      obtain ⟨t, ht⟩ : ∃ t, c.th[k].2 = t := ⟨_, rfl⟩
      rw [hx] at t0
      rw [ht] at t1
      have HX : Hid (c.th[k].1 = x) := hx
      have HTT : Hid (c.th[k].2 = t) := ht
      clear hx ht
      by_cases hs : c.snap < t
      · have HX2 : Hid (FreeC w (wr.alloc (.cells #[.int .i64 x, .int .i64 t] 59 (0, 0))) c A k M) := HI.out.alloc _
        go_wp2_with fail
        refine (HD.out _ A k M HX2.out hk).mono ?_
        rintro e w' ⟨rfl, d1, d2, d3⟩
        go_wp2_with fail
        go_ret
        exact d3.out (Or.inr ⟨hl, by rw [HTT.out]; exact hs⟩)
      · have HX2 : Hid (FreeC w ((wr.alloc (.cells #[.int .i64 x, .int .i64 t] 59 (0, 0))).alloc (.cells #[.int .i64 x] 3 (0, 0))) c A k M) := (HI.out.alloc _).alloc _
        have HS : Hid (((wr.alloc (.cells #[.int .i64 x, .int .i64 t] 59 (0, 0))).alloc (.cells #[.int .i64 x] 3 (0, 0))).cell? ⟨wr.heap.size + 1, 0, none⟩ = some (.int .i64 x)) := by
          have h1 := heap_new (wr.alloc (.cells #[.int .i64 x, .int .i64 t] 59 (0, 0))) (.cells #[.int .i64 x] 3 (0, 0))
          rw [World.size_alloc] at h1
          exact (cell_of h1 0).trans rfl
        have HK : Hid (∀ A' M' w', w'.ownsRow w.heap.size 3 1 (.slice A' (k + 1) M') (k + 1) (icells ((c.th.take k).map (·.1) ++ [x])) → Turn (fun i => (Value.slice A k M).ownBlock = some i) ((wr.alloc (.cells #[.int .i64 x, .int .i64 t] 59 (0, 0))).alloc (.cells #[.int .i64 x] 3 (0, 0))) w' → (∀ i, (Value.slice A' (k + 1) M').ownBlock = some i → (Value.slice A k M).ownBlock = some i ∨ i = ((wr.alloc (.cells #[.int .i64 x, .int .i64 t] 59 (0, 0))).alloc (.cells #[.int .i64 x] 3 (0, 0))).heap.size) → FreeC w w' c A' (k + 1) M') := fun A' M' w' k1 k2 k3 =>
          HX2.out.next hl (by rw [HTT.out]; omega) (by rw [HX.out]; exact k1) k2 k3
        go_wp2_with (at_builtin; go_must (refine wpList_int rfl _ _ rfl w.heap.size ((c.th.take k).map (·.1)) x A k M rfl HX2.out.row (by omega) (Nat.le_trans (Nat.le_of_lt hwl) (by simp; omega)) (wr.heap.size + 1) rfl HS.out ?_; intro A' M' w' k1 k2 k3; have HI2 := HK.out A' M' w' k1 k2 k3; clear k1 k2 k3))
        go_roundw
        case rel => exact ⟨k + 1, M', A', by omega, by go_num, rfl, HI2⟩
        case measure => simp [intOf]; omega
    · have hg : ¬ (k : Int) < (n : Int) := by omega
      have hke : k = n := by omega
      subst hke
      go_wp2_with fail
      refine (HD.out _ A k M HI.out hk).mono ?_
      rintro e w' ⟨rfl, d1, d2, d3⟩
      go_wp2_with fail
      go_ret
      have h9 := d3.out (Or.inl (by rw [HN.out]; exact Nat.le_refl _))
      rw [Nat.sub_self] at h9
      exact h9
end
end Go.Proofs.Ytonblbopfbjiaaa
