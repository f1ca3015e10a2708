/- The document's tree: keys and values in two rows; where a key belongs. -/
import Derived.Test.YtoknebbkpkcomaaTStandO
namespace Go.Proofs.Ytoknebbkpkcomaa
open Go.RowKit

structure UG (w : World) (r : Nat) (vk vv : Value) (K : List Kv) : Prop where
  st : w.heap[r]? = some (.cells #[vk, vv] 29 (0, 0))
  rk : w.ownsRow 0 9 1 vk K.length (scells (keysOf K))
  rv : w.ownsRow 0 3 1 vv K.length (icells (valsOf K))
  nk : ∀ g, vk.ownBlock = some g → g ≠ r ∧ vv.ownBlock ≠ some g
  nv : ∀ g, vv.ownBlock = some g → g ≠ r
  rise : Rise K
  few : K.length ≤ 4096

def uF (r : Nat) (vk vv : Value) (i : Nat) : Prop := i = r ∨ vk.ownBlock = some i ∨ vv.ownBlock = some i
def UI (r : Nat) (K : List Kv) (w : World) (F : Nat → Prop) : Prop := ∃ vk vv, UG w r vk vv K ∧ ∀ i, F i ↔ uF r vk vv i

section
variable {w w' : World} {r : Nat} {vk vv : Value} {K : List Kv} {F : Nat → Prop}
theorem UG.lt (h : UG w r vk vv K) {i : Nat} (hi : uF r vk vv i) : i < w.heap.size := by
  rcases hi with rfl | hi | hi
  · exact lt_of h.st
  · exact ownsRow_lt h.rk hi
  · exact ownsRow_lt h.rv hi
theorem UG.kept (h : UG w r vk vv K) (e : ∀ i, uF r vk vv i → w'.heap[i]? = w.heap[i]?) : UG w' r vk vv K :=
  ⟨(e r (Or.inl rfl)).trans h.st, ownsRow_block h.rk (fun i hi => e i (Or.inr (Or.inl hi))), ownsRow_block h.rv (fun i hi => e i (Or.inr (Or.inr hi))), h.nk, h.nv, h.rise, h.few⟩
theorem ui_res (r : Nat) (K : List Kv) : Res (UI r K) := by
  refine ⟨fun {w F} h i hi => ?_, fun {w w' F S} h ht hS => ?_⟩
  · obtain ⟨vk, vv, h1, h2⟩ := h
    exact h1.lt ((h2 i).1 hi)
  · obtain ⟨vk, vv, h1, h2⟩ := h
    exact ⟨vk, vv, h1.kept (fun i hi => ht.block i (h1.lt hi) (hS i ((h2 i).2 hi))), h2⟩
theorem ui_new (w : World) : UI w.heap.size [] (w.alloc (.cells #[.slice none 0 0, .slice none 0 0] 29 (0, 0))) (fun i => i = w.heap.size) := by
  refine ⟨.slice none 0 0, .slice none 0 0, ⟨heap_new w _, World.ownsRow_nil _ _ _ _, World.ownsRow_nil _ _ _ _, (fun g h => by cases h), (fun g h => by cases h), List.Pairwise.nil, Nat.zero_le _⟩, fun i => ⟨fun h => Or.inl h, fun h => ?_⟩⟩
  rcases h with h | h | h
  · exact h
  · cases h
  · cases h
theorem UI.rise (h : UI r K w F) : Rise K := by obtain ⟨_, _, h, _⟩ := h; exact h.rise
theorem UI.few (h : UI r K w F) : K.length ≤ 4096 := by obtain ⟨_, _, h, _⟩ := h; exact h.few

/-- what the rows show -/
theorem UI.shape (h : UI r K w F) : ∃ aK cK aV cV, K.length ≤ cK ∧ cK ≤ maxLen ∧ K.length ≤ cV ∧ cV ≤ maxLen ∧ (∀ u, Below w.heap.size w u → UG u r (.slice aK K.length cK) (.slice aV K.length cV) K ∧ u.cell? ⟨r, 0, none⟩ = some (.slice aK K.length cK) ∧ u.cell? ⟨r, 1, none⟩ = some (.slice aV K.length cV) ∧ u.frozen? ⟨r, 0, none⟩ = false ∧ u.frozen? ⟨r, 1, none⟩ = false) ∧
    (∀ u, Below w.heap.size w u → ∀ (i : Nat) k v, K[i]? = some (k, v) → ∃ b off b' off', aK = some ⟨b, off, none⟩ ∧ aV = some ⟨b', off', none⟩ ∧ u.cell? ⟨b, off + i, none⟩ = some (.string k) ∧ u.cell? ⟨b', off' + i, none⟩ = some (.int .i64 v)) ∧ ∀ i, F i ↔ uF r (.slice aK K.length cK) (.slice aV K.length cV) i := by
  obtain ⟨vk, vv, h1, h2⟩ := h
  obtain ⟨aK, cK, rfl⟩ := own_shape h1.rk
  obtain ⟨aV, cV, rfl⟩ := own_shape h1.rv
  have kp : ∀ u, Below w.heap.size w u → UG u r (.slice aK K.length cK) (.slice aV K.length cV) K := fun u hu => h1.kept (fun i hi => hu.block i (h1.lt hi))
  have s1 := row_strs (keysOf_length K).symm h1.rk
  have s2 := row_ints (valsOf_length K).symm h1.rv
  obtain ⟨_, _, e1, x1, x2, _⟩ := id s1
  obtain ⟨_, _, e2, y1, y2, _⟩ := id s2
  rw [keysOf_length] at x1 e1
  rw [valsOf_length] at y1 e2
  cases e1
  cases e2
  refine ⟨aK, cK, aV, cV, x1, x2, y1, y2, fun u hu => ?_, fun u hu i k v hi => ?_, h2⟩
  · have g := kp u hu
    exact ⟨g, by rw [cell_of g.st]; rfl, by rw [cell_of g.st]; rfl, frozen_of g.st _, frozen_of g.st _⟩
  · have g := kp u hu
    have t1 := row_strs (keysOf_length K).symm g.rk
    have t2 := row_ints (valsOf_length K).symm g.rv
    have hne : K ≠ [] := fun e => by rw [e] at hi; simp at hi
    rw [← keysOf_length] at t1
    rw [← valsOf_length] at t2
    obtain ⟨b, off, e1, c1⟩ := strs_cell t1 (by simpa [keysOf] using hne)
    obtain ⟨b', off', e2, c2⟩ := ints_cell t2 (by simpa [valsOf] using hne)
    exact ⟨b, off, b', off', e1, e2, c1 i k (by simp [keysOf, hi]), c2 i v (by simp [valsOf, hi])⟩

theorem rise_lt {K : List Kv} (h : Rise K) {i j : Nat} {a b : Kv} (hij : i < j) (ha : K[i]? = some a) (hb : K[j]? = some b) : bl a.1 b.1 = true := by
  obtain ⟨h1, rfl⟩ := List.getElem?_eq_some_iff.1 ha
  obtain ⟨h2, rfl⟩ := List.getElem?_eq_some_iff.1 hb
  exact List.pairwise_iff_getElem.1 h i j h1 h2 hij
theorem below_dr {w u : World} (h : Below w.heap.size w u) (n : Nat) : Below w.heap.size w (u.drewN n) := h.trans ((below_drewN u n).mono h.size)

/-- the place of a key, and whether it is there -/
def Plc (K : List Kv) (k : ByteArray) (i : Nat) (b : Bool) : Prop := At k K i ∧ (b = true → ∃ v, K[i]? = some (k, v)) ∧ (b = false → ∀ v, K[i]? ≠ some (k, v))

set_option maxRecDepth 100000 in
set_option maxHeartbeats 2000000 in
theorem uplace_any (h : UI r K w F) (k : ByteArray) : Calls Try.prog 42 #[.pointer (some ⟨r, 0, none⟩), .string k] w fun e w' => ∃ (i : Nat) (b : Bool), e = .returned (.tuple #[.int .i64 (i : Int), .bool b]) ∧ Hid (Plc K k i b) ∧ Hid (∃ n, w' = w.drewN n) := by
  have hr := h.rise
  have hfew := h.few
  obtain ⟨aK, cK, aV, cV, x1, x2, y1, y2, hc, hx, -⟩ := h.shape
  obtain ⟨N, hN⟩ : ∃ N, K.length = N := ⟨_, rfl⟩
  have HN : Hid (K.length = N) := hN
  have HR : Hid (Rise K) := hr
  rw [hN] at x1 y1 hfew hc
  have HC : Hid (∀ n, (w.drewN n).cell? ⟨r, 0, none⟩ = some (.slice aK N cK)) := fun n => (hc _ (below_drewN w n)).2.1
  have HX : Hid (∀ n (i : Nat) k v, K[i]? = some (k, v) → ∃ b off, aK = some ⟨b, off, none⟩ ∧ (w.drewN n).cell? ⟨b, off + i, none⟩ = some (.string k)) := fun n i k v hi => by
    obtain ⟨b, off, _, _, e, _, c, _⟩ := hx _ (below_drewN w n) i k v hi
    exact ⟨b, off, e, c⟩
  have c0 := HC.out 0
  rw [World.drewN_zero] at c0
  unfold maxLen at x2
  clear h hc hx hN hr y1 y2
  go_enter Try.func42, Try.ntmps42
  go_wp2_with fail
  go_quiet (fail)
  go_wp2_with fail
  go_loopw [6, 7] (fun lo hi wr => ∃ (p q n : Nat), p ≤ q ∧ q ≤ N ∧ lo = .int .i64 p ∧ hi = .int .i64 q ∧ Hid (∀ (j : Nat) (x : Kv), j < p → K[j]? = some x → bl x.1 k = true) ∧ Hid (∀ (j : Nat) (x : Kv), q ≤ j → K[j]? = some x → bl x.1 k = false) ∧ Hid (wr = w.drewN n)) (fun lo hi _ => (intOf hi).toNat - (intOf lo).toNat)
  case atStart =>
    refine ⟨0, N, _, Nat.zero_le _, Nat.le_refl _, rfl, rfl, fun j x hj => by omega, fun j x hj hx => ?_, rfl⟩
    have := (List.getElem?_eq_some_iff.1 hx).1
    have := HN.out
    omega
  case round =>
    obtain ⟨p, q, n, hpq, hqN, rfl, rfl, H1, H2, HW⟩ := hrel
    have d0 : wr.cell? ⟨r, 0, none⟩ = some (.slice aK N cK) := by rw [HW.out]; exact HC.out n
    by_cases hlt : p < q
    · have hlI : (p : Int) < (q : Int) := by omega
      obtain ⟨m, hm⟩ : ∃ m, (p + q) / 2 = m := ⟨_, rfl⟩
      have hm1 : ((p : Int) + (q : Int)) / 2 = (m : Int) := by omega
      have hm2 : Int.tdiv ((p : Int) + (q : Int)) 2 = (m : Int) := by rw [Int.tdiv_eq_ediv_of_nonneg (by omega)]; omega
      have hmN : m < N := by omega
      have hmI : (m : Int) < (N : Int) := by omega
      have hpm : p ≤ m := by omega
      have hmq : m < q := by omega
      obtain ⟨⟨x, v⟩, hx⟩ : ∃ y, K[m]? = some y := ⟨_, List.getElem?_eq_getElem (by rw [HN.out]; exact hmN)⟩
      obtain ⟨b, off, rfl, e0⟩ := HX.out n m x v hx
      rw [← HW.out] at e0
      cases hb : bl x k with
      | true =>
        have hb2 : Op.bytesLess x.toList k.toList = true := hb
        have H1' : Hid (∀ (j : Nat) (y : Kv), j < m + 1 → K[j]? = some y → bl y.1 k = true) := fun j y hj hy => by
          rcases Nat.lt_or_ge j m with h | h
          · exact bl_tr (rise_lt HR.out h hy hx) hb
          · obtain rfl : j = m := by omega
            rw [hx] at hy
            cases hy
            exact hb
        clear hx hb hm H1
        go_wp2_with fail
        go_roundw
        case rel => exact ⟨m + 1, q, n, by omega, hqN, by go_num, rfl, H1', H2, HW⟩
        case measure => simp [intOf]; omega
      | false =>
        have hb2 : Op.bytesLess x.toList k.toList = false := hb
        have H2' : Hid (∀ (j : Nat) (y : Kv), m ≤ j → K[j]? = some y → bl y.1 k = false) := fun j y hj hy => by
          rcases Nat.lt_or_ge m j with h | h
          · cases hc : bl y.1 k with
            | false => rfl
            | true =>
              have := bl_tr (rise_lt HR.out h hx hy) hc
              rw [hb] at this
              cases this
          · obtain rfl : j = m := by omega
            rw [hx] at hy
            cases hy
            exact hb
        clear hx hb hm H2
        go_wp2_with fail
        go_roundw
        case rel => exact ⟨p, m, n, hpm, by omega, rfl, rfl, H1, H2', HW⟩
        case measure => simp [intOf]; omega
    · obtain rfl : p = q := by omega
      have hlI : ¬ (p : Int) < (p : Int) := by omega
      have HAt : Hid (At k K p) := ⟨by rw [HN.out]; exact hqN, fun j y hj hy => H1.out j y hj hy, fun y hy => H2.out p y (Nat.le_refl _) hy⟩
      by_cases hpN : p < N
      · have hpI : (p : Int) < (N : Int) := by omega
        obtain ⟨⟨x, v⟩, hx⟩ : ∃ y, K[p]? = some y := ⟨_, List.getElem?_eq_getElem (by rw [HN.out]; exact hpN)⟩
        obtain ⟨b, off, rfl, e0⟩ := HX.out n p x v hx
        rw [← HW.out] at e0
        by_cases hxk : x = k
        · subst hxk
          have HP : Hid (Plc K x p true) := ⟨HAt.out, fun _ => ⟨v, hx⟩, fun h => by cases h⟩
          clear hx
          go_wp2_with fail
          go_quiet (fail)
          go_wp2_with fail
          go_ret2
          exact ⟨p, true, rfl, HP, _, by rw [HW.out, World.drewN_drewN]⟩
        · have hne1 : (x.toList == k.toList) = false := by rw [beq_eq_false_iff_ne]; exact fun e => hxk (toList_inj e)
          have hne2 : ¬ x.toList = k.toList := fun e => hxk (toList_inj e)
          have HP : Hid (Plc K k p false) := ⟨HAt.out, (fun h => by cases h), (fun _ v' h => by rw [hx] at h; cases h; exact hxk rfl)⟩
          clear hx hxk
          go_wp2_with fail
          go_quiet (fail)
          go_wp2_with fail
          go_ret2
          exact ⟨p, false, rfl, HP, _, by rw [HW.out, World.drewN_drewN]⟩
      · have hpI : ¬ (p : Int) < (N : Int) := by omega
        have HP : Hid (Plc K k p false) := ⟨HAt.out, (fun h => by cases h), (fun _ v' h => by
          have := (List.getElem?_eq_some_iff.1 h).1
          have := HN.out
          omega)⟩
        go_wp2_with fail
        go_quiet (fail)
        go_wp2_with fail
        go_ret2
        exact ⟨p, false, rfl, HP, _, by rw [HW.out, World.drewN_drewN]⟩
end

end Go.Proofs.Ytoknebbkpkcomaa

/- The document's tree: parts of rows, rows that grow side by side, and what becomes of the tree when it takes them over. -/
namespace Go.Proofs.Ytoknebbkpkcomaa
open Go.RowKit

theorem sizeS (W : World) : (sizeOf 9).run Try.prog W = .ok 1 W := by kernel_rfl
theorem sizeI (W : World) : (sizeOf 3).run Try.prog W = .ok 1 W := by kernel_rfl

/-- of a row of one's own the first i -/
theorem part_to {w : World} {T e : TypeId} (hT : Try.prog.underlying T = some (.slice e)) (hS : ∀ W : World, (sizeOf e).run Try.prog W = .ok 1 W) {a : Option Addr} {n c : Nat} {xs : List Value} (h : w.ownsRow 0 e 1 (.slice a n c) n xs) {i : Nat} (hi : i ≤ n) :
    ∃ ad c', (∀ W : World, (Instr.slice T (.slice a n c) none (some (.int .i64 (i : Int))) none).run Try.prog W = .ok (.slice ad i c') W) ∧ (ad = none → c' = 0) ∧ ∀ u : World, (∀ g, (Value.slice a n c).ownBlock = some g → u.heap[g]? = w.heap[g]?) → xs.take i ≠ [] → ∃ b off, ad = some ⟨b, off, none⟩ ∧ ∀ (j : Nat) x, (xs.take i)[j]? = some x → u.cell? ⟨b, off + j, none⟩ = some x := by
  have hxl : xs.length = n := by have := h.1; omega
  rcases h.2 with ⟨hv, h0⟩ | ⟨g, cap, cur, hv, _, hg, h1, h2, h3, h4⟩
  · cases hv
    obtain rfl : i = 0 := by omega
    exact ⟨none, 0, fun W => by simp [Instr.slice, run_underlying hT, hS, Instr.sliceBounds, run_sliceBound, Result.andThen], fun _ => rfl, fun u _ hne => absurd (by simp) hne⟩
  · cases hv
    have hic : (i : Int) ≤ (c : Int) := by omega
    by_cases hc0 : c = 0
    · subst hc0
      obtain rfl : i = 0 := by omega
      exact ⟨some ⟨g, 0, none⟩, 0, fun W => by simp [Instr.slice, run_underlying hT, hS, Instr.sliceBounds, run_sliceBound, Result.andThen], fun _ => rfl, fun u _ hne => absurd (by simp) hne⟩
    · refine ⟨some ⟨g, 0, none⟩, c, fun W => by simp [Instr.slice, run_underlying hT, hS, Instr.sliceBounds, run_sliceBound, hic, Result.andThen, Addr.add_lit, hc0], (fun h => by cases h), fun u hu _ => ⟨g, 0, rfl, fun j x hx => ?_⟩⟩
      have hj := (List.getElem?_eq_some_iff.1 hx).1
      rw [List.length_take] at hj
      rw [List.getElem?_take_of_lt (by omega)] at hx
      rw [Nat.zero_add, cell_of ((hu g rfl).trans hg), ← Array.getElem?_toList, ← hx, ← h4, List.getElem?_take_of_lt (by omega)]

/-- and the rest from i on -/
theorem part_from {w : World} {T e : TypeId} (hT : Try.prog.underlying T = some (.slice e)) (hS : ∀ W : World, (sizeOf e).run Try.prog W = .ok 1 W) {a : Option Addr} {n c : Nat} {xs : List Value} (h : w.ownsRow 0 e 1 (.slice a n c) n xs) {i : Nat} (hi : i ≤ n) {d : Nat} (hd : n - i = d) :
    ∃ ad c', (∀ W : World, (Instr.slice T (.slice a n c) (some (.int .i64 (i : Int))) none none).run Try.prog W = .ok (.slice ad d c') W) ∧ (ad = none → c' = 0) ∧ ∀ u : World, (∀ g, (Value.slice a n c).ownBlock = some g → u.heap[g]? = w.heap[g]?) → xs.drop i ≠ [] → ∃ b off, ad = some ⟨b, off, none⟩ ∧ ∀ (j : Nat) x, (xs.drop i)[j]? = some x → u.cell? ⟨b, off + j, none⟩ = some x := by
  have hxl : xs.length = n := by have := h.1; omega
  rcases h.2 with ⟨hv, h0⟩ | ⟨g, cap, cur, hv, _, hg, h1, h2, h3, h4⟩
  · cases hv
    obtain rfl : i = 0 := by omega
    obtain rfl : d = 0 := by omega
    have : xs = [] := List.length_eq_zero_iff.1 hxl
    exact ⟨none, 0, fun W => by simp [Instr.slice, run_underlying hT, hS, Instr.sliceBounds, run_sliceBound, Result.andThen], fun _ => rfl, fun u _ hne => absurd (by rw [this]; rfl) hne⟩
  · cases hv
    have hin : (i : Int) ≤ (n : Int) := by omega
    by_cases hc : c = i
    · obtain rfl : d = 0 := by omega
      have hdn : xs.drop i = [] := List.drop_eq_nil_of_le (by omega)
      refine ⟨some ⟨g, 0, none⟩, c - i, fun W => ?_, (fun h => by cases h), fun u _ hne => absurd hdn hne⟩
      have : n = i := by omega
      subst this
      simp [Instr.slice, run_underlying hT, hS, Instr.sliceBounds, run_sliceBound, Result.andThen, Addr.add_lit, hc]
    · refine ⟨some ⟨g, i, none⟩, c - i, fun W => ?_, (fun h => by cases h), fun u hu _ => ⟨g, i, rfl, fun j x hx => ?_⟩⟩
      · simp [Instr.slice, run_underlying hT, hS, Instr.sliceBounds, run_sliceBound, hin, Result.andThen, Addr.add_lit, hc, hd]
      · rw [List.getElem?_drop] at hx
        have hj := (List.getElem?_eq_some_iff.1 hx).1
        rw [cell_of ((hu g rfl).trans hg), ← Array.getElem?_toList, ← hx, ← h4, List.getElem?_take_of_lt (by omega)]

/-- append of any cells to a row of one's own -/
theorem wpList_app1 {w : World} {ops : Array Oper} {rest : List Oper} {o : Oper} {a : Act} {Q : Exit → Act → World → Prop} {T e : TypeId} {z : Value} {bytes : Nat} (hT : Try.prog.underlying T = some (.slice e)) (hinfo : (Try.prog.info? e).map (fun i => (i.zero, i.size, i.bytes)) = some (some z, 1, bytes)) (hz1 : z.cells.size = 1) (hby : bytes ≤ 1024)
    (hw : Region.wanted o (yielded ops a.tmps) = true) (s x : Operand)
    (hop : o.op = .call { callee := .builtin .append, args := #[s, x], argTypes := #[T, T] }) {base n m : Nat} {v : Value} {xs ys : List Value} (hone : ∀ u ∈ ys, u.oneCell' = true)
    (hs : a.eval s = v) (hown : w.ownsRow base e 1 v n xs) {ad : Option Addr} {c : Nat} (hx : a.eval x = .slice ad m c) (hm : ys.length = m) (hnil : ad = none → c = 0)
    (hc : ys ≠ [] → ∃ b off, ad = some ⟨b, off, none⟩ ∧ ∀ (j : Nat) u, ys[j]? = some u → w.cell? ⟨b, off + j, none⟩ = some u) {N : Nat} (hN : n + m = N) (hA : N ≤ 100000) (hbase : base ≤ w.heap.size)
    (h : ∀ A' c' w', w'.ownsRow base e 1 (.slice A' N c') N (xs ++ ys) → Turn (fun i => v.ownBlock = some i) w w' → (∀ i, (Value.slice A' N c').ownBlock = some i → v.ownBlock = some i ∨ w.heap.size ≤ i) → wpList Try.prog ops Q rest (a.put o.dst (.slice A' N c')) w') : wpList Try.prog ops Q (o :: rest) a w := by
  obtain ⟨i, hi, hz, hsz, hb⟩ := info_parts hinfo
  refine wpList_wanted hw fun KK hKK => ?_
  subst hN
  have hbytes : (n + m) * bytes ≤ 140737488355328 := by
    have : (n + m) * bytes ≤ 100000 * 1024 := Nat.mul_le_mul hA hby
    omega
  cases ad with
  | none =>
    have hy : ys = [] := by
      cases hys : ys with
      | nil => rfl
      | cons y r =>
        obtain ⟨_, _, e, _⟩ := hc (by rw [hys]; simp)
        cases e
    obtain rfl := hnil rfl
    subst hy
    obtain rfl : m = 0 := hm.symm
    have hrun := run_append_owned_none (P := Try.prog) (w := w) base T o.type e i 1 hT hi v n xs hown
    obtain ⟨A', c', rfl⟩ := own_shape hown
    unfold Oper.wp
    simp [execOp, hop, resolve, invoke, builtin, hs, hx, hrun, Result.andThen]
    exact hKK _ _ (h A' c' w (by rw [List.append_nil, Nat.add_zero]; exact hown) (Turn.refl _ _) (fun i hi => Or.inl hi))
  | some ad =>
    obtain ⟨v', w', hr, k1, k2, _, k4⟩ := run_append_own_at (P := Try.prog) w base T o.type e i z 1 bytes hT hi hz hsz hb hz1 (by decide) v n xs hown ad m c ys (by rw [hm, Nat.mul_one]) (fun j u hu => by
      obtain ⟨b, off, e, hcell⟩ := hc (fun e => by rw [e] at hu; simp at hu)
      cases e
      rw [Addr.add_lit]
      exact hcell j u hu) hone (by unfold maxLen; omega) hbytes hbase
    obtain ⟨A', c', rfl⟩ := own_shape k1
    unfold Oper.wp
    simp [execOp, hop, resolve, invoke, builtin, hs, hx, hr, Result.andThen]
    refine hKK _ _ (h A' c' w' k1 (Turn.ofGrown k2 (fun k hk => hk)) fun i hi => ?_)
    rcases k4 with k | k
    · exact Or.inl (k ▸ hi)
    · rw [k] at hi
      right
      injection hi with hi
      omega

/-- two rows of a call's own that grow side by side, behind w -/
structure Two2 (w u : World) (vk vv : Value) (A B : List Value) : Prop where
  bel : Below w.heap.size w u
  rk : u.ownsRow w.heap.size 9 1 vk A.length A
  rv : u.ownsRow w.heap.size 3 1 vv B.length B
  ne : ∀ g, vk.ownBlock = some g → vv.ownBlock ≠ some g
section
variable {w u u' : World} {vk vv vk' vv' : Value} {A B X : List Value}
theorem Two2.nil (h : Below w.heap.size w u) : Two2 w u (.slice none 0 0) (.slice none 0 0) [] [] := ⟨h, World.ownsRow_nil _ _ _ _, World.ownsRow_nil _ _ _ _, fun g h => by cases h⟩
theorem Two2.stay (h : Two2 w u vk vv A B) (hb : Below u.heap.size u u') : Two2 w u' vk vv A B :=
  ⟨h.bel.trans (hb.mono h.bel.size), ownsRow_block h.rk (fun g hg => by obtain ⟨_, h1, _⟩ := ownsRow_own h.rk hg; exact hb.block g (lt_of h1)), ownsRow_block h.rv (fun g hg => by obtain ⟨_, h1, _⟩ := ownsRow_own h.rv hg; exact hb.block g (lt_of h1)), h.ne⟩
theorem Two2.key (h : Two2 w u vk vv A B) {n : Nat} (hn : n = (A ++ X).length) (k1 : u'.ownsRow w.heap.size 9 1 vk' n (A ++ X)) (k2 : Turn (fun i => vk.ownBlock = some i) u u') (k3 : ∀ i, vk'.ownBlock = some i → vk.ownBlock = some i ∨ u.heap.size ≤ i) : Two2 w u' vk' vv (A ++ X) B := by
  refine ⟨h.bel.trans ((k2.mono fun i hi => ?_).toBelow h.bel.size), hn ▸ k1, ownsRow_block h.rv (fun g hg => ?_), fun g hg hv => ?_⟩
  · obtain ⟨_, _, hb⟩ := ownsRow_own h.rk hi; exact hb
  · obtain ⟨_, h1, _⟩ := ownsRow_own h.rv hg
    exact k2.block g (lt_of h1) (fun e => h.ne g e hg)
  · rcases k3 g hg with e | e
    · exact h.ne g e hv
    · obtain ⟨_, h1, _⟩ := ownsRow_own h.rv hv
      have := lt_of h1
      omega
theorem Two2.val (h : Two2 w u vk vv A B) {n : Nat} (hn : n = (B ++ X).length) (k1 : u'.ownsRow w.heap.size 3 1 vv' n (B ++ X)) (k2 : Turn (fun i => vv.ownBlock = some i) u u') (k3 : ∀ i, vv'.ownBlock = some i → vv.ownBlock = some i ∨ u.heap.size ≤ i) : Two2 w u' vk vv' A (B ++ X) := by
  refine ⟨h.bel.trans ((k2.mono fun i hi => ?_).toBelow h.bel.size), ownsRow_block h.rk (fun g hg => ?_), hn ▸ k1, fun g hg hv => ?_⟩
  · obtain ⟨_, _, hb⟩ := ownsRow_own h.rv hi; exact hb
  · obtain ⟨_, h1, _⟩ := ownsRow_own h.rk hg
    exact k2.block g (lt_of h1) (fun e => h.ne g hg e)
  · rcases k3 g hv with e | e
    · exact h.ne g hg e
    · obtain ⟨_, h1, _⟩ := ownsRow_own h.rk hg
      have := lt_of h1
      omega
end

section
variable {w u : World} {r : Nat} {vk0 vv0 vk vv : Value} {A B : List Value} {K K' : List Kv}

/-- the tree has taken the new row of keys: what is still as it was -/
structure UHalf (w U : World) (r : Nat) (vv0 vk' vv : Value) (B : List Value) (K' : List Kv) : Prop where
  st : U.heap[r]? = some (.cells #[vk', vv0] 29 (0, 0))
  old : ∀ i, i < w.heap.size → i ≠ r → U.heap[i]? = w.heap[i]?
  size : w.heap.size ≤ U.heap.size
  rk : U.ownsRow w.heap.size 9 1 vk' K'.length (scells (keysOf K'))
  rv : U.ownsRow w.heap.size 3 1 vv B.length B
  ne : ∀ g, vk'.ownBlock = some g → vv.ownBlock ≠ some g
  rest : U.os = w.os ∧ U.tape = w.tape ∧ U.output = w.output

theorem Two2.half (hG : UG w r vk0 vv0 K) (h : Two2 w u vk vv A B) {u1 : World} {vk' : Value} (k1 : u1.ownsRow w.heap.size 9 1 vk' K'.length (scells (keysOf K'))) (k2 : Turn (fun i => vk.ownBlock = some i) u u1) (k3 : ∀ i, vk'.ownBlock = some i → vk.ownBlock = some i ∨ u.heap.size ≤ i) :
    UHalf w (u1.setCell ⟨r, 0, none⟩ vk') r vv0 vk' vv B K' := by
  have hrw := lt_of hG.st
  have hsz := h.bel.size
  have own1 : ∀ g, vk.ownBlock = some g → w.heap.size ≤ g := fun g hg => by obtain ⟨_, _, hb⟩ := ownsRow_own h.rk hg; exact hb
  have own2 : ∀ g, vv.ownBlock = some g → w.heap.size ≤ g ∧ g < u.heap.size := fun g hg => by obtain ⟨_, h1, hb⟩ := ownsRow_own h.rv hg; exact ⟨hb, lt_of h1⟩
  have own3 : ∀ g, vk'.ownBlock = some g → w.heap.size ≤ g := fun g hg => by obtain ⟨_, _, hb⟩ := ownsRow_own k1 hg; exact hb
  have kr : u1.heap[r]? = some (.cells #[vk0, vv0] 29 (0, 0)) := by
    rw [k2.block r (by omega) (fun e => by have := own1 r e; omega), h.bel.block r hrw]
    exact hG.st
  refine ⟨?_, fun i hi hne => ?_, ?_, ownsRow_block k1 (fun g hg => ?_), ownsRow_block h.rv (fun g hg => ?_), fun g hg hv => ?_, ⟨?_, ?_, ?_⟩⟩
  · rw [heap_setCell_same kr]; rfl
  · rw [Below.heap_setCell u1 ⟨r, 0, none⟩ _ i hne, k2.block i (by omega) (fun e => by have := own1 i e; omega), h.bel.block i hi]
  · have := k2.size
    have : (u1.setCell ⟨r, 0, none⟩ vk').heap.size = u1.heap.size := by simp
    omega
  · exact Below.heap_setCell u1 ⟨r, 0, none⟩ _ g (fun e => by have := own3 g hg; dsimp only at e; omega)
  · have := own2 g hg
    rw [Below.heap_setCell u1 ⟨r, 0, none⟩ _ g (fun e => by dsimp only at e; omega)]
    exact k2.block g this.2 (fun e => h.ne g e hg)
  · rcases k3 g hg with e | e
    · exact h.ne g e hv
    · have := own2 g hv; omega
  · exact k2.os.trans h.bel.os
  · exact k2.tape.trans h.bel.tape
  · exact k2.output.trans h.bel.output

theorem UHalf.done {U U2 : World} {vk' vv' : Value} {F : Nat → Prop} (hF : ∀ i, F i ↔ uF r vk0 vv0 i) (hr : r < w.heap.size) (h : UHalf w U r vv0 vk' vv B K') (l1 : U2.ownsRow w.heap.size 3 1 vv' K'.length (icells (valsOf K'))) (l2 : Turn (fun i => vv.ownBlock = some i) U U2) (l3 : ∀ i, vv'.ownBlock = some i → vv.ownBlock = some i ∨ U.heap.size ≤ i) (hK : Rise K') (hl : K'.length ≤ 4096) :
    Goes (UI r K') w (U2.setCell ⟨r, 1, none⟩ vv') F := by
  have hsz := h.size
  have own2 : ∀ g, vv.ownBlock = some g → w.heap.size ≤ g ∧ g < U.heap.size := fun g hg => by obtain ⟨_, h1, hb⟩ := ownsRow_own h.rv hg; exact ⟨hb, lt_of h1⟩
  have own3 : ∀ g, vk'.ownBlock = some g → w.heap.size ≤ g ∧ g < U.heap.size := fun g hg => by obtain ⟨_, h1, hb⟩ := ownsRow_own h.rk hg; exact ⟨hb, lt_of h1⟩
  have own4 : ∀ g, vv'.ownBlock = some g → w.heap.size ≤ g := fun g hg => by obtain ⟨_, _, hb⟩ := ownsRow_own l1 hg; exact hb
  have kr : U2.heap[r]? = some (.cells #[vk', vv0] 29 (0, 0)) := by
    rw [l2.block r (by omega) (fun e => by have := own2 r e; omega)]
    exact h.st
  refine ⟨uF r vk' vv', ⟨vk', vv', ⟨?_, ownsRow_zero (ownsRow_block h.rk fun g hg => ?_), ownsRow_zero (ownsRow_block l1 fun g hg => ?_), fun g hg => ⟨?_, fun e => ?_⟩, fun g hg => ?_, hK, hl⟩, fun _ => Iff.rfl⟩, ⟨?_, ?_, ?_, ?_, fun i hi hn => ?_⟩, fun i hi => ?_⟩
  · rw [heap_setCell_same kr]; rfl
  · have := own3 g hg
    rw [Below.heap_setCell U2 ⟨r, 1, none⟩ _ g (fun e => by dsimp only at e; omega)]
    exact l2.block g this.2 (h.ne g hg)
  · exact Below.heap_setCell U2 ⟨r, 1, none⟩ _ g (fun e => by have := own4 g hg; dsimp only at e; omega)
  · have := own3 g hg; omega
  · have := own3 g hg
    rcases l3 g e with e2 | e2
    · exact h.ne g hg e2
    · omega
  · have := own4 g hg; omega
  · exact l2.os.trans h.rest.1
  · exact l2.tape.trans h.rest.2.1
  · exact l2.output.trans h.rest.2.2
  · have := l2.size
    have : (U2.setCell ⟨r, 1, none⟩ vv').heap.size = U2.heap.size := by simp
    omega
  · have hir : i ≠ r := fun e => hn ((hF i).2 (Or.inl e))
    rw [Below.heap_setCell U2 ⟨r, 1, none⟩ _ i hir, l2.block i (by omega) (fun e => by have := own2 i e; omega)]
    exact h.old i hi hir
  · rcases hi with rfl | hi | hi
    · exact Or.inl ((hF i).2 (Or.inl rfl))
    · exact Or.inr (own3 i hi).1
    · exact Or.inr (own4 i hi)
theorem UHalf.cell {U U2 : World} {vk' : Value} (h : UHalf w U r vv0 vk' vv B K') (hr : r < w.heap.size) (l2 : Turn (fun i => vv.ownBlock = some i) U U2) : U2.cell? ⟨r, 1, none⟩ = some vv0 ∧ U2.frozen? ⟨r, 1, none⟩ = false := by
  have kr : U2.heap[r]? = some (.cells #[vk', vv0] 29 (0, 0)) := by
    rw [l2.block r (by have := h.size; omega) (fun e => by obtain ⟨_, _, hb⟩ := ownsRow_own h.rv e; omega)]
    exact h.st
  exact ⟨by rw [cell_of kr]; rfl, frozen_of kr _⟩
end

end Go.Proofs.Ytoknebbkpkcomaa

/- The document's tree: Get, Put, Take. -/
namespace Go.Proofs.Ytoknebbkpkcomaa
open Go.RowKit

section
variable {K : List Kv} {k : ByteArray} {v : Int} {i : Nat}
theorem plc_there (h : Rise K) (hp : K[i]? = some (k, v)) : getK k K = some v := (getK_some h).2 (List.mem_of_getElem? hp)
theorem plc_none (h : Rise K) (ha : At k K i) (hno : ∀ v, K[i]? ≠ some (k, v)) : getK k K = none := by
  rw [getK_none]
  rintro ⟨a, b⟩ hp rfl
  obtain ⟨j, hj⟩ := List.getElem?_of_mem hp
  rcases Nat.lt_trichotomy j i with h1 | h1 | h1
  · have := ha.ahead j _ h1 hj
    rw [bl_self] at this
    cases this
  · subst h1
    exact hno b hj
  · have hi : i < K.length := by have := (List.getElem?_eq_some_iff.1 hj).1; omega
    have h2 := ha.here _ (List.getElem?_eq_getElem hi)
    have h3 := rise_lt h h1 (List.getElem?_eq_getElem hi) hj
    rw [h2] at h3
    cases h3
theorem insertIdx_parts {α : Type} {x : α} : ∀ {L : List α} {i : Nat}, i ≤ L.length → L.insertIdx i x = (L.take i ++ [x]) ++ L.drop i
  | L, 0, _ => by simp
  | [], i + 1, h => by simp at h
  | y :: L, i + 1, h => by
    have := insertIdx_parts (x := x) (L := L) (i := i) (by simpa using h)
    simp [this]
theorem keys_ins (hi : i ≤ K.length) : scells (keysOf (K.insertIdx i (k, v))) = (([] ++ (scells (keysOf K)).take i) ++ [.string k]) ++ (scells (keysOf K)).drop i := by
  rw [insertIdx_parts hi]
  simp [scells, keysOf]
theorem vals_ins (hi : i ≤ K.length) : icells (valsOf (K.insertIdx i (k, v))) = (([] ++ (icells (valsOf K)).take i) ++ [.int .i64 v]) ++ (icells (valsOf K)).drop i := by
  rw [insertIdx_parts hi]
  simp [icells, valsOf]
theorem keys_del : scells (keysOf (K.eraseIdx i)) = ([] ++ (scells (keysOf K)).take i) ++ (scells (keysOf K)).drop (i + 1) := by
  rw [List.eraseIdx_eq_take_drop_succ]
  simp [scells, keysOf]
theorem vals_del : icells (valsOf (K.eraseIdx i)) = ([] ++ (icells (valsOf K)).take i) ++ (icells (valsOf K)).drop (i + 1) := by
  rw [List.eraseIdx_eq_take_drop_succ]
  simp [icells, valsOf]
theorem one_new {u : World} {x : Value} {T : TypeId} {fz : Nat × Nat} (_ : [x] ≠ []) : ∃ b off, (some ⟨u.heap.size, 0, none⟩ : Option Addr) = some ⟨b, off, none⟩ ∧ ∀ (j : Nat) y, [x][j]? = some y → (u.alloc (.cells #[x] T fz)).cell? ⟨b, off + j, none⟩ = some y := by
  refine ⟨u.heap.size, 0, rfl, fun j y hy => ?_⟩
  cases j with
  | zero =>
    simp at hy
    subst hy
    rw [cell_of (heap_new u _)]
    rfl
  | succ j => simp at hy
theorem below_al (u : World) (o : Obj) : Below u.heap.size u (u.alloc o) := (Below.refl _ _).alloc (Nat.le_refl _) _
end

section
variable {w : World} {r : Nat} {K K' : List Kv} {F : Nat → Prop} {k : ByteArray}

set_option maxRecDepth 100000 in
theorem uget_to {v : Int} {b : Bool} (hp : GetK K k v b) (h : UI r K w F) : Calls Try.prog 26 #[.pointer (some ⟨r, 0, none⟩), .string k] w fun x w' => x = .returned (.tuple #[.int .i64 v, .bool b]) ∧ Below w.heap.size w w' := by
  have hr := h.rise
  have HPl : Hid (Calls Try.prog 42 #[.pointer (some ⟨r, 0, none⟩), .string k] w fun e w' => ∃ (i : Nat) (b : Bool), e = .returned (.tuple #[.int .i64 (i : Int), .bool b]) ∧ Hid (Plc K k i b) ∧ Hid (∃ n, w' = w.drewN n)) := uplace_any h k
  obtain ⟨aK, cK, aV, cV, x1, x2, y1, y2, hc, hx, -⟩ := h.shape
  obtain ⟨N, hN⟩ : ∃ N, K.length = N := ⟨_, rfl⟩
  have HN : Hid (K.length = N) := hN
  have HR : Hid (Rise K) := hr
  have HP : Hid (GetK K k v b) := hp
  rw [hN] at y1 hc
  have HC : Hid (∀ u, Below w.heap.size w u → u.cell? ⟨r, 1, none⟩ = some (.slice aV N cV)) := fun u hu => (hc u hu).2.2.1
  have HX : Hid (∀ u, Below w.heap.size w u → ∀ (i : Nat) k v, K[i]? = some (k, v) → ∃ b off, aV = some ⟨b, off, none⟩ ∧ u.cell? ⟨b, off + i, none⟩ = some (.int .i64 v)) := fun u hu i k v hi => by
    obtain ⟨_, _, b, off, _, e, _, c⟩ := hx u hu i k v hi
    exact ⟨b, off, e, c⟩
  unfold maxLen at y2
  clear h hc hx hN hr x1 x2 hp
  go_enter Try.func26, Try.ntmps26
  go_wp2_with fail
  refine HPl.out.mono ?_
  rintro e w1 ⟨i, bb, rfl, HPc, HW⟩
  have HB : Hid (Below w.heap.size w w1) := by
    obtain ⟨n, e⟩ := HW.out
    rw [e]
    exact below_drewN w n
  clear HPl HW
  cases bb with
  | true =>
    obtain ⟨v', hv'⟩ := HPc.out.2.1 rfl
    obtain ⟨rfl, rfl⟩ : v' = v ∧ true = b := by
      have := plc_there HR.out hv'
      rcases HP.out with ⟨h1, _, _⟩ | ⟨h1, h2⟩
      · rw [this] at h1; cases h1
      · rw [this] at h1; exact ⟨Option.some.inj h1, h2.symm⟩
    have hiN : i < N := by have := (List.getElem?_eq_some_iff.1 hv').1; have := HN.out; omega
    have hiI : (i : Int) < (N : Int) := by omega
    have d0 := HC.out w1 HB.out
    obtain ⟨b, off, rfl, e0⟩ := HX.out w1 HB.out i k v' hv'
    clear hv'
    go_wp2_with fail
    go_ret2
    exact ⟨rfl, HB.out⟩
  | false =>
    obtain ⟨rfl, rfl⟩ : v = 0 ∧ b = false := by
      have := plc_none HR.out HPc.out.1 (HPc.out.2.2 rfl)
      rcases HP.out with ⟨h1, h2, h3⟩ | ⟨h1, h2⟩
      · exact ⟨h2, h3⟩
      · rw [this] at h1; cases h1
    go_wp2_with fail
    go_ret2
    exact ⟨rfl, HB.out⟩

theorem valsOf_set {K : List Kv} {i : Nat} {k : ByteArray} {v v0 : Int} (hi : K[i]? = some (k, v0)) : keysOf (K.set i (k, v)) = keysOf K ∧ icells (valsOf (K.set i (k, v))) = (icells (valsOf K)).set i (.int .i64 v) := by
  constructor
  · unfold keysOf
    rw [List.map_set]
    apply List.ext_getElem?
    intro j
    by_cases ej : i = j
    · subst ej
      rw [List.getElem?_set_self (by rw [List.length_map]; exact (List.getElem?_eq_some_iff.1 hi).1), List.getElem?_map, hi]
      rfl
    · rw [List.getElem?_set_ne ej]
  · unfold icells valsOf
    rw [List.map_set, List.map_set]

/-- another value in its place -/
theorem UI.setAt {i : Nat} {v v0 : Int} (h : UI r K w F) (hi : K[i]? = some (k, v0)) : ∃ g cV, (∀ u, Below w.heap.size w u → u.cell? ⟨r, 1, none⟩ = some (.slice (some ⟨g, 0, none⟩) K.length cV) ∧ u.cell? ⟨g, i, none⟩ = some (.int .i64 v0) ∧ u.frozen? ⟨g, i, none⟩ = false ∧ Goes (UI r (insK k v K)) w (u.setCell ⟨g, i, none⟩ (.int .i64 v)) F) ∧ K.length ≤ cV ∧ cV ≤ maxLen := by
  obtain ⟨vk, vv, h1, h2⟩ := h
  have hil := (List.getElem?_eq_some_iff.1 hi).1
  rcases h1.rv.2 with ⟨_, h0⟩ | ⟨g, cap, cur, rfl, _, hg, hnc, hcm, hs, ht⟩
  · omega
  · refine ⟨g, cap, fun u hu => ?_, hnc, hcm⟩
    have ug := (hu.block g (lt_of hg)).trans hg
    have ur := (hu.block r (lt_of h1.st)).trans h1.st
    have hgr : g ≠ r := h1.nv g rfl
    refine ⟨by rw [cell_of ur]; rfl, ?_, frozen_of ug _, ?_⟩
    · rw [cell_of ug, ← Array.getElem?_toList]
      have : (icells (valsOf K))[i]? = some (.int .i64 v0) := by simp [icells, valsOf, hi]
      rw [← ht, List.getElem?_take_of_lt (by omega)] at this
      exact this
    · have hset := insK_there (v := v) h1.rise hi
      obtain ⟨e1, e2⟩ := valsOf_set (v := v) hi
      have hl : (K.set i (k, v)).length = K.length := List.length_set ..
      rw [hset]
      refine ⟨F, ⟨vk, .slice (some ⟨g, 0, none⟩) K.length cap, ⟨?_, ?_, ?_, h1.nk, h1.nv, ?_, by rw [hl]; exact h1.few⟩, h2⟩, ?_, fun i hi => Or.inl hi⟩
      · rw [Below.heap_setCell u ⟨g, i, none⟩ _ r (fun e => hgr e.symm)]
        exact ur
      · rw [hl, e1]
        exact ownsRow_block h1.rk (fun b hb => by
          rw [Below.heap_setCell u ⟨g, i, none⟩ _ b (fun e => (h1.nk b hb).2 (by rw [e]; rfl))]
          exact hu.block b (ownsRow_lt h1.rk hb))
      · rw [hl, e2]
        have hlen : (icells (valsOf K)).length = K.length * 1 := h1.rv.1
        refine ⟨by rw [List.length_set]; exact hlen, Or.inr ⟨g, cap, cur.setIfInBounds i (.int .i64 v), rfl, Nat.zero_le _, heap_setCell_same ug i _, hnc, hcm, by rw [Array.size_setIfInBounds]; exact hs, ?_⟩⟩
        rw [Array.toList_setIfInBounds, List.take_set, ht]
      · rw [← hset]
        exact h1.rise.ins
      · exact (Turn.ofBelow F hu).trans (Turn.setCell u ⟨g, i, none⟩ _ ((h2 g).2 (Or.inr (Or.inr rfl))))

def UPutR (r : Nat) (K' : List Kv) (w : World) (F : Nat → Prop) (was : Int) (there : Bool) (e : Int) (x : Ending) (w' : World) : Prop := x = .returned (.tuple #[.int .i64 was, .bool there, .int .i64 e]) ∧ Goes (UI r K') w w' F

set_option maxRecDepth 100000 in
theorem uput_long (h : UI r K w F) (hk : 4096 < k.size) (v : Int) : Calls Try.prog 25 #[.pointer (some ⟨r, 0, none⟩), .string k, .int .i64 v] w (UPutR r K w F 0 false 2) := by
  have HI : Hid (UI r K w F) := h
  have hkI : (4096 : Int) < (k.size : Int) := by omega
  clear h
  go_enter Try.func25, Try.ntmps25
  go_wp2_with fail
  go_ret3
  exact ⟨rfl, Goes.stay HI.out⟩

set_option maxRecDepth 100000 in
set_option maxHeartbeats 1000000 in
theorem uput_there (h : UI r K w F) (hk : k.size ≤ 4096) {v v0 : Int} (hg : getK k K = some v0) : Calls Try.prog 25 #[.pointer (some ⟨r, 0, none⟩), .string k, .int .i64 v] w (UPutR r (insK k v K) w F v0 true 0) := by
  have HPl : Hid (Calls Try.prog 42 #[.pointer (some ⟨r, 0, none⟩), .string k] w fun e w' => ∃ (i : Nat) (b : Bool), e = .returned (.tuple #[.int .i64 (i : Int), .bool b]) ∧ Hid (Plc K k i b) ∧ Hid (∃ n, w' = w.drewN n)) := uplace_any h k
  have HI : Hid (UI r K w F) := h
  have HG : Hid (getK k K = some v0) := hg
  have hkI : ¬ (4096 : Int) < (k.size : Int) := by omega
  clear h hg hk
  go_enter Try.func25, Try.ntmps25
  go_wp2_with fail
  refine HPl.out.mono ?_
  rintro e w1 ⟨i, bb, rfl, HPc, HW⟩
  have HB : Hid (Below w.heap.size w w1) := by
    obtain ⟨n, e⟩ := HW.out
    rw [e]
    exact below_drewN w n
  obtain rfl : bb = true := by
    cases bb with
    | true => rfl
    | false =>
      have := plc_none HI.out.rise HPc.out.1 (HPc.out.2.2 rfl)
      rw [HG.out] at this
      cases this
  obtain ⟨v1, hv1⟩ := HPc.out.2.1 rfl
  obtain rfl : v0 = v1 := by
    have := plc_there HI.out.rise hv1
    rw [HG.out] at this
    exact Option.some.inj this
  obtain ⟨g, cV, hS, hc1, hc2⟩ := HI.out.setAt (v := v) hv1
  obtain ⟨N, hN⟩ : ∃ N, K.length = N := ⟨_, rfl⟩
  rw [hN] at hS hc1
  obtain ⟨t0, t1, t2, t3⟩ := hS w1 HB.out
  have HGo : Hid (Goes (UI r (insK k v K)) w (w1.setCell ⟨g, i, none⟩ (.int .i64 v)) F) := t3
  have hiN : i < N := by have := (List.getElem?_eq_some_iff.1 hv1).1; omega
  have hiI : (i : Int) < (N : Int) := by omega
  unfold maxLen at hc2
  clear HPl HW hS t3 hv1 hN HI HG HPc
  go_wp2_with fail
  go_ret3
  exact ⟨rfl, HGo.out⟩

set_option maxRecDepth 100000 in
set_option maxHeartbeats 1000000 in
theorem uput_full (h : UI r K w F) (hk : k.size ≤ 4096) (hg : getK k K = none) (hl : K.length = 4096) (v : Int) : Calls Try.prog 25 #[.pointer (some ⟨r, 0, none⟩), .string k, .int .i64 v] w (UPutR r K w F 0 false 2) := by
  have HPl : Hid (Calls Try.prog 42 #[.pointer (some ⟨r, 0, none⟩), .string k] w fun e w' => ∃ (i : Nat) (b : Bool), e = .returned (.tuple #[.int .i64 (i : Int), .bool b]) ∧ Hid (Plc K k i b) ∧ Hid (∃ n, w' = w.drewN n)) := uplace_any h k
  have HI : Hid (UI r K w F) := h
  have HG : Hid (getK k K = none) := hg
  have hkI : ¬ (4096 : Int) < (k.size : Int) := by omega
  obtain ⟨aK, cK, aV, cV, x1, x2, y1, y2, hc, hx, -⟩ := h.shape
  rw [hl] at hc x1
  have HC : Hid (∀ u, Below w.heap.size w u → u.cell? ⟨r, 0, none⟩ = some (.slice aK 4096 cK)) := fun u hu => (hc u hu).2.1
  unfold maxLen at x2
  clear h hg hk hc hx hl y1 y2
  go_enter Try.func25, Try.ntmps25
  go_wp2_with fail
  refine HPl.out.mono ?_
  rintro e w1 ⟨i, bb, rfl, HPc, HW⟩
  have HB : Hid (Below w.heap.size w w1) := by
    obtain ⟨n, e⟩ := HW.out
    rw [e]
    exact below_drewN w n
  obtain rfl : bb = false := by
    cases bb with
    | false => rfl
    | true =>
      obtain ⟨v1, hv1⟩ := HPc.out.2.1 rfl
      have := plc_there HI.out.rise hv1
      rw [HG.out] at this
      cases this
  have c0 := HC.out w1 HB.out
  have HGo : Hid (Goes (UI r K) w w1 F) := by
    obtain ⟨n, e⟩ := HW.out
    rw [e]
    exact Goes.drew (ui_res r K) HI.out n
  clear HPl HPc HW HI HG
  go_wp2_with fail
  go_ret3
  exact ⟨rfl, HGo.out⟩
end

end Go.Proofs.Ytoknebbkpkcomaa

/- The document's tree: a new key is put in; a key is taken out. -/
namespace Go.Proofs.Ytoknebbkpkcomaa
open Go.RowKit

section
variable {w : World} {r : Nat} {K : List Kv} {F : Nat → Prop} {k : ByteArray}

theorem take_one {X : List Value} (h : ∀ u ∈ X, u.oneCell' = true) (i : Nat) : ∀ u ∈ X.take i, u.oneCell' = true := fun u hu => h u (List.mem_of_mem_take hu)
theorem drop_one {X : List Value} (h : ∀ u ∈ X, u.oneCell' = true) (i : Nat) : ∀ u ∈ X.drop i, u.oneCell' = true := fun u hu => h u (List.mem_of_mem_drop hu)
theorem str_one (k : ByteArray) : ∀ u ∈ [Value.string k], u.oneCell' = true := fun u hu => by rw [List.mem_singleton.1 hu]; rfl
theorem int_one (v : Int) : ∀ u ∈ [Value.int .i64 v], u.oneCell' = true := fun u hu => by rw [List.mem_singleton.1 hu]; rfl

/-- what a slice operation tells, and what it shows as long as a row is as it was -/
def Part (T : TypeId) (v : Value) (lo hi : Option Value) (w : World) (m : Nat) (ys : List Value) (ad : Option Addr) (c : Nat) : Prop :=
  (∀ W : World, (Instr.slice T v lo hi none).run Try.prog W = .ok (.slice ad m c) W) ∧ (ad = none → c = 0) ∧ ∀ u : World, (∀ g, v.ownBlock = some g → u.heap[g]? = w.heap[g]?) → ys ≠ [] → ∃ b off, ad = some ⟨b, off, none⟩ ∧ ∀ (j : Nat) x, ys[j]? = some x → u.cell? ⟨b, off + j, none⟩ = some x

set_option maxRecDepth 100000 in
set_option maxHeartbeats 4000000 in
theorem uput_new (h : UI r K w F) (hk : k.size ≤ 4096) (hg : getK k K = none) (hl : K.length < 4096) (v : Int) : Calls Try.prog 25 #[.pointer (some ⟨r, 0, none⟩), .string k, .int .i64 v] w (UPutR r (insK k v K) w F 0 false 0) := by
  have HPl : Hid (Calls Try.prog 42 #[.pointer (some ⟨r, 0, none⟩), .string k] w fun e w' => ∃ (i : Nat) (b : Bool), e = .returned (.tuple #[.int .i64 (i : Int), .bool b]) ∧ Hid (Plc K k i b) ∧ Hid (∃ n, w' = w.drewN n)) := uplace_any h k
  have HR : Hid (Rise K) := h.rise
  have HG : Hid (getK k K = none) := hg
  have hkI : ¬ (4096 : Int) < (k.size : Int) := by omega
  obtain ⟨aK, cK, aV, cV, x1, x2, y1, y2, hc, hx, hF⟩ := h.shape
  obtain ⟨N, hN⟩ : ∃ N, K.length = N := ⟨_, rfl⟩
  have HN : Hid (K.length = N) := hN
  rw [hN] at hc x1 y1 hl hF
  have HF : Hid (∀ i, F i ↔ uF r (.slice aK N cK) (.slice aV N cV) i) := hF
  have HU : Hid (UG w r (.slice aK N cK) (.slice aV N cV) K) := (hc w (Below.refl _ _)).1
  have HC : Hid (∀ u, Below w.heap.size w u → u.cell? ⟨r, 0, none⟩ = some (.slice aK N cK) ∧ u.cell? ⟨r, 1, none⟩ = some (.slice aV N cV) ∧ u.frozen? ⟨r, 0, none⟩ = false ∧ u.frozen? ⟨r, 1, none⟩ = false) := fun u hu => (hc u hu).2
  obtain ⟨XK, hXK⟩ : ∃ X, scells (keysOf K) = X := ⟨_, rfl⟩
  obtain ⟨XV, hXV⟩ : ∃ X, icells (valsOf K) = X := ⟨_, rfl⟩
  have HXK : Hid (scells (keysOf K) = XK ∧ XK.length = N ∧ ∀ u ∈ XK, u.oneCell' = true) := ⟨hXK, by rw [← hXK, scells_length, keysOf_length, hN], by rw [← hXK]; exact scells_one _⟩
  have HXV : Hid (icells (valsOf K) = XV ∧ XV.length = N ∧ ∀ u ∈ XV, u.oneCell' = true) := ⟨hXV, by rw [← hXV, icells_length, valsOf_length, hN], by rw [← hXV]; exact icells_one _⟩
  have RK : w.ownsRow 0 9 1 (.slice aK N cK) N XK := by have := HU.out.rk; rw [hN, hXK] at this; exact this
  have RV : w.ownsRow 0 3 1 (.slice aV N cV) N XV := by have := HU.out.rv; rw [hN, hXV] at this; exact this
  have HPK : Hid (∀ i, i ≤ N → (∃ ad c, Part 26 (.slice aK N cK) none (some (.int .i64 (i : Int))) w i (XK.take i) ad c) ∧ ∃ ad c, Part 26 (.slice aK N cK) (some (.int .i64 (i : Int))) none w (N - i) (XK.drop i) ad c) := fun i hi => ⟨part_to Try.underlying26 sizeS RK hi, part_from Try.underlying26 sizeS RK hi rfl⟩
  have HPV : Hid (∀ i, i ≤ N → (∃ ad c, Part 27 (.slice aV N cV) none (some (.int .i64 (i : Int))) w i (XV.take i) ad c) ∧ ∃ ad c, Part 27 (.slice aV N cV) (some (.int .i64 (i : Int))) none w (N - i) (XV.drop i) ad c) := fun i hi => ⟨part_to Try.underlying27 sizeI RV hi, part_from Try.underlying27 sizeI RV hi rfl⟩
  have HLt : Hid ((∀ g, (Value.slice aK N cK).ownBlock = some g → g < w.heap.size ∧ g ≠ r) ∧ (∀ g, (Value.slice aV N cV).ownBlock = some g → g < w.heap.size ∧ g ≠ r)) := ⟨fun g hg => ⟨ownsRow_lt RK hg, (HU.out.nk g hg).1⟩, fun g hg => ⟨ownsRow_lt RV hg, HU.out.nv g hg⟩⟩
  unfold maxLen at x2 y2
  clear h hg hk hc hx hN hXK hXV RK RV hF
  go_enter Try.func25, Try.ntmps25
  go_wp2_with fail
  refine HPl.out.mono ?_
  rintro e w1 ⟨i, bb, rfl, HPc, HW⟩
  have HB : Hid (Below w.heap.size w w1) := by
    obtain ⟨n, e⟩ := HW.out
    rw [e]
    exact below_drewN w n
  obtain rfl : bb = false := by
    cases bb with
    | false => rfl
    | true =>
      obtain ⟨v1, hv1⟩ := HPc.out.2.1 rfl
      have := plc_there HR.out hv1
      rw [HG.out] at this
      cases this
  have hiN : i ≤ N := by have := HPc.out.1.le; have := HN.out; omega
  obtain ⟨K', hK'⟩ : ∃ K', insK k v K = K' := ⟨_, rfl⟩
  have hins := insK_new (v := v) HR.out HPc.out.1 (HPc.out.2.2 rfl)
  have HK' : Hid (insK k v K = K' ∧ Rise K' ∧ K'.length = N + 1) := by
    refine ⟨hK', hK' ▸ HR.out.ins, ?_⟩
    rw [← hK', length_ins_new HR.out HG.out, HN.out]
  have HKK : Hid (scells (keysOf K') = (([] ++ XK.take i) ++ [.string k]) ++ XK.drop i) := by
    show _ = _
    rw [← hK', hins, keys_ins HPc.out.1.le, HXK.out.1]
  have HKV : Hid (icells (valsOf K') = (([] ++ XV.take i) ++ [.int .i64 v]) ++ XV.drop i) := by
    show _ = _
    rw [← hK', hins, vals_ins HPc.out.1.le, HXV.out.1]
  rw [hK']
  obtain ⟨d, hd⟩ : ∃ d, N - i = d := ⟨_, rfl⟩
  obtain ⟨⟨p1, q1, P1⟩, ⟨p2, q2, P2⟩⟩ := HPK.out i hiN
  obtain ⟨⟨p3, q3, P3⟩, ⟨p4, q4, P4⟩⟩ := HPV.out i hiN
  rw [hd] at P2 P4
  have HP1 : Hid (Part 26 (.slice aK N cK) none (some (.int .i64 (i : Int))) w i (XK.take i) p1 q1) := P1
  have HP2 : Hid (Part 26 (.slice aK N cK) (some (.int .i64 (i : Int))) none w d (XK.drop i) p2 q2) := P2
  have HP3 : Hid (Part 27 (.slice aV N cV) none (some (.int .i64 (i : Int))) w i (XV.take i) p3 q3) := P3
  have HP4 : Hid (Part 27 (.slice aV N cV) (some (.int .i64 (i : Int))) none w d (XV.drop i) p4 q4) := P4
  have s1 := P1.1
  have s2 := P2.1
  have s3 := P3.1
  have s4 := P4.1
  have HBK : Hid (∀ u, Below w.heap.size w u → ∀ g, (Value.slice aK N cK).ownBlock = some g → u.heap[g]? = w.heap[g]?) := fun u hu g hg => hu.block g (HLt.out.1 g hg).1
  have HBV : Hid (∀ u, Below w.heap.size w u → ∀ g, (Value.slice aV N cV).ownBlock = some g → u.heap[g]? = w.heap[g]?) := fun u hu g hg => hu.block g (HLt.out.2 g hg).1
  have HT0 : Hid (Two2 w w1 (.slice none 0 0) (.slice none 0 0) [] []) := Two2.nil HB.out
  have hlK : Hid ((XK.take i).length = i ∧ (XK.drop i).length = d ∧ (XV.take i).length = i ∧ (XV.drop i).length = d) := by
    refine ⟨?_, ?_, ?_, ?_⟩ <;> simp [HXK.out.2.1, HXV.out.2.1] <;> omega
  have hN1 : i + 1 + d = N + 1 := by omega
  have HLe : Hid ((([] ++ XK.take i) ++ [Value.string k]).length + d = N + 1 ∧ (([] ++ XV.take i) ++ [Value.int .i64 v]).length + d = N + 1 ∧ N + 1 = ((([] ++ XK.take i) ++ [Value.string k]) ++ XK.drop i).length ∧ N + 1 = ((([] ++ XV.take i) ++ [Value.int .i64 v]) ++ XV.drop i).length) := by
    obtain ⟨l1, l2, l3, l4⟩ := hlK.out
    refine ⟨?_, ?_, ?_, ?_⟩ <;> simp only [List.nil_append, List.length_append, List.length_singleton, l1, l2, l3, l4] <;> omega
  obtain ⟨c0, c1, f0, f1⟩ := HC.out w1 HB.out
  clear hK' hins P1 P2 P3 P4 HPK HPV HPl HW hd HG HPc
  go_wp2_with (first
    | (refine wpList_app1 Try.underlying26 infoStr rfl (by decide) rfl _ _ rfl (take_one HXK.out.2.2 i) rfl HT0.out.rk rfl hlK.out.1 HP1.out.2.1 (HP1.out.2.2 _ (HBK.out _ HT0.out.bel)) (Nat.zero_add i) (by omega) HT0.out.bel.size ?_
       intro A1 e1 u1 k1 k2 k3
       have HT1 : Hid (Two2 w u1 (.slice A1 i e1) (.slice none 0 0) ([] ++ XK.take i) []) := HT0.out.key (by simp [hlK.out.1]) k1 k2 k3
       obtain ⟨c0, c1, f0, f1⟩ := HC.out u1 HT1.out.bel
       clear k1 k2 k3 HT0)
    | (refine wpList_app1 Try.underlying27 infoInt rfl (by decide) rfl _ _ rfl (take_one HXV.out.2.2 i) rfl HT1.out.rv rfl hlK.out.2.2.1 HP3.out.2.1 (HP3.out.2.2 _ (HBV.out _ HT1.out.bel)) (Nat.zero_add i) (by omega) HT1.out.bel.size ?_
       intro A2 e2 u2 k1 k2 k3
       have HT2 : Hid (Two2 w u2 (.slice A1 i e1) (.slice A2 i e2) ([] ++ XK.take i) ([] ++ XV.take i)) := HT1.out.val (by simp [hlK.out.2.2.1]) k1 k2 k3
       obtain ⟨c0, c1, f0, f1⟩ := HC.out u2 HT2.out.bel
       have HTa : Hid (Two2 w (u2.alloc (.cells #[.string k] 9 (0, 0))) (.slice A1 i e1) (.slice A2 i e2) ([] ++ XK.take i) ([] ++ XV.take i)) := HT2.out.stay (below_al u2 _)
       clear k1 k2 k3 HT1 HT2)
    | (refine wpList_app1 Try.underlying26 infoStr rfl (by decide) rfl _ _ rfl (str_one k) rfl HTa.out.rk rfl rfl (fun h => by cases h) one_new (by rw [List.nil_append, hlK.out.1]) (by omega) HTa.out.bel.size ?_
       intro A3 e3 u3 k1 k2 k3
       have HT3 : Hid (Two2 w u3 (.slice A3 (i + 1) e3) (.slice A2 i e2) (([] ++ XK.take i) ++ [.string k]) ([] ++ XV.take i)) := HTa.out.key (by simp [hlK.out.1]) k1 k2 k3
       obtain ⟨c0, c1, f0, f1⟩ := HC.out u3 HT3.out.bel
       have HTb : Hid (Two2 w (u3.alloc (.cells #[.int .i64 v] 3 (0, 0))) (.slice A3 (i + 1) e3) (.slice A2 i e2) (([] ++ XK.take i) ++ [.string k]) ([] ++ XV.take i)) := HT3.out.stay (below_al u3 _)
       clear k1 k2 k3 HTa HT3)
    | (refine wpList_app1 Try.underlying27 infoInt rfl (by decide) rfl _ _ rfl (int_one v) rfl HTb.out.rv rfl rfl (fun h => by cases h) one_new (by rw [List.nil_append, hlK.out.2.2.1]) (by omega) HTb.out.bel.size ?_
       intro A4 e4 u4 k1 k2 k3
       have HT4 : Hid (Two2 w u4 (.slice A3 (i + 1) e3) (.slice A4 (i + 1) e4) (([] ++ XK.take i) ++ [.string k]) (([] ++ XV.take i) ++ [.int .i64 v])) := HTb.out.val (by simp [hlK.out.2.2.1]) k1 k2 k3
       obtain ⟨c0, c1, f0, f1⟩ := HC.out u4 HT4.out.bel
       clear k1 k2 k3 HTb)
    | (refine wpList_app1 Try.underlying26 infoStr rfl (by decide) rfl _ _ rfl (drop_one HXK.out.2.2 i) rfl HT4.out.rk rfl hlK.out.2.1 HP2.out.2.1 (HP2.out.2.2 _ (HBK.out _ HT4.out.bel)) (HLe.out.1) (by omega) HT4.out.bel.size ?_
       intro A5 e5 u5 k1 k2 k3
       have HH : Hid (UHalf w (u5.setCell ⟨r, 0, none⟩ (.slice A5 (N + 1) e5)) r (.slice aV N cV) (.slice A5 (N + 1) e5) (.slice A4 (i + 1) e4) (([] ++ XV.take i) ++ [.int .i64 v]) K') := Two2.half HU.out HT4.out (by rw [HKK.out, HK'.out.2.2]; exact k1) k2 k3
       have HT5 : Hid (Below w.heap.size w u5) := (HT4.out.key (HLe.out.2.2.1) k1 k2 k3).bel
       obtain ⟨c0, c1, f0, f1⟩ := HC.out u5 HT5.out
       have c2 : (u5.setCell ⟨r, 0, none⟩ (.slice A5 (N + 1) e5)).cell? ⟨r, 1, none⟩ = some (.slice aV N cV) := (by rw [cell_of HH.out.st]; rfl)
       clear k1 k2 k3 HT4)
    | (refine wpList_app1 Try.underlying27 infoInt rfl (by decide) rfl _ _ rfl (drop_one HXV.out.2.2 i) rfl HH.out.rv rfl hlK.out.2.2.2 HP4.out.2.1 (HP4.out.2.2 _ (fun g hg => HH.out.old g (HLt.out.2 g hg).1 (HLt.out.2 g hg).2)) (HLe.out.2.1) (by omega) HH.out.size ?_
       intro A6 e6 u6 k1 k2 k3
       have HGo : Hid (Goes (UI r K') w (u6.setCell ⟨r, 1, none⟩ (.slice A6 (N + 1) e6)) F) := HH.out.done HF.out (lt_of HU.out.st) (by rw [HKV.out, HK'.out.2.2]; exact k1) k2 k3 HK'.out.2.1 (by rw [HK'.out.2.2]; omega)
       obtain ⟨c3, f3⟩ := HH.out.cell (lt_of HU.out.st) k2
       clear k1 k2 k3 HH))
  go_ret3
  exact ⟨rfl, by rw [HK'.out.1]; exact HGo.out⟩

def UTakeR (r : Nat) (K' : List Kv) (w : World) (F : Nat → Prop) (was : Int) (e : Int) (x : Ending) (w' : World) : Prop := x = .returned (.tuple #[.int .i64 was, .int .i64 e]) ∧ Goes (UI r K') w w' F

set_option maxRecDepth 100000 in
set_option maxHeartbeats 1000000 in
theorem utake_none (h : UI r K w F) (hg : getK k K = none) : Calls Try.prog 27 #[.pointer (some ⟨r, 0, none⟩), .string k] w (UTakeR r K w F 0 5) := by
  have HPl : Hid (Calls Try.prog 42 #[.pointer (some ⟨r, 0, none⟩), .string k] w fun e w' => ∃ (i : Nat) (b : Bool), e = .returned (.tuple #[.int .i64 (i : Int), .bool b]) ∧ Hid (Plc K k i b) ∧ Hid (∃ n, w' = w.drewN n)) := uplace_any h k
  have HI : Hid (UI r K w F) := h
  have HG : Hid (getK k K = none) := hg
  clear h hg
  go_enter Try.func27, Try.ntmps27
  go_wp2_with fail
  refine HPl.out.mono ?_
  rintro e w1 ⟨i, bb, rfl, HPc, HW⟩
  obtain rfl : bb = false := by
    cases bb with
    | false => rfl
    | true =>
      obtain ⟨v1, hv1⟩ := HPc.out.2.1 rfl
      have := plc_there HI.out.rise hv1
      rw [HG.out] at this
      cases this
  have HGo : Hid (Goes (UI r K) w w1 F) := by
    obtain ⟨n, e⟩ := HW.out
    rw [e]
    exact Goes.drew (ui_res r K) HI.out n
  clear HPl HPc HW HI HG
  go_wp2_with fail
  go_ret2
  exact ⟨rfl, HGo.out⟩

set_option maxRecDepth 100000 in
set_option maxHeartbeats 4000000 in
theorem utake_some (h : UI r K w F) {v0 : Int} (hg : getK k K = some v0) : Calls Try.prog 27 #[.pointer (some ⟨r, 0, none⟩), .string k] w (UTakeR r (delK k K) w F v0 0) := by
  have HPl : Hid (Calls Try.prog 42 #[.pointer (some ⟨r, 0, none⟩), .string k] w fun e w' => ∃ (i : Nat) (b : Bool), e = .returned (.tuple #[.int .i64 (i : Int), .bool b]) ∧ Hid (Plc K k i b) ∧ Hid (∃ n, w' = w.drewN n)) := uplace_any h k
  have HR : Hid (Rise K) := h.rise
  have HG : Hid (getK k K = some v0) := hg
  have hl := h.few
  obtain ⟨aK, cK, aV, cV, x1, x2, y1, y2, hc, hx, hF⟩ := h.shape
  obtain ⟨N, hN⟩ : ∃ N, K.length = N := ⟨_, rfl⟩
  have HN : Hid (K.length = N) := hN
  rw [hN] at hc x1 y1 hl hF
  have HF : Hid (∀ i, F i ↔ uF r (.slice aK N cK) (.slice aV N cV) i) := hF
  have HU : Hid (UG w r (.slice aK N cK) (.slice aV N cV) K) := (hc w (Below.refl _ _)).1
  have HX : Hid (∀ u, Below w.heap.size w u → ∀ (i : Nat) k v, K[i]? = some (k, v) → ∃ b off, aV = some ⟨b, off, none⟩ ∧ u.cell? ⟨b, off + i, none⟩ = some (.int .i64 v)) := fun u hu i k v hi => by
    obtain ⟨_, _, b, off, _, e, _, c⟩ := hx u hu i k v hi
    exact ⟨b, off, e, c⟩
  have HC : Hid (∀ u, Below w.heap.size w u → u.cell? ⟨r, 0, none⟩ = some (.slice aK N cK) ∧ u.cell? ⟨r, 1, none⟩ = some (.slice aV N cV) ∧ u.frozen? ⟨r, 0, none⟩ = false ∧ u.frozen? ⟨r, 1, none⟩ = false) := fun u hu => (hc u hu).2
  obtain ⟨XK, hXK⟩ : ∃ X, scells (keysOf K) = X := ⟨_, rfl⟩
  obtain ⟨XV, hXV⟩ : ∃ X, icells (valsOf K) = X := ⟨_, rfl⟩
  have HXK : Hid (scells (keysOf K) = XK ∧ XK.length = N ∧ ∀ u ∈ XK, u.oneCell' = true) := ⟨hXK, by rw [← hXK, scells_length, keysOf_length, hN], by rw [← hXK]; exact scells_one _⟩
  have HXV : Hid (icells (valsOf K) = XV ∧ XV.length = N ∧ ∀ u ∈ XV, u.oneCell' = true) := ⟨hXV, by rw [← hXV, icells_length, valsOf_length, hN], by rw [← hXV]; exact icells_one _⟩
  have RK : w.ownsRow 0 9 1 (.slice aK N cK) N XK := by have := HU.out.rk; rw [hN, hXK] at this; exact this
  have RV : w.ownsRow 0 3 1 (.slice aV N cV) N XV := by have := HU.out.rv; rw [hN, hXV] at this; exact this
  have HPK : Hid (∀ i, i ≤ N → (∃ ad c, Part 26 (.slice aK N cK) none (some (.int .i64 (i : Int))) w i (XK.take i) ad c) ∧ ∃ ad c, Part 26 (.slice aK N cK) (some (.int .i64 (i : Int))) none w (N - i) (XK.drop i) ad c) := fun i hi => ⟨part_to Try.underlying26 sizeS RK hi, part_from Try.underlying26 sizeS RK hi rfl⟩
  have HPV : Hid (∀ i, i ≤ N → (∃ ad c, Part 27 (.slice aV N cV) none (some (.int .i64 (i : Int))) w i (XV.take i) ad c) ∧ ∃ ad c, Part 27 (.slice aV N cV) (some (.int .i64 (i : Int))) none w (N - i) (XV.drop i) ad c) := fun i hi => ⟨part_to Try.underlying27 sizeI RV hi, part_from Try.underlying27 sizeI RV hi rfl⟩
  have HLt : Hid ((∀ g, (Value.slice aK N cK).ownBlock = some g → g < w.heap.size ∧ g ≠ r) ∧ (∀ g, (Value.slice aV N cV).ownBlock = some g → g < w.heap.size ∧ g ≠ r)) := ⟨fun g hg => ⟨ownsRow_lt RK hg, (HU.out.nk g hg).1⟩, fun g hg => ⟨ownsRow_lt RV hg, HU.out.nv g hg⟩⟩
  unfold maxLen at x2 y2
  clear h hg hc hN hXK hXV RK RV hF hx
  go_enter Try.func27, Try.ntmps27
  go_wp2_with fail
  refine HPl.out.mono ?_
  rintro e w1 ⟨i, bb, rfl, HPc, HW⟩
  have HB : Hid (Below w.heap.size w w1) := by
    obtain ⟨n, e⟩ := HW.out
    rw [e]
    exact below_drewN w n
  obtain rfl : bb = true := by
    cases bb with
    | true => rfl
    | false =>
      have := plc_none HR.out HPc.out.1 (HPc.out.2.2 rfl)
      rw [HG.out] at this
      cases this
  obtain ⟨v1, hv1⟩ := HPc.out.2.1 rfl
  obtain rfl : v0 = v1 := by
    have := plc_there HR.out hv1
    rw [HG.out] at this
    exact Option.some.inj this
  have hiN : i + 1 ≤ N := by have := (List.getElem?_eq_some_iff.1 hv1).1; have := HN.out; omega
  have hiI : (i : Int) < (N : Int) := by omega
  obtain ⟨K', hK'⟩ : ∃ K', delK k K = K' := ⟨_, rfl⟩
  have hins := delK_at HR.out hv1
  have HK' : Hid (delK k K = K' ∧ Rise K' ∧ K'.length + 1 = N) := by
    refine ⟨hK', hK' ▸ HR.out.del, ?_⟩
    rw [← hK', length_del HR.out HG.out, HN.out]
  have HKK : Hid (scells (keysOf K') = ([] ++ XK.take i) ++ XK.drop (i + 1)) := by
    show _ = _
    rw [← hK', hins, keys_del, HXK.out.1]
  have HKV : Hid (icells (valsOf K') = ([] ++ XV.take i) ++ XV.drop (i + 1)) := by
    show _ = _
    rw [← hK', hins, vals_del, HXV.out.1]
  rw [hK']
  obtain ⟨d, hd⟩ : ∃ d, N - (i + 1) = d := ⟨_, rfl⟩
  obtain ⟨⟨p1, q1, P1⟩, -⟩ := HPK.out i (by omega)
  obtain ⟨-, ⟨p2, q2, P2⟩⟩ := HPK.out (i + 1) hiN
  obtain ⟨⟨p3, q3, P3⟩, -⟩ := HPV.out i (by omega)
  obtain ⟨-, ⟨p4, q4, P4⟩⟩ := HPV.out (i + 1) hiN
  have hi1 : ((i + 1 : Nat) : Int) = (i : Int) + 1 := by omega
  rw [hd, hi1] at P2 P4
  have HP1 : Hid (Part 26 (.slice aK N cK) none (some (.int .i64 (i : Int))) w i (XK.take i) p1 q1) := P1
  have HP2 : Hid (Part 26 (.slice aK N cK) (some (.int .i64 ((i : Int) + 1))) none w d (XK.drop (i + 1)) p2 q2) := P2
  have HP3 : Hid (Part 27 (.slice aV N cV) none (some (.int .i64 (i : Int))) w i (XV.take i) p3 q3) := P3
  have HP4 : Hid (Part 27 (.slice aV N cV) (some (.int .i64 ((i : Int) + 1))) none w d (XV.drop (i + 1)) p4 q4) := P4
  have s1 := P1.1
  have s2 := P2.1
  have s3 := P3.1
  have s4 := P4.1
  have HBK : Hid (∀ u, Below w.heap.size w u → ∀ g, (Value.slice aK N cK).ownBlock = some g → u.heap[g]? = w.heap[g]?) := fun u hu g hg => hu.block g (HLt.out.1 g hg).1
  have HBV : Hid (∀ u, Below w.heap.size w u → ∀ g, (Value.slice aV N cV).ownBlock = some g → u.heap[g]? = w.heap[g]?) := fun u hu g hg => hu.block g (HLt.out.2 g hg).1
  have HT0 : Hid (Two2 w w1 (.slice none 0 0) (.slice none 0 0) [] []) := Two2.nil HB.out
  have hlK : Hid ((XK.take i).length = i ∧ (XK.drop (i + 1)).length = d ∧ (XV.take i).length = i ∧ (XV.drop (i + 1)).length = d) := by
    refine ⟨?_, ?_, ?_, ?_⟩ <;> simp [HXK.out.2.1, HXV.out.2.1] <;> omega
  have hN1 : i + d + 1 = N := by omega
  obtain ⟨M, hM⟩ : ∃ M, i + d = M := ⟨_, rfl⟩
  have hMN : M + 1 = N := by omega
  obtain ⟨vb, vo, rfl, g0⟩ := HX.out w1 HB.out i k v0 hv1
  have HLe : Hid (([] ++ XK.take i).length + d = M ∧ ([] ++ XV.take i).length + d = M ∧ M = (([] ++ XK.take i) ++ XK.drop (i + 1)).length ∧ M = (([] ++ XV.take i) ++ XV.drop (i + 1)).length ∧ K'.length = M) := by
    obtain ⟨l1, l2, l3, l4⟩ := hlK.out
    have := HK'.out.2.2
    refine ⟨?_, ?_, ?_, ?_, ?_⟩ <;> (try simp only [List.nil_append, List.length_append, l1, l2, l3, l4]) <;> omega
  obtain ⟨c0, c1, f0, f1⟩ := HC.out w1 HB.out
  clear hK' hins P1 P2 P3 P4 HPK HPV HPl HW hd HG HPc hv1 hM hi1 HX
  go_wp2_with (first
    | (refine wpList_app1 Try.underlying26 infoStr rfl (by decide) rfl _ _ rfl (take_one HXK.out.2.2 i) rfl HT0.out.rk rfl hlK.out.1 HP1.out.2.1 (HP1.out.2.2 _ (HBK.out _ HT0.out.bel)) (Nat.zero_add i) (by omega) HT0.out.bel.size ?_
       intro A1 e1 u1 k1 k2 k3
       have HT1 : Hid (Two2 w u1 (.slice A1 i e1) (.slice none 0 0) ([] ++ XK.take i) []) := HT0.out.key (by simp [hlK.out.1]) k1 k2 k3
       obtain ⟨c0, c1, f0, f1⟩ := HC.out u1 HT1.out.bel
       clear k1 k2 k3 HT0)
    | (refine wpList_app1 Try.underlying27 infoInt rfl (by decide) rfl _ _ rfl (take_one HXV.out.2.2 i) rfl HT1.out.rv rfl hlK.out.2.2.1 HP3.out.2.1 (HP3.out.2.2 _ (HBV.out _ HT1.out.bel)) (Nat.zero_add i) (by omega) HT1.out.bel.size ?_
       intro A2 e2 u2 k1 k2 k3
       have HT2 : Hid (Two2 w u2 (.slice A1 i e1) (.slice A2 i e2) ([] ++ XK.take i) ([] ++ XV.take i)) := HT1.out.val (by simp [hlK.out.2.2.1]) k1 k2 k3
       obtain ⟨c0, c1, f0, f1⟩ := HC.out u2 HT2.out.bel
       clear k1 k2 k3 HT1)
    | (refine wpList_app1 Try.underlying26 infoStr rfl (by decide) rfl _ _ rfl (drop_one HXK.out.2.2 (i + 1)) rfl HT2.out.rk rfl hlK.out.2.1 HP2.out.2.1 (HP2.out.2.2 _ (HBK.out _ HT2.out.bel)) (HLe.out.1) (by omega) HT2.out.bel.size ?_
       intro A5 e5 u5 k1 k2 k3
       have HH : Hid (UHalf w (u5.setCell ⟨r, 0, none⟩ (.slice A5 M e5)) r (.slice (some ⟨vb, vo, none⟩) N cV) (.slice A5 M e5) (.slice A2 i e2) ([] ++ XV.take i) K') := Two2.half HU.out HT2.out (by rw [HKK.out, HLe.out.2.2.2.2]; exact k1) k2 k3
       have HT5 : Hid (Below w.heap.size w u5) := (HT2.out.key (HLe.out.2.2.1) k1 k2 k3).bel
       obtain ⟨c0, c1, f0, f1⟩ := HC.out u5 HT5.out
       have c2 : (u5.setCell ⟨r, 0, none⟩ (.slice A5 M e5)).cell? ⟨r, 1, none⟩ = some (.slice (some ⟨vb, vo, none⟩) N cV) := (by rw [cell_of HH.out.st]; rfl)
       clear k1 k2 k3 HT2)
    | (refine wpList_app1 Try.underlying27 infoInt rfl (by decide) rfl _ _ rfl (drop_one HXV.out.2.2 (i + 1)) rfl HH.out.rv rfl hlK.out.2.2.2 HP4.out.2.1 (HP4.out.2.2 _ (fun g hg => HH.out.old g (HLt.out.2 g hg).1 (HLt.out.2 g hg).2)) (HLe.out.2.1) (by omega) HH.out.size ?_
       intro A6 e6 u6 k1 k2 k3
       have HGo : Hid (Goes (UI r K') w (u6.setCell ⟨r, 1, none⟩ (.slice A6 M e6)) F) := HH.out.done HF.out (lt_of HU.out.st) (by rw [HKV.out, HLe.out.2.2.2.2]; exact k1) k2 k3 HK'.out.2.1 (by rw [HLe.out.2.2.2.2]; omega)
       obtain ⟨c3, f3⟩ := HH.out.cell (lt_of HU.out.st) k2
       clear k1 k2 k3 HH))
  go_ret2
  exact ⟨rfl, by rw [HK'.out.1]; exact HGo.out⟩

theorem uput_to {v was e : Int} {there : Bool} {K' : List Kv} (hp : PutK K k v K' was there e) (h : UI r K w F) : Calls Try.prog 25 #[.pointer (some ⟨r, 0, none⟩), .string k, .int .i64 v] w (UPutR r K' w F was there e) := by
  rcases hp with ⟨h1, rfl, rfl, rfl, rfl⟩ | ⟨h1, h2, rfl, rfl, rfl⟩ | ⟨h1, h2, h3, rfl, rfl, rfl, rfl⟩ | ⟨h1, h2, h3, rfl, rfl, rfl, rfl⟩
  · exact uput_long h h1 v
  · exact uput_there h h1 h2
  · exact uput_full h h1 h2 h3 v
  · exact uput_new h h1 h2 h3 v
theorem utake_to {was e : Int} {K' : List Kv} (hp : TakeK K k K' was e) (h : UI r K w F) : Calls Try.prog 27 #[.pointer (some ⟨r, 0, none⟩), .string k] w (UTakeR r K' w F was e) := by
  rcases hp with ⟨h1, rfl, rfl, rfl⟩ | ⟨h1, rfl, rfl⟩
  · exact utake_none h h1
  · exact utake_some h h1
end

end Go.Proofs.Ytoknebbkpkcomaa

/- The document's tree: Scan. -/
namespace Go.Proofs.Ytoknebbkpkcomaa
open Go.RowKit

def aheadB (to : ByteArray) (p : Kv) : Bool := decide (to = ⟨#[]⟩) || bl p.1 to

theorem filter_while {c : Kv → Bool} : ∀ {Z : List Kv}, Z.Pairwise (fun p q => c q = true → c p = true) → Z.filter c = Z.takeWhile c
  | [], _ => rfl
  | p :: r, h => by
    obtain ⟨h1, h2⟩ := List.pairwise_cons.1 h
    cases hp : c p with
    | true => rw [List.filter_cons_of_pos hp, List.takeWhile_cons_of_pos hp, filter_while h2]
    | false =>
      rw [List.filter_cons_of_neg (by rw [hp]; simp), List.takeWhile_cons_of_neg (by rw [hp]; simp), List.filter_eq_nil_iff]
      intro q hq hcq
      rw [h1 q hq hcq] at hp
      cases hp

theorem scan_at {K : List Kv} {f to : ByteArray} {i : Nat} (h : Rise K) (ha : At f K i) : scanK f to K = (K.drop i).takeWhile (aheadB to) := by
  have e1 : scanK f to K = (K.drop i).filter (aheadB to) := by
    have hs : K = K.take i ++ K.drop i := (List.take_append_drop i K).symm
    unfold scanK
    conv => lhs; rw [hs]
    rw [List.filter_append]
    have n1 : (K.take i).filter (inK f to) = [] := by
      rw [List.filter_eq_nil_iff]
      intro p hp
      obtain ⟨j, hj⟩ := List.getElem?_of_mem hp
      have hji : j < i := by have := (List.getElem?_eq_some_iff.1 hj).1; rw [List.length_take] at this; omega
      rw [List.getElem?_take_of_lt hji] at hj
      unfold inK
      rw [ha.ahead j p hji hj]
      simp
    rw [n1, List.nil_append]
    refine List.filter_congr fun p hp => ?_
    obtain ⟨j, hj⟩ := List.getElem?_of_mem hp
    rw [List.getElem?_drop] at hj
    have hb : bl p.1 f = false := by
      have hi : i < K.length := by have := (List.getElem?_eq_some_iff.1 hj).1; omega
      have h0 := ha.here _ (List.getElem?_eq_getElem hi)
      rcases Nat.eq_zero_or_pos j with e | e
      · subst e
        rw [Nat.add_zero, List.getElem?_eq_getElem hi] at hj
        cases hj
        exact h0
      · have h1 := rise_lt h (show i < i + j by omega) (List.getElem?_eq_getElem hi) hj
        cases hc : bl p.1 f with
        | false => rfl
        | true =>
          have := bl_tr h1 hc
          rw [h0] at this
          cases this
    unfold inK aheadB
    rw [hb]
    rfl
  rw [e1]
  refine filter_while ((h.drop (i := i)).imp fun hpq hq => ?_)
  unfold aheadB at hq ⊢
  rcases Bool.or_eq_true _ _ |>.mp hq with e | e
  · rw [e]; rfl
  · rw [bl_tr hpq e, Bool.or_true]

/-- the first ones that stand ahead, up to an end -/
theorem while_take {c : Kv → Bool} : ∀ {Z : List Kv} {j most : Nat}, (∀ p ∈ Z.take j, c p = true) → j ≤ most → (j = most ∨ Z.length ≤ j ∨ ∃ p, Z[j]? = some p ∧ c p = false) → Z.take j = (Z.takeWhile c).take most
  | [], j, most, _, _, _ => by simp
  | p :: r, 0, most, _, h2, h3 => by
    rcases h3 with h | h | ⟨q, hq, hc⟩
    · subst h; simp
    · simp at h
    · simp at hq
      subst hq
      rw [List.takeWhile_cons_of_neg (by rw [hc]; simp)]
      simp
  | p :: r, j + 1, 0, _, h2, _ => by omega
  | p :: r, j + 1, most + 1, h1, h2, h3 => by
    have hp : c p = true := h1 p (by simp)
    rw [List.takeWhile_cons_of_pos hp, List.take_succ_cons, List.take_succ_cons, while_take (Z := r) (j := j) (most := most) (fun q hq => h1 q (by simp [hq])) (by omega) ?_]
    rcases h3 with h | h | ⟨q, hq, hc⟩
    · exact Or.inl (by omega)
    · exact Or.inr (Or.inl (by simpa using h))
    · exact Or.inr (Or.inr ⟨q, by simpa using hq, hc⟩)

section
variable {w : World} {r : Nat} {K : List Kv} {F : Nat → Prop} {f to : ByteArray}

set_option maxRecDepth 100000 in
theorem uscan_bad {mm : Int} (hm : ¬ (1 ≤ mm ∧ mm ≤ 4096)) (w : World) : Calls Try.prog 28 #[.pointer (some ⟨r, 0, none⟩), .string f, .string to, .int .i64 mm] w fun x w' => x = .returned (.tuple #[.slice none 0 0, .slice none 0 0, .int .i64 1]) ∧ w' = w := by
  by_cases h1 : mm < 1
  · clear hm
    go_enter Try.func28, Try.ntmps28
    go_wp2_with fail
    go_ret3
    exact ⟨rfl, rfl⟩
  · have h2 : 4096 < mm := by omega
    clear hm
    go_enter Try.func28, Try.ntmps28
    go_wp2_with fail
    go_ret3
    exact ⟨rfl, rfl⟩

def UScanR (K : List Kv) (w : World) (f to : ByteArray) (most : Nat) (x : Ending) (w' : World) : Prop := ∃ vk vv, x = .returned (.tuple #[vk, vv, .int .i64 0]) ∧ Two2 w w' vk vv (scells (keysOf ((scanK f to K).take most))) (icells (valsOf ((scanK f to K).take most)))

set_option maxRecDepth 100000 in
set_option maxHeartbeats 4000000 in
theorem uscan_any (h : UI r K w F) {most : Nat} (h1 : 1 ≤ most) (h2 : most ≤ 4096) : Calls Try.prog 28 #[.pointer (some ⟨r, 0, none⟩), .string f, .string to, .int .i64 (most : Int)] w (UScanR K w f to most) := by
  have HPl : Hid (Calls Try.prog 42 #[.pointer (some ⟨r, 0, none⟩), .string f] w fun e w' => ∃ (i : Nat) (b : Bool), e = .returned (.tuple #[.int .i64 (i : Int), .bool b]) ∧ Hid (Plc K f i b) ∧ Hid (∃ n, w' = w.drewN n)) := uplace_any h f
  have HR : Hid (Rise K) := h.rise
  have hfew := h.few
  obtain ⟨aK, cK, aV, cV, x1, x2, y1, y2, hc, hx, -⟩ := h.shape
  obtain ⟨N, hN⟩ : ∃ N, K.length = N := ⟨_, rfl⟩
  have HN : Hid (K.length = N) := hN
  rw [hN] at hc x1 y1 hfew
  have HC : Hid (∀ u, Below w.heap.size w u → u.cell? ⟨r, 0, none⟩ = some (.slice aK N cK) ∧ u.cell? ⟨r, 1, none⟩ = some (.slice aV N cV)) := fun u hu => ⟨(hc u hu).2.1, (hc u hu).2.2.1⟩
  have HX : Hid (∀ u, Below w.heap.size w u → ∀ (i : Nat) k v, K[i]? = some (k, v) → ∃ b off b' off', aK = some ⟨b, off, none⟩ ∧ aV = some ⟨b', off', none⟩ ∧ u.cell? ⟨b, off + i, none⟩ = some (.string k) ∧ u.cell? ⟨b', off' + i, none⟩ = some (.int .i64 v)) := hx
  have n1 : ¬ (most : Int) < 1 := by omega
  have n2 : ¬ (4096 : Int) < (most : Int) := by omega
  unfold maxLen at x2 y2
  clear h hc hx hN
  go_enter Try.func28, Try.ntmps28
  go_wp2_with fail
  refine HPl.out.mono ?_
  rintro e w1 ⟨i0, bb, rfl, HPc, HW⟩
  have HB : Hid (Below w.heap.size w w1) := by
    obtain ⟨n, e⟩ := HW.out
    rw [e]
    exact below_drewN w n
  have HSc : Hid (scanK f to K = (K.drop i0).takeWhile (aheadB to)) := scan_at HR.out HPc.out.1
  have hi0 : i0 ≤ N := by have := HPc.out.1.le; have := HN.out; omega
  have HT0 : Hid (Two2 w w1 (.slice none 0 0) (.slice none 0 0) [] []) := Two2.nil HB.out
  have HZ : Hid (∀ (j : Nat) p, K[i0 + j]? = some p → (K.drop i0)[j]? = some p ∧ (K.drop i0).take (j + 1) = (K.drop i0).take j ++ [p]) := fun j p hp => by
    have : (K.drop i0)[j]? = some p := by rw [List.getElem?_drop]; exact hp
    exact ⟨this, by rw [List.take_add_one, this]; rfl⟩
  have HZl : Hid ((K.drop i0).length = N - i0) := by show _ = _; rw [List.length_drop, HN.out]
  obtain ⟨Z, hZ⟩ : ∃ Z, K.drop i0 = Z := ⟨_, rfl⟩
  rw [hZ] at HSc HZ HZl
  clear HPl HPc HW HB hZ HR
  go_wp2_with fail
  go_loopw [11, 12, 13] (fun s1 s2 iv wr => ∃ (j z : Nat) (A1 A2 : Option Addr) (d1 d2 : Nat), j ≤ most ∧ z ≤ N ∧ z = i0 + j ∧ iv = .int .i64 z ∧ s1 = .slice A1 j d1 ∧ s2 = .slice A2 j d2 ∧ Hid (∀ p ∈ Z.take j, aheadB to p = true) ∧ Hid (Two2 w wr (.slice A1 j d1) (.slice A2 j d2) (scells (keysOf (Z.take j))) (icells (valsOf (Z.take j))))) (fun _ _ iv _ => N - (intOf iv).toNat)
  case atStart => exact ⟨0, i0, none, none, 0, 0, Nat.zero_le _, hi0, rfl, rfl, rfl, rfl, (fun p hp => by simp at hp), HT0⟩
  case round =>
    clear HT0
    obtain ⟨j, z, A1, A2, d1, d2, hj, hz, hzj, rfl, rfl, rfl, HA, HT⟩ := hrel
    obtain ⟨c0, c1⟩ := HC.out wr HT.out.bel
    have HZj : Hid (z = i0 + j) := hzj
    by_cases hzN : z < N
    · have hzI : (z : Int) < (N : Int) := by omega
      by_cases hjm : j < most
      · have hjI : (j : Int) < (most : Int) := by omega
        obtain ⟨⟨k, v⟩, hkv⟩ : ∃ p, K[z]? = some p := ⟨_, List.getElem?_eq_getElem (by rw [HN.out]; exact hzN)⟩
        obtain ⟨b, off, b', off', rfl, rfl, g0, g1⟩ := HX.out wr HT.out.bel z k v hkv
        obtain ⟨q1, q2⟩ := HZ.out j (k, v) (hzj ▸ hkv)
        have HQ : Hid (Z[j]? = some (k, v) ∧ Z.take (j + 1) = Z.take j ++ [(k, v)]) := ⟨q1, q2⟩
        have HTa : Hid (Two2 w (wr.alloc (.cells #[.string k] 9 (0, 0))) (.slice A1 j d1) (.slice A2 j d2) (scells (keysOf (Z.take j))) (icells (valsOf (Z.take j)))) := HT.out.stay (below_al wr _)
        have HLj : Hid ((scells (keysOf (Z.take j))).length = j ∧ (icells (valsOf (Z.take j))).length = j) := by
          have : (Z.take j).length = j := by rw [List.length_take, HZl.out]; omega
          exact ⟨by rw [scells_length, keysOf_length, this], by rw [icells_length, valsOf_length, this]⟩
        have HKj : Hid (scells (keysOf (Z.take (j + 1))) = scells (keysOf (Z.take j)) ++ [.string k] ∧ icells (valsOf (Z.take (j + 1))) = icells (valsOf (Z.take j)) ++ [.int .i64 v]) := by
          rw [q2]
          exact ⟨by simp [scells, keysOf], by simp [icells, valsOf]⟩
        have HX2 : Hid (∀ u, Below w.heap.size w u → u.cell? ⟨r, 1, none⟩ = some (.slice (some ⟨b', off', none⟩) N cV) ∧ u.cell? ⟨b', off' + z, none⟩ = some (.int .i64 v)) := fun u hu => by
          obtain ⟨_, _, _, _, e1, e2, _, g⟩ := HX.out u hu z k v hkv
          cases e1
          cases e2
          exact ⟨(HC.out u hu).2, g⟩
        clear q1 q2 hkv hzj
        cases hc : aheadB to (k, v) with
        | true =>
          have HA' : Hid (∀ p ∈ Z.take (j + 1), aheadB to p = true) := fun p hp => by
            rw [HQ.out.2] at hp
            rcases List.mem_append.1 hp with hp | hp
            · exact HA.out p hp
            · rw [List.mem_singleton.1 hp]; exact hc
          by_cases hte : to = ⟨#[]⟩
          · have ht1 : to.toList = [] := by rw [hte, Go.ByteArray.toList_eq]
            have ht2 : to.toList.isEmpty = true := by rw [ht1]; rfl
            clear hc hte
            go_wp2_with (first
              | (refine wpList_app1 Try.underlying26 infoStr rfl (by decide) rfl _ _ rfl (fun u hu => by rw [List.mem_singleton.1 hu]; rfl) rfl HTa.out.rk rfl rfl (fun h => by cases h) one_new (by rw [HLj.out.1]) (by omega) HTa.out.bel.size ?_
                 intro A3 e3 u3 k1 k2 k3
                 have HT3 : Hid (Two2 w u3 (.slice A3 (j + 1) e3) (.slice A2 j d2) (scells (keysOf (Z.take j)) ++ [.string k]) (icells (valsOf (Z.take j)))) := HTa.out.key (by rw [List.length_append, HLj.out.1]; rfl) k1 k2 k3
                 obtain ⟨c3, g3⟩ := HX2.out u3 HT3.out.bel
                 have HTb : Hid (Two2 w (u3.alloc (.cells #[.int .i64 v] 3 (0, 0))) (.slice A3 (j + 1) e3) (.slice A2 j d2) (scells (keysOf (Z.take j)) ++ [.string k]) (icells (valsOf (Z.take j)))) := HT3.out.stay (below_al u3 _)
                 clear k1 k2 k3 HT3)
              | (refine wpList_app1 Try.underlying27 infoInt rfl (by decide) rfl _ _ rfl (fun u hu => by rw [List.mem_singleton.1 hu]; rfl) rfl HTb.out.rv rfl rfl (fun h => by cases h) one_new (by rw [HLj.out.2]) (by omega) HTb.out.bel.size ?_
                 intro A4 e4 u4 k1 k2 k3
                 have HT4 : Hid (Two2 w u4 (.slice A3 (j + 1) e3) (.slice A4 (j + 1) e4) (scells (keysOf (Z.take (j + 1)))) (icells (valsOf (Z.take (j + 1))))) := (by rw [HKj.out.1, HKj.out.2]; exact HTb.out.val (by rw [List.length_append, HLj.out.2]; rfl) k1 k2 k3)
                 clear k1 k2 k3))
            go_roundw
            case rel => exact ⟨j + 1, z + 1, A3, A4, e3, e4, by omega, by omega, by have := HZj.out; omega, by go_num, rfl, rfl, HA', HT4⟩
            case measure => simp [intOf]; omega
          · have ht1 : ¬ to.toList = [] := fun e => hte (toList_inj (by rw [e, Go.ByteArray.toList_eq]))
            have ht2 : to.toList.isEmpty = false := by cases hq : to.toList with | nil => exact absurd hq ht1 | cons _ _ => rfl
            have hb2 : Op.bytesLess k.toList to.toList = true := by
              unfold aheadB at hc
              rcases (Bool.or_eq_true _ _).mp hc with e | e
              · exact absurd (of_decide_eq_true e) hte
              · exact e
            clear hc hte
            go_wp2_with (first
              | (refine wpList_app1 Try.underlying26 infoStr rfl (by decide) rfl _ _ rfl (fun u hu => by rw [List.mem_singleton.1 hu]; rfl) rfl HTa.out.rk rfl rfl (fun h => by cases h) one_new (by rw [HLj.out.1]) (by omega) HTa.out.bel.size ?_
                 intro A3 e3 u3 k1 k2 k3
                 have HT3 : Hid (Two2 w u3 (.slice A3 (j + 1) e3) (.slice A2 j d2) (scells (keysOf (Z.take j)) ++ [.string k]) (icells (valsOf (Z.take j)))) := HTa.out.key (by rw [List.length_append, HLj.out.1]; rfl) k1 k2 k3
                 obtain ⟨c3, g3⟩ := HX2.out u3 HT3.out.bel
                 have HTb : Hid (Two2 w (u3.alloc (.cells #[.int .i64 v] 3 (0, 0))) (.slice A3 (j + 1) e3) (.slice A2 j d2) (scells (keysOf (Z.take j)) ++ [.string k]) (icells (valsOf (Z.take j)))) := HT3.out.stay (below_al u3 _)
                 clear k1 k2 k3 HT3)
              | (refine wpList_app1 Try.underlying27 infoInt rfl (by decide) rfl _ _ rfl (fun u hu => by rw [List.mem_singleton.1 hu]; rfl) rfl HTb.out.rv rfl rfl (fun h => by cases h) one_new (by rw [HLj.out.2]) (by omega) HTb.out.bel.size ?_
                 intro A4 e4 u4 k1 k2 k3
                 have HT4 : Hid (Two2 w u4 (.slice A3 (j + 1) e3) (.slice A4 (j + 1) e4) (scells (keysOf (Z.take (j + 1)))) (icells (valsOf (Z.take (j + 1))))) := (by rw [HKj.out.1, HKj.out.2]; exact HTb.out.val (by rw [List.length_append, HLj.out.2]; rfl) k1 k2 k3)
                 clear k1 k2 k3))
            go_roundw
            case rel => exact ⟨j + 1, z + 1, A3, A4, e3, e4, by omega, by omega, by have := HZj.out; omega, by go_num, rfl, rfl, HA', HT4⟩
            case measure => simp [intOf]; omega
        | false =>
          have HE : Hid (Z.take j = (scanK f to K).take most) := by
            show _ = _
            rw [HSc.out]
            exact while_take HA.out hj (Or.inr (Or.inr ⟨_, HQ.out.1, hc⟩))
          have ht0 : to ≠ ⟨#[]⟩ := fun e => by subst e; simp [aheadB] at hc
          have ht1 : ¬ to.toList = [] := fun e => ht0 (toList_inj (by rw [e, Go.ByteArray.toList_eq]))
          have ht2 : to.toList.isEmpty = false := by cases hq : to.toList with | nil => exact absurd hq ht1 | cons _ _ => rfl
          have hb2 : Op.bytesLess k.toList to.toList = false := by
            unfold aheadB at hc
            exact (Bool.or_eq_false_iff.1 hc).2
          clear hc ht0
          go_wp2_with fail
          go_ret3
          exact ⟨_, _, rfl, by rw [← HE.out]; exact HT.out⟩
      · have hjI : ¬ (j : Int) < (most : Int) := by omega
        have HE : Hid (Z.take j = (scanK f to K).take most) := by
          show _ = _
          rw [HSc.out]
          exact while_take HA.out hj (Or.inl (by omega))
        go_wp2_with fail
        go_ret3
        exact ⟨_, _, rfl, by rw [← HE.out]; exact HT.out⟩
    · have hzI : ¬ (z : Int) < (N : Int) := by omega
      have HE : Hid (Z.take j = (scanK f to K).take most) := by
        show _ = _
        rw [HSc.out]
        exact while_take HA.out hj (Or.inr (Or.inl (by rw [HZl.out]; omega)))
      go_wp2_with fail
      go_ret3
      exact ⟨_, _, rfl, by rw [← HE.out]; exact HT.out⟩
end

end Go.Proofs.Ytoknebbkpkcomaa
