/- The document's tree: keys and values in two rows; where a key belongs. -/
import Derived.Test.YtoknebbkpkcomaaTStandO
namespace Go.Proofs.Ytoknebbkpkcomaa
open Go.RowKit

structure UG (w : World) (r : Nat) (vk vv : Value) (K : List Kv) : Prop where
  st : w.heap[r]? = some (.cells #[vk, vv] 29 (0, 0))
  rk : w.ownsRow 0 9 1 vk K.length (scells (keysOf K))
  rv : w.ownsRow 0 3 1 vv K.length (icells (valsOf K))
  nk : ∀ g, vk.ownBlock = some g → g ≠ r ∧ vv.ownBlock ≠ some g
  nv : ∀ g, vv.ownBlock = some g → g ≠ r
  rise : Rise K
  few : K.length ≤ 4096

def uF (r : Nat) (vk vv : Value) (i : Nat) : Prop := i = r ∨ vk.ownBlock = some i ∨ vv.ownBlock = some i
def UI (r : Nat) (K : List Kv) (w : World) (F : Nat → Prop) : Prop := ∃ vk vv, UG w r vk vv K ∧ ∀ i, F i ↔ uF r vk vv i

section
variable {w w' : World} {r : Nat} {vk vv : Value} {K : List Kv} {F : Nat → Prop}
theorem UG.lt (h : UG w r vk vv K) {i : Nat} (hi : uF r vk vv i) : i < w.heap.size := by
  rcases hi with rfl | hi | hi
  · exact lt_of h.st
  · exact ownsRow_lt h.rk hi
  · exact ownsRow_lt h.rv hi
theorem UG.kept (h : UG w r vk vv K) (e : ∀ i, uF r vk vv i → w'.heap[i]? = w.heap[i]?) : UG w' r vk vv K :=
  ⟨(e r (Or.inl rfl)).trans h.st, ownsRow_block h.rk (fun i hi => e i (Or.inr (Or.inl hi))), ownsRow_block h.rv (fun i hi => e i (Or.inr (Or.inr hi))), h.nk, h.nv, h.rise, h.few⟩
theorem ui_res (r : Nat) (K : List Kv) : Res (UI r K) := by
  refine ⟨fun {w F} h i hi => ?_, fun {w w' F S} h ht hS => ?_⟩
  · obtain ⟨vk, vv, h1, h2⟩ := h
    exact h1.lt ((h2 i).1 hi)
  · obtain ⟨vk, vv, h1, h2⟩ := h
    exact ⟨vk, vv, h1.kept (fun i hi => ht.block i (h1.lt hi) (hS i ((h2 i).2 hi))), h2⟩
theorem ui_new (w : World) : UI w.heap.size [] (w.alloc (.cells #[.slice none 0 0, .slice none 0 0] 29 (0, 0))) (fun i => i = w.heap.size) := by
  refine ⟨.slice none 0 0, .slice none 0 0, ⟨heap_new w _, World.ownsRow_nil _ _ _ _, World.ownsRow_nil _ _ _ _, (fun g h => by cases h), (fun g h => by cases h), List.Pairwise.nil, Nat.zero_le _⟩, fun i => ⟨fun h => Or.inl h, fun h => ?_⟩⟩
  rcases h with h | h | h
  · exact h
  · cases h
  · cases h
theorem UI.rise (h : UI r K w F) : Rise K := by obtain ⟨_, _, h, _⟩ := h; exact h.rise
theorem UI.few (h : UI r K w F) : K.length ≤ 4096 := by obtain ⟨_, _, h, _⟩ := h; exact h.few

/-- what the rows show -/
theorem UI.shape (h : UI r K w F) : ∃ aK cK aV cV, K.length ≤ cK ∧ cK ≤ maxLen ∧ K.length ≤ cV ∧ cV ≤ maxLen ∧ (∀ u, Below w.heap.size w u → UG u r (.slice aK K.length cK) (.slice aV K.length cV) K ∧ u.cell? ⟨r, 0, none⟩ = some (.slice aK K.length cK) ∧ u.cell? ⟨r, 1, none⟩ = some (.slice aV K.length cV) ∧ u.frozen? ⟨r, 0, none⟩ = false ∧ u.frozen? ⟨r, 1, none⟩ = false) ∧
    (∀ u, Below w.heap.size w u → ∀ (i : Nat) k v, K[i]? = some (k, v) → ∃ b off b' off', aK = some ⟨b, off, none⟩ ∧ aV = some ⟨b', off', none⟩ ∧ u.cell? ⟨b, off + i, none⟩ = some (.string k) ∧ u.cell? ⟨b', off' + i, none⟩ = some (.int .i64 v)) ∧ ∀ i, F i ↔ uF r (.slice aK K.length cK) (.slice aV K.length cV) i := by
  obtain ⟨vk, vv, h1, h2⟩ := h
  obtain ⟨aK, cK, rfl⟩ := own_shape h1.rk
  obtain ⟨aV, cV, rfl⟩ := own_shape h1.rv
  have kp : ∀ u, Below w.heap.size w u → UG u r (.slice aK K.length cK) (.slice aV K.length cV) K := fun u hu => h1.kept (fun i hi => hu.block i (h1.lt hi))
  have s1 := row_strs (keysOf_length K).symm h1.rk
  have s2 := row_ints (valsOf_length K).symm h1.rv
  obtain ⟨_, _, e1, x1, x2, _⟩ := id s1
  obtain ⟨_, _, e2, y1, y2, _⟩ := id s2
  rw [keysOf_length] at x1 e1
  rw [valsOf_length] at y1 e2
  cases e1
  cases e2
  refine ⟨aK, cK, aV, cV, x1, x2, y1, y2, fun u hu => ?_, fun u hu i k v hi => ?_, h2⟩
  · have g := kp u hu
    exact ⟨g, by rw [cell_of g.st]; rfl, by rw [cell_of g.st]; rfl, frozen_of g.st _, frozen_of g.st _⟩
  · have g := kp u hu
    have t1 := row_strs (keysOf_length K).symm g.rk
    have t2 := row_ints (valsOf_length K).symm g.rv
    have hne : K ≠ [] := fun e => by rw [e] at hi; simp at hi
    rw [← keysOf_length] at t1
    rw [← valsOf_length] at t2
    obtain ⟨b, off, e1, c1⟩ := strs_cell t1 (by simpa [keysOf] using hne)
    obtain ⟨b', off', e2, c2⟩ := ints_cell t2 (by simpa [valsOf] using hne)
    exact ⟨b, off, b', off', e1, e2, c1 i k (by simp [keysOf, hi]), c2 i v (by simp [valsOf, hi])⟩

theorem rise_lt {K : List Kv} (h : Rise K) {i j : Nat} {a b : Kv} (hij : i < j) (ha : K[i]? = some a) (hb : K[j]? = some b) : bl a.1 b.1 = true := by
  obtain ⟨h1, rfl⟩ := List.getElem?_eq_some_iff.1 ha
  obtain ⟨h2, rfl⟩ := List.getElem?_eq_some_iff.1 hb
  exact List.pairwise_iff_getElem.1 h i j h1 h2 hij
theorem below_dr {w u : World} (h : Below w.heap.size w u) (n : Nat) : Below w.heap.size w (u.drewN n) := h.trans ((below_drewN u n).mono h.size)

/-- the place of a key, and whether it is there -/
def Plc (K : List Kv) (k : ByteArray) (i : Nat) (b : Bool) : Prop := At k K i ∧ (b = true → ∃ v, K[i]? = some (k, v)) ∧ (b = false → ∀ v, K[i]? ≠ some (k, v))

set_option maxRecDepth 100000 in
set_option maxHeartbeats 2000000 in
theorem uplace_any (h : UI r K w F) (k : ByteArray) : Calls Try.prog 42 #[.pointer (some ⟨r, 0, none⟩), .string k] w fun e w' => ∃ (i : Nat) (b : Bool), e = .returned (.tuple #[.int .i64 (i : Int), .bool b]) ∧ Hid (Plc K k i b) ∧ Hid (∃ n, w' = w.drewN n) := by
  have hr := h.rise
  have hfew := h.few
  obtain ⟨aK, cK, aV, cV, x1, x2, y1, y2, hc, hx, -⟩ := h.shape
  obtain ⟨N, hN⟩ : ∃ N, K.length = N := ⟨_, rfl⟩
  have HN : Hid (K.length = N) := hN
  have HR : Hid (Rise K) := hr
  rw [hN] at x1 y1 hfew hc
  have HC : Hid (∀ n, (w.drewN n).cell? ⟨r, 0, none⟩ = some (.slice aK N cK)) := fun n => (hc _ (below_drewN w n)).2.1
  have HX : Hid (∀ n (i : Nat) k v, K[i]? = some (k, v) → ∃ b off, aK = some ⟨b, off, none⟩ ∧ (w.drewN n).cell? ⟨b, off + i, none⟩ = some (.string k)) := fun n i k v hi => by
    obtain ⟨b, off, _, _, e, _, c, _⟩ := hx _ (below_drewN w n) i k v hi
    exact ⟨b, off, e, c⟩
  have c0 := HC.out 0
  rw [World.drewN_zero] at c0
  unfold maxLen at x2
  clear h hc hx hN hr y1 y2
  go_enter Try.func42, Try.ntmps42
  go_wp2_with fail
  go_quiet (fail)
  go_wp2_with fail
  go_loopw [6, 7] (fun lo hi wr => ∃ (p q n : Nat), p ≤ q ∧ q ≤ N ∧ lo = .int .i64 p ∧ hi = .int .i64 q ∧ Hid (∀ (j : Nat) (x : Kv), j < p → K[j]? = some x → bl x.1 k = true) ∧ Hid (∀ (j : Nat) (x : Kv), q ≤ j → K[j]? = some x → bl x.1 k = false) ∧ Hid (wr = w.drewN n)) (fun lo hi _ => (intOf hi).toNat - (intOf lo).toNat)
  case atStart =>
    refine ⟨0, N, _, Nat.zero_le _, Nat.le_refl _, rfl, rfl, fun j x hj => by omega, fun j x hj hx => ?_, rfl⟩
    have := (List.getElem?_eq_some_iff.1 hx).1
    have := HN.out
    omega
  case round =>
    obtain ⟨p, q, n, hpq, hqN, rfl, rfl, H1, H2, HW⟩ := hrel
    have d0 : wr.cell? ⟨r, 0, none⟩ = some (.slice aK N cK) := by rw [HW.out]; exact HC.out n
    by_cases hlt : p < q
    · have hlI : (p : Int) < (q : Int) := by omega
      obtain ⟨m, hm⟩ : ∃ m, (p + q) / 2 = m := ⟨_, rfl⟩
      have hm1 : ((p : Int) + (q : Int)) / 2 = (m : Int) := by omega
      have hm2 : Int.tdiv ((p : Int) + (q : Int)) 2 = (m : Int) := by rw [Int.tdiv_eq_ediv_of_nonneg (by omega)]; omega
      have hmN : m < N := by omega
      have hmI : (m : Int) < (N : Int) := by omega
      have hpm : p ≤ m := by omega
      have hmq : m < q := by omega
      obtain ⟨⟨x, v⟩, hx⟩ : ∃ y, K[m]? = some y := ⟨_, List.getElem?_eq_getElem (by rw [HN.out]; exact hmN)⟩
      obtain ⟨b, off, rfl, e0⟩ := HX.out n m x v hx
      rw [← HW.out] at e0
      cases hb : bl x k with
      | true =>
        have hb2 : Op.bytesLess x.toList k.toList = true := hb
        have H1' : Hid (∀ (j : Nat) (y : Kv), j < m + 1 → K[j]? = some y → bl y.1 k = true) := fun j y hj hy => by
          rcases Nat.lt_or_ge j m with h | h
          · exact bl_tr (rise_lt HR.out h hy hx) hb
          · obtain rfl : j = m := by omega
            rw [hx] at hy
            cases hy
            exact hb
        clear hx hb hm H1
        go_wp2_with fail
        go_roundw
        case rel => exact ⟨m + 1, q, n, by omega, hqN, by go_num, rfl, H1', H2, HW⟩
        case measure => simp [intOf]; omega
      | false =>
        have hb2 : Op.bytesLess x.toList k.toList = false := hb
        have H2' : Hid (∀ (j : Nat) (y : Kv), m ≤ j → K[j]? = some y → bl y.1 k = false) := fun j y hj hy => by
          rcases Nat.lt_or_ge m j with h | h
          · cases hc : bl y.1 k with
            | false => rfl
            | true =>
              have := bl_tr (rise_lt HR.out h hx hy) hc
              rw [hb] at this
              cases this
          · obtain rfl : j = m := by omega
            rw [hx] at hy
            cases hy
            exact hb
        clear hx hb hm H2
        go_wp2_with fail
        go_roundw
        case rel => exact ⟨p, m, n, hpm, by omega, rfl, rfl, H1, H2', HW⟩
        case measure => simp [intOf]; omega
    · obtain rfl : p = q := by omega
      have hlI : ¬ (p : Int) < (p : Int) := by omega
      have HAt : Hid (At k K p) := ⟨by rw [HN.out]; exact hqN, fun j y hj hy => H1.out j y hj hy, fun y hy => H2.out p y (Nat.le_refl _) hy⟩
      by_cases hpN : p < N
      · have hpI : (p : Int) < (N : Int) := by omega
        obtain ⟨⟨x, v⟩, hx⟩ : ∃ y, K[p]? = some y := ⟨_, List.getElem?_eq_getElem (by rw [HN.out]; exact hpN)⟩
        obtain ⟨b, off, rfl, e0⟩ := HX.out n p x v hx
        rw [← HW.out] at e0
        by_cases hxk : x = k
        · subst hxk
          have HP : Hid (Plc K x p true) := ⟨HAt.out, fun _ => ⟨v, hx⟩, fun h => by cases h⟩
          clear hx
          go_wp2_with fail
          go_quiet (fail)
          go_wp2_with fail
          go_ret2
          exact ⟨p, true, rfl, HP, _, by rw [HW.out, World.drewN_drewN]⟩
        · have hne1 : (x.toList == k.toList) = false := by rw [beq_eq_false_iff_ne]; exact fun e => hxk (toList_inj e)
          have hne2 : ¬ x.toList = k.toList := fun e => hxk (toList_inj e)
          have HP : Hid (Plc K k p false) := ⟨HAt.out, (fun h => by cases h), (fun _ v' h => by rw [hx] at h; cases h; exact hxk rfl)⟩
          clear hx hxk
          go_wp2_with fail
          go_quiet (fail)
          go_wp2_with fail
          go_ret2
          exact ⟨p, false, rfl, HP, _, by rw [HW.out, World.drewN_drewN]⟩
      · have hpI : ¬ (p : Int) < (N : Int) := by omega
        have HP : Hid (Plc K k p false) := ⟨HAt.out, (fun h => by cases h), (fun _ v' h => by
          have := (List.getElem?_eq_some_iff.1 h).1
          have := HN.out
          omega)⟩
        go_wp2_with fail
        go_quiet (fail)
        go_wp2_with fail
        go_ret2
        exact ⟨p, false, rfl, HP, _, by rw [HW.out, World.drewN_drewN]⟩
end

end Go.Proofs.Ytoknebbkpkcomaa
