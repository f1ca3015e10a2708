/- The document's tree: parts of rows, rows that grow side by side, and what becomes of the tree when it takes them over. -/
import Derived.Test.YtoknebbkpkcomaaTRef
namespace Go.Proofs.Ytoknebbkpkcomaa
open Go.RowKit

theorem sizeS (W : World) : (sizeOf 9).run Try.prog W = .ok 1 W := by kernel_rfl
theorem sizeI (W : World) : (sizeOf 3).run Try.prog W = .ok 1 W := by kernel_rfl

/-- of a row of one's own the first i -/
theorem part_to {w : World} {T e : TypeId} (hT : Try.prog.underlying T = some (.slice e)) (hS : ∀ W : World, (sizeOf e).run Try.prog W = .ok 1 W) {a : Option Addr} {n c : Nat} {xs : List Value} (h : w.ownsRow 0 e 1 (.slice a n c) n xs) {i : Nat} (hi : i ≤ n) :
    ∃ ad c', (∀ W : World, (Instr.slice T (.slice a n c) none (some (.int .i64 (i : Int))) none).run Try.prog W = .ok (.slice ad i c') W) ∧ (ad = none → c' = 0) ∧ ∀ u : World, (∀ g, (Value.slice a n c).ownBlock = some g → u.heap[g]? = w.heap[g]?) → xs.take i ≠ [] → ∃ b off, ad = some ⟨b, off, none⟩ ∧ ∀ (j : Nat) x, (xs.take i)[j]? = some x → u.cell? ⟨b, off + j, none⟩ = some x := by
  have hxl : xs.length = n := by have := h.1; omega
  rcases h.2 with ⟨hv, h0⟩ | ⟨g, cap, cur, hv, _, hg, h1, h2, h3, h4⟩
  · cases hv
    obtain rfl : i = 0 := by omega
    exact ⟨none, 0, fun W => by simp [Instr.slice, run_underlying hT, hS, Instr.sliceBounds, run_sliceBound, Result.andThen], fun _ => rfl, fun u _ hne => absurd (by simp) hne⟩
  · cases hv
    have hic : (i : Int) ≤ (c : Int) := by omega
    by_cases hc0 : c = 0
    · subst hc0
      obtain rfl : i = 0 := by omega
      exact ⟨some ⟨g, 0, none⟩, 0, fun W => by simp [Instr.slice, run_underlying hT, hS, Instr.sliceBounds, run_sliceBound, Result.andThen], fun _ => rfl, fun u _ hne => absurd (by simp) hne⟩
    · refine ⟨some ⟨g, 0, none⟩, c, fun W => by simp [Instr.slice, run_underlying hT, hS, Instr.sliceBounds, run_sliceBound, hic, Result.andThen, Addr.add_lit, hc0], (fun h => by cases h), fun u hu _ => ⟨g, 0, rfl, fun j x hx => ?_⟩⟩
      have hj := (List.getElem?_eq_some_iff.1 hx).1
      rw [List.length_take] at hj
      rw [List.getElem?_take_of_lt (by omega)] at hx
      rw [Nat.zero_add, cell_of ((hu g rfl).trans hg), ← Array.getElem?_toList, ← hx, ← h4, List.getElem?_take_of_lt (by omega)]

/-- and the rest from i on -/
theorem part_from {w : World} {T e : TypeId} (hT : Try.prog.underlying T = some (.slice e)) (hS : ∀ W : World, (sizeOf e).run Try.prog W = .ok 1 W) {a : Option Addr} {n c : Nat} {xs : List Value} (h : w.ownsRow 0 e 1 (.slice a n c) n xs) {i : Nat} (hi : i ≤ n) {d : Nat} (hd : n - i = d) :
    ∃ ad c', (∀ W : World, (Instr.slice T (.slice a n c) (some (.int .i64 (i : Int))) none none).run Try.prog W = .ok (.slice ad d c') W) ∧ (ad = none → c' = 0) ∧ ∀ u : World, (∀ g, (Value.slice a n c).ownBlock = some g → u.heap[g]? = w.heap[g]?) → xs.drop i ≠ [] → ∃ b off, ad = some ⟨b, off, none⟩ ∧ ∀ (j : Nat) x, (xs.drop i)[j]? = some x → u.cell? ⟨b, off + j, none⟩ = some x := by
  have hxl : xs.length = n := by have := h.1; omega
  rcases h.2 with ⟨hv, h0⟩ | ⟨g, cap, cur, hv, _, hg, h1, h2, h3, h4⟩
  · cases hv
    obtain rfl : i = 0 := by omega
    obtain rfl : d = 0 := by omega
    have : xs = [] := List.length_eq_zero_iff.1 hxl
    exact ⟨none, 0, fun W => by simp [Instr.slice, run_underlying hT, hS, Instr.sliceBounds, run_sliceBound, Result.andThen], fun _ => rfl, fun u _ hne => absurd (by rw [this]; rfl) hne⟩
  · cases hv
    have hin : (i : Int) ≤ (n : Int) := by omega
    by_cases hc : c = i
    · obtain rfl : d = 0 := by omega
      have hdn : xs.drop i = [] := List.drop_eq_nil_of_le (by omega)
      refine ⟨some ⟨g, 0, none⟩, c - i, fun W => ?_, (fun h => by cases h), fun u _ hne => absurd hdn hne⟩
      have : n = i := by omega
      subst this
      simp [Instr.slice, run_underlying hT, hS, Instr.sliceBounds, run_sliceBound, Result.andThen, Addr.add_lit, hc]
    · refine ⟨some ⟨g, i, none⟩, c - i, fun W => ?_, (fun h => by cases h), fun u hu _ => ⟨g, i, rfl, fun j x hx => ?_⟩⟩
      · simp [Instr.slice, run_underlying hT, hS, Instr.sliceBounds, run_sliceBound, hin, Result.andThen, Addr.add_lit, hc, hd]
      · rw [List.getElem?_drop] at hx
        have hj := (List.getElem?_eq_some_iff.1 hx).1
        rw [cell_of ((hu g rfl).trans hg), ← Array.getElem?_toList, ← hx, ← h4, List.getElem?_take_of_lt (by omega)]

/-- append of any cells to a row of one's own -/
theorem wpList_app1 {w : World} {ops : Array Oper} {rest : List Oper} {o : Oper} {a : Act} {Q : Exit → Act → World → Prop} {T e : TypeId} {z : Value} {bytes : Nat} (hT : Try.prog.underlying T = some (.slice e)) (hinfo : (Try.prog.info? e).map (fun i => (i.zero, i.size, i.bytes)) = some (some z, 1, bytes)) (hz1 : z.cells.size = 1) (hby : bytes ≤ 1024)
    (hw : Region.wanted o (yielded ops a.tmps) = true) (s x : Operand)
    (hop : o.op = .call { callee := .builtin .append, args := #[s, x], argTypes := #[T, T] }) {base n m : Nat} {v : Value} {xs ys : List Value} (hone : ∀ u ∈ ys, u.oneCell' = true)
    (hs : a.eval s = v) (hown : w.ownsRow base e 1 v n xs) {ad : Option Addr} {c : Nat} (hx : a.eval x = .slice ad m c) (hm : ys.length = m) (hnil : ad = none → c = 0)
    (hc : ys ≠ [] → ∃ b off, ad = some ⟨b, off, none⟩ ∧ ∀ (j : Nat) u, ys[j]? = some u → w.cell? ⟨b, off + j, none⟩ = some u) {N : Nat} (hN : n + m = N) (hA : N ≤ 100000) (hbase : base ≤ w.heap.size)
    (h : ∀ A' c' w', w'.ownsRow base e 1 (.slice A' N c') N (xs ++ ys) → Turn (fun i => v.ownBlock = some i) w w' → (∀ i, (Value.slice A' N c').ownBlock = some i → v.ownBlock = some i ∨ w.heap.size ≤ i) → wpList Try.prog ops Q rest (a.put o.dst (.slice A' N c')) w') : wpList Try.prog ops Q (o :: rest) a w := by
  obtain ⟨i, hi, hz, hsz, hb⟩ := info_parts hinfo
  refine wpList_wanted hw fun KK hKK => ?_
  subst hN
  have hbytes : (n + m) * bytes ≤ 140737488355328 := by
    have : (n + m) * bytes ≤ 100000 * 1024 := Nat.mul_le_mul hA hby
    omega
  cases ad with
  | none =>
    have hy : ys = [] := by
      cases hys : ys with
      | nil => rfl
      | cons y r =>
        obtain ⟨_, _, e, _⟩ := hc (by rw [hys]; simp)
        cases e
    obtain rfl := hnil rfl
    subst hy
    obtain rfl : m = 0 := hm.symm
    have hrun := run_append_owned_none (P := Try.prog) (w := w) base T o.type e i 1 hT hi v n xs hown
    obtain ⟨A', c', rfl⟩ := own_shape hown
    unfold Oper.wp
    simp [execOp, hop, resolve, invoke, builtin, hs, hx, hrun, Result.andThen]
    exact hKK _ _ (h A' c' w (by rw [List.append_nil, Nat.add_zero]; exact hown) (Turn.refl _ _) (fun i hi => Or.inl hi))
  | some ad =>
    obtain ⟨v', w', hr, k1, k2, _, k4⟩ := run_append_own_at (P := Try.prog) w base T o.type e i z 1 bytes hT hi hz hsz hb hz1 (by decide) v n xs hown ad m c ys (by rw [hm, Nat.mul_one]) (fun j u hu => by
      obtain ⟨b, off, e, hcell⟩ := hc (fun e => by rw [e] at hu; simp at hu)
      cases e
      rw [Addr.add_lit]
      exact hcell j u hu) hone (by unfold maxLen; omega) hbytes hbase
    obtain ⟨A', c', rfl⟩ := own_shape k1
    unfold Oper.wp
    simp [execOp, hop, resolve, invoke, builtin, hs, hx, hr, Result.andThen]
    refine hKK _ _ (h A' c' w' k1 (Turn.ofGrown k2 (fun k hk => hk)) fun i hi => ?_)
    rcases k4 with k | k
    · exact Or.inl (k ▸ hi)
    · rw [k] at hi
      right
      injection hi with hi
      omega

/-- two rows of a call's own that grow side by side, behind w -/
structure Two2 (w u : World) (vk vv : Value) (A B : List Value) : Prop where
  bel : Below w.heap.size w u
  rk : u.ownsRow w.heap.size 9 1 vk A.length A
  rv : u.ownsRow w.heap.size 3 1 vv B.length B
  ne : ∀ g, vk.ownBlock = some g → vv.ownBlock ≠ some g
section
variable {w u u' : World} {vk vv vk' vv' : Value} {A B X : List Value}
theorem Two2.nil (h : Below w.heap.size w u) : Two2 w u (.slice none 0 0) (.slice none 0 0) [] [] := ⟨h, World.ownsRow_nil _ _ _ _, World.ownsRow_nil _ _ _ _, fun g h => by cases h⟩
theorem Two2.stay (h : Two2 w u vk vv A B) (hb : Below u.heap.size u u') : Two2 w u' vk vv A B :=
  ⟨h.bel.trans (hb.mono h.bel.size), ownsRow_block h.rk (fun g hg => by obtain ⟨_, h1, _⟩ := ownsRow_own h.rk hg; exact hb.block g (lt_of h1)), ownsRow_block h.rv (fun g hg => by obtain ⟨_, h1, _⟩ := ownsRow_own h.rv hg; exact hb.block g (lt_of h1)), h.ne⟩
theorem Two2.key (h : Two2 w u vk vv A B) {n : Nat} (hn : n = (A ++ X).length) (k1 : u'.ownsRow w.heap.size 9 1 vk' n (A ++ X)) (k2 : Turn (fun i => vk.ownBlock = some i) u u') (k3 : ∀ i, vk'.ownBlock = some i → vk.ownBlock = some i ∨ u.heap.size ≤ i) : Two2 w u' vk' vv (A ++ X) B := by
  refine ⟨h.bel.trans ((k2.mono fun i hi => ?_).toBelow h.bel.size), hn ▸ k1, ownsRow_block h.rv (fun g hg => ?_), fun g hg hv => ?_⟩
  · obtain ⟨_, _, hb⟩ := ownsRow_own h.rk hi; exact hb
  · obtain ⟨_, h1, _⟩ := ownsRow_own h.rv hg
    exact k2.block g (lt_of h1) (fun e => h.ne g e hg)
  · rcases k3 g hg with e | e
    · exact h.ne g e hv
    · obtain ⟨_, h1, _⟩ := ownsRow_own h.rv hv
      have := lt_of h1
      omega
theorem Two2.val (h : Two2 w u vk vv A B) {n : Nat} (hn : n = (B ++ X).length) (k1 : u'.ownsRow w.heap.size 3 1 vv' n (B ++ X)) (k2 : Turn (fun i => vv.ownBlock = some i) u u') (k3 : ∀ i, vv'.ownBlock = some i → vv.ownBlock = some i ∨ u.heap.size ≤ i) : Two2 w u' vk vv' A (B ++ X) := by
  refine ⟨h.bel.trans ((k2.mono fun i hi => ?_).toBelow h.bel.size), ownsRow_block h.rk (fun g hg => ?_), hn ▸ k1, fun g hg hv => ?_⟩
  · obtain ⟨_, _, hb⟩ := ownsRow_own h.rv hi; exact hb
  · obtain ⟨_, h1, _⟩ := ownsRow_own h.rk hg
    exact k2.block g (lt_of h1) (fun e => h.ne g hg e)
  · rcases k3 g hv with e | e
    · exact h.ne g hg e
    · obtain ⟨_, h1, _⟩ := ownsRow_own h.rk hg
      have := lt_of h1
      omega
end

section
variable {w u : World} {r : Nat} {vk0 vv0 vk vv : Value} {A B : List Value} {K K' : List Kv}

/-- the tree has taken the new row of keys: what is still as it was -/
structure UHalf (w U : World) (r : Nat) (vv0 vk' vv : Value) (B : List Value) (K' : List Kv) : Prop where
  st : U.heap[r]? = some (.cells #[vk', vv0] 29 (0, 0))
  old : ∀ i, i < w.heap.size → i ≠ r → U.heap[i]? = w.heap[i]?
  size : w.heap.size ≤ U.heap.size
  rk : U.ownsRow w.heap.size 9 1 vk' K'.length (scells (keysOf K'))
  rv : U.ownsRow w.heap.size 3 1 vv B.length B
  ne : ∀ g, vk'.ownBlock = some g → vv.ownBlock ≠ some g
  rest : U.os = w.os ∧ U.tape = w.tape ∧ U.output = w.output

theorem Two2.half (hG : UG w r vk0 vv0 K) (h : Two2 w u vk vv A B) {u1 : World} {vk' : Value} (k1 : u1.ownsRow w.heap.size 9 1 vk' K'.length (scells (keysOf K'))) (k2 : Turn (fun i => vk.ownBlock = some i) u u1) (k3 : ∀ i, vk'.ownBlock = some i → vk.ownBlock = some i ∨ u.heap.size ≤ i) :
    UHalf w (u1.setCell ⟨r, 0, none⟩ vk') r vv0 vk' vv B K' := by
  have hrw := lt_of hG.st
  have hsz := h.bel.size
  have own1 : ∀ g, vk.ownBlock = some g → w.heap.size ≤ g := fun g hg => by obtain ⟨_, _, hb⟩ := ownsRow_own h.rk hg; exact hb
  have own2 : ∀ g, vv.ownBlock = some g → w.heap.size ≤ g ∧ g < u.heap.size := fun g hg => by obtain ⟨_, h1, hb⟩ := ownsRow_own h.rv hg; exact ⟨hb, lt_of h1⟩
  have own3 : ∀ g, vk'.ownBlock = some g → w.heap.size ≤ g := fun g hg => by obtain ⟨_, _, hb⟩ := ownsRow_own k1 hg; exact hb
  have kr : u1.heap[r]? = some (.cells #[vk0, vv0] 29 (0, 0)) := by
    rw [k2.block r (by omega) (fun e => by have := own1 r e; omega), h.bel.block r hrw]
    exact hG.st
  refine ⟨?_, fun i hi hne => ?_, ?_, ownsRow_block k1 (fun g hg => ?_), ownsRow_block h.rv (fun g hg => ?_), fun g hg hv => ?_, ⟨?_, ?_, ?_⟩⟩
  · rw [heap_setCell_same kr]; rfl
  · rw [Below.heap_setCell u1 ⟨r, 0, none⟩ _ i hne, k2.block i (by omega) (fun e => by have := own1 i e; omega), h.bel.block i hi]
  · have := k2.size
    have : (u1.setCell ⟨r, 0, none⟩ vk').heap.size = u1.heap.size := by simp
    omega
  · exact Below.heap_setCell u1 ⟨r, 0, none⟩ _ g (fun e => by have := own3 g hg; dsimp only at e; omega)
  · have := own2 g hg
    rw [Below.heap_setCell u1 ⟨r, 0, none⟩ _ g (fun e => by dsimp only at e; omega)]
    exact k2.block g this.2 (fun e => h.ne g e hg)
  · rcases k3 g hg with e | e
    · exact h.ne g e hv
    · have := own2 g hv; omega
  · exact k2.os.trans h.bel.os
  · exact k2.tape.trans h.bel.tape
  · exact k2.output.trans h.bel.output

theorem UHalf.done {U U2 : World} {vk' vv' : Value} {F : Nat → Prop} (hF : ∀ i, F i ↔ uF r vk0 vv0 i) (hr : r < w.heap.size) (h : UHalf w U r vv0 vk' vv B K') (l1 : U2.ownsRow w.heap.size 3 1 vv' K'.length (icells (valsOf K'))) (l2 : Turn (fun i => vv.ownBlock = some i) U U2) (l3 : ∀ i, vv'.ownBlock = some i → vv.ownBlock = some i ∨ U.heap.size ≤ i) (hK : Rise K') (hl : K'.length ≤ 4096) :
    Goes (UI r K') w (U2.setCell ⟨r, 1, none⟩ vv') F := by
  have hsz := h.size
  have own2 : ∀ g, vv.ownBlock = some g → w.heap.size ≤ g ∧ g < U.heap.size := fun g hg => by obtain ⟨_, h1, hb⟩ := ownsRow_own h.rv hg; exact ⟨hb, lt_of h1⟩
  have own3 : ∀ g, vk'.ownBlock = some g → w.heap.size ≤ g ∧ g < U.heap.size := fun g hg => by obtain ⟨_, h1, hb⟩ := ownsRow_own h.rk hg; exact ⟨hb, lt_of h1⟩
  have own4 : ∀ g, vv'.ownBlock = some g → w.heap.size ≤ g := fun g hg => by obtain ⟨_, _, hb⟩ := ownsRow_own l1 hg; exact hb
  have kr : U2.heap[r]? = some (.cells #[vk', vv0] 29 (0, 0)) := by
    rw [l2.block r (by omega) (fun e => by have := own2 r e; omega)]
    exact h.st
  refine ⟨uF r vk' vv', ⟨vk', vv', ⟨?_, ownsRow_zero (ownsRow_block h.rk fun g hg => ?_), ownsRow_zero (ownsRow_block l1 fun g hg => ?_), fun g hg => ⟨?_, fun e => ?_⟩, fun g hg => ?_, hK, hl⟩, fun _ => Iff.rfl⟩, ⟨?_, ?_, ?_, ?_, fun i hi hn => ?_⟩, fun i hi => ?_⟩
  · rw [heap_setCell_same kr]; rfl
  · have := own3 g hg
    rw [Below.heap_setCell U2 ⟨r, 1, none⟩ _ g (fun e => by dsimp only at e; omega)]
    exact l2.block g this.2 (h.ne g hg)
  · exact Below.heap_setCell U2 ⟨r, 1, none⟩ _ g (fun e => by have := own4 g hg; dsimp only at e; omega)
  · have := own3 g hg; omega
  · have := own3 g hg
    rcases l3 g e with e2 | e2
    · exact h.ne g hg e2
    · omega
  · have := own4 g hg; omega
  · exact l2.os.trans h.rest.1
  · exact l2.tape.trans h.rest.2.1
  · exact l2.output.trans h.rest.2.2
  · have := l2.size
    have : (U2.setCell ⟨r, 1, none⟩ vv').heap.size = U2.heap.size := by simp
    omega
  · have hir : i ≠ r := fun e => hn ((hF i).2 (Or.inl e))
    rw [Below.heap_setCell U2 ⟨r, 1, none⟩ _ i hir, l2.block i (by omega) (fun e => by have := own2 i e; omega)]
    exact h.old i hi hir
  · rcases hi with rfl | hi | hi
    · exact Or.inl ((hF i).2 (Or.inl rfl))
    · exact Or.inr (own3 i hi).1
    · exact Or.inr (own4 i hi)
theorem UHalf.cell {U U2 : World} {vk' : Value} (h : UHalf w U r vv0 vk' vv B K') (hr : r < w.heap.size) (l2 : Turn (fun i => vv.ownBlock = some i) U U2) : U2.cell? ⟨r, 1, none⟩ = some vv0 ∧ U2.frozen? ⟨r, 1, none⟩ = false := by
  have kr : U2.heap[r]? = some (.cells #[vk', vv0] 29 (0, 0)) := by
    rw [l2.block r (by have := h.size; omega) (fun e => by obtain ⟨_, _, hb⟩ := ownsRow_own h.rv e; omega)]
    exact h.st
  exact ⟨by rw [cell_of kr]; rfl, frozen_of kr _⟩
end

end Go.Proofs.Ytoknebbkpkcomaa
