/- Layer 25: the document's table: names and keys in two rows. (The most of it written by urefk.py out of layer 13's document.) -/
import Derived.Test.YtibglhlhogfdnaaDoorURefC
import Derived.Deep.RegionHeld3
import Derived.Maps.AppendAt
namespace Go.Proofs.YtibglhlhogfdnaaDoor
open Go.RowKit QP AP

def scells (L : List ByteArray) : List Value := L.map fun x => Value.string x
theorem scells_length (L : List ByteArray) : (scells L).length = L.length := by simp [scells]
theorem scells_one (K : List ByteArray) : ∀ u ∈ scells K, u.oneCell' = true := fun u hu => by
  obtain ⟨y, _, rfl⟩ := List.mem_map.1 hu
  rfl
def keysOf (ks : List Kv) : List ByteArray := ks.map (·.1)
def valsOf (ks : List Kv) : List ByteArray := ks.map (·.2)
theorem keysOf_length (K : List Kv) : (keysOf K).length = K.length := by simp [keysOf]
theorem valsOf_length (K : List Kv) : (valsOf K).length = K.length := by simp [valsOf]
theorem infoStr : (Tryd.prog.info? 9).map (fun i => (i.zero, i.size, i.bytes)) = some (some (.string ⟨#[]⟩), 1, 16) := by kernel_rfl
theorem own_shape {w : World} {base : Nat} {e : TypeId} {size n : Nat} {v : Value} {xs : List Value} (h : w.ownsRow base e size v n xs) : ∃ a m, v = .slice a n m := by
  rcases h.2 with ⟨h1, h2⟩ | ⟨g, cap, cur, h1, _⟩
  · exact ⟨none, 0, by rw [h1, h2]⟩
  · exact ⟨_, cap, h1⟩
theorem ownsRow_lt {w : World} {e : TypeId} {size n : Nat} {v : Value} {xs : List Value} (h : w.ownsRow 0 e size v n xs) {i : Nat} (hi : v.ownBlock = some i) : i < w.heap.size := by
  obtain ⟨cur, h1, _⟩ := ownsRow_own h hi
  exact lt_of h1
theorem row_room {w : World} {L : List ByteArray} {a : Option Addr} {n c : Nat} (h : w.ownsRow 0 9 1 (.slice a n c) n (scells L)) : n ≤ c ∧ c ≤ maxLen := by
  rcases h.2 with ⟨hv, h0⟩ | ⟨g, cap, cur, hv, _, _, h1, h2, _⟩
  · cases hv; exact ⟨Nat.le_refl _, Nat.zero_le _⟩
  · cases hv; exact ⟨h1, h2⟩
theorem row_cell {w : World} {L : List ByteArray} {a : Option Addr} {n c : Nat} (h : w.ownsRow 0 9 1 (.slice a n c) n (scells L)) {i : Nat} {x : ByteArray} (hx : L[i]? = some x) : ∃ b, a = some ⟨b, 0, none⟩ ∧ w.cell? ⟨b, i, none⟩ = some (.string x) := by
  have hi : (scells L)[i]? = some (.string x) := by simp [scells, hx]
  rcases h.2 with ⟨hv, h0⟩ | ⟨g, cap, cur, hv, _⟩
  · cases hv
    have h1 := h.1
    have := (List.getElem?_eq_some_iff.1 hi).1
    omega
  · cases hv
    have h2 := World.ownsRow.cells h (g := g) rfl i _ hi
    rw [Addr.add_lit, Nat.zero_add] at h2
    exact ⟨g, rfl, h2⟩
theorem wpList_wanted {P : Program} {w : World} {ops : Array Oper} {rest : List Oper} {o : Oper} {a : Act} {Q : Exit → Act → World → Prop} (hw : Region.wanted o (yielded ops a.tmps) = true)
    (h : ∀ K : Act → World → Prop, (∀ a w, wpList P ops Q rest a w → K a w) → o.wp P a w K Q) : wpList P ops Q (o :: rest) a w := wpList_step fun K hK => by rw [if_pos hw]; exact h K hK


structure RG (w : World) (r : Nat) (vk vv : Value) (K : List Kv) : Prop where
  st : w.heap[r]? = some (.cells #[vk, vv] 28 (0, 0))
  rk : w.ownsRow 0 9 1 vk K.length (scells (keysOf K))
  rv : w.ownsRow 0 9 1 vv K.length (scells (valsOf K))
  nk : ∀ g, vk.ownBlock = some g → g ≠ r ∧ vv.ownBlock ≠ some g
  nv : ∀ g, vv.ownBlock = some g → g ≠ r
  rise : Rise K
  few : K.length ≤ 4096

def rF (r : Nat) (vk vv : Value) (i : Nat) : Prop := i = r ∨ vk.ownBlock = some i ∨ vv.ownBlock = some i
def RI (r : Nat) (K : List Kv) (w : World) (F : Nat → Prop) : Prop := ∃ vk vv, RG w r vk vv K ∧ ∀ i, F i ↔ rF r vk vv i

section
variable {w w' : World} {r : Nat} {vk vv : Value} {K : List Kv} {F : Nat → Prop}
theorem RG.lt (h : RG w r vk vv K) {i : Nat} (hi : rF r vk vv i) : i < w.heap.size := by
  rcases hi with rfl | hi | hi
  · exact lt_of h.st
  · exact ownsRow_lt h.rk hi
  · exact ownsRow_lt h.rv hi
theorem RG.kept (h : RG w r vk vv K) (e : ∀ i, rF r vk vv i → w'.heap[i]? = w.heap[i]?) : RG w' r vk vv K :=
  ⟨(e r (Or.inl rfl)).trans h.st, ownsRow_block h.rk (fun i hi => e i (Or.inr (Or.inl hi))), ownsRow_block h.rv (fun i hi => e i (Or.inr (Or.inr hi))), h.nk, h.nv, h.rise, h.few⟩
theorem ri_res (r : Nat) (K : List Kv) : Res (RI r K) := by
  refine ⟨fun {w F} h i hi => ?_, fun {w w' F S} h ht hS => ?_⟩
  · obtain ⟨vk, vv, h1, h2⟩ := h
    exact h1.lt ((h2 i).1 hi)
  · obtain ⟨vk, vv, h1, h2⟩ := h
    exact ⟨vk, vv, h1.kept (fun i hi => ht.block i (h1.lt hi) (hS i ((h2 i).2 hi))), h2⟩
theorem ri_new (w : World) : RI w.heap.size [] (w.alloc (.cells #[.slice none 0 0, .slice none 0 0] 28 (0, 0))) (fun i => i = w.heap.size) := by
  refine ⟨.slice none 0 0, .slice none 0 0, ⟨heap_new w _, World.ownsRow_nil _ _ _ _, World.ownsRow_nil _ _ _ _, (fun g h => by cases h), (fun g h => by cases h), List.Pairwise.nil, Nat.zero_le _⟩, fun i => ⟨fun h => Or.inl h, fun h => ?_⟩⟩
  rcases h with h | h | h
  · exact h
  · cases h
  · cases h
theorem RI.rise (h : RI r K w F) : Rise K := by obtain ⟨_, _, h, _⟩ := h; exact h.rise
theorem RI.few (h : RI r K w F) : K.length ≤ 4096 := by obtain ⟨_, _, h, _⟩ := h; exact h.few

/-- what the rows show -/
theorem RI.shape (h : RI r K w F) : ∃ aK cK aV cV, K.length ≤ cK ∧ cK ≤ maxLen ∧ K.length ≤ cV ∧ cV ≤ maxLen ∧ (∀ u, Below w.heap.size w u → RG u r (.slice aK K.length cK) (.slice aV K.length cV) K ∧ u.cell? ⟨r, 0, none⟩ = some (.slice aK K.length cK) ∧ u.cell? ⟨r, 1, none⟩ = some (.slice aV K.length cV) ∧ u.frozen? ⟨r, 0, none⟩ = false ∧ u.frozen? ⟨r, 1, none⟩ = false) ∧
    (∀ u, Below w.heap.size w u → ∀ (i : Nat) k v, K[i]? = some (k, v) → ∃ b b', aK = some ⟨b, 0, none⟩ ∧ aV = some ⟨b', 0, none⟩ ∧ u.cell? ⟨b, i, none⟩ = some (.string k) ∧ u.cell? ⟨b', i, none⟩ = some (.string v)) ∧ ∀ i, F i ↔ rF r (.slice aK K.length cK) (.slice aV K.length cV) i := by
  obtain ⟨vk, vv, h1, h2⟩ := h
  obtain ⟨aK, cK, rfl⟩ := own_shape h1.rk
  obtain ⟨aV, cV, rfl⟩ := own_shape h1.rv
  have kp : ∀ u, Below w.heap.size w u → RG u r (.slice aK K.length cK) (.slice aV K.length cV) K := fun u hu => h1.kept (fun i hi => hu.block i (h1.lt hi))
  obtain ⟨x1, x2⟩ := row_room h1.rk
  obtain ⟨y1, y2⟩ := row_room h1.rv
  refine ⟨aK, cK, aV, cV, x1, x2, y1, y2, fun u hu => ?_, fun u hu i k v hi => ?_, h2⟩
  · have g := kp u hu
    exact ⟨g, by rw [cell_of g.st]; rfl, by rw [cell_of g.st]; rfl, frozen_of g.st _, frozen_of g.st _⟩
  · have g := kp u hu
    obtain ⟨b, e1, c1⟩ := row_cell g.rk (i := i) (x := k) (by simp [keysOf, hi])
    obtain ⟨b', e2, c2⟩ := row_cell g.rv (i := i) (x := v) (by simp [valsOf, hi])
    exact ⟨b, b', e1, e2, c1, c2⟩

theorem rise_lt {K : List Kv} (h : Rise K) {i j : Nat} {a b : Kv} (hij : i < j) (ha : K[i]? = some a) (hb : K[j]? = some b) : bl a.1 b.1 = true := by
  obtain ⟨h1, rfl⟩ := List.getElem?_eq_some_iff.1 ha
  obtain ⟨h2, rfl⟩ := List.getElem?_eq_some_iff.1 hb
  exact List.pairwise_iff_getElem.1 h i j h1 h2 hij
theorem below_dr {w u : World} (h : Below w.heap.size w u) (n : Nat) : Below w.heap.size w (u.drewN n) := h.trans ((below_drewN u n).mono h.size)

/-- the place of a key, and whether it is there -/
def Plc (K : List Kv) (k : ByteArray) (i : Nat) (b : Bool) : Prop := At k K i ∧ (b = true → ∃ v, K[i]? = some (k, v)) ∧ (b = false → ∀ v, K[i]? ≠ some (k, v))

end

theorem sizeS (W : World) : (sizeOf 9).run Tryd.prog W = .ok 1 W := by kernel_rfl

/-- of a row of one's own the first i -/
theorem part_to {w : World} {T e : TypeId} (hT : Tryd.prog.underlying T = some (.slice e)) (hS : ∀ W : World, (sizeOf e).run Tryd.prog W = .ok 1 W) {a : Option Addr} {n c : Nat} {xs : List Value} (h : w.ownsRow 0 e 1 (.slice a n c) n xs) {i : Nat} (hi : i ≤ n) :
    ∃ ad c', (∀ W : World, (Instr.slice T (.slice a n c) none (some (.int .i64 (i : Int))) none).run Tryd.prog W = .ok (.slice ad i c') W) ∧ (ad = none → c' = 0) ∧ ∀ u : World, (∀ g, (Value.slice a n c).ownBlock = some g → u.heap[g]? = w.heap[g]?) → xs.take i ≠ [] → ∃ b off, ad = some ⟨b, off, none⟩ ∧ ∀ (j : Nat) x, (xs.take i)[j]? = some x → u.cell? ⟨b, off + j, none⟩ = some x := by
  have hxl : xs.length = n := by have := h.1; omega
  rcases h.2 with ⟨hv, h0⟩ | ⟨g, cap, cur, hv, _, hg, h1, h2, h3, h4⟩
  · cases hv
    obtain rfl : i = 0 := by omega
    exact ⟨none, 0, fun W => by simp [Instr.slice, run_underlying hT, hS, Instr.sliceBounds, run_sliceBound, Result.andThen], fun _ => rfl, fun u _ hne => absurd (by simp) hne⟩
  · cases hv
    have hic : (i : Int) ≤ (c : Int) := by omega
    by_cases hc0 : c = 0
    · subst hc0
      obtain rfl : i = 0 := by omega
      exact ⟨some ⟨g, 0, none⟩, 0, fun W => by simp [Instr.slice, run_underlying hT, hS, Instr.sliceBounds, run_sliceBound, Result.andThen], fun _ => rfl, fun u _ hne => absurd (by simp) hne⟩
    · refine ⟨some ⟨g, 0, none⟩, c, fun W => by simp [Instr.slice, run_underlying hT, hS, Instr.sliceBounds, run_sliceBound, hic, Result.andThen, Addr.add_lit, hc0], (fun h => by cases h), fun u hu _ => ⟨g, 0, rfl, fun j x hx => ?_⟩⟩
      have hj := (List.getElem?_eq_some_iff.1 hx).1
      rw [List.length_take] at hj
      rw [List.getElem?_take_of_lt (by omega)] at hx
      rw [Nat.zero_add, cell_of ((hu g rfl).trans hg), ← Array.getElem?_toList, ← hx, ← h4, List.getElem?_take_of_lt (by omega)]

/-- and the rest from i on -/
theorem part_from {w : World} {T e : TypeId} (hT : Tryd.prog.underlying T = some (.slice e)) (hS : ∀ W : World, (sizeOf e).run Tryd.prog W = .ok 1 W) {a : Option Addr} {n c : Nat} {xs : List Value} (h : w.ownsRow 0 e 1 (.slice a n c) n xs) {i : Nat} (hi : i ≤ n) {d : Nat} (hd : n - i = d) :
    ∃ ad c', (∀ W : World, (Instr.slice T (.slice a n c) (some (.int .i64 (i : Int))) none none).run Tryd.prog W = .ok (.slice ad d c') W) ∧ (ad = none → c' = 0) ∧ ∀ u : World, (∀ g, (Value.slice a n c).ownBlock = some g → u.heap[g]? = w.heap[g]?) → xs.drop i ≠ [] → ∃ b off, ad = some ⟨b, off, none⟩ ∧ ∀ (j : Nat) x, (xs.drop i)[j]? = some x → u.cell? ⟨b, off + j, none⟩ = some x := by
  have hxl : xs.length = n := by have := h.1; omega
  rcases h.2 with ⟨hv, h0⟩ | ⟨g, cap, cur, hv, _, hg, h1, h2, h3, h4⟩
  · cases hv
    obtain rfl : i = 0 := by omega
    obtain rfl : d = 0 := by omega
    have : xs = [] := List.length_eq_zero_iff.1 hxl
    exact ⟨none, 0, fun W => by simp [Instr.slice, run_underlying hT, hS, Instr.sliceBounds, run_sliceBound, Result.andThen], fun _ => rfl, fun u _ hne => absurd (by rw [this]; rfl) hne⟩
  · cases hv
    have hin : (i : Int) ≤ (n : Int) := by omega
    by_cases hc : c = i
    · obtain rfl : d = 0 := by omega
      have hdn : xs.drop i = [] := List.drop_eq_nil_of_le (by omega)
      refine ⟨some ⟨g, 0, none⟩, c - i, fun W => ?_, (fun h => by cases h), fun u _ hne => absurd hdn hne⟩
      have : n = i := by omega
      subst this
      simp [Instr.slice, run_underlying hT, hS, Instr.sliceBounds, run_sliceBound, Result.andThen, Addr.add_lit, hc]
    · refine ⟨some ⟨g, i, none⟩, c - i, fun W => ?_, (fun h => by cases h), fun u hu _ => ⟨g, i, rfl, fun j x hx => ?_⟩⟩
      · simp [Instr.slice, run_underlying hT, hS, Instr.sliceBounds, run_sliceBound, hin, Result.andThen, Addr.add_lit, hc, hd]
      · rw [List.getElem?_drop] at hx
        have hj := (List.getElem?_eq_some_iff.1 hx).1
        rw [cell_of ((hu g rfl).trans hg), ← Array.getElem?_toList, ← hx, ← h4, List.getElem?_take_of_lt (by omega)]

/-- append of any cells to a row of one's own -/
theorem wpList_app1 {w : World} {ops : Array Oper} {rest : List Oper} {o : Oper} {a : Act} {Q : Exit → Act → World → Prop} {T e : TypeId} {z : Value} {bytes : Nat} (hT : Tryd.prog.underlying T = some (.slice e)) (hinfo : (Tryd.prog.info? e).map (fun i => (i.zero, i.size, i.bytes)) = some (some z, 1, bytes)) (hz1 : z.cells.size = 1) (hby : bytes ≤ 1024)
    (hw : Region.wanted o (yielded ops a.tmps) = true) (s x : Operand)
    (hop : o.op = .call { callee := .builtin .append, args := #[s, x], argTypes := #[T, T] }) {base n m : Nat} {v : Value} {xs ys : List Value} (hone : ∀ u ∈ ys, u.oneCell' = true)
    (hs : a.eval s = v) (hown : w.ownsRow base e 1 v n xs) {ad : Option Addr} {c : Nat} (hx : a.eval x = .slice ad m c) (hm : ys.length = m) (hnil : ad = none → c = 0)
    (hc : ys ≠ [] → ∃ b off, ad = some ⟨b, off, none⟩ ∧ ∀ (j : Nat) u, ys[j]? = some u → w.cell? ⟨b, off + j, none⟩ = some u) {N : Nat} (hN : n + m = N) (hA : N ≤ 100000) (hbase : base ≤ w.heap.size)
    (h : ∀ A' c' w', w'.ownsRow base e 1 (.slice A' N c') N (xs ++ ys) → Turn (fun i => v.ownBlock = some i) w w' → (∀ i, (Value.slice A' N c').ownBlock = some i → v.ownBlock = some i ∨ w.heap.size ≤ i) → wpList Tryd.prog ops Q rest (a.put o.dst (.slice A' N c')) w') : wpList Tryd.prog ops Q (o :: rest) a w := by
  obtain ⟨i, hi, hz, hsz, hb⟩ := info_parts hinfo
  refine wpList_wanted hw fun KK hKK => ?_
  subst hN
  have hbytes : (n + m) * bytes ≤ 140737488355328 := by
    have : (n + m) * bytes ≤ 100000 * 1024 := Nat.mul_le_mul hA hby
    omega
  cases ad with
  | none =>
    have hy : ys = [] := by
      cases hys : ys with
      | nil => rfl
      | cons y r =>
        obtain ⟨_, _, e, _⟩ := hc (by rw [hys]; simp)
        cases e
    obtain rfl := hnil rfl
    subst hy
    obtain rfl : m = 0 := hm.symm
    have hrun := run_append_owned_none (P := Tryd.prog) (w := w) base T o.type e i 1 hT hi v n xs hown
    obtain ⟨A', c', rfl⟩ := own_shape hown
    unfold Oper.wp
    simp [execOp, hop, resolve, invoke, builtin, hs, hx, hrun, Result.andThen]
    exact hKK _ _ (h A' c' w (by rw [List.append_nil, Nat.add_zero]; exact hown) (Turn.refl _ _) (fun i hi => Or.inl hi))
  | some ad =>
    obtain ⟨v', w', hr, k1, k2, _, k4⟩ := run_append_own_at (P := Tryd.prog) w base T o.type e i z 1 bytes hT hi hz hsz hb hz1 (by decide) v n xs hown ad m c ys (by rw [hm, Nat.mul_one]) (fun j u hu => by
      obtain ⟨b, off, e, hcell⟩ := hc (fun e => by rw [e] at hu; simp at hu)
      cases e
      rw [Addr.add_lit]
      exact hcell j u hu) hone (by unfold maxLen; omega) hbytes hbase
    obtain ⟨A', c', rfl⟩ := own_shape k1
    unfold Oper.wp
    simp [execOp, hop, resolve, invoke, builtin, hs, hx, hr, Result.andThen]
    refine hKK _ _ (h A' c' w' k1 (Turn.ofGrown k2 (fun k hk => hk)) fun i hi => ?_)
    rcases k4 with k | k
    · exact Or.inl (k ▸ hi)
    · rw [k] at hi
      right
      injection hi with hi
      omega

/-- two rows of a call's own that grow side by side, behind w -/
structure Two2 (w u : World) (vk vv : Value) (A B : List Value) : Prop where
  bel : Below w.heap.size w u
  rk : u.ownsRow w.heap.size 9 1 vk A.length A
  rv : u.ownsRow w.heap.size 9 1 vv B.length B
  ne : ∀ g, vk.ownBlock = some g → vv.ownBlock ≠ some g
section
variable {w u u' : World} {vk vv vk' vv' : Value} {A B X : List Value}
theorem Two2.nil (h : Below w.heap.size w u) : Two2 w u (.slice none 0 0) (.slice none 0 0) [] [] := ⟨h, World.ownsRow_nil _ _ _ _, World.ownsRow_nil _ _ _ _, fun g h => by cases h⟩
theorem Two2.stay (h : Two2 w u vk vv A B) (hb : Below u.heap.size u u') : Two2 w u' vk vv A B :=
  ⟨h.bel.trans (hb.mono h.bel.size), ownsRow_block h.rk (fun g hg => by obtain ⟨_, h1, _⟩ := ownsRow_own h.rk hg; exact hb.block g (lt_of h1)), ownsRow_block h.rv (fun g hg => by obtain ⟨_, h1, _⟩ := ownsRow_own h.rv hg; exact hb.block g (lt_of h1)), h.ne⟩
theorem Two2.key (h : Two2 w u vk vv A B) {n : Nat} (hn : n = (A ++ X).length) (k1 : u'.ownsRow w.heap.size 9 1 vk' n (A ++ X)) (k2 : Turn (fun i => vk.ownBlock = some i) u u') (k3 : ∀ i, vk'.ownBlock = some i → vk.ownBlock = some i ∨ u.heap.size ≤ i) : Two2 w u' vk' vv (A ++ X) B := by
  refine ⟨h.bel.trans ((k2.mono fun i hi => ?_).toBelow h.bel.size), hn ▸ k1, ownsRow_block h.rv (fun g hg => ?_), fun g hg hv => ?_⟩
  · obtain ⟨_, _, hb⟩ := ownsRow_own h.rk hi; exact hb
  · obtain ⟨_, h1, _⟩ := ownsRow_own h.rv hg
    exact k2.block g (lt_of h1) (fun e => h.ne g e hg)
  · rcases k3 g hg with e | e
    · exact h.ne g e hv
    · obtain ⟨_, h1, _⟩ := ownsRow_own h.rv hv
      have := lt_of h1
      omega
theorem Two2.val (h : Two2 w u vk vv A B) {n : Nat} (hn : n = (B ++ X).length) (k1 : u'.ownsRow w.heap.size 9 1 vv' n (B ++ X)) (k2 : Turn (fun i => vv.ownBlock = some i) u u') (k3 : ∀ i, vv'.ownBlock = some i → vv.ownBlock = some i ∨ u.heap.size ≤ i) : Two2 w u' vk vv' A (B ++ X) := by
  refine ⟨h.bel.trans ((k2.mono fun i hi => ?_).toBelow h.bel.size), ownsRow_block h.rk (fun g hg => ?_), hn ▸ k1, fun g hg hv => ?_⟩
  · obtain ⟨_, _, hb⟩ := ownsRow_own h.rv hi; exact hb
  · obtain ⟨_, h1, _⟩ := ownsRow_own h.rk hg
    exact k2.block g (lt_of h1) (fun e => h.ne g hg e)
  · rcases k3 g hv with e | e
    · exact h.ne g hg e
    · obtain ⟨_, h1, _⟩ := ownsRow_own h.rk hg
      have := lt_of h1
      omega
end

section
variable {w u : World} {r : Nat} {vk0 vv0 vk vv : Value} {A B : List Value} {K K' : List Kv}

/-- the tree has taken the new row of keys: what is still as it was -/
structure RHalf (w U : World) (r : Nat) (vv0 vk' vv : Value) (B : List Value) (K' : List Kv) : Prop where
  st : U.heap[r]? = some (.cells #[vk', vv0] 28 (0, 0))
  old : ∀ i, i < w.heap.size → i ≠ r → U.heap[i]? = w.heap[i]?
  size : w.heap.size ≤ U.heap.size
  rk : U.ownsRow w.heap.size 9 1 vk' K'.length (scells (keysOf K'))
  rv : U.ownsRow w.heap.size 9 1 vv B.length B
  ne : ∀ g, vk'.ownBlock = some g → vv.ownBlock ≠ some g
  rest : U.os = w.os ∧ U.tape = w.tape ∧ U.output = w.output

theorem Two2.half (hG : RG w r vk0 vv0 K) (h : Two2 w u vk vv A B) {u1 : World} {vk' : Value} (k1 : u1.ownsRow w.heap.size 9 1 vk' K'.length (scells (keysOf K'))) (k2 : Turn (fun i => vk.ownBlock = some i) u u1) (k3 : ∀ i, vk'.ownBlock = some i → vk.ownBlock = some i ∨ u.heap.size ≤ i) :
    RHalf w (u1.setCell ⟨r, 0, none⟩ vk') r vv0 vk' vv B K' := by
  have hrw := lt_of hG.st
  have hsz := h.bel.size
  have own1 : ∀ g, vk.ownBlock = some g → w.heap.size ≤ g := fun g hg => by obtain ⟨_, _, hb⟩ := ownsRow_own h.rk hg; exact hb
  have own2 : ∀ g, vv.ownBlock = some g → w.heap.size ≤ g ∧ g < u.heap.size := fun g hg => by obtain ⟨_, h1, hb⟩ := ownsRow_own h.rv hg; exact ⟨hb, lt_of h1⟩
  have own3 : ∀ g, vk'.ownBlock = some g → w.heap.size ≤ g := fun g hg => by obtain ⟨_, _, hb⟩ := ownsRow_own k1 hg; exact hb
  have kr : u1.heap[r]? = some (.cells #[vk0, vv0] 28 (0, 0)) := by
    rw [k2.block r (by omega) (fun e => by have := own1 r e; omega), h.bel.block r hrw]
    exact hG.st
  refine ⟨?_, fun i hi hne => ?_, ?_, ownsRow_block k1 (fun g hg => ?_), ownsRow_block h.rv (fun g hg => ?_), fun g hg hv => ?_, ⟨?_, ?_, ?_⟩⟩
  · rw [heap_setCell_same kr]; rfl
  · rw [Below.heap_setCell u1 ⟨r, 0, none⟩ _ i hne, k2.block i (by omega) (fun e => by have := own1 i e; omega), h.bel.block i hi]
  · have := k2.size
    have : (u1.setCell ⟨r, 0, none⟩ vk').heap.size = u1.heap.size := by simp
    omega
  · exact Below.heap_setCell u1 ⟨r, 0, none⟩ _ g (fun e => by have := own3 g hg; dsimp only at e; omega)
  · have := own2 g hg
    rw [Below.heap_setCell u1 ⟨r, 0, none⟩ _ g (fun e => by dsimp only at e; omega)]
    exact k2.block g this.2 (fun e => h.ne g e hg)
  · rcases k3 g hg with e | e
    · exact h.ne g e hv
    · have := own2 g hv; omega
  · exact k2.os.trans h.bel.os
  · exact k2.tape.trans h.bel.tape
  · exact k2.output.trans h.bel.output

theorem RHalf.done {U U2 : World} {vk' vv' : Value} {F : Nat → Prop} (hF : ∀ i, F i ↔ rF r vk0 vv0 i) (hr : r < w.heap.size) (h : RHalf w U r vv0 vk' vv B K') (l1 : U2.ownsRow w.heap.size 9 1 vv' K'.length (scells (valsOf K'))) (l2 : Turn (fun i => vv.ownBlock = some i) U U2) (l3 : ∀ i, vv'.ownBlock = some i → vv.ownBlock = some i ∨ U.heap.size ≤ i) (hK : Rise K') (hl : K'.length ≤ 4096) :
    Goes (RI r K') w (U2.setCell ⟨r, 1, none⟩ vv') F := by
  have hsz := h.size
  have own2 : ∀ g, vv.ownBlock = some g → w.heap.size ≤ g ∧ g < U.heap.size := fun g hg => by obtain ⟨_, h1, hb⟩ := ownsRow_own h.rv hg; exact ⟨hb, lt_of h1⟩
  have own3 : ∀ g, vk'.ownBlock = some g → w.heap.size ≤ g ∧ g < U.heap.size := fun g hg => by obtain ⟨_, h1, hb⟩ := ownsRow_own h.rk hg; exact ⟨hb, lt_of h1⟩
  have own4 : ∀ g, vv'.ownBlock = some g → w.heap.size ≤ g := fun g hg => by obtain ⟨_, _, hb⟩ := ownsRow_own l1 hg; exact hb
  have kr : U2.heap[r]? = some (.cells #[vk', vv0] 28 (0, 0)) := by
    rw [l2.block r (by omega) (fun e => by have := own2 r e; omega)]
    exact h.st
  refine ⟨rF r vk' vv', ⟨vk', vv', ⟨?_, ownsRow_zero (ownsRow_block h.rk fun g hg => ?_), ownsRow_zero (ownsRow_block l1 fun g hg => ?_), fun g hg => ⟨?_, fun e => ?_⟩, fun g hg => ?_, hK, hl⟩, fun _ => Iff.rfl⟩, ⟨?_, ?_, ?_, ?_, fun i hi hn => ?_⟩, fun i hi => ?_⟩
  · rw [heap_setCell_same kr]; rfl
  · have := own3 g hg
    rw [Below.heap_setCell U2 ⟨r, 1, none⟩ _ g (fun e => by dsimp only at e; omega)]
    exact l2.block g this.2 (h.ne g hg)
  · exact Below.heap_setCell U2 ⟨r, 1, none⟩ _ g (fun e => by have := own4 g hg; dsimp only at e; omega)
  · have := own3 g hg; omega
  · have := own3 g hg
    rcases l3 g e with e2 | e2
    · exact h.ne g hg e2
    · omega
  · have := own4 g hg; omega
  · exact l2.os.trans h.rest.1
  · exact l2.tape.trans h.rest.2.1
  · exact l2.output.trans h.rest.2.2
  · have := l2.size
    have : (U2.setCell ⟨r, 1, none⟩ vv').heap.size = U2.heap.size := by simp
    omega
  · have hir : i ≠ r := fun e => hn ((hF i).2 (Or.inl e))
    rw [Below.heap_setCell U2 ⟨r, 1, none⟩ _ i hir, l2.block i (by omega) (fun e => by have := own2 i e; omega)]
    exact h.old i hi hir
  · rcases hi with rfl | hi | hi
    · exact Or.inl ((hF i).2 (Or.inl rfl))
    · exact Or.inr (own3 i hi).1
    · exact Or.inr (own4 i hi)
theorem RHalf.cell {U U2 : World} {vk' : Value} (h : RHalf w U r vv0 vk' vv B K') (hr : r < w.heap.size) (l2 : Turn (fun i => vv.ownBlock = some i) U U2) : U2.cell? ⟨r, 1, none⟩ = some vv0 ∧ U2.frozen? ⟨r, 1, none⟩ = false := by
  have kr : U2.heap[r]? = some (.cells #[vk', vv0] 28 (0, 0)) := by
    rw [l2.block r (by have := h.size; omega) (fun e => by obtain ⟨_, _, hb⟩ := ownsRow_own h.rv e; omega)]
    exact h.st
  exact ⟨by rw [cell_of kr]; rfl, frozen_of kr _⟩
end



section
variable {K : List Kv} {k : ByteArray} {v : ByteArray} {i : Nat}
theorem plc_there (h : Rise K) (hp : K[i]? = some (k, v)) : getK k K = some v := (getK_some h).2 (List.mem_of_getElem? hp)
theorem plc_none (h : Rise K) (ha : At k K i) (hno : ∀ v, K[i]? ≠ some (k, v)) : getK k K = none := by
  rw [getK_none]
  rintro ⟨a, b⟩ hp rfl
  obtain ⟨j, hj⟩ := List.getElem?_of_mem hp
  rcases Nat.lt_trichotomy j i with h1 | h1 | h1
  · have := ha.ahead j _ h1 hj
    rw [bl_self] at this
    cases this
  · subst h1
    exact hno b hj
  · have hi : i < K.length := by have := (List.getElem?_eq_some_iff.1 hj).1; omega
    have h2 := ha.here _ (List.getElem?_eq_getElem hi)
    have h3 := rise_lt h h1 (List.getElem?_eq_getElem hi) hj
    rw [h2] at h3
    cases h3
theorem insertIdx_parts {α : Type} {x : α} : ∀ {L : List α} {i : Nat}, i ≤ L.length → L.insertIdx i x = (L.take i ++ [x]) ++ L.drop i
  | L, 0, _ => by simp
  | [], i + 1, h => by simp at h
  | y :: L, i + 1, h => by
    have := insertIdx_parts (x := x) (L := L) (i := i) (by simpa using h)
    simp [this]
theorem keys_ins (hi : i ≤ K.length) : scells (keysOf (K.insertIdx i (k, v))) = (([] ++ (scells (keysOf K)).take i) ++ [.string k]) ++ (scells (keysOf K)).drop i := by
  rw [insertIdx_parts hi]
  simp [scells, keysOf]
theorem vals_ins (hi : i ≤ K.length) : scells (valsOf (K.insertIdx i (k, v))) = (([] ++ (scells (valsOf K)).take i) ++ [.string v]) ++ (scells (valsOf K)).drop i := by
  rw [insertIdx_parts hi]
  simp [scells, valsOf]
theorem keys_del : scells (keysOf (K.eraseIdx i)) = ([] ++ (scells (keysOf K)).take i) ++ (scells (keysOf K)).drop (i + 1) := by
  rw [List.eraseIdx_eq_take_drop_succ]
  simp [scells, keysOf]
theorem vals_del : scells (valsOf (K.eraseIdx i)) = ([] ++ (scells (valsOf K)).take i) ++ (scells (valsOf K)).drop (i + 1) := by
  rw [List.eraseIdx_eq_take_drop_succ]
  simp [scells, valsOf]
theorem one_new {u : World} {x : Value} {T : TypeId} {fz : Nat × Nat} (_ : [x] ≠ []) : ∃ b off, (some ⟨u.heap.size, 0, none⟩ : Option Addr) = some ⟨b, off, none⟩ ∧ ∀ (j : Nat) y, [x][j]? = some y → (u.alloc (.cells #[x] T fz)).cell? ⟨b, off + j, none⟩ = some y := by
  refine ⟨u.heap.size, 0, rfl, fun j y hy => ?_⟩
  cases j with
  | zero =>
    simp at hy
    subst hy
    rw [cell_of (heap_new u _)]
    rfl
  | succ j => simp at hy
theorem below_al (u : World) (o : Obj) : Below u.heap.size u (u.alloc o) := (Below.refl _ _).alloc (Nat.le_refl _) _
end


theorem length_ins_new {k : ByteArray} {v : ByteArray} : ∀ {K : List Kv}, Rise K → getK k K = none → (insK k v K).length = K.length + 1
  | [], _, _ => rfl
  | p :: r, h, hg => by
    unfold insK
    have hp : p.1 ≠ k := getK_none.1 hg p (List.mem_cons_self ..)
    by_cases hb : bl p.1 k = true
    · rw [if_pos hb, List.length_cons, length_ins_new (List.pairwise_cons.1 h).2 (getK_none.2 fun q hq => getK_none.1 hg q (List.mem_cons_of_mem _ hq)), List.length_cons]
    · rw [if_neg hb, if_neg hp, List.length_cons]
theorem length_ins_old {k : ByteArray} {v v0 : ByteArray} {K : List Kv} (h : Rise K) (hg : getK k K = some v0) : (insK k v K).length = K.length := by
  obtain ⟨i, hi⟩ := List.getElem?_of_mem ((getK_some h).1 hg)
  rw [insK_there h hi, List.length_set]
theorem length_del {k : ByteArray} {v0 : ByteArray} {K : List Kv} (h : Rise K) (hg : getK k K = some v0) : (delK k K).length + 1 = K.length := by
  obtain ⟨i, hi⟩ := List.getElem?_of_mem ((getK_some h).1 hg)
  have hl := (List.getElem?_eq_some_iff.1 hi).1
  rw [delK_at h hi, List.length_eraseIdx_of_lt hl]
  omega


theorem take_one {X : List Value} (h : ∀ u ∈ X, u.oneCell' = true) (i : Nat) : ∀ u ∈ X.take i, u.oneCell' = true := fun u hu => h u (List.mem_of_mem_take hu)
theorem drop_one {X : List Value} (h : ∀ u ∈ X, u.oneCell' = true) (i : Nat) : ∀ u ∈ X.drop i, u.oneCell' = true := fun u hu => h u (List.mem_of_mem_drop hu)
theorem str_one (k : ByteArray) : ∀ u ∈ [Value.string k], u.oneCell' = true := fun u hu => by rw [List.mem_singleton.1 hu]; rfl

/-- what a slice operation tells, and what it shows as long as a row is as it was -/
def Part (T : TypeId) (v : Value) (lo hi : Option Value) (w : World) (m : Nat) (ys : List Value) (ad : Option Addr) (c : Nat) : Prop :=
  (∀ W : World, (Instr.slice T v lo hi none).run Tryd.prog W = .ok (.slice ad m c) W) ∧ (ad = none → c = 0) ∧ ∀ u : World, (∀ g, v.ownBlock = some g → u.heap[g]? = w.heap[g]?) → ys ≠ [] → ∃ b off, ad = some ⟨b, off, none⟩ ∧ ∀ (j : Nat) x, ys[j]? = some x → u.cell? ⟨b, off + j, none⟩ = some x


end Go.Proofs.YtibglhlhogfdnaaDoor
