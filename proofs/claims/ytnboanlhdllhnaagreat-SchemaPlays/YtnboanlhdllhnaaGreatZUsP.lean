/- The document's reader of schemas: the schema as far as it has come, in memory. -/
import Derived.Test.YtnboanlhdllhnaaGreatZUrJ
import Derived.Test.YtnboanlhdllhnaaGreatZApp
import Derived.Test.YtnboanlhdllhnaaGreatZRdJ
namespace Go.Proofs.YtnboanlhdllhnaaGreat
open Go.RowKit

theorem ownsRow_up {w : World} {base base' : Nat} {e : TypeId} {size : Nat} {v : Value} {n : Nat} {xs : List Value} (h : w.ownsRow base e size v n xs) (hb : ∀ g, v.ownBlock = some g → base' ≤ g) : w.ownsRow base' e size v n xs := by
  obtain ⟨h1, h2⟩ := h
  refine ⟨h1, ?_⟩
  rcases h2 with h2 | ⟨g, cap, cur, rfl, hg, r⟩
  · exact Or.inl h2
  · exact Or.inr ⟨g, cap, cur, rfl, hb g rfl, r⟩
theorem uRep_len {α : Type} (f : Us → α × Us) : ∀ (k : Nat) (s : Us), (uRep f k s).1.length ≤ k
  | 0, _ => Nat.le_refl _
  | k + 1, s => by
    unfold uRep
    split
    · exact Nat.zero_le _
    · have := uRep_len f k (f s).2
      simp only [List.length_cons]
      omega
/-- rows of other types lie elsewhere -/
theorem row_apart {w : World} {base base' : Nat} {e e' : TypeId} {size size' : Nat} {v v' : Value} {n n' : Nat} {xs xs' : List Value} (h : w.ownsRow base e size v n xs) (h' : w.ownsRow base' e' size' v' n' xs') (he : e ≠ e') {g : Nat} (hg : v.ownBlock = some g) : ¬ v'.ownBlock = some g := fun hg' => by
  obtain ⟨c1, k1, _⟩ := ownsRow_own h hg
  obtain ⟨c2, k2, _⟩ := ownsRow_own h' hg'
  rw [k1] at k2
  injection k2 with k2
  injection k2 with _ k3
  exact he k3
theorem row_not {w : World} {base : Nat} {e e' : TypeId} {size : Nat} {v : Value} {n : Nat} {xs : List Value} {b : Nat} {c : Array Value} {fz : Nat × Nat} (h : w.ownsRow base e size v n xs) (hb : w.heap[b]? = some (.cells c e' fz)) (he : e ≠ e') : ¬ v.ownBlock = some b := fun hg => by
  obtain ⟨c1, k1, _⟩ := ownsRow_own h hg
  rw [k1] at hb
  injection hb with k2
  injection k2 with _ k3
  exact he k3

/-- a slice, by its parts -/
structure Sl where
  a : Option Addr
  n : Nat
  c : Nat
abbrev Sl.v (s : Sl) : Value := .slice s.a s.n s.c
abbrev Sl.nil : Sl := ⟨none, 0, 0⟩

/-- as far as it has come: the reader, the schema's own variable, its rows -/
structure UT (w wr : World) (b tb : Nat) (B : List UInt8) (s : Us) (nm : ByteArray) (P : Sl) (C : List (ByteArray × Int)) (key : Int) (R : Sl) (X : List Iv) : Prop where
  rd : UrI b B s wr
  at1 : At1 b w wr
  t : wr.heap[tb]? = some (.cells #[.string nm, P.v, .int .i64 key, R.v] 32 (0, 0))
  z : wr.heap[w.heap.size]? = some tabZ
  old : b < w.heap.size
  new : w.heap.size < tb
  co : wr.ownsRow (w.heap.size + 1) 70 2 P.v P.n (flat enC C)
  col : C.length = P.n
  ix : wr.ownsRow (w.heap.size + 1) 64 3 R.v R.n (flat enX X)
  ixl : X.length = R.n
  nums : ∀ x ∈ X, NumsO wr (w.heap.size + 1) x

section
variable {w wr u : World} {b tb : Nat} {B : List UInt8} {s s' : Us} {nm : ByteArray} {P R : Sl} {C : List (ByteArray × Int)} {key : Int} {X : List Iv}

/-- the reader has gone on -/
theorem UT.on (h : UT w wr b tb B s nm P C key R X) (hr : UrI b B s' u) (ha : At1 b wr u) : UT w u b tb B s' nm P C key R X := by
  have o := h.old
  have n := h.new
  exact ⟨hr, h.at1.trans ha, (ha.block tb (lt_of h.t) (by omega)).trans h.t, (ha.block _ (lt_of h.z) (by omega)).trans h.z, o, n, own_at1 h.co ha (by omega), h.col, own_at1 h.ix ha (by omega), h.ixl, fun x hx => own_at1 (h.nums x hx) ha (by omega)⟩
theorem UT.fresh (h : UT w wr b tb B s nm P C key R X) (hb : Below wr.heap.size wr u) : UT w u b tb B s nm P C key R X := h.on ((hb.block b (lt_of h.rd)).trans h.rd) (Turn.ofBelow _ hb)
theorem UT.cells (h : UT w wr b tb B s nm P C key R X) : wr.cell? ⟨tb, 0, none⟩ = some (.string nm) ∧ wr.cell? ⟨tb, 1, none⟩ = some P.v ∧ wr.cell? ⟨tb, 2, none⟩ = some (.int .i64 key) ∧ wr.cell? ⟨tb, 3, none⟩ = some R.v :=
  ⟨by rw [cell_of h.t]; rfl, by rw [cell_of h.t]; rfl, by rw [cell_of h.t]; rfl, by rw [cell_of h.t]; rfl⟩
theorem UT.frozen (h : UT w wr b tb B s nm P C key R X) (i : Nat) : wr.frozen? ⟨tb, i, none⟩ = false := frozen_of h.t i

/-- the rows lie elsewhere than the variable -/
theorem UT.rows_tb (h : UT w wr b tb B s nm P C key R X) : ¬ P.v.ownBlock = some tb ∧ ¬ R.v.ownBlock = some tb ∧ ∀ x ∈ X, ¬ x.v.ownBlock = some tb :=
  ⟨row_not h.co h.t (by decide), row_not h.ix h.t (by decide), fun x hx => row_not (h.nums x hx) h.t (by decide)⟩
/-- its key is stored -/
theorem UT.setKey (h : UT w wr b tb B s nm P C key R X) (k : Int) : UT w (wr.setCell ⟨tb, 2, none⟩ (.int .i64 k)) b tb B s nm P C k R X := by
  have o := h.old
  have n := h.new
  obtain ⟨r1, r2, r3⟩ := h.rows_tb
  have ht : Turn (fun i => i = tb) wr (wr.setCell ⟨tb, 2, none⟩ (.int .i64 k)) := Turn.setCell (S := fun i => i = tb) wr ⟨tb, 2, none⟩ _ rfl
  have fr : ∀ {T : TypeId} {m k : Nat} {v : Value} {xs : List Value}, wr.ownsRow (w.heap.size + 1) T m v k xs → ¬ v.ownBlock = some tb → (wr.setCell ⟨tb, 2, none⟩ (.int .i64 _)).ownsRow (w.heap.size + 1) T m v k xs := fun hrow hn =>
    ownsRow_block hrow fun g hg => ht.block g (World.ownsRow.lt hrow g hg).2 (fun e => hn (by rw [← e]; exact hg))
  exact ⟨(ht.block b (lt_of h.rd) (by omega)).trans h.rd, h.at1.transNew ht (fun i hi => Or.inr (by omega)), heap_setCell_same h.t 2 _, (ht.block _ (lt_of h.z) (by omega)).trans h.z, o, n, fr h.co r1, h.col, fr h.ix r2, h.ixl, fun x hx => fr (h.nums x hx) (r3 x hx)⟩

/-- one column more -/
theorem UT.col1 (h : UT w wr b tb B s nm P C key R X) {A' : Option Addr} {m' : Nat} {y : ByteArray × Int} (ht : Turn (fun i => P.v.ownBlock = some i) wr u)
    (hrow : u.ownsRow 0 70 2 (.slice A' (P.n + 1) m') (P.n + 1) (flat enC (C ++ [y]))) (hw : ∀ i, (Value.slice A' (P.n + 1) m').ownBlock = some i → P.v.ownBlock = some i ∨ wr.heap.size ≤ i) :
    UT w (u.setCell ⟨tb, 1, none⟩ (.slice A' (P.n + 1) m')) b tb B s nm ⟨A', P.n + 1, m'⟩ (C ++ [y]) key R X := by
  have o := h.old
  have n := h.new
  have hs := h.at1.size
  obtain ⟨r1, r2, r3⟩ := h.rows_tb
  have hpl : ∀ i, P.v.ownBlock = some i → w.heap.size + 1 ≤ i := fun i hi => (World.ownsRow.lt h.co i hi).1
  have ht2 : Turn (fun i => i = tb) u (u.setCell ⟨tb, 1, none⟩ (.slice A' (P.n + 1) m')) := Turn.setCell (S := fun i => i = tb) u ⟨tb, 1, none⟩ _ rfl
  have ht3 : Turn (fun i => P.v.ownBlock = some i ∨ i = tb) wr (u.setCell ⟨tb, 1, none⟩ (.slice A' (P.n + 1) m')) := (ht.mono fun _ => Or.inl).trans (ht2.mono fun _ => Or.inr)
  have htb := lt_of h.t
  have hnew : ∀ i, (Value.slice A' (P.n + 1) m').ownBlock = some i → w.heap.size + 1 ≤ i ∧ i ≠ tb := fun i hi => by
    rcases hw i hi with k | k
    · exact ⟨hpl i k, fun e => r1 (by rw [← e]; exact k)⟩
    · exact ⟨by omega, by omega⟩
  have fr : ∀ {T : TypeId} {m k : Nat} {v : Value} {xs : List Value}, wr.ownsRow (w.heap.size + 1) T m v k xs → ¬ v.ownBlock = some tb → T ≠ 70 → (u.setCell ⟨tb, 1, none⟩ (.slice A' (P.n + 1) m')).ownsRow (w.heap.size + 1) T m v k xs := fun hrow hn hT =>
    ownsRow_block hrow fun g hg => ht3.block g (World.ownsRow.lt hrow g hg).2 (fun e => by
      rcases e with e | e
      · exact row_apart hrow h.co hT hg e
      · exact hn (by rw [← e]; exact hg))
  refine ⟨(ht3.block b (lt_of h.rd) (fun e => ?_)).trans h.rd, h.at1.transNew ht3 (fun i hi => Or.inr ?_), heap_setCell_same ((ht.block tb htb r1).trans h.t) 1 _, (ht3.block _ (lt_of h.z) (fun e => ?_)).trans h.z, o, n, ?_, by simp [h.col], fr h.ix r2 (by decide), h.ixl, fun x hx => fr (h.nums x hx) (r3 x hx) (by decide)⟩
  · rcases e with e | e
    · have := hpl b e; omega
    · omega
  · rcases hi with e | e
    · have := hpl i e; omega
    · omega
  · rcases e with e | e
    · have := hpl _ e; omega
    · omega
  · exact ownsRow_up (ownsRow_block hrow fun g hg => ht2.block g (World.ownsRow.lt hrow g hg).2 (hnew g hg).2) (fun g hg => (hnew g hg).1)

/-- one index more -/
theorem UT.ix1 (h : UT w wr b tb B s nm P C key R X) {A' : Option Addr} {m' : Nat} {y : Iv} (ht : Turn (fun i => R.v.ownBlock = some i) wr u)
    (hrow : u.ownsRow 0 64 3 (.slice A' (R.n + 1) m') (R.n + 1) (flat enX (X ++ [y]))) (hw : ∀ i, (Value.slice A' (R.n + 1) m').ownBlock = some i → R.v.ownBlock = some i ∨ wr.heap.size ≤ i) (hy : NumsO wr (w.heap.size + 1) y) :
    UT w (u.setCell ⟨tb, 3, none⟩ (.slice A' (R.n + 1) m')) b tb B s nm P C key ⟨A', R.n + 1, m'⟩ (X ++ [y]) := by
  have o := h.old
  have n := h.new
  have hs := h.at1.size
  obtain ⟨r1, r2, r3⟩ := h.rows_tb
  have ry : ¬ y.v.ownBlock = some tb := row_not hy h.t (by decide)
  have hpl : ∀ i, R.v.ownBlock = some i → w.heap.size + 1 ≤ i := fun i hi => (World.ownsRow.lt h.ix i hi).1
  have ht2 : Turn (fun i => i = tb) u (u.setCell ⟨tb, 3, none⟩ (.slice A' (R.n + 1) m')) := Turn.setCell (S := fun i => i = tb) u ⟨tb, 3, none⟩ _ rfl
  have ht3 : Turn (fun i => R.v.ownBlock = some i ∨ i = tb) wr (u.setCell ⟨tb, 3, none⟩ (.slice A' (R.n + 1) m')) := (ht.mono fun _ => Or.inl).trans (ht2.mono fun _ => Or.inr)
  have htb := lt_of h.t
  have hnew : ∀ i, (Value.slice A' (R.n + 1) m').ownBlock = some i → w.heap.size + 1 ≤ i ∧ i ≠ tb := fun i hi => by
    rcases hw i hi with k | k
    · exact ⟨hpl i k, fun e => r2 (by rw [← e]; exact k)⟩
    · exact ⟨by omega, by omega⟩
  have fr : ∀ {T : TypeId} {m k : Nat} {v : Value} {xs : List Value}, wr.ownsRow (w.heap.size + 1) T m v k xs → ¬ v.ownBlock = some tb → T ≠ 64 → (u.setCell ⟨tb, 3, none⟩ (.slice A' (R.n + 1) m')).ownsRow (w.heap.size + 1) T m v k xs := fun hrow hn hT =>
    ownsRow_block hrow fun g hg => ht3.block g (World.ownsRow.lt hrow g hg).2 (fun e => by
      rcases e with e | e
      · exact row_apart hrow h.ix hT hg e
      · exact hn (by rw [← e]; exact hg))
  refine ⟨(ht3.block b (lt_of h.rd) (fun e => ?_)).trans h.rd, h.at1.transNew ht3 (fun i hi => Or.inr ?_), heap_setCell_same ((ht.block tb htb r2).trans h.t) 3 _, (ht3.block _ (lt_of h.z) (fun e => ?_)).trans h.z, o, n, fr h.co r1 (by decide), h.col, ?_, by simp [h.ixl], fun x hx => ?_⟩
  · rcases e with e | e
    · have := hpl b e; omega
    · omega
  · rcases hi with e | e
    · have := hpl i e; omega
    · omega
  · rcases e with e | e
    · have := hpl _ e; omega
    · omega
  · exact ownsRow_up (ownsRow_block hrow fun g hg => ht2.block g (World.ownsRow.lt hrow g hg).2 (hnew g hg).2) (fun g hg => (hnew g hg).1)
  · rcases List.mem_append.1 hx with hx | hx
    · exact fr (h.nums x hx) (r3 x hx) (by decide)
    · rw [List.mem_singleton.1 hx]; exact fr hy ry (by decide)

/-- an index's own variable, as far as it has come: behind a world of its own -/
structure UX (wx wr : World) (b xb : Nat) (B : List UInt8) (s : Us) (xn : ByteArray) (P : Sl) (D : List Int) : Prop where
  rd : UrI b B s wr
  at1 : At1 b wx wr
  x : wr.heap[xb]? = some (.cells #[.string xn, P.v, .bool false] 64 (0, 0))
  old : b < wx.heap.size
  new : wx.heap.size ≤ xb
  row : wr.ownsRow wx.heap.size 3 1 P.v P.n (flat enI D)
  len : D.length = P.n
end

section
variable {wx wr u : World} {b xb : Nat} {B : List UInt8} {s s' : Us} {xn : ByteArray} {P : Sl} {D : List Int}
theorem UX.on (h : UX wx wr b xb B s xn P D) (hr : UrI b B s' u) (ha : At1 b wr u) : UX wx u b xb B s' xn P D := by
  have o := h.old
  have n := h.new
  exact ⟨hr, h.at1.trans ha, (ha.block xb (lt_of h.x) (by omega)).trans h.x, o, n, own_at1 h.row ha (by omega), h.len⟩
theorem UX.fresh (h : UX wx wr b xb B s xn P D) (hb : Below wr.heap.size wr u) : UX wx u b xb B s xn P D := h.on ((hb.block b (lt_of h.rd)).trans h.rd) (Turn.ofBelow _ hb)
theorem UX.cells (h : UX wx wr b xb B s xn P D) : wr.cell? ⟨xb, 0, none⟩ = some (.string xn) ∧ wr.cell? ⟨xb, 1, none⟩ = some P.v ∧ wr.cell? ⟨xb, 2, none⟩ = some (.bool false) :=
  ⟨by rw [cell_of h.x]; rfl, by rw [cell_of h.x]; rfl, by rw [cell_of h.x]; rfl⟩
theorem UX.frozen (h : UX wx wr b xb B s xn P D) (i : Nat) : wr.frozen? ⟨xb, i, none⟩ = false := frozen_of h.x i
/-- one number more -/
theorem UX.num1 (h : UX wx wr b xb B s xn P D) {A' : Option Addr} {m' : Nat} {y : Int} (ht : Turn (fun i => P.v.ownBlock = some i) wr u)
    (hrow : u.ownsRow 0 3 1 (.slice A' (P.n + 1) m') (P.n + 1) (flat enI (D ++ [y]))) (hw : ∀ i, (Value.slice A' (P.n + 1) m').ownBlock = some i → P.v.ownBlock = some i ∨ wr.heap.size ≤ i) :
    UX wx (u.setCell ⟨xb, 1, none⟩ (.slice A' (P.n + 1) m')) b xb B s xn ⟨A', P.n + 1, m'⟩ (D ++ [y]) := by
  have o := h.old
  have n := h.new
  have hs := h.at1.size
  have r1 : ¬ P.v.ownBlock = some xb := row_not h.row h.x (by decide)
  have hpl : ∀ i, P.v.ownBlock = some i → wx.heap.size ≤ i := fun i hi => (World.ownsRow.lt h.row i hi).1
  have ht2 : Turn (fun i => i = xb) u (u.setCell ⟨xb, 1, none⟩ (.slice A' (P.n + 1) m')) := Turn.setCell (S := fun i => i = xb) u ⟨xb, 1, none⟩ _ rfl
  have ht3 : Turn (fun i => P.v.ownBlock = some i ∨ i = xb) wr (u.setCell ⟨xb, 1, none⟩ (.slice A' (P.n + 1) m')) := (ht.mono fun _ => Or.inl).trans (ht2.mono fun _ => Or.inr)
  have htb := lt_of h.x
  have hnew : ∀ i, (Value.slice A' (P.n + 1) m').ownBlock = some i → wx.heap.size ≤ i ∧ i ≠ xb := fun i hi => by
    rcases hw i hi with k | k
    · exact ⟨hpl i k, fun e => r1 (by rw [← e]; exact k)⟩
    · exact ⟨by omega, by omega⟩
  refine ⟨(ht3.block b (lt_of h.rd) (fun e => ?_)).trans h.rd, h.at1.transNew ht3 (fun i hi => Or.inr ?_), heap_setCell_same ((ht.block xb htb r1).trans h.x) 1 _, o, n, ?_, by simp [h.len]⟩
  · rcases e with e | e
    · have := hpl b e; omega
    · omega
  · rcases hi with e | e
    · exact hpl i e
    · omega
  · exact ownsRow_up (ownsRow_block hrow fun g hg => ht2.block g (World.ownsRow.lt hrow g hg).2 (hnew g hg).2) (fun g hg => (hnew g hg).1)
end

theorem UX.flag {wx wr : World} {b xb : Nat} {B : List UInt8} {s : Us} {xn : ByteArray} {P : Sl} {D : List Int} (h : UX wx wr b xb B s xn P D) (un : Bool) :
    UrI b B s (wr.setCell ⟨xb, 2, none⟩ (.bool un)) ∧ At1 b wx (wr.setCell ⟨xb, 2, none⟩ (.bool un)) ∧ (wr.setCell ⟨xb, 2, none⟩ (.bool un)).heap[xb]? = some (.cells #[.string xn, P.v, .bool un] 64 (0, 0)) ∧ (wr.setCell ⟨xb, 2, none⟩ (.bool un)).ownsRow wx.heap.size 3 1 P.v P.n (flat enI D) := by
  have o := h.old
  have n := h.new
  have ht : Turn (fun i => i = xb) wr (wr.setCell ⟨xb, 2, none⟩ (.bool un)) := Turn.setCell (S := fun i => i = xb) wr ⟨xb, 2, none⟩ _ rfl
  exact ⟨(ht.block b (lt_of h.rd) (by omega)).trans h.rd, h.at1.transNew ht (fun i hi => Or.inr (by omega)), heap_setCell_same h.x 2 _, ownsRow_block h.row fun g hg => ht.block g (World.ownsRow.lt h.row g hg).2 (fun e => row_not h.row h.x (by decide) (by rw [← e]; exact hg))⟩
theorem iv_at (w : World) (x : ByteArray) (D : List Int) (un : Bool) (A : Option Addr) (n c : Nat) : ∀ j u, (enX ⟨⟨x, D, un⟩, .slice A n c⟩)[j]? = some u → (w.alloc (.cells #[.string x, .slice A n c, .bool un] 64 (0, 0))).cell? ⟨w.heap.size, j, none⟩ = some u := fun j u hu => by
  rw [cell_of (heap_new w _)]
  simpa [enX] using hu
theorem one_iv (x : ByteArray) (D : List Int) (un : Bool) (A : Option Addr) (n c : Nat) : ∀ u ∈ enX ⟨⟨x, D, un⟩, .slice A n c⟩, u.oneCell' = true := fun u hu => by
  simp only [enX, List.mem_cons, List.not_mem_nil, or_false] at hu
  rcases hu with rfl | rfl | rfl <;> rfl
/-- at its end: the schema is stored as the result -/
theorem UT.fin {w wr : World} {b tb : Nat} {B : List UInt8} {s : Us} {nm : ByteArray} {P R : Sl} {C : List (ByteArray × Int)} {key : Int} {X : List Iv} {I : List Ix} (h : UT w wr b tb B s nm P C key R X) (hI : X.map Iv.ix = I) :
    UrI b B s (set4 wr w.heap.size (.string nm) P.v (.int .i64 key) R.v) ∧ At1 b w (set4 wr w.heap.size (.string nm) P.v (.int .i64 key) R.v) ∧ TabO (set4 wr w.heap.size (.string nm) P.v (.int .i64 key) R.v) w.heap.size P.v R.v X ⟨nm, C, key, I⟩ := by
  have ht := set4_turn wr w.heap.size (.string nm) P.v (.int .i64 key) R.v
  have o := h.old
  have fr : ∀ {T : TypeId} {m k : Nat} {v : Value} {xs : List Value}, wr.ownsRow (w.heap.size + 1) T m v k xs → (set4 wr w.heap.size (.string nm) P.v (.int .i64 key) R.v).ownsRow w.heap.size T m v k xs := fun hrow =>
    ownsRow_low (ownsRow_block hrow fun g hg => ht.block g (World.ownsRow.lt hrow g hg).2 (by have := (World.ownsRow.lt hrow g hg).1; omega)) (by omega)
  refine ⟨(ht.block b (lt_of h.rd) (by omega)).trans h.rd, h.at1.transNew ht (fun i hi => Or.inr (by omega)), ?_, ?_, hI, fun x hx => fr (h.nums x hx)⟩
  · show World.ownsRow _ _ _ _ _ C.length _
    rw [h.col]; exact fr h.co
  · rw [h.ixl]; exact fr h.ix

/-- what the document's reader of schemas answers -/
def UTabR (b : Nat) (B : List UInt8) (w : World) (p : Tab × Us) (e : Ending) (w' : World) : Prop :=
  ∃ ca cn cc ia n ic X, e = .returned (.agg #[.string p.1.nm, .slice ca cn cc, .int .i64 p.1.key, .slice ia n ic]) ∧ Hid (UrI b B p.2 w' ∧ At1 b w w' ∧ TabO w' w.heap.size (.slice ca cn cc) (.slice ia n ic) X p.1)

/-- one thing more at the end of a row of a call's own, at an operation -/
theorem wpList_append_one {w : World} {ops : Array Oper} {rest : List Oper} {o : Oper} {a : Act} {Q : Exit → Act → World → Prop} (hgd : o.guard = none) (s x : Operand) (t : TypeId)
    (ho : o.op = .call { callee := .builtin .append, args := #[s, x], argTypes := #[t, t] })
    (e : TypeId) (z : Value) (size bytes : Nat) (ht : Tryz.prog.underlying t = some (.slice e)) (hinfo : (Tryz.prog.info? e).map (fun i => (i.zero, i.size, i.bytes)) = some (some z, size, bytes)) (hzs : z.cells.size = size) (hsz : 0 < size) (hby : bytes ≤ 1024)
    {α : Type} (en : α → List Value) (hm : ∀ y, (en y).length = size) (L : List α) (y : α) (hone : ∀ u ∈ en y, u.oneCell' = true)
    (A : Option Addr) (n m : Nat) (hs : a.eval s = .slice A n m) (hown : w.ownsRow 0 e size (.slice A n m) n (flat en L)) (hn : n ≤ 1000000)
    (p : Nat) (hx : a.eval x = .slice (some ⟨p, 0, none⟩) 1 1) (hp : ∀ j u, (en y)[j]? = some u → w.cell? ⟨p, j, none⟩ = some u)
    (h : ∀ A' m' w', Hid (w'.ownsRow 0 e size (.slice A' (n + 1) m') (n + 1) (flat en (L ++ [y]))) → Hid (Turn (fun i => (Value.slice A n m).ownBlock = some i) w w') → Hid (∀ i, (Value.slice A' (n + 1) m').ownBlock = some i → (Value.slice A n m).ownBlock = some i ∨ w.heap.size ≤ i) → wpList Tryz.prog ops Q rest (a.put o.dst (.slice A' (n + 1) m')) w') :
    wpList Tryz.prog ops Q (o :: rest) a w := by
  obtain ⟨i, hi, hz, h1, h2⟩ := info_parts hinfo
  have hb : (n + 1) * bytes ≤ 1000001 * 1024 := Nat.mul_le_mul (by omega) hby
  refine wpList_append_own_at w hgd s x t ho 0 e i z size bytes ht hi hz h1 h2 hzs hsz _ n (flat en L) hs hown ⟨p, 0, none⟩ 1 1 (en y) hx (by rw [hm, Nat.one_mul]) (fun j u hu => by rw [Addr.add_lit, Nat.zero_add]; exact hp j u hu) hone (by unfold maxLen; omega) (by omega) (Nat.zero_le _) (fun v' w' k1 k2 _ k4 => ?_)
  obtain ⟨A', m', rfl⟩ := own_shape k1
  refine h A' m' w' ?_ (Turn.ofGrown k2 (fun k hk => hk)) (fun i hi => ?_)
  · show World.ownsRow _ _ _ _ _ _ _
    rw [flat_append]
    simpa [flat] using k1
  · rcases k4 with k | k
    · exact Or.inl (k ▸ hi)
    · rw [k] at hi
      right
      injection hi with hi
      omega

end Go.Proofs.YtnboanlhdllhnaaGreat
