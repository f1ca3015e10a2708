/- The book's CopyTable (its first statement, whose order is drawn, is written by zcp.py). -/
import Derived.Test.YtnboanlhdllhnaaGreatZUsP
import Derived.Laws.AppendOwnNone
import Derived.Deep.CutBlock
import Derived.Deep.LoopGhost
namespace Go.Proofs.YtnboanlhdllhnaaGreat
open Go.RowKit

/-- append([]E{}, l...) within a region that draws -/
theorem step_append_copy {w : World} {ops : Array Oper} {o : Oper} {a : Act} {K : Act → World → Prop} {Q : Exit → Act → World → Prop} {E : Prop} (hgd : o.guard = none) (s x : Operand) (t : TypeId)
    (ho : o.op = .call { callee := .builtin .append, args := #[s, x], argTypes := #[t, t] })
    (base : Nat) (e : TypeId) (i : TypeInfo) (z : Value) (size bytes : Nat) (ht : Tryz.prog.underlying t = some (.slice e)) (hi : Tryz.prog.info? e = some i) (hz : i.zero = some z)
    (hsize : i.size = size) (hby : i.bytes = bytes) (hzs : z.cells.size = size) (hsz : 0 < size)
    (g : Nat) (hs : a.eval s = .slice (some ⟨g, 0, none⟩) 0 0) (hown : w.ownsRow base e size (.slice (some ⟨g, 0, none⟩) 0 0) 0 [])
    {α : Type} (en : α → List Value) (hm : ∀ y, (en y).length = size) (hone : ∀ y, ∀ u ∈ en y, u.oneCell' = true) (vx : Value) (L : List α) (hx : a.eval x = vx) (hsl : SliceAt w vx size en L) (hnil : NilOk vx)
    (h63 : L.length * bytes ≤ 140737488355328) (hbase : base ≤ w.heap.size)
    (h : ∀ b k w', w'.ownsRow base e size (.slice b L.length k) L.length (flat en L) → w.grownBy w' (some g) → K (a.put o.dst (.slice b L.length k)) w') :
    if Region.wanted o (yielded ops a.tmps) = true then Oper.wp Tryz.prog o a w K Q else E := by
  have hw : Region.wanted o (yielded ops a.tmps) = true := by simp [Region.wanted, hgd]
  rw [if_pos hw]
  have h' : ∀ v' w', w'.ownsRow base e size v' L.length (flat en L) → w.grownBy w' (some g) → K (a.put o.dst v') w' := by
    intro v' w' h1 h2
    obtain ⟨b, k, rfl, -⟩ := own_slice (en := en) hm h1
    exact h b k w' h1 h2
  obtain ⟨ax, cx, rfl, hl, hc, hxx⟩ := hsl
  cases ax with
  | none =>
    have hc0 := hnil _ _ rfl
    subst hc0
    have hL : L = [] := List.length_eq_zero_iff.1 (by omega)
    subst hL
    have hrun := run_append_owned_none (P := Tryz.prog) (w := w) base t o.type e i size ht hi _ 0 [] hown
    unfold Oper.wp
    have hx' : a.eval x = .slice none 0 0 := hx
    simp [execOp, ho, resolve, invoke, builtin, hs, hx', hrun, Result.andThen]
    exact h' _ _ hown ⟨rfl, rfl, rfl, Nat.le_refl _, fun _ _ _ => rfl⟩
  | some ad =>
    refine wp_append_own _ s x t ho base e i z size bytes ht hi hz hsize hby hzs hsz _ 0 [] hs hown ad L.length cx (flat en L) hx (by rw [flat_length hm, Nat.mul_comm]) (fun j u hu => ?_) (fun u hu => ?_) (by omega) (by rw [Nat.zero_add]; exact h63) hbase (fun v' w' h1 h2 _ => h' v' w' (by simpa using h1) h2)
    · have hj : j < size * L.length := by rw [← flat_length hm L]; exact (List.getElem?_eq_some_iff.1 hu).1
      have hne : L ≠ [] := by intro e; subst e; simp at hj
      obtain ⟨b, off, e, _, hcs⟩ := hxx hne
      cases e
      have hq : j / size < L.length := by rw [Nat.div_lt_iff_lt_mul hsz, Nat.mul_comm]; exact hj
      have hr : j % size < size := Nat.mod_lt _ hsz
      have ej : size * (j / size) + j % size = j := Nat.div_add_mod j size
      have h1 := flat_get hm L (j / size) hq (j % size) hr
      rw [ej, hu] at h1
      have h2 := hcs (j / size) hq (j % size) u h1.symm
      rw [Addr.add_lit]
      rw [Nat.add_assoc, Nat.mul_comm (j / size) size, ej] at h2
      exact h2
    · obtain ⟨y, _, hy⟩ := List.mem_flatMap.1 hu
      exact hone y u hy
theorem own_empty {W : World} {g base : Nat} {e : TypeId} {size : Nat} (h : W.heap[g]? = some (.cells #[] e (0, 0))) (hb : base ≤ g) : W.ownsRow base e size (.slice (some ⟨g, 0, none⟩) 0 0) 0 [] :=
  ⟨by simp, Or.inr ⟨g, 0, #[], rfl, hb, h, Nat.le_refl _, Nat.zero_le _, by simp, by simp⟩⟩

/-- one thing more at the end of a row of a call's own, at an operation -/
theorem wpList_append_oneB {w : World} {ops : Array Oper} {rest : List Oper} {o : Oper} {a : Act} {Q : Exit → Act → World → Prop} (hgd : o.guard = none) (s x : Operand) (t : TypeId)
    (ho : o.op = .call { callee := .builtin .append, args := #[s, x], argTypes := #[t, t] })
    (e : TypeId) (z : Value) (size bytes : Nat) (ht : Tryz.prog.underlying t = some (.slice e)) (hinfo : (Tryz.prog.info? e).map (fun i => (i.zero, i.size, i.bytes)) = some (some z, size, bytes)) (hzs : z.cells.size = size) (hsz : 0 < size) 
    {α : Type} (en : α → List Value) (hm : ∀ y, (en y).length = size) (L : List α) (y : α) (hone : ∀ u ∈ en y, u.oneCell' = true)
    (A : Option Addr) (n m : Nat) (hs : a.eval s = .slice A n m) (hown : w.ownsRow 0 e size (.slice A n m) n (flat en L)) (hn : (n + 1) * bytes ≤ 140737488355328) (hml : n + 1 ≤ maxLen)
    (p : Nat) (hx : a.eval x = .slice (some ⟨p, 0, none⟩) 1 1) (hp : ∀ j u, (en y)[j]? = some u → w.cell? ⟨p, j, none⟩ = some u)
    (h : ∀ A' m' w', Hid (w'.ownsRow 0 e size (.slice A' (n + 1) m') (n + 1) (flat en (L ++ [y]))) → Hid (Turn (fun i => (Value.slice A n m).ownBlock = some i) w w') → Hid (∀ i, (Value.slice A' (n + 1) m').ownBlock = some i → (Value.slice A n m).ownBlock = some i ∨ w.heap.size ≤ i) → wpList Tryz.prog ops Q rest (a.put o.dst (.slice A' (n + 1) m')) w') :
    wpList Tryz.prog ops Q (o :: rest) a w := by
  obtain ⟨i, hi, hz, h1, h2⟩ := info_parts hinfo
  refine wpList_append_own_at w hgd s x t ho 0 e i z size bytes ht hi hz h1 h2 hzs hsz _ n (flat en L) hs hown ⟨p, 0, none⟩ 1 1 (en y) hx (by rw [hm, Nat.one_mul]) (fun j u hu => by rw [Addr.add_lit, Nat.zero_add]; exact hp j u hu) hone hml hn (Nat.zero_le _) (fun v' w' k1 k2 _ k4 => ?_)
  obtain ⟨A', m', rfl⟩ := own_shape k1
  refine h A' m' w' ?_ (Turn.ofGrown k2 (fun k hk => hk)) (fun i hi => ?_)
  · show World.ownsRow _ _ _ _ _ _ _
    rw [flat_append]
    simpa [flat] using k1
  · rcases k4 with k | k
    · exact Or.inl (k ▸ hi)
    · rw [k] at hi
      right
      injection hi with hi
      omega

/-- a schema that can be copied: nil slices have no room, and nothing is too long -/
structure CpOk (w : World) (cv iv : Value) (X : List Iv) (T : Tab) : Prop where
  co : SliceAt w cv 2 enC T.co
  con : NilOk cv
  col : T.co.length * 24 ≤ 140737488355328
  ix : SliceAt w iv 3 enX X
  eq : X.map Iv.ix = T.ix
  ixl : X.length * 48 ≤ 140737488355328
  nums : ∀ x ∈ X, SliceAt w x.v 1 enI x.ix.cs ∧ NilOk x.v ∧ x.ix.cs.length * 8 ≤ 140737488355328
theorem CpOk.below {w w' : World} {cv iv : Value} {X : List Iv} {T : Tab} (h : CpOk w cv iv X T) (hb : Below w.heap.size w w') : CpOk w' cv iv X T :=
  ⟨h.co.below hb, h.con, h.col, h.ix.below hb, h.eq, h.ixl, fun x hx => ⟨(h.nums x hx).1.below hb, (h.nums x hx).2⟩⟩
theorem CpOk.tabV {w : World} {cv iv : Value} {X : List Iv} {T : Tab} (h : CpOk w cv iv X T) : TabV w cv iv T := ⟨h.co, X, h.ix, h.eq, fun x hx => (h.nums x hx).1⟩
theorem nil_own {w : World} {base size n : Nat} {e : TypeId} {v : Value} {xs : List Value} (h : w.ownsRow base e size v n xs) : NilOk v := fun k c e => by
  rcases h.2 with ⟨e2, _⟩ | ⟨g, cap, cur, e2, _⟩
  · rw [e2] at e
    injection e with _ _ e3
    exact e3.symm
  · rw [e2] at e; cases e
theorem TabO.cp {w : World} {base : Nat} {cv iv : Value} {X : List Iv} {T : Tab} (h : TabO w base cv iv X T) (hm : MayT T) : CpOk w cv iv X T := by
  have hl : X.length = T.ix.length := by rw [← h.eq, List.length_map]
  have k1 := hm.co2
  have k2 := hm.ix1
  refine ⟨own_slice (en := enC) (fun _ => rfl) h.co, nil_own h.co, by omega, own_slice (en := enX) (fun _ => rfl) h.ix, h.eq, by omega, fun x hx => ⟨own_slice (en := enI) (fun _ => rfl) (h.nums x hx), nil_own (h.nums x hx), ?_⟩⟩
  obtain ⟨j1, j2, _⟩ := hm.ixc x.ix (by rw [← h.eq]; exact List.mem_map.2 ⟨x, hx, rfl⟩)
  omega

/-- how far the first statement has come -/
structure CP (w W : World) (N : Nat) (C : List (ByteArray × Int)) (p3 g : Option Nat) (r : Option (Option Addr × Nat)) : Prop where
  below : Below w.heap.size w W
  d : ∀ p, p3 = some p → W.heap[p]? = some tabZ ∧ w.heap.size ≤ p
  e : ∀ p, g = some p → W.heap[p]? = some (.cells #[] 70 (0, 0)) ∧ w.heap.size ≤ p
  r : ∀ A c, r = some (A, c) → W.ownsRow w.heap.size 70 2 (.slice A N c) N (flat enC C)
section
variable {w W W' : World} {N : Nat} {C : List (ByteArray × Int)} {p3 : Option Nat} {g : Option Nat} {r : Option (Option Addr × Nat)}
theorem CP.clone (h : CP w W N C p3 g r) (hb : Below W.heap.size W W') : CP w W' N C p3 g r :=
  ⟨h.below.trans (hb.mono h.below.size), fun p e => ⟨(hb.block p (lt_of (h.d p e).1)).trans (h.d p e).1, (h.d p e).2⟩, fun p e => ⟨(hb.block p (lt_of (h.e p e).1)).trans (h.e p e).1, (h.e p e).2⟩, fun A c e => ownsRow_block (h.r A c e) fun i hi => hb.block i (World.ownsRow.lt (h.r A c e) i hi).2⟩
theorem CP.mkE (h : CP w W N C p3 none none) : CP w (W.alloc (.cells #[] 70)) N C p3 (some W.heap.size) none := by
  have k := h.clone ((Below.refl _ W).alloc (Nat.le_refl _) (.cells #[] 70))
  exact ⟨k.below, k.d, fun p e => by cases e; exact ⟨heap_new W _, h.below.size⟩, k.r⟩
theorem CP.mkD (h : CP w W N C none g r) : CP w (W.alloc tabZ) N C (some W.heap.size) g r := by
  have k := h.clone ((Below.refl _ W).alloc (Nat.le_refl _) tabZ)
  exact ⟨k.below, fun p e => by cases e; exact ⟨heap_new W _, h.below.size⟩, k.e, k.r⟩
theorem CP.emp {p : Nat} (h : CP w W N C p3 (some p) none) (_e : p = p) : W.ownsRow w.heap.size 70 2 (.slice (some ⟨p, 0, none⟩) 0 0) 0 [] := own_empty (h.e p rfl).1 (h.e p rfl).2
theorem CP.app {p : Nat} {A : Option Addr} {c : Nat} (h : CP w W N C p3 (some p) none) (hN : C.length = N) (hg : W.grownBy W' (some p)) (hr : W'.ownsRow w.heap.size 70 2 (.slice A C.length c) C.length (flat enC C)) : CP w W' N C p3 none (some (A, c)) := by
  have ht : Turn (fun i => i = p) W W' := Turn.ofGrown hg (fun k hk => by cases hk; rfl)
  refine ⟨h.below.trans ((ht.mono (S' := fun i => w.heap.size ≤ i) (fun i hi => by rw [hi]; exact (h.e p rfl).2)).toBelow h.below.size), fun q e => ⟨(ht.block q (lt_of (h.d q e).1) (fun e2 => ?_)).trans (h.d q e).1, (h.d q e).2⟩, (fun _ e => by cases e), fun A' c' e => by cases e; rw [← hN]; exact hr⟩
  have k1 := (h.d q e).1
  rw [e2, (h.e p rfl).1] at k1
  injection k1 with k2
  injection k2 with _ k3
  exact absurd k3 (by decide)
theorem CP.zero {p : Nat} (h : CP w W N C p3 g r) (e : p3 = some p) : W.cell? ⟨p, 0, none⟩ = some (.string ⟨#[]⟩) ∧ W.cell? ⟨p, 1, none⟩ = some (.slice none 0 0) ∧ W.cell? ⟨p, 2, none⟩ = some (.int .i64 0) ∧ W.cell? ⟨p, 3, none⟩ = some (.slice none 0 0) ∧ W.frozen? ⟨p, 0, none⟩ = false ∧ W.frozen? ⟨p, 1, none⟩ = false ∧ W.frozen? ⟨p, 2, none⟩ = false ∧ W.frozen? ⟨p, 3, none⟩ = false := by
  have k := (h.d p e).1
  exact ⟨by rw [cell_of k]; rfl, by rw [cell_of k]; rfl, by rw [cell_of k]; rfl, by rw [cell_of k]; rfl, frozen_of k 0, frozen_of k 1, frozen_of k 2, frozen_of k 3⟩
theorem CP.setS {p : Nat} {S : World → Prop} (h : CP w W N C p3 g r) (hS : ∀ u, Below w.heap.size w u → S u) (e : p3 = some p) (a b c d : Value) : S (set4 W p a b c d) :=
  hS _ (h.below.trans (((set4_turn W p a b c d).mono (S' := fun i => w.heap.size ≤ i) (fun i hi => by rw [hi]; exact (h.d p e).2)).toBelow h.below.size))
end

/-- the copy, as far as it has come -/
structure CT (w wr : World) (tb : Nat) (nm : ByteArray) (P : Sl) (C : List (ByteArray × Int)) (key : Int) (R : Sl) (X : List Iv) : Prop where
  base : Below w.heap.size w wr
  t : wr.heap[tb]? = some (.cells #[.string nm, P.v, .int .i64 key, R.v] 32 (0, 0))
  new : w.heap.size ≤ tb
  co : wr.ownsRow w.heap.size 70 2 P.v P.n (flat enC C)
  col : C.length = P.n
  ix : wr.ownsRow w.heap.size 64 3 R.v R.n (flat enX X)
  ixl : X.length = R.n
  nums : ∀ x ∈ X, NumsO wr w.heap.size x
section
variable {w wr u : World} {tb : Nat} {nm : ByteArray} {P R : Sl} {C : List (ByteArray × Int)} {key : Int} {X : List Iv}
theorem CT.fresh (h : CT w wr tb nm P C key R X) (hb : Below wr.heap.size wr u) : CT w u tb nm P C key R X :=
  ⟨h.base.trans (hb.mono h.base.size), (hb.block tb (lt_of h.t)).trans h.t, h.new, ownsRow_block h.co fun i hi => hb.block i (World.ownsRow.lt h.co i hi).2, h.col, ownsRow_block h.ix fun i hi => hb.block i (World.ownsRow.lt h.ix i hi).2, h.ixl, fun x hx => ownsRow_block (h.nums x hx) fun i hi => hb.block i (World.ownsRow.lt (h.nums x hx) i hi).2⟩
theorem CT.cells (h : CT w wr tb nm P C key R X) : wr.cell? ⟨tb, 0, none⟩ = some (.string nm) ∧ wr.cell? ⟨tb, 1, none⟩ = some P.v ∧ wr.cell? ⟨tb, 2, none⟩ = some (.int .i64 key) ∧ wr.cell? ⟨tb, 3, none⟩ = some R.v :=
  ⟨by rw [cell_of h.t]; rfl, by rw [cell_of h.t]; rfl, by rw [cell_of h.t]; rfl, by rw [cell_of h.t]; rfl⟩
theorem CT.ix1 (h : CT w wr tb nm P C key R X) {A' : Option Addr} {m' : Nat} {y : Iv} (ht : Turn (fun i => R.v.ownBlock = some i) wr u)
    (hrow : u.ownsRow 0 64 3 (.slice A' (R.n + 1) m') (R.n + 1) (flat enX (X ++ [y]))) (hw : ∀ i, (Value.slice A' (R.n + 1) m').ownBlock = some i → R.v.ownBlock = some i ∨ wr.heap.size ≤ i) (hy : NumsO wr w.heap.size y) :
    CT w (u.setCell ⟨tb, 3, none⟩ (.slice A' (R.n + 1) m')) tb nm P C key ⟨A', R.n + 1, m'⟩ (X ++ [y]) := by
  have n := h.new
  have hs := h.base.size
  have r1 : ¬ P.v.ownBlock = some tb := row_not h.co h.t (by decide)
  have r2 : ¬ R.v.ownBlock = some tb := row_not h.ix h.t (by decide)
  have ry : ∀ x, NumsO wr w.heap.size x → ¬ x.v.ownBlock = some tb := fun x hx => row_not hx h.t (by decide)
  have hpl : ∀ i, R.v.ownBlock = some i → w.heap.size ≤ i := fun i hi => (World.ownsRow.lt h.ix i hi).1
  have ht2 : Turn (fun i => i = tb) u (u.setCell ⟨tb, 3, none⟩ (.slice A' (R.n + 1) m')) := Turn.setCell (S := fun i => i = tb) u ⟨tb, 3, none⟩ _ rfl
  have ht3 : Turn (fun i => R.v.ownBlock = some i ∨ i = tb) wr (u.setCell ⟨tb, 3, none⟩ (.slice A' (R.n + 1) m')) := (ht.mono fun _ => Or.inl).trans (ht2.mono fun _ => Or.inr)
  have htb := lt_of h.t
  have hnew : ∀ i, (Value.slice A' (R.n + 1) m').ownBlock = some i → w.heap.size ≤ i ∧ i ≠ tb := fun i hi => by
    rcases hw i hi with k | k
    · exact ⟨hpl i k, fun e => r2 (by rw [← e]; exact k)⟩
    · exact ⟨by omega, by omega⟩
  have fr : ∀ {T : TypeId} {m k : Nat} {v : Value} {xs : List Value}, wr.ownsRow w.heap.size T m v k xs → ¬ v.ownBlock = some tb → T ≠ 64 → (u.setCell ⟨tb, 3, none⟩ (.slice A' (R.n + 1) m')).ownsRow w.heap.size T m v k xs := fun hrow hn hT =>
    ownsRow_block hrow fun g hg => ht3.block g (World.ownsRow.lt hrow g hg).2 (fun e => by
      rcases e with e | e
      · exact row_apart hrow h.ix hT hg e
      · exact hn (by rw [← e]; exact hg))
  refine ⟨h.base.trans ((ht3.mono (S' := fun i => w.heap.size ≤ i) (fun i hi => ?_)).toBelow h.base.size), heap_setCell_same ((ht.block tb htb r2).trans h.t) 3 _, n, fr h.co r1 (by decide), h.col, ?_, by simp [h.ixl], fun x hx => ?_⟩
  · rcases hi with e | e
    · exact hpl i e
    · omega
  · exact ownsRow_up (ownsRow_block hrow fun g hg => ht2.block g (World.ownsRow.lt hrow g hg).2 (hnew g hg).2) (fun g hg => (hnew g hg).1)
  · rcases List.mem_append.1 hx with hx | hx
    · exact fr (h.nums x hx) (ry x (h.nums x hx)) (by decide)
    · rw [List.mem_singleton.1 hx]; exact fr hy (ry y hy) (by decide)
end

theorem by_key5 {R : Prop} {C m : World → Nat → Nat → Option Addr → Nat → Prop} (main : Hid (∀ W a b A c, C W a b A c → m W a b A c) → R) (k : ∀ W a b A c, C W a b A c → m W a b A c) : R := main k
theorem infoCol_parts : ∃ i, Tryz.prog.info? 70 = some i ∧ i.zero = some (.agg #[.string ⟨#[]⟩, .int .i64 0]) ∧ i.size = 2 ∧ i.bytes = 24 := info_parts infoCol

set_option linter.unusedSimpArgs false in
set_option maxRecDepth 100000 in
set_option maxHeartbeats 8000000 in
theorem copyT_any (cv iv : Value) (X : List Iv) (T : Tab) (w w0 : World) (hb : Below w0.heap.size w0 w) (h0 : CpOk w0 cv iv X T) :
    Calls Tryz.prog 8 #[tabVal cv iv T] w (CopyR T w) := by
  have h1 := h0.below hb
  obtain ⟨ca, cc, rfl, s1, s2, s3⟩ := h1.co.opened
  obtain ⟨ia, ic', rfl, t1, t2, t3⟩ := h1.ix.opened
  unfold maxLen at s2 t2
  have hcp := h1
  have HXX : Hid (∀ u, Below w.heap.size w u → ∀ i y, X[i]? = some y → ∃ b off, ia = some ⟨b, off, none⟩ ∧ u.cell? ⟨b, off + i * 3, none⟩ = some (.string y.ix.nm) ∧ u.cell? ⟨b, off + i * 3 + 1, none⟩ = some y.v ∧ u.cell? ⟨b, off + i * 3 + 2, none⟩ = some (.bool y.ix.un)) := fun u hu i y hy => by
    obtain ⟨hi, rfl⟩ := List.getElem?_eq_some_iff.1 hy
    obtain ⟨b, off, e, _, hc⟩ := t3 u hu i hi
    exact ⟨b, off, e, hc 0 _ rfl, hc 1 _ rfl, hc 2 _ rfl⟩
  unfold tabVal
  obtain ⟨C, hC⟩ : ∃ C, T.co = C := ⟨_, rfl⟩
  obtain ⟨N, hNn⟩ : ∃ N, C.length = N := ⟨_, rfl⟩
  obtain ⟨M, hMm⟩ : ∃ M, X.length = M := ⟨_, rfl⟩
  obtain ⟨key, hkey⟩ : ∃ key, T.key = key := ⟨_, rfl⟩
  obtain ⟨nm, hnm⟩ : ∃ nm, T.nm = nm := ⟨_, rfl⟩
  have HT : Hid (T = ⟨nm, C, key, X.map Iv.ix⟩) := by
    show _ = _
    rw [hcp.eq, ← hnm, ← hC, ← hkey]
  have HCl : Hid (C.length = N) := hNn
  have HMl : Hid (X.length = M) := hMm
  have HNil : Hid (NilOk (.slice ca N cc)) := by rw [← hNn, ← hC]; exact hcp.con
  have HLen : Hid (C.length * 24 ≤ 140737488355328) := by rw [← hC]; exact hcp.col
  have hM48 : M * 48 ≤ 140737488355328 := by rw [← hMm]; exact hcp.ixl
  have HNums : Hid (∀ u, Below w.heap.size w u → ∀ x ∈ X, SliceAt u x.v 1 enI x.ix.cs ∧ NilOk x.v ∧ x.ix.cs.length * 8 ≤ 140737488355328) := fun u hu x hx => (hcp.below hu).nums x hx
  have HSl0 : Hid (∀ u, Below w.heap.size w u → SliceAt u (.slice ca N cc) 2 enC C) := fun u hu => by
    have := (hcp.below hu).co
    rw [hC, hNn] at this
    exact this
  rw [hC, hNn] at s1
  rw [hMm] at t1
  rw [hC, hNn, hMm, hkey, hnm]
  obtain ⟨ic, HI0⟩ := infoCol_parts
  have HI : Hid (Tryz.prog.info? 70 = some ic ∧ ic.zero = some (.agg #[.string ⟨#[]⟩, .int .i64 0]) ∧ ic.size = 2 ∧ ic.bytes = 24) := HI0
  clear h0 h1 hcp s3 t3 hb HI0 hC hNn hMm hkey hnm
  obtain ⟨xb, hxb⟩ : ∃ xb, w.heap.size = xb := ⟨_, rfl⟩
  obtain ⟨w1, hw1⟩ : ∃ w1, w.alloc (.cells #[.string nm, .slice ca N cc, .int .i64 key, .slice ia M ic'] 32) = w1 := ⟨_, rfl⟩
  obtain ⟨w2, hw2⟩ : ∃ w2, w1.alloc tabZ = w2 := ⟨_, rfl⟩
  have hx1 : w2.heap[xb]? = some (.cells #[.string nm, .slice ca N cc, .int .i64 key, .slice ia M ic'] 32) := by
    have h1 : w1.heap[xb]? = some (.cells #[.string nm, .slice ca N cc, .int .i64 key, .slice ia M ic'] 32) := by rw [← hw1, ← hxb]; exact heap_new w _
    rw [← hw2, Below.heap_alloc _ _ _ (lt_of h1)]
    exact h1
  have HXs : Hid (∀ u, Below w2.heap.size w2 u → u.cell? ⟨xb, 0, none⟩ = some (.string nm) ∧ u.cell? ⟨xb, 1, none⟩ = some (.slice ca N cc) ∧ u.cell? ⟨xb, 2, none⟩ = some (.int .i64 key) ∧ u.cell? ⟨xb, 3, none⟩ = some (.slice ia M ic')) := fun u hu => by
    have e := (hu.block xb (lt_of hx1)).trans hx1
    exact ⟨by rw [cell_of e]; rfl, by rw [cell_of e]; rfl, by rw [cell_of e]; rfl, by rw [cell_of e]; rfl⟩
  have HW2 : Hid (Below xb w w2 ∧ w1.heap.size = xb + 1 ∧ w2.heap.size = xb + 2 ∧ w2.heap[xb + 1]? = some tabZ ∧ w.heap.size = xb) := by
    have a1 : w1.heap.size = xb + 1 := by rw [← hw1, ← hxb]; simp
    have a2 : w2.heap.size = xb + 2 := by rw [← hw2]; simp; omega
    have b1 : Below xb w w1 := by rw [← hw1]; exact (Below.refl _ _).alloc (by omega) _
    have b2 : Below xb w1 w2 := by rw [← hw2]; exact (Below.refl _ _).alloc (by omega) _
    exact ⟨b1.trans b2, a1, a2, by rw [← a1, ← hw2]; exact heap_new w1 _, hxb⟩
  have HBw : Hid (∀ u, Below w2.heap.size w2 u → Below w.heap.size w u) := fun u hu => by
    obtain ⟨x1, x2, x3, x4, x5⟩ := HW2.out
    rw [x5]
    exact x1.trans (hu.mono (by omega))
  have HSl : Hid (∀ u, Below w2.heap.size w2 u → SliceAt u (.slice ca N cc) 2 enC C) := fun u hu => HSl0.out u (HBw.out u hu)
  have hr1 : w1.heap.size = xb + 1 := HW2.out.2.1
  have Fz : Hid (CP w2 w2.drew N C none none none) := ⟨below_drewN w2 1, (fun _ h => by cases h), (fun _ h => by cases h), (fun _ _ h => by cases h)⟩
  go_enter Tryz.func8, Tryz.ntmps8
  go_upto_region 1 with fail
  clear hw1 hw2 hx1 HSl0
  apply by_key5 (C := fun W a _ A c => CP w2 W N C (some a) none (some (A, c)))
  intro HKey
  refine wp_region_held_drew (S := fun u => u.cell? ⟨xb, 0, none⟩ = some (.string nm) ∧ u.cell? ⟨xb, 1, none⟩ = some (.slice ca N cc) ∧ u.cell? ⟨xb, 2, none⟩ = some (.int .i64 key) ∧ u.cell? ⟨xb, 3, none⟩ = some (.slice ia M ic')) (by kernel_rfl) (HXs.out _ Fz.out.below) (fun hHeld => ?_)
  obtain ⟨Wz, hWz⟩ : ∃ u, w2.drew = u := ⟨_, rfl⟩
  rw [hWz] at Fz hHeld ⊢
  clear hWz
  refine take_dst (i := 0) (dst := 6) (v := ?v6xa) rfl rfl (by kernel_rfl) (by kernel_rfl) (by kernel_rfl) (fun _ _ _ h => h) (Or.inl ⟨by rfl, ?hy6xa⟩) (by assumption) ?rest6xa
  case hy6xa => intro w hSw; (try dsimp only at hSw); go_simp; try with_reducible rfl
  try simp only [List.setIfInBounds_toArray, List.set_cons_zero, List.set_cons_succ]
  refine take_dst (i := 1) (dst := 7) (v := ?v7xa) rfl rfl (by kernel_rfl) (by kernel_rfl) (by kernel_rfl) (fun _ _ _ h => h) (Or.inl ⟨by rfl, ?hy7xa⟩) (by assumption) ?rest7xa
  case hy7xa => intro w hSw; (try dsimp only at hSw); go_simp; try with_reducible rfl
  try simp only [List.setIfInBounds_toArray, List.set_cons_zero, List.set_cons_succ]
  refine take_dst (i := 2) (dst := 8) (v := ?v8xa) rfl rfl (by kernel_rfl) (by kernel_rfl) (by kernel_rfl) (fun _ _ _ h => h) (Or.inl ⟨by rfl, ?hy8xa⟩) (by assumption) ?rest8xa
  case hy8xa => intro w hSw; (try dsimp only at hSw); go_simp; try with_reducible rfl
  try simp only [List.setIfInBounds_toArray, List.set_cons_zero, List.set_cons_succ]
  refine take_dst (i := 3) (dst := 9) (v := ?v9xa) rfl rfl (by kernel_rfl) (by kernel_rfl) (by kernel_rfl) (fun _ _ _ h => h) (Or.inl ⟨by rfl, ?hy9xa⟩) (by assumption) ?rest9xa
  case hy9xa => intro w hSw; (try dsimp only at hSw); go_simp; try with_reducible rfl
  try simp only [List.setIfInBounds_toArray, List.set_cons_zero, List.set_cons_succ]
  refine take_dst (i := 5) (dst := 11) (v := ?v11xa) rfl rfl (by kernel_rfl) (by kernel_rfl) (by kernel_rfl) (fun _ _ _ h => h) (Or.inl ⟨by rfl, ?hy11xa⟩) (by assumption) ?rest11xa
  case hy11xa => intro w hSw; (try dsimp only at hSw); go_simp; try with_reducible rfl
  try simp only [List.setIfInBounds_toArray, List.set_cons_zero, List.set_cons_succ]
  refine take_dst (i := 6) (dst := 12) (v := ?v12xa) rfl rfl (by kernel_rfl) (by kernel_rfl) (by kernel_rfl) (fun _ _ _ h => h) (Or.inl ⟨by rfl, ?hy12xa⟩) (by assumption) ?rest12xa
  case hy12xa => intro w hSw; (try dsimp only at hSw); go_simp; try with_reducible rfl
  try simp only [List.setIfInBounds_toArray, List.set_cons_zero, List.set_cons_succ]
  refine wpAnyH_ready (rs := [4, 9]) (by kernel_rfl) (by simp) ?_
  refine AllReadyH.cons rfl (fun K hK => ?_) ?_
  · skip
    rw [if_pos (by rfl)]
    go_simp
    have F1 : Hid _ := Fz.out.mkE
    refine hK.out _ _ (HXs.out _ F1.out.below) (fun hS1 => ?_)
    obtain ⟨W1, hW1⟩ : ∃ u, Wz.alloc (.cells #[] 70) = u := ⟨_, rfl⟩
    obtain ⟨p1, hp1⟩ : ∃ p, Wz.heap.size = p := ⟨_, rfl⟩
    rw [hW1] at F1 hS1 ⊢
    rw [hp1] at F1 ⊢
    clear hW1 hp1 hK
    try simp only [List.setIfInBounds_toArray, List.set_cons_zero, List.set_cons_succ]
    refine wpAnyH_ready (rs := [7, 9]) (by kernel_rfl) (by simp) ?_
    refine AllReadyH.cons rfl (fun K hK => ?_) ?_
    · skip
      refine step_append_copy (by rfl) _ _ 29 (by rfl) w2.heap.size 70 ic (.agg #[.string ⟨#[]⟩, .int .i64 0]) 2 24 Tryz.underlying29 HI.out.1 HI.out.2.1 HI.out.2.2.1 HI.out.2.2.2 rfl (by decide) p1 (by rfl) (F1.out.emp rfl) enC (fun _ => rfl) oneC (.slice ca N cc) C (by rfl) (HSl.out _ F1.out.below) HNil.out HLen.out (by have := F1.out.below.size; omega) ?_
      intro A2 c2 W2 k1 k2
      have F2 : Hid _ := F1.out.app HCl.out k2 k1
      rw [HCl.out]
      clear k1 k2
      refine hK.out _ _ (HXs.out _ F2.out.below) (fun hS2 => ?_)
      clear hK
      try simp only [Act.put, List.setIfInBounds_toArray, List.set_cons_zero, List.set_cons_succ]
      refine take_dst (i := 8) (dst := 14) (v := ?v14xb) rfl rfl (by kernel_rfl) (by kernel_rfl) (by kernel_rfl) (fun _ _ _ h => h) (Or.inl ⟨by rfl, ?hy14xb⟩) (by assumption) ?rest14xb
      case hy14xb => intro w hSw; (try dsimp only at hSw); go_simp; try with_reducible rfl
      try simp only [List.setIfInBounds_toArray, List.set_cons_zero, List.set_cons_succ]
      refine wpAnyH_ready (rs := [9]) (by kernel_rfl) (by simp) ?_
      refine AllReadyH.cons rfl (fun K hK => ?_) AllReadyH.nil
      rw [if_pos (by rfl)]
      go_simp
      have F3 : Hid _ := F2.out.mkD
      refine hK.out _ _ (HXs.out _ F3.out.below) (fun hS3 => ?_)
      obtain ⟨W3, hW3⟩ : ∃ u, W2.alloc tabZ = u := ⟨_, rfl⟩
      obtain ⟨p3, hp3⟩ : ∃ p, W2.heap.size = p := ⟨_, rfl⟩
      rw [hW3] at F3 hS3 ⊢
      rw [hp3] at F3 ⊢
      clear hW3 hp3 hK
      try simp only [List.setIfInBounds_toArray, List.set_cons_zero, List.set_cons_succ]
      refine wpAnyH_ready (rs := [10]) (by kernel_rfl) (by simp) ?_
      refine AllReadyH.cons rfl (fun K hK => ?_) AllReadyH.nil
      rw [if_pos (by rfl)]
      obtain ⟨z0, z1, z2, z3, y0, y1, y2, y3⟩ := F3.out.zero rfl
      go_simp
      refine hK.out _ _ (F3.out.setS HXs.out rfl _ _ _ _) (fun _ => ?_)
      refine wpAnyH_done (by kernel_rfl) ?_ _
      exact HKey.out _ _ p1 _ _ F3.out
    refine AllReadyH.cons rfl (fun K hK => ?_) AllReadyH.nil
    · skip
      rw [if_pos (by rfl)]
      go_simp
      have F4 : Hid _ := F1.out.mkD
      refine hK.out _ _ (HXs.out _ F4.out.below) (fun hS4 => ?_)
      obtain ⟨W4, hW4⟩ : ∃ u, W1.alloc tabZ = u := ⟨_, rfl⟩
      obtain ⟨p4, hp4⟩ : ∃ p, W1.heap.size = p := ⟨_, rfl⟩
      rw [hW4] at F4 hS4 ⊢
      rw [hp4] at F4 ⊢
      clear hW4 hp4 hK
      try simp only [List.setIfInBounds_toArray, List.set_cons_zero, List.set_cons_succ]
      refine wpAnyH_ready (rs := [7]) (by kernel_rfl) (by simp) ?_
      refine AllReadyH.cons rfl (fun K hK => ?_) AllReadyH.nil
      refine step_append_copy (by rfl) _ _ 29 (by rfl) w2.heap.size 70 ic (.agg #[.string ⟨#[]⟩, .int .i64 0]) 2 24 Tryz.underlying29 HI.out.1 HI.out.2.1 HI.out.2.2.1 HI.out.2.2.2 rfl (by decide) p1 (by rfl) (F4.out.emp rfl) enC (fun _ => rfl) oneC (.slice ca N cc) C (by rfl) (HSl.out _ F4.out.below) HNil.out HLen.out (by have := F4.out.below.size; omega) ?_
      intro A5 c5 W5 k1 k2
      have F5 : Hid _ := F4.out.app HCl.out k2 k1
      rw [HCl.out]
      clear k1 k2
      refine hK.out _ _ (HXs.out _ F5.out.below) (fun hS5 => ?_)
      clear hK
      try simp only [Act.put, List.setIfInBounds_toArray, List.set_cons_zero, List.set_cons_succ]
      refine take_dst (i := 8) (dst := 14) (v := ?v14xc) rfl rfl (by kernel_rfl) (by kernel_rfl) (by kernel_rfl) (fun _ _ _ h => h) (Or.inl ⟨by rfl, ?hy14xc⟩) (by assumption) ?rest14xc
      case hy14xc => intro w hSw; (try dsimp only at hSw); go_simp; try with_reducible rfl
      try simp only [List.setIfInBounds_toArray, List.set_cons_zero, List.set_cons_succ]
      refine wpAnyH_ready (rs := [10]) (by kernel_rfl) (by simp) ?_
      refine AllReadyH.cons rfl (fun K hK => ?_) AllReadyH.nil
      rw [if_pos (by rfl)]
      obtain ⟨z0, z1, z2, z3, y0, y1, y2, y3⟩ := F5.out.zero rfl
      go_simp
      refine hK.out _ _ (F5.out.setS HXs.out rfl _ _ _ _) (fun _ => ?_)
      refine wpAnyH_done (by kernel_rfl) ?_ _
      exact HKey.out _ _ p1 _ _ F5.out
  refine AllReadyH.cons rfl (fun K hK => ?_) AllReadyH.nil
  · skip
    rw [if_pos (by rfl)]
    go_simp
    have F6 : Hid _ := Fz.out.mkD
    refine hK.out _ _ (HXs.out _ F6.out.below) (fun hS6 => ?_)
    obtain ⟨W6, hW6⟩ : ∃ u, Wz.alloc tabZ = u := ⟨_, rfl⟩
    obtain ⟨p6, hp6⟩ : ∃ p, Wz.heap.size = p := ⟨_, rfl⟩
    rw [hW6] at F6 hS6 ⊢
    rw [hp6] at F6 ⊢
    clear hW6 hp6 hK
    try simp only [List.setIfInBounds_toArray, List.set_cons_zero, List.set_cons_succ]
    refine wpAnyH_ready (rs := [4]) (by kernel_rfl) (by simp) ?_
    refine AllReadyH.cons rfl (fun K hK => ?_) AllReadyH.nil
    rw [if_pos (by rfl)]
    go_simp
    have F7 : Hid _ := F6.out.mkE
    refine hK.out _ _ (HXs.out _ F7.out.below) (fun hS7 => ?_)
    obtain ⟨W7, hW7⟩ : ∃ u, W6.alloc (.cells #[] 70) = u := ⟨_, rfl⟩
    obtain ⟨p7, hp7⟩ : ∃ p, W6.heap.size = p := ⟨_, rfl⟩
    rw [hW7] at F7 hS7 ⊢
    rw [hp7] at F7 ⊢
    clear hW7 hp7 hK
    try simp only [List.setIfInBounds_toArray, List.set_cons_zero, List.set_cons_succ]
    refine wpAnyH_ready (rs := [7]) (by kernel_rfl) (by simp) ?_
    refine AllReadyH.cons rfl (fun K hK => ?_) AllReadyH.nil
    refine step_append_copy (by rfl) _ _ 29 (by rfl) w2.heap.size 70 ic (.agg #[.string ⟨#[]⟩, .int .i64 0]) 2 24 Tryz.underlying29 HI.out.1 HI.out.2.1 HI.out.2.2.1 HI.out.2.2.2 rfl (by decide) p7 (by rfl) (F7.out.emp rfl) enC (fun _ => rfl) oneC (.slice ca N cc) C (by rfl) (HSl.out _ F7.out.below) HNil.out HLen.out (by have := F7.out.below.size; omega) ?_
    intro A8 c8 W8 k1 k2
    have F8 : Hid _ := F7.out.app HCl.out k2 k1
    rw [HCl.out]
    clear k1 k2
    refine hK.out _ _ (HXs.out _ F8.out.below) (fun hS8 => ?_)
    clear hK
    try simp only [Act.put, List.setIfInBounds_toArray, List.set_cons_zero, List.set_cons_succ]
    refine take_dst (i := 8) (dst := 14) (v := ?v14xd) rfl rfl (by kernel_rfl) (by kernel_rfl) (by kernel_rfl) (fun _ _ _ h => h) (Or.inl ⟨by rfl, ?hy14xd⟩) (by assumption) ?rest14xd
    case hy14xd => intro w hSw; (try dsimp only at hSw); go_simp; try with_reducible rfl
    try simp only [List.setIfInBounds_toArray, List.set_cons_zero, List.set_cons_succ]
    refine wpAnyH_ready (rs := [10]) (by kernel_rfl) (by simp) ?_
    refine AllReadyH.cons rfl (fun K hK => ?_) AllReadyH.nil
    rw [if_pos (by rfl)]
    obtain ⟨z0, z1, z2, z3, y0, y1, y2, y3⟩ := F8.out.zero rfl
    go_simp
    refine hK.out _ _ (F8.out.setS HXs.out rfl _ _ _ _) (fun _ => ?_)
    refine wpAnyH_done (by kernel_rfl) ?_ _
    exact HKey.out _ _ p7 _ _ F8.out
  intro W tb g A c F
  obtain ⟨U, hU⟩ : ∃ U, set4 W tb (.string nm) (.slice A N c) (.int .i64 key) (.slice none 0 0) = U := ⟨_, rfl⟩
  have HU : Hid (CT w2 U tb nm ⟨A, N, c⟩ C key Sl.nil []) := by
    have ht := set4_turn W tb (.string nm) (.slice A N c) (.int .i64 key) (.slice none 0 0)
    obtain ⟨d1, d2⟩ := F.d tb rfl
    have hr := F.r A c rfl
    rw [hU] at ht
    refine ⟨F.below.trans ((ht.mono (S' := fun i => w2.heap.size ≤ i) (fun i hi => by rw [hi]; exact d2)).toBelow F.below.size), by rw [← hU]; exact set4_heap d1 _ _ _ _, d2, ownsRow_block hr fun i hi => ht.block i (World.ownsRow.lt hr i hi).2 (fun e => row_not hr d1 (by decide) (by rw [← e]; exact hi)), HCl.out, World.ownsRow_nil _ _ _ _, rfl, (fun _ h => by cases h)⟩
  unfold set4 at hU
  rw [hU]
  clear hU F HNil HLen HSl HI
  have HXb := HXs
  clear HXs
  obtain ⟨x0, x1, x2, x3⟩ := HXb.out _ HU.out.base
  obtain ⟨ii, HI0⟩ := infoInt_parts
  have HII : Hid (Tryz.prog.info? 3 = some ii ∧ ii.zero = some (.int .i64 0) ∧ ii.size = 1 ∧ ii.bytes = 8) := HI0
  clear HI0
  go_wp2_with fail
  go_loopw [4] (fun v wr => ∃ (j : Nat) (R : Sl) (X' : List Iv), j ≤ M ∧ v = .int .i64 j ∧ Hid (CT w2 wr tb nm ⟨A, N, c⟩ C key R X' ∧ X'.map Iv.ix = (X.take j).map Iv.ix)) (fun v _ => M - (intOf v).toNat)
  case atStart => exact ⟨0, Sl.nil, [], Nat.zero_le _, rfl, HU.out, rfl⟩
  case round =>
    clear x0 x1 x2 x3 HU
    obtain ⟨j, ⟨A2, n2, c2⟩, X', hj, rfl, HL⟩ := hrel
    obtain ⟨x0, x1, x2, x3⟩ := HXb.out _ HL.out.1.base
    have hn2 : Hid (n2 = j) := by
      have h1 : X'.length = n2 := HL.out.1.ixl
      have h2 := congrArg List.length HL.out.2
      rw [List.length_map, List.length_map, List.length_take] at h2
      have h3 := HMl.out
      show _ = _
      omega
    by_cases hlt : j < M
    · have hlI : (j : Int) < (M : Int) := by omega
      obtain ⟨⟨⟨yn, cs, un⟩, yv⟩, hy⟩ : ∃ y, X[j]? = some y := ⟨_, List.getElem?_eq_getElem (by rw [HMl.out]; exact hlt)⟩
      have hmem := List.mem_of_getElem? hy
      obtain ⟨eb0, off, rfl, q1, q2, q3⟩ := HXX.out wr (HBw.out _ HL.out.1.base) j _ hy
      obtain ⟨sv1, sv2, sv3⟩ := HNums.out wr (HBw.out _ HL.out.1.base) _ hmem
      dsimp only at q1 q2 q3 sv1 sv2 sv3
      obtain ⟨va, vc, rfl, v1, v2, -⟩ := sv1.opened
      have HTk : Hid ((X.take (j + 1)).map Iv.ix = (X.take j).map Iv.ix ++ [⟨yn, cs, un⟩]) := by show _ = _; rw [List.take_add_one, hy, List.map_append]; rfl
      obtain ⟨nn, hnn⟩ : ∃ nn, cs.length = nn := ⟨_, rfl⟩
      have HNn : Hid (cs.length = nn) := hnn
      rw [hnn] at q2 sv1 sv2 v1
      obtain ⟨wE, hwE⟩ : ∃ wE, wr.alloc (.cells #[.string yn, .slice va nn vc, .bool un] 64) = wE := ⟨_, rfl⟩
      obtain ⟨eb, heb⟩ : ∃ eb, wr.heap.size = eb := ⟨_, rfl⟩
      obtain ⟨wF, hwF⟩ : ∃ wF, wE.alloc (.cells #[] 3) = wF := ⟨_, rfl⟩
      obtain ⟨fb, hfb⟩ : ∃ fb, wE.heap.size = fb := ⟨_, rfl⟩
      have sE : fb = eb + 1 := by rw [← hfb, ← hwE, ← heb]; simp
      have bE : Below wr.heap.size wr wE := by rw [← hwE]; exact (Below.refl _ wr).alloc (Nat.le_refl _) _
      have bF : Below wr.heap.size wr wF := by rw [← hwF]; exact bE.alloc bE.size _
      have eE : wE.heap[eb]? = some (.cells #[.string yn, .slice va nn vc, .bool un] 64 (0, 0)) := by rw [← hwE, ← heb]; exact heap_new wr _
      have eF : wF.heap[eb]? = some (.cells #[.string yn, .slice va nn vc, .bool un] 64 (0, 0)) := by rw [← hwF, Below.heap_alloc _ _ _ (lt_of eE)]; exact eE
      have fF : wF.heap[fb]? = some (.cells #[] 3 (0, 0)) := by rw [← hwF, ← hfb]; exact heap_new wE _
      have HE : Hid (wF.ownsRow eb 3 1 (.slice (some ⟨fb, 0, none⟩) 0 0) 0 []) := own_empty fF (by omega)
      have HSv : Hid (SliceAt wF (.slice va nn vc) 1 enI cs) := sv1.below bF
      have HNv : Hid (NilOk (.slice va nn vc)) := sv2
      have HLv : Hid (cs.length * 8 ≤ 140737488355328) := sv3
      have HFs : Hid (eb ≤ wF.heap.size ∧ Below wr.heap.size wr wF ∧ fb = eb + 1 ∧ wr.heap.size = eb ∧ wF.heap[eb]? = some (.cells #[.string yn, .slice va nn vc, .bool un] 64 (0, 0))) := ⟨by have := lt_of eF; omega, bF, sE, heb, eF⟩
      have cF := HL.out.1.fresh bF
      have gE1 : wE.cell? ⟨eb, 1, none⟩ = some (.slice va nn vc) := by rw [cell_of eE]; rfl
      have gF1 : wF.cell? ⟨eb, 1, none⟩ = some (.slice va nn vc) := by rw [cell_of eF]; rfl
      clear hy hmem sv1 sv2 sv3 hnn bE bF eE eF fF sE cF
      go_upto_region 7 with (at_builtin; go_must (refine append_copy rfl _ _ 62 rfl eb 3 ii (.int .i64 0) 1 8 Tryz.underlying62 HII.out.1 HII.out.2.1 HII.out.2.2.1 HII.out.2.2.2 rfl (by decide) fb rfl HE.out enI (fun _ => rfl) oneI (.slice va nn vc) cs rfl HSv.out HNv.out HLv.out HFs.out.1 ?_; intro v5 w5 r1 r2; obtain ⟨A5, c5, rfl, -⟩ := own_slice (en := enI) (fun _ => rfl) r1; have R1 : Hid (w5.ownsRow eb 3 1 (.slice A5 cs.length c5) cs.length (flat enI cs)) := r1; have R2 : Hid (Turn (fun i => i = fb) wF w5) := Turn.ofGrown r2 (fun k hk => by cases hk; rfl); have x5 : Hid (w5.heap[eb]? = some (.cells #[.string yn, .slice va nn vc, .bool un] 64 (0, 0))) := (R2.out.block eb (lt_of HFs.out.2.2.2.2) (by have := HFs.out.2.2.1; omega)).trans HFs.out.2.2.2.2; have g5 : w5.cell? ⟨eb, 1, none⟩ = some (.slice va nn vc) := (by rw [cell_of x5.out]; rfl); have f5 := frozen_of x5.out 1; clear r1 r2; rw [HNn.out] at R1 ⊢))
      obtain ⟨wA, hwA⟩ : ∃ u, w5.setCell ⟨eb, 1, none⟩ (.slice A5 nn c5) = u := ⟨_, rfl⟩
      have HA : Hid (CT w2 wA tb nm ⟨A, N, c⟩ C key ⟨A2, n2, c2⟩ X' ∧ wA.heap[eb]? = some (.cells #[.string yn, .slice A5 nn c5, .bool un] 64 (0, 0)) ∧ NumsO wA w2.heap.size ⟨⟨yn, cs, un⟩, .slice A5 nn c5⟩) := by
        obtain ⟨g1, g2, g3, g4, g6⟩ := HFs.out
        have ht : Turn (fun i => i = eb) w5 wA := by rw [← hwA]; exact Turn.setCell (S := fun i => i = eb) w5 ⟨eb, 1, none⟩ _ rfl
        have hb5 : Below wr.heap.size wr w5 := g2.trans ((R2.out.mono (S' := fun i => wr.heap.size ≤ i) (fun i hi => by omega)).toBelow g2.size)
        have hbA : Below wr.heap.size wr wA := hb5.trans ((ht.mono (S' := fun i => wr.heap.size ≤ i) (fun i hi => by omega)).toBelow hb5.size)
        refine ⟨HL.out.1.fresh hbA, by rw [← hwA]; exact heap_setCell_same x5.out 1 _, ?_⟩
        have hr := R1.out
        show World.ownsRow _ _ _ _ _ cs.length _
        rw [HNn.out]
        have h2 := HL.out.1.base.size
        exact ownsRow_low (ownsRow_block hr fun i hi => ht.block i (World.ownsRow.lt hr i hi).2 (fun e => row_not hr x5.out (by decide) (by rw [← e]; exact hi))) (by omega)
      rw [hwA]
      clear hwA R1 R2 x5 g5 f5 HE HSv HNv HLv HFs gE1 gF1 hwE hwF heb hfb q1 q2 q3 x0 x1 x2 x3
      obtain ⟨_, _, _, a3⟩ := HA.out.1.cells
      dsimp only [Sl.v] at a3
      have b0 : wA.cell? ⟨eb, 0, none⟩ = some (.string yn) := by rw [cell_of HA.out.2.1]; rfl
      have b1 : wA.cell? ⟨eb, 1, none⟩ = some (.slice A5 nn c5) := by rw [cell_of HA.out.2.1]; rfl
      have b2 : wA.cell? ⟨eb, 2, none⟩ = some (.bool un) := by rw [cell_of HA.out.2.1]; rfl
      have HA2 : Hid (CT w2 (wA.alloc (.cells #[.string yn, .slice A5 nn c5, .bool un] 64)) tb nm ⟨A, N, c⟩ C key ⟨A2, n2, c2⟩ X' ∧ NumsO (wA.alloc (.cells #[.string yn, .slice A5 nn c5, .bool un] 64)) w2.heap.size ⟨⟨yn, cs, un⟩, .slice A5 nn c5⟩) := by
        have hb : Below wA.heap.size wA (wA.alloc (.cells #[.string yn, .slice A5 nn c5, .bool un] 64)) := (Below.refl _ wA).alloc (Nat.le_refl _) _
        exact ⟨HA.out.1.fresh hb, ownsRow_block HA.out.2.2 fun g hg => hb.block g (World.ownsRow.lt HA.out.2.2 g hg).2⟩
      have HSt : Hid (∀ v, Turn (fun i => (Value.slice A2 n2 c2).ownBlock = some i) (wA.alloc (.cells #[.string yn, .slice A5 nn c5, .bool un] 64)) v → v.cell? ⟨tb, 3, none⟩ = some (.slice A2 n2 c2) ∧ v.frozen? ⟨tb, 3, none⟩ = false) := fun v hv => by
        have k2 := (hv.block tb (lt_of HA2.out.1.t) (row_not HA2.out.1.ix HA2.out.1.t (by decide))).trans HA2.out.1.t
        exact ⟨by rw [cell_of k2]; rfl, frozen_of k2 3⟩
      have HB1 : Hid ((n2 + 1) * 48 ≤ 140737488355328 ∧ n2 + 1 ≤ maxLen) := by
        have h1 := hn2.out
        refine ⟨Nat.le_trans (Nat.mul_le_mul_right _ (show n2 + 1 ≤ M by omega)) hM48, ?_⟩
        unfold maxLen
        omega
      go_wp2_with (at_builtin; go_must (refine wpList_append_oneB rfl _ _ 30 rfl 64 (.agg #[.string ⟨#[]⟩, .slice none 0 0, .bool false]) 3 48 Tryz.underlying30 infoIdx rfl (by decide) enX (fun _ => rfl) X' ⟨⟨yn, cs, un⟩, .slice A5 nn c5⟩ (one_iv _ _ _ _ _ _) A2 n2 c2 rfl (ownsRow_low HA2.out.1.ix (Nat.zero_le _)) HB1.out.1 HB1.out.2 wA.heap.size rfl (iv_at wA _ _ _ _ _ _) ?_; intro A' m' w6 r1 r2 r3; obtain ⟨x1, x2⟩ := HSt.out w6 r2.out))
      have HF : Hid (CT w2 (w6.setCell ⟨tb, 3, none⟩ (.slice A' (n2 + 1) m')) tb nm ⟨A, N, c⟩ C key ⟨A', n2 + 1, m'⟩ (X' ++ [⟨⟨yn, cs, un⟩, .slice A5 nn c5⟩])) := HA2.out.1.ix1 r2.out r1.out r3.out HA2.out.2
      go_roundw
      case rel => exact ⟨j + 1, _, _, by omega, by go_num, HF.out, by rw [HTk.out, List.map_append, HL.out.2]; rfl⟩
      case measure => simp [intOf]; omega
    · have hlI : ¬ (j : Int) < (M : Int) := by omega
      obtain ⟨a0, a1, a2, a3⟩ := HL.out.1.cells
      dsimp only [Sl.v] at a1 a3
      have hz : wr.heap[xb + 1]? = some tabZ := by
        obtain ⟨k1, k2, k3, k4, k5⟩ := HW2.out
        exact (HL.out.1.base.block _ (by omega)).trans k4
      have z0 : wr.cell? ⟨xb + 1, 0, none⟩ = some (.string ⟨#[]⟩) := by rw [cell_of hz]; rfl
      have z1 : wr.cell? ⟨xb + 1, 1, none⟩ = some (.slice none 0 0) := by rw [cell_of hz]; rfl
      have z2 : wr.cell? ⟨xb + 1, 2, none⟩ = some (.int .i64 0) := by rw [cell_of hz]; rfl
      have z3 : wr.cell? ⟨xb + 1, 3, none⟩ = some (.slice none 0 0) := by rw [cell_of hz]; rfl
      have y0 := frozen_of hz 0
      have y1 := frozen_of hz 1
      have y2 := frozen_of hz 2
      have y3 := frozen_of hz 3
      have HZ : Hid (wr.heap[xb + 1]? = some tabZ) := hz
      clear hz
      go_wp2_with fail
      have hk := HZ.out
      have i0 : (wr.setCell ⟨xb + 1, 0, none⟩ (.string nm)).cell? ⟨xb + 1, 0, none⟩ = some (.string nm) := by rw [cell_of (heap_setCell_same hk 0 _)]; rfl
      have i1 : ∀ x, ((wr.setCell ⟨xb + 1, 0, none⟩ x).setCell ⟨xb + 1, 1, none⟩ (.slice A N c)).cell? ⟨xb + 1, 1, none⟩ = some (.slice A N c) := fun x => by rw [cell_of (heap_setCell_same (heap_setCell_same hk 0 _) 1 _)]; rfl
      have i2 : ∀ x y, (((wr.setCell ⟨xb + 1, 0, none⟩ x).setCell ⟨xb + 1, 1, none⟩ y).setCell ⟨xb + 1, 2, none⟩ (.int .i64 key)).cell? ⟨xb + 1, 2, none⟩ = some (.int .i64 key) := fun x y => by rw [cell_of (heap_setCell_same (heap_setCell_same (heap_setCell_same hk 0 _) 1 _) 2 _)]; rfl
      have i3 : ∀ x y z, ((((wr.setCell ⟨xb + 1, 0, none⟩ x).setCell ⟨xb + 1, 1, none⟩ y).setCell ⟨xb + 1, 2, none⟩ z).setCell ⟨xb + 1, 3, none⟩ (.slice A2 n2 c2)).cell? ⟨xb + 1, 3, none⟩ = some (.slice A2 n2 c2) := fun x y z => by rw [cell_of (heap_setCell_same (heap_setCell_same (heap_setCell_same (heap_setCell_same hk 0 _) 1 _) 2 _) 3 _)]; rfl
      refine bodyPost_ret (by simp [results, Tryz.results8, go_sem, i0, i1, i2, i3]; rfl) rfl ?_
      have ht := set4_turn wr (xb + 1) (.string nm) (.slice A N c) (.int .i64 key) (.slice A2 n2 c2)
      obtain ⟨k1, k2, k3, k4, k5⟩ := HW2.out
      have hb1 : Below w.heap.size w wr := HBw.out _ HL.out.1.base
      have hj : j = M := by omega
      have heq : X'.map Iv.ix = X.map Iv.ix := by
        have := HL.out.2
        rw [List.take_of_length_le (by rw [HMl.out]; omega)] at this
        exact this
      have fr : ∀ {T : TypeId} {m k : Nat} {v : Value} {xs : List Value}, wr.ownsRow w2.heap.size T m v k xs → (set4 wr (xb + 1) (.string nm) (.slice A N c) (.int .i64 key) (.slice A2 n2 c2)).ownsRow w.heap.size T m v k xs := fun hrow =>
        ownsRow_low (ownsRow_block hrow fun g hg => ht.block g (World.ownsRow.lt hrow g hg).2 (by have := (World.ownsRow.lt hrow g hg).1; omega)) (by omega)
      show CopyR T w _ _
      refine ⟨.slice A N c, .slice A2 n2 c2, X', by rw [HT.out]; rfl, ?_, hb1.trans ((ht.mono (S' := fun q => w.heap.size ≤ q) (fun q hq => by omega)).toBelow hb1.size)⟩
      rw [HT.out]
      refine ⟨?_, ?_, heq, fun x hx => fr (HL.out.1.nums x hx)⟩
      · show World.ownsRow _ _ _ _ _ C.length _
        rw [HCl.out]; exact fr HL.out.1.co
      · have := HL.out.1.ixl
        dsimp only at this
        rw [this]; exact fr HL.out.1.ix

end Go.Proofs.YtnboanlhdllhnaaGreat
