/- Rows of one's own that grow by one thing, in this layer: results and changes; data beside them. -/
import Derived.Test.YtfddmibaojfalaaGreatXUndoJ
import Derived.Test.YtfddmibaojfalaaGreatXCopyR
import Derived.Deep.RegionLaw
import Derived.Maps.AppendAt
namespace Go.Proofs.YtfddmibaojfalaaGreat
open Go.RowKit

theorem own_shape {w : World} {base : Nat} {e : TypeId} {size n : Nat} {v : Value} {xs : List Value} (h : w.ownsRow base e size v n xs) : ∃ a m, v = .slice a n m := by
  rcases h.2 with ⟨rfl, rfl⟩ | ⟨g, cap, cur, rfl, _⟩
  · exact ⟨none, 0, rfl⟩
  · exact ⟨_, cap, rfl⟩

theorem step_append_one1 {w : World} {ops : Array Oper} {o : Oper} {a : Act} {K : Act → World → Prop} {Q : Exit → Act → World → Prop} {E : Prop} (hgd : o.guard = none) (s x : Operand) (t : TypeId)
    (ho : o.op = .call { callee := .builtin .append, args := #[s, x], argTypes := #[t, t] })
    (e : TypeId) (z : Value) (size bytes : Nat) (ht : Tryz.prog.underlying t = some (.slice e)) (hinfo : (Tryz.prog.info? e).map (fun i => (i.zero, i.size, i.bytes)) = some (some z, size, bytes)) (hzs : z.cells.size = size) (hsz : 0 < size) (hby : bytes ≤ 1024)
    {α : Type} (en : α → List Value) (hm : ∀ y, (en y).length = size) (L : List α) (y : α) (hone : ∀ u ∈ en y, u.oneCell' = true)
    (A : Option Addr) (n m : Nat) (hs : a.eval s = .slice A n m) (hown : w.ownsRow 0 e size (.slice A n m) n (flat en L)) (hn : n ≤ 1000000)
    (p : Nat) (hx : a.eval x = .slice (some ⟨p, 0, none⟩) 1 1) (hp : ∀ j u, (en y)[j]? = some u → w.cell? ⟨p, j, none⟩ = some u)
    (h : ∀ A' m' w', w'.ownsRow 0 e size (.slice A' (n + 1) m') (n + 1) (flat en (L ++ [y])) → Turn (fun i => (Value.slice A n m).ownBlock = some i) w w' → (∀ i, (Value.slice A' (n + 1) m').ownBlock = some i → (Value.slice A n m).ownBlock = some i ∨ w.heap.size ≤ i) → K (a.put o.dst (.slice A' (n + 1) m')) w') :
    if Region.wanted o (yielded ops a.tmps) = true then Oper.wp Tryz.prog o a w K Q else E := by
  have hw : Region.wanted o (yielded ops a.tmps) = true := by simp [Region.wanted, hgd]
  rw [if_pos hw]
  obtain ⟨i, hi, hz, h1, h2⟩ := info_parts hinfo
  have hb : (n + 1) * bytes ≤ 1000001 * 1024 := Nat.mul_le_mul (by omega) hby
  obtain ⟨v', w', hr, k1, k2, _, k4⟩ := run_append_own_at (P := Tryz.prog) w 0 t o.type e i z size bytes ht hi hz h1 h2 hzs hsz _ n _ hown ⟨p, 0, none⟩ 1 1 (en y) (by rw [hm, Nat.one_mul]) (fun j u hu => by rw [Addr.add_lit, Nat.zero_add]; exact hp j u hu) hone (by unfold maxLen; omega) (by omega) (Nat.zero_le _)
  obtain ⟨A', m', rfl⟩ := own_shape k1
  unfold Oper.wp
  simp [execOp, ho, resolve, invoke, builtin, hs, hx, hr, Result.andThen]
  refine h A' m' w' ?_ (Turn.ofGrown k2 (fun k hk => hk)) (fun i hi => ?_)
  · rw [flat_append]
    simpa [flat] using k1
  · rcases k4 with k | k
    · exact Or.inl (k ▸ hi)
    · rw [k] at hi
      right
      injection hi with hi
      omega

theorem wpList_append_one {w : World} {ops : Array Oper} {rest : List Oper} {o : Oper} {a : Act} {Q : Exit → Act → World → Prop} (hgd : o.guard = none) (s x : Operand) (t : TypeId)
    (ho : o.op = .call { callee := .builtin .append, args := #[s, x], argTypes := #[t, t] })
    (e : TypeId) (z : Value) (size bytes : Nat) (ht : Tryz.prog.underlying t = some (.slice e)) (hinfo : (Tryz.prog.info? e).map (fun i => (i.zero, i.size, i.bytes)) = some (some z, size, bytes)) (hzs : z.cells.size = size) (hsz : 0 < size) (hby : bytes ≤ 1024)
    {α : Type} (en : α → List Value) (hm : ∀ y, (en y).length = size) (L : List α) (y : α) (hone : ∀ u ∈ en y, u.oneCell' = true)
    (A : Option Addr) (n m : Nat) (hs : a.eval s = .slice A n m) (hown : w.ownsRow 0 e size (.slice A n m) n (flat en L)) (hn : n ≤ 1000000)
    (p : Nat) (hx : a.eval x = .slice (some ⟨p, 0, none⟩) 1 1) (hp : ∀ j u, (en y)[j]? = some u → w.cell? ⟨p, j, none⟩ = some u)
    (h : ∀ A' m' w', Hid (w'.ownsRow 0 e size (.slice A' (n + 1) m') (n + 1) (flat en (L ++ [y]))) → Hid (Turn (fun i => (Value.slice A n m).ownBlock = some i) w w') → Hid (∀ i, (Value.slice A' (n + 1) m').ownBlock = some i → (Value.slice A n m).ownBlock = some i ∨ w.heap.size ≤ i) → wpList Tryz.prog ops Q rest (a.put o.dst (.slice A' (n + 1) m')) w') :
    wpList Tryz.prog ops Q (o :: rest) a w := by
  obtain ⟨i, hi, hz, h1, h2⟩ := info_parts hinfo
  have hb : (n + 1) * bytes ≤ 1000001 * 1024 := Nat.mul_le_mul (by omega) hby
  refine wpList_append_own_at w hgd s x t ho 0 e i z size bytes ht hi hz h1 h2 hzs hsz _ n (flat en L) hs hown ⟨p, 0, none⟩ 1 1 (en y) hx (by rw [hm, Nat.one_mul]) (fun j u hu => by rw [Addr.add_lit, Nat.zero_add]; exact hp j u hu) hone (by unfold maxLen; omega) (by omega) (Nat.zero_le _) (fun v' w' k1 k2 _ k4 => ?_)
  obtain ⟨A', m', rfl⟩ := own_shape k1
  refine h A' m' w' ?_ (Turn.ofGrown k2 (fun k hk => hk)) (fun i hi => ?_)
  · show World.ownsRow _ _ _ _ _ _ _
    rw [flat_append]
    simpa [flat] using k1
  · rcases k4 with k | k
    · exact Or.inl (k ▸ hi)
    · rw [k] at hi
      right
      injection hi with hi
      omega

theorem infoResult : (Tryz.prog.info? 52).map (fun i => (i.zero, i.size, i.bytes)) = some (some (.agg #[.int .i64 0, .slice none 0 0]), 2, 32) := by kernel_rfl
theorem infoChange : (Tryz.prog.info? 71).map (fun i => (i.zero, i.size, i.bytes)) = some (some (.agg #[.pointer none, .slice none 0 0, .slice none 0 0]), 3, 56) := by kernel_rfl
/-- a result -/
abbrev Rs := Int × Value
def enRs (r : Rs) : List Value := [.int .i64 r.1, r.2]
theorem oneRs (k : Int) (a : Option Addr) (n c : Nat) : ∀ u ∈ enRs (k, .slice a n c), u.oneCell' = true := fun u hu => by
  simp only [enRs, List.mem_cons, List.not_mem_nil, or_false] at hu
  rcases hu with rfl | rfl <;> rfl
theorem oneCh (tb : Nat) (c : Ch) : ∀ u ∈ enCh tb c, u.oneCell' = true := fun u hu => by
  obtain ⟨a1, n1, c1, h1, -⟩ := opt_shape c.1
  obtain ⟨a2, n2, c2, h2, -⟩ := opt_shape c.2
  unfold enCh at hu
  rw [h1, h2] at hu
  simp only [List.mem_cons, List.not_mem_nil, or_false] at hu
  rcases hu with rfl | rfl | rfl <;> rfl
theorem rs_at (w : World) (k : Int) (v : Value) (t : TypeId) : ∀ j u, (enRs (k, v))[j]? = some u → (w.alloc (.cells #[.int .i64 k, v] t)).cell? ⟨w.heap.size, j, none⟩ = some u := fun j u h => by
  rw [cell_of (heap_new w _), List.getElem?_toArray]
  exact h
theorem ch_at (w : World) (tb : Nat) (c : Ch) (t : TypeId) : ∀ j u, (enCh tb c)[j]? = some u → (w.alloc (.cells #[.pointer (some ⟨tb, 0, none⟩), optV c.1, optV c.2] t)).cell? ⟨w.heap.size, j, none⟩ = some u := fun j u h => by
  rw [cell_of (heap_new w _), List.getElem?_toArray]
  exact h

/-- types of blocks that are no table's -/
abbrev Known (t : TypeId) : Prop := t ≠ 52 ∧ t ≠ 71
/-- only cells of these are turned -/
def Alien (w : World) (Q : Nat → Prop) : Prop := ∀ i, Q i → ∃ c t z, w.heap[i]? = some (.cells c t z) ∧ ¬ Known t
section
variable {w u : World} {tb d m : Nat} {S : TS} {Q : Nat → Prop}
theorem Alien.not (h : Alien w Q) {i : Nat} {c : Array Value} {t : TypeId} {z : Nat × Nat} (e : w.heap[i]? = some (.cells c t z)) (k : Known t) : ¬ Q i := fun q => by
  obtain ⟨c', t', z', e', k'⟩ := h i q
  rw [e] at e'
  cases e'
  exact k' k
theorem row_keptR {e : TypeId} {size n : Nat} {v : Value} {xs : List Value} (hr : w.ownsRow 0 e size v n xs) (k : Known e) (t : Turn Q w u) (hN : Alien w Q) : u.ownsRow 0 e size v n xs := ownsRow_block hr fun g hg => by
  obtain ⟨cur, hc, _⟩ := ownsRow_own hr hg
  exact t.block g (lt_of hc) (hN.not hc k)
theorem RowG.keptR {r : Rw} (h : RowG w r) (t : Turn Q w u) (hN : Alien w Q) : RowG u r := by
  obtain ⟨C, hC⟩ := h.type
  exact h.heap (t.block r.g (lt_of hC) (hN.not hC (by decide)))
theorem LO.keptR {lb lo : Nat} {Tl : TypeId} {cur : Array Value} {cv rv : Value} {cols : List Nat} {R : List Rw} (h : LO w lb lo Tl cur cv rv cols R) (k : Known Tl) (t : Turn Q w u) (hN : Alien w Q) : LO u lb lo Tl cur cv rv cols R :=
  h.kept t (hN.not h.st k) (fun b hb => by obtain ⟨C, hC⟩ := h.rs.type hb; exact hN.not hC (by decide)) (fun b hb => by obtain ⟨C, z, hC⟩ := h.cs.2 b hb; exact hN.not hC (by decide)) (fun r hr => by obtain ⟨C, hC⟩ := (h.ro r hr).1.type; exact hN.not hC (by decide))
theorem TG.keptR (h : TG w tb S) (t : Turn Q w u) (hN : Alien w Q) : TG u tb S := by
  obtain ⟨X, hX⟩ := h.tab
  refine ⟨⟨X, row_keptR hX.co (by decide) t hN, row_keptR hX.ix (by decide) t hN, hX.eq, fun x hx => row_keptR (hX.nums x hx) (by decide) t hN⟩, h.main.keptR (by decide) t hN, h.none_, fun x hx => ?_⟩
  have g := h.some_ x hx
  obtain ⟨cur, hl⟩ := g.list
  have hl' := hl.keptR (by decide) t hN
  obtain ⟨c, z, hc⟩ := g.ib
  have hcu := (t.block _ (lt_of hc) (hN.not hc (by decide))).trans hc
  have k : ∀ {o : Nat} {v : Value}, w.cell? ⟨x.ib, o, none⟩ = some v → u.cell? ⟨x.ib, o, none⟩ = some v := fun hh => by
    rw [cell_of hc] at hh
    rw [cell_of hcu]
    exact hh
  have ic : ColsO u x.icv x.ics := g.icv.heap t.size fun b hb => by
    obtain ⟨C, z', hC⟩ := g.icv.2 b hb
    exact t.block b (lt_of hC) (hN.not hC (by decide))
  exact ⟨⟨g.at_.iv, g.at_.ic, k g.at_.i0, k g.at_.i1, k g.at_.i2, ic.1, g.at_.xv, g.at_.xc, hl'.at⟩, ⟨cur, hl'⟩, ⟨c, z, hcu⟩, ic, g.apart, g.one⟩
theorem DG.keptR (h : DG w d m tb S) (t : Turn Q w u) (hN : Alien w Q) : DG u d m tb S := by
  obtain ⟨c, hc⟩ := h.top
  have hm := h.map
  obtain ⟨es, clock, hb, _⟩ := h.map
  refine ⟨⟨c, (t.block d (lt_of hc) (hN.not hc (by decide))).trans hc⟩, ownsMap_block hm (t.block m (lt_of hb) (fun q => ?_)), h.tab.keptR t hN, h.nm⟩
  obtain ⟨c', t', z', e', _⟩ := hN m q
  rw [hb] at e'
  cases e'
theorem ChG.keptR {c : Ch} (h : ChG w c) (t : Turn Q w u) (hN : Alien w Q) : ChG u c := ⟨fun r hr => (h.1 r hr).keptR t hN, fun r hr => (h.2 r hr).keptR t hN⟩
theorem ChG.below {c : Ch} (h : ChG w c) (hu : Below w.heap.size w u) : ChG u c := ⟨fun r hr => (h.1 r hr).kept (Turn.ofBelow (fun _ => False) hu) (fun _ _ q => q.elim), fun r hr => (h.2 r hr).kept (Turn.ofBelow (fun _ => False) hu) (fun _ _ q => q.elim)⟩
/-- data behind calls on the table -/
theorem DG.gone {S' : TS} {A : World} (h : DG w d m tb S) (g : Gone w tb S A S') : DG A d m tb S' := by
  obtain ⟨c, hc⟩ := h.top
  have hm := h.map
  obtain ⟨es, clock, hb, _⟩ := h.map
  refine ⟨⟨c, (g.turn.block d (lt_of hc) (fun q => Ty.not hc (by decide) (by decide) (by decide) (h.tab.wty q))).trans hc⟩, ?_, g.tab, by rw [g.T]; exact h.nm⟩
  rw [g.T]
  exact ownsMap_block hm (g.turn.block m (lt_of hb) (fun q => map_nty hm (h.tab.wty q)))
end

end Go.Proofs.YtfddmibaojfalaaGreat
