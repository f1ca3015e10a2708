/- Two data side by side: what leaves each of them as it is. -/
import Derived.Test.YtfddmibaojfalaaGreatXNewJ
namespace Go.Proofs.YtfddmibaojfalaaGreat
open Go.RowKit Go.Maps

/-- what is turned are blocks of these kinds, or no cells -/
def OnlyB (bad : TypeId → Prop) (w : World) (Q : Nat → Prop) : Prop := ∀ i, Q i → ∀ c t z, w.heap[i]? = some (.cells c t z) → bad t
/-- kinds that no table is made of -/
structure Free15 (bad : TypeId → Prop) : Prop where
  t : ¬ bad 78
  r : ¬ bad 37
  l : ¬ bad 75
  c : ¬ bad 25
  x : ¬ bad 81
  n : ¬ bad 3
  v : ¬ bad 36
section
variable {w u : World} {tb d m : Nat} {S : TS} {Q : Nat → Prop} {bad : TypeId → Prop}
theorem OnlyB.not (h : OnlyB bad w Q) {i : Nat} {c : Array Value} {t : TypeId} {z : Nat × Nat} (e : w.heap[i]? = some (.cells c t z)) (k : ¬ bad t) : ¬ Q i := fun q => k (h i q _ _ _ e)
theorem row_keptB {e : TypeId} {size n : Nat} {v : Value} {xs : List Value} (hr : w.ownsRow 0 e size v n xs) (k : ¬ bad e) (t : Turn Q w u) (hN : OnlyB bad w Q) : u.ownsRow 0 e size v n xs := ownsRow_block hr fun g hg => by
  obtain ⟨cur, hc, _⟩ := ownsRow_own hr hg
  exact t.block g (lt_of hc) (hN.not hc k)
theorem RowG.keptB {r : Rw} (h : RowG w r) (f : Free15 bad) (t : Turn Q w u) (hN : OnlyB bad w Q) : RowG u r := by
  obtain ⟨C, hC⟩ := h.type
  exact h.heap (t.block r.g (lt_of hC) (hN.not hC f.v))
theorem LO.keptB {lb lo : Nat} {Tl : TypeId} {cur : Array Value} {cv rv : Value} {cols : List Nat} {R : List Rw} (h : LO w lb lo Tl cur cv rv cols R) (f : Free15 bad) (k : ¬ bad Tl) (t : Turn Q w u) (hN : OnlyB bad w Q) : LO u lb lo Tl cur cv rv cols R :=
  h.kept t (hN.not h.st k) (fun b hb => by obtain ⟨C, hC⟩ := h.rs.type hb; exact hN.not hC f.r) (fun b hb => by obtain ⟨C, z, hC⟩ := h.cs.2 b hb; exact hN.not hC f.n) (fun r hr => by obtain ⟨C, hC⟩ := (h.ro r hr).1.type; exact hN.not hC f.v)
theorem TG.keptB (h : TG w tb S) (f : Free15 bad) (t : Turn Q w u) (hN : OnlyB bad w Q) : TG u tb S := by
  obtain ⟨X, hX⟩ := h.tab
  refine ⟨⟨X, row_keptB hX.co f.c t hN, row_keptB hX.ix f.x t hN, hX.eq, fun x hx => row_keptB (hX.nums x hx) f.n t hN⟩, h.main.keptB f f.t t hN, h.none_, fun x hx => ?_⟩
  have g := h.some_ x hx
  obtain ⟨cur, hl⟩ := g.list
  have hl' := hl.keptB f f.l t hN
  obtain ⟨c, z, hc⟩ := g.ib
  have hcu := (t.block _ (lt_of hc) (hN.not hc f.x)).trans hc
  have k : ∀ {o : Nat} {v : Value}, w.cell? ⟨x.ib, o, none⟩ = some v → u.cell? ⟨x.ib, o, none⟩ = some v := fun hh => by
    rw [cell_of hc] at hh
    rw [cell_of hcu]
    exact hh
  have ic : ColsO u x.icv x.ics := g.icv.heap t.size fun b hb => by
    obtain ⟨C, z', hC⟩ := g.icv.2 b hb
    exact t.block b (lt_of hC) (hN.not hC f.n)
  exact ⟨⟨g.at_.iv, g.at_.ic, k g.at_.i0, k g.at_.i1, k g.at_.i2, ic.1, g.at_.xv, g.at_.xc, hl'.at⟩, ⟨cur, hl'⟩, ⟨c, z, hcu⟩, ic, g.apart, g.one⟩
theorem DG.keptB (h : DG w d m tb S) (f : Free15 bad) (t : Turn Q w u) (hN : OnlyB bad w Q) (hd : ¬ Q d) (hm : ¬ Q m) : DG u d m tb S := by
  obtain ⟨c, hc⟩ := h.top
  have hmm := h.map
  obtain ⟨es, clock, hb, _⟩ := h.map
  exact ⟨⟨c, (t.block d (lt_of hc) hd).trans hc⟩, ownsMap_block hmm (t.block m (lt_of hb) hm), h.tab.keptB f t hN, h.nm⟩
theorem D0.kept {base up c : Nat} (h : D0 w base up d c m) (t : Turn Q w u) (hQ : ∀ i, base ≤ i → i < up → ¬ Q i) : D0 u base up d c m := by
  obtain ⟨F, f1, f2⟩ := h.cat
  obtain ⟨l1, l2, l3⟩ := h.lo
  obtain ⟨h1, h2, h3⟩ := h.hi
  obtain ⟨es, clock, hb, _⟩ := h.map
  have key : ∀ i, F i → u.heap[i]? = w.heap[i]? := fun i hi => t.block i (Nat.lt_of_lt_of_le (f2 i hi).1.2.1 h3) (hQ i (f2 i hi).1.1 (f2 i hi).1.2.1)
  refine ⟨(t.block d (lt_of h.top) (hQ d l1 h1)).trans h.top, ownsMap_block h.map (t.block m (lt_of hb) (hQ m l2 h2)), ⟨F, ?_, fun i hi => ?_⟩, h.lo, h1, h2, Nat.le_trans h3 t.size⟩
  · obtain ⟨m', G, hG, hL, hF⟩ := f1
    exact ⟨m', G, hG.kept fun i hi => key i ((hF i).2 hi), hL, hF⟩
  · obtain ⟨⟨q1, q2, q3⟩, q4⟩ := f2 i hi
    exact ⟨⟨q1, q2, fun c t z e => q3 c t z (by rw [← key i hi]; exact e)⟩, q4⟩
theorem free_cat : Free15 (fun t => t = 84) := ⟨by decide, by decide, by decide, by decide, by decide, by decide, by decide⟩
theorem free_op : Free15 (fun t => t = 39) := ⟨by decide, by decide, by decide, by decide, by decide, by decide, by decide⟩
end

end Go.Proofs.YtfddmibaojfalaaGreat
