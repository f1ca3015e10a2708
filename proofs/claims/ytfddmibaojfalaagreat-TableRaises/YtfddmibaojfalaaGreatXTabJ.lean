import Derived.Test.YtfddmibaojfalaaGreatXSwapJ
/- A table of one's own: where it lies, what writing it turns; the program's table.swap. -/
namespace Go.Proofs.YtfddmibaojfalaaGreat
open Go.RowKit

/-- a table's index as it lies -/
structure IxS where
  xb : Nat
  xc : Nat
  xcv : Value
  xrv : Value
  xcols : List Nat
  XR : List Rw
  ib : Nat
  ic : Nat
  icv : Value
  nm : ByteArray
  un : Bool
  ics : List Nat
/-- a table as it lies: of no index, or of one -/
structure TS where
  T : Tab
  cv : Value
  iv : Value
  kv : Value
  rv : Value
  xv : Value
  kcols : List Nat
  R : List Rw
  ix : Option IxS
abbrev TS.cells (S : TS) : Array Value := #[.string S.T.nm, S.cv, .int .i64 S.T.key, S.iv, S.kv, S.rv, S.xv]

/-- the kinds of blocks that calls on tables turn -/
def Ty (w : World) (i : Nat) : Prop := ∃ c t z, w.heap[i]? = some (.cells c t z) ∧ (t = 78 ∨ t = 37 ∨ t = 75)
theorem Ty.not {w : World} {i : Nat} {c : Array Value} {t : TypeId} {z : Nat × Nat} (h : w.heap[i]? = some (.cells c t z)) (h1 : t ≠ 78) (h2 : t ≠ 37) (h3 : t ≠ 75) : ¬ Ty w i := fun ⟨c', t', z', e, q⟩ => by
  rw [h] at e
  cases e
  rcases q with q | q | q
  · exact h1 q
  · exact h2 q
  · exact h3 q

/-- the part of an index -/
structure IxG (w : World) (S : TS) (x : IxS) : Prop where
  at_ : IxAt w S.iv S.xv x.nm x.un x.ics x.ib x.ic x.icv x.xb x.xc x.xcv x.xrv x.xcols x.XR
  list : ∃ cur, LO w x.xb 0 75 cur x.xcv x.xrv x.xcols x.XR
  ib : ∃ c z, w.heap[x.ib]? = some (.cells c 81 z)
  icv : ColsO w x.icv x.ics
  apart : ∀ b, S.rv.ownBlock = some b → x.xrv.ownBlock ≠ some b
  one : S.T.ix.length = 1
structure TG (w : World) (tb : Nat) (S : TS) : Prop where
  tab : ∃ X, TabO w 0 S.cv S.iv X S.T
  main : LO w tb 4 78 S.cells S.kv S.rv S.kcols S.R
  none_ : S.ix = none → S.T.ix = [] ∧ S.xv = nilS
  some_ : ∀ x, S.ix = some x → IxG w S x
/-- what calls on it write -/
def W (tb : Nat) (S : TS) (i : Nat) : Prop := i = tb ∨ S.rv.ownBlock = some i ∨ ∃ x, S.ix = some x ∧ (i = x.xb ∨ x.xrv.ownBlock = some i)

section
variable {w u : World} {tb : Nat} {S : TS}
theorem TG.st (h : TG w tb S) : w.heap[tb]? = some (.cells S.cells 78 (0, 0)) := h.main.st
theorem TG.view (h : TG w tb S) : TbV w tb S.cv S.iv S.kv S.rv S.xv S.T := by
  obtain ⟨X, hX⟩ := h.tab
  exact ⟨h.st, hX.tabV⟩
theorem TG.wty (h : TG w tb S) {i : Nat} (hi : W tb S i) : Ty w i := by
  rcases hi with rfl | hi | ⟨x, hx, rfl | hi⟩
  · exact ⟨_, _, _, h.st, Or.inl rfl⟩
  · obtain ⟨C, hC⟩ := h.main.rs.type hi
    exact ⟨_, _, _, hC, Or.inr (Or.inl rfl)⟩
  · obtain ⟨cur, hl⟩ := (h.some_ x hx).list
    exact ⟨_, _, _, hl.st, Or.inr (Or.inr rfl)⟩
  · obtain ⟨cur, hl⟩ := (h.some_ x hx).list
    obtain ⟨C, hC⟩ := hl.rs.type hi
    exact ⟨_, _, _, hC, Or.inr (Or.inl rfl)⟩
theorem Ty.lt {i : Nat} (h : Ty w i) : i < w.heap.size := by obtain ⟨c, t, z, e, _⟩ := h; exact lt_of e
theorem TG.wlt (h : TG w tb S) {i : Nat} (hi : W tb S i) : i < w.heap.size := (h.wty hi).lt
theorem row_nty {r : Rw} (h : RowG w r) : ¬ Ty w r.g := by
  obtain ⟨C, hC⟩ := h.type
  exact Ty.not hC (by decide) (by decide) (by decide)
theorem cols_nty {cv : Value} {cols : List Nat} (h : ColsO w cv cols) {b : Nat} (hb : cv.ownBlock = some b) : ¬ Ty w b := by
  obtain ⟨C, z, hC⟩ := h.2 b hb
  exact Ty.not hC (by decide) (by decide) (by decide)
theorem TabO.kept {cv iv : Value} {X : List Iv} {T : Tab} (h : TabO w 0 cv iv X T) {Q : Nat → Prop} (t : Turn Q w u) (hQ : ∀ i, i < w.heap.size → Q i → Ty w i) : TabO u 0 cv iv X T := by
  have key : ∀ {e : TypeId} {size n : Nat} {v : Value} {xs : List Value}, w.ownsRow 0 e size v n xs → e ≠ 78 → e ≠ 37 → e ≠ 75 → u.ownsRow 0 e size v n xs := fun hr h1 h2 h3 => ownsRow_block hr fun g hg => by
    obtain ⟨cur, hc, _⟩ := ownsRow_own hr hg
    exact t.block g (lt_of hc) (fun q => Ty.not hc h1 h2 h3 (hQ g (lt_of hc) q))
  exact ⟨key h.co (by decide) (by decide) (by decide), key h.ix (by decide) (by decide) (by decide), h.eq, fun x hx => key (h.nums x hx) (by decide) (by decide) (by decide)⟩
theorem RowG.kept {r : Rw} (h : RowG w r) {Q : Nat → Prop} (t : Turn Q w u) (hQ : ∀ i, i < w.heap.size → Q i → Ty w i) : RowG u r := by
  obtain ⟨C, hC⟩ := h.type
  exact h.heap (t.block r.g (lt_of hC) (fun q => row_nty h (hQ _ (lt_of hC) q)))
theorem cell_nty {b o : Nat} {v : Value} {c : Array Value} {t : TypeId} {z : Nat × Nat} (h : w.cell? ⟨b, o, none⟩ = some v) (hb : w.heap[b]? = some (.cells c t z)) (h1 : t ≠ 78) (h2 : t ≠ 37) (h3 : t ≠ 75) {Q : Nat → Prop} (tt : Turn Q w u) (hQ : ∀ i, i < w.heap.size → Q i → Ty w i) : u.cell? ⟨b, o, none⟩ = some v := by
  have e := tt.block b (lt_of hb) (fun q => Ty.not hb h1 h2 h3 (hQ b (lt_of hb) q))
  simp only [World.cell?] at h ⊢
  rw [e]
  exact h

/-- a list that is not turned -/
theorem LO.keptT {lb lo : Nat} {Tl : TypeId} {cur : Array Value} {cv rv : Value} {cols : List Nat} {R : List Rw} (h : LO w lb lo Tl cur cv rv cols R) {Q : Nat → Prop} (t : Turn Q w u) (hQ : ∀ i, i < w.heap.size → Q i → Ty w i) (h1 : ¬ Q lb) (h2 : ∀ b, rv.ownBlock = some b → ¬ Q b) : LO u lb lo Tl cur cv rv cols R :=
  h.kept t h1 h2 (fun b hb q => by
    obtain ⟨C, z, hC⟩ := h.cs.2 b hb
    exact cols_nty h.cs hb (hQ b (lt_of hC) q)) (fun r hr q => by
    obtain ⟨C, hC⟩ := (h.ro r hr).1.type
    exact row_nty (h.ro r hr).1 (hQ r.g (lt_of hC) q))
theorem IxAt.keptT {iv xv : Value} {nm : ByteArray} {un : Bool} {ics : List Nat} {ib ic : Nat} {icv : Value} {xb xc : Nat} {xcv xrv : Value} {xcols : List Nat} {XR : List Rw} (h : IxAt w iv xv nm un ics ib ic icv xb xc xcv xrv xcols XR) (hib : ∃ c z, w.heap[ib]? = some (.cells c 81 z)) (hco : ColsO w icv ics) {Q : Nat → Prop} (t : Turn Q w u) (hQ : ∀ i, i < w.heap.size → Q i → Ty w i) {xrv' : Value} {XR' : List Rw} (hl : LAt u xb 0 xcv xrv' xcols XR') : IxAt u iv xv nm un ics ib ic icv xb xc xcv xrv' xcols XR' := by
  obtain ⟨c, z, hc⟩ := hib
  have k : ∀ {o : Nat} {v : Value}, w.cell? ⟨ib, o, none⟩ = some v → u.cell? ⟨ib, o, none⟩ = some v := fun hh => cell_nty hh hc (by decide) (by decide) (by decide) t hQ
  refine ⟨h.iv, h.ic, k h.i0, k h.i1, k h.i2, (hco.heap t.size fun b hb => ?_).1, h.xv, h.xc, hl⟩
  obtain ⟨C, z', hC⟩ := hco.2 b hb
  exact t.block b (lt_of hC) (fun q => cols_nty hco hb (hQ b (lt_of hC) q))

/-- what turns none of its blocks leaves it as it is -/
theorem TG.kept (h : TG w tb S) {Q : Nat → Prop} (t : Turn Q w u) (hQ : ∀ i, i < w.heap.size → Q i → Ty w i) (hW : ∀ i, W tb S i → ¬ Q i) : TG u tb S := by
  obtain ⟨X, hX⟩ := h.tab
  refine ⟨⟨X, hX.kept t hQ⟩, h.main.keptT t hQ (hW tb (Or.inl rfl)) (fun b hb => hW b (Or.inr (Or.inl hb))), h.none_, fun x hx => ?_⟩
  have g := h.some_ x hx
  obtain ⟨cur, hl⟩ := g.list
  have hl' : LO u x.xb 0 75 cur x.xcv x.xrv x.xcols x.XR := hl.keptT t hQ (hW _ (Or.inr (Or.inr ⟨x, hx, Or.inl rfl⟩))) (fun b hb => hW b (Or.inr (Or.inr ⟨x, hx, Or.inr hb⟩)))
  obtain ⟨c, z, hc⟩ := g.ib
  refine ⟨g.at_.keptT g.ib g.icv t hQ hl'.at, ⟨cur, hl'⟩, ⟨c, z, (t.block _ (lt_of hc) (fun q => Ty.not hc (by decide) (by decide) (by decide) (hQ _ (lt_of hc) q))).trans hc⟩, g.icv.heap t.size fun b hb => ?_, g.apart, g.one⟩
  obtain ⟨C, z', hC⟩ := g.icv.2 b hb
  exact t.block b (lt_of hC) (fun q => cols_nty g.icv hb (hQ b (lt_of hC) q))
theorem TG.below (h : TG w tb S) (hu : Below w.heap.size w u) : TG u tb S := h.kept (Turn.ofBelow (fun _ => False) hu) (fun _ _ q => q.elim) (fun _ _ q => q)
end

end Go.Proofs.YtfddmibaojfalaaGreat

/- The program's table.swap. -/
namespace Go.Proofs.YtfddmibaojfalaaGreat
open Go.RowKit

/-- when a row may be taken out of all lists, and one put in -/
structure SwV (w : World) (S : TS) (was now : Option Rw) : Prop where
  r1 : RowC w S.kcols was
  r2 : RowC w S.kcols now
  d : DelOk S.kcols S.R was
  i : InsOk S.kcols (delR S.kcols S.R was) now
  few : S.R.length < 4200 ∧ S.kcols.length ≤ 64
  ix : ∀ x, S.ix = some x → RowC w x.xcols was ∧ RowC w x.xcols now ∧ DelOk x.xcols x.XR was ∧ InsOk x.xcols (delR x.xcols x.XR was) now ∧ x.xcols.length ≤ 64 ∧ x.XR.length < 4200
/-- the table then -/
structure SwS (S S' : TS) (was now : Option Rw) : Prop where
  T : S'.T = S.T
  kcols : S'.kcols = S.kcols
  R : S'.R = insR S.kcols (delR S.kcols S.R was) now
  none_ : S.ix = none → S'.ix = none
  some_ : ∀ x, S.ix = some x → ∃ x', S'.ix = some x' ∧ x'.xcols = x.xcols ∧ x'.ics = x.ics ∧ x'.nm = x.nm ∧ x'.un = x.un ∧ x'.XR = insR x.xcols (delR x.xcols x.XR was) now
def TsR (tb : Nat) (S : TS) (was now : Option Rw) (w : World) (e : Ending) (w' : World) : Prop := e = .returned (.tuple #[]) ∧ ∃ S', TG w' tb S' ∧ SwS S S' was now ∧ Turn (fun i => W tb S i) w w' ∧ ∀ i, W tb S' i → W tb S i ∨ w.heap.size ≤ i

section
variable {w w1 w2 : World} {tb : Nat} {S : TS} {was now : Option Rw}
theorem own_ty {w : World} {lb lo : Nat} {Tl : TypeId} {cur : Array Value} {cv rv : Value} {cols : List Nat} {R : List Rw} (h : LO w lb lo Tl cur cv rv cols R) (hT : Tl = 78 ∨ Tl = 75) : ∀ i, i < w.heap.size → (i = lb ∨ rv.ownBlock = some i) → Ty w i := fun i _ hi => by
  rcases hi with rfl | hi
  · rcases hT with e | e
    · exact ⟨_, _, _, h.st, Or.inl e⟩
    · exact ⟨_, _, _, h.st, Or.inr (Or.inr e)⟩
  · obtain ⟨C, hC⟩ := h.rs.type hi
    exact ⟨_, _, _, hC, Or.inr (Or.inl rfl)⟩

/-- the main list is made anew: a table without indexes -/
theorem TG.mainN (h : TG w tb S) (hx : S.ix = none) {R' : List Rw} (hs : SwR tb 4 78 S.cells S.kv S.rv S.kcols R' w w1) (hR : R' = insR S.kcols (delR S.kcols S.R was) now) :
    ∃ S', TG w1 tb S' ∧ SwS S S' was now ∧ Turn (fun i => W tb S i) w w1 ∧ ∀ i, W tb S' i → W tb S i ∨ w.heap.size ≤ i := by
  obtain ⟨rv', hl, ho, ht⟩ := hs
  obtain ⟨X, hX⟩ := h.tab
  have hQ := own_ty h.main (Or.inl rfl)
  refine ⟨{ S with rv := rv', R := R' }, ⟨⟨X, hX.kept ht hQ⟩, hl, fun _ => h.none_ hx, fun x hx' => ?_⟩, ⟨rfl, rfl, hR, fun _ => hx, fun x hx' => ?_⟩, ht.mono fun i hi => ?_, fun i hi => ?_⟩
  · have : S.ix = some x := hx'
    rw [hx] at this; cases this
  · rw [hx] at hx'; cases hx'
  · rcases hi with hi | hi
    · exact Or.inl hi
    · exact Or.inr (Or.inl hi)
  · rcases hi with hi | hi | ⟨x, hx', _⟩
    · exact Or.inl (Or.inl hi)
    · rcases ho with q | ⟨g, q, hg⟩
      · exact Or.inl (Or.inr (Or.inl (by rw [← q]; exact hi)))
      · have hi' : rv'.ownBlock = some i := hi
        rw [q] at hi'; cases hi'; exact Or.inr hg
    · have : S.ix = some x := hx'
      rw [hx] at this; cases this

/-- both lists are made anew -/
theorem TG.mainS (h : TG w tb S) {x : IxS} (hx : S.ix = some x) {R' XR' : List Rw} (hs : SwR tb 4 78 S.cells S.kv S.rv S.kcols R' w w1) (hR : R' = insR S.kcols (delR S.kcols S.R was) now) :
    ∃ cur, LO w1 x.xb 0 75 cur x.xcv x.xrv x.xcols x.XR ∧ (SwR x.xb 0 75 cur x.xcv x.xrv x.xcols XR' w1 w2 → XR' = insR x.xcols (delR x.xcols x.XR was) now → ∃ S', TG w2 tb S' ∧ SwS S S' was now ∧ Turn (fun i => W tb S i) w w2 ∧ ∀ i, W tb S' i → W tb S i ∨ w.heap.size ≤ i) := by
  obtain ⟨rv', hl, ho, ht⟩ := hs
  obtain ⟨X, hX⟩ := h.tab
  have hQ := own_ty h.main (Or.inl rfl)
  have g := h.some_ x hx
  obtain ⟨cur, hxl⟩ := g.list
  have hxtb : x.xb ≠ tb := type_ne hxl.st h.st (by decide)
  have hxlt := lt_of hxl.st
  have hxrv : ∀ b, x.xrv.ownBlock = some b → b ≠ tb ∧ S.rv.ownBlock ≠ some b ∧ b < w.heap.size := fun b hb => by
    obtain ⟨C, hC⟩ := hxl.rs.type hb
    exact ⟨type_ne hC h.st (by decide), fun e => g.apart b e hb, lt_of hC⟩
  have hrvt : ∀ b, S.rv.ownBlock = some b → x.xb ≠ b ∧ b < w.heap.size := fun b hb => by
    obtain ⟨C, hC⟩ := h.main.rs.type hb
    exact ⟨type_ne hxl.st hC (by decide), lt_of hC⟩
  have hxl1 : LO w1 x.xb 0 75 cur x.xcv x.xrv x.xcols x.XR := hxl.keptT ht hQ (fun q => by
    rcases q with q | q
    · exact hxtb q
    · exact (hrvt _ q).1 rfl) (fun b hb q => by
    rcases q with q | q
    · exact (hxrv b hb).1 q
    · exact (hxrv b hb).2.1 q)
  refine ⟨cur, hxl1, fun hs2 hXR => ?_⟩
  obtain ⟨xrv', hl2, ho2, ht2⟩ := hs2
  have hQ2 := own_ty hxl1 (Or.inr rfl)
  have hrv' : ∀ b, rv'.ownBlock = some b → x.xb ≠ b ∧ x.xrv.ownBlock ≠ some b ∧ b < w1.heap.size := fun b hb => by
    obtain ⟨C, hC⟩ := hl.rs.type hb
    refine ⟨type_ne hxl1.st hC (by decide), fun e => ?_, lt_of hC⟩
    rcases ho with q | ⟨g', q, hg⟩
    · exact (hxrv b e).2.1 (by rw [← q]; exact hb)
    · rw [hb] at q; cases q
      have := (hxrv b e).2.2
      omega
  have hl' : LO w2 tb 4 78 (S.cells.setIfInBounds (4 + 1) rv') S.kv rv' S.kcols R' := hl.keptT ht2 hQ2 (fun q => by
    rcases q with q | q
    · exact hxtb q.symm
    · exact (hxrv _ q).1 rfl) (fun b hb q => by
    rcases q with q | q
    · exact (hrv' b hb).1 q.symm
    · exact (hrv' b hb).2.1 q)
  have hX1 := hX.kept ht hQ
  obtain ⟨c, z, hc⟩ := g.ib
  have hc1 := (ht.block _ (lt_of hc) (fun q => Ty.not hc (by decide) (by decide) (by decide) (hQ _ (lt_of hc) q))).trans hc
  have hc2 := (ht2.block _ (lt_of hc1) (fun q => Ty.not hc1 (by decide) (by decide) (by decide) (hQ2 _ (lt_of hc1) q))).trans hc1
  have ic1 : ColsO w1 x.icv x.ics := g.icv.heap ht.size fun b hb => by
    obtain ⟨C, z', hC⟩ := g.icv.2 b hb
    exact ht.block b (lt_of hC) (fun q => cols_nty g.icv hb (hQ b (lt_of hC) q))
  have ic2 : ColsO w2 x.icv x.ics := ic1.heap ht2.size fun b hb => by
    obtain ⟨C, z', hC⟩ := ic1.2 b hb
    exact ht2.block b (lt_of hC) (fun q => cols_nty ic1 hb (hQ2 b (lt_of hC) q))
  have at1 := g.at_.keptT g.ib g.icv ht hQ hxl1.at
  have at2 := at1.keptT ⟨c, z, hc1⟩ ic1 ht2 hQ2 hl2.at
  refine ⟨{ S with rv := rv', R := R', ix := some { x with xrv := xrv', XR := XR' } }, ⟨⟨X, hX1.kept ht2 hQ2⟩, hl', (fun q => by cases q), fun x' hx' => ?_⟩, ⟨rfl, rfl, hR, (fun q => by rw [hx] at q; cases q), fun x' hx' => ?_⟩, ?_, fun i hi => ?_⟩
  · have e : some { x with xrv := xrv', XR := XR' } = some x' := hx'
    cases e
    refine ⟨at2, ⟨_, hl2⟩, ⟨c, z, hc2⟩, ic2, fun b hb e => ?_, g.one⟩
    have hb' : rv'.ownBlock = some b := hb
    have e' : xrv'.ownBlock = some b := e
    rcases ho2 with q | ⟨g', q, hg⟩
    · exact (hrv' b hb').2.1 (by rw [← q]; exact e')
    · rw [e'] at q; cases q
      have := (hrv' b hb').2.2
      omega
  · rw [hx] at hx'; cases hx'
    exact ⟨_, rfl, rfl, rfl, rfl, rfl, hXR⟩
  · refine Turn.transNew (ht.mono fun i hi => ?_) ht2 fun i hi => ?_
    · rcases hi with hi | hi
      · exact Or.inl hi
      · exact Or.inr (Or.inl hi)
    · exact Or.inl (Or.inr (Or.inr ⟨x, hx, hi⟩))
  · rcases hi with hi | hi | ⟨x', hx', hi⟩
    · exact Or.inl (Or.inl hi)
    · have hi' : rv'.ownBlock = some i := hi
      rcases ho with q | ⟨g', q, hg⟩
      · exact Or.inl (Or.inr (Or.inl (by rw [← q]; exact hi')))
      · rw [q] at hi'; cases hi'; exact Or.inr hg
    · have e : some { x with xrv := xrv', XR := XR' } = some x' := hx'
      cases e
      rcases hi with hi | hi
      · exact Or.inl (Or.inr (Or.inr ⟨x, hx, Or.inl hi⟩))
      · have hi' : xrv'.ownBlock = some i := hi
        rcases ho2 with q | ⟨g', q, hg⟩
        · exact Or.inl (Or.inr (Or.inr ⟨x, hx, Or.inr (by rw [← q]; exact hi')⟩))
        · rw [q] at hi'; cases hi'; exact Or.inr (Nat.le_trans ht.size hg)

set_option maxRecDepth 100000 in
set_option maxHeartbeats 2000000 in
theorem tswap_any (h : TG w tb S) (hv : SwV w S was now) : Calls Tryz.prog 19 #[.pointer (some ⟨tb, 0, none⟩), optV was, optV now] w (TsR tb S was now w) := by
  have HM : Hid (Calls Tryz.prog 28 #[.pointer (some ⟨tb, 4, none⟩), optV was, optV now] w (SwE tb 4 78 S.cells S.kv S.rv S.kcols (insR S.kcols (delR S.kcols S.R was) now) w)) := lswap_any h.main was now hv.r1 hv.r2 hv.d hv.i hv.few.2 hv.few.1
  obtain ⟨oa, on, oc, ho, -⟩ := opt_shape was
  obtain ⟨na, nn, nc, hn, -⟩ := opt_shape now
  have htl : tb < w.heap.size := lt_of h.st
  cases hix : S.ix with
  | none =>
    have HE : Hid (∀ w1, SwR tb 4 78 S.cells S.kv S.rv S.kcols (insR S.kcols (delR S.kcols S.R was) now) w w1 → (∃ S', TG w1 tb S' ∧ SwS S S' was now ∧ Turn (fun i => W tb S i) w w1 ∧ ∀ i, W tb S' i → W tb S i ∨ w.heap.size ≤ i) ∧ w1.cell? ⟨tb, 6, none⟩ = some (.slice none 0 0) ∧ tb < w1.heap.size) := fun w1 hs => by
      refine ⟨h.mainN hix hs rfl, ?_, ?_⟩
      · obtain ⟨rv', hl, _⟩ := hs
        rw [cell_of hl.st]
        show some S.xv = _
        rw [(h.none_ hix).2]
      · obtain ⟨rv', hl, _⟩ := hs
        exact lt_of hl.st
    rw [ho, hn] at HM ⊢
    clear hv h ho hn hix
    go_enter Tryz.func19, Tryz.ntmps19
    go_wp2_with fail
    refine HM.out.mono ?_
    rintro e w1 ⟨rfl, hs⟩
    obtain ⟨hE, c6, tl1⟩ := HE.out w1 hs
    have HEn : Hid (∃ S', TG w1 tb S' ∧ SwS S S' was now ∧ Turn (fun i => W tb S i) w w1 ∧ ∀ i, W tb S' i → W tb S i ∨ w.heap.size ≤ i) := hE
    clear hs hE
    go_wp2_with fail
    refine wp_loop_rounds 1 ?_
    rw [rounds_succ]
    go_wp2_with fail
    go_returns
    exact ⟨rfl, HEn.out⟩
  | some x =>
    obtain ⟨v1, v2, v3, v4, v5, v6⟩ := hv.ix x hix
    have hxv := (h.some_ x hix).at_.xv
    obtain ⟨xc1, xc2⟩ := (h.some_ x hix).at_.xc
    have HE : Hid (∀ w1, SwR tb 4 78 S.cells S.kv S.rv S.kcols (insR S.kcols (delR S.kcols S.R was) now) w w1 → (Calls Tryz.prog 28 #[.pointer (some ⟨x.xb, 0, none⟩), optV was, optV now] w1 fun e w2 => e = .returned (.tuple #[]) ∧ Hid (∃ S', TG w2 tb S' ∧ SwS S S' was now ∧ Turn (fun i => W tb S i) w w2 ∧ ∀ i, W tb S' i → W tb S i ∨ w.heap.size ≤ i)) ∧ w1.cell? ⟨tb, 6, none⟩ = some (.slice (some ⟨x.xb, 0, none⟩) 1 x.xc) ∧ tb < w1.heap.size ∧ x.xb < w1.heap.size) := fun w1 hs => by
      obtain ⟨rv', hl, _, ht⟩ := id hs
      have hQ := own_ty h.main (Or.inl rfl)
      have rk : ∀ o : Option Rw, RowC w x.xcols o → RowC w1 x.xcols o := fun o ho' => by
        cases o with
        | none => exact trivial
        | some r => exact ⟨ho'.1.kept ht hQ, ho'.2⟩
      refine ⟨?_, ?_, lt_of hl.st, ?_⟩
      · obtain ⟨cur, hxl, _⟩ := h.mainS (w2 := w1) (XR' := x.XR) hix hs rfl
        refine (lswap_any hxl was now (rk _ v1) (rk _ v2) v3 v4 v5 v6).mono fun e w2 ⟨e1, e2⟩ => ⟨e1, ?_⟩
        obtain ⟨cur', hxl', hfin⟩ := h.mainS (w2 := w2) (XR' := insR x.xcols (delR x.xcols x.XR was) now) hix hs rfl
        have : cur' = cur := by have q := hxl'.st; rw [hxl.st] at q; cases q; rfl
        subst this
        exact hfin e2 rfl
      · rw [cell_of hl.st]
        show some S.xv = _
        rw [hxv]
      · obtain ⟨cur, hxl, _⟩ := h.mainS (w2 := w1) (XR' := x.XR) hix hs rfl
        exact lt_of hxl.st
    obtain ⟨xb, hxb⟩ : ∃ q, x.xb = q := ⟨_, rfl⟩
    obtain ⟨xc, hxc⟩ : ∃ q, x.xc = q := ⟨_, rfl⟩
    rw [hxb, hxc] at HE
    rw [hxc] at xc1 xc2
    unfold maxLen at xc2
    rw [ho, hn] at HM HE ⊢
    clear hv h ho hn hix v1 v2 v3 v4 v5 v6 hxv hxb hxc
    go_enter Tryz.func19, Tryz.ntmps19
    go_wp2_with fail
    refine HM.out.mono ?_
    rintro e w1 ⟨rfl, hs⟩
    obtain ⟨hC, c6, tl1, xl1⟩ := HE.out w1 hs
    have HC : Hid (Calls Tryz.prog 28 #[.pointer (some ⟨xb, 0, none⟩), .slice oa on oc, .slice na nn nc] w1 fun e w2 => e = .returned (.tuple #[]) ∧ Hid (∃ S', TG w2 tb S' ∧ SwS S S' was now ∧ Turn (fun i => W tb S i) w w2 ∧ ∀ i, W tb S' i → W tb S i ∨ w.heap.size ≤ i)) := hC
    clear hs hC
    go_wp2_with fail
    refine wp_loop_rounds 2 ?_
    rw [rounds_succ]
    go_wp2_with (go_at_call 28; go_must (refine HC.out.mono ?_; rintro e w2 ⟨rfl, HEn⟩))
    rw [rounds_succ]
    go_wp2_with fail
    go_returns
    exact ⟨rfl, HEn.out⟩
end

end Go.Proofs.YtfddmibaojfalaaGreat
