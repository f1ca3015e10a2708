import Derived.Test.YtfddmibaojfalaaGreatXTabJ
import Derived.Maps.OwnSet
import Derived.StringKeys
import Derived.RangeFuncCalls
/- What an operation comes to, whichever it is; the program's deedOf and look. -/
namespace Go.Proofs.YtfddmibaojfalaaGreat
open Go.RowKit Go.Maps

/-- an effect: its code, the row that goes, what the one that comes holds, what is told -/
def EffR (base : Nat) (code : Int) (was : Option Rw) (nowC : Option (List V)) (toldF : Option Rw → List Rw) (w : World) (e : Ending) (w' : World) : Prop :=
  ∃ ta tn tc now, e = .returned (effV code (.slice ta tn tc) (optV was) (optV now)) ∧ now.map Rw.vs = nowC ∧ (∀ r, now = some r → RowG w' r ∧ w.heap.size ≤ r.g) ∧ SliceAt w' (.slice ta tn tc) 1 enR (toldF now) ∧ (∀ b, (Value.slice ta tn tc).ownBlock = some b → b < base ∨ w.heap.size ≤ b) ∧ Below w.heap.size w w'

theorem nil_rows (w : World) : SliceAt w nilS 1 enR [] := ⟨none, 0, rfl, Nat.le_refl _, Nat.zero_le _, fun h => absurd rfl h⟩
theorem VRow.rowG {w : World} {base g n c : Nat} {L : List V} (h : VRow w base g n c L) (ok : ∀ x ∈ L, OkV x) : RowG w ⟨g, c, L⟩ := by
  obtain ⟨cur, h2, h3, h4, h5, h6, hl, h7⟩ := h
  subst hl
  exact ⟨⟨cur, Nat.zero_le _, h3, h4, h5, h6, rfl, h7⟩, ok⟩
theorem VRow.len {w : World} {base g n c : Nat} {L : List V} (h : VRow w base g n c L) : L.length = n := by obtain ⟨_, _, _, _, _, _, hl, _⟩ := h; exact hl

section
variable {base : Nat} {kcols : List Nat} {R : List Rw} {row key : List V} {K : Nat} {w w' : World} {e : Ending} {rv : Value}
theorem eff_wr (h : WrR kcols R row K w e w') (ok : ∀ x ∈ row, OkV x) : EffR base 0 (rowOf kcols R (row.take K)) (some row) (fun _ => []) w e w' := by
  obtain ⟨g, c, h1, h2, h3⟩ := h
  exact ⟨none, 0, 0, some ⟨g, c, row⟩, h1, rfl, fun r hr => by cases hr; exact ⟨h2.rowG ok, h2.lt.1⟩, nil_rows _, (fun b hb => by cases hb), h3⟩
theorem eff_refused {code : Int} (h : e = .returned (effV code nilS nilS nilS) ∧ Below w.heap.size w w') : EffR base code none none (fun _ => []) w e w' :=
  ⟨none, 0, 0, none, h.1, rfl, (fun r hr => by cases hr), nil_rows _, (fun b hb => by cases hb), h.2⟩
theorem eff_rem {r : Rw} (h : RemR rv r w e w') (hb : ∀ b, rv.ownBlock = some b → b < base) : EffR base 0 (some r) none (fun _ => [r]) w e w' := by
  obtain ⟨a, c, h1, ⟨h2, h3⟩, h4⟩ := h
  exact ⟨a, 1, c, none, h1, rfl, (fun r hr => by cases hr), h2, fun b q => Or.inl (hb b (h3 b q)), h4⟩
theorem eff_find {most : Nat} (h : FindR rv kcols R key most w e w') (hb : ∀ b, rv.ownBlock = some b → b < base) : EffR base 0 none none (fun _ => begL kcols R key most) w e w' := by
  obtain ⟨a, c, h1, ⟨h2, h3⟩, h4⟩ := h
  exact ⟨a, _, c, none, h1, rfl, (fun r hr => by cases hr), h2, fun b q => Or.inl (hb b (h3 b q)), h4⟩
theorem eff_add (h : AddR kcols R row K w e w') (ok : ∀ x ∈ row, OkV x) : EffR base 0 (rowOf kcols R (row.take K)) (some row) (fun o => o.toList) w e w' := by
  obtain ⟨tg, g, c, h1, h2, ⟨h3, h5⟩, h4⟩ := h
  refine ⟨some ⟨tg, 0, none⟩, 1, 1, some ⟨g, c, row⟩, h1, rfl, fun r hr => by cases hr; exact ⟨h2.rowG ok, h2.lt.1⟩, h3, fun b hb => ?_, h4⟩
  cases hb
  exact Or.inr h5
end

/-- which deed a kind is -/
def deedK : Int → Option Nat := fun k => if k = 2 then some 37 else if k = 4 then some 39 else if k = 6 then some 41 else if k = 7 then some 42 else none
theorem store_fn15 {P : Program} {w : World} {a : Addr} {m : Mode} (f : Fn) (x y : Array Value) : (store a (.func f x y) m).run P w = stored P w a (.func f x y) m := run_store P w a _ m rfl
abbrev fnV (k : Nat) : Value := .func (.func k) #[] #[]
abbrev deedsO : Obj := .cells #[.nilFunc, fnV 36, fnV 37, fnV 38, fnV 39, fnV 40, fnV 41, fnV 42] 89

set_option maxRecDepth 100000 in
set_option maxHeartbeats 1000000 in
theorem deedOf_any (kind : Int) (f : Nat) (hk : deedK kind = some f) (w : World) : Calls Tryz.prog 24 #[.int .i64 kind] w fun e w' => e = .returned (fnV f) ∧ Below w.heap.size w w' := by
  have hsf := @store_fn15
  have HB : Hid (∀ o, Below w.heap.size w (w.alloc o)) := fun o => (Below.refl _ _).alloc (Nat.le_refl _) o
  unfold deedK at hk
  split at hk
  · rename_i hk'; subst hk'; cases hk
    go_enter Tryz.func24, Tryz.ntmps24
    go_wp2
    go_ret
    exact ⟨rfl, HB.out _⟩
  · split at hk
    · rename_i hk'; subst hk'; cases hk
      go_enter Tryz.func24, Tryz.ntmps24
      go_wp2
      go_ret
      exact ⟨rfl, HB.out _⟩
    · split at hk
      · rename_i hk'; subst hk'; cases hk
        go_enter Tryz.func24, Tryz.ntmps24
        go_wp2
        go_ret
        exact ⟨rfl, HB.out _⟩
      · split at hk
        · rename_i hk'; subst hk'; cases hk
          go_enter Tryz.func24, Tryz.ntmps24
          go_wp2
          go_ret
          exact ⟨rfl, HB.out _⟩
        · cases hk

end Go.Proofs.YtfddmibaojfalaaGreat

/- Data of one table: where they lie; the program's look. -/
namespace Go.Proofs.YtfddmibaojfalaaGreat
open Go.RowKit Go.Maps

def tokP (tb : Nat) : DataW Value := .held (.pointer (some ⟨tb, 0, none⟩))
/-- a map of one table -/
def MapD (w : World) (m tb : Nat) (nm : ByteArray) : Prop := w.ownsMap Tryz.prog 9 heldR m 1 (Dk.toD tokP [(kb nm, tb)])
structure DG (w : World) (d m tb : Nat) (S : TS) : Prop where
  top : ∃ c, w.heap[d]? = some (.cells #[.pointer (some ⟨c, 0, none⟩), .map (some m)] 57 (0, 0))
  map : MapD w m tb S.T.nm
  tab : TG w tb S
  nm : S.T.nm.size ≤ maxLen

theorem map_nty {w : World} {m tb : Nat} {nm : ByteArray} (h : MapD w m tb nm) : ¬ Ty w m := fun ⟨c, t, z, e, _⟩ => by
  obtain ⟨es, clock, hb, _⟩ := h
  rw [hb] at e
  cases e
section
variable {w u : World} {d m tb : Nat} {S : TS}
theorem DG.kept (h : DG w d m tb S) {Q : Nat → Prop} (t : Turn Q w u) (hQ : ∀ i, i < w.heap.size → Q i → Ty w i) (hW : ∀ i, W tb S i → ¬ Q i) : DG u d m tb S := by
  obtain ⟨c, hc⟩ := h.top
  have hml : m < w.heap.size := by obtain ⟨es, clock, hb, _⟩ := h.map; exact lt_of hb
  exact ⟨⟨c, (t.block d (lt_of hc) (fun q => Ty.not hc (by decide) (by decide) (by decide) (hQ d (lt_of hc) q))).trans hc⟩, ownsMap_block h.map (t.block m hml (fun q => map_nty h.map (hQ m hml q))), h.tab.kept t hQ hW, h.nm⟩
theorem DG.below (h : DG w d m tb S) (hu : Below w.heap.size w u) : DG u d m tb S := h.kept (Turn.ofBelow (fun _ => False) hu) (fun _ _ q => q.elim) (fun _ _ q => q)
/-- the table is made anew -/
theorem DG.swap (h : DG w d m tb S) {S' : TS} {was now : Option Rw} (hT : TG u tb S') (hs : SwS S S' was now) (t : Turn (fun i => W tb S i) w u) : DG u d m tb S' := by
  obtain ⟨c, hc⟩ := h.top
  have hml : m < w.heap.size := by obtain ⟨es, clock, hb, _⟩ := h.map; exact lt_of hb
  refine ⟨⟨c, (t.block d (lt_of hc) (fun q => Ty.not hc (by decide) (by decide) (by decide) (h.tab.wty q))).trans hc⟩, ?_, hT, by rw [hs.T]; exact h.nm⟩
  rw [hs.T]
  exact ownsMap_block h.map (t.block m hml (fun q => map_nty h.map (h.tab.wty q)))
theorem zeroP (w : World) : (zeroValue 60).run Tryz.prog w = .ok (.pointer none) w := by kernel_rfl
theorem DG.look (h : DG w d m tb S) : (Instr.lookup 55 (.map (some m)) (.string S.T.nm) true).run Tryz.prog w = .ok (.tuple #[.pointer (some ⟨tb, 0, none⟩), .bool true]) w := by
  obtain ⟨v, ps, hrun, hv⟩ := World.ownsMap.look_ok (h := h.map) keyed Tryz.underlying55 (zeroP w) (zd := .held (.pointer none)) (zp := []) rfl (keyOfS h.nm)
  rw [Dk.toD_has] at hrun
  rw [Dk.toD_at] at hv
  unfold heldR at hv
  simp only [Option.some.injEq, Prod.mk.injEq] at hv
  have hg : Dk.getL (kb S.T.nm) [(kb S.T.nm, tb)] = some tb := by simp [Dk.getL]
  rw [hg] at hrun hv
  have : v = .pointer (some ⟨tb, 0, none⟩) := by have := hv.1; unfold tokP at this; simpa using this
  rw [this] at hrun
  exact hrun
end

set_option maxRecDepth 100000 in
theorem fn_nil (f : Nat) (w : World) : (binOp .eql 89 (fnV f) .nilFunc).run Tryz.prog w = .ok (.bool false) w := by
  first
  | rfl
  | (simp [binOp, Op.equal, Op.equalIn, run_underlying Tryz.underlying89]; done)
  | (simp [binOp, Op.equal, Op.equalIn]; rfl)

theorem deed_enter {kind : Int} {f : Nat} (hk : deedK kind = some f) (args : Array Value) (u : World) : (callFunc f args).run Tryz.prog u = .ok (.enter f args) u := by
  unfold deedK at hk
  split at hk
  · cases hk; exact enters_of Tryz.func37 (by kernel_rfl) rfl args u
  · split at hk
    · cases hk; exact enters_of Tryz.func39 (by kernel_rfl) rfl args u
    · split at hk
      · cases hk; exact enters_of Tryz.func41 (by kernel_rfl) rfl args u
      · split at hk
        · cases hk; exact enters_of Tryz.func42 (by kernel_rfl) rfl args u
        · cases hk

/-- what look answers -/
def LookR (base tb : Nat) (code : Int) (was : Option Rw) (nowC : Option (List V)) (toldF : Option Rw → List Rw) (w : World) (e : Ending) (w' : World) : Prop :=
  ∃ ta tn tc now, e = .returned (.tuple #[.pointer (some ⟨tb, 0, none⟩), effV code (.slice ta tn tc) (optV was) (optV now)]) ∧ now.map Rw.vs = nowC ∧ (∀ r, now = some r → RowG w' r ∧ w.heap.size ≤ r.g) ∧ SliceAt w' (.slice ta tn tc) 1 enR (toldF now) ∧ (∀ b, (Value.slice ta tn tc).ownBlock = some b → b < base ∨ w.heap.size ≤ b) ∧ Below w.heap.size w w'

set_option linter.unusedSimpArgs false in
set_option maxRecDepth 100000 in
set_option maxHeartbeats 2000000 in
theorem look_any {w0 w : World} {d m tb : Nat} {S : TS} (h : DG w0 d m tb S) (hb : Below w0.heap.size w0 w) (kind : Int) (f : Nat) (hk : deedK kind = some f) (key to row : Value) (ix : ByteArray) (at0 n lim : Int) (sk : ∃ a m c, key = .slice a m c) (st : ∃ a m c, to = .slice a m c) (sr : ∃ a m c, row = .slice a m c)
    {base : Nat} {code : Int} {was : Option Rw} {nowC : Option (List V)} {toldF : Option Rw → List Rw} (hbase : base ≤ w.heap.size)
    (hdo : ∀ u, Below w.heap.size w u → Calls Tryz.prog f #[.pointer (some ⟨tb, 0, none⟩), opA kind S.T.nm key to row ix at0 n lim] u (EffR base code was nowC toldF u)) :
    Calls Tryz.prog 16 #[.pointer (some ⟨d, 0, none⟩), opA kind S.T.nm key to row ix at0 n lim] w (LookR base tb code was nowC toldF w) := by
  obtain ⟨k1, k2, k3, rfl⟩ := sk
  obtain ⟨t1, t2, t3, rfl⟩ := st
  obtain ⟨r1, r2, r3, rfl⟩ := sr
  have HCf : Hid (∀ (args : Array Value) (u : World), (callFunc f args).run Tryz.prog u = .ok (.enter f args) u) := fun args u => deed_enter hk args u
  have HD : Hid (∀ u, Calls Tryz.prog 24 #[.int .i64 kind] u fun e w' => e = .returned (fnV f) ∧ Below u.heap.size u w') := fun u => deedOf_any kind f hk u
  have HDo : Hid (∀ u, Below w.heap.size w u → Calls Tryz.prog f #[.pointer (some ⟨tb, 0, none⟩), opA kind S.T.nm (.slice k1 k2 k3) (.slice t1 t2 t3) (.slice r1 r2 r3) ix at0 n lim] u (EffR base code was nowC toldF u)) := hdo
  obtain ⟨w2, xb, HE⟩ := ent_of w kind S.T.nm (.slice k1 k2 k3) (.slice t1 t2 t3) (.slice r1 r2 r3) ix at0 n lim
  have HH : Hid (Ent w w2 xb kind S.T.nm (.slice k1 k2 k3) (.slice t1 t2 t3) (.slice r1 r2 r3) ix at0 n lim) := HE
  obtain ⟨c, hc⟩ := h.top
  obtain ⟨nm, hnm⟩ : ∃ x, S.T.nm = x := ⟨_, rfl⟩
  have HS : Hid (∀ u, Below w2.heap.size w2 u → u.cell? ⟨d, 1, none⟩ = some (.map (some m)) ∧ u.cell? ⟨xb, 0, none⟩ = some (.int .i64 kind) ∧ u.cell? ⟨xb, 1, none⟩ = some (.string nm) ∧ u.cell? ⟨xb, 2, none⟩ = some (.slice k1 k2 k3) ∧ u.cell? ⟨xb, 3, none⟩ = some (.slice t1 t2 t3) ∧ u.cell? ⟨xb, 4, none⟩ = some (.slice r1 r2 r3) ∧ u.cell? ⟨xb, 5, none⟩ = some (.string ix) ∧ u.cell? ⟨xb, 6, none⟩ = some (.int .i64 at0) ∧ u.cell? ⟨xb, 7, none⟩ = some (.int .i64 n) ∧ u.cell? ⟨xb, 8, none⟩ = some (.int .i64 lim) ∧ d < u.heap.size ∧ (Instr.lookup 55 (.map (some m)) (.string nm) true).run Tryz.prog u = .ok (.tuple #[.pointer (some ⟨tb, 0, none⟩), .bool true]) u) := fun u hu => by
    have hu0 := hb.trans ((HE.up hu).mono hb.size)
    have e := (hu.block _ (lt_of HE.op)).trans HE.op
    have ed := (hu0.block d (lt_of hc)).trans hc
    have hl := (h.below hu0).look
    rw [hnm] at hl e
    exact ⟨by rw [cell_of ed]; rfl, by rw [cell_of e]; rfl, by rw [cell_of e]; rfl, by rw [cell_of e]; rfl, by rw [cell_of e]; rfl, by rw [cell_of e]; rfl, by rw [cell_of e]; rfl, by rw [cell_of e]; rfl, by rw [cell_of e]; rfl, by rw [cell_of e]; rfl, lt_of ed, hl⟩
  rw [hnm] at HDo ⊢
  obtain ⟨a0, a1, a2, a3, a4, a5, a6, a7, a8, a9, a10, -⟩ := HS.out w2 (Below.refl _ _)
  have hxl : xb < w2.heap.size := cell_lt a1
  have hw2 := HE.eq
  rw [hnm] at hw2
  have hxb := HE.at_
  clear h hb hk HE hc hdo hnm
  go_enter Tryz.func16, Tryz.ntmps16
  go_wp2_with fail
  refine (HD.out _).mono ?_
  rintro e w3 ⟨rfl, h3⟩
  obtain ⟨b0, b1, b2, b3, b4, b5, b6, b7, b8, b9, b10, b11⟩ := HS.out w3 h3
  have H3 : Hid (Below w2.heap.size w2 w3) := h3
  clear h3 a0 a1 a2 a3 a4 a5 a6 a7 a8 a9
  have c11 : (Instr.lookup 55 (.map (some m)) (.string nm) true).run Tryz.prog w3.drew = .ok (.tuple #[.pointer (some ⟨tb, 0, none⟩), .bool true]) w3.drew := (HS.out w3.drew (bl_drew H3.out)).2.2.2.2.2.2.2.2.2.2.2
  have hfn := fn_nil f
  have hcf := HCf.out
  go_wp2_with fail
  go_region_held3 (fun u => u.cell? ⟨d, 1, none⟩ = some (.map (some m)) ∧ u.cell? ⟨xb, 1, none⟩ = some (.string nm) ∧ (Instr.lookup 55 (.map (some m)) (.string nm) true).run Tryz.prog u = .ok (.tuple #[.pointer (some ⟨tb, 0, none⟩), .bool true]) u) (first | (refine ⟨?_, ?_, ?_⟩ <;> (repeat (first | with_reducible assumption | with_reducible apply cell_drew)) <;> done) | go_keep) (fail)
  have HDr := HDo.out w3.drew (HH.out.up (bl_drew H3.out))
  unfold EffR at HDr
  obtain ⟨oa, on, oc, ho, -⟩ := opt_shape was
  have HW : Hid (Calls Tryz.prog f #[.pointer (some ⟨tb, 0, none⟩), opA kind nm (.slice k1 k2 k3) (.slice t1 t2 t3) (.slice r1 r2 r3) ix at0 n lim] w3.drew fun e w' => ∃ ta tn tc now, e = .returned (effV code (.slice ta tn tc) (optV was) (optV now)) ∧ now.map Rw.vs = nowC ∧ (∀ r, now = some r → RowG w' r ∧ w3.drew.heap.size ≤ r.g) ∧ SliceAt w' (.slice ta tn tc) 1 enR (toldF now) ∧ (∀ b, (Value.slice ta tn tc).ownBlock = some b → b < base ∨ w3.drew.heap.size ≤ b) ∧ Below w3.drew.heap.size w3.drew w') := HDr
  clear HDr
  have HBase : Hid (base ≤ w.heap.size) := hbase
  clear hbase
  go_wp2_with fail
  refine HW.out.mono ?_
  rintro e w4 ⟨ta, tn, tc, now, rfl, hnc, hrw, hsl, hbl, hb4⟩
  have hs3 : xb + 1 + 1 ≤ w3.heap.size := by have q1 := HH.out.size; have q2 := H3.out.size; omega
  have H4 : Hid (Below w2.heap.size w2 w4) := (bl_drew H3.out).trans (hb4.mono (bl_drew H3.out).size)
  obtain ⟨d0, d1, d2, d3, dl, dz⟩ := HH.out.eff H4.out
  have hb' := HH.out.store H4.out
  obtain ⟨na, nn, nc, hn, -⟩ := opt_shape now
  have HFin : Hid (∀ a b c d, now.map Rw.vs = nowC ∧ (∀ r, now = some r → RowG (set4 w4 (xb + 1) a b c d) r ∧ w.heap.size ≤ r.g) ∧ SliceAt (set4 w4 (xb + 1) a b c d) (.slice ta tn tc) 1 enR (toldF now) ∧ (∀ b, (Value.slice ta tn tc).ownBlock = some b → b < base ∨ w.heap.size ≤ b) ∧ Below w.heap.size w (set4 w4 (xb + 1) a b c d)) := fun a b c d => by
    have t := set4_turn w4 (xb + 1) a b c d
    have hat := HH.out.at_
    refine ⟨hnc, fun r hr => ?_, sliceAt_turn hsl t (fun k hk q => ?_), fun k hk => ?_, hb' _ _ _ _⟩
    · obtain ⟨g1, g2⟩ := hrw r hr
      have g3 : w3.heap.size ≤ r.g := g2
      obtain ⟨C, hC⟩ := g1.type
      exact ⟨g1.heap (t.block r.g (lt_of hC) (fun q => by have : r.g = xb + 1 := q; omega)), by omega⟩
    · have q' : k = xb + 1 := q
      rcases hbl k hk with g | g
      · have := HBase.out; omega
      · have g3 : w3.heap.size ≤ k := g
        omega
    · rcases hbl k hk with g | g
      · exact Or.inl g
      · have g3 : w3.heap.size ≤ k := g
        exact Or.inr (by omega)
  have HOpt : Hid (optV was = .slice oa on oc ∧ optV now = .slice na nn nc) := ⟨ho, hn⟩
  rw [ho, hn]
  clear ho hn hnc hrw hsl hbl hb4
  go_wp2_with fail
  refine bodyPost_ret (by simp [results, Tryz.results16, go_sem, d0, d1, d2, d3]; rfl) rfl ?_
  exact ⟨ta, tn, tc, now, by rw [HOpt.out.1, HOpt.out.2], HFin.out _ _ _ _⟩

end Go.Proofs.YtfddmibaojfalaaGreat
