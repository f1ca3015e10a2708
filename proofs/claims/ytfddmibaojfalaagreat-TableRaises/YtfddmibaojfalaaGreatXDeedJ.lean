import Derived.Test.YtfddmibaojfalaaGreatXCopyJ
/- What an operation comes to: the program's put, get, remove. -/
namespace Go.Proofs.YtfddmibaojfalaaGreat
open Go.RowKit

/-- an operation as it is handed over -/
structure Opp where
  kind : Int
  tbl : ByteArray
  key : Value
  to : Value
  row : Value
  ix : ByteArray
  at0 : Int
  n : Int
  lim : Int
def Opp.cells (o : Opp) : Array Value := #[.int .i64 o.kind, .string o.tbl, o.key, o.to, o.row, .string o.ix, .int .i64 o.at0, .int .i64 o.n, .int .i64 o.lim]
def Opp.val (o : Opp) : Value := .agg o.cells
abbrev opB (kind : Int) (tbl : ByteArray) (key to row : Value) (ix : ByteArray) (at0 n lim : Int) : Obj := .cells #[.int .i64 kind, .string tbl, key, to, row, .string ix, .int .i64 at0, .int .i64 n, .int .i64 lim] 39
abbrev opA (kind : Int) (tbl : ByteArray) (key to row : Value) (ix : ByteArray) (at0 n lim : Int) : Value := .agg #[.int .i64 kind, .string tbl, key, to, row, .string ix, .int .i64 at0, .int .i64 n, .int .i64 lim]

/-- a deed's own two blocks -/
structure Ent (w w2 : World) (xb : Nat) (kind : Int) (tbl : ByteArray) (key to row : Value) (ix : ByteArray) (at0 n lim : Int) : Prop where
  at_ : w.heap.size = xb
  eq : (w.alloc (opB kind tbl key to row ix at0 n lim)).alloc effZ = w2
  below : Below w.heap.size w w2
  op : w2.heap[xb]? = some (opB kind tbl key to row ix at0 n lim)
  ef : w2.heap[xb + 1]? = some effZ
theorem ent_of (w : World) (kind : Int) (tbl : ByteArray) (key to row : Value) (ix : ByteArray) (at0 n lim : Int) : ∃ w2 xb, Ent w w2 xb kind tbl key to row ix at0 n lim := by
  refine ⟨_, _, rfl, rfl, bl_alloc ((Below.refl _ _).alloc (Nat.le_refl _) _) _, (Below.heap_alloc _ _ _ (by simp)).trans (heap_new w _), ?_⟩
  have := heap_new (w.alloc (opB kind tbl key to row ix at0 n lim)) effZ
  rwa [World.size_alloc] at this

section
variable {w w2 u : World} {xb : Nat} {kind : Int} {tbl : ByteArray} {key to row : Value} {ix : ByteArray} {at0 n lim : Int}
theorem Ent.up (h : Ent w w2 xb kind tbl key to row ix at0 n lim) (hu : Below w2.heap.size w2 u) : Below w.heap.size w u := h.below.trans (hu.mono h.below.size)
theorem Ent.cells (h : Ent w w2 xb kind tbl key to row ix at0 n lim) (hu : Below w2.heap.size w2 u) : u.cell? ⟨xb, 2, none⟩ = some key ∧ u.cell? ⟨xb, 4, none⟩ = some row ∧ u.cell? ⟨xb, 5, none⟩ = some (.string ix) ∧ u.cell? ⟨xb, 6, none⟩ = some (.int .i64 at0) ∧ u.cell? ⟨xb, 7, none⟩ = some (.int .i64 n) ∧ u.cell? ⟨xb, 8, none⟩ = some (.int .i64 lim) := by
  have e := (hu.block _ (lt_of h.op)).trans h.op
  exact ⟨by rw [cell_of e]; rfl, by rw [cell_of e]; rfl, by rw [cell_of e]; rfl, by rw [cell_of e]; rfl, by rw [cell_of e]; rfl, by rw [cell_of e]; rfl⟩
theorem Ent.eff (h : Ent w w2 xb kind tbl key to row ix at0 n lim) (hu : Below w2.heap.size w2 u) : u.cell? ⟨xb + 1, 0, none⟩ = some (.int .i64 0) ∧ u.cell? ⟨xb + 1, 1, none⟩ = some nilS ∧ u.cell? ⟨xb + 1, 2, none⟩ = some nilS ∧ u.cell? ⟨xb + 1, 3, none⟩ = some nilS ∧ xb + 1 < u.heap.size ∧ (∀ i, u.frozen? ⟨xb + 1, i, none⟩ = false) := by
  have e := (hu.block _ (lt_of h.ef)).trans h.ef
  exact ⟨by rw [cell_of e]; rfl, by rw [cell_of e]; rfl, by rw [cell_of e]; rfl, by rw [cell_of e]; rfl, lt_of e, frozen_of e⟩
theorem Ent.store (h : Ent w w2 xb kind tbl key to row ix at0 n lim) (hu : Below w2.heap.size w2 u) (a b c d : Value) : Below w.heap.size w (set4 u (xb + 1) a b c d) :=
  turn_new (h.up hu) (by rw [h.at_]; omega) (set4_turn u (xb + 1) a b c d)
theorem Ent.size (h : Ent w w2 xb kind tbl key to row ix at0 n lim) : w2.heap.size = xb + 1 + 1 := by rw [← h.eq, ← h.at_]; simp
/-- a row that is newer than both stays when the effect is written -/
theorem Ent.kept (h : Ent w w2 xb kind tbl key to row ix at0 n lim) {u0 : World} (hu0 : Below w2.heap.size w2 u0) {g N c : Nat} {L : List V} (hv : VRow u u0.heap.size g N c L) (a b c' d : Value) : VRow (set4 u (xb + 1) a b c' d) w.heap.size g N c L := by
  have h1 := hv.lt
  have h2 := hu0.size
  rw [h.size] at h2
  obtain ⟨cur, _, r⟩ := hv.below ((set4_turn u (xb + 1) a b c' d).block g h1.2 (by omega))
  exact ⟨cur, by have := h.at_; omega, r⟩
end

section
variable {tb : Nat} {cv iv kv rv xv rowv : Value} {T : Tab} {kcols : List Nat} {row : List V} {R : List Rw}

set_option linter.unusedSimpArgs false in
set_option maxRecDepth 100000 in
set_option maxHeartbeats 2000000 in
theorem put_ok {w0 : World} (h : TbV w0 tb cv iv kv rv xv T) (hM : LAt w0 tb 4 kv rv kcols R) (hr : SliceAt w0 rowv 4 enV row) (hf : FitsT T row) (hne : row ≠ [])
    (K : Nat) (hK : T.key = (K : Int)) (hKN : K ≤ row.length) (hKc : K ≤ kcols.length) (hm : Mono kcols (cont R) (row.take K)) (hfew : R.length < 4096) (w : World) (hb : Below w0.heap.size w0 w)
    (hcl : ∀ u, Below w.heap.size w u → Calls Tryz.prog 73 #[.pointer (some ⟨tb, 0, none⟩), rowv] u fun e w' => e = .returned (.bool false) ∧ Below u.heap.size u w')
    (kind : Int) (tbl : ByteArray) (key to : Value) (ix : ByteArray) (at0 n lim : Int) (hk : ∃ a m c, key = .slice a m c) (ht : ∃ a m c, to = .slice a m c) :
    Calls Tryz.prog 37 #[.pointer (some ⟨tb, 0, none⟩), opA kind tbl key to rowv ix at0 n lim] w (WrR kcols R row K w) := by
  obtain ⟨k1, k2, k3, rfl⟩ := hk
  obtain ⟨t1, t2, t3, rfl⟩ := ht
  have HU : Hid (∀ u, Below w.heap.size w u → Below w0.heap.size w0 u) := fun u hu => hb.trans (hu.mono hb.size)
  have HF : Hid (∀ u, Below w.heap.size w u → Calls Tryz.prog 56 #[.agg #[.string T.nm, cv, .int .i64 T.key, iv], rowv] u fun e w' => e = .returned (.int .i64 0) ∧ Below u.heap.size u w') := fun u hu => fits_yes cv iv rowv T row u w0 (HU.out u hu) h.tab hr hf
  have HW : Hid (∀ u, Below w.heap.size w u → Calls Tryz.prog 57 #[.pointer (some ⟨tb, 0, none⟩), rowv] u (WrR kcols R row K u)) := fun u hu =>
    write_ok h hM hr hf.ok hne hf.few K hK hKN hKc hm hfew u (HU.out u hu) (fun v hv => hcl v (hu.trans (hv.mono hu.size)))
  have HC : Hid (∀ u, Below w.heap.size w u → TbC u tb cv iv kv rv xv T) := fun u hu => (h.below (HU.out u hu)).cells
  obtain ⟨ra, rc, rfl⟩ := hr.keyN
  obtain ⟨_, X, hX, _⟩ := id h.tab
  obtain ⟨ia, ic, rfl, _⟩ := hX
  obtain ⟨ta, tc, rfl, -⟩ := h.tab.1.colsC
  unfold WrR at HW ⊢
  obtain ⟨oa, on, oc, ho, -⟩ := opt_shape (rowOf kcols R (row.take K))
  rw [ho] at HW ⊢
  obtain ⟨RN, hRN⟩ : ∃ N, row.length = N := ⟨_, rfl⟩
  obtain ⟨IN, hIN⟩ : ∃ N, X.length = N := ⟨_, rfl⟩
  obtain ⟨TN, hTN⟩ : ∃ N, T.co.length = N := ⟨_, rfl⟩
  obtain ⟨nm, hnm⟩ : ∃ x, T.nm = x := ⟨_, rfl⟩
  obtain ⟨ky, hky⟩ : ∃ x, T.key = x := ⟨_, rfl⟩
  rw [hRN] at HF HW ⊢
  rw [hIN, hTN, hnm, hky] at HF
  rw [hIN, hTN] at HC
  obtain ⟨w2, xb, HE⟩ := ent_of w kind tbl (.slice k1 k2 k3) (.slice t1 t2 t3) (.slice ra RN rc) ix at0 n lim
  have HH : Hid (Ent w w2 xb kind tbl (.slice k1 k2 k3) (.slice t1 t2 t3) (.slice ra RN rc) ix at0 n lim) := HE
  have HS : Hid (∀ u, Below w2.heap.size w2 u → u.cell? ⟨tb, 0, none⟩ = some (.string nm) ∧ u.cell? ⟨tb, 1, none⟩ = some (.slice ta TN tc) ∧ u.cell? ⟨tb, 2, none⟩ = some (.int .i64 ky) ∧ u.cell? ⟨tb, 3, none⟩ = some (.slice ia IN ic) ∧ u.cell? ⟨xb, 4, none⟩ = some (.slice ra RN rc)) := fun u hu => by
    have q := HC.out u (HE.up hu)
    exact ⟨by rw [← hnm]; exact q.c0, q.c1, by rw [← hky]; exact q.c2, q.c3, (HE.cells hu).2.1⟩
  obtain ⟨a0, a1, a2, a3, a4⟩ := HS.out w2 (Below.refl _ _)
  have hw2 := HE.eq
  have hxb := HE.at_
  clear h hM hr hf hne hK hKN hKc hm hb hcl ho hRN hIN hTN hnm hky HE
  go_enter Tryz.func37, Tryz.ntmps37
  go_wp2_with fail
  go_region_held3 (fun u => u.cell? ⟨tb, 0, none⟩ = some (.string nm) ∧ u.cell? ⟨tb, 1, none⟩ = some (.slice ta TN tc) ∧ u.cell? ⟨tb, 2, none⟩ = some (.int .i64 ky) ∧ u.cell? ⟨tb, 3, none⟩ = some (.slice ia IN ic) ∧ u.cell? ⟨xb, 4, none⟩ = some (.slice ra RN rc)) (go_keep)
    (first | (go_at_call 56; refine (HF.out _ (bl_drew HH.out.below)).mono ?_; rintro e w3 ⟨rfl, h3⟩; obtain ⟨e0, e1, e2, e3, e4⟩ := HS.out w3 ((bl_drew (Below.refl _ w2)).trans h3)))
  have H3 : Hid (Below w2.heap.size w2 w3) := (bl_drew (Below.refl _ w2)).trans h3
  clear h3
  go_wp2_with (go_at_call 57; go_must (refine (HW.out _ (HH.out.up H3.out)).mono ?_; rintro e w4 ⟨g, c, rfl, hv, hw4⟩; obtain ⟨d0, d1, d2, d3, dl, dz⟩ := HH.out.eff (H3.out.trans (hw4.mono H3.out.size)); have hv' := HH.out.kept H3.out hv; have hb' := HH.out.store (H3.out.trans (hw4.mono H3.out.size))))
  refine bodyPost_ret (by simp [results, Tryz.results37, go_sem, d0, d1, d2, d3]; rfl) rfl ?_
  exact ⟨g, c, rfl, hv' _ _ _ _, hb' _ _ _ _⟩
end

end Go.Proofs.YtfddmibaojfalaaGreat

/- Sums of whole numbers: the program's addInts, wholeNumber, checkTwo, Add. -/
namespace Go.Proofs.YtfddmibaojfalaaGreat
open Go.RowKit

/-- a number of 64 bits -/
def In64 (a : Int) : Prop := -9223372036854775808 ≤ a ∧ a ≤ 9223372036854775807
def in64 (a : Int) : Bool := decide (-9223372036854775808 ≤ a) && decide (a ≤ 9223372036854775807)
theorem in64_iff {a : Int} : in64 a = true ↔ In64 a := by simp [in64, In64]
theorem wrap_toInt (v : BitVec 64) : IntKind.i64.wrap (v.toNat : Int) = v.toInt := by
  rw [IntKind.wrap_i64, BitVec.toInt_eq_toNat_cond]
  have := v.isLt
  split <;> omega
theorem msb_of {a : Int} (h : In64 a) : (BitVec.ofInt 64 a).msb = decide (a < 0) := by
  unfold In64 at h
  rw [BitVec.msb_eq_toInt, BitVec.toInt_ofInt]
  have : a.bmod (2 ^ 64) = a := by rw [Int.bmod_def]; omega
  rw [this]
theorem sign_law {a b s : Int} (ha : In64 a) (hb : In64 b) (hs : In64 s) : decide (0 ≤ bits .and .i64 (bits .xor .i64 a s) (bits .xor .i64 b s)) = !((decide (a < 0) ^^ decide (s < 0)) && (decide (b < 0) ^^ decide (s < 0))) := by
  have e1 : ∀ x y : Int, bits .xor .i64 x y = (BitVec.ofInt 64 x ^^^ BitVec.ofInt 64 y).toInt := fun x y => wrap_toInt _
  have e2 : ∀ x y : Int, bits .and .i64 x y = (BitVec.ofInt 64 x &&& BitVec.ofInt 64 y).toInt := fun x y => wrap_toInt _
  rw [e1, e1, e2, BitVec.ofInt_toInt, BitVec.ofInt_toInt]
  have e3 : ∀ v : BitVec 64, decide (0 ≤ v.toInt) = !v.msb := fun v => by
    rw [BitVec.msb_eq_toInt]
    by_cases h : v.toInt < 0
    · simp [h, show ¬ (0 ≤ v.toInt) by omega]
    · simp [h, show 0 ≤ v.toInt by omega]
  rw [e3, BitVec.msb_and, BitVec.msb_xor, BitVec.msb_xor, msb_of ha, msb_of hb, msb_of hs]
theorem sum_law {a b : Int} (ha : In64 a) (hb : In64 b) : decide (0 ≤ bits .and .i64 (bits .xor .i64 a (IntKind.i64.wrap (a + b))) (bits .xor .i64 b (IntKind.i64.wrap (a + b)))) = in64 (a + b) := by
  have hw : IntKind.i64.wrap (a + b) = (a + b + 9223372036854775808) % 18446744073709551616 - 9223372036854775808 := IntKind.wrap_i64 _
  have hs : In64 (IntKind.i64.wrap (a + b)) := by rw [hw]; unfold In64; omega
  rw [sign_law ha hb hs]
  obtain ⟨s, hsd⟩ : ∃ s, IntKind.i64.wrap (a + b) = s := ⟨_, rfl⟩
  rw [hsd] at hs hw ⊢
  unfold In64 at ha hb hs
  unfold in64
  by_cases h1 : a < 0 <;> by_cases h2 : b < 0 <;> by_cases h3 : s < 0 <;> by_cases h4 : -9223372036854775808 ≤ a + b <;> by_cases h5 : a + b ≤ 9223372036854775807 <;> simp [h1, h2, h3, h4, h5] <;> omega

theorem addInts_any (a b : Int) (ha : In64 a) (hb : In64 b) (w : World) : Calls Tryz.prog 81 #[.int .i64 a, .int .i64 b] w fun e w' => e = .returned (.tuple #[.int .i64 (IntKind.i64.wrap (a + b)), .bool (in64 (a + b))]) ∧ w' = w := by
  have HS : Hid (decide (0 ≤ bits .and .i64 (bits .xor .i64 a (IntKind.i64.wrap (a + b))) (bits .xor .i64 b (IntKind.i64.wrap (a + b)))) = in64 (a + b)) := sum_law ha hb
  clear ha hb
  go_enter Tryz.func81, Tryz.ntmps81
  go_wp2
  go_ret2
  refine ⟨?_, rfl⟩
  rw [← HS.out, show IntKind.i64.wrap (a + b) = wrap64 (a + b) from by rw [IntKind.wrap_i64]; unfold wrap64; rfl]
  rfl

set_option linter.unusedSimpArgs false in
theorem whole_yes (n : Int) (w : World) : Calls Tryz.prog 80 #[.int .i64 n, .bool true] w fun e w' => e = .returned (.tuple #[vagg 2 n ⟨#[]⟩, .int .i64 0]) ∧ Below w.heap.size w w' := by
  have hsl := @store_law
  go_enter Tryz.func80, Tryz.ntmps80
  go_wp2
  refine bodyPost_ret (by simp [results, Tryz.results80, go_sem]; rfl) rfl ?_
  refine ⟨rfl, ?_⟩
  go_grown
set_option linter.unusedSimpArgs false in
theorem whole_no (n : Int) (w : World) : Calls Tryz.prog 80 #[.int .i64 n, .bool false] w fun e w' => e = .returned (.tuple #[vagg 0 0 ⟨#[]⟩, .int .i64 1]) ∧ Below w.heap.size w w' := by
  have hsl := @store_law
  go_enter Tryz.func80, Tryz.ntmps80
  go_wp2
  refine bodyPost_ret (by simp [results, Tryz.results80, go_sem]; rfl) rfl ?_
  refine ⟨rfl, ?_⟩
  go_grown

set_option maxRecDepth 100000 in
theorem checkTwo_ints (a b : Int) (w : World) : Calls Tryz.prog 79 #[vagg 2 a ⟨#[]⟩, vagg 2 b ⟨#[]⟩] w fun e w' => e = .returned (.int .i64 0) ∧ Below w.heap.size w w' := by
  have HM : Hid (∀ (n : Int) (u : World), Calls Tryz.prog 87 #[vagg 2 n ⟨#[]⟩] u fun e w' => e = .returned (.bool true) ∧ Below u.heap.size u w') := fun n u => mayBe_int n u
  obtain ⟨w2, hw2⟩ : ∃ w2, (w.alloc (vobj 2 a ⟨#[]⟩)).alloc (vobj 2 b ⟨#[]⟩) = w2 := ⟨_, rfl⟩
  obtain ⟨xa, hxa⟩ : ∃ xa, w.heap.size = xa := ⟨_, rfl⟩
  have HB2 : Hid (Below w.heap.size w w2) := by show Below _ _ _; rw [← hw2]; exact bl_alloc ((Below.refl _ _).alloc (Nat.le_refl _) _) _
  have i1 : w2.heap[xa]? = some (vobj 2 a ⟨#[]⟩) := by rw [← hw2, ← hxa]; exact (Below.heap_alloc _ _ _ (by simp)).trans (heap_new w _)
  have i2 : w2.heap[xa + 1]? = some (vobj 2 b ⟨#[]⟩) := by rw [← hw2, ← hxa]; have := heap_new (w.alloc (vobj 2 a ⟨#[]⟩)) (vobj 2 b ⟨#[]⟩); rwa [World.size_alloc] at this
  have HX : Hid (∀ u, Below w2.heap.size w2 u → BoxV u xa 2 a ⟨#[]⟩ ∧ BoxV u (xa + 1) 2 b ⟨#[]⟩ ∧ xa + 1 < u.heap.size) := fun u hu => ⟨boxV_of ((hu.block _ (lt_of i1)).trans i1), boxV_of ((hu.block _ (lt_of i2)).trans i2), Nat.lt_of_lt_of_le (lt_of i2) hu.size⟩
  obtain ⟨⟨a0, a1, a2, a3⟩, ⟨b0, b1, b2, b3⟩, bl_⟩ := HX.out w2 (Below.refl _ _)
  have hsl := @store_law
  clear i1 i2
  go_enter Tryz.func79, Tryz.ntmps79
  go_wp2_with fail
  refine (HM.out a w2).mono ?_
  rintro e w3 ⟨rfl, h3⟩
  obtain ⟨⟨c0, c1, c2, c3⟩, ⟨d0, d1, d2, d3⟩, dl⟩ := HX.out w3 h3
  go_wp2_with fail
  refine (HM.out b w3).mono ?_
  rintro e w4 ⟨rfl, h4⟩
  have H4 : Hid (Below w2.heap.size w2 w4) := h3.trans (h4.mono h3.size)
  obtain ⟨⟨e0, e1, e2, e3⟩, ⟨f0, f1, f2, f3⟩, fl⟩ := HX.out w4 H4.out
  have HB4 : Hid (Below w.heap.size w w4) := HB2.out.trans (H4.out.mono HB2.out.size)
  clear h3 h4
  go_wp2_with fail
  go_ret
  exact ⟨rfl, HB4.out⟩

/-- what the sum of two whole numbers comes to -/
def addV (a b : Int) : Value := if in64 (a + b) then vagg 2 (a + b) ⟨#[]⟩ else vagg 0 0 ⟨#[]⟩
def addE (a b : Int) : Int := if in64 (a + b) then 0 else 1

set_option linter.unusedSimpArgs false in
set_option maxRecDepth 100000 in
set_option maxHeartbeats 2000000 in
theorem vAdd_any (a b : Int) (ha : In64 a) (hb : In64 b) (w : World) : Calls Tryz.prog 65 #[vagg 2 a ⟨#[]⟩, vagg 2 b ⟨#[]⟩] w fun e w' => e = .returned (.tuple #[addV a b, .int .i64 (addE a b)]) ∧ Below w.heap.size w w' := by
  have HAd : Hid (∀ u, Calls Tryz.prog 81 #[.int .i64 a, .int .i64 b] u fun e w' => e = .returned (.tuple #[.int .i64 (IntKind.i64.wrap (a + b)), .bool (in64 (a + b))]) ∧ w' = u) := fun u => addInts_any a b ha hb u
  have HC2 : Hid (∀ u, Calls Tryz.prog 79 #[vagg 2 a ⟨#[]⟩, vagg 2 b ⟨#[]⟩] u fun e w' => e = .returned (.int .i64 0) ∧ Below u.heap.size u w') := fun u => checkTwo_ints a b u
  obtain ⟨w3, hw3⟩ : ∃ w3, ((w.alloc (vobj 2 a ⟨#[]⟩)).alloc (vobj 2 b ⟨#[]⟩)).alloc (vobj 0 0 ⟨#[]⟩) = w3 := ⟨_, rfl⟩
  obtain ⟨xa, hxa⟩ : ∃ xa, w.heap.size = xa := ⟨_, rfl⟩
  have HB3 : Hid (Below w.heap.size w w3) := by show Below _ _ _; rw [← hw3]; exact bl_alloc (bl_alloc ((Below.refl _ _).alloc (Nat.le_refl _) _) _) _
  have i1 : w3.heap[xa]? = some (vobj 2 a ⟨#[]⟩) := by rw [← hw3, ← hxa]; exact (Below.heap_alloc _ _ _ (by simp; omega)).trans ((Below.heap_alloc _ _ _ (by simp)).trans (heap_new w _))
  have i2 : w3.heap[xa + 1]? = some (vobj 2 b ⟨#[]⟩) := by rw [← hw3, ← hxa]; have := heap_new (w.alloc (vobj 2 a ⟨#[]⟩)) (vobj 2 b ⟨#[]⟩); rw [World.size_alloc] at this; exact (Below.heap_alloc _ _ _ (by simp)).trans this
  have i3 : w3.heap[xa + 1 + 1]? = some (vobj 0 0 ⟨#[]⟩) := by rw [← hw3, ← hxa]; have := heap_new ((w.alloc (vobj 2 a ⟨#[]⟩)).alloc (vobj 2 b ⟨#[]⟩)) (vobj 0 0 ⟨#[]⟩); rw [World.size_alloc, World.size_alloc] at this; exact this
  have HX : Hid (∀ u, Below w3.heap.size w3 u → BoxV u xa 2 a ⟨#[]⟩ ∧ BoxV u (xa + 1) 2 b ⟨#[]⟩ ∧ BoxV u (xa + 1 + 1) 0 0 ⟨#[]⟩ ∧ xa + 1 + 1 < u.heap.size ∧ (∀ i, u.frozen? ⟨xa + 1 + 1, i, none⟩ = false) ∧ Hid (∀ k n s, Below w.heap.size w (setV u (xa + 1 + 1) 0 k n s))) := fun u hu => by
    have e3 := (hu.block _ (lt_of i3)).trans i3
    exact ⟨boxV_of ((hu.block _ (lt_of i1)).trans i1), boxV_of ((hu.block _ (lt_of i2)).trans i2), boxV_of e3, lt_of e3, frozen_of e3, fun k n s => turn_new (HB3.out.trans (hu.mono HB3.out.size)) (by omega) (setV_turn u (xa + 1 + 1) 0 k n s)⟩
  obtain ⟨⟨a0, a1, a2, a3⟩, ⟨b0, b1, b2, b3⟩, ⟨c0, c1, c2, c3⟩, cl, cf, -⟩ := HX.out w3 (Below.refl _ _)
  have hsl := @store_law
  unfold addV addE
  clear i1 i2 i3
  by_cases hin : in64 (a + b) = true
  · have HW : Hid (∀ u, Calls Tryz.prog 80 #[.int .i64 (a + b), .bool true] u fun e w' => e = .returned (.tuple #[vagg 2 (a + b) ⟨#[]⟩, .int .i64 0]) ∧ Below u.heap.size u w') := fun u => whole_yes _ u
    have hwr : IntKind.i64.wrap (a + b) = a + b := by
      have := in64_iff.1 hin
      unfold In64 at this
      rw [IntKind.wrap_i64]; omega
    rw [hin, hwr] at HAd
    rw [if_pos hin, if_pos hin]
    obtain ⟨S, hS⟩ : ∃ S, a + b = S := ⟨_, rfl⟩
    rw [hS] at HAd HW ⊢
    clear ha hb hin hwr hS
    go_enter Tryz.func65, Tryz.ntmps65
    go_wp2_with (first
      | (go_at_call 79; go_must (refine (HC2.out _).mono ?_; rintro e w4 ⟨rfl, h4⟩; obtain ⟨⟨d0, d1, d2, d3⟩, ⟨e0, e1, e2, e3⟩, ⟨f0, f1, f2, f3⟩, fl, ff, -⟩ := HX.out w4 h4))
      | (go_at_call 81; go_must (refine (HAd.out _).mono ?_; rintro e w5 ⟨rfl, hw5⟩; obtain rfl := hw5.symm))
      | (go_at_call 80; go_must (refine (HW.out _).mono ?_; rintro e w6 ⟨rfl, h6⟩; obtain ⟨-, -, ⟨g0, g1, g2, g3⟩, gl, gf, HE⟩ := HX.out w6 (h4.trans (h6.mono h4.size)))))
    refine bodyPost_ret (by simp [results, Tryz.results65, go_sem, g0, g1, g2, g3]; rfl) rfl ?_
    exact ⟨rfl, HE.out _ _ _⟩
  · have hin' : in64 (a + b) = false := by simpa using hin
    have HW : Hid (∀ (x : Int) (u : World), Calls Tryz.prog 80 #[.int .i64 x, .bool false] u fun e w' => e = .returned (.tuple #[vagg 0 0 ⟨#[]⟩, .int .i64 1]) ∧ Below u.heap.size u w') := fun x u => whole_no x u
    rw [hin'] at HAd
    rw [if_neg hin, if_neg hin]
    obtain ⟨S, hS⟩ : ∃ S, IntKind.i64.wrap (a + b) = S := ⟨_, rfl⟩
    rw [hS] at HAd
    clear ha hb hin hin' hS
    go_enter Tryz.func65, Tryz.ntmps65
    go_wp2_with (first
      | (go_at_call 79; go_must (refine (HC2.out _).mono ?_; rintro e w4 ⟨rfl, h4⟩; obtain ⟨⟨d0, d1, d2, d3⟩, ⟨e0, e1, e2, e3⟩, ⟨f0, f1, f2, f3⟩, fl, ff, -⟩ := HX.out w4 h4))
      | (go_at_call 81; go_must (refine (HAd.out _).mono ?_; rintro e w5 ⟨rfl, hw5⟩; obtain rfl := hw5.symm))
      | (go_at_call 80; go_must (refine (HW.out _ _).mono ?_; rintro e w6 ⟨rfl, h6⟩; obtain ⟨-, -, ⟨g0, g1, g2, g3⟩, gl, gf, HE⟩ := HX.out w6 (h4.trans (h6.mono h4.size)))))
    refine bodyPost_ret (by simp [results, Tryz.results65, go_sem, g0, g1, g2, g3]; rfl) rfl ?_
    exact ⟨rfl, HE.out _ _ _⟩

end Go.Proofs.YtfddmibaojfalaaGreat

/- What an operation comes to: the program's put of a row that clashes, get, remove. -/
namespace Go.Proofs.YtfddmibaojfalaaGreat
open Go.RowKit

section
variable {tb : Nat} {cv iv kv rv xv rowv keyv : Value} {T : Tab} {kcols : List Nat} {row key : List V} {R : List Rw}

set_option linter.unusedSimpArgs false in
set_option maxRecDepth 100000 in
set_option maxHeartbeats 2000000 in
theorem put_clash {w0 : World} (h : TbV w0 tb cv iv kv rv xv T) (hr : SliceAt w0 rowv 4 enV row) (hf : FitsT T row) (w : World) (hb : Below w0.heap.size w0 w)
    (hcl : ∀ u, Below w.heap.size w u → Calls Tryz.prog 73 #[.pointer (some ⟨tb, 0, none⟩), rowv] u fun e w' => e = .returned (.bool true) ∧ Below u.heap.size u w')
    (kind : Int) (tbl : ByteArray) (key to : Value) (ix : ByteArray) (at0 n lim : Int) (hk : ∃ a m c, key = .slice a m c) (ht : ∃ a m c, to = .slice a m c) :
    Calls Tryz.prog 37 #[.pointer (some ⟨tb, 0, none⟩), opA kind tbl key to rowv ix at0 n lim] w fun e w' => e = .returned (effV 151 nilS nilS nilS) ∧ Below w.heap.size w w' := by
  obtain ⟨k1, k2, k3, rfl⟩ := hk
  obtain ⟨t1, t2, t3, rfl⟩ := ht
  have HU : Hid (∀ u, Below w.heap.size w u → Below w0.heap.size w0 u) := fun u hu => hb.trans (hu.mono hb.size)
  have HF : Hid (∀ u, Below w.heap.size w u → Calls Tryz.prog 56 #[.agg #[.string T.nm, cv, .int .i64 T.key, iv], rowv] u fun e w' => e = .returned (.int .i64 0) ∧ Below u.heap.size u w') := fun u hu => fits_yes cv iv rowv T row u w0 (HU.out u hu) h.tab hr hf
  obtain ⟨ra, rc, rfl⟩ := hr.keyN
  have HW : Hid (∀ u, Below w.heap.size w u → Calls Tryz.prog 57 #[.pointer (some ⟨tb, 0, none⟩), .slice ra row.length rc] u fun e w' => e = .returned (effV 151 nilS nilS nilS) ∧ Below u.heap.size u w') := fun u hu =>
    write_clash u (fun v hv => hcl v (hu.trans (hv.mono hu.size)))
  have HC : Hid (∀ u, Below w.heap.size w u → TbC u tb cv iv kv rv xv T) := fun u hu => (h.below (HU.out u hu)).cells
  obtain ⟨_, X, hX, _⟩ := id h.tab
  obtain ⟨ia, ic, rfl, _⟩ := hX
  obtain ⟨ta, tc, rfl, -⟩ := h.tab.1.colsC
  obtain ⟨RN, hRN⟩ : ∃ N, row.length = N := ⟨_, rfl⟩
  obtain ⟨IN, hIN⟩ : ∃ N, X.length = N := ⟨_, rfl⟩
  obtain ⟨TN, hTN⟩ : ∃ N, T.co.length = N := ⟨_, rfl⟩
  obtain ⟨nm, hnm⟩ : ∃ x, T.nm = x := ⟨_, rfl⟩
  obtain ⟨ky, hky⟩ : ∃ x, T.key = x := ⟨_, rfl⟩
  rw [hRN] at HF HW ⊢
  rw [hIN, hTN, hnm, hky] at HF
  rw [hIN, hTN] at HC
  obtain ⟨w2, xb, HE⟩ := ent_of w kind tbl (.slice k1 k2 k3) (.slice t1 t2 t3) (.slice ra RN rc) ix at0 n lim
  have HH : Hid (Ent w w2 xb kind tbl (.slice k1 k2 k3) (.slice t1 t2 t3) (.slice ra RN rc) ix at0 n lim) := HE
  have HS : Hid (∀ u, Below w2.heap.size w2 u → u.cell? ⟨tb, 0, none⟩ = some (.string nm) ∧ u.cell? ⟨tb, 1, none⟩ = some (.slice ta TN tc) ∧ u.cell? ⟨tb, 2, none⟩ = some (.int .i64 ky) ∧ u.cell? ⟨tb, 3, none⟩ = some (.slice ia IN ic) ∧ u.cell? ⟨xb, 4, none⟩ = some (.slice ra RN rc)) := fun u hu => by
    have q := HC.out u (HE.up hu)
    exact ⟨by rw [← hnm]; exact q.c0, q.c1, by rw [← hky]; exact q.c2, q.c3, (HE.cells hu).2.1⟩
  obtain ⟨a0, a1, a2, a3, a4⟩ := HS.out w2 (Below.refl _ _)
  have hw2 := HE.eq
  have hxb := HE.at_
  clear h hr hf hb hcl hRN hIN hTN hnm hky HE
  go_enter Tryz.func37, Tryz.ntmps37
  go_wp2_with fail
  go_region_held3 (fun u => u.cell? ⟨tb, 0, none⟩ = some (.string nm) ∧ u.cell? ⟨tb, 1, none⟩ = some (.slice ta TN tc) ∧ u.cell? ⟨tb, 2, none⟩ = some (.int .i64 ky) ∧ u.cell? ⟨tb, 3, none⟩ = some (.slice ia IN ic) ∧ u.cell? ⟨xb, 4, none⟩ = some (.slice ra RN rc)) (go_keep)
    (first | (go_at_call 56; refine (HF.out _ (bl_drew HH.out.below)).mono ?_; rintro e w3 ⟨rfl, h3⟩; obtain ⟨e0, e1, e2, e3, e4⟩ := HS.out w3 ((bl_drew (Below.refl _ w2)).trans h3)))
  have H3 : Hid (Below w2.heap.size w2 w3) := (bl_drew (Below.refl _ w2)).trans h3
  clear h3
  go_wp2_with (go_at_call 57; go_must (refine (HW.out _ (HH.out.up H3.out)).mono ?_; rintro e w4 ⟨rfl, hw4⟩; obtain ⟨d0, d1, d2, d3, dl, dz⟩ := HH.out.eff (H3.out.trans (hw4.mono H3.out.size)); have hb' := HH.out.store (H3.out.trans (hw4.mono H3.out.size))))
  refine bodyPost_ret (by simp [results, Tryz.results37, go_sem, d0, d1, d2, d3]; rfl) rfl ?_
  exact ⟨rfl, hb' _ _ _ _⟩

/-- what get comes to -/
def GetR (rv : Value) (kcols : List Nat) (R : List Rw) (key : List V) (w : World) (e : Ending) (w' : World) : Prop := ∃ a c, e = .returned (effV 0 (.slice a (begN kcols (cont R) key 1) c) nilS nilS) ∧ (SliceAt w' (.slice a (begN kcols (cont R) key 1) c) 1 enR (begL kcols R key 1) ∧ ∀ b, (Value.slice a (begN kcols (cont R) key 1) c).ownBlock = some b → rv.ownBlock = some b) ∧ Below w.heap.size w w'

theorem sliceAt_turn {α : Type} {w u : World} {v : Value} {n : Nat} {en : α → List Value} {L : List α} {S : Nat → Prop} (h : SliceAt w v n en L) (t : Turn S w u) (hS : ∀ b, v.ownBlock = some b → ¬ S b) : SliceAt u v n en L := by
  obtain ⟨a, c, h1, h2, h3, h4⟩ := h
  refine ⟨a, c, h1, h2, h3, fun hne => ?_⟩
  obtain ⟨b, off, e, hlt, hc⟩ := h4 hne
  refine ⟨b, off, e, Nat.lt_of_lt_of_le hlt t.size, fun i hi j x hx => ?_⟩
  have hb := t.block b hlt (hS b (by rw [h1, e]; rfl))
  have := hc i hi j x hx
  simp only [World.cell?] at this ⊢
  rw [hb]
  exact this

set_option linter.unusedSimpArgs false in
set_option maxRecDepth 100000 in
set_option maxHeartbeats 2000000 in
theorem get_ok {w0 : World} (h : TbV w0 tb cv iv kv rv xv T) (hM : LAt w0 tb 4 kv rv kcols R) (hv : SliceAt w0 keyv 4 enV key) (hl : key.length ≤ 32) (hlk : (key.length : Int) = T.key) (hlc : key.length ≤ kcols.length) (ho : OfCols T kcols key) (hm : Mono kcols (cont R) key) (hrb : ∀ b, rv.ownBlock = some b → b < w0.heap.size) (w : World) (hb : Below w0.heap.size w0 w)
    (kind : Int) (tbl : ByteArray) (to row : Value) (ix : ByteArray) (at0 n lim : Int) (ht : ∃ a m c, to = .slice a m c) (hr : ∃ a m c, row = .slice a m c) :
    Calls Tryz.prog 36 #[.pointer (some ⟨tb, 0, none⟩), opA kind tbl keyv to row ix at0 n lim] w (GetR rv kcols R key w) := by
  obtain ⟨k1, k2, k3, rfl⟩ := hr
  obtain ⟨t1, t2, t3, rfl⟩ := ht
  have HU : Hid (∀ u, Below w.heap.size w u → Below w0.heap.size w0 u) := fun u hu => hb.trans (hu.mono hb.size)
  have HI : Hid (∀ u, Below w.heap.size w u → Calls Tryz.prog 54 #[.pointer (some ⟨tb, 0, none⟩), keyv] u fun e w' => e = .returned (.bool true) ∧ Below u.heap.size u w') := fun u hu => isKey_yes h hM.cs hv hl hlk ho u (HU.out u hu)
  have HBg : Hid (∀ u, Below w.heap.size w u → Calls Tryz.prog 55 #[.pointer (some ⟨tb, 4, none⟩), keyv, .int .i64 1] u (BegR rv kcols R key 1 u)) := fun u hu => beginWith_any hM hv hlc ho.ok hm 1 (by omega) u (HU.out u hu)
  obtain ⟨va, vc, rfl⟩ := hv.keyN
  unfold BegR at HBg
  unfold GetR
  obtain ⟨B, hB⟩ : ∃ B, begN kcols (cont R) key 1 = B := ⟨_, rfl⟩
  rw [hB] at HBg ⊢
  obtain ⟨KN, hKN⟩ : ∃ N, key.length = N := ⟨_, rfl⟩
  rw [hKN] at HI HBg ⊢
  obtain ⟨w2, xb, HE⟩ := ent_of w kind tbl (.slice va KN vc) (.slice t1 t2 t3) (.slice k1 k2 k3) ix at0 n lim
  have HH : Hid (Ent w w2 xb kind tbl (.slice va KN vc) (.slice t1 t2 t3) (.slice k1 k2 k3) ix at0 n lim) := HE
  have HS : Hid (∀ u, Below w2.heap.size w2 u → u.cell? ⟨xb, 2, none⟩ = some (.slice va KN vc) ∧ tb < u.heap.size) := fun u hu => ⟨(HE.cells hu).1, Nat.lt_of_lt_of_le (lt_of h.st) (HU.out u (HE.up hu)).size⟩
  obtain ⟨a0, a1⟩ := HS.out w2 (Below.refl _ _)
  have hw2 := HE.eq
  have hxb := HE.at_
  have HRb : Hid (∀ b, rv.ownBlock = some b → b < w.heap.size) := fun b e => Nat.lt_of_lt_of_le (hrb b e) hb.size
  clear h hM hv hl hlk hlc ho hm hb hB hKN HE hrb
  go_enter Tryz.func36, Tryz.ntmps36
  go_wp2_with (go_at_call 54; go_must (refine (HI.out _ HH.out.below).mono ?_; rintro e w3 ⟨rfl, h3⟩; obtain ⟨e0, e1⟩ := HS.out w3 h3))
  have H3 : Hid (Below w2.heap.size w2 w3) := h3
  obtain ⟨d0, d1, d2, d3, dl, dz⟩ := HH.out.eff h3
  clear h3
  go_region_held3 (fun u => u.cell? ⟨xb, 2, none⟩ = some (.slice va KN vc)) (go_keep)
    (first | (go_at_call 55; refine (HBg.out _ (HH.out.up (bl_drew H3.out))).mono ?_; rintro e w4 ⟨a, c, rfl, hs, hw4⟩; obtain ⟨f0, f1⟩ := HS.out w4 ((bl_drew H3.out).trans (hw4.mono (bl_drew H3.out).size)); obtain ⟨d0, d1, d2, d3, dl, dz⟩ := HH.out.eff ((bl_drew H3.out).trans (hw4.mono (bl_drew H3.out).size))))
  have HO : Hid (∀ b, (Value.slice a B c).ownBlock = some b → b ≠ xb + 1) := fun b e => by
    have := HRb.out b (hs.2 b e)
    have := HH.out.at_
    omega
  have HS4 : Hid (SliceAt w4 (.slice a B c) 1 enR (begL kcols R key 1)) := hs.1
  have HO2 : Hid (∀ b, (Value.slice a B c).ownBlock = some b → rv.ownBlock = some b) := hs.2
  have hb' := HH.out.store ((bl_drew H3.out).trans (hw4.mono (bl_drew H3.out).size))
  clear hs hw4
  go_wp2_with fail
  refine bodyPost_ret (by simp [results, Tryz.results36, go_sem, d0, d1, d2, d3]; rfl) rfl ?_
  refine ⟨a, c, rfl, ⟨sliceAt_turn HS4.out (set4_turn w4 (xb + 1) _ _ _ _) HO.out, HO2.out⟩, hb' _ _ _ _⟩
end

end Go.Proofs.YtfddmibaojfalaaGreat

/- What an operation comes to: the program's remove of a row that is there; indexAt, find. -/
namespace Go.Proofs.YtfddmibaojfalaaGreat
open Go.RowKit

section
variable {tb : Nat} {cv iv kv rv xv rowv keyv : Value} {T : Tab} {kcols : List Nat} {row key : List V} {R : List Rw}

theorem rowOf_some {r : Rw} (h : rowOf kcols R key = some r) : begN kcols (cont R) key 1 = 1 ∧ begL kcols R key 1 = [r] := by
  unfold rowOf at h
  have h1 : begN kcols (cont R) key 1 ≤ 1 := (run0_le kcols key ((cont R).drop (plc kcols (cont R) key)) 1).1
  split at h
  · cases h
  · rename_i hz
    have hB : begN kcols (cont R) key 1 = 1 := by omega
    refine ⟨hB, ?_⟩
    unfold begL
    rw [hB]
    obtain ⟨hi, rfl⟩ := List.getElem?_eq_some_iff.1 h
    rw [List.drop_eq_getElem_cons hi]
    rfl

def RemR (rv : Value) (r : Rw) (w : World) (e : Ending) (w' : World) : Prop := ∃ a c, e = .returned (effV 0 (.slice a 1 c) r.val nilS) ∧ (SliceAt w' (.slice a 1 c) 1 enR [r] ∧ ∀ b, (Value.slice a 1 c).ownBlock = some b → rv.ownBlock = some b) ∧ Below w.heap.size w w'

set_option linter.unusedSimpArgs false in
set_option maxRecDepth 100000 in
set_option maxHeartbeats 2000000 in
theorem remove_ok {w0 : World} (h : TbV w0 tb cv iv kv rv xv T) (hM : LAt w0 tb 4 kv rv kcols R) (hv : SliceAt w0 keyv 4 enV key) (hl : key.length ≤ 32) (hlk : (key.length : Int) = T.key) (hlc : key.length ≤ kcols.length) (ho : OfCols T kcols key) (hm : Mono kcols (cont R) key) (hrb : ∀ b, rv.ownBlock = some b → b < w0.heap.size) (w : World) (hb : Below w0.heap.size w0 w)
    {r : Rw} (hro : rowOf kcols R key = some r) (kind : Int) (tbl : ByteArray) (to row : Value) (ix : ByteArray) (at0 n lim : Int) (ht : ∃ a m c, to = .slice a m c) (hr : ∃ a m c, row = .slice a m c) :
    Calls Tryz.prog 39 #[.pointer (some ⟨tb, 0, none⟩), opA kind tbl keyv to row ix at0 n lim] w (RemR rv r w) := by
  obtain ⟨hB, hBL⟩ := rowOf_some hro
  have HG0 : ∀ u, Below w.heap.size w u → Calls Tryz.prog 36 #[.pointer (some ⟨tb, 0, none⟩), opA kind tbl keyv to row ix at0 n lim] u (GetR rv kcols R key u) := fun u hu => get_ok h hM hv hl hlk hlc ho hm hrb u (hb.trans (hu.mono hb.size)) kind tbl to row ix at0 n lim ht hr
  unfold GetR at HG0
  rw [hB, hBL] at HG0
  obtain ⟨k1, k2, k3, rfl⟩ := hr
  obtain ⟨t1, t2, t3, rfl⟩ := ht
  obtain ⟨va, vc, rfl⟩ := hv.keyN
  obtain ⟨KN, hKN⟩ : ∃ N, key.length = N := ⟨_, rfl⟩
  rw [hKN] at HG0 ⊢
  have HG : Hid (∀ u, Below w.heap.size w u → Calls Tryz.prog 36 #[.pointer (some ⟨tb, 0, none⟩), opA kind tbl (.slice va KN vc) (.slice t1 t2 t3) (.slice k1 k2 k3) ix at0 n lim] u fun e w' => ∃ a c, e = .returned (effV 0 (.slice a 1 c) nilS nilS) ∧ (SliceAt w' (.slice a 1 c) 1 enR [r] ∧ ∀ b, (Value.slice a 1 c).ownBlock = some b → rv.ownBlock = some b) ∧ Below u.heap.size u w') := HG0
  obtain ⟨w2, xb, HE⟩ := ent_of w kind tbl (.slice va KN vc) (.slice t1 t2 t3) (.slice k1 k2 k3) ix at0 n lim
  have HH : Hid (Ent w w2 xb kind tbl (.slice va KN vc) (.slice t1 t2 t3) (.slice k1 k2 k3) ix at0 n lim) := HE
  have HRb : Hid (∀ b, rv.ownBlock = some b → b < w.heap.size) := fun b e => Nat.lt_of_lt_of_le (hrb b e) hb.size
  have hop := HE.op
  have b0 : w2.cell? ⟨xb, 0, none⟩ = some (.int .i64 kind) := by rw [cell_of hop]; rfl
  have b1 : w2.cell? ⟨xb, 1, none⟩ = some (.string tbl) := by rw [cell_of hop]; rfl
  have b2 : w2.cell? ⟨xb, 2, none⟩ = some (.slice va KN vc) := by rw [cell_of hop]; rfl
  have b3 : w2.cell? ⟨xb, 3, none⟩ = some (.slice t1 t2 t3) := by rw [cell_of hop]; rfl
  have b4 : w2.cell? ⟨xb, 4, none⟩ = some (.slice k1 k2 k3) := by rw [cell_of hop]; rfl
  have b5 : w2.cell? ⟨xb, 5, none⟩ = some (.string ix) := by rw [cell_of hop]; rfl
  have b6 : w2.cell? ⟨xb, 6, none⟩ = some (.int .i64 at0) := by rw [cell_of hop]; rfl
  have b7 : w2.cell? ⟨xb, 7, none⟩ = some (.int .i64 n) := by rw [cell_of hop]; rfl
  have b8 : w2.cell? ⟨xb, 8, none⟩ = some (.int .i64 lim) := by rw [cell_of hop]; rfl
  have hxl : xb < w2.heap.size := lt_of hop
  have hw2 := HE.eq
  have hxb := HE.at_
  unfold RemR
  obtain ⟨rg, rc, rvs⟩ := r
  unfold Rw.val
  dsimp only
  obtain ⟨M, hM'⟩ : ∃ M, rvs.length = M := ⟨_, rfl⟩
  have HM : Hid (rvs.length = M) := hM'
  rw [hM']
  clear h hM hv hl hlk hlc ho hm hb hB hKN HE hrb hop hBL hro HG0 hM'
  go_enter Tryz.func39, Tryz.ntmps39
  go_wp2_with fail
  refine (HG.out w2 HH.out.below).mono ?_
  rintro e w3 ⟨a, c, rfl, ⟨hs, hso⟩, hw3⟩
  have HS3 : Hid (SliceAt w3 (.slice a 1 c) 1 enR [⟨rg, rc, rvs⟩]) := hs
  have HO3 : Hid (∀ b, (Value.slice a 1 c).ownBlock = some b → rv.ownBlock = some b) := hso
  obtain ⟨a', c', e, g1, g2, g3⟩ := hs.rows
  cases e
  obtain ⟨b, off, rfl, hbl, q0⟩ := g3 w3 (Below.refl _ _) 0 _ rfl
  unfold Rw.val at q0
  dsimp only at q0
  rw [HM.out, Nat.add_zero] at q0
  have H3 : Hid (Below w2.heap.size w2 w3) := hw3
  obtain ⟨d0, d1, d2, d3, dl, dz⟩ := HH.out.eff hw3
  have hbx : b < xb := by have := HRb.out b (hso b rfl); omega
  unfold maxLen at g2
  clear hs hso g3 hw3
  go_wp2_with fail
  have hb' := HH.out.store H3.out
  have e3 : w3.heap[xb + 1]? = some effZ := (H3.out.block _ (lt_of HH.out.ef)).trans HH.out.ef
  have e4 := set4_heap e3 (.int .i64 0) (.slice (some ⟨b, off, none⟩) 1 c) (.slice (some ⟨rg, 0, none⟩) M rc) nilS
  have e5 := (Below.heap_alloc _ (Obj.cells #[.int .i64 0, .slice (some ⟨b, off, none⟩) 1 c, .slice (some ⟨rg, 0, none⟩) M rc, nilS] 64) _ (lt_of e4)).trans e4
  have f0 := (cell_of e5 0).trans rfl
  have f1 := (cell_of e5 1).trans rfl
  have f2 := (cell_of e5 2).trans rfl
  have f3 := (cell_of e5 3).trans rfl
  unfold set4 at f0 f1 f2 f3
  refine bodyPost_ret (by simp [results, Tryz.results39, go_sem, f0, f1, f2, f3]; rfl) rfl ?_
  exact ⟨some ⟨b, off, none⟩, c, rfl, ⟨(sliceAt_turn HS3.out (set4_turn w3 (xb + 1) _ _ _ _) (fun k e q => by cases e; have q' : b = xb + 1 := q; omega)).below ((Below.refl _ _).alloc (Nat.le_refl _) _), HO3.out⟩, bl_alloc (hb' _ _ _ _) _⟩
end

set_option maxRecDepth 100000 in
set_option maxHeartbeats 1000000 in
theorem indexAt1_yes (nm : ByteArray) (ica : Option Addr) (icn icc : Nat) (un : Bool) (pb : Nat) (w : World) (hp : w.cell? ⟨pb, 0, none⟩ = some (.string nm)) :
    Calls Tryz.prog 78 #[.agg #[.string nm, .slice ica icn icc, .bool un], .pointer (some ⟨pb, 0, none⟩)] w fun e w' => e = .returned (.bool true) ∧ Below w.heap.size w w' := by
  have hpl := cell_lt hp
  go_enter Tryz.func78, Tryz.ntmps78
  go_wp2
  go_ret
  exact ⟨by simp, (Below.refl _ _).alloc (Nat.le_refl _) _⟩

section
variable {tb : Nat} {cv iv kv rv xv rowv keyv : Value} {T : Tab} {kcols : List Nat} {row key : List V} {R : List Rw} {nm : ByteArray} {un : Bool} {ics : List Nat} {ib ic : Nat} {icv : Value} {xb xc : Nat} {xcv xrv : Value} {xcols : List Nat} {XR : List Rw}

set_option maxRecDepth 100000 in
set_option maxHeartbeats 1000000 in
theorem indexAt_yes {w0 : World} (h : TbV w0 tb cv iv kv rv xv T) (hx : IxAt w0 iv xv nm un ics ib ic icv xb xc xcv xrv xcols XR) (w : World) (hb : Below w0.heap.size w0 w) :
    Calls Tryz.prog 62 #[.pointer (some ⟨tb, 0, none⟩), .string nm] w fun e w' => e = .returned (.int .i64 0) ∧ Below w.heap.size w w' := by
  have c3 := cell_below h.cells.c3 hb
  rw [hx.iv] at c3
  have i0 := cell_below hx.i0 hb
  have i1 := cell_below hx.i1 hb
  have i2 := cell_below hx.i2 hb
  have htl : tb < w.heap.size := cell_lt c3
  have hil : ib < w.heap.size := cell_lt i0
  obtain ⟨icm1, icm2⟩ := hx.ic
  unfold maxLen at icm2
  obtain ⟨ica, icc, hicv⟩ : ∃ a c, icv = .slice a ics.length c := by obtain ⟨a, c, e, _⟩ := hx.cs; exact ⟨a, c, e⟩
  subst hicv
  obtain ⟨IN, hIN⟩ : ∃ N, ics.length = N := ⟨_, rfl⟩
  rw [hIN] at i1
  obtain ⟨w1, hw1⟩ : ∃ w1, w.alloc (.cells #[.string nm] 9) = w1 := ⟨_, rfl⟩
  obtain ⟨pb, hpb⟩ : ∃ pb, w.heap.size = pb := ⟨_, rfl⟩
  have hb1 : Below w.heap.size w w1 := by rw [← hw1]; exact (Below.refl _ _).alloc (Nat.le_refl _) _
  have x1 : w1.heap[pb]? = some (.cells #[.string nm] 9) := by rw [← hw1, ← hpb]; exact heap_new w _
  have p0 : w1.cell? ⟨pb, 0, none⟩ = some (.string nm) := by rw [cell_of x1]; rfl
  have j0 := cell_below i0 hb1
  have j1 := cell_below i1 hb1
  have j2 := cell_below i2 hb1
  have hil1 : ib < w1.heap.size := Nat.lt_of_lt_of_le hil hb1.size
  have HF : Hid (Calls Tryz.prog 77 #[.slice (some ⟨ib, 0, none⟩) 1 ic, .func (.func 78) #[] #[.pointer (some ⟨pb, 0, none⟩)]] w1 fun e w' => e = .returned (.int .i64 0) ∧ Hid (Below w.heap.size w w')) := by
    have HA : Hid (∀ u, Below w1.heap.size w1 u → Calls Tryz.prog 78 #[.agg #[.string nm, .slice ica IN icc, .bool un], .pointer (some ⟨pb, 0, none⟩)] u fun e w' => e = .returned (.bool true) ∧ Below u.heap.size u w') := fun u hu => indexAt1_yes nm ica IN icc un pb u (cell_below p0 hu)
    have HB1 : Hid (Below w.heap.size w w1) := hb1
    clear c3 i0 i1 i2 h hx hb hb1 hw1 x1 hIN p0 hpb
    go_enter Tryz.func77, Tryz.ntmps77
    go_wp2_with fail
    refine wp_loop_rounds 1 ?_
    rw [rounds_succ]
    go_wp2_with (go_at_call 78; go_must (refine (HA.out _ (Below.refl _ _)).mono ?_; rintro e w2 ⟨rfl, h2⟩))
    go_ret
    exact ⟨rfl, HB1.out.trans (h2.mono HB1.out.size)⟩
  have d3 := cell_below c3 hb1
  clear i0 i1 i2 h hx hb x1 hIN j0 j1 j2 p0 hb1 c3
  go_enter Tryz.func62, Tryz.ntmps62
  go_wp2_with (go_at_call 77; go_must (refine HF.out.mono ?_; rintro e w2 ⟨rfl, h2⟩))
  go_ret
  exact ⟨rfl, h2.out⟩

def FindR (xrv : Value) (xcols : List Nat) (XR : List Rw) (key : List V) (most : Nat) (w : World) (e : Ending) (w' : World) : Prop := ∃ a c, e = .returned (effV 0 (.slice a (begN xcols (cont XR) key most) c) nilS nilS) ∧ (SliceAt w' (.slice a (begN xcols (cont XR) key most) c) 1 enR (begL xcols XR key most) ∧ ∀ b, (Value.slice a (begN xcols (cont XR) key most) c).ownBlock = some b → xrv.ownBlock = some b) ∧ Below w.heap.size w w'

set_option linter.unusedSimpArgs false in
set_option maxRecDepth 100000 in
set_option maxHeartbeats 2000000 in
theorem find_ok {w0 : World} (h : TbV w0 tb cv iv kv rv xv T) (hx : IxAt w0 iv xv nm un ics ib ic icv xb xc xcv xrv xcols XR) (hv : SliceAt w0 keyv 4 enV key) (hl : key.length ≤ 32) (hlk : key.length = ics.length) (hlc : key.length ≤ xcols.length) (ho : OfCols T ics key) (hm : Mono xcols (cont XR) key) (hrb : ∀ b, xrv.ownBlock = some b → b < w0.heap.size) (most : Nat) (hm1 : 1 ≤ most) (hm2 : most ≤ 4096) (w : World) (hb : Below w0.heap.size w0 w)
    (kind : Int) (tbl : ByteArray) (to row : Value) (at0 n : Int) (ht : ∃ a m c, to = .slice a m c) (hr : ∃ a m c, row = .slice a m c) :
    Calls Tryz.prog 41 #[.pointer (some ⟨tb, 0, none⟩), opA kind tbl keyv to row nm at0 n (most : Int)] w (FindR xrv xcols XR key most w) := by
  obtain ⟨k1, k2, k3, rfl⟩ := hr
  obtain ⟨t1, t2, t3, rfl⟩ := ht
  have HU : Hid (∀ u, Below w.heap.size w u → Below w0.heap.size w0 u) := fun u hu => hb.trans (hu.mono hb.size)
  have HI : Hid (∀ u, Below w.heap.size w u → Calls Tryz.prog 62 #[.pointer (some ⟨tb, 0, none⟩), .string nm] u fun e w' => e = .returned (.int .i64 0) ∧ Below u.heap.size u w') := fun u hu => indexAt_yes h hx u (HU.out u hu)
  have HF : Hid (∀ u, Below w.heap.size w u → Calls Tryz.prog 63 #[.pointer (some ⟨tb, 0, none⟩), keyv, .agg #[.string nm, icv, .bool un]] u fun e w' => e = .returned (.bool true) ∧ Below u.heap.size u w') := fun u hu => fitIndex_yes h hx.cs hv hl hlk ho nm un u (HU.out u hu)
  have HLm : Hid (∀ u, Calls Tryz.prog 61 #[.int .i64 (most : Int)] u fun e w' => e = .returned (.bool true) ∧ w' = u) := fun u => limit_yes (most : Int) (by omega) (by omega) u
  have HBg : Hid (∀ u, Below w.heap.size w u → Calls Tryz.prog 55 #[.pointer (some ⟨xb, 0, none⟩), keyv, .int .i64 (most : Int)] u (BegR xrv xcols XR key most u)) := fun u hu => beginWith_any hx.list hv hlc ho.ok hm most (by omega) u (HU.out u hu)
  obtain ⟨va, vc, rfl⟩ := hv.keyN
  unfold BegR at HBg
  unfold FindR
  obtain ⟨B, hB⟩ : ∃ B, begN xcols (cont XR) key most = B := ⟨_, rfl⟩
  rw [hB] at HBg ⊢
  obtain ⟨KN, hKN⟩ : ∃ N, key.length = N := ⟨_, rfl⟩
  rw [hKN] at HF HBg ⊢
  obtain ⟨ica, icc, hicv⟩ : ∃ a c, icv = .slice a ics.length c := by obtain ⟨a, c, e, _⟩ := hx.cs; exact ⟨a, c, e⟩
  subst hicv
  obtain ⟨IN, hIN⟩ : ∃ N, ics.length = N := ⟨_, rfl⟩
  rw [hIN] at HF
  obtain ⟨w2, pb, HE⟩ := ent_of w kind tbl (.slice va KN vc) (.slice t1 t2 t3) (.slice k1 k2 k3) nm at0 n (most : Int)
  have HH : Hid (Ent w w2 pb kind tbl (.slice va KN vc) (.slice t1 t2 t3) (.slice k1 k2 k3) nm at0 n (most : Int)) := HE
  have HS : Hid (∀ u, Below w2.heap.size w2 u → u.cell? ⟨pb, 2, none⟩ = some (.slice va KN vc) ∧ u.cell? ⟨pb, 5, none⟩ = some (.string nm) ∧ u.cell? ⟨pb, 8, none⟩ = some (.int .i64 (most : Int)) ∧ u.cell? ⟨tb, 3, none⟩ = some (.slice (some ⟨ib, 0, none⟩) 1 ic) ∧ u.cell? ⟨tb, 6, none⟩ = some (.slice (some ⟨xb, 0, none⟩) 1 xc) ∧ u.cell? ⟨ib, 0, none⟩ = some (.string nm) ∧ u.cell? ⟨ib, 1, none⟩ = some (.slice ica IN icc) ∧ u.cell? ⟨ib, 2, none⟩ = some (.bool un) ∧ tb < u.heap.size ∧ xb < u.heap.size) := fun u hu => by
    have hu0 := HU.out u (HE.up hu)
    obtain ⟨q1, _, q2, _, _, q3⟩ := HE.cells hu
    have c3 := cell_below h.cells.c3 hu0
    have c6 := cell_below h.cells.c6 hu0
    rw [hx.iv] at c3
    rw [hx.xv] at c6
    have e1 := cell_below hx.i1 hu0
    rw [hIN] at e1
    exact ⟨q1, q2, q3, c3, c6, cell_below hx.i0 hu0, e1, cell_below hx.i2 hu0, cell_lt c3, cell_lt (cell_below hx.list.c0 hu0)⟩
  have HRb : Hid (∀ b, xrv.ownBlock = some b → b < w.heap.size) := fun b e => Nat.lt_of_lt_of_le (hrb b e) hb.size
  obtain ⟨icm1, icm2⟩ := hx.ic
  obtain ⟨xcm1, xcm2⟩ := hx.xc
  unfold maxLen at icm2 xcm2
  obtain ⟨a0, a1, a2, a3, a4, a5, a6, a7, a8, a9⟩ := HS.out w2 (Below.refl _ _)
  have hw2 := HE.eq
  have hxb := HE.at_
  have htl0 : tb < w.heap.size := Nat.lt_of_lt_of_le (lt_of h.st) hb.size
  have htp1 : ¬ (tb = pb + 1) := by omega
  have htp2 : ¬ (pb + 1 = tb) := by omega
  clear h hx hv hl hlk hlc ho hm hb hB hKN HE hrb hIN
  go_enter Tryz.func41, Tryz.ntmps41
  go_wp2_with (go_at_call 62; go_must (refine (HI.out _ HH.out.below).mono ?_; rintro e w3 ⟨rfl, h3⟩))
  have H3 : Hid (Below w2.heap.size w2 w3) := h3
  obtain ⟨b0, b1, b2, b3, b4, b5, b6, b7, b8, b9⟩ := HS.out w3 h3
  clear h3 a0 a1 a2 a3 a4 a5 a6 a7
  go_region_held3 (fun u => u.cell? ⟨pb, 2, none⟩ = some (.slice va KN vc) ∧ u.cell? ⟨tb, 3, none⟩ = some (.slice (some ⟨ib, 0, none⟩) 1 ic) ∧ u.cell? ⟨ib, 0, none⟩ = some (.string nm) ∧ u.cell? ⟨ib, 1, none⟩ = some (.slice ica IN icc) ∧ u.cell? ⟨ib, 2, none⟩ = some (.bool un)) (go_keep)
    (first | (go_at_call 63; refine (HF.out _ (HH.out.up (bl_drew H3.out))).mono ?_; rintro e w4 ⟨rfl, h4⟩; obtain ⟨e0, e1, e2, e3, e4, e5, e6, e7, e8, e9⟩ := HS.out w4 ((bl_drew H3.out).trans (h4.mono (bl_drew H3.out).size))))
  have H4 : Hid (Below w2.heap.size w2 w4) := (bl_drew H3.out).trans (h4.mono (bl_drew H3.out).size)
  clear h4 b0 b1 b2 b3 b4 b5 b6 b7
  go_wp2_with (go_at_call 61; go_must (refine (HLm.out _).mono ?_; rintro e w5 ⟨rfl, hw5⟩; obtain rfl := hw5.symm))
  obtain ⟨d0, d1, d2, d3, dl, dz⟩ := HH.out.eff H4.out
  go_region_held3 (fun u => u.cell? ⟨pb, 2, none⟩ = some (.slice va KN vc) ∧ u.cell? ⟨pb, 8, none⟩ = some (.int .i64 (most : Int)) ∧ u.cell? ⟨tb, 6, none⟩ = some (.slice (some ⟨xb, 0, none⟩) 1 xc)) (go_keep)
    (first | (go_at_call 55; refine (HBg.out _ (HH.out.up (bl_drew H4.out))).mono ?_; rintro e w6 ⟨a, c, rfl, hs, hw6⟩; obtain ⟨f0, f1, f2, f3, f4, f5, f6, f7, f8, f9⟩ := HS.out w6 ((bl_drew H4.out).trans (hw6.mono (bl_drew H4.out).size)); obtain ⟨d0, d1, d2, d3, dl, dz⟩ := HH.out.eff ((bl_drew H4.out).trans (hw6.mono (bl_drew H4.out).size))))
  have HO : Hid (∀ b, (Value.slice a B c).ownBlock = some b → b ≠ pb + 1) := fun b e => by
    have := HRb.out b (hs.2 b e)
    have := HH.out.at_
    omega
  have HS4 : Hid (SliceAt w6 (.slice a B c) 1 enR (begL xcols XR key most)) := hs.1
  have HO2 : Hid (∀ b, (Value.slice a B c).ownBlock = some b → xrv.ownBlock = some b) := hs.2
  have hb' := HH.out.store ((bl_drew H4.out).trans (hw6.mono (bl_drew H4.out).size))
  clear hs hw6
  go_wp2_with fail
  refine bodyPost_ret (by simp [results, Tryz.results41, go_sem, d0, d1, d2, d3]; rfl) rfl ?_
  refine ⟨a, c, rfl, ⟨sliceAt_turn HS4.out (set4_turn w6 (pb + 1) _ _ _ _) HO.out, HO2.out⟩, hb' _ _ _ _⟩
end

end Go.Proofs.YtfddmibaojfalaaGreat
