import Derived.Test.YtfddmibaojfalaaGreatXPick
/- What fits a key or an index: the program's isNull, areOf, beginsKey, isKey, fitIndex, mayRise, limitMayBe, keyOf, rowOf: where all is right. -/
namespace Go.Proofs.YtfddmibaojfalaaGreat
open Go.RowKit

set_option maxHeartbeats 400000 in
theorem isNull_no (k n : Int) (s : ByteArray) (hk : k ≠ 0) (w : World) : Calls Tryz.prog 76 #[vagg k n s] w fun e w' => e = .returned (.bool false) ∧ Below w.heap.size w w' := by
  have hk' : (k == 0) = false := by simpa using hk
  have hsl := @store_law
  go_enter Tryz.func76, Tryz.ntmps76
  go_wp2
  go_ret
  exact ⟨by simp, (Below.refl _ _).alloc (Nat.le_refl _) _⟩

set_option maxRecDepth 100000 in
set_option maxHeartbeats 1000000 in
theorem indexNull_no (v : Value) (L : List V) (w w0 : World) (h : SliceAt w0 v 4 enV L) (hb : Below w0.heap.size w0 w) (hk : ∀ x ∈ L, x.k ≠ 0) :
    Calls Tryz.prog 89 #[v, .func (.func 76) #[] #[]] w fun e w' => e = .returned (.int .i64 (-1)) ∧ Below w.heap.size w w' := by
  obtain ⟨a, c, rfl, h1, h2, h3⟩ := h.vals
  have HX : Hid (∀ u, Below w.heap.size w u → ∀ (i : Nat) (y : V), L[i]? = some y → ∃ b off, a = some ⟨b, off, none⟩ ∧ b < u.heap.size ∧ u.cell? ⟨b, off + i * 4, none⟩ = some (.int .i64 y.k) ∧ u.cell? ⟨b, off + i * 4 + 1, none⟩ = some (.int .i64 y.n) ∧ u.cell? ⟨b, off + i * 4 + 2, none⟩ = some (.complex .f64 0 0) ∧ u.cell? ⟨b, off + i * 4 + 3, none⟩ = some (.string y.s)) := fun u hu i y hy => h3 u (hb.trans (hu.mono hb.size)) i y hy
  have HM : Hid (∀ (i : Nat) (y : V), L[i]? = some y → ∀ u, Calls Tryz.prog 76 #[vagg y.k y.n y.s] u fun e w' => e = .returned (.bool false) ∧ Below u.heap.size u w') := fun i y hy u => isNull_no y.k y.n y.s (hk y (List.mem_of_getElem? hy)) u
  obtain ⟨N, hN⟩ : ∃ N, L.length = N := ⟨_, rfl⟩
  have HL : Hid (L.length = N) := hN
  unfold maxLen at h2
  rw [hN] at h1 ⊢
  have hsl := @store_law
  clear h h3 hN hb hk
  go_enter Tryz.func89, Tryz.ntmps89
  go_wp2_with fail
  go_loopw [8] (fun v wr => ∃ i : Nat, i ≤ N ∧ v = .int .i64 i ∧ Hid (Below w.heap.size w wr)) (fun v _ => N - (intOf v).toNat)
  case atStart => exact ⟨0, Nat.zero_le _, rfl, Below.refl _ _⟩
  case round =>
    obtain ⟨i, hi, rfl, HB⟩ := hrel
    by_cases hlt : i < N
    · obtain ⟨y, hy⟩ : ∃ y, L[i]? = some y := ⟨_, List.getElem?_eq_getElem (by rw [HL.out]; exact hlt)⟩
      obtain ⟨b, off, rfl, hbl, q0, q1, q2, q3⟩ := HX.out wr HB.out i y hy
      have HC : Hid (∀ u, Calls Tryz.prog 76 #[vagg y.k y.n y.s] u fun e w' => e = .returned (.bool false) ∧ Below u.heap.size u w') := HM.out i y hy
      obtain ⟨k, n, s⟩ := y
      dsimp only at q0 q1 q3 HC
      have hlI : (i : Int) < (N : Int) := by omega
      clear hy
      go_wp2_with (go_at_call 76; go_must (refine (HC.out _).mono ?_; rintro e w1 ⟨rfl, hw1⟩))
      have HB1 : Hid (Below w.heap.size w w1) := HB.out.trans (hw1.mono HB.out.size)
      clear hw1
      go_roundw
      case rel => exact ⟨i + 1, by omega, by go_num, HB1⟩
      case measure => simp [intOf]; omega
    · have hlI : ¬ (i : Int) < (N : Int) := by omega
      go_wp2_with fail
      go_ret
      exact ⟨rfl, HB.out⟩

theorem containsNull_no (v : Value) (L : List V) (w w0 : World) (h : SliceAt w0 v 4 enV L) (hb : Below w0.heap.size w0 w) (hk : ∀ x ∈ L, x.k ≠ 0) :
    Calls Tryz.prog 75 #[v, .func (.func 76) #[] #[]] w fun e w' => e = .returned (.bool false) ∧ Below w.heap.size w w' := by
  have HC : Hid (Calls Tryz.prog 89 #[v, .func (.func 76) #[] #[]] w fun e w' => e = .returned (.int .i64 (-1)) ∧ Below w.heap.size w w') := indexNull_no v L w w0 h hb hk
  obtain ⟨a, c, rfl, -⟩ := h.vals
  clear h hb hk
  go_enter Tryz.func75, Tryz.ntmps75
  go_wp2_with (go_at_call 89; go_must (refine HC.out.mono ?_; rintro e w1 ⟨rfl, hw1⟩))
  go_ret
  exact ⟨rfl, hw1⟩

/-- a table's struct, and its schema -/
structure TbV (w : World) (tb : Nat) (cv iv kv rv xv : Value) (T : Tab) : Prop where
  st : w.heap[tb]? = some (.cells #[.string T.nm, cv, .int .i64 T.key, iv, kv, rv, xv] 78 (0, 0))
  tab : TabV w cv iv T
theorem TbV.below {w u : World} {tb : Nat} {cv iv kv rv xv : Value} {T : Tab} (h : TbV w tb cv iv kv rv xv T) (hu : Below w.heap.size w u) : TbV u tb cv iv kv rv xv T := ⟨(hu.block tb (lt_of h.st)).trans h.st, h.tab.below hu⟩
structure TbC (w : World) (tb : Nat) (cv iv kv rv xv : Value) (T : Tab) : Prop where
  c0 : w.cell? ⟨tb, 0, none⟩ = some (.string T.nm)
  c1 : w.cell? ⟨tb, 1, none⟩ = some cv
  c2 : w.cell? ⟨tb, 2, none⟩ = some (.int .i64 T.key)
  c3 : w.cell? ⟨tb, 3, none⟩ = some iv
  c4 : w.cell? ⟨tb, 4, none⟩ = some kv
  c5 : w.cell? ⟨tb, 5, none⟩ = some rv
  c6 : w.cell? ⟨tb, 6, none⟩ = some xv
theorem TbV.cells {w : World} {tb : Nat} {cv iv kv rv xv : Value} {T : Tab} (h : TbV w tb cv iv kv rv xv T) : TbC w tb cv iv kv rv xv T :=
  ⟨by rw [cell_of h.st]; rfl, by rw [cell_of h.st]; rfl, by rw [cell_of h.st]; rfl, by rw [cell_of h.st]; rfl, by rw [cell_of h.st]; rfl, by rw [cell_of h.st]; rfl, by rw [cell_of h.st]; rfl⟩

/-- the cells of a slice of columns -/
theorem SliceAt.colsC {w : World} {v : Value} {L : List (ByteArray × Int)} (h : SliceAt w v 2 enC L) : ∃ a c, v = .slice a L.length c ∧ L.length ≤ c ∧ c ≤ maxLen ∧ ∀ u, Below w.heap.size w u → ∀ (i : Nat) (y : ByteArray × Int), L[i]? = some y → ∃ b off, a = some ⟨b, off, none⟩ ∧ b < u.heap.size ∧ u.cell? ⟨b, off + i * 2, none⟩ = some (.string y.1) ∧ u.cell? ⟨b, off + i * 2 + 1, none⟩ = some (.int .i64 y.2) := by
  obtain ⟨a, c, rfl, h1, h2, h3⟩ := h.opened
  refine ⟨a, c, rfl, h1, h2, fun u hu i y hy => ?_⟩
  obtain ⟨hi, rfl⟩ := List.getElem?_eq_some_iff.1 hy
  obtain ⟨b, off, e, hl, hc⟩ := h3 u hu i hi
  exact ⟨b, off, e, Nat.lt_of_lt_of_le hl hu.size, hc 0 _ rfl, hc 1 _ rfl⟩

/-- values that are of some columns, none of them null -/
def OfCols (T : Tab) (cols : List Nat) (vals : List V) : Prop := ∀ (i : Nat) (y : V), vals[i]? = some y → y.k ≠ 0 ∧ OkV y ∧ ∃ (c : Nat) (nm : ByteArray), cols[i]? = some c ∧ T.co[c]? = some (nm, y.k)
theorem OfCols.ok {T : Tab} {cols : List Nat} {vals : List V} (h : OfCols T cols vals) : ∀ x ∈ vals, OkV x := fun x hx => by
  obtain ⟨i, hi⟩ := List.mem_iff_getElem?.1 hx
  exact (h i x hi).2.1
theorem OfCols.some {T : Tab} {cols : List Nat} {vals : List V} (h : OfCols T cols vals) : ∀ x ∈ vals, x.k ≠ 0 := fun x hx => by
  obtain ⟨i, hi⟩ := List.mem_iff_getElem?.1 hx
  exact (h i x hi).1

section
variable {tb : Nat} {cv iv kv rv xv colv valv : Value} {T : Tab} {cols : List Nat} {vals : List V}

set_option linter.unusedSimpArgs false in
set_option maxRecDepth 100000 in
set_option maxHeartbeats 2000000 in
theorem areOf_yes {w0 : World} (h : TbV w0 tb cv iv kv rv xv T) (cs : SliceAt w0 colv 1 enN cols) (hv : SliceAt w0 valv 4 enV vals) (hl : vals.length ≤ 32) (ho : OfCols T cols vals) (w : World) (hb0 : Below w0.heap.size w0 w) :
    Calls Tryz.prog 74 #[.pointer (some ⟨tb, 0, none⟩), valv, colv] w fun e w' => e = .returned (.bool true) ∧ Below w.heap.size w w' := by
  have HCk : Hid (Calls Tryz.prog 72 #[valv] w fun e w' => e = .returned (.tuple #[.int .i64 0, .int .i64 0]) ∧ Below w.heap.size w w') := vcheck_any valv vals w w0 hv hb0 hl ho.ok
  obtain ⟨ca, cc, rfl, s1, s2, s3⟩ := cs.nums
  obtain ⟨va, vc, rfl, u1, u2, u3⟩ := hv.vals
  obtain ⟨ta, tc, rfl, t1, t2, t3⟩ := h.tab.1.colsC
  have HU : Hid (∀ u, Below w.heap.size w u → Below w0.heap.size w0 u) := fun u hu => hb0.trans (hu.mono hb0.size)
  have HC1 : Hid (∀ u, Below w.heap.size w u → u.cell? ⟨tb, 1, none⟩ = some (.slice ta T.co.length tc)) := fun u hu => cell_below h.cells.c1 (HU.out u hu)
  have HCs : Hid (∀ u, Below w.heap.size w u → ∀ (i y : Nat), cols[i]? = some y → ∃ b off, ca = some ⟨b, off, none⟩ ∧ b < u.heap.size ∧ u.cell? ⟨b, off + i, none⟩ = some (.int .i64 (y : Int))) := fun u hu => s3 u (HU.out u hu)
  have HT : Hid (∀ u, Below w.heap.size w u → ∀ (i : Nat) (y : ByteArray × Int), T.co[i]? = some y → ∃ b off, ta = some ⟨b, off, none⟩ ∧ b < u.heap.size ∧ u.cell? ⟨b, off + i * 2, none⟩ = some (.string y.1) ∧ u.cell? ⟨b, off + i * 2 + 1, none⟩ = some (.int .i64 y.2)) := fun u hu => t3 u (HU.out u hu)
  have HV : Hid (∀ u, Below w.heap.size w u → ∀ (i : Nat) (y : V), vals[i]? = some y → ∃ b off, va = some ⟨b, off, none⟩ ∧ b < u.heap.size ∧ u.cell? ⟨b, off + i * 4, none⟩ = some (.int .i64 y.k) ∧ u.cell? ⟨b, off + i * 4 + 1, none⟩ = some (.int .i64 y.n) ∧ u.cell? ⟨b, off + i * 4 + 2, none⟩ = some (.complex .f64 0 0) ∧ u.cell? ⟨b, off + i * 4 + 3, none⟩ = some (.string y.s)) := fun u hu => u3 u (HU.out u hu)
  have HO : Hid (OfCols T cols vals) := ho
  have HTl : Hid (∀ (c : Nat) (y : ByteArray × Int), T.co[c]? = some y → c < T.co.length) := fun c y hy => (List.getElem?_eq_some_iff.1 hy).1
  have HCl : Hid (∀ (c y : Nat), cols[c]? = some y → c < cols.length) := fun c y hy => (List.getElem?_eq_some_iff.1 hy).1
  obtain ⟨CN, hCN⟩ : ∃ N, cols.length = N := ⟨_, rfl⟩
  obtain ⟨TN, hTN⟩ : ∃ N, T.co.length = N := ⟨_, rfl⟩
  obtain ⟨N, hN⟩ : ∃ N, vals.length = N := ⟨_, rfl⟩
  have HLv : Hid (vals.length = N) := hN
  unfold maxLen at s2 t2 u2
  rw [hCN] at s1 HCl ⊢
  rw [hTN] at t1 HC1 HTl
  rw [hN] at u1 hl HCk ⊢
  have hsl := @store_law
  clear cs hv s3 t3 u3 hCN hTN hN h hb0 ho
  go_enter Tryz.func74, Tryz.ntmps74
  go_wp2_with (go_at_call 72; go_must (refine HCk.out.mono ?_; rintro e w1 ⟨rfl, hw1⟩))
  have HB1 : Hid (Below w.heap.size w w1) := hw1
  clear hw1
  go_loopw [20] (fun v wr => ∃ i : Nat, i ≤ N ∧ v = .int .i64 i ∧ Hid (Below w.heap.size w wr)) (fun v _ => N - (intOf v).toNat)
  case atStart => exact ⟨0, Nat.zero_le _, rfl, HB1⟩
  case round =>
    obtain ⟨i, hi, rfl, HB⟩ := hrel
    by_cases hlt : i < N
    · obtain ⟨y, hy⟩ : ∃ y, vals[i]? = some y := ⟨_, List.getElem?_eq_getElem (by rw [HLv.out]; exact hlt)⟩
      obtain ⟨hk0, _, c, nm, hcc, htc⟩ := HO.out i y hy
      obtain ⟨vb, vo, rfl, hvl, q0, q1, q2, q3⟩ := HV.out wr HB.out i y hy
      have HK : Hid (∀ u, Calls Tryz.prog 76 #[vagg y.k y.n y.s] u fun e w' => e = .returned (.bool false) ∧ Below u.heap.size u w') := fun u => isNull_no y.k y.n y.s hk0 u
      have hlC : (i : Int) < (CN : Int) := by have := HCl.out i c hcc; omega
      have hlT : (c : Int) < (TN : Int) := by have := HTl.out c _ htc; omega
      have hb1 : Below wr.heap.size wr (wr.alloc (vobj y.k y.n y.s)) := (Below.refl _ _).alloc (Nat.le_refl _) _
      have HB2 : Hid (Below w.heap.size w (wr.alloc (vobj y.k y.n y.s))) := HB.out.trans (hb1.mono HB.out.size)
      obtain ⟨cb, co, rfl, hcl, p0⟩ := HCs.out _ HB2.out i c hcc
      obtain ⟨rb, ro, rfl, hrl, r0, r1⟩ := HT.out _ HB2.out c _ htc
      have d0 := HC1.out _ HB2.out
      obtain ⟨x0, x1, x2, x3⟩ := boxV_of (heap_new wr (vobj y.k y.n y.s))
      obtain ⟨k, n, s⟩ := y
      dsimp only at q0 q1 q3 r0 r1 HK x0 x1 x3 d0 p0 hcl hrl x2 HB2
      obtain ⟨W, hW⟩ : ∃ W, wr.alloc (vobj k n s) = W := ⟨_, rfl⟩
      obtain ⟨xb, hxb⟩ : ∃ xb, wr.heap.size = xb := ⟨_, rfl⟩
      rw [hW] at HB2 p0 r0 r1 d0 x0 x1 x2 x3 hcl hrl
      rw [hxb] at x0 x1 x2 x3
      have hlI : (i : Int) < (N : Int) := by omega
      clear hb1 hy hcc htc HV HCs HC1 HT r0
      have HS : Hid (∀ u, Below W.heap.size W u → u.cell? ⟨tb, 1, none⟩ = some (.slice (some ⟨rb, ro, none⟩) TN tc) ∧ u.cell? ⟨cb, co + i, none⟩ = some (.int .i64 (c : Int)) ∧ u.cell? ⟨rb, ro + c * 2 + 1, none⟩ = some (.int .i64 k) ∧ u.cell? ⟨xb, 0, none⟩ = some (.int .i64 k) ∧ u.cell? ⟨xb, 1, none⟩ = some (.int .i64 n) ∧ u.cell? ⟨xb, 2, none⟩ = some (.complex .f64 0 0) ∧ u.cell? ⟨xb, 3, none⟩ = some (.string s)) := fun u hu => ⟨cell_below d0 hu, cell_below p0 hu, cell_below r1 hu, cell_below x0 hu, cell_below x1 hu, cell_below x2 hu, cell_below x3 hu⟩
      go_wp2_with fail
      go_region_held3 (fun u => u.cell? ⟨tb, 1, none⟩ = some (.slice (some ⟨rb, ro, none⟩) TN tc) ∧ u.cell? ⟨cb, co + i, none⟩ = some (.int .i64 (c : Int)) ∧ u.cell? ⟨rb, ro + c * 2 + 1, none⟩ = some (.int .i64 k) ∧ u.cell? ⟨xb, 0, none⟩ = some (.int .i64 k) ∧ u.cell? ⟨xb, 1, none⟩ = some (.int .i64 n) ∧ u.cell? ⟨xb, 2, none⟩ = some (.complex .f64 0 0) ∧ u.cell? ⟨xb, 3, none⟩ = some (.string s)) (go_keep)
        (first | (go_at_call 76; refine (HK.out _).mono ?_; rintro e w3 ⟨rfl, h3⟩; obtain ⟨e0, e1, e2, e3, e4, e5, e6⟩ := HS.out w3 ((bl_drew (Below.refl _ W)).trans h3)))
      have HB3 : Hid (Below w.heap.size w w3) := HB2.out.trans (((bl_drew (Below.refl _ W)).trans h3).mono HB2.out.size)
      clear h3
      go_wp2_with fail
      go_roundw
      case rel => exact ⟨i + 1, by omega, by go_num, HB3⟩
      case measure => simp [intOf]; omega
    · have hlI : ¬ (i : Int) < (N : Int) := by omega
      go_wp2_with fail
      go_ret
      exact ⟨rfl, HB.out⟩
end

end Go.Proofs.YtfddmibaojfalaaGreat

/- What fits a key or an index; a key's row: where all is right. -/
namespace Go.Proofs.YtfddmibaojfalaaGreat
open Go.RowKit

section
variable {tb : Nat} {cv iv kv rv xv colv valv : Value} {T : Tab} {cols : List Nat} {vals : List V}

set_option maxRecDepth 100000 in
set_option maxHeartbeats 1000000 in
theorem beginsKey_yes {w0 : World} (h : TbV w0 tb cv iv kv rv xv T) (cs : SliceAt w0 kv 1 enN cols) (hv : SliceAt w0 valv 4 enV vals) (hl : vals.length ≤ 32) (hk : (vals.length : Int) ≤ T.key) (ho : OfCols T cols vals) (w : World) (hb0 : Below w0.heap.size w0 w) :
    Calls Tryz.prog 60 #[.pointer (some ⟨tb, 0, none⟩), valv] w fun e w' => e = .returned (.bool true) ∧ Below w.heap.size w w' := by
  have HA : Hid (Calls Tryz.prog 74 #[.pointer (some ⟨tb, 0, none⟩), valv, kv] w fun e w' => e = .returned (.bool true) ∧ Below w.heap.size w w') := areOf_yes h cs hv hl ho w hb0
  have HC : Hid (∀ u, Below w.heap.size w u → Calls Tryz.prog 75 #[valv, .func (.func 76) #[] #[]] u fun e w' => e = .returned (.bool false) ∧ Below u.heap.size u w') := fun u hu => containsNull_no valv vals u w0 hv (hb0.trans (hu.mono hb0.size)) ho.some
  have c2 := cell_below h.cells.c2 hb0
  have c4 := cell_below h.cells.c4 hb0
  obtain ⟨ca, cc, rfl, -⟩ := cs.nums
  obtain ⟨va, vc, rfl, -⟩ := hv.vals
  obtain ⟨N, hN⟩ : ∃ N, vals.length = N := ⟨_, rfl⟩
  obtain ⟨CN, hCN⟩ : ∃ N, cols.length = N := ⟨_, rfl⟩
  obtain ⟨K, hK⟩ : ∃ K, T.key = K := ⟨_, rfl⟩
  rw [hN] at HA HC hk hl ⊢
  rw [hCN] at HA c4
  rw [hK] at c2 hk
  clear h cs hv ho hN hCN hK hb0
  go_enter Tryz.func60, Tryz.ntmps60
  go_wp2_with (first
    | (go_at_call 74; go_must (refine HA.out.mono ?_; rintro e w1 ⟨rfl, hw1⟩))
    | (go_at_call 75; go_must (refine (HC.out _ hw1).mono ?_; rintro e w2 ⟨rfl, hw2⟩)))
  go_ret
  exact ⟨rfl, hw1.trans (hw2.mono hw1.size)⟩

set_option maxRecDepth 100000 in
set_option maxHeartbeats 1000000 in
theorem isKey_yes {w0 : World} (h : TbV w0 tb cv iv kv rv xv T) (cs : SliceAt w0 kv 1 enN cols) (hv : SliceAt w0 valv 4 enV vals) (hl : vals.length ≤ 32) (hk : (vals.length : Int) = T.key) (ho : OfCols T cols vals) (w : World) (hb0 : Below w0.heap.size w0 w) :
    Calls Tryz.prog 54 #[.pointer (some ⟨tb, 0, none⟩), valv] w fun e w' => e = .returned (.bool true) ∧ Below w.heap.size w w' := by
  have HA : Hid (Calls Tryz.prog 60 #[.pointer (some ⟨tb, 0, none⟩), valv] w fun e w' => e = .returned (.bool true) ∧ Below w.heap.size w w') := beginsKey_yes h cs hv hl (by omega) ho w hb0
  have c2 := cell_below h.cells.c2 hb0
  obtain ⟨va, vc, rfl, -⟩ := hv.vals
  obtain ⟨N, hN⟩ : ∃ N, vals.length = N := ⟨_, rfl⟩
  rw [hN] at HA hk hl ⊢
  rw [← hk] at c2
  clear h cs hv ho hN hb0 hk
  go_enter Tryz.func54, Tryz.ntmps54
  go_wp2_with (go_at_call 60; go_must (refine HA.out.mono ?_; rintro e w1 ⟨rfl, hw1⟩))
  go_ret
  exact ⟨rfl, hw1⟩

set_option maxRecDepth 100000 in
set_option maxHeartbeats 1000000 in
theorem fitIndex_yes {w0 : World} (h : TbV w0 tb cv iv kv rv xv T) (cs : SliceAt w0 colv 1 enN cols) (hv : SliceAt w0 valv 4 enV vals) (hl : vals.length ≤ 32) (hk : vals.length = cols.length) (ho : OfCols T cols vals) (nm : ByteArray) (un : Bool) (w : World) (hb0 : Below w0.heap.size w0 w) :
    Calls Tryz.prog 63 #[.pointer (some ⟨tb, 0, none⟩), valv, .agg #[.string nm, colv, .bool un]] w fun e w' => e = .returned (.bool true) ∧ Below w.heap.size w w' := by
  have HA : Hid (∀ u, Below w.heap.size w u → Calls Tryz.prog 74 #[.pointer (some ⟨tb, 0, none⟩), valv, colv] u fun e w' => e = .returned (.bool true) ∧ Below u.heap.size u w') := fun u hu => areOf_yes h cs hv hl ho u (hb0.trans (hu.mono hb0.size))
  obtain ⟨ca, cc, rfl, -⟩ := cs.nums
  obtain ⟨va, vc, rfl, -⟩ := hv.vals
  obtain ⟨N, hN⟩ : ∃ N, vals.length = N := ⟨_, rfl⟩
  rw [← hk] at HA ⊢
  rw [hN] at HA hl ⊢
  have HB : Hid (∀ o, Below w.heap.size w (w.alloc o)) := fun o => (Below.refl _ _).alloc (Nat.le_refl _) o
  clear h cs hv ho hN hb0 hk
  go_enter Tryz.func63, Tryz.ntmps63
  go_wp2_with (go_at_call 74; go_must (refine (HA.out _ (HB.out _)).mono ?_; rintro e w1 ⟨rfl, hw1⟩))
  go_ret
  exact ⟨rfl, (HB.out _).trans (hw1.mono (HB.out _).size)⟩

set_option maxRecDepth 100000 in
set_option maxHeartbeats 1000000 in
theorem mayRise_yes {w0 : World} (h : TbV w0 tb cv iv kv rv xv T) (at0 : Nat) (nm : ByteArray) (hk : T.key ≤ (at0 : Int)) (hc : T.co[at0]? = some (nm, 2)) (w : World) (hb0 : Below w0.heap.size w0 w) :
    Calls Tryz.prog 64 #[.pointer (some ⟨tb, 0, none⟩), .int .i64 (at0 : Int)] w fun e w' => e = .returned (.bool true) ∧ w' = w := by
  have c1 := cell_below h.cells.c1 hb0
  have c2 := cell_below h.cells.c2 hb0
  obtain ⟨ta, tc, rfl, t1, t2, t3⟩ := h.tab.1.colsC
  obtain ⟨b, off, rfl, hbl, q0, q1⟩ := t3 w hb0 at0 _ hc
  have hlt := (List.getElem?_eq_some_iff.1 hc).1
  obtain ⟨TN, hTN⟩ : ∃ N, T.co.length = N := ⟨_, rfl⟩
  obtain ⟨K, hK⟩ : ∃ K, T.key = K := ⟨_, rfl⟩
  rw [hTN] at c1 hlt t1
  rw [hK] at c2 hk
  have hlI : (at0 : Int) < (TN : Int) := by omega
  dsimp only at q1
  unfold maxLen at t2
  clear h t3 hc hTN hK hb0
  go_enter Tryz.func64, Tryz.ntmps64
  go_wp2_with fail
  go_ret
  exact ⟨rfl, rfl⟩

theorem limit_yes (n : Int) (h1 : 1 ≤ n) (h2 : n ≤ 4096) (w : World) : Calls Tryz.prog 61 #[.int .i64 n] w fun e w' => e = .returned (.bool true) ∧ w' = w := by
  go_enter Tryz.func61, Tryz.ntmps61
  go_wp2_with fail
  go_ret
  exact ⟨rfl, rfl⟩

theorem keyOf_any {w0 : World} (h : TbV w0 tb cv iv kv rv xv T) {a : Option Addr} {N c : Nat} {row : List V} (hr : SliceAt w0 (.slice a N c) 4 enV row) (K : Nat) (hK : T.key = (K : Int)) (hKN : K ≤ N) (w : World) (hb0 : Below w0.heap.size w0 w) :
    Calls Tryz.prog 59 #[.pointer (some ⟨tb, 0, none⟩), .slice a N c] w fun e w' => e = .returned (.slice a K c) ∧ w' = w := by
  have c2 := cell_below h.cells.c2 hb0
  rw [hK] at c2
  have hcut := (cut_key hr hKN).1
  clear h hr hb0
  go_enter Tryz.func59, Tryz.ntmps59
  go_wp2_with fail
  go_ret
  exact ⟨rfl, rfl⟩

theorem run0_le (cols : List Nat) (vals : List V) : ∀ (R : List (List V)) (m : Nat), run0 cols vals R m ≤ m ∧ run0 cols vals R m ≤ R.length
  | [], m => ⟨Nat.zero_le _, Nat.zero_le _⟩
  | r :: R, 0 => ⟨Nat.zero_le _, Nat.zero_le _⟩
  | r :: R, m + 1 => by
    have := run0_le cols vals R m
    unfold run0
    split
    · simp; omega
    · simp

/-- a row or none -/
def optV : Option Rw → Value
  | none => .slice none 0 0
  | some r => r.val
/-- the row of a key -/
def rowOf (cols : List Nat) (R : List Rw) (key : List V) : Option Rw := if begN cols (cont R) key 1 = 0 then none else R[plc cols (cont R) key]?
theorem begL_len (cols : List Nat) (R : List Rw) (vals : List V) (most : Nat) : (begL cols R vals most).length = begN cols (cont R) vals most := by
  unfold begL
  rw [List.length_take, List.length_drop]
  have := (run0_le cols vals ((cont R).drop (plc cols (cont R) vals)) most).2
  unfold begN
  rw [List.length_drop, cont_length] at this
  omega

set_option maxRecDepth 100000 in
set_option maxHeartbeats 1000000 in
theorem rowOf_any {w0 : World} {R : List Rw} (h : TbV w0 tb cv iv kv rv xv T) (hL : LAt w0 tb 4 kv rv cols R) (hv : SliceAt w0 valv 4 enV vals) (hl : vals.length ≤ cols.length) (ov : ∀ x ∈ vals, OkV x) (hm : Mono cols (cont R) vals) (w : World) (hb : Below w0.heap.size w0 w) :
    Calls Tryz.prog 58 #[.pointer (some ⟨tb, 0, none⟩), valv] w fun e w' => e = .returned (optV (rowOf cols R vals)) ∧ Below w.heap.size w w' := by
  have HBg : Hid (Calls Tryz.prog 55 #[.pointer (some ⟨tb, 4, none⟩), valv, .int .i64 ((1 : Nat) : Int)] w (BegR rv cols R vals 1 w)) := beginWith_any hL hv hl ov hm 1 (by omega) w hb
  have hK1 := (run0_le cols vals ((cont R).drop (plc cols (cont R) vals)) 1).1
  have hlen := begL_len cols R vals 1
  have htl : tb < w.heap.size := Nat.lt_of_lt_of_le (lt_of h.st) hb.size
  have HG : Hid (∀ r, (begL cols R vals 1)[0]? = some r → R[plc cols (cont R) vals]? = some r) := fun r hr => by
    unfold begL at hr
    rw [List.getElem?_take] at hr
    split at hr
    · rw [List.getElem?_drop, Nat.add_zero] at hr; exact hr
    · cases hr
  unfold BegR at HBg
  unfold rowOf
  change begN cols (cont R) vals 1 ≤ 1 at hK1
  obtain ⟨K, hK⟩ : ∃ K, begN cols (cont R) vals 1 = K := ⟨_, rfl⟩
  rw [hK] at HBg hK1 hlen ⊢
  obtain ⟨va, vc, rfl, -⟩ := hv.vals
  obtain ⟨VN, hVN⟩ : ∃ N, vals.length = N := ⟨_, rfl⟩
  rw [hVN] at HBg ⊢
  have HLen : Hid ((begL cols R vals 1).length = K) := hlen
  clear h hL hv hl ov hm hK hlen hVN hb
  by_cases hz : K = 0
  · subst hz
    rw [if_pos rfl]
    unfold optV
    go_enter Tryz.func58, Tryz.ntmps58
    go_wp2_with (go_at_call 55; go_must (refine HBg.out.mono ?_; rintro e w1 ⟨a, c, rfl, hs, hw1⟩))
    go_ret
    exact ⟨rfl, hw1⟩
  · obtain rfl : K = 1 := by omega
    rw [if_neg hz]
    obtain ⟨r, hr⟩ : ∃ r, (begL cols R vals 1)[0]? = some r := ⟨_, List.getElem?_eq_getElem (by rw [HLen.out]; omega)⟩
    have hR := HG.out r hr
    rw [hR]
    unfold optV Rw.val
    have HR0 : Hid ((begL cols R vals 1)[0]? = some r) := hr
    obtain ⟨rg, rc, rvs⟩ := r
    dsimp only
    obtain ⟨M, hM⟩ : ∃ M, rvs.length = M := ⟨_, rfl⟩
    have HM : Hid (rvs.length = M) := hM
    rw [hM]
    clear hr hR HG hM
    go_enter Tryz.func58, Tryz.ntmps58
    go_wp2_with fail
    refine HBg.out.mono ?_
    rintro e w1 ⟨a, c, rfl, hs, hw1⟩
    have HB1 : Hid (Below w.heap.size w w1) := hw1
    obtain ⟨a', c', e, g1, g2, g3⟩ := hs.1.rows
    rw [HLen.out] at e g1
    cases e
    obtain ⟨b, off, rfl, hbl, q0⟩ := g3 w1 (Below.refl _ _) 0 _ HR0.out
    unfold Rw.val at q0
    dsimp only at q0
    rw [HM.out, Nat.add_zero] at q0
    unfold maxLen at g2
    clear hs g3 hw1
    go_wp2_with fail
    go_ret
    exact ⟨rfl, HB1.out⟩
end

end Go.Proofs.YtfddmibaojfalaaGreat
