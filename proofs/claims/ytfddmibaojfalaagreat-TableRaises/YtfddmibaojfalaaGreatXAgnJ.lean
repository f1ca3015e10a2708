import Derived.Test.YtfddmibaojfalaaGreatXCmpVJ
import Derived.WalkMore
/- A row against values, by columns: the program's against. -/
namespace Go.Proofs.YtfddmibaojfalaaGreat
open Go.RowKit

def enN (c : Nat) : List Value := [.int .i64 (c : Int)]
theorem cell_lt {w : World} {b i : Nat} {v : Value} (h : w.cell? ⟨b, i, none⟩ = some v) : b < w.heap.size := by
  unfold World.cell? at h
  cases hh : w.heap[b]? with
  | none => simp [hh] at h
  | some o => exact lt_of hh
theorem cell_below {w u : World} {b i : Nat} {v : Value} (h : w.cell? ⟨b, i, none⟩ = some v) (hu : Below w.heap.size w u) : u.cell? ⟨b, i, none⟩ = some v := (hu.cell (p := ⟨b, i, none⟩) (cell_lt h)).trans h
/-- the cells of a slice of numbers -/
theorem SliceAt.nums {w : World} {v : Value} {L : List Nat} (h : SliceAt w v 1 enN L) : ∃ a c, v = .slice a L.length c ∧ L.length ≤ c ∧ c ≤ maxLen ∧ ∀ u, Below w.heap.size w u → ∀ (i y : Nat), L[i]? = some y → ∃ b off, a = some ⟨b, off, none⟩ ∧ b < u.heap.size ∧ u.cell? ⟨b, off + i, none⟩ = some (.int .i64 (y : Int)) := by
  obtain ⟨a, c, rfl, h1, h2, h3⟩ := h.opened
  refine ⟨a, c, rfl, h1, h2, fun u hu i y hy => ?_⟩
  obtain ⟨hi, rfl⟩ := List.getElem?_eq_some_iff.1 hy
  obtain ⟨b, off, e, hl, hc⟩ := h3 u hu i hi
  have := hc 0 _ rfl
  rw [Nat.mul_one] at this
  exact ⟨b, off, e, Nat.lt_of_lt_of_le hl hu.size, this⟩

theorem agn_step {cols : List Nat} {row vals : List V} {i c : Nat} {x y : V} (hc : cols[i]? = some c) (hy : vals[i]? = some y) (hx : row[c]? = some x) :
    agn (cols.drop i) row (vals.drop i) = if cmpV x y = 0 then agn (cols.drop (i + 1)) row (vals.drop (i + 1)) else cmpV x y := by
  obtain ⟨h1, rfl⟩ := List.getElem?_eq_some_iff.1 hc
  obtain ⟨h2, rfl⟩ := List.getElem?_eq_some_iff.1 hy
  rw [List.drop_eq_getElem_cons h1, List.drop_eq_getElem_cons h2]
  simp only [agn, at_, hx, Option.getD_some]
theorem agn_nil (cols : List Nat) (row : List V) : agn cols row [] = 0 := by cases cols <;> rfl

set_option linter.unusedSimpArgs false in
set_option maxRecDepth 100000 in
set_option maxHeartbeats 2000000 in
theorem against_any (lb lo : Nat) (cv rowv valv : Value) (cols : List Nat) (row vals : List V) (w w0 : World) (hb0 : Below w0.heap.size w0 w)
    (c0 : w0.cell? ⟨lb, lo, none⟩ = some cv) (cs : SliceAt w0 cv 1 enN cols) (hr : SliceAt w0 rowv 4 enV row) (hv : SliceAt w0 valv 4 enV vals)
    (hl : vals.length ≤ cols.length) (hc : ∀ c ∈ cols, c < row.length) (or : ∀ x ∈ row, OkV x) (ov : ∀ x ∈ vals, OkV x) :
    Calls Tryz.prog 68 #[.pointer (some ⟨lb, lo, none⟩), rowv, valv] w fun e w' => e = .returned (.int .i64 (agn cols row vals)) ∧ Below w.heap.size w w' := by
  obtain ⟨ca, cc, rfl, s1, s2, s3⟩ := cs.nums
  obtain ⟨ra, rc, rfl, t1, t2, t3⟩ := hr.vals
  obtain ⟨va, vc, rfl, u1, u2, u3⟩ := hv.vals
  have HU : Hid (∀ u, Below w.heap.size w u → Below w0.heap.size w0 u) := fun u hu => hb0.trans (hu.mono hb0.size)
  have HC0 : Hid (∀ u, Below w.heap.size w u → u.cell? ⟨lb, lo, none⟩ = some (.slice ca cols.length cc)) := fun u hu => cell_below c0 (HU.out u hu)
  have HCs : Hid (∀ u, Below w.heap.size w u → ∀ (i y : Nat), cols[i]? = some y → ∃ b off, ca = some ⟨b, off, none⟩ ∧ b < u.heap.size ∧ u.cell? ⟨b, off + i, none⟩ = some (.int .i64 (y : Int))) := fun u hu => s3 u (HU.out u hu)
  have HR : Hid (∀ u, Below w.heap.size w u → ∀ (i : Nat) (y : V), row[i]? = some y → ∃ b off, ra = some ⟨b, off, none⟩ ∧ b < u.heap.size ∧ u.cell? ⟨b, off + i * 4, none⟩ = some (.int .i64 y.k) ∧ u.cell? ⟨b, off + i * 4 + 1, none⟩ = some (.int .i64 y.n) ∧ u.cell? ⟨b, off + i * 4 + 2, none⟩ = some (.complex .f64 0 0) ∧ u.cell? ⟨b, off + i * 4 + 3, none⟩ = some (.string y.s)) := fun u hu => t3 u (HU.out u hu)
  have HV : Hid (∀ u, Below w.heap.size w u → ∀ (i : Nat) (y : V), vals[i]? = some y → ∃ b off, va = some ⟨b, off, none⟩ ∧ b < u.heap.size ∧ u.cell? ⟨b, off + i * 4, none⟩ = some (.int .i64 y.k) ∧ u.cell? ⟨b, off + i * 4 + 1, none⟩ = some (.int .i64 y.n) ∧ u.cell? ⟨b, off + i * 4 + 2, none⟩ = some (.complex .f64 0 0) ∧ u.cell? ⟨b, off + i * 4 + 3, none⟩ = some (.string y.s)) := fun u hu => u3 u (HU.out u hu)
  have HCmp : Hid (∀ (i j : Nat) (x y : V), row[i]? = some x → vals[j]? = some y → ∀ u, Calls Tryz.prog 84 #[vagg x.k x.n x.s, vagg y.k y.n y.s] u fun e w' => e = .returned (.int .i64 (cmpV x y)) ∧ Below u.heap.size u w') := fun i j x y hx hy u => compare_any x y u (or x (List.mem_of_getElem? hx)) (ov y (List.mem_of_getElem? hy))
  obtain ⟨CN, hCN⟩ : ∃ N, cols.length = N := ⟨_, rfl⟩
  obtain ⟨RN, hRN⟩ : ∃ N, row.length = N := ⟨_, rfl⟩
  obtain ⟨N, hN⟩ : ∃ N, vals.length = N := ⟨_, rfl⟩
  have HLc : Hid (cols.length = CN) := hCN
  have HLr : Hid (row.length = RN) := hRN
  have HLv : Hid (vals.length = N) := hN
  have HIn : Hid (∀ c ∈ cols, c < RN) := fun c h => hRN ▸ hc c h
  have HEnd : Hid (agn (cols.drop N) row (vals.drop N) = 0) := by show _ = _; rw [← hN, List.drop_length]; exact agn_nil _ _
  unfold maxLen at s2 t2 u2
  rw [hCN] at s1 HC0 hl
  rw [hRN] at t1 ⊢
  rw [hN] at u1 hl ⊢
  obtain ⟨E, hE⟩ : ∃ E, agn cols row vals = E := ⟨_, rfl⟩
  have HE : Hid (agn (cols.drop 0) row (vals.drop 0) = E) := by show _ = _; rw [← hE]; rfl
  rw [hE]
  have hsl := @store_law
  clear cs hr hv s3 t3 u3 hCN hRN hN c0 hb0 hc or ov hE
  go_enter Tryz.func68, Tryz.ntmps68
  go_wp2_with fail
  go_loopw [12] (fun v wr => ∃ i : Nat, i ≤ N ∧ v = .int .i64 i ∧ Hid (Below w.heap.size w wr) ∧ Hid (agn (cols.drop i) row (vals.drop i) = E)) (fun v _ => N - (intOf v).toNat)
  case atStart => exact ⟨0, Nat.zero_le _, rfl, Below.refl _ _, HE⟩
  case round =>
    obtain ⟨i, hi, rfl, HB, HI⟩ := hrel
    by_cases hlt : i < N
    · obtain ⟨y, hy⟩ : ∃ y, vals[i]? = some y := ⟨_, List.getElem?_eq_getElem (by rw [HLv.out]; exact hlt)⟩
      obtain ⟨c, hcc⟩ : ∃ c, cols[i]? = some c := ⟨_, List.getElem?_eq_getElem (by rw [HLc.out]; omega)⟩
      have hcR : c < RN := HIn.out c (List.mem_of_getElem? hcc)
      obtain ⟨x, hx⟩ : ∃ x, row[c]? = some x := ⟨_, List.getElem?_eq_getElem (by rw [HLr.out]; exact hcR)⟩
      obtain ⟨vb, vo, rfl, hvl, q0, q1, q2, q3⟩ := HV.out wr HB.out i y hy
      have HK : Hid (∀ u, Calls Tryz.prog 84 #[vagg x.k x.n x.s, vagg y.k y.n y.s] u fun e w' => e = .returned (.int .i64 (cmpV x y)) ∧ Below u.heap.size u w') := HCmp.out c i x y hx hy
      have HS : Hid (agn (cols.drop i) row (vals.drop i) = if cmpV x y = 0 then agn (cols.drop (i + 1)) row (vals.drop (i + 1)) else cmpV x y) := agn_step hcc hy hx
      obtain ⟨r, hr⟩ : ∃ r, cmpV x y = r := ⟨_, rfl⟩
      rw [hr] at HK HS
      have hb1 : Below wr.heap.size wr (wr.alloc (vobj y.k y.n y.s)) := (Below.refl _ _).alloc (Nat.le_refl _) _
      have HB1 : Hid (Below w.heap.size w (wr.alloc (vobj y.k y.n y.s))) := HB.out.trans (hb1.mono HB.out.size)
      obtain ⟨cb, co, rfl, hcl, p0⟩ := HCs.out _ HB1.out i c hcc
      obtain ⟨rb, ro, rfl, hrl, r0, r1, r2, r3⟩ := HR.out _ HB1.out c x hx
      have d0 := HC0.out _ HB1.out
      obtain ⟨x0, x1, x2, x3⟩ := boxV_of (heap_new wr (vobj y.k y.n y.s))
      obtain ⟨k, n, s⟩ := x
      obtain ⟨k', n', s'⟩ := y
      dsimp only at q0 q1 q3 r0 r1 r3 HK x0 x1 x3 d0 p0 r2 hcl hrl x2 HB1
      obtain ⟨W, hW⟩ : ∃ W, wr.alloc (vobj k' n' s') = W := ⟨_, rfl⟩
      obtain ⟨xb, hxb⟩ : ∃ xb, wr.heap.size = xb := ⟨_, rfl⟩
      rw [hW] at HB1 p0 r0 r1 r2 r3 d0 x0 x1 x2 x3 hcl hrl
      rw [hxb] at x0 x1 x2 x3
      have hlI : (i : Int) < (N : Int) := by omega
      have hlC : (i : Int) < (CN : Int) := by omega
      have hlR : (c : Int) < (RN : Int) := by omega
      clear hb1 hr hy hcc hx HCmp HR HV HCs HC0
      have HS10 : Hid (∀ u, Below W.heap.size W u → u.cell? ⟨lb, lo, none⟩ = some (.slice (some ⟨cb, co, none⟩) CN cc) ∧ u.cell? ⟨cb, co + i, none⟩ = some (.int .i64 (c : Int)) ∧ u.cell? ⟨rb, ro + c * 4, none⟩ = some (.int .i64 k) ∧ u.cell? ⟨rb, ro + c * 4 + 1, none⟩ = some (.int .i64 n) ∧ u.cell? ⟨rb, ro + c * 4 + 2, none⟩ = some (.complex .f64 0 0) ∧ u.cell? ⟨rb, ro + c * 4 + 3, none⟩ = some (.string s) ∧ u.cell? ⟨xb, 0, none⟩ = some (.int .i64 k') ∧ u.cell? ⟨xb, 1, none⟩ = some (.int .i64 n') ∧ u.cell? ⟨xb, 2, none⟩ = some (.complex .f64 0 0) ∧ u.cell? ⟨xb, 3, none⟩ = some (.string s')) := fun u hu => ⟨cell_below d0 hu, cell_below p0 hu, cell_below r0 hu, cell_below r1 hu, cell_below r2 hu, cell_below r3 hu, cell_below x0 hu, cell_below x1 hu, cell_below x2 hu, cell_below x3 hu⟩
      by_cases gr : r = 0
      · subst gr
        have HS' : Hid (agn (cols.drop (i + 1)) row (vals.drop (i + 1)) = E) := by show _ = _; rw [← HI.out, HS.out, if_pos rfl]
        go_wp2_with fail
        go_region_held3 (fun u => u.cell? ⟨lb, lo, none⟩ = some (.slice (some ⟨cb, co, none⟩) CN cc) ∧ u.cell? ⟨cb, co + i, none⟩ = some (.int .i64 (c : Int)) ∧ u.cell? ⟨rb, ro + c * 4, none⟩ = some (.int .i64 k) ∧ u.cell? ⟨rb, ro + c * 4 + 1, none⟩ = some (.int .i64 n) ∧ u.cell? ⟨rb, ro + c * 4 + 2, none⟩ = some (.complex .f64 0 0) ∧ u.cell? ⟨rb, ro + c * 4 + 3, none⟩ = some (.string s) ∧ u.cell? ⟨xb, 0, none⟩ = some (.int .i64 k') ∧ u.cell? ⟨xb, 1, none⟩ = some (.int .i64 n') ∧ u.cell? ⟨xb, 2, none⟩ = some (.complex .f64 0 0) ∧ u.cell? ⟨xb, 3, none⟩ = some (.string s')) (go_keep) (first | (go_at_call 84; refine (HK.out _).mono ?_; rintro e w3 ⟨rfl, h3⟩; obtain ⟨e0, e1, e2, e3, e4, e5, e6, e7, e8, e9⟩ := HS10.out w3 ((bl_drew (Below.refl _ W)).trans h3)))
        have HB3 : Hid (Below w.heap.size w w3) := HB1.out.trans (((bl_drew (Below.refl _ W)).trans h3).mono HB1.out.size)
        clear h3
        go_wp2_with fail
        go_roundw
        case rel => exact ⟨i + 1, by omega, by go_num, HB3, HS'⟩
        case measure => simp [intOf]; omega
      · have gr' : (r != 0) = true := by simpa using gr
        have HS' : Hid (E = r) := by show _ = _; rw [← HI.out, HS.out, if_neg gr]
        go_wp2_with fail
        go_region_held3 (fun u => u.cell? ⟨lb, lo, none⟩ = some (.slice (some ⟨cb, co, none⟩) CN cc) ∧ u.cell? ⟨cb, co + i, none⟩ = some (.int .i64 (c : Int)) ∧ u.cell? ⟨rb, ro + c * 4, none⟩ = some (.int .i64 k) ∧ u.cell? ⟨rb, ro + c * 4 + 1, none⟩ = some (.int .i64 n) ∧ u.cell? ⟨rb, ro + c * 4 + 2, none⟩ = some (.complex .f64 0 0) ∧ u.cell? ⟨rb, ro + c * 4 + 3, none⟩ = some (.string s) ∧ u.cell? ⟨xb, 0, none⟩ = some (.int .i64 k') ∧ u.cell? ⟨xb, 1, none⟩ = some (.int .i64 n') ∧ u.cell? ⟨xb, 2, none⟩ = some (.complex .f64 0 0) ∧ u.cell? ⟨xb, 3, none⟩ = some (.string s')) (go_keep) (first | (go_at_call 84; refine (HK.out _).mono ?_; rintro e w3 ⟨rfl, h3⟩; obtain ⟨e0, e1, e2, e3, e4, e5, e6, e7, e8, e9⟩ := HS10.out w3 ((bl_drew (Below.refl _ W)).trans h3)))
        have HB3 : Hid (Below w.heap.size w w3) := HB1.out.trans (((bl_drew (Below.refl _ W)).trans h3).mono HB1.out.size)
        clear h3
        go_wp2_with fail
        go_ret
        exact ⟨ret_int HS'.out.symm, HB3.out⟩
    · obtain rfl : i = N := by omega
      have hlI : ¬ (i : Int) < (i : Int) := by omega
      have HZ : Hid (E = 0) := by show _ = _; rw [← HI.out]; exact HEnd.out
      go_wp2_with fail
      go_ret
      exact ⟨ret_int HZ.out.symm, HB.out⟩

end Go.Proofs.YtfddmibaojfalaaGreat

/- Where values belong in a list of rows: the program's place. -/
namespace Go.Proofs.YtfddmibaojfalaaGreat
open Go.RowKit

/-- a row that is kept: its block, its room, what it holds -/
structure Rw where
  g : Nat
  c : Nat
  vs : List V
def Rw.val (r : Rw) : Value := .slice (some ⟨r.g, 0, none⟩) r.vs.length r.c
def enR (r : Rw) : List Value := [r.val]
/-- what the rows hold -/
def cont (R : List Rw) : List (List V) := R.map Rw.vs
theorem cont_length (R : List Rw) : (cont R).length = R.length := by simp [cont]
theorem cont_get {R : List Rw} {i : Nat} {r : Rw} (h : R[i]? = some r) : (cont R)[i]? = some r.vs := by simp [cont, h]

def RowOk (w : World) (r : Rw) : Prop := SliceAt w r.val 4 enV r.vs ∧ ∀ x ∈ r.vs, OkV x
theorem RowOk.below {w u : World} {r : Rw} (h : RowOk w r) (hu : Below w.heap.size w u) : RowOk u r := ⟨h.1.below hu, h.2⟩

/-- a list of rows, where it lies: its two cells, its columns, its rows -/
structure LAt (w : World) (lb lo : Nat) (cv rv : Value) (cols : List Nat) (R : List Rw) : Prop where
  c0 : w.cell? ⟨lb, lo, none⟩ = some cv
  c1 : w.cell? ⟨lb, lo + 1, none⟩ = some rv
  cs : SliceAt w cv 1 enN cols
  rs : SliceAt w rv 1 enR R
  ro : ∀ r ∈ R, RowOk w r ∧ ∀ c ∈ cols, c < r.vs.length
  few : R.length ≤ 5000
theorem LAt.below {w u : World} {lb lo : Nat} {cv rv : Value} {cols : List Nat} {R : List Rw} (h : LAt w lb lo cv rv cols R) (hu : Below w.heap.size w u) : LAt u lb lo cv rv cols R :=
  ⟨cell_below h.c0 hu, cell_below h.c1 hu, h.cs.below hu, h.rs.below hu, fun r hr => ⟨(h.ro r hr).1.below hu, (h.ro r hr).2⟩, h.few⟩

/-- the cells of a slice of rows -/
theorem SliceAt.rows {w : World} {v : Value} {L : List Rw} (h : SliceAt w v 1 enR L) : ∃ a c, v = .slice a L.length c ∧ L.length ≤ c ∧ c ≤ maxLen ∧ ∀ u, Below w.heap.size w u → ∀ (i : Nat) (y : Rw), L[i]? = some y → ∃ b off, a = some ⟨b, off, none⟩ ∧ b < u.heap.size ∧ u.cell? ⟨b, off + i, none⟩ = some y.val := by
  obtain ⟨a, c, rfl, h1, h2, h3⟩ := h.opened
  refine ⟨a, c, rfl, h1, h2, fun u hu i y hy => ?_⟩
  obtain ⟨hi, rfl⟩ := List.getElem?_eq_some_iff.1 hy
  obtain ⟨b, off, e, hl, hc⟩ := h3 u hu i hi
  have := hc 0 _ rfl
  rw [Nat.mul_one] at this
  exact ⟨b, off, e, Nat.lt_of_lt_of_le hl hu.size, this⟩

section
variable {lb lo : Nat} {cv rv valv : Value} {cols : List Nat} {R : List Rw} {vals : List V}

set_option linter.unusedSimpArgs false in
set_option maxRecDepth 100000 in
set_option maxHeartbeats 2000000 in
theorem place1_any {w0 : World} (h : LAt w0 lb lo cv rv cols R) (hv : SliceAt w0 valv 4 enV vals) (hl : vals.length ≤ cols.length) (ov : ∀ x ∈ vals, OkV x) {j : Nat} {r : Rw} (hj : R[j]? = some r) (w : World) (hb : Below w0.heap.size w0 w) {p1 p2 : Nat} (i1 : w.cell? ⟨p1, 0, none⟩ = some (.pointer (some ⟨lb, lo, none⟩))) (i2 : w.cell? ⟨p2, 0, none⟩ = some valv) :
    Calls Tryz.prog 67 #[.int .i64 (j : Int), .pointer (some ⟨p1, 0, none⟩), .pointer (some ⟨p2, 0, none⟩)] w fun e w' => e = .returned (.bool (decide (0 ≤ agn cols r.vs vals))) ∧ Below w.heap.size w w' := by
  have HA : Hid (∀ u, Below w.heap.size w u → Calls Tryz.prog 68 #[.pointer (some ⟨lb, lo, none⟩), .slice (some ⟨r.g, 0, none⟩) r.vs.length r.c, valv] u fun e w' => e = .returned (.int .i64 (agn cols r.vs vals)) ∧ Below u.heap.size u w') := fun u hu =>
    against_any lb lo cv r.val valv cols r.vs vals u w0 (hb.trans (hu.mono hb.size)) h.c0 h.cs (h.ro r (List.mem_of_getElem? hj)).1.1 hv hl (h.ro r (List.mem_of_getElem? hj)).2 (h.ro r (List.mem_of_getElem? hj)).1.2 ov
  obtain ⟨va, vc, rfl, -⟩ := hv.vals
  obtain ⟨a, c, rfl, h1, h2, h3⟩ := h.rs.rows
  have c1 := cell_below h.c1 hb
  obtain ⟨rb, ro, rfl, hrl, hrc⟩ := h3 w hb j r hj
  have hjl := (List.getElem?_eq_some_iff.1 hj).1
  have hf := h.few
  obtain ⟨N, hN⟩ : ∃ N, R.length = N := ⟨_, rfl⟩
  rw [hN] at c1 hjl h1 hf
  obtain ⟨VN, hVN⟩ : ∃ N, vals.length = N := ⟨_, rfl⟩
  rw [hVN] at i2 HA
  obtain ⟨E, hE⟩ : ∃ E, agn cols r.vs vals = E := ⟨_, rfl⟩
  rw [hE] at HA ⊢
  obtain ⟨g, rc, vs⟩ := r
  unfold Rw.val at hrc
  dsimp only at HA hrc
  obtain ⟨M, hM⟩ : ∃ M, vs.length = M := ⟨_, rfl⟩
  rw [hM] at HA hrc
  have HS : Hid (∀ u, Below w.heap.size w u → u.cell? ⟨p1, 0, none⟩ = some (.pointer (some ⟨lb, lo, none⟩)) ∧ u.cell? ⟨p2, 0, none⟩ = some (.slice va VN vc) ∧ u.cell? ⟨lb, lo + 1, none⟩ = some (.slice (some ⟨rb, ro, none⟩) N c) ∧ u.cell? ⟨rb, ro + j, none⟩ = some (.slice (some ⟨g, 0, none⟩) M rc)) := fun u hu => ⟨cell_below i1 hu, cell_below i2 hu, cell_below c1 hu, cell_below hrc hu⟩
  have hjI : (j : Int) < (N : Int) := by omega
  unfold maxLen at h2
  clear h h3 hv hl ov hj hN hVN hE hM
  go_enter Tryz.func67, Tryz.ntmps67
  go_wp2_with fail
  go_region_held3 (fun u => u.cell? ⟨p1, 0, none⟩ = some (.pointer (some ⟨lb, lo, none⟩)) ∧ u.cell? ⟨p2, 0, none⟩ = some (.slice va VN vc) ∧ u.cell? ⟨lb, lo + 1, none⟩ = some (.slice (some ⟨rb, ro, none⟩) N c) ∧ u.cell? ⟨rb, ro + j, none⟩ = some (.slice (some ⟨g, 0, none⟩) M rc)) (go_keep)
    (first | (go_at_call 68; refine (HA.out _ (bl_drew (Below.refl _ w))).mono ?_; rintro e w3 ⟨rfl, k3⟩; obtain ⟨e0, e1, e2, e3⟩ := HS.out w3 ((bl_drew (Below.refl _ w)).trans k3)))
  have HB3 : Hid (Below w.heap.size w w3) := (bl_drew (Below.refl _ w)).trans k3
  clear k3
  go_wp2_with fail
  go_ret
  exact ⟨rfl, HB3.out⟩

set_option maxRecDepth 100000 in
set_option maxHeartbeats 1000000 in
theorem search_at {w0 : World} (h : LAt w0 lb lo cv rv cols R) (hv : SliceAt w0 valv 4 enV vals) (hl : vals.length ≤ cols.length) (ov : ∀ x ∈ vals, OkV x) (hm : Mono cols (cont R) vals) (w : World) (hb : Below w0.heap.size w0 w) {p1 p2 : Nat} (i1 : w.cell? ⟨p1, 0, none⟩ = some (.pointer (some ⟨lb, lo, none⟩))) (i2 : w.cell? ⟨p2, 0, none⟩ = some valv) :
    Calls Tryz.prog 66 #[.int .i64 (R.length : Int), .func (.func 67) #[] #[.pointer (some ⟨p1, 0, none⟩), .pointer (some ⟨p2, 0, none⟩)]] w fun e w' => e = .returned (.int .i64 ((plc cols (cont R) vals : Nat) : Int)) ∧ Below w.heap.size w w' := by
  have hp := plc_le cols (cont R) vals
  rw [cont_length] at hp
  have HF : Hid (∀ (j : Nat) (u : World), j < R.length → Below w.heap.size w u → Calls Tryz.prog 67 #[.int .i64 (j : Int), .pointer (some ⟨p1, 0, none⟩), .pointer (some ⟨p2, 0, none⟩)] u fun e w' => e = .returned (.bool (decide (plc cols (cont R) vals ≤ j))) ∧ Below u.heap.size u w') := fun j u hj hu => by
    have hj' : R[j]? = some R[j] := List.getElem?_eq_getElem hj
    have h2 := place1_any h hv hl ov hj' u (hb.trans (hu.mono hb.size)) (cell_below i1 hu) (cell_below i2 hu)
    have e : decide (0 ≤ agn cols R[j].vs vals) = decide (plc cols (cont R) vals ≤ j) := by
      by_cases q : plc cols (cont R) vals ≤ j
      · rw [decide_eq_true q, decide_eq_true (hm j _ (cont_get hj') q)]
      · rw [decide_eq_false q, decide_eq_false (by have := plc_ahead (cols := cols) (vals := vals) (cont_get hj') (by omega); omega)]
    rw [e] at h2
    exact h2
  have hf := h.few
  obtain ⟨N, hN⟩ : ∃ N, R.length = N := ⟨_, rfl⟩
  obtain ⟨a, ha⟩ : ∃ a, plc cols (cont R) vals = a := ⟨_, rfl⟩
  rw [hN] at HF hf hp ⊢
  rw [ha] at HF hp ⊢
  clear h hv hl ov hm i1 i2 hN ha hb
  go_enter Tryz.func66, Tryz.ntmps66
  go_wp2_with fail
  go_loopw [5, 6] (fun v u wr => ∃ i j : Nat, i ≤ a ∧ a ≤ j ∧ j ≤ N ∧ v = .int .i64 i ∧ u = .int .i64 j ∧ Hid (Below w.heap.size w wr)) (fun v u _ => (intOf u).toNat - (intOf v).toNat)
  case atStart => exact ⟨0, N, by omega, hp, Nat.le_refl _, rfl, rfl, Below.refl _ _⟩
  case round =>
    obtain ⟨i, j, h1, h2, h3, rfl, rfl, HB⟩ := hrel
    by_cases hlt : i < j
    · have hI : (i : Int) < (j : Int) := by omega
      obtain ⟨x, hx⟩ : ∃ x : Nat, (i + j) / 2 = x := ⟨_, rfl⟩
      have hx1 : i ≤ x := by omega
      have hx2 : x < j := by omega
      have HC : Hid (∀ v : Bool, decide (a ≤ x) = v → Calls Tryz.prog 67 #[.int .i64 (x : Int), .pointer (some ⟨p1, 0, none⟩), .pointer (some ⟨p2, 0, none⟩)] wr fun e w' => e = .returned (.bool v) ∧ Below wr.heap.size wr w') := fun v hv => hv ▸ HF.out x wr (by omega) HB.out
      have e1 : IntKind.i64.wrap ((i : Int) + (j : Int)) = (i : Int) + (j : Int) := by rw [IntKind.wrap_i64]; omega
      have e2 : ((i : Int) + (j : Int)) / 2 = (x : Int) := by omega
      by_cases hax : a ≤ x
      · go_wp2_with (go_at_call 67; go_must (refine (HC.out true (decide_eq_true hax)).mono ?_; rintro e w1 ⟨rfl, hw1⟩))
        go_roundw
        case rel => exact ⟨i, x, h1, by omega, by omega, rfl, rfl, HB.out.trans (hw1.mono HB.out.size)⟩
        case measure => simp [intOf]; omega
      · go_wp2_with (go_at_call 67; go_must (refine (HC.out false (decide_eq_false hax)).mono ?_; rintro e w1 ⟨rfl, hw1⟩))
        go_roundw
        case rel => exact ⟨x + 1, j, by omega, h2, h3, by go_num, rfl, HB.out.trans (hw1.mono HB.out.size)⟩
        case measure => simp [intOf]; omega
    · have hI : ¬ (i : Int) < (j : Int) := by omega
      obtain rfl : i = a := by omega
      go_wp2_with fail
      go_ret
      exact ⟨rfl, HB.out⟩

set_option maxRecDepth 100000 in
set_option maxHeartbeats 1000000 in
theorem place_any {w0 : World} (h : LAt w0 lb lo cv rv cols R) (hv : SliceAt w0 valv 4 enV vals) (hl : vals.length ≤ cols.length) (ov : ∀ x ∈ vals, OkV x) (hm : Mono cols (cont R) vals) (w : World) (hb : Below w0.heap.size w0 w) :
    Calls Tryz.prog 45 #[.pointer (some ⟨lb, lo, none⟩), valv] w fun e w' => e = .returned (.int .i64 ((plc cols (cont R) vals : Nat) : Int)) ∧ Below w.heap.size w w' := by
  obtain ⟨w2, hw2⟩ : ∃ w2, (w.alloc (.cells #[.pointer (some ⟨lb, lo, none⟩)] 107)).alloc (.cells #[valv] 37) = w2 := ⟨_, rfl⟩
  obtain ⟨xb, hxb⟩ : ∃ xb, w.heap.size = xb := ⟨_, rfl⟩
  have HB2 : Hid (Below w.heap.size w w2) := by show Below _ _ _; rw [← hw2]; exact bl_alloc ((Below.refl _ _).alloc (Nat.le_refl _) _) _
  have x1 : w2.heap[xb]? = some (.cells #[.pointer (some ⟨lb, lo, none⟩)] 107) := by rw [← hw2, ← hxb]; exact (Below.heap_alloc _ _ _ (by simp)).trans (heap_new w _)
  have x2 : w2.heap[xb + 1]? = some (.cells #[valv] 37) := by rw [← hw2, ← hxb]; have := heap_new (w.alloc (.cells #[.pointer (some ⟨lb, lo, none⟩)] 107)) (.cells #[valv] 37); rwa [World.size_alloc] at this
  have i1 : w2.cell? ⟨xb, 0, none⟩ = some (.pointer (some ⟨lb, lo, none⟩)) := by rw [cell_of x1]; rfl
  have i2 : w2.cell? ⟨xb + 1, 0, none⟩ = some valv := by rw [cell_of x2]; rfl
  have hb2 : Below w0.heap.size w0 w2 := hb.trans (HB2.out.mono hb.size)
  have HS : Hid (Calls Tryz.prog 66 #[.int .i64 (R.length : Int), .func (.func 67) #[] #[.pointer (some ⟨xb, 0, none⟩), .pointer (some ⟨xb + 1, 0, none⟩)]] w2 fun e w' => e = .returned (.int .i64 ((plc cols (cont R) vals : Nat) : Int)) ∧ Hid (Below w.heap.size w w')) := (search_at h hv hl ov hm w2 hb2 i1 i2).mono fun e w' ⟨e1, e2⟩ => ⟨e1, HB2.out.trans (e2.mono HB2.out.size)⟩
  have c1 := cell_below h.c1 hb2
  obtain ⟨va, vc, rfl, -⟩ := hv.vals
  obtain ⟨a, c, rfl, h1, h2, h3⟩ := h.rs.rows
  have hf := h.few
  obtain ⟨N, hN⟩ : ∃ N, R.length = N := ⟨_, rfl⟩
  obtain ⟨q, hq⟩ : ∃ a, plc cols (cont R) vals = a := ⟨_, rfl⟩
  rw [hN] at HS c1 hf
  rw [hq] at HS ⊢
  clear h hv hl ov hm h3 hN hq x1 x2 hb2
  go_enter Tryz.func45, Tryz.ntmps45
  go_wp2_with (go_at_call 66; go_must (refine HS.out.mono ?_; rintro e w3 ⟨rfl, k3⟩))
  go_ret
  exact ⟨rfl, k3.out⟩
end

end Go.Proofs.YtfddmibaojfalaaGreat

/- Rows that begin with values: the program's beginWith, rowOf, keyOf. -/
namespace Go.Proofs.YtfddmibaojfalaaGreat
open Go.RowKit

/-- how many rows from the front on begin with values, at most m -/
def run0 (cols : List Nat) (vals : List V) : List (List V) → Nat → Nat
  | r :: R, m + 1 => if agn cols r vals = 0 then run0 cols vals R m + 1 else 0
  | _, _ => 0
def begN (cols : List Nat) (R : List (List V)) (vals : List V) (most : Nat) : Nat := run0 cols vals (R.drop (plc cols R vals)) most
theorem run0_nil (cols : List Nat) (vals : List V) (m : Nat) : run0 cols vals [] m = 0 := rfl
theorem run0_zero (cols : List Nat) (vals : List V) (R : List (List V)) : run0 cols vals R 0 = 0 := by cases R <;> rfl
theorem run0_at {cols : List Nat} {vals : List V} {R : List (List V)} {t m : Nat} {r : List V} (h : R[t]? = some r) : run0 cols vals (R.drop t) (m + 1) = if agn cols r vals = 0 then run0 cols vals (R.drop (t + 1)) m + 1 else 0 := by
  obtain ⟨h1, rfl⟩ := List.getElem?_eq_some_iff.1 h
  rw [List.drop_eq_getElem_cons h1]
  rfl

set_option linter.unusedSimpArgs false in
/-- a part of a slice -/
theorem cut_rows {α : Type} {w : World} {a : Option Addr} {N c : Nat} {en : α → List Value} {L : List α} (h : SliceAt w (.slice a N c) 1 en L) {i j : Nat} (hi : i ≤ j) (hj : j ≤ N) :
    ∃ ad c', (∀ W : World, (Instr.slice 44 (.slice a N c) (some (.int .i64 (i : Int))) (some (.int .i64 (j : Int))) none).run Tryz.prog W = .ok (.slice ad (j - i) c') W) ∧ SliceAt w (.slice ad (j - i) c') 1 en ((L.drop i).take (j - i)) ∧ ∀ b, (Value.slice ad (j - i) c').ownBlock = some b → (Value.slice a N c).ownBlock = some b := by
  obtain ⟨a', c', e, h1, h2, h3⟩ := h
  cases e
  have hlen : ((L.drop i).take (j - i)).length = j - i := by rw [List.length_take, List.length_drop]; omega
  have b1 : (i : Int) ≤ (j : Int) := by omega
  have b2 : (j : Int) ≤ (c : Int) := by omega
  cases a with
  | none =>
    have hL : L = [] := by
      cases hq : L with
      | nil => rfl
      | cons x r => obtain ⟨b, off, e, _⟩ := h3 (by rw [hq]; simp); cases e
    have hj0 : j = 0 := by rw [hL] at hj; simpa using hj
    have hi0 : i = 0 := by omega
    refine ⟨none, c - i, fun W => ?_, ⟨none, c - i, by rw [hlen], by rw [hlen]; omega, by omega, fun hne => absurd (by rw [hL]; simp) hne⟩, fun b e => by cases e⟩
    simp [Instr.slice, run_underlying Tryz.underlying44, Instr.sliceBounds, run_sliceBound, b1, b2, Result.andThen]
  | some ad =>
    by_cases hc : c = i
    · have hz : j - i = 0 := by omega
      refine ⟨some ad, c - i, fun W => ?_, ⟨some ad, c - i, by rw [hlen], by rw [hlen]; omega, by omega, fun hne => absurd (List.length_eq_zero_iff.1 (by omega)) hne⟩, fun b e => e⟩
      subst hc
      obtain rfl : j = c := by omega
      simp [Instr.slice, run_underlying Tryz.underlying44, Instr.sliceBounds, run_sliceBound, Result.andThen]
    · refine ⟨some (ad.add i), c - i, fun W => ?_, ⟨some (ad.add i), c - i, by rw [hlen], by rw [hlen]; omega, by omega, fun hne => ?_⟩, fun b e => by unfold Addr.add at e; split at e <;> exact e⟩
      · simp [Instr.slice, run_underlying Tryz.underlying44, Instr.sliceBounds, run_sliceBound, b1, b2, Result.andThen, hc]
      · have hpos : 0 < j - i := by rw [← hlen]; exact List.length_pos_iff.2 hne
        obtain ⟨b, off, e, hl, hcs⟩ := h3 (fun e => by rw [e] at hj; simp at hj; omega)
        cases e
        refine ⟨b, off + i, by rw [Addr.add_lit], hl, fun k hk q u hu => ?_⟩
        rw [hlen] at hk
        rw [List.getElem_take, List.getElem_drop] at hu
        have := hcs (i + k) (by omega) q u hu
        rw [Nat.mul_one] at this ⊢
        rw [Nat.add_assoc off i k]
        exact this
set_option linter.unusedSimpArgs false in
/-- the first part of a row of values -/
theorem cut_key {w : World} {a : Option Addr} {N c : Nat} {L : List V} (h : SliceAt w (.slice a N c) 4 enV L) {j : Nat} (hj : j ≤ N) :
    (∀ W : World, (Instr.slice 37 (.slice a N c) none (some (.int .i64 (j : Int))) none).run Tryz.prog W = .ok (.slice a j c) W) ∧ SliceAt w (.slice a j c) 4 enV (L.take j) := by
  obtain ⟨a', c', e, h1, h2, h3⟩ := h
  cases e
  have hlen : (L.take j).length = j := by rw [List.length_take]; omega
  have b2 : (j : Int) ≤ (c : Int) := by omega
  refine ⟨fun W => ?_, a, c, by rw [hlen], by rw [hlen]; omega, h2, fun hne => ?_⟩
  · cases a with
    | none => simp [Instr.slice, run_underlying Tryz.underlying37, Instr.sliceBounds, run_sliceBound, b2, Result.andThen]
    | some ad =>
      have ez : ad.add 0 = ad := by cases ad with | mk b o s => simp [Addr.add]
      by_cases hc : c = 0
      · subst hc
        obtain rfl : j = 0 := by omega
        simp [Instr.slice, run_underlying Tryz.underlying37, Instr.sliceBounds, run_sliceBound, Result.andThen]
      · simp [Instr.slice, run_underlying Tryz.underlying37, Instr.sliceBounds, run_sliceBound, b2, Result.andThen, hc, ez]
  · obtain ⟨b, off, e, hl, hcs⟩ := h3 (fun e => hne (by rw [e]; simp))
    refine ⟨b, off, e, hl, fun k hk q u hu => ?_⟩
    rw [hlen] at hk
    rw [List.getElem_take] at hu
    exact hcs k (by omega) q u hu

section
variable {lb lo : Nat} {cv rv valv : Value} {cols : List Nat} {R : List Rw} {vals : List V}

/-- the rows that beginWith tells -/
def begL (cols : List Nat) (R : List Rw) (vals : List V) (most : Nat) : List Rw := (R.drop (plc cols (cont R) vals)).take (begN cols (cont R) vals most)
def BegR (rv : Value) (cols : List Nat) (R : List Rw) (vals : List V) (most : Nat) (w : World) (e : Ending) (w' : World) : Prop := ∃ a c, e = .returned (.slice a (begN cols (cont R) vals most) c) ∧ (SliceAt w' (.slice a (begN cols (cont R) vals most) c) 1 enR (begL cols R vals most) ∧ ∀ b, (Value.slice a (begN cols (cont R) vals most) c).ownBlock = some b → rv.ownBlock = some b) ∧ Below w.heap.size w w'

set_option linter.unusedSimpArgs false in
set_option maxRecDepth 100000 in
set_option maxHeartbeats 2000000 in
theorem beginWith_any {w0 : World} (h : LAt w0 lb lo cv rv cols R) (hv : SliceAt w0 valv 4 enV vals) (hl : vals.length ≤ cols.length) (ov : ∀ x ∈ vals, OkV x) (hm : Mono cols (cont R) vals) (most : Nat) (hmost : most ≤ 5000) (w : World) (hb : Below w0.heap.size w0 w) :
    Calls Tryz.prog 55 #[.pointer (some ⟨lb, lo, none⟩), valv, .int .i64 (most : Int)] w (BegR rv cols R vals most w) := by
  have HP : Hid (Calls Tryz.prog 45 #[.pointer (some ⟨lb, lo, none⟩), valv] w fun e w' => e = .returned (.int .i64 ((plc cols (cont R) vals : Nat) : Int)) ∧ Below w.heap.size w w') := place_any h hv hl ov hm w hb
  have HA : Hid (∀ (j : Nat) (r : Rw), R[j]? = some r → ∀ u, Below w.heap.size w u → Calls Tryz.prog 68 #[.pointer (some ⟨lb, lo, none⟩), .slice (some ⟨r.g, 0, none⟩) r.vs.length r.c, valv] u fun e w' => e = .returned (.int .i64 (agn cols r.vs vals)) ∧ Below u.heap.size u w') := fun j r hj u hu =>
    against_any lb lo cv r.val valv cols r.vs vals u w0 (hb.trans (hu.mono hb.size)) h.c0 h.cs (h.ro r (List.mem_of_getElem? hj)).1.1 hv hl (h.ro r (List.mem_of_getElem? hj)).2 (h.ro r (List.mem_of_getElem? hj)).1.2 ov
  have hp := plc_le cols (cont R) vals
  rw [cont_length] at hp
  have HR0 : Hid (SliceAt w rv 1 enR R) := h.rs.below hb
  unfold BegR begL
  obtain ⟨rvO, hrvO⟩ : ∃ o, rv.ownBlock = o := ⟨_, rfl⟩
  rw [hrvO]
  obtain ⟨va, vc, rfl, -⟩ := hv.vals
  obtain ⟨a, c, rfl, h1, h2, h3⟩ := h.rs.rows
  have HX : Hid (∀ u, Below w.heap.size w u → ∀ (i : Nat) (y : Rw), R[i]? = some y → ∃ b off, a = some ⟨b, off, none⟩ ∧ b < u.heap.size ∧ u.cell? ⟨b, off + i, none⟩ = some y.val) := fun u hu => h3 u (hb.trans (hu.mono hb.size))
  have HC1 : Hid (∀ u, Below w.heap.size w u → u.cell? ⟨lb, lo + 1, none⟩ = some (.slice a R.length c)) := fun u hu => cell_below h.c1 (hb.trans (hu.mono hb.size))
  have hf := h.few
  have HK : Hid (begN cols (cont R) vals most = run0 cols vals ((cont R).drop (plc cols (cont R) vals)) most) := rfl
  have HCg : Hid (∀ (i : Nat) (r : Rw), R[i]? = some r → (cont R)[i]? = some r.vs) := fun i r => cont_get
  have HCl : Hid ((cont R).length = R.length) := cont_length R
  obtain ⟨C, hC⟩ : ∃ C, cont R = C := ⟨_, rfl⟩
  rw [hC] at HP HK HCg HCl hp ⊢
  obtain ⟨p, hpp⟩ : ∃ p, plc cols C vals = p := ⟨_, rfl⟩
  rw [hpp] at HP HK hp ⊢
  obtain ⟨K, hK⟩ : ∃ K, begN cols C vals most = K := ⟨_, rfl⟩
  rw [hK] at HK ⊢
  obtain ⟨N, hN⟩ : ∃ N, R.length = N := ⟨_, rfl⟩
  have HL : Hid (R.length = N) := hN
  rw [hN] at HC1 hf hp h1 HR0 HCl
  obtain ⟨VN, hVN⟩ : ∃ N, vals.length = N := ⟨_, rfl⟩
  rw [hVN] at HP HA ⊢
  have HCut : Hid (∀ j : Nat, p ≤ j → j ≤ N → ∃ ad c', (∀ W : World, (Instr.slice 44 (.slice a N c) (some (.int .i64 (p : Int))) (some (.int .i64 (j : Int))) none).run Tryz.prog W = .ok (.slice ad (j - p) c') W) ∧ SliceAt w (.slice ad (j - p) c') 1 enR ((R.drop p).take (j - p)) ∧ ∀ b, (Value.slice ad (j - p) c').ownBlock = some b → rvO = some b) := fun j h1 h2 => by
    obtain ⟨ad, c', q1, q2, q3⟩ := cut_rows HR0.out h1 h2
    exact ⟨ad, c', q1, q2, fun b e => by rw [← hrvO]; have := q3 b e; cases a <;> exact this⟩
  unfold maxLen at h2
  clear h h3 hv hl ov hm hC hpp hK hN hVN hb hrvO
  go_enter Tryz.func55, Tryz.ntmps55
  go_wp2_with (go_at_call 45; go_must (refine HP.out.mono ?_; rintro e w1 ⟨rfl, hw1⟩))
  have HB1 : Hid (Below w.heap.size w w1) := hw1
  clear hw1
  go_loopw [8] (fun v wr => ∃ t : Nat, p ≤ t ∧ t ≤ N ∧ t - p ≤ most ∧ v = .int .i64 t ∧ Hid (Below w.heap.size w wr) ∧ Hid ((t - p) + run0 cols vals (C.drop t) (most - (t - p)) = K)) (fun v _ => N - (intOf v).toNat)
  case atStart => exact ⟨p, Nat.le_refl _, hp, by omega, rfl, HB1, by show _ = _; rw [HK.out, Nat.sub_self, Nat.zero_add, Nat.sub_zero]⟩
  case round =>
    obtain ⟨t, g1, g2, g3, rfl, HB, HI⟩ := hrel
    have c1 := HC1.out wr HB.out
    by_cases hlt : t < N
    · have hlI : (t : Int) < (N : Int) := by omega
      have e1 : IntKind.i64.wrap ((t : Int) - (p : Int)) = (t : Int) - (p : Int) := by rw [IntKind.wrap_i64]; omega
      by_cases hmo : t - p < most
      · have hmI : (t : Int) - (p : Int) < (most : Int) := by omega
        obtain ⟨r, hr⟩ : ∃ r, R[t]? = some r := ⟨_, List.getElem?_eq_getElem (by rw [HL.out]; exact hlt)⟩
        obtain ⟨rb, ro, rfl, hrl, hrc⟩ := HX.out wr HB.out t r hr
        have HAr := HA.out t r hr wr HB.out
        have HAr' : Hid (Calls Tryz.prog 68 #[.pointer (some ⟨lb, lo, none⟩), .slice (some ⟨r.g, 0, none⟩) r.vs.length r.c, .slice va VN vc] wr fun e w' => e = .returned (.int .i64 (agn cols r.vs vals)) ∧ Below wr.heap.size wr w') := HAr
        have HSt : Hid (run0 cols vals (C.drop t) (most - (t - p)) = if agn cols r.vs vals = 0 then run0 cols vals (C.drop (t + 1)) (most - (t + 1 - p)) + 1 else 0) := by
          show _ = _
          rw [show most - (t - p) = (most - (t + 1 - p)) + 1 by omega]
          exact run0_at (HCg.out t r hr)
        obtain ⟨E, hE⟩ : ∃ E, agn cols r.vs vals = E := ⟨_, rfl⟩
        rw [hE] at HAr' HSt
        unfold Rw.val at hrc
        obtain ⟨g, rc, vs⟩ := r
        dsimp only at HAr' hrc
        obtain ⟨M, hM⟩ : ∃ M, vs.length = M := ⟨_, rfl⟩
        rw [hM] at HAr' hrc
        clear HAr hr hE hM
        by_cases hz : E = 0
        · subst hz
          have HI' : Hid ((t + 1 - p) + run0 cols vals (C.drop (t + 1)) (most - (t + 1 - p)) = K) := by show _ = _; rw [← HI.out, HSt.out, if_pos rfl]; omega
          go_wp2_with (go_at_call 68; go_must (refine HAr'.out.mono ?_; rintro e w2 ⟨rfl, hw2⟩))
          go_roundw
          case rel => exact ⟨t + 1, by omega, by omega, by omega, by go_num, HB.out.trans (hw2.mono HB.out.size), HI'⟩
          case measure => simp [intOf]; omega
        · have hz' : (E == 0) = false := by simpa using hz
          have HI' : Hid (t - p = K) := by show _ = _; rw [← HI.out, HSt.out, if_neg hz]; omega
          obtain ⟨ad, c', hrun, hs, ho⟩ := HCut.out t g1 g2
          have HOw : Hid (∀ b, (Value.slice ad (t - p) c').ownBlock = some b → rvO = some b) := ho
          have HSl : Hid (SliceAt w (.slice ad (t - p) c') 1 enR ((R.drop p).take (t - p))) := hs
          clear hs ho
          go_wp2_with (go_at_call 68; go_must (refine HAr'.out.mono ?_; rintro e w2 ⟨rfl, hw2⟩; have c2 := HC1.out w2 (HB.out.trans (hw2.mono HB.out.size))))
          have HB2 : Hid (Below w.heap.size w w2) := HB.out.trans (hw2.mono HB.out.size)
          go_ret
          rw [HI'.out] at HSl HOw ⊢
          exact ⟨ad, c', rfl, ⟨HSl.out.below HB2.out, HOw.out⟩, HB2.out⟩
      · have hmI : ¬ (t : Int) - (p : Int) < (most : Int) := by omega
        have HI' : Hid (t - p = K) := by show _ = _; rw [← HI.out, show most - (t - p) = 0 by omega, run0_zero]; omega
        obtain ⟨ad, c', hrun, hs, ho⟩ := HCut.out t g1 g2
        have HOw : Hid (∀ b, (Value.slice ad (t - p) c').ownBlock = some b → rvO = some b) := ho
        have HSl : Hid (SliceAt w (.slice ad (t - p) c') 1 enR ((R.drop p).take (t - p))) := hs
        clear hs ho
        go_wp2_with fail
        go_ret
        rw [HI'.out] at HSl HOw ⊢
        exact ⟨ad, c', rfl, ⟨HSl.out.below HB.out, HOw.out⟩, HB.out⟩
    · have hlI : ¬ (t : Int) < (N : Int) := by omega
      have HI' : Hid (t - p = K) := by show _ = _; rw [← HI.out, List.drop_eq_nil_of_le (by rw [HCl.out]; omega), run0_nil]; omega
      obtain ⟨ad, c', hrun, hs, ho⟩ := HCut.out t g1 g2
      have HOw : Hid (∀ b, (Value.slice ad (t - p) c').ownBlock = some b → rvO = some b) := ho
      have HSl : Hid (SliceAt w (.slice ad (t - p) c') 1 enR ((R.drop p).take (t - p))) := hs
      clear hs ho
      go_wp2_with fail
      go_ret
      rw [HI'.out] at HSl HOw ⊢
      exact ⟨ad, c', rfl, ⟨HSl.out.below HB.out, HOw.out⟩, HB.out⟩
end

end Go.Proofs.YtfddmibaojfalaaGreat
