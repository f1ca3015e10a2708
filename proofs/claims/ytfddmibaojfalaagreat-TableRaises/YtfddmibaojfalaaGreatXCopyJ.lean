import Derived.Test.YtfddmibaojfalaaGreatXClash
/- Copies of rows: the program's copyRow. -/
namespace Go.Proofs.YtfddmibaojfalaaGreat
open Go.RowKit

/-- a row of values of one's own -/
def VRow (w : World) (base g n c : Nat) (L : List V) : Prop := ∃ cur, base ≤ g ∧ w.heap[g]? = some (.cells cur 36 (0, 0)) ∧ n ≤ c ∧ c ≤ maxLen ∧ cur.size = c * 4 ∧ L.length = n ∧ cur.toList.take (n * 4) = flat enV L
theorem VRow.of {w : World} {base g n c : Nat} {L : List V} (h : w.ownsRow base 36 4 (.slice (some ⟨g, 0, none⟩) n c) n (flat enV L)) (hl : L.length = n) : VRow w base g n c L := by
  obtain ⟨_, ⟨h1, _⟩ | ⟨g', c', cur, e, h2, h3, h4, h5, h6, h7⟩⟩ := h
  · cases h1
  · cases e; exact ⟨cur, h2, h3, h4, h5, h6, hl, h7⟩
theorem VRow.owns {w : World} {base g n c : Nat} {L : List V} (h : VRow w base g n c L) : w.ownsRow base 36 4 (.slice (some ⟨g, 0, none⟩) n c) n (flat enV L) := by
  obtain ⟨cur, h2, h3, h4, h5, h6, hl, h7⟩ := h
  exact ⟨by rw [flat_length enV_length, hl, Nat.mul_comm], Or.inr ⟨g, c, cur, rfl, h2, h3, h4, h5, h6, h7⟩⟩
theorem VRow.slice {w : World} {base g n c : Nat} {L : List V} (h : VRow w base g n c L) : SliceAt w (.slice (some ⟨g, 0, none⟩) n c) 4 enV L := by
  obtain ⟨cur, h2, h3, h4, h5, h6, rfl, h7⟩ := h
  exact sliceAt_flat enV_length h3 h7 h4 h5
theorem VRow.below {w u : World} {base g n c : Nat} {L : List V} (h : VRow w base g n c L) (hu : u.heap[g]? = w.heap[g]?) : VRow u base g n c L := by
  obtain ⟨cur, h2, h3, r⟩ := h
  exact ⟨cur, h2, hu.trans h3, r⟩
theorem VRow.lt {w : World} {base g n c : Nat} {L : List V} (h : VRow w base g n c L) : base ≤ g ∧ g < w.heap.size := by
  obtain ⟨cur, h2, h3, _⟩ := h
  exact ⟨h2, lt_of h3⟩
theorem VRow.cells {w : World} {base g n c : Nat} {L : List V} (h : VRow w base g n c L) {i : Nat} {y : V} (hy : L[i]? = some y) : w.cell? ⟨g, i * 4, none⟩ = some (.int .i64 y.k) ∧ w.cell? ⟨g, i * 4 + 1, none⟩ = some (.int .i64 y.n) ∧ w.cell? ⟨g, i * 4 + 2, none⟩ = some (.complex .f64 0 0) ∧ w.cell? ⟨g, i * 4 + 3, none⟩ = some (.string y.s) := by
  obtain ⟨a, c', e, _, _, hc⟩ := h.slice.vals
  obtain ⟨b, off, e1, _, q⟩ := hc w (Below.refl _ _) i y hy
  rw [e1] at e
  injection e with e2
  injection e2 with e3
  injection e3 with e4 e5
  subst e4; subst e5
  simpa using q
/-- one of its values is written, in part -/
theorem VRow.set1 {w : World} {base g n c : Nat} {L : List V} (h : VRow w base g n c L) {i f : Nat} (hi : i < n) (hf : f < 4) (u : Value) (d : V) (hd : ∀ y, L[i]? = some y → (enV y).set f u = enV d) : VRow (w.setCell ⟨g, i * 4 + f, none⟩ u) base g n c (L.set i d) := by
  obtain ⟨cur, h2, h3, h4, h5, h6, rfl, h7⟩ := h
  obtain ⟨cur', k1, k2, k3⟩ := flat_row_set (w1 := w) (o := i * 4 + f) (d := d) (u := u) enV_length h3 h6 h7 hi (by rw [Nat.mul_comm]) hf (hd _ (List.getElem?_eq_getElem hi))
  exact ⟨cur', h2, k1, h4, h5, k2, by simp, k3⟩

set_option maxRecDepth 100000 in
set_option maxHeartbeats 1000000 in
theorem cloneV_any (v : Value) (L : List V) (w w0 : World) (hb : Below w0.heap.size w0 w) (h : SliceAt w0 v 4 enV L) (hne : L ≠ []) (hl : L.length ≤ 1000) :
    Calls Tryz.prog 43 #[v] w fun e w' => ∃ g c, e = .returned (.slice (some ⟨g, 0, none⟩) L.length c) ∧ Hid (VRow w' w.heap.size g L.length c L) ∧ Hid (Below w.heap.size w w') := by
  have h1 := h.below hb
  obtain ⟨a, c, rfl, hlc, hcm, hx⟩ := h1
  obtain ⟨b, off, rfl, hbl, hcs⟩ := hx hne
  have HS : Hid (∀ o : Obj, SliceAt (w.alloc o) (.slice (some ⟨b, off, none⟩) L.length c) 4 enV L) := fun o => SliceAt.below ⟨_, c, rfl, hlc, hcm, fun _ => ⟨b, off, rfl, hbl, hcs⟩⟩ ((Below.refl _ w).alloc (Nat.le_refl _) o)
  obtain ⟨i, hi, hz, hsize, hby⟩ := infoV_parts
  have HI : Hid (Tryz.prog.info? 36 = some i ∧ i.zero = some (vagg 0 0 ⟨#[]⟩) ∧ i.size = 4 ∧ i.bytes = 48) := ⟨hi, hz, hsize, hby⟩
  have hnil := fun (u : World) (a : Option Addr) (n c : Nat) => Lib.run_eql_slice_nil (P := Tryz.prog) u 37 36 a n c 0 0 Tryz.underlying37
  have HL : Hid (L.length ≤ 1000) := hl
  have HNE : Hid (L ≠ []) := hne
  obtain ⟨n, hn⟩ : ∃ n, L.length = n := ⟨_, rfl⟩
  have HN : Hid (L.length = n) := hn
  rw [hn] at HS hlc ⊢
  unfold maxLen at hcm
  clear h hx hcs hi hz hsize hby hl hn hne hb
  go_enter Tryz.func43, Tryz.ntmps43
  go_wp2_with (at_builtin; go_must (refine append_copy rfl _ _ 37 rfl w.heap.size 36 i (vagg 0 0 ⟨#[]⟩) 4 48 Tryz.underlying37 HI.out.1 HI.out.2.1 HI.out.2.2.1 HI.out.2.2.2 rfl (by omega) w.heap.size rfl (row_empty w 36 4) enV (fun _ => rfl) (fun y u hu => ?_) (.slice (some ⟨b, off, none⟩) n c) L rfl (HS.out _) (fun k c' e => ?_) (by have := HL.out; omega) (by simp) ?_))
  · simp only [enV, List.mem_cons, List.not_mem_nil, or_false] at hu
    rcases hu with rfl | rfl | rfl | rfl <;> rfl
  · intro v' w' h1 h2
    obtain ⟨g, c', hv⟩ : ∃ g c', v' = .slice (some ⟨g, 0, none⟩) n c' := by
      rcases h1.2 with ⟨_, h0⟩ | ⟨g, cap, cur, rfl, _⟩
      · exact absurd (List.length_eq_zero_iff.1 h0) HNE.out
      · exact ⟨g, cap, by rw [HN.out]⟩
    subst hv
    rw [HN.out] at h1
    have H1 : Hid (VRow w' w.heap.size g n c' L) := VRow.of h1 HN.out
    have H2 : Hid (Below w.heap.size w w') := ((Below.refl _ w).alloc (Nat.le_refl _) _).grown h2 (by simp) (fun i hi => by cases hi; exact Nat.le_refl _)
    clear h1 h2
    go_wp2
    go_ret
    exact ⟨g, c', rfl, H1, H2⟩

def CopyRowR (L : List V) (w : World) (e : Ending) (w' : World) : Prop := ∃ g c, e = .returned (.slice (some ⟨g, 0, none⟩) L.length c) ∧ VRow w' w.heap.size g L.length c L ∧ Below w.heap.size w w'

set_option linter.unusedSimpArgs false in
set_option maxRecDepth 100000 in
set_option maxHeartbeats 2000000 in
theorem copyRow_any (v : Value) (L : List V) (w w0 : World) (hb : Below w0.heap.size w0 w) (h : SliceAt w0 v 4 enV L) (hne : L ≠ []) (hl : L.length ≤ 1000) (ok : ∀ x ∈ L, OkV x) :
    Calls Tryz.prog 26 #[v] w (CopyRowR L w) := by
  have HCl : Hid (Calls Tryz.prog 43 #[v] w fun e w' => ∃ g c, e = .returned (.slice (some ⟨g, 0, none⟩) L.length c) ∧ Hid (VRow w' w.heap.size g L.length c L) ∧ Hid (Below w.heap.size w w')) := cloneV_any v L w w0 hb h hne hl
  have HSz : Hid (∀ x ∈ L, x.s.size ≤ 4096) := fun x hx => by
    rcases ok x hx with ⟨_, _, e⟩ | ⟨_, e⟩ | ⟨_, _, e⟩
    · rw [e]; decide
    · rw [e]; decide
    · exact e
  obtain ⟨a, c0, rfl, -⟩ := h.vals
  unfold CopyRowR
  obtain ⟨N, hN⟩ : ∃ N, L.length = N := ⟨_, rfl⟩
  have HL : Hid (L.length = N) := hN
  rw [hN] at HCl hl ⊢
  have hsl := @store_law
  clear h hne hb ok hN
  go_enter Tryz.func26, Tryz.ntmps26
  go_wp2_with fail
  refine HCl.out.mono ?_
  rintro e w1 ⟨g, c, rfl, HV1, HB1⟩
  have hcN : N ≤ c ∧ c ≤ maxLen := by obtain ⟨_, _, _, q1, q2, _⟩ := HV1.out; exact ⟨q1, q2⟩
  obtain ⟨hc1, hc2⟩ := hcN
  unfold maxLen at hc2
  go_wp2_with fail
  go_loopw [10] (fun v wr => ∃ i : Nat, i ≤ N ∧ v = .int .i64 i ∧ Hid (Below w.heap.size w wr) ∧ Hid (VRow wr w.heap.size g N c L)) (fun v _ => N - (intOf v).toNat)
  case atStart => exact ⟨0, Nat.zero_le _, rfl, HB1, HV1⟩
  case round =>
    obtain ⟨i, hi, rfl, HB, HV⟩ := hrel
    by_cases hlt : i < N
    · obtain ⟨y, hy⟩ : ∃ y, L[i]? = some y := ⟨_, List.getElem?_eq_getElem (by rw [HL.out]; exact hlt)⟩
      have hlI : (i : Int) < (N : Int) := by omega
      have hsz := HSz.out y (List.mem_of_getElem? hy)
      have hg := HV.out.lt
      have hgl := hg.2
      obtain ⟨W, hW⟩ : ∃ W, wr.alloc (vobj y.k y.n y.s) = W := ⟨_, rfl⟩
      have hbW : Below wr.heap.size wr W := by rw [← hW]; exact (Below.refl _ _).alloc (Nat.le_refl _) _
      obtain ⟨q0, q1, q2, q3⟩ := HV.out.cells hy
      obtain ⟨x0, x1, x2, x3⟩ := boxV_of (heap_new wr (vobj y.k y.n y.s))
      rw [hW] at x0 x1 x2 x3
      obtain ⟨xb, hxb⟩ : ∃ xb, wr.heap.size = xb := ⟨_, rfl⟩
      rw [hxb] at x0 x1 x2 x3
      have HAft : Hid (∀ u, Below W.heap.size W u → u.cell? ⟨g, i * 4 + 3, none⟩ = some (.string y.s) ∧ u.frozen? ⟨g, i * 4 + 3, none⟩ = false ∧ g < u.heap.size ∧ Hid (VRow (u.setCell ⟨g, i * 4 + 3, none⟩ (.string y.s)) w.heap.size g N c L) ∧ Hid (Below w.heap.size w (u.setCell ⟨g, i * 4 + 3, none⟩ (.string y.s)))) := fun u hu => by
        have hbu : Below wr.heap.size wr u := hbW.trans (hu.mono hbW.size)
        have hv : VRow u w.heap.size g N c L := HV.out.below (hbu.block g hgl)
        refine ⟨cell_below q3 hbu, ?_, hv.lt.2, ?_, turn_new (HB.out.trans (hbu.mono HB.out.size)) hg.1 (Turn.setCell (S := fun i => i = g) u ⟨g, i * 4 + 3, none⟩ _ rfl)⟩
        · obtain ⟨cur, _, k3, _⟩ := hv; exact frozen_of k3 _
        · have := hv.set1 (i := i) (f := 3) hlt (by omega) (.string y.s) y (fun z hz => by rw [hy] at hz; cases hz; rfl)
          have e : L.set i y = L := by
            obtain ⟨hi', rfl⟩ := List.getElem?_eq_some_iff.1 hy
            exact List.set_getElem_self hi'
          rw [e] at this
          exact this
      obtain ⟨k, n, s⟩ := y
      dsimp only at q0 q1 q3 x0 x1 x3 HAft hsz hW
      have HCs : Hid (∀ u, Calls Tryz.prog 33 #[.string s] u fun e w' => e = .returned (.string s) ∧ Below u.heap.size u w') := fun u => sClone_any s u (by omega)
      clear hy hg hbW
      go_wp2_with (go_at_call 33; go_must (refine (HCs.out _).mono ?_; rintro e w5 ⟨rfl, h5⟩; obtain ⟨p3, hfz, hg5, HV2, HB2⟩ := HAft.out w5 h5))
      go_roundw
      case rel => exact ⟨i + 1, by omega, by go_num, HB2, HV2⟩
      case measure => simp [intOf]; omega
    · have hlI : ¬ (i : Int) < (N : Int) := by omega
      go_wp2_with fail
      go_ret
      exact ⟨g, c, rfl, HV.out, HB.out⟩

end Go.Proofs.YtfddmibaojfalaaGreat

/- What a write comes to: the program's refused, clashes, write. -/
namespace Go.Proofs.YtfddmibaojfalaaGreat
open Go.RowKit

abbrev nilS : Value := .slice none 0 0
abbrev effV (code : Int) (told was now : Value) : Value := .agg #[.int .i64 code, told, was, now]

set_option linter.unusedSimpArgs false in
set_option maxHeartbeats 400000 in
theorem refused_any (code : Int) (w : World) : Calls Tryz.prog 25 #[.int .i64 code] w fun e w' => e = .returned (effV code nilS nilS nilS) ∧ Below w.heap.size w w' := by
  go_enter Tryz.func25, Tryz.ntmps25
  go_wp2
  refine bodyPost_ret (by simp [results, Tryz.results25, go_sem]; rfl) rfl ?_
  refine ⟨rfl, ?_⟩
  go_grown

section
variable {tb : Nat} {cv iv kv rv xv rowv : Value} {T : Tab} {kcols : List Nat} {row : List V} {R : List Rw} {nm : ByteArray} {ics : List Nat} {ib ic : Nat} {icv : Value} {xb xc : Nat} {xcv xrv : Value} {xcols : List Nat} {XR : List Rw}

set_option maxRecDepth 100000 in
set_option maxHeartbeats 1000000 in
theorem clashes_none {w0 : World} (h : TbV w0 tb cv iv kv rv xv T) (hi : T.ix = []) (ra : Option Addr) (RN rc : Nat) (w : World) (hb : Below w0.heap.size w0 w) :
    Calls Tryz.prog 73 #[.pointer (some ⟨tb, 0, none⟩), .slice ra RN rc] w fun e w' => e = .returned (.bool false) ∧ w' = w := by
  have c3 := cell_below h.cells.c3 hb
  obtain ⟨_, X, h2, h3, _⟩ := h.tab
  have hX : X = [] := by rw [hi] at h3; simpa using h3
  subst hX
  obtain ⟨a, c, e, k1, k2, _⟩ := h2
  subst e
  dsimp only [List.length_nil] at c3
  unfold maxLen at k2
  clear h h3 hi hb
  go_enter Tryz.func73, Tryz.ntmps73
  go_wp2_with fail
  refine wp_loop_rounds 1 ?_
  rw [rounds_succ]
  go_wp2_with fail
  go_ret
  exact ⟨rfl, rfl⟩

set_option maxRecDepth 100000 in
set_option maxHeartbeats 1000000 in
theorem clashes_one {w0 : World} (h : TbV w0 tb cv iv kv rv xv T) (hx : IxAt w0 iv xv nm true ics ib ic icv xb xc xcv xrv xcols XR) (ra : Option Addr) (RN rc : Nat) (Z : Bool) (w : World) (hb : Below w0.heap.size w0 w)
    (hcl : ∀ u, Below w.heap.size w u → Calls Tryz.prog 88 #[.pointer (some ⟨tb, 0, none⟩), .int .i64 0, .slice ra RN rc] u fun e w' => e = .returned (.bool Z) ∧ Below u.heap.size u w') :
    Calls Tryz.prog 73 #[.pointer (some ⟨tb, 0, none⟩), .slice ra RN rc] w fun e w' => e = .returned (.bool Z) ∧ Below w.heap.size w w' := by
  have c3 := cell_below h.cells.c3 hb
  rw [hx.iv] at c3
  have i0 := cell_below hx.i0 hb
  have i1 := cell_below hx.i1 hb
  have i2 := cell_below hx.i2 hb
  obtain ⟨icm1, icm2⟩ := hx.ic
  unfold maxLen at icm2
  obtain ⟨ica, icc, hicv⟩ : ∃ a c, icv = .slice a ics.length c := by obtain ⟨a, c, e, _⟩ := hx.cs; exact ⟨a, c, e⟩
  subst hicv
  obtain ⟨IN, hIN⟩ : ∃ N, ics.length = N := ⟨_, rfl⟩
  rw [hIN] at i1
  have HC : Hid (∀ u, Below w.heap.size w u → Calls Tryz.prog 88 #[.pointer (some ⟨tb, 0, none⟩), .int .i64 0, .slice ra RN rc] u fun e w' => e = .returned (.bool Z) ∧ Below u.heap.size u w') := hcl
  have HB : Hid (∀ o, Below w.heap.size w (w.alloc o)) := fun o => (Below.refl _ _).alloc (Nat.le_refl _) o
  clear h hx hcl hb hIN
  go_enter Tryz.func73, Tryz.ntmps73
  go_wp2_with fail
  refine wp_loop_rounds 2 ?_
  rw [rounds_succ]
  cases Z with
  | true =>
    go_wp2_with (go_at_call 88; go_must (refine (HC.out _ (HB.out _)).mono ?_; rintro e w1 ⟨rfl, hw1⟩))
    go_ret
    exact ⟨rfl, (HB.out _).trans (hw1.mono (HB.out _).size)⟩
  | false =>
    go_wp2_with (go_at_call 88; go_must (refine (HC.out _ (HB.out _)).mono ?_; rintro e w1 ⟨rfl, hw1⟩))
    rw [rounds_succ]
    go_wp2_with fail
    go_ret
    exact ⟨rfl, (HB.out _).trans (hw1.mono (HB.out _).size)⟩

abbrev effZ : Obj := .cells #[.int .i64 0, nilS, nilS, nilS] 64
theorem opt_shape (o : Option Rw) : ∃ a n c, optV o = .slice a n c ∧ (a.isNone = o.isNone) := by
  cases o with
  | none => exact ⟨none, 0, 0, rfl, rfl⟩
  | some r => exact ⟨_, _, _, rfl, rfl⟩

/-- what a write of a row that does not clash comes to -/
def WrR (kcols : List Nat) (R : List Rw) (row : List V) (K : Nat) (w : World) (e : Ending) (w' : World) : Prop := ∃ g c, e = .returned (effV 0 nilS (optV (rowOf kcols R (row.take K))) (.slice (some ⟨g, 0, none⟩) row.length c)) ∧ VRow w' w.heap.size g row.length c row ∧ Below w.heap.size w w'

set_option linter.unusedSimpArgs false in
set_option maxRecDepth 100000 in
set_option maxHeartbeats 2000000 in
theorem write_ok {w0 : World} (h : TbV w0 tb cv iv kv rv xv T) (hM : LAt w0 tb 4 kv rv kcols R) (hr : SliceAt w0 rowv 4 enV row) (or : ∀ x ∈ row, OkV x) (hne : row ≠ []) (hrl : row.length ≤ 32)
    (K : Nat) (hK : T.key = (K : Int)) (hKN : K ≤ row.length) (hKc : K ≤ kcols.length) (hm : Mono kcols (cont R) (row.take K)) (hf : R.length < 4096) (w : World) (hb : Below w0.heap.size w0 w)
    (hcl : ∀ u, Below w.heap.size w u → Calls Tryz.prog 73 #[.pointer (some ⟨tb, 0, none⟩), rowv] u fun e w' => e = .returned (.bool false) ∧ Below u.heap.size u w') :
    Calls Tryz.prog 57 #[.pointer (some ⟨tb, 0, none⟩), rowv] w (WrR kcols R row K w) := by
  have HU : Hid (∀ u, Below w.heap.size w u → Below w0.heap.size w0 u) := fun u hu => hb.trans (hu.mono hb.size)
  have HCy : Hid (∀ u, Below w.heap.size w u → Calls Tryz.prog 26 #[rowv] u (CopyRowR row u)) := fun u hu => copyRow_any rowv row u w0 (HU.out u hu) hr hne (by omega) or
  obtain ⟨ra, rc, rfl⟩ := hr.keyN
  have HKo : Hid (∀ u, Below w.heap.size w u → Calls Tryz.prog 59 #[.pointer (some ⟨tb, 0, none⟩), .slice ra row.length rc] u fun e w' => e = .returned (.slice ra K rc) ∧ w' = u) := fun u hu => keyOf_any h hr K hK hKN u (HU.out u hu)
  have hkey := (cut_key hr hKN).2
  have HRo : Hid (∀ u, Below w.heap.size w u → Calls Tryz.prog 58 #[.pointer (some ⟨tb, 0, none⟩), .slice ra K rc] u fun e w' => e = .returned (optV (rowOf kcols R (row.take K))) ∧ Below u.heap.size u w') := fun u hu => rowOf_any h hM hkey (by rw [List.length_take]; omega) (fun x hx => or x (List.mem_of_mem_take hx)) hm u (HU.out u hu)
  have HCl : Hid (∀ u, Below w.heap.size w u → Calls Tryz.prog 73 #[.pointer (some ⟨tb, 0, none⟩), .slice ra row.length rc] u fun e w' => e = .returned (.bool false) ∧ Below u.heap.size u w') := hcl
  obtain ⟨va, vc, rfl, -, hvm, -⟩ := hM.rs.rows
  have HC : Hid (∀ u, Below w.heap.size w u → u.cell? ⟨tb, 5, none⟩ = some (.slice va R.length vc) ∧ tb < u.heap.size) := fun u hu => ⟨cell_below hM.c1 (HU.out u hu), Nat.lt_of_lt_of_le (lt_of h.st) (HU.out u hu).size⟩
  have hnil := fun (u : World) (a : Option Addr) (n c : Nat) => Lib.run_eql_slice_nil (P := Tryz.prog) u 37 36 a n c 0 0 Tryz.underlying37
  unfold WrR
  unfold CopyRowR at HCy
  obtain ⟨oa, on, oc, ho, -⟩ := opt_shape (rowOf kcols R (row.take K))
  rw [ho] at HRo ⊢
  obtain ⟨RN, hRN⟩ : ∃ N, row.length = N := ⟨_, rfl⟩
  obtain ⟨LN, hLN⟩ : ∃ N, R.length = N := ⟨_, rfl⟩
  rw [hRN] at HCy HKo HCl hrl hKN ⊢
  rw [hLN] at HC hf
  have hfI : ¬ (4096 : Int) ≤ (LN : Int) := by omega
  obtain ⟨w1, hw1⟩ : ∃ w1, w.alloc effZ = w1 := ⟨_, rfl⟩
  obtain ⟨xb, hxb⟩ : ∃ xb, w.heap.size = xb := ⟨_, rfl⟩
  have HB1 : Hid (Below w.heap.size w w1) := by show Below _ _ _; rw [← hw1]; exact (Below.refl _ _).alloc (Nat.le_refl _) _
  have x1 : w1.heap[xb]? = some effZ := by rw [← hw1, ← hxb]; exact heap_new w _
  have HX : Hid (∀ u, Below w1.heap.size w1 u → Below w.heap.size w u ∧ u.cell? ⟨xb, 0, none⟩ = some (.int .i64 0) ∧ u.cell? ⟨xb, 1, none⟩ = some nilS ∧ u.cell? ⟨xb, 2, none⟩ = some nilS ∧ u.cell? ⟨xb, 3, none⟩ = some nilS ∧ xb < u.heap.size ∧ (∀ i, u.frozen? ⟨xb, i, none⟩ = false)) := fun u hu => by
    have e := (hu.block _ (lt_of x1)).trans x1
    exact ⟨HB1.out.trans (hu.mono HB1.out.size), by rw [cell_of e]; rfl, by rw [cell_of e]; rfl, by rw [cell_of e]; rfl, by rw [cell_of e]; rfl, lt_of e, frozen_of e⟩
  have HT : Hid (∀ (u : World) (a b c d : Value) (g rcap : Nat), Below w1.heap.size w1 u → VRow u w.heap.size g RN rcap row → g ≠ xb → VRow (set4 u xb a b c d) w.heap.size g RN rcap row ∧ Below w.heap.size w (set4 u xb a b c d)) := fun u a b c d g rcap hu hv hne => by
    have t := set4_turn u xb a b c d
    exact ⟨hv.below (t.block g hv.lt.2 hne), turn_new (HX.out u hu).1 (by rw [hxb]; exact Nat.le_refl _) t⟩
  have hx1l : xb < w1.heap.size := lt_of x1
  clear h hM hr or hne hK hKc hm hb hkey ho hcl hRN hLN x1
  go_enter Tryz.func57, Tryz.ntmps57
  go_wp2_with fail
  refine (HCl.out w1 HB1.out).mono ?_
  rintro e w2 ⟨rfl, hw2⟩
  obtain ⟨B2, -⟩ := HX.out w2 hw2
  have H2 : Hid (Below w1.heap.size w1 w2 ∧ Below w.heap.size w w2) := ⟨hw2, B2⟩
  clear hw2 B2
  go_wp2_with (go_at_call 59; go_must (refine (HKo.out _ H2.out.2).mono ?_; rintro e w3 ⟨rfl, rfl⟩))
  refine (HRo.out _ H2.out.2).mono ?_
  rintro e w4 ⟨rfl, hw4⟩
  have H4 : Hid (Below w1.heap.size w1 w4 ∧ Below w.heap.size w w4) := by
    have k := H2.out.1.trans (hw4.mono H2.out.1.size)
    exact ⟨k, (HX.out _ k).1⟩
  obtain ⟨c5, tl4⟩ := HC.out w4 H4.out.2
  have HEnd : Hid (∀ (u : World) (g rcap : Nat), Below w4.heap.size w4 u → VRow u w4.heap.size g RN rcap row → ∀ a b c d, VRow (set4 u xb a b c d) w.heap.size g RN rcap row ∧ Below w.heap.size w (set4 u xb a b c d)) := fun u g rcap hu hv a b c d => by
    have k := H4.out.1.trans (hu.mono H4.out.1.size)
    have hx4 := (HX.out _ H4.out.1).2.2.2.2.2.1
    have hgl := hv.lt.1
    refine HT.out u a b c d g rcap k ?_ (by omega)
    obtain ⟨cur, _, r⟩ := hv
    exact ⟨cur, Nat.le_trans H4.out.2.size hgl, r⟩
  have HX5 : Hid (∀ u, Below w4.heap.size w4 u → u.cell? ⟨xb, 0, none⟩ = some (.int .i64 0) ∧ u.cell? ⟨xb, 1, none⟩ = some nilS ∧ u.cell? ⟨xb, 2, none⟩ = some nilS ∧ u.cell? ⟨xb, 3, none⟩ = some nilS ∧ xb < u.heap.size ∧ (∀ i, u.frozen? ⟨xb, i, none⟩ = false)) := fun u hu => (HX.out u (H4.out.1.trans (hu.mono H4.out.1.size))).2
  clear hw4 HT
  cases oa with
  | none =>
    go_wp2_with (go_at_call 26; go_must (refine (HCy.out _ H4.out.2).mono ?_; rintro e w5 ⟨g, rcap, rfl, hv5, hw5⟩; obtain ⟨d0, d1, d2, d3, dl, dz⟩ := HX5.out w5 hw5; have HE5 := HEnd.out w5 g rcap hw5 hv5))
    refine bodyPost_ret (by simp [results, Tryz.results57, go_sem, d0, d1, d2, d3]; rfl) rfl ?_
    exact ⟨g, rcap, rfl, HE5 _ _ _ _⟩
  | some oad =>
    go_wp2_with (go_at_call 26; go_must (refine (HCy.out _ H4.out.2).mono ?_; rintro e w5 ⟨g, rcap, rfl, hv5, hw5⟩; obtain ⟨d0, d1, d2, d3, dl, dz⟩ := HX5.out w5 hw5; have HE5 := HEnd.out w5 g rcap hw5 hv5))
    refine bodyPost_ret (by simp [results, Tryz.results57, go_sem, d0, d1, d2, d3]; rfl) rfl ?_
    exact ⟨g, rcap, rfl, HE5 _ _ _ _⟩
end

end Go.Proofs.YtfddmibaojfalaaGreat

/- The program's Fits, of a row that fits; a write of a row that clashes. -/
namespace Go.Proofs.YtfddmibaojfalaaGreat
open Go.RowKit

/-- a row that fits a schema, none of its values null -/
structure FitsT (T : Tab) (row : List V) : Prop where
  may : T.may = true
  rg : Rg T
  len : row.length = T.co.length
  few : row.length ≤ 32
  ok : ∀ x ∈ row, OkV x
  kind : ∀ (i : Nat) (y : V), row[i]? = some y → y.k ≠ 0 ∧ ∃ nm, T.co[i]? = some (nm, y.k)

set_option linter.unusedSimpArgs false in
set_option maxRecDepth 100000 in
set_option maxHeartbeats 2000000 in
theorem fits_yes (cv iv rowv : Value) (T : Tab) (row : List V) (w w0 : World) (hb : Below w0.heap.size w0 w) (h0 : TabV w0 cv iv T) (hr : SliceAt w0 rowv 4 enV row) (hf : FitsT T row) :
    Calls Tryz.prog 56 #[.agg #[.string T.nm, cv, .int .i64 T.key, iv], rowv] w fun e w' => e = .returned (.int .i64 0) ∧ Below w.heap.size w w' := by
  have HU : Hid (∀ u, Below w.heap.size w u → Below w0.heap.size w0 u) := fun u hu => hb.trans (hu.mono hb.size)
  have HCk : Hid (∀ u, Below w.heap.size w u → Calls Tryz.prog 21 #[.agg #[.string T.nm, cv, .int .i64 T.key, iv]] u fun e w' => e = .returned (.int .i64 0) ∧ Below u.heap.size u w') := fun u hu => by
    have := check_any cv iv T u w0 (HU.out u hu) h0 hf.rg
    rw [chk_yes hf.may] at this
    exact this
  have HV : Hid (∀ u, Below w.heap.size w u → Calls Tryz.prog 72 #[rowv] u fun e w' => e = .returned (.tuple #[.int .i64 0, .int .i64 0]) ∧ Below u.heap.size u w') := fun u hu => vcheck_any rowv row u w0 hr (HU.out u hu) hf.few hf.ok
  obtain ⟨_, X, hX, _⟩ := id h0
  obtain ⟨ia, ic, rfl, _, icm, _⟩ := hX
  obtain ⟨ta, tc, rfl, t1, t2, t3⟩ := h0.1.colsC
  obtain ⟨ra, rc, rfl, r1, r2, r3⟩ := hr.vals
  have HR : Hid (∀ u, Below w.heap.size w u → ∀ (i : Nat) (y : V), row[i]? = some y → ∃ b off, ra = some ⟨b, off, none⟩ ∧ b < u.heap.size ∧ u.cell? ⟨b, off + i * 4, none⟩ = some (.int .i64 y.k) ∧ u.cell? ⟨b, off + i * 4 + 1, none⟩ = some (.int .i64 y.n) ∧ u.cell? ⟨b, off + i * 4 + 2, none⟩ = some (.complex .f64 0 0) ∧ u.cell? ⟨b, off + i * 4 + 3, none⟩ = some (.string y.s)) := fun u hu => r3 u (HU.out u hu)
  have HT : Hid (∀ u, Below w.heap.size w u → ∀ (i : Nat) (y : ByteArray × Int), T.co[i]? = some y → ∃ b off, ta = some ⟨b, off, none⟩ ∧ b < u.heap.size ∧ u.cell? ⟨b, off + i * 2, none⟩ = some (.string y.1) ∧ u.cell? ⟨b, off + i * 2 + 1, none⟩ = some (.int .i64 y.2)) := fun u hu => t3 u (HU.out u hu)
  have HK : Hid (∀ (i : Nat) (y : V), row[i]? = some y → y.k ≠ 0 ∧ ∃ nm, T.co[i]? = some (nm, y.k)) := hf.kind
  have hlen := hf.len
  have hfew := hf.few
  obtain ⟨N, hN⟩ : ∃ N, row.length = N := ⟨_, rfl⟩
  obtain ⟨M, hM⟩ : ∃ N, X.length = N := ⟨_, rfl⟩
  have HL : Hid (row.length = N) := hN
  rw [hN] at hlen hfew r1 HV ⊢
  rw [← hlen] at t1 HCk ⊢
  rw [hM] at HCk ⊢
  obtain ⟨nm, hnm⟩ : ∃ x, T.nm = x := ⟨_, rfl⟩
  obtain ⟨key, hkey⟩ : ∃ x, T.key = x := ⟨_, rfl⟩
  rw [hnm, hkey] at HCk ⊢
  unfold maxLen at t2 r2
  have hsl := @store_law
  obtain ⟨w1, hw1⟩ : ∃ w1, w.alloc (.cells #[.string nm, .slice ta N tc, .int .i64 key, .slice ia M ic] 29) = w1 := ⟨_, rfl⟩
  have hx1 : w1.heap[w.heap.size]? = some (.cells #[.string nm, .slice ta N tc, .int .i64 key, .slice ia M ic] 29) := by rw [← hw1]; exact heap_new w _
  have HB1 : Hid (Below w.heap.size w w1) := by show Below _ _ _; rw [← hw1]; exact (Below.refl _ _).alloc (Nat.le_refl _) _
  obtain ⟨xb, hxb⟩ : ∃ xb, w.heap.size = xb := ⟨_, rfl⟩
  have HX : Hid (∀ u, Below w1.heap.size w1 u → Below w.heap.size w u ∧ u.cell? ⟨xb, 0, none⟩ = some (.string nm) ∧ u.cell? ⟨xb, 1, none⟩ = some (.slice ta N tc) ∧ u.cell? ⟨xb, 2, none⟩ = some (.int .i64 key) ∧ u.cell? ⟨xb, 3, none⟩ = some (.slice ia M ic) ∧ xb < u.heap.size) := fun u hu => by
    have e := (hu.block _ (lt_of hx1)).trans hx1
    rw [hxb] at e
    exact ⟨HB1.out.trans (hu.mono HB1.out.size), by rw [cell_of e]; rfl, by rw [cell_of e]; rfl, by rw [cell_of e]; rfl, by rw [cell_of e]; rfl, lt_of e⟩
  obtain ⟨-, c0, c1, c2, c3, c4⟩ := HX.out w1 (Below.refl _ _)
  clear h0 hr hf t3 r3 hx1 hN hM hnm hkey hb hlen
  go_enter Tryz.func56, Tryz.ntmps56
  go_wp2_with (first
    | (go_at_call 21; go_must (refine (HCk.out _ HB1.out).mono ?_; rintro e w2 ⟨rfl, hb2⟩; obtain ⟨B2, d0, d1, d2, d3, d4⟩ := HX.out w2 hb2))
    | (go_at_call 72; go_must (refine (HV.out _ B2).mono ?_; rintro e w3 ⟨rfl, hb3⟩)))
  have H3 : Hid (Below w1.heap.size w1 w3) := hb2.trans (hb3.mono hb2.size)
  clear hb2 hb3 B2 d0 d1 d2 d3
  go_loopw [30] (fun v wr => ∃ i : Nat, i ≤ N ∧ v = .int .i64 i ∧ Hid (Below w1.heap.size w1 wr)) (fun v _ => N - (intOf v).toNat)
  case atStart => exact ⟨0, Nat.zero_le _, rfl, H3⟩
  case round =>
    obtain ⟨i, hi, rfl, HB⟩ := hrel
    obtain ⟨BW, e0, e1, e2, e3, e4⟩ := HX.out wr HB.out
    by_cases hlt : i < N
    · obtain ⟨y, hy⟩ : ∃ y, row[i]? = some y := ⟨_, List.getElem?_eq_getElem (by rw [HL.out]; exact hlt)⟩
      obtain ⟨hk0, nm', htc⟩ := HK.out i y hy
      obtain ⟨vb, vo, rfl, hvl, q0, q1, q2, q3⟩ := HR.out wr BW i y hy
      obtain ⟨rb, ro, rfl, hrl, r0, r1'⟩ := HT.out wr BW i _ htc
      obtain ⟨k, n, s⟩ := y
      dsimp only at q0 q1 q3 r1' hk0
      have hk' : (k == 0) = false := by simpa using hk0
      have hlI : (i : Int) < (N : Int) := by omega
      have HB' : Hid (∀ m, Below w1.heap.size w1 ((wr.alloc (vobj k n s)).drewN m)) := fun m => (HB.out.alloc HB.out.size _).trans ((below_drewN _ m).mono (by simp; have := HB.out.size; omega))
      clear hy htc r0
      go_wp2_with fail
      go_quiet (fail)
      go_wp2_with fail
      go_roundw
      case rel => exact ⟨i + 1, by omega, by go_num, HB'.out _⟩
      case measure => simp [intOf]; omega
    · have hlI : ¬ (i : Int) < (N : Int) := by omega
      go_wp2_with fail
      go_ret
      exact ⟨rfl, by rw [hxb] at BW; exact BW⟩

section
variable {tb : Nat} {cv iv kv rv xv rowv : Value} {T : Tab}
set_option linter.unusedSimpArgs false in
set_option maxRecDepth 100000 in
set_option maxHeartbeats 1000000 in
theorem write_clash {ra : Option Addr} {RN rc : Nat} (w : World) (hcl : ∀ u, Below w.heap.size w u → Calls Tryz.prog 73 #[.pointer (some ⟨tb, 0, none⟩), .slice ra RN rc] u fun e w' => e = .returned (.bool true) ∧ Below u.heap.size u w') :
    Calls Tryz.prog 57 #[.pointer (some ⟨tb, 0, none⟩), .slice ra RN rc] w fun e w' => e = .returned (effV 151 nilS nilS nilS) ∧ Below w.heap.size w w' := by
  have HCl : Hid (∀ u, Below w.heap.size w u → Calls Tryz.prog 73 #[.pointer (some ⟨tb, 0, none⟩), .slice ra RN rc] u fun e w' => e = .returned (.bool true) ∧ Below u.heap.size u w') := hcl
  obtain ⟨w1, hw1⟩ : ∃ w1, w.alloc effZ = w1 := ⟨_, rfl⟩
  obtain ⟨xb, hxb⟩ : ∃ xb, w.heap.size = xb := ⟨_, rfl⟩
  have HB1 : Hid (Below w.heap.size w w1) := by show Below _ _ _; rw [← hw1]; exact (Below.refl _ _).alloc (Nat.le_refl _) _
  have x1 : w1.heap[xb]? = some effZ := by rw [← hw1, ← hxb]; exact heap_new w _
  have HX : Hid (∀ u, Below w1.heap.size w1 u → u.cell? ⟨xb, 0, none⟩ = some (.int .i64 0) ∧ u.cell? ⟨xb, 1, none⟩ = some nilS ∧ u.cell? ⟨xb, 2, none⟩ = some nilS ∧ u.cell? ⟨xb, 3, none⟩ = some nilS ∧ xb < u.heap.size ∧ (∀ i, u.frozen? ⟨xb, i, none⟩ = false) ∧ Hid (∀ a b c d, Below w.heap.size w (set4 u xb a b c d))) := fun u hu => by
    have e := (hu.block _ (lt_of x1)).trans x1
    exact ⟨by rw [cell_of e]; rfl, by rw [cell_of e]; rfl, by rw [cell_of e]; rfl, by rw [cell_of e]; rfl, lt_of e, frozen_of e, fun a b c d => turn_new (HB1.out.trans (hu.mono HB1.out.size)) (by rw [hxb]; exact Nat.le_refl _) (set4_turn u xb a b c d)⟩
  have hx1l : xb < w1.heap.size := lt_of x1
  clear hcl x1
  go_enter Tryz.func57, Tryz.ntmps57
  go_wp2_with (first
    | (go_at_call 73; go_must (refine (HCl.out _ HB1.out).mono ?_; rintro e w2 ⟨rfl, h2⟩))
    | (go_at_call 25; go_must (refine (refused_any 151 _).mono ?_; rintro e w3 ⟨rfl, h3⟩; obtain ⟨d0, d1, d2, d3, dl, dz, HE⟩ := HX.out w3 (h2.trans (h3.mono h2.size)))))
  refine bodyPost_ret (by simp [results, Tryz.results57, go_sem, d0, d1, d2, d3]; rfl) rfl ?_
  exact ⟨rfl, HE.out _ _ _ _⟩
end

end Go.Proofs.YtfddmibaojfalaaGreat
