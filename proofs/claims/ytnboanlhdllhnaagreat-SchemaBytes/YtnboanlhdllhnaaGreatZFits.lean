/- The program's Fits, at the two rows of the chapter's example. -/
import Derived.Test.YtnboanlhdllhnaaGreatKVal
import Derived.Test.YtnboanlhdllhnaaGreatZCheckT
namespace Go.Proofs.YtnboanlhdllhnaaGreat
open Go.RowKit

set_option maxHeartbeats 400000 in
theorem mayBe_null (w : World) : Calls Tryz.prog 72 #[val 0 0 ByteArray.empty] w fun e w' => e = .returned (.bool true) ∧ Below w.heap.size w w' := by
  unfold val
  go_enter Tryz.func72, Tryz.ntmps72
  go_wp2_with (go_at_call 95; refine (nothing_any _).mono ?_; rintro e w' ⟨rfl, rfl⟩)
  go_ret
  refine ⟨rfl, ?_⟩
  go_grown

/-- a block of two values -/
abbrev twoO (k0 n0 k1 n1 : Int) : Obj := .cells #[.int .i64 k0, .int .i64 n0, .complex .f64 0 0, .string ⟨#[]⟩, .int .i64 k1, .int .i64 n1, .complex .f64 0 0, .string ⟨#[]⟩] 79

theorem two_cells {w : World} {b : Nat} {k0 n0 k1 n1 : Int} (h : w.heap[b]? = some (twoO k0 n0 k1 n1)) :
    w.cell? ⟨b, 0, none⟩ = some (.int .i64 k0) ∧ w.cell? ⟨b, 1, none⟩ = some (.int .i64 n0) ∧ w.cell? ⟨b, 2, none⟩ = some (.complex .f64 0 0) ∧ w.cell? ⟨b, 3, none⟩ = some (.string ⟨#[]⟩) ∧
    w.cell? ⟨b, 4, none⟩ = some (.int .i64 k1) ∧ w.cell? ⟨b, 5, none⟩ = some (.int .i64 n1) ∧ w.cell? ⟨b, 6, none⟩ = some (.complex .f64 0 0) ∧ w.cell? ⟨b, 7, none⟩ = some (.string ⟨#[]⟩) := by
  refine ⟨?_, ?_, ?_, ?_, ?_, ?_, ?_, ?_⟩ <;> (rw [cell_of h]; rfl)

set_option maxRecDepth 100000 in
set_option maxHeartbeats 1000000 in
theorem check_two (b : Nat) (k0 n0 k1 n1 : Int) (w : World) (hv : w.heap[b]? = some (twoO k0 n0 k1 n1))
    (hm0 : ∀ u, Calls Tryz.prog 72 #[val k0 n0 ByteArray.empty] u fun e w' => e = .returned (.bool true) ∧ Below u.heap.size u w')
    (hm1 : ∀ u, Calls Tryz.prog 72 #[val k1 n1 ByteArray.empty] u fun e w' => e = .returned (.bool true) ∧ Below u.heap.size u w') :
    Calls Tryz.prog 51 #[.slice (some ⟨b, 0, none⟩) 2 2] w fun e w' => e = .returned (.tuple #[.int .i64 0, .int .i64 0]) ∧ Below w.heap.size w w' := by
  have HM0 : Hid (∀ u, Calls Tryz.prog 72 #[.agg #[.int .i64 k0, .int .i64 n0, .complex .f64 0 0, .string ⟨#[]⟩]] u fun e w' => e = .returned (.bool true) ∧ Below u.heap.size u w') := hm0
  have HM1 : Hid (∀ u, Calls Tryz.prog 72 #[.agg #[.int .i64 k1, .int .i64 n1, .complex .f64 0 0, .string ⟨#[]⟩]] u fun e w' => e = .returned (.bool true) ∧ Below u.heap.size u w') := hm1
  have hlt := lt_of hv
  have HV : Hid (∀ u, Below w.heap.size w u → u.heap[b]? = some (twoO k0 n0 k1 n1)) := fun u hu => (hu.block b hlt).trans hv
  obtain ⟨h0, h1, h2, h3, h4, h5, h6, h7⟩ := two_cells hv
  clear hm0 hm1 hv
  have hsl := @store_law
  go_enter Tryz.func51, Tryz.ntmps51
  go_wp2_with fail
  refine wp_loop_rounds 3 ?_
  rw [rounds_succ]
  go_wp2_with (go_at_call 72; go_must (refine (HM0.out _).mono ?_; rintro e w1 ⟨rfl, hw1⟩))
  have HB1 : Hid (Below w.heap.size w w1) := ((Below.refl _ w).alloc (Nat.le_refl _) _).trans (hw1.mono (by simp))
  obtain ⟨i0, i1, i2, i3, i4, i5, i6, i7⟩ := two_cells (HV.out w1 HB1.out)
  have hlt1 : b < w1.heap.size := Nat.lt_of_lt_of_le hlt HB1.out.size
  clear hw1 HM0
  rw [rounds_succ]
  go_wp2_with (go_at_call 72; go_must (refine (HM1.out _).mono ?_; rintro e w2 ⟨rfl, hw2⟩))
  have HB2 : Hid (Below w.heap.size w w2) := HB1.out.trans (((Below.refl _ w1).alloc (Nat.le_refl _) _).trans (hw2.mono (by simp)) |>.mono HB1.out.size)
  clear hw2
  rw [rounds_succ]
  go_wp2_with fail
  go_ret2
  exact ⟨rfl, HB2.out⟩

/-- the chapter's example -/
def exT : Tab := ⟨⟨#[116]⟩, [(⟨#[97]⟩, 2), (⟨#[98]⟩, 5)], 1, [⟨⟨#[105]⟩, [1], false⟩]⟩
theorem exT_may : exT.may = true := by decide
theorem exT_rg : Rg exT := by
  have h := (may_parts exT_may).ok
  exact ⟨h.nm, h.co.2, h.key, fun x hx => ⟨(h.ix.2 x hx).1, (h.ix.2 x hx).2.2⟩⟩

theorem exT_cells {w0 : World} {cv iv : Value} (h : TabV w0 cv iv exT) : ∃ ab off cc ia ic, cv = .slice (some ⟨ab, off, none⟩) 2 cc ∧ iv = .slice ia 1 ic ∧ ab < w0.heap.size ∧ 2 ≤ cc ∧ ∀ u, Below w0.heap.size w0 u → u.cell? ⟨ab, off + 1, none⟩ = some (.int .i64 2) := by
  obtain ⟨h1, X, h2, h3, _⟩ := h
  obtain ⟨a, c, e, hl, _, hx⟩ := id h1
  obtain ⟨b, off, rfl, hb, hc⟩ := hx (by decide)
  obtain ⟨a', c', e', _⟩ := h2
  have hX : X.length = 1 := by rw [← List.length_map (f := Iv.ix), h3]; rfl
  rw [hX] at e'
  refine ⟨b, off, c, a', c', e, e', hb, hl, fun u hu => ?_⟩
  rw [hu.cell (p := ⟨b, off + 1, none⟩) hb]
  exact hc 0 (by decide) 1 _ rfl

set_option maxRecDepth 100000 in
set_option maxHeartbeats 1000000 in
theorem fits_ok (rb : Nat) (cv iv : Value) (w : World) (h0 : TabV w cv iv exT) (hrow : w.heap[rb]? = some (twoO 2 5 0 0)) :
    Calls Tryz.prog 33 #[tabVal cv iv exT, .slice (some ⟨rb, 0, none⟩) 2 2] w fun e w' => e = .returned (.int .i64 0) ∧ Below w.heap.size w w' := by
  have HCk : Hid (∀ u, Below w.heap.size w u → Calls Tryz.prog 25 #[tabVal cv iv exT] u fun e w' => e = .returned (.int .i64 0) ∧ Below u.heap.size u w') := fun u hu => by
    have := check_any cv iv exT u w hu h0 exT_rg
    rw [chk_yes exT_may] at this
    exact this
  have HR : Hid (∀ u, Below w.heap.size w u → u.heap[rb]? = some (twoO 2 5 0 0)) := fun u hu => (hu.block rb (lt_of hrow)).trans hrow
  have HV : Hid (∀ u, Below w.heap.size w u → Calls Tryz.prog 51 #[.slice (some ⟨rb, 0, none⟩) 2 2] u fun e w' => e = .returned (.tuple #[.int .i64 0, .int .i64 0]) ∧ Below u.heap.size u w') := fun u hu => check_two rb 2 5 0 0 u (HR.out u hu) (mayBe_int 5) mayBe_null
  obtain ⟨ab, off, cc, ia, ic, rfl, rfl, hab, hcc, hcol⟩ := exT_cells h0
  have HCol : Hid (∀ u, Below w.heap.size w u → u.cell? ⟨ab, off + 1, none⟩ = some (.int .i64 2)) := hcol
  have hrl := lt_of hrow
  unfold tabVal exT at HCk ⊢
  dsimp only at HCk ⊢
  have hsl := @store_law
  obtain ⟨w1, hw1⟩ : ∃ w1, w.alloc (.cells #[.string ⟨#[116]⟩, .slice (some ⟨ab, off, none⟩) 2 cc, .int .i64 1, .slice ia 1 ic] 32) = w1 := ⟨_, rfl⟩
  have hx1 : w1.heap[w.heap.size]? = some (.cells #[.string ⟨#[116]⟩, .slice (some ⟨ab, off, none⟩) 2 cc, .int .i64 1, .slice ia 1 ic] 32) := by rw [← hw1]; exact heap_new w _
  have HB1 : Hid (Below w.heap.size w w1) := by show Below _ _ _; rw [← hw1]; exact (Below.refl _ _).alloc (Nat.le_refl _) _
  obtain ⟨xb, hxb⟩ : ∃ xb, w.heap.size = xb := ⟨_, rfl⟩
  have HX : Hid (∀ u, Below w1.heap.size w1 u → Below w.heap.size w u ∧ u.cell? ⟨xb, 0, none⟩ = some (.string ⟨#[116]⟩) ∧ u.cell? ⟨xb, 1, none⟩ = some (.slice (some ⟨ab, off, none⟩) 2 cc) ∧ u.cell? ⟨xb, 2, none⟩ = some (.int .i64 1) ∧ u.cell? ⟨xb, 3, none⟩ = some (.slice ia 1 ic) ∧ xb < u.heap.size) := fun u hu => by
    have e := (hu.block _ (lt_of hx1)).trans hx1
    rw [hxb] at e
    exact ⟨HB1.out.trans (hu.mono HB1.out.size), by rw [cell_of e]; rfl, by rw [cell_of e]; rfl, by rw [cell_of e]; rfl, by rw [cell_of e]; rfl, lt_of e⟩
  obtain ⟨-, c0, c1, c2, c3, c4⟩ := HX.out w1 (Below.refl _ _)
  clear hcol hrow h0 hx1
  go_enter Tryz.func33, Tryz.ntmps33
  go_wp2_with (first
    | (go_at_call 25; go_must (refine (HCk.out _ HB1.out).mono ?_; rintro e w2 ⟨rfl, hb2⟩; obtain ⟨B2, d0, d1, d2, d3, d4⟩ := HX.out w2 hb2))
    | (go_at_call 51; go_must (refine (HV.out _ B2).mono ?_; rintro e w3 ⟨rfl, hb3⟩)))
  obtain ⟨B3, e0, e1, e2, e3, e4⟩ := HX.out w3 (hb2.trans (hb3.mono hb2.size))
  obtain ⟨r0, r1, r2, r3, r4, r5, r6, r7⟩ := two_cells (HR.out w3 B3)
  have rc := HCol.out w3 B3
  have hrl3 : rb < w3.heap.size := Nat.lt_of_lt_of_le hrl B3.size
  have habl3 : ab < w3.heap.size := Nat.lt_of_lt_of_le hab B3.size
  refine wp_loop_rounds 3 ?_
  rw [rounds_succ]
  go_wp2_with fail
  go_quiet (fail)
  go_wp2_with fail
  rw [rounds_succ]
  go_wp2_with fail
  rw [rounds_succ]
  go_wp2_with fail
  go_ret
  refine ⟨rfl, B3.trans (Below.mono ?_ B3.size)⟩
  (go_grown) <;> exact ((Below.refl _ w3).alloc (Nat.le_refl _) _).trans ((below_drewN _ _).mono (by simp))

set_option maxRecDepth 100000 in
set_option maxHeartbeats 1000000 in
theorem fits_no (rb : Nat) (cv iv : Value) (w : World) (h0 : TabV w cv iv exT) (hrow : w.heap[rb]? = some (twoO 0 0 0 0)) :
    Calls Tryz.prog 33 #[tabVal cv iv exT, .slice (some ⟨rb, 0, none⟩) 2 2] w fun e w' => e = .returned (.int .i64 150) ∧ Below w.heap.size w w' := by
  have HCk : Hid (∀ u, Below w.heap.size w u → Calls Tryz.prog 25 #[tabVal cv iv exT] u fun e w' => e = .returned (.int .i64 0) ∧ Below u.heap.size u w') := fun u hu => by
    have := check_any cv iv exT u w hu h0 exT_rg
    rw [chk_yes exT_may] at this
    exact this
  have HR : Hid (∀ u, Below w.heap.size w u → u.heap[rb]? = some (twoO 0 0 0 0)) := fun u hu => (hu.block rb (lt_of hrow)).trans hrow
  have HV : Hid (∀ u, Below w.heap.size w u → Calls Tryz.prog 51 #[.slice (some ⟨rb, 0, none⟩) 2 2] u fun e w' => e = .returned (.tuple #[.int .i64 0, .int .i64 0]) ∧ Below u.heap.size u w') := fun u hu => check_two rb 0 0 0 0 u (HR.out u hu) mayBe_null mayBe_null
  obtain ⟨ab, off, cc, ia, ic, rfl, rfl, hab, hcc, hcol⟩ := exT_cells h0
  have HCol : Hid (∀ u, Below w.heap.size w u → u.cell? ⟨ab, off + 1, none⟩ = some (.int .i64 2)) := hcol
  have hrl := lt_of hrow
  unfold tabVal exT at HCk ⊢
  dsimp only at HCk ⊢
  have hsl := @store_law
  obtain ⟨w1, hw1⟩ : ∃ w1, w.alloc (.cells #[.string ⟨#[116]⟩, .slice (some ⟨ab, off, none⟩) 2 cc, .int .i64 1, .slice ia 1 ic] 32) = w1 := ⟨_, rfl⟩
  have hx1 : w1.heap[w.heap.size]? = some (.cells #[.string ⟨#[116]⟩, .slice (some ⟨ab, off, none⟩) 2 cc, .int .i64 1, .slice ia 1 ic] 32) := by rw [← hw1]; exact heap_new w _
  have HB1 : Hid (Below w.heap.size w w1) := by show Below _ _ _; rw [← hw1]; exact (Below.refl _ _).alloc (Nat.le_refl _) _
  obtain ⟨xb, hxb⟩ : ∃ xb, w.heap.size = xb := ⟨_, rfl⟩
  have HX : Hid (∀ u, Below w1.heap.size w1 u → Below w.heap.size w u ∧ u.cell? ⟨xb, 0, none⟩ = some (.string ⟨#[116]⟩) ∧ u.cell? ⟨xb, 1, none⟩ = some (.slice (some ⟨ab, off, none⟩) 2 cc) ∧ u.cell? ⟨xb, 2, none⟩ = some (.int .i64 1) ∧ u.cell? ⟨xb, 3, none⟩ = some (.slice ia 1 ic) ∧ xb < u.heap.size) := fun u hu => by
    have e := (hu.block _ (lt_of hx1)).trans hx1
    rw [hxb] at e
    exact ⟨HB1.out.trans (hu.mono HB1.out.size), by rw [cell_of e]; rfl, by rw [cell_of e]; rfl, by rw [cell_of e]; rfl, by rw [cell_of e]; rfl, lt_of e⟩
  obtain ⟨-, c0, c1, c2, c3, c4⟩ := HX.out w1 (Below.refl _ _)
  clear hcol hrow h0 hx1
  go_enter Tryz.func33, Tryz.ntmps33
  go_wp2_with (first
    | (go_at_call 25; go_must (refine (HCk.out _ HB1.out).mono ?_; rintro e w2 ⟨rfl, hb2⟩; obtain ⟨B2, d0, d1, d2, d3, d4⟩ := HX.out w2 hb2))
    | (go_at_call 51; go_must (refine (HV.out _ B2).mono ?_; rintro e w3 ⟨rfl, hb3⟩)))
  obtain ⟨B3, e0, e1, e2, e3, e4⟩ := HX.out w3 (hb2.trans (hb3.mono hb2.size))
  obtain ⟨r0, r1, r2, r3, r4, r5, r6, r7⟩ := two_cells (HR.out w3 B3)
  have rc := HCol.out w3 B3
  have hrl3 : rb < w3.heap.size := Nat.lt_of_lt_of_le hrl B3.size
  have habl3 : ab < w3.heap.size := Nat.lt_of_lt_of_le hab B3.size
  refine wp_loop_rounds 3 ?_
  rw [rounds_succ]
  go_wp2_with fail
  go_quiet (fail)
  go_wp2_with fail
  go_ret
  refine ⟨rfl, B3.trans (Below.mono ?_ B3.size)⟩
  (go_grown) <;> exact ((Below.refl _ w3).alloc (Nat.le_refl _) _).trans ((below_drewN _ _).mono (by simp))

end Go.Proofs.YtnboanlhdllhnaaGreat
