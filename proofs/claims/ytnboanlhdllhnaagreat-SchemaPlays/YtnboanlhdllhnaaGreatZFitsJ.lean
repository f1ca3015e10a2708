import Derived.Test.YtnboanlhdllhnaaGreatKVal
import Derived.Test.YtnboanlhdllhnaaGreatZNamesJ
import Derived.Test.YtnboanlhdllhnaaGreatZNamesC
/- The program's Fits, at the two rows of the chapter's example. -/
namespace Go.Proofs.YtnboanlhdllhnaaGreat
open Go.RowKit

set_option maxHeartbeats 400000 in
theorem mayBe_null (w : World) : Calls Tryz.prog 72 #[val 0 0 ByteArray.empty] w fun e w' => e = .returned (.bool true) ∧ Below w.heap.size w w' := by
  unfold val
  go_enter Tryz.func72, Tryz.ntmps72
  go_wp2_with (go_at_call 95; refine (nothing_any _).mono ?_; rintro e w' ⟨rfl, rfl⟩)
  go_ret
  refine ⟨rfl, ?_⟩
  go_grown

/-- a block of two values -/
abbrev twoO (k0 n0 k1 n1 : Int) : Obj := .cells #[.int .i64 k0, .int .i64 n0, .complex .f64 0 0, .string ⟨#[]⟩, .int .i64 k1, .int .i64 n1, .complex .f64 0 0, .string ⟨#[]⟩] 79

theorem two_cells {w : World} {b : Nat} {k0 n0 k1 n1 : Int} (h : w.heap[b]? = some (twoO k0 n0 k1 n1)) :
    w.cell? ⟨b, 0, none⟩ = some (.int .i64 k0) ∧ w.cell? ⟨b, 1, none⟩ = some (.int .i64 n0) ∧ w.cell? ⟨b, 2, none⟩ = some (.complex .f64 0 0) ∧ w.cell? ⟨b, 3, none⟩ = some (.string ⟨#[]⟩) ∧
    w.cell? ⟨b, 4, none⟩ = some (.int .i64 k1) ∧ w.cell? ⟨b, 5, none⟩ = some (.int .i64 n1) ∧ w.cell? ⟨b, 6, none⟩ = some (.complex .f64 0 0) ∧ w.cell? ⟨b, 7, none⟩ = some (.string ⟨#[]⟩) := by
  refine ⟨?_, ?_, ?_, ?_, ?_, ?_, ?_, ?_⟩ <;> (rw [cell_of h]; rfl)

set_option maxRecDepth 100000 in
set_option maxHeartbeats 1000000 in
theorem check_two (b : Nat) (k0 n0 k1 n1 : Int) (w : World) (hv : w.heap[b]? = some (twoO k0 n0 k1 n1))
    (hm0 : ∀ u, Calls Tryz.prog 72 #[val k0 n0 ByteArray.empty] u fun e w' => e = .returned (.bool true) ∧ Below u.heap.size u w')
    (hm1 : ∀ u, Calls Tryz.prog 72 #[val k1 n1 ByteArray.empty] u fun e w' => e = .returned (.bool true) ∧ Below u.heap.size u w') :
    Calls Tryz.prog 51 #[.slice (some ⟨b, 0, none⟩) 2 2] w fun e w' => e = .returned (.tuple #[.int .i64 0, .int .i64 0]) ∧ Below w.heap.size w w' := by
  have HM0 : Hid (∀ u, Calls Tryz.prog 72 #[.agg #[.int .i64 k0, .int .i64 n0, .complex .f64 0 0, .string ⟨#[]⟩]] u fun e w' => e = .returned (.bool true) ∧ Below u.heap.size u w') := hm0
  have HM1 : Hid (∀ u, Calls Tryz.prog 72 #[.agg #[.int .i64 k1, .int .i64 n1, .complex .f64 0 0, .string ⟨#[]⟩]] u fun e w' => e = .returned (.bool true) ∧ Below u.heap.size u w') := hm1
  have hlt := lt_of hv
  have HV : Hid (∀ u, Below w.heap.size w u → u.heap[b]? = some (twoO k0 n0 k1 n1)) := fun u hu => (hu.block b hlt).trans hv
  obtain ⟨h0, h1, h2, h3, h4, h5, h6, h7⟩ := two_cells hv
  clear hm0 hm1 hv
  have hsl := @store_law
  go_enter Tryz.func51, Tryz.ntmps51
  go_wp2_with fail
  refine wp_loop_rounds 3 ?_
  rw [rounds_succ]
  go_wp2_with (go_at_call 72; go_must (refine (HM0.out _).mono ?_; rintro e w1 ⟨rfl, hw1⟩))
  have HB1 : Hid (Below w.heap.size w w1) := ((Below.refl _ w).alloc (Nat.le_refl _) _).trans (hw1.mono (by simp))
  obtain ⟨i0, i1, i2, i3, i4, i5, i6, i7⟩ := two_cells (HV.out w1 HB1.out)
  have hlt1 : b < w1.heap.size := Nat.lt_of_lt_of_le hlt HB1.out.size
  clear hw1 HM0
  rw [rounds_succ]
  go_wp2_with (go_at_call 72; go_must (refine (HM1.out _).mono ?_; rintro e w2 ⟨rfl, hw2⟩))
  have HB2 : Hid (Below w.heap.size w w2) := HB1.out.trans (((Below.refl _ w1).alloc (Nat.le_refl _) _).trans (hw2.mono (by simp)) |>.mono HB1.out.size)
  clear hw2
  rw [rounds_succ]
  go_wp2_with fail
  go_ret2
  exact ⟨rfl, HB2.out⟩

/-- the chapter's example -/
def exT : Tab := ⟨⟨#[116]⟩, [(⟨#[97]⟩, 2), (⟨#[98]⟩, 5)], 1, [⟨⟨#[105]⟩, [1], false⟩]⟩
theorem exT_may : exT.may = true := by decide
theorem exT_rg : Rg exT := by
  have h := (may_parts exT_may).ok
  exact ⟨h.nm, h.co.2, h.key, fun x hx => ⟨(h.ix.2 x hx).1, (h.ix.2 x hx).2.2⟩⟩

theorem exT_cells {w0 : World} {cv iv : Value} (h : TabV w0 cv iv exT) : ∃ ab off cc ia ic, cv = .slice (some ⟨ab, off, none⟩) 2 cc ∧ iv = .slice ia 1 ic ∧ ab < w0.heap.size ∧ 2 ≤ cc ∧ ∀ u, Below w0.heap.size w0 u → u.cell? ⟨ab, off + 1, none⟩ = some (.int .i64 2) := by
  obtain ⟨h1, X, h2, h3, _⟩ := h
  obtain ⟨a, c, e, hl, _, hx⟩ := id h1
  obtain ⟨b, off, rfl, hb, hc⟩ := hx (by decide)
  obtain ⟨a', c', e', _⟩ := h2
  have hX : X.length = 1 := by rw [← List.length_map (f := Iv.ix), h3]; rfl
  rw [hX] at e'
  refine ⟨b, off, c, a', c', e, e', hb, hl, fun u hu => ?_⟩
  rw [hu.cell (p := ⟨b, off + 1, none⟩) hb]
  exact hc 0 (by decide) 1 _ rfl

set_option maxRecDepth 100000 in
set_option maxHeartbeats 1000000 in
theorem fits_ok (rb : Nat) (cv iv : Value) (w : World) (h0 : TabV w cv iv exT) (hrow : w.heap[rb]? = some (twoO 2 5 0 0)) :
    Calls Tryz.prog 33 #[tabVal cv iv exT, .slice (some ⟨rb, 0, none⟩) 2 2] w fun e w' => e = .returned (.int .i64 0) ∧ Below w.heap.size w w' := by
  have HCk : Hid (∀ u, Below w.heap.size w u → Calls Tryz.prog 25 #[tabVal cv iv exT] u fun e w' => e = .returned (.int .i64 0) ∧ Below u.heap.size u w') := fun u hu => by
    have := check_any cv iv exT u w hu h0 exT_rg
    rw [chk_yes exT_may] at this
    exact this
  have HR : Hid (∀ u, Below w.heap.size w u → u.heap[rb]? = some (twoO 2 5 0 0)) := fun u hu => (hu.block rb (lt_of hrow)).trans hrow
  have HV : Hid (∀ u, Below w.heap.size w u → Calls Tryz.prog 51 #[.slice (some ⟨rb, 0, none⟩) 2 2] u fun e w' => e = .returned (.tuple #[.int .i64 0, .int .i64 0]) ∧ Below u.heap.size u w') := fun u hu => check_two rb 2 5 0 0 u (HR.out u hu) (mayBe_int 5) mayBe_null
  obtain ⟨ab, off, cc, ia, ic, rfl, rfl, hab, hcc, hcol⟩ := exT_cells h0
  have HCol : Hid (∀ u, Below w.heap.size w u → u.cell? ⟨ab, off + 1, none⟩ = some (.int .i64 2)) := hcol
  have hrl := lt_of hrow
  unfold tabVal exT at HCk ⊢
  dsimp only at HCk ⊢
  have hsl := @store_law
  obtain ⟨w1, hw1⟩ : ∃ w1, w.alloc (.cells #[.string ⟨#[116]⟩, .slice (some ⟨ab, off, none⟩) 2 cc, .int .i64 1, .slice ia 1 ic] 32) = w1 := ⟨_, rfl⟩
  have hx1 : w1.heap[w.heap.size]? = some (.cells #[.string ⟨#[116]⟩, .slice (some ⟨ab, off, none⟩) 2 cc, .int .i64 1, .slice ia 1 ic] 32) := by rw [← hw1]; exact heap_new w _
  have HB1 : Hid (Below w.heap.size w w1) := by show Below _ _ _; rw [← hw1]; exact (Below.refl _ _).alloc (Nat.le_refl _) _
  obtain ⟨xb, hxb⟩ : ∃ xb, w.heap.size = xb := ⟨_, rfl⟩
  have HX : Hid (∀ u, Below w1.heap.size w1 u → Below w.heap.size w u ∧ u.cell? ⟨xb, 0, none⟩ = some (.string ⟨#[116]⟩) ∧ u.cell? ⟨xb, 1, none⟩ = some (.slice (some ⟨ab, off, none⟩) 2 cc) ∧ u.cell? ⟨xb, 2, none⟩ = some (.int .i64 1) ∧ u.cell? ⟨xb, 3, none⟩ = some (.slice ia 1 ic) ∧ xb < u.heap.size) := fun u hu => by
    have e := (hu.block _ (lt_of hx1)).trans hx1
    rw [hxb] at e
    exact ⟨HB1.out.trans (hu.mono HB1.out.size), by rw [cell_of e]; rfl, by rw [cell_of e]; rfl, by rw [cell_of e]; rfl, by rw [cell_of e]; rfl, lt_of e⟩
  obtain ⟨-, c0, c1, c2, c3, c4⟩ := HX.out w1 (Below.refl _ _)
  clear hcol hrow h0 hx1
  go_enter Tryz.func33, Tryz.ntmps33
  go_wp2_with (first
    | (go_at_call 25; go_must (refine (HCk.out _ HB1.out).mono ?_; rintro e w2 ⟨rfl, hb2⟩; obtain ⟨B2, d0, d1, d2, d3, d4⟩ := HX.out w2 hb2))
    | (go_at_call 51; go_must (refine (HV.out _ B2).mono ?_; rintro e w3 ⟨rfl, hb3⟩)))
  obtain ⟨B3, e0, e1, e2, e3, e4⟩ := HX.out w3 (hb2.trans (hb3.mono hb2.size))
  obtain ⟨r0, r1, r2, r3, r4, r5, r6, r7⟩ := two_cells (HR.out w3 B3)
  have rc := HCol.out w3 B3
  have hrl3 : rb < w3.heap.size := Nat.lt_of_lt_of_le hrl B3.size
  have habl3 : ab < w3.heap.size := Nat.lt_of_lt_of_le hab B3.size
  refine wp_loop_rounds 3 ?_
  rw [rounds_succ]
  go_wp2_with fail
  go_quiet (fail)
  go_wp2_with fail
  rw [rounds_succ]
  go_wp2_with fail
  rw [rounds_succ]
  go_wp2_with fail
  go_ret
  refine ⟨rfl, B3.trans (Below.mono ?_ B3.size)⟩
  (go_grown) <;> exact ((Below.refl _ w3).alloc (Nat.le_refl _) _).trans ((below_drewN _ _).mono (by simp))

set_option maxRecDepth 100000 in
set_option maxHeartbeats 1000000 in
theorem fits_no (rb : Nat) (cv iv : Value) (w : World) (h0 : TabV w cv iv exT) (hrow : w.heap[rb]? = some (twoO 0 0 0 0)) :
    Calls Tryz.prog 33 #[tabVal cv iv exT, .slice (some ⟨rb, 0, none⟩) 2 2] w fun e w' => e = .returned (.int .i64 150) ∧ Below w.heap.size w w' := by
  have HCk : Hid (∀ u, Below w.heap.size w u → Calls Tryz.prog 25 #[tabVal cv iv exT] u fun e w' => e = .returned (.int .i64 0) ∧ Below u.heap.size u w') := fun u hu => by
    have := check_any cv iv exT u w hu h0 exT_rg
    rw [chk_yes exT_may] at this
    exact this
  have HR : Hid (∀ u, Below w.heap.size w u → u.heap[rb]? = some (twoO 0 0 0 0)) := fun u hu => (hu.block rb (lt_of hrow)).trans hrow
  have HV : Hid (∀ u, Below w.heap.size w u → Calls Tryz.prog 51 #[.slice (some ⟨rb, 0, none⟩) 2 2] u fun e w' => e = .returned (.tuple #[.int .i64 0, .int .i64 0]) ∧ Below u.heap.size u w') := fun u hu => check_two rb 0 0 0 0 u (HR.out u hu) mayBe_null mayBe_null
  obtain ⟨ab, off, cc, ia, ic, rfl, rfl, hab, hcc, hcol⟩ := exT_cells h0
  have HCol : Hid (∀ u, Below w.heap.size w u → u.cell? ⟨ab, off + 1, none⟩ = some (.int .i64 2)) := hcol
  have hrl := lt_of hrow
  unfold tabVal exT at HCk ⊢
  dsimp only at HCk ⊢
  have hsl := @store_law
  obtain ⟨w1, hw1⟩ : ∃ w1, w.alloc (.cells #[.string ⟨#[116]⟩, .slice (some ⟨ab, off, none⟩) 2 cc, .int .i64 1, .slice ia 1 ic] 32) = w1 := ⟨_, rfl⟩
  have hx1 : w1.heap[w.heap.size]? = some (.cells #[.string ⟨#[116]⟩, .slice (some ⟨ab, off, none⟩) 2 cc, .int .i64 1, .slice ia 1 ic] 32) := by rw [← hw1]; exact heap_new w _
  have HB1 : Hid (Below w.heap.size w w1) := by show Below _ _ _; rw [← hw1]; exact (Below.refl _ _).alloc (Nat.le_refl _) _
  obtain ⟨xb, hxb⟩ : ∃ xb, w.heap.size = xb := ⟨_, rfl⟩
  have HX : Hid (∀ u, Below w1.heap.size w1 u → Below w.heap.size w u ∧ u.cell? ⟨xb, 0, none⟩ = some (.string ⟨#[116]⟩) ∧ u.cell? ⟨xb, 1, none⟩ = some (.slice (some ⟨ab, off, none⟩) 2 cc) ∧ u.cell? ⟨xb, 2, none⟩ = some (.int .i64 1) ∧ u.cell? ⟨xb, 3, none⟩ = some (.slice ia 1 ic) ∧ xb < u.heap.size) := fun u hu => by
    have e := (hu.block _ (lt_of hx1)).trans hx1
    rw [hxb] at e
    exact ⟨HB1.out.trans (hu.mono HB1.out.size), by rw [cell_of e]; rfl, by rw [cell_of e]; rfl, by rw [cell_of e]; rfl, by rw [cell_of e]; rfl, lt_of e⟩
  obtain ⟨-, c0, c1, c2, c3, c4⟩ := HX.out w1 (Below.refl _ _)
  clear hcol hrow h0 hx1
  go_enter Tryz.func33, Tryz.ntmps33
  go_wp2_with (first
    | (go_at_call 25; go_must (refine (HCk.out _ HB1.out).mono ?_; rintro e w2 ⟨rfl, hb2⟩; obtain ⟨B2, d0, d1, d2, d3, d4⟩ := HX.out w2 hb2))
    | (go_at_call 51; go_must (refine (HV.out _ B2).mono ?_; rintro e w3 ⟨rfl, hb3⟩)))
  obtain ⟨B3, e0, e1, e2, e3, e4⟩ := HX.out w3 (hb2.trans (hb3.mono hb2.size))
  obtain ⟨r0, r1, r2, r3, r4, r5, r6, r7⟩ := two_cells (HR.out w3 B3)
  have rc := HCol.out w3 B3
  have hrl3 : rb < w3.heap.size := Nat.lt_of_lt_of_le hrl B3.size
  have habl3 : ab < w3.heap.size := Nat.lt_of_lt_of_le hab B3.size
  refine wp_loop_rounds 3 ?_
  rw [rounds_succ]
  go_wp2_with fail
  go_quiet (fail)
  go_wp2_with fail
  go_ret
  refine ⟨rfl, B3.trans (Below.mono ?_ B3.size)⟩
  (go_grown) <;> exact ((Below.refl _ w3).alloc (Nat.le_refl _) _).trans ((below_drewN _ _).mono (by simp))

end Go.Proofs.YtnboanlhdllhnaaGreat

/- The chapter's example works. -/
namespace Go.Proofs.YtnboanlhdllhnaaGreat
open Go.RowKit Go.Maps

theorem exT_first : crE [] exT = 0 := by unfold crE; rw [exT_may]; rfl
theorem exT_firstL : crL [] exT = [(kb exT.nm, exT)] := by unfold crL; rw [exT_first]; rfl
theorem exT_again : crE [(kb exT.nm, exT)] exT = 6 := by unfold crE; rw [exT_may]; rfl
theorem exT_againL : crL [(kb exT.nm, exT)] exT = [(kb exT.nm, exT)] := by unfold crL; rw [exT_again]; rfl
theorem exT_names : namesC [(kb exT.nm, exT)] = [⟨#[116]⟩] := by decide

abbrev colsO : Obj := .cells #[.string ⟨#[97]⟩, .int .i64 2, .string ⟨#[98]⟩, .int .i64 5] 70
abbrev numO : Obj := .cells #[.int .i64 1] 3
abbrev ixO (g : Nat) : Obj := .cells #[.string ⟨#[105]⟩, .slice (some ⟨g, 0, none⟩) 1 1, .bool false] 64

theorem exT_at {w : World} {a b d : Nat} (ha : w.heap[a]? = some colsO) (hb : w.heap[b]? = some numO) (hd : w.heap[d]? = some (ixO b)) :
    TabV w (.slice (some ⟨a, 0, none⟩) 2 2) (.slice (some ⟨d, 0, none⟩) 1 1) exT := by
  refine ⟨sliceAt_flat (en := enC) (n := 2) (L := exT.co) (cap := 2) (fun _ => rfl) ha rfl (by decide) (by decide), [⟨⟨⟨#[105]⟩, [1], false⟩, .slice (some ⟨b, 0, none⟩) 1 1⟩], sliceAt_flat (en := enX) (n := 3) (L := [⟨⟨⟨#[105]⟩, [1], false⟩, .slice (some ⟨b, 0, none⟩) 1 1⟩]) (cap := 1) (fun _ => rfl) hd rfl (Nat.le_refl _) (by decide), rfl, fun x hx => ?_⟩
  rw [List.mem_singleton.1 hx]
  exact sliceAt_flat (en := enI) (n := 1) (L := [1]) (cap := 1) (fun _ => rfl) hb rfl (by decide) (by decide)

set_option maxRecDepth 100000 in
set_option maxHeartbeats 4000000 in
theorem works_any (w : World) : Calls Tryz.prog 19 #[] w fun e w' => e = .returned (.bool true) ∧ Below w.heap.size w w' := by
  have hsl := @store_law
  obtain ⟨a, ha⟩ : ∃ a, w.heap.size = a := ⟨_, rfl⟩
  obtain ⟨w1, hw1⟩ : ∃ w1, w.alloc colsO = w1 := ⟨_, rfl⟩
  obtain ⟨w2, hw2⟩ : ∃ w2, w1.alloc numO = w2 := ⟨_, rfl⟩
  obtain ⟨w3, hw3⟩ : ∃ w3, w2.alloc (ixO (a + 1)) = w3 := ⟨_, rfl⟩
  obtain ⟨w4, hw4⟩ : ∃ w4, w3.alloc (.cells #[.string ⟨#[116]⟩, .slice (some ⟨a, 0, none⟩) 2 2, .int .i64 1, .slice (some ⟨a + 1 + 1, 0, none⟩) 1 1] 32) = w4 := ⟨_, rfl⟩
  have s1 : w1.heap.size = a + 1 := by rw [← hw1, ← ha]; simp
  have s2 : w2.heap.size = a + 1 + 1 := by rw [← hw2]; simp [s1]
  have s3 : w3.heap.size = a + 1 + 1 + 1 := by rw [← hw3]; simp [s2]
  have b1 : Below w.heap.size w w1 := by rw [← hw1]; exact (Below.refl _ _).alloc (Nat.le_refl _) _
  have b2 : Below w1.heap.size w1 w2 := by rw [← hw2]; exact (Below.refl _ _).alloc (Nat.le_refl _) _
  have b3 : Below w2.heap.size w2 w3 := by rw [← hw3]; exact (Below.refl _ _).alloc (Nat.le_refl _) _
  have b4 : Below w3.heap.size w3 w4 := by rw [← hw4]; exact (Below.refl _ _).alloc (Nat.le_refl _) _
  have x1 : w1.heap[a]? = some colsO := by rw [← hw1, ← ha]; exact heap_new w _
  have x2 : w2.heap[a + 1]? = some numO := by rw [← s1, ← hw2]; exact heap_new w1 _
  have x3 : w3.heap[a + 1 + 1]? = some (ixO (a + 1)) := by rw [← s2, ← hw3]; exact heap_new w2 _
  have x4 : w4.heap[a + 1 + 1 + 1]? = some (.cells #[.string ⟨#[116]⟩, .slice (some ⟨a, 0, none⟩) 2 2, .int .i64 1, .slice (some ⟨a + 1 + 1, 0, none⟩) 1 1] 32) := by rw [← s3, ← hw4]; exact heap_new w3 _
  have b24 : Below w2.heap.size w2 w4 := b3.trans (b4.mono (by omega))
  have b14 : Below w1.heap.size w1 w4 := b2.trans (b24.mono (by omega))
  have HB4 : Hid (Below w.heap.size w w4) := b1.trans (b14.mono (by omega))
  have hT4 : TabV w4 (.slice (some ⟨a, 0, none⟩) 2 2) (.slice (some ⟨a + 1 + 1, 0, none⟩) 1 1) exT := exT_at ((b14.block _ (by omega)).trans x1) ((b24.block _ (by omega)).trans x2) ((b4.block _ (by omega)).trans x3)
  have HBox : Hid (∀ u, Below w4.heap.size w4 u → u.cell? ⟨a + 1 + 1 + 1, 0, none⟩ = some (.string ⟨#[116]⟩) ∧ u.cell? ⟨a + 1 + 1 + 1, 1, none⟩ = some (.slice (some ⟨a, 0, none⟩) 2 2) ∧ u.cell? ⟨a + 1 + 1 + 1, 2, none⟩ = some (.int .i64 1) ∧ u.cell? ⟨a + 1 + 1 + 1, 3, none⟩ = some (.slice (some ⟨a + 1 + 1, 0, none⟩) 1 1)) := fun u hu => by
    have e := (hu.block _ (lt_of x4)).trans x4
    exact ⟨by rw [cell_of e]; rfl, by rw [cell_of e]; rfl, by rw [cell_of e]; rfl, by rw [cell_of e]; rfl⟩
  obtain ⟨tv, htv⟩ : ∃ tv, Value.agg #[.string ⟨#[116]⟩, .slice (some ⟨a, 0, none⟩) 2 2, .int .i64 1, .slice (some ⟨a + 1 + 1, 0, none⟩) 1 1] = tv := ⟨_, rfl⟩
  have htv' : tabVal (.slice (some ⟨a, 0, none⟩) 2 2) (.slice (some ⟨a + 1 + 1, 0, none⟩) 1 1) exT = .agg #[.string ⟨#[116]⟩, .slice (some ⟨a, 0, none⟩) 2 2, .int .i64 1, .slice (some ⟨a + 1 + 1, 0, none⟩) 1 1] := rfl
  obtain ⟨L1, hL1⟩ : ∃ L1, [(kb exT.nm, exT)] = L1 := ⟨_, rfl⟩
  have HN : Hid (Calls Tryz.prog 6 #[] w4 fun e w' => ∃ c, e = .returned (.pointer (some ⟨c, 0, none⟩)) ∧ Hid (Stand (CatI c []) w4 w' [])) := (new_any w4).mono fun e w' ⟨c, e1, e2⟩ => by
    obtain ⟨F, h1, h2, h3⟩ := e2.out
    exact ⟨c, e1, Stand.start h1 h2 h3⟩
  have key : ∀ (L L' : Cat) (E : Int), crE L exT = E → crL L exT = L' → ∀ u c, Stand (CatI c L) w4 u [] → Calls Tryz.prog 9 #[.pointer (some ⟨c, 0, none⟩), .agg #[.string ⟨#[116]⟩, .slice (some ⟨a, 0, none⟩) 2 2, .int .i64 1, .slice (some ⟨a + 1 + 1, 0, none⟩) 1 1]] u fun e w' => e = .returned (.int .i64 E) ∧ Hid (Stand (CatI c L') w4 w' []) := fun L L' E hE hL' u c hu => by
    obtain ⟨F, k1, k2, k3⟩ := Stand.callF (I' := CatI c L') hu
    have := create_any c L _ _ exT u w4 F hu.base hT4 exT_rg (by decide) k1
    rw [htv'] at this
    refine this.mono fun e w' ⟨e1, e2⟩ => ?_
    rw [hE] at e1
    rw [hL'] at e2
    exact ⟨e1, k3 w' e2⟩
  have HC1 : Hid (∀ u c, Stand (CatI c []) w4 u [] → Calls Tryz.prog 9 #[.pointer (some ⟨c, 0, none⟩), .agg #[.string ⟨#[116]⟩, .slice (some ⟨a, 0, none⟩) 2 2, .int .i64 1, .slice (some ⟨a + 1 + 1, 0, none⟩) 1 1]] u fun e w' => e = .returned (.int .i64 0) ∧ Hid (Stand (CatI c L1) w4 w' [])) := key [] L1 0 exT_first (by rw [← hL1]; exact exT_firstL)
  have HC2 : Hid (∀ u c, Stand (CatI c L1) w4 u [] → Calls Tryz.prog 9 #[.pointer (some ⟨c, 0, none⟩), .agg #[.string ⟨#[116]⟩, .slice (some ⟨a, 0, none⟩) 2 2, .int .i64 1, .slice (some ⟨a + 1 + 1, 0, none⟩) 1 1]] u fun e w' => e = .returned (.int .i64 6) ∧ Hid (Stand (CatI c L1) w4 w' [])) := key L1 L1 6 (by rw [← hL1]; exact exT_again) (by rw [← hL1]; exact exT_againL)
  have HNm : Hid (∀ u c, Stand (CatI c L1) w4 u [] → Calls Tryz.prog 22 #[.pointer (some ⟨c, 0, none⟩)] u fun e w' => ∃ g cap, e = .returned (.slice (some ⟨g, 0, none⟩) 1 cap) ∧ w'.cell? ⟨g, 0, none⟩ = some (.string ⟨#[116]⟩) ∧ Hid (Below w4.heap.size w4 w')) := fun u c hu => by
    obtain ⟨F, k1, k2, k3⟩ := Stand.callF (I' := CatI c L1) hu
    have hnn : namesC L1 = [⟨#[116]⟩] := by rw [← hL1]; exact exT_names
    refine (names_any c L1 u F k1).mono fun e w' ⟨A, cap, e1, e2, e3⟩ => ?_
    rw [hnn] at e1 e2
    have hr := e2.out
    rcases id hr.2 with ⟨_, h2⟩ | ⟨g, cap', cur, h1, _⟩
    · simp at h2
    · cases h1
      have hc := World.ownsRow.cells hr (g := g) rfl 0 _ rfl
      rw [Addr.add_lit, Nat.zero_add] at hc
      exact ⟨g, cap, e1, hc, hu.base.trans (e3.out.mono hu.base.size)⟩
  have HF1 : Hid (∀ u, Below w4.heap.size w4 u → Calls Tryz.prog 33 #[.agg #[.string ⟨#[116]⟩, .slice (some ⟨a, 0, none⟩) 2 2, .int .i64 1, .slice (some ⟨a + 1 + 1, 0, none⟩) 1 1], .slice (some ⟨u.heap.size, 0, none⟩) 2 2] (u.alloc (twoO 2 5 0 0)) fun e w' => e = .returned (.int .i64 0) ∧ Hid (Below w4.heap.size w4 w')) := fun u hu => by
    have hb := (Below.refl _ u).alloc (Nat.le_refl _) (twoO 2 5 0 0)
    exact (fits_ok u.heap.size _ _ (u.alloc (twoO 2 5 0 0)) (hT4.below (hu.trans (hb.mono hu.size))) (heap_new u _)).mono fun e w' ⟨e1, e2⟩ => ⟨e1, (hu.trans (hb.mono hu.size)).trans (e2.mono (Nat.le_trans hu.size hb.size))⟩
  have HF2 : Hid (∀ u, Below w4.heap.size w4 u → Calls Tryz.prog 33 #[.agg #[.string ⟨#[116]⟩, .slice (some ⟨a, 0, none⟩) 2 2, .int .i64 1, .slice (some ⟨a + 1 + 1, 0, none⟩) 1 1], .slice (some ⟨u.heap.size, 0, none⟩) 2 2] (u.alloc (twoO 0 0 0 0)) fun e w' => e = .returned (.int .i64 150) ∧ Hid (Below w4.heap.size w4 w')) := fun u hu => by
    have hb := (Below.refl _ u).alloc (Nat.le_refl _) (twoO 0 0 0 0)
    exact (fits_no u.heap.size _ _ (u.alloc (twoO 0 0 0 0)) (hT4.below (hu.trans (hb.mono hu.size))) (heap_new u _)).mono fun e w' ⟨e1, e2⟩ => ⟨e1, (hu.trans (hb.mono hu.size)).trans (e2.mono (Nat.le_trans hu.size hb.size))⟩
  have hbox4 : a + 1 + 1 + 1 < w4.heap.size := lt_of x4
  have HBl : Hid (∀ u, Below w4.heap.size w4 u → a + 1 + 1 + 1 < u.heap.size) := fun u hu => Nat.lt_of_lt_of_le hbox4 hu.size
  have HBw : Hid (∀ u, Below w4.heap.size w4 u → Below w.heap.size w u) := fun u hu => HB4.out.trans (hu.mono HB4.out.size)
  clear x1 x2 x3 x4 b1 b2 b3 b4 b14 b24 hT4 htv htv' hL1 key
  go_enter Tryz.func19, Tryz.ntmps19
  go_wp2_with fail
  refine HN.out.mono ?_
  rintro e w5 ⟨c, rfl, K0⟩
  obtain ⟨p0, p1, p2, p3⟩ := HBox.out w5 K0.out.base
  have hl5 := HBl.out w5 K0.out.base
  clear HN hw1 hw2 hw3 hw4 ha s1 s2 s3
  go_wp2_with (first
    | (go_at_call 9; refine (HC2.out _ _ K1.out).mono ?_; rintro e w7 ⟨rfl, K2⟩; obtain ⟨r0, r1, r2, r3⟩ := HBox.out w7 K2.out.base; have hl7 := HBl.out w7 K2.out.base)
    | (go_at_call 9; go_must (refine (HC1.out _ _ K0.out).mono ?_; rintro e w6 ⟨rfl, K1⟩; obtain ⟨q0, q1, q2, q3⟩ := HBox.out w6 K1.out.base; have hl6 := HBl.out w6 K1.out.base))
    | (go_at_call 22; go_must (refine (HNm.out _ _ K2.out).mono ?_; rintro e w8 ⟨g, cap, rfl, n0, K3⟩; obtain ⟨t0, t1, t2, t3⟩ := HBox.out w8 K3.out; have hl8 := HBl.out w8 K3.out))
    | (go_at_call 33; refine (HF2.out _ K4.out).mono ?_; rintro e w10 ⟨rfl, K5⟩)
    | (go_at_call 33; go_must (refine (HF1.out _ K3.out).mono ?_; rintro e w9 ⟨rfl, K4⟩; obtain ⟨u0, u1, u2, u3⟩ := HBox.out w9 K4.out; have hl9 := HBl.out w9 K4.out)))
  go_ret
  exact ⟨rfl, HBw.out _ K5.out⟩

end Go.Proofs.YtnboanlhdllhnaaGreat
