/- The chapter's example works. -/
import Derived.Test.YtnboanlhdllhnaaGreatZFits
import Derived.Test.YtnboanlhdllhnaaGreatZNamesC
namespace Go.Proofs.YtnboanlhdllhnaaGreat
open Go.RowKit Go.Maps

theorem exT_first : crE [] exT = 0 := by unfold crE; rw [exT_may]; rfl
theorem exT_firstL : crL [] exT = [(kb exT.nm, exT)] := by unfold crL; rw [exT_first]; rfl
theorem exT_again : crE [(kb exT.nm, exT)] exT = 6 := by unfold crE; rw [exT_may]; rfl
theorem exT_againL : crL [(kb exT.nm, exT)] exT = [(kb exT.nm, exT)] := by unfold crL; rw [exT_again]; rfl
theorem exT_names : namesC [(kb exT.nm, exT)] = [⟨#[116]⟩] := by decide

abbrev colsO : Obj := .cells #[.string ⟨#[97]⟩, .int .i64 2, .string ⟨#[98]⟩, .int .i64 5] 70
abbrev numO : Obj := .cells #[.int .i64 1] 3
abbrev ixO (g : Nat) : Obj := .cells #[.string ⟨#[105]⟩, .slice (some ⟨g, 0, none⟩) 1 1, .bool false] 64

theorem exT_at {w : World} {a b d : Nat} (ha : w.heap[a]? = some colsO) (hb : w.heap[b]? = some numO) (hd : w.heap[d]? = some (ixO b)) :
    TabV w (.slice (some ⟨a, 0, none⟩) 2 2) (.slice (some ⟨d, 0, none⟩) 1 1) exT := by
  refine ⟨sliceAt_flat (en := enC) (n := 2) (L := exT.co) (cap := 2) (fun _ => rfl) ha rfl (by decide) (by decide), [⟨⟨⟨#[105]⟩, [1], false⟩, .slice (some ⟨b, 0, none⟩) 1 1⟩], sliceAt_flat (en := enX) (n := 3) (L := [⟨⟨⟨#[105]⟩, [1], false⟩, .slice (some ⟨b, 0, none⟩) 1 1⟩]) (cap := 1) (fun _ => rfl) hd rfl (Nat.le_refl _) (by decide), rfl, fun x hx => ?_⟩
  rw [List.mem_singleton.1 hx]
  exact sliceAt_flat (en := enI) (n := 1) (L := [1]) (cap := 1) (fun _ => rfl) hb rfl (by decide) (by decide)

set_option maxRecDepth 100000 in
set_option maxHeartbeats 4000000 in
theorem works_any (w : World) : Calls Tryz.prog 19 #[] w fun e w' => e = .returned (.bool true) ∧ Below w.heap.size w w' := by
  have hsl := @store_law
  obtain ⟨a, ha⟩ : ∃ a, w.heap.size = a := ⟨_, rfl⟩
  obtain ⟨w1, hw1⟩ : ∃ w1, w.alloc colsO = w1 := ⟨_, rfl⟩
  obtain ⟨w2, hw2⟩ : ∃ w2, w1.alloc numO = w2 := ⟨_, rfl⟩
  obtain ⟨w3, hw3⟩ : ∃ w3, w2.alloc (ixO (a + 1)) = w3 := ⟨_, rfl⟩
  obtain ⟨w4, hw4⟩ : ∃ w4, w3.alloc (.cells #[.string ⟨#[116]⟩, .slice (some ⟨a, 0, none⟩) 2 2, .int .i64 1, .slice (some ⟨a + 1 + 1, 0, none⟩) 1 1] 32) = w4 := ⟨_, rfl⟩
  have s1 : w1.heap.size = a + 1 := by rw [← hw1, ← ha]; simp
  have s2 : w2.heap.size = a + 1 + 1 := by rw [← hw2]; simp [s1]
  have s3 : w3.heap.size = a + 1 + 1 + 1 := by rw [← hw3]; simp [s2]
  have b1 : Below w.heap.size w w1 := by rw [← hw1]; exact (Below.refl _ _).alloc (Nat.le_refl _) _
  have b2 : Below w1.heap.size w1 w2 := by rw [← hw2]; exact (Below.refl _ _).alloc (Nat.le_refl _) _
  have b3 : Below w2.heap.size w2 w3 := by rw [← hw3]; exact (Below.refl _ _).alloc (Nat.le_refl _) _
  have b4 : Below w3.heap.size w3 w4 := by rw [← hw4]; exact (Below.refl _ _).alloc (Nat.le_refl _) _
  have x1 : w1.heap[a]? = some colsO := by rw [← hw1, ← ha]; exact heap_new w _
  have x2 : w2.heap[a + 1]? = some numO := by rw [← s1, ← hw2]; exact heap_new w1 _
  have x3 : w3.heap[a + 1 + 1]? = some (ixO (a + 1)) := by rw [← s2, ← hw3]; exact heap_new w2 _
  have x4 : w4.heap[a + 1 + 1 + 1]? = some (.cells #[.string ⟨#[116]⟩, .slice (some ⟨a, 0, none⟩) 2 2, .int .i64 1, .slice (some ⟨a + 1 + 1, 0, none⟩) 1 1] 32) := by rw [← s3, ← hw4]; exact heap_new w3 _
  have b24 : Below w2.heap.size w2 w4 := b3.trans (b4.mono (by omega))
  have b14 : Below w1.heap.size w1 w4 := b2.trans (b24.mono (by omega))
  have HB4 : Hid (Below w.heap.size w w4) := b1.trans (b14.mono (by omega))
  have hT4 : TabV w4 (.slice (some ⟨a, 0, none⟩) 2 2) (.slice (some ⟨a + 1 + 1, 0, none⟩) 1 1) exT := exT_at ((b14.block _ (by omega)).trans x1) ((b24.block _ (by omega)).trans x2) ((b4.block _ (by omega)).trans x3)
  have HBox : Hid (∀ u, Below w4.heap.size w4 u → u.cell? ⟨a + 1 + 1 + 1, 0, none⟩ = some (.string ⟨#[116]⟩) ∧ u.cell? ⟨a + 1 + 1 + 1, 1, none⟩ = some (.slice (some ⟨a, 0, none⟩) 2 2) ∧ u.cell? ⟨a + 1 + 1 + 1, 2, none⟩ = some (.int .i64 1) ∧ u.cell? ⟨a + 1 + 1 + 1, 3, none⟩ = some (.slice (some ⟨a + 1 + 1, 0, none⟩) 1 1)) := fun u hu => by
    have e := (hu.block _ (lt_of x4)).trans x4
    exact ⟨by rw [cell_of e]; rfl, by rw [cell_of e]; rfl, by rw [cell_of e]; rfl, by rw [cell_of e]; rfl⟩
  obtain ⟨tv, htv⟩ : ∃ tv, Value.agg #[.string ⟨#[116]⟩, .slice (some ⟨a, 0, none⟩) 2 2, .int .i64 1, .slice (some ⟨a + 1 + 1, 0, none⟩) 1 1] = tv := ⟨_, rfl⟩
  have htv' : tabVal (.slice (some ⟨a, 0, none⟩) 2 2) (.slice (some ⟨a + 1 + 1, 0, none⟩) 1 1) exT = .agg #[.string ⟨#[116]⟩, .slice (some ⟨a, 0, none⟩) 2 2, .int .i64 1, .slice (some ⟨a + 1 + 1, 0, none⟩) 1 1] := rfl
  obtain ⟨L1, hL1⟩ : ∃ L1, [(kb exT.nm, exT)] = L1 := ⟨_, rfl⟩
  have HN : Hid (Calls Tryz.prog 6 #[] w4 fun e w' => ∃ c, e = .returned (.pointer (some ⟨c, 0, none⟩)) ∧ Hid (Stand (CatI c []) w4 w' [])) := (new_any w4).mono fun e w' ⟨c, e1, e2⟩ => by
    obtain ⟨F, h1, h2, h3⟩ := e2.out
    exact ⟨c, e1, Stand.start h1 h2 h3⟩
  have key : ∀ (L L' : Cat) (E : Int), crE L exT = E → crL L exT = L' → ∀ u c, Stand (CatI c L) w4 u [] → Calls Tryz.prog 9 #[.pointer (some ⟨c, 0, none⟩), .agg #[.string ⟨#[116]⟩, .slice (some ⟨a, 0, none⟩) 2 2, .int .i64 1, .slice (some ⟨a + 1 + 1, 0, none⟩) 1 1]] u fun e w' => e = .returned (.int .i64 E) ∧ Hid (Stand (CatI c L') w4 w' []) := fun L L' E hE hL' u c hu => by
    obtain ⟨F, k1, k2, k3⟩ := Stand.callF (I' := CatI c L') hu
    have := create_any c L _ _ exT u w4 F hu.base hT4 exT_rg (by decide) k1
    rw [htv'] at this
    refine this.mono fun e w' ⟨e1, e2⟩ => ?_
    rw [hE] at e1
    rw [hL'] at e2
    exact ⟨e1, k3 w' e2⟩
  have HC1 : Hid (∀ u c, Stand (CatI c []) w4 u [] → Calls Tryz.prog 9 #[.pointer (some ⟨c, 0, none⟩), .agg #[.string ⟨#[116]⟩, .slice (some ⟨a, 0, none⟩) 2 2, .int .i64 1, .slice (some ⟨a + 1 + 1, 0, none⟩) 1 1]] u fun e w' => e = .returned (.int .i64 0) ∧ Hid (Stand (CatI c L1) w4 w' [])) := key [] L1 0 exT_first (by rw [← hL1]; exact exT_firstL)
  have HC2 : Hid (∀ u c, Stand (CatI c L1) w4 u [] → Calls Tryz.prog 9 #[.pointer (some ⟨c, 0, none⟩), .agg #[.string ⟨#[116]⟩, .slice (some ⟨a, 0, none⟩) 2 2, .int .i64 1, .slice (some ⟨a + 1 + 1, 0, none⟩) 1 1]] u fun e w' => e = .returned (.int .i64 6) ∧ Hid (Stand (CatI c L1) w4 w' [])) := key L1 L1 6 (by rw [← hL1]; exact exT_again) (by rw [← hL1]; exact exT_againL)
  have HNm : Hid (∀ u c, Stand (CatI c L1) w4 u [] → Calls Tryz.prog 22 #[.pointer (some ⟨c, 0, none⟩)] u fun e w' => ∃ g cap, e = .returned (.slice (some ⟨g, 0, none⟩) 1 cap) ∧ w'.cell? ⟨g, 0, none⟩ = some (.string ⟨#[116]⟩) ∧ Hid (Below w4.heap.size w4 w')) := fun u c hu => by
    obtain ⟨F, k1, k2, k3⟩ := Stand.callF (I' := CatI c L1) hu
    have hnn : namesC L1 = [⟨#[116]⟩] := by rw [← hL1]; exact exT_names
    refine (names_any c L1 u F k1).mono fun e w' ⟨A, cap, e1, e2, e3⟩ => ?_
    rw [hnn] at e1 e2
    have hr := e2.out
    rcases id hr.2 with ⟨_, h2⟩ | ⟨g, cap', cur, h1, _⟩
    · simp at h2
    · cases h1
      have hc := World.ownsRow.cells hr (g := g) rfl 0 _ rfl
      rw [Addr.add_lit, Nat.zero_add] at hc
      exact ⟨g, cap, e1, hc, hu.base.trans (e3.out.mono hu.base.size)⟩
  have HF1 : Hid (∀ u, Below w4.heap.size w4 u → Calls Tryz.prog 33 #[.agg #[.string ⟨#[116]⟩, .slice (some ⟨a, 0, none⟩) 2 2, .int .i64 1, .slice (some ⟨a + 1 + 1, 0, none⟩) 1 1], .slice (some ⟨u.heap.size, 0, none⟩) 2 2] (u.alloc (twoO 2 5 0 0)) fun e w' => e = .returned (.int .i64 0) ∧ Hid (Below w4.heap.size w4 w')) := fun u hu => by
    have hb := (Below.refl _ u).alloc (Nat.le_refl _) (twoO 2 5 0 0)
    exact (fits_ok u.heap.size _ _ (u.alloc (twoO 2 5 0 0)) (hT4.below (hu.trans (hb.mono hu.size))) (heap_new u _)).mono fun e w' ⟨e1, e2⟩ => ⟨e1, (hu.trans (hb.mono hu.size)).trans (e2.mono (Nat.le_trans hu.size hb.size))⟩
  have HF2 : Hid (∀ u, Below w4.heap.size w4 u → Calls Tryz.prog 33 #[.agg #[.string ⟨#[116]⟩, .slice (some ⟨a, 0, none⟩) 2 2, .int .i64 1, .slice (some ⟨a + 1 + 1, 0, none⟩) 1 1], .slice (some ⟨u.heap.size, 0, none⟩) 2 2] (u.alloc (twoO 0 0 0 0)) fun e w' => e = .returned (.int .i64 150) ∧ Hid (Below w4.heap.size w4 w')) := fun u hu => by
    have hb := (Below.refl _ u).alloc (Nat.le_refl _) (twoO 0 0 0 0)
    exact (fits_no u.heap.size _ _ (u.alloc (twoO 0 0 0 0)) (hT4.below (hu.trans (hb.mono hu.size))) (heap_new u _)).mono fun e w' ⟨e1, e2⟩ => ⟨e1, (hu.trans (hb.mono hu.size)).trans (e2.mono (Nat.le_trans hu.size hb.size))⟩
  have hbox4 : a + 1 + 1 + 1 < w4.heap.size := lt_of x4
  have HBl : Hid (∀ u, Below w4.heap.size w4 u → a + 1 + 1 + 1 < u.heap.size) := fun u hu => Nat.lt_of_lt_of_le hbox4 hu.size
  have HBw : Hid (∀ u, Below w4.heap.size w4 u → Below w.heap.size w u) := fun u hu => HB4.out.trans (hu.mono HB4.out.size)
  clear x1 x2 x3 x4 b1 b2 b3 b4 b14 b24 hT4 htv htv' hL1 key
  go_enter Tryz.func19, Tryz.ntmps19
  go_wp2_with fail
  refine HN.out.mono ?_
  rintro e w5 ⟨c, rfl, K0⟩
  obtain ⟨p0, p1, p2, p3⟩ := HBox.out w5 K0.out.base
  have hl5 := HBl.out w5 K0.out.base
  clear HN hw1 hw2 hw3 hw4 ha s1 s2 s3
  go_wp2_with (first
    | (go_at_call 9; refine (HC2.out _ _ K1.out).mono ?_; rintro e w7 ⟨rfl, K2⟩; obtain ⟨r0, r1, r2, r3⟩ := HBox.out w7 K2.out.base; have hl7 := HBl.out w7 K2.out.base)
    | (go_at_call 9; go_must (refine (HC1.out _ _ K0.out).mono ?_; rintro e w6 ⟨rfl, K1⟩; obtain ⟨q0, q1, q2, q3⟩ := HBox.out w6 K1.out.base; have hl6 := HBl.out w6 K1.out.base))
    | (go_at_call 22; go_must (refine (HNm.out _ _ K2.out).mono ?_; rintro e w8 ⟨g, cap, rfl, n0, K3⟩; obtain ⟨t0, t1, t2, t3⟩ := HBox.out w8 K3.out; have hl8 := HBl.out w8 K3.out))
    | (go_at_call 33; refine (HF2.out _ K4.out).mono ?_; rintro e w10 ⟨rfl, K5⟩)
    | (go_at_call 33; go_must (refine (HF1.out _ K3.out).mono ?_; rintro e w9 ⟨rfl, K4⟩; obtain ⟨u0, u1, u2, u3⟩ := HBox.out w9 K4.out; have hl9 := HBl.out w9 K4.out)))
  go_ret
  exact ⟨rfl, HBw.out _ K5.out⟩

end Go.Proofs.YtnboanlhdllhnaaGreat
