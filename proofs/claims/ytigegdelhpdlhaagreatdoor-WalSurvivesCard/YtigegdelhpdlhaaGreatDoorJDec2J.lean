import Derived.Test.YtigegdelhpdlhaaGreatDoorJDecPJ
import Derived.Test.YtigegdelhpdlhaaGreatDoorBase
import Derived.Test.YtigegdelhpdlhaaGreatDoorProg
import Derived.Defers
import Derived.Recover
import Derived.Handy
/- Layer 18: value.Decode of the bytes of a row of one whole number: the value, the row, the call. -/
namespace Go.Proofs.YtigegdelhpdlhaaGreatDoor
open Go.RowKit QP

theorem lo_2 : lo 2 1 = [2] := by decide
theorem lo_1 : lo 1 1 = [1] := by decide

set_option maxRecDepth 100000 in
set_option maxHeartbeats 1000000 in
theorem vvalue_any (b n : Nat) (B : List Nat) (w : World) (h : VrI b ([2] ++ (lo n 8 ++ B)) w) (hn : n < 9223372036854775808) (hB : B.length ≤ 10000) :
    Calls Tryz.prog 190 #[.pointer (some ⟨b, 0, none⟩)] w fun e w' => e = .returned (val 2 (n : Int) ByteArray.empty) ∧ VrI b B w' ∧ AtJ b w w' := by
  have hbl := lt_of h
  have H1 : Hid (∀ u, Below w.heap.size w u → Calls Tryz.prog 189 #[.pointer (some ⟨b, 0, none⟩), .int .i64 1] u fun e w' => e = .returned (.int .u64 2) ∧ Hid (VrI b (lo n 8 ++ B) w' ∧ AtJ b w w' ∧ AtJ b u w')) := fun u hu => by
    have h1 := h.below hu
    rw [← lo_2] at h1
    exact (vnumber_any b 1 2 (lo n 8 ++ B) u h1 (by decide) (by decide) (by rw [List.length_append, lo_length]; omega)).mono fun e w' ⟨e1, e2, e3⟩ => ⟨e1, e2, (Turn.ofBelow (fun i => i = b) hu).trans e3, e3⟩
  have H2 : Hid (∀ u u2, VrI b (lo n 8 ++ B) u ∧ AtJ b w u → Below u.heap.size u u2 → Calls Tryz.prog 189 #[.pointer (some ⟨b, 0, none⟩), .int .i64 8] u2 fun e w' => e = .returned (.int .u64 (n : Int)) ∧ Hid (VrI b B w' ∧ AtJ b w w' ∧ AtJ b u2 w')) := fun u u2 hu hb =>
    (vnumber_any b 8 n B u2 (hu.1.below hb) (by decide) (by omega) (by omega)).mono fun e w' ⟨e1, e2, e3⟩ => ⟨e1, e2, (hu.2.trans (Turn.ofBelow (fun i => i = b) hb)).trans e3, e3⟩
  have HB0 : Hid (∀ o, Below w.heap.size w (w.alloc o)) := fun o => (Below.refl _ _).alloc (Nat.le_refl _) o
  have hsl := @store_law
  have wn : IntKind.i64.wrap (n : Int) = (n : Int) := jwrapI (by omega) (by omega)
  unfold val
  clear h
  go_enter Tryz.func190, Tryz.ntmps190
  go_wp2_with (first
    | (go_at_call 189; (with_reducible refine (H1.out _ (HB0.out _)).mono ?_); rintro e w1 ⟨rfl, K1⟩))
  have hs1 := K1.out.2.1.size
  have hb1 : Below w1.heap.size w1 (w1.alloc (.cells #[.int .i64 2, .int .i64 0, .complex .f64 0 0, .string ⟨#[]⟩] 60)) := (Below.refl _ _).alloc (Nat.le_refl _) _
  have hboxX := heap_new w1 (.cells #[.int .i64 2, .int .i64 0, .complex .f64 0 0, .string ⟨#[]⟩] 60)
  refine (H2.out w1 _ ⟨K1.out.1, K1.out.2.1⟩ hb1).mono ?_
  rintro e w2 ⟨rfl, K2⟩
  have hX2 := (K2.out.2.2.block w1.heap.size (by simp) (by omega)).trans hboxX
  have hR1 := (K1.out.2.2.block w.heap.size (by simp) (by omega)).trans (heap_new w (.cells #[.int .i64 0, .int .i64 0, .complex .f64 0 0, .string ⟨#[]⟩] 60))
  have hu1 : w.heap.size + 1 ≤ w1.heap.size := by
    have := K1.out.2.2.size
    simpa using this
  have hR2 := (K2.out.2.2.block w.heap.size (by simp; omega) (by omega)).trans ((hb1.block w.heap.size (by omega)).trans hR1)
  have HT : Hid (VrI b B w2 ∧ AtJ b w w2) := ⟨K2.out.1, K2.out.2.1⟩
  obtain ⟨r, hr⟩ : ∃ r, w.heap.size = r := ⟨_, rfl⟩
  obtain ⟨x, hx⟩ : ∃ x, w1.heap.size = x := ⟨_, rfl⟩
  have Hrx : Hid (b < r ∧ w.heap.size = r ∧ r < x) := ⟨by omega, hr, by omega⟩
  rw [hr] at hR2 ⊢
  rw [hx] at hX2 ⊢
  have hrx : r ≠ x := by omega
  have a0 : w2.cell? ⟨x, 0, none⟩ = some (.int .i64 2) := by rw [cell_of hX2]; rfl
  have a1 : w2.cell? ⟨x, 1, none⟩ = some (.int .i64 0) := by rw [cell_of hX2]; rfl
  have a2 : w2.cell? ⟨x, 2, none⟩ = some (.complex .f64 0 0) := by rw [cell_of hX2]; rfl
  have a3 : w2.cell? ⟨x, 3, none⟩ = some (.string ⟨#[]⟩) := by rw [cell_of hX2]; rfl
  have r0 : w2.cell? ⟨r, 0, none⟩ = some (.int .i64 0) := by rw [cell_of hR2]; rfl
  have r1 : w2.cell? ⟨r, 1, none⟩ = some (.int .i64 0) := by rw [cell_of hR2]; rfl
  have r2 : w2.cell? ⟨r, 2, none⟩ = some (.complex .f64 0 0) := by rw [cell_of hR2]; rfl
  have r3 : w2.cell? ⟨r, 3, none⟩ = some (.string ⟨#[]⟩) := by rw [cell_of hR2]; rfl
  have fx := frozen_of hX2
  have fr := frozen_of hR2
  have f1 := fx 1
  have g0 := fr 0
  have g1 := fr 1
  have g2 := fr 2
  have g3 := fr 3
  have HR2 : Hid (w2.heap[r]? = some (.cells #[.int .i64 0, .int .i64 0, .complex .f64 0 0, .string ⟨#[]⟩] 60 (0, 0))) := hR2
  clear hr hx hX2 hR1 hR2 hboxX hb1 fx fr K1 K2 hs1 hu1 HB0 H1 H2
  go_wp2
  have hg : (((((w2.setCell ⟨x, 1, none⟩ (.int .i64 (n : Int))).setCell ⟨r, 0, none⟩ (.int .i64 2)).setCell ⟨r, 1, none⟩ (.int .i64 (n : Int))).setCell ⟨r, 2, none⟩ (.complex .f64 0 0)).setCell ⟨r, 3, none⟩ (.string ⟨#[]⟩)).heap[r]? = some (.cells #[.int .i64 2, .int .i64 (n : Int), .complex .f64 0 0, .string ⟨#[]⟩] 60 (0, 0)) := by
    have h0 := (Below.heap_setCell w2 ⟨x, 1, none⟩ (.int .i64 (n : Int)) r (by have := Hrx.out; show r ≠ x; omega)).trans HR2.out
    exact heap_setCell_same (heap_setCell_same (heap_setCell_same (heap_setCell_same h0 0 _) 1 _) 2 _) 3 _
  refine bodyPost_ret (results_cell_row rfl _ _ r 60 #[.int .i64 2, .int .i64 (n : Int), .complex .f64 0 0, .string ⟨#[]⟩] (0, 0) _ rfl hg Tryz.underlying60 rfl (by kernel_rfl)) rfl ?_
  have hT : Turn (fun i => w.heap.size ≤ i) w2 (((((w2.setCell ⟨x, 1, none⟩ (.int .i64 (n : Int))).setCell ⟨r, 0, none⟩ (.int .i64 2)).setCell ⟨r, 1, none⟩ (.int .i64 (n : Int))).setCell ⟨r, 2, none⟩ (.complex .f64 0 0)).setCell ⟨r, 3, none⟩ (.string ⟨#[]⟩)) := by
    obtain ⟨e1, e2, e3⟩ := Hrx.out
    have k1 : w.heap.size ≤ x := by omega
    have k2 : w.heap.size ≤ r := by omega
    exact ((((Turn.setCell w2 ⟨x, 1, none⟩ _ k1).trans (Turn.setCell _ ⟨r, 0, none⟩ _ k2)).trans (Turn.setCell _ ⟨r, 1, none⟩ _ k2)).trans (Turn.setCell _ ⟨r, 2, none⟩ _ k2)).trans (Turn.setCell _ ⟨r, 3, none⟩ _ k2)
  refine ⟨rfl, (hT.block b (lt_of HT.out.1) (by have := Hrx.out; show ¬ w.heap.size ≤ b; omega)).trans HT.out.1, HT.out.2.transNew hT (fun i hi => Or.inr hi)⟩

theorem infoV : (Tryz.prog.info? 60).map (fun i => (i.zero, i.size, i.bytes)) = some (some (.agg #[.int .i64 0, .int .i64 0, .complex .f64 0 0, .string ⟨#[]⟩]), 4, 48) := by kernel_rfl
theorem make_val1 (u : World) : (Instr.makeSlice 61 (.int .i64 1) (.int .i64 1)).run Tryz.prog u = .ok (.slice (some ⟨u.heap.size, 0, none⟩) 1 1) (u.alloc (.cells #[.int .i64 0, .int .i64 0, .complex .f64 0 0, .string ⟨#[]⟩] 60)) :=
  by
    have h := make_anyJ Tryz.underlying61 infoV u 1 (by decide) (by decide)
    have e : madeCells (Value.agg #[.int .i64 0, .int .i64 0, .complex .f64 0 0, .string ⟨#[]⟩]).cells (1 * 4) = #[.int .i64 0, .int .i64 0, .complex .f64 0 0, .string ⟨#[]⟩] := by kernel_rfl
    rw [e] at h
    exact h

set_option maxRecDepth 100000 in
set_option maxHeartbeats 1000000 in
theorem vrow_any (b n : Nat) (w : World) (h : VrI b (rowB n) w) (hn : n < 9223372036854775808) :
    Calls Tryz.prog 188 #[.pointer (some ⟨b, 0, none⟩)] w fun e w' => ∃ x, e = .returned (.slice (some ⟨x, 0, none⟩) 1 1) ∧ Hid (OneAt w' x 2 (n : Int) ByteArray.empty ∧ w.heap.size ≤ x ∧ VrI b [] w' ∧ AtJ b w w') := by
  have hbl := lt_of h
  have Hbl : Hid (b < w.heap.size) := hbl
  have e8 : rowB n = lo 1 1 ++ ([2] ++ (lo n 8 ++ [])) := by
    unfold rowB
    rw [lo_1, List.append_nil, List.append_assoc]
  rw [e8] at h
  have H1 : Hid (Calls Tryz.prog 189 #[.pointer (some ⟨b, 0, none⟩), .int .i64 1] w fun e w' => e = .returned (.int .u64 1) ∧ Hid (VrI b ([2] ++ (lo n 8 ++ [])) w' ∧ AtJ b w w')) :=
    (vnumber_any b 1 1 ([2] ++ (lo n 8 ++ [])) w h (by decide) (by decide) (by simp [lo_length])).mono fun e w' ⟨e1, e2, e3⟩ => ⟨e1, e2, e3⟩
  have H2 : Hid (∀ u, VrI b ([2] ++ (lo n 8 ++ [])) u → Calls Tryz.prog 190 #[.pointer (some ⟨b, 0, none⟩)] u fun e w' => e = .returned (.agg #[.int .i64 2, .int .i64 (n : Int), .complex .f64 0 0, .string ByteArray.empty]) ∧ Hid (VrI b [] w' ∧ AtJ b u w')) := fun u hu =>
    (vvalue_any b n [] u hu hn (by simp)).mono fun e w' ⟨e1, e2, e3⟩ => ⟨e1, e2, e3⟩
  have hmk := make_val1
  have hsl := @store_law
  clear h e8
  go_enter Tryz.func188, Tryz.ntmps188
  go_wp2_with (first
    | (go_at_call 189; (with_reducible refine H1.out.mono ?_); rintro e w1 ⟨rfl, K1⟩))
  obtain ⟨x, hx⟩ : ∃ x, w1.heap.size = x := ⟨_, rfl⟩
  have hb1 : Below w1.heap.size w1 (w1.alloc (.cells #[.int .i64 0, .int .i64 0, .complex .f64 0 0, .string ⟨#[]⟩] 60)) := (Below.refl _ _).alloc (Nat.le_refl _) _
  have hX1 := heap_new w1 (.cells #[.int .i64 0, .int .i64 0, .complex .f64 0 0, .string ⟨#[]⟩] 60)
  have hs1 := K1.out.2.size
  obtain ⟨u, hu⟩ : ∃ u, w1.alloc (.cells #[.int .i64 0, .int .i64 0, .complex .f64 0 0, .string ⟨#[]⟩] 60) = u := ⟨_, rfl⟩
  have husz : u.heap.size = x + 1 := by rw [← hu, ← hx]; simp
  rw [hx, hu] at hX1 hb1
  have HK : Hid (VrI b ([2] ++ (lo n 8 ++ [])) u ∧ AtJ b w u ∧ w.heap.size ≤ x ∧ b < x) := ⟨(hb1.block b (by omega)).trans K1.out.1, K1.out.2.trans (Turn.ofBelow (fun i => i = b) (by rw [← hx] at hb1; exact hb1)), by omega, by omega⟩
  have HX1 : Hid (u.heap[x]? = some (.cells #[.int .i64 0, .int .i64 0, .complex .f64 0 0, .string ⟨#[]⟩] 60 (0, 0))) := hX1
  have Husz : Hid (u.heap.size = x + 1) := husz
  rw [hx, hu]
  clear hx hb1 hX1 hs1 hu K1 H1 husz
  refine wp_loop_rounds 2 ?_
  rw [rounds_succ]
  go_wp2_with fail
  refine (H2.out _ HK.out.1).mono ?_
  rintro e w2 ⟨rfl, K2⟩
  have hX2 := (K2.out.2.block x (by rw [Husz.out]; omega) (by have := HK.out.2.2.2; omega)).trans HX1.out
  have a0 : w2.cell? ⟨x, 0, none⟩ = some (.int .i64 0) := by rw [cell_of hX2]; rfl
  have a1 : w2.cell? ⟨x, 1, none⟩ = some (.int .i64 0) := by rw [cell_of hX2]; rfl
  have a2 : w2.cell? ⟨x, 2, none⟩ = some (.complex .f64 0 0) := by rw [cell_of hX2]; rfl
  have a3 : w2.cell? ⟨x, 3, none⟩ = some (.string ⟨#[]⟩) := by rw [cell_of hX2]; rfl
  have f0 := frozen_of hX2 0
  have f1 := frozen_of hX2 1
  have f2 := frozen_of hX2 2
  have f3 := frozen_of hX2 3
  have HX2 : Hid (w2.heap[x]? = some (.cells #[.int .i64 0, .int .i64 0, .complex .f64 0 0, .string ⟨#[]⟩] 60 (0, 0))) := hX2
  clear hX2
  go_wp2_with fail
  rw [rounds_succ]
  go_wp2_with fail
  have hg := heap_setCell_same (heap_setCell_same (heap_setCell_same (heap_setCell_same HX2.out 0 (.int .i64 2)) 1 (.int .i64 (n : Int))) 2 (.complex .f64 0 0)) 3 (.string ByteArray.empty)
  have hT : Turn (fun i => w.heap.size ≤ i) w2 ((((w2.setCell ⟨x, 0, none⟩ (.int .i64 2)).setCell ⟨x, 1, none⟩ (.int .i64 (n : Int))).setCell ⟨x, 2, none⟩ (.complex .f64 0 0)).setCell ⟨x, 3, none⟩ (.string ByteArray.empty)) := by
    have k1 : w.heap.size ≤ x := HK.out.2.2.1
    exact (((Turn.setCell w2 ⟨x, 0, none⟩ _ k1).trans (Turn.setCell _ ⟨x, 1, none⟩ _ k1)).trans (Turn.setCell _ ⟨x, 2, none⟩ _ k1)).trans (Turn.setCell _ ⟨x, 3, none⟩ _ k1)
  have hlt := lt_of hg
  clear a0 a1 a2 a3 f0 f1 f2 f3
  go_ret
  refine ⟨x, rfl, ⟨hlt, by rw [cell_of hg]; rfl, by rw [cell_of hg]; rfl, by rw [cell_of hg]; rfl, by rw [cell_of hg]; rfl⟩, HK.out.2.2.1, ?_, ?_⟩
  · exact (hT.block b (lt_of K2.out.1) (by have h1 := Hbl.out; intro h3; omega)).trans K2.out.1
  · exact (HK.out.2.1.trans K2.out.2).transNew hT (fun i hi => Or.inr hi)

end Go.Proofs.YtigegdelhpdlhaaGreatDoor

/- Layer 18: value.Decode of the bytes of a row of one whole number. -/
namespace Go.Proofs.YtigegdelhpdlhaaGreatDoor
open Go.RowKit QP

abbrev faultZ : Value := .agg #[.int .i64 0, .int .i64 0]
theorem ofN_nil : ofN [] = ⟨#[]⟩ := rfl

set_option maxRecDepth 100000 in
set_option maxHeartbeats 1000000 in
theorem vdecode_any (n : Nat) (w : World) (hn : n < 9223372036854775808) :
    Calls Tryz.prog 185 #[.string (ofN (rowB n))] w fun e w' => ∃ x, e = .returned (.tuple #[.slice (some ⟨x, 0, none⟩) 1 1, faultZ]) ∧ Hid (OneAt w' x 2 (n : Int) ByteArray.empty ∧ w.heap.size ≤ x) ∧ Hid (Below w.heap.size w w') := by
  have hsz : (ofN (rowB n)).size = 10 := by rw [ofN_size, rowB_length]
  have HR : Hid (∀ u b, VrI b (rowB n) u → Calls Tryz.prog 188 #[.pointer (some ⟨b, 0, none⟩)] u fun e w' => ∃ x, e = .returned (.slice (some ⟨x, 0, none⟩) 1 1) ∧ Hid (OneAt w' x 2 (n : Int) ByteArray.empty ∧ u.heap.size ≤ x ∧ VrI b [] w' ∧ AtJ b u w')) := fun u b hu => vrow_any b n u hu hn
  have HCk : Hid (∀ u x, OneAt u x 2 (n : Int) ByteArray.empty → Calls Tryz.prog 108 #[.slice (some ⟨x, 0, none⟩) 1 1] u fun e w' => e = .returned (.tuple #[.int .i64 0, .int .i64 0]) ∧ Below u.heap.size u w') := fun u x hv => check_one x 2 (n : Int) ByteArray.empty u hv (fun u => mayBe_int (n : Int) u)
  obtain ⟨s, hs⟩ : ∃ s, ofN (rowB n) = s := ⟨_, rfl⟩
  have HV : Hid (∀ u b, u.heap[b]? = some (.cells #[.string s, .bool false] 234 (0, 0)) → VrI b (rowB n) u) := fun u b h => by
    unfold VrI
    rw [hs]
    exact h
  rw [hs] at hsz ⊢
  have k1 : ¬ (262144 : Int) < (s.size : Int) := by omega
  clear hs hsz
  go_enter Tryz.func185, Tryz.ntmps185
  go_wp2_with fail
  obtain ⟨u, hu⟩ : ∃ u, (w.alloc (.cells #[.int .i64 0, .int .i64 0] 176)).alloc (.cells #[.string s, .bool false] 234) = u := ⟨_, rfl⟩
  have h1 := heap_new (w.alloc (.cells #[.int .i64 0, .int .i64 0] 176)) (.cells #[.string s, .bool false] 234)
  have h2 := (Below.heap_alloc (w.alloc (.cells #[.int .i64 0, .int .i64 0] 176)) (.cells #[.string s, .bool false] 234) w.heap.size (by simp)).trans (heap_new w (.cells #[.int .i64 0, .int .i64 0] 176))
  have hb0 : Below w.heap.size w u := by rw [← hu]; exact ((Below.refl _ _).alloc (Nat.le_refl _) _).alloc (by simp) _
  rw [hu] at h1 h2 ⊢
  obtain ⟨f, hf⟩ : ∃ f, w.heap.size = f := ⟨_, rfl⟩
  have hsu : u.heap.size = f + 2 := by rw [← hu]; simp [hf]
  rw [World.size_alloc, hf] at h1
  rw [hf] at h2 ⊢
  have HU : Hid (u.heap.size = f + 2 ∧ u.heap[f]? = some (.cells #[.int .i64 0, .int .i64 0] 176 (0, 0)) ∧ Below w.heap.size w u ∧ w.heap.size = f) := ⟨hsu, h2, hb0, hf⟩
  have HVr : Hid (VrI (f + 1) (rowB n) u) := HV.out _ _ h1
  clear hu h1 h2 hb0 hf hsu HV
  refine (HR.out u (f + 1) HVr.out).mono ?_
  rintro e w1 ⟨x, rfl, K1⟩
  have hr1 := K1.out.2.2.1
  unfold VrI at hr1
  rw [ofN_nil] at hr1
  have c0 : w1.cell? ⟨f + 1, 0, none⟩ = some (.string ⟨#[]⟩) := by rw [cell_of hr1]; rfl
  have c1 : w1.cell? ⟨f + 1, 1, none⟩ = some (.bool false) := by rw [cell_of hr1]; rfl
  have HF1 : Hid (w1.heap[f]? = some (.cells #[.int .i64 0, .int .i64 0] 176 (0, 0))) := (K1.out.2.2.2.block f (by rw [HU.out.1]; omega) (by omega)).trans HU.out.2.1
  have HCk1 : Hid (Calls Tryz.prog 108 #[.slice (some ⟨x, 0, none⟩) 1 1] w1 fun e w' => e = .returned (.tuple #[.int .i64 0, .int .i64 0]) ∧ Below w1.heap.size w1 w') := HCk.out w1 x K1.out.1
  clear hr1 HCk HR
  go_wp2_with (first
    | (go_at_call 108; (with_reducible refine HCk1.out.mono ?_); rintro e w2 ⟨rfl, hb2⟩; have hF2 := (hb2.block f (lt_of HF1.out)).trans HF1.out; have d0 : w2.cell? ⟨f, 0, none⟩ = some (.int .i64 0) := (by rw [cell_of hF2]; rfl); have d1 : w2.cell? ⟨f, 1, none⟩ = some (.int .i64 0) := (by rw [cell_of hF2]; rfl); have g0 := frozen_of hF2 0; have g1 := frozen_of hF2 1; have HB2 : Hid (Below w1.heap.size w1 w2) := hb2; clear hb2))
  have HT : Hid (Turn (fun i => w.heap.size ≤ i) w2 ((w2.setCell ⟨f, 0, none⟩ (.int .i64 0)).setCell ⟨f, 1, none⟩ (.int .i64 0))) := by
    have k1 : w.heap.size ≤ f := by have := HU.out.2.2.2; omega
    exact (Turn.setCell w2 ⟨f, 0, none⟩ _ k1).trans (Turn.setCell _ ⟨f, 1, none⟩ _ k1)
  have HF2 : Hid (w2.heap[f]? = some (.cells #[.int .i64 0, .int .i64 0] 176 (0, 0))) := hF2
  have hFe := heap_setCell_same (heap_setCell_same HF2.out 0 (.int .i64 0)) 1 (.int .i64 0)
  obtain ⟨we, hwe⟩ : ∃ we, (w2.setCell ⟨f, 0, none⟩ (.int .i64 0)).setCell ⟨f, 1, none⟩ (.int .i64 0) = we := ⟨_, rfl⟩
  rw [hwe] at hFe ⊢
  have r0 : we.cell? ⟨f, 0, none⟩ = some (.int .i64 0) := by rw [cell_of hFe]; rfl
  have r1 : we.cell? ⟨f, 1, none⟩ = some (.int .i64 0) := by rw [cell_of hFe]; rfl
  refine bodyPost_ret (by simp [results, Tryz.results185, go_sem, r0, r1]; rfl) rfl ?_
  rw [← hwe]
  have hA : AtJ (f + 1) u w1 := K1.out.2.2.2
  have hB1 : Below w.heap.size w w1 := HU.out.2.2.1.trans ((hA.mono (S' := fun i => w.heap.size ≤ i) (fun i hi => by have := HU.out.2.2.2; omega)).toBelow HU.out.2.2.1.size)
  have hB2 := hB1.trans (HB2.out.mono hB1.size)
  have hB3 := hB2.trans (HT.out.toBelow hB2.size)
  have hO2 := K1.out.1.below HB2.out
  have hux : f + 2 ≤ x := by have := K1.out.2.1; rw [HU.out.1] at this; exact this
  refine ⟨x, rfl, ⟨?_, by have := HU.out.2.2.2; omega⟩, hB3⟩
  obtain ⟨q0, q1, q2, q3, q4⟩ := hO2
  have hbk : ((w2.setCell ⟨f, 0, none⟩ (.int .i64 0)).setCell ⟨f, 1, none⟩ (.int .i64 0)).heap[x]? = w2.heap[x]? := (Below.heap_setCell _ ⟨f, 1, none⟩ _ x (by show x ≠ f; omega)).trans (Below.heap_setCell w2 ⟨f, 0, none⟩ _ x (by show x ≠ f; omega))
  have hc : ∀ i v, w2.cell? ⟨x, i, none⟩ = some v → ((w2.setCell ⟨f, 0, none⟩ (.int .i64 0)).setCell ⟨f, 1, none⟩ (.int .i64 0)).cell? ⟨x, i, none⟩ = some v := fun i v hv => by
    rw [← hv]
    unfold World.cell?
    rw [hbk]
  exact ⟨Nat.lt_of_lt_of_le q0 HT.out.size, hc _ _ q1, hc _ _ q2, hc _ _ q3, hc _ _ q4⟩
end Go.Proofs.YtigegdelhpdlhaaGreatDoor

/- Layer 18's face: what gives up with an error, and what hands that error back. -/
namespace Go.Proofs.YtigegdelhpdlhaaGreatDoor
open Go.RowKit

/-- the panic of an error -/
abbrev mis (n : Int) : List PanicEntry := [{ v := .iface 108 (.int .i64 n), recovered := false }]

theorem refuse_no (n : Int) (w : World) : Calls Tryz.prog 55 #[.bool false, .int .i64 n] w fun r w' => r = .returned (.tuple #[]) ∧ w' = w := by
  go_enter Tryz.func55, Tryz.ntmps55
  go_wp2
  go_returns
  exact ⟨rfl, rfl⟩
theorem refuse_yes (n : Int) (w : World) : Calls Tryz.prog 55 #[.bool true, .int .i64 n] w fun r w' => r = .panicked (mis n) ∧ w' = w := by
  have hp : ∀ u : World, (Instr.panic (.iface 108 (.int .i64 n))).run Tryz.prog u = .halt (.panic (.iface 108 (.int .i64 n))) u := fun _ => rfl
  go_enter Tryz.func55, Tryz.ntmps55
  go_wp2
  exact ⟨rfl, rfl, rfl⟩
theorem must_no (w : World) : Calls Tryz.prog 60 #[.int .i64 0] w fun r w' => r = .returned (.tuple #[]) ∧ w' = w := by
  have HR : Hid (∀ u, Calls Tryz.prog 55 #[.bool false, .int .i64 0] u fun r w' => r = .returned (.tuple #[]) ∧ w' = u) := fun u => refuse_no 0 u
  go_enter Tryz.func60, Tryz.ntmps60
  go_wp2_with fail
  refine (HR.out _).mono ?_
  rintro e w2 ⟨rfl, rfl⟩
  go_wp2_with fail
  go_returns
  exact ⟨rfl, rfl⟩
theorem must_yes (n : Int) (hn : n ≠ 0) (w : World) : Calls Tryz.prog 60 #[.int .i64 n] w fun r w' => r = .panicked (mis n) ∧ w' = w := by
  have HR : Hid (∀ u, Calls Tryz.prog 55 #[.bool true, .int .i64 n] u fun r w' => r = .panicked (mis n) ∧ w' = u) := fun u => refuse_yes n u
  have h0 : (n == 0) = false := by rw [beq_eq_false_iff_ne]; exact hn
  have h1 : (n != 0) = true := by simp [hn]
  go_enter Tryz.func60, Tryz.ntmps60
  go_wp2_with fail
  refine (HR.out _).mono ?_
  rintro e w2 ⟨rfl, rfl⟩
  exact ⟨rfl, rfl, rfl⟩

theorem assert_mis (n : Int) (w : World) : (Instr.typeAssert (.iface 108 (.int .i64 n)) 20 108 true).run Tryz.prog w = .ok (.tuple #[.int .i64 n, .bool true]) w := by
  simp [Instr.typeAssert, Sem.run_bind, run_underlying Tryz.underlying108]
theorem done_frame (p : Addr) : (#[Value.pointer (some p)] ++ Array.replicate (Tryz.f62.ntmps - #[Value.pointer (some p)].size) undef) = #[.pointer (some p), undef, undef, undef, undef, undef, undef, undef, undef, undef, undef] := by
  rw [Tryz.ntmps62]
  rfl
set_option maxRecDepth 100000 in
theorem catch_idle (p : Addr) (w : World) : CallsD Tryz.prog 62 #[.pointer (some p)] .returning w fun e u' w' => e = .returned (.tuple #[]) ∧ u' = .returning ∧ w' = w := by
  refine callsD_of_wpS Tryz.func62 rfl fun c₀ cs hu => ?_
  rw [done_frame]
  apply wpS_seq
  apply wpS_region
  simp [wpOpsS, go_sem, recoverD, hu, Exit.thenS]
  refine wpS_of_wp ?_
  go_wp2
  cases c₀
  simp_all [bodyPostS, results, Tryz.results62]
set_option maxRecDepth 100000 in
theorem catch_panic (p : Addr) (x n : Int) (older : List PanicEntry) (w : World) (hc : w.cell? p = some (.int .i64 x)) (hz : w.frozen? p = false) :
    CallsD Tryz.prog 62 #[.pointer (some p)] (.panicking ({ v := .iface 108 (.int .i64 n), recovered := false } :: older)) w fun e u' w' =>
      e = .returned (.tuple #[]) ∧ u' = .panicking ({ v := .iface 108 (.int .i64 n), recovered := true } :: older) ∧ w' = w.setCell p (.int .i64 n) := by
  refine callsD_of_wpS Tryz.func62 rfl fun c₀ cs hu => ?_
  rw [done_frame]
  apply wpS_seq
  apply wpS_region
  simp [wpOpsS, go_sem, recoverD, hu, Exit.thenS]
  refine wpS_of_wp ?_
  have ha := assert_mis n
  go_wp2
  cases c₀
  simp_all [bodyPostS, results, Tryz.results62]
end Go.Proofs.YtigegdelhpdlhaaGreatDoor
