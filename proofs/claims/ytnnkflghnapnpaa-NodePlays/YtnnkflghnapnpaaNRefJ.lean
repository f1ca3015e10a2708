/- The document's Insert and Remove. -/
import Derived.Test.YtnnkflghnapnpaaNRefI
namespace Go.Proofs.Ytnnkflghnapnpaa
open Go.RowKit

/-- the parts of a word lie in a block of their own -/
theorem parts_shape {w1 : World} {B : Nat} {v : Value} {l : List Nat} (h : OwnN w1 B v l) (hl : l.length = 15) : ∃ g cap, v = .slice (some ⟨g, 0, none⟩) 15 cap ∧ 15 ≤ cap ∧ cap ≤ maxLen ∧ g < w1.heap.size ∧ ∀ (j y : Nat), l[j]? = some y → w1.cell? ⟨g, j, none⟩ = some (.int .i64 (y : Int)) := by
  rcases h.2 with ⟨_, hn⟩ | ⟨g, cap, cur, hv, _, hg, h1, h2, _, h4⟩
  · rw [hl] at hn; cases hn
  · rw [hl] at hv h1
    refine ⟨g, cap, hv, h1, h2, lt_of hg, fun j y hy => ?_⟩
    have hjl := (List.getElem?_eq_some_iff.1 hy).1
    rw [cell_of hg, ← Array.getElem?_toList]
    have h5 := ncells_get hy
    rw [← h4] at h5
    rw [List.getElem?_take_of_lt (by rw [Nat.mul_one]; exact hjl)] at h5
    exact h5

theorem sl_to (g cap a : Nat) (h : a ≤ cap) (hc : cap ≠ 0) (W : World) :
    (Instr.slice 62 (.slice (some ⟨g, 0, none⟩) 15 cap) none (some (.int .i64 (a : Int))) none).run Try.prog W = .ok (.slice (some ⟨g, 0, none⟩) a cap) W := by
  have h' : (a : Int) ≤ (cap : Int) := by omega
  simp [Instr.slice, run_underlying Try.underlying62, Instr.sliceBounds, run_sliceBound, h', Result.andThen, Addr.add_lit, hc]
theorem sl_part (g cap i j d : Nat) (h1 : i ≤ j) (h2 : j ≤ cap) (hne : cap ≠ i) (hd : j - i = d) (W : World) :
    (Instr.slice 62 (.slice (some ⟨g, 0, none⟩) 15 cap) (some (.int .i64 (i : Int))) (some (.int .i64 (j : Int))) none).run Try.prog W = .ok (.slice (some ⟨g, i, none⟩) d (cap - i)) W := by
  have h1' : (i : Int) ≤ (j : Int) := by omega
  have h2' : (j : Int) ≤ (cap : Int) := by omega
  simp [Instr.slice, run_underlying Try.underlying62, Instr.sliceBounds, run_sliceBound, h1', h2', Result.andThen, Addr.add_lit, hne, hd]
theorem sl_rest (g cap k d : Nat) (h : k ≤ 15) (hd : 15 - k = d) : ∃ ad : Addr, (k < 15 → 15 ≤ cap → ad = ⟨g, k, none⟩) ∧ ∀ W : World,
    (Instr.slice 62 (.slice (some ⟨g, 0, none⟩) 15 cap) (some (.int .i64 (k : Int))) none none).run Try.prog W = .ok (.slice (some ad) d (cap - k)) W := by
  have h1 : (k : Int) ≤ 15 := by omega
  by_cases hc : cap = k
  · refine ⟨⟨g, 0, none⟩, fun h2 h3 => by omega, fun W => ?_⟩
    simp [Instr.slice, run_underlying Try.underlying62, Instr.sliceBounds, run_sliceBound, h1, Result.andThen, Addr.add_lit, hc, hd]
  · refine ⟨⟨g, k, none⟩, fun _ _ => rfl, fun W => ?_⟩
    simp [Instr.slice, run_underlying Try.underlying62, Instr.sliceBounds, run_sliceBound, h1, Result.andThen, Addr.add_lit, hc, hd]

theorem sl_part2 (g cap i j d : Nat) (h1 : i ≤ j) (h2 : j ≤ cap) (hd : j - i = d) : ∃ ad : Addr, (i < 15 → 15 ≤ cap → ad = ⟨g, i, none⟩) ∧ ∀ W : World,
    (Instr.slice 62 (.slice (some ⟨g, 0, none⟩) 15 cap) (some (.int .i64 (i : Int))) (some (.int .i64 (j : Int))) none).run Try.prog W = .ok (.slice (some ad) d (cap - i)) W := by
  have h1' : (i : Int) ≤ (j : Int) := by omega
  have h2' : (j : Int) ≤ (cap : Int) := by omega
  by_cases hc : cap = i
  · refine ⟨⟨g, 0, none⟩, fun h2 h3 => by omega, fun W => ?_⟩
    have hji : j = i := by omega
    subst hji
    simp [Instr.slice, run_underlying Try.underlying62, Instr.sliceBounds, run_sliceBound, Result.andThen, Addr.add_lit, hc, ← hd]
  · refine ⟨⟨g, i, none⟩, fun _ _ => rfl, fun W => ?_⟩
    simp [Instr.slice, run_underlying Try.underlying62, Instr.sliceBounds, run_sliceBound, h1', h2', Result.andThen, Addr.add_lit, hc, hd]

/-- what a part of the row shows -/
theorem part_cells {u : World} {g i : Nat} {l K : List Nat} (hc : ∀ (j y : Nat), l[j]? = some y → u.cell? ⟨g, j, none⟩ = some (.int .i64 (y : Int))) (hK : ∀ (j y : Nat), K[j]? = some y → l[i + j]? = some y) :
    ∀ (j y : Nat), K[j]? = some y → u.cell? (Addr.add ⟨g, i, none⟩ j) = some (.int .i64 (y : Int)) := fun j y hy => by
  rw [Addr.add_lit]
  exact hc _ y (hK j y hy)

section
variable {W : Int} {u : Nat} {l : List Nat}

theorem oinsert_shape (h : Wd W u l) (hm : ¬ May l) (x : Int) (w : World) : Calls Try.prog 10 #[.int .u64 W, .int .i64 x] w fun e w' => e = .returned (.tuple #[.int .u64 0, .int .i64 0, .int .i64 4]) ∧ Below w.heap.size w w' := by
  have HC : Hid (∀ v : World, Calls Try.prog 16 #[.int .u64 W] v fun e w' => e = .returned (.int .i64 4) ∧ Below v.heap.size v w') := fun v => by have := ocheck_any h v; rw [chk_no hm] at this; exact this
  clear h hm
  go_enter Try.func10, Try.ntmps10
  go_wp2_with (go_at_call 16; go_must (refine (HC.out _).mono ?_; rintro e w1 ⟨rfl, hb1⟩))
  go_ret3
  exact ⟨rfl, hb1⟩

theorem oinsert_full (h : Wd W u l) (hm : May l) (hu : u = 15) (x : Int) (w : World) : Calls Try.prog 10 #[.int .u64 W, .int .i64 x] w fun e w' => e = .returned (.tuple #[.int .u64 0, .int .i64 0, .int .i64 120]) ∧ Below w.heap.size w w' := by
  have HC : Hid (∀ v : World, Calls Try.prog 16 #[.int .u64 W] v fun e w' => e = .returned (.int .i64 0) ∧ Below v.heap.size v w') := fun v => by have := ocheck_any h v; rw [chk_yes hm] at this; exact this
  have HP : Hid (∀ v : World, Calls Try.prog 38 #[.int .u64 W] v fun e w' => ∃ z, e = .returned (.tuple #[.int .i64 (u : Int), z]) ∧ Below v.heap.size v w') := fun v => (parts_any h v).mono fun e w' ⟨z, h1, _, h3⟩ => ⟨z, h1, h3⟩
  subst hu
  clear h hm
  go_enter Try.func10, Try.ntmps10
  go_wp2_with (first | (go_at_call 16; go_must (refine (HC.out _).mono ?_; rintro e w1 ⟨rfl, hb1⟩)) | (go_at_call 38; go_must (refine (HP.out _).mono ?_; rintro e w2 ⟨z, rfl, hb2⟩)))
  go_ret3
  exact ⟨rfl, hb1.trans (hb2.mono hb1.size)⟩

theorem oinsert_range (h : Wd W u l) (hm : May l) (hu : u < 15) {x : Int} (hx : ¬ (0 ≤ x ∧ x ≤ (u : Int))) (w : World) : Calls Try.prog 10 #[.int .u64 W, .int .i64 x] w fun e w' => e = .returned (.tuple #[.int .u64 0, .int .i64 0, .int .i64 1]) ∧ Below w.heap.size w w' := by
  have HC : Hid (∀ v : World, Calls Try.prog 16 #[.int .u64 W] v fun e w' => e = .returned (.int .i64 0) ∧ Below v.heap.size v w') := fun v => by have := ocheck_any h v; rw [chk_yes hm] at this; exact this
  have HP : Hid (∀ v : World, Calls Try.prog 38 #[.int .u64 W] v fun e w' => ∃ z, e = .returned (.tuple #[.int .i64 (u : Int), z]) ∧ Below v.heap.size v w') := fun v => (parts_any h v).mono fun e w' ⟨z, h1, _, h3⟩ => ⟨z, h1, h3⟩
  have hu1 : ¬ (u : Int) = 15 := by omega
  clear h hm
  by_cases hx0 : x < 0
  · clear hx
    go_enter Try.func10, Try.ntmps10
    go_wp2_with (first | (go_at_call 16; go_must (refine (HC.out _).mono ?_; rintro e w1 ⟨rfl, hb1⟩)) | (go_at_call 38; go_must (refine (HP.out _).mono ?_; rintro e w2 ⟨z, rfl, hb2⟩)))
    go_ret3
    exact ⟨rfl, hb1.trans (hb2.mono hb1.size)⟩
  · have hx1 : (u : Int) < x := by omega
    clear hx
    go_enter Try.func10, Try.ntmps10
    go_wp2_with (first | (go_at_call 16; go_must (refine (HC.out _).mono ?_; rintro e w1 ⟨rfl, hb1⟩)) | (go_at_call 38; go_must (refine (HP.out _).mono ?_; rintro e w2 ⟨z, rfl, hb2⟩)))
    go_ret3
    exact ⟨rfl, hb1.trans (hb2.mono hb1.size)⟩

set_option maxRecDepth 100000 in
set_option maxHeartbeats 2000000 in
theorem oinsert_ok (h : Wd W u l) (hm : May l) (hu : u < 15) {x : Int} {a : Nat} (hx : x = a) (ha : a ≤ u) (w : World) : Calls Try.prog 10 #[.int .u64 W, .int .i64 x] w fun e w' => e = .returned (.tuple #[.int .u64 (wdv (u + 1) (insW l u a)), .int .i64 ((l.getD u 0 : Nat) : Int), .int .i64 0]) ∧ Below w.heap.size w w' := by
  have HC : Hid (∀ v : World, Calls Try.prog 16 #[.int .u64 W] v fun e w' => e = .returned (.int .i64 0) ∧ Below v.heap.size v w') := fun v => by have := ocheck_any h v; rw [chk_yes hm] at this; exact this
  have HP : Hid (∀ v : World, Calls Try.prog 38 #[.int .u64 W] v fun e w' => ∃ z, e = .returned (.tuple #[.int .i64 (u : Int), z]) ∧ OwnN w' v.heap.size z l ∧ Below v.heap.size v w') := fun v => parts_any h v
  have hl := h.len
  have hu16 := h.u16
  have HD : Hid (Dig (insW l u a)) := by unfold insW; exact ins_dig h.dig _ _ _ (getD_lt h.dig _)
  have HLnw : Hid ((insW l u a).length = 15) := ins_length hl (by omega) (by omega)
  have HPt : Hid ((([] ++ l.take a ++ [l.getD u 0]) ++ (l.drop a).take (u - a)) ++ l.drop (u + 1) = insW l u a) := insW_parts hl (by omega) ha
  obtain ⟨s, hs⟩ : ∃ s, l.getD u 0 = s := ⟨_, rfl⟩
  have HS : Hid (l[u]? = some s) := by show _ = _; rw [List.getElem?_eq_getElem (by omega), ← hs, getD_of (by omega)]
  rw [hs] at HPt ⊢
  have HL : Hid (l.length = 15) := hl
  have hu1 : ¬ (u : Int) = 15 := by omega
  have hx0 : ¬ (a : Int) < 0 := by omega
  have hx1 : ¬ (u : Int) < (a : Int) := by omega
  have hx2 : (u : Int) < 15 := by omega
  subst hx
  clear h hm hs hl
  go_enter Try.func10, Try.ntmps10
  go_wp2_with fail
  refine (HC.out _).mono ?_
  rintro e w1 ⟨rfl, hb1⟩
  go_wp2_with fail
  refine (HP.out _).mono ?_
  rintro e w2 ⟨z, rfl, ho2, hb2⟩
  obtain ⟨g, cap, hz, hcap1, hcap2, hgl, hcl⟩ := parts_shape ho2 HL.out
  have HB2 : Hid (Below w.heap.size w w2) := hb1.trans (hb2.mono hb1.size)
  have HCl : Hid (∀ v : World, Below w2.heap.size w2 v → ∀ (j y : Nat), l[j]? = some y → v.cell? ⟨g, j, none⟩ = some (.int .i64 (y : Int))) := fun v hb j y hy => (hb.cell (p := ⟨g, j, none⟩) hgl).trans (hcl j y hy)
  have c0 : w2.cell? ⟨g, u, none⟩ = some (.int .i64 (s : Int)) := hcl u s HS.out
  unfold maxLen at hcap2
  obtain ⟨B, hB⟩ : ∃ B, w2.heap.size = B := ⟨_, rfl⟩
  have HB : Hid (w2.heap.size = B) := hB
  obtain ⟨d, hd⟩ : ∃ d, u - a = d := ⟨_, rfl⟩
  obtain ⟨f, hf⟩ : ∃ f, 15 - (u + 1) = f := ⟨_, rfl⟩
  have s1 := sl_to g cap a (by omega) (by omega)
  have s2 := sl_part g cap a u d (by omega) (by omega) (by omega) hd
  obtain ⟨ad, had, s3⟩ := sl_rest g cap (u + 1) f (by omega) hf
  have hcast : ((u + 1 : Nat) : Int) = (u : Int) + 1 := by omega
  rw [hcast] at s3
  clear hcast
  rw [hz]
  have HN0 : Hid (([] : List Nat).length + (l.take a).length = a) := by show _ = _; rw [List.length_take, HL.out]; show 0 + min a 15 = a; omega
  have HC1 : Hid (∀ v : World, Below w2.heap.size w2 v → ∀ (j y : Nat), (l.take a)[j]? = some y → v.cell? (Addr.add ⟨g, 0, none⟩ j) = some (.int .i64 (y : Int))) := fun v hb => part_cells (HCl.out v hb) (fun j y hy => by
    have hj := (List.getElem?_eq_some_iff.1 hy).1
    rw [List.length_take] at hj
    rw [List.getElem?_take_of_lt (by omega)] at hy
    rw [Nat.zero_add]; exact hy)
  have HL1 : Hid ((l.take a).length = a) := by show _ = _; rw [List.length_take, HL.out]; omega
  have HC2 : Hid (∀ v : World, Below w2.heap.size w2 v → ∀ (j y : Nat), ((l.drop a).take (u - a))[j]? = some y → v.cell? (Addr.add ⟨g, a, none⟩ j) = some (.int .i64 (y : Int))) := fun v hb => part_cells (HCl.out v hb) (fun j y hy => by
    have hj := (List.getElem?_eq_some_iff.1 hy).1
    rw [List.length_take] at hj
    rw [List.getElem?_take_of_lt (by omega), List.getElem?_drop] at hy
    exact hy)
  have HL2 : Hid (((l.drop a).take (u - a)).length = d) := by show _ = _; rw [List.length_take, List.length_drop, HL.out, ← hd]; omega
  have HC3 : Hid (∀ v : World, Below w2.heap.size w2 v → ∀ (j y : Nat), (l.drop (u + 1))[j]? = some y → v.cell? (Addr.add ad j) = some (.int .i64 (y : Int))) := fun v hb j y hy => by
    have hj := (List.getElem?_eq_some_iff.1 hy).1
    rw [List.length_drop, HL.out] at hj
    rw [had (by omega) (by omega)]
    refine part_cells (HCl.out v hb) (fun j y hy => ?_) j y hy
    rw [List.getElem?_drop] at hy
    exact hy
  have HL3 : Hid ((l.drop (u + 1)).length = f) := by show _ = _; rw [List.length_drop, HL.out, ← hf]
  have HN2 : Hid (([] ++ l.take a ++ [s]).length + ((l.drop a).take (u - a)).length = u + 1) := by show _ = _; rw [HL2.out, List.length_append, List.nil_append, HL1.out, ← hd]; show a + 1 + (u - a) = u + 1; omega
  have HN1 : Hid (([] ++ l.take a).length + [s].length = a + 1) := by show _ = _; rw [List.nil_append, HL1.out]; rfl
  have HN3 : Hid ((([] ++ l.take a ++ [s]) ++ (l.drop a).take (u - a)).length + (l.drop (u + 1)).length = 15) := by show _ = _; rw [List.length_append, HN2.out, HL3.out, ← hf]; omega
  clear hz ho2 hb1 hb2 hcl hB had hd hf
  go_wp2_with (first
    | (refine wpList_appN rfl _ _ rfl rfl (own_nilN _ B) rfl HL1.out (HC1.out _ (Below.refl _ _)) HN0.out (by omega) (Nat.le_of_eq HB.out.symm) ?_; intro A3 c3 w3 r b; have R3 : Hid (OwnN w3 B (.slice A3 a c3) ([] ++ l.take a)) := r; have B3 : Hid (Below w2.heap.size w2 w3) := (by rw [HB.out]; exact b); have RA : Hid (OwnN (w3.alloc (.cells #[.int .i64 (s : Int)] 3 (0, 0))) B (.slice A3 a c3) ([] ++ l.take a)) := r.keep (below_alloc w3 _); have BA : Hid (Below w2.heap.size w2 (w3.alloc (.cells #[.int .i64 (s : Int)] 3 (0, 0)))) := B3.out.trans ((below_alloc w3 _).mono B3.out.size); have SA : Hid (B ≤ (w3.alloc (.cells #[.int .i64 (s : Int)] 3 (0, 0))).heap.size) := (by rw [← HB.out]; exact BA.out.size); clear r b)
    | (refine wpList_appN rfl _ _ rfl rfl RA.out rfl (K := [s]) rfl one_cell HN1.out (by omega) SA.out ?_; intro A4 c4 w4 r b; have R4 : Hid (OwnN w4 B (.slice A4 (a + 1) c4) ([] ++ l.take a ++ [s])) := r; have B4 : Hid (Below w2.heap.size w2 w4) := BA.out.trans (by rw [HB.out]; exact b); have S4 : Hid (B ≤ w4.heap.size) := (by rw [← HB.out]; exact B4.out.size); clear r b)
    | (refine wpList_appN rfl _ _ rfl rfl R4.out rfl HL2.out (HC2.out _ B4.out) HN2.out (by omega) S4.out ?_; intro A5 c5 w5 r b; have R5 : Hid (OwnN w5 B (.slice A5 (u + 1) c5) (([] ++ l.take a ++ [s]) ++ (l.drop a).take (u - a))) := r; have B5 : Hid (Below w2.heap.size w2 w5) := B4.out.trans (by rw [HB.out]; exact b); have S5 : Hid (B ≤ w5.heap.size) := (by rw [← HB.out]; exact B5.out.size); clear r b)
    | (refine wpList_appN rfl _ _ rfl rfl R5.out rfl HL3.out (HC3.out _ B5.out) HN3.out (by omega) S5.out ?_; intro A6 c6 w6 r b; have B6 : Hid (Below w2.heap.size w2 w6) := B5.out.trans (by rw [HB.out]; exact b); have HWd : Hid (Calls Try.prog 39 #[.int .i64 ((u : Int) + 1), .slice A6 15 c6] w6 fun e w' => e = .returned (.int .u64 (wdv (u + 1) (insW l u a))) ∧ w' = w6) := (by rw [HPt.out] at r; exact word_any (own_nums r) HLnw.out HD.out (by omega) (by omega)); clear r b)
    | (go_at_call 39; go_must (refine HWd.out.mono ?_; rintro e w7 ⟨rfl, hw7⟩)))
  go_ret3
  exact ⟨rfl, HB2.out.trans (B6.out.mono HB2.out.size)⟩

theorem oremove_shape (h : Wd W u l) (hm : ¬ May l) (x : Int) (w : World) : Calls Try.prog 12 #[.int .u64 W, .int .i64 x] w fun e w' => e = .returned (.tuple #[.int .u64 0, .int .i64 0, .int .i64 4]) ∧ Below w.heap.size w w' := by
  have HC : Hid (∀ v : World, Calls Try.prog 16 #[.int .u64 W] v fun e w' => e = .returned (.int .i64 4) ∧ Below v.heap.size v w') := fun v => by have := ocheck_any h v; rw [chk_no hm] at this; exact this
  clear h hm
  go_enter Try.func12, Try.ntmps12
  go_wp2_with (go_at_call 16; go_must (refine (HC.out _).mono ?_; rintro e w1 ⟨rfl, hb1⟩))
  go_ret3
  exact ⟨rfl, hb1⟩

theorem oremove_range (h : Wd W u l) (hm : May l) {x : Int} (hx : ¬ (0 ≤ x ∧ x < (u : Int))) (w : World) : Calls Try.prog 12 #[.int .u64 W, .int .i64 x] w fun e w' => e = .returned (.tuple #[.int .u64 0, .int .i64 0, .int .i64 1]) ∧ Below w.heap.size w w' := by
  have HC : Hid (∀ v : World, Calls Try.prog 16 #[.int .u64 W] v fun e w' => e = .returned (.int .i64 0) ∧ Below v.heap.size v w') := fun v => by have := ocheck_any h v; rw [chk_yes hm] at this; exact this
  have HP : Hid (∀ v : World, Calls Try.prog 38 #[.int .u64 W] v fun e w' => ∃ z, e = .returned (.tuple #[.int .i64 (u : Int), z]) ∧ Below v.heap.size v w') := fun v => (parts_any h v).mono fun e w' ⟨z, h1, _, h3⟩ => ⟨z, h1, h3⟩
  clear h hm
  by_cases hx0 : x < 0
  · clear hx
    go_enter Try.func12, Try.ntmps12
    go_wp2_with (first | (go_at_call 16; go_must (refine (HC.out _).mono ?_; rintro e w1 ⟨rfl, hb1⟩)) | (go_at_call 38; go_must (refine (HP.out _).mono ?_; rintro e w2 ⟨z, rfl, hb2⟩)))
    go_ret3
    exact ⟨rfl, hb1.trans (hb2.mono hb1.size)⟩
  · have hx1 : (u : Int) ≤ x := by omega
    clear hx
    go_enter Try.func12, Try.ntmps12
    go_wp2_with (first | (go_at_call 16; go_must (refine (HC.out _).mono ?_; rintro e w1 ⟨rfl, hb1⟩)) | (go_at_call 38; go_must (refine (HP.out _).mono ?_; rintro e w2 ⟨z, rfl, hb2⟩)))
    go_ret3
    exact ⟨rfl, hb1.trans (hb2.mono hb1.size)⟩

set_option maxRecDepth 100000 in
set_option maxHeartbeats 2000000 in
theorem oremove_ok (h : Wd W u l) (hm : May l) {x : Int} {a : Nat} (hx : x = a) (ha : a < u) (w : World) : Calls Try.prog 12 #[.int .u64 W, .int .i64 x] w fun e w' => e = .returned (.tuple #[.int .u64 (wdv (u - 1) (remW l u a)), .int .i64 ((l.getD a 0 : Nat) : Int), .int .i64 0]) ∧ Below w.heap.size w w' := by
  have HC : Hid (∀ v : World, Calls Try.prog 16 #[.int .u64 W] v fun e w' => e = .returned (.int .i64 0) ∧ Below v.heap.size v w') := fun v => by have := ocheck_any h v; rw [chk_yes hm] at this; exact this
  have HP : Hid (∀ v : World, Calls Try.prog 38 #[.int .u64 W] v fun e w' => ∃ z, e = .returned (.tuple #[.int .i64 (u : Int), z]) ∧ OwnN w' v.heap.size z l ∧ Below v.heap.size v w') := fun v => parts_any h v
  have hl := h.len
  have hu16 := h.u16
  have HD : Hid (Dig (remW l u a)) := by unfold remW; exact ins_dig h.dig _ _ _ (getD_lt h.dig _)
  have HLnw : Hid ((remW l u a).length = 15) := ins_length hl (by omega) (by omega)
  have HPt : Hid ((([] ++ l.take a ++ (l.drop (a + 1)).take (u - (a + 1))) ++ [l.getD a 0]) ++ l.drop u = remW l u a) := remW_parts hl (by omega) ha
  obtain ⟨s, hs⟩ : ∃ s, l.getD a 0 = s := ⟨_, rfl⟩
  have HS : Hid (l[a]? = some s) := by show _ = _; rw [List.getElem?_eq_getElem (by omega), ← hs, getD_of (by omega)]
  rw [hs] at HPt ⊢
  have HL : Hid (l.length = 15) := hl
  have hx0 : ¬ (a : Int) < 0 := by omega
  have hx1 : ¬ (u : Int) ≤ (a : Int) := by omega
  have hx2 : (a : Int) < 15 := by omega
  subst hx
  clear h hm hs hl
  go_enter Try.func12, Try.ntmps12
  go_wp2_with fail
  refine (HC.out _).mono ?_
  rintro e w1 ⟨rfl, hb1⟩
  go_wp2_with fail
  refine (HP.out _).mono ?_
  rintro e w2 ⟨z, rfl, ho2, hb2⟩
  obtain ⟨g, cap, hz, hcap1, hcap2, hgl, hcl⟩ := parts_shape ho2 HL.out
  have HB2 : Hid (Below w.heap.size w w2) := hb1.trans (hb2.mono hb1.size)
  have HCl : Hid (∀ v : World, Below w2.heap.size w2 v → ∀ (j y : Nat), l[j]? = some y → v.cell? ⟨g, j, none⟩ = some (.int .i64 (y : Int))) := fun v hb j y hy => (hb.cell (p := ⟨g, j, none⟩) hgl).trans (hcl j y hy)
  have c0 : w2.cell? ⟨g, a, none⟩ = some (.int .i64 (s : Int)) := hcl a s HS.out
  unfold maxLen at hcap2
  obtain ⟨B, hB⟩ : ∃ B, w2.heap.size = B := ⟨_, rfl⟩
  have HB : Hid (w2.heap.size = B) := hB
  obtain ⟨d, hd⟩ : ∃ d, u - (a + 1) = d := ⟨_, rfl⟩
  obtain ⟨f, hf⟩ : ∃ f, 15 - u = f := ⟨_, rfl⟩
  have s1 := sl_to g cap a (by omega) (by omega)
  obtain ⟨ad2, had2, s2⟩ := sl_part2 g cap (a + 1) u d (by omega) (by omega) hd
  obtain ⟨ad, had, s3⟩ := sl_rest g cap u f (by omega) hf
  have hcast : ((a + 1 : Nat) : Int) = (a : Int) + 1 := by omega
  rw [hcast] at s2
  clear hcast
  rw [hz]
  have HN0 : Hid (([] : List Nat).length + (l.take a).length = a) := by show _ = _; rw [List.length_take, HL.out]; show 0 + min a 15 = a; omega
  have HC1 : Hid (∀ v : World, Below w2.heap.size w2 v → ∀ (j y : Nat), (l.take a)[j]? = some y → v.cell? (Addr.add ⟨g, 0, none⟩ j) = some (.int .i64 (y : Int))) := fun v hb => part_cells (HCl.out v hb) (fun j y hy => by
    have hj := (List.getElem?_eq_some_iff.1 hy).1
    rw [List.length_take] at hj
    rw [List.getElem?_take_of_lt (by omega)] at hy
    rw [Nat.zero_add]; exact hy)
  have HL1 : Hid ((l.take a).length = a) := by show _ = _; rw [List.length_take, HL.out]; omega
  have HC2 : Hid (∀ v : World, Below w2.heap.size w2 v → ∀ (j y : Nat), ((l.drop (a + 1)).take (u - (a + 1)))[j]? = some y → v.cell? (Addr.add ad2 j) = some (.int .i64 (y : Int))) := fun v hb j y hy => by
    have hj0 := (List.getElem?_eq_some_iff.1 hy).1
    rw [List.length_take] at hj0
    rw [had2 (by omega) (by omega)]
    refine part_cells (HCl.out v hb) (fun j y hy => ?_) j y hy
    have hj := (List.getElem?_eq_some_iff.1 hy).1
    rw [List.length_take] at hj
    rw [List.getElem?_take_of_lt (by omega), List.getElem?_drop] at hy
    exact hy
  have HL2 : Hid (((l.drop (a + 1)).take (u - (a + 1))).length = d) := by show _ = _; rw [List.length_take, List.length_drop, HL.out, ← hd]; omega
  have HC3 : Hid (∀ v : World, Below w2.heap.size w2 v → ∀ (j y : Nat), (l.drop u)[j]? = some y → v.cell? (Addr.add ad j) = some (.int .i64 (y : Int))) := fun v hb j y hy => by
    have hj := (List.getElem?_eq_some_iff.1 hy).1
    rw [List.length_drop, HL.out] at hj
    rw [had (by omega) (by omega)]
    refine part_cells (HCl.out v hb) (fun j y hy => ?_) j y hy
    rw [List.getElem?_drop] at hy
    exact hy
  have HL3 : Hid ((l.drop u).length = f) := by show _ = _; rw [List.length_drop, HL.out, ← hf]
  have HN1 : Hid (([] ++ l.take a).length + ((l.drop (a + 1)).take (u - (a + 1))).length = u - 1) := by show _ = _; rw [List.nil_append, HL1.out, HL2.out, ← hd]; omega
  have HN2 : Hid (([] ++ l.take a ++ (l.drop (a + 1)).take (u - (a + 1))).length + [s].length = u) := by show _ = _; rw [List.length_append, HN1.out]; show u - 1 + 1 = u; omega
  have HN3 : Hid ((([] ++ l.take a ++ (l.drop (a + 1)).take (u - (a + 1))) ++ [s]).length + (l.drop u).length = 15) := by show _ = _; rw [List.length_append, HN2.out, HL3.out, ← hf]; omega
  obtain ⟨u', hu'⟩ : ∃ u', u - 1 = u' := ⟨_, rfl⟩
  rw [hu'] at HN1
  have hui : (u : Int) - 1 = (u' : Int) := by omega
  have HU' : Hid (u - 1 = u') := hu'
  clear hz ho2 hb1 hb2 hcl hB had had2 hd hf hu'
  go_wp2_with (first
    | (refine wpList_appN rfl _ _ rfl rfl (own_nilN _ B) rfl HL1.out (HC1.out _ (Below.refl _ _)) HN0.out (by omega) (Nat.le_of_eq HB.out.symm) ?_; intro A3 c3 w3 r b; have R3 : Hid (OwnN w3 B (.slice A3 a c3) ([] ++ l.take a)) := r; have B3 : Hid (Below w2.heap.size w2 w3) := (by rw [HB.out]; exact b); have S3 : Hid (B ≤ w3.heap.size) := (by rw [← HB.out]; exact B3.out.size); clear r b)
    | (refine wpList_appN rfl _ _ rfl rfl R3.out rfl HL2.out (HC2.out _ B3.out) HN1.out (by omega) S3.out ?_; intro A4 c4 w4 r b; have B4 : Hid (Below w2.heap.size w2 w4) := B3.out.trans (by rw [HB.out]; exact b); have RA : Hid (OwnN (w4.alloc (.cells #[.int .i64 (s : Int)] 3 (0, 0))) B (.slice A4 u' c4) ([] ++ l.take a ++ (l.drop (a + 1)).take (u - (a + 1)))) := r.keep (below_alloc w4 _); have BA : Hid (Below w2.heap.size w2 (w4.alloc (.cells #[.int .i64 (s : Int)] 3 (0, 0)))) := B4.out.trans ((below_alloc w4 _).mono B4.out.size); have SA : Hid (B ≤ (w4.alloc (.cells #[.int .i64 (s : Int)] 3 (0, 0))).heap.size) := (by rw [← HB.out]; exact BA.out.size); clear r b)
    | (refine wpList_appN rfl _ _ rfl rfl RA.out rfl (K := [s]) rfl one_cell HN2.out (by omega) SA.out ?_; intro A5 c5 w5 r b; have R5 : Hid (OwnN w5 B (.slice A5 u c5) (([] ++ l.take a ++ (l.drop (a + 1)).take (u - (a + 1))) ++ [s])) := r; have B5 : Hid (Below w2.heap.size w2 w5) := BA.out.trans (by rw [HB.out]; exact b); have S5 : Hid (B ≤ w5.heap.size) := (by rw [← HB.out]; exact B5.out.size); clear r b)
    | (refine wpList_appN rfl _ _ rfl rfl R5.out rfl HL3.out (HC3.out _ B5.out) HN3.out (by omega) S5.out ?_; intro A6 c6 w6 r b; have B6 : Hid (Below w2.heap.size w2 w6) := B5.out.trans (by rw [HB.out]; exact b); have HWd : Hid (Calls Try.prog 39 #[.int .i64 (u' : Int), .slice A6 15 c6] w6 fun e w' => e = .returned (.int .u64 (wdv (u - 1) (remW l u a))) ∧ w' = w6) := (by rw [HPt.out] at r; exact word_any (own_nums r) HLnw.out HD.out (by have := HU'.out; omega) (by omega)); clear r b)
    | (go_at_call 39; go_must (refine HWd.out.mono ?_; rintro e w7 ⟨rfl, hw7⟩)))
  go_ret3
  exact ⟨rfl, HB2.out.trans (B6.out.mono HB2.out.size)⟩

theorem oinsert_is (h : Wd W u l) {x A S E : Int} (hI : InsTo u l x A S E) (w : World) : Calls Try.prog 10 #[.int .u64 W, .int .i64 x] w fun e w' => e = .returned (.tuple #[.int .u64 A, .int .i64 S, .int .i64 E]) ∧ Below w.heap.size w w' := by
  rcases hI with ⟨hm, rfl, rfl, rfl⟩ | ⟨hm, hu, rfl, rfl, rfl⟩ | ⟨hm, hu, hx, rfl, rfl, rfl⟩ | ⟨hm, hu, a, hx, ha, rfl, rfl, rfl⟩
  · exact oinsert_shape h hm x w
  · exact oinsert_full h hm hu x w
  · exact oinsert_range h hm hu hx w
  · exact oinsert_ok h hm hu hx ha w
theorem oremove_is (h : Wd W u l) {x A S E : Int} (hI : RemTo u l x A S E) (w : World) : Calls Try.prog 12 #[.int .u64 W, .int .i64 x] w fun e w' => e = .returned (.tuple #[.int .u64 A, .int .i64 S, .int .i64 E]) ∧ Below w.heap.size w w' := by
  rcases hI with ⟨hm, rfl, rfl, rfl⟩ | ⟨hm, hx, rfl, rfl, rfl⟩ | ⟨hm, a, hx, ha, rfl, rfl, rfl⟩
  · exact oremove_shape h hm x w
  · exact oremove_range h hm hx w
  · exact oremove_ok h hm hx ha w
end

end Go.Proofs.Ytnnkflghnapnpaa
