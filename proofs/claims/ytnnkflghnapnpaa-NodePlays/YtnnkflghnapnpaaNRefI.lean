/- The document's words: Empty, Check, Insert, Remove, beside the program's. -/
import Derived.Test.YtnnkflghnapnpaaNRefW
namespace Go.Proofs.Ytnnkflghnapnpaa
open Go.RowKit

/-! ### plain -/
theorem insW_parts {l : List Nat} {u a : Nat} (hl : l.length = 15) (hu : u < 15) (ha : a ≤ u) : (([] ++ l.take a ++ [l.getD u 0]) ++ (l.drop a).take (u - a)) ++ l.drop (u + 1) = insW l u a := by
  have e1 : l.eraseIdx u = l.take a ++ ((l.drop a).take (u - a) ++ l.drop (u + 1)) := by
    rw [List.eraseIdx_eq_take_drop_succ, ← List.append_assoc]
    congr 1
    rw [← List.take_append_drop a (l.take u), List.take_take, Nat.min_eq_left ha, List.drop_take]
  have e2 : (l.take a).length = a := by simp; omega
  unfold insW
  rw [e1]
  have := ins_here (l.getD u 0) (l.take a) ((l.drop a).take (u - a) ++ l.drop (u + 1))
  rw [e2] at this
  rw [this]
  simp
theorem remW_parts {l : List Nat} {u a : Nat} (hl : l.length = 15) (hu : u ≤ 15) (ha : a < u) : (([] ++ l.take a ++ (l.drop (a + 1)).take (u - (a + 1))) ++ [l.getD a 0]) ++ l.drop u = remW l u a := by
  have e1 : l.eraseIdx a = (l.take a ++ (l.drop (a + 1)).take (u - (a + 1))) ++ l.drop u := by
    rw [List.eraseIdx_eq_take_drop_succ, List.append_assoc]
    congr 1
    have := (List.take_append_drop (u - (a + 1)) (l.drop (a + 1))).symm
    rw [List.drop_drop, show a + 1 + (u - (a + 1)) = u by omega] at this
    exact this
  have e2 : (l.take a ++ (l.drop (a + 1)).take (u - (a + 1))).length = u - 1 := by simp; omega
  unfold remW
  rw [e1]
  have := ins_here (l.getD a 0) (l.take a ++ (l.drop (a + 1)).take (u - (a + 1))) (l.drop u)
  rw [e2] at this
  rw [this]
  simp

def InsTo (u : Nat) (l : List Nat) (x A S E : Int) : Prop :=
  (¬ May l ∧ A = 0 ∧ S = 0 ∧ E = 4) ∨ (May l ∧ u = 15 ∧ A = 0 ∧ S = 0 ∧ E = 120) ∨ (May l ∧ u < 15 ∧ ¬ (0 ≤ x ∧ x ≤ (u : Int)) ∧ A = 0 ∧ S = 0 ∧ E = 1) ∨
  (May l ∧ u < 15 ∧ ∃ a : Nat, x = a ∧ a ≤ u ∧ A = wdv (u + 1) (insW l u a) ∧ S = ((l.getD u 0 : Nat) : Int) ∧ E = 0)
def RemTo (u : Nat) (l : List Nat) (x A S E : Int) : Prop :=
  (¬ May l ∧ A = 0 ∧ S = 0 ∧ E = 4) ∨ (May l ∧ ¬ (0 ≤ x ∧ x < (u : Int)) ∧ A = 0 ∧ S = 0 ∧ E = 1) ∨
  (May l ∧ ∃ a : Nat, x = a ∧ a < u ∧ A = wdv (u - 1) (remW l u a) ∧ S = ((l.getD a 0 : Nat) : Int) ∧ E = 0)
theorem insTo_ex {u : Nat} {l : List Nat} (hu : u < 16) (x : Int) : ∃ A S E, InsTo u l x A S E := by
  by_cases hm : May l
  · by_cases h15 : u = 15
    · exact ⟨_, _, _, Or.inr (Or.inl ⟨hm, h15, rfl, rfl, rfl⟩)⟩
    · by_cases hx : 0 ≤ x ∧ x ≤ (u : Int)
      · exact ⟨_, _, _, Or.inr (Or.inr (Or.inr ⟨hm, by omega, x.toNat, by omega, by omega, rfl, rfl, rfl⟩))⟩
      · exact ⟨_, _, _, Or.inr (Or.inr (Or.inl ⟨hm, by omega, hx, rfl, rfl, rfl⟩))⟩
  · exact ⟨_, _, _, Or.inl ⟨hm, rfl, rfl, rfl⟩⟩
theorem remTo_ex (u : Nat) (l : List Nat) (x : Int) : ∃ A S E, RemTo u l x A S E := by
  by_cases hm : May l
  · by_cases hx : 0 ≤ x ∧ x < (u : Int)
    · exact ⟨_, _, _, Or.inr (Or.inr ⟨hm, x.toNat, by omega, by omega, rfl, rfl, rfl⟩)⟩
    · exact ⟨_, _, _, Or.inr (Or.inl ⟨hm, hx, rfl, rfl, rfl⟩)⟩
  · exact ⟨_, _, _, Or.inl ⟨hm, rfl, rfl, rfl⟩⟩

section
variable {W : Int} {u : Nat} {l : List Nat}

theorem insert_is (h : Wd W u l) {x A S E : Int} (hI : InsTo u l x A S E) (w : World) : Calls Try.prog 9 #[.int .u64 W, .int .i64 x] w fun e w' => e = .returned (.tuple #[.int .u64 A, .int .i64 S, .int .i64 E]) ∧ w' = w := by
  rcases hI with ⟨hm, rfl, rfl, rfl⟩ | ⟨hm, hu, rfl, rfl, rfl⟩ | ⟨hm, hu, hx, rfl, rfl, rfl⟩ | ⟨hm, hu, a, hx, ha, rfl, rfl, rfl⟩
  · exact insert_shape h hm x w
  · exact insert_full h hm hu x w
  · exact insert_range h hm hu hx w
  · exact insert_to h hm hu hx ha w
theorem remove_is (h : Wd W u l) {x A S E : Int} (hI : RemTo u l x A S E) (w : World) : Calls Try.prog 11 #[.int .u64 W, .int .i64 x] w fun e w' => e = .returned (.tuple #[.int .u64 A, .int .i64 S, .int .i64 E]) ∧ w' = w := by
  rcases hI with ⟨hm, rfl, rfl, rfl⟩ | ⟨hm, hx, rfl, rfl, rfl⟩ | ⟨hm, a, hx, ha, rfl, rfl, rfl⟩
  · exact remove_shape h hm x w
  · exact remove_range h hm hx w
  · exact remove_to h hm hx ha w

/-! ### Empty -/
set_option maxRecDepth 100000 in
theorem oempty_any (w : World) : Calls Try.prog 14 #[] w fun e w' => e = .returned (.int .u64 emptyW) ∧ Below w.heap.size w w' := by
  obtain ⟨B, hB⟩ : ∃ B, w.heap.size = B := ⟨_, rfl⟩
  have HB : Hid (w.heap.size = B) := hB
  rw [hB]
  clear hB
  go_enter Try.func14, Try.ntmps14
  go_wp2
  go_loopw [1, 2] (fun s i wr => ∃ (j : Nat) (A : Option Addr) (c : Nat), j ≤ 15 ∧ i = .int .i64 j ∧ s = .slice A j c ∧ Hid (OwnN wr B (.slice A j c) (List.range j)) ∧ Hid (Below B w wr)) (fun _ i _ => 15 - (intOf i).toNat)
  case atStart => exact ⟨0, none, 0, by omega, rfl, rfl, own_nilN _ _, Below.refl _ _⟩
  case round =>
    obtain ⟨j, A, c, hj, rfl, rfl, HO, HBl⟩ := hrel
    have hsz : B ≤ wr.heap.size := by rw [← HB.out]; exact HBl.out.size
    by_cases hlt : j < 15
    · have hlI : (j : Int) < 15 := by omega
      have HOa : Hid (OwnN (wr.alloc (.cells #[.int .i64 (j : Int)] 3 (0, 0))) B (.slice A j c) (List.range j)) := HO.out.keep (below_alloc wr _)
      have HLn : Hid ((List.range j).length + [j].length = j + 1) := by
        rw [List.length_range]
        rfl
      have HSz : Hid (B ≤ (wr.alloc (.cells #[.int .i64 (j : Int)] 3 (0, 0))).heap.size) := by show _ ≤ _; simp; omega
      go_wp2_with (refine wpList_appN rfl _ _ rfl rfl HOa.out rfl (K := [j]) rfl one_cell HLn.out (by omega) HSz.out ?_; intro A' c' w' r b; have R : Hid (OwnN w' B (.slice A' (j + 1) c') (List.range j ++ [j])) := r; have Bb : Hid (Below B w w') := HBl.out.trans (((below_alloc wr _).mono hsz).trans b); clear r b)
      go_roundw
      case rel => exact ⟨j + 1, A', c', by omega, by go_num, rfl, (by rw [List.range_succ]; exact R : Hid (OwnN w' B (.slice A' (j + 1) c') (List.range (j + 1)))), Bb⟩
      case measure => simp [intOf]; omega
    · have hlI : ¬ (j : Int) < 15 := by omega
      obtain rfl : j = 15 := by omega
      have HWd : Hid (Calls Try.prog 39 #[.int .i64 0, .slice A 15 c] wr fun e w' => e = .returned (.int .u64 emptyW) ∧ w' = wr) := by
        have := word_any (own_nums HO.out) (by decide) (by unfold Dig; decide) (x := 0) (m := 0) rfl (by decide)
        rw [show wdv 0 (List.range 15) = emptyW from emptyW_wd.is.symm] at this
        exact this
      go_wp2_with (go_at_call 39; go_must (refine HWd.out.mono ?_; rintro e w3 ⟨rfl, rfl⟩))
      go_ret
      exact ⟨rfl, HBl.out⟩

/-! ### Check -/
def bcell (T : List Nat) : List Value := (List.range 16).map fun i => Value.bool (decide (i ∈ T))
theorem bcell_length (T : List Nat) : (bcell T).length = 16 := by simp [bcell]
theorem bcell_get {T : List Nat} {i : Nat} (h : i < 16) : (bcell T)[i]? = some (.bool (decide (i ∈ T))) := by simp [bcell, h]
theorem bcell_set {T : List Nat} {x : Nat} : (bcell T).set x (.bool true) = bcell (T ++ [x]) := by
  apply List.ext_getElem?
  intro i
  by_cases hi : i < 16
  · rw [bcell_get hi]
    by_cases e : x = i
    · subst e
      rw [List.getElem?_set_self (by rw [bcell_length]; exact hi)]
      simp
    · rw [List.getElem?_set_ne e, bcell_get hi]
      have : (i ∈ T ++ [x]) ↔ i ∈ T := by simp; intro h; exact absurd h.symm e
      simp only [this]
  · rw [List.getElem?_eq_none (by rw [List.length_set, bcell_length]; omega), List.getElem?_eq_none (by rw [bcell_length]; omega)]

theorem infoB : (Try.prog.info? 4).map (fun i => (i.zero, i.size, i.bytes)) = some (some (.bool false), 1, 1) := by kernel_rfl
theorem make_bools (w : World) :
    (Instr.makeSlice 66 (.int .i64 16) (.int .i64 16)).run Try.prog w = .ok (.slice (some ⟨w.heap.size, 0, none⟩) 16 16) (w.alloc (.cells (bcell []).toArray 4)) := by
  obtain ⟨i, hi, h1, h2, h3⟩ := info_parts infoB
  have := run_make (P := Try.prog) w 66 4 i (.bool false) Try.underlying66 hi h1 .i64 .i64 16 16 (by omega) (Int.le_refl _) (by rw [h3]; decide) (by omega)
  rw [h2] at this
  rw [Nat.mul_one] at this
  have e : madeCells (Value.bool false).cells (16 : Int).toNat = (bcell []).toArray := by
    apply Array.ext'
    apply List.ext_getElem?
    intro i
    by_cases hi : i < 16
    · simp [madeCells, bcell, Value.cells, hi, Nat.mod_one]
    · simp [madeCells, bcell, Value.cells, hi]
  rw [e] at this
  exact this

set_option maxRecDepth 100000 in
set_option maxHeartbeats 1000000 in
theorem ocheck_any (h : Wd W u l) (w : World) : Calls Try.prog 16 #[.int .u64 W] w fun e w' => e = .returned (.int .i64 (chk l)) ∧ Below w.heap.size w w' := by
  have HW : Hid (Wd W u l) := h
  have hu16 := h.u16
  have HP : Hid (Calls Try.prog 38 #[.int .u64 W] w fun e w' => ∃ v, e = .returned (.tuple #[.int .i64 (u : Int), v]) ∧ OwnN w' w.heap.size v l ∧ Below w.heap.size w w') := parts_any h w
  have hug : ¬ (15 : Int) < (u : Int) := by omega
  have hmk := make_bools
  clear h
  go_enter Try.func16, Try.ntmps16
  go_wp2_with fail
  refine HP.out.mono ?_
  rintro e w1 ⟨v, rfl, ho1, hb1⟩
  obtain ⟨g, cap, hv, hcap1, hcap2, hcl⟩ : ∃ g cap, v = .slice (some ⟨g, 0, none⟩) 15 cap ∧ 15 ≤ cap ∧ cap ≤ maxLen ∧ g < w1.heap.size ∧ ∀ (j y : Nat), l[j]? = some y → w1.cell? ⟨g, j, none⟩ = some (.int .i64 (y : Int)) := by
    rcases ho1.2 with ⟨_, hn⟩ | ⟨g, cap, cur, hv, _, hg, h1, h2, _, h4⟩
    · rw [HW.out.len] at hn; cases hn
    · rw [HW.out.len] at hv h1
      refine ⟨g, cap, hv, h1, h2, lt_of hg, fun j y hy => ?_⟩
      have hjl := (List.getElem?_eq_some_iff.1 hy).1
      rw [cell_of hg, ← Array.getElem?_toList]
      have h5 := ncells_get hy
      rw [← h4] at h5
      rw [List.getElem?_take_of_lt (by rw [Nat.mul_one]; exact hjl)] at h5
      exact h5
  have HCl : Hid (∀ (j y : Nat), l[j]? = some y → w1.cell? ⟨g, j, none⟩ = some (.int .i64 (y : Int))) := hcl.2
  have hgl := hcl.1
  have HB1 : Hid (Below w.heap.size w w1) := hb1
  unfold maxLen at hcap2
  rw [hv]
  clear hv ho1 hb1 hcl HP
  obtain ⟨sb, hsb⟩ : ∃ sb, w1.heap.size = sb := ⟨_, rfl⟩
  have HT0 : Hid ((w1.alloc (.cells (bcell []).toArray 4)).heap[sb]? = some (.cells (bcell (l.take 0)).toArray 4 (0, 0))) := by rw [← hsb]; exact heap_new w1 _
  have HBw : Hid (Below sb w1 (w1.alloc (.cells (bcell []).toArray 4))) := by rw [← hsb]; exact below_alloc w1 _
  have HSB : Hid (w1.heap.size = sb) := hsb
  rw [hsb] at hgl
  go_wp2_with fail
  try rw [hsb]
  clear hsb hmk
  go_loopw [6] (fun i wr => ∃ j : Nat, j ≤ 15 ∧ i = .int .i64 j ∧ Hid (wr.heap[sb]? = some (.cells (bcell (l.take j)).toArray 4 (0, 0))) ∧ Hid (Below sb w1 wr) ∧ Hid ((l.take j).Nodup ∧ ∀ y ∈ l.take j, y < 15)) (fun i _ => 15 - (intOf i).toNat)
  case atStart => exact ⟨0, by omega, rfl, HT0, HBw, (⟨List.Pairwise.nil, fun y hy => by cases hy⟩ : (l.take 0).Nodup ∧ ∀ y ∈ l.take 0, y < 15)⟩
  case round =>
    clear HT0 HBw
    obtain ⟨j, hj, rfl, HT, HBl, HOk⟩ := hrel
    by_cases hlt : j < 15
    · have hlI : (j : Int) < 15 := by omega
      have hjl : j < l.length := by rw [HW.out.len]; exact hlt
      obtain ⟨y, hy⟩ : ∃ y, l[j]? = some y := ⟨_, List.getElem?_eq_getElem hjl⟩
      have HTk : Hid (l.take (j + 1) = l.take j ++ [y]) := by show _ = _; rw [List.take_add_one, hy]; rfl
      have HMem : Hid (y ∈ l) := List.mem_of_getElem? hy
      have HSub : Hid (List.Sublist (l.take (j + 1)) l) := List.take_sublist _ _
      have c0 : wr.cell? ⟨g, j, none⟩ = some (.int .i64 (y : Int)) := (HBl.out.cell (p := ⟨g, j, none⟩) hgl).trans (HCl.out j y hy)
      have hy16 : y < 16 := HW.out.dig y (List.mem_of_getElem? hy)
      have c1 : wr.cell? ⟨sb, y, none⟩ = some (.bool (decide (y ∈ l.take j))) := by rw [cell_of HT.out, List.getElem?_toArray]; exact bcell_get hy16
      have f1 := frozen_of HT.out y
      clear hy hjl
      by_cases h15 : 15 ≤ y
      · have hyI : (15 : Int) ≤ (y : Int) := by omega
        have HNo : Hid (chk l = 4) := chk_no (fun hm => by have := hm.2 y HMem.out; omega)
        go_wp2_with fail
        go_ret
        exact ⟨ret_int HNo.out.symm, HB1.out.trans (HBl.out.mono (by rw [← HSB.out]; exact HB1.out.size))⟩
      · have hyI : ¬ (15 : Int) ≤ (y : Int) := by omega
        have hyI2 : (y : Int) < 15 := by omega
        by_cases hin : y ∈ l.take j
        · rw [decide_eq_true hin] at c1
          have HNo : Hid (chk l = 4) := chk_no (fun hm => by
            have h1 := hm.1.sublist HSub.out
            rw [HTk.out] at h1
            have := (List.nodup_append.1 h1).2.2 y hin y (by simp)
            exact this rfl)
          clear hin
          go_wp2_with fail
          go_ret
          exact ⟨ret_int HNo.out.symm, HB1.out.trans (HBl.out.mono (by rw [← HSB.out]; exact HB1.out.size))⟩
        · rw [decide_eq_false hin] at c1
          have HOk2 : Hid ((l.take (j + 1)).Nodup ∧ ∀ z ∈ l.take (j + 1), z < 15) := by
            rw [HTk.out]
            refine ⟨List.nodup_append.2 ⟨HOk.out.1, by simp, fun a ha b hb => ?_⟩, fun z hz => ?_⟩
            · rw [List.mem_singleton.1 hb]
              exact fun e => hin (e ▸ ha)
            · rcases List.mem_append.1 hz with h | h
              · exact HOk.out.2 z h
              · rw [List.mem_singleton.1 h]; omega
          have hb16 : (y : Int) < 16 := by omega
          clear hin
          go_wp2_with fail
          go_roundw
          case rel =>
            refine ⟨j + 1, by omega, by go_num, ?_, ?_, HOk2⟩
            · have e := heap_setCell_same HT.out y (.bool true)
              rw [List.setIfInBounds_toArray, bcell_set, ← HTk.out] at e
              exact e
            · exact HBl.out.trans ((Turn.setCell (S := fun i => sb ≤ i) wr ⟨sb, y, none⟩ _ (Nat.le_refl _)).toBelow (Nat.le_of_lt (lt_of HT.out)))
          case measure => simp [intOf]; omega
    · have hlI : ¬ (j : Int) < 15 := by omega
      have HYes : Hid (chk l = 0) := by
        have h1 := HOk.out
        rw [List.take_of_length_le (by rw [HW.out.len]; omega)] at h1
        exact chk_yes h1
      go_wp2_with fail
      go_ret
      exact ⟨ret_int HYes.out.symm, HB1.out.trans (HBl.out.mono (by rw [← HSB.out]; exact HB1.out.size))⟩
end

end Go.Proofs.Ytnnkflghnapnpaa
