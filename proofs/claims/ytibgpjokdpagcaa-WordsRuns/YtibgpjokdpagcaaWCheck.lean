/- Check: which tasks may be. -/
import Derived.Test.YtibgpjokdpagcaaProg
import Derived.Test.YtibgpjokdpagcaaWPure
import Derived.Test.YtibgpjokdpagcaaOpen
import Derived.OwnWalk
namespace Go.Proofs.Ytibgpjokdpagcaa
open Go.RowKit

theorem SliceAt.below {α : Type} {w w' : World} {v : Value} {n : Nat} {en : α → List Value} {L : List α} (h : SliceAt w v n en L) (hb : Below w.heap.size w w') : SliceAt w' v n en L := by
  obtain ⟨a, c, h1, h2, h3, h4⟩ := h
  refine ⟨a, c, h1, h2, h3, fun hne => ?_⟩
  obtain ⟨b, off, e, hlt, hc⟩ := h4 hne
  exact ⟨b, off, e, Nat.lt_of_lt_of_le hlt hb.size, fun i hi j u hu => (hb.cell (p := ⟨b, off + i * n + j, none⟩) hlt).trans (hc i hi j u hu)⟩

theorem ret_two {k l : IntKind} {a b a' b' : Int} (h : a = a') (h' : b = b') : Ending.returned (.tuple #[.int k a, .int l b]) = .returned (.tuple #[.int k a', .int l b']) := by rw [h, h']
theorem ret_three {k l m : IntKind} {a b c a' b' c' : Int} (h : a = a') (h' : b = b') (h2 : c = c') : Ending.returned (.tuple #[.int k a, .int l b, .int m c]) = .returned (.tuple #[.int k a', .int l b', .int m c']) := by rw [h, h', h2]

structure TaskV where
  v : Value
  L : List InsV

/-- v is a slice of the tasks T -/
structure TasksAt (w : World) (v : Value) (T : List TaskV) : Prop where
  top : SliceAt w v 1 (fun t : TaskV => [t.v]) T
  each : ∀ t ∈ T, SliceAt w t.v 4 InsV.en t.L
theorem TasksAt.below {w w' : World} {v : Value} {T : List TaskV} (h : TasksAt w v T) (hb : Below w.heap.size w w') : TasksAt w' v T := ⟨h.top.below hb, fun t ht => (h.each t ht).below hb⟩

theorem reg_yes (r : Int) (w : World) (h1 : 0 ≤ r) (h2 : r < 8) : Calls Try.prog 33 #[.int .i64 r] w fun e w' => e = .returned (.bool true) ∧ w = w' := by
  go_enter Try.func33, Try.ntmps33
  go_wp2
  go_ret
  exact ⟨rfl, rfl⟩
theorem reg_no (r : Int) (w : World) (h : ¬ (0 ≤ r ∧ r < 8)) : Calls Try.prog 33 #[.int .i64 r] w fun e w' => e = .returned (.bool false) ∧ w = w' := by
  by_cases h1 : 0 ≤ r
  · have h2 : ¬ r < 8 := fun h2 => h ⟨h1, h2⟩
    clear h
    go_enter Try.func33, Try.ntmps33
    go_wp2
    go_ret
    exact ⟨rfl, rfl⟩
  · clear h
    go_enter Try.func33, Try.ntmps33
    go_wp2
    go_ret
    exact ⟨rfl, rfl⟩

abbrev InsV.agg (x : InsV) : Value := .agg #[.int .i64 x.kind, .int .i64 x.a, .int .i64 x.b, .int .i64 x.n]

theorem instr_any (x : InsV) (many cells : Int) (w : World) :
    Calls Try.prog 31 #[x.agg, .int .i64 many, .int .i64 cells] w fun e w' => e = .returned (.bool (x.mayB many cells)) ∧ Below w.heap.size w w' := by
  obtain ⟨k, a, b, n⟩ := x
  by_cases ha : 0 ≤ a ∧ a < 8
  · by_cases hb : 0 ≤ b ∧ b < 8
    · have HR : Hid (InsV.regs ⟨k, a, b, n⟩) := ⟨ha.1, ha.2, hb.1, hb.2⟩
      have hm : ∀ q : Bool, (InsV.num ⟨k, a, b, n⟩ many cells ↔ q = true) → InsV.mayB ⟨k, a, b, n⟩ many cells = q := by
        intro q e
        rw [Bool.eq_iff_iff, mayB_true, ← e]
        exact ⟨fun h => h.2, fun h => ⟨HR.out, h⟩⟩
      have HM : Hid (∀ q : Bool, (InsV.num ⟨k, a, b, n⟩ many cells ↔ q = true) → InsV.mayB ⟨k, a, b, n⟩ many cells = q) := hm
      clear hm
      go_enter Try.func31, Try.ntmps31
      go_wp2_with fail
      refine (reg_yes a _ ha.1 ha.2).mono ?_
      rintro e w1 ⟨rfl, rfl⟩
      go_wp2_with fail
      refine (reg_yes b _ hb.1 hb.2).mono ?_
      rintro e w1 ⟨rfl, rfl⟩
      obtain ⟨ha1, ha2⟩ := ha
      obtain ⟨hb1, hb2⟩ := hb
      have hk : k = 1 ∨ k = 2 ∨ k = 3 ∨ k = 8 ∨ k = 4 ∨ k = 5 ∨ k = 6 ∨ k = 7 ∨ (k < 1 ∨ 8 < k) := by omega
      rcases hk with rfl | rfl | rfl | rfl | rfl | rfl | rfl | rfl | hk
      · go_wp2_with fail
        go_ret
        exact ⟨ret_bool (HM.out _ ⟨fun _ => rfl, fun _ => trivial⟩).symm, (Below.refl _ _).alloc (Nat.le_refl _) _⟩
      · go_wp2_with fail
        go_ret
        exact ⟨ret_bool (HM.out _ ⟨fun _ => rfl, fun _ => trivial⟩).symm, (Below.refl _ _).alloc (Nat.le_refl _) _⟩
      · go_wp2_with fail
        go_ret
        exact ⟨ret_bool (HM.out _ ⟨fun _ => rfl, fun _ => trivial⟩).symm, (Below.refl _ _).alloc (Nat.le_refl _) _⟩
      · go_wp2_with fail
        go_ret
        exact ⟨ret_bool (HM.out _ ⟨fun _ => rfl, fun _ => trivial⟩).symm, (Below.refl _ _).alloc (Nat.le_refl _) _⟩
      · by_cases h0 : 0 ≤ n
        · go_wp2_with fail
          go_ret
          refine ⟨ret_bool (HM.out _ ?_).symm, (Below.refl _ _).alloc (Nat.le_refl _) _⟩
          exact ⟨fun h => decide_eq_true h.2, fun h => ⟨h0, of_decide_eq_true h⟩⟩
        · go_wp2_with fail
          go_ret
          refine ⟨ret_bool (HM.out _ ?_).symm, (Below.refl _ _).alloc (Nat.le_refl _) _⟩
          refine ⟨fun h => ?_, fun h => by cases h⟩
          have h1 : 0 ≤ n := h.1
          omega
      · by_cases h0 : 0 ≤ n
        · go_wp2_with fail
          go_ret
          refine ⟨ret_bool (HM.out _ ?_).symm, (Below.refl _ _).alloc (Nat.le_refl _) _⟩
          exact ⟨fun h => decide_eq_true h.2, fun h => ⟨h0, of_decide_eq_true h⟩⟩
        · go_wp2_with fail
          go_ret
          refine ⟨ret_bool (HM.out _ ?_).symm, (Below.refl _ _).alloc (Nat.le_refl _) _⟩
          refine ⟨fun h => ?_, fun h => by cases h⟩
          have h1 : 0 ≤ n := h.1
          omega
      · by_cases h0 : 0 ≤ n
        · go_wp2_with fail
          go_ret
          refine ⟨ret_bool (HM.out _ ?_).symm, (Below.refl _ _).alloc (Nat.le_refl _) _⟩
          exact ⟨fun h => decide_eq_true h.2, fun h => ⟨h0, of_decide_eq_true h⟩⟩
        · go_wp2_with fail
          go_ret
          refine ⟨ret_bool (HM.out _ ?_).symm, (Below.refl _ _).alloc (Nat.le_refl _) _⟩
          refine ⟨fun h => ?_, fun h => by cases h⟩
          have h1 : 0 ≤ n := h.1
          omega
      · by_cases h0 : 0 ≤ n
        · go_wp2_with fail
          go_ret
          refine ⟨ret_bool (HM.out _ ?_).symm, (Below.refl _ _).alloc (Nat.le_refl _) _⟩
          exact ⟨fun h => decide_eq_true h.2, fun h => ⟨h0, of_decide_eq_true h⟩⟩
        · go_wp2_with fail
          go_ret
          refine ⟨ret_bool (HM.out _ ?_).symm, (Below.refl _ _).alloc (Nat.le_refl _) _⟩
          refine ⟨fun h => ?_, fun h => by cases h⟩
          have h1 : 0 ≤ n := h.1
          omega
      · have e1 : (k == 1) = false := by rw [beq_eq_false_iff_ne]; omega
        have e2 : (k == 2) = false := by rw [beq_eq_false_iff_ne]; omega
        have e3 : (k == 3) = false := by rw [beq_eq_false_iff_ne]; omega
        have e4 : (k == 4) = false := by rw [beq_eq_false_iff_ne]; omega
        have e5 : (k == 5) = false := by rw [beq_eq_false_iff_ne]; omega
        have e6 : (k == 6) = false := by rw [beq_eq_false_iff_ne]; omega
        have e7 : (k == 7) = false := by rw [beq_eq_false_iff_ne]; omega
        have e8 : (k == 8) = false := by rw [beq_eq_false_iff_ne]; omega
        have HK : Hid (k < 1 ∨ 8 < k) := hk
        clear hk
        go_wp2_with fail
        go_ret
        refine ⟨ret_bool (HM.out _ ?_).symm, (Below.refl _ _).alloc (Nat.le_refl _) _⟩
        have hk := HK.out
        unfold InsV.num
        dsimp only
        rw [if_neg (by omega), if_neg (by omega), if_neg (by omega)]
        exact ⟨fun h => h.elim, fun h => by cases h⟩
    · have HB : Hid (¬ (0 ≤ b ∧ b < 8)) := hb
      clear hb
      go_enter Try.func31, Try.ntmps31
      go_wp2_with fail
      refine (reg_yes a _ ha.1 ha.2).mono ?_
      rintro e w1 ⟨rfl, rfl⟩
      go_wp2_with fail
      refine (reg_no b _ HB.out).mono ?_
      rintro e w1 ⟨rfl, rfl⟩
      go_wp2_with fail
      go_ret
      refine ⟨ret_bool ?_, (Below.refl _ _).alloc (Nat.le_refl _) _⟩
      rw [eq_comm, Bool.eq_false_iff]
      intro h
      replace h := mayB_true.1 h
      exact HB.out ⟨h.1.2.2.1, h.1.2.2.2⟩
  · have HA : Hid (¬ (0 ≤ a ∧ a < 8)) := ha
    clear ha
    go_enter Try.func31, Try.ntmps31
    go_wp2_with fail
    refine (reg_no a _ HA.out).mono ?_
    rintro e w1 ⟨rfl, rfl⟩
    go_wp2_with fail
    go_ret
    refine ⟨ret_bool ?_, (Below.refl _ _).alloc (Nat.le_refl _) _⟩
    rw [eq_comm, Bool.eq_false_iff]
    intro h
    replace h := mayB_true.1 h
    exact HA.out ⟨h.1.1, h.1.2.1⟩

set_option maxRecDepth 100000 in
theorem checkTask_any (v : Value) (L : List InsV) (cells : Int) (w : World) (hA : SliceAt w v 4 InsV.en L) :
    Calls Try.prog 21 #[v, .int .i64 cells] w fun e w' => e = .returned (.tuple #[.int .i64 (taskE L cells).1, .int .i64 (taskE L cells).2]) ∧ Below w.heap.size w w' := by
  obtain ⟨a, c, rfl, hl, hc, hx⟩ := hA
  have HX : Hid (L ≠ [] → ∃ b off, a = some ⟨b, off, none⟩ ∧ b < w.heap.size ∧ ∀ i, (h : i < L.length) → ∀ (j : Nat) (u : Value), (InsV.en L[i])[j]? = some u → w.cell? ⟨b, off + i * 4 + j, none⟩ = some u) := hx
  unfold maxLen at hc
  clear hx
  by_cases hlen : (4096 : Int) < (L.length : Int)
  · have HE : Hid (taskE L cells = (0, 2)) := if_pos (by omega)
    go_enter Try.func21, Try.ntmps21
    go_wp2_with fail
    go_ret2
    exact ⟨ret_two (by rw [HE.out]) (by rw [HE.out]), Below.refl _ _⟩
  · have HE : Hid (taskE L cells = match badAt L.length cells L 0 with
      | none => (0, 0)
      | some i => ((i : Int), 30)) := if_neg (by omega)
    go_enter Try.func21, Try.ntmps21
    go_wp2_with fail
    go_loopw [13] (fun i wr => ∃ j : Nat, j ≤ L.length ∧ i = .int .i64 j ∧ badAt L.length cells L 0 = badAt L.length cells (L.drop j) j ∧ Below w.heap.size w wr) (fun i _ => L.length - (intOf i).toNat)
    case atStart => exact ⟨0, Nat.zero_le _, rfl, rfl, Below.refl _ _⟩
    case round =>
      obtain ⟨j, hj, rfl, hbad, hbel⟩ := hrel
      have HB : Hid (badAt L.length cells L 0 = badAt L.length cells (L.drop j) j) := hbad
      have HW : Hid (Below w.heap.size w wr) := hbel
      clear hbad hbel
      by_cases hlt : j < L.length
      · have hlI : (j : Int) < (L.length : Int) := by omega
        obtain ⟨b, off, rfl, hbl, hcs⟩ := HX.out (by intro e; rw [e] at hlt; simp at hlt)
        obtain ⟨x, hxe⟩ : ∃ x, L[j] = x := ⟨_, rfl⟩
        have q := hcs j hlt
        rw [hxe] at q
        have p0 := (HW.out.cell (p := ⟨b, off + j * 4, none⟩) hbl).trans (q 0 _ rfl)
        have p1 := (HW.out.cell (p := ⟨b, off + j * 4 + 1, none⟩) hbl).trans (q 1 _ rfl)
        have p2 := (HW.out.cell (p := ⟨b, off + j * 4 + 2, none⟩) hbl).trans (q 2 _ rfl)
        have p3 := (HW.out.cell (p := ⟨b, off + j * 4 + 3, none⟩) hbl).trans (q 3 _ rfl)
        have HD : Hid (badAt L.length cells L 0 = if x.mayB L.length cells then badAt L.length cells (L.drop (j + 1)) (j + 1) else some j) := by
          refine HB.out.trans ((badAt_drop hlt).trans ?_)
          rw [hxe]
        clear q hcs hxe HB
        go_wp2_with fail
        refine (instr_any x _ _ _).mono ?_
        rintro e w1 ⟨rfl, hw1⟩
        have HW1 : Hid (Below w.heap.size w w1) := (HW.out.alloc HW.out.size _).trans (hw1.mono (by have := HW.out.size; simp; omega))
        clear hw1
        by_cases hm : x.mayB L.length cells = true
        · have HD2 : Hid (badAt L.length cells L 0 = badAt L.length cells (L.drop (j + 1)) (j + 1)) := HD.out.trans (if_pos hm)
          rw [hm]
          clear hm HD
          go_wp2_with fail
          go_roundw
          case rel => exact ⟨j + 1, by omega, by go_num, HD2.out, HW1.out⟩
          case measure => simp [intOf]; omega
        · have HD2 : Hid (badAt L.length cells L 0 = some j) := HD.out.trans (if_neg hm)
          have hd : x.mayB L.length cells = false := Bool.eq_false_iff.2 hm
          rw [hd]
          clear hd hm HD
          go_wp2_with fail
          go_ret2
          exact ⟨ret_two (by rw [HE.out, HD2.out]) (by rw [HE.out, HD2.out]), HW1.out⟩
      · have hgI : ¬ (j : Int) < (L.length : Int) := by omega
        have HD2 : Hid (badAt L.length cells L 0 = none) := by
          rw [HB.out, List.drop_eq_nil_of_le (by omega)]
          rfl
        clear HB
        go_wp2_with fail
        go_ret2
        exact ⟨ret_two (by rw [HE.out, HD2.out]) (by rw [HE.out, HD2.out]), HW.out⟩

abbrev TaskV.code (t : TaskV) : List InsV := t.L
def codes (T : List TaskV) : List (List InsV) := T.map TaskV.L
theorem codes_length (T : List TaskV) : (codes T).length = T.length := by simp [codes]

set_option maxRecDepth 100000 in
theorem check_any (v : Value) (T : List TaskV) (cells : Int) (w : World) (hA : TasksAt w v T) :
    Calls Try.prog 11 #[v, .int .i64 cells] w fun e w' => e = .returned (.tuple #[.int .i64 (checkE (codes T) cells).1, .int .i64 (checkE (codes T) cells).2.1, .int .i64 (checkE (codes T) cells).2.2]) ∧ Below w.heap.size w w' := by
  obtain ⟨⟨a, c, rfl, hl, hc, hx⟩, he⟩ := hA
  have HX : Hid (T ≠ [] → ∃ b off, a = some ⟨b, off, none⟩ ∧ b < w.heap.size ∧ ∀ i, (h : i < T.length) → ∀ (j : Nat) (u : Value), ([T[i].v])[j]? = some u → w.cell? ⟨b, off + i * 1 + j, none⟩ = some u) := hx
  have HT : Hid (∀ t ∈ T, SliceAt w t.v 4 InsV.en t.L) := he
  unfold maxLen at hc
  clear hx he
  by_cases h1 : (4096 : Int) < (T.length : Int)
  · have HE : Hid (checkE (codes T) cells = (0, 0, 2)) := if_pos (by rw [codes_length]; omega)
    go_enter Try.func11, Try.ntmps11
    go_wp2_with fail
    go_ret3
    exact ⟨ret_three (by rw [HE.out]) (by rw [HE.out]) (by rw [HE.out]), Below.refl _ _⟩
  by_cases h2 : cells < 0
  · have HE : Hid (checkE (codes T) cells = (0, 0, 2)) := if_pos (by omega)
    go_enter Try.func11, Try.ntmps11
    go_wp2_with fail
    go_ret3
    exact ⟨ret_three (by rw [HE.out]) (by rw [HE.out]) (by rw [HE.out]), Below.refl _ _⟩
  by_cases h3 : 4096 < cells
  · have HE : Hid (checkE (codes T) cells = (0, 0, 2)) := if_pos (by omega)
    go_enter Try.func11, Try.ntmps11
    go_wp2_with fail
    go_ret3
    exact ⟨ret_three (by rw [HE.out]) (by rw [HE.out]) (by rw [HE.out]), Below.refl _ _⟩
  have HE : Hid (checkE (codes T) cells = tasksE cells (codes T) 0) := if_neg (by rw [codes_length]; omega)
  go_enter Try.func11, Try.ntmps11
  go_wp2_with fail
  go_loopw [24] (fun i wr => ∃ j : Nat, j ≤ T.length ∧ i = .int .i64 j ∧ tasksE cells (codes T) 0 = tasksE cells ((codes T).drop j) j ∧ Below w.heap.size w wr) (fun i _ => T.length - (intOf i).toNat)
  case atStart => exact ⟨0, Nat.zero_le _, rfl, rfl, Below.refl _ _⟩
  case round =>
    obtain ⟨j, hj, rfl, hbad, hbel⟩ := hrel
    have HB : Hid (tasksE cells (codes T) 0 = tasksE cells ((codes T).drop j) j) := hbad
    have HW : Hid (Below w.heap.size w wr) := hbel
    clear hbad hbel
    by_cases hlt : j < T.length
    · have hlI : (j : Int) < (T.length : Int) := by omega
      obtain ⟨b, off, rfl, hbl, hcs⟩ := HX.out (by intro e; rw [e] at hlt; simp at hlt)
      obtain ⟨t, hte⟩ : ∃ t, T[j] = t := ⟨_, rfl⟩
      have q := hcs j hlt
      rw [hte] at q
      have hmem : t ∈ T := hte ▸ List.getElem_mem hlt
      obtain ⟨ta, tc, hte2, ht3⟩ := HT.out t hmem
      have HS : Hid (SliceAt wr (.slice ta t.L.length tc) 4 InsV.en t.L) := SliceAt.below ⟨ta, tc, rfl, ht3⟩ HW.out
      have q0 := q 0 _ rfl
      rw [Nat.mul_one, Nat.add_zero, hte2] at q0
      have p0 : wr.cell? ⟨b, off + j, none⟩ = some (.slice ta t.L.length tc) := (HW.out.cell hbl).trans q0
      have hlc : j < (codes T).length := by rw [codes_length]; exact hlt
      have HD : Hid (tasksE cells (codes T) 0 = if (taskE t.L cells).2 = 0 then tasksE cells ((codes T).drop (j + 1)) (j + 1) else ((j : Int), taskE t.L cells)) := by
        refine HB.out.trans ((tasksE_drop hlc).trans ?_)
        have e : (codes T)[j] = t.L := by simp [codes, hte]
        rw [e]
      clear q q0 hcs hte HB hlc hmem hte2 ht3
      go_wp2_with fail
      refine (checkTask_any _ t.L cells _ HS.out).mono ?_
      rintro e w1 ⟨rfl, hw1⟩
      have HW1 : Hid (Below w.heap.size w w1) := HW.out.trans (hw1.mono HW.out.size)
      clear hw1
      by_cases hm : (taskE t.L cells).2 = 0
      · have HD2 : Hid (tasksE cells (codes T) 0 = tasksE cells ((codes T).drop (j + 1)) (j + 1)) := HD.out.trans (if_pos hm)
        rw [hm]
        clear hm HD
        go_wp2_with fail
        go_roundw
        case rel => exact ⟨j + 1, by omega, by go_num, HD2.out, HW1.out⟩
        case measure => simp [intOf]; omega
      · have HD2 : Hid (tasksE cells (codes T) 0 = ((j : Int), taskE t.L cells)) := HD.out.trans (if_neg hm)
        obtain ⟨⟨z1, z2⟩, hze⟩ : ∃ z, taskE t.L cells = z := ⟨_, rfl⟩
        rw [hze] at hm HD2 ⊢
        dsimp only at hm ⊢
        have hz : (z2 != 0) = true := by rw [bne_iff_ne]; exact hm
        clear hm HD hze
        go_wp2_with fail
        go_ret3
        exact ⟨ret_three (by rw [HE.out, HD2.out]) (by rw [HE.out, HD2.out]) (by rw [HE.out, HD2.out]), HW1.out⟩
    · have hgI : ¬ (j : Int) < (T.length : Int) := by omega
      have HD2 : Hid (tasksE cells (codes T) 0 = (0, 0, 0)) := by
        refine HB.out.trans ?_
        rw [List.drop_eq_nil_of_le (by rw [codes_length]; omega)]
        rfl
      clear HB
      go_wp2_with fail
      go_ret3
      exact ⟨ret_three (by rw [HE.out, HD2.out]) (by rw [HE.out, HD2.out]) (by rw [HE.out, HD2.out]), HW.out⟩

/-- v is a slice of the numbers L -/
abbrev IntsAt (w : World) (v : Value) (L : List Int) : Prop := SliceAt w v 1 (fun x : Int => [Value.int .i64 x]) L

set_option maxRecDepth 100000 in
theorem picks_any (v : Value) (L : List Int) (n : Nat) (w : World) (hA : IntsAt w v L) :
    Calls Try.prog 23 #[v, .int .i64 (n : Int)] w fun e w' => e = .returned (.int .i64 (pickE n L)) ∧ w = w' := by
  obtain ⟨a, c, rfl, hl, hc, hx⟩ := hA
  have HX : Hid (L ≠ [] → ∃ b off, a = some ⟨b, off, none⟩ ∧ b < w.heap.size ∧ ∀ i, (h : i < L.length) → ∀ (j : Nat) (u : Value), ([Value.int .i64 L[i]])[j]? = some u → w.cell? ⟨b, off + i * 1 + j, none⟩ = some u) := hx
  unfold maxLen at hc
  clear hx
  by_cases h1 : (1048576 : Int) < (L.length : Int)
  · have HE : Hid (pickE n L = 2) := if_pos (by omega)
    go_enter Try.func23, Try.ntmps23
    go_wp2_with fail
    go_ret
    exact ⟨ret_int HE.out.symm, rfl⟩
  have HE : Hid (pickE n L = if ∀ p ∈ L, 0 ≤ p ∧ p < n then 0 else 1) := if_neg (by omega)
  go_enter Try.func23, Try.ntmps23
  go_wp2_with fail
  go_loopw [12] (fun i wr => ∃ j : Nat, j ≤ L.length ∧ i = .int .i64 j ∧ (∀ k, (h : k < L.length) → k < j → 0 ≤ L[k] ∧ L[k] < n) ∧ wr = w) (fun i _ => L.length - (intOf i).toNat)
  case atStart => exact ⟨0, Nat.zero_le _, rfl, fun k _ h => absurd h (Nat.not_lt_zero _), rfl⟩
  case round =>
    obtain ⟨j, hj, rfl, hbad, rfl⟩ := hrel
    have HB : Hid (∀ k, (h : k < L.length) → k < j → 0 ≤ L[k] ∧ L[k] < n) := hbad
    clear hbad
    by_cases hlt : j < L.length
    · have hlI : (j : Int) < (L.length : Int) := by omega
      obtain ⟨b, off, rfl, hbl, hcs⟩ := HX.out (by intro e; rw [e] at hlt; simp at hlt)
      obtain ⟨x, hxe⟩ : ∃ x, L[j] = x := ⟨_, rfl⟩
      have q := hcs j hlt 0 _ rfl
      rw [hxe, Nat.mul_one, Nat.add_zero] at q
      have HX2 : Hid (L[j] = x) := hxe
      clear hcs hxe
      by_cases k1 : x < 0
      · have HD : Hid (pickE n L = 1) := by
          refine HE.out.trans (if_neg fun h => ?_)
          have := (h L[j] (List.getElem_mem hlt)).1
          rw [HX2.out] at this
          omega
        go_wp2_with fail
        go_ret
        exact ⟨ret_int HD.out.symm, rfl⟩
      by_cases k2 : (n : Int) ≤ x
      · have HD : Hid (pickE n L = 1) := by
          refine HE.out.trans (if_neg fun h => ?_)
          have := (h L[j] (List.getElem_mem hlt)).2
          rw [HX2.out] at this
          omega
        go_wp2_with fail
        go_ret
        exact ⟨ret_int HD.out.symm, rfl⟩
      go_wp2_with fail
      go_roundw
      case rel =>
        refine ⟨j + 1, by omega, by go_num, fun k hk hkj => ?_, trivial⟩
        by_cases e : k = j
        · subst e
          rw [HX2.out]
          omega
        · exact HB.out k hk (by omega)
      case measure => simp [intOf]; omega
    · have hgI : ¬ (j : Int) < (L.length : Int) := by omega
      have HD : Hid (pickE n L = 0) := by
        refine HE.out.trans (if_pos fun p hp => ?_)
        obtain ⟨k, hk, rfl⟩ := List.getElem_of_mem hp
        exact HB.out k hk (by omega)
      go_wp2_with fail
      go_ret
      exact ⟨ret_int HD.out.symm, rfl⟩

end Go.Proofs.Ytibgpjokdpagcaa
