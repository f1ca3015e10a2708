/- The reference disk: Named, find, known, Read. -/
import Derived.Test.YtbiombolpfhdlaaRef
namespace Go.Proofs.Ytbiombolpfhdlaa
open Go.RowKit Go.Maps

theorem bb_eq (a b : ByteArray) : (a.toList == b.toList) = decide (a.data.toList = b.data.toList) := by
  rw [Go.ByteArray.toList_eq, Go.ByteArray.toList_eq, Bool.eq_iff_iff]
  simp
theorem less_before : ∀ (x y : List UInt8), Op.bytesLess x y = bytesBefore x y
  | [], [] => rfl
  | [], _ :: _ => rfl
  | _ :: _, [] => rfl
  | a :: x, b :: y => by simp [Op.bytesLess, bytesBefore, less_before x y]
theorem bb_less (a b : ByteArray) : Op.bytesLess a.toList b.toList = bytesBefore a.data.toList b.data.toList := by
  rw [Go.ByteArray.toList_eq, Go.ByteArray.toList_eq, less_before]

set_option maxRecDepth 100000 in
set_option maxHeartbeats 1000000 in
theorem named_any (k : ByteArray) (w : World) (hk : k.size ≤ maxLen) :
    Calls Try.prog 41 #[.string k] w fun e w' => e = .returned (.bool (Dk.okS k)) ∧ w = w' := by
  unfold maxLen at hk
  have hemp : (k.toList == ([] : List UInt8)) = decide (k.size = 0) := by
    rw [Go.ByteArray.toList_eq, Bool.eq_iff_iff]
    simp only [beq_iff_eq, decide_eq_true_eq]
    constructor
    · intro e; have := congrArg List.length e; simpa using this
    · intro e; exact List.eq_nil_of_length_eq_zero e
  have HEmp : Hid ((k.toList == ([] : List UInt8)) = decide (k.size = 0)) := hemp
  clear hemp
  by_cases h1 : k.size < 1 ∨ 32 < k.size
  · have hf : Dk.okS k = false := by
      unfold Dk.okS Dk.okName
      have e : k.data.toList.length = k.size := rfl
      rw [e]
      rcases h1 with h | h
      · have : decide (1 ≤ k.size) = false := decide_eq_false (by omega)
        rw [this]; rfl
      · have : decide (k.size ≤ 32) = false := decide_eq_false (by omega)
        rw [this]; simp
    rw [hf]
    by_cases h2 : k.size = 0
    · have h2' : k.toList.isEmpty = true := by have := HEmp.out; rw [h2] at this; simpa using this
      go_enter Try.func41, Try.ntmps41
      go_wp2
      go_ret
      exact ⟨rfl, rfl⟩
    · have h3 : (32 : Int) < k.size := by omega
      have h2' : k.toList.isEmpty = false := by have := HEmp.out; rw [decide_eq_false h2] at this; simpa using this
      go_enter Try.func41, Try.ntmps41
      go_wp2
      go_ret
      exact ⟨rfl, rfl⟩
  · have h3 : ¬ (32 : Int) < k.size := by omega
    have h2' : k.toList.isEmpty = false := by have := HEmp.out; rw [decide_eq_false (by omega)] at this; simpa using this
    have h4 : 1 ≤ k.size := by omega
    go_enter Try.func41, Try.ntmps41
    go_wp2
    go_loop [3] (fun i => ∃ j : Nat, j ≤ k.size ∧ i = .int .i64 j ∧ (k.data.toList.take j).all Dk.okByte = true) (fun i => k.size - (intOf i).toNat)
    case atStart => exact ⟨0, Nat.zero_le _, rfl, rfl⟩
    case round =>
      obtain ⟨j, hj, rfl, hall⟩ := hrel
      by_cases hlt : j < k.size
      · have hst := Dk.okS_take k j hlt hall
        have HS : Hid ((k.data.toList.take (j + 1)).all Dk.okByte = Dk.okB (k[j].toNat : Int)) := hst
        clear hst hall
        have hcs : (k[j].toNat : Int) < 46 ∨ (k[j].toNat : Int) = 46 ∨ (k[j].toNat : Int) = 47 ∨ (48 ≤ (k[j].toNat : Int) ∧ (k[j].toNat : Int) ≤ 57) ∨ (58 ≤ (k[j].toNat : Int) ∧ (k[j].toNat : Int) < 97) ∨ (97 ≤ (k[j].toNat : Int) ∧ (k[j].toNat : Int) ≤ 122) ∨ 122 < (k[j].toNat : Int) := by omega
        rcases hcs with q | q | q | q | q | q | q
        · have g1 : ¬ 97 ≤ (k[j].toNat : Int) := by omega
          have g2 : ¬ 48 ≤ (k[j].toNat : Int) := by omega
          have g5 : ((k[j].toNat : Int) == 46) = false := by rw [beq_eq_false_iff_ne]; omega
          go_wp2
          go_ret
          exact ⟨ret_bool (Dk.okS_no k (j + 1) (HS.out.trans (by unfold Dk.okB; rw [Bool.eq_false_iff]; simp; omega))).symm, rfl⟩
        · have g1 : ¬ 97 ≤ (k[j].toNat : Int) := by omega
          have g2 : ¬ 48 ≤ (k[j].toNat : Int) := by omega
          have g5 : ((k[j].toNat : Int) == 46) = true := by rw [beq_iff_eq]; omega
          have g6 : 46 ≤ (k[j].toNat : Int) ∧ (k[j].toNat : Int) ≤ 46 := by omega
          clear q
          go_wp2
          go_round
          case rel => exact ⟨j + 1, by omega, by go_num, HS.out.trans (by unfold Dk.okB; simp; omega)⟩
          case measure => simp [intOf]; omega
        · have g1 : ¬ 97 ≤ (k[j].toNat : Int) := by omega
          have g2 : ¬ 48 ≤ (k[j].toNat : Int) := by omega
          have g5 : ((k[j].toNat : Int) == 46) = false := by rw [beq_eq_false_iff_ne]; omega
          have g6 : 47 ≤ (k[j].toNat : Int) ∧ (k[j].toNat : Int) ≤ 47 := by omega
          clear q
          go_wp2
          go_ret
          exact ⟨ret_bool (Dk.okS_no k (j + 1) (HS.out.trans (by unfold Dk.okB; rw [Bool.eq_false_iff]; simp; omega))).symm, rfl⟩
        · obtain ⟨q1, q2⟩ := q
          have g1 : ¬ 97 ≤ (k[j].toNat : Int) := by omega
          go_wp2
          go_round
          case rel => exact ⟨j + 1, by omega, by go_num, HS.out.trans (by unfold Dk.okB; simp; omega)⟩
          case measure => simp [intOf]; omega
        · obtain ⟨q1, q2⟩ := q
          have g1 : ¬ 97 ≤ (k[j].toNat : Int) := by omega
          have g2 : 48 ≤ (k[j].toNat : Int) := by omega
          have g3 : ¬ (k[j].toNat : Int) ≤ 57 := by omega
          have g5 : ((k[j].toNat : Int) == 46) = false := by rw [beq_eq_false_iff_ne]; omega
          go_wp2
          go_ret
          exact ⟨ret_bool (Dk.okS_no k (j + 1) (HS.out.trans (by unfold Dk.okB; rw [Bool.eq_false_iff]; simp; omega))).symm, rfl⟩
        · obtain ⟨q1, q2⟩ := q
          go_wp2
          go_round
          case rel => exact ⟨j + 1, by omega, by go_num, HS.out.trans (by unfold Dk.okB; simp; omega)⟩
          case measure => simp [intOf]; omega
        · have g1 : 97 ≤ (k[j].toNat : Int) := by omega
          have g4 : ¬ (k[j].toNat : Int) ≤ 122 := by omega
          have g2 : 48 ≤ (k[j].toNat : Int) := by omega
          have g3 : ¬ (k[j].toNat : Int) ≤ 57 := by omega
          have g5 : ((k[j].toNat : Int) == 46) = false := by rw [beq_eq_false_iff_ne]; omega
          go_wp2
          go_ret
          exact ⟨ret_bool (Dk.okS_no k (j + 1) (HS.out.trans (by unfold Dk.okB; rw [Bool.eq_false_iff]; simp; omega))).symm, rfl⟩
      · have HA : Hid ((k.data.toList.take j).all Dk.okByte = true) := hall
        clear hall
        go_wp2
        go_ret
        exact ⟨ret_bool (Dk.okS_yes k j hlt (by omega) (by omega) HA.out).symm, rfl⟩

theorem getL_index {α : Type} {k : List UInt8} {f : α} : ∀ {l : List (List UInt8 × α)}, Dk.getL k l = some f → ∃ i, ∃ h : i < l.length, l[i] = (k, f) ∧ ∀ j, (hj : j < i) → (l[j]).1 ≠ k
  | [], h => by cases h
  | y :: r, h => by
    unfold Dk.getL at h
    split at h
    · rename_i hy
      have := eq_of_beq hy
      cases h
      subst this
      exact ⟨0, by simp, rfl, fun j hj => by omega⟩
    · rename_i hy
      obtain ⟨i, hi, e, hb⟩ := getL_index h
      refine ⟨i + 1, by simpa using hi, by simpa using e, fun j hj => ?_⟩
      cases j with
      | zero => intro e'; exact hy (by simpa using e')
      | succ j => simpa using hb j (by omega)

section
variable {r : Nat} {v : Value} {s : Dk.Dsk}

set_option maxRecDepth 100000 in
set_option maxHeartbeats 1000000 in
theorem rfind_none (k : ByteArray) (w : World) (h : RefG w r v s) (hfew : s.fs.length ≤ 64) (hg : Dk.getL k.data.toList s.fs = none) :
    Calls Try.prog 42 #[.pointer (some ⟨r, 0, none⟩), .string k] w fun e w' => e = .returned (.int .i64 (-1)) ∧ w = w' := by
  obtain ⟨c0, -, -⟩ := h.cells
  obtain ⟨a, c, hv, hnc, hcm, hpos⟩ := row3 h.row
  have HRow : Hid (w.ownsRow 0 61 3 v s.fs.length (rcells s.fs)) := h.row
  have HG : Hid (∀ p ∈ s.fs, p.1 ≠ k.data.toList) := Dk.getL_none hg
  have HPos : Hid (0 < s.fs.length → ∃ g, a = some ⟨g, 0, none⟩) := hpos
  unfold maxLen at hcm
  rw [hv] at c0 HRow
  clear h hg hpos hv
  go_enter Try.func42, Try.ntmps42
  go_wp2
  go_loop [5] (fun i => ∃ j : Nat, j ≤ s.fs.length ∧ i = .int .i64 j) (fun i => s.fs.length - (intOf i).toNat)
  case atStart => exact ⟨0, Nat.zero_le _, rfl⟩
  case round =>
    obtain ⟨j, hj, rfl⟩ := hrel
    by_cases hlt : j < s.fs.length
    · obtain ⟨g, rfl⟩ := HPos.out (by omega)
      obtain ⟨q0, -, -⟩ := row_file HRow.out hlt
      have hne : ((bs (s.fs[j]).1).toList == k.toList) = false := by rw [bb_eq, bs_data]; exact decide_eq_false (HG.out _ (List.getElem_mem hlt))
      obtain ⟨kb, hkb⟩ : ∃ kb, bs (s.fs[j]).1 = kb := ⟨_, rfl⟩
      rw [hkb] at q0 hne
      clear hkb
      have hlI : (j : Int) < (s.fs.length : Int) := by omega
      go_wp2
      go_round
      case rel => exact ⟨j + 1, by omega, by go_num⟩
      case measure => simp [intOf]; omega
    · go_wp2
      go_ret
      exact ⟨rfl, rfl⟩

set_option maxRecDepth 100000 in
set_option maxHeartbeats 1000000 in
theorem rfind_some (k : ByteArray) (w : World) (h : RefG w r v s) (hfew : s.fs.length ≤ 64) {i : Nat} (hi : i < s.fs.length) (hk : (s.fs[i]).1 = k.data.toList) (hb : ∀ j, (hj : j < i) → (s.fs[j]).1 ≠ k.data.toList) :
    Calls Try.prog 42 #[.pointer (some ⟨r, 0, none⟩), .string k] w fun e w' => e = .returned (.int .i64 (i : Int)) ∧ w = w' := by
  obtain ⟨c0, -, -⟩ := h.cells
  obtain ⟨a, c, hv, hnc, hcm, hpos⟩ := row3 h.row
  have HRow : Hid (w.ownsRow 0 61 3 v s.fs.length (rcells s.fs)) := h.row
  have HK : Hid ((s.fs[i]).1 = k.data.toList) := hk
  have HB : Hid (∀ j, (hj : j < i) → (s.fs[j]).1 ≠ k.data.toList) := hb
  obtain ⟨g, rfl⟩ := hpos (by omega)
  unfold maxLen at hcm
  rw [hv] at c0 HRow
  clear h hk hb hv hpos
  go_enter Try.func42, Try.ntmps42
  go_wp2
  go_loop [5] (fun x => ∃ j : Nat, j ≤ i ∧ x = .int .i64 j) (fun x => i - (intOf x).toNat)
  case atStart => exact ⟨0, Nat.zero_le _, rfl⟩
  case round =>
    obtain ⟨j, hj, rfl⟩ := hrel
    have hlt : j < s.fs.length := by omega
    obtain ⟨q0, -, -⟩ := row_file HRow.out hlt
    have hlI : (j : Int) < (s.fs.length : Int) := by omega
    by_cases hji : j = i
    · subst hji
      have hne : ((bs (s.fs[j]).1).toList == k.toList) = true := by rw [bb_eq, bs_data]; exact decide_eq_true HK.out
      obtain ⟨kb, hkb⟩ : ∃ kb, bs (s.fs[j]).1 = kb := ⟨_, rfl⟩
      rw [hkb] at q0 hne
      clear hkb
      go_wp2
      go_ret
      exact ⟨rfl, rfl⟩
    · have hne : ((bs (s.fs[j]).1).toList == k.toList) = false := by rw [bb_eq, bs_data]; exact decide_eq_false (HB.out j (by omega))
      obtain ⟨kb, hkb⟩ : ∃ kb, bs (s.fs[j]).1 = kb := ⟨_, rfl⟩
      rw [hkb] at q0 hne
      clear hkb
      go_wp2
      go_round
      case rel => exact ⟨j + 1, by omega, by go_num⟩
      case measure => simp [intOf]; omega

set_option maxHeartbeats 400000 in
theorem rknown_bad (k : ByteArray) (w : World) (hk : k.size ≤ maxLen) (ho : Dk.okS k = false) :
    Calls Try.prog 45 #[.pointer (some ⟨r, 0, none⟩), .string k] w fun e w' => e = .returned (.tuple #[.int .i64 0, .int .i64 10]) ∧ w = w' := by
  go_enter Try.func45, Try.ntmps45
  go_wp2_with fail
  refine (named_any _ _ hk).mono ?_
  rintro e u ⟨rfl, rfl⟩
  go_wp2_with fail
  go_ret2
  exact ⟨rfl, rfl⟩

set_option maxHeartbeats 400000 in
theorem rknown_none (k : ByteArray) (w : World) (h : RefG w r v s) (hfew : s.fs.length ≤ 64) (hk : k.size ≤ maxLen) (ho : Dk.okS k = true) (hg : Dk.getL k.data.toList s.fs = none) :
    Calls Try.prog 45 #[.pointer (some ⟨r, 0, none⟩), .string k] w fun e w' => e = .returned (.tuple #[.int .i64 0, .int .i64 5]) ∧ w = w' := by
  have HF : Hid (Calls Try.prog 42 #[.pointer (some ⟨r, 0, none⟩), .string k] w fun e w' => e = .returned (.int .i64 (-1)) ∧ w = w') := rfind_none k w h hfew hg
  clear hg
  go_enter Try.func45, Try.ntmps45
  go_wp2_with fail
  refine (named_any _ _ hk).mono ?_
  rintro e u ⟨rfl, rfl⟩
  go_wp2_with fail
  refine HF.out.mono ?_
  rintro e u ⟨rfl, rfl⟩
  go_wp2_with fail
  go_ret2
  exact ⟨rfl, rfl⟩

set_option maxHeartbeats 400000 in
theorem rknown_some (k : ByteArray) (w : World) (h : RefG w r v s) (hfew : s.fs.length ≤ 64) (hk : k.size ≤ maxLen) (ho : Dk.okS k = true) {i : Nat} (hi : i < s.fs.length) (hki : (s.fs[i]).1 = k.data.toList) (hb : ∀ j, (hj : j < i) → (s.fs[j]).1 ≠ k.data.toList) :
    Calls Try.prog 45 #[.pointer (some ⟨r, 0, none⟩), .string k] w fun e w' => e = .returned (.tuple #[.int .i64 (i : Int), .int .i64 0]) ∧ w = w' := by
  have HF : Hid (Calls Try.prog 42 #[.pointer (some ⟨r, 0, none⟩), .string k] w fun e w' => e = .returned (.int .i64 (i : Int)) ∧ w = w') := rfind_some k w h hfew hi hki hb
  have hni : ¬ (i : Int) < 0 := by omega
  clear hki hb
  go_enter Try.func45, Try.ntmps45
  go_wp2_with fail
  refine (named_any _ _ hk).mono ?_
  rintro e u ⟨rfl, rfl⟩
  go_wp2_with fail
  refine HF.out.mono ?_
  rintro e u ⟨rfl, rfl⟩
  go_wp2_with fail
  go_ret2
  exact ⟨rfl, rfl⟩

/-- what find says, by the plain model -/
theorem rfindE_bad {k : ByteArray} (ho : Dk.okS k = false) : Dk.findE s k.data.toList = 10 := by unfold Dk.findE; rw [← okS_def, ho]; rfl
theorem rfindE_none {k : ByteArray} (ho : Dk.okS k = true) (hg : Dk.getL k.data.toList s.fs = none) : Dk.findE s k.data.toList = 5 := by unfold Dk.findE; rw [← okS_def, ho, hg]; rfl
theorem rfindE_some {k : ByteArray} (ho : Dk.okS k = true) {f : Dk.Fil} (hg : Dk.getL k.data.toList s.fs = some f) : Dk.findE s k.data.toList = 0 := by unfold Dk.findE; rw [← okS_def, ho, hg]; rfl

set_option maxRecDepth 100000 in
set_option maxHeartbeats 1000000 in
theorem rread_any (k : ByteArray) (w : World) (h : RefG w r v s) (hfew : s.fs.length ≤ 64) (hk : k.size ≤ maxLen) :
    Calls Try.prog 29 #[.pointer (some ⟨r, 0, none⟩), .string k] w fun e w' => e = .returned (.tuple #[.string (bs (Dk.readV s k.data.toList)), .int .i64 (Dk.findE s k.data.toList)]) ∧ w = w' := by
  cases ho : Dk.okS k with
  | false =>
    have e1 : Dk.readV s k.data.toList = [] := by unfold Dk.readV; rw [rfindE_bad ho]; rfl
    rw [e1, rfindE_bad ho]
    clear e1
    go_enter Try.func29, Try.ntmps29
    go_wp2_with fail
    refine (rknown_bad _ _ hk ho).mono ?_
    rintro e u ⟨rfl, rfl⟩
    go_wp2_with fail
    go_ret2
    exact ⟨rfl, rfl⟩
  | true =>
    cases hg : Dk.getL k.data.toList s.fs with
    | none =>
      have e1 : Dk.readV s k.data.toList = [] := by unfold Dk.readV; rw [rfindE_none ho hg]; rfl
      rw [e1, rfindE_none ho hg]
      have HK : Hid (Calls Try.prog 45 #[.pointer (some ⟨r, 0, none⟩), .string k] w fun e w' => e = .returned (.tuple #[.int .i64 0, .int .i64 5]) ∧ w = w') := rknown_none k w h hfew hk ho hg
      clear e1 hg
      go_enter Try.func29, Try.ntmps29
      go_wp2_with fail
      refine HK.out.mono ?_
      rintro e u ⟨rfl, rfl⟩
      go_wp2_with fail
      go_ret2
      exact ⟨rfl, rfl⟩
    | some f =>
      obtain ⟨i, hi, hif, hib⟩ := getL_index hg
      have e1 : Dk.readV s k.data.toList = f.data := by unfold Dk.readV; rw [if_pos (rfindE_some ho hg), hg]; rfl
      rw [e1, rfindE_some ho hg]
      have HK : Hid (Calls Try.prog 45 #[.pointer (some ⟨r, 0, none⟩), .string k] w fun e w' => e = .returned (.tuple #[.int .i64 (i : Int), .int .i64 0]) ∧ w = w') := rknown_some k w h hfew hk ho hi (by rw [hif]) hib
      obtain ⟨c0, -, -⟩ := h.cells
      obtain ⟨a, c, hv, hnc, hcm, hpos⟩ := row3 h.row
      obtain ⟨g, rfl⟩ := hpos (by omega)
      have hrow := h.row
      rw [hv] at c0 hrow
      obtain ⟨-, q1, -⟩ := row_file hrow hi
      rw [hif] at q1
      obtain ⟨kb, hkb⟩ : ∃ kb, bs f.data = kb := ⟨_, rfl⟩
      simp only [hkb] at q1 ⊢
      have hlI : (i : Int) < (s.fs.length : Int) := by omega
      unfold maxLen at hcm
      clear e1 hg hif hib hv hrow hkb hpos
      go_enter Try.func29, Try.ntmps29
      go_wp2_with fail
      refine HK.out.mono ?_
      rintro e u ⟨rfl, rfl⟩
      go_wp2_with fail
      go_ret2
      exact ⟨rfl, rfl⟩

end

end Go.Proofs.Ytbiombolpfhdlaa
