/- The document's Check. -/
import Derived.Test.YtibgpjokdpagcaaWCheck
import Derived.Deep.RegionHeld3
namespace Go.Proofs.Ytibgpjokdpagcaa
open Go.RowKit

theorem may_any (x : InsV) (many cells : Int) (w : World) :
    Calls Try.prog 22 #[x.agg, .int .i64 many, .int .i64 cells] w fun e w' => e = .returned (.bool (x.mayB many cells)) ∧ Below w.heap.size w w' := by
  obtain ⟨k, a, b, n⟩ := x
  by_cases hr : InsV.regs ⟨k, a, b, n⟩
  · have HR : Hid (InsV.regs ⟨k, a, b, n⟩) := hr
    obtain ⟨ha1, ha2, hb1, hb2⟩ := hr
    dsimp only at ha1 ha2 hb1 hb2
    have ha3 : ¬ a < 0 := by omega
    have ha4 : ¬ 7 < a := by omega
    have hb3 : ¬ b < 0 := by omega
    have hb4 : ¬ 7 < b := by omega
    have HM : Hid (∀ q : Bool, (InsV.num ⟨k, a, b, n⟩ many cells ↔ q = true) → InsV.mayB ⟨k, a, b, n⟩ many cells = q) := by
      intro q e
      rw [Bool.eq_iff_iff, mayB_true, ← e]
      exact ⟨fun h => h.2, fun h => ⟨HR.out, h⟩⟩
    have hk : k = 1 ∨ k = 2 ∨ k = 3 ∨ k = 8 ∨ k = 4 ∨ k = 5 ∨ k = 6 ∨ k = 7 ∨ (k < 1 ∨ 8 < k) := by omega
    rcases hk with rfl | rfl | rfl | rfl | rfl | rfl | rfl | rfl | hk
    · go_enter Try.func22, Try.ntmps22
      go_wp2_with fail
      go_ret
      exact ⟨ret_bool (HM.out _ ⟨fun _ => rfl, fun _ => trivial⟩).symm, (Below.refl _ _).alloc (Nat.le_refl _) _⟩
    · go_enter Try.func22, Try.ntmps22
      go_wp2_with fail
      go_ret
      exact ⟨ret_bool (HM.out _ ⟨fun _ => rfl, fun _ => trivial⟩).symm, (Below.refl _ _).alloc (Nat.le_refl _) _⟩
    · go_enter Try.func22, Try.ntmps22
      go_wp2_with fail
      go_ret
      exact ⟨ret_bool (HM.out _ ⟨fun _ => rfl, fun _ => trivial⟩).symm, (Below.refl _ _).alloc (Nat.le_refl _) _⟩
    · go_enter Try.func22, Try.ntmps22
      go_wp2_with fail
      go_ret
      exact ⟨ret_bool (HM.out _ ⟨fun _ => rfl, fun _ => trivial⟩).symm, (Below.refl _ _).alloc (Nat.le_refl _) _⟩
    · by_cases h0 : 0 ≤ n
      · go_enter Try.func22, Try.ntmps22
        go_wp2_with fail
        go_ret
        refine ⟨ret_bool (HM.out _ ?_).symm, (Below.refl _ _).alloc (Nat.le_refl _) _⟩
        exact ⟨fun h => decide_eq_true h.2, fun h => ⟨h0, of_decide_eq_true h⟩⟩
      · go_enter Try.func22, Try.ntmps22
        go_wp2_with fail
        go_ret
        refine ⟨ret_bool (HM.out _ ?_).symm, (Below.refl _ _).alloc (Nat.le_refl _) _⟩
        refine ⟨fun h => ?_, fun h => by cases h⟩
        have h1 : 0 ≤ n := h.1
        omega
    · by_cases h0 : 0 ≤ n
      · go_enter Try.func22, Try.ntmps22
        go_wp2_with fail
        go_ret
        refine ⟨ret_bool (HM.out _ ?_).symm, (Below.refl _ _).alloc (Nat.le_refl _) _⟩
        exact ⟨fun h => decide_eq_true h.2, fun h => ⟨h0, of_decide_eq_true h⟩⟩
      · go_enter Try.func22, Try.ntmps22
        go_wp2_with fail
        go_ret
        refine ⟨ret_bool (HM.out _ ?_).symm, (Below.refl _ _).alloc (Nat.le_refl _) _⟩
        refine ⟨fun h => ?_, fun h => by cases h⟩
        have h1 : 0 ≤ n := h.1
        omega
    · by_cases h0 : 0 ≤ n
      · go_enter Try.func22, Try.ntmps22
        go_wp2_with fail
        go_ret
        refine ⟨ret_bool (HM.out _ ?_).symm, (Below.refl _ _).alloc (Nat.le_refl _) _⟩
        exact ⟨fun h => decide_eq_true h.2, fun h => ⟨h0, of_decide_eq_true h⟩⟩
      · go_enter Try.func22, Try.ntmps22
        go_wp2_with fail
        go_ret
        refine ⟨ret_bool (HM.out _ ?_).symm, (Below.refl _ _).alloc (Nat.le_refl _) _⟩
        refine ⟨fun h => ?_, fun h => by cases h⟩
        have h1 : 0 ≤ n := h.1
        omega
    · by_cases h0 : 0 ≤ n
      · go_enter Try.func22, Try.ntmps22
        go_wp2_with fail
        go_ret
        refine ⟨ret_bool (HM.out _ ?_).symm, (Below.refl _ _).alloc (Nat.le_refl _) _⟩
        exact ⟨fun h => decide_eq_true h.2, fun h => ⟨h0, of_decide_eq_true h⟩⟩
      · go_enter Try.func22, Try.ntmps22
        go_wp2_with fail
        go_ret
        refine ⟨ret_bool (HM.out _ ?_).symm, (Below.refl _ _).alloc (Nat.le_refl _) _⟩
        refine ⟨fun h => ?_, fun h => by cases h⟩
        have h1 : 0 ≤ n := h.1
        omega
    · have e1 : (k == 1) = false := by rw [beq_eq_false_iff_ne]; omega
      have e2 : (k == 2) = false := by rw [beq_eq_false_iff_ne]; omega
      have e3 : (k == 3) = false := by rw [beq_eq_false_iff_ne]; omega
      have e4 : (k == 4) = false := by rw [beq_eq_false_iff_ne]; omega
      have e5 : (k == 5) = false := by rw [beq_eq_false_iff_ne]; omega
      have e6 : (k == 6) = false := by rw [beq_eq_false_iff_ne]; omega
      have e7 : (k == 7) = false := by rw [beq_eq_false_iff_ne]; omega
      have e8 : (k == 8) = false := by rw [beq_eq_false_iff_ne]; omega
      have HK : Hid (k < 1 ∨ 8 < k) := hk
      clear hk
      go_enter Try.func22, Try.ntmps22
      go_wp2_with fail
      go_ret
      refine ⟨ret_bool (HM.out _ ?_).symm, (Below.refl _ _).alloc (Nat.le_refl _) _⟩
      have hk := HK.out
      unfold InsV.num
      dsimp only
      rw [if_neg (by omega), if_neg (by omega), if_neg (by omega)]
      exact ⟨fun h => h.elim, fun h => by cases h⟩
  · have HX : Hid (InsV.mayB ⟨k, a, b, n⟩ many cells = false) := Bool.eq_false_iff.2 (fun h => hr (mayB_true.1 h).1)
    have HR : Hid (¬ InsV.regs ⟨k, a, b, n⟩) := hr
    clear hr
    by_cases a1 : a < 0
    · go_enter Try.func22, Try.ntmps22
      go_wp2_with fail
      go_ret
      exact ⟨ret_bool (HX.out).symm, (Below.refl _ _).alloc (Nat.le_refl _) _⟩
    by_cases a2 : 7 < a
    · go_enter Try.func22, Try.ntmps22
      go_wp2_with fail
      go_ret
      exact ⟨ret_bool (HX.out).symm, (Below.refl _ _).alloc (Nat.le_refl _) _⟩
    by_cases a3 : b < 0
    · go_enter Try.func22, Try.ntmps22
      go_wp2_with fail
      go_ret
      exact ⟨ret_bool (HX.out).symm, (Below.refl _ _).alloc (Nat.le_refl _) _⟩
    have a4 : 7 < b := by
      by_cases h : 7 < b
      · exact h
      · exact absurd ⟨by show 0 ≤ a; omega, by show a < 8; omega, by show 0 ≤ b; omega, by show b < 8; omega⟩ HR.out
    go_enter Try.func22, Try.ntmps22
    go_wp2_with fail
    go_ret
    exact ⟨ret_bool (HX.out).symm, (Below.refl _ _).alloc (Nat.le_refl _) _⟩

set_option maxRecDepth 100000 in
set_option maxHeartbeats 400000 in
theorem rcheck_any (v : Value) (T : List TaskV) (cells : Int) (w : World) (hA : TasksAt w v T) :
    Calls Try.prog 12 #[v, .int .i64 cells] w fun e w' => e = .returned (.tuple #[.int .i64 (checkE (codes T) cells).1, .int .i64 (checkE (codes T) cells).2.1, .int .i64 (checkE (codes T) cells).2.2]) ∧ Below w.heap.size w w' := by
  obtain ⟨⟨a, c, rfl, hl, hc, hx⟩, he⟩ := hA
  have HX : Hid (T ≠ [] → ∃ b off, a = some ⟨b, off, none⟩ ∧ b < w.heap.size ∧ ∀ i, (h : i < T.length) → ∀ (j : Nat) (u : Value), ([T[i].v])[j]? = some u → w.cell? ⟨b, off + i * 1 + j, none⟩ = some u) := hx
  have HT : Hid (∀ t ∈ T, SliceAt w t.v 4 InsV.en t.L) := he
  unfold maxLen at hc
  clear hx he
  by_cases h1 : (4096 : Int) < (T.length : Int)
  · have HE : Hid (checkE (codes T) cells = (0, 0, 2)) := if_pos (by rw [codes_length]; omega)
    go_enter Try.func12, Try.ntmps12
    go_wp2_with fail
    go_ret3
    exact ⟨ret_three (by rw [HE.out]) (by rw [HE.out]) (by rw [HE.out]), Below.refl _ _⟩
  by_cases h2 : cells < 0
  · have HE : Hid (checkE (codes T) cells = (0, 0, 2)) := if_pos (by omega)
    go_enter Try.func12, Try.ntmps12
    go_wp2_with fail
    go_ret3
    exact ⟨ret_three (by rw [HE.out]) (by rw [HE.out]) (by rw [HE.out]), Below.refl _ _⟩
  by_cases h3 : 4096 < cells
  · have HE : Hid (checkE (codes T) cells = (0, 0, 2)) := if_pos (by omega)
    go_enter Try.func12, Try.ntmps12
    go_wp2_with fail
    go_ret3
    exact ⟨ret_three (by rw [HE.out]) (by rw [HE.out]) (by rw [HE.out]), Below.refl _ _⟩
  have HE : Hid (checkE (codes T) cells = tasksE cells (codes T) 0) := if_neg (by rw [codes_length]; omega)
  go_enter Try.func12, Try.ntmps12
  go_wp2_with fail
  go_loopw [7] (fun i wr => ∃ j : Nat, j ≤ T.length ∧ i = .int .i64 j ∧ tasksE cells (codes T) 0 = tasksE cells ((codes T).drop j) j ∧ Below w.heap.size w wr) (fun i _ => T.length - (intOf i).toNat)
  case atStart => exact ⟨0, Nat.zero_le _, rfl, rfl, Below.refl _ _⟩
  case round =>
    obtain ⟨j, hj, rfl, hbad, hbel⟩ := hrel
    have HB : Hid (tasksE cells (codes T) 0 = tasksE cells ((codes T).drop j) j) := hbad
    have HW : Hid (Below w.heap.size w wr) := hbel
    clear hbad hbel
    by_cases hlt : j < T.length
    · have hlI : (j : Int) < (T.length : Int) := by omega
      obtain ⟨b, off, rfl, hbl, hcs⟩ := HX.out (by intro e; rw [e] at hlt; simp at hlt)
      obtain ⟨t, hte⟩ : ∃ t, T[j] = t := ⟨_, rfl⟩
      have q := hcs j hlt
      rw [hte] at q
      have hmem : t ∈ T := hte ▸ List.getElem_mem hlt
      obtain ⟨ta, tc, hte2, htl, htc, htx⟩ := HT.out t hmem
      unfold maxLen at htc
      have HTX : Hid (t.L ≠ [] → ∃ b off, ta = some ⟨b, off, none⟩ ∧ b < w.heap.size ∧ ∀ i, (h : i < t.L.length) → ∀ (j : Nat) (u : Value), (InsV.en t.L[i])[j]? = some u → w.cell? ⟨b, off + i * 4 + j, none⟩ = some u) := htx
      have q0 := q 0 _ rfl
      rw [Nat.mul_one, Nat.add_zero, hte2] at q0
      have HQ : Hid (∀ W, Below w.heap.size w W → W.cell? ⟨b, off + j, none⟩ = some (.slice ta t.L.length tc)) := fun W hW => (hW.cell hbl).trans q0
      have p0 := HQ.out wr HW.out
      have hlc : j < (codes T).length := by rw [codes_length]; exact hlt
      have HD : Hid (tasksE cells (codes T) 0 = if (taskE t.L cells).2 = 0 then tasksE cells ((codes T).drop (j + 1)) (j + 1) else ((j : Int), taskE t.L cells)) := by
        refine HB.out.trans ((tasksE_drop hlc).trans ?_)
        have e : (codes T)[j] = t.L := by simp [codes, hte]
        rw [e]
      clear q q0 hcs hte HB hlc hmem hte2 htx
      by_cases hlen : (4096 : Int) < (t.L.length : Int)
      · have hE2 : taskE t.L cells = (0, 2) := if_pos (by omega)
        have HD2 : Hid (tasksE cells (codes T) 0 = ((j : Int), 0, 2)) := by
          have := HD.out
          rw [hE2] at this
          exact this
        clear hE2
        go_wp2_with fail
        go_ret3
        exact ⟨ret_three (by rw [HE.out, HD2.out]) (by rw [HE.out, HD2.out]) (by rw [HE.out, HD2.out]), HW.out⟩
      · have HE3 : Hid (taskE t.L cells = match badAt t.L.length cells t.L 0 with
          | none => (0, 0)
          | some i => ((i : Int), 30)) := if_neg (by omega)
        go_wp2_with fail
        clear p0
        generalize wr = wq at *
        go_loopw [8] (fun i wr => ∃ n : Nat, n ≤ t.L.length ∧ i = .int .i64 n ∧ badAt t.L.length cells t.L 0 = badAt t.L.length cells (t.L.drop n) n ∧ Below w.heap.size w wr) (fun i _ => t.L.length - (intOf i).toNat)
        case atStart => exact ⟨0, Nat.zero_le _, rfl, rfl, HW.out⟩
        case round =>
          obtain ⟨n, hn, rfl, hbad, hbel⟩ := hrel
          have HB : Hid (badAt t.L.length cells t.L 0 = badAt t.L.length cells (t.L.drop n) n) := hbad
          have HV : Hid (Below w.heap.size w wr) := hbel
          clear hbad hbel
          have p0 := HQ.out wr HV.out
          by_cases hnl : n < t.L.length
          · have hnI : (n : Int) < (t.L.length : Int) := by omega
            obtain ⟨b', off', rfl, hbl', hcs'⟩ := HTX.out (by intro e; rw [e] at hnl; simp at hnl)
            obtain ⟨x, hxe⟩ : ∃ x, t.L[n] = x := ⟨_, rfl⟩
            have q := hcs' n hnl
            rw [hxe] at q
            have HQ2 : Hid (∀ W, Below w.heap.size w W → W.cell? ⟨b', off' + n * 4, none⟩ = some (.int .i64 x.kind) ∧ W.cell? ⟨b', off' + n * 4 + 1, none⟩ = some (.int .i64 x.a) ∧ W.cell? ⟨b', off' + n * 4 + 2, none⟩ = some (.int .i64 x.b) ∧ W.cell? ⟨b', off' + n * 4 + 3, none⟩ = some (.int .i64 x.n)) := fun W hW =>
              ⟨(hW.cell (p := ⟨b', off' + n * 4, none⟩) hbl').trans (q 0 _ rfl), (hW.cell (p := ⟨b', off' + n * 4 + 1, none⟩) hbl').trans (q 1 _ rfl), (hW.cell (p := ⟨b', off' + n * 4 + 2, none⟩) hbl').trans (q 2 _ rfl), (hW.cell (p := ⟨b', off' + n * 4 + 3, none⟩) hbl').trans (q 3 _ rfl)⟩
            obtain ⟨r0, r1, r2, r3⟩ := HQ2.out wr HV.out
            have HD3 : Hid (badAt t.L.length cells t.L 0 = if x.mayB t.L.length cells then badAt t.L.length cells (t.L.drop (n + 1)) (n + 1) else some n) := by
              refine HB.out.trans ((badAt_drop hnl).trans ?_)
              rw [hxe]
            have HM : Hid (∀ W, Below w.heap.size w W → Calls Try.prog 22 #[x.agg, .int .i64 (t.L.length : Int), .int .i64 cells] W fun e w' => e = .returned (.bool (x.mayB t.L.length cells)) ∧ Below w.heap.size w w' ∧ w'.cell? ⟨b, off + j, none⟩ = some (.slice (some ⟨b', off', none⟩) t.L.length tc) ∧ w'.cell? ⟨b', off' + n * 4, none⟩ = some (.int .i64 x.kind) ∧ w'.cell? ⟨b', off' + n * 4 + 1, none⟩ = some (.int .i64 x.a) ∧ w'.cell? ⟨b', off' + n * 4 + 2, none⟩ = some (.int .i64 x.b) ∧ w'.cell? ⟨b', off' + n * 4 + 3, none⟩ = some (.int .i64 x.n)) := by
              intro W hW
              refine (may_any x _ _ W).mono ?_
              rintro e w' ⟨rfl, hb⟩
              have hb' := hW.trans (hb.mono hW.size)
              exact ⟨rfl, hb', HQ.out w' hb', HQ2.out w' hb'⟩
            clear q hcs' hxe HB
            go_wp2_with fail
            go_region_held3 (fun w' => w'.cell? ⟨b, off + j, none⟩ = some (.slice (some ⟨b', off', none⟩) t.L.length tc) ∧ w'.cell? ⟨b', off' + n * 4, none⟩ = some (.int .i64 x.kind) ∧ w'.cell? ⟨b', off' + n * 4 + 1, none⟩ = some (.int .i64 x.a) ∧ w'.cell? ⟨b', off' + n * 4 + 2, none⟩ = some (.int .i64 x.b) ∧ w'.cell? ⟨b', off' + n * 4 + 3, none⟩ = some (.int .i64 x.n)) (go_keep)
              (first
                | (go_at_call 22; refine (HM.out _ (HV.out.trans ((below_drewN wr 1).mono HV.out.size))).mono ?_; rintro e w6 ⟨rfl, hb6, s0, s1, s2, s3, s4⟩))
            have HB6 : Hid (Below w.heap.size w w6) := hb6
            clear hb6 s0 s1 s2 s3 s4 r0 r1 r2 r3 p0
            by_cases hm : x.mayB t.L.length cells = true
            · have HD4 : Hid (badAt t.L.length cells t.L 0 = badAt t.L.length cells (t.L.drop (n + 1)) (n + 1)) := HD3.out.trans (if_pos hm)
              rw [hm]
              clear hm HD3
              go_wp2_with fail
              go_roundw
              case rel => exact ⟨n + 1, by omega, by go_num, HD4.out, HB6.out⟩
              case measure => simp [intOf]; omega
            · have HD4 : Hid (badAt t.L.length cells t.L 0 = some n) := HD3.out.trans (if_neg hm)
              have hmf : x.mayB t.L.length cells = false := Bool.eq_false_iff.2 hm
              have HD5 : Hid (tasksE cells (codes T) 0 = ((j : Int), (n : Int), 30)) := by
                have e : taskE t.L cells = ((n : Int), 30) := by rw [HE3.out, HD4.out]
                have := HD.out
                rw [e] at this
                exact this
              rw [hmf]
              clear hm hmf HD3
              go_wp2_with fail
              go_ret3
              exact ⟨ret_three (by rw [HE.out, HD5.out]) (by rw [HE.out, HD5.out]) (by rw [HE.out, HD5.out]), HB6.out⟩
          · have hnI : ¬ (n : Int) < (t.L.length : Int) := by omega
            have HD4 : Hid (tasksE cells (codes T) 0 = tasksE cells ((codes T).drop (j + 1)) (j + 1)) := by
              have e1 : badAt t.L.length cells t.L 0 = none := by
                rw [HB.out, List.drop_eq_nil_of_le (by omega)]
                rfl
              have e : taskE t.L cells = (0, 0) := by rw [HE3.out, e1]
              have := HD.out
              rw [e] at this
              exact this
            clear HB
            go_wp2_with fail
            go_roundw
            case rel => exact ⟨j + 1, by omega, by go_num, HD4.out, HV.out⟩
            case measure => simp [intOf]; omega
    · have hgI : ¬ (j : Int) < (T.length : Int) := by omega
      have HD2 : Hid (tasksE cells (codes T) 0 = (0, 0, 0)) := by
        refine HB.out.trans ?_
        rw [List.drop_eq_nil_of_le (by rw [codes_length]; omega)]
        rfl
      clear HB
      go_wp2_with fail
      go_ret3
      exact ⟨ret_three (by rw [HE.out, HD2.out]) (by rw [HE.out, HD2.out]) (by rw [HE.out, HD2.out]), HW.out⟩

end Go.Proofs.Ytibgpjokdpagcaa
