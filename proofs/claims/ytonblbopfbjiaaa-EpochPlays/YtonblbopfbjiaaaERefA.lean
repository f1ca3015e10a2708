/- The document's clock: Advance, Retire. -/
import Derived.Test.YtonblbopfbjiaaaERef
namespace Go.Proofs.Ytonblbopfbjiaaa
open Go.RowKit

section
variable {w : World} {r : Nat} {c : Ck} {F : Nat → Prop}

set_option maxRecDepth 100000 in
theorem radv_last (h : RefI r c w F) (hn : c.now = 2147483648) : Calls Try.prog 23 #[.pointer (some ⟨r, 0, none⟩)] w fun e w' => e = .returned (.tuple #[.bool false, .int .i64 1]) ∧ w' = w := by
  obtain ⟨b, a1, m1, a2, m2, hG, hF⟩ := h
  obtain ⟨-, -, c2, -, -, -, -⟩ := hG.cells
  rw [hn] at c2
  clear hG hF hn
  go_enter Try.func23, Try.ntmps23
  go_wp2_with fail
  go_ret2
  exact ⟨rfl, rfl⟩

set_option maxRecDepth 100000 in
set_option maxHeartbeats 1000000 in
theorem radv_late (h : RefI r c w F) (hn : c.now ≠ 2147483648) (hl : c.late = true) : Calls Try.prog 23 #[.pointer (some ⟨r, 0, none⟩)] w fun e w' => e = .returned (.tuple #[.bool false, .int .i64 0]) ∧ ∃ n, w' = w.drewN n := by
  obtain ⟨b, a1, m1, a2, m2, hG, hF⟩ := h
  obtain ⟨c0, -, c2, -, -, -, -⟩ := hG.cells
  have HG : Hid (RefG w r b a1 m1 a2 m2 c) := hG
  have HL : Hid (lates c.now c.ws = true) := hl
  have hg : ¬ (2147483648 ≤ c.now) := by have := hG.ok.now2; omega
  have hn16 := hG.ok.few
  obtain ⟨N, hN⟩ : ∃ N, c.ws.length = N := ⟨_, rfl⟩
  have HN : Hid (c.ws.length = N) := hN
  rw [hN] at c0 hn16
  clear hG hF hn hl hN
  go_enter Try.func23, Try.ntmps23
  go_wp2_with fail
  go_loopw [4] (fun i wr => ∃ (k q : Nat), k ≤ N ∧ i = .int .i64 k ∧ Hid (lates c.now (c.ws.take k) = false) ∧ Hid (wr = w.drewN q)) (fun i _ => N - (intOf i).toNat)
  case atStart => exact ⟨0, 0, Nat.zero_le _, rfl, (rfl : _ = _), (rfl : w = w.drewN 0)⟩
  case round =>
    obtain ⟨k, q, hk, rfl, HA, HW⟩ := hrel
    have d0 : wr.cell? ⟨r, 0, none⟩ = some (.slice (some ⟨b, 0, none⟩) N N) := by rw [HW.out]; exact c0
    have d2 : wr.cell? ⟨r, 2, none⟩ = some (.int .i64 c.now) := by rw [HW.out]; exact c2
    by_cases hlt : k < N
    · have hlI : (k : Int) < (N : Int) := by omega
      have hlL : k < c.ws.length := by rw [HN.out]; exact hlt
      obtain ⟨e0, he0⟩ : ∃ e0, c.ws[k] = e0 := ⟨_, rfl⟩
      have dw : wr.cell? ⟨b, k, none⟩ = some (.int .i64 e0) := by
        rw [HW.out]
        exact HG.out.worker (by rw [List.getElem?_eq_getElem hlL, he0])
      have HNx : Hid (lates c.now (c.ws.take (k + 1)) = (lates c.now (c.ws.take k) || (e0 != 0 && decide (e0 < c.now)))) := he0 ▸ lates_take_next hlL
      have hpos := work_pos HG.out.ok (he0 ▸ List.getElem_mem hlL)
      clear he0
      rcases hpos with rfl | ⟨p1, p2, p3⟩
      · have HN2 : Hid (lates c.now (c.ws.take (k + 1)) = false) := (by rw [HNx.out, HA.out]; rfl : _ = _)
        go_wp2_with fail
        go_quiet (fail)
        go_wp2_with fail
        go_roundw
        case rel => exact ⟨k + 1, q + nq, by omega, by go_num, HN2, (by rw [HW.out, World.drewN_drewN] : _ = _)⟩
        case measure => simp [intOf]; omega
      · have p4 : 0 < e0 := by omega
        by_cases hlate : e0 < c.now
        · go_wp2_with fail
          go_quiet (fail)
          go_wp2_with fail
          go_ret2
          exact ⟨rfl, q + nq, by rw [HW.out, World.drewN_drewN]⟩
        · have HN2 : Hid (lates c.now (c.ws.take (k + 1)) = false) := (by rw [HNx.out, HA.out, decide_eq_false hlate, Bool.and_false]; rfl : _ = _)
          go_wp2_with fail
          go_quiet (fail)
          go_wp2_with fail
          go_roundw
          case rel => exact ⟨k + 1, q + nq, by omega, by go_num, HN2, (by rw [HW.out, World.drewN_drewN] : _ = _)⟩
          case measure => simp [intOf]; omega
    · exfalso
      have h1 := HA.out
      rw [List.take_of_length_le (by rw [HN.out]; omega), HL.out] at h1
      cases h1

theorem rrise_one {b m1 m2 n q : Nat} {a1 a2 : Option Addr} (hG : RefG w r b a1 m1 a2 m2 c) (hF : RefF r b a1 m1 a2 m2 c.th.length F) (hR : c.rise.Ok) (hr : ¬ (c.now + 1) % c.every = 0) :
    Goes (RefI r c.rise) w (((w.drewN q).setCell ⟨r, 2, none⟩ (.int .i64 (c.now + 1))).drewN n) F := by
  have hs : c.rise.snap = c.snap := if_neg hr
  have hT : Turn (fun i => i = r) w ((w.drewN q).setCell ⟨r, 2, none⟩ (.int .i64 (c.now + 1))) := (Turn.ofBelow _ (below_drewN w q)).trans (Turn.setCell (S := fun i => i = r) (w.drewN q) ⟨r, 2, none⟩ _ rfl)
  refine hG.setE hF ⟨rfl, rfl, rfl⟩ hR (hT.drewN n) ?_
  have h1 : ((w.drewN q).setCell ⟨r, 2, none⟩ (.int .i64 (c.now + 1))).heap[r]? = _ := heap_setCell_same (w := w.drewN q) hG.st 2 (.int .i64 (c.now + 1))
  show ((w.drewN q).setCell ⟨r, 2, none⟩ (.int .i64 (c.now + 1))).heap[r]? = _
  rw [h1, hs]
  rfl

theorem rrise_two {b m1 m2 n q : Nat} {a1 a2 : Option Addr} {x : Int} (hG : RefG w r b a1 m1 a2 m2 c) (hF : RefF r b a1 m1 a2 m2 c.th.length F) (hR : c.rise.Ok) (hr : (c.now + 1) % c.every = 0) (hx : x = max c.snap (c.now - 1)) :
    Goes (RefI r c.rise) w ((((w.drewN q).setCell ⟨r, 2, none⟩ (.int .i64 (c.now + 1))).drewN n).setCell ⟨r, 3, none⟩ (.int .i64 x)) F := by
  have hs : c.rise.snap = x := by rw [hx]; exact if_pos hr
  have hT : Turn (fun i => i = r) w ((w.drewN q).setCell ⟨r, 2, none⟩ (.int .i64 (c.now + 1))) := (Turn.ofBelow _ (below_drewN w q)).trans (Turn.setCell (S := fun i => i = r) (w.drewN q) ⟨r, 2, none⟩ _ rfl)
  refine hG.setE hF ⟨rfl, rfl, rfl⟩ hR ((hT.drewN n).trans (Turn.setCell (S := fun i => i = r) _ ⟨r, 3, none⟩ _ rfl)) ?_
  have h1 : (((w.drewN q).setCell ⟨r, 2, none⟩ (.int .i64 (c.now + 1))).drewN n).heap[r]? = _ := heap_setCell_same (w := w.drewN q) hG.st 2 (.int .i64 (c.now + 1))
  rw [heap_setCell_same h1, hs]
  rfl

set_option maxRecDepth 100000 in
set_option maxHeartbeats 2000000 in
theorem radv_rise (h : RefI r c w F) (hn : c.now ≠ 2147483648) (hl : c.late = false) : Calls Try.prog 23 #[.pointer (some ⟨r, 0, none⟩)] w fun e w' => e = .returned (.tuple #[.bool true, .int .i64 0]) ∧ Goes (RefI r c.rise) w w' F := by
  obtain ⟨b, a1, m1, a2, m2, hG, hF⟩ := h
  obtain ⟨c0, c1, c2, c3, -, -, cf⟩ := hG.cells
  have HG : Hid (RefG w r b a1 m1 a2 m2 c) := hG
  have HL : Hid (∀ e ∈ c.ws, e = 0 ∨ c.now ≤ e) := lates_iff.1 hl
  have hg : ¬ (2147483648 ≤ c.now) := by have := hG.ok.now2; omega
  have hn16 := hG.ok.few
  have HR : Hid (c.rise.Ok) := Ck.rise_ok hG.ok hn hl
  have HF : Hid (RefF r b a1 m1 a2 m2 c.th.length F) := hF
  have n1 := hG.ok.now1
  have n2 : c.now < 2147483648 := by omega
  have e1 := hG.ok.every1
  have e2 := hG.ok.every2
  have s2 := hG.ok.snap2
  obtain ⟨N, hN⟩ : ∃ N, c.ws.length = N := ⟨_, rfl⟩
  have HN : Hid (c.ws.length = N) := hN
  have f2 := cf 2
  have f3 := cf 3
  rw [hN] at c0 hn16
  clear hG hF hn hl hN cf
  go_enter Try.func23, Try.ntmps23
  go_wp2_with fail
  go_loopw [4] (fun i wr => ∃ (k q : Nat), k ≤ N ∧ i = .int .i64 k ∧ Hid (wr = w.drewN q)) (fun i _ => N - (intOf i).toNat)
  case atStart => exact ⟨0, 0, Nat.zero_le _, rfl, (rfl : w = w.drewN 0)⟩
  case round =>
    obtain ⟨k, q, hk, rfl, HW⟩ := hrel
    have d0 : wr.cell? ⟨r, 0, none⟩ = some (.slice (some ⟨b, 0, none⟩) N N) := by rw [HW.out]; exact c0
    have d1 : wr.cell? ⟨r, 1, none⟩ = some (.int .i64 c.every) := by rw [HW.out]; exact c1
    have d2 : wr.cell? ⟨r, 2, none⟩ = some (.int .i64 c.now) := by rw [HW.out]; exact c2
    have d3 : wr.cell? ⟨r, 3, none⟩ = some (.int .i64 c.snap) := by rw [HW.out]; exact c3
    have g2 : wr.frozen? ⟨r, 2, none⟩ = false := by rw [HW.out]; exact f2
    have g3 : wr.frozen? ⟨r, 3, none⟩ = false := by rw [HW.out]; exact f3
    by_cases hlt : k < N
    · have hlI : (k : Int) < (N : Int) := by omega
      have hlL : k < c.ws.length := by rw [HN.out]; exact hlt
      obtain ⟨e0, he0⟩ : ∃ e0, c.ws[k] = e0 := ⟨_, rfl⟩
      have dw : wr.cell? ⟨b, k, none⟩ = some (.int .i64 e0) := by
        rw [HW.out]
        exact HG.out.worker (by rw [List.getElem?_eq_getElem hlL, he0])
      have hpos := HL.out e0 (he0 ▸ List.getElem_mem hlL)
      clear he0
      rcases hpos with rfl | hpos
      · go_wp2_with fail
        go_quiet (fail)
        go_wp2_with fail
        go_roundw
        case rel => exact ⟨k + 1, q + nq, by omega, by go_num, (by rw [HW.out, World.drewN_drewN] : _ = _)⟩
        case measure => simp [intOf]; omega
      · have p4 : 0 < e0 := by omega
        have p5 : ¬ e0 < c.now := by omega
        go_wp2_with fail
        go_quiet (fail)
        go_wp2_with fail
        go_roundw
        case rel => exact ⟨k + 1, q + nq, by omega, by go_num, (by rw [HW.out, World.drewN_drewN] : _ = _)⟩
        case measure => simp [intOf]; omega
    · have hlI : ¬ (k : Int) < (N : Int) := by omega
      have x1 : IntKind.i64.wrap (c.now + 1) = c.now + 1 := wrap_small _ (by omega) (by omega)
      have x2 : ¬ c.every = 0 := by omega
      obtain ⟨z, hz⟩ : ∃ z, (c.now + 1).tmod c.every = z := ⟨_, rfl⟩
      have HRR : Hid ((c.now + 1) % c.every = z) := (by rw [← hz, Int.tmod_eq_emod_of_nonneg (by omega)] : _ = _)
      by_cases h0 : z = 0
      · subst h0
        have x3 : IntKind.i64.wrap (c.now + 1 - 2) = c.now - 1 := by rw [wrap_small _ (by omega) (by omega)]; omega
        by_cases hs : c.snap < c.now - 1
        · go_wp2_with fail
          go_quiet (fail)
          go_wp2_with fail
          go_region
          all_goals go_wp2_with fail
          go_ret2
          rw [HW.out]
          exact ⟨rfl, rrise_two HG.out HF.out HR.out HRR.out (by omega)⟩
        · go_wp2_with fail
          go_quiet (fail)
          go_wp2_with fail
          go_region
          all_goals go_wp2_with fail
          go_ret2
          rw [HW.out]
          exact ⟨rfl, rrise_two HG.out HF.out HR.out HRR.out (by omega)⟩
      · have hr2 : (z == 0) = false := by simpa using h0
        go_wp2_with fail
        go_quiet (fail)
        go_wp2_with fail
        go_ret2
        rw [HW.out]
        exact ⟨rfl, rrise_one HG.out HF.out HR.out (by rw [HRR.out]; exact h0)⟩
end
end Go.Proofs.Ytonblbopfbjiaaa
