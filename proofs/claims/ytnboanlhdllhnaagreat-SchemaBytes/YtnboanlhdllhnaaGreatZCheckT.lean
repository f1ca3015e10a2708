/- The program's Check, whole. -/
import Derived.Test.YtnboanlhdllhnaaGreatZCheck
namespace Go.Proofs.YtnboanlhdllhnaaGreat
open Go.RowKit

theorem box4 {w u : World} {a b c d : Value} {t : TypeId} (hu : Below (w.alloc (.cells #[a, b, c, d] t)).heap.size (w.alloc (.cells #[a, b, c, d] t)) u) :
    u.cell? ⟨w.heap.size, 0, none⟩ = some a ∧ u.cell? ⟨w.heap.size, 1, none⟩ = some b ∧ u.cell? ⟨w.heap.size, 2, none⟩ = some c ∧ u.cell? ⟨w.heap.size, 3, none⟩ = some d := by
  have e := (hu.block w.heap.size (by simp)).trans (heap_new w (.cells #[a, b, c, d] t))
  exact ⟨by rw [cell_of e]; rfl, by rw [cell_of e]; rfl, by rw [cell_of e]; rfl, by rw [cell_of e]; rfl⟩

theorem slice_shape {α : Type} {w : World} {v : Value} {n : Nat} {en : α → List Value} {L : List α} (h : SliceAt w v n en L) : ∃ a c, v = .slice a L.length c ∧ L.length ≤ c ∧ c ≤ 9223372036854775807 := by
  obtain ⟨a, c, e, h1, h2, _⟩ := h
  unfold maxLen at h2
  exact ⟨a, c, e, h1, by omega⟩

def chk (T : Tab) : Int := if T.may then 0 else 140
theorem chk_yes {T : Tab} (h : T.may = true) : chk T = 0 := by unfold chk; rw [if_pos h]
theorem chk_no {T : Tab} (h : T.may = false) : chk T = 140 := by unfold chk; rw [h]; rfl

set_option maxRecDepth 100000 in
set_option maxHeartbeats 1000000 in
theorem check_any (cv iv : Value) (T : Tab) (w w0 : World) (hb : Below w0.heap.size w0 w) (h : TabV w0 cv iv T) (hr : Rg T) :
    Calls Tryz.prog 25 #[tabVal cv iv T] w fun e w' => e = .returned (.int .i64 (chk T)) ∧ Below w.heap.size w w' := by
  obtain ⟨h1, X, h2, h3, h4⟩ := h
  have HN : Hid (∀ u, Calls Tryz.prog 40 #[.string T.nm] u fun e w' => e = .returned (.bool (nameOk T.nm)) ∧ u = w') := fun u => (nameMayBe_any T.nm u hr.nm).mono fun e w' ⟨a, b⟩ => ⟨a, b.symm⟩
  have HC : Hid (∀ u, Below w0.heap.size w0 u → Calls Tryz.prog 41 #[cv] u fun e w' => e = .returned (.bool (colsOk T.co)) ∧ Below u.heap.size u w') := fun u hu => columnsMayBe_any cv T.co u (h1.below hu) (fun c hc => (hr.co c hc).1)
  have HI : Hid (∀ u, Below w0.heap.size w0 u → Calls Tryz.prog 42 #[iv, .int .i64 (T.co.length : Int)] u fun e w' => e = .returned (.bool (ixsOk T.co.length T.ix)) ∧ Below u.heap.size u w') := fun u hu => by
    have := indexesMayBe_any iv X T.co.length u w0 hu h2 h4 (fun x hx => (hr.ix x.ix (by rw [← h3]; exact List.mem_map.2 ⟨x, hx, rfl⟩)).1)
    rw [h3] at this
    exact this
  obtain ⟨ca, cc, rfl, hcl, hcm⟩ := slice_shape h1
  obtain ⟨ia, ic, rfl, hil, him⟩ := slice_shape h2
  have hXl : X.length = T.ix.length := by rw [← h3, List.length_map]
  rw [hXl] at HI hil ⊢
  obtain ⟨A, hA⟩ : ∃ A, nameOk T.nm = A := ⟨_, rfl⟩
  obtain ⟨B, hB⟩ : ∃ B, colsOk T.co = B := ⟨_, rfl⟩
  obtain ⟨C, hC⟩ : ∃ C, ixsOk T.co.length T.ix = C := ⟨_, rfl⟩
  have HM : Hid (T.may = (A && B && decide (1 ≤ T.key) && decide (T.key ≤ (T.co.length : Int)) && C)) := by show _ = _; unfold Tab.may; rw [hA, hB, hC]
  rw [hA] at HN
  rw [hB] at HC
  rw [hC] at HI
  unfold tabVal
  obtain ⟨N, hNn⟩ : ∃ N, T.co.length = N := ⟨_, rfl⟩
  obtain ⟨M, hMm⟩ : ∃ M, T.ix.length = M := ⟨_, rfl⟩
  obtain ⟨key, hkey⟩ : ∃ key, T.key = key := ⟨_, rfl⟩
  obtain ⟨nm, hnm⟩ : ∃ nm, T.nm = nm := ⟨_, rfl⟩
  have hk := hr.key
  rw [hNn] at HC HI HM hcl ⊢
  rw [hMm] at HI hil ⊢
  rw [hkey] at HM hk ⊢
  rw [hnm] at HN ⊢
  have HW : Hid (Below w0.heap.size w0 (w.alloc (.cells #[.string nm, .slice ca N cc, .int .i64 key, .slice ia M ic] 32))) := hb.trans (((Below.refl _ w).alloc (Nat.le_refl _) _).mono hb.size)
  have HBA : Hid (∀ u, Below (w.alloc (.cells #[.string nm, .slice ca N cc, .int .i64 key, .slice ia M ic] 32)).heap.size (w.alloc (.cells #[.string nm, .slice ca N cc, .int .i64 key, .slice ia M ic] 32)) u → Below w.heap.size w u) := fun u hu => ((Below.refl _ w).alloc (Nat.le_refl _) _).trans (hu.mono (by simp))
  clear h1 h2 h3 h4 hA hB hC hr hb hXl hNn hMm hkey hnm
  cases A
  · have hM : chk T = 140 := chk_no (by rw [HM.out]; rfl)
    rw [hM]
    go_enter Tryz.func25, Tryz.ntmps25
    go_wp2_with (go_at_call 40; go_must (refine (HN.out _).mono ?_; rintro e w' ⟨rfl, rfl⟩))
    go_ret
    exact ⟨rfl, HBA.out _ (Below.refl _ _)⟩
  · cases B
    · have hM : chk T = 140 := chk_no (by rw [HM.out]; rfl)
      rw [hM]
      go_enter Tryz.func25, Tryz.ntmps25
      go_wp2_with (first
        | (go_at_call 40; go_must (refine (HN.out _).mono ?_; rintro e w' ⟨rfl, rfl⟩))
        | (go_at_call 41; go_must (refine (HC.out _ HW.out).mono ?_; rintro e w1 ⟨rfl, hb1⟩; obtain ⟨c0, c1, c2, c3⟩ := box4 hb1)))
      go_ret
      exact ⟨rfl, HBA.out _ hb1⟩
    · by_cases k1 : key < 1
      · have hM : chk T = 140 := chk_no (by rw [HM.out, decide_eq_false (p := (1 : Int) ≤ key) (by omega)]; rfl)
        rw [hM]
        go_enter Tryz.func25, Tryz.ntmps25
        go_wp2_with (first
          | (go_at_call 40; go_must (refine (HN.out _).mono ?_; rintro e w' ⟨rfl, rfl⟩))
          | (go_at_call 41; go_must (refine (HC.out _ HW.out).mono ?_; rintro e w1 ⟨rfl, hb1⟩; obtain ⟨c0, c1, c2, c3⟩ := box4 hb1)))
        go_ret
        exact ⟨rfl, HBA.out _ hb1⟩
      · by_cases k2 : (N : Int) < key
        · have hM : chk T = 140 := chk_no (by rw [HM.out, decide_eq_false (p := key ≤ (N : Int)) (by omega)]; simp)
          rw [hM]
          go_enter Tryz.func25, Tryz.ntmps25
          go_wp2_with (first
            | (go_at_call 40; go_must (refine (HN.out _).mono ?_; rintro e w' ⟨rfl, rfl⟩))
            | (go_at_call 41; go_must (refine (HC.out _ HW.out).mono ?_; rintro e w1 ⟨rfl, hb1⟩; obtain ⟨c0, c1, c2, c3⟩ := box4 hb1)))
          go_ret
          exact ⟨rfl, HBA.out _ hb1⟩
        · have HM2 : Hid (chk T = if C then 0 else 140) := by
            show _ = _
            unfold chk
            rw [HM.out, decide_eq_true (p := (1 : Int) ≤ key) (by omega), decide_eq_true (p := key ≤ (N : Int)) (by omega)]
            rfl
          cases C
          all_goals (
            rw [HM2.out]
            go_enter Tryz.func25, Tryz.ntmps25
            go_wp2_with (first
              | (go_at_call 40; go_must (refine (HN.out _).mono ?_; rintro e w' ⟨rfl, rfl⟩))
              | (go_at_call 41; go_must (refine (HC.out _ HW.out).mono ?_; rintro e w1 ⟨rfl, hb1⟩; obtain ⟨c0, c1, c2, c3⟩ := box4 hb1))
              | (go_at_call 42; go_must (refine (HI.out _ (HW.out.trans (hb1.mono HW.out.size))).mono ?_; rintro e w2 ⟨rfl, hb2⟩)))
            go_ret
            exact ⟨rfl, HBA.out _ (hb1.trans (hb2.mono hb1.size))⟩)

end Go.Proofs.YtnboanlhdllhnaaGreat
