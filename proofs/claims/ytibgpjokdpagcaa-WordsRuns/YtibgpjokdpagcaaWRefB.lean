/- The document's Run, where something is refused. -/
import Derived.Test.YtibgpjokdpagcaaWRefC
import Derived.Test.YtibgpjokdpagcaaWLend
namespace Go.Proofs.Ytibgpjokdpagcaa
open Go.RowKit

section
variable {w : World} {vt vc vp : Value} {T : List TaskV} {c ps : List Int}

set_option maxRecDepth 100000 in
set_option maxHeartbeats 1000000 in
theorem rrun_bad (hT : TasksAt w vt T) (hC : WordsAt w vc c) (hP : IntsAt w vp ps) {E : Int} (hE : runE (codes T) c.length ps = E) (hne : E ≠ 0) :
    Calls Try.prog 14 #[vt, vc, vp] w fun e w' => e = .returned (.tuple #[repN, .int .i64 E]) ∧ Below w.heap.size w w' := by
  have hEb : (E != 0) = true := by rw [bne_iff_ne]; exact hne
  obtain ⟨ac, cc, rfl, hlc, hcc, hxc⟩ := hC
  clear hxc
  have HT : Hid (TasksAt (w.alloc repZ) vt T) := hT.below ((Below.refl _ _).alloc (Nat.le_refl _) _)
  obtain ⟨⟨at_, ct, rfl, hlt_, hct, -⟩, -⟩ := hT
  obtain ⟨ap, cp, rfl, hlp, hcp, hxp⟩ := hP
  have HXP : Hid (ps ≠ [] → ∃ b off, ap = some ⟨b, off, none⟩ ∧ b < w.heap.size ∧ ∀ i, (h : i < ps.length) → ∀ (j : Nat) (u : Value), ([Value.int .i64 ps[i]])[j]? = some u → w.cell? ⟨b, off + i * 1 + j, none⟩ = some u) := hxp
  clear hxp
  unfold maxLen at hcc hct hcp
  by_cases hk : (checkE (codes T) c.length).2.2 = 0
  · have hk2 : pickE T.length ps = E := by rw [← hE, runE, if_pos hk, codes_length]
    have HPk : Hid (pickE T.length ps = E) := hk2
    have hz := checkE_zero hk
    go_enter Try.func14, Try.ntmps14
    go_wp2_with fail
    refine (rcheck_any _ T c.length _ HT.out).mono ?_
    rintro e w1 ⟨rfl, hb1⟩
    rw [hz]
    have HB1 : Hid (Below w.heap.size w w1) := ((Below.refl _ _).alloc (Nat.le_refl _) _).trans (hb1.mono (by simp))
    have HR1 : Hid (w1.heap[w.heap.size]? = some repZ) := (hb1.block _ (by simp)).trans (heap_new w _)
    clear hb1 hk2 hk hE hz
    by_cases hbig : (1048576 : Int) < (ps.length : Int)
    · have hE2 : E = 2 := by rw [← HPk.out]; exact if_pos (by omega)
      subst hE2
      obtain ⟨y0, y1, y2, y3, z⟩ := res_cells HR1.out
      go_wp2_with fail
      have hS := res_set HR1.out (.slice none 0 0) (.slice none 0 0) (.slice none 0 0) (.int .i64 0) _ rfl
      generalize (((w1.setCell ⟨w.heap.size, 0, none⟩ (.slice none 0 0)).setCell ⟨w.heap.size, 1, none⟩ (.slice none 0 0)).setCell ⟨w.heap.size, 2, none⟩ (.slice none 0 0)).setCell ⟨w.heap.size, 3, none⟩ (.int .i64 0) = W at hS ⊢
      obtain ⟨c0, c1, c2, c3, ht⟩ := hS
      try simp only [Exit.inBlock, Exit.then]
      refine bodyPost_ret (by simp [results, Try.results14, go_sem, c0, c1, c2, c3]; rfl) rfl ?_
      exact ⟨rfl, HB1.out.trans ((ht.mono (fun i e => by rw [e]; exact Nat.le_refl _)).toBelow HB1.out.size)⟩
    · have HBad : Hid (¬ (∀ p ∈ ps, 0 ≤ p ∧ p < (T.length : Int)) ∧ E = 1) := by
        have h1 := HPk.out
        unfold pickE at h1
        rw [if_neg (by omega)] at h1
        by_cases hall : ∀ p ∈ ps, 0 ≤ p ∧ p < (T.length : Int)
        · rw [if_pos hall] at h1
          exact absurd h1.symm hne
        · rw [if_neg hall] at h1
          exact ⟨hall, h1.symm⟩
      go_wp2_with fail
      go_loopw [11] (fun i wr => ∃ j : Nat, j ≤ ps.length ∧ i = .int .i64 j ∧ (∀ k, (h : k < ps.length) → k < j → 0 ≤ ps[k] ∧ ps[k] < (T.length : Int)) ∧ wr = w1) (fun i _ => ps.length - (intOf i).toNat)
      case atStart => exact ⟨0, Nat.zero_le _, rfl, fun k _ h => absurd h (Nat.not_lt_zero _), rfl⟩
      case round =>
        obtain ⟨j, hj, rfl, hbad, rfl⟩ := hrel
        have HB : Hid (∀ k, (h : k < ps.length) → k < j → 0 ≤ ps[k] ∧ ps[k] < (T.length : Int)) := hbad
        clear hbad
        by_cases hlt : j < ps.length
        · have hlI : (j : Int) < (ps.length : Int) := by omega
          obtain ⟨b, off, rfl, hbl, hcs⟩ := HXP.out (by intro e; rw [e] at hlt; simp at hlt)
          obtain ⟨x, hxe⟩ : ∃ x, ps[j] = x := ⟨_, rfl⟩
          have q := hcs j hlt 0 _ rfl
          rw [hxe, Nat.mul_one, Nat.add_zero] at q
          have p0 : wr.cell? ⟨b, off + j, none⟩ = some (.int .i64 x) := (HB1.out.cell hbl).trans q
          have HX2 : Hid (ps[j] = x) := hxe
          clear hcs hxe q
          by_cases hin : 0 ≤ x ∧ x < (T.length : Int)
          · obtain ⟨k1, k2⟩ := hin
            have k3 : ¬ x < 0 := by omega
            have k4 : ¬ (T.length : Int) ≤ x := by omega
            go_wp2_with fail
            go_roundw
            case rel =>
              refine ⟨j + 1, by omega, by go_num, fun k hk hkj => ?_, by first | rfl | trivial⟩
              by_cases e : k = j
              · subst e
                rw [HX2.out]
                exact ⟨k1, k2⟩
              · exact HB.out k hk (by omega)
            case measure => simp [intOf]; omega
          · have hE1 : E = 1 := HBad.out.2
            subst hE1
            obtain ⟨y0, y1, y2, y3, z⟩ := res_cells HR1.out
            by_cases k1 : x < 0
            · clear hin
              go_wp2_with fail
              have hS := res_set HR1.out (.slice none 0 0) (.slice none 0 0) (.slice none 0 0) (.int .i64 0) _ rfl
              generalize (((wr.setCell ⟨w.heap.size, 0, none⟩ (.slice none 0 0)).setCell ⟨w.heap.size, 1, none⟩ (.slice none 0 0)).setCell ⟨w.heap.size, 2, none⟩ (.slice none 0 0)).setCell ⟨w.heap.size, 3, none⟩ (.int .i64 0) = W at hS ⊢
              obtain ⟨c0, c1, c2, c3, ht⟩ := hS
              try simp only [Exit.inBlock, Exit.then]
              refine bodyPost_ret (by simp [results, Try.results14, go_sem, c0, c1, c2, c3]; rfl) rfl ?_
              exact ⟨rfl, HB1.out.trans ((ht.mono (fun i e => by rw [e]; exact Nat.le_refl _)).toBelow HB1.out.size)⟩
            · have k2 : (T.length : Int) ≤ x := by omega
              clear hin
              go_wp2_with fail
              have hS := res_set HR1.out (.slice none 0 0) (.slice none 0 0) (.slice none 0 0) (.int .i64 0) _ rfl
              generalize (((wr.setCell ⟨w.heap.size, 0, none⟩ (.slice none 0 0)).setCell ⟨w.heap.size, 1, none⟩ (.slice none 0 0)).setCell ⟨w.heap.size, 2, none⟩ (.slice none 0 0)).setCell ⟨w.heap.size, 3, none⟩ (.int .i64 0) = W at hS ⊢
              obtain ⟨c0, c1, c2, c3, ht⟩ := hS
              try simp only [Exit.inBlock, Exit.then]
              refine bodyPost_ret (by simp [results, Try.results14, go_sem, c0, c1, c2, c3]; rfl) rfl ?_
              exact ⟨rfl, HB1.out.trans ((ht.mono (fun i e => by rw [e]; exact Nat.le_refl _)).toBelow HB1.out.size)⟩
        · exfalso
          refine HBad.out.1 (fun p hp => ?_)
          obtain ⟨k, hk, rfl⟩ := List.getElem_of_mem hp
          exact HB.out k hk (by omega)
  · have hk2 : (checkE (codes T) c.length).2.2 = E := by rw [← hE, runE, if_neg hk]
    go_enter Try.func14, Try.ntmps14
    go_wp2_with fail
    refine (rcheck_any _ T c.length _ HT.out).mono ?_
    rintro e w1 ⟨rfl, hb1⟩
    rw [hk2]
    generalize (checkE (codes T) c.length).1 = z1
    generalize (checkE (codes T) c.length).2.1 = z2
    have HB1 : Hid (Below w.heap.size w w1) := ((Below.refl _ _).alloc (Nat.le_refl _) _).trans (hb1.mono (by simp))
    have HR1 : Hid (w1.heap[w.heap.size]? = some repZ) := (hb1.block _ (by simp)).trans (heap_new w _)
    clear hb1 hk2 hk hE
    obtain ⟨y0, y1, y2, y3, z⟩ := res_cells HR1.out
    go_wp2_with fail
    have hS := res_set HR1.out (.slice none 0 0) (.slice none 0 0) (.slice none 0 0) (.int .i64 0) _ rfl
    generalize (((w1.setCell ⟨w.heap.size, 0, none⟩ (.slice none 0 0)).setCell ⟨w.heap.size, 1, none⟩ (.slice none 0 0)).setCell ⟨w.heap.size, 2, none⟩ (.slice none 0 0)).setCell ⟨w.heap.size, 3, none⟩ (.int .i64 0) = W at hS ⊢
    obtain ⟨c0, c1, c2, c3, ht⟩ := hS
    try simp only [Exit.inBlock, Exit.then]
    refine bodyPost_ret (by simp [results, Try.results14, go_sem, c0, c1, c2, c3]; rfl) rfl ?_
    exact ⟨rfl, HB1.out.trans ((ht.mono (fun i e => by rw [e]; exact Nat.le_refl _)).toBelow HB1.out.size)⟩
end

end Go.Proofs.Ytibgpjokdpagcaa
