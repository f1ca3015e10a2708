/- Run: the contract. -/
import Derived.Test.YtibgpjokdpagcaaWRunP
namespace Go.Proofs.Ytibgpjokdpagcaa
open Go.RowKit

/-- a report in memory: cells, registers, who has stopped -/
structure RepG (w : World) (h g2 g3 : Nat) (c : List Int) (R : List (List Int)) (D : List Bool) : Prop where
  c : ∃ cur, w.heap[h]? = some (.cells cur 38 (0, 0)) ∧ cur.toList = ucells c
  r : RowR w g2 R
  d : RowB w g3 D
  ne : h ≠ g2 ∧ h ≠ g3 ∧ g2 ≠ g3

/-- within Run -/
structure Mid (w wr : World) (g h : Nat) (T : List TaskV) (S : Sys) : Prop where
  room : RoomG wr g h (gOf T S.ms) S.c
  res : wr.heap[w.heap.size]? = some repZ
  below : Below w.heap.size w wr
  new : w.heap.size < g ∧ w.heap.size < h

abbrev repV (h n g2 g3 m k : Nat) : Value := .agg #[.slice (some ⟨h, 0, none⟩) n n, .slice (some ⟨g2, 0, none⟩) m m, .slice (some ⟨g3, 0, none⟩) m m, .int .i64 (k : Int)]
abbrev repN : Value := .agg #[.slice none 0 0, .slice none 0 0, .slice none 0 0, .int .i64 0]

theorem res_cells {wr : World} {b : Nat} (hr : wr.heap[b]? = some repZ) : wr.cell? ⟨b, 0, none⟩ = some (.slice none 0 0) ∧ wr.cell? ⟨b, 1, none⟩ = some (.slice none 0 0) ∧ wr.cell? ⟨b, 2, none⟩ = some (.slice none 0 0) ∧ wr.cell? ⟨b, 3, none⟩ = some (.int .i64 0) ∧ ∀ f, wr.frozen? ⟨b, f, none⟩ = false :=
  ⟨by rw [cell_of hr]; rfl, by rw [cell_of hr]; rfl, by rw [cell_of hr]; rfl, by rw [cell_of hr]; rfl, fun f => frozen_of hr f⟩

/-- the result's block is written -/
theorem res_set {wr : World} {b : Nat} (hr : wr.heap[b]? = some repZ) (v0 v1 v2 v3 : Value) (W : World) (hW : W = (((wr.setCell ⟨b, 0, none⟩ v0).setCell ⟨b, 1, none⟩ v1).setCell ⟨b, 2, none⟩ v2).setCell ⟨b, 3, none⟩ v3) :
    W.cell? ⟨b, 0, none⟩ = some v0 ∧ W.cell? ⟨b, 1, none⟩ = some v1 ∧ W.cell? ⟨b, 2, none⟩ = some v2 ∧ W.cell? ⟨b, 3, none⟩ = some v3 ∧ Turn (fun i => i = b) wr W := by
  have e : W = wr.setCells b 0 [v0, v1, v2, v3] := hW
  obtain ⟨c', e1, e2⟩ := setCells_heap b [v0, v1, v2, v3] 0 wr _ _ _ [] [.slice none 0 0, .slice none 0 0, .slice none 0 0, .int .i64 0] hr rfl rfl rfl
  obtain ⟨l'⟩ := c'
  cases e2
  rw [← e] at e1
  exact ⟨by rw [cell_of e1]; rfl, by rw [cell_of e1]; rfl, by rw [cell_of e1]; rfl, by rw [cell_of e1]; rfl, e ▸ setCells_turn b _ 0 wr⟩

section
variable {w : World} {vt vc vp : Value} {T : List TaskV} {c ps : List Int}

set_option maxRecDepth 100000 in
set_option maxHeartbeats 400000 in
theorem run_bad (hT : TasksAt w vt T) (hC : WordsAt w vc c) (hP : IntsAt w vp ps) {E : Int} (hE : runE (codes T) c.length ps = E) (hne : E ≠ 0) :
    Calls Try.prog 13 #[vt, vc, vp] w fun e w' => e = .returned (.tuple #[repN, .int .i64 E]) ∧ Below w.heap.size w w' := by
  have hEb : (E != 0) = true := by rw [bne_iff_ne]; exact hne
  obtain ⟨ac, cc, rfl, hlc, hcc, hxc⟩ := hC
  clear hxc
  have HT : Hid (TasksAt (w.alloc repZ) vt T) := hT.below ((Below.refl _ _).alloc (Nat.le_refl _) _)
  have HP : Hid (∀ W, Below w.heap.size w W → IntsAt W vp ps) := fun W hW => hP.below hW
  obtain ⟨⟨at_, ct, rfl, -, -, -⟩, -⟩ := hT
  obtain ⟨ap, cp, rfl, -, -, -⟩ := hP
  unfold maxLen at hcc
  by_cases hk : (checkE (codes T) c.length).2.2 = 0
  · have hk2 : pickE T.length ps = E := by rw [← hE, runE, if_pos hk, codes_length]
    go_enter Try.func13, Try.ntmps13
    go_wp2_with fail
    refine (check_any _ T c.length _ HT.out).mono ?_
    rintro e w1 ⟨rfl, hb1⟩
    rw [hk]
    have HB1 : Hid (Below w.heap.size w w1) := ((Below.refl _ _).alloc (Nat.le_refl _) _).trans (hb1.mono (by simp))
    have HR1 : Hid (w1.heap[w.heap.size]? = some repZ) := (hb1.block _ (by simp)).trans (heap_new w _)
    clear hb1
    go_wp2_with fail
    refine (picks_any _ ps T.length _ (HP.out _ HB1.out)).mono ?_
    rintro e w2 ⟨rfl, rfl⟩
    rw [hk2]
    clear hk2 hk hE
    obtain ⟨y0, y1, y2, y3, z⟩ := res_cells HR1.out
    go_wp2_with fail
    have hS := res_set HR1.out (.slice none 0 0) (.slice none 0 0) (.slice none 0 0) (.int .i64 0) _ rfl
    generalize (((w1.setCell ⟨w.heap.size, 0, none⟩ (.slice none 0 0)).setCell ⟨w.heap.size, 1, none⟩ (.slice none 0 0)).setCell ⟨w.heap.size, 2, none⟩ (.slice none 0 0)).setCell ⟨w.heap.size, 3, none⟩ (.int .i64 0) = W at hS ⊢
    obtain ⟨c0, c1, c2, c3, ht⟩ := hS
    try simp only [Exit.inBlock, Exit.then]
    refine bodyPost_ret (by simp [results, Try.results13, go_sem, c0, c1, c2, c3]; rfl) rfl ?_
    exact ⟨rfl, HB1.out.trans ((ht.mono (fun i e => by rw [e]; exact Nat.le_refl _)).toBelow HB1.out.size)⟩
  · have hk2 : (checkE (codes T) c.length).2.2 = E := by rw [← hE, runE, if_neg hk]
    go_enter Try.func13, Try.ntmps13
    go_wp2_with fail
    refine (check_any _ T c.length _ HT.out).mono ?_
    rintro e w1 ⟨rfl, hb1⟩
    rw [hk2]
    have HB1 : Hid (Below w.heap.size w w1) := ((Below.refl _ _).alloc (Nat.le_refl _) _).trans (hb1.mono (by simp))
    have HR1 : Hid (w1.heap[w.heap.size]? = some repZ) := (hb1.block _ (by simp)).trans (heap_new w _)
    clear hb1 hk2 hk hE
    obtain ⟨y0, y1, y2, y3, z⟩ := res_cells HR1.out
    go_wp2_with fail
    have hS := res_set HR1.out (.slice none 0 0) (.slice none 0 0) (.slice none 0 0) (.int .i64 0) _ rfl
    generalize (((w1.setCell ⟨w.heap.size, 0, none⟩ (.slice none 0 0)).setCell ⟨w.heap.size, 1, none⟩ (.slice none 0 0)).setCell ⟨w.heap.size, 2, none⟩ (.slice none 0 0)).setCell ⟨w.heap.size, 3, none⟩ (.int .i64 0) = W at hS ⊢
    obtain ⟨c0, c1, c2, c3, ht⟩ := hS
    try simp only [Exit.inBlock, Exit.then]
    refine bodyPost_ret (by simp [results, Try.results13, go_sem, c0, c1, c2, c3]; rfl) rfl ?_
    exact ⟨rfl, HB1.out.trans ((ht.mono (fun i e => by rw [e]; exact Nat.le_refl _)).toBelow HB1.out.size)⟩

end
end Go.Proofs.Ytibgpjokdpagcaa
