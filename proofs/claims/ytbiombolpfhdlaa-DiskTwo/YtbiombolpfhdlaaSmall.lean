/- What the disk's small functions do: change, find, tail, Fuse, New. -/
import Derived.Test.YtbiombolpfhdlaaNames
import Derived.Test.YtbiombolpfhdlaaHeap
import Derived.BigQuiet
namespace Go.Proofs.Ytbiombolpfhdlaa
open Go.RowKit Go.Maps

theorem ret_int {k : IntKind} {a b : Int} (h : a = b) : Ending.returned (.int k a) = .returned (.int k b) := by rw [h]

/-- the four cells of a disk's struct -/
theorem DiskG.cells {P : Program} {w : World} {d m : Nat} {G : List (List UInt8 × Gc)} {s : Dk.Dsk} (h : DiskG P w d m G s) :
    w.cell? ⟨d, 0, none⟩ = some (.map (some m)) ∧ w.cell? ⟨d, 0 + 1, none⟩ = some (.bool s.down) ∧ w.cell? ⟨d, 0 + 2, none⟩ = some (.bool s.fused) ∧ w.cell? ⟨d, 0 + 3, none⟩ = some (.int .i64 (s.left : Int)) :=
  ⟨by rw [cell_of h.top]; rfl, by rw [cell_of h.top]; rfl, by rw [cell_of h.top]; rfl, by rw [cell_of h.top]; rfl⟩

set_option maxHeartbeats 400000 in
theorem change_any {d m : Nat} {G : List (List UInt8 × Gc)} {s : Dk.Dsk} (w : World) (h : DiskG Try.prog w d m G s) :
    Calls Try.prog 37 #[.pointer (some ⟨d, 0, none⟩)] w fun e w' => e = .returned (.int .i64 (Dk.changeE s)) ∧ DiskG Try.prog w' d m G (Dk.changeS s) ∧ Turn (fun i => i = d) w w' := by
  have H : Hid (DiskG Try.prog w d m G s) := h
  obtain ⟨c0, c1, c2, c3⟩ := h.cells
  have f1 := frozen_of h.top 1
  have f3 := frozen_of h.top 3
  have hl := h.left
  clear h
  cases hf : s.fused <;> cases hd : s.down <;> rw [hf] at c2 <;> rw [hd] at c1 <;> simp only [Nat.zero_add] at c1 c2 c3
  all_goals go_enter Try.func37, Try.ntmps37
  all_goals go_wp2
  all_goals go_ret
  · refine ⟨ret_int (by simp [Dk.changeE, Dk.burnt, hf, hd]), ?_, Turn.refl _ _⟩
    rw [show Dk.changeS s = s from by simp [Dk.changeS, Dk.burnt, hf, hd]]
    exact H.out
  · refine ⟨ret_int (by simp [Dk.changeE, Dk.burnt, hd]), ?_, Turn.refl _ _⟩
    refine H.out.topped (Turn.refl _ _) ?_ (by simp [Dk.changeS, Dk.burnt, hd]) (by simpa [Dk.changeS, Dk.burnt, hd] using hl)
    rw [H.out.top]
    simp [Dk.changeS, Dk.burnt, hd]
  · have hz : s.left = 0 := by have := eq_of_beq ‹((s.left : Int) == 0) = true›; omega
    refine ⟨ret_int (by simp [Dk.changeE, Dk.burnt, hf, hz]), ?_, Turn.setCell _ _ _ rfl⟩
    refine H.out.topped (Turn.setCell _ _ _ rfl) ?_ (by simp [Dk.changeS, Dk.burnt, hf, hz]) (by simp [Dk.changeS, Dk.burnt, hf, hz])
    rw [heap_setCell_same H.out.top]
    simp [Dk.changeS, Dk.burnt, hf, hz]
  · have hz : s.left ≠ 0 := by intro e; rename_i hh; rw [e] at hh; simp at hh
    refine ⟨ret_int (by simp [Dk.changeE, Dk.burnt, hd, hz]), ?_, Turn.setCell _ _ _ rfl⟩
    refine H.out.topped (Turn.setCell _ _ _ rfl) ?_ (by simp [Dk.changeS, Dk.burnt, hf, hd, hz]) (by simp [Dk.changeS, Dk.burnt, hf, hd, hz]; omega)
    rw [heap_setCell_same H.out.top]
    simp [Dk.changeS, Dk.burnt, hf, hd, hz]
    omega
  · refine ⟨ret_int (by simp [Dk.changeE, Dk.burnt, hd]), ?_, Turn.setCell _ _ _ rfl⟩
    refine H.out.topped (Turn.setCell _ _ _ rfl) ?_ (by simp [Dk.changeS, Dk.burnt, hd]) (by simpa [Dk.changeS, Dk.burnt, hd] using hl)
    rw [heap_setCell_same H.out.top]
    simp [Dk.changeS, Dk.burnt, hd]
  · refine ⟨ret_int (by simp [Dk.changeE, Dk.burnt, hd]), ?_, Turn.refl _ _⟩
    refine H.out.topped (Turn.refl _ _) ?_ (by simp [Dk.changeS, Dk.burnt, hd]) (by simpa [Dk.changeS, Dk.burnt, hd] using hl)
    rw [H.out.top]
    simp [Dk.changeS, Dk.burnt, hd]

set_option maxHeartbeats 400000 in
theorem fuse_any {d m : Nat} {G : List (List UInt8 × Gc)} {s : Dk.Dsk} (n : Int) (w : World) (h : DiskG Try.prog w d m G s) (hn : n ≤ 9223372036854775807) :
    Calls Try.prog 19 #[.pointer (some ⟨d, 0, none⟩), .int .i64 n] w fun e w' => e = .returned (.int .i64 (Dk.fuseE n)) ∧ DiskG Try.prog w' d m G (Dk.fuseS s n) ∧ Turn (fun i => i = d) w w' := by
  have H : Hid (DiskG Try.prog w d m G s) := h
  obtain ⟨c0, c1, c2, c3⟩ := h.cells
  have f2 := frozen_of h.top 2
  have f3 := frozen_of h.top 3
  simp only [Nat.zero_add] at c1 c2 c3
  clear h
  by_cases hlt : n < 0
  · go_enter Try.func19, Try.ntmps19
    go_wp2
    go_ret
    refine ⟨ret_int (by simp [Dk.fuseE, hlt]), ?_, Turn.refl _ _⟩
    rw [show Dk.fuseS s n = s from by simp [Dk.fuseS, hlt]]
    exact H.out
  · go_enter Try.func19, Try.ntmps19
    go_wp2
    go_ret
    have ht : ∀ (v v' : Value), Turn (fun i => i = d) w ((w.setCell ⟨d, 2, none⟩ v).setCell ⟨d, 3, none⟩ v') := fun v v' => (Turn.setCell (S := fun i => i = d) w ⟨d, 2, none⟩ v rfl).trans (Turn.setCell _ ⟨d, 3, none⟩ v' rfl)
    have hlt' : ¬ n < 0 := by omega
    refine ⟨ret_int (by simp [Dk.fuseE, hlt']), ?_, ht _ _⟩
    refine H.out.topped (ht _ _) ?_ (by simp [Dk.fuseS, hlt']) (by simp [Dk.fuseS, hlt']; omega)
    rw [heap_setCell_same (heap_setCell_same H.out.top _ _)]
    simp [Dk.fuseS, hlt']
    omega

set_option maxHeartbeats 400000 in
theorem new_any (w : World) :
    Calls Try.prog 9 #[] w fun e w' => e = .returned (.pointer (some ⟨w.heap.size + 1, 0, none⟩)) ∧ DiskG Try.prog w' (w.heap.size + 1) w.heap.size [] Dk.blank ∧ Below w.heap.size w w' := by
  have hmm := @run_makeMap Try.prog
  go_enter Try.func9, Try.ntmps9
  go_wp2
  go_ret
  refine ⟨rfl, ⟨?_, ?_, by simp, List.Pairwise.nil, rfl, by simp, by simp [Dk.blank], by simp⟩, ((Below.refl _ _).alloc (Nat.le_refl _) _).alloc (by simp) _⟩
  · have e := heap_alloc_new (w.alloc (.map #[] 0)) (.cells #[.map (some w.heap.size), .bool false, .bool false, .int .i64 0] 53 (0, 0))
    rw [World.size_alloc] at e
    exact e
  · exact (World.ownsMap_made w Try.prog 9 ptrR).alloc _

end Go.Proofs.Ytbiombolpfhdlaa
