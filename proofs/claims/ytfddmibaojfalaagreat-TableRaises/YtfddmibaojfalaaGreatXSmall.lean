/- The law's small schema and its rows. -/
import Derived.Test.YtfddmibaojfalaaGreatXBothJ
namespace Go.Proofs.YtfddmibaojfalaaGreat
open Go.RowKit

abbrev rowO1 (n : Int) (s : ByteArray) : Obj := .cells #[.int .i64 2, .int .i64 n, .complex .f64 0 0, .string ⟨#[]⟩, .int .i64 5, .int .i64 0, .complex .f64 0 0, .string s] 36
set_option maxHeartbeats 400000 in
theorem row15_any (n : Int) (s : ByteArray) (w : World) : Calls Tryz.prog 11 #[.int .i64 n, .string s] w fun e w' => e = .returned (.slice (some ⟨w.heap.size, 0, none⟩) 2 2) ∧ w' = w.alloc (rowO1 n s) := by
  go_enter Tryz.func11, Tryz.ntmps11
  go_wp2
  go_ret
  exact ⟨rfl, rfl⟩

/-- the chapter's schema, with an index that is unique -/
def T1 : Tab := ⟨⟨#[116]⟩, [(⟨#[97]⟩, 2), (⟨#[98]⟩, 5)], 1, [⟨⟨#[105]⟩, [1], true⟩]⟩
theorem T1_may : T1.may = true := by decide
abbrev colsO1 : Obj := .cells #[.string ⟨#[97]⟩, .int .i64 2, .string ⟨#[98]⟩, .int .i64 5] 25
abbrev numO1 : Obj := .cells #[.int .i64 1] 3
abbrev idxO1 (pn : Nat) : Obj := .cells #[.string ⟨#[105]⟩, .slice (some ⟨pn, 0, none⟩) 1 1, .bool true] 81
theorem tab1 {u : World} {pc pn pi : Nat} (h1 : u.heap[pc]? = some colsO1) (h2 : u.heap[pn]? = some numO1) (h3 : u.heap[pi]? = some (idxO1 pn)) : TabV u (.slice (some ⟨pc, 0, none⟩) 2 2) (.slice (some ⟨pi, 0, none⟩) 1 1) T1 := by
  refine ⟨sliceAt_flat (en := enC) (n := 2) (L := T1.co) (cap := 2) (fun _ => rfl) h1 rfl (by decide) (by decide), [⟨⟨⟨#[105]⟩, [1], true⟩, .slice (some ⟨pn, 0, none⟩) 1 1⟩], sliceAt_flat (en := enX) (n := 3) (L := [⟨⟨⟨#[105]⟩, [1], true⟩, .slice (some ⟨pn, 0, none⟩) 1 1⟩]) (cap := 1) (fun _ => rfl) h3 rfl (by simp) (by decide), rfl, fun x hx => ?_⟩
  rw [List.mem_singleton.1 hx]
  exact sliceAt_flat (en := enI) (n := 1) (L := [1]) (cap := 1) (fun _ => rfl) h2 rfl (by decide) (by decide)
set_option maxHeartbeats 400000 in
theorem small_any (w : World) : Calls Tryz.prog 10 #[.bool true] w fun e w' => ∃ pc pi, e = .returned (.agg #[.string ⟨#[116]⟩, .slice (some ⟨pc, 0, none⟩) 2 2, .int .i64 1, .slice (some ⟨pi, 0, none⟩) 1 1]) ∧ Hid (TabV w' (.slice (some ⟨pc, 0, none⟩) 2 2) (.slice (some ⟨pi, 0, none⟩) 1 1) T1 ∧ Below w.heap.size w w') := by
  go_enter Tryz.func10, Tryz.ntmps10
  go_wp2
  obtain ⟨x, hx⟩ : ∃ x, w.heap.size = x := ⟨_, rfl⟩
  rw [hx]
  obtain ⟨w1, hw1⟩ : ∃ u, w.alloc (tabBox ⟨#[116]⟩ (some ⟨x + 1, 0, none⟩) 2 2 1 (some ⟨x + 1 + 1 + 1, 0, none⟩) 1 1) = u := ⟨_, rfl⟩
  obtain ⟨w2, hw2⟩ : ∃ u, w1.alloc colsO1 = u := ⟨_, rfl⟩
  obtain ⟨w3, hw3⟩ : ∃ u, w2.alloc numO1 = u := ⟨_, rfl⟩
  obtain ⟨w4, hw4⟩ : ∃ u, w3.alloc (idxO1 (x + 1 + 1)) = u := ⟨_, rfl⟩
  have z1 : w1.heap.size = x + 1 := by rw [← hw1, ← hx]; simp
  have z2 : w2.heap.size = x + 1 + 1 := by rw [← hw2]; simp; omega
  have z3 : w3.heap.size = x + 1 + 1 + 1 := by rw [← hw3]; simp; omega
  have a1 : w1.heap[x]? = some (tabBox ⟨#[116]⟩ (some ⟨x + 1, 0, none⟩) 2 2 1 (some ⟨x + 1 + 1 + 1, 0, none⟩) 1 1) := by rw [← hw1, ← hx]; exact heap_new w _
  have a2 : w2.heap[x + 1]? = some colsO1 := by rw [← hw2, ← z1]; exact heap_new w1 _
  have a3 : w3.heap[x + 1 + 1]? = some numO1 := by rw [← hw3, ← z2]; exact heap_new w2 _
  have a4 : w4.heap[x + 1 + 1 + 1]? = some (idxO1 (x + 1 + 1)) := by rw [← hw4, ← z3]; exact heap_new w3 _
  have b2 : ∀ i, i < w1.heap.size → w2.heap[i]? = w1.heap[i]? := fun i hi => by rw [← hw2]; exact Below.heap_alloc _ _ _ hi
  have b3 : ∀ i, i < w2.heap.size → w3.heap[i]? = w2.heap[i]? := fun i hi => by rw [← hw3]; exact Below.heap_alloc _ _ _ hi
  have b4 : ∀ i, i < w3.heap.size → w4.heap[i]? = w3.heap[i]? := fun i hi => by rw [← hw4]; exact Below.heap_alloc _ _ _ hi
  have t4 : w4.heap[x]? = some (tabBox ⟨#[116]⟩ (some ⟨x + 1, 0, none⟩) 2 2 1 (some ⟨x + 1 + 1 + 1, 0, none⟩) 1 1) := by rw [b4 x (by omega), b3 x (by omega), b2 x (by omega)]; exact a1
  have c4 : w4.heap[x + 1]? = some colsO1 := by rw [b4 _ (by omega), b3 _ (by omega)]; exact a2
  have n4 : w4.heap[x + 1 + 1]? = some numO1 := by rw [b4 _ (by omega)]; exact a3
  have hB : Below w.heap.size w w4 := by rw [← hw4, ← hw3, ← hw2, ← hw1]; exact bl_alloc (bl_alloc (bl_alloc (bl_alloc (Below.refl _ _) _) _) _) _
  rw [hx] at hB
  rw [hw1, hw2, hw3, hw4]
  obtain ⟨d0, d1, d2, d3⟩ := box_cells15 t4
  refine bodyPost_ret (by simp [results, Tryz.results10, go_sem, d0, d1, d2, d3]; rfl) rfl ?_
  exact ⟨x + 1, x + 1 + 1 + 1, rfl, tab1 c4 n4 a4, hB⟩

end Go.Proofs.YtfddmibaojfalaaGreat
