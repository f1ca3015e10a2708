/- Slices that a call lays itself; works. -/
import Derived.Test.YtibgpjokdpagcaaWRunB
namespace Go.Proofs.Ytibgpjokdpagcaa
open Go.RowKit

/-- a block's beginning read as a slice -/
theorem sliceAt_flat {α : Type} {en : α → List Value} {n : Nat} (hm : ∀ g, (en g).length = n) {W : World} {b : Nat} {cur : Array Value} {t : TypeId} {fz : Nat × Nat} {L : List α} {cap : Nat} (hb : W.heap[b]? = some (.cells cur t fz)) (hc : cur.toList.take (L.length * n) = flat en L) (h1 : L.length ≤ cap) (h2 : cap ≤ maxLen) :
    SliceAt W (.slice (some ⟨b, 0, none⟩) L.length cap) n en L := by
  refine ⟨_, cap, rfl, h1, h2, fun _ => ⟨b, 0, rfl, lt_of hb, fun i hi j u hu => ?_⟩⟩
  have hj : j < n := by rw [← hm L[i]]; exact (List.getElem?_eq_some_iff.1 hu).1
  have h3 := flat_get hm L i hi j hj
  rw [← hc, hu] at h3
  have hlt : n * i + j < L.length * n := by
    have h4 : n * (i + 1) ≤ n * L.length := Nat.mul_le_mul_left _ hi
    rw [Nat.mul_add] at h4
    rw [Nat.mul_comm L.length n]
    omega
  rw [List.getElem?_take_of_lt hlt] at h3
  rw [cell_of hb, ← Array.getElem?_toList, Nat.zero_add, Nat.mul_comm i n]
  exact h3

theorem repG_c {w : World} {h g2 g3 : Nat} {c : List Int} {R : List (List Int)} {D : List Bool} (hR : RepG w h g2 g3 c R D) {w' : World} (hb : Below w.heap.size w w') {i : Nat} (hi : i < c.length) : w'.cell? ⟨h, i, none⟩ = some (.int .u64 (c.getD i 0)) := by
  obtain ⟨cur, hcu, hcl⟩ := hR.c
  rw [hb.cell (p := ⟨h, i, none⟩) (lt_of hcu), cell_of hcu, ← Array.getElem?_toList, hcl]
  exact ucells_get hi
theorem repG_r {w : World} {h g2 g3 : Nat} {c : List Int} {R : List (List Int)} {D : List Bool} (hR : RepG w h g2 g3 c R D) {w' : World} (hb : Below w.heap.size w w') {t i : Nat} (ht : t < R.length) (hi : i < 8) : w'.cell? ⟨g2, t * 8 + i, none⟩ = (r8 R[t])[i]? := by
  obtain ⟨cur, hcu, hcl⟩ := hR.r
  rw [hb.cell (p := ⟨g2, t * 8 + i, none⟩) (lt_of hcu), cell_of hcu, ← Array.getElem?_toList, hcl, Nat.mul_comm t 8]
  exact flat_get r8_len R t ht i hi
theorem repG_d {w : World} {h g2 g3 : Nat} {c : List Int} {R : List (List Int)} {D : List Bool} (hR : RepG w h g2 g3 c R D) {w' : World} (hb : Below w.heap.size w w') {t : Nat} (ht : t < D.length) : w'.cell? ⟨g3, t, none⟩ = some (.bool D[t]) := by
  obtain ⟨cur, hcu, hcl⟩ := hR.d
  rw [hb.cell (p := ⟨g3, t, none⟩) (lt_of hcu), cell_of hcu, ← Array.getElem?_toList, hcl]
  have := flat_get (en := bcell) (m := 1) (fun _ => rfl) D t ht 0 (by omega)
  rw [Nat.one_mul, Nat.add_zero] at this
  exact this

namespace Works
def one : List InsV := [⟨4, 0, 0, 0⟩, ⟨3, 1, 0, 1⟩, ⟨6, 0, 1, 0⟩]
def end_ : Sys := ⟨[⟨[1, 1, 0, 0, 0, 0, 0, 0], 3⟩, ⟨[0, 1, 0, 0, 0, 0, 0, 0], 3⟩], [1], 4⟩
theorem runs : (Sys.start [one, one] [0]).run [one, one] [0, 1, 0, 1] = end_ := by kernel_rfl
theorem noE : runE [one, one] 1 [0, 1, 0, 1] = 0 := by kernel_rfl
end Works

theorem words_one {z : Int} (h : 0 ≤ z ∧ z < two64) : Words [z] := ⟨fun x hx => by rw [List.mem_singleton.1 hx]; exact h⟩

abbrev oIns : Obj := .cells #[.int .i64 4, .int .i64 0, .int .i64 0, .int .i64 0, .int .i64 3, .int .i64 1, .int .i64 0, .int .i64 1, .int .i64 6, .int .i64 0, .int .i64 1, .int .i64 0] 53
abbrev oTask (b : Nat) : Obj := .cells #[.slice (some ⟨b, 0, none⟩) 3 3, .slice (some ⟨b, 0, none⟩) 3 3] 43
abbrev oCell : Obj := .cells #[.int .u64 0] 38
abbrev oPick : Obj := .cells #[.int .i64 0, .int .i64 1, .int .i64 0, .int .i64 1] 3

theorem works_run (w : World) : Calls Try.prog 13 #[.slice (some ⟨w.heap.size + 1, 0, none⟩) 2 2, .slice (some ⟨w.heap.size + 1 + 1, 0, none⟩) 1 1, .slice (some ⟨w.heap.size + 1 + 1 + 1, 0, none⟩) 4 4] ((((w.alloc oIns).alloc (oTask w.heap.size)).alloc oCell).alloc oPick) fun e w' =>
    ∃ h g2 g3, e = .returned (.tuple #[repV h 1 g2 g3 2 4, .int .i64 0]) ∧ RepG w' h g2 g3 [1] [[1, 1, 0, 0, 0, 0, 0, 0], [0, 1, 0, 0, 0, 0, 0, 0]] [true, true] ∧ Below w.heap.size w w' := by
  obtain ⟨W, hW⟩ : ∃ W, (((w.alloc oIns).alloc (oTask w.heap.size)).alloc oCell).alloc oPick = W := ⟨_, rfl⟩
  have b0 : W.heap[w.heap.size]? = some oIns := hW ▸ four_heap w oIns (oTask w.heap.size) oCell oPick _ (Or.inl ⟨rfl, rfl⟩)
  have b1 : W.heap[w.heap.size + 1]? = some (oTask w.heap.size) := hW ▸ four_heap w oIns (oTask w.heap.size) oCell oPick _ (Or.inr (Or.inl ⟨rfl, rfl⟩))
  have b2 : W.heap[w.heap.size + 1 + 1]? = some oCell := hW ▸ four_heap w oIns (oTask w.heap.size) oCell oPick _ (Or.inr (Or.inr (Or.inl ⟨rfl, rfl⟩)))
  have b3 : W.heap[w.heap.size + 1 + 1 + 1]? = some oPick := hW ▸ four_heap w oIns (oTask w.heap.size) oCell oPick _ (Or.inr (Or.inr (Or.inr ⟨rfl, rfl⟩)))
  have hB : Below w.heap.size w W := hW ▸ (((((Below.refl _ _).alloc (Nat.le_refl _) oIns).alloc (by simp) (oTask w.heap.size)).alloc (by simp; omega) oCell).alloc (by simp; omega) oPick)
  rw [hW]
  have hI : SliceAt W (.slice (some ⟨w.heap.size, 0, none⟩) 3 3) 4 InsV.en Works.one := sliceAt_flat (en := InsV.en) (n := 4) (cap := 3) (L := Works.one) (fun _ => rfl) b0 rfl (by decide) (by decide)
  have hT : TasksAt W (.slice (some ⟨w.heap.size + 1, 0, none⟩) 2 2) [⟨.slice (some ⟨w.heap.size, 0, none⟩) 3 3, Works.one⟩, ⟨.slice (some ⟨w.heap.size, 0, none⟩) 3 3, Works.one⟩] :=
    ⟨sliceAt_flat (en := fun t : TaskV => [t.v]) (n := 1) (cap := 2) (L := [⟨.slice (some ⟨w.heap.size, 0, none⟩) 3 3, Works.one⟩, ⟨.slice (some ⟨w.heap.size, 0, none⟩) 3 3, Works.one⟩]) (fun _ => rfl) b1 rfl (by simp) (by simp [maxLen]), fun t ht => by
      simp only [List.mem_cons, List.not_mem_nil, or_false, or_self] at ht
      subst ht
      exact hI⟩
  have hC : WordsAt W (.slice (some ⟨w.heap.size + 1 + 1, 0, none⟩) 1 1) [0] := sliceAt_flat (en := fun x : Int => [Value.int .u64 x]) (n := 1) (cap := 1) (L := [(0 : Int)]) (fun _ => rfl) b2 rfl (by decide) (by decide)
  have hP : IntsAt W (.slice (some ⟨w.heap.size + 1 + 1 + 1, 0, none⟩) 4 4) [0, 1, 0, 1] := sliceAt_flat (en := fun x : Int => [Value.int .i64 x]) (n := 1) (cap := 4) (L := [(0 : Int), 1, 0, 1]) (fun _ => rfl) b3 rfl (by decide) (by decide)
  refine (run_ok hT hC (words_one (by decide)) hP Works.noE Works.runs).mono ?_
  rintro e w' ⟨h, g2, g3, rfl, hR, _, hb⟩
  exact ⟨h, g2, g3, rfl, hR, hB.trans (hb.mono hB.size)⟩

set_option maxRecDepth 100000 in
set_option maxHeartbeats 400000 in
theorem works_any (w : World) : Calls Try.prog 18 #[] w fun e w' => e = .returned (.bool true) ∧ Below w.heap.size w w' := by
  go_enter Try.func18, Try.ntmps18
  go_wp2_with fail
  refine (works_run w).mono ?_
  rintro e w1 ⟨h, g2, g3, rfl, hR, hb⟩
  have HB : Hid (Below w.heap.size w (w1.alloc (.cells #[.slice (some ⟨h, 0, none⟩) 1 1, .slice (some ⟨g2, 0, none⟩) 2 2, .slice (some ⟨g3, 0, none⟩) 2 2, .int .i64 4] 34))) := hb.alloc hb.size _
  have hbb : Below w1.heap.size w1 (w1.alloc (.cells #[.slice (some ⟨h, 0, none⟩) 1 1, .slice (some ⟨g2, 0, none⟩) 2 2, .slice (some ⟨g3, 0, none⟩) 2 2, .int .i64 4] 34)) := (Below.refl _ _).alloc (Nat.le_refl _) _
  have c0 := repG_c hR hbb (i := 0) (by decide)
  have c1 := repG_r hR hbb (t := 0) (i := 0) (by decide) (by decide)
  have c2 := repG_r hR hbb (t := 1) (i := 0) (by decide) (by decide)
  clear hR hb hbb
  have d0 : (w1.alloc (.cells #[.slice (some ⟨h, 0, none⟩) 1 1, .slice (some ⟨g2, 0, none⟩) 2 2, .slice (some ⟨g3, 0, none⟩) 2 2, .int .i64 4] 34)).cell? ⟨h, 0, none⟩ = some (.int .u64 1) := c0
  have d1 : (w1.alloc (.cells #[.slice (some ⟨h, 0, none⟩) 1 1, .slice (some ⟨g2, 0, none⟩) 2 2, .slice (some ⟨g3, 0, none⟩) 2 2, .int .i64 4] 34)).cell? ⟨g2, 0, none⟩ = some (.int .u64 1) := c1
  have d2 : (w1.alloc (.cells #[.slice (some ⟨h, 0, none⟩) 1 1, .slice (some ⟨g2, 0, none⟩) 2 2, .slice (some ⟨g3, 0, none⟩) 2 2, .int .i64 4] 34)).cell? ⟨g2, 8, none⟩ = some (.int .u64 0) := c2
  clear c0 c1 c2
  go_wp2_with fail
  go_ret
  exact ⟨rfl, HB.out⟩

end Go.Proofs.Ytibgpjokdpagcaa
