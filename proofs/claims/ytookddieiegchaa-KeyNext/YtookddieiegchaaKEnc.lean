/- The keys of the chapter's two examples. -/
import Derived.Test.YtookddieiegchaaKNum
namespace Go.Proofs.Ytookddieiegchaa
open Go.RowKit

def five : List Int := [128, 0, 0, 0, 0, 0, 0, 5]

theorem five_at : ∀ j, j < 8 → five[j]? = some (9223372036854775813 / 2 ^ (56 - 8 * j) % 256) := by decide

/-- what was just laid is still there behind the first byte -/
theorem box_cells {w w1 : World} {base : Nat} {out : Value} {L : List Int} {k n : Int} {t : ByteArray} (ho : Own w base out L)
    (hk : ∀ g, g < w.heap.size + 1 → some g ≠ out.ownBlock → w1.heap[g]? = (w.alloc (.cells #[.int .i64 k, .int .i64 n, .complex .f64 0 0, .string t] 30)).heap[g]?) :
    w1.cell? ⟨w.heap.size, 0, none⟩ = some (.int .i64 k) ∧ w1.cell? ⟨w.heap.size, 1, none⟩ = some (.int .i64 n) ∧ w1.cell? ⟨w.heap.size, 3, none⟩ = some (.string t) := by
  have h := hk w.heap.size (by simp) (fun e => by
    have := (World.ownsRow.lt ho _ e.symm).2
    omega)
  refine ⟨?_, ?_, ?_⟩
  · rw [World.cell?_of_block h]; simp
  · rw [World.cell?_of_block h]; simp
  · rw [World.cell?_of_block h]; simp

set_option maxRecDepth 100000 in
set_option maxHeartbeats 1000000 in
theorem value_int (base : Nat) (out : Value) (L : List Int) (w : World) (hL : L.length ≤ 900) (ho : Own w base out L) (hbase : base ≤ w.heap.size) :
    Calls Try.prog 8 #[out, val 2 5 ByteArray.empty] w fun e w' => ∃ v, e = .returned v ∧ Own w' base v (L ++ [3] ++ five) ∧ Below base w w' := by
  have HO : Hid (Own w base out L) := ho
  clear ho
  unfold val
  go_enter Try.func8, Try.ntmps8
  go_wp2_with (at_builtin; go_must (refine wpList_bytes rfl _ _ rfl base out L _ [3] 1 #[.int .u8 3] rfl rfl rfl (World.ownsRow.alloc HO.out _) (w.heap.size + 1) (by simp) rfl (by omega) (by simp; omega) ?_))
  intro v1 w1 ho1 hb1 _ hk1 hs1
  obtain ⟨c0, c1, -⟩ := box_cells HO.out hk1
  obtain ⟨X, hX⟩ : ∃ X, L ++ [3] = X := ⟨_, rfl⟩
  rw [hX] at ho1
  have HX : Hid (L ++ [3] = X) := hX
  have HR : Hid (Own w1 base v1 X) := ho1
  have hXl : X.length ≤ 1000 := by rw [← hX]; simp; omega
  have hs2 : base ≤ w1.heap.size := by omega
  have HB : Hid (Below base w w1) := ((Below.refl base w).alloc hbase _).trans hb1
  clear ho1 hX hk1 hs1 hb1
  go_wp2_with (go_at_call 10; refine (number_any 9223372036854775813 five base v1 X w1 rfl hXl HR.out hs2 five_at).mono ?_; rintro e w2 ⟨v2, rfl, ho2, hb2⟩)
  go_ret
  refine ⟨_, rfl, ?_, HB.out.trans hb2⟩
  rw [HX.out]
  exact ho2

set_option maxRecDepth 100000 in
set_option maxHeartbeats 1000000 in
theorem value_text (s : ByteArray) (hs : s.size ≤ 4096) (base : Nat) (out : Value) (L : List Int) (w : World) (hL : L.length ≤ 900) (ho : Own w base out L) (hbase : base ≤ w.heap.size) :
    Calls Try.prog 8 #[out, val 5 0 s] w fun e w' => ∃ v, e = .returned v ∧ Own w' base v (L ++ [6] ++ turned s.data.toList ++ [0, 1]) ∧ Below base w w' := by
  have HO : Hid (Own w base out L) := ho
  clear ho
  unfold val
  go_enter Try.func8, Try.ntmps8
  go_wp2_with (at_builtin; go_must (refine wpList_bytes rfl _ _ rfl base out L _ [6] 1 #[.int .u8 6] rfl rfl rfl (World.ownsRow.alloc HO.out _) (w.heap.size + 1) (by simp) rfl (by omega) (by simp; omega) ?_))
  intro v1 w1 ho1 hb1 _ hk1 hs1
  obtain ⟨c0, -, c3⟩ := box_cells HO.out hk1
  obtain ⟨X, hX⟩ : ∃ X, L ++ [6] = X := ⟨_, rfl⟩
  rw [hX] at ho1
  have HX : Hid (L ++ [6] = X) := hX
  have HR : Hid (Own w1 base v1 X) := ho1
  have hXl : X.length ≤ 1000 := by rw [← hX]; simp; omega
  have hs2 : base ≤ w1.heap.size := by omega
  have HB : Hid (Below base w w1) := ((Below.refl base w).alloc hbase _).trans hb1
  clear ho1 hX hk1 hs1 hb1
  go_wp2_with (go_at_call 12; refine (text_any s base v1 X w1 hs hXl HR.out hs2).mono ?_; rintro e w2 ⟨v2, rfl, ho2, hb2⟩)
  go_ret
  refine ⟨_, rfl, ?_, HB.out.trans hb2⟩
  rw [HX.out]
  exact ho2

end Go.Proofs.Ytookddieiegchaa
