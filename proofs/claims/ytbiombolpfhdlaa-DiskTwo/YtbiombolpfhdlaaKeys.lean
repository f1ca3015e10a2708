/- Names: the files' names, in their order. -/
import Derived.Test.YtbiombolpfhdlaaSync
namespace Go.Proofs.Ytbiombolpfhdlaa
open Go.RowKit Go.Maps Go.Sort Go.Shelf

set_option maxHeartbeats 1000000 in
theorem names_any {d m : Nat} {G : List (List UInt8 × Gc)} {s : Dk.Dsk} (w : World) (h : DiskG Try.prog w d m G s) :
    Calls Try.prog 34 #[.pointer (some ⟨d, 0, none⟩)] w fun e w' => ∃ v, e = .returned v ∧ w'.ownsRow w.heap.size 9 1 v G.length ((Dk.keysL G).map encStr) ∧ Below w.heap.size w w' := by
  obtain ⟨c0, -, -, -⟩ := h.cells
  have hfew := h.few
  have hsz : Maps.size (Dk.toD tok G) = G.length := Dk.toD_size tok G
  have hmax : Maps.size (Dk.toD tok G) ≤ maxLen := by rw [hsz]; unfold maxLen; omega
  have hbytes : Maps.size (Dk.toD tok G) * 16 ≤ 140737488355328 := by rw [hsz]; omega
  have cS := Try.slices_Sorted_keys_48_49 m _ _ ptrR w h.map hmax hbytes
  have HS : Hid (Maps.size (Dk.toD tok G) = G.length) := hsz
  have HR : Hid (Dk.Rise G) := h.rise
  have HC : Hid (w.cell? ⟨d, 0, none⟩ = some (.map (some m))) := c0
  clear hsz hmax hbytes hfew h
  refine (callsIn_wide (n := 6)).1 ?_
  have hfK : Fence.wide.fn 49 := trivial
  have hfS : Fence.wide.fn 48 := trivial
  refine callsIn_of_wp Try.func34 rfl trivial ?_ rfl
  simp only [Try.ntmps34, List.size_toArray, List.length_cons, List.length_nil, Nat.reduceAdd, Nat.reduceSub, Array.replicate_succ, Array.replicate_zero, List.push_toArray, List.append_toArray, List.nil_append, List.cons_append]
  gi_wp2_with (first
    | (gi_at_call 49; refine (Try.maps_Keys_49 _ _).mono ?_; rintro e w' ⟨rfl, rfl⟩)
    | (gi_at_call 48; refine cS.mono ?_; rintro e w' ⟨v, ss, rfl, hS, hrow, hnil, hb⟩))
  go_ret
  refine ⟨v, rfl, ?_, ((Below.refl _ w).alloc (Nat.le_refl _) _).trans (hb.mono (by simp))⟩
  have e1 : ss.mergeSort (fun x y => decide (x ≤ y)) = Dk.keysL G := by
    have := mergeSort_of_perm hS
    rw [Dk.toD_keys, Dk.rise_keys HR.out] at this
    exact this
  have e2 : ss.length = G.length := by
    have := hS.length_eq
    rw [Dk.toD_keys] at this
    rw [this]
    unfold Dk.keysL
    simp
  rw [e1, e2] at hrow
  exact ownsRow_base_a hrow (by simp)

end Go.Proofs.Ytbiombolpfhdlaa
