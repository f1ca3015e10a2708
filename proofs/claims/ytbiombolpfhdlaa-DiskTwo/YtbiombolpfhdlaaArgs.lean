/- Arguments that came in: slices of numbers as draws. -/
import Derived.Test.YtbiombolpfhdlaaHas
import Derived.ProofKit
import Derived.OpenShut
import Derived.ShutString
import Derived.ChangeOld
import Derived.Lib.SmallJoins
namespace Go.Proofs.Ytbiombolpfhdlaa
open Go.ChangeShapes Go.WideShapes Go.ChangeAt Go.RowKit Go.Joins

theorem own : ownKnob Try.prog.godebug = none := by kernel_rfl
theorem laidOut : laidOutB Try.prog = true := by kernel_rfl

theorem draws_of {H : Type} {enc : TypeId × Value → H} {W : World} {fuel : Nat} {v : Value} {x : DataW H × List MemPlace} (hf : DataW.trod enc Try.prog W 0 (fun _ => true) true fuel 29 [v] = some x) :
    ∃ a ds c, v = .slice a ds.length c ∧ DrawsAt W (fun i => W.heap.size ≤ i) (.slice a ds.length c) ds := by
  rcases open_ints Try.underlying29 Try.underlying3 (by kernel_rfl) hf with ⟨hcs, _⟩ | ⟨a, l, c, zs, hcs, _, hl, hm, hz, _, hcell, hwz⟩
  · obtain rfl : v = .slice none 0 0 := by simpa using hcs
    exact ⟨none, [], 0, rfl, none, 0, rfl, Nat.le_refl _, Nat.zero_le _, fun h => absurd rfl h, by simp⟩
  · have hz : zs.length = c := by simpa using hz
    have hlen : (zs.take l).length = l := by simp; omega
    obtain rfl : v = .slice (some a) l c := by simpa using hcs
    refine ⟨some a, zs.take l, c, by rw [hlen], some a, c, rfl, by rw [hlen]; exact hl, hm, fun hne => ?_, fun y hy => (bounds_i64 (hwz y (List.mem_of_mem_take hy))).2⟩
    have hpos : 0 < l := by
      rw [← hlen]
      exact List.length_pos_iff.2 hne
    obtain ⟨b, off, rfl, hc⟩ := ints_at hcell (by omega)
    have hb : b < W.heap.size := by
      have h0 := hc 0 (by omega)
      unfold World.cell? at h0
      cases hh : W.heap[b]? with
      | none => simp [hh] at h0
      | some o => exact lt_of hh
    refine ⟨b, off, rfl, hb, by omega, fun i hi => ?_⟩
    rw [hlen] at hi
    rw [hc i (by omega)]
    simp [List.getD, hi]

end Go.Proofs.Ytbiombolpfhdlaa
