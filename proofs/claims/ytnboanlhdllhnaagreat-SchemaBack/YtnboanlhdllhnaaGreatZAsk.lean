/- mess: Ask of a request that creates a schema. -/
import Derived.Test.YtnboanlhdllhnaaGreatZWr3
import Derived.Deep.RegionHeld3
namespace Go.Proofs.YtnboanlhdllhnaaGreat
open Go.RowKit

theorem Stand.callF {I I' : World → (Nat → Prop) → Prop} {w wr : World} {L : List (Nat × Obj)} (h : Stand I w wr L) : ∃ F, I wr F ∧ (∀ i, F i → w.heap.size ≤ i) ∧ ∀ w', Goes I' wr w' F → Stand I' w w' L := by
  obtain ⟨F, h1, h2, h3, h4, h5⟩ := h
  refine ⟨F, h1, h2, fun w' hg => ?_⟩
  obtain ⟨F', g1, g2, g3⟩ := hg
  refine ⟨F', g1, fun i hi => ?_, fun p hp hF => ?_, fun p hp => ⟨(g2.block p.1 (lt_of (h4 p hp).1) (h3 p hp)).trans (h4 p hp).1, (h4 p hp).2⟩, h5.trans ((g2.mono h2).toBelow h5.size)⟩
  · rcases g3 i hi with h | h
    · exact h2 i h
    · exact Nat.le_trans h5.size h
  · rcases g3 _ hF with h | h
    · exact h3 p hp h
    · have := lt_of (h4 p hp).1; omega

set_option maxHeartbeats 400000 in
theorem inEpochs_zero (w : World) : Calls Tryz.prog 85 #[.int .i64 0] w fun e w' => e = .returned (.bool true) ∧ w' = w := by
  go_enter Tryz.func85, Tryz.ntmps85
  go_wp2
  go_ret
  exact ⟨rfl, rfl⟩
set_option maxHeartbeats 400000 in
theorem isRequest_five (w : World) : Calls Tryz.prog 65 #[.int .i64 5, .int .i64 0] w fun e w' => e = .returned (.bool true) ∧ w' = w := by
  go_enter Tryz.func65, Tryz.ntmps65
  go_wp2_with (go_at_call 85; go_must (refine (inEpochs_zero _).mono ?_; rintro e w' ⟨rfl, rfl⟩))
  go_ret
  exact ⟨rfl, rfl⟩

def eraseFn (k : Nat) : Value := .func (.func k) #[.agg #[]] #[]
def eraseFs : Value := .agg #[eraseFn 118, eraseFn 119, eraseFn 120, eraseFn 121, eraseFn 122]
def boundFn (k b : Nat) : Value := .func (.func k) #[.pointer (some ⟨b, 0, none⟩)] #[]
def writeFs (b : Nat) : Value := .agg #[boundFn 89 b, boundFn 90 b, boundFn 91 b, boundFn 92 b, boundFn 93 b]

theorem store_fn {P : Program} {w : World} {a : Addr} {m : Mode} (f : Fn) (x y : Array Value) : (store a (.func f x y) m).run P w = stored P w a (.func f x y) m := run_store P w a _ m rfl

set_option maxRecDepth 100000 in
set_option maxHeartbeats 1000000 in
theorem efields_any (w : World) : Calls Tryz.prog 86 #[.agg #[]] w fun e w' => e = .returned eraseFs ∧ Below w.heap.size w w' := by
  have hsf := @store_fn
  go_enter Tryz.func86, Tryz.ntmps86
  go_wp2
  refine bodyPost_ret (by simp [results, Tryz.results86, go_sem]; rfl) rfl ?_
  refine ⟨rfl, ?_⟩
  go_grown

set_option maxRecDepth 100000 in
set_option maxHeartbeats 1000000 in
theorem wfields_any (b : Nat) (w : World) : Calls Tryz.prog 68 #[.pointer (some ⟨b, 0, none⟩)] w fun e w' => e = .returned (writeFs b) ∧ Below w.heap.size w w' := by
  have hsf := @store_fn
  go_enter Tryz.func68, Tryz.ntmps68
  go_wp2
  refine bodyPost_ret (by simp [results, Tryz.results68, go_sem]; rfl) rfl ?_
  refine ⟨rfl, ?_⟩
  go_grown

set_option maxRecDepth 100000 in
set_option maxHeartbeats 1000000 in
theorem of_five (k0 k1 k2 k3 k4 : Nat) (a : Value) (w : World) :
    Calls Tryz.prog 69 #[.agg #[.func (.func k0) #[a] #[], .func (.func k1) #[a] #[], .func (.func k2) #[a] #[], .func (.func k3) #[a] #[], .func (.func k4) #[a] #[]], .int .i64 5] w fun e w' => ∃ g, e = .returned (.slice (some ⟨g, 0, none⟩) 1 1) ∧ w'.cell? ⟨g, 0, none⟩ = some (.func (.func k2) #[a] #[]) ∧ Hid (w.heap.size ≤ g ∧ g < w'.heap.size) ∧ Hid (Below w.heap.size w w') := by
  have hsf := @store_fn
  go_enter Tryz.func69, Tryz.ntmps69
  go_wp2
  go_ret
  refine ⟨_, rfl, ?_, ?_, ?_⟩
  · simp
  · show _ ∧ _
    simp
  · show Below _ _ _
    go_grown

end Go.Proofs.YtnboanlhdllhnaaGreat
