/- How layer 13's laws read their arguments: acts, and texts. -/
import Derived.Test.YtoknebbkpkcomaaProg
import Derived.Test.YtoknebbkpkcomaaOpen
import Derived.ProofKit
import Derived.OpenShut
import Derived.ChangeOld
import Derived.SizedLaws
namespace Go.Proofs.Ytoknebbkpkcomaa
open Go.ChangeShapes Go.WideShapes Go.ChangeAt Go.RowKit

theorem own : ownKnob Try.prog.godebug = none := by kernel_rfl
theorem laidOut : laidOutB Try.prog = true := by kernel_rfl
theorem cellsInt : Try.prog.cellsOf 3 = 1 := by kernel_rfl
theorem cellsStr : Try.prog.cellsOf 9 = 1 := by kernel_rfl

structure ActV where
  kind : Int
  key : ByteArray
  to : ByteArray
  num : Int
def ActV.en (x : ActV) : List Value := [.int .i64 x.kind, .string x.key, .string x.to, .int .i64 x.num]
structure ActV.Ok (x : ActV) : Prop where
  key : x.key.size ≤ reachBytes
  to : x.to.size ≤ reachBytes
  kind : -9223372036854775808 ≤ x.kind ∧ x.kind ≤ 9223372036854775807
  num : -9223372036854775808 ≤ x.num ∧ x.num ≤ 9223372036854775807

set_option maxRecDepth 100000 in
theorem act_of {H : Type} {ec : TypeId × Value → H} {W : World} {m : Nat} {spare : Nat → Bool} {cs : List Value} {y : DataW H × List MemPlace} (hlen : cs.length = 4) (ht : DataW.trod ec Try.prog W 0 spare true m 32 cs = some y) (hwy : ∀ n ∈ y.1.weights Try.prog 32, n ≤ reachBytes) :
    ∃ a : ActV, ActV.en a = cs ∧ a.Ok := by
  obtain ⟨y0, y1, y2, y3, k, ye, h0, h1, h2, h3⟩ := trod_struct4 Try.underlying32 ht
  have hw1 : ∀ n ∈ y1.1.weights Try.prog 9, n ≤ reachBytes := fun n hn => hwy n (by
    rw [ye]
    simp only [DataW.weights, Try.underlying32]
    exact DataW.weights_mem_each (j := 1) rfl rfl n hn)
  have hw2 : ∀ n ∈ y2.1.weights Try.prog 9, n ≤ reachBytes := fun n hn => hwy n (by
    rw [ye]
    simp only [DataW.weights, Try.underlying32]
    exact DataW.weights_mem_each (j := 2) rfl rfl n hn)
  match cs, hlen with
  | [v0, v1, v2, v3], _ =>
    simp only [cellsInt, cellsStr, List.drop_zero, List.drop_succ_cons, List.take_succ_cons, List.take_zero] at h0 h1 h2 h3
    obtain ⟨a, e0, _, wa⟩ := DataW.trod_int Try.underlying3 h0
    obtain ⟨b, e1, x1, _⟩ := DataW.trod_string Try.underlying9 h1
    obtain ⟨c, e2, x2, _⟩ := DataW.trod_string Try.underlying9 h2
    obtain ⟨d, e3, _, wd⟩ := DataW.trod_int Try.underlying3 h3
    have hds : b.size ≤ reachBytes := hw1 b.size (by rw [x1]; simp [DataW.weights])
    have hdt : c.size ≤ reachBytes := hw2 c.size (by rw [x2]; simp [DataW.weights])
    have ba := bounds_i64 wa
    have bd := bounds_i64 wd
    simp only [List.cons.injEq, and_true] at e0 e1 e2 e3
    exact ⟨⟨a, b, c, d⟩, by rw [e0, e1, e2, e3]; rfl, hds, hdt, by show -9223372036854775808 ≤ a ∧ a ≤ 9223372036854775807; omega, by show -9223372036854775808 ≤ d ∧ d ≤ 9223372036854775807; omega⟩

set_option maxRecDepth 100000 in
theorem acts_of {H : Type} {ec : TypeId × Value → H} {W : World} {fuel : Nat} {v : Value} {x : DataW H × List MemPlace} (hf : DataW.trod ec Try.prog W 0 (fun _ => true) true fuel 22 [v] = some x) (hw : ∀ n ∈ x.1.weights Try.prog 22, n ≤ reachBytes) :
    ∃ L : List ActV, SliceAt W v 4 ActV.en L ∧ ∀ a ∈ L, a.Ok := by
  refine open_rows Try.underlying22 (by kernel_rfl) (by omega) hf hw ActV.en ActV.Ok (fun m cs y hlen ht hwy => ?_)
  obtain ⟨a, h1, h2⟩ := act_of hlen ht hwy
  exact ⟨a, h1, h2⟩

def enS (x : ByteArray) : List Value := [.string x]
theorem strs_of {H : Type} {ec : TypeId × Value → H} {W : World} {fuel : Nat} {v : Value} {x : DataW H × List MemPlace} (hf : DataW.trod ec Try.prog W 0 (fun _ => true) true fuel 26 [v] = some x) (hw : ∀ n ∈ x.1.weights Try.prog 26, n ≤ reachBytes) :
    ∃ L : List ByteArray, SliceAt W v 1 enS L ∧ ∀ a ∈ L, a.size ≤ reachBytes := by
  refine open_rows Try.underlying26 (by kernel_rfl) (by omega) hf hw enS _ (fun m cs y _ ht hwy => ?_)
  obtain ⟨b, e1, x1, _⟩ := DataW.trod_string Try.underlying9 ht
  exact ⟨b, e1.symm, hwy b.size (by rw [x1]; simp [DataW.weights])⟩

end Go.Proofs.Ytoknebbkpkcomaa
