/- How layer 12's laws read their arguments: acts, and texts. -/
import Derived.Test.YtnnkflghnapnpaaProg
import Derived.Test.YtnnkflghnapnpaaOpen
import Derived.ProofKit
import Derived.OpenShut
import Derived.ChangeOld
import Derived.SizedLaws
namespace Go.Proofs.Ytnnkflghnapnpaa
open Go.ChangeShapes Go.WideShapes Go.ChangeAt Go.RowKit

theorem own : ownKnob Try.prog.godebug = none := by kernel_rfl
theorem laidOut : laidOutB Try.prog = true := by kernel_rfl
theorem cellsInt : Try.prog.cellsOf 3 = 1 := by kernel_rfl
theorem cellsStr : Try.prog.cellsOf 9 = 1 := by kernel_rfl

theorem trod_struct3' {H : Type} {enc : TypeId × Value → H} {P : Program} {w : World} {base : Nat} {spare : Nat → Bool} {held : Bool} {t : TypeId} {f0 f1 f2 : Field} {fuel : Nat} {cs : List Value} {x : DataW H × List MemPlace} (ht : P.underlying t = some (.struct #[f0, f1, f2])) (h : DataW.trod enc P w base spare held fuel t cs = some x) :
    ∃ y0 y1 y2 n, x.1 = .agg [y0.1, y1.1, y2.1] ∧ DataW.trod enc P w base spare held n f0.type ((cs.drop f0.offset).take (P.cellsOf f0.type)) = some y0 ∧ DataW.trod enc P w base spare held n f1.type ((cs.drop f1.offset).take (P.cellsOf f1.type)) = some y1 ∧ DataW.trod enc P w base spare held n f2.type ((cs.drop f2.offset).take (P.cellsOf f2.type)) = some y2 := by
  obtain ⟨xs, n, _, rfl, hl, hlen, hf⟩ := DataW.trod_struct ht h
  match xs, hlen with
  | [y0, y1, y2], _ => exact ⟨y0, y1, y2, n, rfl, by simpa using hf 0 f0 rfl, by simpa using hf 1 f1 rfl, by simpa using hf 2 f2 rfl⟩

structure ActV where
  kind : Int
  key : ByteArray
  value : Int
def ActV.en (x : ActV) : List Value := [.int .i64 x.kind, .string x.key, .int .i64 x.value]
structure ActV.Ok (x : ActV) : Prop where
  key : x.key.size ≤ reachBytes
  kind : -9223372036854775808 ≤ x.kind ∧ x.kind ≤ 9223372036854775807
  value : -9223372036854775808 ≤ x.value ∧ x.value ≤ 9223372036854775807

set_option maxRecDepth 100000 in
theorem acts_of {H : Type} {ec : TypeId × Value → H} {W : World} {fuel : Nat} {v : Value} {x : DataW H × List MemPlace} (hf : DataW.trod ec Try.prog W 0 (fun _ => true) true fuel 30 [v] = some x) (hw : ∀ n ∈ x.1.weights Try.prog 30, n ≤ reachBytes) :
    ∃ L : List ActV, SliceAt W v 3 ActV.en L ∧ ∀ a ∈ L, a.Ok := by
  refine open_rows Try.underlying30 (by kernel_rfl) (by omega) hf hw ActV.en ActV.Ok (fun m cs y hlen ht hwy => ?_)
  obtain ⟨y0, y1, y2, k, ye, h0, h1, h2⟩ := trod_struct3' Try.underlying36 ht
  have hw1 : ∀ n ∈ y1.1.weights Try.prog 9, n ≤ reachBytes := fun n hn => hwy n (by
    rw [ye]
    simp only [DataW.weights, Try.underlying36]
    exact DataW.weights_mem_each (j := 1) rfl rfl n hn)
  match cs, hlen with
  | [v0, v1, v2], _ =>
    simp only [cellsInt, cellsStr, List.drop_zero, List.drop_succ_cons, List.take_succ_cons, List.take_zero] at h0 h1 h2
    obtain ⟨a, e0, _, wa⟩ := DataW.trod_int Try.underlying3 h0
    obtain ⟨b, e1, x1, _⟩ := DataW.trod_string Try.underlying9 h1
    obtain ⟨c, e2, _, wc⟩ := DataW.trod_int Try.underlying3 h2
    have hds : b.size ≤ reachBytes := hw1 b.size (by rw [x1]; simp [DataW.weights])
    have ba := bounds_i64 wa
    have bc := bounds_i64 wc
    simp only [List.cons.injEq, and_true] at e0 e1 e2
    exact ⟨⟨a, b, c⟩, by rw [e0, e1, e2]; rfl, hds, by show -9223372036854775808 ≤ a ∧ a ≤ 9223372036854775807; omega, by show -9223372036854775808 ≤ c ∧ c ≤ 9223372036854775807; omega⟩

def enS (x : ByteArray) : List Value := [.string x]
theorem strs_of {H : Type} {ec : TypeId × Value → H} {W : World} {fuel : Nat} {v : Value} {x : DataW H × List MemPlace} (hf : DataW.trod ec Try.prog W 0 (fun _ => true) true fuel 51 [v] = some x) (hw : ∀ n ∈ x.1.weights Try.prog 51, n ≤ reachBytes) :
    ∃ L : List ByteArray, SliceAt W v 1 enS L ∧ ∀ a ∈ L, a.size ≤ reachBytes := by
  refine open_rows Try.underlying51 (by kernel_rfl) (by omega) hf hw enS _ (fun m cs y _ ht hwy => ?_)
  obtain ⟨b, e1, x1, _⟩ := DataW.trod_string Try.underlying9 ht
  exact ⟨b, e1.symm, hwy b.size (by rw [x1]; simp [DataW.weights])⟩

end Go.Proofs.Ytnnkflghnapnpaa
