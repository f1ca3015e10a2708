/- Arguments that came in: pieces, calls. -/
import Derived.Test.YthfmppghdlniiaaProg
import Derived.Test.YthfmppghdlniiaaOpen
namespace Go.Proofs.Ythfmppghdlniiaa
open Go.ChangeShapes Go.WideShapes Go.ChangeAt Go.RowKit

theorem own : ownKnob Try.prog.godebug = none := by kernel_rfl
theorem laidOut : laidOutB Try.prog = true := by kernel_rfl
theorem cellsInt : Try.prog.cellsOf 3 = 1 := by kernel_rfl
theorem cellsStr : Try.prog.cellsOf 9 = 1 := by kernel_rfl

structure PieceV where
  side : Int
  data : ByteArray
  come : Int
  take : Int
def PieceV.en (x : PieceV) : List Value := [.int .i64 x.side, .string x.data, .int .i64 x.come, .int .i64 x.take]
def PieceV.Ok (x : PieceV) : Prop := x.data.size ≤ reachBytes

set_option maxRecDepth 100000 in
theorem pieces_of {H : Type} {ec : TypeId × Value → H} {W : World} {fuel : Nat} {v : Value} {x : DataW H × List MemPlace} (hf : DataW.trod ec Try.prog W 0 (fun _ => true) true fuel 32 [v] = some x) (hw : ∀ n ∈ x.1.weights Try.prog 32, n ≤ reachBytes) :
    ∃ L : List PieceV, SliceAt W v 4 PieceV.en L ∧ ∀ a ∈ L, a.Ok := by
  refine open_rows Try.underlying32 (by kernel_rfl) (by omega) hf hw PieceV.en PieceV.Ok (fun m cs y hlen ht hwy => ?_)
  obtain ⟨y0, y1, y2, y3, k, ye, h0, h1, h2, h3⟩ := trod_struct4 Try.underlying38 ht
  have hw1 : ∀ n ∈ y1.1.weights Try.prog 9, n ≤ reachBytes := fun n hn => hwy n (by
    rw [ye]
    simp only [DataW.weights, Try.underlying38]
    exact DataW.weights_mem_each (j := 1) rfl rfl n hn)
  match cs, hlen with
  | [v0, v1, v2, v3], _ =>
    simp only [cellsInt, cellsStr, List.drop_zero, List.drop_succ_cons, List.take_succ_cons, List.take_zero] at h0 h1 h2 h3
    obtain ⟨a, e0, _, _⟩ := DataW.trod_int Try.underlying3 h0
    obtain ⟨b, e1, x1, _⟩ := DataW.trod_string Try.underlying9 h1
    obtain ⟨c, e2, _, _⟩ := DataW.trod_int Try.underlying3 h2
    obtain ⟨d, e3, _, _⟩ := DataW.trod_int Try.underlying3 h3
    have hds : b.size ≤ reachBytes := hw1 b.size (by rw [x1]; simp [DataW.weights])
    simp only [List.cons.injEq, and_true] at e0 e1 e2 e3
    exact ⟨⟨a, b, c, d⟩, by rw [e0, e1, e2, e3]; rfl, hds⟩

structure ActV where
  kind : Int
  conn : Int
  side : Int
  num : Int
  data : ByteArray
def ActV.en (x : ActV) : List Value := [.int .i64 x.kind, .int .i64 x.conn, .int .i64 x.side, .int .i64 x.num, .string x.data]
structure ActV.Ok (x : ActV) : Prop where
  data : x.data.size ≤ reachBytes
  conn : -9223372036854775808 ≤ x.conn ∧ x.conn ≤ 9223372036854775807
  num : x.num ≤ 9223372036854775807

set_option maxRecDepth 100000 in
theorem acts_of {H : Type} {ec : TypeId × Value → H} {W : World} {fuel : Nat} {v : Value} {x : DataW H × List MemPlace} (hf : DataW.trod ec Try.prog W 0 (fun _ => true) true fuel 22 [v] = some x) (hw : ∀ n ∈ x.1.weights Try.prog 22, n ≤ reachBytes) :
    ∃ L : List ActV, SliceAt W v 5 ActV.en L ∧ ∀ a ∈ L, a.Ok := by
  refine open_rows Try.underlying22 (by kernel_rfl) (by omega) hf hw ActV.en ActV.Ok (fun m cs y hlen ht hwy => ?_)
  obtain ⟨y0, y1, y2, y3, y4, k, ye, h0, h1, h2, h3, h4⟩ := trod_struct5 Try.underlying29 ht
  have hw4 : ∀ n ∈ y4.1.weights Try.prog 9, n ≤ reachBytes := fun n hn => hwy n (by
    rw [ye]
    simp only [DataW.weights, Try.underlying29]
    exact DataW.weights_mem_each (j := 4) rfl rfl n hn)
  match cs, hlen with
  | [v0, v1, v2, v3, v4], _ =>
    simp only [cellsInt, cellsStr, List.drop_zero, List.drop_succ_cons, List.take_succ_cons, List.take_zero] at h0 h1 h2 h3 h4
    obtain ⟨a, e0, _, _⟩ := DataW.trod_int Try.underlying3 h0
    obtain ⟨b, e1, _, wb⟩ := DataW.trod_int Try.underlying3 h1
    obtain ⟨c, e2, _, _⟩ := DataW.trod_int Try.underlying3 h2
    obtain ⟨d, e3, _, wd⟩ := DataW.trod_int Try.underlying3 h3
    obtain ⟨f, e4, x4, _⟩ := DataW.trod_string Try.underlying9 h4
    have hds : f.size ≤ reachBytes := hw4 f.size (by rw [x4]; simp [DataW.weights])
    simp only [List.cons.injEq, and_true] at e0 e1 e2 e3 e4
    exact ⟨⟨a, b, c, d, f⟩, by rw [e0, e1, e2, e3, e4]; rfl, ⟨hds, bounds_i64 wb, (bounds_i64 wd).2⟩⟩

end Go.Proofs.Ythfmppghdlniiaa
