/- How layer 13's laws read arguments by value: an act, the ends of a scan, a text. -/
import Derived.Test.YtoknebbkpkcomaaNArgs
namespace Go.Proofs.Ytoknebbkpkcomaa
open Go.ChangeShapes Go.WideShapes Go.ChangeAt Go.RowKit

theorem cellsAct : Try.prog.cellsOf 32 = 4 := by kernel_rfl
theorem cellsPart : Try.prog.cellsOf 56 = 3 := by kernel_rfl

abbrev ActV.agg (S : ActV) : Value := .agg #[.int .i64 S.kind, .string S.key, .string S.to, .int .i64 S.num]
set_option maxRecDepth 100000 in
theorem actV_of {H : Type} {ec : TypeId × Value → H} {W : World} {r : Reach} {base : Nat} {v : Value} {d : DataW H} {p : List MemPlace} (hval : Value.okWide Try.prog W r base 32 v) (h : DataW.Trod ec Try.prog W 0 (fun _ => true) true 32 v d p) :
    ∃ q : ActV, v = q.agg := by
  obtain ⟨cs, rfl, hsz⟩ := okWide_struct Try.underlying32 hval
  rw [cellsAct] at hsz
  obtain ⟨l⟩ := cs
  match l, hsz with
  | [c0, c1, c2, c3], _ =>
    obtain ⟨fuel, hf⟩ := h
    obtain ⟨y0, y1, y2, y3, k, ye, h0, h1, h2, h3⟩ := trod_struct4 Try.underlying32 hf
    simp only [Value.cells, cellsInt, cellsStr, List.drop_zero, List.drop_succ_cons, List.take_succ_cons, List.take_zero] at h0 h1 h2 h3
    obtain ⟨a, e0, _, _⟩ := DataW.trod_int Try.underlying3 h0
    obtain ⟨b, e1, _, _⟩ := DataW.trod_string Try.underlying9 h1
    obtain ⟨c, e2, _, _⟩ := DataW.trod_string Try.underlying9 h2
    obtain ⟨f, e3, _, _⟩ := DataW.trod_int Try.underlying3 h3
    simp only [List.cons.injEq, and_true] at e0 e1 e2 e3
    exact ⟨⟨a, b, c, f⟩, by rw [e0, e1, e2, e3]⟩

structure PartV where
  from_ : ByteArray
  to : ByteArray
  at_ : ByteArray
abbrev PartV.agg (S : PartV) : Value := .agg #[.string S.from_, .string S.to, .string S.at_]
theorem trod_struct3' {H : Type} {enc : TypeId × Value → H} {P : Program} {w : World} {base : Nat} {spare : Nat → Bool} {held : Bool} {t : TypeId} {f0 f1 f2 : Field} {fuel : Nat} {cs : List Value} {x : DataW H × List MemPlace} (ht : P.underlying t = some (.struct #[f0, f1, f2])) (h : DataW.trod enc P w base spare held fuel t cs = some x) :
    ∃ y0 y1 y2 n, x.1 = .agg [y0.1, y1.1, y2.1] ∧ DataW.trod enc P w base spare held n f0.type ((cs.drop f0.offset).take (P.cellsOf f0.type)) = some y0 ∧ DataW.trod enc P w base spare held n f1.type ((cs.drop f1.offset).take (P.cellsOf f1.type)) = some y1 ∧ DataW.trod enc P w base spare held n f2.type ((cs.drop f2.offset).take (P.cellsOf f2.type)) = some y2 := by
  obtain ⟨xs, n, _, rfl, hl, hlen, hf⟩ := DataW.trod_struct ht h
  match xs, hlen with
  | [y0, y1, y2], _ => exact ⟨y0, y1, y2, n, rfl, by simpa using hf 0 f0 rfl, by simpa using hf 1 f1 rfl, by simpa using hf 2 f2 rfl⟩
set_option maxRecDepth 100000 in
theorem partV_of {H : Type} {ec : TypeId × Value → H} {W : World} {r : Reach} {base : Nat} {v : Value} {d : DataW H} {p : List MemPlace} (hval : Value.okWide Try.prog W r base 56 v) (h : DataW.Trod ec Try.prog W 0 (fun _ => true) true 56 v d p) :
    ∃ q : PartV, v = q.agg := by
  obtain ⟨cs, rfl, hsz⟩ := okWide_struct Try.underlying56 hval
  rw [cellsPart] at hsz
  obtain ⟨l⟩ := cs
  match l, hsz with
  | [c0, c1, c2], _ =>
    obtain ⟨fuel, hf⟩ := h
    obtain ⟨y0, y1, y2, k, ye, h0, h1, h2⟩ := trod_struct3' Try.underlying56 hf
    simp only [Value.cells, cellsStr, List.drop_zero, List.drop_succ_cons, List.take_succ_cons, List.take_zero] at h0 h1 h2
    obtain ⟨a, e0, _, _⟩ := DataW.trod_string Try.underlying9 h0
    obtain ⟨b, e1, _, _⟩ := DataW.trod_string Try.underlying9 h1
    obtain ⟨c, e2, _, _⟩ := DataW.trod_string Try.underlying9 h2
    simp only [List.cons.injEq, and_true] at e0 e1 e2
    exact ⟨⟨a, b, c⟩, by rw [e0, e1, e2]⟩
set_option maxRecDepth 100000 in
theorem strV_of {W : World} {r : Reach} {base : Nat} {v : Value} (hval : Value.okWide Try.prog W r base 9 v) : ∃ b, v = .string b := okWide_string Try.underlying9 hval

end Go.Proofs.Ytoknebbkpkcomaa
