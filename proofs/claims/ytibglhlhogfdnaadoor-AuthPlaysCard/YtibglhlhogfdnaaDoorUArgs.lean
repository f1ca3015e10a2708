/- How layer 25's laws read their arguments: acts, texts, a text, a lie and two draws by value. -/
import Derived.Test.YtibglhlhogfdnaaDoorUPlaysL
import Derived.Test.YtibglhlhogfdnaaDoorUNamesL
import Derived.Test.YtibglhlhogfdnaaDoorOpen
import Derived.ProofKit
import Derived.OpenShut
import Derived.ShutString
import Derived.ChangeOld
import Derived.SizedLaws
namespace Go.Proofs.YtibglhlhogfdnaaDoor
open Go.ChangeShapes Go.WideShapes Go.ChangeAt Go.RowKit

theorem own : ownKnob Tryd.prog.godebug = none := by kernel_rfl
theorem laidOut : laidOutB Tryd.prog = true := by kernel_rfl
theorem cellsInt : Tryd.prog.cellsOf 3 = 1 := by kernel_rfl
theorem cellsStr : Tryd.prog.cellsOf 9 = 1 := by kernel_rfl
theorem cellsU64 : Tryd.prog.cellsOf 29 = 1 := by kernel_rfl
theorem cellsU8 : Tryd.prog.cellsOf 5 = 1 := by kernel_rfl
theorem cellsLie : Tryd.prog.cellsOf 44 = 3 := by kernel_rfl
theorem cellsTwo : Tryd.prog.cellsOf 48 = 3 := by kernel_rfl

theorem trod_struct3' {H : Type} {enc : TypeId × Value → H} {P : Program} {w : World} {base : Nat} {spare : Nat → Bool} {held : Bool} {t : TypeId} {f0 f1 f2 : Field} {fuel : Nat} {cs : List Value} {x : DataW H × List MemPlace} (ht : P.underlying t = some (.struct #[f0, f1, f2])) (h : DataW.trod enc P w base spare held fuel t cs = some x) :
    ∃ y0 y1 y2 n, x.1 = .agg [y0.1, y1.1, y2.1] ∧ DataW.trod enc P w base spare held n f0.type ((cs.drop f0.offset).take (P.cellsOf f0.type)) = some y0 ∧ DataW.trod enc P w base spare held n f1.type ((cs.drop f1.offset).take (P.cellsOf f1.type)) = some y1 ∧ DataW.trod enc P w base spare held n f2.type ((cs.drop f2.offset).take (P.cellsOf f2.type)) = some y2 := by
  obtain ⟨xs, n, _, rfl, hl, hlen, hf⟩ := DataW.trod_struct ht h
  match xs, hlen with
  | [y0, y1, y2], _ => exact ⟨y0, y1, y2, n, rfl, by simpa using hf 0 f0 rfl, by simpa using hf 1 f1 rfl, by simpa using hf 2 f2 rfl⟩
theorem trod_struct6 {H : Type} {enc : TypeId × Value → H} {P : Program} {w : World} {base : Nat} {spare : Nat → Bool} {held : Bool} {t : TypeId} {f0 f1 f2 f3 f4 f5 : Field} {fuel : Nat} {cs : List Value} {x : DataW H × List MemPlace} (ht : P.underlying t = some (.struct #[f0, f1, f2, f3, f4, f5])) (h : DataW.trod enc P w base spare held fuel t cs = some x) :
    ∃ y0 y1 y2 y3 y4 y5 n, DataW.trod enc P w base spare held n f0.type ((cs.drop f0.offset).take (P.cellsOf f0.type)) = some y0 ∧ DataW.trod enc P w base spare held n f1.type ((cs.drop f1.offset).take (P.cellsOf f1.type)) = some y1 ∧
      DataW.trod enc P w base spare held n f2.type ((cs.drop f2.offset).take (P.cellsOf f2.type)) = some y2 ∧ DataW.trod enc P w base spare held n f3.type ((cs.drop f3.offset).take (P.cellsOf f3.type)) = some y3 ∧ DataW.trod enc P w base spare held n f4.type ((cs.drop f4.offset).take (P.cellsOf f4.type)) = some y4 ∧ DataW.trod enc P w base spare held n f5.type ((cs.drop f5.offset).take (P.cellsOf f5.type)) = some y5 := by
  obtain ⟨xs, n, _, rfl, hl, hlen, hf⟩ := DataW.trod_struct ht h
  match xs, hlen with
  | [y0, y1, y2, y3, y4, y5], _ => exact ⟨y0, y1, y2, y3, y4, y5, n, by simpa using hf 0 f0 rfl, by simpa using hf 1 f1 rfl, by simpa using hf 2 f2 rfl, by simpa using hf 3 f3 rfl, by simpa using hf 4 f4 rfl, by simpa using hf 5 f5 rfl⟩

theorem as_nat {a : Int} (h : 0 ≤ a ∧ a ≤ 18446744073709551615) : ∃ n : Nat, a = (n : Int) ∧ n < 18446744073709551616 := ⟨a.toNat, by omega, by omega⟩
theorem as_byte {a : Int} (h : 0 ≤ a ∧ a ≤ 255) : ∃ n : Nat, a = (n : Int) ∧ n < 256 := ⟨a.toNat, by omega, by omega⟩

set_option maxRecDepth 100000 in
theorem acts_of {H : Type} {ec : TypeId × Value → H} {W : World} {fuel : Nat} {v : Value} {x : DataW H × List MemPlace} (hf : DataW.trod ec Tryd.prog W 0 (fun _ => true) true fuel 22 [v] = some x) (hw : ∀ n ∈ x.1.weights Tryd.prog 22, n ≤ reachBytes) :
    ∃ L : List ActV, SliceAt W v 6 ActV.en L ∧ ∀ a ∈ L, a.draw < 18446744073709551616 := by
  refine open_rows Tryd.underlying22 (by kernel_rfl) (by omega) hf hw ActV.en (fun a => a.draw < 18446744073709551616) (fun m cs y hlen ht hwy => ?_)
  obtain ⟨y0, y1, y2, y3, y4, y5, k, h0, h1, h2, h3, h4, h5⟩ := trod_struct6 Tryd.underlying31 ht
  match cs, hlen with
  | [v0, v1, v2, v3, v4, v5], _ =>
    simp only [cellsInt, cellsStr, cellsU64, List.drop_zero, List.drop_succ_cons, List.take_succ_cons, List.take_zero] at h0 h1 h2 h3 h4 h5
    obtain ⟨a, e0, _, _⟩ := DataW.trod_int Tryd.underlying3 h0
    obtain ⟨b, e1, _, _⟩ := DataW.trod_string Tryd.underlying9 h1
    obtain ⟨c, e2, _, _⟩ := DataW.trod_string Tryd.underlying9 h2
    obtain ⟨d, e3, _, _⟩ := DataW.trod_string Tryd.underlying9 h3
    obtain ⟨e, e4, _, we⟩ := DataW.trod_int Tryd.underlying29 h4
    obtain ⟨f, e5, _, _⟩ := DataW.trod_int Tryd.underlying3 h5
    obtain ⟨e', he, hl⟩ := as_nat (bounds_u64 we)
    simp only [List.cons.injEq, and_true] at e0 e1 e2 e3 e4 e5
    exact ⟨⟨a, b, c, d, e', f⟩, by rw [e0, e1, e2, e3, e4, e5, he]; rfl, hl⟩

theorem strs_of {H : Type} {ec : TypeId × Value → H} {W : World} {fuel : Nat} {v : Value} {x : DataW H × List MemPlace} (hf : DataW.trod ec Tryd.prog W 0 (fun _ => true) true fuel 26 [v] = some x) (hw : ∀ n ∈ x.1.weights Tryd.prog 26, n ≤ reachBytes) :
    ∃ L : List ByteArray, SliceAt W v 1 NamesL.strOne L ∧ ∀ a ∈ L, True := by
  refine open_rows Tryd.underlying26 (by kernel_rfl) (by omega) hf hw NamesL.strOne _ (fun m cs y _ ht hwy => ?_)
  obtain ⟨b, e1, _, _⟩ := DataW.trod_string Tryd.underlying9 ht
  exact ⟨b, e1.symm, trivial⟩

set_option maxRecDepth 100000 in
theorem lieV_of {H : Type} {ec : TypeId × Value → H} {W : World} {r : Reach} {base : Nat} {v : Value} {d : DataW H} {p : List MemPlace} (hval : Value.okWide Tryd.prog W r base 44 v) (h : DataW.Trod ec Tryd.prog W 0 (fun _ => true) true 44 v d p) :
    ∃ (n : Nat) (i : Int) (b : Nat), n < 18446744073709551616 ∧ b < 256 ∧ v = .agg #[.int .u64 (n : Int), .int .i64 i, .int .u8 (b : Int)] := by
  obtain ⟨cs, rfl, hsz⟩ := okWide_struct Tryd.underlying44 hval
  rw [cellsLie] at hsz
  obtain ⟨l⟩ := cs
  match l, hsz with
  | [c0, c1, c2], _ =>
    obtain ⟨fuel, hf⟩ := h
    obtain ⟨y0, y1, y2, k, ye, h0, h1, h2⟩ := trod_struct3' Tryd.underlying44 hf
    simp only [Value.cells, cellsInt, cellsU64, cellsU8, List.drop_zero, List.drop_succ_cons, List.take_succ_cons, List.take_zero] at h0 h1 h2
    obtain ⟨a, e0, _, wa⟩ := DataW.trod_int Tryd.underlying29 h0
    obtain ⟨b, e1, _, _⟩ := DataW.trod_int Tryd.underlying3 h1
    obtain ⟨c, e2, _, wc⟩ := DataW.trod_int Tryd.underlying5 h2
    obtain ⟨a', rfl, ha⟩ := as_nat (bounds_u64 wa)
    obtain ⟨c', rfl, hc⟩ := as_byte (bounds_u8 wc)
    simp only [List.cons.injEq, and_true] at e0 e1 e2
    exact ⟨a', b, c', ha, hc, by rw [e0, e1, e2]⟩
set_option maxRecDepth 100000 in
theorem twoV_of {H : Type} {ec : TypeId × Value → H} {W : World} {r : Reach} {base : Nat} {v : Value} {d : DataW H} {p : List MemPlace} (hval : Value.okWide Tryd.prog W r base 48 v) (h : DataW.Trod ec Tryd.prog W 0 (fun _ => true) true 48 v d p) :
    ∃ (n m : Nat) (i : Int), n < 18446744073709551616 ∧ m < 18446744073709551616 ∧ v = .agg #[.int .u64 (n : Int), .int .u64 (m : Int), .int .i64 i] := by
  obtain ⟨cs, rfl, hsz⟩ := okWide_struct Tryd.underlying48 hval
  rw [cellsTwo] at hsz
  obtain ⟨l⟩ := cs
  match l, hsz with
  | [c0, c1, c2], _ =>
    obtain ⟨fuel, hf⟩ := h
    obtain ⟨y0, y1, y2, k, ye, h0, h1, h2⟩ := trod_struct3' Tryd.underlying48 hf
    simp only [Value.cells, cellsInt, cellsU64, List.drop_zero, List.drop_succ_cons, List.take_succ_cons, List.take_zero] at h0 h1 h2
    obtain ⟨a, e0, _, wa⟩ := DataW.trod_int Tryd.underlying29 h0
    obtain ⟨b, e1, _, wb⟩ := DataW.trod_int Tryd.underlying29 h1
    obtain ⟨c, e2, _, _⟩ := DataW.trod_int Tryd.underlying3 h2
    obtain ⟨a', rfl, ha⟩ := as_nat (bounds_u64 wa)
    obtain ⟨b', rfl, hb⟩ := as_nat (bounds_u64 wb)
    simp only [List.cons.injEq, and_true] at e0 e1 e2
    exact ⟨a', b', c, ha, hb, by rw [e0, e1, e2]⟩

end Go.Proofs.YtibglhlhogfdnaaDoor
