import Derived.Test.YtnboanlhdllhnaaGreatZNamesJ
import Derived.ProofKit
import Derived.OpenShut
import Derived.ChangeOld
import Derived.SizedLaws
import Derived.Test.YtnboanlhdllhnaaGreatZCp
/- How layer 14's laws read their arguments: schemas, and texts. -/
namespace Go.Proofs.YtnboanlhdllhnaaGreat
open Go.ChangeShapes Go.WideShapes Go.ChangeAt Go.RowKit

theorem own : ownKnob Tryz.prog.godebug = none := by kernel_rfl
theorem laidOut : laidOutB Tryz.prog = true := by kernel_rfl
theorem cellsInt : Tryz.prog.cellsOf 3 = 1 := by kernel_rfl
theorem cellsStr : Tryz.prog.cellsOf 9 = 1 := by kernel_rfl
theorem cellsBool : Tryz.prog.cellsOf 4 = 1 := by kernel_rfl
theorem cellsInts : Tryz.prog.cellsOf 62 = 1 := by kernel_rfl
theorem cellsCols : Tryz.prog.cellsOf 29 = 1 := by kernel_rfl
theorem cellsIxs : Tryz.prog.cellsOf 30 = 1 := by kernel_rfl

theorem trod_struct2' {H : Type} {enc : TypeId × Value → H} {P : Program} {w : World} {base : Nat} {spare : Nat → Bool} {held : Bool} {t : TypeId} {f0 f1 : Field} {fuel : Nat} {cs : List Value} {x : DataW H × List MemPlace} (ht : P.underlying t = some (.struct #[f0, f1])) (h : DataW.trod enc P w base spare held fuel t cs = some x) :
    ∃ y0 y1 n, x.1 = .agg [y0.1, y1.1] ∧ DataW.trod enc P w base spare held n f0.type ((cs.drop f0.offset).take (P.cellsOf f0.type)) = some y0 ∧ DataW.trod enc P w base spare held n f1.type ((cs.drop f1.offset).take (P.cellsOf f1.type)) = some y1 := by
  obtain ⟨xs, n, _, rfl, hl, hlen, hf⟩ := DataW.trod_struct ht h
  match xs, hlen with
  | [y0, y1], _ => exact ⟨y0, y1, n, rfl, by simpa using hf 0 f0 rfl, by simpa using hf 1 f1 rfl⟩
theorem trod_struct3' {H : Type} {enc : TypeId × Value → H} {P : Program} {w : World} {base : Nat} {spare : Nat → Bool} {held : Bool} {t : TypeId} {f0 f1 f2 : Field} {fuel : Nat} {cs : List Value} {x : DataW H × List MemPlace} (ht : P.underlying t = some (.struct #[f0, f1, f2])) (h : DataW.trod enc P w base spare held fuel t cs = some x) :
    ∃ y0 y1 y2 n, x.1 = .agg [y0.1, y1.1, y2.1] ∧ DataW.trod enc P w base spare held n f0.type ((cs.drop f0.offset).take (P.cellsOf f0.type)) = some y0 ∧ DataW.trod enc P w base spare held n f1.type ((cs.drop f1.offset).take (P.cellsOf f1.type)) = some y1 ∧ DataW.trod enc P w base spare held n f2.type ((cs.drop f2.offset).take (P.cellsOf f2.type)) = some y2 := by
  obtain ⟨xs, n, _, rfl, hl, hlen, hf⟩ := DataW.trod_struct ht h
  match xs, hlen with
  | [y0, y1, y2], _ => exact ⟨y0, y1, y2, n, rfl, by simpa using hf 0 f0 rfl, by simpa using hf 1 f1 rfl, by simpa using hf 2 f2 rfl⟩

/-- a schema that came in -/
structure Tv where
  T : Tab
  cv : Value
  iv : Value
def enT (t : Tv) : List Value := [.string t.T.nm, t.cv, .int .i64 t.T.key, t.iv]
structure Tv.Ok (W : World) (t : Tv) : Prop where
  tab : TabV W t.cv t.iv t.T
  rg : Rg t.T
  nm : t.T.nm.size ≤ reachBytes

section
variable {H : Type} {ec : TypeId × Value → H} {W : World}
set_option maxRecDepth 100000 in
theorem nums_of {fuel : Nat} {v : Value} {x : DataW H × List MemPlace} (hf : DataW.trod ec Tryz.prog W 0 (fun _ => true) true fuel 62 [v] = some x) (hw : ∀ n ∈ x.1.weights Tryz.prog 62, n ≤ reachBytes) : ∃ L : List Int, SliceAt W v 1 enI L ∧ ∀ a ∈ L, I64 a := by
  refine open_rows Tryz.underlying62 cellsInt (by omega) hf hw enI I64 (fun m cs y _ ht _ => ?_)
  obtain ⟨a, e0, _, wa⟩ := DataW.trod_int Tryz.underlying3 ht
  have ba := bounds_i64 wa
  exact ⟨a, e0.symm, by omega, by omega⟩

set_option maxRecDepth 100000 in
theorem cols_of {fuel : Nat} {v : Value} {x : DataW H × List MemPlace} (hf : DataW.trod ec Tryz.prog W 0 (fun _ => true) true fuel 29 [v] = some x) (hw : ∀ n ∈ x.1.weights Tryz.prog 29, n ≤ reachBytes) : ∃ L : List (ByteArray × Int), SliceAt W v 2 enC L ∧ ∀ a ∈ L, OkCol a := by
  refine open_rows Tryz.underlying29 (by kernel_rfl) (by omega) hf hw enC OkCol (fun m cs y hlen ht hwy => ?_)
  obtain ⟨y0, y1, k, ye, h0, h1⟩ := trod_struct2' Tryz.underlying70 ht
  have hw0 : ∀ n ∈ y0.1.weights Tryz.prog 9, n ≤ reachBytes := fun n hn => hwy n (by
    rw [ye]
    simp only [DataW.weights, Tryz.underlying70]
    exact DataW.weights_mem_each (j := 0) rfl rfl n hn)
  match cs, hlen with
  | [v0, v1], _ =>
    simp only [cellsInt, cellsStr, List.drop_zero, List.drop_succ_cons, List.take_succ_cons, List.take_zero] at h0 h1
    obtain ⟨b, e0, x0, _⟩ := DataW.trod_string Tryz.underlying9 h0
    obtain ⟨a, e1, _, wa⟩ := DataW.trod_int Tryz.underlying3 h1
    have hds : b.size ≤ reachBytes := hw0 b.size (by rw [x0]; simp [DataW.weights])
    have ba := bounds_i64 wa
    unfold reachBytes at hds
    simp only [List.cons.injEq, and_true] at e0 e1
    exact ⟨(b, a), by rw [e0, e1]; rfl, by show b.size ≤ _; omega, by show _ ≤ a; omega, by show a ≤ _; omega⟩

set_option maxRecDepth 100000 in
theorem ixs_of {fuel : Nat} {v : Value} {x : DataW H × List MemPlace} (hf : DataW.trod ec Tryz.prog W 0 (fun _ => true) true fuel 30 [v] = some x) (hw : ∀ n ∈ x.1.weights Tryz.prog 30, n ≤ reachBytes) : ∃ L : List Iv, SliceAt W v 3 enX L ∧ ∀ a ∈ L, SliceAt W a.v 1 enI a.ix.cs ∧ Sz a.ix.nm ∧ ∀ n ∈ a.ix.cs, I64 n := by
  refine open_rows Tryz.underlying30 (by kernel_rfl) (by omega) hf hw enX _ (fun m cs y hlen ht hwy => ?_)
  obtain ⟨y0, y1, y2, k, ye, h0, h1, h2⟩ := trod_struct3' Tryz.underlying64 ht
  have hw0 : ∀ n ∈ y0.1.weights Tryz.prog 9, n ≤ reachBytes := fun n hn => hwy n (by
    rw [ye]
    simp only [DataW.weights, Tryz.underlying64]
    exact DataW.weights_mem_each (j := 0) rfl rfl n hn)
  have hw1 : ∀ n ∈ y1.1.weights Tryz.prog 62, n ≤ reachBytes := fun n hn => hwy n (by
    rw [ye]
    simp only [DataW.weights, Tryz.underlying64]
    exact DataW.weights_mem_each (j := 1) rfl rfl n hn)
  match cs, hlen with
  | [v0, v1, v2], _ =>
    simp only [cellsInts, cellsStr, cellsBool, List.drop_zero, List.drop_succ_cons, List.take_succ_cons, List.take_zero] at h0 h1 h2
    obtain ⟨b, e0, x0, _⟩ := DataW.trod_string Tryz.underlying9 h0
    obtain ⟨L, hL, hI⟩ := nums_of (x := y1) h1 hw1
    obtain ⟨u, e2, _⟩ := DataW.trod_bool Tryz.underlying4 h2
    have hds : b.size ≤ reachBytes := hw0 b.size (by rw [x0]; simp [DataW.weights])
    unfold reachBytes at hds
    simp only [List.cons.injEq, and_true] at e0 e2
    exact ⟨⟨⟨b, L, u⟩, v1⟩, by rw [e0, e2]; rfl, hL, by show b.size ≤ _; omega, hI⟩

set_option maxRecDepth 100000 in
theorem table_of {fuel : Nat} {cs : List Value} {y : DataW H × List MemPlace} (hlen : cs.length = 4) (ht : DataW.trod ec Tryz.prog W 0 (fun _ => true) true fuel 32 cs = some y) (hwy : ∀ n ∈ y.1.weights Tryz.prog 32, n ≤ reachBytes) : ∃ a : Tv, enT a = cs ∧ a.Ok W := by
  obtain ⟨y0, y1, y2, y3, k, ye, h0, h1, h2, h3⟩ := trod_struct4 Tryz.underlying32 ht
  have hw0 : ∀ n ∈ y0.1.weights Tryz.prog 9, n ≤ reachBytes := fun n hn => hwy n (by
    rw [ye]
    simp only [DataW.weights, Tryz.underlying32]
    exact DataW.weights_mem_each (j := 0) rfl rfl n hn)
  have hw1 : ∀ n ∈ y1.1.weights Tryz.prog 29, n ≤ reachBytes := fun n hn => hwy n (by
    rw [ye]
    simp only [DataW.weights, Tryz.underlying32]
    exact DataW.weights_mem_each (j := 1) rfl rfl n hn)
  have hw3 : ∀ n ∈ y3.1.weights Tryz.prog 30, n ≤ reachBytes := fun n hn => hwy n (by
    rw [ye]
    simp only [DataW.weights, Tryz.underlying32]
    exact DataW.weights_mem_each (j := 3) rfl rfl n hn)
  match cs, hlen with
  | [v0, v1, v2, v3], _ =>
    simp only [cellsInt, cellsStr, cellsCols, cellsIxs, List.drop_zero, List.drop_succ_cons, List.take_succ_cons, List.take_zero] at h0 h1 h2 h3
    obtain ⟨b, e0, x0, _⟩ := DataW.trod_string Tryz.underlying9 h0
    obtain ⟨C, hC, hC2⟩ := cols_of (x := y1) h1 hw1
    obtain ⟨a, e2, _, wa⟩ := DataW.trod_int Tryz.underlying3 h2
    obtain ⟨X, hX, hX2⟩ := ixs_of (x := y3) h3 hw3
    have hds : b.size ≤ reachBytes := hw0 b.size (by rw [x0]; simp [DataW.weights])
    have ba := bounds_i64 wa
    have hds' : b.size ≤ 9223372036854775807 := by unfold reachBytes at hds; omega
    simp only [List.cons.injEq, and_true] at e0 e2
    refine ⟨⟨⟨b, C, a, X.map Iv.ix⟩, v1, v3⟩, by rw [e0, e2]; rfl, ⟨hC, X, hX, rfl, fun x hx => (hX2 x hx).1⟩, ⟨hds', hC2, ⟨by show _ ≤ a; omega, by show a ≤ _; omega⟩, fun x hx => ?_⟩, hds⟩
    obtain ⟨x', hx', rfl⟩ := List.mem_map.1 hx
    exact (hX2 x' hx').2

theorem tables_of {fuel : Nat} {v : Value} {x : DataW H × List MemPlace} (hf : DataW.trod ec Tryz.prog W 0 (fun _ => true) true fuel 26 [v] = some x) (hw : ∀ n ∈ x.1.weights Tryz.prog 26, n ≤ reachBytes) : ∃ L : List Tv, SliceAt W v 4 enT L ∧ ∀ a ∈ L, a.Ok W :=
  open_rows Tryz.underlying26 (by kernel_rfl) (by omega) hf hw enT (Tv.Ok W) (fun _ _ _ hlen ht hwy => table_of hlen ht hwy)
end

end Go.Proofs.YtnboanlhdllhnaaGreat

/- How SchemaPlays reads its calls: each with a name and a schema that can be copied. -/
namespace Go.Proofs.YtnboanlhdllhnaaGreat
open Go.ChangeShapes Go.WideShapes Go.ChangeAt Go.RowKit

/-- a call that came in -/
structure Av where
  k : Int
  nm : ByteArray
  t : Tv
  X : List Iv
def enA (a : Av) : List Value := [.int .i64 a.k, .string a.nm, .string a.t.T.nm, a.t.cv, .int .i64 a.t.T.key, a.t.iv]
structure Av.Ok (W : World) (a : Av) : Prop where
  k : I64 a.k
  nm : a.nm.size ≤ reachBytes
  t : a.t.Ok W
  cp : CpOk W a.t.cv a.t.iv a.X a.t.T

theorem cellsTab : Tryz.prog.cellsOf 32 = 4 := by kernel_rfl
theorem bytesCol : Tryz.prog.bytesOf 70 = 24 := by kernel_rfl
theorem bytesIdx : Tryz.prog.bytesOf 64 = 48 := by kernel_rfl
theorem bytesInt : Tryz.prog.bytesOf 3 = 8 := by kernel_rfl

section
variable {H : Type} {ec : TypeId × Value → H} {W : World}
theorem len_of {fuel : Nat} {v : Value} {x : DataW H × List MemPlace} {T E : TypeId} {bytes n : Nat} {α : Type} {en : α → List Value} {L : List α} (hT : Tryz.prog.underlying T = some (.slice E)) (hb : Tryz.prog.bytesOf E = bytes) (hf : DataW.trod ec Tryz.prog W 0 (fun _ => true) true fuel T [v] = some x) (hw : ∀ n ∈ x.1.weights Tryz.prog T, n ≤ reachBytes) (h : SliceAt W v n en L) : NilOk v ∧ L.length * bytes ≤ 140737488355328 := by
  obtain ⟨a, c, e, _⟩ := h
  refine ⟨nil_of hT hf, ?_⟩
  have := sized_of hT hf hw hb e
  unfold reachBytes at this
  omega

set_option maxRecDepth 100000 in
theorem ixs_of2 {fuel : Nat} {v : Value} {x : DataW H × List MemPlace} (hf : DataW.trod ec Tryz.prog W 0 (fun _ => true) true fuel 30 [v] = some x) (hw : ∀ n ∈ x.1.weights Tryz.prog 30, n ≤ reachBytes) : ∃ L : List Iv, SliceAt W v 3 enX L ∧ ∀ a ∈ L, (SliceAt W a.v 1 enI a.ix.cs ∧ NilOk a.v ∧ a.ix.cs.length * 8 ≤ 140737488355328) ∧ Sz a.ix.nm ∧ ∀ n ∈ a.ix.cs, I64 n := by
  refine open_rows Tryz.underlying30 (by kernel_rfl) (by omega) hf hw enX _ (fun m cs y hlen ht hwy => ?_)
  obtain ⟨y0, y1, y2, k, ye, h0, h1, h2⟩ := trod_struct3' Tryz.underlying64 ht
  have hw0 : ∀ n ∈ y0.1.weights Tryz.prog 9, n ≤ reachBytes := fun n hn => hwy n (by
    rw [ye]
    simp only [DataW.weights, Tryz.underlying64]
    exact DataW.weights_mem_each (j := 0) rfl rfl n hn)
  have hw1 : ∀ n ∈ y1.1.weights Tryz.prog 62, n ≤ reachBytes := fun n hn => hwy n (by
    rw [ye]
    simp only [DataW.weights, Tryz.underlying64]
    exact DataW.weights_mem_each (j := 1) rfl rfl n hn)
  match cs, hlen with
  | [v0, v1, v2], _ =>
    simp only [cellsInts, cellsStr, cellsBool, List.drop_zero, List.drop_succ_cons, List.take_succ_cons, List.take_zero] at h0 h1 h2
    obtain ⟨b, e0, x0, _⟩ := DataW.trod_string Tryz.underlying9 h0
    obtain ⟨L, hL, hI⟩ := nums_of (x := y1) h1 hw1
    obtain ⟨u, e2, _⟩ := DataW.trod_bool Tryz.underlying4 h2
    have hds : b.size ≤ reachBytes := hw0 b.size (by rw [x0]; simp [DataW.weights])
    unfold reachBytes at hds
    simp only [List.cons.injEq, and_true] at e0 e2
    obtain ⟨l1, l2⟩ := len_of (x := y1) Tryz.underlying62 bytesInt h1 hw1 hL
    exact ⟨⟨⟨b, L, u⟩, v1⟩, by rw [e0, e2]; rfl, ⟨hL, l1, l2⟩, by show b.size ≤ _; omega, hI⟩

set_option maxRecDepth 100000 in
theorem table_of2 {fuel : Nat} {cs : List Value} {y : DataW H × List MemPlace} (hlen : cs.length = 4) (ht : DataW.trod ec Tryz.prog W 0 (fun _ => true) true fuel 32 cs = some y) (hwy : ∀ n ∈ y.1.weights Tryz.prog 32, n ≤ reachBytes) : ∃ (a : Tv) (X : List Iv), enT a = cs ∧ a.Ok W ∧ CpOk W a.cv a.iv X a.T := by
  obtain ⟨y0, y1, y2, y3, k, ye, h0, h1, h2, h3⟩ := trod_struct4 Tryz.underlying32 ht
  have hw0 : ∀ n ∈ y0.1.weights Tryz.prog 9, n ≤ reachBytes := fun n hn => hwy n (by
    rw [ye]
    simp only [DataW.weights, Tryz.underlying32]
    exact DataW.weights_mem_each (j := 0) rfl rfl n hn)
  have hw1 : ∀ n ∈ y1.1.weights Tryz.prog 29, n ≤ reachBytes := fun n hn => hwy n (by
    rw [ye]
    simp only [DataW.weights, Tryz.underlying32]
    exact DataW.weights_mem_each (j := 1) rfl rfl n hn)
  have hw3 : ∀ n ∈ y3.1.weights Tryz.prog 30, n ≤ reachBytes := fun n hn => hwy n (by
    rw [ye]
    simp only [DataW.weights, Tryz.underlying32]
    exact DataW.weights_mem_each (j := 3) rfl rfl n hn)
  match cs, hlen with
  | [v0, v1, v2, v3], _ =>
    simp only [cellsInt, cellsStr, cellsCols, cellsIxs, List.drop_zero, List.drop_succ_cons, List.take_succ_cons, List.take_zero] at h0 h1 h2 h3
    obtain ⟨b, e0, x0, _⟩ := DataW.trod_string Tryz.underlying9 h0
    obtain ⟨C, hC, hC2⟩ := cols_of (x := y1) h1 hw1
    obtain ⟨a, e2, _, wa⟩ := DataW.trod_int Tryz.underlying3 h2
    obtain ⟨X, hX, hX2⟩ := ixs_of2 (x := y3) h3 hw3
    have hds : b.size ≤ reachBytes := hw0 b.size (by rw [x0]; simp [DataW.weights])
    have ba := bounds_i64 wa
    have hds' : b.size ≤ 9223372036854775807 := by unfold reachBytes at hds; omega
    simp only [List.cons.injEq, and_true] at e0 e2
    obtain ⟨l1, l2⟩ := len_of (x := y1) Tryz.underlying29 bytesCol h1 hw1 hC
    obtain ⟨l3, l4⟩ := len_of (x := y3) Tryz.underlying30 bytesIdx h3 hw3 hX
    have hcp : CpOk W v1 v3 X ⟨b, C, a, X.map Iv.ix⟩ := ⟨hC, l1, l2, hX, rfl, l4, fun x hx => (hX2 x hx).1⟩
    refine ⟨⟨⟨b, C, a, X.map Iv.ix⟩, v1, v3⟩, X, by rw [e0, e2]; rfl, ⟨hcp.tabV, ⟨hds', hC2, ⟨by show _ ≤ a; omega, by show a ≤ _; omega⟩, fun x hx => ?_⟩, hds⟩, hcp⟩
    obtain ⟨x', hx', rfl⟩ := List.mem_map.1 hx
    exact (hX2 x' hx').2

set_option maxRecDepth 100000 in
theorem acts_of {fuel : Nat} {v : Value} {x : DataW H × List MemPlace} (hf : DataW.trod ec Tryz.prog W 0 (fun _ => true) true fuel 22 [v] = some x) (hw : ∀ n ∈ x.1.weights Tryz.prog 22, n ≤ reachBytes) : ∃ L : List Av, SliceAt W v 6 enA L ∧ ∀ a ∈ L, a.Ok W := by
  refine open_rows Tryz.underlying22 (by kernel_rfl) (by omega) hf hw enA (Av.Ok W) (fun m cs y hlen ht hwy => ?_)
  obtain ⟨y0, y1, y2, k, ye, h0, h1, h2⟩ := trod_struct3' Tryz.underlying34 ht
  have hw1 : ∀ n ∈ y1.1.weights Tryz.prog 9, n ≤ reachBytes := fun n hn => hwy n (by
    rw [ye]
    simp only [DataW.weights, Tryz.underlying34]
    exact DataW.weights_mem_each (j := 1) rfl rfl n hn)
  have hw2 : ∀ n ∈ y2.1.weights Tryz.prog 32, n ≤ reachBytes := fun n hn => hwy n (by
    rw [ye]
    simp only [DataW.weights, Tryz.underlying34]
    exact DataW.weights_mem_each (j := 2) rfl rfl n hn)
  match cs, hlen with
  | [v0, v1, v2, v3, v4, v5], _ =>
    simp only [cellsInt, cellsStr, cellsTab, List.drop_zero, List.drop_succ_cons, List.take_succ_cons, List.take_zero] at h0 h1 h2
    obtain ⟨a, e0, _, wa⟩ := DataW.trod_int Tryz.underlying3 h0
    obtain ⟨b, e1, x1, _⟩ := DataW.trod_string Tryz.underlying9 h1
    obtain ⟨t, X, e2, ho, hcp⟩ := table_of2 (y := y2) rfl h2 hw2
    have hds : b.size ≤ reachBytes := hw1 b.size (by rw [x1]; simp [DataW.weights])
    have ba := bounds_i64 wa
    simp only [List.cons.injEq, and_true] at e0 e1
    unfold enT at e2
    simp only [List.cons.injEq, and_true] at e2
    refine ⟨⟨a, b, t, X⟩, ?_, ⟨⟨by show _ ≤ a; omega, by show a ≤ _; omega⟩, hds, ho, hcp⟩⟩
    unfold enA
    rw [e0, e1]
    simp [e2.1, e2.2.1, e2.2.2.1, e2.2.2.2]
end

end Go.Proofs.YtnboanlhdllhnaaGreat
