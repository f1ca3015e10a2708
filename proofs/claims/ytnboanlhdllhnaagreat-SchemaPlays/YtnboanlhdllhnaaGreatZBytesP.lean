/- What SchemaBytes needs: the document's Decode, its three answers one by one; faults compared; names. -/
import Derived.Test.YtnboanlhdllhnaaGreatZRdec
import Derived.Test.YtnboanlhdllhnaaGreatZBackP
import Derived.Test.YtnboanlhdllhnaaGreatZSideA
import Derived.Test.YtnboanlhdllhnaaGreatZFitsJ
import Derived.Test.YtnboanlhdllhnaaGreatZTexts
namespace Go.Proofs.YtnboanlhdllhnaaGreat
open Go.RowKit Go.Maps

theorem rdecode_long {b : List UInt8} (w : World) (h : 262144 < b.length) : Calls Tryz.prog 24 #[.string (bytesOf b)] w fun e w' => e = .returned (.tuple #[.pointer none, .agg #[.int .i64 0, .int .i64 2]]) ∧ Hid (Below w.heap.size w w') :=
  (rdecode_any b w).mono fun e w' hd => by
    rcases hd with ⟨_, h1, h2⟩ | ⟨h1, _⟩ | ⟨h1, _⟩
    · exact ⟨h1, h2⟩
    · omega
    · omega
theorem rdecode_bad {b : List UInt8} (w : World) (h : b.length ≤ 262144) (hn : ∀ L, ¬ Good b L) : Calls Tryz.prog 24 #[.string (bytesOf b)] w fun e w' => e = .returned (.tuple #[.pointer none, .agg #[.int .i64 0, .int .i64 3]]) ∧ Hid (Below w.heap.size w w') :=
  (rdecode_any b w).mono fun e w' hd => by
    rcases hd with ⟨h1, _⟩ | ⟨_, _, h1, h2⟩ | ⟨_, G, c, hg, _⟩
    · omega
    · exact ⟨h1, h2⟩
    · exact absurd hg (hn _)
theorem rdecode_good {b : List UInt8} {L : Cat} (w : World) (h : b.length ≤ 262144) (hg : Good b L) : Calls Tryz.prog 24 #[.string (bytesOf b)] w fun e w' => ∃ c, e = .returned (.tuple #[.pointer (some ⟨c, 0, none⟩), .agg #[.int .i64 0, .int .i64 0]]) ∧ Hid (∃ S G, L = catOf G ∧ RcG w' c S G ∧ (∀ i, rcFoot c S G i → w.heap.size ≤ i) ∧ Below w.heap.size w w') :=
  (rdecode_any b w).mono fun e w' hd => by
    rcases hd with ⟨h1, _⟩ | ⟨_, hn, _⟩ | ⟨_, G, c, hg', h1, S, h2⟩
    · omega
    · exact absurd hg (hn L)
    · exact ⟨c, h1, S, G, hg.unique hg', h2⟩

theorem eqFltSame (x : Int) (W : World) : (Op.equalIn 10000 48 (.agg #[.int .i64 0, .int .i64 x]) (.agg #[.int .i64 0, .int .i64 x])).run Tryz.prog W = .ok true W := by
  have h0 : ∀ (y : Int) (W : World), (_root_.Go.part 3 #[.int .i64 0, .int .i64 y] 0).run Tryz.prog W = .ok (.int .i64 0) W := fun y W => by kernel_rfl
  have h1 : ∀ (y : Int) (W : World), (_root_.Go.part 37 #[.int .i64 0, .int .i64 y] 1).run Tryz.prog W = .ok (.int .i64 y) W := fun y W => by kernel_rfl
  have hi : ∀ W : World, (Op.equalIn 9999 3 (.int .i64 0) (.int .i64 0)).run Tryz.prog W = .ok ((0 : Int) == 0) W := fun W => run_equalIn_int (P := Tryz.prog) W 9998 3 .i64 .i64 0 0 Tryz.underlying3
  have he : ∀ W : World, (Op.equalIn 9999 37 (.int .i64 x) (.int .i64 x)).run Tryz.prog W = .ok (x == x) W := fun W => run_equalIn_int (P := Tryz.prog) W 9998 37 .i64 .i64 x x Tryz.underlying37
  have hf : Tryz.prog.underlying 48 = some (.struct (Tryz.prog.fieldsOf 48)) := by kernel_rfl
  show (Op.equalIn (9999 + 1) 48 _ _).run Tryz.prog W = _
  rw [run_equalIn_agg _ _ _ _ _ hf (by kernel_rfl)]
  have hu := Tryz.underlying48
  rw [hf] at hu
  simp only [Option.some.injEq, TypeDesc.struct.injEq] at hu
  rw [hu]
  have hx2 : (x == x) = true := by simp
  simp [Op.eqFields, h0, h1, hi, he]

theorem names_cat (G : List Ge) : namesC (catOf G) = G.map fun g => g.T.nm := by
  unfold namesC Dk.keysL catOf
  rw [List.map_map, List.map_map]
  refine List.map_congr_left fun g _ => ?_
  exact kb_bytes _
theorem strs_of {w' : World} {base : Nat} {A : Option Addr} {n cap : Nat} {K : List ByteArray} (hn : n = K.length) (h : w'.ownsRow base 9 1 (.slice A n cap) n (flat enS K)) : SliceAt w' (.slice A n cap) 1 enS K := own_slice (en := enS) (n := 1) (fun _ => rfl) (by rw [← hn]; exact h)
theorem flt_cells {w : World} {b : Nat} {x : Int} (h : w.heap[b]? = some (.cells #[.int .i64 0, .int .i64 x] 48 (0, 0))) : w.cell? ⟨b, 0, none⟩ = some (.int .i64 0) ∧ w.cell? ⟨b, 1, none⟩ = some (.int .i64 x) :=
  ⟨by rw [cell_of h]; rfl, by rw [cell_of h]; rfl⟩

end Go.Proofs.YtnboanlhdllhnaaGreat
