/- A disk whose map is written: what becomes of the whole. -/
import Derived.Test.YtbiombolpfhdlaaKeys
import Derived.Test.YtbiombolpfhdlaaGrow
namespace Go.Proofs.Ytbiombolpfhdlaa
open Go.RowKit Go.Maps

theorem turn_of_map {w w' : World} {m : Nat} (h : w.mapTurned w' m) : Turn (fun i => i = m) w w' := Turn.ofGrown h.grown (fun k hk => by cases hk; rfl)

section
variable {w w' : World} {d m : Nat} {G : List (List UInt8 × Gc)} {s : Dk.Dsk}

/-- The map is written as it was. -/
theorem DiskG.mapped (h : DiskG Try.prog w d m G s) (ht : Turn (fun i => i = m) w w') {n : Nat} (hm : w'.ownsMap Try.prog 9 ptrR m n (Dk.toD tok G)) : DiskG Try.prog w' d m G s := by
  refine ⟨?_, ?_, ?_, h.apart, h.fs, h.names, h.left, h.few⟩
  · exact (ht.block d (lt_of h.top) h.m_d.symm).trans h.top
  · have := ownsMap_exact hm
    rw [Dk.toD_size] at this
    exact this
  · intro p hp
    have hf := h.files p hp
    refine hf.kept (ht.block _ (lt_of hf.cell) (h.m_file hf).symm) (fun i hi => ?_)
    obtain ⟨cur, hc, _⟩ := ownsRow_own hf.row hi
    exact ht.block i (lt_of hc) (h.m_row hf hi).symm

/-- A file is put in under a name that was not there (or whose file is left). -/
theorem DiskG.putFile (h : DiskG Try.prog w d m G s) {k : List UInt8} {g : Gc} (ht : Turn (fun i => i = m) w w') {n : Nat} (hm : w'.ownsMap Try.prog 9 ptrR m n (Dk.toD tok (Dk.putL k g G))) (hf : FileAt w' g)
    (hk : Dk.okName k = true) (hap : ∀ p ∈ G, p.1 ≠ k → Apart g p.2) (hfew : (Dk.putL k g G).length ≤ 64) :
    DiskG Try.prog w' d m (Dk.putL k g G) { s with fs := Dk.putL k g.fil s.fs } := by
  have hmem : ∀ p, p ∈ Dk.putL k g G → p = (k, g) ∨ (p ∈ G ∧ p.1 ≠ k) := by
    intro p hp
    unfold Dk.putL at hp
    rcases Dk.mem_insL.1 hp with e | e
    · exact Or.inl e
    · exact Or.inr (Dk.mem_delL.1 e)
  refine ⟨?_, ?_, ?_, ?_, ?_, ?_, h.left, hfew⟩
  · exact (ht.block d (lt_of h.top) h.m_d.symm).trans h.top
  · have := ownsMap_exact hm
    rw [Dk.toD_size] at this
    exact this
  · intro p hp
    rcases hmem p hp with rfl | ⟨hp', _⟩
    · exact hf
    · have hf := h.files p hp'
      refine hf.kept (ht.block _ (lt_of hf.cell) (h.m_file hf).symm) (fun i hi => ?_)
      obtain ⟨cur, hc, _⟩ := ownsRow_own hf.row hi
      exact ht.block i (lt_of hc) (h.m_row hf hi).symm
  · have hs : ∀ {a b : Gc}, Apart a b → Apart b a := fun h => ⟨fun e => h.1 e.symm, fun i h1 h2 => h.2 i h2 h1⟩
    have hp : (Dk.putL k g G).Perm ((k, g) :: Dk.delL k G) := Dk.insL_perm _ _
    refine (hp.pairwise_iff (fun {a b} (hab : Apart a.2 b.2) => hs hab)).2 (List.pairwise_cons.2 ⟨fun p hp' => ?_, h.apart.filter _⟩)
    obtain ⟨h1, h2⟩ := Dk.mem_delL.1 hp'
    exact hap p h1 h2
  · show Dk.putL k g.fil s.fs = _
    rw [Dk.mapL_putL, h.fs]
  · intro p hp
    rcases hmem p hp with rfl | ⟨hp', _⟩
    · exact hk
    · exact h.names p hp'

/-- A file is taken out. -/
theorem DiskG.delFile (h : DiskG Try.prog w d m G s) {k : List UInt8} (ht : Turn (fun i => i = m) w w') {n : Nat} (hm : w'.ownsMap Try.prog 9 ptrR m n (Dk.toD tok (Dk.delL k G))) :
    DiskG Try.prog w' d m (Dk.delL k G) { s with fs := Dk.delL k s.fs } := by
  refine ⟨?_, ?_, ?_, h.apart.filter _, ?_, fun p hp => h.names p (Dk.mem_delL.1 hp).1, h.left, Nat.le_trans (List.length_filter_le _ _) h.few⟩
  · exact (ht.block d (lt_of h.top) h.m_d.symm).trans h.top
  · have := ownsMap_exact hm
    rw [Dk.toD_size] at this
    exact this
  · intro p hp
    have hf := h.files p (Dk.mem_delL.1 hp).1
    refine hf.kept (ht.block _ (lt_of hf.cell) (h.m_file hf).symm) (fun i hi => ?_)
    obtain ⟨cur, hc, _⟩ := ownsRow_own hf.row hi
    exact ht.block i (lt_of hc) (h.m_row hf hi).symm
  · show Dk.delL k s.fs = _
    rw [Dk.mapL_delL, h.fs]

theorem length_putL_none {k : List UInt8} {g : Gc} (hg : Dk.getL k G = none) : (Dk.putL k g G).length = G.length + 1 := by
  unfold Dk.putL
  rw [Dk.length_insL, Dk.delL_other (Dk.getL_none hg)]

theorem bcells_str (l : List UInt8) (s : ByteArray) : bcells l ++ Lib.strCells s = bcells (l ++ s.data.toList) := by
  unfold bcells Lib.strCells
  rw [List.map_append]

theorem DiskG.len_map (h : DiskG Try.prog w d m G s) (ty : TypeId) : (Builtin.len_ #[51] ty #[.map (some m)]).run Try.prog w = .ok (.int .i64 (G.length : Int)) w := by
  have := h.map.len Try.underlying51 ty
  rw [Dk.toD_size] at this
  exact this

end

theorem infoB : (Try.prog.info? 5).map (fun i => (i.zero, i.size, i.bytes)) = some (some (.int .u8 0), 1, 1) := by kernel_rfl

end Go.Proofs.Ytbiombolpfhdlaa
