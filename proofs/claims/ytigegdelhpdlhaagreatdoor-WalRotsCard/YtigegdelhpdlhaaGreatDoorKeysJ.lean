import Derived.Test.YtigegdelhpdlhaaGreatDoorDiskJ
import Derived.Test.YtigegdelhpdlhaaGreatDoorJFaceJ
/- Names: the files' names, in their order. -/
namespace Go.Proofs.YtigegdelhpdlhaaGreatDoor
open Go.RowKit Go.Maps Go.Sort Go.Shelf

set_option maxHeartbeats 1000000 in
theorem names_any {d m : Nat} {G : List (List UInt8 × Gc)} {s : Dk.Dsk} (w : World) (h : DiskG Tryz.prog w d m G s) :
    Calls Tryz.prog 42 #[.pointer (some ⟨d, 0, none⟩)] w fun e w' => ∃ v, e = .returned v ∧ w'.ownsRow w.heap.size 9 1 v G.length ((Dk.keysL G).map encStr) ∧ Below w.heap.size w w' := by
  obtain ⟨c0, -, -, -⟩ := h.cells
  have hfew := h.few
  have hsz : Maps.size (Dk.toD tok G) = G.length := Dk.toD_size tok G
  have hmax : Maps.size (Dk.toD tok G) ≤ maxLen := by rw [hsz]; unfold maxLen; omega
  have hbytes : Maps.size (Dk.toD tok G) * 16 ≤ 140737488355328 := by rw [hsz]; omega
  have cS := Tryz.slices_Sorted_keys_71_72 m _ _ ptrR w h.map hmax hbytes
  have HS : Hid (Maps.size (Dk.toD tok G) = G.length) := hsz
  have HR : Hid (Dk.Rise G) := h.rise
  have HC : Hid (w.cell? ⟨d, 0, none⟩ = some (.map (some m))) := c0
  clear hsz hmax hbytes hfew h
  refine (callsIn_wide (n := 6)).1 ?_
  have hfK : Fence.wide.fn 72 := trivial
  have hfS : Fence.wide.fn 71 := trivial
  refine callsIn_of_wp Tryz.func42 rfl trivial ?_ rfl
  simp only [Tryz.ntmps42, List.size_toArray, List.length_cons, List.length_nil, Nat.reduceAdd, Nat.reduceSub, Array.replicate_succ, Array.replicate_zero, List.push_toArray, List.append_toArray, List.nil_append, List.cons_append]
  gi_wp2_with (first
    | (gi_at_call 72; refine (Tryz.maps_Keys_72 _ _).mono ?_; rintro e w' ⟨rfl, rfl⟩)
    | (gi_at_call 71; refine cS.mono ?_; rintro e w' ⟨v, ss, rfl, hS, hrow, hnil, hb⟩))
  go_ret
  refine ⟨v, rfl, ?_, ((Below.refl _ w).alloc (Nat.le_refl _) _).trans (hb.mono (by simp))⟩
  have e1 : ss.mergeSort (fun x y => decide (x ≤ y)) = Dk.keysL G := by
    have := mergeSort_of_perm hS
    rw [Dk.toD_keys, Dk.rise_keys HR.out] at this
    exact this
  have e2 : ss.length = G.length := by
    have := hS.length_eq
    rw [Dk.toD_keys] at this
    rw [this]
    unfold Dk.keysL
    simp
  rw [e1, e2] at hrow
  exact ownsRow_base_a hrow (by simp)

end Go.Proofs.YtigegdelhpdlhaaGreatDoor

/- A disk whose map is written: what becomes of the whole. -/
namespace Go.Proofs.YtigegdelhpdlhaaGreatDoor
open Go.RowKit Go.Maps

theorem turn_of_map {w w' : World} {m : Nat} (h : w.mapTurned w' m) : TurnD (fun i => i = m) w w' := TurnD.ofGrown h.grown (fun k hk => by cases hk; rfl)

section
variable {w w' : World} {d m : Nat} {G : List (List UInt8 × Gc)} {s : Dk.Dsk}

/-- The map is written as it was. -/
theorem DiskG.mapped (h : DiskG Tryz.prog w d m G s) (ht : TurnD (fun i => i = m) w w') {n : Nat} (hm : w'.ownsMap Tryz.prog 9 ptrR m n (Dk.toD tok G)) : DiskG Tryz.prog w' d m G s := by
  refine ⟨?_, ?_, ?_, h.apart, h.fs, h.names, h.left, h.few⟩
  · exact (ht.block d (lt_ofD h.top) h.m_d.symm).trans h.top
  · have := ownsMap_exact hm
    rw [Dk.toD_size] at this
    exact this
  · intro p hp
    have hf := h.files p hp
    refine hf.kept (ht.block _ (lt_ofD hf.cell) (h.m_file hf).symm) (fun i hi => ?_)
    obtain ⟨cur, hc, _⟩ := ownsRow_ownD hf.row hi
    exact ht.block i (lt_ofD hc) (h.m_row hf hi).symm

/-- A file is put in under a name that was not there (or whose file is left). -/
theorem DiskG.putFile (h : DiskG Tryz.prog w d m G s) {k : List UInt8} {g : Gc} (ht : TurnD (fun i => i = m) w w') {n : Nat} (hm : w'.ownsMap Tryz.prog 9 ptrR m n (Dk.toD tok (Dk.putL k g G))) (hf : FileAt w' g)
    (hk : Dk.okName k = true) (hap : ∀ p ∈ G, p.1 ≠ k → Apart g p.2) (hfew : (Dk.putL k g G).length ≤ 64) :
    DiskG Tryz.prog w' d m (Dk.putL k g G) { s with fs := Dk.putL k g.fil s.fs } := by
  have hmem : ∀ p, p ∈ Dk.putL k g G → p = (k, g) ∨ (p ∈ G ∧ p.1 ≠ k) := by
    intro p hp
    unfold Dk.putL at hp
    rcases Dk.mem_insL.1 hp with e | e
    · exact Or.inl e
    · exact Or.inr (Dk.mem_delL.1 e)
  refine ⟨?_, ?_, ?_, ?_, ?_, ?_, h.left, hfew⟩
  · exact (ht.block d (lt_ofD h.top) h.m_d.symm).trans h.top
  · have := ownsMap_exact hm
    rw [Dk.toD_size] at this
    exact this
  · intro p hp
    rcases hmem p hp with rfl | ⟨hp', _⟩
    · exact hf
    · have hf := h.files p hp'
      refine hf.kept (ht.block _ (lt_ofD hf.cell) (h.m_file hf).symm) (fun i hi => ?_)
      obtain ⟨cur, hc, _⟩ := ownsRow_ownD hf.row hi
      exact ht.block i (lt_ofD hc) (h.m_row hf hi).symm
  · have hs : ∀ {a b : Gc}, Apart a b → Apart b a := fun h => ⟨fun e => h.1 e.symm, fun i h1 h2 => h.2 i h2 h1⟩
    have hp : (Dk.putL k g G).Perm ((k, g) :: Dk.delL k G) := Dk.insL_perm _ _
    refine (hp.pairwise_iff (fun {a b} (hab : Apart a.2 b.2) => hs hab)).2 (List.pairwise_cons.2 ⟨fun p hp' => ?_, h.apart.filter _⟩)
    obtain ⟨h1, h2⟩ := Dk.mem_delL.1 hp'
    exact hap p h1 h2
  · show Dk.putL k g.fil s.fs = _
    rw [Dk.mapL_putL, h.fs]
  · intro p hp
    rcases hmem p hp with rfl | ⟨hp', _⟩
    · exact hk
    · exact h.names p hp'

/-- A file is taken out. -/
theorem DiskG.delFile (h : DiskG Tryz.prog w d m G s) {k : List UInt8} (ht : TurnD (fun i => i = m) w w') {n : Nat} (hm : w'.ownsMap Tryz.prog 9 ptrR m n (Dk.toD tok (Dk.delL k G))) :
    DiskG Tryz.prog w' d m (Dk.delL k G) { s with fs := Dk.delL k s.fs } := by
  refine ⟨?_, ?_, ?_, h.apart.filter _, ?_, fun p hp => h.names p (Dk.mem_delL.1 hp).1, h.left, Nat.le_trans (List.length_filter_le _ _) h.few⟩
  · exact (ht.block d (lt_ofD h.top) h.m_d.symm).trans h.top
  · have := ownsMap_exact hm
    rw [Dk.toD_size] at this
    exact this
  · intro p hp
    have hf := h.files p (Dk.mem_delL.1 hp).1
    refine hf.kept (ht.block _ (lt_ofD hf.cell) (h.m_file hf).symm) (fun i hi => ?_)
    obtain ⟨cur, hc, _⟩ := ownsRow_ownD hf.row hi
    exact ht.block i (lt_ofD hc) (h.m_row hf hi).symm
  · show Dk.delL k s.fs = _
    rw [Dk.mapL_delL, h.fs]

theorem length_putL_none {k : List UInt8} {g : Gc} (hg : Dk.getL k G = none) : (Dk.putL k g G).length = G.length + 1 := by
  unfold Dk.putL
  rw [Dk.length_insL, Dk.delL_other (Dk.getL_none hg)]

theorem bcells_strD (l : List UInt8) (s : ByteArray) : bcellsD l ++ Lib.strCells s = bcellsD (l ++ s.data.toList) := by
  unfold bcellsD Lib.strCells
  rw [List.map_append]

theorem DiskG.len_map (h : DiskG Tryz.prog w d m G s) (ty : TypeId) : (Builtin.len_ #[65] ty #[.map (some m)]).run Tryz.prog w = .ok (.int .i64 (G.length : Int)) w := by
  have := h.map.len Tryz.underlying65 ty
  rw [Dk.toD_size] at this
  exact this

end

theorem infoB : (Tryz.prog.info? 5).map (fun i => (i.zero, i.size, i.bytes)) = some (some (.int .u8 0), 1, 1) := by kernel_rfl

end Go.Proofs.YtigegdelhpdlhaaGreatDoor
