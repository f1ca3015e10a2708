import Derived.Test.YtigegdelhpdlhaaGreatDoorFileJ
import Derived.Test.YtigegdelhpdlhaaGreatDoorGrowJ
/- Sync, Read. -/
namespace Go.Proofs.YtigegdelhpdlhaaGreatDoor
open Go.RowKit Go.Maps

def GoesD (w w' : World) (d m : Nat) (G : List (List UInt8 × Gc)) (s' : Dk.Dsk) : Prop :=
  ∃ G', DiskG Tryz.prog w' d m G' s' ∧ TurnD (foot d m G) w w' ∧ ∀ i, foot d m G' i → foot d m G i ∨ w.heap.size ≤ i

theorem GoesD.stay {w : World} {d m : Nat} {G : List (List UInt8 × Gc)} {s : Dk.Dsk} (h : DiskG Tryz.prog w d m G s) : GoesD w w d m G s :=
  ⟨G, h, TurnD.refl _ _, fun _ hi => Or.inl hi⟩
theorem GoesD.top {w w' : World} {d m : Nat} {G : List (List UInt8 × Gc)} {s : Dk.Dsk} (h : DiskG Tryz.prog w' d m G s) (ht : TurnD (fun i => i = d) w w') : GoesD w w' d m G s :=
  ⟨G, h, ht.mono (fun _ hi => Or.inl hi), fun _ hi => Or.inl hi⟩

theorem GoesD.of {w w1 w2 : World} {d m : Nat} {G G' : List (List UInt8 × Gc)} {s' : Dk.Dsk} (ht : TurnD (fun i => i = d) w w1) (hts : TurnD (foot d m G) w1 w2) (hD : DiskG Tryz.prog w2 d m G' s')
    (hfoot : ∀ i, foot d m G' i → foot d m G i ∨ w1.heap.size ≤ i) : GoesD w w2 d m G s' :=
  ⟨G', hD, (ht.mono (fun _ hi => Or.inl hi)).trans hts, fun i hi => (hfoot i hi).imp id (fun h2 => Nat.le_trans ht.size h2)⟩

theorem okS_def (k : ByteArray) : Dk.okS k = Dk.okName k.data.toList := rfl

section
variable {d m : Nat} {G : List (List UInt8 × Gc)} {s : Dk.Dsk}

theorem findE_bad {k : ByteArray} (ho : Dk.okS k = false) : Dk.findE s k.data.toList = 10 := by unfold Dk.findE; rw [← okS_def, ho]; rfl
theorem findE_none {w : World} {k : ByteArray} (h : DiskG Tryz.prog w d m G s) (ho : Dk.okS k = true) (hg : Dk.getL k.data.toList G = none) : Dk.findE s k.data.toList = 5 := by
  unfold Dk.findE; rw [← okS_def, ho, h.getL_fs, hg]; rfl
theorem findE_some {w : World} {k : ByteArray} (h : DiskG Tryz.prog w d m G s) (ho : Dk.okS k = true) {g : Gc} (hg : Dk.getL k.data.toList G = some g) : Dk.findE s k.data.toList = 0 := by
  unfold Dk.findE; rw [← okS_def, ho, h.getL_fs, hg]; rfl
theorem fileOr_some {w : World} {k : ByteArray} (h : DiskG Tryz.prog w d m G s) {g : Gc} (hg : Dk.getL k.data.toList G = some g) : Dk.fileOr (Dk.getL k.data.toList s.fs) = g.fil := by
  rw [h.getL_fs, hg]; rfl

theorem changeE_burnt (hb : Dk.burnt s = true) : Dk.changeE s = 11 := by unfold Dk.changeE; rw [hb]; rfl
theorem changeE_not (hb : Dk.burnt s = false) : Dk.changeE s = 0 := by unfold Dk.changeE; rw [hb]; rfl
theorem changeS_fs : (Dk.changeS s).fs = s.fs := by unfold Dk.changeS; split <;> (try split) <;> rfl

/-- behind Sync's store -/
theorem sync_end {w w1 : World} {k : ByteArray} {g : Gc} (h : DiskG Tryz.prog w d m G s) (h1 : DiskG Tryz.prog w1 d m G (Dk.changeS s)) (ht : TurnD (fun i => i = d) w w1) (hg : Dk.getL k.data.toList G = some g) (hb : Dk.burnt s = false) (hE : Dk.findE s k.data.toList = 0) :
    GoesD w (w1.setCell ⟨g.blk, 1, none⟩ (.int .i64 (g.fil.data.length : Int))) d m G (Dk.syncS s k.data.toList) := by
  have hf := h1.files _ (Dk.getL_mem hg)
  have hf' : FileAt (w1.setCell ⟨g.blk, 1, none⟩ (.int .i64 (g.fil.data.length : Int))) ⟨g.blk, g.val, ⟨g.fil.data, g.fil.data.length⟩⟩ := by
    refine ⟨?_, ?_, Nat.le_refl _, hf.len⟩
    · show (World.heap _)[g.blk]? = _
      rw [heap_setCell_sameD hf.cell]
      simp
    · refine ownsRow_blockD hf.row (fun i hi => Below.heap_setCell _ _ _ _ ?_)
      exact fun e => file_row hf hf hi e.symm
  have hts : TurnD (fileS g) w1 (w1.setCell ⟨g.blk, 1, none⟩ (.int .i64 (g.fil.data.length : Int))) := TurnD.setCell w1 ⟨g.blk, 1, none⟩ _ (Or.inl rfl)
  obtain ⟨hD, hfoot⟩ := h1.setFile hg hts hf' rfl (fun i hi => Or.inl hi)
  have e : Dk.syncS s k.data.toList = { Dk.changeS s with fs := Dk.putL k.data.toList ⟨g.fil.data, g.fil.data.length⟩ (Dk.changeS s).fs } := by
    unfold Dk.syncS
    rw [if_pos hE, hb, changeS_fs, fileOr_some h hg]
    rfl
  rw [e]
  exact GoesD.of ht (hts.mono (fun i hi => DiskG.footFile hg i hi)) hD hfoot

set_option maxHeartbeats 400000 in
theorem sync_any (k : ByteArray) (w : World) (h : DiskG Tryz.prog w d m G s) (hk : k.size ≤ maxLen) :
    Calls Tryz.prog 25 #[.pointer (some ⟨d, 0, none⟩), .string k] w fun e w' => e = .returned (.int .i64 (Dk.syncE s k.data.toList)) ∧ GoesD w w' d m G (Dk.syncS s k.data.toList) := by
  have H : Hid (DiskG Tryz.prog w d m G s) := h
  cases ho : Dk.okS k with
  | false =>
    have HF : Hid (Dk.findE s k.data.toList = 10) := findE_bad ho
    go_enter Tryz.func25, Tryz.ntmps25
    go_wp2_with (go_at_call 49; refine (find_bad _ _ hk ho).mono ?_; rintro e w' ⟨rfl, rfl⟩)
    go_ret
    refine ⟨ret_intD (by unfold Dk.syncE; rw [HF.out]; rfl), ?_⟩
    rw [show Dk.syncS s k.data.toList = s from by unfold Dk.syncS; rw [HF.out]; rfl]
    exact GoesD.stay H.out
  | true =>
    cases hg : Dk.getL k.data.toList G with
    | none =>
      have HF : Hid (Dk.findE s k.data.toList = 5) := findE_none h ho hg
      have HG : Hid (Dk.getL k.data.toList G = none) := hg
      clear hg
      go_enter Tryz.func25, Tryz.ntmps25
      go_wp2_with (go_at_call 49; refine (find_none _ _ H.out hk ho HG.out).mono ?_; rintro e w' ⟨rfl, rfl⟩)
      go_ret
      refine ⟨ret_intD (by unfold Dk.syncE; rw [HF.out]; rfl), ?_⟩
      rw [show Dk.syncS s k.data.toList = s from by unfold Dk.syncS; rw [HF.out]; rfl]
      exact GoesD.stay H.out
    | some g =>
      have HF : Hid (Dk.findE s k.data.toList = 0) := findE_some h ho hg
      have HG : Hid (Dk.getL k.data.toList G = some g) := hg
      clear hg
      cases hb : Dk.burnt s with
      | true =>
        have hE := changeE_burnt hb
        go_enter Tryz.func25, Tryz.ntmps25
        go_wp2_with (first
          | (go_at_call 49; refine (find_some _ _ H.out hk ho HG.out).mono ?_; rintro e w' ⟨rfl, rfl⟩)
          | (go_at_call 50; refine (change_any _ H.out).mono ?_; rintro e w1 ⟨rfl, h1, ht⟩))
        go_ret
        refine ⟨ret_intD (by unfold Dk.syncE; rw [if_pos HF.out, hE]), ?_⟩
        rw [show Dk.syncS s k.data.toList = Dk.changeS s from by unfold Dk.syncS; rw [if_pos HF.out, hb]; rfl]
        exact GoesD.top h1 ht
      | false =>
        have hE := changeE_not hb
        go_enter Tryz.func25, Tryz.ntmps25
        go_wp2_with (first
          | (go_at_call 49; refine (find_some _ _ H.out hk ho HG.out).mono ?_; rintro e w' ⟨rfl, rfl⟩)
          | (go_at_call 50; refine (change_any _ H.out).mono ?_; rintro e w1 ⟨rfl, h1, ht⟩; have hf := h1.files _ (Dk.getL_mem HG.out); obtain ⟨c0, c1⟩ := hf.cells; have f1 := frozen_ofD hf.cell 1; obtain ⟨a, c, hv, -, -, -⟩ := hf.shape; have c0' : w1.cell? ⟨g.blk, 0, none⟩ = some (.slice a g.fil.data.length c) := c0.trans (congrArg some hv); have hv' : Hid (g.val = .slice a g.fil.data.length c) := hv; clear hv c0))
        go_ret
        refine ⟨ret_intD (by unfold Dk.syncE; rw [if_pos HF.out, hE]), ?_⟩
        exact sync_end H.out h1 ht HG.out hb HF.out

theorem readV_bad {k : ByteArray} (ho : Dk.okS k = false) : Dk.readV s k.data.toList = [] := by unfold Dk.readV; rw [findE_bad ho]; rfl
theorem readV_none {w : World} {k : ByteArray} (h : DiskG Tryz.prog w d m G s) (ho : Dk.okS k = true) (hg : Dk.getL k.data.toList G = none) : Dk.readV s k.data.toList = [] := by unfold Dk.readV; rw [findE_none h ho hg]; rfl
theorem readV_some {w : World} {k : ByteArray} (h : DiskG Tryz.prog w d m G s) (ho : Dk.okS k = true) {g : Gc} (hg : Dk.getL k.data.toList G = some g) : Dk.readV s k.data.toList = g.fil.data := by
  unfold Dk.readV; rw [if_pos (findE_some h ho hg), fileOr_some h hg]

/-- a file's bytes as a string -/
theorem FileAt.text {w : World} {g : Gc} (h : FileAt w g) {a : Option Addr} {c : Nat} (hv : g.val = .slice a g.fil.data.length c) :
    (convert 54 9 (.slice a g.fil.data.length c)).run Tryz.prog w = .ok (.string ⟨g.fil.data.toArray⟩) w := by
  have hr := h.row
  rw [hv] at hr
  rcases hr.2 with ⟨e, hn⟩ | ⟨b, cap, cur, e, _⟩
  · obtain ⟨rfl, _, rfl⟩ : a = none ∧ g.fil.data.length = 0 ∧ c = 0 := by simpa using e
    rw [run_convert_bytes_nil w 54 5 Tryz.underlying54 Tryz.underlying5 _ _ 9 Tryz.underlying9]
    rw [List.eq_nil_of_length_eq_zero hn]
    rfl
  · cases e
    rw [run_convert_bytes_arg w 54 5 Tryz.underlying54 Tryz.underlying5 b 0 g.fil.data.length c (g.fil.data.map fun x => (x.toNat : Int)) (by simp) ?_ 9 Tryz.underlying9]
    · refine congrArg (fun x => Result.ok (Value.string x) w) ?_
      unfold strOfNums
      simp [List.map_map, Function.comp_def]
    · intro i hi
      have := hr.cells (g := b) rfl i (.int .u8 (g.fil.data[i].toNat : Int)) (by simp [bcellsD, hi])
      rw [Addr.add_lit] at this
      rw [this]
      simp [List.getD, hi]

set_option maxHeartbeats 400000 in
theorem read_any (k : ByteArray) (w : World) (h : DiskG Tryz.prog w d m G s) (hk : k.size ≤ maxLen) :
    Calls Tryz.prog 22 #[.pointer (some ⟨d, 0, none⟩), .string k] w fun e w' => e = .returned (.tuple #[.string ⟨(Dk.readV s k.data.toList).toArray⟩, .int .i64 (Dk.findE s k.data.toList)]) ∧ w' = w := by
  have H : Hid (DiskG Tryz.prog w d m G s) := h
  cases ho : Dk.okS k with
  | false =>
    rw [findE_bad ho, readV_bad ho]
    go_enter Tryz.func22, Tryz.ntmps22
    go_wp2_with (go_at_call 49; refine (find_bad _ _ hk ho).mono ?_; rintro e w' ⟨rfl, rfl⟩)
    go_ret2
    exact ⟨rfl, rfl⟩
  | true =>
    cases hg : Dk.getL k.data.toList G with
    | none =>
      rw [findE_none h ho hg, readV_none h ho hg]
      have HG : Hid (Dk.getL k.data.toList G = none) := hg
      clear hg
      go_enter Tryz.func22, Tryz.ntmps22
      go_wp2_with (go_at_call 49; refine (find_none _ _ H.out hk ho HG.out).mono ?_; rintro e w' ⟨rfl, rfl⟩)
      go_ret2
      exact ⟨rfl, rfl⟩
    | some g =>
      rw [findE_some h ho hg, readV_some h ho hg]
      have HG : Hid (Dk.getL k.data.toList G = some g) := hg
      have hf := h.files _ (Dk.getL_mem hg)
      obtain ⟨c0, c1⟩ := hf.cells
      obtain ⟨a, c, hv, -, -, -⟩ := hf.shape
      have hx := hf.text hv
      have c0' : w.cell? ⟨g.blk, 0, none⟩ = some (.slice a g.fil.data.length c) := c0.trans (congrArg some hv)
      clear hg hv c0
      go_enter Tryz.func22, Tryz.ntmps22
      go_wp2_with (go_at_call 49; refine (find_some _ _ H.out hk ho HG.out).mono ?_; rintro e w' ⟨rfl, rfl⟩)
      go_ret2
      exact ⟨rfl, rfl⟩

end
end Go.Proofs.YtigegdelhpdlhaaGreatDoor

/- Names: the files' names, in their order. -/
namespace Go.Proofs.YtigegdelhpdlhaaGreatDoor
open Go.RowKit Go.Maps Go.Sort Go.Shelf

set_option maxHeartbeats 1000000 in
theorem names_any {d m : Nat} {G : List (List UInt8 × Gc)} {s : Dk.Dsk} (w : World) (h : DiskG Tryz.prog w d m G s) :
    Calls Tryz.prog 42 #[.pointer (some ⟨d, 0, none⟩)] w fun e w' => ∃ v, e = .returned v ∧ w'.ownsRow w.heap.size 9 1 v G.length ((Dk.keysL G).map encStr) ∧ Below w.heap.size w w' := by
  obtain ⟨c0, -, -, -⟩ := h.cells
  have hfew := h.few
  have hsz : Maps.size (Dk.toD tok G) = G.length := Dk.toD_size tok G
  have hmax : Maps.size (Dk.toD tok G) ≤ maxLen := by rw [hsz]; unfold maxLen; omega
  have hbytes : Maps.size (Dk.toD tok G) * 16 ≤ 140737488355328 := by rw [hsz]; omega
  have cS := Tryz.slices_Sorted_keys_71_72 m _ _ ptrR w h.map hmax hbytes
  have HS : Hid (Maps.size (Dk.toD tok G) = G.length) := hsz
  have HR : Hid (Dk.Rise G) := h.rise
  have HC : Hid (w.cell? ⟨d, 0, none⟩ = some (.map (some m))) := c0
  clear hsz hmax hbytes hfew h
  refine (callsIn_wide (n := 6)).1 ?_
  have hfK : Fence.wide.fn 72 := trivial
  have hfS : Fence.wide.fn 71 := trivial
  refine callsIn_of_wp Tryz.func42 rfl trivial ?_ rfl
  simp only [Tryz.ntmps42, List.size_toArray, List.length_cons, List.length_nil, Nat.reduceAdd, Nat.reduceSub, Array.replicate_succ, Array.replicate_zero, List.push_toArray, List.append_toArray, List.nil_append, List.cons_append]
  gi_wp2_with (first
    | (gi_at_call 72; refine (Tryz.maps_Keys_72 _ _).mono ?_; rintro e w' ⟨rfl, rfl⟩)
    | (gi_at_call 71; refine cS.mono ?_; rintro e w' ⟨v, ss, rfl, hS, hrow, hnil, hb⟩))
  go_ret
  refine ⟨v, rfl, ?_, ((Below.refl _ w).alloc (Nat.le_refl _) _).trans (hb.mono (by simp))⟩
  have e1 : ss.mergeSort (fun x y => decide (x ≤ y)) = Dk.keysL G := by
    have := mergeSort_of_perm hS
    rw [Dk.toD_keys, Dk.rise_keys HR.out] at this
    exact this
  have e2 : ss.length = G.length := by
    have := hS.length_eq
    rw [Dk.toD_keys] at this
    rw [this]
    unfold Dk.keysL
    simp
  rw [e1, e2] at hrow
  exact ownsRow_base_a hrow (by simp)

end Go.Proofs.YtigegdelhpdlhaaGreatDoor

/- A disk whose map is written: what becomes of the whole. -/
namespace Go.Proofs.YtigegdelhpdlhaaGreatDoor
open Go.RowKit Go.Maps

theorem turn_of_map {w w' : World} {m : Nat} (h : w.mapTurned w' m) : TurnD (fun i => i = m) w w' := TurnD.ofGrown h.grown (fun k hk => by cases hk; rfl)

section
variable {w w' : World} {d m : Nat} {G : List (List UInt8 × Gc)} {s : Dk.Dsk}

/-- The map is written as it was. -/
theorem DiskG.mapped (h : DiskG Tryz.prog w d m G s) (ht : TurnD (fun i => i = m) w w') {n : Nat} (hm : w'.ownsMap Tryz.prog 9 ptrR m n (Dk.toD tok G)) : DiskG Tryz.prog w' d m G s := by
  refine ⟨?_, ?_, ?_, h.apart, h.fs, h.names, h.left, h.few⟩
  · exact (ht.block d (lt_ofD h.top) h.m_d.symm).trans h.top
  · have := ownsMap_exact hm
    rw [Dk.toD_size] at this
    exact this
  · intro p hp
    have hf := h.files p hp
    refine hf.kept (ht.block _ (lt_ofD hf.cell) (h.m_file hf).symm) (fun i hi => ?_)
    obtain ⟨cur, hc, _⟩ := ownsRow_ownD hf.row hi
    exact ht.block i (lt_ofD hc) (h.m_row hf hi).symm

/-- A file is put in under a name that was not there (or whose file is left). -/
theorem DiskG.putFile (h : DiskG Tryz.prog w d m G s) {k : List UInt8} {g : Gc} (ht : TurnD (fun i => i = m) w w') {n : Nat} (hm : w'.ownsMap Tryz.prog 9 ptrR m n (Dk.toD tok (Dk.putL k g G))) (hf : FileAt w' g)
    (hk : Dk.okName k = true) (hap : ∀ p ∈ G, p.1 ≠ k → Apart g p.2) (hfew : (Dk.putL k g G).length ≤ 64) :
    DiskG Tryz.prog w' d m (Dk.putL k g G) { s with fs := Dk.putL k g.fil s.fs } := by
  have hmem : ∀ p, p ∈ Dk.putL k g G → p = (k, g) ∨ (p ∈ G ∧ p.1 ≠ k) := by
    intro p hp
    unfold Dk.putL at hp
    rcases Dk.mem_insL.1 hp with e | e
    · exact Or.inl e
    · exact Or.inr (Dk.mem_delL.1 e)
  refine ⟨?_, ?_, ?_, ?_, ?_, ?_, h.left, hfew⟩
  · exact (ht.block d (lt_ofD h.top) h.m_d.symm).trans h.top
  · have := ownsMap_exact hm
    rw [Dk.toD_size] at this
    exact this
  · intro p hp
    rcases hmem p hp with rfl | ⟨hp', _⟩
    · exact hf
    · have hf := h.files p hp'
      refine hf.kept (ht.block _ (lt_ofD hf.cell) (h.m_file hf).symm) (fun i hi => ?_)
      obtain ⟨cur, hc, _⟩ := ownsRow_ownD hf.row hi
      exact ht.block i (lt_ofD hc) (h.m_row hf hi).symm
  · have hs : ∀ {a b : Gc}, Apart a b → Apart b a := fun h => ⟨fun e => h.1 e.symm, fun i h1 h2 => h.2 i h2 h1⟩
    have hp : (Dk.putL k g G).Perm ((k, g) :: Dk.delL k G) := Dk.insL_perm _ _
    refine (hp.pairwise_iff (fun {a b} (hab : Apart a.2 b.2) => hs hab)).2 (List.pairwise_cons.2 ⟨fun p hp' => ?_, h.apart.filter _⟩)
    obtain ⟨h1, h2⟩ := Dk.mem_delL.1 hp'
    exact hap p h1 h2
  · show Dk.putL k g.fil s.fs = _
    rw [Dk.mapL_putL, h.fs]
  · intro p hp
    rcases hmem p hp with rfl | ⟨hp', _⟩
    · exact hk
    · exact h.names p hp'

/-- A file is taken out. -/
theorem DiskG.delFile (h : DiskG Tryz.prog w d m G s) {k : List UInt8} (ht : TurnD (fun i => i = m) w w') {n : Nat} (hm : w'.ownsMap Tryz.prog 9 ptrR m n (Dk.toD tok (Dk.delL k G))) :
    DiskG Tryz.prog w' d m (Dk.delL k G) { s with fs := Dk.delL k s.fs } := by
  refine ⟨?_, ?_, ?_, h.apart.filter _, ?_, fun p hp => h.names p (Dk.mem_delL.1 hp).1, h.left, Nat.le_trans (List.length_filter_le _ _) h.few⟩
  · exact (ht.block d (lt_ofD h.top) h.m_d.symm).trans h.top
  · have := ownsMap_exact hm
    rw [Dk.toD_size] at this
    exact this
  · intro p hp
    have hf := h.files p (Dk.mem_delL.1 hp).1
    refine hf.kept (ht.block _ (lt_ofD hf.cell) (h.m_file hf).symm) (fun i hi => ?_)
    obtain ⟨cur, hc, _⟩ := ownsRow_ownD hf.row hi
    exact ht.block i (lt_ofD hc) (h.m_row hf hi).symm
  · show Dk.delL k s.fs = _
    rw [Dk.mapL_delL, h.fs]

theorem length_putL_none {k : List UInt8} {g : Gc} (hg : Dk.getL k G = none) : (Dk.putL k g G).length = G.length + 1 := by
  unfold Dk.putL
  rw [Dk.length_insL, Dk.delL_other (Dk.getL_none hg)]

theorem bcells_strD (l : List UInt8) (s : ByteArray) : bcellsD l ++ Lib.strCells s = bcellsD (l ++ s.data.toList) := by
  unfold bcellsD Lib.strCells
  rw [List.map_append]

theorem DiskG.len_map (h : DiskG Tryz.prog w d m G s) (ty : TypeId) : (Builtin.len_ #[65] ty #[.map (some m)]).run Tryz.prog w = .ok (.int .i64 (G.length : Int)) w := by
  have := h.map.len Tryz.underlying65 ty
  rw [Dk.toD_size] at this
  exact this

end

theorem infoB : (Tryz.prog.info? 5).map (fun i => (i.zero, i.size, i.bytes)) = some (some (.int .u8 0), 1, 1) := by kernel_rfl

end Go.Proofs.YtigegdelhpdlhaaGreatDoor
