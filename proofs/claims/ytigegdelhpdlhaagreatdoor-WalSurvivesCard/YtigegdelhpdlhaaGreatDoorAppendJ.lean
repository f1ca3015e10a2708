import Derived.Test.YtigegdelhpdlhaaGreatDoorSyncJ
import Derived.Test.YtigegdelhpdlhaaGreatDoorPureJ
/- Append to a file that is there. -/
namespace Go.Proofs.YtigegdelhpdlhaaGreatDoor
open Go.RowKit Go.Maps

section
variable {d m : Nat} {G : List (List UInt8 × Gc)} {s : Dk.Dsk}

set_option maxHeartbeats 400000 in
theorem append_bad (k data : ByteArray) (w : World) (h : DiskG Tryz.prog w d m G s) (hk : k.size ≤ maxLen) (ho : Dk.okS k = false) :
    Calls Tryz.prog 24 #[.pointer (some ⟨d, 0, none⟩), .string k, .string data] w fun e w' => e = .returned (.int .i64 (Dk.appendE s k.data.toList data.data.toList)) ∧ GoesD w w' d m G (Dk.appendS s k.data.toList data.data.toList) := by
  have H : Hid (DiskG Tryz.prog w d m G s) := h
  have e1 : Dk.appendE s k.data.toList data.data.toList = 10 := by unfold Dk.appendE; rw [← okS_def, ho]; rfl
  have e2 : Dk.appendS s k.data.toList data.data.toList = s := by unfold Dk.appendS; rw [← okS_def, ho]; rfl
  rw [e1, e2]
  clear e1 e2 h
  go_enter Tryz.func24, Tryz.ntmps24
  go_wp2_with (go_at_call 51; refine (nameMayBe_any _ _ hk).mono ?_; rintro e w' ⟨rfl, rfl⟩)
  go_ret
  exact ⟨rfl, GoesD.stay H.out⟩

theorem append_old_end {w w1 w2 w3 : World} {k data : ByteArray} {g : Gc} {a' : Option Addr} {c' : Nat} (h : DiskG Tryz.prog w d m G s) (h1 : DiskG Tryz.prog w1 d m G (Dk.changeS s)) (ht : TurnD (fun i => i = d) w w1) (hg : Dk.getL k.data.toList G = some g)
    (ho : Dk.okS k = true) (hb : Dk.burnt s = false) (hL : Dk.tooLong s k.data.toList data.data.toList = false) (hlen : g.fil.data.length + data.size ≤ 262144)
    (hrow2 : w2.ownsRow 0 5 1 (.slice a' (g.fil.data.length + data.size) c') (g.fil.data.length + data.size) (bcellsD g.fil.data ++ Lib.strCells data)) (hgrow2 : w1.grownBy w2 g.val.ownBlock)
    (hloc : ∀ b, (Value.slice a' (g.fil.data.length + data.size) c').ownBlock = some b → g.val.ownBlock = some b ∨ w1.heap.size ≤ b)
    {n : Nat} (hm : w3.ownsMap Tryz.prog 9 ptrR m n ((Dk.toD tok G).put (.string k.data.toList) (tok g))) (htm : (w2.setCell ⟨g.blk, 0, none⟩ (.slice a' (g.fil.data.length + data.size) c')).mapTurned w3 m) :
    GoesD w w3 d m G (Dk.appendS s k.data.toList data.data.toList) := by
  have hf1 := h1.files _ (Dk.getL_mem hg)
  have hsz : data.data.toList.length = data.size := rfl
  have hblk : some g.blk ≠ g.val.ownBlock := fun e => file_row hf1 hf1 e.symm rfl
  have hf' : FileAt (w2.setCell ⟨g.blk, 0, none⟩ (.slice a' (g.fil.data.length + data.size) c')) ⟨g.blk, .slice a' (g.fil.data.length + data.size) c', ⟨g.fil.data ++ data.data.toList, g.fil.safe⟩⟩ := by
    have hc2 : w2.heap[g.blk]? = w1.heap[g.blk]? := hgrow2.block g.blk (lt_ofD hf1.cell) hblk
    refine ⟨?_, ?_, ?_, ?_⟩
    · show (World.heap _)[g.blk]? = _
      rw [heap_setCell_sameD (hc2.trans hf1.cell)]
      simp
    · show World.ownsRow _ 0 5 1 _ (g.fil.data ++ data.data.toList).length (bcellsD (g.fil.data ++ data.data.toList))
      rw [List.length_append, hsz, ← bcells_strD]
      refine ownsRow_blockD hrow2 (fun i hi => Below.heap_setCell _ _ _ _ ?_)
      intro e
      have e : i = g.blk := e
      obtain ⟨cur, hc, _⟩ := ownsRow_ownD hrow2 hi
      rw [e, hc2, hf1.cell] at hc
      simp at hc
    · show g.fil.safe ≤ (g.fil.data ++ data.data.toList).length
      rw [List.length_append]
      have := hf1.safe
      simp only at this
      omega
    · show (g.fil.data ++ data.data.toList).length ≤ 262144
      rw [List.length_append, hsz]
      exact hlen
  have hts : TurnD (fileS g) w1 (w2.setCell ⟨g.blk, 0, none⟩ (.slice a' (g.fil.data.length + data.size) c')) :=
    (TurnD.ofGrown hgrow2 (fun k hk => Or.inr hk)).trans (TurnD.setCell w2 ⟨g.blk, 0, none⟩ _ (Or.inl rfl))
  obtain ⟨hD, hfoot⟩ := h1.setFile hg hts hf' rfl hloc
  have e1 : (Dk.toD tok G).put (.string k.data.toList) (tok g) = Dk.toD tok (Dk.putL k.data.toList ⟨g.blk, .slice a' (g.fil.data.length + data.size) c', ⟨g.fil.data ++ data.data.toList, g.fil.safe⟩⟩ G) := by
    rw [← Dk.toD_put]
    rfl
  rw [e1] at hm
  have hD3 := hD.mapped (turn_of_map htm) hm
  have e : Dk.appendS s k.data.toList data.data.toList = { Dk.changeS s with fs := Dk.putL k.data.toList ⟨g.fil.data ++ data.data.toList, g.fil.safe⟩ (Dk.changeS s).fs } := by
    unfold Dk.appendS
    rw [← okS_def, ho, hL, hb, changeS_fs, fileOr_some h hg]
    rfl
  rw [e]
  refine GoesD.of ht ((hts.mono (fun i hi => DiskG.footFile hg i hi)).trans ((turn_of_map htm).mono (fun i hi => Or.inr (Or.inl hi)))) hD3 hfoot

set_option maxRecDepth 100000 in
set_option maxHeartbeats 1000000 in
theorem append_old (k data : ByteArray) (w : World) (h : DiskG Tryz.prog w d m G s) (hk : k.size ≤ maxLen) (_hds : data.size ≤ maxLen) (ho : Dk.okS k = true) {g : Gc} (hg : Dk.getL k.data.toList G = some g) :
    Calls Tryz.prog 24 #[.pointer (some ⟨d, 0, none⟩), .string k, .string data] w fun e w' => e = .returned (.int .i64 (Dk.appendE s k.data.toList data.data.toList)) ∧ GoesD w w' d m G (Dk.appendS s k.data.toList data.data.toList) := by
  have H : Hid (DiskG Tryz.prog w d m G s) := h
  have HG : Hid (Dk.getL k.data.toList G = some g) := hg
  have hf := h.files _ (Dk.getL_mem hg)
  obtain ⟨c0, -, -, -⟩ := h.cells
  obtain ⟨c4, -⟩ := hf.cells
  obtain ⟨a, c, hv, -, -, -⟩ := hf.shape
  have hr := h.look_some hk hg
  have hn := hf.len
  simp only at hn hv
  have c4' : w.cell? ⟨g.blk, 0, none⟩ = some (.slice a g.fil.data.length c) := c4.trans (congrArg some hv)
  have HV : Hid (g.val = .slice a g.fil.data.length c) := hv
  have hTL : Dk.tooLong s k.data.toList data.data.toList = decide (262144 < g.fil.data.length + data.size) := by
    unfold Dk.tooLong
    rw [fileOr_some h hg, h.getL_fs, hg]
    simp
  unfold maxLen at _hds
  clear hg hv c4 h hf
  by_cases hlong : (262144 : Int) - (g.fil.data.length : Int) < (data.size : Int)
  · have e0 : Dk.tooLong s k.data.toList data.data.toList = true := by rw [hTL]; simp; omega
    have e1 : Dk.appendE s k.data.toList data.data.toList = 2 := by unfold Dk.appendE; rw [← okS_def, ho, e0]; rfl
    have e2 : Dk.appendS s k.data.toList data.data.toList = s := by unfold Dk.appendS; rw [← okS_def, ho, e0]; rfl
    rw [e1, e2]
    clear e0 e1 e2 hTL
    go_enter Tryz.func24, Tryz.ntmps24
    go_wp2_with (go_at_call 51; refine (nameMayBe_any _ _ hk).mono ?_; rintro e w' ⟨rfl, rfl⟩)
    go_ret
    exact ⟨rfl, GoesD.stay H.out⟩
  · have e0 : Dk.tooLong s k.data.toList data.data.toList = false := by rw [hTL]; simp; omega
    have HL : Hid (Dk.tooLong s k.data.toList data.data.toList = false) := e0
    have e1 : Dk.appendE s k.data.toList data.data.toList = Dk.changeE s := by unfold Dk.appendE; rw [← okS_def, ho, e0]; rfl
    rw [e1]
    clear e0 e1 hTL
    cases hb : Dk.burnt s with
    | true =>
      have hE := changeE_burnt hb
      rw [show Dk.appendS s k.data.toList data.data.toList = Dk.changeS s from by unfold Dk.appendS; rw [← okS_def, ho, HL.out, hb]; rfl]
      go_enter Tryz.func24, Tryz.ntmps24
      go_wp2_with (first
        | (go_at_call 51; refine (nameMayBe_any _ _ hk).mono ?_; rintro e w' ⟨rfl, rfl⟩)
        | (go_at_call 50; refine (change_any _ H.out).mono ?_; rintro e w1 ⟨rfl, h1, ht⟩))
      go_ret
      exact ⟨ret_intD hE.symm, GoesD.top h1 ht⟩
    | false =>
      have hE := changeE_not hb
      obtain ⟨i0, hi, hz0, hz1, hz2⟩ := info_parts infoB
      have HB : Hid (Dk.burnt s = false) := hb
      clear hb
      go_enter Tryz.func24, Tryz.ntmps24
      go_wp2_with (first
        | (go_at_call 51; refine (nameMayBe_any _ _ hk).mono ?_; rintro e w' ⟨rfl, rfl⟩)
        | (go_at_call 50; refine (change_any _ H.out).mono ?_; rintro e w1 ⟨rfl, h1, ht⟩; have hf := h1.files _ (Dk.getL_mem HG.out); have hrow1 : w1.ownsRow 0 5 1 (.slice a g.fil.data.length c) g.fil.data.length (bcellsD g.fil.data) := HV.out ▸ hf.row; have c5 : w1.cell? ⟨g.blk, 0, none⟩ = some (.slice a g.fil.data.length c) := hf.cells.1.trans (congrArg some HV.out); have c6 : w1.cell? ⟨d, 0, none⟩ = some (.map (some m)) := h1.cells.1)
        | (at_builtin; go_must (refine wpList_append_str _ rfl _ _ 54 9 rfl 5 i0 Tryz.underlying54 Tryz.underlying9 hi hz0 hz1 hz2 _ g.fil.data.length (bcellsD g.fil.data) rfl hrow1 data rfl ?q1 ?q2 ?_)))
      case q1 => unfold maxLen; omega
      case q2 => omega
      intro a' c' w2 hrow2 hgrow2 hloc2
      have hf1 := h1.files _ (Dk.getL_mem HG.out)
      have hblk : some g.blk ≠ (Value.slice a g.fil.data.length c).ownBlock := fun e => file_row hf1 hf1 ((congrArg Value.ownBlock HV.out).trans e.symm) rfl
      have hdb : some d ≠ (Value.slice a g.fil.data.length c).ownBlock := fun e => h1.d_row hf1 ((congrArg Value.ownBlock HV.out).trans e.symm) rfl
      have hmb : some m ≠ (Value.slice a g.fil.data.length c).ownBlock := fun e => h1.m_row hf1 ((congrArg Value.ownBlock HV.out).trans e.symm) rfl
      have c7 := hgrow2.cell c5 hblk
      have f7 : w2.frozen? ⟨g.blk, 0, none⟩ = false := frozen_ofD ((hgrow2.block _ (lt_ofD hf1.cell) hblk).trans hf1.cell) 0
      have c8 := hgrow2.cell c6 hdb
      have hdg : d ≠ g.blk := h1.d_file hf1
      have c9 : (w2.setCell ⟨g.blk, 0, none⟩ (.slice a' (g.fil.data.length + data.size) c')).cell? ⟨d, 0, none⟩ = some (.map (some m)) := (World.cell?_of_block (w := w2) (Below.heap_setCell w2 ⟨g.blk, 0, none⟩ _ d hdg)).trans c8
      have M : (w2.setCell ⟨g.blk, 0, none⟩ (.slice a' (g.fil.data.length + data.size) c')).ownsMap Tryz.prog 9 ptrR m G.length (Dk.toD tok G) :=
        ownsMap_block h1.map ((Below.heap_setCell w2 ⟨g.blk, 0, none⟩ _ m (h1.m_file hf1)).trans (hgrow2.block m h1.map.lt hmb))
      have hfew := h1.few
      go_wp2_with (at_mapUpdate; go_must (refine wpList_mapUpdate_in _ rfl _ _ _ 65 rfl 9 81 keyed Tryz.underlying65 ptrR m G.length (Dk.toD tok G) rfl M ?q3 _ _ _ rfl rfl (WideMaps.keyOf_string_mk Tryz.underlying9 hk) (tok g) [] rfl ?_))
      case q3 => unfold maxLen; omega
      intro w3 hown3 hturn3
      go_wp2
      go_ret
      exact ⟨ret_intD hE.symm, append_old_end H.out h1 ht HG.out ho HB.out HL.out (by omega) hrow2 (HV.out ▸ hgrow2) (HV.out ▸ hloc2) hown3 hturn3⟩

end
end Go.Proofs.YtigegdelhpdlhaaGreatDoor

/- Append to a file that is not there; Append. -/
namespace Go.Proofs.YtigegdelhpdlhaaGreatDoor
open Go.RowKit Go.Maps

section
variable {d m : Nat} {G : List (List UInt8 × Gc)} {s : Dk.Dsk}

theorem DiskG.alloc {w : World} (h : DiskG Tryz.prog w d m G s) (o : Obj) : DiskG Tryz.prog (w.alloc o) d m G s :=
  h.kept (S := fun _ => False) (TurnD.alloc w o) (fun _ _ h => h)

theorem heap_newD (w : World) (o : Obj) : (w.alloc o).heap[w.heap.size]? = some o := heap_alloc_new w o

theorem GoesD.alloc {w w' : World} {o : Obj} {s' : Dk.Dsk} (h : GoesD (w.alloc o) w' d m G s') : GoesD w w' d m G s' := by
  obtain ⟨G', h1, h2, h3⟩ := h
  refine ⟨G', h1, (TurnD.alloc w o).trans h2, fun i hi => (h3 i hi).imp id (fun h4 => ?_)⟩
  rw [World.size_alloc] at h4
  omega

theorem append_new_end {w w1 w2 w3 : World} {k data : ByteArray} {a' : Option Addr} {c' : Nat} (h : DiskG Tryz.prog w d m G s)
    (h1 : DiskG Tryz.prog w1 d m G (Dk.changeS s)) (ht : TurnD (fun i => i = d) (w.alloc (.cells #[.slice none 0 0, .int .i64 0] 89 (0, 0))) w1) (hg : Dk.getL k.data.toList G = none)
    (ho : Dk.okS k = true) (hb : Dk.burnt s = false) (hL : Dk.tooLong s k.data.toList data.data.toList = false) (hlen : data.size ≤ 262144) (hfew : G.length + 1 ≤ 64)
    (hrow2 : w2.ownsRow 0 5 1 (.slice a' data.size c') data.size (Lib.strCells data)) (hgrow2 : w1.grownBy w2 none)
    (hloc : ∀ b, (Value.slice a' data.size c').ownBlock = some b → w1.heap.size ≤ b)
    {n : Nat} (hm : w3.ownsMap Tryz.prog 9 ptrR m n ((Dk.toD tok G).put (.string k.data.toList) (.lit (.int .i64 (w.heap.size : Int))))) (htm : (w2.setCell ⟨w.heap.size, 0, none⟩ (.slice a' data.size c')).mapTurned w3 m) :
    GoesD w w3 d m G (Dk.appendS s k.data.toList data.data.toList) := by
  have hsz : data.data.toList.length = data.size := rfl
  have hwd : d < w.heap.size := lt_ofD h.top
  have hw1 : w.heap.size < w1.heap.size := by have := ht.size; rw [World.size_alloc] at this; omega
  have hnew1 : w1.heap[w.heap.size]? = some (.cells #[.slice none 0 0, .int .i64 0] 89 (0, 0)) := (ht.block _ (by simp) (by omega)).trans (heap_newD w _)
  have hnew2 : w2.heap[w.heap.size]? = some (.cells #[.slice none 0 0, .int .i64 0] 89 (0, 0)) := (hgrow2.block _ hw1 (by simp)).trans hnew1
  -- behind the store: the disk as it was, the new file beside it
  have hts : TurnD (fun i => i = w.heap.size) w1 (w2.setCell ⟨w.heap.size, 0, none⟩ (.slice a' data.size c')) :=
    (TurnD.ofGrown hgrow2 (fun k hk => by cases hk)).trans (TurnD.setCell w2 ⟨w.heap.size, 0, none⟩ _ rfl)
  have hlt : ∀ i, foot d m G i → i < w.heap.size := fun i hi => h.lt hi
  have h2 : DiskG Tryz.prog (w2.setCell ⟨w.heap.size, 0, none⟩ (.slice a' data.size c')) d m G (Dk.changeS s) := h1.kept hts (fun i hi e => by have := hlt i hi; omega)
  have hmlt : m < w.heap.size := h.map.lt
  have tm := turn_of_map htm
  have hs2 : w1.heap.size ≤ w2.heap.size := hgrow2.size
  have hf' : FileAt w3 ⟨w.heap.size, .slice a' data.size c', ⟨data.data.toList, 0⟩⟩ := by
    refine ⟨?_, ?_, Nat.zero_le _, ?_⟩
    · show w3.heap[w.heap.size]? = _
      rw [tm.block _ (by simp; omega) (by omega), heap_setCell_sameD hnew2]
      simp
    · show World.ownsRow _ 0 5 1 _ data.data.toList.length (Lib.strCells data)
      rw [hsz]
      refine ownsRow_blockD hrow2 (fun i hi => ?_)
      have h4 := hloc i hi
      obtain ⟨cur, hc, _⟩ := ownsRow_ownD hrow2 hi
      have h5 := lt_ofD hc
      rw [tm.block i (by simp; omega) (by omega)]
      exact Below.heap_setCell _ _ _ _ (by show i ≠ w.heap.size; omega)
    · exact hlen
  have e1 : (Dk.toD tok G).put (.string k.data.toList) (.lit (.int .i64 (w.heap.size : Int))) = Dk.toD tok (Dk.putL k.data.toList ⟨w.heap.size, .slice a' data.size c', ⟨data.data.toList, 0⟩⟩ G) := by
    rw [← Dk.toD_put]
    rfl
  rw [e1] at hm
  have hD3 := h2.putFile tm hm hf' ho (fun p hp _ => ⟨by
      have := hlt _ (Or.inr (Or.inr ⟨p, hp, Or.inl rfl⟩))
      show w.heap.size ≠ p.2.blk
      omega, fun i hi hi' => by
      have := hlt _ (Or.inr (Or.inr ⟨p, hp, Or.inr hi'⟩))
      have := hloc i hi
      omega⟩) (by rw [length_putL_none hg]; exact hfew)
  have e : Dk.appendS s k.data.toList data.data.toList = { Dk.changeS s with fs := Dk.putL k.data.toList ⟨data.data.toList, 0⟩ (Dk.changeS s).fs } := by
    unfold Dk.appendS
    rw [← okS_def, ho, hL, hb, changeS_fs, h.getL_fs, hg]
    rfl
  rw [e]
  have t1 : TurnD (foot d m G) w w1 := (TurnD.alloc w _).trans (ht.mono (fun _ hi => Or.inl hi))
  refine ⟨_, hD3, ?_, ?_⟩
  · refine (t1.transNew hts (fun i hi => Or.inr (by omega))).trans (tm.mono (fun i hi => Or.inr (Or.inl hi)))
  · rintro i (rfl | rfl | ⟨p, hp, hi⟩)
    · exact Or.inl (Or.inl rfl)
    · exact Or.inl (Or.inr (Or.inl rfl))
    · unfold Dk.putL at hp
      rcases Dk.mem_insL.1 hp with rfl | hp
      · refine Or.inr ?_
        rcases hi with hi | hi
        · have hi : i = w.heap.size := hi
          omega
        · have := hloc i hi
          omega
      · exact Or.inl (Or.inr (Or.inr ⟨p, (Dk.mem_delL.1 hp).1, hi⟩))

set_option maxRecDepth 100000 in
set_option maxHeartbeats 1000000 in
theorem append_new (k data : ByteArray) (w : World) (h : DiskG Tryz.prog w d m G s) (hk : k.size ≤ maxLen) (_hds : data.size ≤ maxLen) (ho : Dk.okS k = true) (hg : Dk.getL k.data.toList G = none) :
    Calls Tryz.prog 24 #[.pointer (some ⟨d, 0, none⟩), .string k, .string data] w fun e w' => e = .returned (.int .i64 (Dk.appendE s k.data.toList data.data.toList)) ∧ GoesD w w' d m G (Dk.appendS s k.data.toList data.data.toList) := by
  have H : Hid (DiskG Tryz.prog w d m G s) := h
  have HG : Hid (Dk.getL k.data.toList G = none) := hg
  have HA : Hid (∀ o, DiskG Tryz.prog (w.alloc o) d m G s) := fun o => h.alloc o
  obtain ⟨c0, -, -, -⟩ := h.cells
  have hwd : d < w.heap.size := lt_ofD h.top
  have hr := h.look_none hk hg
  have hlm : ∀ o ty, (Builtin.len_ #[65] ty #[.map (some m)]).run Tryz.prog (w.alloc o) = .ok (.int .i64 (G.length : Int)) (w.alloc o) := fun o ty => (h.alloc o).len_map ty
  have hTL : Dk.tooLong s k.data.toList data.data.toList = (decide (262144 < data.size) || decide (64 ≤ G.length)) := by
    unfold Dk.tooLong
    rw [h.getL_fs, hg, h.len_fs]
    simp [Dk.fileOr]
  unfold maxLen at _hds
  clear hg h
  by_cases hlong : (262144 : Int) < (data.size : Int)
  · have e0 : Dk.tooLong s k.data.toList data.data.toList = true := by rw [hTL, decide_eq_true (by omega)]; rfl
    have e1 : Dk.appendE s k.data.toList data.data.toList = 2 := by unfold Dk.appendE; rw [← okS_def, ho, e0]; rfl
    have e2 : Dk.appendS s k.data.toList data.data.toList = s := by unfold Dk.appendS; rw [← okS_def, ho, e0]; rfl
    rw [e1, e2]
    clear e0 e1 e2 hTL
    go_enter Tryz.func24, Tryz.ntmps24
    go_wp2_with (go_at_call 51; refine (nameMayBe_any _ _ hk).mono ?_; rintro e w' ⟨rfl, hw⟩; subst w')
    go_ret
    exact ⟨rfl, (GoesD.stay (HA.out _)).alloc⟩
  · by_cases hmany : (64 : Int) ≤ (G.length : Int)
    · have e0 : Dk.tooLong s k.data.toList data.data.toList = true := by rw [hTL, decide_eq_true (p := 64 ≤ G.length) (by omega)]; simp
      have e1 : Dk.appendE s k.data.toList data.data.toList = 2 := by unfold Dk.appendE; rw [← okS_def, ho, e0]; rfl
      have e2 : Dk.appendS s k.data.toList data.data.toList = s := by unfold Dk.appendS; rw [← okS_def, ho, e0]; rfl
      rw [e1, e2]
      clear e0 e1 e2 hTL
      go_enter Tryz.func24, Tryz.ntmps24
      go_wp2_with (go_at_call 51; refine (nameMayBe_any _ _ hk).mono ?_; rintro e w' ⟨rfl, hw⟩; subst w')
      go_ret
      exact ⟨rfl, (GoesD.stay (HA.out _)).alloc⟩
    · have e0 : Dk.tooLong s k.data.toList data.data.toList = false := by rw [hTL, decide_eq_false (p := 64 ≤ G.length) (by omega), decide_eq_false (p := 262144 < data.size) (by omega)]; rfl
      have HL : Hid (Dk.tooLong s k.data.toList data.data.toList = false) := e0
      have e1 : Dk.appendE s k.data.toList data.data.toList = Dk.changeE s := by unfold Dk.appendE; rw [← okS_def, ho, e0]; rfl
      rw [e1]
      clear e0 e1 hTL
      cases hb : Dk.burnt s with
      | true =>
        have hE := changeE_burnt hb
        rw [show Dk.appendS s k.data.toList data.data.toList = Dk.changeS s from by unfold Dk.appendS; rw [← okS_def, ho, HL.out, hb]; rfl]
        go_enter Tryz.func24, Tryz.ntmps24
        go_wp2_with (first
          | (go_at_call 51; refine (nameMayBe_any _ _ hk).mono ?_; rintro e w' ⟨rfl, hw⟩; subst w')
          | (go_at_call 50; refine (change_any _ (HA.out _)).mono ?_; rintro e w1 ⟨rfl, h1, ht⟩))
        go_ret
        exact ⟨ret_intD hE.symm, (GoesD.top h1 ht).alloc⟩
      | false =>
        have hE := changeE_not hb
        obtain ⟨i0, hi, hz0, hz1, hz2⟩ := info_parts infoB
        have HB : Hid (Dk.burnt s = false) := hb
        have HN : Hid (∀ w1, TurnD (fun i => i = d) (w.alloc (.cells #[.slice none 0 0, .int .i64 0] 89 (0, 0))) w1 → w1.heap[w.heap.size]? = some (.cells #[.slice none 0 0, .int .i64 0] 89 (0, 0)) ∧ w1.cell? ⟨w.heap.size, 0, none⟩ = some (.slice none 0 0)) := by
          intro w1 ht
          have n1 := (ht.block w.heap.size (by simp) (by omega)).trans (heap_newD w _)
          exact ⟨n1, by rw [cell_ofD n1]; rfl⟩
        clear hb
        go_enter Tryz.func24, Tryz.ntmps24
        go_wp2_with (first
          | (go_at_call 51; refine (nameMayBe_any _ _ hk).mono ?_; rintro e w' ⟨rfl, hw⟩; subst w')
          | (go_at_call 50; refine (change_any _ (HA.out _)).mono ?_; rintro e w1 ⟨rfl, h1, ht⟩; go_must (obtain ⟨n1, c5⟩ := HN.out _ ht; have c6 : w1.cell? ⟨d, 0, none⟩ = some (.map (some m)) := h1.cells.1))
          | (at_builtin; go_must (refine wpList_append_str _ rfl _ _ 54 9 rfl 5 i0 Tryz.underlying54 Tryz.underlying9 hi hz0 hz1 hz2 _ 0 [] rfl (World.ownsRow_nil _ _ _ _) data rfl ?q1 ?q2 ?_)))
        case q1 => unfold maxLen; omega
        case q2 => omega
        intro a' c' w2 hrow2 hgrow2 hloc2
        have hw1 : w.heap.size < w1.heap.size := lt_ofD n1
        have n2 : w2.heap[w.heap.size]? = some (.cells #[.slice none 0 0, .int .i64 0] 89 (0, 0)) := (hgrow2.block _ hw1 (by simp [Value.ownBlock])).trans n1
        have c7 : w2.cell? ⟨w.heap.size, 0, none⟩ = some (.slice none 0 0) := by rw [cell_ofD n2]; rfl
        have f7 : w2.frozen? ⟨w.heap.size, 0, none⟩ = false := frozen_ofD n2 0
        have c8 : w2.cell? ⟨d, 0, none⟩ = some (.map (some m)) := hgrow2.cell c6 (by simp [Value.ownBlock])
        have hdg : d ≠ w.heap.size := by omega
        have c9 : (w2.setCell ⟨w.heap.size, 0, none⟩ (.slice a' data.size c')).cell? ⟨d, 0, none⟩ = some (.map (some m)) := (World.cell?_of_block (w := w2) (Below.heap_setCell w2 ⟨w.heap.size, 0, none⟩ _ d hdg)).trans c8
        have hml : m < w.heap.size := H.out.map.lt
        have M : (w2.setCell ⟨w.heap.size, 0, none⟩ (.slice a' data.size c')).ownsMap Tryz.prog 9 ptrR m G.length (Dk.toD tok G) :=
          ownsMap_block h1.map ((Below.heap_setCell w2 ⟨w.heap.size, 0, none⟩ _ m (by show m ≠ w.heap.size; omega)).trans (hgrow2.block m h1.map.lt (by simp [Value.ownBlock])))
        go_wp2_with (at_mapUpdate; go_must (refine wpList_mapUpdate_in _ rfl _ _ _ 65 rfl 9 81 keyed Tryz.underlying65 ptrR m G.length (Dk.toD tok G) rfl M ?q3 _ _ _ rfl rfl (WideMaps.keyOf_string_mk Tryz.underlying9 hk) (.lit (.int .i64 (w.heap.size : Int))) [] rfl ?_))
        case q3 => unfold maxLen; omega
        intro w3 hown3 hturn3
        go_wp2
        go_ret
        refine ⟨ret_intD hE.symm, append_new_end H.out h1 ht HG.out ho HB.out HL.out (by omega) (by omega) hrow2 hgrow2 ?_ hown3 hturn3⟩
        intro b hb
        rcases hloc2 b hb with h4 | h4
        · cases h4
        · exact h4

theorem append_any (k data : ByteArray) (w : World) (h : DiskG Tryz.prog w d m G s) (hk : k.size ≤ maxLen) (hds : data.size ≤ maxLen) :
    Calls Tryz.prog 24 #[.pointer (some ⟨d, 0, none⟩), .string k, .string data] w fun e w' => e = .returned (.int .i64 (Dk.appendE s k.data.toList data.data.toList)) ∧ GoesD w w' d m G (Dk.appendS s k.data.toList data.data.toList) := by
  cases ho : Dk.okS k with
  | false => exact append_bad k data w h hk ho
  | true =>
    cases hg : Dk.getL k.data.toList G with
    | none => exact append_new k data w h hk hds ho hg
    | some g => exact append_old k data w h hk hds ho hg

end
end Go.Proofs.YtigegdelhpdlhaaGreatDoor

/- What a crash makes of files, name by name. Nothing here speaks of Go. -/
namespace Go.Proofs.YtigegdelhpdlhaaGreatDoor
namespace Dk

/-- The draws that are left. -/
def restD : List (List UInt8 × Fil) → List Int → List Int
  | [], ds => ds
  | p :: r, ds => if p.2.data.length = p.2.safe then restD r ds else restD r ds.tail

theorem crashL_append (l r : List (List UInt8 × Fil)) (ds : List Int) : crashL (l ++ r) ds = crashL l ds ++ crashL r (restD l ds) := by
  induction l generalizing ds with
  | nil => rfl
  | cons p q ih =>
    simp only [List.cons_append, crashL, restD]
    split <;> simp [ih]

theorem restD_append (l r : List (List UInt8 × Fil)) (ds : List Int) : restD (l ++ r) ds = restD r (restD l ds) := by
  induction l generalizing ds with
  | nil => rfl
  | cons p q ih =>
    simp only [List.cons_append, restD]
    split <;> simp [ih]

theorem keysL_crashL (l : List (List UInt8 × Fil)) (ds : List Int) : keysL (crashL l ds) = keysL l := by
  induction l generalizing ds with
  | nil => rfl
  | cons p q ih =>
    unfold keysL at *
    simp only [crashL]
    split <;> simp [ih]

theorem length_crashL (l : List (List UInt8 × Fil)) (ds : List Int) : (crashL l ds).length = l.length := by
  have := congrArg List.length (keysL_crashL l ds)
  unfold keysL at this
  simpa using this

/-- after j names -/
def midL (l : List (List UInt8 × Fil)) (ds : List Int) (j : Nat) : List (List UInt8 × Fil) := crashL (l.take j) ds ++ l.drop j

theorem midL_zero (l : List (List UInt8 × Fil)) (ds : List Int) : midL l ds 0 = l := rfl
theorem midL_all (l : List (List UInt8 × Fil)) (ds : List Int) (j : Nat) (h : l.length ≤ j) : midL l ds j = crashL l ds := by
  unfold midL
  rw [List.take_of_length_le h, List.drop_of_length_le h, List.append_nil]

theorem midL_split (l : List (List UInt8 × Fil)) (ds : List Int) (j : Nat) (h : j < l.length) : midL l ds j = crashL (l.take j) ds ++ l[j] :: l.drop (j + 1) := by
  unfold midL
  rw [List.drop_eq_getElem_cons h]

theorem midL_next (l : List (List UInt8 × Fil)) (ds : List Int) (j : Nat) (h : j < l.length) : midL l ds (j + 1) = crashL (l.take j) ds ++ crashL [l[j]] (restD (l.take j) ds) ++ l.drop (j + 1) := by
  unfold midL
  rw [List.take_succ_eq_append_getElem h, crashL_append]

theorem restD_next (l : List (List UInt8 × Fil)) (ds : List Int) (j : Nat) (h : j < l.length) : restD (l.take (j + 1)) ds = restD [l[j]] (restD (l.take j) ds) := by
  rw [List.take_succ_eq_append_getElem h, restD_append]

section
variable {α : Type}
theorem getL_mid {k : List UInt8} {f : α} : ∀ {A B : List (List UInt8 × α)}, (∀ p ∈ A, p.1 ≠ k) → getL k (A ++ (k, f) :: B) = some f
  | [], B, _ => by simp [getL]
  | y :: r, B, h => by
    have hy : (y.1 == k) = false := by simpa using h y (by simp)
    simp only [List.cons_append, getL, hy, Bool.false_eq_true, if_false]
    exact getL_mid (fun p hp => h p (by simp [hp]))

theorem setL_mid {k : List UInt8} {f a : α} {A B : List (List UInt8 × α)} (hA : ∀ p ∈ A, p.1 ≠ k) (hB : ∀ p ∈ B, p.1 ≠ k) : setL k a (A ++ (k, f) :: B) = A ++ (k, a) :: B := by
  have h1 := setL_other a hA
  have h2 := setL_other a hB
  unfold setL at *
  rw [List.map_append, List.map_cons, h1, h2]
  simp

theorem rise_mid {k : List UInt8} {f : α} {A B : List (List UInt8 × α)} (h : Rise (A ++ (k, f) :: B)) : (∀ p ∈ A, p.1 ≠ k) ∧ ∀ p ∈ B, p.1 ≠ k := by
  have h' := rise_ne h
  obtain ⟨_, h2, h3⟩ := List.pairwise_append.1 h'
  exact ⟨fun p hp => h3 p hp (k, f) (by simp), fun p hp e => (List.pairwise_cons.1 h2).1 p hp e.symm⟩
end

/-- The file at the next name, as it still is; and behind its turn. -/
theorem mid_get {l : List (List UInt8 × Fil)} {ds : List Int} {j : Nat} (h : j < l.length) (hr : Rise (midL l ds j)) : getL (l[j]).1 (midL l ds j) = some (l[j]).2 := by
  rw [midL_split l ds j h] at hr ⊢
  exact getL_mid (rise_mid (f := (l[j]).2) hr).1

theorem mid_stay {l : List (List UInt8 × Fil)} {ds : List Int} {j : Nat} (h : j < l.length) (he : (l[j]).2.data.length = (l[j]).2.safe) : midL l ds (j + 1) = midL l ds j ∧ restD (l.take (j + 1)) ds = restD (l.take j) ds := by
  rw [midL_next l ds j h, midL_split l ds j h, restD_next l ds j h]
  simp [crashL, restD, he]

theorem mid_tear {l : List (List UInt8 × Fil)} {ds : List Int} {j : Nat} (h : j < l.length) (hr : Rise (midL l ds j)) (he : (l[j]).2.data.length ≠ (l[j]).2.safe) :
    midL l ds (j + 1) = putL (l[j]).1 (tearF (l[j]).2 ((restD (l.take j) ds).headD 0)) (midL l ds j) ∧ restD (l.take (j + 1)) ds = (restD (l.take j) ds).tail := by
  refine ⟨?_, ?_⟩
  · rw [putL_set _ hr (mid_get h hr)]
    have hs := midL_split l ds j h
    rw [hs] at hr ⊢
    obtain ⟨hA, hB⟩ := rise_mid (f := (l[j]).2) hr
    refine Eq.trans ?_ (setL_mid (k := (l[j]).1) (f := (l[j]).2) hA hB).symm
    rw [midL_next l ds j h]
    simp [crashL, he]
  · rw [restD_next l ds j h]
    simp [restD, he]

theorem keysL_midL (l : List (List UInt8 × Fil)) (ds : List Int) (j : Nat) : keysL (midL l ds j) = keysL l := by
  unfold midL
  have := keysL_crashL (l.take j) ds
  unfold keysL at *
  rw [List.map_append, this, ← List.map_append, List.take_append_drop]

theorem restD_sub (l : List (List UInt8 × Fil)) : ∀ (ds : List Int), ∃ n, restD l ds = ds.drop n := by
  induction l with
  | nil => exact fun ds => ⟨0, rfl⟩
  | cons p q ih =>
    intro ds
    simp only [restD]
    split
    · exact ih ds
    · obtain ⟨n, hn⟩ := ih ds.tail
      exact ⟨n + 1, by rw [hn]; cases ds <;> simp⟩

theorem crashL_id : ∀ (l : List (List UInt8 × Fil)) (ds : List Int), (∀ p ∈ l, p.2.data.length = p.2.safe) → crashL l ds = l
  | [], _, _ => rfl
  | p :: r, ds, h => by
    unfold crashL
    rw [if_pos (h p (by simp)), crashL_id r ds (fun q hq => h q (by simp [hq]))]

theorem crashL_safe : ∀ (l : List (List UInt8 × Fil)) (ds : List Int), (∀ p ∈ l, p.2.safe ≤ p.2.data.length) → ∀ p ∈ crashL l ds, p.2.data.length = p.2.safe
  | [], _, _, p, hp => by cases hp
  | q :: r, ds, h, p, hp => by
    unfold crashL at hp
    split at hp
    · rename_i e
      rcases List.mem_cons.1 hp with rfl | hp
      · exact e
      · exact crashL_safe r ds (fun q hq => h q (by simp [hq])) p hp
    · rcases List.mem_cons.1 hp with rfl | hp
      · exact tearF_len _ _ (h q (by simp))
      · exact crashL_safe r ds.tail (fun q hq => h q (by simp [hq])) p hp

/-- another crash behind one changes nothing -/
theorem crashS_twice (s : Dsk) (ds ds' : List Int) (h : ∀ p ∈ s.fs, p.2.safe ≤ p.2.data.length) (h1 : ¬ 4096 < ds.length) (h2 : ¬ 4096 < ds'.length) : (crashS (crashS s ds) ds').fs = (crashS s ds).fs := by
  have e1 : (crashS s ds).fs = crashL s.fs ds := by unfold crashS; rw [if_neg h1]
  unfold crashS at e1 ⊢
  rw [if_neg h2, if_neg h1]
  exact crashL_id _ _ (crashL_safe _ _ h)

end Dk
end Go.Proofs.YtigegdelhpdlhaaGreatDoor
