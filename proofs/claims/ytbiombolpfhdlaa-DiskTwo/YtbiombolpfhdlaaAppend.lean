/- Append to a file that is there. -/
import Derived.Test.YtbiombolpfhdlaaPut
namespace Go.Proofs.Ytbiombolpfhdlaa
open Go.RowKit Go.Maps

section
variable {d m : Nat} {G : List (List UInt8 × Gc)} {s : Dk.Dsk}

set_option maxHeartbeats 400000 in
theorem append_bad (k data : ByteArray) (w : World) (h : DiskG Try.prog w d m G s) (hk : k.size ≤ maxLen) (ho : Dk.okS k = false) :
    Calls Try.prog 16 #[.pointer (some ⟨d, 0, none⟩), .string k, .string data] w fun e w' => e = .returned (.int .i64 (Dk.appendE s k.data.toList data.data.toList)) ∧ Goes w w' d m G (Dk.appendS s k.data.toList data.data.toList) := by
  have H : Hid (DiskG Try.prog w d m G s) := h
  have e1 : Dk.appendE s k.data.toList data.data.toList = 10 := by unfold Dk.appendE; rw [← okS_def, ho]; rfl
  have e2 : Dk.appendS s k.data.toList data.data.toList = s := by unfold Dk.appendS; rw [← okS_def, ho]; rfl
  rw [e1, e2]
  clear e1 e2 h
  go_enter Try.func16, Try.ntmps16
  go_wp2_with (go_at_call 36; refine (nameMayBe_any _ _ hk).mono ?_; rintro e w' ⟨rfl, rfl⟩)
  go_ret
  exact ⟨rfl, Goes.stay H.out⟩

theorem append_old_end {w w1 w2 w3 : World} {k data : ByteArray} {g : Gc} {a' : Option Addr} {c' : Nat} (h : DiskG Try.prog w d m G s) (h1 : DiskG Try.prog w1 d m G (Dk.changeS s)) (ht : Turn (fun i => i = d) w w1) (hg : Dk.getL k.data.toList G = some g)
    (ho : Dk.okS k = true) (hb : Dk.burnt s = false) (hL : Dk.tooLong s k.data.toList data.data.toList = false) (hlen : g.fil.data.length + data.size ≤ 262144)
    (hrow2 : w2.ownsRow 0 5 1 (.slice a' (g.fil.data.length + data.size) c') (g.fil.data.length + data.size) (bcells g.fil.data ++ Lib.strCells data)) (hgrow2 : w1.grownBy w2 g.val.ownBlock)
    (hloc : ∀ b, (Value.slice a' (g.fil.data.length + data.size) c').ownBlock = some b → g.val.ownBlock = some b ∨ w1.heap.size ≤ b)
    {n : Nat} (hm : w3.ownsMap Try.prog 9 ptrR m n ((Dk.toD tok G).put (.string k.data.toList) (tok g))) (htm : (w2.setCell ⟨g.blk, 0, none⟩ (.slice a' (g.fil.data.length + data.size) c')).mapTurned w3 m) :
    Goes w w3 d m G (Dk.appendS s k.data.toList data.data.toList) := by
  have hf1 := h1.files _ (Dk.getL_mem hg)
  have hsz : data.data.toList.length = data.size := rfl
  have hblk : some g.blk ≠ g.val.ownBlock := fun e => file_row hf1 hf1 e.symm rfl
  have hf' : FileAt (w2.setCell ⟨g.blk, 0, none⟩ (.slice a' (g.fil.data.length + data.size) c')) ⟨g.blk, .slice a' (g.fil.data.length + data.size) c', ⟨g.fil.data ++ data.data.toList, g.fil.safe⟩⟩ := by
    have hc2 : w2.heap[g.blk]? = w1.heap[g.blk]? := hgrow2.block g.blk (lt_of hf1.cell) hblk
    refine ⟨?_, ?_, ?_, ?_⟩
    · show (World.heap _)[g.blk]? = _
      rw [heap_setCell_same (hc2.trans hf1.cell)]
      simp
    · show World.ownsRow _ 0 5 1 _ (g.fil.data ++ data.data.toList).length (bcells (g.fil.data ++ data.data.toList))
      rw [List.length_append, hsz, ← bcells_str]
      refine ownsRow_block hrow2 (fun i hi => Below.heap_setCell _ _ _ _ ?_)
      intro e
      have e : i = g.blk := e
      obtain ⟨cur, hc, _⟩ := ownsRow_own hrow2 hi
      rw [e, hc2, hf1.cell] at hc
      simp at hc
    · show g.fil.safe ≤ (g.fil.data ++ data.data.toList).length
      rw [List.length_append]
      have := hf1.safe
      simp only at this
      omega
    · show (g.fil.data ++ data.data.toList).length ≤ 262144
      rw [List.length_append, hsz]
      exact hlen
  have hts : Turn (fileS g) w1 (w2.setCell ⟨g.blk, 0, none⟩ (.slice a' (g.fil.data.length + data.size) c')) :=
    (Turn.ofGrown hgrow2 (fun k hk => Or.inr hk)).trans (Turn.setCell w2 ⟨g.blk, 0, none⟩ _ (Or.inl rfl))
  obtain ⟨hD, hfoot⟩ := h1.setFile hg hts hf' rfl hloc
  have e1 : (Dk.toD tok G).put (.string k.data.toList) (tok g) = Dk.toD tok (Dk.putL k.data.toList ⟨g.blk, .slice a' (g.fil.data.length + data.size) c', ⟨g.fil.data ++ data.data.toList, g.fil.safe⟩⟩ G) := by
    rw [← Dk.toD_put]
    rfl
  rw [e1] at hm
  have hD3 := hD.mapped (turn_of_map htm) hm
  have e : Dk.appendS s k.data.toList data.data.toList = { Dk.changeS s with fs := Dk.putL k.data.toList ⟨g.fil.data ++ data.data.toList, g.fil.safe⟩ (Dk.changeS s).fs } := by
    unfold Dk.appendS
    rw [← okS_def, ho, hL, hb, changeS_fs, fileOr_some h hg]
    rfl
  rw [e]
  refine Goes.of ht ((hts.mono (fun i hi => DiskG.footFile hg i hi)).trans ((turn_of_map htm).mono (fun i hi => Or.inr (Or.inl hi)))) hD3 hfoot

set_option maxRecDepth 100000 in
set_option maxHeartbeats 1000000 in
theorem append_old (k data : ByteArray) (w : World) (h : DiskG Try.prog w d m G s) (hk : k.size ≤ maxLen) (_hds : data.size ≤ maxLen) (ho : Dk.okS k = true) {g : Gc} (hg : Dk.getL k.data.toList G = some g) :
    Calls Try.prog 16 #[.pointer (some ⟨d, 0, none⟩), .string k, .string data] w fun e w' => e = .returned (.int .i64 (Dk.appendE s k.data.toList data.data.toList)) ∧ Goes w w' d m G (Dk.appendS s k.data.toList data.data.toList) := by
  have H : Hid (DiskG Try.prog w d m G s) := h
  have HG : Hid (Dk.getL k.data.toList G = some g) := hg
  have hf := h.files _ (Dk.getL_mem hg)
  obtain ⟨c0, -, -, -⟩ := h.cells
  obtain ⟨c4, -⟩ := hf.cells
  obtain ⟨a, c, hv, -, -, -⟩ := hf.shape
  have hr := h.look_some hk hg
  have hn := hf.len
  simp only at hn hv
  have c4' : w.cell? ⟨g.blk, 0, none⟩ = some (.slice a g.fil.data.length c) := c4.trans (congrArg some hv)
  have HV : Hid (g.val = .slice a g.fil.data.length c) := hv
  have hTL : Dk.tooLong s k.data.toList data.data.toList = decide (262144 < g.fil.data.length + data.size) := by
    unfold Dk.tooLong
    rw [fileOr_some h hg, h.getL_fs, hg]
    simp
  unfold maxLen at _hds
  clear hg hv c4 h hf
  by_cases hlong : (262144 : Int) - (g.fil.data.length : Int) < (data.size : Int)
  · have e0 : Dk.tooLong s k.data.toList data.data.toList = true := by rw [hTL]; simp; omega
    have e1 : Dk.appendE s k.data.toList data.data.toList = 2 := by unfold Dk.appendE; rw [← okS_def, ho, e0]; rfl
    have e2 : Dk.appendS s k.data.toList data.data.toList = s := by unfold Dk.appendS; rw [← okS_def, ho, e0]; rfl
    rw [e1, e2]
    clear e0 e1 e2 hTL
    go_enter Try.func16, Try.ntmps16
    go_wp2_with (go_at_call 36; refine (nameMayBe_any _ _ hk).mono ?_; rintro e w' ⟨rfl, rfl⟩)
    go_ret
    exact ⟨rfl, Goes.stay H.out⟩
  · have e0 : Dk.tooLong s k.data.toList data.data.toList = false := by rw [hTL]; simp; omega
    have HL : Hid (Dk.tooLong s k.data.toList data.data.toList = false) := e0
    have e1 : Dk.appendE s k.data.toList data.data.toList = Dk.changeE s := by unfold Dk.appendE; rw [← okS_def, ho, e0]; rfl
    rw [e1]
    clear e0 e1 hTL
    cases hb : Dk.burnt s with
    | true =>
      have hE := changeE_burnt hb
      rw [show Dk.appendS s k.data.toList data.data.toList = Dk.changeS s from by unfold Dk.appendS; rw [← okS_def, ho, HL.out, hb]; rfl]
      go_enter Try.func16, Try.ntmps16
      go_wp2_with (first
        | (go_at_call 36; refine (nameMayBe_any _ _ hk).mono ?_; rintro e w' ⟨rfl, rfl⟩)
        | (go_at_call 37; refine (change_any _ H.out).mono ?_; rintro e w1 ⟨rfl, h1, ht⟩))
      go_ret
      exact ⟨ret_int hE.symm, Goes.top h1 ht⟩
    | false =>
      have hE := changeE_not hb
      obtain ⟨i0, hi, hz0, hz1, hz2⟩ := info_parts infoB
      have HB : Hid (Dk.burnt s = false) := hb
      clear hb
      go_enter Try.func16, Try.ntmps16
      go_wp2_with (first
        | (go_at_call 36; refine (nameMayBe_any _ _ hk).mono ?_; rintro e w' ⟨rfl, rfl⟩)
        | (go_at_call 37; refine (change_any _ H.out).mono ?_; rintro e w1 ⟨rfl, h1, ht⟩; have hf := h1.files _ (Dk.getL_mem HG.out); have hrow1 : w1.ownsRow 0 5 1 (.slice a g.fil.data.length c) g.fil.data.length (bcells g.fil.data) := HV.out ▸ hf.row; have c5 : w1.cell? ⟨g.blk, 0, none⟩ = some (.slice a g.fil.data.length c) := hf.cells.1.trans (congrArg some HV.out); have c6 : w1.cell? ⟨d, 0, none⟩ = some (.map (some m)) := h1.cells.1)
        | (at_builtin; go_must (refine wpList_append_str _ rfl _ _ 65 9 rfl 5 i0 Try.underlying65 Try.underlying9 hi hz0 hz1 hz2 _ g.fil.data.length (bcells g.fil.data) rfl hrow1 data rfl ?q1 ?q2 ?_)))
      case q1 => unfold maxLen; omega
      case q2 => omega
      intro a' c' w2 hrow2 hgrow2 hloc2
      have hf1 := h1.files _ (Dk.getL_mem HG.out)
      have hblk : some g.blk ≠ (Value.slice a g.fil.data.length c).ownBlock := fun e => file_row hf1 hf1 ((congrArg Value.ownBlock HV.out).trans e.symm) rfl
      have hdb : some d ≠ (Value.slice a g.fil.data.length c).ownBlock := fun e => h1.d_row hf1 ((congrArg Value.ownBlock HV.out).trans e.symm) rfl
      have hmb : some m ≠ (Value.slice a g.fil.data.length c).ownBlock := fun e => h1.m_row hf1 ((congrArg Value.ownBlock HV.out).trans e.symm) rfl
      have c7 := hgrow2.cell c5 hblk
      have f7 : w2.frozen? ⟨g.blk, 0, none⟩ = false := frozen_of ((hgrow2.block _ (lt_of hf1.cell) hblk).trans hf1.cell) 0
      have c8 := hgrow2.cell c6 hdb
      have hdg : d ≠ g.blk := h1.d_file hf1
      have c9 : (w2.setCell ⟨g.blk, 0, none⟩ (.slice a' (g.fil.data.length + data.size) c')).cell? ⟨d, 0, none⟩ = some (.map (some m)) := (World.cell?_of_block (w := w2) (Below.heap_setCell w2 ⟨g.blk, 0, none⟩ _ d hdg)).trans c8
      have M : (w2.setCell ⟨g.blk, 0, none⟩ (.slice a' (g.fil.data.length + data.size) c')).ownsMap Try.prog 9 ptrR m G.length (Dk.toD tok G) :=
        ownsMap_block h1.map ((Below.heap_setCell w2 ⟨g.blk, 0, none⟩ _ m (h1.m_file hf1)).trans (hgrow2.block m h1.map.lt hmb))
      have hfew := h1.few
      go_wp2_with (at_mapUpdate; go_must (refine wpList_mapUpdate_in _ rfl _ _ _ 51 rfl 9 63 keyed Try.underlying51 ptrR m G.length (Dk.toD tok G) rfl M ?q3 _ _ _ rfl rfl (WideMaps.keyOf_string_mk Try.underlying9 hk) (tok g) [] rfl ?_))
      case q3 => unfold maxLen; omega
      intro w3 hown3 hturn3
      go_wp2
      go_ret
      exact ⟨ret_int hE.symm, append_old_end H.out h1 ht HG.out ho HB.out HL.out (by omega) hrow2 (HV.out ▸ hgrow2) (HV.out ▸ hloc2) hown3 hturn3⟩

end
end Go.Proofs.Ytbiombolpfhdlaa
