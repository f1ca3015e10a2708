/- Rename, Remove. -/
import Derived.Test.YtbiombolpfhdlaaCrashW
namespace Go.Proofs.Ytbiombolpfhdlaa
open Go.RowKit Go.Maps

section
variable {d m : Nat} {G : List (List UInt8 × Gc)} {s : Dk.Dsk}

theorem delL_lt {k : List UInt8} {g : Gc} (hg : Dk.getL k G = some g) : (Dk.delL k G).length + 1 ≤ G.length := by
  unfold Dk.delL
  exact List.length_filter_lt_length_iff_exists.2 ⟨_, Dk.getL_mem hg, by simp⟩

theorem turn_cell {w w' : World} {S : Nat → Prop} (h : Turn S w w') {b i : Nat} {v : Value} (hc : w.cell? ⟨b, i, none⟩ = some v) (hb : b < w.heap.size) (hS : ¬ S b) : w'.cell? ⟨b, i, none⟩ = some v :=
  (World.cell?_of_block (w := w) (a := ⟨b, i, none⟩) (h.block b hb hS)).trans hc

theorem remove_end {w w1 w2 : World} {k : ByteArray} (h1 : DiskG Try.prog w1 d m G (Dk.changeS s)) (ht : Turn (fun i => i = d) w w1) (hb : Dk.burnt s = false) (hE : Dk.findE s k.data.toList = 0)
    {n : Nat} (hm : w2.ownsMap Try.prog 9 ptrR m n ((Dk.toD tok G).del (.string k.data.toList))) (htm : w1.mapTurned w2 m) : Goes w w2 d m G (Dk.removeS s k.data.toList) := by
  rw [Dk.toD_del] at hm
  have hD := h1.delFile (turn_of_map htm) hm
  have e : Dk.removeS s k.data.toList = { Dk.changeS s with fs := Dk.delL k.data.toList (Dk.changeS s).fs } := by
    unfold Dk.removeS
    rw [if_pos hE, hb, changeS_fs]
    rfl
  rw [e]
  refine Goes.of ht ((turn_of_map htm).mono (fun i hi => Or.inr (Or.inl hi))) hD (fun i hi => Or.inl ?_)
  rcases hi with rfl | rfl | ⟨p, hp, hi⟩
  · exact Or.inl rfl
  · exact Or.inr (Or.inl rfl)
  · exact Or.inr (Or.inr ⟨p, (Dk.mem_delL.1 hp).1, hi⟩)

theorem rename_end {w w1 w2 w3 : World} {k k' : ByteArray} {g : Gc} (h : DiskG Try.prog w d m G s) (h1 : DiskG Try.prog w1 d m G (Dk.changeS s)) (ht : Turn (fun i => i = d) w w1) (hg : Dk.getL k.data.toList G = some g) (hb : Dk.burnt s = false) (hE : Dk.findE s k.data.toList = 0)
    (ho : Dk.okS k = true) (ho' : Dk.okS k' = true)
    {n : Nat} (hm : w2.ownsMap Try.prog 9 ptrR m n ((Dk.toD tok G).del (.string k.data.toList))) (htm : w1.mapTurned w2 m)
    {n' : Nat} (hm' : w3.ownsMap Try.prog 9 ptrR m n' (((Dk.toD tok G).del (.string k.data.toList)).put (.string k'.data.toList) (tok g))) (htm' : w2.mapTurned w3 m) : Goes w w3 d m G (Dk.renameS s k.data.toList k'.data.toList) := by
  rw [Dk.toD_del] at hm hm'
  rw [Dk.toD_put] at hm'
  have hD := h1.delFile (turn_of_map htm) hm
  have hmem := Dk.getL_mem hg
  have hf1 := h1.files _ hmem
  have t13 : Turn (fun i => i = m) w1 w3 := (turn_of_map htm).trans (turn_of_map htm')
  have hf3 : FileAt w3 g := by
    refine hf1.kept (t13.block _ (lt_of hf1.cell) (h1.m_file hf1).symm) (fun i hi => ?_)
    obtain ⟨cur, hc, _⟩ := ownsRow_own hf1.row hi
    exact t13.block i (lt_of hc) (h1.m_row hf1 hi).symm
  have hlen := delL_lt hg
  have hfew := h1.few
  have hD3 := hD.putFile (turn_of_map htm') hm' hf3 ho' (fun p hp _ => h1.apart_of hmem (Dk.mem_delL.1 hp).1 (Dk.mem_delL.1 hp).2.symm) (by
    unfold Dk.putL
    rw [Dk.length_insL]
    have := List.length_filter_le (fun p : List UInt8 × Gc => !(p.1 == k'.data.toList)) (Dk.delL k.data.toList G)
    unfold Dk.delL at *
    omega)
  have e : Dk.renameS s k.data.toList k'.data.toList = { Dk.changeS s with fs := Dk.putL k'.data.toList g.fil (Dk.delL k.data.toList (Dk.changeS s).fs) } := by
    unfold Dk.renameS
    rw [← okS_def, ← okS_def, ho, ho', if_pos hE, hb, changeS_fs, fileOr_some h hg]
    rfl
  rw [e]
  refine Goes.of ht (t13.mono (fun i hi => Or.inr (Or.inl hi))) hD3 (fun i hi => Or.inl ?_)
  rcases hi with rfl | rfl | ⟨p, hp, hi⟩
  · exact Or.inl rfl
  · exact Or.inr (Or.inl rfl)
  · unfold Dk.putL at hp
    rcases Dk.mem_insL.1 hp with rfl | hp
    · exact Or.inr (Or.inr ⟨_, hmem, hi⟩)
    · exact Or.inr (Or.inr ⟨p, (Dk.mem_delL.1 (Dk.mem_delL.1 hp).1).1, hi⟩)

set_option maxRecDepth 100000 in
set_option maxHeartbeats 1000000 in
theorem remove_any (k : ByteArray) (w : World) (h : DiskG Try.prog w d m G s) (hk : k.size ≤ maxLen) :
    Calls Try.prog 27 #[.pointer (some ⟨d, 0, none⟩), .string k] w fun e w' => e = .returned (.int .i64 (Dk.removeE s k.data.toList)) ∧ Goes w w' d m G (Dk.removeS s k.data.toList) := by
  have H : Hid (DiskG Try.prog w d m G s) := h
  cases ho : Dk.okS k with
  | false =>
    have HF : Hid (Dk.findE s k.data.toList = 10) := findE_bad ho
    go_enter Try.func27, Try.ntmps27
    go_wp2_with (go_at_call 38; refine (find_bad _ _ hk ho).mono ?_; rintro e w' ⟨rfl, rfl⟩)
    go_ret
    refine ⟨ret_int (by unfold Dk.removeE; rw [HF.out]; rfl), ?_⟩
    rw [show Dk.removeS s k.data.toList = s from by unfold Dk.removeS; rw [HF.out]; rfl]
    exact Goes.stay H.out
  | true =>
    cases hg : Dk.getL k.data.toList G with
    | none =>
      have HF : Hid (Dk.findE s k.data.toList = 5) := findE_none h ho hg
      have HG : Hid (Dk.getL k.data.toList G = none) := hg
      clear hg
      go_enter Try.func27, Try.ntmps27
      go_wp2_with (go_at_call 38; refine (find_none _ _ H.out hk ho HG.out).mono ?_; rintro e w' ⟨rfl, rfl⟩)
      go_ret
      refine ⟨ret_int (by unfold Dk.removeE; rw [HF.out]; rfl), ?_⟩
      rw [show Dk.removeS s k.data.toList = s from by unfold Dk.removeS; rw [HF.out]; rfl]
      exact Goes.stay H.out
    | some g =>
      have HF : Hid (Dk.findE s k.data.toList = 0) := findE_some h ho hg
      have HG : Hid (Dk.getL k.data.toList G = some g) := hg
      clear hg
      cases hb : Dk.burnt s with
      | true =>
        have hE := changeE_burnt hb
        go_enter Try.func27, Try.ntmps27
        go_wp2_with (first
          | (go_at_call 38; refine (find_some _ _ H.out hk ho HG.out).mono ?_; rintro e w' ⟨rfl, rfl⟩)
          | (go_at_call 37; refine (change_any _ H.out).mono ?_; rintro e w1 ⟨rfl, h1, ht⟩))
        go_ret
        refine ⟨ret_int (by unfold Dk.removeE; rw [if_pos HF.out, hE]), ?_⟩
        rw [show Dk.removeS s k.data.toList = Dk.changeS s from by unfold Dk.removeS; rw [if_pos HF.out, hb]; rfl]
        exact Goes.top h1 ht
      | false =>
        have hE := changeE_not hb
        go_enter Try.func27, Try.ntmps27
        go_wp2_with (first
          | (go_at_call 38; refine (find_some _ _ H.out hk ho HG.out).mono ?_; rintro e w' ⟨rfl, rfl⟩)
          | (go_at_call 37; refine (change_any _ H.out).mono ?_; rintro e w1 ⟨rfl, h1, ht⟩; have c0 := h1.cells.1; have M1 := h1.map)
          | (at_delete; go_must (refine wpList_delete_own _ rfl _ _ 51 9 rfl 63 keyed Try.underlying51 ptrR m G.length (Dk.toD tok G) rfl M1 _ _ rfl (WideMaps.keyOf_string_mk Try.underlying9 hk) ?_; intro w2 hown2 hturn2)))
        go_ret
        refine ⟨ret_int (by unfold Dk.removeE; rw [if_pos HF.out, hE]), ?_⟩
        exact remove_end h1 ht hb HF.out hown2 hturn2

set_option maxRecDepth 100000 in
set_option maxHeartbeats 1000000 in
theorem rename_any (k k' : ByteArray) (w : World) (h : DiskG Try.prog w d m G s) (hk : k.size ≤ maxLen) (hk' : k'.size ≤ maxLen) :
    Calls Try.prog 18 #[.pointer (some ⟨d, 0, none⟩), .string k, .string k'] w fun e w' => e = .returned (.int .i64 (Dk.renameE s k.data.toList k'.data.toList)) ∧ Goes w w' d m G (Dk.renameS s k.data.toList k'.data.toList) := by
  have H : Hid (DiskG Try.prog w d m G s) := h
  cases ho : Dk.okS k with
  | false =>
    have e1 : Dk.renameE s k.data.toList k'.data.toList = 10 := by unfold Dk.renameE; rw [← okS_def, ho]; rfl
    have e2 : Dk.renameS s k.data.toList k'.data.toList = s := by unfold Dk.renameS; rw [← okS_def, ho]; rfl
    rw [e1, e2]
    clear e1 e2
    go_enter Try.func18, Try.ntmps18
    go_wp2_with (go_at_call 36; refine (nameMayBe_any _ _ hk).mono ?_; rintro e w' ⟨rfl, rfl⟩)
    go_ret
    exact ⟨rfl, Goes.stay H.out⟩
  | true =>
    cases ho' : Dk.okS k' with
    | false =>
      have e1 : Dk.renameE s k.data.toList k'.data.toList = 10 := by unfold Dk.renameE; rw [← okS_def, ← okS_def, ho, ho']; rfl
      have e2 : Dk.renameS s k.data.toList k'.data.toList = s := by unfold Dk.renameS; rw [← okS_def, ← okS_def, ho, ho']; rfl
      rw [e1, e2]
      clear e1 e2
      go_enter Try.func18, Try.ntmps18
      go_wp2_with fail
      refine (nameMayBe_any _ _ hk).mono ?_
      rintro e w' ⟨rfl, rfl⟩
      go_wp2_with fail
      refine (nameMayBe_any _ _ hk').mono ?_
      rintro e w' ⟨rfl, rfl⟩
      go_wp2_with fail
      go_ret
      exact ⟨rfl, Goes.stay H.out⟩
    | true =>
      have hRE : Dk.renameE s k.data.toList k'.data.toList = if Dk.findE s k.data.toList = 0 then Dk.changeE s else Dk.findE s k.data.toList := by unfold Dk.renameE; rw [← okS_def, ← okS_def, ho, ho']; rfl
      have HRE : Hid (Dk.renameE s k.data.toList k'.data.toList = if Dk.findE s k.data.toList = 0 then Dk.changeE s else Dk.findE s k.data.toList) := hRE
      have HRS : Hid (Dk.renameS s k.data.toList k'.data.toList = if Dk.findE s k.data.toList = 0 then (if Dk.burnt s then Dk.changeS s else { Dk.changeS s with fs := Dk.putL k'.data.toList (Dk.fileOr (Dk.getL k.data.toList s.fs)) (Dk.delL k.data.toList s.fs) }) else s) := by
        show _ = _
        unfold Dk.renameS; rw [← okS_def, ← okS_def, ho, ho']; rfl
      clear hRE
      cases hg : Dk.getL k.data.toList G with
      | none =>
        have HF : Hid (Dk.findE s k.data.toList = 5) := findE_none h ho hg
        have HG : Hid (Dk.getL k.data.toList G = none) := hg
        have HE5 : Hid (Dk.renameE s k.data.toList k'.data.toList = 5) := by show _ = _; rw [HRE.out, HF.out]; rfl
        have HS5 : Hid (Dk.renameS s k.data.toList k'.data.toList = s) := by show _ = _; rw [HRS.out, HF.out]; rfl
        clear hg
        go_enter Try.func18, Try.ntmps18
        go_wp2_with fail
        refine (nameMayBe_any _ _ hk).mono ?_
        rintro e w' ⟨rfl, rfl⟩
        go_wp2_with fail
        refine (nameMayBe_any _ _ hk').mono ?_
        rintro e w' ⟨rfl, rfl⟩
        go_wp2_with fail
        refine (find_none _ _ H.out hk ho HG.out).mono ?_
        rintro e w' ⟨rfl, rfl⟩
        go_wp2_with fail
        go_ret
        rw [HE5.out, HS5.out]
        exact ⟨rfl, Goes.stay H.out⟩
      | some g =>
        have HF : Hid (Dk.findE s k.data.toList = 0) := findE_some h ho hg
        have HG : Hid (Dk.getL k.data.toList G = some g) := hg
        clear hg
        cases hb : Dk.burnt s with
        | true =>
          have hE := changeE_burnt hb
          have HE5 : Hid (Dk.renameE s k.data.toList k'.data.toList = 11) := by show _ = _; rw [HRE.out, if_pos HF.out, hE]
          have HS5 : Hid (Dk.renameS s k.data.toList k'.data.toList = Dk.changeS s) := by show _ = _; rw [HRS.out, if_pos HF.out, hb]; rfl
          go_enter Try.func18, Try.ntmps18
          go_wp2_with fail
          refine (nameMayBe_any _ _ hk).mono ?_
          rintro e w' ⟨rfl, rfl⟩
          go_wp2_with fail
          refine (nameMayBe_any _ _ hk').mono ?_
          rintro e w' ⟨rfl, rfl⟩
          go_wp2_with fail
          refine (find_some _ _ H.out hk ho HG.out).mono ?_
          rintro e w' ⟨rfl, rfl⟩
          go_wp2_with fail
          refine (change_any _ H.out).mono ?_
          rintro e w1 ⟨rfl, h1, ht⟩
          go_wp2_with fail
          go_ret
          rw [HE5.out, HS5.out]
          exact ⟨rfl, Goes.top h1 ht⟩
        | false =>
          have hE := changeE_not hb
          have HE5 : Hid (Dk.renameE s k.data.toList k'.data.toList = 0) := by show _ = _; rw [HRE.out, if_pos HF.out, hE]
          have HB : Hid (Dk.burnt s = false) := hb
          have hn64 := h.few
          clear hb
          go_enter Try.func18, Try.ntmps18
          go_wp2_with fail
          refine (nameMayBe_any _ _ hk).mono ?_
          rintro e w' ⟨rfl, rfl⟩
          go_wp2_with fail
          refine (nameMayBe_any _ _ hk').mono ?_
          rintro e w' ⟨rfl, rfl⟩
          go_wp2_with fail
          refine (find_some _ _ H.out hk ho HG.out).mono ?_
          rintro e w' ⟨rfl, rfl⟩
          go_wp2_with fail
          refine (change_any _ H.out).mono ?_
          rintro e w1 ⟨rfl, h1, ht⟩
          have c0 := h1.cells.1
          have M1 := h1.map
          have hd1 : d < w1.heap.size := lt_of h1.top
          have hmd := h1.m_d
          go_wp2_with (at_delete; go_must (refine wpList_delete_own _ rfl _ _ 51 9 rfl 63 keyed Try.underlying51 ptrR m G.length (Dk.toD tok G) rfl M1 _ _ rfl (WideMaps.keyOf_string_mk Try.underlying9 hk) ?_))
          intro w2 hown2 hturn2
          have c1 : w2.cell? ⟨d, 0, none⟩ = some (.map (some m)) := turn_cell (turn_of_map hturn2) c0 hd1 (fun e => hmd e.symm)
          go_wp2_with (at_mapUpdate; go_must (refine wpList_mapUpdate_in _ rfl _ _ _ 51 rfl 9 63 keyed Try.underlying51 ptrR m G.length _ rfl hown2 ?q3 _ _ _ rfl rfl (WideMaps.keyOf_string_mk Try.underlying9 hk') (tok g) [] rfl ?_))
          case q3 => unfold maxLen; omega
          intro w3 hown3 hturn3
          go_wp2
          go_ret
          rw [HE5.out]
          exact ⟨rfl, rename_end H.out h1 ht HG.out HB.out HF.out ho ho' hown2 hturn2 hown3 hturn3⟩

end
end Go.Proofs.Ytbiombolpfhdlaa
