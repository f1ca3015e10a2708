import Derived.Test.YtigegdelhpdlhaaGreatDoorJMarkJ
import Derived.RegionDies
import Derived.Deep.RegionWith
import Derived.Test.YtigegdelhpdlhaaGreatDoorJFlushJ
/- Layer 18: a disk that refuses what is written: flush and mark give up with its error. (By jdown.py.) -/
namespace Go.Proofs.YtigegdelhpdlhaaGreatDoor
open Go.RowKit QP

section
variable {d : Nat} {s s2 : Dk.Dsk} {w : World} {F : Nat → Prop}
set_option maxHeartbeats 1000000 in
theorem jwriteD_down1 (n : Int) (hn : n ≠ 0) (k data : ByteArray) (h : DiskI d s w F) (hk : k.size ≤ maxLen) (hds : data.size ≤ maxLen) (h1 : Dk.appendE s k.data.toList data.data.toList = n) :
    Calls Tryz.prog 67 #[.pointer (some ⟨d, 0, none⟩), .string k, .string data] w fun e w' => e = .panicked (mis n) ∧ Goes (DiskI d (Dk.appendS s k.data.toList data.data.toList)) w w' F := by
  have HA : Hid (Calls Tryz.prog 24 #[.pointer (some ⟨d, 0, none⟩), .string k, .string data] w fun e w' => e = .returned (.int .i64 n) ∧ Goes (DiskI d (Dk.appendS s k.data.toList data.data.toList)) w w' F) := by
    have := dappend_i k data h hk hds
    rw [h1] at this
    exact this
  have HM : Hid (∀ u, Calls Tryz.prog 60 #[.int .i64 n] u fun r w' => r = .panicked (mis n) ∧ u = w') := fun u => (must_yes n hn u).mono fun _ _ h => ⟨h.1, h.2.symm⟩
  clear h h1 hn
  go_enter Tryz.func67, Tryz.ntmps67
  go_wp2_with (go_at_call 24; (with_reducible refine HA.out.mono ?_); rintro e w1 ⟨rfl, hg1⟩)
  refine (HM.out _).mono ?_
  rintro e w2 ⟨rfl, rfl⟩
  exact ⟨rfl, rfl, hg1⟩
set_option maxHeartbeats 1000000 in
theorem jwriteD_down2 (n : Int) (hn : n ≠ 0) (k data : ByteArray) (h : DiskI d s w F) (hk : k.size ≤ maxLen) (hds : data.size ≤ maxLen) (h1 : Dk.appendE s k.data.toList data.data.toList = 0) (h2 : Dk.syncE (Dk.appendS s k.data.toList data.data.toList) k.data.toList = n) :
    Calls Tryz.prog 67 #[.pointer (some ⟨d, 0, none⟩), .string k, .string data] w fun e w' => e = .panicked (mis n) ∧ Goes (DiskI d (Dk.syncS (Dk.appendS s k.data.toList data.data.toList) k.data.toList)) w w' F := by
  have HA : Hid (Calls Tryz.prog 24 #[.pointer (some ⟨d, 0, none⟩), .string k, .string data] w fun e w' => e = .returned (.int .i64 0) ∧ Goes (DiskI d (Dk.appendS s k.data.toList data.data.toList)) w w' F) := by
    have := dappend_i k data h hk hds
    rw [h1] at this
    exact this
  have HS : Hid (∀ u F', DiskI d (Dk.appendS s k.data.toList data.data.toList) u F' → Calls Tryz.prog 25 #[.pointer (some ⟨d, 0, none⟩), .string k] u fun e w' => e = .returned (.int .i64 n) ∧ Goes (DiskI d (Dk.syncS (Dk.appendS s k.data.toList data.data.toList) k.data.toList)) u w' F') := fun u F' hu => by
    have := dsync_i k hu hk
    rw [h2] at this
    exact this
  have HM0 : Hid (∀ u, Calls Tryz.prog 60 #[.int .i64 0] u fun r w' => r = .returned (.tuple #[]) ∧ u = w') := fun u => (must_no u).mono fun _ _ h => ⟨h.1, h.2.symm⟩
  have HM : Hid (∀ u, Calls Tryz.prog 60 #[.int .i64 n] u fun r w' => r = .panicked (mis n) ∧ u = w') := fun u => (must_yes n hn u).mono fun _ _ h => ⟨h.1, h.2.symm⟩
  clear h h1 h2 hn
  go_enter Tryz.func67, Tryz.ntmps67
  go_wp2_with (first
    | (go_at_call 24; (with_reducible refine HA.out.mono ?_); rintro e w1 ⟨rfl, hg1⟩; obtain ⟨F1, i1, t1, n1⟩ := id hg1; have HS1 := HS.out w1 F1 i1)
    | (go_at_call 25; (with_reducible refine HS1.mono ?_); rintro e w2 ⟨rfl, hg2⟩; clear HS1)
    | (go_at_call 60; (with_reducible refine (HM0.out _).mono ?_); rintro e w3 ⟨rfl, rfl⟩))
  refine (HM.out _).mono ?_
  rintro e w3 ⟨rfl, rfl⟩
  exact ⟨rfl, rfl, hg2.step t1 n1⟩
end

set_option maxRecDepth 100000 in
set_option maxHeartbeats 2000000 in
theorem jflush_down (t k : ByteArray) (l d i : Nat) (s : Dk.Dsk) (L : Lg) (wk : Wk) (w : World) (F : Nat → Prop) (h : LD t k l d s L w F) (hwk : L.ws[i]? = some wk) (h0 : wk.1 ≠ []) (hi10 : i < 10) (hg : L.gen < 100) (ht : t.size ≤ 100) (hk : k.size ≤ 100) (s2 : Dk.Dsk) (n : Int)
    (hW : ∀ u F' (Dat : ByteArray), Dat.data.toList = flatF (wk.1.map (bodyN t k)) → Dat.size ≤ maxLen → (logB i L.gen).size ≤ maxLen → DiskI d s u F' → Calls Tryz.prog 67 #[.pointer (some ⟨d, 0, none⟩), .string (logB i L.gen), .string Dat] u fun e w' => e = .panicked (mis n) ∧ Goes (DiskI d s2) u w' F') :
    Calls Tryz.prog 39 #[.pointer (some ⟨l, 0, none⟩), .int .i64 (i : Int)] w fun e w' => e = .panicked (mis n) ∧ Goes (LD t k l d s2 L) w w' F := by
  obtain ⟨A, B, hD, ⟨b, vs, hG, hB⟩, hAB, hAF, hBF, hFAB⟩ := id h
  have hi : i < L.ws.length := (List.getElem?_eq_some_iff.1 hwk).1
  have hv : vs[i]? = some (vs[i]'(by rw [hG.len]; exact hi)) := List.getElem?_eq_getElem _
  obtain ⟨v, hve⟩ : ∃ v, (vs[i]'(by rw [hG.len]; exact hi)) = v := ⟨_, rfl⟩
  rw [hve] at hv
  obtain ⟨c0, _⟩ := hG.wk hv hwk
  have ho := hG.own i _ _ hv hwk
  have hfew := (hG.few.2 wk (List.mem_of_getElem? hwk)).1
  obtain ⟨a, m, hvs⟩ := row_shapeJ ho
  obtain ⟨N, hN⟩ : ∃ N, wk.1.length = N := ⟨_, rfl⟩
  have hN0 : 0 < N := by rw [← hN]; exact List.length_pos_iff.2 h0
  obtain ⟨Dat, hDat⟩ : ∃ D : ByteArray, (⟨(flatF (wk.1.map (bodyN t k))).toArray⟩ : ByteArray) = D := ⟨_, rfl⟩
  have hDl : Dat.data.toList = flatF (wk.1.map (bodyN t k)) := by rw [← hDat]
  have hDs : Dat.size ≤ maxLen := by
    have e1 : Dat.size = Dat.data.toList.length := rfl
    have e2 := lineF_len t k wk.1
    rw [e1, hDl, e2]
    have : wk.1.length * (t.size + k.size + 59) ≤ 1000 * 259 := Nat.mul_le_mul hfew (by omega)
    unfold maxLen
    omega
  obtain ⟨nm, hnm⟩ : ∃ n, logB i L.gen = n := ⟨_, rfl⟩
  have hns : nm.size ≤ maxLen := by
    rw [← hnm]
    have := (nameF_at hi10 hg).size.2
    unfold maxLen
    omega
  rw [hnm] at hW
  have hW2 := fun u F' hu => hW u F' Dat hDl hDs hns hu
  have HWk : Hid (Calls Tryz.prog 53 #[.pointer (some ⟨l, 0, none⟩), .int .i64 (i : Int)] w fun e w' => e = .returned (.pointer (some ⟨b, i * 2, none⟩)) ∧ w = w') := jworker_any l d b L.ws.length i _ _ w hG.top hi
  have HFi : Hid (Calls Tryz.prog 66 #[.pointer (some ⟨b, i * 2, none⟩)] w fun e w' => e = .returned (.tuple #[.string Dat, .int .i64 (N : Int)]) ∧ Below w.heap.size w w') := by
    have := jfirst_any t k b (i * 2) v wk.1 w c0 ho hfew ht hk
    rw [hDat, hN] at this
    exact this
  have HNm : Hid (∀ u, Calls Tryz.prog 68 #[.int .i64 (i : Int), .int .i64 (L.gen : Int)] u fun e w' => e = .returned (.string nm) ∧ u = w') := fun u => by
    have := logName_any i L.gen u hi10 hg
    rw [hnm] at this
    exact this
  have HWr : Hid (∀ u, Below w.heap.size w u → Calls Tryz.prog 67 #[.pointer (some ⟨d, 0, none⟩), .string nm, .string Dat] u fun e w' => e = .panicked (mis n) ∧ Hid (Goes (LD t k l d s2 L) w w' F)) := fun u hu => by
    have hAu : DiskI d s u A := (DiskI.res d s).kept (S := fun _ => False) hD (Turn.ofBelow _ hu) (fun _ _ h => h)
    have hBu : LogI t k l d L u B := (logI_res t k l d L).kept (S := fun _ => False) ⟨b, vs, hG, hB⟩ (Turn.ofBelow _ hu) (fun _ _ h => h)
    refine (hW2 u A hAu).mono ?_
    rintro e w' ⟨e1, hg1⟩
    exact ⟨e1, (Sep.goL (logI_res t k l d L) hBu hAB hAF hBF hg1).after hu⟩
  have cw : w.cell? ⟨b, i * 2, none⟩ = some (.slice a N m) := by rw [c0, hvs, hN]
  have HL : Hid (w.heap[l]? = some (.cells #[.pointer (some ⟨d, 0, none⟩), .slice (some ⟨b, 0, none⟩) L.ws.length L.ws.length, .int .i64 (L.dur : Int), .int .i64 (L.gen : Int)] 103 (0, 0))) := hG.top
  have HC : Hid (∀ u, Below w.heap.size w u → u.cell? ⟨l, 0, none⟩ = some (.pointer (some ⟨d, 0, none⟩)) ∧ u.cell? ⟨l, 3, none⟩ = some (.int .i64 (L.gen : Int))) := fun u hu => by
    have hlu := (hu.block l (lt_of hG.top)).trans hG.top
    exact ⟨by rw [cell_of hlu]; rfl, by rw [cell_of hlu]; rfl⟩
  obtain ⟨G, hGe⟩ : ∃ G, L.gen = G := ⟨_, rfl⟩
  rw [hGe] at HNm HC
  have hN1 : (0 : Int) < (N : Int) := by omega
  clear hD hG hB hAB hAF hBF hFAB h hwk h0 hi hv hve c0 ho hfew hvs hN hDat hDl hDs hnm hns hW hW2 HL hi10 hg ht hk hGe
  go_enter Tryz.func39, Tryz.ntmps39
  go_wp2_with (go_at_call 53; (with_reducible refine HWk.out.mono ?_); rintro e w1 ⟨rfl, rfl⟩)
  refine wp_loop_rounds 1 ?_
  rw [rounds_succ]
  go_wp2_with (go_at_call 66; (with_reducible refine HFi.out.mono ?_); rintro e w2 ⟨rfl, hb2⟩; obtain ⟨q0, q3⟩ := HC.out w2 hb2; have HB2 : Hid (Below w.heap.size w w2) := hb2; clear hb2)
  have HWr2 : Hid (∀ u, Below w2.heap.size w2 u → Calls Tryz.prog 67 #[.pointer (some ⟨d, 0, none⟩), .string nm, .string Dat] u fun e w' => e = .panicked (mis n) ∧ Hid (Goes (LD t k l d s2 L) w w' F)) := fun u hu => HWr.out u (HB2.out.trans (hu.mono HB2.out.size))
  clear HC HWr HWk HFi
  go_region_dies
  all_goals
    (with_reducible refine (HNm.out _).mono ?_)
    rintro e w3 ⟨rfl, rfl⟩
    rename_i K hK
    refine hK _ _ ?_
    clear hK K
    first
      | (refine wpAny_ready (rs := [11]) (by kernel_rfl) (by simp) ?_; refine AllReady.cons rfl (fun K hK => ?_) AllReady.nil; go_simp; (with_reducible refine (HWr2.out _ (by go_grown)).mono ?_); rintro e w4 ⟨rfl, HG4⟩; exact ⟨rfl, rfl, HG4.out⟩)
      | (refine wpAny_ready (rs := [3]) (by kernel_rfl) (by simp) ?_; refine AllReady.cons rfl (fun K hK => ?_) AllReady.nil; go_simp; refine hK _ _ ?_; clear hK K; refine wpAny_ready (rs := [11]) (by kernel_rfl) (by simp) ?_; refine AllReady.cons rfl (fun K hK => ?_) AllReady.nil; go_simp; (with_reducible refine (HWr2.out _ (by go_grown)).mono ?_); rintro e w4 ⟨rfl, HG4⟩; exact ⟨rfl, rfl, HG4.out⟩)

set_option maxRecDepth 100000 in
set_option maxHeartbeats 4000000 in
theorem jmark_down (t k : ByteArray) (l d ep : Nat) (s : Dk.Dsk) (L : Lg) (w : World) (F : Nat → Prop) (h : LD t k l d s L w F) (he : L.dur < ep) (he2 : ep ≤ 2147483648) (hall : ∀ wk ∈ L.ws, wk.1 = []) (s2 : Dk.Dsk) (n : Int)
    (hW : ∀ u F', (frameB (markN ep)).size ≤ maxLen → DiskI d s u F' → Calls Tryz.prog 67 #[.pointer (some ⟨d, 0, none⟩), .string ⟨#[101, 112, 111, 99, 104]⟩, .string (frameB (markN ep))] u fun e w' => e = .panicked (mis n) ∧ Goes (DiskI d s2) u w' F') :
    Calls Tryz.prog 41 #[.pointer (some ⟨l, 0, none⟩), .int .i64 (ep : Int)] w fun e w' => e = .panicked (mis n) ∧ Goes (LD t k l d s2 L) w w' F := by
  obtain ⟨A, B, hD, ⟨b, vs, hG, hB⟩, hAB, hAF, hBF, hFAB⟩ := id h
  have hfs : (frameB (markN ep)).size ≤ maxLen := by rw [frameB_size, markN_size]; decide
  obtain ⟨Fr, hFr⟩ : ∃ f, frameB (markN ep) = f := ⟨_, rfl⟩
  have HMk : Hid (∀ u, Calls Tryz.prog 70 #[.int .i64 (ep : Int)] u fun e w' => e = .returned (.string Fr) ∧ Below u.heap.size u w') := fun u => by
    rw [← hFr]
    exact jmarkOf_any ep u he2
  rw [hFr] at hfs hW
  have HWr : Hid (∀ u, Below w.heap.size w u → Calls Tryz.prog 67 #[.pointer (some ⟨d, 0, none⟩), .string ⟨#[101, 112, 111, 99, 104]⟩, .string Fr] u fun e w' => e = .panicked (mis n) ∧ Hid (Goes (LD t k l d s2 L) w w' F)) := fun u hu => by
    have hAu : DiskI d s u A := (DiskI.res d s).kept (S := fun _ => False) hD (Turn.ofBelow _ hu) (fun _ _ h => h)
    have hBu : LogI t k l d L u B := (logI_res t k l d L).kept (S := fun _ => False) ⟨b, vs, hG, hB⟩ (Turn.ofBelow _ hu) (fun _ _ h => h)
    refine (hW u A hfs hAu).mono ?_
    rintro e w' ⟨e1, hg1⟩
    exact ⟨e1, (Sep.goL (logI_res t k l d L) hBu hAB hAF hBF hg1).after hu⟩
  have HC : Hid (∀ u : World, u.heap[l]? = w.heap[l]? → u.cell? ⟨l, 0, none⟩ = some (.pointer (some ⟨d, 0, none⟩)) ∧ u.cell? ⟨l, 1, none⟩ = some (.slice (some ⟨b, 0, none⟩) L.ws.length L.ws.length) ∧ u.cell? ⟨l, 2, none⟩ = some (.int .i64 (L.dur : Int)) ∧ u.frozen? ⟨l, 2, none⟩ = false) := fun u hu => by
    have hlu := hu.trans hG.top
    exact ⟨by rw [cell_of hlu]; rfl, by rw [cell_of hlu]; rfl, by rw [cell_of hlu]; rfl, frozen_of hlu _⟩
  have HL : Hid (∀ u, Below w.heap.size w u → u.heap[l]? = w.heap[l]?) := fun u hu => hu.block l (lt_of hG.top)
  have HV : Hid (∀ (u : World) (j : Nat), Below w.heap.size w u → j < L.ws.length → ∃ a m, ∃ lst : Nat, u.cell? ⟨b, j * 2, none⟩ = some (.slice a 0 m) ∧ u.cell? ⟨b, j * 2 + 1, none⟩ = some (.int .u64 (lst : Int))) := fun u j hu hj => by
    have hv : vs[j]? = some (vs[j]'(by rw [hG.len]; exact hj)) := List.getElem?_eq_getElem _
    have hw : L.ws[j]? = some L.ws[j] := List.getElem?_eq_getElem _
    obtain ⟨c0, c1⟩ := hG.wk hv hw
    obtain ⟨a, m, e⟩ := row_shapeJ (hG.own j _ _ hv hw)
    have he0 := hall _ (List.getElem_mem hj)
    rw [he0] at e
    obtain ⟨cur, hcur, _⟩ := hG.row
    refine ⟨a, m, L.ws[j].2, ?_, ?_⟩
    · rw [hu.cell (p := ⟨b, j * 2, none⟩) (lt_of hcur), c0, e]
      rfl
    · rw [hu.cell (p := ⟨b, j * 2 + 1, none⟩) (lt_of hcur), c1]
  have HRf : Hid (∀ z u, Calls Tryz.prog 55 #[.bool false, .int .i64 z] u fun r w' => r = .returned (.tuple #[]) ∧ u = w') := fun z u => (refuse_no z u).mono fun _ _ h => ⟨h.1, h.2.symm⟩
  obtain ⟨N, hN⟩ : ∃ N, L.ws.length = N := ⟨_, rfl⟩
  have hN16 : N ≤ 16 := by rw [← hN]; exact hG.few.1
  obtain ⟨D, hDd⟩ : ∃ D, L.dur = D := ⟨_, rfl⟩
  rw [hN] at HC HV
  rw [hDd] at HC he
  obtain ⟨q0, q1, q2, q3⟩ := HC.out w rfl
  have c1 : decide ((ep : Int) ≤ (D : Int)) = false := decide_eq_false (by omega)
  have c2 : ¬ (ep : Int) ≤ (D : Int) := by omega
  have c3 : decide ((2147483648 : Int) < (ep : Int)) = false := decide_eq_false (by omega)
  have c4 : decide (ep ≤ D) = false := decide_eq_false (by omega)
  have c5 : decide (2147483648 < ep) = false := decide_eq_false (by omega)
  have c6 : ¬ (2147483648 : Int) < (ep : Int) := by omega
  clear hD hG hB hAB hAF hBF hFAB h hW hN hDd hFr hfs hall he he2
  go_enter Tryz.func41, Tryz.ntmps41
  go_wp2_with (go_at_call 55; (with_reducible refine (HRf.out _ _).mono ?_); rintro e w4 ⟨rfl, rfl⟩)
  clear q0 q1 q2 q3
  go_loopw [22] (fun i wr => ∃ j : Nat, j ≤ N ∧ i = .int .i64 j ∧ Hid (Below w.heap.size w wr)) (fun i _ => N - (intOf i).toNat)
  case atStart => exact ⟨0, Nat.zero_le _, rfl, Below.refl _ _⟩
  case round =>
    obtain ⟨j, hj, rfl, HB⟩ := hrel
    by_cases hlt : j < N
    · have hlI : (j : Int) < (N : Int) := by omega
      obtain ⟨a, m, lst, c7, c8⟩ := HV.out wr j HB.out hlt
      go_wp2_with (go_at_call 55; (with_reducible refine (HRf.out _ _).mono ?_); rintro e w4 ⟨rfl, rfl⟩)
      exact ⟨⟨j + 1, by omega, by go_num, HB.out.alloc HB.out.size _⟩, by simp [intOf]; omega⟩
    · obtain rfl : j = N := by omega
      have hlI : ¬ (j : Int) < (j : Int) := by omega
      obtain ⟨q0, q1, q2, q3⟩ := HC.out wr (HL.out wr HB.out)
      have HWr2 : Hid (∀ u, Below wr.heap.size wr u → Calls Tryz.prog 67 #[.pointer (some ⟨d, 0, none⟩), .string ⟨#[101, 112, 111, 99, 104]⟩, .string Fr] u fun e w' => e = .panicked (mis n) ∧ Hid (Goes (LD t k l d s2 L) w w' F)) := fun u hu => HWr.out u (HB.out.trans (hu.mono HB.out.size))
      have HMk2 : Hid (∀ u, Below wr.heap.size wr u → Calls Tryz.prog 70 #[.int .i64 (ep : Int)] u fun e w' => e = .returned (.string Fr) ∧ w'.cell? ⟨l, 0, none⟩ = some (.pointer (some ⟨d, 0, none⟩)) ∧ Below u.heap.size u w' ∧ Below wr.heap.size wr w') := fun u hu => (HMk.out u).mono fun e w' ⟨e1, e2⟩ => ⟨e1, (HC.out w' (HL.out w' (HB.out.trans ((hu.trans (e2.mono hu.size)).mono HB.out.size)))).1, e2, hu.trans (e2.mono hu.size)⟩
      clear HWr HV
      go_wp2_with fail
      go_region_dies
      all_goals
        (with_reducible refine (HMk2.out _ (by go_grown)).mono ?_)
        rintro e w3 ⟨rfl, p3, hb3, hb4⟩
        rename_i K hK
        refine hK _ _ ?_
        clear hK K
        first
          | (refine wpAny_ready (rs := [6]) (by kernel_rfl) (by simp) ?_; refine AllReady.cons rfl (fun K hK => ?_) AllReady.nil; go_simp; (with_reducible refine (HWr2.out _ (by first | assumption | go_grown)).mono ?_); rintro e w4 ⟨rfl, HG4⟩; exact ⟨rfl, rfl, HG4.out⟩)
          | (refine wpAny_ready (rs := [3]) (by kernel_rfl) (by simp) ?_; refine AllReady.cons rfl (fun K hK => ?_) AllReady.nil; go_simp; refine hK _ _ ?_; clear hK K; refine wpAny_ready (rs := [6]) (by kernel_rfl) (by simp) ?_; refine AllReady.cons rfl (fun K hK => ?_) AllReady.nil; go_simp; (with_reducible refine (HWr2.out _ (by first | assumption | go_grown)).mono ?_); rintro e w4 ⟨rfl, HG4⟩; exact ⟨rfl, rfl, HG4.out⟩)
end Go.Proofs.YtigegdelhpdlhaaGreatDoor

/- Layer 18: Flush and Mark under a fuse: what comes of them. (Its first theorem out of JCall.) -/
namespace Go.Proofs.YtigegdelhpdlhaaGreatDoor
open Go.RowKit QP

section
variable {I' : World → (Nat → Prop) → Prop} {F : Nat → Prop}
set_option maxRecDepth 100000 in
set_option maxHeartbeats 1000000 in
theorem jFlush_err (n : Int) (R : Res I') (l : Nat) (i : Int) (w : World) (hF : ∀ i, F i → i < w.heap.size) (h : ∀ u, Below w.heap.size w u → Calls Tryz.prog 39 #[.pointer (some ⟨l, 0, none⟩), .int .i64 i] u fun r w' => r = .panicked (mis n) ∧ Goes I' u w' F) :
    Calls Tryz.prog 16 #[.pointer (some ⟨l, 0, none⟩), .int .i64 i] w fun r w' => r = .returned (.int .i64 n) ∧ Goes I' w w' F := by
  have hmf : ∀ (fn : Fn) (first cap : Array Value) (w : World), (Instr.makeFunc fn first cap).run Tryz.prog w = .ok (.func fn first cap) w := fun _ _ _ _ => rfl
  obtain ⟨q, hq⟩ : ∃ q, w.heap.size = q := ⟨_, rfl⟩
  obtain ⟨wT, hwT⟩ : ∃ u, (w.alloc (logO l)).alloc (numO i) = u := ⟨_, rfl⟩
  have b1 : Below w.heap.size w (w.alloc (logO l)) := (Below.refl _ _).alloc (Nat.le_refl _) _
  have b2 := b1.alloc b1.size (numO i)
  have hn0 := (Below.heap_alloc _ (numO i) w.heap.size (by simp)).trans (heap_new w (logO l))
  have hn1 := heap_new (w.alloc (logO l)) (numO i)
  rw [World.size_alloc, hq] at hn1
  rw [hq] at hn0
  rw [hwT] at hn0 hn1 b2
  have hbT : Below w.heap.size w wT := b2
  have HD : Hid (Calls Tryz.prog 35 #[.func (.func 38) #[] #[.pointer (some ⟨q, 0, none⟩), .pointer (some ⟨q + 1, 0, none⟩)]] wT fun r w' => r = .returned (.int .i64 n) ∧ Goes I' wT w' F) := by
    refine done2_goes_err R 38 _ _ n wT (fun j hj => Nat.lt_of_lt_of_le (hF j hj) hbT.size) (enters_of Tryz.func38 (by kernel_rfl) rfl _) fun u hu => ?_
    have HC : Hid (Calls Tryz.prog 39 #[.pointer (some ⟨l, 0, none⟩), .int .i64 i] u fun r w' => r = .panicked (mis n) ∧ Goes I' u w' F) := h u (hbT.trans (hu.mono hbT.size))
    have h0 := (hu.block _ (lt_of hn0)).trans hn0
    have h1 := (hu.block _ (lt_of hn1)).trans hn1
    have d0 : u.cell? ⟨q, 0, none⟩ = some (.pointer (some ⟨l, 0, none⟩)) := by rw [cell_of h0]; rfl
    have d1 : u.cell? ⟨q + 1, 0, none⟩ = some (.int .i64 i) := by rw [cell_of h1]; rfl
    clear h hn0 hn1 h0 h1 hwT hbT b1 b2 hu
    go_enter Tryz.func38, Tryz.ntmps38
    go_wp2_with fail
    refine HC.out.mono ?_
    rintro r w1 ⟨rfl, hg⟩
    exact ⟨rfl, rfl, hg⟩
  have HW : Hid ((w.alloc (logO l)).alloc (numO i) = wT) := hwT
  have HB : Hid (Below w.heap.size w wT) := hbT
  clear h hn0 hn1 hbT hwT b1 b2
  go_enter Tryz.func16, Tryz.ntmps16
  go_wp2_with fail
  rw [HW.out]
  refine HD.out.mono ?_
  rintro r w2 ⟨rfl, hg⟩
  go_wp2_with fail
  go_ret
  exact ⟨rfl, hg.after HB.out⟩

end

/-- a disk without its fuse -/
def unf (s : Dk.Dsk) : Dk.Dsk := ⟨s.fs, s.down, false, 0⟩
section
variable {s : Dk.Dsk} {f D : List UInt8}
theorem unf_long : Dk.tooLong (unf s) f D = Dk.tooLong s f D := rfl
theorem append_parts (h : Dk.appendE (unf s) f D = 0) : Dk.okName f = true ∧ Dk.tooLong s f D = false := by
  unfold Dk.appendE at h
  by_cases h1 : Dk.okName f = true
  · rw [if_pos h1, unf_long] at h
    refine ⟨h1, ?_⟩
    cases h2 : Dk.tooLong s f D
    · rfl
    · rw [h2, if_pos rfl] at h
      cases h
  · rw [if_neg h1] at h
    cases h
theorem changeS_some (h : Dk.burnt s = false) : (Dk.changeS s).fs = s.fs ∧ (Dk.changeS s).down = s.down ∧ unf (Dk.changeS s) = unf s := by
  unfold Dk.changeS
  rw [h, if_neg (by decide)]
  split <;> exact ⟨rfl, rfl, rfl⟩
theorem changeS_burnt (h : Dk.burnt s = true) : (Dk.changeS s).fs = s.fs := by
  unfold Dk.changeS
  rw [if_pos h]
theorem burnt_unf (hd : s.down = false) : Dk.burnt (unf s) = false := by
  unfold Dk.burnt unf
  rw [hd]
  rfl
theorem changeS_unf (hd : s.down = false) : Dk.changeS (unf s) = unf s := by
  unfold Dk.changeS
  rw [burnt_unf hd, if_neg (by decide), if_neg (fun e => Bool.noConfusion e)]
theorem append_fs (h1 : Dk.okName f = true) (h2 : Dk.tooLong s f D = false) (hb : Dk.burnt s = false) :
    Dk.appendS s f D = { Dk.changeS s with fs := Dk.putL f ⟨(Dk.fileOr (Dk.getL f s.fs)).data ++ D, (Dk.fileOr (Dk.getL f s.fs)).safe⟩ s.fs } := by
  unfold Dk.appendS
  rw [if_pos h1, h2, if_neg (by decide), hb, if_neg (by decide)]
theorem sync_fs (h1 : Dk.okName f = true) (o : Dk.Fil) (hg : Dk.getL f s.fs = some o) (hb : Dk.burnt s = false) :
    Dk.syncS s f = { Dk.changeS s with fs := Dk.putL f ⟨o.data, o.data.length⟩ s.fs } := by
  unfold Dk.syncS Dk.findE
  rw [if_pos h1, hg]
  simp only [Option.isSome_some, if_true]
  rw [hb, if_neg (by decide)]
  rfl
/-- what comes of a write -/
theorem write3 (hr : Dk.Rise s.fs) (hd : s.down = false) (h : Dk.appendE (unf s) f D = 0) :
    (Dk.appendE s f D = 11 ∧ (Dk.appendS s f D).fs = s.fs) ∨
    (Dk.appendE s f D = 0 ∧ Dk.syncE (Dk.appendS s f D) f = 11 ∧ (Dk.syncS (Dk.appendS s f D) f).fs = Dk.putL f ⟨(Dk.fileOr (Dk.getL f s.fs)).data ++ D, (Dk.fileOr (Dk.getL f s.fs)).safe⟩ s.fs) ∨
    (Dk.appendE s f D = 0 ∧ Dk.syncE (Dk.appendS s f D) f = 0 ∧ (Dk.syncS (Dk.appendS s f D) f).down = false ∧ unf (Dk.syncS (Dk.appendS s f D) f) = Dk.syncS (Dk.appendS (unf s) f D) f) := by
  obtain ⟨hok, htl⟩ := append_parts h
  have hE : Dk.appendE s f D = Dk.changeE s := by
    unfold Dk.appendE
    rw [if_pos hok, htl, if_neg (by decide)]
  cases hb : Dk.burnt s with
  | true =>
    refine Or.inl ⟨?_, ?_⟩
    · rw [hE]
      unfold Dk.changeE
      rw [if_pos hb]
    · unfold Dk.appendS
      rw [if_pos hok, htl, if_neg (by decide), if_pos hb, changeS_burnt hb]
  | false =>
    have hE0 : Dk.appendE s f D = 0 := by
      rw [hE]
      unfold Dk.changeE
      rw [hb]
      rfl
    obtain ⟨c1, c2, c3⟩ := changeS_some hb
    have hs1 := append_fs hok htl hb
    obtain ⟨o, ho⟩ : ∃ o : Dk.Fil, (⟨(Dk.fileOr (Dk.getL f s.fs)).data ++ D, (Dk.fileOr (Dk.getL f s.fs)).safe⟩ : Dk.Fil) = o := ⟨_, rfl⟩
    rw [ho] at hs1 ⊢
    obtain ⟨s1, hs1e⟩ : ∃ s1, Dk.appendS s f D = s1 := ⟨_, rfl⟩
    rw [hs1e] at hs1 ⊢
    have hfs1 : s1.fs = Dk.putL f o s.fs := by rw [hs1]
    have hdn1 : s1.down = false := by rw [hs1]; exact c2.trans hd
    have hg1 : Dk.getL f s1.fs = some o := by rw [hfs1]; exact Dk.getL_put hr
    have hf1 : Dk.findE s1 f = 0 := by
      unfold Dk.findE
      rw [if_pos hok, hg1]
      rfl
    have hSE : Dk.syncE s1 f = Dk.changeE s1 := by
      unfold Dk.syncE
      rw [hf1, if_pos rfl]
    cases hb1 : Dk.burnt s1 with
    | true =>
      refine Or.inr (Or.inl ⟨hE0, ?_, ?_⟩)
      · rw [hSE]
        unfold Dk.changeE
        rw [if_pos hb1]
      · unfold Dk.syncS
        rw [hf1, if_pos rfl, if_pos hb1, changeS_burnt hb1, hfs1]
    | false =>
      obtain ⟨e1, e2, e3⟩ := changeS_some hb1
      have hs2 := sync_fs hok o hg1 hb1
      refine Or.inr (Or.inr ⟨hE0, ?_, ?_, ?_⟩)
      · rw [hSE]
        unfold Dk.changeE
        rw [hb1]
        rfl
      · rw [hs2]
        exact e2.trans hdn1
      · -- without the fuse the same comes of it
        have u1 : Dk.appendS (unf s) f D = ⟨Dk.putL f o s.fs, s.down, false, 0⟩ := by
          rw [append_fs (s := unf s) hok htl (burnt_unf hd), changeS_unf hd]
          show (⟨_, s.down, false, 0⟩ : Dk.Dsk) = _
          rw [← ho]
          rfl
        have u2 : Dk.syncS (Dk.appendS (unf s) f D) f = ⟨Dk.putL f ⟨o.data, o.data.length⟩ (Dk.putL f o s.fs), s.down, false, 0⟩ := by
          rw [u1]
          have hb2 : Dk.burnt (⟨Dk.putL f o s.fs, s.down, false, 0⟩ : Dk.Dsk) = false := by unfold Dk.burnt; rw [hd]; rfl
          rw [sync_fs (s := ⟨Dk.putL f o s.fs, s.down, false, 0⟩) hok o (Dk.getL_put hr) hb2]
          unfold Dk.changeS
          rw [hb2, if_neg (by decide), if_neg (fun e => Bool.noConfusion e)]
        rw [u2, hs2, hfs1]
        show (⟨_, (Dk.changeS s1).down, false, 0⟩ : Dk.Dsk) = _
        rw [e2, hdn1, hd]
end

/-- the first c bytes of frames: whole ones, and a torn one -/
theorem flatF_take : ∀ (Bs : List ByteArray) (c : Nat), (∀ b ∈ Bs, b.size ≤ 65536) → ∃ j T, j ≤ Bs.length ∧ TornF T ∧ (flatF Bs).take c = flatF (Bs.take j) ++ T ∧ (c ≥ (flatF Bs).length → j = Bs.length)
  | [], c, _ => ⟨0, [], Nat.le_refl _, torn_nil, by simp [flatF], fun _ => rfl⟩
  | b :: Bs, c, h => by
    have hb := h b (List.mem_cons_self ..)
    by_cases hc : c < b.size + 8
    · refine ⟨0, (frameB b).data.toList.take c, Nat.zero_le _, ⟨b, c, hb, hc, rfl⟩, ?_, fun hge => ?_⟩
      · rw [flatF_cons, List.take_append_of_le_length (by rw [frameB_len]; omega)]
        simp [flatF]
      · rw [flatF_cons, List.length_append, frameB_len] at hge
        omega
    · obtain ⟨j, T, h1, h2, h3, h4⟩ := flatF_take Bs (c - (b.size + 8)) fun x hx => h x (List.mem_cons_of_mem _ hx)
      refine ⟨j + 1, T, by simpa using h1, h2, ?_, fun hge => ?_⟩
      · rw [flatF_cons, List.take_append, List.take_of_length_le (by rw [frameB_len]; omega), frameB_len, h3, List.take_succ_cons, flatF_cons, List.append_assoc]
      · rw [flatF_cons, List.length_append, frameB_len] at hge
        rw [h4 (by omega)]
        rfl

/-- what a crash leaves -/
theorem crashL_each : ∀ (l : List (List UInt8 × Dk.Fil)) (ds : List Int), (∀ p ∈ l, p.2.safe ≤ p.2.data.length) → Dk.keysL (Dk.crashL l ds) = Dk.keysL l ∧ ∀ p ∈ Dk.crashL l ds, ∃ q ∈ l, q.1 = p.1 ∧ ∃ m, q.2.safe ≤ m ∧ m ≤ q.2.data.length ∧ p.2 = ⟨q.2.data.take m, m⟩
  | [], _, _ => ⟨rfl, fun _ hp => by cases hp⟩
  | x :: r, ds, h => by
    have hx := h x (List.mem_cons_self ..)
    have hr := fun p hp => h p (List.mem_cons_of_mem x hp)
    unfold Dk.crashL
    by_cases hw : x.2.data.length = x.2.safe
    · rw [if_pos hw]
      obtain ⟨k1, k2⟩ := crashL_each r ds hr
      refine ⟨?_, fun p hp => ?_⟩
      · show x.1 :: Dk.keysL (Dk.crashL r ds) = x.1 :: Dk.keysL r
        rw [k1]
      · rcases List.mem_cons.1 hp with rfl | hp
        · refine ⟨p, List.mem_cons_self .., rfl, p.2.safe, Nat.le_refl _, hx, ?_⟩
          rw [List.take_of_length_le (by omega)]
        · obtain ⟨q, q1, q2⟩ := k2 p hp
          exact ⟨q, List.mem_cons_of_mem _ q1, q2⟩
    · rw [if_neg hw]
      obtain ⟨k1, k2⟩ := crashL_each r ds.tail hr
      refine ⟨?_, fun p hp => ?_⟩
      · show x.1 :: Dk.keysL (Dk.crashL r ds.tail) = x.1 :: Dk.keysL r
        rw [k1]
      · rcases List.mem_cons.1 hp with rfl | hp
        · refine ⟨x, List.mem_cons_self .., rfl, x.2.safe + Dk.keep x.2 (ds.headD 0), by omega, Dk.keep_le _ _ hx, rfl⟩
        · obtain ⟨q, q1, q2⟩ := k2 p hp
          exact ⟨q, List.mem_cons_of_mem _ q1, q2⟩
end Go.Proofs.YtigegdelhpdlhaaGreatDoor

/- Layer 18: which entries lie in the logs of a disk, in plain words. -/
namespace Go.Proofs.YtigegdelhpdlhaaGreatDoor
open Go.RowKit QP

section
variable {α : Type} {β : Type}
theorem perm_insL (x : List UInt8 × α) : ∀ l : List (List UInt8 × α), (Dk.insL x l).Perm (x :: l)
  | [] => List.Perm.refl _
  | y :: r => by
    unfold Dk.insL
    split
    · exact List.Perm.refl _
    · exact ((perm_insL x r).cons y).trans (List.Perm.swap x y r)
theorem perm_insN (k : List UInt8) (ks : List (List UInt8)) : (Dk.insN k ks).Perm (k :: ks.filter (fun q => q != k)) := by
  unfold Dk.insN Dk.putL Dk.keysL
  refine ((perm_insL _ _).map _).trans ?_
  rw [List.map_cons]
  refine List.Perm.cons k ?_
  unfold Dk.delL
  rw [List.filter_map, List.map_map]
  refine List.Perm.of_eq ?_
  show List.map (fun q => q) _ = _
  rw [List.map_id']
  rfl
theorem nodup_keys {l : List (List UInt8 × α)} (h : Dk.Rise l) : (Dk.keysL l).Nodup := by
  unfold Dk.keysL List.Nodup
  rw [List.pairwise_map]
  refine List.Pairwise.imp (fun {a b} hab e => ?_) h
  rw [e, WideAt.bytes_irrefl] at hab
  cases hab
end
theorem flatMap_same {f g : List UInt8 → List (Nat × Nat)} : ∀ {ks : List (List UInt8)}, (∀ q ∈ ks, f q = g q) → ks.flatMap f = ks.flatMap g
  | [], _ => rfl
  | q :: ks, h => by
    rw [List.flatMap_cons, List.flatMap_cons, h q (List.mem_cons_self ..), flatMap_same fun x hx => h x (List.mem_cons_of_mem _ hx)]
/-- all that lies in files -/
def allF (LF : List UInt8 → List (Nat × Nat)) (ks : List (List UInt8)) : List (Nat × Nat) := ks.flatMap LF
theorem flatMap_perm {LF : List UInt8 → List (Nat × Nat)} {k1 k2 : List (List UInt8)} (h : k1.Perm k2) : (k1.flatMap LF).Perm (k2.flatMap LF) := by
  induction h with
  | nil => exact List.Perm.refl _
  | cons x _ ih => rw [List.flatMap_cons, List.flatMap_cons]; exact ih.append_left _
  | swap x y l =>
    rw [List.flatMap_cons, List.flatMap_cons, List.flatMap_cons, List.flatMap_cons, ← List.append_assoc, ← List.append_assoc]
    exact List.perm_append_comm.append_right _
  | trans _ _ h1 h2 => exact h1.trans h2
/-- what is written to one file, more -/
theorem allF_put {LF : List UInt8 → List (Nat × Nat)} {ks : List (List UInt8)} (hn : ks.Nodup) (h0 : ∀ f, f ∉ ks → LF f = []) (f : List UInt8) (W : List (Nat × Nat)) :
    (allF (updF LF f (LF f ++ W)) (Dk.insN f ks)).Perm (allF LF ks ++ W) := by
  have h1 : (allF (updF LF f (LF f ++ W)) (Dk.insN f ks)).Perm (allF (updF LF f (LF f ++ W)) (f :: ks.filter (fun q => q != f))) := flatMap_perm (perm_insN f ks)
  refine h1.trans ?_
  have e1 : allF (updF LF f (LF f ++ W)) (f :: ks.filter (fun q => q != f)) = (LF f ++ W) ++ allF LF (ks.filter (fun q => q != f)) := by
    unfold allF
    rw [List.flatMap_cons]
    congr 1
    · unfold updF
      rw [if_pos rfl]
    · refine flatMap_same (fun q hq => ?_)
      unfold updF
      rw [if_neg (by simpa using (List.mem_filter.1 hq).2)]
  rw [e1]
  have h2 : (allF LF ks).Perm (LF f ++ allF LF (ks.filter (fun q => q != f))) := by
    by_cases hf : f ∈ ks
    · have h3 := List.perm_cons_erase hf
      rw [hn.erase_eq_filter] at h3
      exact flatMap_perm h3
    · rw [h0 f hf, List.nil_append]
      have : ks.filter (fun q => q != f) = ks := List.filter_eq_self.2 fun q hq => by
        simp only [bne_iff_ne, ne_eq]
        exact fun e => hf (e ▸ hq)
      rw [this]
  have h4 : ((LF f ++ W) ++ allF LF (ks.filter (fun q => q != f))).Perm ((LF f ++ allF LF (ks.filter (fun q => q != f))) ++ W) := by
    rw [List.append_assoc, List.append_assoc]
    exact List.perm_append_comm.append_left _
  exact h4.trans (h2.symm.append_right _)
theorem updF_out {LF : List UInt8 → List (Nat × Nat)} {ks : List (List UInt8)} (h0 : ∀ q, q ∉ ks → LF q = []) (f : List UInt8) (W : List (Nat × Nat)) : ∀ q, q ∉ Dk.insN f ks → updF LF f W q = [] := fun q hq => by
  have h1 : q ∉ f :: ks.filter (fun q => q != f) := fun h => hq ((perm_insN f ks).mem_iff.2 h)
  have hqf : q ≠ f := fun e => h1 (by rw [e]; exact List.mem_cons_self ..)
  unfold updF
  rw [if_neg hqf]
  exact h0 q fun h => h1 (List.mem_cons_of_mem _ (List.mem_filter.2 ⟨h, by simpa using hqf⟩))
/-- those of logs up to an epoch that none is above are all -/
theorem allE_all {D : Nat} {LF : List UInt8 → List (Nat × Nat)} {ks : List (List UInt8)} (hl : ∀ q ∈ ks, isLogK q = true) (hD : ∀ q ∈ ks, ∀ p ∈ LF q, p.1 / 8388608 ≤ D) : (allE D LF (Dk.insN epochB.data.toList ks)).Perm (allF LF ks) := by
  have hne : ∀ q ∈ ks, q ≠ epochB.data.toList := fun q hq e => by
    have := hl q hq
    rw [e, logK_epoch.1] at this
    cases this
  have hf : ks.filter (fun q => q != epochB.data.toList) = ks := List.filter_eq_self.2 fun q hq => by simpa using hne q hq
  have h1 := perm_insN epochB.data.toList ks
  rw [hf] at h1
  refine (flatMap_perm (LF := fun q => if isLogK q then upTo D (LF q) else []) h1).trans (List.Perm.of_eq ?_)
  rw [List.flatMap_cons, logK_epoch.1, if_neg (by decide), List.nil_append]
  unfold allF
  refine flatMap_same fun q hq => ?_
  rw [hl q hq, if_pos rfl]
  exact List.filter_eq_self.2 fun p hp => decide_eq_true (hD q hq p hp)
end Go.Proofs.YtigegdelhpdlhaaGreatDoor
