import Derived.Test.YtigegdelhpdlhaaGreatDoorLayBJ
import Derived.Test.YtigegdelhpdlhaaGreatDoorLayIJ
import Derived.Test.YtigegdelhpdlhaaGreatDoorJSortJ
/- Layer 18: what waits is written (flush). -/
namespace Go.Proofs.YtigegdelhpdlhaaGreatDoor
open Go.RowKit QP

theorem modify_noop {α : Type} (a : Array α) (b : Nat) (f : α → α) (h : ∀ x, a[b]? = some x → f x = x) : a.modify b f = a := by
  apply Array.ext
  · simp
  · intro j h1 h2
    rw [Array.getElem_modify]
    split
    · next e1 =>
      subst e1
      exact h _ (Array.getElem?_eq_getElem h2)
    · rfl
theorem setCell_noop {w : World} {b i : Nat} {c : Array Value} {T : TypeId} {v : Value} (hb : w.heap[b]? = some (.cells c T (0, 0))) (h : c[i]? = some v) : w.setCell ⟨b, i, none⟩ v = w := by
  obtain ⟨hi, hv⟩ := Array.getElem?_eq_some_iff.1 h
  have e : c.setIfInBounds i v = c := by
    rw [Array.setIfInBounds_def, dif_pos hi, ← hv]
    exact Array.set_getElem_self _
  unfold World.setCell
  rw [modify_noop]
  intro x hx
  rw [hb] at hx
  cases hx
  simp [e]
theorem flat_wv2 {vs : List Value} {L : Lg} {i : Nat} {v : Value} {wk : Wk} (hv : vs[i]? = some v) (hw : L.ws[i]? = some wk) : (flat enWv (vs.zip (L.ws.map (·.2))))[i * 2 + 1]? = some (.int .u64 (wk.2 : Int)) := by
  have hz : (vs.zip (L.ws.map (·.2)))[i]? = some (v, wk.2) := by
    rw [List.getElem?_zip_eq_some, List.getElem?_map, hw]
    exact ⟨hv, rfl⟩
  obtain ⟨hi, hze⟩ := List.getElem?_eq_some_iff.1 hz
  have g1 := flat_get enWv_len (vs.zip (L.ws.map (·.2))) i hi 1 (by omega)
  rw [hze, Nat.mul_comm] at g1
  exact g1
/-- a worker's row is written anew -/
theorem LogG.setRow {w u : World} {t k : ByteArray} {l d b : Nat} {vs : List Value} {L : Lg} (h : LogG w t k l d b vs L) {i : Nat} {v v' : Value} {wk : Wk} {W : List (Nat × Nat)} (hv : vs[i]? = some v) (hw : L.ws[i]? = some wk)
    (hrow : u.ownsRow 0 113 2 v' W.length (flat (enLn t k) W)) (hT : Turn (fun j => v.ownBlock = some j) w u) (hnew : ∀ j, v'.ownBlock = some j → v.ownBlock = some j ∨ w.heap.size ≤ j) (hfew : W.length ≤ 1000) {F : Nat → Prop} (hF : ∀ j, F j ↔ footL l b vs j) :
    Goes (LogI t k l d { L with ws := L.ws.set i (W, wk.2) }) w (u.setCell ⟨b, i * 2, none⟩ v') F := by
  have h1 := h.setWk hv hw (wk' := (W, wk.2)) hrow hT hnew ⟨hfew, (h.few.2 wk (List.mem_of_getElem? hw)).2⟩ hF
  obtain ⟨cur, hcur, hce⟩ := h.row
  have hne : ¬ v.ownBlock = some b := fun e => by
    obtain ⟨cur2, hc2, _⟩ := ownsRow_own (h.own i v wk hv hw) e
    rw [hcur] at hc2
    simp only [Option.some.injEq, Obj.cells.injEq] at hc2
    exact absurd hc2.2.1 (by decide)
  have hub := (hT.block b (lt_of hcur) hne).trans hcur
  have hub2 := heap_setCell_same hub (i * 2) v'
  have g1 := flat_wv2 hv hw
  rw [← hce, Array.getElem?_toList] at g1
  rw [setCell_noop hub2 (by rw [Array.getElem?_setIfInBounds_ne (by omega)]; exact g1)] at h1
  exact h1
end Go.Proofs.YtigegdelhpdlhaaGreatDoor

/- Layer 18: flush. -/
namespace Go.Proofs.YtigegdelhpdlhaaGreatDoor
open Go.RowKit QP

/-- a log and its disk -/
abbrev LD (t k : ByteArray) (l d : Nat) (s : Dk.Dsk) (L : Lg) : World → (Nat → Prop) → Prop := Sep (DiskI d s) (LogI t k l d L)
theorem LD.res (t k : ByteArray) (l d : Nat) (s : Dk.Dsk) (L : Lg) : Res (LD t k l d s L) := Sep.res (DiskI.res d s) (logI_res t k l d L)
/-- what a write to a log's file makes of the disk -/
abbrev wrS (s : Dk.Dsk) (f : ByteArray) (l : List UInt8) : Dk.Dsk := Dk.syncS (Dk.appendS s f.data.toList l) f.data.toList

theorem Sep.goL {I' J : World → (Nat → Prop) → Prop} (hJ : Res J) {w w' : World} {A B F : Nat → Prop} (h2 : J w B) (h3 : ∀ i, A i → ¬ B i) (h4 : ∀ i, A i → F i) (h5 : ∀ i, B i → F i) (hg : Goes I' w w' A) : Goes (Sep I' J) w w' F := by
  obtain ⟨A', g1, g2, g3⟩ := hg
  refine ⟨fun i => A' i ∨ B i, ⟨A', B, g1, hJ.kept h2 g2 (fun i hi hA => h3 i hA hi), fun i hi hB => ?_, fun _ hi => Or.inl hi, fun _ hi => Or.inr hi, fun _ hi => hi⟩, g2.mono h4, fun i hi => ?_⟩
  · rcases g3 i hi with h | h
    · exact h3 i h hB
    · have := hJ.lt h2 i hB; omega
  · rcases hi with hi | hi
    · rcases g3 i hi with h | h
      · exact Or.inl (h4 i h)
      · exact Or.inr h
    · exact Or.inl (h5 i hi)

set_option maxRecDepth 100000 in
set_option maxHeartbeats 2000000 in
theorem jflush_none (t k : ByteArray) (l d i : Nat) (s : Dk.Dsk) (L : Lg) (lst : Nat) (w : World) (F : Nat → Prop) (h : LD t k l d s L w F) (hwk : L.ws[i]? = some ([], lst)) :
    Calls Tryz.prog 39 #[.pointer (some ⟨l, 0, none⟩), .int .i64 (i : Int)] w fun e w' => e = .returned (.tuple #[]) ∧ w = w' := by
  obtain ⟨A, B, hD, ⟨b, vs, hG, hB⟩, hAB, hAF, hBF, hFAB⟩ := h
  have hi : i < L.ws.length := (List.getElem?_eq_some_iff.1 hwk).1
  have hv : vs[i]? = some (vs[i]'(by rw [hG.len]; exact hi)) := List.getElem?_eq_getElem _
  obtain ⟨c0, _⟩ := hG.wk hv hwk
  have ho := hG.own i _ _ hv hwk
  obtain ⟨a, m, e⟩ := row_shapeJ ho
  rw [e] at c0
  have HWk : Hid (Calls Tryz.prog 53 #[.pointer (some ⟨l, 0, none⟩), .int .i64 (i : Int)] w fun e w' => e = .returned (.pointer (some ⟨b, i * 2, none⟩)) ∧ w = w') := jworker_any l d b L.ws.length i _ _ w hG.top hi
  have c0' : w.cell? ⟨b, i * 2, none⟩ = some (.slice a 0 m) := c0
  clear c0 hD hG hB hAB hAF hBF hFAB hv ho e hwk
  go_enter Tryz.func39, Tryz.ntmps39
  go_wp2_with (go_at_call 53; (with_reducible refine HWk.out.mono ?_); rintro e w1 ⟨rfl, rfl⟩)
  go_loopw [5, 6] (fun _ _ wr => w = wr) (fun _ _ _ => 0)
  case atStart => rfl
  case round =>
    subst hrel
    go_wp2_with fail
    go_end0
    exact ⟨rfl, rfl⟩

set_option maxRecDepth 100000 in
set_option maxHeartbeats 4000000 in
theorem jflush_some (t k : ByteArray) (l d i : Nat) (s : Dk.Dsk) (L : Lg) (wk : Wk) (w : World) (F : Nat → Prop) (h : LD t k l d s L w F) (hwk : L.ws[i]? = some wk) (h0 : wk.1 ≠ []) (hi10 : i < 10) (hg : L.gen < 100) (ht : t.size ≤ 100) (hk : k.size ≤ 100)
    (h1 : Dk.appendE s (logB i L.gen).data.toList (flatF (wk.1.map (bodyN t k))) = 0) (h2 : Dk.syncE (Dk.appendS s (logB i L.gen).data.toList (flatF (wk.1.map (bodyN t k)))) (logB i L.gen).data.toList = 0) :
    Calls Tryz.prog 39 #[.pointer (some ⟨l, 0, none⟩), .int .i64 (i : Int)] w fun e w' => e = .returned (.tuple #[]) ∧ Goes (LD t k l d (wrS s (logB i L.gen) (flatF (wk.1.map (bodyN t k)))) { L with ws := L.ws.set i ([], wk.2) }) w w' F := by
  obtain ⟨A, B, hD, ⟨b, vs, hG, hB⟩, hAB, hAF, hBF, hFAB⟩ := id h
  have hi : i < L.ws.length := (List.getElem?_eq_some_iff.1 hwk).1
  have hv : vs[i]? = some (vs[i]'(by rw [hG.len]; exact hi)) := List.getElem?_eq_getElem _
  obtain ⟨v, hve⟩ : ∃ v, (vs[i]'(by rw [hG.len]; exact hi)) = v := ⟨_, rfl⟩
  rw [hve] at hv
  obtain ⟨c0, _⟩ := hG.wk hv hwk
  have ho := hG.own i _ _ hv hwk
  have hfew := (hG.few.2 wk (List.mem_of_getElem? hwk)).1
  obtain ⟨a, m, hvs⟩ := row_shapeJ ho
  obtain ⟨N, hN⟩ : ∃ N, wk.1.length = N := ⟨_, rfl⟩
  have hN0 : 0 < N := by rw [← hN]; exact List.length_pos_iff.2 h0
  obtain ⟨Dat, hDat⟩ : ∃ D : ByteArray, (⟨(flatF (wk.1.map (bodyN t k))).toArray⟩ : ByteArray) = D := ⟨_, rfl⟩
  have hDl : Dat.data.toList = flatF (wk.1.map (bodyN t k)) := by rw [← hDat]
  have hDs : Dat.size ≤ maxLen := by
    have e1 : Dat.size = Dat.data.toList.length := rfl
    have e2 := lineF_len t k wk.1
    rw [e1, hDl, e2]
    have : wk.1.length * (t.size + k.size + 59) ≤ 1000 * 259 := Nat.mul_le_mul hfew (by omega)
    unfold maxLen
    omega
  obtain ⟨nm, hnm⟩ : ∃ n, logB i L.gen = n := ⟨_, rfl⟩
  have hns : nm.size ≤ maxLen := by
    rw [← hnm]
    have := (nameF_at hi10 hg).size.2
    unfold maxLen
    omega
  rw [hnm] at h1 h2 ⊢
  rw [← hDl] at h1 h2 ⊢
  obtain ⟨s2, hs2⟩ : ∃ s2, wrS s nm Dat.data.toList = s2 := ⟨_, rfl⟩
  rw [hs2]
  have HWk : Hid (Calls Tryz.prog 53 #[.pointer (some ⟨l, 0, none⟩), .int .i64 (i : Int)] w fun e w' => e = .returned (.pointer (some ⟨b, i * 2, none⟩)) ∧ w = w') := jworker_any l d b L.ws.length i _ _ w hG.top hi
  have HFi : Hid (Calls Tryz.prog 66 #[.pointer (some ⟨b, i * 2, none⟩)] w fun e w' => e = .returned (.tuple #[.string Dat, .int .i64 (N : Int)]) ∧ Below w.heap.size w w') := by
    have := jfirst_any t k b (i * 2) v wk.1 w c0 ho hfew ht hk
    rw [hDat, hN] at this
    exact this
  have HNm : Hid (∀ u, Calls Tryz.prog 68 #[.int .i64 (i : Int), .int .i64 (L.gen : Int)] u fun e w' => e = .returned (.string nm) ∧ u = w') := fun u => by
    have := logName_any i L.gen u hi10 hg
    rw [hnm] at this
    exact this
  have HWr : Hid (∀ u, Below w.heap.size w u → Calls Tryz.prog 67 #[.pointer (some ⟨d, 0, none⟩), .string nm, .string Dat] u fun e w' => e = .returned (.tuple #[]) ∧ w'.heap[l]? = w.heap[l]? ∧ Hid (Goes (LD t k l d s2 L) w w' F)) := fun u hu => by
    have hAu : DiskI d s u A := (DiskI.res d s).kept (S := fun _ => False) hD (Turn.ofBelow _ hu) (fun _ _ h => h)
    have hBu : LogI t k l d L u B := (logI_res t k l d L).kept (S := fun _ => False) ⟨b, vs, hG, hB⟩ (Turn.ofBelow _ hu) (fun _ _ h => h)
    refine (jwriteD_ok nm Dat hAu hns hDs h1 h2).mono ?_
    rintro e w' ⟨e1, hg1⟩
    have hg1' : Goes (DiskI d s2) u w' A := by rw [← hs2]; exact hg1
    have hg2 := Sep.goL (logI_res t k l d L) hBu hAB hAF hBF hg1'
    refine ⟨e1, ?_, hg2.after hu⟩
    obtain ⟨A2, _, t2, _⟩ := hg1'
    have hl := lt_of hG.top
    exact (t2.block l (Nat.lt_of_lt_of_le hl hu.size) (fun hA => hAB l hA ((hB l).2 (Or.inl rfl)))).trans (hu.block l hl)
  have HDl : Hid (∀ w4 F4, LD t k l d s2 L w4 F4 → w4.heap[l]? = w.heap[l]? → ∃ a4 m4, w4.cell? ⟨b, i * 2, none⟩ = some (.slice a4 N m4) ∧ Calls Tryz.prog 69 #[.slice a4 N m4, .int .i64 0, .int .i64 (N : Int)] w4 fun e u => e = .returned (.slice a4 0 m4) ∧ (∃ z, u.cell? ⟨b, i * 2, none⟩ = some z) ∧ u.frozen? ⟨b, i * 2, none⟩ = false ∧ Hid (Goes (LD t k l d s2 { L with ws := L.ws.set i ([], wk.2) }) w4 (u.setCell ⟨b, i * 2, none⟩ (.slice a4 0 m4)) F4)) := fun w4 F4 h4 hl4 => by
    obtain ⟨A4, B4, hD4, ⟨b4, vs4, hG4, hB4⟩, hAB4, hAF4, hBF4, _⟩ := h4
    have ht4 := hG4.top
    rw [hl4, hG.top] at ht4
    simp only [Option.some.injEq, Obj.cells.injEq, Array.mk.injEq, List.cons.injEq, Value.slice.injEq, Addr.mk.injEq, true_and, and_true] at ht4
    subst ht4
    have hi4 : vs4[i]? = some (vs4[i]'(by rw [hG4.len]; exact hi)) := List.getElem?_eq_getElem _
    obtain ⟨v4, hv4⟩ : ∃ v, (vs4[i]'(by rw [hG4.len]; exact hi)) = v := ⟨_, rfl⟩
    rw [hv4] at hi4
    obtain ⟨c4, _⟩ := hG4.wk hi4 hwk
    have ho4 := hG4.own i _ _ hi4 hwk
    obtain ⟨a4, m4, rfl⟩ := row_shapeJ ho4
    rw [hN] at c4
    refine ⟨a4, m4, c4, ?_⟩
    have hdel := jdelete_any (j := N) (w := w4) (tb := t) (kb := k) ho4 rfl (by rw [hN]; exact Nat.le_refl _)
    rw [hN, Nat.sub_self, ← hN, List.drop_length] at hdel
    rw [← hN]
    refine hdel.mono ?_
    rintro e u ⟨e1, h5, h6⟩
    obtain ⟨cur, hcur, _⟩ := hG4.row
    have hne : ¬ (Value.slice a4 wk.1.length m4).ownBlock = some b := fun e => by
      obtain ⟨cur2, hc2, _⟩ := ownsRow_own ho4 e
      rw [hcur] at hc2
      simp only [Option.some.injEq, Obj.cells.injEq] at hc2
      exact absurd hc2.2.1 (by decide)
    have hub := h6.block b (lt_of hcur) hne
    refine ⟨e1, ⟨.slice a4 wk.1.length m4, ?_⟩, frozen_of (hub.trans hcur) _, ?_⟩
    · rw [hN, ← c4]
      unfold World.cell?
      rw [hub]
    · have h7 := hG4.setRow hi4 hwk (W := []) h5 h6 (fun j hj => Or.inl (by cases a4 <;> exact hj)) (by simp) hB4
      exact (Sep.goL (DiskI.res d s2) hD4 (fun j hb ha => hAB4 j ha hb) hBF4 hAF4 h7).swap
  have cw : w.cell? ⟨b, i * 2, none⟩ = some (.slice a N m) := by rw [c0, hvs, hN]
  have HL : Hid (w.heap[l]? = some (.cells #[.pointer (some ⟨d, 0, none⟩), .slice (some ⟨b, 0, none⟩) L.ws.length L.ws.length, .int .i64 (L.dur : Int), .int .i64 (L.gen : Int)] 103 (0, 0))) := hG.top
  have HC : Hid (∀ u, Below w.heap.size w u → u.cell? ⟨l, 0, none⟩ = some (.pointer (some ⟨d, 0, none⟩)) ∧ u.cell? ⟨l, 3, none⟩ = some (.int .i64 (L.gen : Int))) := fun u hu => by
    have hlu := (hu.block l (lt_of hG.top)).trans hG.top
    exact ⟨by rw [cell_of hlu]; rfl, by rw [cell_of hlu]; rfl⟩
  have HCl : Hid (∀ u : World, u.heap[l]? = w.heap[l]? → u.cell? ⟨l, 0, none⟩ = some (.pointer (some ⟨d, 0, none⟩)) ∧ u.cell? ⟨l, 3, none⟩ = some (.int .i64 (L.gen : Int))) := fun u hu => by
    have hlu := hu.trans hG.top
    exact ⟨by rw [cell_of hlu]; rfl, by rw [cell_of hlu]; rfl⟩
  obtain ⟨G, hGe⟩ : ∃ G, L.gen = G := ⟨_, rfl⟩
  rw [hGe] at HNm HC HCl
  have hN1 : (0 : Int) < (N : Int) := by omega
  obtain ⟨Lg2, hLg2⟩ : ∃ X, ({ L with ws := L.ws.set i ([], wk.2) } : Lg) = X := ⟨_, rfl⟩
  rw [hLg2] at HDl ⊢
  clear hD hG hB hAB hAF hBF hFAB h hwk h0 hi hv hve c0 ho hfew hvs hN hDat hDl hDs hnm hns h1 h2 hs2 HL hi10 hg ht hk hLg2 hGe
  go_enter Tryz.func39, Tryz.ntmps39
  go_wp2_with (go_at_call 53; (with_reducible refine HWk.out.mono ?_); rintro e w1 ⟨rfl, rfl⟩)
  go_loopw [5, 6] (fun _ _ wr => w = wr ∨ ((∃ a4 m4, wr.cell? ⟨b, i * 2, none⟩ = some (.slice a4 0 m4)) ∧ Hid (Goes (LD t k l d s2 Lg2) w wr F))) (fun _ _ wr => match wr.cell? ⟨b, i * 2, none⟩ with | some (.slice _ n _) => n | _ => 0)
  case atStart => exact Or.inl rfl
  case round =>
    rcases hrel with rfl | ⟨⟨a4, m4, c4⟩, HG4⟩
    · go_wp2_with (go_at_call 66; (with_reducible refine HFi.out.mono ?_); rintro e w2 ⟨rfl, hb2⟩; obtain ⟨q0, q3⟩ := HC.out w2 hb2; have HB2 : Hid (Below w.heap.size w w2) := hb2; clear hb2)
      have HWr2 : Hid (∀ u, Below w2.heap.size w2 u → Calls Tryz.prog 67 #[.pointer (some ⟨d, 0, none⟩), .string nm, .string Dat] u fun e w' => e = .returned (.tuple #[]) ∧ w'.heap[l]? = w.heap[l]? ∧ Hid (Goes (LD t k l d s2 L) w w' F)) := fun u hu => HWr.out u (HB2.out.trans (hu.mono HB2.out.size))
      go_region_held3 (fun u => u.cell? ⟨l, 0, none⟩ = some (.pointer (some ⟨d, 0, none⟩)) ∧ u.cell? ⟨l, 3, none⟩ = some (.int .i64 (G : Int))) (go_keep)
        (first
          | (go_at_call 68; (with_reducible refine (HNm.out _).mono ?_); rintro e w3 ⟨rfl, rfl⟩)
          | (go_at_call 67; (with_reducible refine (HWr2.out _ (by go_grown)).mono ?_); rintro e w4 ⟨rfl, hl4, HG4⟩; obtain ⟨p0, p3⟩ := HCl.out w4 hl4))
      obtain ⟨F4, I4, t4, n4⟩ := id HG4.out
      obtain ⟨a4, m4, c4, HD4⟩ := HDl.out w4 F4 I4 hl4
      have HD5 : Hid (Calls Tryz.prog 69 #[.slice a4 N m4, .int .i64 0, .int .i64 (N : Int)] w4 fun e u => e = .returned (.slice a4 0 m4) ∧ (∃ z, u.cell? ⟨b, i * 2, none⟩ = some z) ∧ u.frozen? ⟨b, i * 2, none⟩ = false ∧ Hid (Goes (LD t k l d s2 Lg2) w4 (u.setCell ⟨b, i * 2, none⟩ (.slice a4 0 m4)) F4)) := HD4
      have HT4 : Hid (Turn F w w4 ∧ ∀ i, F4 i → F i ∨ w.heap.size ≤ i) := ⟨t4, n4⟩
      have HI4 : Hid (LD t k l d s2 L w4 F4) := I4
      clear HD4 t4 n4 I4 p0 p3 q0 q3 HC HCl HWr HWr2 HNm HWk HFi
      go_wp2_with (go_at_call 69; (with_reducible refine HD5.out.mono ?_); rintro e w5 ⟨rfl, ⟨z5, c5⟩, f5, HG5⟩)
      have HG6 : Hid (Goes (LD t k l d s2 Lg2) w (w5.setCell ⟨b, i * 2, none⟩ (.slice a4 0 m4)) F) := HG5.out.step HT4.out.1 HT4.out.2
      have c6 : (w5.setCell ⟨b, i * 2, none⟩ (.slice a4 0 m4)).cell? ⟨b, i * 2, none⟩ = some (.slice a4 0 m4) := World.cell?_setCell_same _ _ _ c5
      exact ⟨Or.inr ⟨⟨a4, m4, c6⟩, HG6⟩, by rw [c6, cw]; exact hN0⟩
    · go_wp2_with fail
      go_end0
      exact ⟨rfl, HG4.out⟩
end Go.Proofs.YtigegdelhpdlhaaGreatDoor

/- Layer 18: disks of logs that rest (all is synced, none is down), in plain words. -/
namespace Go.Proofs.YtigegdelhpdlhaaGreatDoor
open Go.RowKit QP

namespace Dk
section
variable {α : Type} {l : List (List UInt8 × α)} {k q : List UInt8} {a b : α}
theorem rise_insL {x : List UInt8 × α} : ∀ {l : List (List UInt8 × α)}, Rise l → (∀ p ∈ l, p.1 ≠ x.1) → Rise (insL x l)
  | [], _, _ => List.pairwise_singleton _ _
  | y :: r, h, hk => by
    obtain ⟨h1, h2⟩ := List.pairwise_cons.1 h
    unfold insL
    split
    · next hb =>
      refine List.pairwise_cons.2 ⟨fun p hp => ?_, h⟩
      rcases List.mem_cons.1 hp with rfl | hp
      · exact hb
      · exact WideShapes.bytes_trans _ _ _ hb (h1 p hp)
    · next hb =>
      refine List.pairwise_cons.2 ⟨fun p hp => ?_, rise_insL h2 (fun p hp => hk p (List.mem_cons_of_mem _ hp))⟩
      rcases mem_insL.1 hp with rfl | hp
      · rcases WideAt.bytes_total p.1 y.1 (fun e => hk y (by simp) e.symm) with h | h
        · exact absurd h hb
        · exact h
      · exact h1 p hp
theorem rise_delL (h : Rise l) : Rise (delL k l) := List.Pairwise.filter _ h
theorem rise_putL (h : Rise l) : Rise (putL k a l) := rise_insL (rise_delL h) fun _ hp => (mem_delL.1 hp).2
theorem mem_putL {y : List UInt8 × α} : y ∈ putL k a l ↔ y = (k, a) ∨ (y ∈ l ∧ y.1 ≠ k) := by
  unfold putL
  rw [mem_insL, mem_delL]
theorem getL_put (h : Rise l) : getL k (putL k a l) = some a := getL_of_mem (rise_putL h) (mem_putL.2 (Or.inl rfl))
theorem getL_put_ne (h : Rise l) (hq : q ≠ k) : getL q (putL k a l) = getL q l := by
  cases hg : getL q l with
  | some x =>
    have := getL_mem hg
    exact getL_of_mem (p := (q, x)) (rise_putL h) (mem_putL.2 (Or.inr ⟨this, hq⟩))
  | none =>
    cases hg2 : getL q (putL k a l) with
    | none => rfl
    | some x =>
      rcases mem_putL.1 (getL_mem hg2) with e | ⟨hm, _⟩
      · exact absurd (congrArg Prod.fst e) hq
      · exact absurd rfl (getL_none hg _ hm)
theorem getL_del : getL k (delL k l) = none := by
  cases hg : getL k (delL k l) with
  | none => rfl
  | some x => exact absurd rfl (mem_delL.1 (getL_mem hg)).2
theorem getL_del_ne (h : Rise l) (hq : q ≠ k) : getL q (delL k l) = getL q l := by
  cases hg : getL q l with
  | some x => exact getL_of_mem (p := (q, x)) (rise_delL h) (mem_delL.2 ⟨getL_mem hg, hq⟩)
  | none =>
    cases hg2 : getL q (delL k l) with
    | none => rfl
    | some x => exact absurd rfl (getL_none hg _ (mem_delL.1 (getL_mem hg2)).1)
theorem delL_insL : ∀ l : List (List UInt8 × α), delL k (insL (k, a) l) = delL k l
  | [] => by simp [insL, delL]
  | y :: r => by
    have ih := delL_insL r
    unfold insL
    split
    · simp [delL]
    · unfold delL at ih ⊢
      rw [List.filter_cons, List.filter_cons, ih]
theorem delL_putL : delL k (putL k a l) = delL k l := by
  unfold putL
  rw [delL_insL]
  exact delL_other fun _ hp => (mem_delL.1 hp).2
theorem putL_putL : putL k b (putL k a l) = putL k b l := by
  unfold putL
  have := delL_putL (k := k) (a := a) (l := l)
  unfold putL at this
  rw [this]
/-- the names, with one more -/
def insN (k : List UInt8) (ks : List (List UInt8)) : List (List UInt8) := keysL (putL k () (ks.map fun q => (q, ())))
theorem keys_putL : keysL (putL k a l) = insN k (keysL l) := by
  have h1 := keysL_mapL (fun _ : α => ()) (putL k a l)
  rw [mapL_putL] at h1
  rw [← h1]
  unfold insN mapL keysL
  rw [List.map_map]
  rfl
theorem length_delL : (delL k l).length ≤ l.length := List.length_filter_le _ _
theorem length_putL : (putL k a l).length ≤ l.length + 1 := by
  unfold putL
  rw [length_insL]
  have := length_delL (k := k) (l := l)
  omega
end
end Dk

/-- a disk of logs that rests -/
structure QDisk (s : Dk.Dsk) (t k : ByteArray) (LF : List UInt8 → List (Nat × Nat)) (Es : List Nat) : Prop where
  up : s.down = false ∧ s.fused = false
  rise : Dk.Rise s.fs
  names : ∀ p ∈ s.fs, NameOkW p.1
  whole : ∀ p ∈ s.fs, p.2.data.length = p.2.safe
  logs : ∀ f, isLogK f = true → (Dk.fileOr (Dk.getL f s.fs)).data = flatF ((LF f).map (bodyN t k))
  marks : (Dk.fileOr (Dk.getL epochB.data.toList s.fs)).data = flatF (Es.map markN)
  nonew : Dk.getL epochNB.data.toList s.fs = none

section
variable {s : Dk.Dsk} {t k : ByteArray} {LF : List UInt8 → List (Nat × Nat)} {Es : List Nat}
theorem QDisk.burnt (h : QDisk s t k LF Es) : Dk.burnt s = false := by
  unfold Dk.burnt
  rw [h.up.1, h.up.2]
  rfl
theorem QDisk.changeE (h : QDisk s t k LF Es) : Dk.changeE s = 0 := by unfold Dk.changeE; rw [h.burnt]; rfl
theorem QDisk.changeS (h : QDisk s t k LF Es) : Dk.changeS s = s := by unfold Dk.changeS; rw [h.burnt, h.up.2]; rfl
/-- what is written to a file of such a disk -/
theorem QDisk.write (h : QDisk s t k LF Es) (f : ByteArray) (D : List UInt8) (hf : NameOkW f.data.toList) (hl : (Dk.fileOr (Dk.getL f.data.toList s.fs)).data.length + D.length ≤ 262144) (hn : s.fs.length < 64) :
    Dk.appendE s f.data.toList D = 0 ∧ Dk.syncE (Dk.appendS s f.data.toList D) f.data.toList = 0 ∧ (wrS s f D).down = false ∧ (wrS s f D).fused = false ∧ Dk.Rise (wrS s f D).fs ∧ (wrS s f D).fs.length ≤ s.fs.length + 1 ∧
    Dk.getL f.data.toList (wrS s f D).fs = some ⟨(Dk.fileOr (Dk.getL f.data.toList s.fs)).data ++ D, ((Dk.fileOr (Dk.getL f.data.toList s.fs)).data ++ D).length⟩ ∧ (∀ q, q ≠ f.data.toList → Dk.getL q (wrS s f D).fs = Dk.getL q s.fs) ∧
    (∀ p ∈ (wrS s f D).fs, p.1 = f.data.toList ∧ p.2.data.length = p.2.safe ∨ p ∈ s.fs) ∧ Dk.keysL (wrS s f D).fs = Dk.insN f.data.toList (Dk.keysL s.fs) ∧ Dk.delL f.data.toList (wrS s f D).fs = Dk.delL f.data.toList s.fs := by
  have hok := hf.ok
  obtain ⟨K, hK⟩ : ∃ K, f.data.toList = K := ⟨_, rfl⟩
  rw [hK] at hok hl ⊢
  have htl : Dk.tooLong s K D = false := by
    unfold Dk.tooLong
    rw [decide_eq_false (by omega), decide_eq_false (by omega)]
    simp
  have e1 : Dk.appendE s K D = 0 := by
    unfold Dk.appendE
    rw [hok, htl, h.changeE]
    rfl
  obtain ⟨o, ho⟩ : ∃ o, Dk.fileOr (Dk.getL K s.fs) = o := ⟨_, rfl⟩
  have e2 : Dk.appendS s K D = { s with fs := Dk.putL K ⟨o.data ++ D, o.safe⟩ s.fs } := by
    unfold Dk.appendS
    rw [hok, htl, h.burnt, h.changeS, ho]
    rfl
  have g1 := Dk.getL_put (k := K) (a := (⟨o.data ++ D, o.safe⟩ : Dk.Fil)) h.rise
  have r1 := Dk.rise_putL (k := K) (a := (⟨o.data ++ D, o.safe⟩ : Dk.Fil)) h.rise
  have hb1 : Dk.burnt (Dk.appendS s K D) = false := by
    rw [e2]
    exact h.burnt
  have f1 : Dk.findE (Dk.appendS s K D) K = 0 := by
    unfold Dk.findE
    rw [hok, e2, g1]
    rfl
  have e3 : Dk.syncE (Dk.appendS s K D) K = 0 := by
    unfold Dk.syncE
    rw [f1]
    unfold Dk.changeE
    rw [hb1]
    rfl
  have hW : wrS s f D = { s with fs := Dk.putL K ⟨o.data ++ D, (o.data ++ D).length⟩ (Dk.putL K ⟨o.data ++ D, o.safe⟩ s.fs) } := by
    show Dk.syncS (Dk.appendS s f.data.toList D) f.data.toList = _
    rw [hK]
    unfold Dk.syncS
    rw [f1, hb1]
    unfold Dk.changeS
    rw [hb1]
    rw [e2, g1]
    simp [h.up.2, Dk.fileOr]
  rw [hW, ho]
  refine ⟨e1, e3, h.up.1, h.up.2, Dk.rise_putL r1, ?_, Dk.getL_put r1, fun q hq => ?_, fun p hp => ?_, ?_, ?_⟩
  · show (Dk.putL K _ (Dk.putL K _ s.fs)).length ≤ _
    rw [Dk.putL_putL]
    exact Dk.length_putL
  · show Dk.getL q (Dk.putL K _ (Dk.putL K _ s.fs)) = _
    rw [Dk.getL_put_ne r1 hq, Dk.getL_put_ne h.rise hq]
  · rcases Dk.mem_putL.1 hp with rfl | ⟨hm, hne⟩
    · exact Or.inl ⟨rfl, rfl⟩
    · rcases Dk.mem_putL.1 hm with rfl | ⟨hm, _⟩
      · exact absurd rfl hne
      · exact Or.inr hm
  · show Dk.keysL (Dk.putL K _ (Dk.putL K _ s.fs)) = _
    rw [Dk.putL_putL, Dk.keys_putL]
  · show Dk.delL K (Dk.putL K _ (Dk.putL K _ s.fs)) = _
    rw [Dk.delL_putL, Dk.delL_putL]
theorem epochs_ne : epochB.data.toList ≠ epochNB.data.toList := by decide
def updF (LF : List UInt8 → List (Nat × Nat)) (f : List UInt8) (W : List (Nat × Nat)) (q : List UInt8) : List (Nat × Nat) := if q = f then W else LF q
theorem logB_ne {v g : Nat} (hv : v < 10) (hg : g < 100) : (logB v g).data.toList ≠ epochB.data.toList := fun e => by
  have h1 := (logK_at hv hg).1
  rw [e, logK_epoch.1] at h1
  cases h1
/-- a log's file is longer -/
theorem QDisk.log (h : QDisk s t k LF Es) {v g : Nat} (hv : v < 10) (hg : g < 100) (W : List (Nat × Nat)) (hl : (LF (logB v g).data.toList).length + W.length ≤ 1000) (ht : t.size ≤ 100) (hk : k.size ≤ 100) (hn : s.fs.length < 64) :
    Dk.appendE s (logB v g).data.toList (flatF (W.map (bodyN t k))) = 0 ∧ Dk.syncE (Dk.appendS s (logB v g).data.toList (flatF (W.map (bodyN t k)))) (logB v g).data.toList = 0 ∧
    QDisk (wrS s (logB v g) (flatF (W.map (bodyN t k)))) t k (updF LF (logB v g).data.toList (LF (logB v g).data.toList ++ W)) Es ∧ (wrS s (logB v g) (flatF (W.map (bodyN t k)))).fs.length ≤ s.fs.length + 1 ∧ Dk.keysL (wrS s (logB v g) (flatF (W.map (bodyN t k)))).fs = Dk.insN (logB v g).data.toList (Dk.keysL s.fs) := by
  have hlog := (logK_at hv hg).1
  have hN : NameOkW (logB v g).data.toList := Or.inr (Or.inr ⟨v, g, hv, hg, rfl⟩)
  have hb : (LF (logB v g).data.toList).length * (t.size + k.size + 59) + W.length * (t.size + k.size + 59) ≤ 1000 * 259 := by
    rw [← Nat.add_mul]
    exact Nat.mul_le_mul hl (by omega)
  obtain ⟨a1, a2, a3, a4, a5, a6, a7, a8, a9, a10, a11⟩ := h.write (logB v g) (flatF (W.map (bodyN t k))) hN (by rw [h.logs _ hlog, lineF_len, lineF_len]; omega) hn
  refine ⟨a1, a2, ⟨⟨a3, a4⟩, a5, fun p hp => ?_, fun p hp => ?_, fun f hf => ?_, ?_, (a8 _ (fun e => by rw [← e, logK_epoch.2.1] at hlog; cases hlog)).trans h.nonew⟩, a6, a10⟩
  · rcases a9 p hp with ⟨e, _⟩ | hp
    · rw [e]; exact hN
    · exact h.names p hp
  · rcases a9 p hp with ⟨_, e⟩ | hp
    · exact e
    · exact h.whole p hp
  · unfold updF
    by_cases e : f = (logB v g).data.toList
    · rw [if_pos e, e, a7, List.map_append, flatF_append, ← h.logs _ hlog]
      rfl
    · rw [if_neg e, a8 f e]
      exact h.logs f hf
  · rw [a8 _ (logB_ne hv hg).symm]
    exact h.marks
theorem markF_len : ∀ Es : List Nat, (flatF (Es.map markN)).length = Es.length * 16
  | [] => rfl
  | e :: r => by
    rw [List.map_cons, flatF_cons, List.length_append, frameB_len, markN_size, markF_len r, List.length_cons, Nat.succ_mul]
    omega
/-- the marks are longer -/
theorem QDisk.mark (h : QDisk s t k LF Es) (e : Nat) (hl : Es.length ≤ 1000) (hn : s.fs.length < 64) :
    Dk.appendE s epochB.data.toList (frameB (markN e)).data.toList = 0 ∧ Dk.syncE (Dk.appendS s epochB.data.toList (frameB (markN e)).data.toList) epochB.data.toList = 0 ∧
    QDisk (wrS s epochB (frameB (markN e)).data.toList) t k LF (Es ++ [e]) ∧ (wrS s epochB (frameB (markN e)).data.toList).fs.length ≤ s.fs.length + 1 ∧ Dk.keysL (wrS s epochB (frameB (markN e)).data.toList).fs = Dk.insN epochB.data.toList (Dk.keysL s.fs) := by
  obtain ⟨a1, a2, a3, a4, a5, a6, a7, a8, a9, a10, a11⟩ := h.write epochB (frameB (markN e)).data.toList (Or.inl rfl) (by rw [h.marks, markF_len, frameB_len, markN_size]; omega) hn
  refine ⟨a1, a2, ⟨⟨a3, a4⟩, a5, fun p hp => ?_, fun p hp => ?_, fun f hf => ?_, ?_, (a8 _ epochs_ne.symm).trans h.nonew⟩, a6, a10⟩
  · rcases a9 p hp with ⟨e, _⟩ | hp
    · rw [e]; exact Or.inl rfl
    · exact h.names p hp
  · rcases a9 p hp with ⟨_, e⟩ | hp
    · exact e
    · exact h.whole p hp
  · rw [a8 f (fun e => by rw [e, logK_epoch.1] at hf; cases hf)]
    exact h.logs f hf
  · rw [a7, List.map_append, flatF_append, ← h.marks]
    simp [Dk.fileOr, flatF]
/-- as load wants it -/
theorem QDisk.wal (h : QDisk s t k LF Es) (ht : t.size ≤ 100) (hk : k.size ≤ 100) (hLF : ∀ f, (LF f).length ≤ 1000 ∧ ∀ q ∈ LF f, TidOk q.1 ∧ q.2 < 9223372036854775808) (hE : RiseE Es) (hE2 : ∀ e ∈ Es, e ≤ 2147483648) (hE3 : Es.length ≤ 1000) : WalD s t k LF Es := by
  refine ⟨h.rise, h.names, fun p hp hl => ⟨[], torn_nil, ?_, ?_, (hLF _).1, (hLF _).2⟩, ⟨[], torn_nil, ?_, ?_, hE, hE2⟩⟩
  · have h1 := h.logs p.1 hl
    rw [getL_of_mem h.rise hp] at h1
    rw [List.append_nil]
    exact h1
  · have h1 := h.logs p.1 hl
    rw [getL_of_mem h.rise hp] at h1
    show p.2.data.length ≤ _
    have h2 : p.2.data = flatF ((LF p.1).map (bodyN t k)) := h1
    rw [h2, lineF_len]
    have : (LF p.1).length * (t.size + k.size + 59) ≤ 1000 * 259 := Nat.mul_le_mul (hLF p.1).1 (by omega)
    omega
  · rw [List.append_nil, ← h.marks]
    unfold Dk.readV Dk.findE
    rw [if_pos (c := Dk.okName epochB.data.toList = true) logK_epoch.2.2.1]
    cases hg : Dk.getL epochB.data.toList s.fs with
    | none => rfl
    | some x => rfl
  · rw [List.append_nil, markF_len]
    omega
/-- behind a crash -/
theorem QDisk.crash (h : QDisk s t k LF Es) (ds : List Int) (hd : ds.length ≤ 4096) : Dk.crashS s ds = ⟨s.fs, false, false, 0⟩ ∧ QDisk (Dk.crashS s ds) t k LF Es := by
  have e : Dk.crashS s ds = ⟨s.fs, false, false, 0⟩ := by
    unfold Dk.crashS
    rw [if_neg (by omega), Dk.crashL_id s.fs ds h.whole]
  refine ⟨e, ?_⟩
  rw [e]
  exact ⟨⟨rfl, rfl⟩, h.rise, h.names, h.whole, h.logs, h.marks, h.nonew⟩
theorem qdisk_blank (t k : ByteArray) : QDisk Dk.blank t k (fun _ => []) [] := ⟨⟨rfl, rfl⟩, List.Pairwise.nil, (fun _ hp => by cases hp), (fun _ hp => by cases hp), (fun _ _ => rfl), rfl, rfl⟩
/-- opened with no marks -/
theorem QDisk.renew0 (_ : QDisk s t k LF Es) (h0 : Dk.getL epochB.data.toList s.fs = none) : Dk.removeE s epochB.data.toList = 5 ∧ Dk.removeS s epochB.data.toList = s := by
  have f : Dk.findE s epochB.data.toList = 5 := by
    unfold Dk.findE
    rw [if_pos (c := Dk.okName epochB.data.toList = true) logK_epoch.2.2.1, h0]
    rfl
  refine ⟨?_, ?_⟩
  · unfold Dk.removeE
    rw [f]
    rfl
  · unfold Dk.removeS
    rw [f]
    rfl
/-- opened with marks -/
theorem QDisk.renew (h : QDisk s t k LF Es) (n : Nat) (hn : s.fs.length < 64) :
    Dk.removeE s epochNB.data.toList = 5 ∧ renS1 s = s ∧ Dk.appendE (renS1 s) epochNB.data.toList (frameB (markN n)).data.toList = 0 ∧ Dk.syncE (Dk.appendS (renS1 s) epochNB.data.toList (frameB (markN n)).data.toList) epochNB.data.toList = 0 ∧
    Dk.renameE (renS2 s n) epochNB.data.toList epochB.data.toList = 0 ∧ QDisk (renS s n) t k LF [n] ∧ (renS s n).fs.length ≤ s.fs.length + 2 ∧ (∀ q, q ≠ epochB.data.toList → Dk.getL q (renS s n).fs = Dk.getL q s.fs) ∧ Dk.keysL (renS s n).fs = Dk.insN epochB.data.toList (Dk.keysL s.fs) := by
  have ok1 := logK_epoch.2.2.1
  have ok2 := logK_epoch.2.2.2
  have f : Dk.findE s epochNB.data.toList = 5 := by
    unfold Dk.findE
    rw [if_pos (c := Dk.okName epochNB.data.toList = true) ok2, h.nonew]
    rfl
  have e1 : renS1 s = s := by
    show Dk.removeS s _ = s
    unfold Dk.removeS
    rw [f]
    rfl
  have e0 : Dk.removeE s epochNB.data.toList = 5 := by
    unfold Dk.removeE
    rw [f]
    rfl
  have hd0 : (Dk.fileOr (Dk.getL epochNB.data.toList s.fs)).data = [] := by rw [h.nonew]; rfl
  obtain ⟨a1, a2, a3, a4, a5, a6, a7, a8, a9, a10, a11⟩ := h.write epochNB (frameB (markN n)).data.toList (Or.inr (Or.inl rfl)) (by rw [hd0, frameB_len, markN_size]; decide) hn
  rw [hd0, List.nil_append] at a7
  obtain ⟨s2, hs2⟩ : ∃ s2, wrS s epochNB (frameB (markN n)).data.toList = s2 := ⟨_, rfl⟩
  have e2 : renS2 s n = s2 := by
    show Dk.syncS (Dk.appendS (renS1 s) _ _) _ = s2
    rw [e1]
    exact hs2
  rw [hs2] at a3 a4 a5 a6 a7 a8 a9 a11
  have hb2 : Dk.burnt s2 = false := by
    unfold Dk.burnt
    rw [a3, a4]
    rfl
  have f2 : Dk.findE s2 epochNB.data.toList = 0 := by
    unfold Dk.findE
    rw [if_pos (c := Dk.okName epochNB.data.toList = true) ok2, a7]
    rfl
  obtain ⟨fr, hfr⟩ : ∃ f, (frameB (markN n)).data.toList = f := ⟨_, rfl⟩
  rw [hfr] at a1 a2 a7
  have e3 : renS s n = { s2 with fs := Dk.putL epochB.data.toList ⟨fr, fr.length⟩ (Dk.delL epochNB.data.toList s2.fs) } := by
    show Dk.renameS (renS2 s n) _ _ = _
    rw [e2]
    unfold Dk.renameS
    rw [if_pos (by rw [ok1, ok2]; rfl), if_pos f2, hb2, a7]
    have hc : Dk.changeS s2 = s2 := by
      unfold Dk.changeS
      rw [hb2, if_neg (by decide), a4, if_neg (by decide)]
    rw [hc, if_neg (by decide)]
    rfl
  have r3 := Dk.rise_delL (k := epochNB.data.toList) a5
  have g3 : ∀ q, q ≠ epochB.data.toList → Dk.getL q (renS s n).fs = Dk.getL q s.fs := fun q hq => by
    rw [e3]
    show Dk.getL q (Dk.putL _ _ _) = _
    rw [Dk.getL_put_ne r3 hq]
    by_cases e : q = epochNB.data.toList
    · rw [e, Dk.getL_del, h.nonew]
    · rw [Dk.getL_del_ne a5 e, a8 q e]
  refine ⟨e0, e1, by rw [e1, hfr]; exact a1, by rw [e1, hfr]; exact a2, ?_, ⟨?_, ?_, fun p hp => ?_, fun p hp => ?_, fun f hf => ?_, ?_, ?_⟩, ?_, g3, ?_⟩
  · rw [e2]
    unfold Dk.renameE
    rw [if_pos (by rw [ok1, ok2]; rfl), if_pos f2]
    unfold Dk.changeE
    rw [hb2]
    rfl
  · rw [e3]; exact ⟨a3, a4⟩
  · rw [e3]; exact Dk.rise_putL r3
  · rw [e3] at hp
    rcases Dk.mem_putL.1 hp with rfl | ⟨hp, _⟩
    · exact Or.inl rfl
    · rcases a9 p (Dk.mem_delL.1 hp).1 with ⟨e, _⟩ | hp2
      · exact absurd e (Dk.mem_delL.1 hp).2
      · exact h.names p hp2
  · rw [e3] at hp
    rcases Dk.mem_putL.1 hp with rfl | ⟨hp, _⟩
    · rfl
    · rcases a9 p (Dk.mem_delL.1 hp).1 with ⟨_, e⟩ | hp2
      · exact e
      · exact h.whole p hp2
  · rw [g3 f (fun e => by rw [e, logK_epoch.1] at hf; cases hf)]
    exact h.logs f hf
  · rw [e3]
    show (Dk.fileOr (Dk.getL _ (Dk.putL _ _ _))).data = _
    rw [Dk.getL_put r3, ← hfr]
    simp [Dk.fileOr, flatF]
  · rw [g3 _ epochs_ne.symm]
    exact h.nonew
  · rw [e3]
    show (Dk.putL _ _ _).length ≤ _
    have h1 := Dk.length_putL (k := epochB.data.toList) (a := (⟨fr, fr.length⟩ : Dk.Fil)) (l := Dk.delL epochNB.data.toList s2.fs)
    have h2 := Dk.length_delL (k := epochNB.data.toList) (l := s2.fs)
    omega
  · rw [e3]
    show Dk.keysL (Dk.putL _ _ _) = _
    rw [Dk.keys_putL, a11, Dk.delL_other (Dk.getL_none h.nonew)]
end
end Go.Proofs.YtigegdelhpdlhaaGreatDoor
