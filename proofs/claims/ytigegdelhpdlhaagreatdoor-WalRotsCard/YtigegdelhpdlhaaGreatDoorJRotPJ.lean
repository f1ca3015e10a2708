import Derived.Test.YtigegdelhpdlhaaGreatDoorJFlush2J
/- Layer 18: what a log's file reads as when one byte of one of its frames is another one. -/
namespace Go.Proofs.YtigegdelhpdlhaaGreatDoor
open Go.RowKit QP

/-- frames, and behind them something that is no frame -/
theorem frames_of2 (x : ByteArray) (Z : List UInt8) : ∀ (Bs : List ByteArray) (A : List UInt8), (∀ b ∈ Bs, b.size ≤ 65536) → x.data.toList = A ++ flatF Bs ++ Z → (found x ((A.length + (flatF Bs).length : Nat) : Int)).code ≠ 0 → framesAt x A.length = (Bs.map (fun b => b.data.toList), A.length + (flatF Bs).length)
  | [], A, _, hx, h => by
    rw [framesAt_end (by simpa [flatF] using h)]
    rfl
  | b :: Bs, A, hs, hx, h => by
    have hb := hs b (List.mem_cons_self ..)
    rw [flatF_cons] at hx h
    have hf := found_frame x b A (flatF Bs ++ Z) (by rw [hx]; simp only [List.append_assoc]) hb
    have h0 : (found x A.length).code = 0 := by rw [hf]
    have hk : (found x A.length).stop = ((A.length + 8 + b.size : Nat) : Int) := by rw [hf]; show (A.length : Int) + 8 + b.size = _; omega
    rw [framesAt_next h0 hk, hf]
    have hl : (A ++ (frameB b).data.toList).length = A.length + 8 + b.size := by rw [List.length_append, frameB_len]; omega
    have ih := frames_of2 x Z Bs (A ++ (frameB b).data.toList) (fun c hc => hs c (List.mem_cons_of_mem _ hc)) (by rw [hx]; simp only [List.append_assoc]) (by
      rw [hl]
      rw [List.length_append, frameB_len] at h
      rw [show A.length + 8 + b.size + (flatF Bs).length = A.length + (b.size + 8 + (flatF Bs).length) by omega]
      exact h)
    rw [hl] at ih
    rw [ih, flatF_cons, List.length_append, frameB_len]
    simp only [List.map_cons, Prod.mk.injEq, true_and]
    omega
theorem frames_is2 (x : ByteArray) (Bs : List ByteArray) (Z : List UInt8) (hs : ∀ b ∈ Bs, b.size ≤ 65536) (hx : x.data.toList = flatF Bs ++ Z) (h : (found x ((flatF Bs).length : Nat)).code ≠ 0) : frames x = (Bs.map (fun b => b.data.toList), (flatF Bs).length) := by
  have := frames_of2 x Z Bs [] hs (by rw [hx]; rfl) (by rw [List.length_nil, Nat.zero_add]; exact h)
  rw [List.length_nil, Nat.zero_add] at this
  exact this

/-- a frame with one byte changed, behind its length, wherever it stands -/
theorem found_torn_at (x b : ByteArray) (A Z : List UInt8) (i : Nat) (c : UInt8) (hi : 4 ≤ i) (hi2 : i < b.size + 8) (h : b.size ≤ 65536) (hx : x.data.toList = A ++ (frameB b).data.toList.set i c ++ Z) (hc : ∀ d, (frameB b).data.toList[i]? = some d → c ≠ d) :
    (found x A.length).code = 60 := by
  rw [frameB_parts] at hx hc
  have hbl : b.data.toList.length = b.size := rfl
  obtain ⟨k, hk⟩ : ∃ k, crc (le4 b.size ++ b.data.toList) = k := ⟨_, rfl⟩
  have hk2 : k < 4294967296 := hk ▸ crc_lt _
  rw [hk] at hx hc
  have e1 : un4 (le4 b.size) = b.size := by
    have := un4_le4 (n := b.size) (by omega) []
    rw [List.append_nil] at this
    exact this
  have e2 : un4 (le4 k) = k := by
    have := un4_le4 hk2 []
    rw [List.append_nil] at this
    exact this
  by_cases h1 : i < 4 + b.size
  · have e3 : (le4 b.size ++ b.data.toList ++ le4 k).set i c = le4 b.size ++ b.data.toList.set (i - 4) c ++ le4 k := by
      rw [List.set_append_left _ _ (by rw [List.length_append, le4_len]; omega), List.set_append_right _ _ (by rw [le4_len]; omega), le4_len]
    have hj : i - 4 < b.data.toList.length := by omega
    have hf := found_at x A (le4 b.size) (b.data.toList.set (i - 4) c) (le4 k) Z (by rw [hx, e3]) rfl rfl (by rw [e1, List.length_set, hbl]) (by rw [List.length_set]; omega)
    have hne : ¬ crc (le4 b.size ++ b.data.toList.set (i - 4) c) = un4 (le4 k) := by
      rw [e2, ← hk]
      have hd : b.data.toList[i - 4] ≠ c := by
        refine fun e => hc _ ?_ e.symm
        rw [List.getElem?_append_left (by rw [List.length_append, le4_len]; omega), List.getElem?_append_right (by rw [le4_len]; omega), le4_len, List.getElem?_eq_getElem hj]
      have s1 : b.data.toList = b.data.toList.take (i - 4) ++ b.data.toList[i - 4] :: b.data.toList.drop (i - 4 + 1) := by rw [List.getElem_cons_drop hj, List.take_append_drop]
      have s2 : b.data.toList.set (i - 4) c = b.data.toList.take (i - 4) ++ c :: b.data.toList.drop (i - 4 + 1) := by rw [List.set_eq_take_append_cons_drop, if_pos hj]
      have key := crc_torn (le4 b.size ++ b.data.toList.take (i - 4)) (b.data.toList.drop (i - 4 + 1)) c b.data.toList[i - 4] (Ne.symm hd)
      intro e
      apply key
      rw [List.append_assoc, List.append_assoc, ← s2, ← s1]
      exact e
    rw [hf, if_neg hne]
  · have e3 : (le4 b.size ++ b.data.toList ++ le4 k).set i c = le4 b.size ++ b.data.toList ++ (le4 k).set (i - (4 + b.size)) c := by
      rw [List.set_append_right _ _ (by rw [List.length_append, le4_len]; omega), List.length_append, le4_len, hbl]
    have hj : i - (4 + b.size) < (le4 k).length := by rw [le4_len]; omega
    have hf := found_at x A (le4 b.size) b.data.toList ((le4 k).set (i - (4 + b.size)) c) Z (by rw [hx, e3]) rfl (by rw [List.length_set]; rfl) e1 h
    have hne : ¬ crc (le4 b.size ++ b.data.toList) = un4 ((le4 k).set (i - (4 + b.size)) c) := by
      rw [hk]
      intro e
      have e5 : le4 k = (le4 k).set (i - (4 + b.size)) c := un4_inj rfl (by rw [List.length_set]; rfl) (e2.trans e)
      have h6 : (le4 k)[i - (4 + b.size)]? = some c := by
        have h7 := congrArg (fun l : List UInt8 => l[i - (4 + b.size)]?) e5
        exact h7.trans (List.getElem?_set_self hj)
      exact hc c (by rw [List.getElem?_append_right (by rw [List.length_append, le4_len]; omega), List.length_append, le4_len, hbl]; exact h6) rfl
    rw [hf, if_neg hne]

/-- what is a log's file with one byte changed -/
def RotL (D : List UInt8) : Prop := ∃ (Bs : List ByteArray) (Z : List UInt8), D = flatF Bs ++ Z ∧ (∀ b ∈ Bs, b.size ≤ 65536) ∧ ∀ x : ByteArray, x.data.toList = D → (found x ((flatF Bs).length : Nat)).code = 60

theorem flatF_len {n : Nat} : ∀ Bs : List ByteArray, (∀ b ∈ Bs, b.size = n) → (flatF Bs).length = Bs.length * (n + 8)
  | [], _ => by simp [flatF]
  | b :: Bs, h => by
    rw [flatF_cons, List.length_append, frameB_len, h b (by simp), flatF_len Bs (fun c hc => h c (List.mem_cons_of_mem _ hc)), List.length_cons, Nat.succ_mul]
    omega

/-- frames of one length, one byte of the j-th (from its fifth on) is another one -/
theorem rot_of (Bs : List ByteArray) (n j i : Nat) (c d : UInt8) (hn : n ≤ 65536) (hs : ∀ b ∈ Bs, b.size = n) (hj : j < Bs.length) (hi : 4 ≤ i) (hi2 : i < n + 8) (hd : (flatF Bs)[j * (n + 8) + i]? = some d) (hc : c ≠ d) : RotL ((flatF Bs).set (j * (n + 8) + i) c) := by
  have hsp : Bs = Bs.take j ++ Bs[j] :: Bs.drop (j + 1) := by rw [List.getElem_cons_drop hj, List.take_append_drop]
  obtain ⟨P, hP⟩ : ∃ P, Bs.take j = P := ⟨_, rfl⟩
  obtain ⟨R, hR⟩ : ∃ R, Bs.drop (j + 1) = R := ⟨_, rfl⟩
  obtain ⟨b, hb⟩ : ∃ b, Bs[j] = b := ⟨_, rfl⟩
  have hbs : b.size = n := hb ▸ hs _ (List.getElem_mem hj)
  have hPs : ∀ p ∈ P, p.size = n := fun p hp => hs p (List.mem_of_mem_take (hP ▸ hp))
  have hPl : P.length = j := by rw [← hP, List.length_take]; omega
  rw [hP, hR, hb] at hsp
  have hfl : (flatF P).length = j * (n + 8) := by rw [flatF_len P hPs, hPl]
  have hF : flatF Bs = flatF P ++ ((frameB b).data.toList ++ flatF R) := by rw [hsp, flatF_append, flatF_cons]
  have hfb : (frameB b).data.toList.length = n + 8 := by rw [frameB_len, hbs]
  have hset : (flatF Bs).set (j * (n + 8) + i) c = flatF P ++ (frameB b).data.toList.set i c ++ flatF R := by
    rw [hF, ← hfl, List.set_append_right _ _ (by omega), show (flatF P).length + i - (flatF P).length = i by omega, List.set_append_left _ _ (by omega), List.append_assoc]
  have hdb : (frameB b).data.toList[i]? = some d := by
    rw [hF, ← hfl, List.getElem?_append_right (by omega), show (flatF P).length + i - (flatF P).length = i by omega, List.getElem?_append_left (by omega)] at hd
    exact hd
  rw [hset, List.append_assoc]
  refine ⟨P, _, rfl, fun p hp => by rw [hPs p hp]; exact hn, fun x hx => ?_⟩
  exact found_torn_at x b (flatF P) (flatF R) i c hi (by omega) (by omega) (by rw [hx, List.append_assoc]) (fun e he => by
    rw [hdb] at he
    cases he
    exact hc)

section
variable {s : Dk.Dsk} {t k : ByteArray} {LF : List UInt8 → List (Nat × Nat)} {Es : List Nat}
/-- a log's file is taken away -/
theorem QDisk.remove (h : QDisk s t k LF Es) {v g : Nat} (hv : v < 10) (hg : g < 100) (hin : (logB v g).data.toList ∈ Dk.keysL s.fs) :
    Dk.removeE s (logB v g).data.toList = 0 ∧ QDisk (Dk.removeS s (logB v g).data.toList) t k (updF LF (logB v g).data.toList []) Es ∧ (Dk.removeS s (logB v g).data.toList).fs = Dk.delL (logB v g).data.toList s.fs := by
  have hok := (logK_at hv hg).2.2
  have hne := logB_ne hv hg
  have hlog := (logK_at hv hg).1
  obtain ⟨K, hK⟩ : ∃ K, (logB v g).data.toList = K := ⟨_, rfl⟩
  rw [hK] at hin hok hne hlog ⊢
  obtain ⟨p, hp, hpk⟩ := List.mem_map.1 hin
  have hget : Dk.getL K s.fs = some p.2 := by rw [← hpk]; exact getL_of_mem h.rise hp
  have hf : Dk.findE s K = 0 := by
    unfold Dk.findE
    rw [if_pos hok, hget]
    rfl
  have e1 : Dk.removeE s K = 0 := by
    unfold Dk.removeE
    rw [hf]
    exact h.changeE
  have e2 : Dk.removeS s K = { s with fs := Dk.delL K s.fs } := by
    unfold Dk.removeS
    rw [hf, h.burnt, h.changeS]
    rfl
  rw [e2]
  have hgd : ∀ q, q ≠ K → Dk.getL q (Dk.delL K s.fs) = Dk.getL q s.fs := fun q hq => Dk.getL_del_ne h.rise hq
  refine ⟨e1, ⟨h.up, Dk.rise_delL h.rise, fun q hq => h.names q (Dk.mem_delL.1 hq).1, fun q hq => h.whole q (Dk.mem_delL.1 hq).1, fun f hf => ?_, ?_, ?_⟩, rfl⟩
  · show (Dk.fileOr (Dk.getL f (Dk.delL K s.fs))).data = _
    unfold updF
    by_cases e : f = K
    · rw [if_pos e, e, Dk.getL_del]
      rfl
    · rw [if_neg e, hgd f e]
      exact h.logs f hf
  · show (Dk.fileOr (Dk.getL _ (Dk.delL K s.fs))).data = _
    rw [hgd _ hne.symm]
    exact h.marks
  · show Dk.getL _ (Dk.delL K s.fs) = _
    rw [hgd _ (fun e => by rw [← e, logK_epoch.2.1] at hlog; cases hlog)]
    exact h.nonew
end
end Go.Proofs.YtigegdelhpdlhaaGreatDoor

/- Layer 18: mark. -/
namespace Go.Proofs.YtigegdelhpdlhaaGreatDoor
open Go.RowKit QP

/-- the durable epoch is written anew -/
theorem LogG.setDur {w : World} {t k : ByteArray} {l d b : Nat} {vs : List Value} {L : Lg} (h : LogG w t k l d b vs L) (e : Nat) {F : Nat → Prop} (hF : ∀ j, F j ↔ footL l b vs j) :
    Goes (LogI t k l d { L with dur := e }) w (w.setCell ⟨l, 2, none⟩ (.int .i64 (e : Int))) F := by
  obtain ⟨cur, hcur, hce⟩ := h.row
  have hlb : b ≠ l := fun e => by
    have h1 := h.top
    rw [← e, hcur] at h1
    simp only [Option.some.injEq, Obj.cells.injEq] at h1
    exact absurd h1.2.1 (by decide)
  have hT : Turn (fun j => j = l) w (w.setCell ⟨l, 2, none⟩ (.int .i64 (e : Int))) := Turn.setCell (S := fun j => j = l) w ⟨l, 2, none⟩ _ rfl
  refine ⟨footL l b vs, ⟨b, vs, ⟨?_, ⟨cur, (hT.block b (lt_of hcur) hlb).trans hcur, hce⟩, h.len, fun i v wk hv hw => ?_, h.apart, h.few⟩, fun _ => Iff.rfl⟩, hT.mono fun j hj => (hF j).2 (Or.inl hj), fun j hj => Or.inl ((hF j).2 hj)⟩
  · exact heap_setCell_same h.top 2 _
  · refine ownsRow_block (h.own i v wk hv hw) fun g hg => hT.block g (World.ownsRow.lt (h.own i v wk hv hw) g hg).2 fun e => ?_
    obtain ⟨cur2, hc2, _⟩ := ownsRow_own (h.own i v wk hv hw) hg
    rw [e, h.top] at hc2
    simp only [Option.some.injEq, Obj.cells.injEq] at hc2
    exact absurd hc2.2.1 (by decide)

set_option maxRecDepth 100000 in
set_option maxHeartbeats 4000000 in
theorem jmark_any (t k : ByteArray) (l d ep : Nat) (s : Dk.Dsk) (L : Lg) (w : World) (F : Nat → Prop) (h : LD t k l d s L w F) (he : L.dur < ep) (he2 : ep ≤ 2147483648) (hall : ∀ wk ∈ L.ws, wk.1 = [])
    (h1 : Dk.appendE s epochB.data.toList (frameB (markN ep)).data.toList = 0) (h2 : Dk.syncE (Dk.appendS s epochB.data.toList (frameB (markN ep)).data.toList) epochB.data.toList = 0) :
    Calls Tryz.prog 41 #[.pointer (some ⟨l, 0, none⟩), .int .i64 (ep : Int)] w fun e w' => e = .returned (.tuple #[]) ∧ Goes (LD t k l d (wrS s epochB (frameB (markN ep)).data.toList) { L with dur := ep }) w w' F := by
  obtain ⟨A, B, hD, ⟨b, vs, hG, hB⟩, hAB, hAF, hBF, hFAB⟩ := id h
  have hfs : (frameB (markN ep)).size ≤ maxLen := by rw [frameB_size, markN_size]; decide
  obtain ⟨Fr, hFr⟩ : ∃ f, frameB (markN ep) = f := ⟨_, rfl⟩
  have HMk : Hid (∀ u, Calls Tryz.prog 70 #[.int .i64 (ep : Int)] u fun e w' => e = .returned (.string Fr) ∧ Below u.heap.size u w') := fun u => by
    rw [← hFr]
    exact jmarkOf_any ep u he2
  rw [hFr] at hfs h1 h2 ⊢
  obtain ⟨s2, hs2⟩ : ∃ s2, wrS s epochB Fr.data.toList = s2 := ⟨_, rfl⟩
  rw [hs2]
  have HWr : Hid (∀ u, Below w.heap.size w u → Calls Tryz.prog 67 #[.pointer (some ⟨d, 0, none⟩), .string ⟨#[101, 112, 111, 99, 104]⟩, .string Fr] u fun e w' => e = .returned (.tuple #[]) ∧ w'.heap[l]? = w.heap[l]? ∧ Hid (Goes (LD t k l d s2 L) w w' F)) := fun u hu => by
    have hAu : DiskI d s u A := (DiskI.res d s).kept (S := fun _ => False) hD (Turn.ofBelow _ hu) (fun _ _ h => h)
    have hBu : LogI t k l d L u B := (logI_res t k l d L).kept (S := fun _ => False) ⟨b, vs, hG, hB⟩ (Turn.ofBelow _ hu) (fun _ _ h => h)
    refine (jwriteD_ok epochB Fr hAu (by decide) hfs h1 h2).mono ?_
    rintro e w' ⟨e1, hg1⟩
    have hg1' : Goes (DiskI d s2) u w' A := by rw [← hs2]; exact hg1
    have hg2 := Sep.goL (logI_res t k l d L) hBu hAB hAF hBF hg1'
    refine ⟨e1, ?_, hg2.after hu⟩
    obtain ⟨A2, _, t2, _⟩ := hg1'
    have hl := lt_of hG.top
    exact (t2.block l (Nat.lt_of_lt_of_le hl hu.size) (fun hA => hAB l hA ((hB l).2 (Or.inl rfl)))).trans (hu.block l hl)
  have HSt : Hid (∀ w4 F4, LD t k l d s2 L w4 F4 → Goes (LD t k l d s2 { L with dur := ep }) w4 (w4.setCell ⟨l, 2, none⟩ (.int .i64 (ep : Int))) F4) := fun w4 F4 h4 => by
    obtain ⟨A4, B4, hD4, ⟨b4, vs4, hG4, hB4⟩, hAB4, hAF4, hBF4, _⟩ := h4
    exact (Sep.goL (DiskI.res d s2) hD4 (fun j hb ha => hAB4 j ha hb) hBF4 hAF4 (hG4.setDur ep hB4)).swap
  have HC : Hid (∀ u : World, u.heap[l]? = w.heap[l]? → u.cell? ⟨l, 0, none⟩ = some (.pointer (some ⟨d, 0, none⟩)) ∧ u.cell? ⟨l, 1, none⟩ = some (.slice (some ⟨b, 0, none⟩) L.ws.length L.ws.length) ∧ u.cell? ⟨l, 2, none⟩ = some (.int .i64 (L.dur : Int)) ∧ u.frozen? ⟨l, 2, none⟩ = false) := fun u hu => by
    have hlu := hu.trans hG.top
    exact ⟨by rw [cell_of hlu]; rfl, by rw [cell_of hlu]; rfl, by rw [cell_of hlu]; rfl, frozen_of hlu _⟩
  have HL : Hid (∀ u, Below w.heap.size w u → u.heap[l]? = w.heap[l]?) := fun u hu => hu.block l (lt_of hG.top)
  have HV : Hid (∀ (u : World) (j : Nat), Below w.heap.size w u → j < L.ws.length → ∃ a m, ∃ lst : Nat, u.cell? ⟨b, j * 2, none⟩ = some (.slice a 0 m) ∧ u.cell? ⟨b, j * 2 + 1, none⟩ = some (.int .u64 (lst : Int))) := fun u j hu hj => by
    have hv : vs[j]? = some (vs[j]'(by rw [hG.len]; exact hj)) := List.getElem?_eq_getElem _
    have hw : L.ws[j]? = some L.ws[j] := List.getElem?_eq_getElem _
    obtain ⟨c0, c1⟩ := hG.wk hv hw
    obtain ⟨a, m, e⟩ := row_shapeJ (hG.own j _ _ hv hw)
    have he0 := hall _ (List.getElem_mem hj)
    rw [he0] at e
    obtain ⟨cur, hcur, _⟩ := hG.row
    refine ⟨a, m, L.ws[j].2, ?_, ?_⟩
    · rw [hu.cell (p := ⟨b, j * 2, none⟩) (lt_of hcur), c0, e]
      rfl
    · rw [hu.cell (p := ⟨b, j * 2 + 1, none⟩) (lt_of hcur), c1]
  have HRf : Hid (∀ z u, Calls Tryz.prog 55 #[.bool false, .int .i64 z] u fun r w' => r = .returned (.tuple #[]) ∧ u = w') := fun z u => (refuse_no z u).mono fun _ _ h => ⟨h.1, h.2.symm⟩
  obtain ⟨Lg2, hLg2⟩ : ∃ X, ({ L with dur := ep } : Lg) = X := ⟨_, rfl⟩
  rw [hLg2] at HSt ⊢
  obtain ⟨N, hN⟩ : ∃ N, L.ws.length = N := ⟨_, rfl⟩
  have hN16 : N ≤ 16 := by rw [← hN]; exact hG.few.1
  obtain ⟨D, hDd⟩ : ∃ D, L.dur = D := ⟨_, rfl⟩
  rw [hN] at HC HV
  rw [hDd] at HC he
  obtain ⟨q0, q1, q2, q3⟩ := HC.out w rfl
  have c1 : decide ((ep : Int) ≤ (D : Int)) = false := decide_eq_false (by omega)
  have c2 : ¬ (ep : Int) ≤ (D : Int) := by omega
  have c3 : decide ((2147483648 : Int) < (ep : Int)) = false := decide_eq_false (by omega)
  have c4 : decide (ep ≤ D) = false := decide_eq_false (by omega)
  have c5 : decide (2147483648 < ep) = false := decide_eq_false (by omega)
  have c6 : ¬ (2147483648 : Int) < (ep : Int) := by omega
  clear hD hG hB hAB hAF hBF hFAB h h1 h2 hs2 hLg2 hN hDd hFr hfs hall he he2
  go_enter Tryz.func41, Tryz.ntmps41
  go_wp2_with (go_at_call 55; (with_reducible refine (HRf.out _ _).mono ?_); rintro e w4 ⟨rfl, rfl⟩)
  clear q0 q1 q2 q3
  go_loopw [22] (fun i wr => ∃ j : Nat, j ≤ N ∧ i = .int .i64 j ∧ Hid (Below w.heap.size w wr)) (fun i _ => N - (intOf i).toNat)
  case atStart => exact ⟨0, Nat.zero_le _, rfl, Below.refl _ _⟩
  case round =>
    obtain ⟨j, hj, rfl, HB⟩ := hrel
    by_cases hlt : j < N
    · have hlI : (j : Int) < (N : Int) := by omega
      obtain ⟨a, m, lst, c7, c8⟩ := HV.out wr j HB.out hlt
      go_wp2_with (go_at_call 55; (with_reducible refine (HRf.out _ _).mono ?_); rintro e w4 ⟨rfl, rfl⟩)
      exact ⟨⟨j + 1, by omega, by go_num, HB.out.alloc HB.out.size _⟩, by simp [intOf]; omega⟩
    · obtain rfl : j = N := by omega
      have hlI : ¬ (j : Int) < (j : Int) := by omega
      obtain ⟨q0, q1, q2, q3⟩ := HC.out wr (HL.out wr HB.out)
      have HWr2 : Hid (∀ u, Below wr.heap.size wr u → Calls Tryz.prog 67 #[.pointer (some ⟨d, 0, none⟩), .string ⟨#[101, 112, 111, 99, 104]⟩, .string Fr] u fun e w' => e = .returned (.tuple #[]) ∧ w'.heap[l]? = w.heap[l]? ∧ Hid (Goes (LD t k l d s2 L) w w' F)) := fun u hu => HWr.out u (HB.out.trans (hu.mono HB.out.size))
      have HMk2 : Hid (∀ u, Below wr.heap.size wr u → Calls Tryz.prog 70 #[.int .i64 (ep : Int)] u fun e w' => e = .returned (.string Fr) ∧ w'.cell? ⟨l, 0, none⟩ = some (.pointer (some ⟨d, 0, none⟩)) ∧ Below u.heap.size u w' ∧ Below wr.heap.size wr w') := fun u hu => (HMk.out u).mono fun e w' ⟨e1, e2⟩ => ⟨e1, (HC.out w' (HL.out w' (HB.out.trans ((hu.trans (e2.mono hu.size)).mono HB.out.size)))).1, e2, hu.trans (e2.mono hu.size)⟩
      clear HWr HV
      go_wp2_with fail
      go_region_held3 (fun u => u.cell? ⟨l, 0, none⟩ = some (.pointer (some ⟨d, 0, none⟩))) (go_keep)
        (first
          | (go_at_call 70; (with_reducible refine (HMk2.out _ (by go_grown)).mono ?_); rintro e w3 ⟨rfl, p3, hb3, hb4⟩)
          | (go_at_call 67; (with_reducible refine (HWr2.out _ (by first | assumption | go_grown)).mono ?_); rintro e w4 ⟨rfl, hl4, HG4⟩; obtain ⟨p0, p1, p2, p3⟩ := HC.out w4 hl4))
      obtain ⟨F4, I4, t4, n4⟩ := id HG4.out
      have HG6 : Hid (Goes (LD t k l d s2 Lg2) w (w4.setCell ⟨l, 2, none⟩ (.int .i64 (ep : Int))) F) := (HSt.out w4 F4 I4).step t4 n4
      clear I4 t4 n4 HG4 HSt q0 q1 q2 q3 HC HL
      go_wp2_with fail
      go_end0
      exact ⟨rfl, HG6.out⟩
end Go.Proofs.YtigegdelhpdlhaaGreatDoor
