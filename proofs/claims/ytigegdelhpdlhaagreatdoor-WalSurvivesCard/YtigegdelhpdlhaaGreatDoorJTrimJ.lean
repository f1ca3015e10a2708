import Derived.Test.YtigegdelhpdlhaaGreatDoorJWorksJ
import Derived.Test.YtigegdelhpdlhaaGreatDoorJDownJ
import Derived.Test.YtigegdelhpdlhaaGreatDoorJMarkJ
import Derived.Test.YtigegdelhpdlhaaGreatDoorJSortJ
/- Layer 18: Trim, where all logs are of a generation that is not above. -/
namespace Go.Proofs.YtigegdelhpdlhaaGreatDoor
open Go.RowKit QP

/-- a disk without its logs -/
def noLogs (fs : List (List UInt8 × Dk.Fil)) : List (List UInt8 × Dk.Fil) := fs.filter fun p => !isLogK p.1
def trimS (s : Dk.Dsk) : Dk.Dsk := { s with fs := noLogs s.fs }
/-- the first j names have been looked at -/
def trimJ (s : Dk.Dsk) (j : Nat) : Dk.Dsk := { s with fs := noLogs (s.fs.take j) ++ s.fs.drop j }
theorem trimJ_zero (s : Dk.Dsk) : trimJ s 0 = s := by
  unfold trimJ noLogs
  simp
theorem trimJ_all (s : Dk.Dsk) {n : Nat} (h : s.fs.length ≤ n) : trimJ s n = trimS s := by
  unfold trimJ trimS
  rw [List.take_of_length_le h, List.drop_eq_nil_of_le h, List.append_nil]
theorem rise_filter {α : Type} {l : List (List UInt8 × α)} (h : Dk.Rise l) (p : List UInt8 × α → Bool) : Dk.Rise (l.filter p) := List.Pairwise.filter _ h
section
variable {s : Dk.Dsk} {j : Nat}
theorem trimJ_skip (hj : j < s.fs.length) (hl : isLogK s.fs[j].1 = false) : trimJ s (j + 1) = trimJ s j := by
  unfold trimJ noLogs
  congr 1
  rw [List.take_succ_eq_append_getElem hj, List.filter_append, List.append_assoc, ← List.getElem_cons_drop hj]
  simp [hl]
theorem trimJ_take (hr : Dk.Rise s.fs) (hup : s.down = false ∧ s.fused = false) (hj : j < s.fs.length) (hl : isLogK s.fs[j].1 = true) (hok : Dk.okName s.fs[j].1 = true) : Dk.removeE (trimJ s j) s.fs[j].1 = 0 ∧ Dk.removeS (trimJ s j) s.fs[j].1 = trimJ s (j + 1) := by
  have hdrop := (List.getElem_cons_drop hj).symm
  have hnd := nodup_keys hr
  obtain ⟨K, hK⟩ : ∃ K, s.fs[j].1 = K := ⟨_, rfl⟩
  -- the name stands once
  have hone : ∀ i (hi : i < s.fs.length), s.fs[i].1 = K → i = j := fun i hi e => by
    have h1 : (Dk.keysL s.fs)[i]'(by unfold Dk.keysL; rw [List.length_map]; exact hi) = (Dk.keysL s.fs)[j]'(by unfold Dk.keysL; rw [List.length_map]; exact hj) := by
      unfold Dk.keysL
      rw [List.getElem_map, List.getElem_map, e, hK]
    exact (List.getElem_inj hnd).1 h1
  have hb : Dk.burnt (trimJ s j) = false := by
    unfold Dk.burnt trimJ
    rw [hup.1, hup.2]
    rfl
  have hc : Dk.changeS (trimJ s j) = trimJ s j := by
    unfold Dk.changeS
    rw [hb, if_neg (by decide)]
    have : (trimJ s j).fused = false := hup.2
    rw [this, if_neg (by decide)]
  have hmem : s.fs[j] ∈ (trimJ s j).fs := by
    unfold trimJ
    show s.fs[j] ∈ noLogs (s.fs.take j) ++ s.fs.drop j
    rw [hdrop]
    exact List.mem_append_right _ (List.mem_cons_self ..)
  have hrj : Dk.Rise (trimJ s j).fs := by
    have hsub : (trimJ s j).fs.Sublist s.fs := by
      unfold trimJ noLogs
      conv => rhs; rw [← List.take_append_drop j s.fs]
      exact List.Sublist.append (List.filter_sublist ..) (List.Sublist.refl _)
    exact List.Pairwise.sublist hsub hr
  have hget : Dk.getL K (trimJ s j).fs = some s.fs[j].2 := by
    rw [← hK]
    exact getL_of_mem hrj hmem
  have hf : Dk.findE (trimJ s j) K = 0 := by
    unfold Dk.findE
    rw [if_pos (by rw [← hK]; exact hok), hget]
    rfl
  rw [hK]
  refine ⟨?_, ?_⟩
  · unfold Dk.removeE
    rw [hf, if_pos rfl]
    unfold Dk.changeE
    rw [hb]
    rfl
  · unfold Dk.removeS
    rw [hf, if_pos rfl, hb, if_neg (by decide), hc]
    suffices hfs : List.filter (fun p => !(p.1 == K)) (List.filter (fun p => !isLogK p.1) (s.fs.take j) ++ s.fs.drop j) = List.filter (fun p => !isLogK p.1) (s.fs.take (j + 1)) ++ s.fs.drop (j + 1) by
      show ({ s with fs := Dk.delL K (noLogs (s.fs.take j) ++ s.fs.drop j) } : Dk.Dsk) = { s with fs := noLogs (s.fs.take (j + 1)) ++ s.fs.drop (j + 1) }
      unfold Dk.delL noLogs
      rw [hfs]
    rw [List.filter_append, hdrop, List.filter_cons, List.take_succ_eq_append_getElem hj, List.filter_append]
    have e1 : (!(s.fs[j].1 == K)) = false := by rw [hK]; simp
    have e2 : List.filter (fun p => !isLogK p.1) [s.fs[j]] = [] := by simp [hl]
    rw [if_neg (by rw [e1]; decide), e2, List.append_nil]
    congr 1
    · refine List.filter_eq_self.2 fun p hp => ?_
      have hp2 := (List.mem_filter.1 hp).1
      obtain ⟨i, hi, rfl⟩ := List.getElem_of_mem hp2
      rw [List.getElem_take]
      rw [List.length_take] at hi
      simp only [Bool.not_eq_true', beq_eq_false_iff_ne, ne_eq]
      intro e
      have := hone i (by omega) e
      omega
    · refine List.filter_eq_self.2 fun p hp => ?_
      obtain ⟨i, hi, rfl⟩ := List.getElem_of_mem hp
      rw [List.getElem_drop]
      rw [List.length_drop] at hi
      simp only [Bool.not_eq_true', beq_eq_false_iff_ne, ne_eq]
      intro e
      have := hone (j + 1 + i) (by omega) e
      omega
end

/-- how many logs are among the first j files -/
def cntJ (s : Dk.Dsk) (j : Nat) : Nat := ((s.fs.take j).filter fun p => isLogK p.1).length
theorem cntJ_next {s : Dk.Dsk} {j : Nat} (hj : j < s.fs.length) : cntJ s (j + 1) = if isLogK s.fs[j].1 = true then cntJ s j + 1 else cntJ s j := by
  unfold cntJ
  rw [List.take_succ_eq_append_getElem hj, List.filter_append, List.length_append]
  by_cases h : isLogK s.fs[j].1 = true
  · rw [if_pos h]; simp [h]
  · rw [if_neg h]; simp [h]
set_option maxRecDepth 100000 in
set_option maxHeartbeats 4000000 in
theorem jtrim_any (t k : ByteArray) (l d G : Nat) (s : Dk.Dsk) (L : Lg) (w : World) (F : Nat → Prop) (h : LD t k l d s L w F) (hG : G < L.gen) (hup : s.down = false ∧ s.fused = false) (hr : Dk.Rise s.fs) (hn : ∀ p ∈ s.fs, NameOkW p.1) (hgen : ∀ p ∈ s.fs, isLogK p.1 = true → genK p.1 ≤ G) :
    Calls Tryz.prog 33 #[.pointer (some ⟨l, 0, none⟩), .int .i64 (G : Int)] w fun e w' => e = .returned (.int .i64 ((cntJ s s.fs.length : Nat) : Int)) ∧ Goes (LD t k l d (trimS s) L) w w' F := by
  obtain ⟨N, hN⟩ : ∃ N, s.fs.length = N := ⟨_, rfl⟩
  obtain ⟨KS, hKS⟩ : ∃ KS, Dk.keysL s.fs = KS := ⟨_, rfl⟩
  have HNm : Hid (Calls Tryz.prog 42 #[.pointer (some ⟨d, 0, none⟩)] w fun e w' => ∃ A c, e = .returned (.slice A N c) ∧ Hid (w'.ownsRow w.heap.size 9 1 (.slice A N c) N (KS.map encStr)) ∧ Below w.heap.size w w') := by
    obtain ⟨A, B, hD, _⟩ := h
    refine (dnames_i hD).mono fun e w' ⟨v, e1, e2, e3⟩ => ?_
    rw [hN, hKS] at e2
    obtain ⟨A, c, rfl⟩ := row_shapeJ e2
    exact ⟨A, c, e1, e2, e3⟩
  have HTop : Hid (∀ s' L' u F', LD t k l d s' L' u F' → u.cell? ⟨l, 0, none⟩ = some (.pointer (some ⟨d, 0, none⟩)) ∧ u.cell? ⟨l, 3, none⟩ = some (.int .i64 (L'.gen : Int))) := fun s' L' u F' hu => by
    obtain ⟨A, B, _, ⟨b, vs, hG, _⟩, _⟩ := hu
    exact ⟨by rw [cell_of hG.top]; rfl, by rw [cell_of hG.top]; rfl⟩
  have HRf : Hid (∀ z u, Calls Tryz.prog 55 #[.bool false, .int .i64 z] u fun r w' => r = .returned (.tuple #[]) ∧ u = w') := fun z u => (refuse_no z u).mono fun _ _ h => ⟨h.1, h.2.symm⟩
  have HMu : Hid (∀ u, Calls Tryz.prog 60 #[.int .i64 0] u fun r w' => r = .returned (.tuple #[]) ∧ u = w') := fun u => (must_no u).mono fun _ _ h => ⟨h.1, h.2.symm⟩
  have HRm : Hid (∀ (j : Nat) (hj : j < s.fs.length) u F', isLogK s.fs[j].1 = true → LD t k l d (trimJ s j) L u F' → Calls Tryz.prog 23 #[.pointer (some ⟨d, 0, none⟩), .string ⟨s.fs[j].1.toArray⟩] u fun e w' => e = .returned (.int .i64 0) ∧ Goes (LD t k l d (trimJ s (j + 1)) L) u w' F') := fun j hj u F' hl hu => by
    have hok := (hn s.fs[j] (List.getElem_mem hj)).ok
    obtain ⟨r1, r2⟩ := trimJ_take hr hup hj hl hok
    have hlen : s.fs[j].1.length ≤ 32 := by
      unfold Dk.okName at hok
      simp only [Bool.and_eq_true, decide_eq_true_eq] at hok
      exact hok.1.2
    obtain ⟨A, B, hD, hL, hAB, hAF, hBF, hF⟩ := hu
    have h1 := dremove_i ⟨s.fs[j].1.toArray⟩ hD (by show s.fs[j].1.toArray.size ≤ _; simp; unfold maxLen; omega)
    have e0 : (⟨s.fs[j].1.toArray⟩ : ByteArray).data.toList = s.fs[j].1 := rfl
    rw [e0, r1, r2] at h1
    exact h1.mono fun e w' ⟨e1, hg⟩ => ⟨e1, Sep.goL (logI_res t k l d L) hL hAB hAF hBF hg⟩
  have HGn : Hid (∀ (j : Nat) (hj : j < s.fs.length) u, ∃ g : Nat, (isLogK s.fs[j].1 = true → g ≤ G) ∧ g < 1000 ∧ Calls Tryz.prog 59 #[.string ⟨s.fs[j].1.toArray⟩] u fun e w' => e = .returned (.tuple #[.int .i64 (g : Int), .bool (isLogK s.fs[j].1)]) ∧ Below u.heap.size u w') := fun j hj u => by
    have hnm := hn s.fs[j] (List.getElem_mem hj)
    refine ⟨if isLogK s.fs[j].1 then genK s.fs[j].1 else 0, fun hl => by rw [if_pos hl]; exact hgen _ (List.getElem_mem hj) hl, ?_, jgen_any s.fs[j].1 hnm u⟩
    by_cases hl : isLogK s.fs[j].1 = true
    · rw [if_pos hl]
      have := hnm.gen hl
      omega
    · rw [if_neg hl]
      decide
  have HS0 : Hid (LD t k l d (trimJ s 0) L w F) := by rw [trimJ_zero]; exact h
  have hlow := h.low
  have HAt : Hid (∀ (j : Nat) (hj : j < s.fs.length), (KS.map encStr)[j]? = some (.string ⟨s.fs[j].1.toArray⟩)) := fun j hj => by
    rw [← hKS, List.getElem?_map]
    unfold Dk.keysL
    rw [List.getElem?_map, List.getElem?_eq_getElem hj]
    rfl
  have HSk : Hid (∀ (j : Nat) (hj : j < s.fs.length), isLogK s.fs[j].1 = false → trimJ s (j + 1) = trimJ s j) := fun j hj hl => trimJ_skip hj hl
  have HAll : Hid (trimJ s N = trimS s) := trimJ_all s (by omega)
  have HLen : Hid (s.fs.length = N) := hN
  have HRes : Hid (∀ s', Res (LD t k l d s' L)) := fun s' => LD.res t k l d s' L
  have hGI : (G : Int) < (L.gen : Int) := by omega
  have hGI2 : ¬ (L.gen : Int) ≤ (G : Int) := by omega
  have hGI3 : decide ((L.gen : Int) ≤ (G : Int)) = false := decide_eq_false hGI2
  obtain ⟨q0, q1⟩ := HTop.out _ _ w F h
  obtain ⟨Lg1, hLg1⟩ : ∃ g, L.gen = g := ⟨_, rfl⟩
  rw [hLg1] at hGI hGI2 hGI3 q1
  have hGI4 : decide (Lg1 ≤ G) = false := decide_eq_false (by omega)
  clear h hup hr hn hgen hN hKS hG
  go_enter Tryz.func33, Tryz.ntmps33
  go_wp2_with (first
    | (go_at_call 55; (with_reducible refine (HRf.out _ _).mono ?_); rintro e w1 ⟨rfl, rfl⟩)
    | (go_at_call 42; (with_reducible refine HNm.out.mono ?_); rintro e w2 ⟨A, c, rfl, HO, hb2⟩))
  have HB2 : Hid (Below w.heap.size w w2) := hb2
  clear hb2 HNm q0 q1
  have HFl : Hid (∀ i, F i → i < w.heap.size) := hlow
  have HLD2 : Hid (Goes (LD t k l d (trimJ s 0) L) w2 w2 F) := Goes.stay (HS0.out.below HB2.out)
  clear HS0 hlow
  go_loopw [5, 23] (fun vm vi wr => ∃ j m : Nat, j ≤ N ∧ m ≤ j ∧ vm = .int .i64 m ∧ vi = .int .i64 j ∧ Hid (m = cntJ s j) ∧ Hid (Goes (LD t k l d (trimJ s j) L) w2 wr F)) (fun _ vi _ => N - (intOf vi).toNat)
  case atStart => exact ⟨0, 0, Nat.zero_le _, Nat.le_refl _, rfl, rfl, (by unfold Hid cntJ; simp : Hid _), HLD2⟩
  case round =>
    clear HLD2
    obtain ⟨j, m, hj, hmj, rfl, rfl, HCn, HS⟩ := hrel
    by_cases hlt : j < N
    · have hlI : (j : Int) < (N : Int) := by omega
      obtain ⟨F1, hI1, hT1, hN1⟩ := HS.out
      have HI1 : Hid (LD t k l d (trimJ s j) L wr F1 ∧ Turn F w2 wr ∧ ∀ i, F1 i → F i ∨ w2.heap.size ≤ i) := ⟨hI1, hT1, hN1⟩
      have hje : j < s.fs.length := by rw [HLen.out]; exact hlt
      have hrow : wr.ownsRow w.heap.size 9 1 (.slice A N c) N (KS.map encStr) := ownsRow_block HO.out fun g hg => hT1.block g (World.ownsRow.lt HO.out g hg).2 fun hF => by
        have h1 := HFl.out g hF
        have h2 := (World.ownsRow.lt HO.out g hg).1
        omega
      obtain ⟨g, rfl, hc1, hc2⟩ := row_someJ hrow (by omega)
      have q0 : wr.cell? ⟨g, j, none⟩ = some (.string ⟨s.fs[j].1.toArray⟩) := by
        have h1 := World.ownsRow.cells hrow (g := g) rfl j _ (HAt.out j hje)
        rw [Addr.add_lit, Nat.zero_add] at h1
        exact h1
      obtain ⟨gn, hg1, hg2, hg3⟩ := HGn.out j hje wr
      have hRm := HRm.out j hje
      have hSk := HSk.out j hje
      have hcn := cntJ_next hje
      obtain ⟨q2, q3⟩ := HTop.out _ _ wr F1 hI1
      generalize (⟨s.fs[j].1.toArray⟩ : ByteArray) = S at q0 hg3 hRm
      generalize hlg : isLogK s.fs[j].1 = lg at hg1 hg3 hRm hSk hcn
      clear hlg hI1 hT1 hN1 hrow
      have HG3 : Hid (Calls Tryz.prog 59 #[.string S] wr fun e w' => e = .returned (.tuple #[.int .i64 (gn : Int), .bool lg]) ∧ Below wr.heap.size wr w') := hg3
      have HRm3 : Hid (∀ u F', lg = true → LD t k l d (trimJ s j) L u F' → Calls Tryz.prog 23 #[.pointer (some ⟨d, 0, none⟩), .string S] u fun e w' => e = .returned (.int .i64 0) ∧ Goes (LD t k l d (trimJ s (j + 1)) L) u w' F') := hRm
      have HSk3 : Hid (lg = false → trimJ s (j + 1) = trimJ s j) := hSk
      have HI3 : Hid (∀ u, Below wr.heap.size wr u → LD t k l d (trimJ s j) L u F1 ∧ Turn F w2 u ∧ u.cell? ⟨l, 0, none⟩ = some (.pointer (some ⟨d, 0, none⟩))) := fun u hu => by
        have h1 := HI1.out.1.below hu
        exact ⟨h1, HI1.out.2.1.trans (Turn.ofBelow _ hu), (HTop.out _ _ u F1 h1).1⟩
      have HCn2 : Hid (cntJ s (j + 1) = if lg = true then cntJ s j + 1 else cntJ s j) := hcn
      clear hg3 hRm hSk hcn
      cases lg with
      | true =>
        have hgI : (gn : Int) ≤ (G : Int) := by have := hg1 rfl; omega
        have HC3 : Hid (m + 1 = cntJ s (j + 1)) := by
          show _ = _
          rw [HCn2.out, if_pos rfl, ← HCn.out]
        clear hg1
        go_wp2_with (first
          | (go_at_call 59; (with_reducible refine HG3.out.mono ?_); rintro e w3 ⟨rfl, hb3⟩; obtain ⟨i3, t3, c3⟩ := HI3.out w3 hb3; have hR4 := HRm3.out w3 F1 rfl i3)
          | (go_at_call 23; (with_reducible refine hR4.mono ?_); rintro e w4 ⟨rfl, hg4⟩)
          | (go_at_call 60; (with_reducible refine (HMu.out _).mono ?_); rintro e w5 ⟨rfl, rfl⟩))
        have hs3 := hb3.size
        exact ⟨⟨j + 1, m + 1, by omega, by omega, by go_num, by go_num, HC3, hg4.step t3 (fun i hi => HI1.out.2.2 i hi)⟩, by simp [intOf]; omega⟩
      | false =>
        have HC3 : Hid (m = cntJ s (j + 1)) := by
          show _ = _
          rw [HCn2.out, if_neg (by decide), ← HCn.out]
        clear hg1
        go_wp2_with (go_at_call 59; (with_reducible refine HG3.out.mono ?_); rintro e w3 ⟨rfl, hb3⟩; obtain ⟨i3, t3, c3⟩ := HI3.out w3 hb3)
        refine ⟨⟨j + 1, m, by omega, by omega, by first | rfl | trivial, by go_num, HC3, ?_⟩, by simp [intOf]; omega⟩
        first | rw [HSk3.out rfl] | rw [HSk3.out trivial]
        exact ⟨F1, i3, t3, HI1.out.2.2⟩
    · obtain rfl : j = N := by omega
      have hlI : ¬ (j : Int) < (j : Int) := by omega
      have HE : Hid (Goes (LD t k l d (trimS s) L) w wr F) := by
        have h1 := HS.out
        rw [HAll.out] at h1
        exact h1.after HB2.out
      go_wp2_with fail
      go_ret
      refine ⟨?_, HE.out⟩
      rw [HLen.out, ← HCn.out]
      rfl

set_option maxRecDepth 100000 in
set_option maxHeartbeats 1000000 in
theorem cTrim {t k : ByteArray} {l d : Nat} {s : Dk.Dsk} {L : Lg} {w : World} {F : Nat → Prop} (G : Nat) (h : LD t k l d s L w F) (hG : G < L.gen) (hup : s.down = false ∧ s.fused = false) (hr : Dk.Rise s.fs) (hn : ∀ p ∈ s.fs, NameOkW p.1) (hgen : ∀ p ∈ s.fs, isLogK p.1 = true → genK p.1 ≤ G) :
    Calls Tryz.prog 11 #[.pointer (some ⟨l, 0, none⟩), .int .i64 (G : Int)] w fun r w' => r = .returned (.tuple #[.int .i64 ((cntJ s s.fs.length : Nat) : Int), .int .i64 0]) ∧ Goes (LD t k l d (trimS s) L) w w' F := by
  have hmf : ∀ (fn : Fn) (first cap : Array Value) (w : World), (Instr.makeFunc fn first cap).run Tryz.prog w = .ok (.func fn first cap) w := fun _ _ _ _ => rfl
  obtain ⟨q, hq⟩ : ∃ q, w.heap.size = q := ⟨_, rfl⟩
  obtain ⟨wT, hwT⟩ : ∃ u, (w.alloc (logO l)).alloc (numO (G : Int)) = u := ⟨_, rfl⟩
  have b1 : Below w.heap.size w (w.alloc (logO l)) := (Below.refl _ _).alloc (Nat.le_refl _) _
  have b2 := b1.alloc b1.size (numO (G : Int))
  have hn0 := (Below.heap_alloc _ (numO (G : Int)) w.heap.size (by simp)).trans (heap_new w (logO l))
  have hn1 := heap_new (w.alloc (logO l)) (numO (G : Int))
  rw [World.size_alloc, hq] at hn1
  rw [hq] at hn0
  rw [hwT] at hn0 hn1 b2
  have hbT : Below w.heap.size w wT := b2
  obtain ⟨N, hN⟩ : ∃ N, cntJ s s.fs.length = N := ⟨_, rfl⟩
  rw [hN]
  have HD : Hid (Calls Tryz.prog 30 #[.func (.func 32) #[] #[.pointer (some ⟨q, 0, none⟩), .pointer (some ⟨q + 1, 0, none⟩)]] wT fun r w' => r = .returned (.tuple #[.int .i64 (N : Int), .int .i64 0]) ∧ Goes (LD t k l d (trimS s) L) wT w' F) := by
    refine toldIA_ok (LD.res t k l d (trimS s) L) 32 _ _ (N : Int) wT (fun j hj => Nat.lt_of_lt_of_le (h.low j hj) hbT.size) (enters_of Tryz.func32 (by kernel_rfl) rfl _) fun u hu => ?_
    have hu' := h.below (hbT.trans (hu.mono hbT.size))
    have HC : Hid (Calls Tryz.prog 33 #[.pointer (some ⟨l, 0, none⟩), .int .i64 (G : Int)] u fun e w' => e = .returned (.int .i64 (N : Int)) ∧ Goes (LD t k l d (trimS s) L) u w' F) := by
      have := jtrim_any t k l d G s L u F hu' hG hup hr hn hgen
      rw [hN] at this
      exact this
    have h0 := (hu.block _ (lt_of hn0)).trans hn0
    have h1 := (hu.block _ (lt_of hn1)).trans hn1
    have d0 : u.cell? ⟨q, 0, none⟩ = some (.pointer (some ⟨l, 0, none⟩)) := by rw [cell_of h0]; rfl
    have d1 : u.cell? ⟨q + 1, 0, none⟩ = some (.int .i64 (G : Int)) := by rw [cell_of h1]; rfl
    clear h hu' hn0 hn1 h0 h1 hwT hbT b1 b2 hu hup hr hn hgen hN
    go_enter Tryz.func32, Tryz.ntmps32
    go_wp2_with fail
    refine HC.out.mono ?_
    rintro r w1 ⟨rfl, hg⟩
    go_wp2_with fail
    go_ret
    exact ⟨rfl, hg⟩
  have HW : Hid ((w.alloc (logO l)).alloc (numO (G : Int)) = wT) := hwT
  have HB : Hid (Below w.heap.size w wT) := hbT
  clear h hn0 hn1 hbT hwT b1 b2 hup hr hn hgen hN
  go_enter Tryz.func11, Tryz.ntmps11
  go_wp2_with fail
  rw [HW.out]
  refine HD.out.mono ?_
  rintro r w2 ⟨rfl, hg⟩
  go_wp2_with fail
  go_ret2
  exact ⟨rfl, hg.after HB.out⟩
end Go.Proofs.YtigegdelhpdlhaaGreatDoor

/- Layer 18: Rotate. -/
namespace Go.Proofs.YtigegdelhpdlhaaGreatDoor
open Go.RowKit QP

theorem LogG.setGen {w : World} {t k : ByteArray} {l d b : Nat} {vs : List Value} {L : Lg} (h : LogG w t k l d b vs L) (e : Nat) {F : Nat → Prop} (hF : ∀ j, F j ↔ footL l b vs j) :
    Goes (LogI t k l d { L with gen := e }) w (w.setCell ⟨l, 3, none⟩ (.int .i64 (e : Int))) F := by
  obtain ⟨cur, hcur, hce⟩ := h.row
  have hlb : b ≠ l := fun e => by
    have h1 := h.top
    rw [← e, hcur] at h1
    simp only [Option.some.injEq, Obj.cells.injEq] at h1
    exact absurd h1.2.1 (by decide)
  have hT : Turn (fun j => j = l) w (w.setCell ⟨l, 3, none⟩ (.int .i64 (e : Int))) := Turn.setCell (S := fun j => j = l) w ⟨l, 3, none⟩ _ rfl
  refine ⟨footL l b vs, ⟨b, vs, ⟨?_, ⟨cur, (hT.block b (lt_of hcur) hlb).trans hcur, hce⟩, h.len, fun i v wk hv hw => ?_, h.apart, h.few⟩, fun _ => Iff.rfl⟩, hT.mono fun j hj => (hF j).2 (Or.inl hj), fun j hj => Or.inl ((hF j).2 hj)⟩
  · exact heap_setCell_same h.top 3 _
  · refine ownsRow_block (h.own i v wk hv hw) fun g hg => hT.block g (World.ownsRow.lt (h.own i v wk hv hw) g hg).2 fun e => ?_
    obtain ⟨cur2, hc2, _⟩ := ownsRow_own (h.own i v wk hv hw) hg
    rw [e, h.top] at hc2
    simp only [Option.some.injEq, Obj.cells.injEq] at hc2
    exact absurd hc2.2.1 (by decide)

set_option maxRecDepth 100000 in
set_option maxHeartbeats 2000000 in
theorem jrotate_i (t k : ByteArray) (l d : Nat) (L : Lg) (w : World) (F : Nat → Prop) (h : LogI t k l d L w F) (hg : L.gen < 1000000) :
    Calls Tryz.prog 31 #[.pointer (some ⟨l, 0, none⟩)] w fun e w' => e = .returned (.int .i64 (L.gen : Int)) ∧ Goes (LogI t k l d { L with gen := L.gen + 1 }) w w' F := by
  obtain ⟨b, vs, hG, hB⟩ := h
  have HSt : Hid (Goes (LogI t k l d { L with gen := L.gen + 1 }) w (w.setCell ⟨l, 3, none⟩ (.int .i64 ((L.gen + 1 : Nat) : Int))) F) := hG.setGen (L.gen + 1) hB
  have q0 : w.cell? ⟨l, 3, none⟩ = some (.int .i64 (L.gen : Int)) := by rw [cell_of hG.top]; rfl
  have q1 := frozen_of hG.top 3
  have HRf : Hid (∀ z u, Calls Tryz.prog 55 #[.bool false, .int .i64 z] u fun r w' => r = .returned (.tuple #[]) ∧ u = w') := fun z u => (refuse_no z u).mono fun _ _ h => ⟨h.1, h.2.symm⟩
  obtain ⟨G, hGg⟩ : ∃ G, L.gen = G := ⟨_, rfl⟩
  obtain ⟨L2, hL2⟩ : ∃ X, ({ L with gen := L.gen + 1 } : Lg) = X := ⟨_, rfl⟩
  rw [hL2] at HSt ⊢
  rw [hGg] at HSt q0 hg ⊢
  obtain ⟨G1, hG1⟩ : ∃ g, G + 1 = g := ⟨_, rfl⟩
  rw [hG1] at HSt
  have c0 : IntKind.i64.wrap ((G : Int) + 1) = (G1 : Int) := by rw [wrap_small _ (by omega) (by omega)]; omega
  have c1 : decide ((2147483648 : Int) ≤ (G : Int)) = false := decide_eq_false (by omega)
  have c2 : decide (2147483648 ≤ G) = false := decide_eq_false (by omega)
  have c3 : ¬ (2147483648 : Int) ≤ (G : Int) := by omega
  clear hG hB hL2 hGg
  go_enter Tryz.func31, Tryz.ntmps31
  go_wp2_with (go_at_call 55; (with_reducible refine (HRf.out _ _).mono ?_); rintro e w4 ⟨rfl, rfl⟩)
  go_ret
  exact ⟨rfl, HSt.out⟩

set_option maxRecDepth 100000 in
set_option maxHeartbeats 2000000 in
theorem jRotate_ok {I' : World → (Nat → Prop) → Prop} {F : Nat → Prop} (R : Res I') (l : Nat) (z : Int) (w : World) (hF : ∀ i, F i → i < w.heap.size) (h : ∀ u, Below w.heap.size w u → Calls Tryz.prog 31 #[.pointer (some ⟨l, 0, none⟩)] u fun r w' => r = .returned (.int .i64 z) ∧ Goes I' u w' F) :
    Calls Tryz.prog 10 #[.pointer (some ⟨l, 0, none⟩)] w fun r w' => r = .returned (.tuple #[.int .i64 z, .int .i64 0]) ∧ Goes I' w w' F := by
  have hmf : ∀ (fn : Fn) (first cap : Array Value) (w : World), (Instr.makeFunc fn first cap).run Tryz.prog w = .ok (.func fn first cap) w := fun _ _ _ _ => rfl
  have HD : Hid (Calls Tryz.prog 30 #[.func (.func 31) #[.pointer (some ⟨l, 0, none⟩)] #[]] w fun r w' => r = .returned (.tuple #[.int .i64 z, .int .i64 0]) ∧ Goes I' w w' F) :=
    toldIB_ok R 31 (.pointer (some ⟨l, 0, none⟩)) z w hF (enters_of Tryz.func31 (by kernel_rfl) rfl _) h
  clear h
  go_enter Tryz.func10, Tryz.ntmps10
  go_wp2_with fail
  refine HD.out.mono ?_
  rintro r w2 ⟨rfl, hg⟩
  go_wp2_with fail
  go_ret2
  exact ⟨rfl, hg⟩
/-- Rotate, of a log and its disk -/
theorem cRotate {t k : ByteArray} {l d : Nat} {s : Dk.Dsk} {L : Lg} {w : World} {F : Nat → Prop} (h : LD t k l d s L w F) (hg : L.gen < 1000000) :
    Calls Tryz.prog 10 #[.pointer (some ⟨l, 0, none⟩)] w fun e w' => e = .returned (.tuple #[.int .i64 (L.gen : Int), .int .i64 0]) ∧ Goes (LD t k l d s { L with gen := L.gen + 1 }) w w' F :=
  jRotate_ok (LD.res t k l d s _) l (L.gen : Int) w h.low fun u hu => (h.below hu).onLog fun B hL => jrotate_i t k l d L u B hL hg
end Go.Proofs.YtigegdelhpdlhaaGreatDoor

/- Layer 18: two sorted stretches of a list of entries become one, in plain words (what the library's merge of a stable sort does, step by step). -/
namespace Go.Proofs.YtigegdelhpdlhaaGreatDoor
open Go.RowKit QP

abbrev gE (L : List Er) (i : Nat) : Er := L.getD i (0, 0, 0, 0)
theorem gE_eq {L : List Er} {i : Nat} (h : i < L.length) : gE L i = L[i] := by
  unfold gE
  rw [List.getD, List.getElem?_eq_getElem h]
  rfl
/-- sorted from a on, ahead of b -/
def SortR (L : List Er) (a b : Nat) : Prop := ∀ i j, a ≤ i → i ≤ j → j < b → (gE L i).T ≤ (gE L j).T
/-- what lies from a on, ahead of b, has changed places -/
structure Mv (a b : Nat) (L L' : List Er) : Prop where
  len : L'.length = L.length
  perm : L'.Perm L
  out : ∀ i, (i < a ∨ b ≤ i) → gE L' i = gE L i
  inn : ∀ i, a ≤ i → i < b → ∃ j, a ≤ j ∧ j < b ∧ gE L' i = gE L j
theorem Mv.refl (a b : Nat) (L : List Er) : Mv a b L L := ⟨rfl, List.Perm.refl _, fun _ _ => rfl, fun i h1 h2 => ⟨i, h1, h2, rfl⟩⟩
theorem Mv.trans {a b : Nat} {L L1 L2 : List Er} (h : Mv a b L L1) (h' : Mv a b L1 L2) : Mv a b L L2 :=
  ⟨h'.len.trans h.len, h'.perm.trans h.perm, fun i hi => (h'.out i hi).trans (h.out i hi), fun i h1 h2 => by
    obtain ⟨j, j1, j2, e⟩ := h'.inn i h1 h2
    obtain ⟨k, k1, k2, e2⟩ := h.inn j j1 j2
    exact ⟨k, k1, k2, e.trans e2⟩⟩
theorem Mv.mono {a b a' b' : Nat} {L L1 : List Er} (h : Mv a b L L1) (ha : a' ≤ a) (hb : b ≤ b') : Mv a' b' L L1 :=
  ⟨h.len, h.perm, fun i hi => h.out i (by omega), fun i h1 h2 => by
    by_cases hin : a ≤ i ∧ i < b
    · obtain ⟨j, j1, j2, e⟩ := h.inn i hin.1 hin.2
      exact ⟨j, by omega, by omega, e⟩
    · exact ⟨i, h1, h2, h.out i (by omega)⟩⟩

/-- two change places -/
def swE (L : List Er) (i j : Nat) : List Er := (L.set i (gE L j)).set j (gE L i)
theorem swE_len (L : List Er) (i j : Nat) : (swE L i j).length = L.length := by simp [swE]
theorem gE_swE {L : List Er} {i j : Nat} (hi : i < L.length) (hj : j < L.length) (x : Nat) : gE (swE L i j) x = if x = j then gE L i else if x = i then gE L j else gE L x := by
  show ((L.set i (gE L j)).set j (gE L i)).getD x _ = _
  rw [List.getD, List.getElem?_set]
  by_cases h1 : j = x
  · subst h1
    rw [if_pos rfl, if_pos (by rw [List.length_set]; exact hj), if_pos rfl]
    rfl
  · rw [if_neg h1, if_neg (fun e => h1 e.symm), List.getElem?_set]
    by_cases h2 : i = x
    · subst h2
      rw [if_pos rfl, if_pos hi, if_pos rfl]
      rfl
    · rw [if_neg h2, if_neg (fun e => h2 e.symm)]
      rfl
theorem swE_perm {L : List Er} {i j : Nat} (hi : i < L.length) (hj : j < L.length) : (swE L i j).Perm L := by
  have h := Array.swap_perm (xs := L.toArray) (i := i) (j := j) (by simpa using hi) (by simpa using hj)
  have e : (L.toArray.swap i j (by simpa using hi) (by simpa using hj)).toList = swE L i j := by
    unfold swE
    rw [gE_eq hi, gE_eq hj]
    simp
  have h2 := h.toList
  rw [e] at h2
  exact h2
theorem swE_mv {L : List Er} {i j a b : Nat} (hi : a ≤ i ∧ i < b) (hj : a ≤ j ∧ j < b) (hb : b ≤ L.length) : Mv a b L (swE L i j) := by
  refine ⟨swE_len L i j, swE_perm (by omega) (by omega), fun x hx => ?_, fun x h1 h2 => ?_⟩
  · rw [gE_swE (by omega) (by omega), if_neg (by omega), if_neg (by omega)]
  · rw [gE_swE (by omega) (by omega)]
    split
    · exact ⟨i, hi.1, hi.2, rfl⟩
    · split
      · exact ⟨j, hj.1, hj.2, rfl⟩
      · exact ⟨x, h1, h2, rfl⟩

/-- two stretches of one length change places -/
def swN (L : List Er) (a b : Nat) : Nat → List Er
  | 0 => L
  | n + 1 => swE (swN L a b n) (a + n) (b + n)
theorem swN_len (L : List Er) (a b : Nat) : ∀ n, (swN L a b n).length = L.length
  | 0 => rfl
  | n + 1 => (swE_len _ _ _).trans (swN_len L a b n)
theorem swN_mv (L : List Er) (a b lo hi : Nat) (h1 : lo ≤ a) (h2 : lo ≤ b) (hl : hi ≤ L.length) : ∀ n, a + n ≤ hi → b + n ≤ hi → Mv lo hi L (swN L a b n)
  | 0, _, _ => Mv.refl _ _ _
  | n + 1, ha, hb => (swN_mv L a b lo hi h1 h2 hl n (by omega) (by omega)).trans (swE_mv ⟨by omega, by omega⟩ ⟨by omega, by omega⟩ (by rw [swN_len]; exact hl))
theorem gE_swN (L : List Er) (a b : Nat) : ∀ n, a + n ≤ b → b + n ≤ L.length → ∀ x, gE (swN L a b n) x = if a ≤ x ∧ x < a + n then gE L (b + (x - a)) else if b ≤ x ∧ x < b + n then gE L (a + (x - b)) else gE L x
  | 0, _, _, x => by
    rw [if_neg (by omega), if_neg (by omega)]
    rfl
  | n + 1, ha, hb, x => by
    have ih := gE_swN L a b n (by omega) (by omega)
    show gE (swE (swN L a b n) (a + n) (b + n)) x = _
    rw [gE_swE (by rw [swN_len]; omega) (by rw [swN_len]; omega), ih, ih, ih]
    by_cases h1 : x = b + n
    · subst h1
      rw [if_pos rfl, if_neg (by omega), if_neg (by omega), if_neg (by omega), if_pos (by omega)]
      congr 1
      omega
    · rw [if_neg h1]
      by_cases h2 : x = a + n
      · subst h2
        rw [if_pos rfl, if_neg (by omega), if_neg (by omega), if_pos (by omega)]
        congr 1
        omega
      · rw [if_neg h2]
        by_cases h3 : a ≤ x ∧ x < a + n
        · rw [if_pos h3, if_pos (by omega)]
        · rw [if_neg h3, if_neg (show ¬ (a ≤ x ∧ x < a + (n + 1)) by omega)]
          by_cases h4 : b ≤ x ∧ x < b + n
          · rw [if_pos h4, if_pos (by omega)]
          · rw [if_neg h4, if_neg (by omega)]

/-- turned round at m -/
def rotF (L : List Er) (a m b x : Nat) : Er := if a ≤ x ∧ x < b then (if x < a + (b - m) then gE L (m + (x - a)) else gE L (x - (b - m))) else gE L x
theorem rotF_left {L : List Er} {m x : Nat} {i j : Nat} (hij : j < i) (hj : 0 < j) (hi : i ≤ m) (hl : m + j ≤ L.length) : rotF (swN L (m - i) m j) (m - (i - j)) m (m + j) x = rotF L (m - i) m (m + j) x := by
  have h := gE_swN L (m - i) m j (by omega) hl
  unfold rotF
  by_cases h1 : m - i ≤ x ∧ x < m + j
  · rw [if_pos h1]
    by_cases h2 : x < m - i + j
    · rw [if_neg (by omega), if_pos (by omega), h, if_pos (by omega)]
    · rw [if_pos (show m - (i - j) ≤ x ∧ x < m + j by omega), if_neg (show ¬ x < m - i + (m + j - m) by omega)]
      by_cases h3 : x < m - (i - j) + (m + j - m)
      · rw [if_pos h3, h, if_neg (by omega), if_pos (by omega)]
        congr 1
        omega
      · rw [if_neg h3, h, if_neg (by omega), if_neg (by omega)]
  · rw [if_neg h1, if_neg (by omega), h, if_neg (by omega), if_neg (by omega)]
theorem rotF_right {L : List Er} {m x : Nat} {i j : Nat} (hij : i < j) (hi0 : 0 < i) (hi : i ≤ m) (hl : m + j ≤ L.length) : rotF (swN L (m - i) (m + j - i) i) (m - i) m (m + (j - i)) x = rotF L (m - i) m (m + j) x := by
  have h := gE_swN L (m - i) (m + j - i) i (by omega) (by omega)
  unfold rotF
  by_cases h1 : m - i ≤ x ∧ x < m + j
  · rw [if_pos h1]
    by_cases h2 : x < m + (j - i)
    · rw [if_pos (by omega)]
      by_cases h3 : x < m - i + (m + (j - i) - m)
      · rw [if_pos h3, if_pos (by omega), h, if_neg (by omega), if_neg (by omega)]
      · rw [if_neg h3, h, if_pos (by omega), if_pos (show x < m - i + (m + j - m) by omega)]
        congr 1
        omega
    · rw [if_neg (by omega), if_neg (by omega), h, if_neg (by omega), if_pos (by omega)]
      congr 1
      omega
  · rw [if_neg h1, if_neg (by omega), h, if_neg (by omega), if_neg (by omega)]
theorem rotF_same {L : List Er} {m x : Nat} {i : Nat} (hi : i ≤ m) (hl : m + i ≤ L.length) : gE (swN L (m - i) m i) x = rotF L (m - i) m (m + i) x := by
  rw [gE_swN L (m - i) m i (by omega) hl]
  unfold rotF
  by_cases h1 : m - i ≤ x ∧ x < m + i
  · rw [if_pos h1]
    by_cases h2 : x < m
    · rw [if_pos (by omega), if_pos (by omega)]
    · rw [if_neg (by omega), if_pos (by omega), if_neg (by omega)]
      congr 1
      omega
  · rw [if_neg h1, if_neg (by omega), if_neg (by omega)]
theorem rotF_none1 {L : List Er} {m b x : Nat} : rotF L m m b x = gE L x := by
  unfold rotF
  split
  · rw [if_pos (by omega)]
    congr 1
    omega
  · rfl
theorem rotF_none2 {L : List Er} {a m x : Nat} : rotF L a m m x = gE L x := by
  unfold rotF
  split
  · rw [if_neg (by omega)]
    congr 1
    omega
  · rfl

section
variable {L L1 L2 L3 : List Er} {a m b s : Nat}
/-- where the stretches are cut so that both halves may be merged by themselves -/
structure Cut (L : List Er) (a m b s : Nat) : Prop where
  lo : a ≤ s ∧ (a + b) / 2 + m - b ≤ s
  hi : s ≤ m ∧ s ≤ (a + b) / 2
  left : s = a ∨ s = (a + b) / 2 + m - b ∨ (gE L (s - 1)).T ≤ (gE L ((a + b) / 2 + m - s)).T
  right : s = m ∨ s = (a + b) / 2 ∨ (gE L ((a + b) / 2 + m - 1 - s)).T < (gE L s).T
theorem mg_split (hab : a < m ∧ m < b) (h1 : SortR L a m) (h2 : SortR L m b) (hc : Cut L a m b s) (hL1 : ∀ x, gE L1 x = rotF L s m ((a + b) / 2 + m - s) x) :
    SortR L1 a s ∧ SortR L1 s ((a + b) / 2) ∧ SortR L1 ((a + b) / 2) ((a + b) / 2 + m - s) ∧ SortR L1 ((a + b) / 2 + m - s) b ∧ ∀ i j, a ≤ i → i < (a + b) / 2 → (a + b) / 2 ≤ j → j < b → (gE L1 i).T ≤ (gE L1 j).T := by
  obtain ⟨md, hmd⟩ : ∃ md, (a + b) / 2 = md := ⟨_, rfl⟩
  have hm1 : a ≤ md ∧ md < b ∧ 2 * md ≤ a + b ∧ a + b ≤ 2 * md + 1 := by omega
  obtain ⟨c1, c2, c3, c4⟩ := hc
  rw [hmd] at c1 c2 c3 c4 hL1 ⊢
  obtain ⟨en, hen⟩ : ∃ en, md + m - s = en := ⟨_, rfl⟩
  rw [hen] at c3 hL1 ⊢
  have he1 : m ≤ en ∧ en ≤ b ∧ md ≤ en ∧ en + s = md + m := by omega
  have e4 : md + m - 1 - s = en - 1 := by omega
  rw [e4] at c4
  -- where each lies
  have p1 : ∀ x, a ≤ x → x < s → gE L1 x = gE L x := fun x hx hx2 => by
    rw [hL1]; unfold rotF; rw [if_neg (by omega)]
  have p2 : ∀ x, s ≤ x → x < md → gE L1 x = gE L (m + (x - s)) := fun x hx hx2 => by
    rw [hL1]; unfold rotF; rw [if_pos (by omega), if_pos (by omega)]
  have p3 : ∀ x, md ≤ x → x < en → gE L1 x = gE L (x - (en - m)) := fun x hx hx2 => by
    rw [hL1]; unfold rotF; rw [if_pos (by omega), if_neg (by omega)]
  have p4 : ∀ x, en ≤ x → x < b → gE L1 x = gE L x := fun x hx hx2 => by
    rw [hL1]; unfold rotF; rw [if_neg (by omega)]
  -- those of the first half are not above those of the second
  have k1 : ∀ i j, a ≤ i → i < s → s ≤ j → j < m → (gE L i).T ≤ (gE L j).T := fun i j q1 q2 q3 q4 => h1 i j q1 (by omega) q4
  have k2 : ∀ i j, a ≤ i → i < s → en ≤ j → j < b → (gE L i).T ≤ (gE L j).T := fun i j q1 q2 q3 q4 => by
    have hs1 : s ≠ a := by omega
    have hs2 : s ≠ md + m - b := by omega
    have h3 : (gE L (s - 1)).T ≤ (gE L en).T := by
      rcases c3 with h | h | h
      · exact absurd h hs1
      · exact absurd h hs2
      · exact h
    have h4 := h1 i (s - 1) q1 (by omega) (by omega)
    have h5 := h2 en j (by omega) q3 q4
    omega
  have k3 : ∀ i j, m ≤ i → i < en → s ≤ j → j < m → (gE L i).T ≤ (gE L j).T := fun i j q1 q2 q3 q4 => by
    have hs1 : s ≠ m := by omega
    have hs2 : s ≠ md := by omega
    have h3 : (gE L (en - 1)).T < (gE L s).T := by
      rcases c4 with h | h | h
      · exact absurd h hs1
      · exact absurd h hs2
      · exact h
    have h4 := h2 i (en - 1) q1 (by omega) (by omega)
    have h5 := h1 s j (by omega) q3 q4
    omega
  have k4 : ∀ i j, m ≤ i → i < en → en ≤ j → j < b → (gE L i).T ≤ (gE L j).T := fun i j q1 q2 q3 q4 => h2 i j q1 (by omega) q4
  refine ⟨fun i j q1 q2 q3 => ?_, fun i j q1 q2 q3 => ?_, fun i j q1 q2 q3 => ?_, fun i j q1 q2 q3 => ?_, fun i j q1 q2 q3 q4 => ?_⟩
  · rw [p1 i q1 (by omega), p1 j (by omega) q3]
    exact h1 i j q1 q2 (by omega)
  · rw [p2 i q1 (by omega), p2 j (by omega) q3]
    exact h2 _ _ (by omega) (by omega) (by omega)
  · rw [p3 i q1 (by omega), p3 j (by omega) q3]
    exact h1 _ _ (by omega) (by omega) (by omega)
  · rw [p4 i q1 (by omega), p4 j (by omega) q3]
    exact h2 i j (by omega) q2 q3
  · by_cases hi : i < s
    · rw [p1 i q1 hi]
      by_cases hj : j < en
      · rw [p3 j q3 hj]
        exact k1 _ _ q1 hi (by omega) (by omega)
      · rw [p4 j (by omega) q4]
        exact k2 _ _ q1 hi (by omega) q4
    · rw [p2 i (by omega) q2]
      by_cases hj : j < en
      · rw [p3 j q3 hj]
        exact k3 _ _ (by omega) (by omega) (by omega) (by omega)
      · rw [p4 j (by omega) q4]
        exact k4 _ _ (by omega) (by omega) (by omega) q4
/-- both halves merged -/
theorem mg_join {md : Nat} (hc : ∀ i j, a ≤ i → i < md → md ≤ j → j < b → (gE L1 i).T ≤ (gE L1 j).T) (m2 : Mv a md L1 L2) (s2 : SortR L2 a md) (m3 : Mv md b L2 L3) (s3 : SortR L3 md b) : SortR L3 a b := fun i j q1 q2 q3 => by
  by_cases hj : j < md
  · rw [m3.out i (Or.inl (by omega)), m3.out j (Or.inl hj)]
    exact s2 i j q1 q2 hj
  · by_cases hi : i < md
    · obtain ⟨i2, i3, i4, e1⟩ := m2.inn i q1 hi
      obtain ⟨j2, j3, j4, e2⟩ := m3.inn j (by omega) q3
      rw [m3.out i (Or.inl hi), e1, e2, m2.out j2 (Or.inr j3)]
      exact hc i2 j2 i3 i4 j3 j4
    · exact s3 i j (by omega) q2 q3
theorem sort_empty (h : b ≤ a + 1) : SortR L a b := fun i j q1 q2 q3 => by
  obtain rfl : i = j := by omega
  exact Nat.le_refl _
/-- halves of which one part is empty -/
theorem sort_whole (h1 : SortR L a s) (h2 : SortR L s b) (h : s = a ∨ b ≤ s) (hb : a ≤ s) : SortR L a b := by
  rcases h with rfl | h
  · exact h2
  · exact fun i j q1 q2 q3 => h1 i j q1 q2 (by omega)

/-- the first is put among the others: i of them are less -/
theorem ins_front {i : Nat} (hab : a + 1 ≤ i ∧ i ≤ b) (h2 : SortR L (a + 1) b) (hlo : ∀ x, a + 1 ≤ x → x < i → (gE L x).T < (gE L a).T) (hhi : ∀ x, i ≤ x → x < b → (gE L a).T ≤ (gE L x).T)
    (hL1 : ∀ x, gE L1 x = if a ≤ x ∧ x < i - 1 then gE L (x + 1) else if x = i - 1 then gE L a else gE L x) : SortR L1 a b := fun x y q1 q2 q3 => by
  have k := hL1
  rw [k x, k y]
  by_cases hx : a ≤ x ∧ x < i - 1
  · rw [if_pos hx]
    by_cases hy : a ≤ y ∧ y < i - 1
    · rw [if_pos hy]
      exact h2 _ _ (by omega) (by omega) (by omega)
    · rw [if_neg hy]
      by_cases hy2 : y = i - 1
      · rw [if_pos hy2]
        exact Nat.le_of_lt (hlo _ (by omega) (by omega))
      · rw [if_neg hy2]
        exact h2 _ _ (by omega) (by omega) (by omega)
  · rw [if_neg hx, if_neg (show ¬ (a ≤ y ∧ y < i - 1) by omega)]
    by_cases hx2 : x = i - 1
    · rw [if_pos hx2]
      by_cases hy2 : y = i - 1
      · rw [if_pos hy2]; exact Nat.le_refl _
      · rw [if_neg hy2]
        exact hhi _ (by omega) q3
    · rw [if_neg hx2, if_neg (by omega)]
      exact h2 _ _ (by omega) (by omega) q3
/-- the last is put among the others -/
theorem ins_back {i : Nat} (hab : a ≤ i ∧ i ≤ m) (h1 : SortR L a m) (hlo : ∀ x, a ≤ x → x < i → (gE L x).T ≤ (gE L m).T) (hhi : ∀ x, i ≤ x → x < m → (gE L m).T < (gE L x).T)
    (hL1 : ∀ x, gE L1 x = if i < x ∧ x ≤ m then gE L (x - 1) else if x = i then gE L m else gE L x) : SortR L1 a (m + 1) := fun x y q1 q2 q3 => by
  rw [hL1 x, hL1 y]
  by_cases hx : i < x ∧ x ≤ m
  · rw [if_pos hx, if_pos (show i < y ∧ y ≤ m by omega)]
    exact h1 _ _ (by omega) (by omega) (by omega)
  · rw [if_neg hx]
    by_cases hx2 : x = i
    · rw [if_pos hx2]
      by_cases hy : i < y ∧ y ≤ m
      · rw [if_pos hy]
        exact Nat.le_of_lt (hhi _ (by omega) (by omega))
      · rw [if_neg hy, if_pos (by omega)]
        exact Nat.le_refl _
    · rw [if_neg hx2]
      by_cases hy : i < y ∧ y ≤ m
      · rw [if_pos hy]
        exact h1 _ _ q1 (by omega) (by omega)
      · rw [if_neg hy]
        by_cases hy2 : y = i
        · rw [if_pos hy2]
          exact hlo _ q1 (by omega)
        · rw [if_neg hy2]
          exact h1 _ _ q1 q2 (by omega)
/-- one step to the right, one step to the left -/
theorem step_right {L L1 : List Er} {a k : Nat} (ha : a ≤ k) (hk : k + 1 < L.length) (hl : L1.length = L.length) (h : ∀ x, gE L1 x = if a ≤ x ∧ x < k then gE L (x + 1) else if x = k then gE L a else gE L x) : ∀ x, gE (swE L1 k (k + 1)) x = if a ≤ x ∧ x < k + 1 then gE L (x + 1) else if x = k + 1 then gE L a else gE L x := fun x => by
  rw [gE_swE (by omega) (by omega), h, h, h]
  by_cases h1 : x = k + 1
  · subst h1
    rw [if_pos rfl, if_neg (by omega), if_pos rfl, if_neg (by omega), if_pos rfl]
  · rw [if_neg h1]
    by_cases h2 : x = k
    · subst h2
      rw [if_pos rfl, if_neg (by omega), if_neg (by omega), if_pos (by omega)]
    · rw [if_neg h2]
      by_cases h3 : a ≤ x ∧ x < k
      · rw [if_pos h3, if_pos (by omega)]
      · rw [if_neg h3, if_neg h2, if_neg (by omega), if_neg h1]
theorem step_left {L L1 : List Er} {m k : Nat} (hk0 : 0 < k) (hk : k ≤ m) (hm : m < L.length) (hl : L1.length = L.length) (h : ∀ x, gE L1 x = if k < x ∧ x ≤ m then gE L (x - 1) else if x = k then gE L m else gE L x) : ∀ x, gE (swE L1 k (k - 1)) x = if k - 1 < x ∧ x ≤ m then gE L (x - 1) else if x = k - 1 then gE L m else gE L x := fun x => by
  rw [gE_swE (by omega) (by omega), h, h, h]
  by_cases h1 : x = k - 1
  · subst h1
    rw [if_pos rfl, if_neg (by omega), if_pos rfl, if_neg (by omega), if_pos rfl]
  · rw [if_neg h1]
    by_cases h2 : x = k
    · subst h2
      rw [if_pos rfl, if_neg (by omega), if_neg (by omega), if_pos (by omega)]
    · rw [if_neg h2]
      by_cases h3 : k < x ∧ x ≤ m
      · rw [if_pos h3, if_pos (by omega)]
      · rw [if_neg h3, if_neg h2, if_neg (by omega), if_neg h1]
end
end Go.Proofs.YtigegdelhpdlhaaGreatDoor
