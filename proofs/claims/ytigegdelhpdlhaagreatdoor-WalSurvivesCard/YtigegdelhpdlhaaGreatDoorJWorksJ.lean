import Derived.Test.YtigegdelhpdlhaaGreatDoorJSurPJ
import Derived.Deep.RegionHeld3
/- Layer 18: the chapter's example (works). -/
namespace Go.Proofs.YtigegdelhpdlhaaGreatDoor
open Go.RowKit QP

theorem keys_w : Dk.insN epochB.data.toList (Dk.insN (logB 1 0).data.toList (Dk.insN epochB.data.toList (Dk.insN (logB 0 0).data.toList []))) = [epochB.data.toList, (logB 0 0).data.toList, (logB 1 0).data.toList] := by decide +kernel
theorem log_ne : (logB 1 0).data.toList ≠ (logB 0 0).data.toList := by decide +kernel
abbrev wkF0 : List UInt8 → List (Nat × Nat) := fun _ => []
abbrev wkF1 (T1 : Nat) : List UInt8 → List (Nat × Nat) := updF wkF0 (logB 0 0).data.toList ([] ++ [(T1, 5)])
abbrev wkF2 (T1 T3 : Nat) : List UInt8 → List (Nat × Nat) := updF (wkF1 T1) (logB 1 0).data.toList (wkF1 T1 (logB 1 0).data.toList ++ [(T3, 7)])

theorem wk_at (T1 T3 : Nat) : wkF2 T1 T3 (logB 0 0).data.toList = [(T1, 5)] ∧ wkF2 T1 T3 (logB 1 0).data.toList = [(T3, 7)] ∧ ∀ f, f ≠ (logB 0 0).data.toList → f ≠ (logB 1 0).data.toList → wkF2 T1 T3 f = [] := by
  have h10 : wkF1 T1 (logB 1 0).data.toList = [] := by
    unfold wkF1 updF
    rw [if_neg log_ne]
  refine ⟨?_, ?_, fun f h1 h2 => ?_⟩
  · unfold wkF2 updF
    rw [if_neg log_ne.symm]
    unfold wkF1 updF
    rw [if_pos rfl]
    rfl
  · unfold wkF2 updF
    rw [if_pos rfl]
    rw [h10]
    rfl
  · unfold wkF2 updF
    rw [if_neg h2]
    unfold wkF1 updF
    rw [if_neg h1]
theorem allE_w (T1 T3 : Nat) (h1 : T1 / 8388608 = 1) (h3 : T3 / 8388608 = 2) : allE 2 (wkF2 T1 T3) [epochB.data.toList, (logB 0 0).data.toList, (logB 1 0).data.toList] = [(T1, 5), (T3, 7)] := by
  obtain ⟨e1, e2, _⟩ := wk_at T1 T3
  unfold allE
  rw [List.flatMap_cons, List.flatMap_cons, List.flatMap_cons, List.flatMap_nil, logK_epoch.1, (logK_at (v := 0) (g := 0) (by decide) (by decide)).1, (logK_at (v := 1) (g := 0) (by decide) (by decide)).1, e1, e2]
  simp [upTo, h1, h3]
theorem fine_w (T1 T3 : Nat) (h1 : TidOk T1) (h3 : TidOk T3) : Fine (wkF2 T1 T3) [1, 2] := by
  obtain ⟨e1, e2, e3⟩ := wk_at T1 T3
  refine ⟨fun f => ?_, fun j h => ?_, fun e he => ?_, by decide⟩
  · by_cases a : f = (logB 0 0).data.toList
    · rw [a, e1]
      refine ⟨by simp, fun q hq => ?_⟩
      simp at hq
      rw [hq]
      exact ⟨h1, (show 5 < 9223372036854775808 by decide)⟩
    · by_cases b : f = (logB 1 0).data.toList
      · rw [b, e2]
        refine ⟨by simp, fun q hq => ?_⟩
        simp at hq
        rw [hq]
        exact ⟨h3, (show 7 < 9223372036854775808 by decide)⟩
      · rw [e3 f a b]
        exact ⟨Nat.zero_le _, (fun _ hq => by cases hq)⟩
  · match j, h with
    | 0, _ => exact (show 0 < 1 by decide)
    | 1, _ => exact (show 1 < 2 by decide)
  · simp at he
    omega
theorem sort_two {R : List Er} {T1 T3 a b : Nat} (h : R.map Er.tn = [(T1, a), (T3, b)]) (hlt : T1 < T3) : ∃ e1 e2 : Er, sortE R = [e1, e2] ∧ e1.tn = (T1, a) ∧ e2.tn = (T3, b) := by
  match R, h with
  | [e1, e2], h =>
    simp only [List.map_cons, List.map_nil, List.cons.injEq, and_true] at h
    obtain ⟨h1, h2⟩ := h
    obtain ⟨f1, f2, f3⟩ := sortE_facts [e1, e2]
    refine ⟨e1, e2, ?_, h1, h2⟩
    match hs : sortE [e1, e2], f1 with
    | [x, y], _ =>
      rw [hs] at f2 f3
      have hx : x = e1 ∨ x = e2 := by simpa using f2.mem_iff.1 (List.mem_cons_self ..)
      have t1 : e1.T = T1 := congrArg Prod.fst h1
      have t2 : e2.T = T3 := congrArg Prod.fst h2
      rcases hx with rfl | rfl
      · have := (List.perm_cons x).1 f2
        rw [List.perm_singleton.1 this]
      · have h4 : (y :: [x]).Perm [e1, x] := (List.Perm.swap x y []).trans f2
        have h5 : [y, x].Perm [e1, x] := h4
        have h6 : y = e1 := by
          have : y ∈ [e1, x] := h5.mem_iff.1 (List.mem_cons_self ..)
          rcases List.mem_cons.1 this with h | h
          · exact h
          · have hyx : y = x := by simpa using h
            subst hyx
            have : e1 ∈ [y, y] := h5.mem_iff.2 (List.mem_cons_self ..)
            have : e1 = y := by simpa using this
            exact this.symm
        subst h6
        have := (List.pairwise_cons.1 f3).1 y (by simp)
        omega

theorem Stand.any {I : World → (Nat → Prop) → Prop} {w wr : World} {L : List (Nat × Obj)} (h : Stand I w wr L) : ∃ F, I wr F ∧ ∀ (I' : World → (Nat → Prop) → Prop) (w' : World), Goes I' wr w' F → Stand I' w w' L := by
  obtain ⟨F, h1, h2, h3, h4, h5⟩ := h
  refine ⟨F, h1, fun I' w' hg => ?_⟩
  obtain ⟨F', g1, g2, g3⟩ := hg
  refine ⟨F', g1, fun i hi => ?_, fun p hp hF => ?_, fun p hp => ⟨(g2.block p.1 (lt_of (h4 p hp).1) (h3 p hp)).trans (h4 p hp).1, (h4 p hp).2⟩, h5.trans ((g2.mono h2).toBelow h5.size)⟩
  · rcases g3 i hi with h | h
    · exact h2 i h
    · have := h5.size; omega
  · rcases g3 p.1 hF with h | h
    · exact h3 p hp h
    · have := lt_of (h4 p hp).1; omega

set_option maxRecDepth 100000 in
set_option maxHeartbeats 8000000 in
theorem works_any (w : World) : Calls Tryz.prog 8 #[] w fun e w' => e = .returned (.bool true) ∧ Below w.heap.size w w' := by
  have HE1 : Hid (∀ u, Calls Tryz.prog 14 #[.int .i64 1, .int .i64 0, .int .i64 5] u fun e w' => ∃ g x, e = .returned (.agg #[.int .u64 (tidN 1 0 : Int), .slice (some ⟨g, 0, none⟩) 1 1]) ∧ Hid (w'.heap[g]? = some (boxJ tB kB x) ∧ OneAt w' x 2 ((5 : Nat) : Int) ByteArray.empty ∧ u.heap.size ≤ g ∧ u.heap.size ≤ x) ∧ Below u.heap.size u w') := fun u => centry 1 0 5 u (by decide) (by decide)
  have HE2 : Hid (∀ u, Calls Tryz.prog 14 #[.int .i64 1, .int .i64 1, .int .i64 6] u fun e w' => ∃ g x, e = .returned (.agg #[.int .u64 (tidN 1 1 : Int), .slice (some ⟨g, 0, none⟩) 1 1]) ∧ Hid (w'.heap[g]? = some (boxJ tB kB x) ∧ OneAt w' x 2 ((6 : Nat) : Int) ByteArray.empty ∧ u.heap.size ≤ g ∧ u.heap.size ≤ x) ∧ Below u.heap.size u w') := fun u => centry 1 1 6 u (by decide) (by decide)
  have HE3 : Hid (∀ u, Calls Tryz.prog 14 #[.int .i64 2, .int .i64 0, .int .i64 7] u fun e w' => ∃ g x, e = .returned (.agg #[.int .u64 (tidN 2 0 : Int), .slice (some ⟨g, 0, none⟩) 1 1]) ∧ Hid (w'.heap[g]? = some (boxJ tB kB x) ∧ OneAt w' x 2 ((7 : Nat) : Int) ByteArray.empty ∧ u.heap.size ≤ g ∧ u.heap.size ≤ x) ∧ Below u.heap.size u w') := fun u => centry 2 0 7 u (by decide) (by decide)
  obtain ⟨T1, hT1⟩ : ∃ T, tidN 1 0 = T := ⟨_, rfl⟩
  obtain ⟨T2, hT2⟩ : ∃ T, tidN 1 1 = T := ⟨_, rfl⟩
  obtain ⟨T3, hT3⟩ : ∃ T, tidN 2 0 = T := ⟨_, rfl⟩
  rw [hT1] at HE1
  rw [hT2] at HE2
  rw [hT3] at HE3
  have k1 := tid_ok (ep := 1) (sq := 0) (by decide) (by decide)
  have k2 := tid_ok (ep := 1) (sq := 1) (by decide) (by decide)
  have k3 := tid_ok (ep := 2) (sq := 0) (by decide) (by decide)
  rw [hT1] at k1
  rw [hT2] at k2
  rw [hT3] at k3
  have HT : Hid ((TidOk T1 ∧ T1 / 8388608 = 1) ∧ (TidOk T2 ∧ T2 / 8388608 = 1) ∧ (TidOk T3 ∧ T3 / 8388608 = 2) ∧ 0 < T1 ∧ T1 < T2 ∧ T2 < T3) := ⟨k1, k2, k3, by rw [← hT1]; decide, by rw [← hT1, ← hT2]; decide, by rw [← hT2, ← hT3]; decide⟩
  have HF0 : Hid (Fine wkF0 []) := ⟨fun _ => ⟨Nat.zero_le _, (fun _ hq => by cases hq)⟩, (fun _ h => by cases h), (fun _ he => by cases he), Nat.zero_le _⟩
  clear hT1 hT2 hT3 k1 k2 k3
  go_enter Tryz.func8, Tryz.ntmps8
  go_wp2_with fail
  refine (dnew_i w).mono ?_
  rintro e w1 ⟨d, F1, rfl, hD1, hF1, hb1⟩
  have S1 : Hid (Stand (DiskI d Dk.blank) w w1 []) := Stand.start hD1 hF1 hb1
  clear hD1 hF1 hb1
  go_wp2_with fail
  have HO : Hid (Calls Tryz.prog 9 #[.pointer (some ⟨d, 0, none⟩), .int .i64 2] w1 fun e w' => ∃ l, e = .returned (.tuple #[.pointer (some ⟨l, 0, none⟩), .int .i64 0]) ∧ Hid (Stand (LD tB kB l d Dk.blank ⟨[([], 0), ([], 0)], 0, 0⟩) w w' [])) := by
    obtain ⟨F, hF, kF⟩ := S1.out.any
    refine (cOpen0 hF (qdisk_blank tB kB) HF0.out rfl (by decide) (by decide) (by decide) 2 (Or.inr (Or.inl rfl))).mono ?_
    rintro e w' ⟨l, e1, hg⟩
    exact ⟨l, e1, kF _ _ hg⟩
  refine HO.out.mono ?_
  rintro e w2 ⟨l, rfl, S2⟩
  clear S1 HO
  go_wp2_with fail
  refine (HE1.out _).mono ?_
  rintro e w3 ⟨g1, x1, rfl, E1, hb3⟩
  have S3 : Hid (Stand (LD tB kB l d Dk.blank ⟨[([], 0), ([], 0)], 0, 0⟩) w w3 []) := S2.out.below (LD.res _ _ _ _ _ _) hb3
  clear S2 hb3
  have HA1 : Hid (Calls Tryz.prog 15 #[.pointer (some ⟨l, 0, none⟩), .int .i64 0, .agg #[.int .u64 (T1 : Int), .slice (some ⟨g1, 0, none⟩) 1 1]] w3 fun e w' => e = .returned (.int .i64 0) ∧ Hid (Stand (LD tB kB l d Dk.blank ⟨[([(T1, 5)], T1), ([], 0)], 0, 0⟩) w w' [])) := by
    obtain ⟨F, hF, kF⟩ := S3.out.any
    have ht := HT.out
    exact (cAdd_ok hF 0 T1 5 g1 x1 ([], 0) rfl (by decide) ht.1.1 E1.out.1 E1.out.2.1 (by decide) (by decide) (by decide) ht.2.2.2.1 (by rw [ht.1.2]; decide)).mono fun e w' ⟨e1, hg⟩ => ⟨e1, kF _ _ hg⟩
  go_wp2_with fail
  refine HA1.out.mono ?_
  rintro e w4 ⟨rfl, S4⟩
  clear HA1 S3 E1
  have HFl : Hid (Calls Tryz.prog 16 #[.pointer (some ⟨l, 0, none⟩), .int .i64 0] w4 fun e w' => e = .returned (.int .i64 0) ∧ ∃ s : Dk.Dsk, Hid (QDisk s tB kB (wkF1 T1) [] ∧ s.fs.length ≤ 1 ∧ Dk.keysL s.fs = Dk.insN (logB 0 0).data.toList []) ∧ Hid (Stand (LD tB kB l d s ⟨[([], T1), ([], 0)], 0, 0⟩) w w' [])) := by
    obtain ⟨F, hF, kF⟩ := S4.out.any
    refine (cFlush hF (qdisk_blank tB kB) 0 ([(T1, 5)], T1) rfl (by decide) (show 0 < 100 by decide) (by decide) (by decide) (show 0 + 1 ≤ 1000 by decide) (by decide)).mono ?_
    rintro e w' ⟨e1, s2, q1, q2, q3, hg⟩
    exact ⟨e1, s2, ⟨q1, q2, q3⟩, kF _ _ hg⟩
  go_wp2_with fail
  refine HFl.out.mono ?_
  rintro e w5 ⟨rfl, s5, Q5, S5⟩
  clear HFl S4
  have HM1 : Hid (Calls Tryz.prog 17 #[.pointer (some ⟨l, 0, none⟩), .int .i64 1] w5 fun e w' => e = .returned (.int .i64 0) ∧ ∃ s : Dk.Dsk, Hid (QDisk s tB kB (wkF1 T1) [1] ∧ s.fs.length ≤ 2 ∧ Dk.keysL s.fs = Dk.insN epochB.data.toList (Dk.insN (logB 0 0).data.toList [])) ∧ Hid (Stand (LD tB kB l d s ⟨[([], T1), ([], 0)], 1, 0⟩) w w' [])) := by
    obtain ⟨F, hF, kF⟩ := S5.out.any
    obtain ⟨q1, q2, q3⟩ := Q5.out
    refine (cMark hF q1 1 (show 0 < 1 by decide) (by decide) (fun wk hwk => ?_) (by decide) (by omega)).mono ?_
    · simp at hwk
      rcases hwk with rfl | rfl <;> rfl
    · rintro e w' ⟨e1, s2, p1, p2, p3, hg⟩
      exact ⟨e1, s2, ⟨p1, by omega, by rw [p3, q3]⟩, kF _ _ hg⟩
  go_wp2_with fail
  refine HM1.out.mono ?_
  rintro e w6 ⟨rfl, s6, Q6, S6⟩
  clear HM1 S5 Q5
  go_wp2_with fail
  refine (HE2.out _).mono ?_
  rintro e w7 ⟨g2, x2, rfl, E2, hb7⟩
  have S7 : Hid (Stand (LD tB kB l d s6 ⟨[([], T1), ([], 0)], 1, 0⟩) w w7 []) := S6.out.below (LD.res _ _ _ _ _ _) hb7
  clear S6 hb7
  have HA2 : Hid (Calls Tryz.prog 15 #[.pointer (some ⟨l, 0, none⟩), .int .i64 0, .agg #[.int .u64 (T2 : Int), .slice (some ⟨g2, 0, none⟩) 1 1]] w7 fun e w' => e = .returned (.int .i64 111) ∧ Hid (Stand (LD tB kB l d s6 ⟨[([], T1), ([], 0)], 1, 0⟩) w w' [])) := by
    obtain ⟨F, hF, kF⟩ := S7.out.any
    have ht := HT.out
    exact (cAdd_old hF 0 T2 6 g2 x2 ([], T1) rfl ht.2.1.1 E2.out.1 E2.out.2.1 (by decide) (by decide) (by decide) ht.2.2.2.2.1 (by rw [ht.2.1.2]; exact Nat.le_refl 1)).mono fun e w' ⟨e1, hg⟩ => ⟨e1, kF _ _ hg⟩
  go_wp2_with fail
  refine HA2.out.mono ?_
  rintro e w8 ⟨rfl, S8⟩
  clear HA2 S7 E2
  go_wp2_with fail
  refine (HE3.out _).mono ?_
  rintro e w9 ⟨g3, x3, rfl, E3, hb9⟩
  have S9 : Hid (Stand (LD tB kB l d s6 ⟨[([], T1), ([], 0)], 1, 0⟩) w w9 []) := S8.out.below (LD.res _ _ _ _ _ _) hb9
  clear S8 hb9
  have HA3 : Hid (Calls Tryz.prog 15 #[.pointer (some ⟨l, 0, none⟩), .int .i64 1, .agg #[.int .u64 (T3 : Int), .slice (some ⟨g3, 0, none⟩) 1 1]] w9 fun e w' => e = .returned (.int .i64 0) ∧ Hid (Stand (LD tB kB l d s6 ⟨[([], T1), ([(T3, 7)], T3)], 1, 0⟩) w w' [])) := by
    obtain ⟨F, hF, kF⟩ := S9.out.any
    have ht := HT.out
    exact (cAdd_ok hF 1 T3 7 g3 x3 ([], 0) rfl (by decide) ht.2.2.1.1 E3.out.1 E3.out.2.1 (by decide) (by decide) (by decide) (show 0 < T3 by omega) (by rw [ht.2.2.1.2]; exact (show 1 < 2 by decide))).mono fun e w' ⟨e1, hg⟩ => ⟨e1, kF _ _ hg⟩
  go_wp2_with fail
  refine HA3.out.mono ?_
  rintro e w10 ⟨rfl, S10⟩
  clear HA3 S9 E3
  have HM2 : Hid (Calls Tryz.prog 17 #[.pointer (some ⟨l, 0, none⟩), .int .i64 2] w10 fun e w' => e = .returned (.int .i64 180) ∧ Hid (Stand (LD tB kB l d s6 ⟨[([], T1), ([(T3, 7)], T3)], 1, 0⟩) w w' [])) := by
    obtain ⟨F, hF, kF⟩ := S10.out.any
    have ht := HT.out
    exact (cMark_late hF 2 (show 1 < 2 by decide) (by decide) 1 (show 1 < 2 by decide) (fun j hj => by obtain rfl : j = 0 := by omega
                                                                                                       rfl) (T3, 7) [] rfl (show T3 / 8388608 ≤ 2 by omega)).mono fun e w' ⟨e1, hg⟩ => ⟨e1, kF _ _ hg⟩
  go_wp2_with fail
  refine HM2.out.mono ?_
  rintro e w11 ⟨rfl, S11⟩
  clear HM2 S10
  have HFl2 : Hid (Calls Tryz.prog 16 #[.pointer (some ⟨l, 0, none⟩), .int .i64 1] w11 fun e w' => e = .returned (.int .i64 0) ∧ ∃ s : Dk.Dsk, Hid (QDisk s tB kB (wkF2 T1 T3) [1] ∧ s.fs.length ≤ 3 ∧ Dk.keysL s.fs = Dk.insN (logB 1 0).data.toList (Dk.insN epochB.data.toList (Dk.insN (logB 0 0).data.toList []))) ∧ Hid (Stand (LD tB kB l d s ⟨[([], T1), ([], T3)], 1, 0⟩) w w' [])) := by
    obtain ⟨F, hF, kF⟩ := S11.out.any
    obtain ⟨q1, q2, q3⟩ := Q6.out
    have e10 : wkF1 T1 (logB 1 0).data.toList = [] := by
      unfold wkF1 updF
      rw [if_neg log_ne]
    refine (cFlush hF q1 1 ([(T3, 7)], T3) rfl (by decide) (show 0 < 100 by decide) (by decide) (by decide) (by show (wkF1 T1 (logB 1 0).data.toList).length + 1 ≤ 1000; rw [e10]; decide) (by omega)).mono ?_
    rintro e w' ⟨e1, s2, p1, p2, p3, hg⟩
    exact ⟨e1, s2, ⟨p1, by omega, by rw [p3, if_neg (by simp), q3]⟩, kF _ _ hg⟩
  go_wp2_with fail
  refine HFl2.out.mono ?_
  rintro e w12 ⟨rfl, s12, Q12, S12⟩
  clear HFl2 S11 Q6
  have HM3 : Hid (Calls Tryz.prog 17 #[.pointer (some ⟨l, 0, none⟩), .int .i64 2] w12 fun e w' => e = .returned (.int .i64 0) ∧ ∃ s : Dk.Dsk, Hid (QDisk s tB kB (wkF2 T1 T3) [1, 2] ∧ Dk.keysL s.fs = [epochB.data.toList, (logB 0 0).data.toList, (logB 1 0).data.toList]) ∧ Hid (Stand (LD tB kB l d s ⟨[([], T1), ([], T3)], 2, 0⟩) w w' [])) := by
    obtain ⟨F, hF, kF⟩ := S12.out.any
    obtain ⟨q1, q2, q3⟩ := Q12.out
    refine (cMark hF q1 2 (show 1 < 2 by decide) (by decide) (fun wk hwk => ?_) (by decide) (by omega)).mono ?_
    · simp at hwk
      rcases hwk with rfl | rfl <;> rfl
    · rintro e w' ⟨e1, s2, p1, p2, p3, hg⟩
      exact ⟨e1, s2, ⟨p1, by rw [p3, q3, keys_w]⟩, kF _ _ hg⟩
  go_wp2_with fail
  refine HM3.out.mono ?_
  rintro e w13 ⟨rfl, s13, Q13, S13⟩
  clear HM3 S12 Q12
  have HCr : Hid (Calls Tryz.prog 18 #[.pointer (some ⟨d, 0, none⟩), .slice none 0 0] w13 fun e w' => e = .returned (.int .i64 0) ∧ ∃ s : Dk.Dsk, Hid (QDisk s tB kB (wkF2 T1 T3) [1, 2] ∧ Dk.keysL s.fs = [epochB.data.toList, (logB 0 0).data.toList, (logB 1 0).data.toList]) ∧ Hid (Stand (LD tB kB l d s ⟨[([], T1), ([], T3)], 2, 0⟩) w w' [])) := by
    obtain ⟨F, hF, kF⟩ := S13.out.any
    obtain ⟨q1, q2⟩ := Q13.out
    obtain ⟨A, B, hD, hL, hAB, hAF, hBF, _⟩ := hF
    refine (cCrash hD q1).mono ?_
    rintro e w' ⟨e1, p1, p2, hg⟩
    exact ⟨e1, _, ⟨p1, by rw [p2, q2]⟩, kF _ _ (Sep.goL (logI_res _ _ _ _ _) hL hAB hAF hBF hg)⟩
  go_wp2_with fail
  refine HCr.out.mono ?_
  rintro e w14 ⟨rfl, s14, Q14, S14⟩
  clear HCr S13 Q13
  have HLd : Hid (Calls Tryz.prog 19 #[.pointer (some ⟨d, 0, none⟩)] w14 fun e w' => ∃ a c, e = .returned (.tuple #[.slice (some ⟨a, 0, none⟩) 2 c, .int .i64 2, .int .i64 0]) ∧ ∃ g x, w'.cell? ⟨a, 3, none⟩ = some (.slice (some ⟨g, 0, none⟩) 1 1) ∧ w'.cell? ⟨g, 3, none⟩ = some (.slice (some ⟨x, 0, none⟩) 1 1) ∧ w'.cell? ⟨x, 1, none⟩ = some (.int .i64 7) ∧ Below w.heap.size w w') := by
    obtain ⟨F, hF, _⟩ := S14.out.any
    obtain ⟨q1, q2⟩ := Q14.out
    have ht := HT.out
    obtain ⟨A, B, hD, _, _, _, _, _⟩ := hF
    have hall := allE_w T1 T3 ht.1.2 ht.2.2.1.2
    refine (cLoad hD q1 (fine_w T1 T3 ht.1.1 ht.2.2.1.1) (by decide) (by decide) (by rw [q2, show lastE [1, 2] = 2 from rfl, hall]; exact (show 2 ≤ 20 by decide))).mono ?_
    rintro e w' ⟨v, e1, R, hE, hR, hB⟩
    rw [q2, show lastE [1, 2] = 2 from rfl, hall] at hR
    obtain ⟨r1, r2, hs, t1, t2⟩ := sort_two hR.out (by omega)
    rw [hs] at hE
    obtain ⟨a0, c, rfl⟩ := row_shapeJ hE.out.row
    obtain ⟨a, rfl, _, _⟩ := row_someJ hE.out.row (show 0 < 2 by decide)
    have h3 := World.ownsRow.cells hE.out.row (g := a) rfl 3 (.slice (some ⟨r2.g, 0, none⟩) 1 1) rfl
    rw [Addr.add_lit, Nat.zero_add] at h3
    obtain ⟨k1, k2, _⟩ := hE.out.ent r2 (by simp)
    refine ⟨a, c, e1, r2.g, r2.x, h3, by rw [cell_of k1]; rfl, ?_, S14.out.base.trans (hB.out.mono S14.out.base.size)⟩
    rw [k2.2.2.1, show r2.n = 7 from congrArg Prod.snd t2]
    rfl
  go_wp2_with fail
  refine HLd.out.mono ?_
  rintro e w15 ⟨a, c, rfl, g, x, c1, c2, c3, hb15⟩
  clear HLd S14 Q14
  go_wp2_with fail
  go_ret
  exact ⟨rfl, hb15⟩
end Go.Proofs.YtigegdelhpdlhaaGreatDoor

/- Layer 18: among; Waiting. -/
namespace Go.Proofs.YtigegdelhpdlhaaGreatDoor
open Go.RowKit QP

theorem among_num (x n : Int) (_hn : 1 ≤ n) : (x.tmod n + n) % n = x % n := by
  have h3 : x.tmod n = x % n ∨ x.tmod n = x % n - n := by
    rw [Int.tmod_eq_emod]
    split
    · left; omega
    · right; omega
  rcases h3 with e | e
  · rw [e, Int.add_emod_right, Int.emod_emod]
  · rw [e, show x % n - n + n = x % n from by omega, Int.emod_emod]

set_option maxHeartbeats 400000 in
theorem among_any (x n : Int) (w : World) (hn : 1 ≤ n) (hn2 : n ≤ 1000) :
    Calls Tryz.prog 13 #[.int .i64 x, .int .i64 n] w fun e w' => e = .returned (.int .i64 (x % n)) ∧ w = w' := by
  have hl : -n < x.tmod n ∧ x.tmod n < n := ⟨Int.lt_tmod_of_pos x (by omega), Int.tmod_lt_of_pos x (by omega)⟩
  have h1 := hl.1
  have h2 := hl.2
  have HN : Hid ((x.tmod n + n) % n = x % n) := among_num x n hn
  have hz : (n == 0) = false := by rw [beq_eq_false_iff_ne]; omega
  clear hl
  go_enter Tryz.func13, Tryz.ntmps13
  go_wp2
  go_ret
  exact ⟨ret_int HN.out, rfl⟩

set_option maxRecDepth 100000 in
set_option maxHeartbeats 1000000 in
theorem cWaiting {t k : ByteArray} {l d : Nat} {s : Dk.Dsk} {L : Lg} {w : World} {F : Nat → Prop} (h : LD t k l d s L w F) (i : Nat) (wk : Wk) (hwk : L.ws[i]? = some wk) :
    Calls Tryz.prog 26 #[.pointer (some ⟨l, 0, none⟩), .int .i64 (i : Int)] w fun r w' => r = .returned (.tuple #[.int .i64 (wk.1.length : Int), .int .i64 0]) ∧ Goes (LD t k l d s L) w w' F := by
  have hmf : ∀ (fn : Fn) (first cap : Array Value) (w : World), (Instr.makeFunc fn first cap).run Tryz.prog w = .ok (.func fn first cap) w := fun _ _ _ _ => rfl
  obtain ⟨q, hq⟩ : ∃ q, w.heap.size = q := ⟨_, rfl⟩
  obtain ⟨wT, hwT⟩ : ∃ u, (w.alloc (logO l)).alloc (numO (i : Int)) = u := ⟨_, rfl⟩
  have b1 : Below w.heap.size w (w.alloc (logO l)) := (Below.refl _ _).alloc (Nat.le_refl _) _
  have b2 := b1.alloc b1.size (numO (i : Int))
  have hn0 := (Below.heap_alloc _ (numO (i : Int)) w.heap.size (by simp)).trans (heap_new w (logO l))
  have hn1 := heap_new (w.alloc (logO l)) (numO (i : Int))
  rw [World.size_alloc, hq] at hn1
  rw [hq] at hn0
  rw [hwT] at hn0 hn1 b2
  have hbT : Below w.heap.size w wT := b2
  obtain ⟨N, hN⟩ : ∃ N, wk.1.length = N := ⟨_, rfl⟩
  rw [hN]
  have HD : Hid (Calls Tryz.prog 30 #[.func (.func 52) #[] #[.pointer (some ⟨q, 0, none⟩), .pointer (some ⟨q + 1, 0, none⟩)]] wT fun r w' => r = .returned (.tuple #[.int .i64 (N : Int), .int .i64 0]) ∧ Goes (LD t k l d s L) wT w' F) := by
    refine toldIA_ok (LD.res t k l d s L) 52 _ _ (N : Int) wT (fun j hj => Nat.lt_of_lt_of_le (h.low j hj) hbT.size) (enters_of Tryz.func52 (by kernel_rfl) rfl _) fun u hu => ?_
    have hu' := h.below (hbT.trans (hu.mono hbT.size))
    have HG : Hid (Goes (LD t k l d s L) u u F) := Goes.stay hu'
    obtain ⟨A, B, _, ⟨b, vs, hG, _⟩, _, _, _, _⟩ := hu'
    have hi : i < L.ws.length := (List.getElem?_eq_some_iff.1 hwk).1
    have hv : vs[i]? = some (vs[i]'(by rw [hG.len]; exact hi)) := List.getElem?_eq_getElem _
    obtain ⟨c0, _⟩ := hG.wk hv hwk
    obtain ⟨a, m, e⟩ := row_shapeJ (hG.own i _ _ hv hwk)
    rw [e, hN] at c0
    have HWk : Hid (Calls Tryz.prog 53 #[.pointer (some ⟨l, 0, none⟩), .int .i64 (i : Int)] u fun e w' => e = .returned (.pointer (some ⟨b, i * 2, none⟩)) ∧ u = w') := jworker_any l d b L.ws.length i _ _ u hG.top hi
    have h0 := (hu.block _ (lt_of hn0)).trans hn0
    have h1 := (hu.block _ (lt_of hn1)).trans hn1
    have d0 : u.cell? ⟨q, 0, none⟩ = some (.pointer (some ⟨l, 0, none⟩)) := by rw [cell_of h0]; rfl
    have d1 : u.cell? ⟨q + 1, 0, none⟩ = some (.int .i64 (i : Int)) := by rw [cell_of h1]; rfl
    clear h hn0 hn1 h0 h1 hwT hbT b1 b2 hu hv e hwk hG
    go_enter Tryz.func52, Tryz.ntmps52
    go_wp2_with (go_at_call 53; (with_reducible refine HWk.out.mono ?_); rintro e w1 ⟨rfl, rfl⟩)
    go_ret
    exact ⟨rfl, HG.out⟩
  have HW : Hid ((w.alloc (logO l)).alloc (numO (i : Int)) = wT) := hwT
  have HB : Hid (Below w.heap.size w wT) := hbT
  clear h hn0 hn1 hbT hwT b1 b2 hwk hN
  go_enter Tryz.func26, Tryz.ntmps26
  go_wp2_with fail
  rw [HW.out]
  refine HD.out.mono ?_
  rintro r w2 ⟨rfl, hg⟩
  go_wp2_with fail
  go_returns
  exact ⟨rfl, hg.after HB.out⟩
end Go.Proofs.YtigegdelhpdlhaaGreatDoor

/- Layer 18: are entries the same: the book's SameValue, SameRow, SameRows, where they are. -/
namespace Go.Proofs.YtigegdelhpdlhaaGreatDoor
open Go.RowKit QP

abbrev vagg (k n : Int) (s : ByteArray) : Value := .agg #[.int .i64 k, .int .i64 n, .complex .f64 0 0, .string s]
abbrev vobj (k n : Int) (s : ByteArray) : Obj := .cells #[.int .i64 k, .int .i64 n, .complex .f64 0 0, .string s] 60 (0, 0)
theorem bl_alloc {w u : World} (h : Below w.heap.size w u) (o : Obj) : Below w.heap.size w (u.alloc o) := h.alloc h.size o
theorem bl_drew {w u : World} (h : Below w.heap.size w u) : Below w.heap.size w u.drew := h.trans ((below_drewN u 1).mono h.size)
theorem cell_drew {w : World} {a : Addr} {x : Value} (h : w.cell? a = some x) : w.drew.cell? a = some x := h

theorem box_val {u : World} {b : Nat} {k n : Int} {s : ByteArray} (h : u.heap[b]? = some (vobj k n s)) : u.cell? ⟨b, 0, none⟩ = some (.int .i64 k) ∧ u.cell? ⟨b, 1, none⟩ = some (.int .i64 n) ∧ u.cell? ⟨b, 2, none⟩ = some (.complex .f64 0 0) ∧ u.cell? ⟨b, 3, none⟩ = some (.string s) :=
  ⟨by rw [cell_of h]; rfl, by rw [cell_of h]; rfl, by rw [cell_of h]; rfl, by rw [cell_of h]; rfl⟩
set_option linter.unusedSimpArgs false in
set_option maxRecDepth 100000 in
set_option maxHeartbeats 2000000 in
theorem sameValue_same (k n : Int) (s : ByteArray) (w : World) : Calls Tryz.prog 104 #[vagg k n s, vagg k n s] w fun e w' => e = .returned (.bool true) ∧ Below w.heap.size w w' := by
  have hl := bits_law
  obtain ⟨b, hb⟩ : ∃ b, w.heap.size = b := ⟨_, rfl⟩
  obtain ⟨w1, hw1⟩ : ∃ u, w.alloc (vobj k n s) = u := ⟨_, rfl⟩
  obtain ⟨w2, hw2⟩ : ∃ u, w1.alloc (vobj k n s) = u := ⟨_, rfl⟩
  have z1 : w1.heap.size = b + 1 := by rw [← hw1, ← hb]; simp
  have x1 : w1.heap[b]? = some (vobj k n s) := by rw [← hw1, ← hb]; exact heap_new w _
  have x2 : w2.heap[b]? = some (vobj k n s) := by rw [← hw2, Below.heap_alloc _ _ _ (by omega)]; exact x1
  have x3 : w2.heap[b + 1]? = some (vobj k n s) := by rw [← hw2, ← z1]; exact heap_new w1 _
  have HB : Hid (Below w.heap.size w w2) := by show Below _ _ _; rw [← hw2, ← hw1]; exact bl_alloc (bl_alloc (Below.refl _ _) _) _
  obtain ⟨a0, a1, a2, a3⟩ := box_val x2
  obtain ⟨c0, c1, c2, c3⟩ := box_val x3
  clear x1 x2 x3
  go_enter Tryz.func104, Tryz.ntmps104
  go_wp2_with fail
  go_region_held3 (fun u => u.cell? ⟨b, 2, none⟩ = some (.complex .f64 0 0) ∧ u.cell? ⟨b + 1, 2, none⟩ = some (.complex .f64 0 0)) (first | (refine ⟨?_, ?_⟩ <;> (repeat (first | with_reducible assumption | with_reducible apply cell_drew)) <;> done) | go_keep) (fail)
  all_goals go_wp2_with fail
  all_goals go_ret
  all_goals exact ⟨by simp, by first | exact HB.out | exact bl_drew HB.out⟩

theorem OneAt.cells {w : World} {x : Nat} {k n : Int} {s : ByteArray} (h : OneAt w x k n s) : w.cell? ⟨x, 0, none⟩ = some (.int .i64 k) ∧ w.cell? ⟨x, 1, none⟩ = some (.int .i64 n) ∧ w.cell? ⟨x, 2, none⟩ = some (.complex .f64 0 0) ∧ w.cell? ⟨x, 3, none⟩ = some (.string s) := h.2
set_option maxRecDepth 100000 in
set_option maxHeartbeats 2000000 in
theorem sameRow_one (n : Nat) (x y : Nat) (w : World) (h1 : OneAt w x 2 (n : Int) ByteArray.empty) (h2 : OneAt w y 2 (n : Int) ByteArray.empty) : Calls Tryz.prog 79 #[.slice (some ⟨x, 0, none⟩) 1 1, .slice (some ⟨y, 0, none⟩) 1 1] w fun e w' => e = .returned (.bool true) ∧ Below w.heap.size w w' := by
  have H : Hid (∀ u, Below w.heap.size w u → (u.cell? ⟨x, 0, none⟩ = some (.int .i64 2) ∧ u.cell? ⟨x, 1, none⟩ = some (.int .i64 (n : Int)) ∧ u.cell? ⟨x, 2, none⟩ = some (.complex .f64 0 0) ∧ u.cell? ⟨x, 3, none⟩ = some (.string ByteArray.empty)) ∧ (u.cell? ⟨y, 0, none⟩ = some (.int .i64 2) ∧ u.cell? ⟨y, 1, none⟩ = some (.int .i64 (n : Int)) ∧ u.cell? ⟨y, 2, none⟩ = some (.complex .f64 0 0) ∧ u.cell? ⟨y, 3, none⟩ = some (.string ByteArray.empty))) := fun u hu => ⟨(h1.below hu).cells, (h2.below hu).cells⟩
  obtain ⟨z, hz⟩ : ∃ z, ByteArray.empty = z := ⟨_, rfl⟩
  rw [hz] at H
  have HV : Hid (∀ u, Below w.heap.size w u → Calls Tryz.prog 104 #[vagg 2 (n : Int) z, vagg 2 (n : Int) z] u fun e w' => e = .returned (.bool true) ∧ Hid (Below w.heap.size w w') ∧ ((w'.cell? ⟨x, 0, none⟩ = some (.int .i64 2) ∧ w'.cell? ⟨x, 1, none⟩ = some (.int .i64 (n : Int)) ∧ w'.cell? ⟨x, 2, none⟩ = some (.complex .f64 0 0) ∧ w'.cell? ⟨x, 3, none⟩ = some (.string z)) ∧ (w'.cell? ⟨y, 0, none⟩ = some (.int .i64 2) ∧ w'.cell? ⟨y, 1, none⟩ = some (.int .i64 (n : Int)) ∧ w'.cell? ⟨y, 2, none⟩ = some (.complex .f64 0 0) ∧ w'.cell? ⟨y, 3, none⟩ = some (.string z)))) := fun u hu => (sameValue_same 2 (n : Int) z u).mono fun e w' ⟨e1, e2⟩ => by
    have e3 := hu.trans (e2.mono hu.size)
    exact ⟨e1, e3, H.out w' e3⟩
  clear h1 h2 hz
  go_enter Tryz.func79, Tryz.ntmps79
  go_wp2_with fail
  go_loopw [5] (fun v wr => ∃ i : Nat, i ≤ 1 ∧ v = .int .i64 i ∧ Hid (Below w.heap.size w wr)) (fun v _ => 1 - (intOf v).toNat)
  case atStart => exact ⟨0, Nat.zero_le _, rfl, Below.refl _ _⟩
  case round =>
    obtain ⟨i, hi, rfl, HB⟩ := hrel
    by_cases hlt : i < 1
    · obtain rfl : i = 0 := by omega
      obtain ⟨⟨p0, p1, p2, p3⟩, ⟨q0, q1, q2, q3⟩⟩ := H.out wr HB.out
      have HS := HV.out wr.drew (bl_drew HB.out)
      have HS2 : Hid (Calls Tryz.prog 104 #[vagg 2 (n : Int) z, vagg 2 (n : Int) z] wr.drew fun e w' => e = .returned (.bool true) ∧ Hid (Below w.heap.size w w') ∧ ((w'.cell? ⟨x, 0, none⟩ = some (.int .i64 2) ∧ w'.cell? ⟨x, 1, none⟩ = some (.int .i64 (n : Int)) ∧ w'.cell? ⟨x, 2, none⟩ = some (.complex .f64 0 0) ∧ w'.cell? ⟨x, 3, none⟩ = some (.string z)) ∧ (w'.cell? ⟨y, 0, none⟩ = some (.int .i64 2) ∧ w'.cell? ⟨y, 1, none⟩ = some (.int .i64 (n : Int)) ∧ w'.cell? ⟨y, 2, none⟩ = some (.complex .f64 0 0) ∧ w'.cell? ⟨y, 3, none⟩ = some (.string z)))) := HS
      clear HS
      go_wp2_with fail
      go_region_held3 (fun u => (u.cell? ⟨x, 0, none⟩ = some (.int .i64 2) ∧ u.cell? ⟨x, 1, none⟩ = some (.int .i64 (n : Int)) ∧ u.cell? ⟨x, 2, none⟩ = some (.complex .f64 0 0) ∧ u.cell? ⟨x, 3, none⟩ = some (.string z)) ∧ (u.cell? ⟨y, 0, none⟩ = some (.int .i64 2) ∧ u.cell? ⟨y, 1, none⟩ = some (.int .i64 (n : Int)) ∧ u.cell? ⟨y, 2, none⟩ = some (.complex .f64 0 0) ∧ u.cell? ⟨y, 3, none⟩ = some (.string z))) (first | (refine ⟨⟨?_, ?_, ?_, ?_⟩, ⟨?_, ?_, ?_, ?_⟩⟩ <;> (repeat (first | with_reducible assumption | with_reducible apply cell_drew)) <;> done) | go_keep) ((go_at_call 104; refine HS2.out.mono ?_; rintro e w2 ⟨rfl, HB2, ⟨e0, e1, e2, e3⟩, ⟨e4, e5, e6, e7⟩⟩))
      all_goals go_wp2_with fail
      all_goals exact ⟨⟨0 + 1, by omega, by go_num, HB2⟩, by simp [intOf]⟩
    · obtain rfl : i = 1 := by omega
      go_wp2_with fail
      go_ret
      exact ⟨rfl, HB.out⟩

end Go.Proofs.YtigegdelhpdlhaaGreatDoor
