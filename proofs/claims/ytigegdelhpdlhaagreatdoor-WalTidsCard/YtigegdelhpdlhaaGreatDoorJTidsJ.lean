import Derived.Test.YtigegdelhpdlhaaGreatDoorJTidSJ
import Derived.Test.YtigegdelhpdlhaaGreatDoorJMgGJ
import Derived.Test.YtigegdelhpdlhaaGreatDoorJWorksJ
import Derived.Test.YtigegdelhpdlhaaGreatDoorRows
import Derived.Test.YtigegdelhpdlhaaGreatDoorTie
import Derived.Test.YtigegdelhpdlhaaGreatDoorCards
import Derived.ProofKit
import Derived.OpenShut
import Derived.ShutString
import Derived.ChangeOld
import Derived.SizedLaws
import Derived.LaidMore
import Derived.LaidHandle
import Derived.SevenTiedAt
import Derived.Stop.Joined
/- Layer 18: WalTids: entries of four workers, flushed and rotated at will, are told by rising words. (By jtids.py.) -/
namespace Go.Proofs.YtigegdelhpdlhaaGreatDoor
open Go.RowKit QP

theorem Stand.forget0 {t k : ByteArray} {l d : Nat} {s : Dk.Dsk} {L : Lg} {w wr : World} (h : Stand (LD t k l d s L) w wr []) : Stand (DiskI d s) w wr [] := by
  obtain ⟨F, ⟨A, B, hD, _, _, hAF, _, _⟩, h2, _, _, h5⟩ := h
  exact Stand.start hD (fun j hj => h2 j (hAF j hj)) h5
abbrev wkF0t : List UInt8 → List (Nat × Nat) := fun _ => []

set_option maxRecDepth 100000 in
set_option maxHeartbeats 32000000 in
theorem tids_walk (v : Value) (L : List Int) (w : World) (hv : SliceAt w v 1 (fun x : Int => [Value.int .i64 x]) L) : Calls Tryz.prog 5 #[v] w fun e w' => e = .returned (.bool true) ∧ Below w.heap.size w w' := by
  obtain ⟨a, c, rfl, h1, h2, h3⟩ := hv
  obtain ⟨n, hn⟩ : ∃ n, L.length = n := ⟨_, rfl⟩
  have HC : Hid (∀ i, i < n → ∃ b off x, a = some ⟨b, off, none⟩ ∧ ∀ u, Below w.heap.size w u → u.cell? ⟨b, off + i, none⟩ = some (.int .i64 x)) := fun i hi => by
    have hi' : i < L.length := by omega
    obtain ⟨b, off, e1, e2, e3⟩ := h3 (fun e => by rw [e] at hi'; cases hi')
    have := e3 i hi' 0 _ rfl
    rw [Nat.mul_one, Nat.add_zero] at this
    exact ⟨b, off, L[i], e1, fun u hu => (hu.cell (p := ⟨b, off + i, none⟩) e2).trans this⟩
  unfold maxLen at h2
  rw [hn] at h1
  rw [hn]
  have HF0 : Hid (Fine wkF0t []) := ⟨fun _ => ⟨Nat.zero_le _, (fun _ hq => by cases hq)⟩, (fun _ h => by cases h), (fun _ he => by cases he), Nat.zero_le _⟩
  have HWk : Hid (∀ u, Calls Tryz.prog 8 #[] u fun e w' => e = .returned (.bool true) ∧ Below u.heap.size u w') := fun u => works_any u
  clear h3 hn
  go_enter Tryz.func5, Tryz.ntmps5
  go_wp2_with fail
  refine (dnew_i w).mono ?_
  rintro e w1 ⟨d, F1, rfl, hD1, hF1, hb1⟩
  have S1 : Hid (Stand (DiskI d Dk.blank) w w1 []) := Stand.start hD1 hF1 hb1
  clear hD1 hF1 hb1
  have HO : Hid (Calls Tryz.prog 9 #[.pointer (some ⟨d, 0, none⟩), .int .i64 4] w1 fun e w' => ∃ l, e = .returned (.tuple #[.pointer (some ⟨l, 0, none⟩), .int .i64 0]) ∧ Hid (Stand (LD tB kB l d Dk.blank ⟨wsN 4, 0, 0⟩) w w' [])) := by
    obtain ⟨F, hF, kF⟩ := S1.out.any
    refine (cOpen0 hF (qdisk_blank tB kB) HF0.out rfl (by decide) (by decide) (by decide) 4 (Or.inr (Or.inr (Or.inr rfl)))).mono ?_
    rintro e w' ⟨l, e1, hg⟩
    exact ⟨l, e1, kF _ _ hg⟩
  go_wp2_with fail
  refine HO.out.mono ?_
  rintro e w2 ⟨l, rfl, S2⟩
  clear S1 HO
  go_wp2_with fail
  refine (HWk.out _).mono ?_
  rintro e w3 ⟨rfl, hb3⟩
  have S3 : Hid (Stand (LD tB kB l d Dk.blank ⟨wsN 4, 0, 0⟩) w w3 []) := S2.out.below (LD.res _ _ _ _ _ _) hb3
  clear S2 hb3 HWk
  go_wp2_with fail
  go_loopw [6, 7] (fun vn vi wr => ∃ (i : Nat) (wks : List Wk) (LF : List UInt8 → List (Nat × Nat)) (s : Dk.Dsk) (G : Nat), vn = .int .i64 i ∧ vi = .int .i64 i ∧ i ≤ n ∧ i ≤ 40 ∧ Hid (TidS i i wks LF s G) ∧ Hid (Stand (LD tB kB l d s ⟨wks, 0, G⟩) w wr [])) (fun _ vi _ => 40 - (intOf vi).toNat)
  case atStart => exact ⟨0, wsN 4, wkF0t, Dk.blank, 0, rfl, rfl, Nat.zero_le _, by decide, tidS_start, S3⟩
  case round =>
    clear S3
    obtain ⟨i, wks, LF, s, G, rfl, rfl, hin, hi40, HT, HS⟩ := hrel
    by_cases hlt : i < n ∧ i < 40
    · obtain ⟨q1, q2⟩ := hlt
      have q3 : (i : Int) < (n : Int) := by omega
      have q4 : (i : Int) < 40 := by omega
      obtain ⟨b, off, x, rfl, hx⟩ := HC.out i q1
      have HX : Hid (∀ u, Below w.heap.size w u → u.cell? ⟨b, off + i, none⟩ = some (.int .i64 x)) := hx
      have cx := hx wr HS.out.base
      clear hx
      obtain ⟨r4, hr4, hr4b⟩ : ∃ r : Nat, x % 4 = (r : Int) ∧ r < 4 := ⟨(x % 4).toNat, by omega, by omega⟩
      obtain ⟨r3, hr3, hr3b⟩ : ∃ r : Nat, x % 3 = (r : Int) ∧ r < 3 := ⟨(x % 3).toNat, by omega, by omega⟩
      obtain ⟨r9, hr9⟩ : ∃ r, x % 9 = r := ⟨_, rfl⟩
      obtain ⟨r11, hr11⟩ : ∃ r, x % 11 = r := ⟨_, rfl⟩
      have HAm4 : Hid (∀ u, Calls Tryz.prog 13 #[.int .i64 x, .int .i64 4] u fun e w' => e = .returned (.int .i64 (r4 : Int)) ∧ u = w') := fun u => by
        have := among_any x 4 u (by decide) (by decide)
        rw [hr4] at this
        exact this
      have HAm3 : Hid (∀ u, Calls Tryz.prog 13 #[.int .i64 x, .int .i64 3] u fun e w' => e = .returned (.int .i64 (r3 : Int)) ∧ u = w') := fun u => by
        have := among_any x 3 u (by decide) (by decide)
        rw [hr3] at this
        exact this
      have HAm9 : Hid (∀ u, Calls Tryz.prog 13 #[.int .i64 x, .int .i64 9] u fun e w' => e = .returned (.int .i64 r9) ∧ u = w') := fun u => by
        have := among_any x 9 u (by decide) (by decide)
        rw [hr9] at this
        exact this
      have HAm11 : Hid (∀ u, Calls Tryz.prog 13 #[.int .i64 x, .int .i64 11] u fun e w' => e = .returned (.int .i64 r11) ∧ u = w') := fun u => by
        have := among_any x 11 u (by decide) (by decide)
        rw [hr11] at this
        exact this
      clear hr4 hr3 hr9 hr11
      have hl4 : r4 < wks.length := by rw [HT.out.four]; exact hr4b
      obtain ⟨wk4, hwk4⟩ : ∃ wk, wks[r4]? = some wk := ⟨_, List.getElem?_eq_getElem hl4⟩
      obtain ⟨z, hz⟩ : ∃ z, i / 7 = z := ⟨_, rfl⟩
      obtain ⟨E, hE⟩ : ∃ E, 1 + z = E := ⟨_, rfl⟩
      have f1 : (i : Int).tdiv 7 = (z : Int) := by rw [Int.tdiv_eq_ediv_of_nonneg (by omega)]; omega
      have f2 : (i : Int) / 7 = (z : Int) := by omega
      have f3 : IntKind.i64.wrap (1 + (z : Int)) = (E : Int) := by rw [wrap_small _ (by omega) (by omega)]; omega
      have f4 : IntKind.i64.wrap (z : Int) = (z : Int) := wrap_small _ (by omega) (by omega)
      have hEe : epT i = E := by unfold epT; omega
      have HEn : Hid (∀ u, Calls Tryz.prog 14 #[.int .i64 (E : Int), .int .i64 (i : Int), .int .i64 (i : Int)] u fun e w' => ∃ g x, e = .returned (.agg #[.int .u64 (tidN E i : Int), .slice (some ⟨g, 0, none⟩) 1 1]) ∧ Hid (w'.heap[g]? = some (boxJ tB kB x) ∧ OneAt w' x 2 (i : Int) ByteArray.empty ∧ u.heap.size ≤ g ∧ u.heap.size ≤ x) ∧ Below u.heap.size u w') := fun u => centry E i i u (by omega) (by omega)
      obtain ⟨T, hT⟩ : ∃ T, tidN E i = T := ⟨_, rfl⟩
      have hTe : tidN (epT i) i = T := by rw [hEe]; exact hT
      rw [hT] at HEn
      have HT2 : Hid (TidS i (i + 1) (wks.set r4 (wk4.1 ++ [(T, i)], T)) LF s G) := by
        have := HT.out.add hwk4
        rw [show entT i = (T, i) from by show (tidN (epT i) i, i) = _; rw [hTe], hTe] at this
        exact this
      have hTk := tidT_ok (i := i) (by omega)
      rw [hTe, hEe] at hTk
      have HAdd : Hid (∀ g y u, Stand (LD tB kB l d s ⟨wks, 0, G⟩) w u [] → u.heap[g]? = some (boxJ tB kB y) → OneAt u y 2 (i : Int) ByteArray.empty → Calls Tryz.prog 15 #[.pointer (some ⟨l, 0, none⟩), .int .i64 (r4 : Int), .agg #[.int .u64 (T : Int), .slice (some ⟨g, 0, none⟩) 1 1]] u fun e w' => e = .returned (.int .i64 0) ∧ Hid (Stand (LD tB kB l d s ⟨wks.set r4 (wk4.1 ++ [(T, i)], T), 0, G⟩) w w' [])) := fun g y u hS hg hy => by
        obtain ⟨F, hF, kF⟩ := hS.any
        have hwl := HT.out.wait hwk4
        have hlast := HT.out.last wk4 (List.mem_of_getElem? hwk4)
        rw [hTe] at hlast
        exact (cAdd_ok hF r4 T i g y wk4 hwk4 (by omega) hTk.1 hg hy (by omega) (by decide) (by decide) hlast (show 0 < T / 8388608 by omega)).mono fun e w' ⟨e1, hg⟩ => ⟨e1, kF _ _ hg⟩
      have hl3 : r3 < (wks.set r4 (wk4.1 ++ [(T, i)], T)).length := by rw [List.length_set, HT.out.four]; omega
      obtain ⟨wk3, hwk3⟩ : ∃ wk, (wks.set r4 (wk4.1 ++ [(T, i)], T))[r3]? = some wk := ⟨_, List.getElem?_eq_getElem hl3⟩
      have HFl : Hid (∀ u, Stand (LD tB kB l d s ⟨wks.set r4 (wk4.1 ++ [(T, i)], T), 0, G⟩) w u [] → Calls Tryz.prog 16 #[.pointer (some ⟨l, 0, none⟩), .int .i64 (r3 : Int)] u fun e w' => e = .returned (.int .i64 0) ∧ ∃ s2 : Dk.Dsk, Hid (TidS (i + 1) (i + 1) ((wks.set r4 (wk4.1 ++ [(T, i)], T)).set r3 ([], wk3.2)) (updF LF (logB r3 G).data.toList (LF (logB r3 G).data.toList ++ wk3.1)) s2 G) ∧ Hid (Stand (LD tB kB l d s2 ⟨(wks.set r4 (wk4.1 ++ [(T, i)], T)).set r3 ([], wk3.2), 0, G⟩) w w' [])) := fun u hS => by
        obtain ⟨F, hF, kF⟩ := hS.any
        have hG := HT.out.gen
        have hfl := (HT.out.file (logB r3 G).data.toList).1
        have hwl := HT2.out.wait hwk3
        have hfew := HT.out.few
        refine (cFlush hF HT.out.q r3 wk3 hwk3 (by omega) (show G < 100 by omega) (by decide) (by decide) (show (LF (logB r3 G).data.toList).length + wk3.1.length ≤ 1000 by omega) (by omega)).mono ?_
        rintro e w' ⟨e1, s2, q1, q2, q3, hg⟩
        exact ⟨e1, s2, HT2.out.flush hwk3 _ (logK_at (show r3 < 10 by omega) (show G < 100 by omega)).1 q1 q2 q3, kF _ _ hg⟩
      have HRo : Hid (∀ (wks : List Wk) (s : Dk.Dsk) u, Stand (LD tB kB l d s ⟨wks, 0, G⟩) w u [] → Calls Tryz.prog 10 #[.pointer (some ⟨l, 0, none⟩)] u fun e w' => e = .returned (.tuple #[.int .i64 (G : Int), .int .i64 0]) ∧ Hid (Stand (LD tB kB l d s ⟨wks, 0, G + 1⟩) w w' [])) := fun wks s u hS => by
        obtain ⟨F, hF, kF⟩ := hS.any
        have hG := HT.out.gen
        exact (cRotate hF (show G < 1000000 by omega)).mono fun e w' ⟨e1, hg⟩ => ⟨e1, kF _ _ hg⟩
      clear hwk4 hwk3 hT hTe hTk hEe hE hz hl3 hl4
      by_cases h9 : r9 = 5
      · by_cases h11 : r11 = 7
        · obtain rfl : r9 = 5 := h9
          obtain rfl : r11 = 7 := h11
          go_wp2_with (first
            | (go_at_call 13; first | ((with_reducible refine (HAm4.out _).mono ?_); rintro e w4 ⟨rfl, rfl⟩) | ((with_reducible refine (HAm9.out _).mono ?_); rintro e w4 ⟨rfl, rfl⟩) | ((with_reducible refine (HAm3.out _).mono ?_); rintro e w4 ⟨rfl, rfl⟩) | ((with_reducible refine (HAm11.out _).mono ?_); rintro e w4 ⟨rfl, rfl⟩))
            | (go_at_call 14; (with_reducible refine (HEn.out _).mono ?_); rintro e w5 ⟨g, y, rfl, E5, hb5⟩; have HA5 := HAdd.out g y w5 (HS.out.below (LD.res _ _ _ _ _ _) hb5) E5.out.1 E5.out.2.1; clear hb5)
            | (go_at_call 15; (with_reducible refine HA5.mono ?_); rintro e w6 ⟨rfl, S6⟩; have cx6 := HX.out w6 S6.out.base; clear HA5)
            | (go_at_call 16; (with_reducible refine (HFl.out _ S6.out).mono ?_); rintro e w7 ⟨rfl, s7, T7, S7⟩; have cx7 := HX.out w7 S7.out.base)
            | (go_at_call 10; (with_reducible refine (HRo.out _ _ _ S7.out).mono ?_); rintro e w8 ⟨rfl, S8⟩))
          exact ⟨⟨i + 1, ((wks.set r4 (wk4.1 ++ [(T, i)], T)).set r3 ([], wk3.2)), (updF LF (logB r3 G).data.toList (LF (logB r3 G).data.toList ++ wk3.1)), s7, G + 1, by go_num, by go_num, by omega, by omega, (T7.out).rotate (Nat.lt_succ_of_le HT.out.gen), S8⟩, by simp [intOf]; omega⟩
        · obtain rfl : r9 = 5 := h9
          have n11 : (r11 == 7) = false := by rw [beq_eq_false_iff_ne]; exact h11
          go_wp2_with (first
            | (go_at_call 13; first | ((with_reducible refine (HAm4.out _).mono ?_); rintro e w4 ⟨rfl, rfl⟩) | ((with_reducible refine (HAm9.out _).mono ?_); rintro e w4 ⟨rfl, rfl⟩) | ((with_reducible refine (HAm3.out _).mono ?_); rintro e w4 ⟨rfl, rfl⟩) | ((with_reducible refine (HAm11.out _).mono ?_); rintro e w4 ⟨rfl, rfl⟩))
            | (go_at_call 14; (with_reducible refine (HEn.out _).mono ?_); rintro e w5 ⟨g, y, rfl, E5, hb5⟩; have HA5 := HAdd.out g y w5 (HS.out.below (LD.res _ _ _ _ _ _) hb5) E5.out.1 E5.out.2.1; clear hb5)
            | (go_at_call 15; (with_reducible refine HA5.mono ?_); rintro e w6 ⟨rfl, S6⟩; have cx6 := HX.out w6 S6.out.base; clear HA5)
            | (go_at_call 16; (with_reducible refine (HFl.out _ S6.out).mono ?_); rintro e w7 ⟨rfl, s7, T7, S7⟩; have cx7 := HX.out w7 S7.out.base)
            | (go_at_call 10; (with_reducible refine (HRo.out _ _ _ S7.out).mono ?_); rintro e w8 ⟨rfl, S8⟩))
          exact ⟨⟨i + 1, ((wks.set r4 (wk4.1 ++ [(T, i)], T)).set r3 ([], wk3.2)), (updF LF (logB r3 G).data.toList (LF (logB r3 G).data.toList ++ wk3.1)), s7, G, by go_num, by go_num, by omega, by omega, T7.out, S7⟩, by simp [intOf]; omega⟩
      · by_cases h11 : r11 = 7
        · have n9 : (r9 == 5) = false := by rw [beq_eq_false_iff_ne]; exact h9
          obtain rfl : r11 = 7 := h11
          go_wp2_with (first
            | (go_at_call 13; first | ((with_reducible refine (HAm4.out _).mono ?_); rintro e w4 ⟨rfl, rfl⟩) | ((with_reducible refine (HAm9.out _).mono ?_); rintro e w4 ⟨rfl, rfl⟩) | ((with_reducible refine (HAm3.out _).mono ?_); rintro e w4 ⟨rfl, rfl⟩) | ((with_reducible refine (HAm11.out _).mono ?_); rintro e w4 ⟨rfl, rfl⟩))
            | (go_at_call 14; (with_reducible refine (HEn.out _).mono ?_); rintro e w5 ⟨g, y, rfl, E5, hb5⟩; have HA5 := HAdd.out g y w5 (HS.out.below (LD.res _ _ _ _ _ _) hb5) E5.out.1 E5.out.2.1; clear hb5)
            | (go_at_call 15; (with_reducible refine HA5.mono ?_); rintro e w6 ⟨rfl, S6⟩; have cx6 := HX.out w6 S6.out.base; clear HA5)
            | (go_at_call 16; (with_reducible refine (HFl.out _ S6.out).mono ?_); rintro e w7 ⟨rfl, s7, T7, S7⟩; have cx7 := HX.out w7 S7.out.base)
            | (go_at_call 10; (with_reducible refine (HRo.out _ _ _ S6.out).mono ?_); rintro e w8 ⟨rfl, S8⟩))
          exact ⟨⟨i + 1, (wks.set r4 (wk4.1 ++ [(T, i)], T)), LF, s, G + 1, by go_num, by go_num, by omega, by omega, (HT2.out.more (Nat.le_succ _)).rotate (Nat.lt_succ_of_le HT.out.gen), S8⟩, by simp [intOf]; omega⟩
        · have n9 : (r9 == 5) = false := by rw [beq_eq_false_iff_ne]; exact h9
          have n11 : (r11 == 7) = false := by rw [beq_eq_false_iff_ne]; exact h11
          go_wp2_with (first
            | (go_at_call 13; first | ((with_reducible refine (HAm4.out _).mono ?_); rintro e w4 ⟨rfl, rfl⟩) | ((with_reducible refine (HAm9.out _).mono ?_); rintro e w4 ⟨rfl, rfl⟩) | ((with_reducible refine (HAm3.out _).mono ?_); rintro e w4 ⟨rfl, rfl⟩) | ((with_reducible refine (HAm11.out _).mono ?_); rintro e w4 ⟨rfl, rfl⟩))
            | (go_at_call 14; (with_reducible refine (HEn.out _).mono ?_); rintro e w5 ⟨g, y, rfl, E5, hb5⟩; have HA5 := HAdd.out g y w5 (HS.out.below (LD.res _ _ _ _ _ _) hb5) E5.out.1 E5.out.2.1; clear hb5)
            | (go_at_call 15; (with_reducible refine HA5.mono ?_); rintro e w6 ⟨rfl, S6⟩; have cx6 := HX.out w6 S6.out.base; clear HA5)
            | (go_at_call 16; (with_reducible refine (HFl.out _ S6.out).mono ?_); rintro e w7 ⟨rfl, s7, T7, S7⟩; have cx7 := HX.out w7 S7.out.base)
            | (go_at_call 10; (with_reducible refine (HRo.out _ _ _ S6.out).mono ?_); rintro e w8 ⟨rfl, S8⟩))
          exact ⟨⟨i + 1, (wks.set r4 (wk4.1 ++ [(T, i)], T)), LF, s, G, by go_num, by go_num, by omega, by omega, HT2.out.more (Nat.le_succ _), S6⟩, by simp [intOf]; omega⟩
    · have hx : (n : Int) = (i : Int) ∨ ((i : Int) < (n : Int) ∧ i = 40) := by omega
      clear HC
      rcases hx with hx | ⟨hx, hx2⟩
      · have hx1 : ¬ (i : Int) < (n : Int) := by omega
        obtain rfl : n = i := by omega
        go_wp2_with fail
        go_loopw [79] (fun vj wr => ∃ (j : Nat) (wks : List Wk) (LF : List UInt8 → List (Nat × Nat)) (s : Dk.Dsk), vj = .int .i64 j ∧ j ≤ 4 ∧ Hid (TidS (40 + j) n wks LF s G ∧ ∀ (x : Nat) (wk : Wk), wks[x]? = some wk → 4 ≤ x + j → wk.1 = []) ∧ Hid (Stand (LD tB kB l d s ⟨wks, 0, G⟩) w wr [])) (fun vj _ => 4 - (intOf vj).toNat)
        case atStart => exact ⟨0, wks, LF, s, rfl, by decide, ⟨HT.out.more (by omega), fun x wk hx h4 => by
          have := (List.getElem?_eq_some_iff.1 hx).1
          rw [HT.out.four] at this
          omega⟩, HS⟩
        case round =>
          clear HS HT
          obtain ⟨j, wks, LF, s, rfl, hj4, HT, HS⟩ := hrel
          by_cases hj : j < 4
          · have hjI : (j : Int) < 4 := by omega
            obtain ⟨y, hy⟩ : ∃ y, 3 - j = y := ⟨_, rfl⟩
            have f1 : IntKind.i64.wrap (3 - (j : Int)) = (y : Int) := by rw [wrap_small _ (by omega) (by omega)]; omega
            have hy4 : y < wks.length := by rw [HT.out.1.four]; omega
            have hwk : wks[y]? = some wks[y] := List.getElem?_eq_getElem hy4
            have HFl : Hid (Calls Tryz.prog 16 #[.pointer (some ⟨l, 0, none⟩), .int .i64 (y : Int)] wr fun e w' => e = .returned (.int .i64 0) ∧ ∃ s2 : Dk.Dsk, Hid (TidS (40 + j + 1) n (wks.set y ([], wks[y].2)) (updF LF (logB y G).data.toList (LF (logB y G).data.toList ++ wks[y].1)) s2 G) ∧ Hid (Stand (LD tB kB l d s2 ⟨wks.set y ([], wks[y].2), 0, G⟩) w w' [])) := by
              obtain ⟨F, hF, kF⟩ := HS.out.any
              have hG := HT.out.1.gen
              have hfl := (HT.out.1.file (logB y G).data.toList).1
              have hwl := HT.out.1.wait hwk
              have hfew := HT.out.1.few
              refine (cFlush hF HT.out.1.q y wks[y] hwk (by omega) (show G < 100 by omega) (by decide) (by decide) (show (LF (logB y G).data.toList).length + wks[y].1.length ≤ 1000 by omega) (by omega)).mono ?_
              rintro e w' ⟨e1, s2, q1, q2, q3, hg⟩
              exact ⟨e1, s2, HT.out.1.flush hwk _ (logK_at (show y < 10 by omega) (show G < 100 by omega)).1 q1 q2 q3, kF _ _ hg⟩
            have HE : Hid (∀ (x : Nat) (wk : Wk), (wks.set y ([], wks[y].2))[x]? = some wk → 4 ≤ x + (j + 1) → wk.1 = []) := fun x wk hx h4 => by
              rw [List.getElem?_set] at hx
              by_cases hxy : y = x
              · rw [if_pos hxy, if_pos hy4] at hx
                cases hx
                rfl
              · rw [if_neg hxy] at hx
                exact HT.out.2 x wk hx (by omega)
            generalize hW2 : wks.set y ([], wks[y].2) = W2 at HFl HE
            generalize hL2 : updF LF (logB y G).data.toList (LF (logB y G).data.toList ++ wks[y].1) = L2 at HFl
            clear hwk hW2 hL2
            go_wp2_with (go_at_call 16; (with_reducible refine HFl.out.mono ?_); rintro e w6 ⟨rfl, s6, T6, S6⟩)
            exact ⟨⟨j + 1, W2, L2, s6, by go_num, by omega, ⟨T6.out, HE.out⟩, S6⟩, by simp [intOf]; omega⟩
          · obtain rfl : j = 4 := by omega
            have HAll : Hid (∀ wk ∈ wks, wk.1 = []) := fun wk hwk => by
              obtain ⟨x, hx, rfl⟩ := List.getElem_of_mem hwk
              exact HT.out.2 x _ (List.getElem?_eq_getElem hx) (by omega)
            have HM : Hid (Calls Tryz.prog 17 #[.pointer (some ⟨l, 0, none⟩), .int .i64 100] wr fun e w' => e = .returned (.int .i64 0) ∧ ∃ s2 : Dk.Dsk, Hid (QDisk s2 tB kB LF [100] ∧ Dk.keysL s2.fs = Dk.insN epochB.data.toList (Dk.keysL s.fs)) ∧ Hid (Stand (DiskI d s2) w w' [])) := by
              obtain ⟨F, hF, kF⟩ := HS.out.any
              have hfew := HT.out.1.few
              refine (cMark hF HT.out.1.q 100 (show 0 < 100 by decide) (by decide) HAll.out (by decide) (by omega)).mono ?_
              rintro e w' ⟨e1, s2, p1, p2, p3, hg⟩
              exact ⟨e1, s2, ⟨p1, p3⟩, (kF _ _ hg).forget0⟩
            go_wp2_with fail
            refine HM.out.mono ?_
            rintro e w5 ⟨rfl, s5, Q5, S5⟩
            clear HM
            have HLd : Hid (Calls Tryz.prog 19 #[.pointer (some ⟨d, 0, none⟩)] w5 fun e w' => ∃ A c, e = .returned (.tuple #[.slice A n c, .int .i64 100, .int .i64 0]) ∧ Hid (∀ u j, Below w'.heap.size w' u → j < n → ∃ g g1 x1, A = some ⟨g, 0, none⟩ ∧ n ≤ c ∧ c ≤ 9223372036854775807 ∧ u.cell? ⟨g, j * 2 + 1, none⟩ = some (.slice (some ⟨g1, 0, none⟩) 1 1) ∧ u.cell? ⟨g1, 3, none⟩ = some (.slice (some ⟨x1, 0, none⟩) 1 1) ∧ u.cell? ⟨x1, 1, none⟩ = some (.int .i64 (j : Int))) ∧ Hid (Below w.heap.size w w')) := by
              obtain ⟨F, hF, _⟩ := S5.out.any
              have hp : (allE 100 LF (Dk.keysL s5.fs)).Perm ((List.range n).map entT) := by
                rw [Q5.out.2]
                refine (allE_all HT.out.1.logs (fun q hq p hp => ?_)).trans ?_
                · obtain ⟨j, hj, rfl⟩ := (HT.out.1.file q).2 p hp
                  rw [(@tidT_ok j (by omega)).2]
                  unfold epT
                  omega
                · have h1 := HT.out.1.all
                  have h2 : waitT wks = [] := by
                    unfold waitT
                    rw [List.flatMap_eq_nil_iff]
                    exact HAll.out
                  rw [h2, List.append_nil] at h1
                  exact h1
              have hfine : Fine LF [100] := ⟨fun f => ⟨by have := (HT.out.1.file f).1; omega, fun p hp => by
                obtain ⟨j, hj, rfl⟩ := (HT.out.1.file f).2 p hp
                exact ⟨(@tidT_ok j (by omega)).1, show j < _ by omega⟩⟩, (fun j hj => by
                match j, hj with
                | 0, _ => exact (by decide : 0 < 100)), (fun e he => by
                simp at he
                omega), by decide⟩
              have hmany : ManyOk (allE (lastE [100]) LF (Dk.keysL s5.fs)) := by
                refine Or.inr ⟨?_, ?_⟩
                · show (allE 100 LF (Dk.keysL s5.fs)).length ≤ 40
                  rw [hp.length_eq, List.length_map, List.length_range]
                  exact hi40
                · show ((allE 100 LF (Dk.keysL s5.fs)).map (·.1)).Nodup
                  exact (hp.map (·.1)).nodup_iff.2 (rangeT_nodup n)
              refine (cLoad40 hF Q5.out.1 hfine (by decide) (by decide) hmany).mono ?_
              rintro e w' ⟨v, e1, R, hE, hR, hB⟩
              have hR' : R.map Er.tn = allE 100 LF (Dk.keysL s5.fs) := hR.out
              obtain ⟨z1, z2, z3⟩ := sortE_facts R
              have hS : (sortE R).map Er.tn = (List.range n).map entT := by
                refine sorted_same ((z2.map _).trans (hR' ▸ hp)) ?_ (rangeT_sorted n) ?_
                · rw [List.pairwise_map]
                  exact z3
                · intro a ha b hb
                  have hp2 : ((sortE R).map Er.tn).Perm ((List.range n).map entT) := (z2.map _).trans (hR' ▸ hp)
                  exact rangeT_inj n a (hp2.mem_iff.1 ha) b (hp2.mem_iff.1 hb)
              have hlen : (sortE R).length = n := by
                have := congrArg List.length hS
                rw [List.length_map, List.length_map, List.length_range] at this
                exact this
              obtain ⟨A, c, rfl⟩ := row_shapeJ hE.out.row
              rw [hlen] at e1
              refine ⟨A, c, e1, fun u j hu hj => ?_, S5.out.base.trans (hB.out.mono S5.out.base.size)⟩
              have hE2 := hE.out.below hu
              have hje : j < (sortE R).length := by omega
              obtain ⟨g, rfl, hc1, hc2⟩ := row_someJ hE2.row (by omega)
              obtain ⟨k1, k2, _⟩ := hE2.ent (sortE R)[j] (List.getElem_mem hje)
              have hn : (sortE R)[j].n = j := by
                have h1 : ((sortE R).map Er.tn)[j]'(by rw [List.length_map]; exact hje) = ((List.range n).map entT)[j]'(by rw [List.length_map, List.length_range]; exact hj) := by simp only [hS]
                rw [List.getElem_map, List.getElem_map, List.getElem_range] at h1
                exact congrArg Prod.snd h1
              refine ⟨g, (sortE R)[j].g, (sortE R)[j].x, rfl, by omega, hc2, ?_, by rw [cell_of k1]; rfl, by rw [k2.2.2.1, hn]⟩
              have h3 := flat_get enE_len (sortE R) j hje 1 (by decide)
              have h4 := World.ownsRow.cells hE2.row (g := g) rfl (2 * j + 1) _ (by rw [h3]; rfl)
              rw [Addr.add_lit, Nat.zero_add, Nat.mul_comm] at h4
              exact h4
            go_wp2_with fail
            refine HLd.out.mono ?_
            rintro e w7 ⟨A, c, rfl, HEl, HB7⟩
            clear HLd S5 Q5 HT HS HAll
            go_wp2_with fail
            go_loopw [111] (fun vj wr => ∃ j : Nat, vj = .int .i64 j ∧ j ≤ n ∧ Hid (Below w7.heap.size w7 wr)) (fun vj _ => n - (intOf vj).toNat)
            case atStart => exact ⟨0, rfl, Nat.zero_le _, Below.refl _ _⟩
            case round =>
              obtain ⟨j, rfl, hji, HBr⟩ := hrel
              by_cases hjl : j < n
              · have hjI : (j : Int) < (n : Int) := by omega
                obtain ⟨g, g1, x1, rfl, e1, e2, c1, c2, c3⟩ := HEl.out wr j HBr.out hjl
                go_wp2_with fail
                exact ⟨⟨j + 1, by go_num, by omega, HBr⟩, by simp [intOf]; omega⟩
              · obtain rfl : j = n := by omega
                have hjI : ¬ (j : Int) < (j : Int) := by omega
                go_wp2_with fail
                go_ret
                exact ⟨rfl, HB7.out.trans (HBr.out.mono HB7.out.size)⟩
      · have hx1 : ¬ (i : Int) < 40 := by omega
        go_wp2_with fail
        go_loopw [79] (fun vj wr => ∃ (j : Nat) (wks : List Wk) (LF : List UInt8 → List (Nat × Nat)) (s : Dk.Dsk), vj = .int .i64 j ∧ j ≤ 4 ∧ Hid (TidS (40 + j) i wks LF s G ∧ ∀ (x : Nat) (wk : Wk), wks[x]? = some wk → 4 ≤ x + j → wk.1 = []) ∧ Hid (Stand (LD tB kB l d s ⟨wks, 0, G⟩) w wr [])) (fun vj _ => 4 - (intOf vj).toNat)
        case atStart => exact ⟨0, wks, LF, s, rfl, by decide, ⟨HT.out.more (by omega), fun x wk hx h4 => by
          have := (List.getElem?_eq_some_iff.1 hx).1
          rw [HT.out.four] at this
          omega⟩, HS⟩
        case round =>
          clear HS HT
          obtain ⟨j, wks, LF, s, rfl, hj4, HT, HS⟩ := hrel
          by_cases hj : j < 4
          · have hjI : (j : Int) < 4 := by omega
            obtain ⟨y, hy⟩ : ∃ y, 3 - j = y := ⟨_, rfl⟩
            have f1 : IntKind.i64.wrap (3 - (j : Int)) = (y : Int) := by rw [wrap_small _ (by omega) (by omega)]; omega
            have hy4 : y < wks.length := by rw [HT.out.1.four]; omega
            have hwk : wks[y]? = some wks[y] := List.getElem?_eq_getElem hy4
            have HFl : Hid (Calls Tryz.prog 16 #[.pointer (some ⟨l, 0, none⟩), .int .i64 (y : Int)] wr fun e w' => e = .returned (.int .i64 0) ∧ ∃ s2 : Dk.Dsk, Hid (TidS (40 + j + 1) i (wks.set y ([], wks[y].2)) (updF LF (logB y G).data.toList (LF (logB y G).data.toList ++ wks[y].1)) s2 G) ∧ Hid (Stand (LD tB kB l d s2 ⟨wks.set y ([], wks[y].2), 0, G⟩) w w' [])) := by
              obtain ⟨F, hF, kF⟩ := HS.out.any
              have hG := HT.out.1.gen
              have hfl := (HT.out.1.file (logB y G).data.toList).1
              have hwl := HT.out.1.wait hwk
              have hfew := HT.out.1.few
              refine (cFlush hF HT.out.1.q y wks[y] hwk (by omega) (show G < 100 by omega) (by decide) (by decide) (show (LF (logB y G).data.toList).length + wks[y].1.length ≤ 1000 by omega) (by omega)).mono ?_
              rintro e w' ⟨e1, s2, q1, q2, q3, hg⟩
              exact ⟨e1, s2, HT.out.1.flush hwk _ (logK_at (show y < 10 by omega) (show G < 100 by omega)).1 q1 q2 q3, kF _ _ hg⟩
            have HE : Hid (∀ (x : Nat) (wk : Wk), (wks.set y ([], wks[y].2))[x]? = some wk → 4 ≤ x + (j + 1) → wk.1 = []) := fun x wk hx h4 => by
              rw [List.getElem?_set] at hx
              by_cases hxy : y = x
              · rw [if_pos hxy, if_pos hy4] at hx
                cases hx
                rfl
              · rw [if_neg hxy] at hx
                exact HT.out.2 x wk hx (by omega)
            generalize hW2 : wks.set y ([], wks[y].2) = W2 at HFl HE
            generalize hL2 : updF LF (logB y G).data.toList (LF (logB y G).data.toList ++ wks[y].1) = L2 at HFl
            clear hwk hW2 hL2
            go_wp2_with (go_at_call 16; (with_reducible refine HFl.out.mono ?_); rintro e w6 ⟨rfl, s6, T6, S6⟩)
            exact ⟨⟨j + 1, W2, L2, s6, by go_num, by omega, ⟨T6.out, HE.out⟩, S6⟩, by simp [intOf]; omega⟩
          · obtain rfl : j = 4 := by omega
            have HAll : Hid (∀ wk ∈ wks, wk.1 = []) := fun wk hwk => by
              obtain ⟨x, hx, rfl⟩ := List.getElem_of_mem hwk
              exact HT.out.2 x _ (List.getElem?_eq_getElem hx) (by omega)
            have HM : Hid (Calls Tryz.prog 17 #[.pointer (some ⟨l, 0, none⟩), .int .i64 100] wr fun e w' => e = .returned (.int .i64 0) ∧ ∃ s2 : Dk.Dsk, Hid (QDisk s2 tB kB LF [100] ∧ Dk.keysL s2.fs = Dk.insN epochB.data.toList (Dk.keysL s.fs)) ∧ Hid (Stand (DiskI d s2) w w' [])) := by
              obtain ⟨F, hF, kF⟩ := HS.out.any
              have hfew := HT.out.1.few
              refine (cMark hF HT.out.1.q 100 (show 0 < 100 by decide) (by decide) HAll.out (by decide) (by omega)).mono ?_
              rintro e w' ⟨e1, s2, p1, p2, p3, hg⟩
              exact ⟨e1, s2, ⟨p1, p3⟩, (kF _ _ hg).forget0⟩
            go_wp2_with fail
            refine HM.out.mono ?_
            rintro e w5 ⟨rfl, s5, Q5, S5⟩
            clear HM
            have HLd : Hid (Calls Tryz.prog 19 #[.pointer (some ⟨d, 0, none⟩)] w5 fun e w' => ∃ A c, e = .returned (.tuple #[.slice A i c, .int .i64 100, .int .i64 0]) ∧ Hid (∀ u j, Below w'.heap.size w' u → j < i → ∃ g g1 x1, A = some ⟨g, 0, none⟩ ∧ i ≤ c ∧ c ≤ 9223372036854775807 ∧ u.cell? ⟨g, j * 2 + 1, none⟩ = some (.slice (some ⟨g1, 0, none⟩) 1 1) ∧ u.cell? ⟨g1, 3, none⟩ = some (.slice (some ⟨x1, 0, none⟩) 1 1) ∧ u.cell? ⟨x1, 1, none⟩ = some (.int .i64 (j : Int))) ∧ Hid (Below w.heap.size w w')) := by
              obtain ⟨F, hF, _⟩ := S5.out.any
              have hp : (allE 100 LF (Dk.keysL s5.fs)).Perm ((List.range i).map entT) := by
                rw [Q5.out.2]
                refine (allE_all HT.out.1.logs (fun q hq p hp => ?_)).trans ?_
                · obtain ⟨j, hj, rfl⟩ := (HT.out.1.file q).2 p hp
                  rw [(@tidT_ok j (by omega)).2]
                  unfold epT
                  omega
                · have h1 := HT.out.1.all
                  have h2 : waitT wks = [] := by
                    unfold waitT
                    rw [List.flatMap_eq_nil_iff]
                    exact HAll.out
                  rw [h2, List.append_nil] at h1
                  exact h1
              have hfine : Fine LF [100] := ⟨fun f => ⟨by have := (HT.out.1.file f).1; omega, fun p hp => by
                obtain ⟨j, hj, rfl⟩ := (HT.out.1.file f).2 p hp
                exact ⟨(@tidT_ok j (by omega)).1, show j < _ by omega⟩⟩, (fun j hj => by
                match j, hj with
                | 0, _ => exact (by decide : 0 < 100)), (fun e he => by
                simp at he
                omega), by decide⟩
              have hmany : ManyOk (allE (lastE [100]) LF (Dk.keysL s5.fs)) := by
                refine Or.inr ⟨?_, ?_⟩
                · show (allE 100 LF (Dk.keysL s5.fs)).length ≤ 40
                  rw [hp.length_eq, List.length_map, List.length_range]
                  exact hi40
                · show ((allE 100 LF (Dk.keysL s5.fs)).map (·.1)).Nodup
                  exact (hp.map (·.1)).nodup_iff.2 (rangeT_nodup i)
              refine (cLoad40 hF Q5.out.1 hfine (by decide) (by decide) hmany).mono ?_
              rintro e w' ⟨v, e1, R, hE, hR, hB⟩
              have hR' : R.map Er.tn = allE 100 LF (Dk.keysL s5.fs) := hR.out
              obtain ⟨z1, z2, z3⟩ := sortE_facts R
              have hS : (sortE R).map Er.tn = (List.range i).map entT := by
                refine sorted_same ((z2.map _).trans (hR' ▸ hp)) ?_ (rangeT_sorted i) ?_
                · rw [List.pairwise_map]
                  exact z3
                · intro a ha b hb
                  have hp2 : ((sortE R).map Er.tn).Perm ((List.range i).map entT) := (z2.map _).trans (hR' ▸ hp)
                  exact rangeT_inj i a (hp2.mem_iff.1 ha) b (hp2.mem_iff.1 hb)
              have hlen : (sortE R).length = i := by
                have := congrArg List.length hS
                rw [List.length_map, List.length_map, List.length_range] at this
                exact this
              obtain ⟨A, c, rfl⟩ := row_shapeJ hE.out.row
              rw [hlen] at e1
              refine ⟨A, c, e1, fun u j hu hj => ?_, S5.out.base.trans (hB.out.mono S5.out.base.size)⟩
              have hE2 := hE.out.below hu
              have hje : j < (sortE R).length := by omega
              obtain ⟨g, rfl, hc1, hc2⟩ := row_someJ hE2.row (by omega)
              obtain ⟨k1, k2, _⟩ := hE2.ent (sortE R)[j] (List.getElem_mem hje)
              have hn : (sortE R)[j].n = j := by
                have h1 : ((sortE R).map Er.tn)[j]'(by rw [List.length_map]; exact hje) = ((List.range i).map entT)[j]'(by rw [List.length_map, List.length_range]; exact hj) := by simp only [hS]
                rw [List.getElem_map, List.getElem_map, List.getElem_range] at h1
                exact congrArg Prod.snd h1
              refine ⟨g, (sortE R)[j].g, (sortE R)[j].x, rfl, by omega, hc2, ?_, by rw [cell_of k1]; rfl, by rw [k2.2.2.1, hn]⟩
              have h3 := flat_get enE_len (sortE R) j hje 1 (by decide)
              have h4 := World.ownsRow.cells hE2.row (g := g) rfl (2 * j + 1) _ (by rw [h3]; rfl)
              rw [Addr.add_lit, Nat.zero_add, Nat.mul_comm] at h4
              exact h4
            go_wp2_with fail
            refine HLd.out.mono ?_
            rintro e w7 ⟨A, c, rfl, HEl, HB7⟩
            clear HLd S5 Q5 HT HS HAll
            go_wp2_with fail
            go_loopw [111] (fun vj wr => ∃ j : Nat, vj = .int .i64 j ∧ j ≤ i ∧ Hid (Below w7.heap.size w7 wr)) (fun vj _ => i - (intOf vj).toNat)
            case atStart => exact ⟨0, rfl, Nat.zero_le _, Below.refl _ _⟩
            case round =>
              obtain ⟨j, rfl, hji, HBr⟩ := hrel
              by_cases hjl : j < i
              · have hjI : (j : Int) < (i : Int) := by omega
                obtain ⟨g, g1, x1, rfl, e1, e2, c1, c2, c3⟩ := HEl.out wr j HBr.out hjl
                go_wp2_with fail
                exact ⟨⟨j + 1, by go_num, by omega, HBr⟩, by simp [intOf]; omega⟩
              · obtain rfl : j = i := by omega
                have hjI : ¬ (j : Int) < (j : Int) := by omega
                go_wp2_with fail
                go_ret
                exact ⟨rfl, HB7.out.trans (HBr.out.mono HB7.out.size)⟩
end Go.Proofs.YtigegdelhpdlhaaGreatDoor

/- How layer 18's laws read their arguments, and what is laid in the package-level variables. -/
namespace Go.Proofs.YtigegdelhpdlhaaGreatDoor
open Go.ChangeShapes Go.WideShapes Go.ChangeAt Go.RowKit

abbrev IntsAt (w : World) (v : Value) (L : List Int) : Prop := SliceAt w v 1 (fun x : Int => [Value.int .i64 x]) L
theorem own : ownKnob Tryz.prog.godebug = none := by kernel_rfl
theorem laidOut : laidOutB Tryz.prog = true := by kernel_rfl

theorem ints_of {H : Type} {ec : TypeId × Value → H} {W : World} {fuel : Nat} {v : Value} {x : DataW H × List MemPlace} (hf : DataW.trod ec Tryz.prog W 0 (fun _ => true) true fuel 26 [v] = some x) (hw : ∀ n ∈ x.1.weights Tryz.prog 26, n ≤ reachBytes) :
    ∃ L : List Int, IntsAt W v L ∧ ∀ x ∈ L, -9223372036854775808 ≤ x ∧ x ≤ 9223372036854775807 := by
  refine open_rows Tryz.underlying26 (by kernel_rfl) (by omega) hf hw (fun x : Int => [Value.int .i64 x]) _ (fun m cs y _ ht _ => ?_)
  obtain ⟨a, e0, _, wb⟩ := DataW.trod_int Tryz.underlying3 ht
  have h1 : IntKind.i64.min ≤ a ∧ a ≤ IntKind.i64.max := by simpa [Lit.wf] using wb
  have h2 : IntKind.i64.min = -9223372036854775808 := by decide
  have h3 : IntKind.i64.max = 9223372036854775807 := by decide
  exact ⟨a, e0.symm, by omega⟩

end Go.Proofs.YtigegdelhpdlhaaGreatDoor
