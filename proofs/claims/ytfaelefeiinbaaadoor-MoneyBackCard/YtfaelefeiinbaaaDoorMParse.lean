/- Layer 22: the program's Parse. -/
import Derived.Test.YtfaelefeiinbaaaDoorMTextC
import Derived.Test.YtfaelefeiinbaaaDoorMLaid
import Derived.BigRegion
import Derived.Deep.DeepMust
namespace Go.Proofs.YtfaelefeiinbaaaDoor
open Go.RowKit MP

theorem var_below {w w' : World} {n : String} {cs : Array Value} (h : w.var? Tryd.prog n = some cs) (hb : Below w.heap.size w w') : w'.var? Tryd.prog n = some cs := by
  unfold World.var? at h ⊢
  cases hg : Tryd.prog.globalNamed n with
  | none => simp [hg] at h
  | some g =>
    simp only [hg, Option.bind_some] at h ⊢
    have hlt : g < w.heap.size := by
      rcases Nat.lt_or_ge g w.heap.size with h' | h'
      · exact h'
      · simp [Array.getElem?_eq_none h'] at h
    rw [hb.block g hlt]
    exact h
theorem Tab.below {w w' : World} (h : Tab w) (hb : Below w.heap.size w w') : Tab w' := var_below h hb
theorem Errs.below {w w' : World} (h : Errs w) (hb : Below w.heap.size w w') : Errs w' := by
  obtain ⟨tp, p, h⟩ := h
  exact ⟨tp, p, var_below h hb⟩

/-- Atoi of a short text -/
theorem atoi_yes (s : ByteArray) (hs : s.size ≤ 18) (v : Int) (h : Lib.atoi s.data.toList = some v) (w : World) : Calls Tryd.prog 30 #[.string s] w fun e w' => e = .returned (.tuple #[.int .i64 v, .nilIface]) ∧ Below w.heap.size w w' := by
  have hl : s.data.toList.length ≤ 18 := by simpa using hs
  refine (Any.strconv_Atoi_ok Tryd.laysAtoi s (by omega) v (by rw [Lib.atoiAll_short _ hl, h]; rfl) w).mono fun e w' hh => ⟨hh.1, ?_⟩
  rcases hh.2 with rfl | ⟨t, rfl⟩
  · exact Below.refl _ _
  · exact Lib.bytesWorld_below _ _ _
theorem atoi_no (s : ByteArray) (hs : s.size ≤ 18) (h : Lib.atoi s.data.toList = none) (w : World) (he : Errs w) : Calls Tryd.prog 30 #[.string s] w fun e w' => ∃ t p, e = .returned (.tuple #[.int .i64 0, .iface t (.pointer (some p))]) ∧ Below w.heap.size w w' := by
  have hl : s.data.toList.length ≤ 18 := by simpa using hs
  obtain ⟨tp, p, hv⟩ := he
  refine (Any.strconv_Atoi_syntax_var Tryd.laysAtoi s (by omega) (by rw [Lib.atoiAll_short _ hl, h]; rfl) tp p w hv).mono fun e w' hh => ?_
  obtain ⟨N, h1, h2, h3, h4⟩ := hh
  exact ⟨_, _, h1, h4⟩

abbrev bl (s : ByteArray) : List UInt8 := s.data.toList
theorem bl_size (s : ByteArray) : (bl s).length = s.size := Array.length_toList
theorem ofL_bl (s : ByteArray) : ofL (bl s) = s := by
  apply ByteArray.ext
  simp
theorem bl_ofL (l : List UInt8) : bl (ofL l) = l := rfl
theorem bl_part (s : ByteArray) (i j : Nat) : bl (s.extract i j) = ((bl s).take j).drop i := by
  unfold bl
  rw [ByteArray.data_extract, Array.toList_extract, List.extract_eq_take_drop]
  rw [List.take_drop]
  by_cases h : i ≤ j
  · rw [show i + (j - i) = j by omega]
  · rw [show i + (j - i) = i by omega, List.drop_of_length_le (by simp; omega), List.drop_of_length_le (by simp; omega)]
theorem bl_join (a b : ByteArray) : bl (a ++ b) = bl a ++ bl b := by
  unfold bl
  rw [ByteArray.data_append, Array.toList_append]
theorem cut_join (s : ByteArray) : bl (s.extract 0 (s.size - 3) ++ s.extract (s.size - 2) s.size) = cut (bl s) := by
  unfold cut
  rw [bl_join, bl_part, bl_part, bl_size, List.drop_zero, List.take_of_length_le (l := bl s) (i := s.size) (by rw [bl_size]; omega)]

theorem read_no {s : List UInt8} (h : reads s = false) : readN s = 0 ∧ readE s = 3 := by
  unfold readN readE
  rw [h]
  exact ⟨rfl, rfl⟩
theorem read_yes {s : List UInt8} (h : reads s = true) : readN s = told s ∧ readE s = 0 := by
  unfold readN readE
  rw [h]
  exact ⟨rfl, rfl⟩

set_option maxRecDepth 100000 in
set_option maxHeartbeats 1000000 in
theorem Parse_any (s : ByteArray) (hz : s.size ≤ 140737488351232) (w : World) (ht : Tab w) (he : Errs w) : Calls Tryd.prog 11 #[.string s] w fun e w' => e = .returned (.tuple #[.int .i64 (readN (bl s)), .int .i64 (readE (bl s))]) ∧ Below w.heap.size w w' := by
  have ws : IntKind.i64.wrap ((s.size : Int) - 3) = (s.size : Int) - 3 := wrapI (by omega) (by omega)
  by_cases h3 : s.size < 3
  · obtain ⟨e1, e2⟩ := read_no (reads_short (s := bl s) (Or.inl (by rw [bl_size]; exact h3)))
    rw [e1, e2]
    have hI : (s.size : Int) - 3 < 0 := by omega
    have hd : decide ((s.size : Int) - 3 < 0) = true := decide_eq_true hI
    clear e1 e2 ht he
    go_enter Tryd.func11, Tryd.ntmps11
    go_wp2_with fail
    go_ret2
    exact ⟨rfl, Below.refl _ _⟩
  · by_cases h18 : 18 < s.size
    · obtain ⟨e1, e2⟩ := read_no (reads_short (s := bl s) (Or.inr (by rw [bl_size]; exact h18)))
      rw [e1, e2]
      have hI : ¬ (s.size : Int) - 3 < 0 := by omega
      have hd : decide ((s.size : Int) - 3 < 0) = false := decide_eq_false hI
      have hI2 : 18 < (s.size : Int) := by omega
      have hd2 : decide (18 < (s.size : Int)) = true := decide_eq_true hI2
      clear e1 e2 ht he
      go_enter Tryd.func11, Tryd.ntmps11
      go_wp2_with fail
      go_ret2
      exact ⟨rfl, Below.refl _ _⟩
    · have hI : ¬ (s.size : Int) - 3 < 0 := by omega
      have hd : decide ((s.size : Int) - 3 < 0) = false := decide_eq_false hI
      have hI2 : ¬ 18 < (s.size : Int) := by omega
      have hd2 : decide (18 < (s.size : Int)) = false := decide_eq_false hI2
      have w4 : IntKind.i64.wrap ((s.size : Int) - 3 + 1) = (s.size : Int) - 3 + 1 := wrapI (by omega) (by omega)
      have hcut := cut_join s
      obtain ⟨A, eA⟩ : ∃ A, s.extract 0 (s.size - 3) = A := ⟨_, rfl⟩
      obtain ⟨B, eB⟩ : ∃ A, s.extract (s.size - 2) s.size = A := ⟨_, rfl⟩
      rw [eA, eB] at hcut
      have hsl1 : ∀ W, (Instr.slice 9 (.string s) none (some (.int .i64 ((s.size : Int) - 3))) none).run Tryd.prog W = .ok (.string A) W := fun W => by
        rw [run_slice_string_h (P := Tryd.prog) W 9 s Tryd.underlying9 .i64 ((s.size : Int) - 3) (by omega) (by omega)]
        rw [show ((s.size : Int) - 3).toNat = s.size - 3 by omega, eA]
      have hsl2 : ∀ W, (Instr.slice 9 (.string s) (some (.int .i64 ((s.size : Int) - 3 + 1))) none none).run Tryd.prog W = .ok (.string B) W := fun W => by
        rw [run_slice_string_l (P := Tryd.prog) W 9 s Tryd.underlying9 .i64 ((s.size : Int) - 3 + 1) (by omega) (by omega)]
        rw [show ((s.size : Int) - 3 + 1).toNat = s.size - 2 by omega, eB]
      have hAB : (A ++ B).size ≤ 18 := by
        rw [← bl_size, hcut, cut_length (by rw [bl_size]; omega), bl_size]; omega
      have zA : A.size ≤ 18 := by rw [ByteArray.size_append] at hAB; omega
      have zB : B.size ≤ 18 := by rw [ByteArray.size_append] at hAB; omega
      cases ha : Lib.atoi (bl (A ++ B)) with
      | none =>
        rw [hcut] at ha
        obtain ⟨e1, e2⟩ := read_no (reads_none ha)
        rw [e1, e2]
        rw [← hcut] at ha
        have HA : Hid (∀ u, Below w.heap.size w u → Calls Tryd.prog 30 #[.string (A ++ B)] u fun e w' => ∃ t p, e = .returned (.tuple #[.int .i64 0, .iface t (.pointer (some p))]) ∧ Below w.heap.size w w') := fun u hu =>
          (atoi_no (A ++ B) hAB ha u (he.below hu)).mono fun e w' hh => by
            obtain ⟨t, p, h1, h2⟩ := hh
            exact ⟨t, p, h1, hu.trans (h2.mono hu.size)⟩
        clear e1 e2 ht he ha hcut hAB eA eB
        go_enter Tryd.func11, Tryd.ntmps11
        go_wp2_with fail
        go_region_with (go_at_call 30; go_must (refine (HA.out _ (below_drewN w 1)).mono ?_; rintro y w3 ⟨tt, pp, rfl, hb3⟩))
        all_goals go_wp2_with fail
        all_goals go_ret2
        all_goals exact ⟨rfl, hb3⟩
      | some v =>
        rw [hcut] at ha
        obtain ⟨hr1, hr2⟩ := reads_some ha
        rw [← hcut] at ha
        have HA : Hid (∀ u, Below w.heap.size w u → Calls Tryd.prog 30 #[.string (A ++ B)] u fun e w' => e = .returned (.tuple #[.int .i64 v, .nilIface]) ∧ Below w.heap.size w w') := fun u hu =>
          (atoi_yes (A ++ B) hAB v ha u).mono fun e w' hh => ⟨hh.1, hu.trans (hh.2.mono hu.size)⟩
        have HT : Hid (∀ u, Below w.heap.size w u → Calls Tryd.prog 9 #[.int .i64 v] u fun e w' => e = .returned (.tuple #[.string (txV v), .int .i64 (txE v)]) ∧ Below w.heap.size w w') := fun u hu =>
          (Text_any v u (Or.inr (ht.below hu))).mono fun e w' hh => ⟨hh.1, hu.trans (hh.2.mono hu.size)⟩
        cases hm : may v with
        | false =>
          rw [hm] at hr1
          obtain ⟨e1, e2⟩ := read_no hr1
          have hE : txE v = 220 := by unfold txE; rw [hm]; rfl
          rw [e1, e2]
          rw [hE] at HT
          obtain ⟨T, eT⟩ : ∃ T, txV v = T := ⟨_, rfl⟩
          rw [eT] at HT
          clear e1 e2 ht he ha hcut hAB eA eB hr1 hr2 hm hE eT
          go_enter Tryd.func11, Tryd.ntmps11
          go_wp2_with fail
          go_region_with (go_at_call 30; go_must (refine (HA.out _ (below_drewN w 1)).mono ?_; rintro y w3 ⟨rfl, hb3⟩))
          all_goals go_wp2_with fail
          all_goals refine (HT.out _ hb3).mono ?_
          all_goals rintro y w4 ⟨rfl, hb4⟩
          all_goals go_wp2_with fail
          all_goals go_ret2
          all_goals exact ⟨rfl, hb4⟩
        | true =>
          rw [hm] at hr1
          have hE : txE v = 0 := by unfold txE; rw [hm]; rfl
          have hV : txV v = ofL (text v) := by unfold txV; rw [hm]; rfl
          rw [hE, hV] at HT
          by_cases hs : text v = bl s
          · have hr : reads (bl s) = true := by rw [hr1]; simp [hs]
            obtain ⟨e1, e2⟩ := read_yes hr
            rw [e1, e2, hr2 hr]
            rw [hs, ofL_bl] at HT
            clear e1 e2 ht he ha hcut hAB eA eB hr1 hr2 hm hE hV hs hr
            go_enter Tryd.func11, Tryd.ntmps11
            go_wp2_with fail
            go_region_with (go_at_call 30; go_must (refine (HA.out _ (below_drewN w 1)).mono ?_; rintro y w3 ⟨rfl, hb3⟩))
            all_goals go_wp2_with fail
            all_goals refine (HT.out _ hb3).mono ?_
            all_goals rintro y w4 ⟨rfl, hb4⟩
            all_goals go_wp2_with fail
            all_goals go_ret2
            all_goals exact ⟨rfl, hb4⟩
          · have hr : reads (bl s) = false := by rw [hr1]; simp [hs]
            obtain ⟨e1, e2⟩ := read_no hr
            rw [e1, e2]
            obtain ⟨T, eT⟩ : ∃ T, ofL (text v) = T := ⟨_, rfl⟩
            have hne : ¬ T = s := by
              rw [← eT]
              intro h
              exact hs (by rw [← h])
            have hne3 : ¬ T.toList = s.toList := by
              rw [Go.ByteArray.toList_eq, Go.ByteArray.toList_eq]
              exact fun h => hne (ByteArray.ext (Array.ext' h))
            have hne2 : (T.toList == s.toList) = false := beq_eq_false_iff_ne.2 hne3
            rw [eT] at HT
            clear e1 e2 ht he ha hcut hAB eA eB hr1 hr2 hm hE hV hs hr eT hne hne3
            go_enter Tryd.func11, Tryd.ntmps11
            go_wp2_with fail
            go_region_with (go_at_call 30; go_must (refine (HA.out _ (below_drewN w 1)).mono ?_; rintro y w3 ⟨rfl, hb3⟩))
            all_goals go_wp2_with fail
            all_goals refine (HT.out _ hb3).mono ?_
            all_goals rintro y w4 ⟨rfl, hb4⟩
            all_goals go_wp2_with fail
            all_goals go_ret2
            all_goals exact ⟨rfl, hb4⟩
end Go.Proofs.YtfaelefeiinbaaaDoor
