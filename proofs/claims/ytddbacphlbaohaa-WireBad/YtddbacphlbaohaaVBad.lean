/- The law WireBad: its walk, for readers that keep their contracts (written by vbad.py). -/
import Derived.Test.YtddbacphlbaohaaVCuts
namespace Go.Proofs.Ytddbacphlbaohaa
namespace BadL
open Go.RowKit

set_option maxRecDepth 100000 in
set_option maxHeartbeats 2000000 in
theorem walk000 (K : Kit) (v0 : Value) (L : List ByteArray) (n : Nat) (Z : ByteArray) (w : World) (hL : SliceAt w v0 1 strOne L) (hn : n < 4294967296) (hA : L.length ≤ 10) (hB : n < 65537) (hC : Z.size ≤ 1000) :
    Calls Try.prog 5 #[v0, .int .u32 (n : Int), .string Z] w fun e w' => e = .returned (.bool true) ∧ Below w.heap.size w w' := by
  obtain ⟨a, c, rfl, hx⟩ := slice_open hL
  have HX : Hid (L ≠ [] → ∃ b off, a = some ⟨b, off, none⟩ ∧ b < w.heap.size ∧ ∀ i, (h : i < L.length) → w.cell? ⟨b, off + i, none⟩ = some (.string L[i])) := hx
  obtain ⟨m, hm⟩ : ∃ m, L.length = m := ⟨_, rfl⟩
  have HM : Hid (L.length = m) := hm
  rw [hm] at hA
  rw [hm]
  have HN : Hid (Calls Try.prog 7 #[] w fun e w' => ∃ g F, e = .returned (.pointer (some ⟨g, 0, none⟩)) ∧ On K g ⟨[], false⟩ w w' F ∧ (∀ i, F i → w.heap.size ≤ i) ∧ Below w.heap.size w w') := kit_new K w w (Below.refl _ _)
  clear hm hx hL
  go_enter Try.func5, Try.ntmps5
  go_wp2_with (go_at_call 7; go_must (refine HN.out.mono ?_))
  rintro e w1 ⟨g, F, rfl, hO, -, -⟩
  have HO : Hid (On K g ⟨[], false⟩ w w1 F) := hO
  clear hO
  go_wp2_with (go_at_call 16; go_must (refine (works7_any K _).mono ?_; rintro e w2 ⟨rfl, hw2⟩))
  go_loopw [8, 9, 10] (fun al wn i wr => ∃ (j : Nat) (T : List (List UInt8)) (F : Nat → Prop), j ≤ m ∧ i = .int .i64 j ∧ al = .string (bytesOf (packets T)) ∧ T.length ≤ j ∧ Hid (∀ s ∈ T, s.length ≤ 2000) ∧ OwnT wr w.heap.size wn T ∧ Apart F wn ∧ On K g ⟨[], false⟩ w wr F) (fun _ _ i _ => m - (intOf i).toNat)
  case atStart => exact ⟨0, [], F, Nat.zero_le _, rfl, rfl, Nat.le_refl _, (fun s hs => (by cases hs) : ∀ s ∈ ([] : List (List UInt8)), s.length ≤ 2000), World.ownsRow_nil _ _ _ _, Apart.nil _, HO.out.stays hw2⟩
  case round =>
    obtain ⟨j, T, F, hj, rfl, rfl, hT, HT, hW, hAp, hO⟩ := hrel
    obtain ⟨A, hAA⟩ : ∃ A, bytesOf (packets T) = A := ⟨_, rfl⟩
    have HA : Hid (bytesOf (packets T) = A) := hAA
    have hAs : A.size ≤ 20040 := by
      have h1 := packets_le T HT.out
      have h2 : A.size = (packets T).length := by rw [← hAA]; rfl
      omega
    rw [hAA]
    have HO1 : Hid (On K g ⟨[], false⟩ w wr F) := hO
    have HW : Hid (OwnT wr w.heap.size u9 T) := hW
    have HAp : Hid (Apart F u9) := hAp
    have hsz1 : w.heap.size ≤ wr.heap.size := hO.below.size
    clear hAA hO hW hAp HO
    by_cases hlt : j < m
    · have hlm : j < m := by omega
      have hlL : j < L.length := by rw [HM.out]; exact hlm
      obtain ⟨b, off, rfl, hbl, hcells⟩ := HX.out (fun e => by rw [e] at hlL; simp at hlL)
      obtain ⟨s, hs⟩ : ∃ s, L[j] = s := ⟨_, rfl⟩
      have HQ : Hid (∀ u : World, Below w.heap.size w u → u.cell? ⟨b, off + j, none⟩ = some (.string s)) := fun u hu => by
        rw [hu.cell (p := ⟨b, off + j, none⟩) hbl, hcells j hlL, hs]
      have qc := HQ.out wr HO1.out.below
      have hlI : (j : Int) < (m : Int) := by omega
      have h10I : (j : Int) < 10 := by omega
      clear hcells hs hlL hbl
      by_cases hl : 2000 < s.size
      · have hl' : (2000 : Int) < (s.size : Int) := by omega
        go_wp2_with fail
        go_roundw
        case rel => exact ⟨j + 1, T, F, by omega, by go_num, by rw [HA.out], by omega, HT, HW.out, HAp.out, HO1.out⟩
        case measure => simp [intOf]; omega
      · have hl' : ¬ ((2000 : Int) < (s.size : Int)) := by omega
        obtain ⟨P, hP⟩ : ∃ P, packS s = P := ⟨_, rfl⟩
        have hP2 : P = bytesOf (packet s.data.toList) := by rw [← hP]; exact (pack_short s (by omega)).1
        have hPs : P.size ≤ 2004 := by
          rw [hP2, bytesOf_size, packet_len]
          show 4 + s.size ≤ _
          omega
        have HPk : Hid (∀ u : World, Calls Try.prog 14 #[.string s] u fun e w' => e = .returned (.tuple #[.string P, .int .i64 0]) ∧ Below u.heap.size u w') := fun u => by
          have h := K.packet s u
          rw [hP, (pack_short s (by omega)).2] at h
          exact h
        have HA2 : Hid (bytesOf (packets (T ++ [s.data.toList])) = A ++ P) := (by rw [packets_snoc, ← HA.out, app_of, hP2]; rfl : _ = _)
        have HT2 : Hid (∀ t ∈ T ++ [s.data.toList], t.length ≤ 2000) := fun t ht => by
          rcases List.mem_append.1 ht with h | h
          · exact HT.out t h
          · rw [List.mem_singleton.1 h]
            show s.size ≤ 2000
            omega
        clear hP hP2
        go_wp2_with (first
          | (go_at_call 14; go_must (refine (HPk.out _).mono ?_; rintro e w3 ⟨rfl, hw3⟩); have HO3 : Hid (On K g ⟨[], false⟩ w w3 F) := HO1.out.stays hw3; have HW3 : Hid (OwnT w3 w.heap.size u9 T) := HW.out.kept hw3; have qc3 := HQ.out w3 HO3.out.below; have hsz3 : w.heap.size ≤ w3.heap.size := HO3.out.below.size; clear hw3)
          | (at_builtin; go_must (refine wpList_texts rfl _ _ rfl w.heap.size 0 u9 (.slice (some ⟨w3.heap.size, 0, none⟩) 1 1) T [s.data.toList] _ rfl (HW3.out.kept ((Below.refl _ _).alloc (Nat.le_refl _) _)) rfl (RowS.one w3 s) (by simp; omega) (by simp; omega) ?_)))
        intro v' w4 hown4 hgrow4 hat4
        have ⟨hO4, hA4⟩ := (HO3.out.stays ((Below.refl _ _).alloc (Nat.le_refl _) _)).grow (HW3.out.kept ((Below.refl _ _).alloc (Nat.le_refl _) _)) HAp.out hgrow4 (v' := v') hat4 (by simp)
        have H4 : Hid (OwnT w4 w.heap.size v' (T ++ [s.data.toList]) ∧ On K g ⟨[], false⟩ w w4 F ∧ Apart F v') := ⟨hown4, hO4, hA4⟩
        clear hown4 hgrow4 hat4 hO4 hA4
        go_wp2_with fail
        go_roundw
        case rel => exact ⟨j + 1, T ++ [s.data.toList], F, by omega, by go_num, by rw [HA2.out], by simp; omega, HT2, H4.out.1, H4.out.2.2, H4.out.2.1⟩
        case measure => simp [intOf]; omega
    · have h1I : ¬ ((j : Int) < (m : Int)) := by omega
      have HTL : Hid (T.length ≤ 10) := (by omega : T.length ≤ 10)
      have hmx : (n : Int) < 65537 := by omega
      obtain ⟨P4, hP4⟩ : ∃ P4, strOfNums [0, 1, 0, 1] = P4 := ⟨_, rfl⟩
      have hc := convert4 wr 0 1 0 1
      rw [hP4] at hc
      have hP4' : P4 = bytesOf (pk4 65537) := by rw [← hP4]; rfl
      have hP4s : P4.size = 4 := by rw [hP4']; rfl
      have hZ : ¬ ((1000 : Int) < (Z.size : Int)) := by omega
      have hzl : Z.size ≤ 1000 := hC
      have HAL : Hid ((A ++ P4 ++ Z).data.toList = packets T ++ (pk4 65537 ++ (Z).data.toList)) := (by
        rw [app_list, app_list, ← HA.out, hP4', bytesOf_list, bytesOf_list, List.append_assoc] : _ = _)
      have hcut : cut (packets T ++ (pk4 65537 ++ (Z).data.toList)) = ⟨T, [], true⟩ := by
        rw [cut_packets _ T (fun s hs => Nat.le_trans (HT.out s hs) (by decide)), cut_great (by rw [List.length_append, pk4_len]; omega) (by rw [be4_pk4 (by omega)]; omega)]
        simp
      have hfb := Behind.new.feedBad (b := packets T ++ (pk4 65537 ++ (Z).data.toList)) (by
        rw [List.length_append, List.length_append, pk4_len]
        have h1 := packets_le T HT.out
        have h2 := HTL.out
        have h3 : (Z).data.toList.length = (Z).size := rfl
        omega) (by rw [List.nil_append, hcut])
      rw [List.nil_append, hcut, show cut [] = ⟨[], [], false⟩ from rfl, List.nil_append] at hfb
      have HO2 : On K g ⟨[], false⟩ w (wr.alloc (.cells #[.int .u8 0, .int .u8 1, .int .u8 0, .int .u8 1] 5)) F := HO1.out.stays ((Below.refl _ _).alloc (Nat.le_refl _) _)
      have HW2 : OwnT (wr.alloc (.cells #[.int .u8 0, .int .u8 1, .int .u8 0, .int .u8 1] 5)) w.heap.size u9 T := HW.out.kept ((Below.refl _ _).alloc (Nat.le_refl _) _)
      have HD : Hid (Calls Try.prog 9 #[.pointer (some ⟨g, 0, none⟩), .string (A ++ P4 ++ Z)] (wr.alloc (.cells #[.int .u8 0, .int .u8 1, .int .u8 0, .int .u8 1] 5)) fun e w' => ∃ v F', e = .returned (.tuple #[v, .int .i64 70]) ∧ StrsAt w' v T ∧ StrsAt w' u9 T ∧ On K g ⟨[], true⟩ w w' F') := (HO2.feed (A ++ P4 ++ Z)).mono fun e w' ⟨v, F', h1, h2, h3, h4, h5, _⟩ => by
        rw [HAL.out, hfb.2.1] at h1
        rw [HAL.out, ← hfb.2.2] at h2
        rw [HAL.out, hfb.1] at h3
        exact ⟨v, F', h1, h2.strs, (HW2.fed HAp.out h4 h5).1.strs, h3⟩
      clear hP4 hP4' hcut hfb HO2 HW2 hlt hT hj
      obtain ⟨P5, hP5⟩ : ∃ P5, packS { data := #[120] } = P5 := ⟨_, rfl⟩
      obtain ⟨E5, hE5⟩ : ∃ E5, packE { data := #[120] } = E5 := ⟨_, rfl⟩
      have HP5 : Hid (∀ u : World, Calls Try.prog 14 #[.string { data := #[120] }] u fun e w' => e = .returned (.tuple #[.string P5, .int .i64 E5]) ∧ Below u.heap.size u w') := fun u => hP5 ▸ hE5 ▸ K.packet { data := #[120] } u
      clear hP5 hE5
      go_wp2_with (go_at_call 9; go_must (refine HD.out.mono ?_))
      rintro e w3 v3 rfl h31 h32 F3 hO3
      have HSm : Hid (Calls Try.prog 11 #[v3, u9] w3 fun e w' => e = .returned (.bool true) ∧ ∃ n, w' = w3.drewN n) := sameTexts_true v3 u9 T w3 h31 h32
      have HBd : Hid (∀ n, Calls Try.prog 13 #[.pointer (some ⟨g, 0, none⟩)] (w3.drewN n) fun e w' => e = .returned (.bool true) ∧ ∃ k, w' = (w3.drewN n).drewN k) := fun n => (hO3.draws n).bad
      have HLf : Hid (∀ n, Calls Try.prog 12 #[.pointer (some ⟨g, 0, none⟩)] (w3.drewN n) fun e w' => e = .returned (.int .i64 0) ∧ ∃ k, w' = (w3.drewN n).drewN k) := fun n => (hO3.draws n).left
      have HO3 : Hid (On K g ⟨[], true⟩ w w3 F3) := hO3
      clear h31 h32 hO3 HD hc
      go_wp2_with (first
        | (go_at_call 11; go_must (refine HSm.out.mono ?_; rintro e w4 ⟨rfl, n4, rfl⟩))
        | (go_at_call 13; go_must (refine (HBd.out _).mono ?_; rintro e w5 ⟨rfl, n5, rfl⟩))
        | (go_at_call 12; go_must (refine (HLf.out _).mono ?_; rintro e w6 ⟨rfl, n6, rfl⟩))
        | (go_at_call 14; go_must (refine (HP5.out _).mono ?_; rintro e w7 ⟨rfl, hw7⟩)))
      have hO7 : On K g ⟨[], true⟩ w w7 F3 := (HO3.out.draws _).stays hw7
      have HD2 : Hid (Calls Try.prog 9 #[.pointer (some ⟨g, 0, none⟩), .string P5] w7 fun e w' => ∃ a c, e = .returned (.tuple #[.slice a 0 c, .int .i64 70]) ∧ Below w.heap.size w w') := (hO7.feed P5).mono fun e w' ⟨v, F', h1, h2, h3, _⟩ => by
        obtain ⟨a, c, rfl, -, -, -, -⟩ := h2
        exact ⟨a, c, h1, h3.below⟩
      clear hO7 hw7
      go_wp2_with (go_at_call 9; go_must (refine HD2.out.mono ?_; rintro e w8 ⟨a8, c8, rfl, hb8⟩))
      go_ret
      exact ⟨rfl, hb8⟩

set_option maxRecDepth 100000 in
set_option maxHeartbeats 2000000 in
theorem walk001 (K : Kit) (v0 : Value) (L : List ByteArray) (n : Nat) (Z : ByteArray) (w : World) (hL : SliceAt w v0 1 strOne L) (hn : n < 4294967296) (hA : L.length ≤ 10) (hB : n < 65537) (hC : 1000 < Z.size) :
    Calls Try.prog 5 #[v0, .int .u32 (n : Int), .string Z] w fun e w' => e = .returned (.bool true) ∧ Below w.heap.size w w' := by
  obtain ⟨a, c, rfl, hx⟩ := slice_open hL
  have HX : Hid (L ≠ [] → ∃ b off, a = some ⟨b, off, none⟩ ∧ b < w.heap.size ∧ ∀ i, (h : i < L.length) → w.cell? ⟨b, off + i, none⟩ = some (.string L[i])) := hx
  obtain ⟨m, hm⟩ : ∃ m, L.length = m := ⟨_, rfl⟩
  have HM : Hid (L.length = m) := hm
  rw [hm] at hA
  rw [hm]
  have HN : Hid (Calls Try.prog 7 #[] w fun e w' => ∃ g F, e = .returned (.pointer (some ⟨g, 0, none⟩)) ∧ On K g ⟨[], false⟩ w w' F ∧ (∀ i, F i → w.heap.size ≤ i) ∧ Below w.heap.size w w') := kit_new K w w (Below.refl _ _)
  clear hm hx hL
  go_enter Try.func5, Try.ntmps5
  go_wp2_with (go_at_call 7; go_must (refine HN.out.mono ?_))
  rintro e w1 ⟨g, F, rfl, hO, -, -⟩
  have HO : Hid (On K g ⟨[], false⟩ w w1 F) := hO
  clear hO
  go_wp2_with (go_at_call 16; go_must (refine (works7_any K _).mono ?_; rintro e w2 ⟨rfl, hw2⟩))
  go_loopw [8, 9, 10] (fun al wn i wr => ∃ (j : Nat) (T : List (List UInt8)) (F : Nat → Prop), j ≤ m ∧ i = .int .i64 j ∧ al = .string (bytesOf (packets T)) ∧ T.length ≤ j ∧ Hid (∀ s ∈ T, s.length ≤ 2000) ∧ OwnT wr w.heap.size wn T ∧ Apart F wn ∧ On K g ⟨[], false⟩ w wr F) (fun _ _ i _ => m - (intOf i).toNat)
  case atStart => exact ⟨0, [], F, Nat.zero_le _, rfl, rfl, Nat.le_refl _, (fun s hs => (by cases hs) : ∀ s ∈ ([] : List (List UInt8)), s.length ≤ 2000), World.ownsRow_nil _ _ _ _, Apart.nil _, HO.out.stays hw2⟩
  case round =>
    obtain ⟨j, T, F, hj, rfl, rfl, hT, HT, hW, hAp, hO⟩ := hrel
    obtain ⟨A, hAA⟩ : ∃ A, bytesOf (packets T) = A := ⟨_, rfl⟩
    have HA : Hid (bytesOf (packets T) = A) := hAA
    have hAs : A.size ≤ 20040 := by
      have h1 := packets_le T HT.out
      have h2 : A.size = (packets T).length := by rw [← hAA]; rfl
      omega
    rw [hAA]
    have HO1 : Hid (On K g ⟨[], false⟩ w wr F) := hO
    have HW : Hid (OwnT wr w.heap.size u9 T) := hW
    have HAp : Hid (Apart F u9) := hAp
    have hsz1 : w.heap.size ≤ wr.heap.size := hO.below.size
    clear hAA hO hW hAp HO
    by_cases hlt : j < m
    · have hlm : j < m := by omega
      have hlL : j < L.length := by rw [HM.out]; exact hlm
      obtain ⟨b, off, rfl, hbl, hcells⟩ := HX.out (fun e => by rw [e] at hlL; simp at hlL)
      obtain ⟨s, hs⟩ : ∃ s, L[j] = s := ⟨_, rfl⟩
      have HQ : Hid (∀ u : World, Below w.heap.size w u → u.cell? ⟨b, off + j, none⟩ = some (.string s)) := fun u hu => by
        rw [hu.cell (p := ⟨b, off + j, none⟩) hbl, hcells j hlL, hs]
      have qc := HQ.out wr HO1.out.below
      have hlI : (j : Int) < (m : Int) := by omega
      have h10I : (j : Int) < 10 := by omega
      clear hcells hs hlL hbl
      by_cases hl : 2000 < s.size
      · have hl' : (2000 : Int) < (s.size : Int) := by omega
        go_wp2_with fail
        go_roundw
        case rel => exact ⟨j + 1, T, F, by omega, by go_num, by rw [HA.out], by omega, HT, HW.out, HAp.out, HO1.out⟩
        case measure => simp [intOf]; omega
      · have hl' : ¬ ((2000 : Int) < (s.size : Int)) := by omega
        obtain ⟨P, hP⟩ : ∃ P, packS s = P := ⟨_, rfl⟩
        have hP2 : P = bytesOf (packet s.data.toList) := by rw [← hP]; exact (pack_short s (by omega)).1
        have hPs : P.size ≤ 2004 := by
          rw [hP2, bytesOf_size, packet_len]
          show 4 + s.size ≤ _
          omega
        have HPk : Hid (∀ u : World, Calls Try.prog 14 #[.string s] u fun e w' => e = .returned (.tuple #[.string P, .int .i64 0]) ∧ Below u.heap.size u w') := fun u => by
          have h := K.packet s u
          rw [hP, (pack_short s (by omega)).2] at h
          exact h
        have HA2 : Hid (bytesOf (packets (T ++ [s.data.toList])) = A ++ P) := (by rw [packets_snoc, ← HA.out, app_of, hP2]; rfl : _ = _)
        have HT2 : Hid (∀ t ∈ T ++ [s.data.toList], t.length ≤ 2000) := fun t ht => by
          rcases List.mem_append.1 ht with h | h
          · exact HT.out t h
          · rw [List.mem_singleton.1 h]
            show s.size ≤ 2000
            omega
        clear hP hP2
        go_wp2_with (first
          | (go_at_call 14; go_must (refine (HPk.out _).mono ?_; rintro e w3 ⟨rfl, hw3⟩); have HO3 : Hid (On K g ⟨[], false⟩ w w3 F) := HO1.out.stays hw3; have HW3 : Hid (OwnT w3 w.heap.size u9 T) := HW.out.kept hw3; have qc3 := HQ.out w3 HO3.out.below; have hsz3 : w.heap.size ≤ w3.heap.size := HO3.out.below.size; clear hw3)
          | (at_builtin; go_must (refine wpList_texts rfl _ _ rfl w.heap.size 0 u9 (.slice (some ⟨w3.heap.size, 0, none⟩) 1 1) T [s.data.toList] _ rfl (HW3.out.kept ((Below.refl _ _).alloc (Nat.le_refl _) _)) rfl (RowS.one w3 s) (by simp; omega) (by simp; omega) ?_)))
        intro v' w4 hown4 hgrow4 hat4
        have ⟨hO4, hA4⟩ := (HO3.out.stays ((Below.refl _ _).alloc (Nat.le_refl _) _)).grow (HW3.out.kept ((Below.refl _ _).alloc (Nat.le_refl _) _)) HAp.out hgrow4 (v' := v') hat4 (by simp)
        have H4 : Hid (OwnT w4 w.heap.size v' (T ++ [s.data.toList]) ∧ On K g ⟨[], false⟩ w w4 F ∧ Apart F v') := ⟨hown4, hO4, hA4⟩
        clear hown4 hgrow4 hat4 hO4 hA4
        go_wp2_with fail
        go_roundw
        case rel => exact ⟨j + 1, T ++ [s.data.toList], F, by omega, by go_num, by rw [HA2.out], by simp; omega, HT2, H4.out.1, H4.out.2.2, H4.out.2.1⟩
        case measure => simp [intOf]; omega
    · have h1I : ¬ ((j : Int) < (m : Int)) := by omega
      have HTL : Hid (T.length ≤ 10) := (by omega : T.length ≤ 10)
      have hmx : (n : Int) < 65537 := by omega
      obtain ⟨P4, hP4⟩ : ∃ P4, strOfNums [0, 1, 0, 1] = P4 := ⟨_, rfl⟩
      have hc := convert4 wr 0 1 0 1
      rw [hP4] at hc
      have hP4' : P4 = bytesOf (pk4 65537) := by rw [← hP4]; rfl
      have hP4s : P4.size = 4 := by rw [hP4']; rfl
      have hZ : (1000 : Int) < (Z.size : Int) := by omega
      have hzl : (Z.extract 0 1000).size ≤ 1000 := by rw [ByteArray.size_extract]; omega
      have HAL : Hid ((A ++ P4 ++ Z.extract 0 1000).data.toList = packets T ++ (pk4 65537 ++ (Z.extract 0 1000).data.toList)) := (by
        rw [app_list, app_list, ← HA.out, hP4', bytesOf_list, bytesOf_list, List.append_assoc] : _ = _)
      have hcut : cut (packets T ++ (pk4 65537 ++ (Z.extract 0 1000).data.toList)) = ⟨T, [], true⟩ := by
        rw [cut_packets _ T (fun s hs => Nat.le_trans (HT.out s hs) (by decide)), cut_great (by rw [List.length_append, pk4_len]; omega) (by rw [be4_pk4 (by omega)]; omega)]
        simp
      have hfb := Behind.new.feedBad (b := packets T ++ (pk4 65537 ++ (Z.extract 0 1000).data.toList)) (by
        rw [List.length_append, List.length_append, pk4_len]
        have h1 := packets_le T HT.out
        have h2 := HTL.out
        have h3 : (Z.extract 0 1000).data.toList.length = (Z.extract 0 1000).size := rfl
        omega) (by rw [List.nil_append, hcut])
      rw [List.nil_append, hcut, show cut [] = ⟨[], [], false⟩ from rfl, List.nil_append] at hfb
      have HO2 : On K g ⟨[], false⟩ w (wr.alloc (.cells #[.int .u8 0, .int .u8 1, .int .u8 0, .int .u8 1] 5)) F := HO1.out.stays ((Below.refl _ _).alloc (Nat.le_refl _) _)
      have HW2 : OwnT (wr.alloc (.cells #[.int .u8 0, .int .u8 1, .int .u8 0, .int .u8 1] 5)) w.heap.size u9 T := HW.out.kept ((Below.refl _ _).alloc (Nat.le_refl _) _)
      have HD : Hid (Calls Try.prog 9 #[.pointer (some ⟨g, 0, none⟩), .string (A ++ P4 ++ Z.extract 0 1000)] (wr.alloc (.cells #[.int .u8 0, .int .u8 1, .int .u8 0, .int .u8 1] 5)) fun e w' => ∃ v F', e = .returned (.tuple #[v, .int .i64 70]) ∧ StrsAt w' v T ∧ StrsAt w' u9 T ∧ On K g ⟨[], true⟩ w w' F') := (HO2.feed (A ++ P4 ++ Z.extract 0 1000)).mono fun e w' ⟨v, F', h1, h2, h3, h4, h5, _⟩ => by
        rw [HAL.out, hfb.2.1] at h1
        rw [HAL.out, ← hfb.2.2] at h2
        rw [HAL.out, hfb.1] at h3
        exact ⟨v, F', h1, h2.strs, (HW2.fed HAp.out h4 h5).1.strs, h3⟩
      clear hP4 hP4' hcut hfb HO2 HW2 hlt hT hj
      obtain ⟨P5, hP5⟩ : ∃ P5, packS { data := #[120] } = P5 := ⟨_, rfl⟩
      obtain ⟨E5, hE5⟩ : ∃ E5, packE { data := #[120] } = E5 := ⟨_, rfl⟩
      have HP5 : Hid (∀ u : World, Calls Try.prog 14 #[.string { data := #[120] }] u fun e w' => e = .returned (.tuple #[.string P5, .int .i64 E5]) ∧ Below u.heap.size u w') := fun u => hP5 ▸ hE5 ▸ K.packet { data := #[120] } u
      clear hP5 hE5
      go_wp2_with (go_at_call 9; go_must (refine HD.out.mono ?_))
      rintro e w3 v3 rfl h31 h32 F3 hO3
      have HSm : Hid (Calls Try.prog 11 #[v3, u9] w3 fun e w' => e = .returned (.bool true) ∧ ∃ n, w' = w3.drewN n) := sameTexts_true v3 u9 T w3 h31 h32
      have HBd : Hid (∀ n, Calls Try.prog 13 #[.pointer (some ⟨g, 0, none⟩)] (w3.drewN n) fun e w' => e = .returned (.bool true) ∧ ∃ k, w' = (w3.drewN n).drewN k) := fun n => (hO3.draws n).bad
      have HLf : Hid (∀ n, Calls Try.prog 12 #[.pointer (some ⟨g, 0, none⟩)] (w3.drewN n) fun e w' => e = .returned (.int .i64 0) ∧ ∃ k, w' = (w3.drewN n).drewN k) := fun n => (hO3.draws n).left
      have HO3 : Hid (On K g ⟨[], true⟩ w w3 F3) := hO3
      clear h31 h32 hO3 HD hc
      go_wp2_with (first
        | (go_at_call 11; go_must (refine HSm.out.mono ?_; rintro e w4 ⟨rfl, n4, rfl⟩))
        | (go_at_call 13; go_must (refine (HBd.out _).mono ?_; rintro e w5 ⟨rfl, n5, rfl⟩))
        | (go_at_call 12; go_must (refine (HLf.out _).mono ?_; rintro e w6 ⟨rfl, n6, rfl⟩))
        | (go_at_call 14; go_must (refine (HP5.out _).mono ?_; rintro e w7 ⟨rfl, hw7⟩)))
      have hO7 : On K g ⟨[], true⟩ w w7 F3 := (HO3.out.draws _).stays hw7
      have HD2 : Hid (Calls Try.prog 9 #[.pointer (some ⟨g, 0, none⟩), .string P5] w7 fun e w' => ∃ a c, e = .returned (.tuple #[.slice a 0 c, .int .i64 70]) ∧ Below w.heap.size w w') := (hO7.feed P5).mono fun e w' ⟨v, F', h1, h2, h3, _⟩ => by
        obtain ⟨a, c, rfl, -, -, -, -⟩ := h2
        exact ⟨a, c, h1, h3.below⟩
      clear hO7 hw7
      go_wp2_with (go_at_call 9; go_must (refine HD2.out.mono ?_; rintro e w8 ⟨a8, c8, rfl, hb8⟩))
      go_ret
      exact ⟨rfl, hb8⟩

set_option maxRecDepth 100000 in
set_option maxHeartbeats 2000000 in
theorem walk010 (K : Kit) (v0 : Value) (L : List ByteArray) (n : Nat) (Z : ByteArray) (w : World) (hL : SliceAt w v0 1 strOne L) (hn : n < 4294967296) (hA : L.length ≤ 10) (hB : 65537 ≤ n) (hC : Z.size ≤ 1000) :
    Calls Try.prog 5 #[v0, .int .u32 (n : Int), .string Z] w fun e w' => e = .returned (.bool true) ∧ Below w.heap.size w w' := by
  obtain ⟨a, c, rfl, hx⟩ := slice_open hL
  have HX : Hid (L ≠ [] → ∃ b off, a = some ⟨b, off, none⟩ ∧ b < w.heap.size ∧ ∀ i, (h : i < L.length) → w.cell? ⟨b, off + i, none⟩ = some (.string L[i])) := hx
  obtain ⟨m, hm⟩ : ∃ m, L.length = m := ⟨_, rfl⟩
  have HM : Hid (L.length = m) := hm
  rw [hm] at hA
  rw [hm]
  have HN : Hid (Calls Try.prog 7 #[] w fun e w' => ∃ g F, e = .returned (.pointer (some ⟨g, 0, none⟩)) ∧ On K g ⟨[], false⟩ w w' F ∧ (∀ i, F i → w.heap.size ≤ i) ∧ Below w.heap.size w w') := kit_new K w w (Below.refl _ _)
  clear hm hx hL
  go_enter Try.func5, Try.ntmps5
  go_wp2_with (go_at_call 7; go_must (refine HN.out.mono ?_))
  rintro e w1 ⟨g, F, rfl, hO, -, -⟩
  have HO : Hid (On K g ⟨[], false⟩ w w1 F) := hO
  clear hO
  go_wp2_with (go_at_call 16; go_must (refine (works7_any K _).mono ?_; rintro e w2 ⟨rfl, hw2⟩))
  go_loopw [8, 9, 10] (fun al wn i wr => ∃ (j : Nat) (T : List (List UInt8)) (F : Nat → Prop), j ≤ m ∧ i = .int .i64 j ∧ al = .string (bytesOf (packets T)) ∧ T.length ≤ j ∧ Hid (∀ s ∈ T, s.length ≤ 2000) ∧ OwnT wr w.heap.size wn T ∧ Apart F wn ∧ On K g ⟨[], false⟩ w wr F) (fun _ _ i _ => m - (intOf i).toNat)
  case atStart => exact ⟨0, [], F, Nat.zero_le _, rfl, rfl, Nat.le_refl _, (fun s hs => (by cases hs) : ∀ s ∈ ([] : List (List UInt8)), s.length ≤ 2000), World.ownsRow_nil _ _ _ _, Apart.nil _, HO.out.stays hw2⟩
  case round =>
    obtain ⟨j, T, F, hj, rfl, rfl, hT, HT, hW, hAp, hO⟩ := hrel
    obtain ⟨A, hAA⟩ : ∃ A, bytesOf (packets T) = A := ⟨_, rfl⟩
    have HA : Hid (bytesOf (packets T) = A) := hAA
    have hAs : A.size ≤ 20040 := by
      have h1 := packets_le T HT.out
      have h2 : A.size = (packets T).length := by rw [← hAA]; rfl
      omega
    rw [hAA]
    have HO1 : Hid (On K g ⟨[], false⟩ w wr F) := hO
    have HW : Hid (OwnT wr w.heap.size u9 T) := hW
    have HAp : Hid (Apart F u9) := hAp
    have hsz1 : w.heap.size ≤ wr.heap.size := hO.below.size
    clear hAA hO hW hAp HO
    by_cases hlt : j < m
    · have hlm : j < m := by omega
      have hlL : j < L.length := by rw [HM.out]; exact hlm
      obtain ⟨b, off, rfl, hbl, hcells⟩ := HX.out (fun e => by rw [e] at hlL; simp at hlL)
      obtain ⟨s, hs⟩ : ∃ s, L[j] = s := ⟨_, rfl⟩
      have HQ : Hid (∀ u : World, Below w.heap.size w u → u.cell? ⟨b, off + j, none⟩ = some (.string s)) := fun u hu => by
        rw [hu.cell (p := ⟨b, off + j, none⟩) hbl, hcells j hlL, hs]
      have qc := HQ.out wr HO1.out.below
      have hlI : (j : Int) < (m : Int) := by omega
      have h10I : (j : Int) < 10 := by omega
      clear hcells hs hlL hbl
      by_cases hl : 2000 < s.size
      · have hl' : (2000 : Int) < (s.size : Int) := by omega
        go_wp2_with fail
        go_roundw
        case rel => exact ⟨j + 1, T, F, by omega, by go_num, by rw [HA.out], by omega, HT, HW.out, HAp.out, HO1.out⟩
        case measure => simp [intOf]; omega
      · have hl' : ¬ ((2000 : Int) < (s.size : Int)) := by omega
        obtain ⟨P, hP⟩ : ∃ P, packS s = P := ⟨_, rfl⟩
        have hP2 : P = bytesOf (packet s.data.toList) := by rw [← hP]; exact (pack_short s (by omega)).1
        have hPs : P.size ≤ 2004 := by
          rw [hP2, bytesOf_size, packet_len]
          show 4 + s.size ≤ _
          omega
        have HPk : Hid (∀ u : World, Calls Try.prog 14 #[.string s] u fun e w' => e = .returned (.tuple #[.string P, .int .i64 0]) ∧ Below u.heap.size u w') := fun u => by
          have h := K.packet s u
          rw [hP, (pack_short s (by omega)).2] at h
          exact h
        have HA2 : Hid (bytesOf (packets (T ++ [s.data.toList])) = A ++ P) := (by rw [packets_snoc, ← HA.out, app_of, hP2]; rfl : _ = _)
        have HT2 : Hid (∀ t ∈ T ++ [s.data.toList], t.length ≤ 2000) := fun t ht => by
          rcases List.mem_append.1 ht with h | h
          · exact HT.out t h
          · rw [List.mem_singleton.1 h]
            show s.size ≤ 2000
            omega
        clear hP hP2
        go_wp2_with (first
          | (go_at_call 14; go_must (refine (HPk.out _).mono ?_; rintro e w3 ⟨rfl, hw3⟩); have HO3 : Hid (On K g ⟨[], false⟩ w w3 F) := HO1.out.stays hw3; have HW3 : Hid (OwnT w3 w.heap.size u9 T) := HW.out.kept hw3; have qc3 := HQ.out w3 HO3.out.below; have hsz3 : w.heap.size ≤ w3.heap.size := HO3.out.below.size; clear hw3)
          | (at_builtin; go_must (refine wpList_texts rfl _ _ rfl w.heap.size 0 u9 (.slice (some ⟨w3.heap.size, 0, none⟩) 1 1) T [s.data.toList] _ rfl (HW3.out.kept ((Below.refl _ _).alloc (Nat.le_refl _) _)) rfl (RowS.one w3 s) (by simp; omega) (by simp; omega) ?_)))
        intro v' w4 hown4 hgrow4 hat4
        have ⟨hO4, hA4⟩ := (HO3.out.stays ((Below.refl _ _).alloc (Nat.le_refl _) _)).grow (HW3.out.kept ((Below.refl _ _).alloc (Nat.le_refl _) _)) HAp.out hgrow4 (v' := v') hat4 (by simp)
        have H4 : Hid (OwnT w4 w.heap.size v' (T ++ [s.data.toList]) ∧ On K g ⟨[], false⟩ w w4 F ∧ Apart F v') := ⟨hown4, hO4, hA4⟩
        clear hown4 hgrow4 hat4 hO4 hA4
        go_wp2_with fail
        go_roundw
        case rel => exact ⟨j + 1, T ++ [s.data.toList], F, by omega, by go_num, by rw [HA2.out], by simp; omega, HT2, H4.out.1, H4.out.2.2, H4.out.2.1⟩
        case measure => simp [intOf]; omega
    · have h1I : ¬ ((j : Int) < (m : Int)) := by omega
      have HTL : Hid (T.length ≤ 10) := (by omega : T.length ≤ 10)
      have hmx : (65537 : Int) ≤ (n : Int) := by omega
      obtain ⟨P4, hP4⟩ : ∃ P4, strOfNums [((n : Int) / 16777216), ((n : Int) / 65536 % 256), ((n : Int) / 256 % 256), ((n : Int) % 256)] = P4 := ⟨_, rfl⟩
      have hc := convert4 wr ((n : Int) / 16777216) ((n : Int) / 65536 % 256) ((n : Int) / 256 % 256) ((n : Int) % 256)
      rw [hP4] at hc
      have hP4' : P4 = bytesOf (pk4 n) := by rw [← hP4]; exact pk4_nums n
      have hP4s : P4.size = 4 := by rw [hP4']; rfl
      have hZ : ¬ ((1000 : Int) < (Z.size : Int)) := by omega
      have hzl : Z.size ≤ 1000 := hC
      have HAL : Hid ((A ++ P4 ++ Z).data.toList = packets T ++ (pk4 n ++ (Z).data.toList)) := (by
        rw [app_list, app_list, ← HA.out, hP4', bytesOf_list, bytesOf_list, List.append_assoc] : _ = _)
      have hcut : cut (packets T ++ (pk4 n ++ (Z).data.toList)) = ⟨T, [], true⟩ := by
        rw [cut_packets _ T (fun s hs => Nat.le_trans (HT.out s hs) (by decide)), cut_great (by rw [List.length_append, pk4_len]; omega) (by rw [be4_pk4 (by omega)]; omega)]
        simp
      have hfb := Behind.new.feedBad (b := packets T ++ (pk4 n ++ (Z).data.toList)) (by
        rw [List.length_append, List.length_append, pk4_len]
        have h1 := packets_le T HT.out
        have h2 := HTL.out
        have h3 : (Z).data.toList.length = (Z).size := rfl
        omega) (by rw [List.nil_append, hcut])
      rw [List.nil_append, hcut, show cut [] = ⟨[], [], false⟩ from rfl, List.nil_append] at hfb
      have HO2 : On K g ⟨[], false⟩ w (wr.alloc (.cells #[.int .u8 ((n : Int) / 16777216), .int .u8 ((n : Int) / 65536 % 256), .int .u8 ((n : Int) / 256 % 256), .int .u8 ((n : Int) % 256)] 5)) F := HO1.out.stays ((Below.refl _ _).alloc (Nat.le_refl _) _)
      have HW2 : OwnT (wr.alloc (.cells #[.int .u8 ((n : Int) / 16777216), .int .u8 ((n : Int) / 65536 % 256), .int .u8 ((n : Int) / 256 % 256), .int .u8 ((n : Int) % 256)] 5)) w.heap.size u9 T := HW.out.kept ((Below.refl _ _).alloc (Nat.le_refl _) _)
      have HD : Hid (Calls Try.prog 9 #[.pointer (some ⟨g, 0, none⟩), .string (A ++ P4 ++ Z)] (wr.alloc (.cells #[.int .u8 ((n : Int) / 16777216), .int .u8 ((n : Int) / 65536 % 256), .int .u8 ((n : Int) / 256 % 256), .int .u8 ((n : Int) % 256)] 5)) fun e w' => ∃ v F', e = .returned (.tuple #[v, .int .i64 70]) ∧ StrsAt w' v T ∧ StrsAt w' u9 T ∧ On K g ⟨[], true⟩ w w' F') := (HO2.feed (A ++ P4 ++ Z)).mono fun e w' ⟨v, F', h1, h2, h3, h4, h5, _⟩ => by
        rw [HAL.out, hfb.2.1] at h1
        rw [HAL.out, ← hfb.2.2] at h2
        rw [HAL.out, hfb.1] at h3
        exact ⟨v, F', h1, h2.strs, (HW2.fed HAp.out h4 h5).1.strs, h3⟩
      clear hP4 hP4' hcut hfb HO2 HW2 hlt hT hj
      obtain ⟨P5, hP5⟩ : ∃ P5, packS { data := #[120] } = P5 := ⟨_, rfl⟩
      obtain ⟨E5, hE5⟩ : ∃ E5, packE { data := #[120] } = E5 := ⟨_, rfl⟩
      have HP5 : Hid (∀ u : World, Calls Try.prog 14 #[.string { data := #[120] }] u fun e w' => e = .returned (.tuple #[.string P5, .int .i64 E5]) ∧ Below u.heap.size u w') := fun u => hP5 ▸ hE5 ▸ K.packet { data := #[120] } u
      clear hP5 hE5
      go_wp2_with (go_at_call 9; go_must (refine HD.out.mono ?_))
      rintro e w3 v3 rfl h31 h32 F3 hO3
      have HSm : Hid (Calls Try.prog 11 #[v3, u9] w3 fun e w' => e = .returned (.bool true) ∧ ∃ n, w' = w3.drewN n) := sameTexts_true v3 u9 T w3 h31 h32
      have HBd : Hid (∀ n, Calls Try.prog 13 #[.pointer (some ⟨g, 0, none⟩)] (w3.drewN n) fun e w' => e = .returned (.bool true) ∧ ∃ k, w' = (w3.drewN n).drewN k) := fun n => (hO3.draws n).bad
      have HLf : Hid (∀ n, Calls Try.prog 12 #[.pointer (some ⟨g, 0, none⟩)] (w3.drewN n) fun e w' => e = .returned (.int .i64 0) ∧ ∃ k, w' = (w3.drewN n).drewN k) := fun n => (hO3.draws n).left
      have HO3 : Hid (On K g ⟨[], true⟩ w w3 F3) := hO3
      clear h31 h32 hO3 HD hc
      go_wp2_with (first
        | (go_at_call 11; go_must (refine HSm.out.mono ?_; rintro e w4 ⟨rfl, n4, rfl⟩))
        | (go_at_call 13; go_must (refine (HBd.out _).mono ?_; rintro e w5 ⟨rfl, n5, rfl⟩))
        | (go_at_call 12; go_must (refine (HLf.out _).mono ?_; rintro e w6 ⟨rfl, n6, rfl⟩))
        | (go_at_call 14; go_must (refine (HP5.out _).mono ?_; rintro e w7 ⟨rfl, hw7⟩)))
      have hO7 : On K g ⟨[], true⟩ w w7 F3 := (HO3.out.draws _).stays hw7
      have HD2 : Hid (Calls Try.prog 9 #[.pointer (some ⟨g, 0, none⟩), .string P5] w7 fun e w' => ∃ a c, e = .returned (.tuple #[.slice a 0 c, .int .i64 70]) ∧ Below w.heap.size w w') := (hO7.feed P5).mono fun e w' ⟨v, F', h1, h2, h3, _⟩ => by
        obtain ⟨a, c, rfl, -, -, -, -⟩ := h2
        exact ⟨a, c, h1, h3.below⟩
      clear hO7 hw7
      go_wp2_with (go_at_call 9; go_must (refine HD2.out.mono ?_; rintro e w8 ⟨a8, c8, rfl, hb8⟩))
      go_ret
      exact ⟨rfl, hb8⟩

set_option maxRecDepth 100000 in
set_option maxHeartbeats 2000000 in
theorem walk011 (K : Kit) (v0 : Value) (L : List ByteArray) (n : Nat) (Z : ByteArray) (w : World) (hL : SliceAt w v0 1 strOne L) (hn : n < 4294967296) (hA : L.length ≤ 10) (hB : 65537 ≤ n) (hC : 1000 < Z.size) :
    Calls Try.prog 5 #[v0, .int .u32 (n : Int), .string Z] w fun e w' => e = .returned (.bool true) ∧ Below w.heap.size w w' := by
  obtain ⟨a, c, rfl, hx⟩ := slice_open hL
  have HX : Hid (L ≠ [] → ∃ b off, a = some ⟨b, off, none⟩ ∧ b < w.heap.size ∧ ∀ i, (h : i < L.length) → w.cell? ⟨b, off + i, none⟩ = some (.string L[i])) := hx
  obtain ⟨m, hm⟩ : ∃ m, L.length = m := ⟨_, rfl⟩
  have HM : Hid (L.length = m) := hm
  rw [hm] at hA
  rw [hm]
  have HN : Hid (Calls Try.prog 7 #[] w fun e w' => ∃ g F, e = .returned (.pointer (some ⟨g, 0, none⟩)) ∧ On K g ⟨[], false⟩ w w' F ∧ (∀ i, F i → w.heap.size ≤ i) ∧ Below w.heap.size w w') := kit_new K w w (Below.refl _ _)
  clear hm hx hL
  go_enter Try.func5, Try.ntmps5
  go_wp2_with (go_at_call 7; go_must (refine HN.out.mono ?_))
  rintro e w1 ⟨g, F, rfl, hO, -, -⟩
  have HO : Hid (On K g ⟨[], false⟩ w w1 F) := hO
  clear hO
  go_wp2_with (go_at_call 16; go_must (refine (works7_any K _).mono ?_; rintro e w2 ⟨rfl, hw2⟩))
  go_loopw [8, 9, 10] (fun al wn i wr => ∃ (j : Nat) (T : List (List UInt8)) (F : Nat → Prop), j ≤ m ∧ i = .int .i64 j ∧ al = .string (bytesOf (packets T)) ∧ T.length ≤ j ∧ Hid (∀ s ∈ T, s.length ≤ 2000) ∧ OwnT wr w.heap.size wn T ∧ Apart F wn ∧ On K g ⟨[], false⟩ w wr F) (fun _ _ i _ => m - (intOf i).toNat)
  case atStart => exact ⟨0, [], F, Nat.zero_le _, rfl, rfl, Nat.le_refl _, (fun s hs => (by cases hs) : ∀ s ∈ ([] : List (List UInt8)), s.length ≤ 2000), World.ownsRow_nil _ _ _ _, Apart.nil _, HO.out.stays hw2⟩
  case round =>
    obtain ⟨j, T, F, hj, rfl, rfl, hT, HT, hW, hAp, hO⟩ := hrel
    obtain ⟨A, hAA⟩ : ∃ A, bytesOf (packets T) = A := ⟨_, rfl⟩
    have HA : Hid (bytesOf (packets T) = A) := hAA
    have hAs : A.size ≤ 20040 := by
      have h1 := packets_le T HT.out
      have h2 : A.size = (packets T).length := by rw [← hAA]; rfl
      omega
    rw [hAA]
    have HO1 : Hid (On K g ⟨[], false⟩ w wr F) := hO
    have HW : Hid (OwnT wr w.heap.size u9 T) := hW
    have HAp : Hid (Apart F u9) := hAp
    have hsz1 : w.heap.size ≤ wr.heap.size := hO.below.size
    clear hAA hO hW hAp HO
    by_cases hlt : j < m
    · have hlm : j < m := by omega
      have hlL : j < L.length := by rw [HM.out]; exact hlm
      obtain ⟨b, off, rfl, hbl, hcells⟩ := HX.out (fun e => by rw [e] at hlL; simp at hlL)
      obtain ⟨s, hs⟩ : ∃ s, L[j] = s := ⟨_, rfl⟩
      have HQ : Hid (∀ u : World, Below w.heap.size w u → u.cell? ⟨b, off + j, none⟩ = some (.string s)) := fun u hu => by
        rw [hu.cell (p := ⟨b, off + j, none⟩) hbl, hcells j hlL, hs]
      have qc := HQ.out wr HO1.out.below
      have hlI : (j : Int) < (m : Int) := by omega
      have h10I : (j : Int) < 10 := by omega
      clear hcells hs hlL hbl
      by_cases hl : 2000 < s.size
      · have hl' : (2000 : Int) < (s.size : Int) := by omega
        go_wp2_with fail
        go_roundw
        case rel => exact ⟨j + 1, T, F, by omega, by go_num, by rw [HA.out], by omega, HT, HW.out, HAp.out, HO1.out⟩
        case measure => simp [intOf]; omega
      · have hl' : ¬ ((2000 : Int) < (s.size : Int)) := by omega
        obtain ⟨P, hP⟩ : ∃ P, packS s = P := ⟨_, rfl⟩
        have hP2 : P = bytesOf (packet s.data.toList) := by rw [← hP]; exact (pack_short s (by omega)).1
        have hPs : P.size ≤ 2004 := by
          rw [hP2, bytesOf_size, packet_len]
          show 4 + s.size ≤ _
          omega
        have HPk : Hid (∀ u : World, Calls Try.prog 14 #[.string s] u fun e w' => e = .returned (.tuple #[.string P, .int .i64 0]) ∧ Below u.heap.size u w') := fun u => by
          have h := K.packet s u
          rw [hP, (pack_short s (by omega)).2] at h
          exact h
        have HA2 : Hid (bytesOf (packets (T ++ [s.data.toList])) = A ++ P) := (by rw [packets_snoc, ← HA.out, app_of, hP2]; rfl : _ = _)
        have HT2 : Hid (∀ t ∈ T ++ [s.data.toList], t.length ≤ 2000) := fun t ht => by
          rcases List.mem_append.1 ht with h | h
          · exact HT.out t h
          · rw [List.mem_singleton.1 h]
            show s.size ≤ 2000
            omega
        clear hP hP2
        go_wp2_with (first
          | (go_at_call 14; go_must (refine (HPk.out _).mono ?_; rintro e w3 ⟨rfl, hw3⟩); have HO3 : Hid (On K g ⟨[], false⟩ w w3 F) := HO1.out.stays hw3; have HW3 : Hid (OwnT w3 w.heap.size u9 T) := HW.out.kept hw3; have qc3 := HQ.out w3 HO3.out.below; have hsz3 : w.heap.size ≤ w3.heap.size := HO3.out.below.size; clear hw3)
          | (at_builtin; go_must (refine wpList_texts rfl _ _ rfl w.heap.size 0 u9 (.slice (some ⟨w3.heap.size, 0, none⟩) 1 1) T [s.data.toList] _ rfl (HW3.out.kept ((Below.refl _ _).alloc (Nat.le_refl _) _)) rfl (RowS.one w3 s) (by simp; omega) (by simp; omega) ?_)))
        intro v' w4 hown4 hgrow4 hat4
        have ⟨hO4, hA4⟩ := (HO3.out.stays ((Below.refl _ _).alloc (Nat.le_refl _) _)).grow (HW3.out.kept ((Below.refl _ _).alloc (Nat.le_refl _) _)) HAp.out hgrow4 (v' := v') hat4 (by simp)
        have H4 : Hid (OwnT w4 w.heap.size v' (T ++ [s.data.toList]) ∧ On K g ⟨[], false⟩ w w4 F ∧ Apart F v') := ⟨hown4, hO4, hA4⟩
        clear hown4 hgrow4 hat4 hO4 hA4
        go_wp2_with fail
        go_roundw
        case rel => exact ⟨j + 1, T ++ [s.data.toList], F, by omega, by go_num, by rw [HA2.out], by simp; omega, HT2, H4.out.1, H4.out.2.2, H4.out.2.1⟩
        case measure => simp [intOf]; omega
    · have h1I : ¬ ((j : Int) < (m : Int)) := by omega
      have HTL : Hid (T.length ≤ 10) := (by omega : T.length ≤ 10)
      have hmx : (65537 : Int) ≤ (n : Int) := by omega
      obtain ⟨P4, hP4⟩ : ∃ P4, strOfNums [((n : Int) / 16777216), ((n : Int) / 65536 % 256), ((n : Int) / 256 % 256), ((n : Int) % 256)] = P4 := ⟨_, rfl⟩
      have hc := convert4 wr ((n : Int) / 16777216) ((n : Int) / 65536 % 256) ((n : Int) / 256 % 256) ((n : Int) % 256)
      rw [hP4] at hc
      have hP4' : P4 = bytesOf (pk4 n) := by rw [← hP4]; exact pk4_nums n
      have hP4s : P4.size = 4 := by rw [hP4']; rfl
      have hZ : (1000 : Int) < (Z.size : Int) := by omega
      have hzl : (Z.extract 0 1000).size ≤ 1000 := by rw [ByteArray.size_extract]; omega
      have HAL : Hid ((A ++ P4 ++ Z.extract 0 1000).data.toList = packets T ++ (pk4 n ++ (Z.extract 0 1000).data.toList)) := (by
        rw [app_list, app_list, ← HA.out, hP4', bytesOf_list, bytesOf_list, List.append_assoc] : _ = _)
      have hcut : cut (packets T ++ (pk4 n ++ (Z.extract 0 1000).data.toList)) = ⟨T, [], true⟩ := by
        rw [cut_packets _ T (fun s hs => Nat.le_trans (HT.out s hs) (by decide)), cut_great (by rw [List.length_append, pk4_len]; omega) (by rw [be4_pk4 (by omega)]; omega)]
        simp
      have hfb := Behind.new.feedBad (b := packets T ++ (pk4 n ++ (Z.extract 0 1000).data.toList)) (by
        rw [List.length_append, List.length_append, pk4_len]
        have h1 := packets_le T HT.out
        have h2 := HTL.out
        have h3 : (Z.extract 0 1000).data.toList.length = (Z.extract 0 1000).size := rfl
        omega) (by rw [List.nil_append, hcut])
      rw [List.nil_append, hcut, show cut [] = ⟨[], [], false⟩ from rfl, List.nil_append] at hfb
      have HO2 : On K g ⟨[], false⟩ w (wr.alloc (.cells #[.int .u8 ((n : Int) / 16777216), .int .u8 ((n : Int) / 65536 % 256), .int .u8 ((n : Int) / 256 % 256), .int .u8 ((n : Int) % 256)] 5)) F := HO1.out.stays ((Below.refl _ _).alloc (Nat.le_refl _) _)
      have HW2 : OwnT (wr.alloc (.cells #[.int .u8 ((n : Int) / 16777216), .int .u8 ((n : Int) / 65536 % 256), .int .u8 ((n : Int) / 256 % 256), .int .u8 ((n : Int) % 256)] 5)) w.heap.size u9 T := HW.out.kept ((Below.refl _ _).alloc (Nat.le_refl _) _)
      have HD : Hid (Calls Try.prog 9 #[.pointer (some ⟨g, 0, none⟩), .string (A ++ P4 ++ Z.extract 0 1000)] (wr.alloc (.cells #[.int .u8 ((n : Int) / 16777216), .int .u8 ((n : Int) / 65536 % 256), .int .u8 ((n : Int) / 256 % 256), .int .u8 ((n : Int) % 256)] 5)) fun e w' => ∃ v F', e = .returned (.tuple #[v, .int .i64 70]) ∧ StrsAt w' v T ∧ StrsAt w' u9 T ∧ On K g ⟨[], true⟩ w w' F') := (HO2.feed (A ++ P4 ++ Z.extract 0 1000)).mono fun e w' ⟨v, F', h1, h2, h3, h4, h5, _⟩ => by
        rw [HAL.out, hfb.2.1] at h1
        rw [HAL.out, ← hfb.2.2] at h2
        rw [HAL.out, hfb.1] at h3
        exact ⟨v, F', h1, h2.strs, (HW2.fed HAp.out h4 h5).1.strs, h3⟩
      clear hP4 hP4' hcut hfb HO2 HW2 hlt hT hj
      obtain ⟨P5, hP5⟩ : ∃ P5, packS { data := #[120] } = P5 := ⟨_, rfl⟩
      obtain ⟨E5, hE5⟩ : ∃ E5, packE { data := #[120] } = E5 := ⟨_, rfl⟩
      have HP5 : Hid (∀ u : World, Calls Try.prog 14 #[.string { data := #[120] }] u fun e w' => e = .returned (.tuple #[.string P5, .int .i64 E5]) ∧ Below u.heap.size u w') := fun u => hP5 ▸ hE5 ▸ K.packet { data := #[120] } u
      clear hP5 hE5
      go_wp2_with (go_at_call 9; go_must (refine HD.out.mono ?_))
      rintro e w3 v3 rfl h31 h32 F3 hO3
      have HSm : Hid (Calls Try.prog 11 #[v3, u9] w3 fun e w' => e = .returned (.bool true) ∧ ∃ n, w' = w3.drewN n) := sameTexts_true v3 u9 T w3 h31 h32
      have HBd : Hid (∀ n, Calls Try.prog 13 #[.pointer (some ⟨g, 0, none⟩)] (w3.drewN n) fun e w' => e = .returned (.bool true) ∧ ∃ k, w' = (w3.drewN n).drewN k) := fun n => (hO3.draws n).bad
      have HLf : Hid (∀ n, Calls Try.prog 12 #[.pointer (some ⟨g, 0, none⟩)] (w3.drewN n) fun e w' => e = .returned (.int .i64 0) ∧ ∃ k, w' = (w3.drewN n).drewN k) := fun n => (hO3.draws n).left
      have HO3 : Hid (On K g ⟨[], true⟩ w w3 F3) := hO3
      clear h31 h32 hO3 HD hc
      go_wp2_with (first
        | (go_at_call 11; go_must (refine HSm.out.mono ?_; rintro e w4 ⟨rfl, n4, rfl⟩))
        | (go_at_call 13; go_must (refine (HBd.out _).mono ?_; rintro e w5 ⟨rfl, n5, rfl⟩))
        | (go_at_call 12; go_must (refine (HLf.out _).mono ?_; rintro e w6 ⟨rfl, n6, rfl⟩))
        | (go_at_call 14; go_must (refine (HP5.out _).mono ?_; rintro e w7 ⟨rfl, hw7⟩)))
      have hO7 : On K g ⟨[], true⟩ w w7 F3 := (HO3.out.draws _).stays hw7
      have HD2 : Hid (Calls Try.prog 9 #[.pointer (some ⟨g, 0, none⟩), .string P5] w7 fun e w' => ∃ a c, e = .returned (.tuple #[.slice a 0 c, .int .i64 70]) ∧ Below w.heap.size w w') := (hO7.feed P5).mono fun e w' ⟨v, F', h1, h2, h3, _⟩ => by
        obtain ⟨a, c, rfl, -, -, -, -⟩ := h2
        exact ⟨a, c, h1, h3.below⟩
      clear hO7 hw7
      go_wp2_with (go_at_call 9; go_must (refine HD2.out.mono ?_; rintro e w8 ⟨a8, c8, rfl, hb8⟩))
      go_ret
      exact ⟨rfl, hb8⟩

set_option maxRecDepth 100000 in
set_option maxHeartbeats 2000000 in
theorem walk100 (K : Kit) (v0 : Value) (L : List ByteArray) (n : Nat) (Z : ByteArray) (w : World) (hL : SliceAt w v0 1 strOne L) (hn : n < 4294967296) (hA : 10 < L.length) (hB : n < 65537) (hC : Z.size ≤ 1000) :
    Calls Try.prog 5 #[v0, .int .u32 (n : Int), .string Z] w fun e w' => e = .returned (.bool true) ∧ Below w.heap.size w w' := by
  obtain ⟨a, c, rfl, hx⟩ := slice_open hL
  have HX : Hid (L ≠ [] → ∃ b off, a = some ⟨b, off, none⟩ ∧ b < w.heap.size ∧ ∀ i, (h : i < L.length) → w.cell? ⟨b, off + i, none⟩ = some (.string L[i])) := hx
  obtain ⟨m, hm⟩ : ∃ m, L.length = m := ⟨_, rfl⟩
  have HM : Hid (L.length = m) := hm
  rw [hm] at hA
  rw [hm]
  have HN : Hid (Calls Try.prog 7 #[] w fun e w' => ∃ g F, e = .returned (.pointer (some ⟨g, 0, none⟩)) ∧ On K g ⟨[], false⟩ w w' F ∧ (∀ i, F i → w.heap.size ≤ i) ∧ Below w.heap.size w w') := kit_new K w w (Below.refl _ _)
  clear hm hx hL
  go_enter Try.func5, Try.ntmps5
  go_wp2_with (go_at_call 7; go_must (refine HN.out.mono ?_))
  rintro e w1 ⟨g, F, rfl, hO, -, -⟩
  have HO : Hid (On K g ⟨[], false⟩ w w1 F) := hO
  clear hO
  go_wp2_with (go_at_call 16; go_must (refine (works7_any K _).mono ?_; rintro e w2 ⟨rfl, hw2⟩))
  go_loopw [8, 9, 10] (fun al wn i wr => ∃ (j : Nat) (T : List (List UInt8)) (F : Nat → Prop), j ≤ 10 ∧ i = .int .i64 j ∧ al = .string (bytesOf (packets T)) ∧ T.length ≤ j ∧ Hid (∀ s ∈ T, s.length ≤ 2000) ∧ OwnT wr w.heap.size wn T ∧ Apart F wn ∧ On K g ⟨[], false⟩ w wr F) (fun _ _ i _ => 10 - (intOf i).toNat)
  case atStart => exact ⟨0, [], F, Nat.zero_le _, rfl, rfl, Nat.le_refl _, (fun s hs => (by cases hs) : ∀ s ∈ ([] : List (List UInt8)), s.length ≤ 2000), World.ownsRow_nil _ _ _ _, Apart.nil _, HO.out.stays hw2⟩
  case round =>
    obtain ⟨j, T, F, hj, rfl, rfl, hT, HT, hW, hAp, hO⟩ := hrel
    obtain ⟨A, hAA⟩ : ∃ A, bytesOf (packets T) = A := ⟨_, rfl⟩
    have HA : Hid (bytesOf (packets T) = A) := hAA
    have hAs : A.size ≤ 20040 := by
      have h1 := packets_le T HT.out
      have h2 : A.size = (packets T).length := by rw [← hAA]; rfl
      omega
    rw [hAA]
    have HO1 : Hid (On K g ⟨[], false⟩ w wr F) := hO
    have HW : Hid (OwnT wr w.heap.size u9 T) := hW
    have HAp : Hid (Apart F u9) := hAp
    have hsz1 : w.heap.size ≤ wr.heap.size := hO.below.size
    clear hAA hO hW hAp HO
    by_cases hlt : j < 10
    · have hlm : j < m := by omega
      have hlL : j < L.length := by rw [HM.out]; exact hlm
      obtain ⟨b, off, rfl, hbl, hcells⟩ := HX.out (fun e => by rw [e] at hlL; simp at hlL)
      obtain ⟨s, hs⟩ : ∃ s, L[j] = s := ⟨_, rfl⟩
      have HQ : Hid (∀ u : World, Below w.heap.size w u → u.cell? ⟨b, off + j, none⟩ = some (.string s)) := fun u hu => by
        rw [hu.cell (p := ⟨b, off + j, none⟩) hbl, hcells j hlL, hs]
      have qc := HQ.out wr HO1.out.below
      have hlI : (j : Int) < (m : Int) := by omega
      have h10I : (j : Int) < 10 := by omega
      clear hcells hs hlL hbl
      by_cases hl : 2000 < s.size
      · have hl' : (2000 : Int) < (s.size : Int) := by omega
        go_wp2_with fail
        go_roundw
        case rel => exact ⟨j + 1, T, F, by omega, by go_num, by rw [HA.out], by omega, HT, HW.out, HAp.out, HO1.out⟩
        case measure => simp [intOf]; omega
      · have hl' : ¬ ((2000 : Int) < (s.size : Int)) := by omega
        obtain ⟨P, hP⟩ : ∃ P, packS s = P := ⟨_, rfl⟩
        have hP2 : P = bytesOf (packet s.data.toList) := by rw [← hP]; exact (pack_short s (by omega)).1
        have hPs : P.size ≤ 2004 := by
          rw [hP2, bytesOf_size, packet_len]
          show 4 + s.size ≤ _
          omega
        have HPk : Hid (∀ u : World, Calls Try.prog 14 #[.string s] u fun e w' => e = .returned (.tuple #[.string P, .int .i64 0]) ∧ Below u.heap.size u w') := fun u => by
          have h := K.packet s u
          rw [hP, (pack_short s (by omega)).2] at h
          exact h
        have HA2 : Hid (bytesOf (packets (T ++ [s.data.toList])) = A ++ P) := (by rw [packets_snoc, ← HA.out, app_of, hP2]; rfl : _ = _)
        have HT2 : Hid (∀ t ∈ T ++ [s.data.toList], t.length ≤ 2000) := fun t ht => by
          rcases List.mem_append.1 ht with h | h
          · exact HT.out t h
          · rw [List.mem_singleton.1 h]
            show s.size ≤ 2000
            omega
        clear hP hP2
        go_wp2_with (first
          | (go_at_call 14; go_must (refine (HPk.out _).mono ?_; rintro e w3 ⟨rfl, hw3⟩); have HO3 : Hid (On K g ⟨[], false⟩ w w3 F) := HO1.out.stays hw3; have HW3 : Hid (OwnT w3 w.heap.size u9 T) := HW.out.kept hw3; have qc3 := HQ.out w3 HO3.out.below; have hsz3 : w.heap.size ≤ w3.heap.size := HO3.out.below.size; clear hw3)
          | (at_builtin; go_must (refine wpList_texts rfl _ _ rfl w.heap.size 0 u9 (.slice (some ⟨w3.heap.size, 0, none⟩) 1 1) T [s.data.toList] _ rfl (HW3.out.kept ((Below.refl _ _).alloc (Nat.le_refl _) _)) rfl (RowS.one w3 s) (by simp; omega) (by simp; omega) ?_)))
        intro v' w4 hown4 hgrow4 hat4
        have ⟨hO4, hA4⟩ := (HO3.out.stays ((Below.refl _ _).alloc (Nat.le_refl _) _)).grow (HW3.out.kept ((Below.refl _ _).alloc (Nat.le_refl _) _)) HAp.out hgrow4 (v' := v') hat4 (by simp)
        have H4 : Hid (OwnT w4 w.heap.size v' (T ++ [s.data.toList]) ∧ On K g ⟨[], false⟩ w w4 F ∧ Apart F v') := ⟨hown4, hO4, hA4⟩
        clear hown4 hgrow4 hat4 hO4 hA4
        go_wp2_with fail
        go_roundw
        case rel => exact ⟨j + 1, T ++ [s.data.toList], F, by omega, by go_num, by rw [HA2.out], by simp; omega, HT2, H4.out.1, H4.out.2.2, H4.out.2.1⟩
        case measure => simp [intOf]; omega
    · have h1I : (j : Int) < (m : Int) := by omega
      have h2I : ¬ ((j : Int) < 10) := by omega
      have HTL : Hid (T.length ≤ 10) := (by omega : T.length ≤ 10)
      have hmx : (n : Int) < 65537 := by omega
      obtain ⟨P4, hP4⟩ : ∃ P4, strOfNums [0, 1, 0, 1] = P4 := ⟨_, rfl⟩
      have hc := convert4 wr 0 1 0 1
      rw [hP4] at hc
      have hP4' : P4 = bytesOf (pk4 65537) := by rw [← hP4]; rfl
      have hP4s : P4.size = 4 := by rw [hP4']; rfl
      have hZ : ¬ ((1000 : Int) < (Z.size : Int)) := by omega
      have hzl : Z.size ≤ 1000 := hC
      have HAL : Hid ((A ++ P4 ++ Z).data.toList = packets T ++ (pk4 65537 ++ (Z).data.toList)) := (by
        rw [app_list, app_list, ← HA.out, hP4', bytesOf_list, bytesOf_list, List.append_assoc] : _ = _)
      have hcut : cut (packets T ++ (pk4 65537 ++ (Z).data.toList)) = ⟨T, [], true⟩ := by
        rw [cut_packets _ T (fun s hs => Nat.le_trans (HT.out s hs) (by decide)), cut_great (by rw [List.length_append, pk4_len]; omega) (by rw [be4_pk4 (by omega)]; omega)]
        simp
      have hfb := Behind.new.feedBad (b := packets T ++ (pk4 65537 ++ (Z).data.toList)) (by
        rw [List.length_append, List.length_append, pk4_len]
        have h1 := packets_le T HT.out
        have h2 := HTL.out
        have h3 : (Z).data.toList.length = (Z).size := rfl
        omega) (by rw [List.nil_append, hcut])
      rw [List.nil_append, hcut, show cut [] = ⟨[], [], false⟩ from rfl, List.nil_append] at hfb
      have HO2 : On K g ⟨[], false⟩ w (wr.alloc (.cells #[.int .u8 0, .int .u8 1, .int .u8 0, .int .u8 1] 5)) F := HO1.out.stays ((Below.refl _ _).alloc (Nat.le_refl _) _)
      have HW2 : OwnT (wr.alloc (.cells #[.int .u8 0, .int .u8 1, .int .u8 0, .int .u8 1] 5)) w.heap.size u9 T := HW.out.kept ((Below.refl _ _).alloc (Nat.le_refl _) _)
      have HD : Hid (Calls Try.prog 9 #[.pointer (some ⟨g, 0, none⟩), .string (A ++ P4 ++ Z)] (wr.alloc (.cells #[.int .u8 0, .int .u8 1, .int .u8 0, .int .u8 1] 5)) fun e w' => ∃ v F', e = .returned (.tuple #[v, .int .i64 70]) ∧ StrsAt w' v T ∧ StrsAt w' u9 T ∧ On K g ⟨[], true⟩ w w' F') := (HO2.feed (A ++ P4 ++ Z)).mono fun e w' ⟨v, F', h1, h2, h3, h4, h5, _⟩ => by
        rw [HAL.out, hfb.2.1] at h1
        rw [HAL.out, ← hfb.2.2] at h2
        rw [HAL.out, hfb.1] at h3
        exact ⟨v, F', h1, h2.strs, (HW2.fed HAp.out h4 h5).1.strs, h3⟩
      clear hP4 hP4' hcut hfb HO2 HW2 hlt hT hj
      obtain ⟨P5, hP5⟩ : ∃ P5, packS { data := #[120] } = P5 := ⟨_, rfl⟩
      obtain ⟨E5, hE5⟩ : ∃ E5, packE { data := #[120] } = E5 := ⟨_, rfl⟩
      have HP5 : Hid (∀ u : World, Calls Try.prog 14 #[.string { data := #[120] }] u fun e w' => e = .returned (.tuple #[.string P5, .int .i64 E5]) ∧ Below u.heap.size u w') := fun u => hP5 ▸ hE5 ▸ K.packet { data := #[120] } u
      clear hP5 hE5
      go_wp2_with (go_at_call 9; go_must (refine HD.out.mono ?_))
      rintro e w3 v3 rfl h31 h32 F3 hO3
      have HSm : Hid (Calls Try.prog 11 #[v3, u9] w3 fun e w' => e = .returned (.bool true) ∧ ∃ n, w' = w3.drewN n) := sameTexts_true v3 u9 T w3 h31 h32
      have HBd : Hid (∀ n, Calls Try.prog 13 #[.pointer (some ⟨g, 0, none⟩)] (w3.drewN n) fun e w' => e = .returned (.bool true) ∧ ∃ k, w' = (w3.drewN n).drewN k) := fun n => (hO3.draws n).bad
      have HLf : Hid (∀ n, Calls Try.prog 12 #[.pointer (some ⟨g, 0, none⟩)] (w3.drewN n) fun e w' => e = .returned (.int .i64 0) ∧ ∃ k, w' = (w3.drewN n).drewN k) := fun n => (hO3.draws n).left
      have HO3 : Hid (On K g ⟨[], true⟩ w w3 F3) := hO3
      clear h31 h32 hO3 HD hc
      go_wp2_with (first
        | (go_at_call 11; go_must (refine HSm.out.mono ?_; rintro e w4 ⟨rfl, n4, rfl⟩))
        | (go_at_call 13; go_must (refine (HBd.out _).mono ?_; rintro e w5 ⟨rfl, n5, rfl⟩))
        | (go_at_call 12; go_must (refine (HLf.out _).mono ?_; rintro e w6 ⟨rfl, n6, rfl⟩))
        | (go_at_call 14; go_must (refine (HP5.out _).mono ?_; rintro e w7 ⟨rfl, hw7⟩)))
      have hO7 : On K g ⟨[], true⟩ w w7 F3 := (HO3.out.draws _).stays hw7
      have HD2 : Hid (Calls Try.prog 9 #[.pointer (some ⟨g, 0, none⟩), .string P5] w7 fun e w' => ∃ a c, e = .returned (.tuple #[.slice a 0 c, .int .i64 70]) ∧ Below w.heap.size w w') := (hO7.feed P5).mono fun e w' ⟨v, F', h1, h2, h3, _⟩ => by
        obtain ⟨a, c, rfl, -, -, -, -⟩ := h2
        exact ⟨a, c, h1, h3.below⟩
      clear hO7 hw7
      go_wp2_with (go_at_call 9; go_must (refine HD2.out.mono ?_; rintro e w8 ⟨a8, c8, rfl, hb8⟩))
      go_ret
      exact ⟨rfl, hb8⟩

set_option maxRecDepth 100000 in
set_option maxHeartbeats 2000000 in
theorem walk101 (K : Kit) (v0 : Value) (L : List ByteArray) (n : Nat) (Z : ByteArray) (w : World) (hL : SliceAt w v0 1 strOne L) (hn : n < 4294967296) (hA : 10 < L.length) (hB : n < 65537) (hC : 1000 < Z.size) :
    Calls Try.prog 5 #[v0, .int .u32 (n : Int), .string Z] w fun e w' => e = .returned (.bool true) ∧ Below w.heap.size w w' := by
  obtain ⟨a, c, rfl, hx⟩ := slice_open hL
  have HX : Hid (L ≠ [] → ∃ b off, a = some ⟨b, off, none⟩ ∧ b < w.heap.size ∧ ∀ i, (h : i < L.length) → w.cell? ⟨b, off + i, none⟩ = some (.string L[i])) := hx
  obtain ⟨m, hm⟩ : ∃ m, L.length = m := ⟨_, rfl⟩
  have HM : Hid (L.length = m) := hm
  rw [hm] at hA
  rw [hm]
  have HN : Hid (Calls Try.prog 7 #[] w fun e w' => ∃ g F, e = .returned (.pointer (some ⟨g, 0, none⟩)) ∧ On K g ⟨[], false⟩ w w' F ∧ (∀ i, F i → w.heap.size ≤ i) ∧ Below w.heap.size w w') := kit_new K w w (Below.refl _ _)
  clear hm hx hL
  go_enter Try.func5, Try.ntmps5
  go_wp2_with (go_at_call 7; go_must (refine HN.out.mono ?_))
  rintro e w1 ⟨g, F, rfl, hO, -, -⟩
  have HO : Hid (On K g ⟨[], false⟩ w w1 F) := hO
  clear hO
  go_wp2_with (go_at_call 16; go_must (refine (works7_any K _).mono ?_; rintro e w2 ⟨rfl, hw2⟩))
  go_loopw [8, 9, 10] (fun al wn i wr => ∃ (j : Nat) (T : List (List UInt8)) (F : Nat → Prop), j ≤ 10 ∧ i = .int .i64 j ∧ al = .string (bytesOf (packets T)) ∧ T.length ≤ j ∧ Hid (∀ s ∈ T, s.length ≤ 2000) ∧ OwnT wr w.heap.size wn T ∧ Apart F wn ∧ On K g ⟨[], false⟩ w wr F) (fun _ _ i _ => 10 - (intOf i).toNat)
  case atStart => exact ⟨0, [], F, Nat.zero_le _, rfl, rfl, Nat.le_refl _, (fun s hs => (by cases hs) : ∀ s ∈ ([] : List (List UInt8)), s.length ≤ 2000), World.ownsRow_nil _ _ _ _, Apart.nil _, HO.out.stays hw2⟩
  case round =>
    obtain ⟨j, T, F, hj, rfl, rfl, hT, HT, hW, hAp, hO⟩ := hrel
    obtain ⟨A, hAA⟩ : ∃ A, bytesOf (packets T) = A := ⟨_, rfl⟩
    have HA : Hid (bytesOf (packets T) = A) := hAA
    have hAs : A.size ≤ 20040 := by
      have h1 := packets_le T HT.out
      have h2 : A.size = (packets T).length := by rw [← hAA]; rfl
      omega
    rw [hAA]
    have HO1 : Hid (On K g ⟨[], false⟩ w wr F) := hO
    have HW : Hid (OwnT wr w.heap.size u9 T) := hW
    have HAp : Hid (Apart F u9) := hAp
    have hsz1 : w.heap.size ≤ wr.heap.size := hO.below.size
    clear hAA hO hW hAp HO
    by_cases hlt : j < 10
    · have hlm : j < m := by omega
      have hlL : j < L.length := by rw [HM.out]; exact hlm
      obtain ⟨b, off, rfl, hbl, hcells⟩ := HX.out (fun e => by rw [e] at hlL; simp at hlL)
      obtain ⟨s, hs⟩ : ∃ s, L[j] = s := ⟨_, rfl⟩
      have HQ : Hid (∀ u : World, Below w.heap.size w u → u.cell? ⟨b, off + j, none⟩ = some (.string s)) := fun u hu => by
        rw [hu.cell (p := ⟨b, off + j, none⟩) hbl, hcells j hlL, hs]
      have qc := HQ.out wr HO1.out.below
      have hlI : (j : Int) < (m : Int) := by omega
      have h10I : (j : Int) < 10 := by omega
      clear hcells hs hlL hbl
      by_cases hl : 2000 < s.size
      · have hl' : (2000 : Int) < (s.size : Int) := by omega
        go_wp2_with fail
        go_roundw
        case rel => exact ⟨j + 1, T, F, by omega, by go_num, by rw [HA.out], by omega, HT, HW.out, HAp.out, HO1.out⟩
        case measure => simp [intOf]; omega
      · have hl' : ¬ ((2000 : Int) < (s.size : Int)) := by omega
        obtain ⟨P, hP⟩ : ∃ P, packS s = P := ⟨_, rfl⟩
        have hP2 : P = bytesOf (packet s.data.toList) := by rw [← hP]; exact (pack_short s (by omega)).1
        have hPs : P.size ≤ 2004 := by
          rw [hP2, bytesOf_size, packet_len]
          show 4 + s.size ≤ _
          omega
        have HPk : Hid (∀ u : World, Calls Try.prog 14 #[.string s] u fun e w' => e = .returned (.tuple #[.string P, .int .i64 0]) ∧ Below u.heap.size u w') := fun u => by
          have h := K.packet s u
          rw [hP, (pack_short s (by omega)).2] at h
          exact h
        have HA2 : Hid (bytesOf (packets (T ++ [s.data.toList])) = A ++ P) := (by rw [packets_snoc, ← HA.out, app_of, hP2]; rfl : _ = _)
        have HT2 : Hid (∀ t ∈ T ++ [s.data.toList], t.length ≤ 2000) := fun t ht => by
          rcases List.mem_append.1 ht with h | h
          · exact HT.out t h
          · rw [List.mem_singleton.1 h]
            show s.size ≤ 2000
            omega
        clear hP hP2
        go_wp2_with (first
          | (go_at_call 14; go_must (refine (HPk.out _).mono ?_; rintro e w3 ⟨rfl, hw3⟩); have HO3 : Hid (On K g ⟨[], false⟩ w w3 F) := HO1.out.stays hw3; have HW3 : Hid (OwnT w3 w.heap.size u9 T) := HW.out.kept hw3; have qc3 := HQ.out w3 HO3.out.below; have hsz3 : w.heap.size ≤ w3.heap.size := HO3.out.below.size; clear hw3)
          | (at_builtin; go_must (refine wpList_texts rfl _ _ rfl w.heap.size 0 u9 (.slice (some ⟨w3.heap.size, 0, none⟩) 1 1) T [s.data.toList] _ rfl (HW3.out.kept ((Below.refl _ _).alloc (Nat.le_refl _) _)) rfl (RowS.one w3 s) (by simp; omega) (by simp; omega) ?_)))
        intro v' w4 hown4 hgrow4 hat4
        have ⟨hO4, hA4⟩ := (HO3.out.stays ((Below.refl _ _).alloc (Nat.le_refl _) _)).grow (HW3.out.kept ((Below.refl _ _).alloc (Nat.le_refl _) _)) HAp.out hgrow4 (v' := v') hat4 (by simp)
        have H4 : Hid (OwnT w4 w.heap.size v' (T ++ [s.data.toList]) ∧ On K g ⟨[], false⟩ w w4 F ∧ Apart F v') := ⟨hown4, hO4, hA4⟩
        clear hown4 hgrow4 hat4 hO4 hA4
        go_wp2_with fail
        go_roundw
        case rel => exact ⟨j + 1, T ++ [s.data.toList], F, by omega, by go_num, by rw [HA2.out], by simp; omega, HT2, H4.out.1, H4.out.2.2, H4.out.2.1⟩
        case measure => simp [intOf]; omega
    · have h1I : (j : Int) < (m : Int) := by omega
      have h2I : ¬ ((j : Int) < 10) := by omega
      have HTL : Hid (T.length ≤ 10) := (by omega : T.length ≤ 10)
      have hmx : (n : Int) < 65537 := by omega
      obtain ⟨P4, hP4⟩ : ∃ P4, strOfNums [0, 1, 0, 1] = P4 := ⟨_, rfl⟩
      have hc := convert4 wr 0 1 0 1
      rw [hP4] at hc
      have hP4' : P4 = bytesOf (pk4 65537) := by rw [← hP4]; rfl
      have hP4s : P4.size = 4 := by rw [hP4']; rfl
      have hZ : (1000 : Int) < (Z.size : Int) := by omega
      have hzl : (Z.extract 0 1000).size ≤ 1000 := by rw [ByteArray.size_extract]; omega
      have HAL : Hid ((A ++ P4 ++ Z.extract 0 1000).data.toList = packets T ++ (pk4 65537 ++ (Z.extract 0 1000).data.toList)) := (by
        rw [app_list, app_list, ← HA.out, hP4', bytesOf_list, bytesOf_list, List.append_assoc] : _ = _)
      have hcut : cut (packets T ++ (pk4 65537 ++ (Z.extract 0 1000).data.toList)) = ⟨T, [], true⟩ := by
        rw [cut_packets _ T (fun s hs => Nat.le_trans (HT.out s hs) (by decide)), cut_great (by rw [List.length_append, pk4_len]; omega) (by rw [be4_pk4 (by omega)]; omega)]
        simp
      have hfb := Behind.new.feedBad (b := packets T ++ (pk4 65537 ++ (Z.extract 0 1000).data.toList)) (by
        rw [List.length_append, List.length_append, pk4_len]
        have h1 := packets_le T HT.out
        have h2 := HTL.out
        have h3 : (Z.extract 0 1000).data.toList.length = (Z.extract 0 1000).size := rfl
        omega) (by rw [List.nil_append, hcut])
      rw [List.nil_append, hcut, show cut [] = ⟨[], [], false⟩ from rfl, List.nil_append] at hfb
      have HO2 : On K g ⟨[], false⟩ w (wr.alloc (.cells #[.int .u8 0, .int .u8 1, .int .u8 0, .int .u8 1] 5)) F := HO1.out.stays ((Below.refl _ _).alloc (Nat.le_refl _) _)
      have HW2 : OwnT (wr.alloc (.cells #[.int .u8 0, .int .u8 1, .int .u8 0, .int .u8 1] 5)) w.heap.size u9 T := HW.out.kept ((Below.refl _ _).alloc (Nat.le_refl _) _)
      have HD : Hid (Calls Try.prog 9 #[.pointer (some ⟨g, 0, none⟩), .string (A ++ P4 ++ Z.extract 0 1000)] (wr.alloc (.cells #[.int .u8 0, .int .u8 1, .int .u8 0, .int .u8 1] 5)) fun e w' => ∃ v F', e = .returned (.tuple #[v, .int .i64 70]) ∧ StrsAt w' v T ∧ StrsAt w' u9 T ∧ On K g ⟨[], true⟩ w w' F') := (HO2.feed (A ++ P4 ++ Z.extract 0 1000)).mono fun e w' ⟨v, F', h1, h2, h3, h4, h5, _⟩ => by
        rw [HAL.out, hfb.2.1] at h1
        rw [HAL.out, ← hfb.2.2] at h2
        rw [HAL.out, hfb.1] at h3
        exact ⟨v, F', h1, h2.strs, (HW2.fed HAp.out h4 h5).1.strs, h3⟩
      clear hP4 hP4' hcut hfb HO2 HW2 hlt hT hj
      obtain ⟨P5, hP5⟩ : ∃ P5, packS { data := #[120] } = P5 := ⟨_, rfl⟩
      obtain ⟨E5, hE5⟩ : ∃ E5, packE { data := #[120] } = E5 := ⟨_, rfl⟩
      have HP5 : Hid (∀ u : World, Calls Try.prog 14 #[.string { data := #[120] }] u fun e w' => e = .returned (.tuple #[.string P5, .int .i64 E5]) ∧ Below u.heap.size u w') := fun u => hP5 ▸ hE5 ▸ K.packet { data := #[120] } u
      clear hP5 hE5
      go_wp2_with (go_at_call 9; go_must (refine HD.out.mono ?_))
      rintro e w3 v3 rfl h31 h32 F3 hO3
      have HSm : Hid (Calls Try.prog 11 #[v3, u9] w3 fun e w' => e = .returned (.bool true) ∧ ∃ n, w' = w3.drewN n) := sameTexts_true v3 u9 T w3 h31 h32
      have HBd : Hid (∀ n, Calls Try.prog 13 #[.pointer (some ⟨g, 0, none⟩)] (w3.drewN n) fun e w' => e = .returned (.bool true) ∧ ∃ k, w' = (w3.drewN n).drewN k) := fun n => (hO3.draws n).bad
      have HLf : Hid (∀ n, Calls Try.prog 12 #[.pointer (some ⟨g, 0, none⟩)] (w3.drewN n) fun e w' => e = .returned (.int .i64 0) ∧ ∃ k, w' = (w3.drewN n).drewN k) := fun n => (hO3.draws n).left
      have HO3 : Hid (On K g ⟨[], true⟩ w w3 F3) := hO3
      clear h31 h32 hO3 HD hc
      go_wp2_with (first
        | (go_at_call 11; go_must (refine HSm.out.mono ?_; rintro e w4 ⟨rfl, n4, rfl⟩))
        | (go_at_call 13; go_must (refine (HBd.out _).mono ?_; rintro e w5 ⟨rfl, n5, rfl⟩))
        | (go_at_call 12; go_must (refine (HLf.out _).mono ?_; rintro e w6 ⟨rfl, n6, rfl⟩))
        | (go_at_call 14; go_must (refine (HP5.out _).mono ?_; rintro e w7 ⟨rfl, hw7⟩)))
      have hO7 : On K g ⟨[], true⟩ w w7 F3 := (HO3.out.draws _).stays hw7
      have HD2 : Hid (Calls Try.prog 9 #[.pointer (some ⟨g, 0, none⟩), .string P5] w7 fun e w' => ∃ a c, e = .returned (.tuple #[.slice a 0 c, .int .i64 70]) ∧ Below w.heap.size w w') := (hO7.feed P5).mono fun e w' ⟨v, F', h1, h2, h3, _⟩ => by
        obtain ⟨a, c, rfl, -, -, -, -⟩ := h2
        exact ⟨a, c, h1, h3.below⟩
      clear hO7 hw7
      go_wp2_with (go_at_call 9; go_must (refine HD2.out.mono ?_; rintro e w8 ⟨a8, c8, rfl, hb8⟩))
      go_ret
      exact ⟨rfl, hb8⟩

set_option maxRecDepth 100000 in
set_option maxHeartbeats 2000000 in
theorem walk110 (K : Kit) (v0 : Value) (L : List ByteArray) (n : Nat) (Z : ByteArray) (w : World) (hL : SliceAt w v0 1 strOne L) (hn : n < 4294967296) (hA : 10 < L.length) (hB : 65537 ≤ n) (hC : Z.size ≤ 1000) :
    Calls Try.prog 5 #[v0, .int .u32 (n : Int), .string Z] w fun e w' => e = .returned (.bool true) ∧ Below w.heap.size w w' := by
  obtain ⟨a, c, rfl, hx⟩ := slice_open hL
  have HX : Hid (L ≠ [] → ∃ b off, a = some ⟨b, off, none⟩ ∧ b < w.heap.size ∧ ∀ i, (h : i < L.length) → w.cell? ⟨b, off + i, none⟩ = some (.string L[i])) := hx
  obtain ⟨m, hm⟩ : ∃ m, L.length = m := ⟨_, rfl⟩
  have HM : Hid (L.length = m) := hm
  rw [hm] at hA
  rw [hm]
  have HN : Hid (Calls Try.prog 7 #[] w fun e w' => ∃ g F, e = .returned (.pointer (some ⟨g, 0, none⟩)) ∧ On K g ⟨[], false⟩ w w' F ∧ (∀ i, F i → w.heap.size ≤ i) ∧ Below w.heap.size w w') := kit_new K w w (Below.refl _ _)
  clear hm hx hL
  go_enter Try.func5, Try.ntmps5
  go_wp2_with (go_at_call 7; go_must (refine HN.out.mono ?_))
  rintro e w1 ⟨g, F, rfl, hO, -, -⟩
  have HO : Hid (On K g ⟨[], false⟩ w w1 F) := hO
  clear hO
  go_wp2_with (go_at_call 16; go_must (refine (works7_any K _).mono ?_; rintro e w2 ⟨rfl, hw2⟩))
  go_loopw [8, 9, 10] (fun al wn i wr => ∃ (j : Nat) (T : List (List UInt8)) (F : Nat → Prop), j ≤ 10 ∧ i = .int .i64 j ∧ al = .string (bytesOf (packets T)) ∧ T.length ≤ j ∧ Hid (∀ s ∈ T, s.length ≤ 2000) ∧ OwnT wr w.heap.size wn T ∧ Apart F wn ∧ On K g ⟨[], false⟩ w wr F) (fun _ _ i _ => 10 - (intOf i).toNat)
  case atStart => exact ⟨0, [], F, Nat.zero_le _, rfl, rfl, Nat.le_refl _, (fun s hs => (by cases hs) : ∀ s ∈ ([] : List (List UInt8)), s.length ≤ 2000), World.ownsRow_nil _ _ _ _, Apart.nil _, HO.out.stays hw2⟩
  case round =>
    obtain ⟨j, T, F, hj, rfl, rfl, hT, HT, hW, hAp, hO⟩ := hrel
    obtain ⟨A, hAA⟩ : ∃ A, bytesOf (packets T) = A := ⟨_, rfl⟩
    have HA : Hid (bytesOf (packets T) = A) := hAA
    have hAs : A.size ≤ 20040 := by
      have h1 := packets_le T HT.out
      have h2 : A.size = (packets T).length := by rw [← hAA]; rfl
      omega
    rw [hAA]
    have HO1 : Hid (On K g ⟨[], false⟩ w wr F) := hO
    have HW : Hid (OwnT wr w.heap.size u9 T) := hW
    have HAp : Hid (Apart F u9) := hAp
    have hsz1 : w.heap.size ≤ wr.heap.size := hO.below.size
    clear hAA hO hW hAp HO
    by_cases hlt : j < 10
    · have hlm : j < m := by omega
      have hlL : j < L.length := by rw [HM.out]; exact hlm
      obtain ⟨b, off, rfl, hbl, hcells⟩ := HX.out (fun e => by rw [e] at hlL; simp at hlL)
      obtain ⟨s, hs⟩ : ∃ s, L[j] = s := ⟨_, rfl⟩
      have HQ : Hid (∀ u : World, Below w.heap.size w u → u.cell? ⟨b, off + j, none⟩ = some (.string s)) := fun u hu => by
        rw [hu.cell (p := ⟨b, off + j, none⟩) hbl, hcells j hlL, hs]
      have qc := HQ.out wr HO1.out.below
      have hlI : (j : Int) < (m : Int) := by omega
      have h10I : (j : Int) < 10 := by omega
      clear hcells hs hlL hbl
      by_cases hl : 2000 < s.size
      · have hl' : (2000 : Int) < (s.size : Int) := by omega
        go_wp2_with fail
        go_roundw
        case rel => exact ⟨j + 1, T, F, by omega, by go_num, by rw [HA.out], by omega, HT, HW.out, HAp.out, HO1.out⟩
        case measure => simp [intOf]; omega
      · have hl' : ¬ ((2000 : Int) < (s.size : Int)) := by omega
        obtain ⟨P, hP⟩ : ∃ P, packS s = P := ⟨_, rfl⟩
        have hP2 : P = bytesOf (packet s.data.toList) := by rw [← hP]; exact (pack_short s (by omega)).1
        have hPs : P.size ≤ 2004 := by
          rw [hP2, bytesOf_size, packet_len]
          show 4 + s.size ≤ _
          omega
        have HPk : Hid (∀ u : World, Calls Try.prog 14 #[.string s] u fun e w' => e = .returned (.tuple #[.string P, .int .i64 0]) ∧ Below u.heap.size u w') := fun u => by
          have h := K.packet s u
          rw [hP, (pack_short s (by omega)).2] at h
          exact h
        have HA2 : Hid (bytesOf (packets (T ++ [s.data.toList])) = A ++ P) := (by rw [packets_snoc, ← HA.out, app_of, hP2]; rfl : _ = _)
        have HT2 : Hid (∀ t ∈ T ++ [s.data.toList], t.length ≤ 2000) := fun t ht => by
          rcases List.mem_append.1 ht with h | h
          · exact HT.out t h
          · rw [List.mem_singleton.1 h]
            show s.size ≤ 2000
            omega
        clear hP hP2
        go_wp2_with (first
          | (go_at_call 14; go_must (refine (HPk.out _).mono ?_; rintro e w3 ⟨rfl, hw3⟩); have HO3 : Hid (On K g ⟨[], false⟩ w w3 F) := HO1.out.stays hw3; have HW3 : Hid (OwnT w3 w.heap.size u9 T) := HW.out.kept hw3; have qc3 := HQ.out w3 HO3.out.below; have hsz3 : w.heap.size ≤ w3.heap.size := HO3.out.below.size; clear hw3)
          | (at_builtin; go_must (refine wpList_texts rfl _ _ rfl w.heap.size 0 u9 (.slice (some ⟨w3.heap.size, 0, none⟩) 1 1) T [s.data.toList] _ rfl (HW3.out.kept ((Below.refl _ _).alloc (Nat.le_refl _) _)) rfl (RowS.one w3 s) (by simp; omega) (by simp; omega) ?_)))
        intro v' w4 hown4 hgrow4 hat4
        have ⟨hO4, hA4⟩ := (HO3.out.stays ((Below.refl _ _).alloc (Nat.le_refl _) _)).grow (HW3.out.kept ((Below.refl _ _).alloc (Nat.le_refl _) _)) HAp.out hgrow4 (v' := v') hat4 (by simp)
        have H4 : Hid (OwnT w4 w.heap.size v' (T ++ [s.data.toList]) ∧ On K g ⟨[], false⟩ w w4 F ∧ Apart F v') := ⟨hown4, hO4, hA4⟩
        clear hown4 hgrow4 hat4 hO4 hA4
        go_wp2_with fail
        go_roundw
        case rel => exact ⟨j + 1, T ++ [s.data.toList], F, by omega, by go_num, by rw [HA2.out], by simp; omega, HT2, H4.out.1, H4.out.2.2, H4.out.2.1⟩
        case measure => simp [intOf]; omega
    · have h1I : (j : Int) < (m : Int) := by omega
      have h2I : ¬ ((j : Int) < 10) := by omega
      have HTL : Hid (T.length ≤ 10) := (by omega : T.length ≤ 10)
      have hmx : (65537 : Int) ≤ (n : Int) := by omega
      obtain ⟨P4, hP4⟩ : ∃ P4, strOfNums [((n : Int) / 16777216), ((n : Int) / 65536 % 256), ((n : Int) / 256 % 256), ((n : Int) % 256)] = P4 := ⟨_, rfl⟩
      have hc := convert4 wr ((n : Int) / 16777216) ((n : Int) / 65536 % 256) ((n : Int) / 256 % 256) ((n : Int) % 256)
      rw [hP4] at hc
      have hP4' : P4 = bytesOf (pk4 n) := by rw [← hP4]; exact pk4_nums n
      have hP4s : P4.size = 4 := by rw [hP4']; rfl
      have hZ : ¬ ((1000 : Int) < (Z.size : Int)) := by omega
      have hzl : Z.size ≤ 1000 := hC
      have HAL : Hid ((A ++ P4 ++ Z).data.toList = packets T ++ (pk4 n ++ (Z).data.toList)) := (by
        rw [app_list, app_list, ← HA.out, hP4', bytesOf_list, bytesOf_list, List.append_assoc] : _ = _)
      have hcut : cut (packets T ++ (pk4 n ++ (Z).data.toList)) = ⟨T, [], true⟩ := by
        rw [cut_packets _ T (fun s hs => Nat.le_trans (HT.out s hs) (by decide)), cut_great (by rw [List.length_append, pk4_len]; omega) (by rw [be4_pk4 (by omega)]; omega)]
        simp
      have hfb := Behind.new.feedBad (b := packets T ++ (pk4 n ++ (Z).data.toList)) (by
        rw [List.length_append, List.length_append, pk4_len]
        have h1 := packets_le T HT.out
        have h2 := HTL.out
        have h3 : (Z).data.toList.length = (Z).size := rfl
        omega) (by rw [List.nil_append, hcut])
      rw [List.nil_append, hcut, show cut [] = ⟨[], [], false⟩ from rfl, List.nil_append] at hfb
      have HO2 : On K g ⟨[], false⟩ w (wr.alloc (.cells #[.int .u8 ((n : Int) / 16777216), .int .u8 ((n : Int) / 65536 % 256), .int .u8 ((n : Int) / 256 % 256), .int .u8 ((n : Int) % 256)] 5)) F := HO1.out.stays ((Below.refl _ _).alloc (Nat.le_refl _) _)
      have HW2 : OwnT (wr.alloc (.cells #[.int .u8 ((n : Int) / 16777216), .int .u8 ((n : Int) / 65536 % 256), .int .u8 ((n : Int) / 256 % 256), .int .u8 ((n : Int) % 256)] 5)) w.heap.size u9 T := HW.out.kept ((Below.refl _ _).alloc (Nat.le_refl _) _)
      have HD : Hid (Calls Try.prog 9 #[.pointer (some ⟨g, 0, none⟩), .string (A ++ P4 ++ Z)] (wr.alloc (.cells #[.int .u8 ((n : Int) / 16777216), .int .u8 ((n : Int) / 65536 % 256), .int .u8 ((n : Int) / 256 % 256), .int .u8 ((n : Int) % 256)] 5)) fun e w' => ∃ v F', e = .returned (.tuple #[v, .int .i64 70]) ∧ StrsAt w' v T ∧ StrsAt w' u9 T ∧ On K g ⟨[], true⟩ w w' F') := (HO2.feed (A ++ P4 ++ Z)).mono fun e w' ⟨v, F', h1, h2, h3, h4, h5, _⟩ => by
        rw [HAL.out, hfb.2.1] at h1
        rw [HAL.out, ← hfb.2.2] at h2
        rw [HAL.out, hfb.1] at h3
        exact ⟨v, F', h1, h2.strs, (HW2.fed HAp.out h4 h5).1.strs, h3⟩
      clear hP4 hP4' hcut hfb HO2 HW2 hlt hT hj
      obtain ⟨P5, hP5⟩ : ∃ P5, packS { data := #[120] } = P5 := ⟨_, rfl⟩
      obtain ⟨E5, hE5⟩ : ∃ E5, packE { data := #[120] } = E5 := ⟨_, rfl⟩
      have HP5 : Hid (∀ u : World, Calls Try.prog 14 #[.string { data := #[120] }] u fun e w' => e = .returned (.tuple #[.string P5, .int .i64 E5]) ∧ Below u.heap.size u w') := fun u => hP5 ▸ hE5 ▸ K.packet { data := #[120] } u
      clear hP5 hE5
      go_wp2_with (go_at_call 9; go_must (refine HD.out.mono ?_))
      rintro e w3 v3 rfl h31 h32 F3 hO3
      have HSm : Hid (Calls Try.prog 11 #[v3, u9] w3 fun e w' => e = .returned (.bool true) ∧ ∃ n, w' = w3.drewN n) := sameTexts_true v3 u9 T w3 h31 h32
      have HBd : Hid (∀ n, Calls Try.prog 13 #[.pointer (some ⟨g, 0, none⟩)] (w3.drewN n) fun e w' => e = .returned (.bool true) ∧ ∃ k, w' = (w3.drewN n).drewN k) := fun n => (hO3.draws n).bad
      have HLf : Hid (∀ n, Calls Try.prog 12 #[.pointer (some ⟨g, 0, none⟩)] (w3.drewN n) fun e w' => e = .returned (.int .i64 0) ∧ ∃ k, w' = (w3.drewN n).drewN k) := fun n => (hO3.draws n).left
      have HO3 : Hid (On K g ⟨[], true⟩ w w3 F3) := hO3
      clear h31 h32 hO3 HD hc
      go_wp2_with (first
        | (go_at_call 11; go_must (refine HSm.out.mono ?_; rintro e w4 ⟨rfl, n4, rfl⟩))
        | (go_at_call 13; go_must (refine (HBd.out _).mono ?_; rintro e w5 ⟨rfl, n5, rfl⟩))
        | (go_at_call 12; go_must (refine (HLf.out _).mono ?_; rintro e w6 ⟨rfl, n6, rfl⟩))
        | (go_at_call 14; go_must (refine (HP5.out _).mono ?_; rintro e w7 ⟨rfl, hw7⟩)))
      have hO7 : On K g ⟨[], true⟩ w w7 F3 := (HO3.out.draws _).stays hw7
      have HD2 : Hid (Calls Try.prog 9 #[.pointer (some ⟨g, 0, none⟩), .string P5] w7 fun e w' => ∃ a c, e = .returned (.tuple #[.slice a 0 c, .int .i64 70]) ∧ Below w.heap.size w w') := (hO7.feed P5).mono fun e w' ⟨v, F', h1, h2, h3, _⟩ => by
        obtain ⟨a, c, rfl, -, -, -, -⟩ := h2
        exact ⟨a, c, h1, h3.below⟩
      clear hO7 hw7
      go_wp2_with (go_at_call 9; go_must (refine HD2.out.mono ?_; rintro e w8 ⟨a8, c8, rfl, hb8⟩))
      go_ret
      exact ⟨rfl, hb8⟩

set_option maxRecDepth 100000 in
set_option maxHeartbeats 2000000 in
theorem walk111 (K : Kit) (v0 : Value) (L : List ByteArray) (n : Nat) (Z : ByteArray) (w : World) (hL : SliceAt w v0 1 strOne L) (hn : n < 4294967296) (hA : 10 < L.length) (hB : 65537 ≤ n) (hC : 1000 < Z.size) :
    Calls Try.prog 5 #[v0, .int .u32 (n : Int), .string Z] w fun e w' => e = .returned (.bool true) ∧ Below w.heap.size w w' := by
  obtain ⟨a, c, rfl, hx⟩ := slice_open hL
  have HX : Hid (L ≠ [] → ∃ b off, a = some ⟨b, off, none⟩ ∧ b < w.heap.size ∧ ∀ i, (h : i < L.length) → w.cell? ⟨b, off + i, none⟩ = some (.string L[i])) := hx
  obtain ⟨m, hm⟩ : ∃ m, L.length = m := ⟨_, rfl⟩
  have HM : Hid (L.length = m) := hm
  rw [hm] at hA
  rw [hm]
  have HN : Hid (Calls Try.prog 7 #[] w fun e w' => ∃ g F, e = .returned (.pointer (some ⟨g, 0, none⟩)) ∧ On K g ⟨[], false⟩ w w' F ∧ (∀ i, F i → w.heap.size ≤ i) ∧ Below w.heap.size w w') := kit_new K w w (Below.refl _ _)
  clear hm hx hL
  go_enter Try.func5, Try.ntmps5
  go_wp2_with (go_at_call 7; go_must (refine HN.out.mono ?_))
  rintro e w1 ⟨g, F, rfl, hO, -, -⟩
  have HO : Hid (On K g ⟨[], false⟩ w w1 F) := hO
  clear hO
  go_wp2_with (go_at_call 16; go_must (refine (works7_any K _).mono ?_; rintro e w2 ⟨rfl, hw2⟩))
  go_loopw [8, 9, 10] (fun al wn i wr => ∃ (j : Nat) (T : List (List UInt8)) (F : Nat → Prop), j ≤ 10 ∧ i = .int .i64 j ∧ al = .string (bytesOf (packets T)) ∧ T.length ≤ j ∧ Hid (∀ s ∈ T, s.length ≤ 2000) ∧ OwnT wr w.heap.size wn T ∧ Apart F wn ∧ On K g ⟨[], false⟩ w wr F) (fun _ _ i _ => 10 - (intOf i).toNat)
  case atStart => exact ⟨0, [], F, Nat.zero_le _, rfl, rfl, Nat.le_refl _, (fun s hs => (by cases hs) : ∀ s ∈ ([] : List (List UInt8)), s.length ≤ 2000), World.ownsRow_nil _ _ _ _, Apart.nil _, HO.out.stays hw2⟩
  case round =>
    obtain ⟨j, T, F, hj, rfl, rfl, hT, HT, hW, hAp, hO⟩ := hrel
    obtain ⟨A, hAA⟩ : ∃ A, bytesOf (packets T) = A := ⟨_, rfl⟩
    have HA : Hid (bytesOf (packets T) = A) := hAA
    have hAs : A.size ≤ 20040 := by
      have h1 := packets_le T HT.out
      have h2 : A.size = (packets T).length := by rw [← hAA]; rfl
      omega
    rw [hAA]
    have HO1 : Hid (On K g ⟨[], false⟩ w wr F) := hO
    have HW : Hid (OwnT wr w.heap.size u9 T) := hW
    have HAp : Hid (Apart F u9) := hAp
    have hsz1 : w.heap.size ≤ wr.heap.size := hO.below.size
    clear hAA hO hW hAp HO
    by_cases hlt : j < 10
    · have hlm : j < m := by omega
      have hlL : j < L.length := by rw [HM.out]; exact hlm
      obtain ⟨b, off, rfl, hbl, hcells⟩ := HX.out (fun e => by rw [e] at hlL; simp at hlL)
      obtain ⟨s, hs⟩ : ∃ s, L[j] = s := ⟨_, rfl⟩
      have HQ : Hid (∀ u : World, Below w.heap.size w u → u.cell? ⟨b, off + j, none⟩ = some (.string s)) := fun u hu => by
        rw [hu.cell (p := ⟨b, off + j, none⟩) hbl, hcells j hlL, hs]
      have qc := HQ.out wr HO1.out.below
      have hlI : (j : Int) < (m : Int) := by omega
      have h10I : (j : Int) < 10 := by omega
      clear hcells hs hlL hbl
      by_cases hl : 2000 < s.size
      · have hl' : (2000 : Int) < (s.size : Int) := by omega
        go_wp2_with fail
        go_roundw
        case rel => exact ⟨j + 1, T, F, by omega, by go_num, by rw [HA.out], by omega, HT, HW.out, HAp.out, HO1.out⟩
        case measure => simp [intOf]; omega
      · have hl' : ¬ ((2000 : Int) < (s.size : Int)) := by omega
        obtain ⟨P, hP⟩ : ∃ P, packS s = P := ⟨_, rfl⟩
        have hP2 : P = bytesOf (packet s.data.toList) := by rw [← hP]; exact (pack_short s (by omega)).1
        have hPs : P.size ≤ 2004 := by
          rw [hP2, bytesOf_size, packet_len]
          show 4 + s.size ≤ _
          omega
        have HPk : Hid (∀ u : World, Calls Try.prog 14 #[.string s] u fun e w' => e = .returned (.tuple #[.string P, .int .i64 0]) ∧ Below u.heap.size u w') := fun u => by
          have h := K.packet s u
          rw [hP, (pack_short s (by omega)).2] at h
          exact h
        have HA2 : Hid (bytesOf (packets (T ++ [s.data.toList])) = A ++ P) := (by rw [packets_snoc, ← HA.out, app_of, hP2]; rfl : _ = _)
        have HT2 : Hid (∀ t ∈ T ++ [s.data.toList], t.length ≤ 2000) := fun t ht => by
          rcases List.mem_append.1 ht with h | h
          · exact HT.out t h
          · rw [List.mem_singleton.1 h]
            show s.size ≤ 2000
            omega
        clear hP hP2
        go_wp2_with (first
          | (go_at_call 14; go_must (refine (HPk.out _).mono ?_; rintro e w3 ⟨rfl, hw3⟩); have HO3 : Hid (On K g ⟨[], false⟩ w w3 F) := HO1.out.stays hw3; have HW3 : Hid (OwnT w3 w.heap.size u9 T) := HW.out.kept hw3; have qc3 := HQ.out w3 HO3.out.below; have hsz3 : w.heap.size ≤ w3.heap.size := HO3.out.below.size; clear hw3)
          | (at_builtin; go_must (refine wpList_texts rfl _ _ rfl w.heap.size 0 u9 (.slice (some ⟨w3.heap.size, 0, none⟩) 1 1) T [s.data.toList] _ rfl (HW3.out.kept ((Below.refl _ _).alloc (Nat.le_refl _) _)) rfl (RowS.one w3 s) (by simp; omega) (by simp; omega) ?_)))
        intro v' w4 hown4 hgrow4 hat4
        have ⟨hO4, hA4⟩ := (HO3.out.stays ((Below.refl _ _).alloc (Nat.le_refl _) _)).grow (HW3.out.kept ((Below.refl _ _).alloc (Nat.le_refl _) _)) HAp.out hgrow4 (v' := v') hat4 (by simp)
        have H4 : Hid (OwnT w4 w.heap.size v' (T ++ [s.data.toList]) ∧ On K g ⟨[], false⟩ w w4 F ∧ Apart F v') := ⟨hown4, hO4, hA4⟩
        clear hown4 hgrow4 hat4 hO4 hA4
        go_wp2_with fail
        go_roundw
        case rel => exact ⟨j + 1, T ++ [s.data.toList], F, by omega, by go_num, by rw [HA2.out], by simp; omega, HT2, H4.out.1, H4.out.2.2, H4.out.2.1⟩
        case measure => simp [intOf]; omega
    · have h1I : (j : Int) < (m : Int) := by omega
      have h2I : ¬ ((j : Int) < 10) := by omega
      have HTL : Hid (T.length ≤ 10) := (by omega : T.length ≤ 10)
      have hmx : (65537 : Int) ≤ (n : Int) := by omega
      obtain ⟨P4, hP4⟩ : ∃ P4, strOfNums [((n : Int) / 16777216), ((n : Int) / 65536 % 256), ((n : Int) / 256 % 256), ((n : Int) % 256)] = P4 := ⟨_, rfl⟩
      have hc := convert4 wr ((n : Int) / 16777216) ((n : Int) / 65536 % 256) ((n : Int) / 256 % 256) ((n : Int) % 256)
      rw [hP4] at hc
      have hP4' : P4 = bytesOf (pk4 n) := by rw [← hP4]; exact pk4_nums n
      have hP4s : P4.size = 4 := by rw [hP4']; rfl
      have hZ : (1000 : Int) < (Z.size : Int) := by omega
      have hzl : (Z.extract 0 1000).size ≤ 1000 := by rw [ByteArray.size_extract]; omega
      have HAL : Hid ((A ++ P4 ++ Z.extract 0 1000).data.toList = packets T ++ (pk4 n ++ (Z.extract 0 1000).data.toList)) := (by
        rw [app_list, app_list, ← HA.out, hP4', bytesOf_list, bytesOf_list, List.append_assoc] : _ = _)
      have hcut : cut (packets T ++ (pk4 n ++ (Z.extract 0 1000).data.toList)) = ⟨T, [], true⟩ := by
        rw [cut_packets _ T (fun s hs => Nat.le_trans (HT.out s hs) (by decide)), cut_great (by rw [List.length_append, pk4_len]; omega) (by rw [be4_pk4 (by omega)]; omega)]
        simp
      have hfb := Behind.new.feedBad (b := packets T ++ (pk4 n ++ (Z.extract 0 1000).data.toList)) (by
        rw [List.length_append, List.length_append, pk4_len]
        have h1 := packets_le T HT.out
        have h2 := HTL.out
        have h3 : (Z.extract 0 1000).data.toList.length = (Z.extract 0 1000).size := rfl
        omega) (by rw [List.nil_append, hcut])
      rw [List.nil_append, hcut, show cut [] = ⟨[], [], false⟩ from rfl, List.nil_append] at hfb
      have HO2 : On K g ⟨[], false⟩ w (wr.alloc (.cells #[.int .u8 ((n : Int) / 16777216), .int .u8 ((n : Int) / 65536 % 256), .int .u8 ((n : Int) / 256 % 256), .int .u8 ((n : Int) % 256)] 5)) F := HO1.out.stays ((Below.refl _ _).alloc (Nat.le_refl _) _)
      have HW2 : OwnT (wr.alloc (.cells #[.int .u8 ((n : Int) / 16777216), .int .u8 ((n : Int) / 65536 % 256), .int .u8 ((n : Int) / 256 % 256), .int .u8 ((n : Int) % 256)] 5)) w.heap.size u9 T := HW.out.kept ((Below.refl _ _).alloc (Nat.le_refl _) _)
      have HD : Hid (Calls Try.prog 9 #[.pointer (some ⟨g, 0, none⟩), .string (A ++ P4 ++ Z.extract 0 1000)] (wr.alloc (.cells #[.int .u8 ((n : Int) / 16777216), .int .u8 ((n : Int) / 65536 % 256), .int .u8 ((n : Int) / 256 % 256), .int .u8 ((n : Int) % 256)] 5)) fun e w' => ∃ v F', e = .returned (.tuple #[v, .int .i64 70]) ∧ StrsAt w' v T ∧ StrsAt w' u9 T ∧ On K g ⟨[], true⟩ w w' F') := (HO2.feed (A ++ P4 ++ Z.extract 0 1000)).mono fun e w' ⟨v, F', h1, h2, h3, h4, h5, _⟩ => by
        rw [HAL.out, hfb.2.1] at h1
        rw [HAL.out, ← hfb.2.2] at h2
        rw [HAL.out, hfb.1] at h3
        exact ⟨v, F', h1, h2.strs, (HW2.fed HAp.out h4 h5).1.strs, h3⟩
      clear hP4 hP4' hcut hfb HO2 HW2 hlt hT hj
      obtain ⟨P5, hP5⟩ : ∃ P5, packS { data := #[120] } = P5 := ⟨_, rfl⟩
      obtain ⟨E5, hE5⟩ : ∃ E5, packE { data := #[120] } = E5 := ⟨_, rfl⟩
      have HP5 : Hid (∀ u : World, Calls Try.prog 14 #[.string { data := #[120] }] u fun e w' => e = .returned (.tuple #[.string P5, .int .i64 E5]) ∧ Below u.heap.size u w') := fun u => hP5 ▸ hE5 ▸ K.packet { data := #[120] } u
      clear hP5 hE5
      go_wp2_with (go_at_call 9; go_must (refine HD.out.mono ?_))
      rintro e w3 v3 rfl h31 h32 F3 hO3
      have HSm : Hid (Calls Try.prog 11 #[v3, u9] w3 fun e w' => e = .returned (.bool true) ∧ ∃ n, w' = w3.drewN n) := sameTexts_true v3 u9 T w3 h31 h32
      have HBd : Hid (∀ n, Calls Try.prog 13 #[.pointer (some ⟨g, 0, none⟩)] (w3.drewN n) fun e w' => e = .returned (.bool true) ∧ ∃ k, w' = (w3.drewN n).drewN k) := fun n => (hO3.draws n).bad
      have HLf : Hid (∀ n, Calls Try.prog 12 #[.pointer (some ⟨g, 0, none⟩)] (w3.drewN n) fun e w' => e = .returned (.int .i64 0) ∧ ∃ k, w' = (w3.drewN n).drewN k) := fun n => (hO3.draws n).left
      have HO3 : Hid (On K g ⟨[], true⟩ w w3 F3) := hO3
      clear h31 h32 hO3 HD hc
      go_wp2_with (first
        | (go_at_call 11; go_must (refine HSm.out.mono ?_; rintro e w4 ⟨rfl, n4, rfl⟩))
        | (go_at_call 13; go_must (refine (HBd.out _).mono ?_; rintro e w5 ⟨rfl, n5, rfl⟩))
        | (go_at_call 12; go_must (refine (HLf.out _).mono ?_; rintro e w6 ⟨rfl, n6, rfl⟩))
        | (go_at_call 14; go_must (refine (HP5.out _).mono ?_; rintro e w7 ⟨rfl, hw7⟩)))
      have hO7 : On K g ⟨[], true⟩ w w7 F3 := (HO3.out.draws _).stays hw7
      have HD2 : Hid (Calls Try.prog 9 #[.pointer (some ⟨g, 0, none⟩), .string P5] w7 fun e w' => ∃ a c, e = .returned (.tuple #[.slice a 0 c, .int .i64 70]) ∧ Below w.heap.size w w') := (hO7.feed P5).mono fun e w' ⟨v, F', h1, h2, h3, _⟩ => by
        obtain ⟨a, c, rfl, -, -, -, -⟩ := h2
        exact ⟨a, c, h1, h3.below⟩
      clear hO7 hw7
      go_wp2_with (go_at_call 9; go_must (refine HD2.out.mono ?_; rintro e w8 ⟨a8, c8, rfl, hb8⟩))
      go_ret
      exact ⟨rfl, hb8⟩

theorem walk (K : Kit) (v0 : Value) (L : List ByteArray) (n : Nat) (Z : ByteArray) (w : World) (hL : SliceAt w v0 1 strOne L) (hn : n < 4294967296) :
    Calls Try.prog 5 #[v0, .int .u32 (n : Int), .string Z] w fun e w' => e = .returned (.bool true) ∧ Below w.heap.size w w' := by
  by_cases h1 : L.length ≤ 10
  · by_cases h2 : n < 65537
    · by_cases h3 : Z.size ≤ 1000
      · exact walk000 K v0 L n Z w hL hn h1 h2 h3
      · exact walk001 K v0 L n Z w hL hn h1 h2 (by omega)
    · by_cases h3 : Z.size ≤ 1000
      · exact walk010 K v0 L n Z w hL hn h1 (by omega) h3
      · exact walk011 K v0 L n Z w hL hn h1 (by omega) (by omega)
  · by_cases h2 : n < 65537
    · by_cases h3 : Z.size ≤ 1000
      · exact walk100 K v0 L n Z w hL hn (by omega) h2 h3
      · exact walk101 K v0 L n Z w hL hn (by omega) h2 (by omega)
    · by_cases h3 : Z.size ≤ 1000
      · exact walk110 K v0 L n Z w hL hn (by omega) (by omega) h3
      · exact walk111 K v0 L n Z w hL hn (by omega) (by omega) (by omega)

end BadL
end Go.Proofs.Ytddbacphlbaohaa
