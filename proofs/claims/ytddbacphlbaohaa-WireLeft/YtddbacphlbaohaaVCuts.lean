/- The law WireCuts: its walk, for readers that keep their contracts (written by vcuts.py). -/
import Derived.Test.YtddbacphlbaohaaVGrow
import Derived.Test.YtddbacphlbaohaaVLeft
namespace Go.Proofs.Ytddbacphlbaohaa

def intOne (n : Int) : List Value := [.int .i64 n]

theorem slice_ints {w : World} {v0 : Value} {L : List Int} (hL : SliceAt w v0 1 intOne L) : ∃ a c, v0 = .slice a L.length c ∧ (L ≠ [] → ∃ b off, a = some ⟨b, off, none⟩ ∧ b < w.heap.size ∧ ∀ i, (h : i < L.length) → w.cell? ⟨b, off + i, none⟩ = some (.int .i64 L[i])) := by
  obtain ⟨a, c, rfl, -, -, hx⟩ := hL
  refine ⟨a, c, rfl, fun hne => ?_⟩
  obtain ⟨b, off, h1, h2, h3⟩ := hx hne
  refine ⟨b, off, h1, h2, fun i hi => ?_⟩
  have := h3 i hi 0 (.int .i64 L[i]) rfl
  simpa using this

theorem packets_le : ∀ T : List (List UInt8), (∀ s ∈ T, s.length ≤ 2000) → (packets T).length ≤ T.length * 2004
  | [], _ => Nat.le_refl _
  | s :: T, h => by
    have ih := packets_le T fun t ht => h t (List.mem_cons_of_mem _ ht)
    have h1 := h s (List.mem_cons_self ..)
    have e : packets (s :: T) = packet s ++ packets T := rfl
    rw [e, List.length_append, packet_len, List.length_cons]
    omega

theorem cut_all (T : List (List UInt8)) (h : ∀ s ∈ T, s.length ≤ 2000) : cut (packets T) = ⟨T, [], false⟩ := by
  have e := cut_packets [] T fun s hs => Nat.le_trans (h s hs) (by decide)
  rw [List.append_nil] at e
  rw [e, show cut [] = ⟨[], [], false⟩ from rfl]
  simp

theorem wrap_u64n (n : Int) : IntKind.u64.wrap n = n % 18446744073709551616 := by simp [IntKind.wrap, IntKind.bits, IntKind.signed]

theorem pack_short (s : ByteArray) (h : s.size ≤ 65536) : packS s = bytesOf (packet s.data.toList) ∧ packE s = 0 := by
  rw [packS, packE, if_pos h, if_pos h]
  exact ⟨rfl, rfl⟩

/-- what stands behind the beginning of a row of packets -/
theorem begun {T : List (List UInt8)} (hT : ∀ s ∈ T, s.length ≤ 2000) {P R : List UInt8} (h : P ++ R = packets T) : (cut P).bad = false ∧ (cut P).bodies.length ≤ T.length ∧ R.length ≤ T.length * 2004 := by
  have hc := cut_all T hT
  have hg : (cut P).bad = false := cut_good (m := R) (by rw [h, hc])
  have e := cut_on hg R
  rw [h, hc] at e
  injection e with e1 _ _
  have hl := packets_le T hT
  rw [← h, List.length_append] at hl
  refine ⟨hg, ?_, by omega⟩
  have := congrArg List.length e1
  rw [List.length_append] at this
  omega

namespace CutsL
open Go.RowKit

set_option maxRecDepth 100000 in
set_option maxHeartbeats 2000000 in
theorem walkA (K : Kit) (v0 v1 : Value) (L : List ByteArray) (N : List Int) (w : World) (hL : SliceAt w v0 1 strOne L) (hN : SliceAt w v1 1 intOne N) (hA : L.length ≤ 20) (hB : N.length ≤ 100) :
    Calls Try.prog 4 #[v0, v1] w fun e w' => e = .returned (.bool true) ∧ Below w.heap.size w w' := by
  obtain ⟨a, c, rfl, hx⟩ := slice_open hL
  obtain ⟨a', c', rfl, hx'⟩ := slice_ints hN
  have HX : Hid (L ≠ [] → ∃ b off, a = some ⟨b, off, none⟩ ∧ b < w.heap.size ∧ ∀ i, (h : i < L.length) → w.cell? ⟨b, off + i, none⟩ = some (.string L[i])) := hx
  have HX' : Hid (N ≠ [] → ∃ b off, a' = some ⟨b, off, none⟩ ∧ b < w.heap.size ∧ ∀ i, (h : i < N.length) → w.cell? ⟨b, off + i, none⟩ = some (.int .i64 N[i])) := hx'
  obtain ⟨m, hm⟩ : ∃ m, L.length = m := ⟨_, rfl⟩
  obtain ⟨p, hp⟩ : ∃ p, N.length = p := ⟨_, rfl⟩
  have HM : Hid (L.length = m) := hm
  have HP : Hid (N.length = p) := hp
  rw [hm] at hA
  rw [hp] at hB
  rw [hm, hp]
  have HN : Hid (Calls Try.prog 7 #[] w fun e w' => ∃ g F, e = .returned (.pointer (some ⟨g, 0, none⟩)) ∧ On K g ⟨[], false⟩ w w' F ∧ (∀ i, F i → w.heap.size ≤ i) ∧ Below w.heap.size w w') := kit_new K w w (Below.refl _ _)
  clear hm hx hL hp hx' hN
  go_enter Try.func4, Try.ntmps4
  go_wp2_with (go_at_call 7; go_must (refine HN.out.mono ?_))
  rintro e w1 ⟨g, F, rfl, hO, -, -⟩
  have HO : Hid (On K g ⟨[], false⟩ w w1 F) := hO
  clear hO
  go_wp2_with (go_at_call 16; go_must (refine (works7_any K _).mono ?_; rintro e w2 ⟨rfl, hw2⟩))
  go_loopw [6, 7, 8] (fun al wn i wr => ∃ (j : Nat) (T : List (List UInt8)) (F : Nat → Prop), j ≤ m ∧ i = .int .i64 j ∧ al = .string (bytesOf (packets T)) ∧ T.length ≤ j ∧ Hid (∀ s ∈ T, s.length ≤ 2000) ∧ OwnT wr w.heap.size wn T ∧ Apart F wn ∧ On K g ⟨[], false⟩ w wr F) (fun _ _ i _ => m - (intOf i).toNat)
  case atStart => exact ⟨0, [], F, Nat.zero_le _, rfl, rfl, Nat.le_refl _, (fun s hs => (by cases hs) : ∀ s ∈ ([] : List (List UInt8)), s.length ≤ 2000), World.ownsRow_nil _ _ _ _, Apart.nil _, HO.out.stays hw2⟩
  case round =>
    obtain ⟨j, T, F, hj, rfl, rfl, hT, HT, hW, hAp, hO⟩ := hrel
    obtain ⟨A, hAA⟩ : ∃ A, bytesOf (packets T) = A := ⟨_, rfl⟩
    have HA : Hid (bytesOf (packets T) = A) := hAA
    have hAs : A.size ≤ 40080 := by
      have h1 := packets_le T HT.out
      have h2 : A.size = (packets T).length := by rw [← hAA]; rfl
      omega
    rw [hAA]
    have HO1 : Hid (On K g ⟨[], false⟩ w wr F) := hO
    have HW : Hid (OwnT wr w.heap.size u7 T) := hW
    have HAp : Hid (Apart F u7) := hAp
    have hsz1 : w.heap.size ≤ wr.heap.size := hO.below.size
    clear hAA hO hW hAp HO
    by_cases hlt : j < m
    · have hlm : j < m := by omega
      have hlL : j < L.length := by rw [HM.out]; exact hlm
      obtain ⟨b, off, rfl, hbl, hcells⟩ := HX.out (fun e => by rw [e] at hlL; simp at hlL)
      obtain ⟨s, hs⟩ : ∃ s, L[j] = s := ⟨_, rfl⟩
      have HQ : Hid (∀ u : World, Below w.heap.size w u → u.cell? ⟨b, off + j, none⟩ = some (.string s)) := fun u hu => by
        rw [hu.cell (p := ⟨b, off + j, none⟩) hbl, hcells j hlL, hs]
      have qc := HQ.out wr HO1.out.below
      have hlI : (j : Int) < (m : Int) := by omega
      have h20I : (j : Int) < 20 := by omega
      clear hcells hs hlL hbl
      by_cases hl : 2000 < s.size
      · have hl' : (2000 : Int) < (s.size : Int) := by omega
        go_wp2_with fail
        go_roundw
        case rel => exact ⟨j + 1, T, F, by omega, by go_num, by rw [HA.out], by omega, HT, HW.out, HAp.out, HO1.out⟩
        case measure => simp [intOf]; omega
      · have hl' : ¬ ((2000 : Int) < (s.size : Int)) := by omega
        obtain ⟨P, hP⟩ : ∃ P, packS s = P := ⟨_, rfl⟩
        have hP2 : P = bytesOf (packet s.data.toList) := by rw [← hP]; exact (pack_short s (by omega)).1
        have hPs : P.size ≤ 2004 := by
          rw [hP2, bytesOf_size, packet_len]
          show 4 + s.size ≤ _
          omega
        have HPk : Hid (∀ u : World, Calls Try.prog 14 #[.string s] u fun e w' => e = .returned (.tuple #[.string P, .int .i64 0]) ∧ Below u.heap.size u w') := fun u => by
          have h := K.packet s u
          rw [hP, (pack_short s (by omega)).2] at h
          exact h
        have HA2 : Hid (bytesOf (packets (T ++ [s.data.toList])) = A ++ P) := (by rw [packets_snoc, ← HA.out, app_of, hP2]; rfl : _ = _)
        have HT2 : Hid (∀ t ∈ T ++ [s.data.toList], t.length ≤ 2000) := fun t ht => by
          rcases List.mem_append.1 ht with h | h
          · exact HT.out t h
          · rw [List.mem_singleton.1 h]
            show s.size ≤ 2000
            omega
        clear hP hP2
        go_wp2_with (first
          | (go_at_call 14; go_must (refine (HPk.out _).mono ?_; rintro e w3 ⟨rfl, hw3⟩); have HO3 : Hid (On K g ⟨[], false⟩ w w3 F) := HO1.out.stays hw3; have HW3 : Hid (OwnT w3 w.heap.size u7 T) := HW.out.kept hw3; have qc3 := HQ.out w3 HO3.out.below; have hsz3 : w.heap.size ≤ w3.heap.size := HO3.out.below.size; clear hw3)
          | (at_builtin; go_must (refine wpList_texts rfl _ _ rfl w.heap.size 0 u7 (.slice (some ⟨w3.heap.size, 0, none⟩) 1 1) T [s.data.toList] _ rfl (HW3.out.kept ((Below.refl _ _).alloc (Nat.le_refl _) _)) rfl (RowS.one w3 s) (by simp; omega) (by simp; omega) ?_)))
        intro v' w4 hown4 hgrow4 hat4
        have ⟨hO4, hA4⟩ := (HO3.out.stays ((Below.refl _ _).alloc (Nat.le_refl _) _)).grow (HW3.out.kept ((Below.refl _ _).alloc (Nat.le_refl _) _)) HAp.out hgrow4 (v' := v') hat4 (by simp)
        have H4 : Hid (OwnT w4 w.heap.size v' (T ++ [s.data.toList]) ∧ On K g ⟨[], false⟩ w w4 F ∧ Apart F v') := ⟨hown4, hO4, hA4⟩
        clear hown4 hgrow4 hat4 hO4 hA4
        go_wp2_with fail
        go_roundw
        case rel => exact ⟨j + 1, T ++ [s.data.toList], F, by omega, by go_num, by rw [HA2.out], by simp; omega, HT2, H4.out.1, H4.out.2.2, H4.out.2.1⟩
        case measure => simp [intOf]; omega
    · have h1I : ¬ ((j : Int) < (m : Int)) := by omega
      have HBx : Hid (T.length ≤ 20) := (by omega : T.length ≤ 20)
      clear hlt hT hj
      go_wp2_with fail
      go_loopw [6, 11, 12] (fun al gt i wq => ∃ (j2 : Nat) (R P : List UInt8) (r : Rd) (F2 : Nat → Prop), j2 ≤ p ∧ i = .int .i64 j2 ∧ al = .string (bytesOf R) ∧ Hid (P ++ R = packets T) ∧ Hid (Behind P r) ∧ OwnT wq w.heap.size gt (cut P).bodies ∧ Apart F2 gt ∧ OwnT wq w.heap.size u7 T ∧ Apart F2 u7 ∧ Two gt u7 ∧ On K g r w wq F2) (fun _ _ i _ => p - (intOf i).toNat)
      case atStart => exact ⟨0, packets T, [], ⟨[], false⟩, F, Nat.zero_le _, rfl, by rw [HA.out], (rfl : [] ++ packets T = packets T), Behind.new, World.ownsRow_nil _ _ _ _, Apart.nil _, HW.out, HAp.out, Two.nil _, HO1.out⟩
      case round =>
        clear HO1 HW HAp hsz1 hAs HA
        obtain ⟨j2, R, P, r, F2, hj2, rfl, rfl, HPR, HBe, hG, hGa, hW, hWa, hTw, hO⟩ := hrel
        obtain ⟨B, hBB⟩ : ∃ B, bytesOf R = B := ⟨_, rfl⟩
        have hBs : B.size ≤ 40080 := by
          have h1 := (begun HT.out HPR.out).2.2
          have h2 : B.size = R.length := by rw [← hBB]; rfl
          have h3 := HBx.out
          omega
        have HBL : Hid (B.data.toList = R) := (by rw [← hBB]; rfl : _ = _)
        rw [hBB]
        have HS : Hid (OwnT wr w.heap.size u11 (cut P).bodies ∧ Apart F2 u11 ∧ OwnT wr w.heap.size u7 T ∧ Apart F2 u7 ∧ Two u11 u7 ∧ On K g r w wr F2) := ⟨hG, hGa, hW, hWa, hTw, hO⟩
        have hsz1 : w.heap.size ≤ wr.heap.size := hO.below.size
        clear hBB hG hGa hW hWa hTw hO
        by_cases hlt2 : j2 < p
        · have hlp : j2 < p := by omega
          have hlN : j2 < N.length := by rw [HP.out]; exact hlp
          obtain ⟨b, off, rfl, hbl, hcells⟩ := HX'.out (fun e => by rw [e] at hlN; simp at hlN)
          obtain ⟨x, hx⟩ : ∃ x, N[j2] = x := ⟨_, rfl⟩
          have qc : wr.cell? ⟨b, off + j2, none⟩ = some (.int .i64 x) := by
            rw [HS.out.2.2.2.2.2.below.cell (p := ⟨b, off + j2, none⟩) hbl, hcells j2 hlN, hx]
          have hlI : (j2 : Int) < (p : Int) := by omega
          have h100I : (j2 : Int) < 100 := by omega
          clear hcells hx hlN hbl
          obtain ⟨U, hU, hU2⟩ : ∃ U : Nat, x % 18446744073709551616 = (U : Int) ∧ U < 18446744073709551616 := ⟨(x % 18446744073709551616).toNat, by omega, by omega⟩
          obtain ⟨n, hn⟩ : ∃ n, U % (B.size + 1) = n := ⟨_, rfl⟩
          have hn2 : n ≤ B.size := by have h := Nat.mod_lt U (show 0 < B.size + 1 by omega); rw [hn] at h; omega
          have y0 : IntKind.u64.wrap x = (U : Int) := by rw [wrap_u64n]; exact hU
          have y1 : IntKind.i64.wrap ((B.size : Int) + 1) = (B.size : Int) + 1 := wrap_small _ (by omega) (by omega)
          have y2 : IntKind.u64.wrap ((B.size : Int) + 1) = (B.size : Int) + 1 := by rw [wrap_u64n]; omega
          have y3 : (U : Int) % ((B.size : Int) + 1) = (n : Int) := by rw [← hn]; rfl
          have y4 : ¬ ((B.size : Int) + 1 = 0) := by omega
          have y5 : IntKind.i64.wrap (n : Int) = (n : Int) := wrap_small _ (by omega) (by omega)
          have y6 : ((B.size : Int) + 1) % 18446744073709551616 = (B.size : Int) + 1 := by omega
          obtain ⟨X, hX⟩ : ∃ X, B.extract 0 n = X := ⟨_, rfl⟩
          obtain ⟨Y, hY⟩ : ∃ Y, B.extract n B.size = Y := ⟨_, rfl⟩
          have HXL : Hid (X.data.toList = R.take n) := (by rw [← hX, extract_list, HBL.out, List.drop_zero] : _ = _)
          have HYL : Hid (bytesOf (R.drop n) = Y) := (by
            rw [← hY, ext_of B n B.size (R.drop n) (by rw [take_all, HBL.out])] : _ = _)
          have k1 : ∀ u : World, (Instr.slice 9 (.string B) none (some (.int .i64 (n : Int))) none).run Try.prog u = .ok (.string X) u := fun u => by
            have h := run_slice_string_h (P := Try.prog) u 9 B Try.underlying9 .i64 (n : Int) (by omega) (by omega)
            rw [show (n : Int).toNat = n by omega, hX] at h
            exact h
          have k2 : ∀ u : World, (Instr.slice 9 (.string B) (some (.int .i64 (n : Int))) none none).run Try.prog u = .ok (.string Y) u := fun u => by
            have h := run_slice_string_l (P := Try.prog) u 9 B Try.underlying9 .i64 (n : Int) (by omega) (by omega)
            rw [show (n : Int).toNat = n by omega, hY] at h
            exact h
          have hPX : P ++ R.take n ++ R.drop n = packets T := by rw [List.append_assoc, List.take_append_drop]; exact HPR.out
          have hbg := begun HT.out hPX
          have hfd := HBe.out.feed (b := R.take n) (by
            have h1 : (R.take n).length ≤ R.length := by rw [List.length_take]; omega
            have h2 : R.length = B.size := by rw [← HBL.out]; rfl
            omega) hbg.1
          obtain ⟨Bs, hBs2⟩ : ∃ Bs, feedB r (R.take n) = Bs := ⟨_, rfl⟩
          obtain ⟨r2, hr2⟩ : ∃ r2, feedR r (R.take n) = r2 := ⟨_, rfl⟩
          rw [hBs2, hr2] at hfd
          have HFD : Hid (Behind (P ++ R.take n) r2 ∧ (cut (P ++ R.take n)).bodies = (cut P).bodies ++ Bs ∧ (cut (P ++ R.take n)).bodies.length ≤ 20 ∧ P ++ R.take n ++ R.drop n = packets T) := ⟨hfd.1, hfd.2.2, Nat.le_trans hbg.2.1 HBx.out, hPX⟩
          have HD : Hid (Calls Try.prog 9 #[.pointer (some ⟨g, 0, none⟩), .string X] wr fun e w' => ∃ v F', e = .returned (.tuple #[v, .int .i64 0]) ∧ RowS w' wr.heap.size v Bs ∧ OwnT w' w.heap.size u11 (cut P).bodies ∧ Apart F' u11 ∧ OwnT w' w.heap.size u7 T ∧ Apart F' u7 ∧ On K g r2 w w' F') := (HS.out.2.2.2.2.2.feed X).mono fun e w' ⟨v, F', h1, h2, h3, h4, h5, _⟩ => by
            rw [HXL.out, hfd.2.1] at h1
            rw [HXL.out, hBs2] at h2
            rw [HXL.out, hr2] at h3
            have z1 := HS.out.1.fed HS.out.2.1 h4 h5
            have z2 := HS.out.2.2.1.fed HS.out.2.2.2.1 h4 h5
            exact ⟨v, F', h1, h2, z1.1, z1.2, z2.1, z2.2, h3⟩
          have HTW : Hid (Two u11 u7) := HS.out.2.2.2.2.1
          clear hX hY hbg hfd hBs2 hr2 hPX hn hU2
          go_wp2_with (first
            | (go_at_call 9; go_must (refine HD.out.mono ?_; rintro e w3 ⟨v3, F3, rfl, hr3, h31, h32, h33, h34, hO3⟩); have H3 : Hid (RowS w3 wr.heap.size v3 Bs ∧ OwnT w3 w.heap.size u11 (cut P).bodies ∧ Apart F3 u11 ∧ OwnT w3 w.heap.size u7 T ∧ Apart F3 u7 ∧ On K g r2 w w3 F3) := ⟨hr3, h31, h32, h33, h34, hO3⟩; have hsz3 : w.heap.size ≤ w3.heap.size := hO3.below.size; clear hr3 h31 h32 h33 h34 hO3)
            | (at_builtin; go_must (refine wpList_texts rfl _ _ rfl w.heap.size wr.heap.size u11 v3 (cut P).bodies Bs _ rfl H3.out.2.1 rfl H3.out.1 (by have h1 := HFD.out.2.2.1; rw [HFD.out.2.1, List.length_append] at h1; omega) (by omega) ?_)))
          intro v4 w4 hown4 hgrow4 hat4
          have ⟨hO4, hA4⟩ := H3.out.2.2.2.2.2.grow H3.out.2.1 H3.out.2.2.1 hgrow4 (v' := v4) hat4 rfl
          have ⟨hW4, hT4⟩ := H3.out.2.2.2.1.other HTW.out hgrow4 (v' := v4) hat4 rfl
          have H4 : Hid (OwnT w4 w.heap.size v4 ((cut P).bodies ++ Bs) ∧ Apart F3 v4 ∧ OwnT w4 w.heap.size u7 T ∧ Apart F3 u7 ∧ Two v4 u7 ∧ On K g r2 w w4 F3) := ⟨hown4, hA4, hW4, H3.out.2.2.2.2.1, hT4, hO4⟩
          clear hown4 hgrow4 hat4 hO4 hA4 hW4 hT4
          go_wp2_with fail
          go_roundw
          case rel => exact ⟨j2 + 1, R.drop n, P ++ R.take n, r2, F3, by omega, by go_num, by rw [HYL.out], HFD.out.2.2.2, HFD.out.1, by rw [HFD.out.2.1]; exact H4.out.1, H4.out.2.1, H4.out.2.2.1, H4.out.2.2.2.1, H4.out.2.2.2.2.1, H4.out.2.2.2.2.2⟩
          case measure => simp [intOf]; omega
        · have h1J : ¬ ((j2 : Int) < (p : Int)) := by omega
          have hca := cut_all T HT.out
          have hfd := HBe.out.feed (b := R) (by
            have h2 : R.length = B.size := by rw [← HBL.out]; rfl
            omega) (by rw [HPR.out, hca])
          obtain ⟨Bs, hBs2⟩ : ∃ Bs, feedB r R = Bs := ⟨_, rfl⟩
          have hTT : T = (cut P).bodies ++ Bs := by
            have h1 := hfd.2.2
            rw [HPR.out, hca, hBs2] at h1
            exact h1
          have hr2 : feedR r R = ⟨[], false⟩ := by
            have h1 := hfd.1.2
            rw [HPR.out, hca] at h1
            exact h1
          have HTT : Hid (T = (cut P).bodies ++ Bs) := hTT
          have hlen : (cut P).bodies.length + Bs.length ≤ 20 := by
            have h1 := HBx.out
            rw [hTT, List.length_append] at h1
            exact h1
          have HD : Hid (Calls Try.prog 9 #[.pointer (some ⟨g, 0, none⟩), .string B] wr fun e w' => ∃ v F', e = .returned (.tuple #[v, .int .i64 0]) ∧ RowS w' wr.heap.size v Bs ∧ OwnT w' w.heap.size u11 (cut P).bodies ∧ Apart F' u11 ∧ OwnT w' w.heap.size u7 T ∧ On K g ⟨[], false⟩ w w' F') := (HS.out.2.2.2.2.2.feed B).mono fun e w' ⟨v, F', h1, h2, h3, h4, h5, _⟩ => by
            rw [HBL.out, hfd.2.1] at h1
            rw [HBL.out, hBs2] at h2
            rw [HBL.out, hr2] at h3
            have z1 := HS.out.1.fed HS.out.2.1 h4 h5
            have z2 := HS.out.2.2.1.fed HS.out.2.2.2.1 h4 h5
            exact ⟨v, F', h1, h2, z1.1, z1.2, z2.1, h3⟩
          have HTW : Hid (Two u11 u7) := HS.out.2.2.2.2.1
          have HLE : Hid ((cut P).bodies.length + Bs.length ≤ 100000000) := (Nat.le_trans hlen (by decide) : (cut P).bodies.length + Bs.length ≤ 100000000)
          clear hca hfd hBs2 hTT hr2 hlen
          go_wp2_with (first
            | (go_at_call 9; go_must (refine HD.out.mono ?_; rintro e w3 ⟨v3, F3, rfl, hr3, h31, h32, h33, hO3⟩); have H3 : Hid (RowS w3 wr.heap.size v3 Bs ∧ OwnT w3 w.heap.size u11 (cut P).bodies ∧ Apart F3 u11 ∧ OwnT w3 w.heap.size u7 T ∧ On K g ⟨[], false⟩ w w3 F3) := ⟨hr3, h31, h32, h33, hO3⟩; have hsz3 : w.heap.size ≤ w3.heap.size := hO3.below.size; clear hr3 h31 h32 h33 hO3)
            | (at_builtin; go_must (refine wpList_texts rfl _ _ rfl w.heap.size wr.heap.size u11 v3 (cut P).bodies Bs _ rfl H3.out.2.1 rfl H3.out.1 HLE.out (by omega) ?_)))
          rw [← HTT.out]
          intro v4 w4 hown4 hgrow4 hat4
          have ⟨hO4, _⟩ := H3.out.2.2.2.2.grow H3.out.2.1 H3.out.2.2.1 hgrow4 (v' := v4) hat4 rfl
          have ⟨hW4, _⟩ := H3.out.2.2.2.1.other HTW.out hgrow4 (v' := v4) hat4 rfl
          have HO4 : Hid (On K g ⟨[], false⟩ w w4 F3) := hO4
          have HSm : Hid (Calls Try.prog 11 #[v4, u7] w4 fun e w' => e = .returned (.bool true) ∧ ∃ n, w' = w4.drewN n) := sameTexts_true v4 u7 T w4 hown4.strs hW4.strs
          have HLf : Hid (∀ n, Calls Try.prog 12 #[.pointer (some ⟨g, 0, none⟩)] (w4.drewN n) fun e w' => e = .returned (.int .i64 0) ∧ ∃ k, w' = (w4.drewN n).drewN k) := fun n => (hO4.draws n).left
          have HBd : Hid (∀ n, Calls Try.prog 13 #[.pointer (some ⟨g, 0, none⟩)] (w4.drewN n) fun e w' => e = .returned (.bool false) ∧ ∃ k, w' = (w4.drewN n).drewN k) := fun n => (hO4.draws n).bad
          clear hown4 hgrow4 hat4 hO4 hW4
          go_wp2_with (first
            | (go_at_call 11; go_must (refine HSm.out.mono ?_; rintro e w5 ⟨rfl, n5, rfl⟩))
            | (go_at_call 12; go_must (refine (HLf.out _).mono ?_; rintro e w6 ⟨rfl, n6, rfl⟩))
            | (go_at_call 13; go_must (refine (HBd.out _).mono ?_; rintro e w7 ⟨rfl, n7, rfl⟩)))
          go_ret
          exact ⟨rfl, (HO4.out.draws _).below⟩

set_option maxRecDepth 100000 in
set_option maxHeartbeats 2000000 in
theorem walkB (K : Kit) (v0 v1 : Value) (L : List ByteArray) (N : List Int) (w : World) (hL : SliceAt w v0 1 strOne L) (hN : SliceAt w v1 1 intOne N) (hA : L.length ≤ 20) (hB : 100 < N.length) :
    Calls Try.prog 4 #[v0, v1] w fun e w' => e = .returned (.bool true) ∧ Below w.heap.size w w' := by
  obtain ⟨a, c, rfl, hx⟩ := slice_open hL
  obtain ⟨a', c', rfl, hx'⟩ := slice_ints hN
  have HX : Hid (L ≠ [] → ∃ b off, a = some ⟨b, off, none⟩ ∧ b < w.heap.size ∧ ∀ i, (h : i < L.length) → w.cell? ⟨b, off + i, none⟩ = some (.string L[i])) := hx
  have HX' : Hid (N ≠ [] → ∃ b off, a' = some ⟨b, off, none⟩ ∧ b < w.heap.size ∧ ∀ i, (h : i < N.length) → w.cell? ⟨b, off + i, none⟩ = some (.int .i64 N[i])) := hx'
  obtain ⟨m, hm⟩ : ∃ m, L.length = m := ⟨_, rfl⟩
  obtain ⟨p, hp⟩ : ∃ p, N.length = p := ⟨_, rfl⟩
  have HM : Hid (L.length = m) := hm
  have HP : Hid (N.length = p) := hp
  rw [hm] at hA
  rw [hp] at hB
  rw [hm, hp]
  have HN : Hid (Calls Try.prog 7 #[] w fun e w' => ∃ g F, e = .returned (.pointer (some ⟨g, 0, none⟩)) ∧ On K g ⟨[], false⟩ w w' F ∧ (∀ i, F i → w.heap.size ≤ i) ∧ Below w.heap.size w w') := kit_new K w w (Below.refl _ _)
  clear hm hx hL hp hx' hN
  go_enter Try.func4, Try.ntmps4
  go_wp2_with (go_at_call 7; go_must (refine HN.out.mono ?_))
  rintro e w1 ⟨g, F, rfl, hO, -, -⟩
  have HO : Hid (On K g ⟨[], false⟩ w w1 F) := hO
  clear hO
  go_wp2_with (go_at_call 16; go_must (refine (works7_any K _).mono ?_; rintro e w2 ⟨rfl, hw2⟩))
  go_loopw [6, 7, 8] (fun al wn i wr => ∃ (j : Nat) (T : List (List UInt8)) (F : Nat → Prop), j ≤ m ∧ i = .int .i64 j ∧ al = .string (bytesOf (packets T)) ∧ T.length ≤ j ∧ Hid (∀ s ∈ T, s.length ≤ 2000) ∧ OwnT wr w.heap.size wn T ∧ Apart F wn ∧ On K g ⟨[], false⟩ w wr F) (fun _ _ i _ => m - (intOf i).toNat)
  case atStart => exact ⟨0, [], F, Nat.zero_le _, rfl, rfl, Nat.le_refl _, (fun s hs => (by cases hs) : ∀ s ∈ ([] : List (List UInt8)), s.length ≤ 2000), World.ownsRow_nil _ _ _ _, Apart.nil _, HO.out.stays hw2⟩
  case round =>
    obtain ⟨j, T, F, hj, rfl, rfl, hT, HT, hW, hAp, hO⟩ := hrel
    obtain ⟨A, hAA⟩ : ∃ A, bytesOf (packets T) = A := ⟨_, rfl⟩
    have HA : Hid (bytesOf (packets T) = A) := hAA
    have hAs : A.size ≤ 40080 := by
      have h1 := packets_le T HT.out
      have h2 : A.size = (packets T).length := by rw [← hAA]; rfl
      omega
    rw [hAA]
    have HO1 : Hid (On K g ⟨[], false⟩ w wr F) := hO
    have HW : Hid (OwnT wr w.heap.size u7 T) := hW
    have HAp : Hid (Apart F u7) := hAp
    have hsz1 : w.heap.size ≤ wr.heap.size := hO.below.size
    clear hAA hO hW hAp HO
    by_cases hlt : j < m
    · have hlm : j < m := by omega
      have hlL : j < L.length := by rw [HM.out]; exact hlm
      obtain ⟨b, off, rfl, hbl, hcells⟩ := HX.out (fun e => by rw [e] at hlL; simp at hlL)
      obtain ⟨s, hs⟩ : ∃ s, L[j] = s := ⟨_, rfl⟩
      have HQ : Hid (∀ u : World, Below w.heap.size w u → u.cell? ⟨b, off + j, none⟩ = some (.string s)) := fun u hu => by
        rw [hu.cell (p := ⟨b, off + j, none⟩) hbl, hcells j hlL, hs]
      have qc := HQ.out wr HO1.out.below
      have hlI : (j : Int) < (m : Int) := by omega
      have h20I : (j : Int) < 20 := by omega
      clear hcells hs hlL hbl
      by_cases hl : 2000 < s.size
      · have hl' : (2000 : Int) < (s.size : Int) := by omega
        go_wp2_with fail
        go_roundw
        case rel => exact ⟨j + 1, T, F, by omega, by go_num, by rw [HA.out], by omega, HT, HW.out, HAp.out, HO1.out⟩
        case measure => simp [intOf]; omega
      · have hl' : ¬ ((2000 : Int) < (s.size : Int)) := by omega
        obtain ⟨P, hP⟩ : ∃ P, packS s = P := ⟨_, rfl⟩
        have hP2 : P = bytesOf (packet s.data.toList) := by rw [← hP]; exact (pack_short s (by omega)).1
        have hPs : P.size ≤ 2004 := by
          rw [hP2, bytesOf_size, packet_len]
          show 4 + s.size ≤ _
          omega
        have HPk : Hid (∀ u : World, Calls Try.prog 14 #[.string s] u fun e w' => e = .returned (.tuple #[.string P, .int .i64 0]) ∧ Below u.heap.size u w') := fun u => by
          have h := K.packet s u
          rw [hP, (pack_short s (by omega)).2] at h
          exact h
        have HA2 : Hid (bytesOf (packets (T ++ [s.data.toList])) = A ++ P) := (by rw [packets_snoc, ← HA.out, app_of, hP2]; rfl : _ = _)
        have HT2 : Hid (∀ t ∈ T ++ [s.data.toList], t.length ≤ 2000) := fun t ht => by
          rcases List.mem_append.1 ht with h | h
          · exact HT.out t h
          · rw [List.mem_singleton.1 h]
            show s.size ≤ 2000
            omega
        clear hP hP2
        go_wp2_with (first
          | (go_at_call 14; go_must (refine (HPk.out _).mono ?_; rintro e w3 ⟨rfl, hw3⟩); have HO3 : Hid (On K g ⟨[], false⟩ w w3 F) := HO1.out.stays hw3; have HW3 : Hid (OwnT w3 w.heap.size u7 T) := HW.out.kept hw3; have qc3 := HQ.out w3 HO3.out.below; have hsz3 : w.heap.size ≤ w3.heap.size := HO3.out.below.size; clear hw3)
          | (at_builtin; go_must (refine wpList_texts rfl _ _ rfl w.heap.size 0 u7 (.slice (some ⟨w3.heap.size, 0, none⟩) 1 1) T [s.data.toList] _ rfl (HW3.out.kept ((Below.refl _ _).alloc (Nat.le_refl _) _)) rfl (RowS.one w3 s) (by simp; omega) (by simp; omega) ?_)))
        intro v' w4 hown4 hgrow4 hat4
        have ⟨hO4, hA4⟩ := (HO3.out.stays ((Below.refl _ _).alloc (Nat.le_refl _) _)).grow (HW3.out.kept ((Below.refl _ _).alloc (Nat.le_refl _) _)) HAp.out hgrow4 (v' := v') hat4 (by simp)
        have H4 : Hid (OwnT w4 w.heap.size v' (T ++ [s.data.toList]) ∧ On K g ⟨[], false⟩ w w4 F ∧ Apart F v') := ⟨hown4, hO4, hA4⟩
        clear hown4 hgrow4 hat4 hO4 hA4
        go_wp2_with fail
        go_roundw
        case rel => exact ⟨j + 1, T ++ [s.data.toList], F, by omega, by go_num, by rw [HA2.out], by simp; omega, HT2, H4.out.1, H4.out.2.2, H4.out.2.1⟩
        case measure => simp [intOf]; omega
    · have h1I : ¬ ((j : Int) < (m : Int)) := by omega
      have HBx : Hid (T.length ≤ 20) := (by omega : T.length ≤ 20)
      clear hlt hT hj
      go_wp2_with fail
      go_loopw [6, 11, 12] (fun al gt i wq => ∃ (j2 : Nat) (R P : List UInt8) (r : Rd) (F2 : Nat → Prop), j2 ≤ 100 ∧ i = .int .i64 j2 ∧ al = .string (bytesOf R) ∧ Hid (P ++ R = packets T) ∧ Hid (Behind P r) ∧ OwnT wq w.heap.size gt (cut P).bodies ∧ Apart F2 gt ∧ OwnT wq w.heap.size u7 T ∧ Apart F2 u7 ∧ Two gt u7 ∧ On K g r w wq F2) (fun _ _ i _ => 100 - (intOf i).toNat)
      case atStart => exact ⟨0, packets T, [], ⟨[], false⟩, F, Nat.zero_le _, rfl, by rw [HA.out], (rfl : [] ++ packets T = packets T), Behind.new, World.ownsRow_nil _ _ _ _, Apart.nil _, HW.out, HAp.out, Two.nil _, HO1.out⟩
      case round =>
        clear HO1 HW HAp hsz1 hAs HA
        obtain ⟨j2, R, P, r, F2, hj2, rfl, rfl, HPR, HBe, hG, hGa, hW, hWa, hTw, hO⟩ := hrel
        obtain ⟨B, hBB⟩ : ∃ B, bytesOf R = B := ⟨_, rfl⟩
        have hBs : B.size ≤ 40080 := by
          have h1 := (begun HT.out HPR.out).2.2
          have h2 : B.size = R.length := by rw [← hBB]; rfl
          have h3 := HBx.out
          omega
        have HBL : Hid (B.data.toList = R) := (by rw [← hBB]; rfl : _ = _)
        rw [hBB]
        have HS : Hid (OwnT wr w.heap.size u11 (cut P).bodies ∧ Apart F2 u11 ∧ OwnT wr w.heap.size u7 T ∧ Apart F2 u7 ∧ Two u11 u7 ∧ On K g r w wr F2) := ⟨hG, hGa, hW, hWa, hTw, hO⟩
        have hsz1 : w.heap.size ≤ wr.heap.size := hO.below.size
        clear hBB hG hGa hW hWa hTw hO
        by_cases hlt2 : j2 < 100
        · have hlp : j2 < p := by omega
          have hlN : j2 < N.length := by rw [HP.out]; exact hlp
          obtain ⟨b, off, rfl, hbl, hcells⟩ := HX'.out (fun e => by rw [e] at hlN; simp at hlN)
          obtain ⟨x, hx⟩ : ∃ x, N[j2] = x := ⟨_, rfl⟩
          have qc : wr.cell? ⟨b, off + j2, none⟩ = some (.int .i64 x) := by
            rw [HS.out.2.2.2.2.2.below.cell (p := ⟨b, off + j2, none⟩) hbl, hcells j2 hlN, hx]
          have hlI : (j2 : Int) < (p : Int) := by omega
          have h100I : (j2 : Int) < 100 := by omega
          clear hcells hx hlN hbl
          obtain ⟨U, hU, hU2⟩ : ∃ U : Nat, x % 18446744073709551616 = (U : Int) ∧ U < 18446744073709551616 := ⟨(x % 18446744073709551616).toNat, by omega, by omega⟩
          obtain ⟨n, hn⟩ : ∃ n, U % (B.size + 1) = n := ⟨_, rfl⟩
          have hn2 : n ≤ B.size := by have h := Nat.mod_lt U (show 0 < B.size + 1 by omega); rw [hn] at h; omega
          have y0 : IntKind.u64.wrap x = (U : Int) := by rw [wrap_u64n]; exact hU
          have y1 : IntKind.i64.wrap ((B.size : Int) + 1) = (B.size : Int) + 1 := wrap_small _ (by omega) (by omega)
          have y2 : IntKind.u64.wrap ((B.size : Int) + 1) = (B.size : Int) + 1 := by rw [wrap_u64n]; omega
          have y3 : (U : Int) % ((B.size : Int) + 1) = (n : Int) := by rw [← hn]; rfl
          have y4 : ¬ ((B.size : Int) + 1 = 0) := by omega
          have y5 : IntKind.i64.wrap (n : Int) = (n : Int) := wrap_small _ (by omega) (by omega)
          have y6 : ((B.size : Int) + 1) % 18446744073709551616 = (B.size : Int) + 1 := by omega
          obtain ⟨X, hX⟩ : ∃ X, B.extract 0 n = X := ⟨_, rfl⟩
          obtain ⟨Y, hY⟩ : ∃ Y, B.extract n B.size = Y := ⟨_, rfl⟩
          have HXL : Hid (X.data.toList = R.take n) := (by rw [← hX, extract_list, HBL.out, List.drop_zero] : _ = _)
          have HYL : Hid (bytesOf (R.drop n) = Y) := (by
            rw [← hY, ext_of B n B.size (R.drop n) (by rw [take_all, HBL.out])] : _ = _)
          have k1 : ∀ u : World, (Instr.slice 9 (.string B) none (some (.int .i64 (n : Int))) none).run Try.prog u = .ok (.string X) u := fun u => by
            have h := run_slice_string_h (P := Try.prog) u 9 B Try.underlying9 .i64 (n : Int) (by omega) (by omega)
            rw [show (n : Int).toNat = n by omega, hX] at h
            exact h
          have k2 : ∀ u : World, (Instr.slice 9 (.string B) (some (.int .i64 (n : Int))) none none).run Try.prog u = .ok (.string Y) u := fun u => by
            have h := run_slice_string_l (P := Try.prog) u 9 B Try.underlying9 .i64 (n : Int) (by omega) (by omega)
            rw [show (n : Int).toNat = n by omega, hY] at h
            exact h
          have hPX : P ++ R.take n ++ R.drop n = packets T := by rw [List.append_assoc, List.take_append_drop]; exact HPR.out
          have hbg := begun HT.out hPX
          have hfd := HBe.out.feed (b := R.take n) (by
            have h1 : (R.take n).length ≤ R.length := by rw [List.length_take]; omega
            have h2 : R.length = B.size := by rw [← HBL.out]; rfl
            omega) hbg.1
          obtain ⟨Bs, hBs2⟩ : ∃ Bs, feedB r (R.take n) = Bs := ⟨_, rfl⟩
          obtain ⟨r2, hr2⟩ : ∃ r2, feedR r (R.take n) = r2 := ⟨_, rfl⟩
          rw [hBs2, hr2] at hfd
          have HFD : Hid (Behind (P ++ R.take n) r2 ∧ (cut (P ++ R.take n)).bodies = (cut P).bodies ++ Bs ∧ (cut (P ++ R.take n)).bodies.length ≤ 20 ∧ P ++ R.take n ++ R.drop n = packets T) := ⟨hfd.1, hfd.2.2, Nat.le_trans hbg.2.1 HBx.out, hPX⟩
          have HD : Hid (Calls Try.prog 9 #[.pointer (some ⟨g, 0, none⟩), .string X] wr fun e w' => ∃ v F', e = .returned (.tuple #[v, .int .i64 0]) ∧ RowS w' wr.heap.size v Bs ∧ OwnT w' w.heap.size u11 (cut P).bodies ∧ Apart F' u11 ∧ OwnT w' w.heap.size u7 T ∧ Apart F' u7 ∧ On K g r2 w w' F') := (HS.out.2.2.2.2.2.feed X).mono fun e w' ⟨v, F', h1, h2, h3, h4, h5, _⟩ => by
            rw [HXL.out, hfd.2.1] at h1
            rw [HXL.out, hBs2] at h2
            rw [HXL.out, hr2] at h3
            have z1 := HS.out.1.fed HS.out.2.1 h4 h5
            have z2 := HS.out.2.2.1.fed HS.out.2.2.2.1 h4 h5
            exact ⟨v, F', h1, h2, z1.1, z1.2, z2.1, z2.2, h3⟩
          have HTW : Hid (Two u11 u7) := HS.out.2.2.2.2.1
          clear hX hY hbg hfd hBs2 hr2 hPX hn hU2
          go_wp2_with (first
            | (go_at_call 9; go_must (refine HD.out.mono ?_; rintro e w3 ⟨v3, F3, rfl, hr3, h31, h32, h33, h34, hO3⟩); have H3 : Hid (RowS w3 wr.heap.size v3 Bs ∧ OwnT w3 w.heap.size u11 (cut P).bodies ∧ Apart F3 u11 ∧ OwnT w3 w.heap.size u7 T ∧ Apart F3 u7 ∧ On K g r2 w w3 F3) := ⟨hr3, h31, h32, h33, h34, hO3⟩; have hsz3 : w.heap.size ≤ w3.heap.size := hO3.below.size; clear hr3 h31 h32 h33 h34 hO3)
            | (at_builtin; go_must (refine wpList_texts rfl _ _ rfl w.heap.size wr.heap.size u11 v3 (cut P).bodies Bs _ rfl H3.out.2.1 rfl H3.out.1 (by have h1 := HFD.out.2.2.1; rw [HFD.out.2.1, List.length_append] at h1; omega) (by omega) ?_)))
          intro v4 w4 hown4 hgrow4 hat4
          have ⟨hO4, hA4⟩ := H3.out.2.2.2.2.2.grow H3.out.2.1 H3.out.2.2.1 hgrow4 (v' := v4) hat4 rfl
          have ⟨hW4, hT4⟩ := H3.out.2.2.2.1.other HTW.out hgrow4 (v' := v4) hat4 rfl
          have H4 : Hid (OwnT w4 w.heap.size v4 ((cut P).bodies ++ Bs) ∧ Apart F3 v4 ∧ OwnT w4 w.heap.size u7 T ∧ Apart F3 u7 ∧ Two v4 u7 ∧ On K g r2 w w4 F3) := ⟨hown4, hA4, hW4, H3.out.2.2.2.2.1, hT4, hO4⟩
          clear hown4 hgrow4 hat4 hO4 hA4 hW4 hT4
          go_wp2_with fail
          go_roundw
          case rel => exact ⟨j2 + 1, R.drop n, P ++ R.take n, r2, F3, by omega, by go_num, by rw [HYL.out], HFD.out.2.2.2, HFD.out.1, by rw [HFD.out.2.1]; exact H4.out.1, H4.out.2.1, H4.out.2.2.1, H4.out.2.2.2.1, H4.out.2.2.2.2.1, H4.out.2.2.2.2.2⟩
          case measure => simp [intOf]; omega
        · have h1J : (j2 : Int) < (p : Int) := by omega
          have h2J : ¬ ((j2 : Int) < 100) := by omega
          have hca := cut_all T HT.out
          have hfd := HBe.out.feed (b := R) (by
            have h2 : R.length = B.size := by rw [← HBL.out]; rfl
            omega) (by rw [HPR.out, hca])
          obtain ⟨Bs, hBs2⟩ : ∃ Bs, feedB r R = Bs := ⟨_, rfl⟩
          have hTT : T = (cut P).bodies ++ Bs := by
            have h1 := hfd.2.2
            rw [HPR.out, hca, hBs2] at h1
            exact h1
          have hr2 : feedR r R = ⟨[], false⟩ := by
            have h1 := hfd.1.2
            rw [HPR.out, hca] at h1
            exact h1
          have HTT : Hid (T = (cut P).bodies ++ Bs) := hTT
          have hlen : (cut P).bodies.length + Bs.length ≤ 20 := by
            have h1 := HBx.out
            rw [hTT, List.length_append] at h1
            exact h1
          have HD : Hid (Calls Try.prog 9 #[.pointer (some ⟨g, 0, none⟩), .string B] wr fun e w' => ∃ v F', e = .returned (.tuple #[v, .int .i64 0]) ∧ RowS w' wr.heap.size v Bs ∧ OwnT w' w.heap.size u11 (cut P).bodies ∧ Apart F' u11 ∧ OwnT w' w.heap.size u7 T ∧ On K g ⟨[], false⟩ w w' F') := (HS.out.2.2.2.2.2.feed B).mono fun e w' ⟨v, F', h1, h2, h3, h4, h5, _⟩ => by
            rw [HBL.out, hfd.2.1] at h1
            rw [HBL.out, hBs2] at h2
            rw [HBL.out, hr2] at h3
            have z1 := HS.out.1.fed HS.out.2.1 h4 h5
            have z2 := HS.out.2.2.1.fed HS.out.2.2.2.1 h4 h5
            exact ⟨v, F', h1, h2, z1.1, z1.2, z2.1, h3⟩
          have HTW : Hid (Two u11 u7) := HS.out.2.2.2.2.1
          have HLE : Hid ((cut P).bodies.length + Bs.length ≤ 100000000) := (Nat.le_trans hlen (by decide) : (cut P).bodies.length + Bs.length ≤ 100000000)
          clear hca hfd hBs2 hTT hr2 hlen
          go_wp2_with (first
            | (go_at_call 9; go_must (refine HD.out.mono ?_; rintro e w3 ⟨v3, F3, rfl, hr3, h31, h32, h33, hO3⟩); have H3 : Hid (RowS w3 wr.heap.size v3 Bs ∧ OwnT w3 w.heap.size u11 (cut P).bodies ∧ Apart F3 u11 ∧ OwnT w3 w.heap.size u7 T ∧ On K g ⟨[], false⟩ w w3 F3) := ⟨hr3, h31, h32, h33, hO3⟩; have hsz3 : w.heap.size ≤ w3.heap.size := hO3.below.size; clear hr3 h31 h32 h33 hO3)
            | (at_builtin; go_must (refine wpList_texts rfl _ _ rfl w.heap.size wr.heap.size u11 v3 (cut P).bodies Bs _ rfl H3.out.2.1 rfl H3.out.1 HLE.out (by omega) ?_)))
          rw [← HTT.out]
          intro v4 w4 hown4 hgrow4 hat4
          have ⟨hO4, _⟩ := H3.out.2.2.2.2.grow H3.out.2.1 H3.out.2.2.1 hgrow4 (v' := v4) hat4 rfl
          have ⟨hW4, _⟩ := H3.out.2.2.2.1.other HTW.out hgrow4 (v' := v4) hat4 rfl
          have HO4 : Hid (On K g ⟨[], false⟩ w w4 F3) := hO4
          have HSm : Hid (Calls Try.prog 11 #[v4, u7] w4 fun e w' => e = .returned (.bool true) ∧ ∃ n, w' = w4.drewN n) := sameTexts_true v4 u7 T w4 hown4.strs hW4.strs
          have HLf : Hid (∀ n, Calls Try.prog 12 #[.pointer (some ⟨g, 0, none⟩)] (w4.drewN n) fun e w' => e = .returned (.int .i64 0) ∧ ∃ k, w' = (w4.drewN n).drewN k) := fun n => (hO4.draws n).left
          have HBd : Hid (∀ n, Calls Try.prog 13 #[.pointer (some ⟨g, 0, none⟩)] (w4.drewN n) fun e w' => e = .returned (.bool false) ∧ ∃ k, w' = (w4.drewN n).drewN k) := fun n => (hO4.draws n).bad
          clear hown4 hgrow4 hat4 hO4 hW4
          go_wp2_with (first
            | (go_at_call 11; go_must (refine HSm.out.mono ?_; rintro e w5 ⟨rfl, n5, rfl⟩))
            | (go_at_call 12; go_must (refine (HLf.out _).mono ?_; rintro e w6 ⟨rfl, n6, rfl⟩))
            | (go_at_call 13; go_must (refine (HBd.out _).mono ?_; rintro e w7 ⟨rfl, n7, rfl⟩)))
          go_ret
          exact ⟨rfl, (HO4.out.draws _).below⟩

set_option maxRecDepth 100000 in
set_option maxHeartbeats 2000000 in
theorem walkC (K : Kit) (v0 v1 : Value) (L : List ByteArray) (N : List Int) (w : World) (hL : SliceAt w v0 1 strOne L) (hN : SliceAt w v1 1 intOne N) (hA : 20 < L.length) (hB : N.length ≤ 100) :
    Calls Try.prog 4 #[v0, v1] w fun e w' => e = .returned (.bool true) ∧ Below w.heap.size w w' := by
  obtain ⟨a, c, rfl, hx⟩ := slice_open hL
  obtain ⟨a', c', rfl, hx'⟩ := slice_ints hN
  have HX : Hid (L ≠ [] → ∃ b off, a = some ⟨b, off, none⟩ ∧ b < w.heap.size ∧ ∀ i, (h : i < L.length) → w.cell? ⟨b, off + i, none⟩ = some (.string L[i])) := hx
  have HX' : Hid (N ≠ [] → ∃ b off, a' = some ⟨b, off, none⟩ ∧ b < w.heap.size ∧ ∀ i, (h : i < N.length) → w.cell? ⟨b, off + i, none⟩ = some (.int .i64 N[i])) := hx'
  obtain ⟨m, hm⟩ : ∃ m, L.length = m := ⟨_, rfl⟩
  obtain ⟨p, hp⟩ : ∃ p, N.length = p := ⟨_, rfl⟩
  have HM : Hid (L.length = m) := hm
  have HP : Hid (N.length = p) := hp
  rw [hm] at hA
  rw [hp] at hB
  rw [hm, hp]
  have HN : Hid (Calls Try.prog 7 #[] w fun e w' => ∃ g F, e = .returned (.pointer (some ⟨g, 0, none⟩)) ∧ On K g ⟨[], false⟩ w w' F ∧ (∀ i, F i → w.heap.size ≤ i) ∧ Below w.heap.size w w') := kit_new K w w (Below.refl _ _)
  clear hm hx hL hp hx' hN
  go_enter Try.func4, Try.ntmps4
  go_wp2_with (go_at_call 7; go_must (refine HN.out.mono ?_))
  rintro e w1 ⟨g, F, rfl, hO, -, -⟩
  have HO : Hid (On K g ⟨[], false⟩ w w1 F) := hO
  clear hO
  go_wp2_with (go_at_call 16; go_must (refine (works7_any K _).mono ?_; rintro e w2 ⟨rfl, hw2⟩))
  go_loopw [6, 7, 8] (fun al wn i wr => ∃ (j : Nat) (T : List (List UInt8)) (F : Nat → Prop), j ≤ 20 ∧ i = .int .i64 j ∧ al = .string (bytesOf (packets T)) ∧ T.length ≤ j ∧ Hid (∀ s ∈ T, s.length ≤ 2000) ∧ OwnT wr w.heap.size wn T ∧ Apart F wn ∧ On K g ⟨[], false⟩ w wr F) (fun _ _ i _ => 20 - (intOf i).toNat)
  case atStart => exact ⟨0, [], F, Nat.zero_le _, rfl, rfl, Nat.le_refl _, (fun s hs => (by cases hs) : ∀ s ∈ ([] : List (List UInt8)), s.length ≤ 2000), World.ownsRow_nil _ _ _ _, Apart.nil _, HO.out.stays hw2⟩
  case round =>
    obtain ⟨j, T, F, hj, rfl, rfl, hT, HT, hW, hAp, hO⟩ := hrel
    obtain ⟨A, hAA⟩ : ∃ A, bytesOf (packets T) = A := ⟨_, rfl⟩
    have HA : Hid (bytesOf (packets T) = A) := hAA
    have hAs : A.size ≤ 40080 := by
      have h1 := packets_le T HT.out
      have h2 : A.size = (packets T).length := by rw [← hAA]; rfl
      omega
    rw [hAA]
    have HO1 : Hid (On K g ⟨[], false⟩ w wr F) := hO
    have HW : Hid (OwnT wr w.heap.size u7 T) := hW
    have HAp : Hid (Apart F u7) := hAp
    have hsz1 : w.heap.size ≤ wr.heap.size := hO.below.size
    clear hAA hO hW hAp HO
    by_cases hlt : j < 20
    · have hlm : j < m := by omega
      have hlL : j < L.length := by rw [HM.out]; exact hlm
      obtain ⟨b, off, rfl, hbl, hcells⟩ := HX.out (fun e => by rw [e] at hlL; simp at hlL)
      obtain ⟨s, hs⟩ : ∃ s, L[j] = s := ⟨_, rfl⟩
      have HQ : Hid (∀ u : World, Below w.heap.size w u → u.cell? ⟨b, off + j, none⟩ = some (.string s)) := fun u hu => by
        rw [hu.cell (p := ⟨b, off + j, none⟩) hbl, hcells j hlL, hs]
      have qc := HQ.out wr HO1.out.below
      have hlI : (j : Int) < (m : Int) := by omega
      have h20I : (j : Int) < 20 := by omega
      clear hcells hs hlL hbl
      by_cases hl : 2000 < s.size
      · have hl' : (2000 : Int) < (s.size : Int) := by omega
        go_wp2_with fail
        go_roundw
        case rel => exact ⟨j + 1, T, F, by omega, by go_num, by rw [HA.out], by omega, HT, HW.out, HAp.out, HO1.out⟩
        case measure => simp [intOf]; omega
      · have hl' : ¬ ((2000 : Int) < (s.size : Int)) := by omega
        obtain ⟨P, hP⟩ : ∃ P, packS s = P := ⟨_, rfl⟩
        have hP2 : P = bytesOf (packet s.data.toList) := by rw [← hP]; exact (pack_short s (by omega)).1
        have hPs : P.size ≤ 2004 := by
          rw [hP2, bytesOf_size, packet_len]
          show 4 + s.size ≤ _
          omega
        have HPk : Hid (∀ u : World, Calls Try.prog 14 #[.string s] u fun e w' => e = .returned (.tuple #[.string P, .int .i64 0]) ∧ Below u.heap.size u w') := fun u => by
          have h := K.packet s u
          rw [hP, (pack_short s (by omega)).2] at h
          exact h
        have HA2 : Hid (bytesOf (packets (T ++ [s.data.toList])) = A ++ P) := (by rw [packets_snoc, ← HA.out, app_of, hP2]; rfl : _ = _)
        have HT2 : Hid (∀ t ∈ T ++ [s.data.toList], t.length ≤ 2000) := fun t ht => by
          rcases List.mem_append.1 ht with h | h
          · exact HT.out t h
          · rw [List.mem_singleton.1 h]
            show s.size ≤ 2000
            omega
        clear hP hP2
        go_wp2_with (first
          | (go_at_call 14; go_must (refine (HPk.out _).mono ?_; rintro e w3 ⟨rfl, hw3⟩); have HO3 : Hid (On K g ⟨[], false⟩ w w3 F) := HO1.out.stays hw3; have HW3 : Hid (OwnT w3 w.heap.size u7 T) := HW.out.kept hw3; have qc3 := HQ.out w3 HO3.out.below; have hsz3 : w.heap.size ≤ w3.heap.size := HO3.out.below.size; clear hw3)
          | (at_builtin; go_must (refine wpList_texts rfl _ _ rfl w.heap.size 0 u7 (.slice (some ⟨w3.heap.size, 0, none⟩) 1 1) T [s.data.toList] _ rfl (HW3.out.kept ((Below.refl _ _).alloc (Nat.le_refl _) _)) rfl (RowS.one w3 s) (by simp; omega) (by simp; omega) ?_)))
        intro v' w4 hown4 hgrow4 hat4
        have ⟨hO4, hA4⟩ := (HO3.out.stays ((Below.refl _ _).alloc (Nat.le_refl _) _)).grow (HW3.out.kept ((Below.refl _ _).alloc (Nat.le_refl _) _)) HAp.out hgrow4 (v' := v') hat4 (by simp)
        have H4 : Hid (OwnT w4 w.heap.size v' (T ++ [s.data.toList]) ∧ On K g ⟨[], false⟩ w w4 F ∧ Apart F v') := ⟨hown4, hO4, hA4⟩
        clear hown4 hgrow4 hat4 hO4 hA4
        go_wp2_with fail
        go_roundw
        case rel => exact ⟨j + 1, T ++ [s.data.toList], F, by omega, by go_num, by rw [HA2.out], by simp; omega, HT2, H4.out.1, H4.out.2.2, H4.out.2.1⟩
        case measure => simp [intOf]; omega
    · have h1I : (j : Int) < (m : Int) := by omega
      have h2I : ¬ ((j : Int) < 20) := by omega
      have HBx : Hid (T.length ≤ 20) := (by omega : T.length ≤ 20)
      clear hlt hT hj
      go_wp2_with fail
      go_loopw [6, 11, 12] (fun al gt i wq => ∃ (j2 : Nat) (R P : List UInt8) (r : Rd) (F2 : Nat → Prop), j2 ≤ p ∧ i = .int .i64 j2 ∧ al = .string (bytesOf R) ∧ Hid (P ++ R = packets T) ∧ Hid (Behind P r) ∧ OwnT wq w.heap.size gt (cut P).bodies ∧ Apart F2 gt ∧ OwnT wq w.heap.size u7 T ∧ Apart F2 u7 ∧ Two gt u7 ∧ On K g r w wq F2) (fun _ _ i _ => p - (intOf i).toNat)
      case atStart => exact ⟨0, packets T, [], ⟨[], false⟩, F, Nat.zero_le _, rfl, by rw [HA.out], (rfl : [] ++ packets T = packets T), Behind.new, World.ownsRow_nil _ _ _ _, Apart.nil _, HW.out, HAp.out, Two.nil _, HO1.out⟩
      case round =>
        clear HO1 HW HAp hsz1 hAs HA
        obtain ⟨j2, R, P, r, F2, hj2, rfl, rfl, HPR, HBe, hG, hGa, hW, hWa, hTw, hO⟩ := hrel
        obtain ⟨B, hBB⟩ : ∃ B, bytesOf R = B := ⟨_, rfl⟩
        have hBs : B.size ≤ 40080 := by
          have h1 := (begun HT.out HPR.out).2.2
          have h2 : B.size = R.length := by rw [← hBB]; rfl
          have h3 := HBx.out
          omega
        have HBL : Hid (B.data.toList = R) := (by rw [← hBB]; rfl : _ = _)
        rw [hBB]
        have HS : Hid (OwnT wr w.heap.size u11 (cut P).bodies ∧ Apart F2 u11 ∧ OwnT wr w.heap.size u7 T ∧ Apart F2 u7 ∧ Two u11 u7 ∧ On K g r w wr F2) := ⟨hG, hGa, hW, hWa, hTw, hO⟩
        have hsz1 : w.heap.size ≤ wr.heap.size := hO.below.size
        clear hBB hG hGa hW hWa hTw hO
        by_cases hlt2 : j2 < p
        · have hlp : j2 < p := by omega
          have hlN : j2 < N.length := by rw [HP.out]; exact hlp
          obtain ⟨b, off, rfl, hbl, hcells⟩ := HX'.out (fun e => by rw [e] at hlN; simp at hlN)
          obtain ⟨x, hx⟩ : ∃ x, N[j2] = x := ⟨_, rfl⟩
          have qc : wr.cell? ⟨b, off + j2, none⟩ = some (.int .i64 x) := by
            rw [HS.out.2.2.2.2.2.below.cell (p := ⟨b, off + j2, none⟩) hbl, hcells j2 hlN, hx]
          have hlI : (j2 : Int) < (p : Int) := by omega
          have h100I : (j2 : Int) < 100 := by omega
          clear hcells hx hlN hbl
          obtain ⟨U, hU, hU2⟩ : ∃ U : Nat, x % 18446744073709551616 = (U : Int) ∧ U < 18446744073709551616 := ⟨(x % 18446744073709551616).toNat, by omega, by omega⟩
          obtain ⟨n, hn⟩ : ∃ n, U % (B.size + 1) = n := ⟨_, rfl⟩
          have hn2 : n ≤ B.size := by have h := Nat.mod_lt U (show 0 < B.size + 1 by omega); rw [hn] at h; omega
          have y0 : IntKind.u64.wrap x = (U : Int) := by rw [wrap_u64n]; exact hU
          have y1 : IntKind.i64.wrap ((B.size : Int) + 1) = (B.size : Int) + 1 := wrap_small _ (by omega) (by omega)
          have y2 : IntKind.u64.wrap ((B.size : Int) + 1) = (B.size : Int) + 1 := by rw [wrap_u64n]; omega
          have y3 : (U : Int) % ((B.size : Int) + 1) = (n : Int) := by rw [← hn]; rfl
          have y4 : ¬ ((B.size : Int) + 1 = 0) := by omega
          have y5 : IntKind.i64.wrap (n : Int) = (n : Int) := wrap_small _ (by omega) (by omega)
          have y6 : ((B.size : Int) + 1) % 18446744073709551616 = (B.size : Int) + 1 := by omega
          obtain ⟨X, hX⟩ : ∃ X, B.extract 0 n = X := ⟨_, rfl⟩
          obtain ⟨Y, hY⟩ : ∃ Y, B.extract n B.size = Y := ⟨_, rfl⟩
          have HXL : Hid (X.data.toList = R.take n) := (by rw [← hX, extract_list, HBL.out, List.drop_zero] : _ = _)
          have HYL : Hid (bytesOf (R.drop n) = Y) := (by
            rw [← hY, ext_of B n B.size (R.drop n) (by rw [take_all, HBL.out])] : _ = _)
          have k1 : ∀ u : World, (Instr.slice 9 (.string B) none (some (.int .i64 (n : Int))) none).run Try.prog u = .ok (.string X) u := fun u => by
            have h := run_slice_string_h (P := Try.prog) u 9 B Try.underlying9 .i64 (n : Int) (by omega) (by omega)
            rw [show (n : Int).toNat = n by omega, hX] at h
            exact h
          have k2 : ∀ u : World, (Instr.slice 9 (.string B) (some (.int .i64 (n : Int))) none none).run Try.prog u = .ok (.string Y) u := fun u => by
            have h := run_slice_string_l (P := Try.prog) u 9 B Try.underlying9 .i64 (n : Int) (by omega) (by omega)
            rw [show (n : Int).toNat = n by omega, hY] at h
            exact h
          have hPX : P ++ R.take n ++ R.drop n = packets T := by rw [List.append_assoc, List.take_append_drop]; exact HPR.out
          have hbg := begun HT.out hPX
          have hfd := HBe.out.feed (b := R.take n) (by
            have h1 : (R.take n).length ≤ R.length := by rw [List.length_take]; omega
            have h2 : R.length = B.size := by rw [← HBL.out]; rfl
            omega) hbg.1
          obtain ⟨Bs, hBs2⟩ : ∃ Bs, feedB r (R.take n) = Bs := ⟨_, rfl⟩
          obtain ⟨r2, hr2⟩ : ∃ r2, feedR r (R.take n) = r2 := ⟨_, rfl⟩
          rw [hBs2, hr2] at hfd
          have HFD : Hid (Behind (P ++ R.take n) r2 ∧ (cut (P ++ R.take n)).bodies = (cut P).bodies ++ Bs ∧ (cut (P ++ R.take n)).bodies.length ≤ 20 ∧ P ++ R.take n ++ R.drop n = packets T) := ⟨hfd.1, hfd.2.2, Nat.le_trans hbg.2.1 HBx.out, hPX⟩
          have HD : Hid (Calls Try.prog 9 #[.pointer (some ⟨g, 0, none⟩), .string X] wr fun e w' => ∃ v F', e = .returned (.tuple #[v, .int .i64 0]) ∧ RowS w' wr.heap.size v Bs ∧ OwnT w' w.heap.size u11 (cut P).bodies ∧ Apart F' u11 ∧ OwnT w' w.heap.size u7 T ∧ Apart F' u7 ∧ On K g r2 w w' F') := (HS.out.2.2.2.2.2.feed X).mono fun e w' ⟨v, F', h1, h2, h3, h4, h5, _⟩ => by
            rw [HXL.out, hfd.2.1] at h1
            rw [HXL.out, hBs2] at h2
            rw [HXL.out, hr2] at h3
            have z1 := HS.out.1.fed HS.out.2.1 h4 h5
            have z2 := HS.out.2.2.1.fed HS.out.2.2.2.1 h4 h5
            exact ⟨v, F', h1, h2, z1.1, z1.2, z2.1, z2.2, h3⟩
          have HTW : Hid (Two u11 u7) := HS.out.2.2.2.2.1
          clear hX hY hbg hfd hBs2 hr2 hPX hn hU2
          go_wp2_with (first
            | (go_at_call 9; go_must (refine HD.out.mono ?_; rintro e w3 ⟨v3, F3, rfl, hr3, h31, h32, h33, h34, hO3⟩); have H3 : Hid (RowS w3 wr.heap.size v3 Bs ∧ OwnT w3 w.heap.size u11 (cut P).bodies ∧ Apart F3 u11 ∧ OwnT w3 w.heap.size u7 T ∧ Apart F3 u7 ∧ On K g r2 w w3 F3) := ⟨hr3, h31, h32, h33, h34, hO3⟩; have hsz3 : w.heap.size ≤ w3.heap.size := hO3.below.size; clear hr3 h31 h32 h33 h34 hO3)
            | (at_builtin; go_must (refine wpList_texts rfl _ _ rfl w.heap.size wr.heap.size u11 v3 (cut P).bodies Bs _ rfl H3.out.2.1 rfl H3.out.1 (by have h1 := HFD.out.2.2.1; rw [HFD.out.2.1, List.length_append] at h1; omega) (by omega) ?_)))
          intro v4 w4 hown4 hgrow4 hat4
          have ⟨hO4, hA4⟩ := H3.out.2.2.2.2.2.grow H3.out.2.1 H3.out.2.2.1 hgrow4 (v' := v4) hat4 rfl
          have ⟨hW4, hT4⟩ := H3.out.2.2.2.1.other HTW.out hgrow4 (v' := v4) hat4 rfl
          have H4 : Hid (OwnT w4 w.heap.size v4 ((cut P).bodies ++ Bs) ∧ Apart F3 v4 ∧ OwnT w4 w.heap.size u7 T ∧ Apart F3 u7 ∧ Two v4 u7 ∧ On K g r2 w w4 F3) := ⟨hown4, hA4, hW4, H3.out.2.2.2.2.1, hT4, hO4⟩
          clear hown4 hgrow4 hat4 hO4 hA4 hW4 hT4
          go_wp2_with fail
          go_roundw
          case rel => exact ⟨j2 + 1, R.drop n, P ++ R.take n, r2, F3, by omega, by go_num, by rw [HYL.out], HFD.out.2.2.2, HFD.out.1, by rw [HFD.out.2.1]; exact H4.out.1, H4.out.2.1, H4.out.2.2.1, H4.out.2.2.2.1, H4.out.2.2.2.2.1, H4.out.2.2.2.2.2⟩
          case measure => simp [intOf]; omega
        · have h1J : ¬ ((j2 : Int) < (p : Int)) := by omega
          have hca := cut_all T HT.out
          have hfd := HBe.out.feed (b := R) (by
            have h2 : R.length = B.size := by rw [← HBL.out]; rfl
            omega) (by rw [HPR.out, hca])
          obtain ⟨Bs, hBs2⟩ : ∃ Bs, feedB r R = Bs := ⟨_, rfl⟩
          have hTT : T = (cut P).bodies ++ Bs := by
            have h1 := hfd.2.2
            rw [HPR.out, hca, hBs2] at h1
            exact h1
          have hr2 : feedR r R = ⟨[], false⟩ := by
            have h1 := hfd.1.2
            rw [HPR.out, hca] at h1
            exact h1
          have HTT : Hid (T = (cut P).bodies ++ Bs) := hTT
          have hlen : (cut P).bodies.length + Bs.length ≤ 20 := by
            have h1 := HBx.out
            rw [hTT, List.length_append] at h1
            exact h1
          have HD : Hid (Calls Try.prog 9 #[.pointer (some ⟨g, 0, none⟩), .string B] wr fun e w' => ∃ v F', e = .returned (.tuple #[v, .int .i64 0]) ∧ RowS w' wr.heap.size v Bs ∧ OwnT w' w.heap.size u11 (cut P).bodies ∧ Apart F' u11 ∧ OwnT w' w.heap.size u7 T ∧ On K g ⟨[], false⟩ w w' F') := (HS.out.2.2.2.2.2.feed B).mono fun e w' ⟨v, F', h1, h2, h3, h4, h5, _⟩ => by
            rw [HBL.out, hfd.2.1] at h1
            rw [HBL.out, hBs2] at h2
            rw [HBL.out, hr2] at h3
            have z1 := HS.out.1.fed HS.out.2.1 h4 h5
            have z2 := HS.out.2.2.1.fed HS.out.2.2.2.1 h4 h5
            exact ⟨v, F', h1, h2, z1.1, z1.2, z2.1, h3⟩
          have HTW : Hid (Two u11 u7) := HS.out.2.2.2.2.1
          have HLE : Hid ((cut P).bodies.length + Bs.length ≤ 100000000) := (Nat.le_trans hlen (by decide) : (cut P).bodies.length + Bs.length ≤ 100000000)
          clear hca hfd hBs2 hTT hr2 hlen
          go_wp2_with (first
            | (go_at_call 9; go_must (refine HD.out.mono ?_; rintro e w3 ⟨v3, F3, rfl, hr3, h31, h32, h33, hO3⟩); have H3 : Hid (RowS w3 wr.heap.size v3 Bs ∧ OwnT w3 w.heap.size u11 (cut P).bodies ∧ Apart F3 u11 ∧ OwnT w3 w.heap.size u7 T ∧ On K g ⟨[], false⟩ w w3 F3) := ⟨hr3, h31, h32, h33, hO3⟩; have hsz3 : w.heap.size ≤ w3.heap.size := hO3.below.size; clear hr3 h31 h32 h33 hO3)
            | (at_builtin; go_must (refine wpList_texts rfl _ _ rfl w.heap.size wr.heap.size u11 v3 (cut P).bodies Bs _ rfl H3.out.2.1 rfl H3.out.1 HLE.out (by omega) ?_)))
          rw [← HTT.out]
          intro v4 w4 hown4 hgrow4 hat4
          have ⟨hO4, _⟩ := H3.out.2.2.2.2.grow H3.out.2.1 H3.out.2.2.1 hgrow4 (v' := v4) hat4 rfl
          have ⟨hW4, _⟩ := H3.out.2.2.2.1.other HTW.out hgrow4 (v' := v4) hat4 rfl
          have HO4 : Hid (On K g ⟨[], false⟩ w w4 F3) := hO4
          have HSm : Hid (Calls Try.prog 11 #[v4, u7] w4 fun e w' => e = .returned (.bool true) ∧ ∃ n, w' = w4.drewN n) := sameTexts_true v4 u7 T w4 hown4.strs hW4.strs
          have HLf : Hid (∀ n, Calls Try.prog 12 #[.pointer (some ⟨g, 0, none⟩)] (w4.drewN n) fun e w' => e = .returned (.int .i64 0) ∧ ∃ k, w' = (w4.drewN n).drewN k) := fun n => (hO4.draws n).left
          have HBd : Hid (∀ n, Calls Try.prog 13 #[.pointer (some ⟨g, 0, none⟩)] (w4.drewN n) fun e w' => e = .returned (.bool false) ∧ ∃ k, w' = (w4.drewN n).drewN k) := fun n => (hO4.draws n).bad
          clear hown4 hgrow4 hat4 hO4 hW4
          go_wp2_with (first
            | (go_at_call 11; go_must (refine HSm.out.mono ?_; rintro e w5 ⟨rfl, n5, rfl⟩))
            | (go_at_call 12; go_must (refine (HLf.out _).mono ?_; rintro e w6 ⟨rfl, n6, rfl⟩))
            | (go_at_call 13; go_must (refine (HBd.out _).mono ?_; rintro e w7 ⟨rfl, n7, rfl⟩)))
          go_ret
          exact ⟨rfl, (HO4.out.draws _).below⟩

set_option maxRecDepth 100000 in
set_option maxHeartbeats 2000000 in
theorem walkD (K : Kit) (v0 v1 : Value) (L : List ByteArray) (N : List Int) (w : World) (hL : SliceAt w v0 1 strOne L) (hN : SliceAt w v1 1 intOne N) (hA : 20 < L.length) (hB : 100 < N.length) :
    Calls Try.prog 4 #[v0, v1] w fun e w' => e = .returned (.bool true) ∧ Below w.heap.size w w' := by
  obtain ⟨a, c, rfl, hx⟩ := slice_open hL
  obtain ⟨a', c', rfl, hx'⟩ := slice_ints hN
  have HX : Hid (L ≠ [] → ∃ b off, a = some ⟨b, off, none⟩ ∧ b < w.heap.size ∧ ∀ i, (h : i < L.length) → w.cell? ⟨b, off + i, none⟩ = some (.string L[i])) := hx
  have HX' : Hid (N ≠ [] → ∃ b off, a' = some ⟨b, off, none⟩ ∧ b < w.heap.size ∧ ∀ i, (h : i < N.length) → w.cell? ⟨b, off + i, none⟩ = some (.int .i64 N[i])) := hx'
  obtain ⟨m, hm⟩ : ∃ m, L.length = m := ⟨_, rfl⟩
  obtain ⟨p, hp⟩ : ∃ p, N.length = p := ⟨_, rfl⟩
  have HM : Hid (L.length = m) := hm
  have HP : Hid (N.length = p) := hp
  rw [hm] at hA
  rw [hp] at hB
  rw [hm, hp]
  have HN : Hid (Calls Try.prog 7 #[] w fun e w' => ∃ g F, e = .returned (.pointer (some ⟨g, 0, none⟩)) ∧ On K g ⟨[], false⟩ w w' F ∧ (∀ i, F i → w.heap.size ≤ i) ∧ Below w.heap.size w w') := kit_new K w w (Below.refl _ _)
  clear hm hx hL hp hx' hN
  go_enter Try.func4, Try.ntmps4
  go_wp2_with (go_at_call 7; go_must (refine HN.out.mono ?_))
  rintro e w1 ⟨g, F, rfl, hO, -, -⟩
  have HO : Hid (On K g ⟨[], false⟩ w w1 F) := hO
  clear hO
  go_wp2_with (go_at_call 16; go_must (refine (works7_any K _).mono ?_; rintro e w2 ⟨rfl, hw2⟩))
  go_loopw [6, 7, 8] (fun al wn i wr => ∃ (j : Nat) (T : List (List UInt8)) (F : Nat → Prop), j ≤ 20 ∧ i = .int .i64 j ∧ al = .string (bytesOf (packets T)) ∧ T.length ≤ j ∧ Hid (∀ s ∈ T, s.length ≤ 2000) ∧ OwnT wr w.heap.size wn T ∧ Apart F wn ∧ On K g ⟨[], false⟩ w wr F) (fun _ _ i _ => 20 - (intOf i).toNat)
  case atStart => exact ⟨0, [], F, Nat.zero_le _, rfl, rfl, Nat.le_refl _, (fun s hs => (by cases hs) : ∀ s ∈ ([] : List (List UInt8)), s.length ≤ 2000), World.ownsRow_nil _ _ _ _, Apart.nil _, HO.out.stays hw2⟩
  case round =>
    obtain ⟨j, T, F, hj, rfl, rfl, hT, HT, hW, hAp, hO⟩ := hrel
    obtain ⟨A, hAA⟩ : ∃ A, bytesOf (packets T) = A := ⟨_, rfl⟩
    have HA : Hid (bytesOf (packets T) = A) := hAA
    have hAs : A.size ≤ 40080 := by
      have h1 := packets_le T HT.out
      have h2 : A.size = (packets T).length := by rw [← hAA]; rfl
      omega
    rw [hAA]
    have HO1 : Hid (On K g ⟨[], false⟩ w wr F) := hO
    have HW : Hid (OwnT wr w.heap.size u7 T) := hW
    have HAp : Hid (Apart F u7) := hAp
    have hsz1 : w.heap.size ≤ wr.heap.size := hO.below.size
    clear hAA hO hW hAp HO
    by_cases hlt : j < 20
    · have hlm : j < m := by omega
      have hlL : j < L.length := by rw [HM.out]; exact hlm
      obtain ⟨b, off, rfl, hbl, hcells⟩ := HX.out (fun e => by rw [e] at hlL; simp at hlL)
      obtain ⟨s, hs⟩ : ∃ s, L[j] = s := ⟨_, rfl⟩
      have HQ : Hid (∀ u : World, Below w.heap.size w u → u.cell? ⟨b, off + j, none⟩ = some (.string s)) := fun u hu => by
        rw [hu.cell (p := ⟨b, off + j, none⟩) hbl, hcells j hlL, hs]
      have qc := HQ.out wr HO1.out.below
      have hlI : (j : Int) < (m : Int) := by omega
      have h20I : (j : Int) < 20 := by omega
      clear hcells hs hlL hbl
      by_cases hl : 2000 < s.size
      · have hl' : (2000 : Int) < (s.size : Int) := by omega
        go_wp2_with fail
        go_roundw
        case rel => exact ⟨j + 1, T, F, by omega, by go_num, by rw [HA.out], by omega, HT, HW.out, HAp.out, HO1.out⟩
        case measure => simp [intOf]; omega
      · have hl' : ¬ ((2000 : Int) < (s.size : Int)) := by omega
        obtain ⟨P, hP⟩ : ∃ P, packS s = P := ⟨_, rfl⟩
        have hP2 : P = bytesOf (packet s.data.toList) := by rw [← hP]; exact (pack_short s (by omega)).1
        have hPs : P.size ≤ 2004 := by
          rw [hP2, bytesOf_size, packet_len]
          show 4 + s.size ≤ _
          omega
        have HPk : Hid (∀ u : World, Calls Try.prog 14 #[.string s] u fun e w' => e = .returned (.tuple #[.string P, .int .i64 0]) ∧ Below u.heap.size u w') := fun u => by
          have h := K.packet s u
          rw [hP, (pack_short s (by omega)).2] at h
          exact h
        have HA2 : Hid (bytesOf (packets (T ++ [s.data.toList])) = A ++ P) := (by rw [packets_snoc, ← HA.out, app_of, hP2]; rfl : _ = _)
        have HT2 : Hid (∀ t ∈ T ++ [s.data.toList], t.length ≤ 2000) := fun t ht => by
          rcases List.mem_append.1 ht with h | h
          · exact HT.out t h
          · rw [List.mem_singleton.1 h]
            show s.size ≤ 2000
            omega
        clear hP hP2
        go_wp2_with (first
          | (go_at_call 14; go_must (refine (HPk.out _).mono ?_; rintro e w3 ⟨rfl, hw3⟩); have HO3 : Hid (On K g ⟨[], false⟩ w w3 F) := HO1.out.stays hw3; have HW3 : Hid (OwnT w3 w.heap.size u7 T) := HW.out.kept hw3; have qc3 := HQ.out w3 HO3.out.below; have hsz3 : w.heap.size ≤ w3.heap.size := HO3.out.below.size; clear hw3)
          | (at_builtin; go_must (refine wpList_texts rfl _ _ rfl w.heap.size 0 u7 (.slice (some ⟨w3.heap.size, 0, none⟩) 1 1) T [s.data.toList] _ rfl (HW3.out.kept ((Below.refl _ _).alloc (Nat.le_refl _) _)) rfl (RowS.one w3 s) (by simp; omega) (by simp; omega) ?_)))
        intro v' w4 hown4 hgrow4 hat4
        have ⟨hO4, hA4⟩ := (HO3.out.stays ((Below.refl _ _).alloc (Nat.le_refl _) _)).grow (HW3.out.kept ((Below.refl _ _).alloc (Nat.le_refl _) _)) HAp.out hgrow4 (v' := v') hat4 (by simp)
        have H4 : Hid (OwnT w4 w.heap.size v' (T ++ [s.data.toList]) ∧ On K g ⟨[], false⟩ w w4 F ∧ Apart F v') := ⟨hown4, hO4, hA4⟩
        clear hown4 hgrow4 hat4 hO4 hA4
        go_wp2_with fail
        go_roundw
        case rel => exact ⟨j + 1, T ++ [s.data.toList], F, by omega, by go_num, by rw [HA2.out], by simp; omega, HT2, H4.out.1, H4.out.2.2, H4.out.2.1⟩
        case measure => simp [intOf]; omega
    · have h1I : (j : Int) < (m : Int) := by omega
      have h2I : ¬ ((j : Int) < 20) := by omega
      have HBx : Hid (T.length ≤ 20) := (by omega : T.length ≤ 20)
      clear hlt hT hj
      go_wp2_with fail
      go_loopw [6, 11, 12] (fun al gt i wq => ∃ (j2 : Nat) (R P : List UInt8) (r : Rd) (F2 : Nat → Prop), j2 ≤ 100 ∧ i = .int .i64 j2 ∧ al = .string (bytesOf R) ∧ Hid (P ++ R = packets T) ∧ Hid (Behind P r) ∧ OwnT wq w.heap.size gt (cut P).bodies ∧ Apart F2 gt ∧ OwnT wq w.heap.size u7 T ∧ Apart F2 u7 ∧ Two gt u7 ∧ On K g r w wq F2) (fun _ _ i _ => 100 - (intOf i).toNat)
      case atStart => exact ⟨0, packets T, [], ⟨[], false⟩, F, Nat.zero_le _, rfl, by rw [HA.out], (rfl : [] ++ packets T = packets T), Behind.new, World.ownsRow_nil _ _ _ _, Apart.nil _, HW.out, HAp.out, Two.nil _, HO1.out⟩
      case round =>
        clear HO1 HW HAp hsz1 hAs HA
        obtain ⟨j2, R, P, r, F2, hj2, rfl, rfl, HPR, HBe, hG, hGa, hW, hWa, hTw, hO⟩ := hrel
        obtain ⟨B, hBB⟩ : ∃ B, bytesOf R = B := ⟨_, rfl⟩
        have hBs : B.size ≤ 40080 := by
          have h1 := (begun HT.out HPR.out).2.2
          have h2 : B.size = R.length := by rw [← hBB]; rfl
          have h3 := HBx.out
          omega
        have HBL : Hid (B.data.toList = R) := (by rw [← hBB]; rfl : _ = _)
        rw [hBB]
        have HS : Hid (OwnT wr w.heap.size u11 (cut P).bodies ∧ Apart F2 u11 ∧ OwnT wr w.heap.size u7 T ∧ Apart F2 u7 ∧ Two u11 u7 ∧ On K g r w wr F2) := ⟨hG, hGa, hW, hWa, hTw, hO⟩
        have hsz1 : w.heap.size ≤ wr.heap.size := hO.below.size
        clear hBB hG hGa hW hWa hTw hO
        by_cases hlt2 : j2 < 100
        · have hlp : j2 < p := by omega
          have hlN : j2 < N.length := by rw [HP.out]; exact hlp
          obtain ⟨b, off, rfl, hbl, hcells⟩ := HX'.out (fun e => by rw [e] at hlN; simp at hlN)
          obtain ⟨x, hx⟩ : ∃ x, N[j2] = x := ⟨_, rfl⟩
          have qc : wr.cell? ⟨b, off + j2, none⟩ = some (.int .i64 x) := by
            rw [HS.out.2.2.2.2.2.below.cell (p := ⟨b, off + j2, none⟩) hbl, hcells j2 hlN, hx]
          have hlI : (j2 : Int) < (p : Int) := by omega
          have h100I : (j2 : Int) < 100 := by omega
          clear hcells hx hlN hbl
          obtain ⟨U, hU, hU2⟩ : ∃ U : Nat, x % 18446744073709551616 = (U : Int) ∧ U < 18446744073709551616 := ⟨(x % 18446744073709551616).toNat, by omega, by omega⟩
          obtain ⟨n, hn⟩ : ∃ n, U % (B.size + 1) = n := ⟨_, rfl⟩
          have hn2 : n ≤ B.size := by have h := Nat.mod_lt U (show 0 < B.size + 1 by omega); rw [hn] at h; omega
          have y0 : IntKind.u64.wrap x = (U : Int) := by rw [wrap_u64n]; exact hU
          have y1 : IntKind.i64.wrap ((B.size : Int) + 1) = (B.size : Int) + 1 := wrap_small _ (by omega) (by omega)
          have y2 : IntKind.u64.wrap ((B.size : Int) + 1) = (B.size : Int) + 1 := by rw [wrap_u64n]; omega
          have y3 : (U : Int) % ((B.size : Int) + 1) = (n : Int) := by rw [← hn]; rfl
          have y4 : ¬ ((B.size : Int) + 1 = 0) := by omega
          have y5 : IntKind.i64.wrap (n : Int) = (n : Int) := wrap_small _ (by omega) (by omega)
          have y6 : ((B.size : Int) + 1) % 18446744073709551616 = (B.size : Int) + 1 := by omega
          obtain ⟨X, hX⟩ : ∃ X, B.extract 0 n = X := ⟨_, rfl⟩
          obtain ⟨Y, hY⟩ : ∃ Y, B.extract n B.size = Y := ⟨_, rfl⟩
          have HXL : Hid (X.data.toList = R.take n) := (by rw [← hX, extract_list, HBL.out, List.drop_zero] : _ = _)
          have HYL : Hid (bytesOf (R.drop n) = Y) := (by
            rw [← hY, ext_of B n B.size (R.drop n) (by rw [take_all, HBL.out])] : _ = _)
          have k1 : ∀ u : World, (Instr.slice 9 (.string B) none (some (.int .i64 (n : Int))) none).run Try.prog u = .ok (.string X) u := fun u => by
            have h := run_slice_string_h (P := Try.prog) u 9 B Try.underlying9 .i64 (n : Int) (by omega) (by omega)
            rw [show (n : Int).toNat = n by omega, hX] at h
            exact h
          have k2 : ∀ u : World, (Instr.slice 9 (.string B) (some (.int .i64 (n : Int))) none none).run Try.prog u = .ok (.string Y) u := fun u => by
            have h := run_slice_string_l (P := Try.prog) u 9 B Try.underlying9 .i64 (n : Int) (by omega) (by omega)
            rw [show (n : Int).toNat = n by omega, hY] at h
            exact h
          have hPX : P ++ R.take n ++ R.drop n = packets T := by rw [List.append_assoc, List.take_append_drop]; exact HPR.out
          have hbg := begun HT.out hPX
          have hfd := HBe.out.feed (b := R.take n) (by
            have h1 : (R.take n).length ≤ R.length := by rw [List.length_take]; omega
            have h2 : R.length = B.size := by rw [← HBL.out]; rfl
            omega) hbg.1
          obtain ⟨Bs, hBs2⟩ : ∃ Bs, feedB r (R.take n) = Bs := ⟨_, rfl⟩
          obtain ⟨r2, hr2⟩ : ∃ r2, feedR r (R.take n) = r2 := ⟨_, rfl⟩
          rw [hBs2, hr2] at hfd
          have HFD : Hid (Behind (P ++ R.take n) r2 ∧ (cut (P ++ R.take n)).bodies = (cut P).bodies ++ Bs ∧ (cut (P ++ R.take n)).bodies.length ≤ 20 ∧ P ++ R.take n ++ R.drop n = packets T) := ⟨hfd.1, hfd.2.2, Nat.le_trans hbg.2.1 HBx.out, hPX⟩
          have HD : Hid (Calls Try.prog 9 #[.pointer (some ⟨g, 0, none⟩), .string X] wr fun e w' => ∃ v F', e = .returned (.tuple #[v, .int .i64 0]) ∧ RowS w' wr.heap.size v Bs ∧ OwnT w' w.heap.size u11 (cut P).bodies ∧ Apart F' u11 ∧ OwnT w' w.heap.size u7 T ∧ Apart F' u7 ∧ On K g r2 w w' F') := (HS.out.2.2.2.2.2.feed X).mono fun e w' ⟨v, F', h1, h2, h3, h4, h5, _⟩ => by
            rw [HXL.out, hfd.2.1] at h1
            rw [HXL.out, hBs2] at h2
            rw [HXL.out, hr2] at h3
            have z1 := HS.out.1.fed HS.out.2.1 h4 h5
            have z2 := HS.out.2.2.1.fed HS.out.2.2.2.1 h4 h5
            exact ⟨v, F', h1, h2, z1.1, z1.2, z2.1, z2.2, h3⟩
          have HTW : Hid (Two u11 u7) := HS.out.2.2.2.2.1
          clear hX hY hbg hfd hBs2 hr2 hPX hn hU2
          go_wp2_with (first
            | (go_at_call 9; go_must (refine HD.out.mono ?_; rintro e w3 ⟨v3, F3, rfl, hr3, h31, h32, h33, h34, hO3⟩); have H3 : Hid (RowS w3 wr.heap.size v3 Bs ∧ OwnT w3 w.heap.size u11 (cut P).bodies ∧ Apart F3 u11 ∧ OwnT w3 w.heap.size u7 T ∧ Apart F3 u7 ∧ On K g r2 w w3 F3) := ⟨hr3, h31, h32, h33, h34, hO3⟩; have hsz3 : w.heap.size ≤ w3.heap.size := hO3.below.size; clear hr3 h31 h32 h33 h34 hO3)
            | (at_builtin; go_must (refine wpList_texts rfl _ _ rfl w.heap.size wr.heap.size u11 v3 (cut P).bodies Bs _ rfl H3.out.2.1 rfl H3.out.1 (by have h1 := HFD.out.2.2.1; rw [HFD.out.2.1, List.length_append] at h1; omega) (by omega) ?_)))
          intro v4 w4 hown4 hgrow4 hat4
          have ⟨hO4, hA4⟩ := H3.out.2.2.2.2.2.grow H3.out.2.1 H3.out.2.2.1 hgrow4 (v' := v4) hat4 rfl
          have ⟨hW4, hT4⟩ := H3.out.2.2.2.1.other HTW.out hgrow4 (v' := v4) hat4 rfl
          have H4 : Hid (OwnT w4 w.heap.size v4 ((cut P).bodies ++ Bs) ∧ Apart F3 v4 ∧ OwnT w4 w.heap.size u7 T ∧ Apart F3 u7 ∧ Two v4 u7 ∧ On K g r2 w w4 F3) := ⟨hown4, hA4, hW4, H3.out.2.2.2.2.1, hT4, hO4⟩
          clear hown4 hgrow4 hat4 hO4 hA4 hW4 hT4
          go_wp2_with fail
          go_roundw
          case rel => exact ⟨j2 + 1, R.drop n, P ++ R.take n, r2, F3, by omega, by go_num, by rw [HYL.out], HFD.out.2.2.2, HFD.out.1, by rw [HFD.out.2.1]; exact H4.out.1, H4.out.2.1, H4.out.2.2.1, H4.out.2.2.2.1, H4.out.2.2.2.2.1, H4.out.2.2.2.2.2⟩
          case measure => simp [intOf]; omega
        · have h1J : (j2 : Int) < (p : Int) := by omega
          have h2J : ¬ ((j2 : Int) < 100) := by omega
          have hca := cut_all T HT.out
          have hfd := HBe.out.feed (b := R) (by
            have h2 : R.length = B.size := by rw [← HBL.out]; rfl
            omega) (by rw [HPR.out, hca])
          obtain ⟨Bs, hBs2⟩ : ∃ Bs, feedB r R = Bs := ⟨_, rfl⟩
          have hTT : T = (cut P).bodies ++ Bs := by
            have h1 := hfd.2.2
            rw [HPR.out, hca, hBs2] at h1
            exact h1
          have hr2 : feedR r R = ⟨[], false⟩ := by
            have h1 := hfd.1.2
            rw [HPR.out, hca] at h1
            exact h1
          have HTT : Hid (T = (cut P).bodies ++ Bs) := hTT
          have hlen : (cut P).bodies.length + Bs.length ≤ 20 := by
            have h1 := HBx.out
            rw [hTT, List.length_append] at h1
            exact h1
          have HD : Hid (Calls Try.prog 9 #[.pointer (some ⟨g, 0, none⟩), .string B] wr fun e w' => ∃ v F', e = .returned (.tuple #[v, .int .i64 0]) ∧ RowS w' wr.heap.size v Bs ∧ OwnT w' w.heap.size u11 (cut P).bodies ∧ Apart F' u11 ∧ OwnT w' w.heap.size u7 T ∧ On K g ⟨[], false⟩ w w' F') := (HS.out.2.2.2.2.2.feed B).mono fun e w' ⟨v, F', h1, h2, h3, h4, h5, _⟩ => by
            rw [HBL.out, hfd.2.1] at h1
            rw [HBL.out, hBs2] at h2
            rw [HBL.out, hr2] at h3
            have z1 := HS.out.1.fed HS.out.2.1 h4 h5
            have z2 := HS.out.2.2.1.fed HS.out.2.2.2.1 h4 h5
            exact ⟨v, F', h1, h2, z1.1, z1.2, z2.1, h3⟩
          have HTW : Hid (Two u11 u7) := HS.out.2.2.2.2.1
          have HLE : Hid ((cut P).bodies.length + Bs.length ≤ 100000000) := (Nat.le_trans hlen (by decide) : (cut P).bodies.length + Bs.length ≤ 100000000)
          clear hca hfd hBs2 hTT hr2 hlen
          go_wp2_with (first
            | (go_at_call 9; go_must (refine HD.out.mono ?_; rintro e w3 ⟨v3, F3, rfl, hr3, h31, h32, h33, hO3⟩); have H3 : Hid (RowS w3 wr.heap.size v3 Bs ∧ OwnT w3 w.heap.size u11 (cut P).bodies ∧ Apart F3 u11 ∧ OwnT w3 w.heap.size u7 T ∧ On K g ⟨[], false⟩ w w3 F3) := ⟨hr3, h31, h32, h33, hO3⟩; have hsz3 : w.heap.size ≤ w3.heap.size := hO3.below.size; clear hr3 h31 h32 h33 hO3)
            | (at_builtin; go_must (refine wpList_texts rfl _ _ rfl w.heap.size wr.heap.size u11 v3 (cut P).bodies Bs _ rfl H3.out.2.1 rfl H3.out.1 HLE.out (by omega) ?_)))
          rw [← HTT.out]
          intro v4 w4 hown4 hgrow4 hat4
          have ⟨hO4, _⟩ := H3.out.2.2.2.2.grow H3.out.2.1 H3.out.2.2.1 hgrow4 (v' := v4) hat4 rfl
          have ⟨hW4, _⟩ := H3.out.2.2.2.1.other HTW.out hgrow4 (v' := v4) hat4 rfl
          have HO4 : Hid (On K g ⟨[], false⟩ w w4 F3) := hO4
          have HSm : Hid (Calls Try.prog 11 #[v4, u7] w4 fun e w' => e = .returned (.bool true) ∧ ∃ n, w' = w4.drewN n) := sameTexts_true v4 u7 T w4 hown4.strs hW4.strs
          have HLf : Hid (∀ n, Calls Try.prog 12 #[.pointer (some ⟨g, 0, none⟩)] (w4.drewN n) fun e w' => e = .returned (.int .i64 0) ∧ ∃ k, w' = (w4.drewN n).drewN k) := fun n => (hO4.draws n).left
          have HBd : Hid (∀ n, Calls Try.prog 13 #[.pointer (some ⟨g, 0, none⟩)] (w4.drewN n) fun e w' => e = .returned (.bool false) ∧ ∃ k, w' = (w4.drewN n).drewN k) := fun n => (hO4.draws n).bad
          clear hown4 hgrow4 hat4 hO4 hW4
          go_wp2_with (first
            | (go_at_call 11; go_must (refine HSm.out.mono ?_; rintro e w5 ⟨rfl, n5, rfl⟩))
            | (go_at_call 12; go_must (refine (HLf.out _).mono ?_; rintro e w6 ⟨rfl, n6, rfl⟩))
            | (go_at_call 13; go_must (refine (HBd.out _).mono ?_; rintro e w7 ⟨rfl, n7, rfl⟩)))
          go_ret
          exact ⟨rfl, (HO4.out.draws _).below⟩

theorem walk (K : Kit) (v0 v1 : Value) (L : List ByteArray) (N : List Int) (w : World) (hL : SliceAt w v0 1 strOne L) (hN : SliceAt w v1 1 intOne N) :
    Calls Try.prog 4 #[v0, v1] w fun e w' => e = .returned (.bool true) ∧ Below w.heap.size w w' := by
  by_cases h1 : L.length ≤ 20
  · by_cases h2 : N.length ≤ 100
    · exact walkA K v0 v1 L N w hL hN h1 h2
    · exact walkB K v0 v1 L N w hL hN h1 (by omega)
  · by_cases h2 : N.length ≤ 100
    · exact walkC K v0 v1 L N w hL hN (by omega) h2
    · exact walkD K v0 v1 L N w hL hN (by omega) (by omega)

end CutsL
end Go.Proofs.Ytddbacphlbaohaa
