/- The program's split of bytes into packets is the plain model's. -/
import Derived.Test.YtddbacphlbaohaaVCalls
namespace Go.Proofs.Ytddbacphlbaohaa
open Go.RowKit

set_option maxRecDepth 100000 in
set_option maxHeartbeats 1000000 in
theorem vsplit_any (a0 : Option Addr) (l : List UInt8) (N c : Nat) (w : World) (hN : l.length = N) (hs : Shows w a0 l) (hNc : N ≤ c) (hc : c ≤ maxLen) (hl : N ≤ 1000000) :
    Calls Try.prog 17 #[.slice a0 N c] w fun e w' => ∃ (v : Value) (t : Nat), e = .returned (.tuple #[v, .int .i64 (t : Int), .int .i64 (if (cut l).bad then 70 else 0)]) ∧ w'.ownsRow w.heap.size 9 1 v (cut l).bodies.length ((cut l).bodies.map Go.Proofs.encStr) ∧ Below w.heap.size w w' ∧ t ≤ N ∧ ((cut l).bad = false → (cut l).rest = l.drop t) := by
  obtain ⟨i0, hi, hz0, hz1, hz2⟩ := infoStr_parts
  have HS : Hid (Shows w a0 l) := hs
  have HN : Hid (l.length = N) := hN
  have HM : Hid (c ≤ maxLen) := hc
  have hc' : c ≤ 9223372036854775807 := by unfold maxLen at hc; omega
  obtain ⟨C, hC⟩ : ∃ C, cut l = C := ⟨_, rfl⟩
  rw [hC]
  obtain ⟨Bs, Rs, bd⟩ := C
  dsimp only
  obtain ⟨E, hE⟩ : ∃ E : Int, (if bd = true then 70 else 0) = E := ⟨_, rfl⟩
  rw [hE]
  have HEE : Hid ((if bd = true then (70 : Int) else 0) = E) := hE
  have HC0 : Hid (cut l = ⟨Bs, Rs, bd⟩) := hC
  clear hC hE hs hN hc
  go_enter Try.func17, Try.ntmps17
  go_wp2_with fail
  go_loopw [2, 3] (fun out i wr => ∃ (t : Nat) (M : List (List UInt8)), t ≤ N ∧ i = .int .i64 t ∧ 4 * M.length ≤ t ∧ (⟨Bs, Rs, bd⟩ : Cut) = ⟨M ++ (cut (l.drop t)).bodies, (cut (l.drop t)).rest, (cut (l.drop t)).bad⟩ ∧ wr.ownsRow w.heap.size 9 1 out M.length (M.map Go.Proofs.encStr) ∧ Below w.heap.size w wr) (fun _ i _ => N - (intOf i).toNat)
  case atStart => exact ⟨0, [], Nat.zero_le _, rfl, Nat.le_refl _, HC0.out.symm, World.ownsRow_nil _ _ _ _, Below.refl _ _⟩
  case round =>
    obtain ⟨t, M, ht, rfl, h4, hcut, hrow, hbr⟩ := hrel
    have HC : Hid ((⟨Bs, Rs, bd⟩ : Cut) = ⟨M ++ (cut (l.drop t)).bodies, (cut (l.drop t)).rest, (cut (l.drop t)).bad⟩) := hcut
    have HW : Hid (wr.ownsRow w.heap.size 9 1 u2 M.length (M.map Go.Proofs.encStr)) := hrow
    have hsz1 : w.heap.size ≤ wr.heap.size := hbr.size
    have HSr : Hid (Shows wr a0 l) := HS.out.kept hbr
    have HDL : Hid ((l.drop t).length = N - t) := (by rw [List.length_drop, HN.out] : _ = _)
    clear hcut hrow
    -- an end without a fault
    have HE : Hid (∀ m, cut (l.drop t) = ⟨[], l.drop t, false⟩ → ∃ (v : Value) (s : Nat), Ending.returned (.tuple #[u2, .int .i64 (t : Int), .int .i64 0]) = .returned (.tuple #[v, .int .i64 (s : Int), .int .i64 E]) ∧ (wr.drewN m).ownsRow w.heap.size 9 1 v Bs.length (Bs.map Go.Proofs.encStr) ∧ Below w.heap.size w (wr.drewN m) ∧ s ≤ N ∧ (bd = false → Rs = l.drop s)) := fun m hc => by
      have e := HC.out
      rw [hc] at e
      injection e with e1 e2 e3
      rw [List.append_nil] at e1
      refine ⟨u2, t, ?_, ?_, below_draws hbr m, ht, fun _ => e2⟩
      · rw [← HEE.out, e3]
        rfl
      · rw [e1]
        exact HW.out
    by_cases hs : N < t + 4
    · have hs' : ¬ ((4 : Int) ≤ (N : Int) - t) := by omega
      have HCS : Hid (cut (l.drop t) = ⟨[], l.drop t, false⟩) := cut_short (by rw [HDL.out]; omega)
      go_wp2_with fail
      go_ret3
      exact HE.out 0 HCS.out
    · have hs' : (4 : Int) ≤ (N : Int) - t := by omega
      obtain ⟨n, hn⟩ : ∃ n, be4 (l.drop t) = n := ⟨_, rfl⟩
      have hn2 : n < 4294967296 := hn ▸ be4_lt _
      have HN4 : Hid (be4 (l.drop t) = n) := hn
      have k1 : ∀ W : World, (Instr.slice 43 (.slice a0 N c) (some (.int .i64 (t : Int))) (some (.int .i64 ((t : Int) + 4))) none).run Try.prog W = .ok (.slice (if c = t then a0 else a0.map (·.add t)) 4 (c - t)) W := fun W => by
        have := run_part a0 N c t (t + 4) (by omega) (by omega) W
        rw [show t + 4 - t = 4 by omega] at this
        exact this
      have hp1 := HSr.out.part c t 4 (by rw [HN.out]; exact hNc)
      obtain ⟨A1, hA1⟩ : ∃ A, (if c = t then a0 else a0.map (·.add t)) = A := ⟨_, rfl⟩
      rw [hA1] at hp1
      simp only [hA1] at k1
      have HL : Hid (Calls Try.prog 21 #[.slice A1 4 (c - t)] wr fun e w' => e = .returned (.int .u32 (n : Int)) ∧ ∃ m, w' = wr.drewN m) := by
        have := vlengthOf_any A1 ((l.drop t).take 4) (c - t) wr (by rw [List.length_take, HDL.out]; omega) hp1
        rw [show be4 ((l.drop t).take 4) = n by
          rw [← hn]
          conv => rhs; rw [← List.take_append_drop 4 (l.drop t)]
          rw [be4_append (by rw [List.length_take, HDL.out]; omega)]] at this
        exact this
      clear hp1 hA1 hn
      by_cases h5 : 65536 < n
      · have h5' : (65536 : Int) < n := by omega
        have HCG : Hid (cut (l.drop t) = ⟨[], [], true⟩) := cut_great (by rw [HDL.out]; omega) (by rw [HN4.out]; exact h5)
        go_wp2_with (go_at_call 21; go_must (refine (HL.out).mono ?_; rintro e w1 ⟨rfl, m, rfl⟩))
        go_ret3
        have e := HC.out
        rw [HCG.out] at e
        injection e with e1 e2 e3
        rw [List.append_nil] at e1
        refine ⟨u2, t, ?_, ?_, below_draws hbr m, ht, fun hb => ?_⟩
        · rw [← HEE.out, e3]
          rfl
        · rw [e1]
          exact HW.out
        · rw [e3] at hb
          cases hb
      · have h5' : ¬ ((65536 : Int) < n) := by omega
        have x3 : (n : Int) % 18446744073709551616 = n := by omega
        by_cases h6 : N < t + 4 + n
        · have h6' : (N : Int) < (t : Int) + 4 + n := by omega
          have HCP : Hid (cut (l.drop t) = ⟨[], l.drop t, false⟩) := cut_part (by rw [HDL.out]; omega) (by rw [HN4.out]; omega) (by rw [HN4.out, HDL.out]; omega)
          go_wp2_with (go_at_call 21; go_must (refine (HL.out).mono ?_; rintro e w1 ⟨rfl, m, rfl⟩))
          go_ret3
          exact HE.out m HCP.out
        · have h6' : ¬ ((N : Int) < (t : Int) + 4 + n) := by omega
          have k2 : ∀ W : World, (Instr.slice 43 (.slice a0 N c) (some (.int .i64 ((t : Int) + 4))) (some (.int .i64 ((t : Int) + 4 + n))) none).run Try.prog W = .ok (.slice (if c = t + 4 then a0 else a0.map (·.add (t + 4))) n (c - (t + 4))) W := fun W => by
            have := run_part a0 N c (t + 4) (t + 4 + n) (by omega) (by omega) W
            rw [show t + 4 + n - (t + 4) = n by omega] at this
            exact this
          have hp2 := HSr.out.part c (t + 4) n (by rw [HN.out]; exact hNc)
          obtain ⟨A2, hA2⟩ : ∃ A, (if c = t + 4 then a0 else a0.map (·.add (t + 4))) = A := ⟨_, rfl⟩
          rw [hA2] at hp2
          simp only [hA2] at k2
          obtain ⟨X, hX⟩ : ∃ X, (l.drop (t + 4)).take n = X := ⟨_, rfl⟩
          rw [hX] at hp2
          have HXl : Hid (X.length = n) := (by rw [← hX, List.length_take, List.length_drop, HN.out]; omega : _ = _)
          have HCN : Hid (cut (l.drop t) = ⟨X :: (cut (l.drop (t + 4 + n))).bodies, (cut (l.drop (t + 4 + n))).rest, (cut (l.drop (t + 4 + n))).bad⟩) := by
            have := cut_next (l := l.drop t) (by rw [HN4.out]; omega) (by rw [HN4.out, HDL.out]; omega)
            rw [HN4.out, List.drop_drop, List.drop_drop, hX, show t + (4 + n) = t + 4 + n by omega] at this
            exact this
          have hst : ∀ m, (convert 43 9 (.slice A2 n (c - (t + 4)))).run Try.prog (wr.drewN m) = .ok (.string (bytesOf X)) (wr.drewN m) := fun m => by
            have := Shows.str (w := wr.drewN m) (a := A2) (l := X) hp2 (c - (t + 4))
            rw [HXl.out] at this
            exact this
          clear hp2 hA2 hX
          obtain ⟨x, hx⟩ : ∃ x, bytesOf X = x := ⟨_, rfl⟩
          simp only [hx] at hst
          have HXE : Hid (Go.Proofs.encStr X = .string x) := (by rw [← hx]; rfl : _ = _)
          clear hx
          go_wp2_with (first
            | (go_at_call 21; go_must (refine (HL.out).mono ?_; rintro e w1 ⟨rfl, m, rfl⟩))
            | (at_builtin; go_must (refine wpList_append_own _ rfl _ _ 22 rfl w.heap.size 9 i0 (.string ByteArray.empty) 1 16 Try.underlying22 hi hz0 hz1 hz2 rfl (by decide) _ M.length _ rfl (HW.out.alloc _) ⟨wr.heap.size, 0, none⟩ 1 1 [.string x] rfl rfl ?q1 ?q2 ?q3 ?q4 ?q5 ?_)))
          case q1 =>
            exact cell_one_new (wr.drewN m) (.string x) 9
          case q2 =>
            intro u hu
            simp only [List.mem_cons, List.not_mem_nil, or_false] at hu
            subst hu
            rfl
          case q3 => unfold maxLen; omega
          case q4 => omega
          case q5 => simp; omega
          intro v' w3 hown3 hgrow3 _
          go_wp2_with fail
          go_roundw
          case rel =>
            refine ⟨t + 4 + n, M ++ [X], by omega, by go_num, by simp; omega, ?_, ?_, ?_⟩
            · rw [HC.out, HCN.out]
              simp
            · rw [List.map_append, List.length_append]
              have e3 : [X].map Go.Proofs.encStr = [Value.string x] := by
                show [Go.Proofs.encStr X] = _
                rw [HXE.out]
              rw [e3]
              exact hown3
            · exact (((below_draws hbr m).alloc (by simp; omega) _)).grown hgrow3 (by simp; omega) (fun i hi => (HW.out.lt i hi).1)
          case measure => simp [intOf]; omega

end Go.Proofs.Ytddbacphlbaohaa
