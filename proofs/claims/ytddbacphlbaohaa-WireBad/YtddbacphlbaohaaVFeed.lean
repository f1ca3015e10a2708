/- The document's reader is fed. -/
import Derived.Test.YtddbacphlbaohaaVRef
namespace Go.Proofs.Ytddbacphlbaohaa
open Go.RowKit

theorem index_at (A : ByteArray) (i : Int) (j : Nat) (e : i = (j : Int)) (h : j < A.size) (w : World) : (Instr.index 9 (.string A) (.int .i64 i)).run Try.prog w = .ok (.int .u8 ((A[j]'h).toNat : Int)) w := by
  subst e
  rw [run_index_string w 9 A .i64 _ Try.underlying9, dif_pos (by omega)]
  rfl

set_option maxRecDepth 100000 in
set_option maxHeartbeats 1000000 in
theorem rvFeed_main (g : Nat) (k : List UInt8) (b : ByteArray) (w : World) (hr : RvAt w g ⟨k, false⟩) (hk : k.length < 65540) (hb : b.size ≤ 262144) :
    Calls Try.prog 10 #[.pointer (some ⟨g, 0, none⟩), .string b] w fun e w' => ∃ v, e = .returned (.tuple #[v, .int .i64 (if (cut (k ++ b.data.toList)).bad then 70 else 0)]) ∧ w'.ownsRow w.heap.size 9 1 v (cut (k ++ b.data.toList)).bodies.length ((cut (k ++ b.data.toList)).bodies.map Go.Proofs.encStr) ∧ RvAt w' g ⟨(cut (k ++ b.data.toList)).rest, (cut (k ++ b.data.toList)).bad⟩ ∧ Turn (fun i => i = g) w w' := by
  obtain ⟨i0, hi, hz0, hz1, hz2⟩ := infoStr_parts
  have HR : Hid (w.heap[g]? = some (.cells #[.string (bytesOf k), .bool false] 33 (0, 0))) := hr
  obtain ⟨K, hK⟩ : ∃ K, bytesOf k = K := ⟨_, rfl⟩
  have hKs : K.size < 65540 := by rw [← hK]; exact hk
  obtain ⟨A, hA⟩ : ∃ A, K ++ b = A := ⟨_, rfl⟩
  have HAL : Hid (A.data.toList = k ++ b.data.toList) := (by rw [← hA, ← hK, app_list]; rfl : _ = _)
  have hAs : A.size < 400000 := by rw [← hA, ByteArray.size_append]; omega
  have HA : Hid (K ++ b = A) := hA
  rw [← HAL.out]
  rw [hK] at HR
  obtain ⟨C, hC⟩ : ∃ C, cut A.data.toList = C := ⟨_, rfl⟩
  rw [hC]
  obtain ⟨Bs, Rs, bd⟩ := C
  dsimp only
  obtain ⟨E, hE⟩ : ∃ E : Int, (if bd = true then 70 else 0) = E := ⟨_, rfl⟩
  rw [hE]
  have HEE : Hid ((if bd = true then (70 : Int) else 0) = E) := hE
  have HC0 : Hid (cut A.data.toList = ⟨Bs, Rs, bd⟩) := hC
  clear hC hE
  have q0 : w.cell? ⟨g, 0, none⟩ = some (.string K) := cell_of HR.out 0
  have q1 : w.cell? ⟨g, 1, none⟩ = some (.bool false) := cell_of HR.out 1
  have hgl : g < w.heap.size := lt_of HR.out
  have hb' : ¬ ((262144 : Int) < b.size) := by omega
  clear hK hA hr
  go_enter Try.func10, Try.ntmps10
  go_wp2_with fail
  rw [HA.out]
  go_loopw [7, 8] (fun out i wr => ∃ (a : Nat) (M : List (List UInt8)), a ≤ A.size ∧ i = .int .i64 a ∧ 4 * M.length ≤ a ∧ (⟨Bs, Rs, bd⟩ : Cut) = ⟨M ++ (cut (A.data.toList.drop a)).bodies, (cut (A.data.toList.drop a)).rest, (cut (A.data.toList.drop a)).bad⟩ ∧ wr.ownsRow w.heap.size 9 1 out M.length (M.map Go.Proofs.encStr) ∧ Below w.heap.size w wr) (fun _ i _ => A.size - (intOf i).toNat)
  case atStart => exact ⟨0, [], Nat.zero_le _, rfl, Nat.le_refl _, HC0.out.symm, World.ownsRow_nil _ _ _ _, Below.refl _ _⟩
  case round =>
    obtain ⟨a, M, ha, rfl, h4, hcut, hrow, hbr⟩ := hrel
    have HC : Hid ((⟨Bs, Rs, bd⟩ : Cut) = ⟨M ++ (cut (A.data.toList.drop a)).bodies, (cut (A.data.toList.drop a)).rest, (cut (A.data.toList.drop a)).bad⟩) := hcut
    have HW : Hid (wr.ownsRow w.heap.size 9 1 u7 M.length (M.map Go.Proofs.encStr)) := hrow
    have hsz1 : w.heap.size ≤ wr.heap.size := hbr.size
    have HG : Hid (wr.heap[g]? = some (.cells #[.string K, .bool false] 33 (0, 0))) := keep HR.out hbr
    clear hcut hrow
    have g0 : wr.cell? ⟨g, 0, none⟩ = some (.string K) := cell_of HG.out 0
    have g1 : wr.cell? ⟨g, 1, none⟩ = some (.bool false) := cell_of HG.out 1
    have f0 := frozen_of HG.out 0
    have f1 := frozen_of HG.out 1
    have hdl : (A.data.toList.drop a).length = A.size - a := List.length_drop ..
    have hcut2 : ∀ w : World, (Instr.slice 9 (.string A) (some (.int .i64 (a : Int))) none none).run Try.prog w = .ok (.string (bytesOf (A.data.toList.drop a))) w := fun w => by
      have h := run_slice_string_l (P := Try.prog) w 9 A Try.underlying9 .i64 (a : Int) (by omega) (by omega)
      rw [show (a : Int).toNat = a by omega, ext_of A a A.size (A.data.toList.drop a) (by rw [take_all])] at h
      exact h
    obtain ⟨R, hR⟩ : ∃ R, bytesOf (A.data.toList.drop a) = R := ⟨_, rfl⟩
    rw [hR] at hcut2
    -- what is left is kept
    have HE : Hid (∀ m, cut (A.data.toList.drop a) = ⟨[], A.data.toList.drop a, false⟩ → E = 0 ∧ ((wr.drewN m).setCell ⟨g, 0, none⟩ (.string R)).ownsRow w.heap.size 9 1 u7 Bs.length (Bs.map Go.Proofs.encStr) ∧ RvAt ((wr.drewN m).setCell ⟨g, 0, none⟩ (.string R)) g ⟨Rs, bd⟩ ∧ Turn (fun i => i = g) w ((wr.drewN m).setCell ⟨g, 0, none⟩ (.string R))) := fun m hc => by
      have e := HC.out
      rw [hc] at e
      injection e with e1 e2 e3
      rw [List.append_nil] at e1
      rw [e1, e2, e3]
      refine ⟨?_, ?_, ?_, ?_⟩
      · rw [← HEE.out, e3]
        rfl
      · refine ownsRow_block HW.out fun i hi => ?_
        have h1 := (HW.out.lt i hi).1
        exact (Turn.setCell (S := fun k => k = g) (wr.drewN m) ⟨g, 0, none⟩ (.string R) rfl).block i (HW.out.lt i hi).2 (fun e => by omega)
      · have h1 : (wr.drewN m).heap[g]? = some (.cells #[.string K, .bool false] 33 (0, 0)) := HG.out
        have h2 := heap_setCell_same h1 0 (.string R)
        rw [← hR] at h2 ⊢
        exact h2
      · exact ((Turn.ofBelow _ hbr).drewN m).trans (Turn.setCell (S := fun k => k = g) (wr.drewN m) ⟨g, 0, none⟩ (.string R) rfl)
    by_cases hs : A.size < a + 4
    · have hs' : ¬ ((4 : Int) ≤ (A.size : Int) - a) := by omega
      have HCS : Hid (cut (A.data.toList.drop a) = ⟨[], A.data.toList.drop a, false⟩) := cut_short (by omega)
      clear hR hdl
      go_wp2_with fail
      go_ret2
      obtain ⟨x1, x2, x3, x4⟩ := HE.out 0 HCS.out
      exact ⟨_, by rw [x1]; rfl, x2, x3, x4⟩
    · obtain ⟨n, hn⟩ : ∃ n, be4 (A.data.toList.drop a) = n := ⟨_, rfl⟩
      have hn2 : n < 4294967296 := hn ▸ be4_lt _
      have hs' : (4 : Int) ≤ (A.size : Int) - a := by omega
      have w1 : IntKind.i64.wrap ((a : Int) + 1) = (a : Int) + 1 := wrap_small _ (by omega) (by omega)
      have w2 : IntKind.i64.wrap ((a : Int) + 2) = (a : Int) + 2 := wrap_small _ (by omega) (by omega)
      have w3 : IntKind.i64.wrap ((a : Int) + 3) = (a : Int) + 3 := wrap_small _ (by omega) (by omega)
      have hbe := be4_at A a (by omega)
      have k0 := index_at A (a : Int) a rfl (by omega)
      have k1 := index_at A ((a : Int) + 1) (a + 1) (by omega) (by omega)
      have k2 := index_at A ((a : Int) + 2) (a + 2) (by omega) (by omega)
      have k3 := index_at A ((a : Int) + 3) (a + 3) (by omega) (by omega)
      rw [hn] at hbe
      have y0 := (A[a]'(by omega)).toNat_lt
      have y1 := (A[a + 1]'(by omega)).toNat_lt
      have y2 := (A[a + 2]'(by omega)).toNat_lt
      have y3 := (A[a + 3]'(by omega)).toNat_lt
      generalize (A[a]'(by omega)).toNat = c0 at hbe k0 y0
      generalize (A[a + 1]'(by omega)).toNat = c1 at hbe k1 y1
      generalize (A[a + 2]'(by omega)).toNat = c2 at hbe k2 y2
      generalize (A[a + 3]'(by omega)).toNat = c3 at hbe k3 y3
      have hsum : (c0 : Int) * 16777216 + (c1 : Int) * 65536 + (c2 : Int) * 256 + (c3 : Int) = (n : Int) := by omega
      have HN : Hid (be4 (A.data.toList.drop a) = n) := hn
      clear hbe hn
      by_cases h5 : 65536 < n
      · have h5' : (65536 : Int) < n := by omega
        have HCG : Hid (cut (A.data.toList.drop a) = ⟨[], [], true⟩) := cut_great (by omega) (by rw [HN.out]; exact h5)
        clear hR hdl
        go_wp2_with fail
        go_quiet (fail)
        go_wp2_with fail
        go_ret2
        have e := HC.out
        rw [HCG.out] at e
        injection e with e1 e2 e3
        rw [List.append_nil] at e1
        rw [e1, e2, e3]
        have t1 := Turn.setCell (S := fun k => k = g) (wr.drewN nq) ⟨g, 0, none⟩ (.string { data := #[] }) rfl
        have t2 := Turn.setCell (S := fun k => k = g) ((wr.drewN nq).setCell ⟨g, 0, none⟩ (.string { data := #[] })) ⟨g, 1, none⟩ (.bool true) rfl
        refine ⟨_, by rw [← HEE.out, e3]; rfl, ?_, ?_, ?_⟩
        · refine ownsRow_block HW.out fun i hi => ?_
          have h1 := (HW.out.lt i hi).1
          exact (t1.trans t2).block i (HW.out.lt i hi).2 (fun e => by omega)
        · have h1 : (wr.drewN nq).heap[g]? = some (.cells #[.string K, .bool false] 33 (0, 0)) := HG.out
          exact heap_setCell_same (heap_setCell_same h1 0 (.string { data := #[] })) 1 (.bool true)
        · exact ((Turn.ofBelow _ hbr).drewN nq).trans (t1.trans t2)
      · have h5' : ¬ ((65536 : Int) < n) := by omega
        by_cases h6 : A.size < a + 4 + n
        · have h6' : (A.size : Int) - a - 4 < n := by omega
          have HCP : Hid (cut (A.data.toList.drop a) = ⟨[], A.data.toList.drop a, false⟩) := cut_part (by omega) (by rw [HN.out]; omega) (by rw [HN.out]; omega)
          clear hR hdl
          go_wp2_with fail
          go_quiet (fail)
          go_wp2_with fail
          go_ret2
          obtain ⟨x1, x2, x3, x4⟩ := HE.out nq HCP.out
          exact ⟨_, by rw [x1]; rfl, x2, x3, x4⟩
        · have h6' : ¬ ((A.size : Int) - a - 4 < n) := by omega
          obtain ⟨a2, ha2⟩ : ∃ a2, a + 4 + n = a2 := ⟨_, rfl⟩
          obtain ⟨y, hy⟩ : ∃ y, A.extract (a + 4) (a + 4 + n) = y := ⟨_, rfl⟩
          have x1 : IntKind.i64.wrap ((a : Int) + 4) = (a : Int) + 4 := wrap_small _ (by omega) (by omega)
          have x2 : IntKind.i64.wrap ((a : Int) + 4 + n) = (a2 : Int) := by rw [wrap_small _ (by omega) (by omega)]; omega
          have x3 : IntKind.i64.wrap (4 + (n : Int)) = 4 + (n : Int) := wrap_small _ (by omega) (by omega)
          have x4 : IntKind.i64.wrap ((a : Int) + (4 + (n : Int))) = (a2 : Int) := by rw [wrap_small _ (by omega) (by omega)]; omega
          have kS : ∀ w : World, (Instr.slice 9 (.string A) (some (.int .i64 ((a : Int) + 4))) (some (.int .i64 (a2 : Int))) none).run Try.prog w = .ok (.string y) w := fun w => by
            rw [run_slice_string w 9 A .i64 .i64 _ _ Try.underlying9 (by omega) (by omega) (by omega), show ((a2 : Nat) : Int).toNat = a + 4 + n by omega, ← hy]
            rfl
          have HCN : Hid (cut (A.data.toList.drop a) = ⟨y.data.toList :: (cut (A.data.toList.drop a2)).bodies, (cut (A.data.toList.drop a2)).rest, (cut (A.data.toList.drop a2)).bad⟩) := (by
            rw [cut_next (by rw [HN.out]; omega) (by rw [HN.out]; omega), HN.out, List.drop_drop, List.drop_drop, show a + (4 + n) = a2 by omega, ← hy, extract_list, List.drop_take, show a + 4 + n - (a + 4) = n by omega] : _ = _)
          have ha3 : a2 ≤ A.size := by omega
          have ha4 : a + 4 ≤ a2 := by omega
          clear hR hdl hy ha2
          go_wp2_with fail
          go_quiet (fail)
          have HWd : Hid ((wr.drewN nq).ownsRow w.heap.size 9 1 u7 M.length (M.map Go.Proofs.encStr)) := row_kept HW.out (below_drewN wr nq)
          go_wp2_with (at_builtin; go_must (refine wpList_append_own _ rfl _ _ 22 rfl w.heap.size 9 i0 (.string ByteArray.empty) 1 16 Try.underlying22 hi hz0 hz1 hz2 rfl (by decide) _ M.length _ rfl (HWd.out.alloc _) ⟨wr.heap.size, 0, none⟩ 1 1 [.string y] rfl rfl ?q1 ?q2 ?q3 ?q4 ?q5 ?_))
          case q1 =>
            intro i u hu
            rw [Addr.add_lit]
            match i, hu with
            | 0, hu =>
              have e : Value.string y = u := by simpa using hu
              rw [← e]
              exact cell_of (heap_new (wr.drewN nq) (.cells #[.string y] 9)) 0
          case q2 =>
            intro u hu
            simp only [List.mem_cons, List.not_mem_nil, or_false] at hu
            subst hu
            rfl
          case q3 => unfold maxLen; omega
          case q4 => omega
          case q5 => simp; omega
          intro v' w4 hown4 hgrow4 _
          go_wp2
          go_roundw
          case rel =>
            refine ⟨a2, M ++ [y.data.toList], ha3, rfl, by simp; omega, ?_, ?_, ?_⟩
            · rw [HC.out, HCN.out]
              simp
            · rw [List.map_append, List.length_append]
              have e3 : [y.data.toList].map Go.Proofs.encStr = [Value.string y] := by
                show [Go.Proofs.encStr y.data.toList] = _
                rw [enc_self]
              rw [e3]
              exact hown4
            · exact ((below_draws hbr nq).alloc (by simp; omega) _).grown hgrow4 (by simp; omega) (fun i hi => (HWd.out.lt i hi).1)
          case measure => simp [intOf]; omega

set_option maxHeartbeats 400000 in
theorem rvFeed_ill (g : Nat) (k : List UInt8) (b : ByteArray) (w : World) (hr : RvAt w g ⟨k, true⟩) :
    Calls Try.prog 10 #[.pointer (some ⟨g, 0, none⟩), .string b] w fun e w' => e = .returned (.tuple #[.slice none 0 0, .int .i64 70]) ∧ w' = w := by
  have q1 : w.cell? ⟨g, 1, none⟩ = some (.bool true) := cell_of hr 1
  clear hr
  go_enter Try.func10, Try.ntmps10
  go_wp2
  go_ret2
  exact ⟨rfl, rfl⟩

set_option maxHeartbeats 400000 in
theorem rvFeed_long (g : Nat) (k : List UInt8) (b : ByteArray) (w : World) (hr : RvAt w g ⟨k, false⟩) (hb : 262144 < b.size) :
    Calls Try.prog 10 #[.pointer (some ⟨g, 0, none⟩), .string b] w fun e w' => e = .returned (.tuple #[.slice none 0 0, .int .i64 2]) ∧ w' = w := by
  have q1 : w.cell? ⟨g, 1, none⟩ = some (.bool false) := cell_of hr 1
  have hb' : (262144 : Int) < b.size := by omega
  clear hr
  go_enter Try.func10, Try.ntmps10
  go_wp2
  go_ret2
  exact ⟨rfl, rfl⟩

/-- the document's reader is fed: whatever it keeps (fewer bytes than a packet's most), whatever comes -/
theorem rvFeed_any (g : Nat) (r : Rd) (b : ByteArray) (w : World) (hr : RvAt w g r) (hk : r.kept.length < 65540) :
    Calls Try.prog 10 #[.pointer (some ⟨g, 0, none⟩), .string b] w fun e w' => ∃ v, e = .returned (.tuple #[v, .int .i64 (feedE r b.data.toList)]) ∧ w'.ownsRow w.heap.size 9 1 v (feedB r b.data.toList).length ((feedB r b.data.toList).map Go.Proofs.encStr) ∧ RvAt w' g (feedR r b.data.toList) ∧ Turn (fun i => i = g) w w' := by
  obtain ⟨k, ill⟩ := r
  cases ill with
  | true =>
    refine (rvFeed_ill g k b w hr).mono ?_
    rintro e w' ⟨rfl, rfl⟩
    exact ⟨_, rfl, World.ownsRow_nil _ _ _ _, hr, Turn.refl _ _⟩
  | false =>
    by_cases hb : 262144 < b.size
    · have hb' : 262144 < b.data.toList.length := hb
      have e1 : feedE ⟨k, false⟩ b.data.toList = 2 := by simp only [feedE, if_pos hb']; rfl
      have e2 : feedB ⟨k, false⟩ b.data.toList = [] := by simp only [feedB, if_pos hb']; rfl
      have e3 : feedR ⟨k, false⟩ b.data.toList = ⟨k, false⟩ := by simp only [feedR, if_pos hb']; rfl
      rw [e1, e2, e3]
      refine (rvFeed_long g k b w hr hb).mono ?_
      rintro e w' ⟨rfl, rfl⟩
      exact ⟨_, rfl, World.ownsRow_nil _ _ _ _, hr, Turn.refl _ _⟩
    · have hb' : ¬ (262144 < b.data.toList.length) := hb
      have e1 : feedE ⟨k, false⟩ b.data.toList = if (cut (k ++ b.data.toList)).bad then 70 else 0 := by simp only [feedE, if_neg hb']; rfl
      have e2 : feedB ⟨k, false⟩ b.data.toList = (cut (k ++ b.data.toList)).bodies := by simp only [feedB, if_neg hb']; rfl
      have e3 : feedR ⟨k, false⟩ b.data.toList = ⟨(cut (k ++ b.data.toList)).rest, (cut (k ++ b.data.toList)).bad⟩ := by simp only [feedR, if_neg hb']; rfl
      rw [e1, e2, e3]
      exact rvFeed_main g k b w hr hk (by omega)

/-- a reader's few bytes stay few -/
theorem feedR_kept (r : Rd) (b : List UInt8) (h : r.kept.length < 65540) : (feedR r b).kept.length < 65540 := by
  unfold feedR
  by_cases h1 : r.ill = true
  · rw [if_pos h1]; exact h
  rw [if_neg h1]
  by_cases h2 : 262144 < b.length
  · rw [if_pos h2]; exact h
  rw [if_neg h2]
  have hl := cut_left _ (r.kept ++ b) (Nat.le_refl _)
  cases hb : (cut (r.kept ++ b)).bad with
  | false => exact (hl.1 hb).2
  | true =>
    have := hl.2.1 hb
    show (cut (r.kept ++ b)).rest.length < 65540
    rw [this]
    decide

end Go.Proofs.Ytddbacphlbaohaa
