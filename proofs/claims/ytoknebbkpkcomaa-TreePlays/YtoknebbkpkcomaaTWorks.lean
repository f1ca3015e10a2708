/- The chapter's example. -/
import Derived.Test.YtoknebbkpkcomaaTStand
namespace Go.Proofs.Ytoknebbkpkcomaa
open Go.RowKit

abbrev tkA : ByteArray := ⟨#[97]⟩
abbrev tkB : ByteArray := ⟨#[98]⟩
abbrev tkC : ByteArray := ⟨#[99]⟩
abbrev tkD : ByteArray := ⟨#[100]⟩
theorem bl_mk (x y : UInt8) : bl ⟨#[x]⟩ ⟨#[y]⟩ = Op.bytesLess [x] [y] := by
  unfold bl
  rw [Go.ByteArray.toList_eq, Go.ByteArray.toList_eq]
theorem tk_ne {x y : UInt8} (h : x ≠ y) : (⟨#[x]⟩ : ByteArray) ≠ ⟨#[y]⟩ := fun e => by
  injection e with e
  simp at e
  exact h e
theorem tp1 : PutK [] tkB 1 [(tkB, 1)] 0 false 0 := Or.inr (Or.inr (Or.inr ⟨by decide, rfl, by decide, rfl, rfl, rfl, rfl⟩))
theorem tp2 : PutK [(tkB, 1)] tkD 2 [(tkB, 1), (tkD, 2)] 0 false 0 :=
  Or.inr (Or.inr (Or.inr ⟨by decide, by simp [getK, tk_ne (show (98 : UInt8) ≠ 100 by decide)], by decide, by simp only [insK, bl_mk]; rfl, rfl, rfl, rfl⟩))
theorem tp3 : PutK [(tkB, 1), (tkD, 2)] tkB 5 [(tkB, 5), (tkD, 2)] 1 true 0 :=
  Or.inr (Or.inl ⟨by decide, by simp [getK], by simp only [insK, bl_mk]; rfl, rfl, rfl⟩)
theorem tp4 : PutK [(tkB, 5), (tkD, 2)] tkC 3 [(tkB, 5), (tkC, 3), (tkD, 2)] 0 false 0 :=
  Or.inr (Or.inr (Or.inr ⟨by decide, by simp [getK, tk_ne (show (98 : UInt8) ≠ 99 by decide), tk_ne (show (100 : UInt8) ≠ 99 by decide)], by decide, by simp only [insK, bl_mk, if_neg (tk_ne (show (100 : UInt8) ≠ 99 by decide))]; rfl, rfl, rfl, rfl⟩))
theorem tsc2 : scanK tkA tkD [(tkB, 1), (tkD, 2)] = [(tkB, 1)] := by
  simp only [scanK, List.filter_cons, inK, bl_mk, decide_eq_false (show ¬ tkD = ⟨#[]⟩ by decide)]
  rfl
theorem tsc4 : scanK tkA tkD [(tkB, 5), (tkC, 3), (tkD, 2)] = [(tkB, 5), (tkC, 3)] := by
  simp only [scanK, List.filter_cons, inK, bl_mk, decide_eq_false (show ¬ tkD = ⟨#[]⟩ by decide)]
  rfl

theorem Grew.of {T T' T'' : Tr} (h : Moves T T') (k : Moves T' T'') : Grew T.ls T.made T''.ls T''.made := h.grew.trans k.grew

set_option maxRecDepth 100000 in
set_option maxHeartbeats 2000000 in
theorem works_any (w : World) : Calls Try.prog 15 #[] w fun e w' => e = .returned (.bool true) ∧ Below w.heap.size w w' := by
  have HNew : Hid (Calls Try.prog 9 #[] w fun e w' => ∃ t T, e = .returned (.pointer (some ⟨t, 0, none⟩)) ∧ Hid (T.ks = [] ∧ HasT t T 0 w w' [])) := hast_new (Below.refl _ _)
  go_enter Try.func15, Try.ntmps15
  go_wp2_with fail
  refine HNew.out.mono ?_
  rintro e w1 ⟨t, T0, rfl, H0⟩
  clear HNew
  have HP1 : Hid (Calls Try.prog 17 #[.pointer (some ⟨t, 0, none⟩), .string tkB, .int .i64 1] w1 fun x w' => x = .returned (.tuple #[.int .i64 0, .bool false, .int .i64 0]) ∧ ∃ T', Hid (T'.ks = [(tkB, 1)] ∧ Moves T0 T' ∧ HasT t T' 2 w w' [])) :=
    HasT.put H0.out.2 (by rw [H0.out.1]; exact tp1) (by decide) (by omega)
  go_wp2_with fail
  refine HP1.out.mono ?_
  rintro e w2 ⟨rfl, T1, H1⟩
  clear HP1 H0
  have HP2 : Hid (Calls Try.prog 17 #[.pointer (some ⟨t, 0, none⟩), .string tkD, .int .i64 2] w2 fun x w' => x = .returned (.tuple #[.int .i64 0, .bool false, .int .i64 0]) ∧ ∃ T', Hid (T'.ks = [(tkB, 1), (tkD, 2)] ∧ Moves T1 T' ∧ HasT t T' 4 w w' [])) :=
    HasT.put H1.out.2.2 (by rw [H1.out.1]; exact tp2) (by decide) (by omega)
  go_wp2_with fail
  refine HP2.out.mono ?_
  rintro e w3 ⟨rfl, T2, H2⟩
  clear HP2 H1
  have HS : Hid (Calls Try.prog 12 #[.pointer (some ⟨t, 0, none⟩), .string tkA, .string tkD, .int .i64 9] w3 fun x w' => ∃ vk vv vs told seen L', x = .returned (.tuple #[vk, vv, vs, .int .i64 0]) ∧ Hid (Scanned T2.ls tkA tkD 9 told seen) ∧ Hid (Rows L' vk vv vs told seen) ∧ Hid (HasT t T2 4 w w' (L' ++ []))) :=
    HasT.scan (most := 9) H2.out.2.2 (by omega) (by omega)
  go_wp2_with fail
  refine HS.out.mono ?_
  rintro e w4 ⟨vk, vv, vs, told, seen, L', rfl, HSc, HR, H4⟩
  clear HS
  have ht : told = [(tkB, 1)] := by
    rw [HSc.out.eq, show allK T2.ls = _ from H2.out.1, tsc2]
    rfl
  subst ht
  have HSm : Hid ((∀ s ∈ seen, 0 ≤ s.1 ∧ s.1 < 1000000) ∧ seen.length ≤ 10000) := scanned_small H4.out.ok (by omega) HSc.out
  obtain ⟨av, cv, rfl, hcl, -, -⟩ := (HR.out w4 (fun p hp => H4.out.heaps p (by simp [hp]))).1
  have hv1 : validB T2.ls seen = true := valid_now HSc.out.real
  have HV1 : Hid (Calls Try.prog 21 #[.pointer (some ⟨t, 0, none⟩), vs] w4 fun e w' => e = .returned (.bool true) ∧ Hid (HasT t T2 4 w w' (L' ++ []))) := by
    have := HasT.valid H4.out (HR.out w4 (fun p hp => H4.out.heaps p (by simp [hp]))).2.2 HSm.out.1 HSm.out.2
    rw [hv1] at this
    exact this
  obtain ⟨a3, c3, rfl, h3c, h3m, -⟩ := (HR.out w4 (fun p hp => H4.out.heaps p (by simp [hp]))).2.2
  obtain ⟨N3, hN3⟩ : ∃ N3, seen.length = N3 := ⟨_, rfl⟩
  rw [hN3] at h3c HV1 HR ⊢
  go_wp2_with fail
  refine HV1.out.mono ?_
  rintro e w5 ⟨rfl, H5⟩
  clear HV1 H4
  have HP3 : Hid (Calls Try.prog 17 #[.pointer (some ⟨t, 0, none⟩), .string tkB, .int .i64 5] w5 fun x w' => x = .returned (.tuple #[.int .i64 1, .bool true, .int .i64 0]) ∧ ∃ T', Hid (T'.ks = [(tkB, 5), (tkD, 2)] ∧ Moves T2 T' ∧ HasT t T' 6 w w' (L' ++ []))) :=
    HasT.put H5.out (by rw [H2.out.1]; exact tp3) (by decide) (by omega)
  go_wp2_with fail
  refine HP3.out.mono ?_
  rintro e w6 ⟨rfl, T3, H6⟩
  clear HP3 H5
  have hv2 : validB T3.ls seen = true := H6.out.2.1.still (by rw [H6.out.1, H2.out.1]; rfl) seen hv1
  have HV2 : Hid (Calls Try.prog 21 #[.pointer (some ⟨t, 0, none⟩), .slice a3 N3 c3] w6 fun e w' => e = .returned (.bool true) ∧ Hid (HasT t T3 6 w w' (L' ++ []))) := by
    have := HasT.valid H6.out.2.2 (HR.out w6 (fun p hp => H6.out.2.2.heaps p (by simp [hp]))).2.2 HSm.out.1 HSm.out.2
    rw [hv2] at this
    exact this
  go_wp2_with fail
  refine HV2.out.mono ?_
  rintro e w7 ⟨rfl, H7⟩
  clear HV2
  have HP4 : Hid (Calls Try.prog 17 #[.pointer (some ⟨t, 0, none⟩), .string tkC, .int .i64 3] w7 fun x w' => x = .returned (.tuple #[.int .i64 0, .bool false, .int .i64 0]) ∧ ∃ T', Hid (T'.ks = [(tkB, 5), (tkC, 3), (tkD, 2)] ∧ Moves T3 T' ∧ HasT t T' 8 w w' (L' ++ []))) :=
    HasT.put H7.out (by rw [H6.out.1]; exact tp4) (by decide) (by omega)
  go_wp2_with fail
  refine HP4.out.mono ?_
  rintro e w8 ⟨rfl, T4, H8⟩
  clear HP4 H7
  have hv3 : validB T4.ls seen = false := by
    cases hb : validB T4.ls seen with
    | false => rfl
    | true =>
      have := unseen H2.out.2.2.ok.ok H8.out.2.2.ok.ok (Grew.of H6.out.2.1 H8.out.2.1) (by omega) HSc.out hb
      rw [show allK T4.ls = _ from H8.out.1, tsc4] at this
      simp [keysOf] at this
  have HV3 : Hid (Calls Try.prog 21 #[.pointer (some ⟨t, 0, none⟩), .slice a3 N3 c3] w8 fun e w' => e = .returned (.bool false) ∧ Hid (HasT t T4 8 w w' (L' ++ []))) := by
    have := HasT.valid H8.out.2.2 (HR.out w8 (fun p hp => H8.out.2.2.heaps p (by simp [hp]))).2.2 HSm.out.1 HSm.out.2
    rw [hv3] at this
    exact this
  obtain ⟨kb, ko, rfl, hk1⟩ := strs_cell (L := [tkB]) (HR.out w8 (fun p hp => H8.out.2.2.heaps p (by simp [hp]))).1 (by simp)
  have hk2 : w8.cell? ⟨kb, ko, none⟩ = some (.string tkB) := hk1 0 tkB rfl
  clear hk1 hv1 hv2 hv3
  go_wp2_with (go_at_call 21; go_must (refine HV3.out.mono ?_; rintro e w9 ⟨rfl, H9⟩))
  go_ret
  exact ⟨rfl, H9.out.base⟩

end Go.Proofs.Ytoknebbkpkcomaa
