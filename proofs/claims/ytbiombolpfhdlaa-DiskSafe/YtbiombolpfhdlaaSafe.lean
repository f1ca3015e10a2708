/- DiskSafe: for every text, every text behind it and every draw the call returns true, and each argument reads behind it as it read before. -/
import Derived.Test.YtbiombolpfhdlaaRows
import Derived.Test.YtbiombolpfhdlaaHas
import Derived.ProofKit
import Derived.OpenShut
import Derived.ShutString
import Derived.ChangeOld
namespace Go.Proofs.Ytbiombolpfhdlaa.Safe
open Go.ChangeShapes Go.WideShapes Go.ChangeAt Go.RowKit
open Go.ChangeMaps (open_string shut_string)

theorem own : ownKnob Try.prog.godebug = none := by kernel_rfl
theorem laidOut : laidOutB Try.prog = true := by kernel_rfl

def st (D : List UInt8) (n : Nat) : Dk.Dsk := ⟨[([97], ⟨D, n⟩)], false, false, 0⟩

theorem app1 (D : List UInt8) (h : D.length ≤ 262144) : Dk.appendE Dk.blank [97] D = 0 ∧ Dk.appendS Dk.blank [97] D = st D 0 := by
  have e : Dk.tooLong Dk.blank [97] D = false := by
    unfold Dk.tooLong
    simp [Dk.blank, Dk.getL, Dk.fileOr]
    omega
  have ok : Dk.okName [97] = true := by decide
  unfold Dk.appendE Dk.appendS
  rw [e, ok]
  exact ⟨rfl, rfl⟩

theorem app2 (D M : List UInt8) (n : Nat) (h : D.length + M.length ≤ 262144) : Dk.appendE (st D n) [97] M = 0 ∧ Dk.appendS (st D n) [97] M = st (D ++ M) n := by
  have e : Dk.tooLong (st D n) [97] M = false := by
    unfold Dk.tooLong
    simp [st, Dk.getL, Dk.fileOr]
    omega
  have ok : Dk.okName [97] = true := by decide
  unfold Dk.appendE Dk.appendS
  rw [e, ok]
  exact ⟨rfl, rfl⟩

/-- what is left of a file -/
def left (D M : List UInt8) (draw : Int) : Nat := if (D ++ M).length = D.length then D.length else D.length + Dk.keep ⟨D ++ M, D.length⟩ draw

theorem left_le (D M : List UInt8) (draw : Int) : D.length ≤ left D M draw ∧ left D M draw ≤ (D ++ M).length ∧ (draw < 0 → left D M draw = D.length) := by
  have h1 : D.length ≤ (D ++ M).length := by simp
  have h2 := Dk.keep_le ⟨D ++ M, D.length⟩ draw h1
  unfold left
  split
  · exact ⟨Nat.le_refl _, h1, fun _ => rfl⟩
  · refine ⟨by omega, h2, fun hd => ?_⟩
    unfold Dk.keep
    rw [if_neg (by omega)]
    rfl

theorem crash1 (D M : List UInt8) (draw : Int) : Dk.crashS (st (D ++ M) D.length) [draw] = st ((D ++ M).take (left D M draw)) (left D M draw) := by
  unfold Dk.crashS
  rw [if_neg (by simp)]
  show Dk.Dsk.mk (Dk.crashL [([97], ⟨D ++ M, D.length⟩)] [draw]) false false 0 = _
  unfold left st
  by_cases h : (D ++ M).length = D.length
  · have hM : M = [] := List.eq_nil_of_length_eq_zero (by simpa using h)
    subst hM
    simp [Dk.crashL]
  · simp only [Dk.crashL, h, if_false]
    rfl

set_option maxRecDepth 100000 in
set_option maxHeartbeats 1000000 in
theorem walk (a0 a1 : ByteArray) (a2 : Int) (w0 : a0.size ≤ maxLen) (w1 : a1.size ≤ maxLen) (w2 : a2 ≤ 9223372036854775807) (w : World) :
    Calls Try.prog 6 #[.string a0, .string a1, .int .i64 a2] w fun e w' => e = .returned (.bool true) ∧ Below w.heap.size w w' := by
  have W0 : Hid (a0.size ≤ maxLen) := w0
  have W1 : Hid (a1.size ≤ maxLen) := w1
  unfold maxLen at w0 w1
  by_cases h0 : (262144 : Int) < (a0.size : Int)
  · go_enter Try.func6, Try.ntmps6
    go_wp2_with fail
    refine (has_new _).mono ?_
    rintro e u1 ⟨rfl, H1⟩
    go_wp2_with fail
    refine (works_any _).mono ?_
    rintro e u2 ⟨rfl, H2⟩
    have H3 := H1.below H2
    go_wp2_with fail
    go_ret
    exact ⟨rfl, H3.pull⟩
  · by_cases h1 : (262144 : Int) - (a0.size : Int) < (a1.size : Int)
    · go_enter Try.func6, Try.ntmps6
      go_wp2_with fail
      refine (has_new _).mono ?_
      rintro e u1 ⟨rfl, H1⟩
      go_wp2_with fail
      refine (works_any _).mono ?_
      rintro e u2 ⟨rfl, H2⟩
      have H3 := H1.below H2
      go_wp2_with fail
      go_ret
      exact ⟨rfl, H3.pull⟩
    · obtain ⟨D, hD⟩ : ∃ D, a0.data.toList = D := ⟨_, rfl⟩
      obtain ⟨M, hM⟩ : ∃ M, a1.data.toList = M := ⟨_, rfl⟩
      have hDl : D.length = a0.size := by rw [← hD]; rfl
      have hMl : M.length = a1.size := by rw [← hM]; rfl
      obtain ⟨E1, S1⟩ := app1 D (by omega)
      obtain ⟨E2, S2⟩ := app2 D M D.length (by omega)
      have S3 := crash1 D M a2
      obtain ⟨l1, l2, l3⟩ := left_le D M a2
      obtain ⟨R, hR⟩ : ∃ R, (D ++ M).take (left D M a2) = R := ⟨_, rfl⟩
      have HD : Hid (a0.data.toList = D) := hD
      have HM : Hid (a1.data.toList = M) := hM
      have HE1 : Hid (Dk.appendE Dk.blank [97] D = 0 ∧ Dk.appendS Dk.blank [97] D = st D 0) := ⟨E1, S1⟩
      have HE2 : Hid (Dk.appendE (st D D.length) [97] M = 0 ∧ Dk.appendS (st D D.length) [97] M = st (D ++ M) D.length) := ⟨E2, S2⟩
      have HS3 : Hid (Dk.crashS (st (D ++ M) D.length) [a2] = st R (left D M a2)) := by rw [← hR]; exact S3
      have HRl : Hid (R.length = left D M a2) := by show _ = _; rw [← hR, List.length_take]; omega
      have HR : Hid ((D ++ M).take (left D M a2) = R) := hR
      obtain ⟨sB, hsB⟩ : ∃ sB : ByteArray, sB = ⟨R.toArray⟩ := ⟨_, rfl⟩
      have HsB : Hid (sB = ⟨R.toArray⟩) := hsB
      have hsz : sB.size = left D M a2 := by rw [hsB, ← HRl.out]; simp [ByteArray.size]
      have k1 : (a0.size : Int) ≤ (sB.size : Int) := by omega
      have k2 : (sB.size : Int) ≤ (a0.size : Int) + (a1.size : Int) := by rw [List.length_append] at l2; omega
      have hex : (a0 ++ a1).extract 0 sB.size = sB := by
        apply ByteArray.ext
        apply Array.ext'
        rw [hsz, hsB, ← hR, ByteArray.data_extract, ByteArray.data_append, Array.toList_extract, Array.toList_append, hD, hM]
        simp
      have k3 : (sB.toList == ((a0 ++ a1).extract 0 sB.size).toList) = true := by rw [hex]; exact beq_self_eq_true _
      have k4 : a2 < 0 → (sB.toList == a0.toList) = true := by
        intro hneg
        have e : sB = a0 := by
          apply ByteArray.ext
          apply Array.ext'
          rw [hsB, ← hR, l3 hneg, hD]
          simp
        rw [e]
        exact beq_self_eq_true _
      clear E1 S1 E2 S2 S3 hD hM hR hDl hMl hsB l1 l2 l3 hsz hex
      by_cases hneg : a2 < 0
      · have k5 := k4 hneg
        clear k4
        go_enter Try.func6, Try.ntmps6
        go_wp2_with fail
        refine (has_new _).mono ?_
        rintro e u1 ⟨rfl, H1⟩
        go_wp2_with fail
        refine (works_any _).mono ?_
        rintro e u2 ⟨rfl, H2⟩
        have H3 := H1.below H2
        clear H1 H2
        go_wp2_with fail
        refine (has_append ⟨#[97]⟩ a0 _ H3 (by decide) W0.out (E := 0) (s' := st D 0) (by rw [HD.out]; exact HE1.out.1) (by rw [HD.out]; exact HE1.out.2)).mono ?_
        rintro e u3 ⟨rfl, H4⟩
        go_wp2_with fail
        refine (has_sync ⟨#[97]⟩ _ H4 (by decide) (E := 0) (s' := st D D.length) rfl rfl).mono ?_
        rintro e u4 ⟨rfl, H5⟩
        go_wp2_with fail
        refine (has_append ⟨#[97]⟩ a1 _ H5 (by decide) W1.out (E := 0) (s' := st (D ++ M) D.length) (by rw [HM.out]; exact HE2.out.1) (by rw [HM.out]; exact HE2.out.2)).mono ?_
        rintro e u5 ⟨rfl, H6⟩
        go_wp2_with fail
        refine (has_crash_one a2 _ H6 w2 HS3.out).mono ?_
        rintro e u6 ⟨rfl, H7⟩
        go_wp2_with fail
        have HRd := has_read ⟨#[97]⟩ _ H7 (by decide) (E := 0) (l := R) rfl rfl
        rw [← HsB.out] at HRd
        refine HRd.mono ?_
        rintro e u7 ⟨rfl, rfl⟩
        clear HRd
        go_wp2_with fail
        go_ret
        exact ⟨rfl, H7.pull⟩
      · clear k4
        go_enter Try.func6, Try.ntmps6
        go_wp2_with fail
        refine (has_new _).mono ?_
        rintro e u1 ⟨rfl, H1⟩
        go_wp2_with fail
        refine (works_any _).mono ?_
        rintro e u2 ⟨rfl, H2⟩
        have H3 := H1.below H2
        clear H1 H2
        go_wp2_with fail
        refine (has_append ⟨#[97]⟩ a0 _ H3 (by decide) W0.out (E := 0) (s' := st D 0) (by rw [HD.out]; exact HE1.out.1) (by rw [HD.out]; exact HE1.out.2)).mono ?_
        rintro e u3 ⟨rfl, H4⟩
        go_wp2_with fail
        refine (has_sync ⟨#[97]⟩ _ H4 (by decide) (E := 0) (s' := st D D.length) rfl rfl).mono ?_
        rintro e u4 ⟨rfl, H5⟩
        go_wp2_with fail
        refine (has_append ⟨#[97]⟩ a1 _ H5 (by decide) W1.out (E := 0) (s' := st (D ++ M) D.length) (by rw [HM.out]; exact HE2.out.1) (by rw [HM.out]; exact HE2.out.2)).mono ?_
        rintro e u5 ⟨rfl, H6⟩
        go_wp2_with fail
        refine (has_crash_one a2 _ H6 w2 HS3.out).mono ?_
        rintro e u6 ⟨rfl, H7⟩
        go_wp2_with fail
        have HRd := has_read ⟨#[97]⟩ _ H7 (by decide) (E := 0) (l := R) rfl rfl
        rw [← HsB.out] at HRd
        refine HRd.mono ?_
        rintro e u7 ⟨rfl, rfl⟩
        clear HRd
        go_wp2_with fail
        go_ret
        exact ⟨rfl, H7.pull⟩

set_option maxRecDepth 100000 in
theorem lifted (os : Os) (started : os.Started) (H : Type) (enc : TypeId × Value → H) :
    ReturnsInHanded {} Try.checked os 6 .any (Rows.diskSafeSpec.pre6 enc Try.prog Try.f6 Rows.diskSafeRow.domain false) (Rows.diskSafeSpec.post enc Try.prog Try.f6 false true false false) := by
  refine returnsInHanded_of_change (C := Try.checked) own started (by kernel_rfl) Try.func6
    (ChangeSpec.witness6 (enc := enc) (C := Try.checked) false ⟨#[], #[.string ByteArray.empty, .string ByteArray.empty, .int .i64 0], []⟩ 8 (by kernel_rfl) (by kernel_rfl) (by kernel_rfl) (by kernel_rfl)) ?_
  intro W base args ds gs before hval0 hW hcnd _
  have hval : ∀ (j : Nat) t v, Try.f6.params[j]? = some t → args[j]? = some v → Value.okWide Try.prog W .any base t v := hval0
  have hW' := hW
  obtain ⟨p, q, hA0, hV, rfl, hfz, hnd⟩ := hW
  have hA : DataW.TrodAll enc Try.prog W 0 (fun _ => true) true Try.f6.params.toList args.toList ds p := hA0
  rw [Try.params6] at hA hval
  obtain ⟨v0, vs0, d0, ds0, p0, q0, hargs, rfl, rfl, h0, r0⟩ := trodAll_cons hA
  obtain ⟨v1, vs1, d1, ds1, p1, q1, rfl, rfl, rfl, h1, r1⟩ := trodAll_cons r0
  obtain ⟨v2, vs2, d2, ds2, p2, q2, rfl, rfl, rfl, h2, r2⟩ := trodAll_cons r1
  obtain ⟨rfl, rfl, rfl⟩ := trodAll_nil r2
  obtain rfl : args = #[v0, v1, v2] := by cases args; simp_all
  obtain ⟨rfl, rfl⟩ := trodVars_none hV
  obtain ⟨a0, rfl, rfl, rfl, w0⟩ := open_string Try.underlying9 (hval 0 9 v0 rfl rfl) h0
  obtain ⟨a1, rfl, rfl, rfl, w1⟩ := open_string Try.underlying9 (hval 1 9 v1 rfl rfl) h1
  obtain ⟨a2, rfl, rfl, rfl, w2⟩ := open_int Try.underlying3 (hval 2 3 v2 rfl rfl) h2
  clear hA0 hval0
  refine (walk a0 a1 a2 w0 w1 (bounds_i64 w2).2 W).mono fun e W' ⟨he, bel⟩ => ?_
  subst he
  exact ⟨_, rfl, _, _, _, [], _, [], hW', trodAll_mk1 (shut_bool Try.underlying4 _), (trodAll_cons_mk (shut_string Try.underlying9 w0) (trodAll_cons_mk (shut_string Try.underlying9 w1) (trodAll_cons_mk (shut_int Try.underlying3 w2) trodAll_mk0))), rfl, bel.frame _, fun h => by cases h⟩

end Go.Proofs.Ytbiombolpfhdlaa.Safe

namespace Go.Proofs.Ytbiombolpfhdlaa
theorem diskSafe_holds : Rows.DiskSafeSaid :=
  OpenClaim.holds_of_wide 6 Try.f6 rfl rfl rfl rfl rfl rfl rfl ⟨rfl, rfl, rfl, rfl, rfl⟩ rfl rfl rfl rfl rfl (by kernel_rfl) Try.func6 (by kernel_rfl)
    (of_decide_eq_true (by kernel_rfl)) (by unfold Func.isWrapper; first | (rw [if_pos (by decide +kernel)]; kernel_rfl) | (rw [if_neg (by decide +kernel)]; exact ⟨rfl, rfl⟩))
    (fun os started H enc _ => Safe.lifted os started H enc)
end Go.Proofs.Ytbiombolpfhdlaa
