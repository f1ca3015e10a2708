/- KeyNext: for every text and every other one the call returns true, and each argument reads behind it as it read before. -/
import Derived.Test.YtookddieiegchaaRows
import Derived.Test.YtookddieiegchaaKPure
import Derived.Test.YtookddieiegchaaKWorks
import Derived.ProofKit
import Derived.OpenShut
import Derived.ShutString
import Derived.ChangeOld
namespace Go.Proofs.Ytookddieiegchaa.Next
open Go.ChangeShapes Go.WideShapes Go.ChangeAt Go.RowKit
open Go.ChangeMaps (open_string shut_string)

theorem own : ownKnob Try.prog.godebug = none := by kernel_rfl
theorem laidOut : laidOutB Try.prog = true := by kernel_rfl

set_option maxRecDepth 100000 in
set_option maxHeartbeats 400000 in
theorem next_small (k : ByteArray) (w : World) (h : k.size < 262144) :
    Calls Try.prog 5 #[.string k] w fun e w' => e = .returned (.tuple #[.string (k ++ ⟨#[0]⟩), .int .i64 0]) ∧ w' = w := by
  have h1 : ¬ (262144 ≤ (k.size : Int)) := by omega
  have hadd : ∀ u, (binOp .add 9 (.string k) (.string ⟨#[0]⟩)).run Try.prog u = .ok (.string (k ++ ⟨#[0]⟩)) u := fun u => by
    rw [binOp_string_add]
    exact run_string_add_sum _ _ _ (by
      have e : (ByteArray.mk #[0]).size = 1 := rfl
      rw [e]; omega)
  clear h
  go_enter Try.func5, Try.ntmps5
  go_wp2_with fail
  go_ret2
  exact ⟨rfl, rfl⟩

set_option maxHeartbeats 400000 in
theorem next_long (k : ByteArray) (w : World) (h : 262144 ≤ k.size) :
    Calls Try.prog 5 #[.string k] w fun e w' => e = .returned (.tuple #[.string ⟨#[]⟩, .int .i64 2]) ∧ w' = w := by
  have h1 : 262144 ≤ (k.size : Int) := by omega
  go_enter Try.func5, Try.ntmps5
  go_wp2
  go_ret2
  exact ⟨rfl, rfl⟩

set_option maxRecDepth 100000 in
set_option maxHeartbeats 1000000 in
theorem walk (a0 a1 : ByteArray) (w : World) :
    Calls Try.prog 3 #[.string a0, .string a1] w fun e w' => e = .returned (.bool true) ∧ Below w.heap.size w w' := by
  by_cases h0 : a0.size < 262144
  · obtain ⟨n, hn⟩ : ∃ n, a0 ++ ⟨#[0]⟩ = n := ⟨_, rfl⟩
    have e : n.toList = a0.toList ++ [0] := by
      rw [← hn, Go.ByteArray.toList_eq, Go.ByteArray.toList_eq, ByteArray.data_append, Array.toList_append]
    have k1 : Op.bytesLess a0.toList n.toList = true := by rw [e]; exact less_next _
    have k2 := beside a0.toList a1.toList
    rw [← e] at k2
    have HC : Hid (∀ u, Calls Try.prog 5 #[.string a0] u fun e w' => e = .returned (.tuple #[.string n, .int .i64 0]) ∧ w' = u) := fun u => hn ▸ next_small a0 u h0
    clear hn e h0
    by_cases k3 : (Op.bytesLess a1.toList a0.toList || a1.toList == a0.toList) = true
    · clear k2
      go_enter Try.func3, Try.ntmps3
      go_wp2_with (first | (go_at_call 4; refine (works_any _).mono ?_; rintro e w1 ⟨rfl, hb⟩) | (go_at_call 5; refine (HC.out _).mono ?_; rintro e w2 ⟨rfl, rfl⟩))
      go_ret
      exact ⟨rfl, hb⟩
    · have k3' : (Op.bytesLess a1.toList a0.toList || a1.toList == a0.toList) = false := by simpa using k3
      rw [k3', Bool.false_or] at k2
      have k4 : Op.bytesLess a1.toList n.toList = false := by simpa using k2
      clear k3 k2
      go_enter Try.func3, Try.ntmps3
      go_wp2_with (first | (go_at_call 4; refine (works_any _).mono ?_; rintro e w1 ⟨rfl, hb⟩) | (go_at_call 5; refine (HC.out _).mono ?_; rintro e w2 ⟨rfl, rfl⟩))
      go_ret
      exact ⟨rfl, hb⟩
  · have HC : Hid (∀ u, Calls Try.prog 5 #[.string a0] u fun e w' => e = .returned (.tuple #[.string ⟨#[]⟩, .int .i64 2]) ∧ w' = u) := fun u => next_long a0 u (by omega)
    go_enter Try.func3, Try.ntmps3
    go_wp2_with (first | (go_at_call 4; refine (works_any _).mono ?_; rintro e w1 ⟨rfl, hb⟩) | (go_at_call 5; refine (HC.out _).mono ?_; rintro e w2 ⟨rfl, rfl⟩))
    go_ret
    exact ⟨rfl, hb⟩

set_option maxRecDepth 100000 in
theorem lifted (os : Os) (started : os.Started) (H : Type) (enc : TypeId × Value → H) :
    ReturnsInHanded {} Try.checked os 3 .any (Rows.keyNextSpec.pre6 enc Try.prog Try.f3 Rows.keyNextRow.domain false) (Rows.keyNextSpec.post enc Try.prog Try.f3 false true false false) := by
  refine returnsInHanded_of_change (C := Try.checked) own started (by kernel_rfl) Try.func3
    (ChangeSpec.witness6 (enc := enc) (C := Try.checked) false ⟨#[], #[.string ByteArray.empty, .string ByteArray.empty], []⟩ 8 (by kernel_rfl) (by kernel_rfl) (by kernel_rfl) (by kernel_rfl)) ?_
  intro W base args ds gs before hval0 hW hcnd _
  have hval : ∀ (j : Nat) t v, Try.f3.params[j]? = some t → args[j]? = some v → Value.okWide Try.prog W .any base t v := hval0
  have hW' := hW
  obtain ⟨p, q, hA0, hV, rfl, hfz, hnd⟩ := hW
  have hA : DataW.TrodAll enc Try.prog W 0 (fun _ => true) true Try.f3.params.toList args.toList ds p := hA0
  rw [Try.params3] at hA hval
  obtain ⟨v0, vs0, d0, ds0, p0, q0, hargs, rfl, rfl, h0, r0⟩ := trodAll_cons hA
  obtain ⟨v1, vs1, d1, ds1, p1, q1, rfl, rfl, rfl, h1, r1⟩ := trodAll_cons r0
  obtain ⟨rfl, rfl, rfl⟩ := trodAll_nil r1
  obtain rfl : args = #[v0, v1] := by cases args; simp_all
  obtain ⟨rfl, rfl⟩ := trodVars_none hV
  obtain ⟨a0, rfl, rfl, rfl, w0⟩ := open_string Try.underlying9 (hval 0 9 v0 rfl rfl) h0
  obtain ⟨a1, rfl, rfl, rfl, w1⟩ := open_string Try.underlying9 (hval 1 9 v1 rfl rfl) h1
  clear hA0 hval0
  refine (walk a0 a1 W).mono fun e W' ⟨he, bel⟩ => ?_
  subst he
  exact ⟨_, rfl, _, _, _, [], _, [], hW', trodAll_mk1 (shut_bool Try.underlying4 _), (trodAll_cons_mk (shut_string Try.underlying9 w0) (trodAll_cons_mk (shut_string Try.underlying9 w1) trodAll_mk0)), rfl, bel.frame _, fun h => by cases h⟩

end Go.Proofs.Ytookddieiegchaa.Next

namespace Go.Proofs.Ytookddieiegchaa
theorem keyNext_holds : Rows.KeyNextSaid :=
  OpenClaim.holds_of_wide 3 Try.f3 rfl rfl rfl rfl rfl rfl rfl ⟨rfl, rfl, rfl, rfl, rfl⟩ rfl rfl rfl rfl rfl (by kernel_rfl) Try.func3 (by kernel_rfl)
    (of_decide_eq_true (by kernel_rfl)) (by unfold Func.isWrapper; first | (rw [if_pos (by decide +kernel)]; kernel_rfl) | (rw [if_neg (by decide +kernel)]; exact ⟨rfl, rfl⟩))
    (fun os started H enc _ => Next.lifted os started H enc)
end Go.Proofs.Ytookddieiegchaa
