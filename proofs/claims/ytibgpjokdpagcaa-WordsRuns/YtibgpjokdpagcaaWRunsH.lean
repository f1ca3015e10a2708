/- WordsRuns: for all tasks, cells and picks the law returns true, and what came in reads behind it as it read before. No condition. -/
import Derived.Test.YtibgpjokdpagcaaRows
import Derived.Test.YtibgpjokdpagcaaWRuns
import Derived.Test.YtibgpjokdpagcaaWArgs
namespace Go.Proofs.Ytibgpjokdpagcaa
open Go.ChangeShapes Go.WideShapes Go.ChangeAt Go.RowKit

namespace Runs

set_option maxRecDepth 100000 in
theorem lifted (os : Os) (started : os.Started) (H : Type) (enc : TypeId × Value → H) :
    ReturnsInHanded {} Try.checked os 3 .any (Rows.wordsRunsSpec.pre6 enc Try.prog Try.f3 Rows.wordsRunsRow.domain false) (Rows.wordsRunsSpec.post enc Try.prog Try.f3 false true false false) := by
  refine returnsInHanded_of_change_sized (C := Try.checked) own started (by kernel_rfl) Try.func3
    (ChangeSpec.witness6 (enc := enc) (C := Try.checked) false ⟨#[], #[.slice none 0 0, .slice none 0 0, .slice none 0 0], []⟩ 8 (by kernel_rfl) (by kernel_rfl) (by kernel_rfl) (by kernel_rfl)) ?_
  intro W base args ds gs before hval0 hW _ hsz0 _
  have hsz : (DataW.weightsEach Try.prog (Try.f3.params.toList ++ Rows.wordsRunsSpec.plain.varTypes Try.prog) (ds ++ gs)).all (· ≤ reachBytes) = true := hsz0
  have hval : ∀ (j : Nat) t v, Try.f3.params[j]? = some t → args[j]? = some v → Value.okWide Try.prog W .any base t v := hval0
  have hW' := hW
  obtain ⟨p, q, hA0, hV, rfl, hfz, hnd⟩ := hW
  have hA : DataW.TrodAll enc Try.prog W 0 (fun _ => true) true Try.f3.params.toList args.toList ds p := hA0
  rw [Try.params3] at hA hval hsz
  obtain ⟨v0, vs0, d0, ds0, p0, q0, hargs, rfl, rfl, h0, r0⟩ := trodAll_cons hA
  obtain ⟨v1, vs1, d1, ds1, p1, q1, rfl, rfl, rfl, h1, r1⟩ := trodAll_cons r0
  obtain ⟨v2, vs2, d2, ds2, p2, q2, rfl, rfl, rfl, h2, r2⟩ := trodAll_cons r1
  obtain ⟨rfl, rfl, rfl⟩ := trodAll_nil r2
  obtain rfl : args = #[v0, v1, v2] := by cases args; simp_all
  obtain ⟨rfl, rfl⟩ := trodVars_none hV
  have lt0 : ∀ x ∈ p0, x.block < W.heap.size := by obtain ⟨m, hm⟩ := h0; exact DataW.trod_lt m _ _ _ hm
  have hwt0 : ∀ n ∈ d0.weights Try.prog 22, n ≤ reachBytes := fun n hn => by
    have := List.all_eq_true.1 hsz n (DataW.weights_mem_each (j := 0) rfl rfl n hn)
    simpa using this
  have x0 : ∃ T : List TaskV, TasksIn W v0 T := by
    obtain ⟨a, l, c, rfl⟩ := okWide_slice Try.underlying22 (hval 0 22 v0 rfl rfl)
    obtain ⟨m, hm⟩ := h0
    exact tasks_in (x := (d0, p0)) hm hwt0
  have lt1 : ∀ x ∈ p1, x.block < W.heap.size := by obtain ⟨m, hm⟩ := h1; exact DataW.trod_lt m _ _ _ hm
  have hwt1 : ∀ n ∈ d1.weights Try.prog 23, n ≤ reachBytes := fun n hn => by
    have := List.all_eq_true.1 hsz n (DataW.weights_mem_each (j := 1) rfl rfl n hn)
    simpa using this
  have x1 : ∃ L : List Int, WordsAt W v1 L ∧ ∀ a ∈ L, 0 ≤ a ∧ a < two64 := by
    obtain ⟨a, l, c, rfl⟩ := okWide_slice Try.underlying23 (hval 1 23 v1 rfl rfl)
    obtain ⟨m, hm⟩ := h1
    exact words_of (x := (d1, p1)) hm hwt1
  have lt2 : ∀ x ∈ p2, x.block < W.heap.size := by obtain ⟨m, hm⟩ := h2; exact DataW.trod_lt m _ _ _ hm
  have hwt2 : ∀ n ∈ d2.weights Try.prog 24, n ≤ reachBytes := fun n hn => by
    have := List.all_eq_true.1 hsz n (DataW.weights_mem_each (j := 2) rfl rfl n hn)
    simpa using this
  have x2 : ∃ L : List Int, IntsAt W v2 L ∧ ∀ a ∈ L, -9223372036854775808 ≤ a ∧ a ≤ 9223372036854775807 := by
    obtain ⟨a, l, c, rfl⟩ := okWide_slice Try.underlying24 (hval 2 24 v2 rfl rfl)
    obtain ⟨m, hm⟩ := h2
    exact ints_of (x := (d2, p2)) hm hwt2
  have hN1 : NilOk v1 := by
    obtain ⟨a, l, c, rfl⟩ := okWide_slice Try.underlying23 (hval 1 23 v1 rfl rfl)
    obtain ⟨m, hm⟩ := h1
    exact nil_of (x := (d1, p1)) Try.underlying23 hm
  have hN2 : NilOk v2 := by
    obtain ⟨a, l, c, rfl⟩ := okWide_slice Try.underlying24 (hval 2 24 v2 rfl rfl)
    obtain ⟨m, hm⟩ := h2
    exact nil_of (x := (d2, p2)) Try.underlying24 hm
  have hS1 : ∀ a l c, v1 = .slice a l c → l * 8 ≤ reachBytes := by
    obtain ⟨a', l', c', rfl⟩ := okWide_slice Try.underlying23 (hval 1 23 v1 rfl rfl)
    obtain ⟨m, hm⟩ := h1
    intro a l c e
    exact sized_of (x := (d1, p1)) Try.underlying23 hm hwt1 (by kernel_rfl) e
  have hS2 : ∀ a l c, v2 = .slice a l c → l * 8 ≤ reachBytes := by
    obtain ⟨a', l', c', rfl⟩ := okWide_slice Try.underlying24 (hval 2 24 v2 rfl rfl)
    obtain ⟨m, hm⟩ := h2
    intro a l c e
    exact sized_of (x := (d2, p2)) Try.underlying24 hm hwt2 (by kernel_rfl) e
  obtain ⟨L0, hL0⟩ := x0
  obtain ⟨L1, hL1, hZ1⟩ := x1
  obtain ⟨L2, hL2, hZ2⟩ := x2
  have hB1 : L1.length * 8 ≤ reachBytes := by
    obtain ⟨a, c, e, -⟩ := id hL1
    exact hS1 _ _ _ e
  have hB2 : L2.length * 8 ≤ reachBytes := by
    obtain ⟨a, c, e, -⟩ := id hL2
    exact hS2 _ _ _ e
  clear hA0 hval0 hsz0
  refine (walk v0 v1 v2 L0 L1 L2 W hL0 hL1 ⟨hZ1⟩ hN1 hB1 hL2 hN2 hB2).mono fun e W' ⟨he, bel⟩ => ?_
  subst he
  exact ⟨_, rfl, _, _, _, [], _, [], hW', trodAll_mk1 (shut_bool Try.underlying4 _), (trodAll_cons_mk (Below.trod laidOut (by kernel_rfl) (of_decide_eq_true (by kernel_rfl)) h0 bel lt0) (trodAll_cons_mk (Below.trod laidOut (by kernel_rfl) (of_decide_eq_true (by kernel_rfl)) h1 bel lt1) (trodAll_cons_mk (Below.trod laidOut (by kernel_rfl) (of_decide_eq_true (by kernel_rfl)) h2 bel lt2) trodAll_mk0))), rfl, bel.frame _, fun h => by cases h⟩

end Runs
theorem wordsRuns_holds : Rows.WordsRunsSaid :=
  OpenClaim.holds_of_wide 3 Try.f3 rfl rfl rfl rfl rfl rfl rfl ⟨rfl, rfl, rfl, rfl, rfl⟩ rfl rfl rfl rfl rfl (by kernel_rfl) Try.func3 (by kernel_rfl)
    (of_decide_eq_true (by kernel_rfl)) (by unfold Func.isWrapper; first | (rw [if_pos (by decide +kernel)]; kernel_rfl) | (rw [if_neg (by decide +kernel)]; exact ⟨rfl, rfl⟩))
    (fun os started H enc _ => Runs.lifted os started H enc)
end Go.Proofs.Ytibgpjokdpagcaa
