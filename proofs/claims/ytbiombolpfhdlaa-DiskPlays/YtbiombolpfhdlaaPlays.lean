/- DiskPlays: for all calls the law returns true, and the calls that came in read behind it as they read before. No condition. -/
import Derived.Test.YtbiombolpfhdlaaRows
import Derived.Test.YtbiombolpfhdlaaStepB
import Derived.Test.YtbiombolpfhdlaaSized
namespace Go.Proofs.Ytbiombolpfhdlaa
open Go.ChangeShapes Go.WideShapes Go.ChangeAt Go.RowKit Go.Joins

theorem both_new {w w1 w2 : World} {d m : Nat} {G : List (List UInt8 × Gc)} {s : Dk.Dsk} (hD : DiskG Try.prog w1 d m G s) (hf : ∀ i, foot d m G i → w.heap.size ≤ i) (hb1 : Below w.heap.size w w1) (hR : RefG w2 w1.heap.size (.slice none 0 0) s) (hb2 : Below w1.heap.size w1 w2) :
    BothG w2 d w1.heap.size s (fun i => w.heap.size ≤ i ∧ i < w2.heap.size) := by
  have hs := hb1.size
  refine ⟨m, G, _, hD.kept (S := fun _ => False) (Turn.ofBelow _ hb2) (fun _ _ h => h), hR, fun i hi => ⟨⟨hf i hi, Nat.lt_of_lt_of_le (hD.lt hi) hb2.size⟩, fun hr => ?_⟩, fun i hi => ⟨?_, hR.lt hi⟩, fun i hi => hi.2⟩
  · have := hD.lt hi
    rcases hr with hr | hr
    · omega
    · cases hr
  · rcases hi with hi | hi
    · omega
    · cases hi

/-- a call that came in, at a later world -/
theorem act_fit {w w' : World} {F : Nat → Prop} {x : ActV} (h : ActOk w x) (hz : ActSz x) (hb : Below w.heap.size w w') (hF : ∀ i, F i → w.heap.size ≤ i) : ActFit w' F x := by
  have e : reachBytes = 140737488351232 := rfl
  have h1 := hz.data
  have h2 := hz.many
  exact ⟨h.name, by omega, h.num, (h.draws.under hb).other hF, hz.nil, by omega⟩

namespace Plays

/-- what stands between two calls -/
def Stand (w wr : World) (d r : Nat) : Prop := ∃ s F, BothG wr d r s F ∧ (∀ i, F i → w.heap.size ≤ i) ∧ Below w.heap.size w wr

theorem stand_goes {w wr w' : World} {d r : Nat} {F : Nat → Prop} {s' : Dk.Dsk} (hF : ∀ i, F i → w.heap.size ≤ i) (hb : Below w.heap.size w wr) (h : BothGoes wr w' d r F s') : Stand w w' d r := by
  obtain ⟨F', h1, h2, h3⟩ := h
  refine ⟨s', F', h1, fun i hi => ?_, hb.trans ((h2.mono hF).toBelow hb.size)⟩
  rcases h3 i hi with h4 | h4
  · exact hF i h4
  · exact Nat.le_trans hb.size h4

theorem Stand.below {w wr w' : World} {d r : Nat} (h : Stand w wr d r) (hb : Below wr.heap.size wr w') : Stand w w' d r := by
  obtain ⟨s, F, h1, h2, h3⟩ := h
  exact ⟨s, F, h1.below hb, h2, h3.trans (hb.mono h3.size)⟩

set_option maxRecDepth 100000 in
set_option maxHeartbeats 1000000 in
theorem walk (v0 : Value) (L : List ActV) (w : World) (hA : ActsAt w v0 L) (hZ : ∀ x ∈ L, ActSz x) :
    Calls Try.prog 3 #[v0] w fun e w' => e = .returned (.bool true) ∧ Below w.heap.size w w' := by
  obtain ⟨a, c, rfl, hl, hc, hx, hok⟩ := hA
  have HX : Hid (L ≠ [] → ∃ b off, a = some ⟨b, off, none⟩ ∧ b < w.heap.size ∧ ∀ i, (h : i < L.length) → ActCells w b (off + i * 5) L[i]) := hx
  have HO : Hid (∀ x ∈ L, ActOk w x ∧ ActSz x) := fun x hx => ⟨hok x hx, hZ x hx⟩
  unfold maxLen at hc
  clear hx hok hZ
  go_enter Try.func3, Try.ntmps3
  go_wp2_with fail
  refine (new_any w).mono ?_
  rintro e w1 ⟨rfl, hD, hb1⟩
  have HD : Hid (DiskG Try.prog w1 (w.heap.size + 1) w.heap.size [] Dk.blank) := hD
  have HB1 : Hid (Below w.heap.size w w1) := hb1
  clear hD hb1
  go_wp2_with fail
  refine (rnew_any w1).mono ?_
  rintro e w2 ⟨rfl, hR, hb2⟩
  have HS : Hid (Stand w w2 (w.heap.size + 1) w1.heap.size) := ⟨_, _, both_new HD.out (fun i hi => by
    rcases hi with rfl | rfl | ⟨p, hp, _⟩
    · omega
    · omega
    · cases hp) HB1.out hR hb2, fun i hi => hi.1, HB1.out.trans (hb2.mono HB1.out.size)⟩
  clear hR hb2 HD HB1
  go_wp2_with fail
  refine (names_true _).mono ?_
  rintro e u ⟨rfl, rfl⟩
  go_wp2_with fail
  go_loopw [5] (fun i wr => ∃ j : Nat, j ≤ L.length ∧ j ≤ 200 ∧ i = .int .i64 j ∧ Stand w wr (w.heap.size + 1) w1.heap.size) (fun i _ => L.length - (intOf i).toNat)
  case atStart => exact ⟨0, Nat.zero_le _, Nat.zero_le _, rfl, HS.out⟩
  case round =>
    obtain ⟨j, hj, hj2, rfl, hst⟩ := hrel
    have HSt : Hid (Stand w wr (w.heap.size + 1) w1.heap.size) := hst
    clear hst
    by_cases hlt : j < L.length
    · have hlI : (j : Int) < (L.length : Int) := by omega
      by_cases h2 : j < 200
      · have h2I : (j : Int) < 200 := by omega
        obtain ⟨b, off, rfl, hbl, hcs⟩ := HX.out (by intro e; rw [e] at hlt; simp at hlt)
        obtain ⟨s, F, hB, hF, hbel⟩ := HSt.out
        obtain ⟨q0, q1, q2, q3, q4⟩ := (hcs j hlt)
        have hm : L[j] ∈ L := List.getElem_mem hlt
        have hfit := act_fit (HO.out _ hm).1 (HO.out _ hm).2 hbel hF
        obtain ⟨x, hxe⟩ : ∃ x, L[j] = x := ⟨_, rfl⟩
        rw [hxe] at q0 q1 q2 q3 q4 hfit
        have p0 := (hbel.cell (p := ⟨b, off + j * 5, none⟩) hbl).trans q0
        have p1 := (hbel.cell (p := ⟨b, off + j * 5 + 1, none⟩) hbl).trans q1
        have p2 := (hbel.cell (p := ⟨b, off + j * 5 + 2, none⟩) hbl).trans q2
        have p3 := (hbel.cell (p := ⟨b, off + j * 5 + 3, none⟩) hbl).trans q3
        have p4 := (hbel.cell (p := ⟨b, off + j * 5 + 4, none⟩) hbl).trans q4
        have HStep : Hid (Calls Try.prog 12 #[.pointer (some ⟨w.heap.size + 1, 0, none⟩), .pointer (some ⟨w1.heap.size, 0, none⟩), .agg #[.int .i64 x.kind, .string x.name, .string x.data, .int .i64 x.num, x.dv]] wr fun e w' => e = .returned (.bool true) ∧ Stand w w' (w.heap.size + 1) w1.heap.size) := by
          refine (step_true wr hB hfit).mono ?_
          rintro e w' ⟨rfl, s', hg⟩
          exact ⟨rfl, stand_goes hF hbel hg⟩
        obtain ⟨da, dc, hdv, -⟩ := hfit.draws.shape
        rw [hdv] at p4 HStep
        clear q0 q1 q2 q3 q4 hfit hB hF hbel hcs hm hxe hdv
        go_wp2_with fail
        refine HStep.out.mono ?_
        rintro e w3 ⟨rfl, hs3⟩
        have HS3 : Hid (Stand w w3 (w.heap.size + 1) w1.heap.size) := hs3
        have HSame : Hid (Calls Try.prog 13 #[.pointer (some ⟨w.heap.size + 1, 0, none⟩), .pointer (some ⟨w1.heap.size, 0, none⟩)] w3 fun e w' => e = .returned (.bool true) ∧ Stand w w' (w.heap.size + 1) w1.heap.size) := by
          have hs3' := hs3
          obtain ⟨_, _, hB3, _, _⟩ := hs3'
          refine (same_true w3 hB3).mono ?_
          rintro e w' ⟨rfl, hb⟩
          exact ⟨rfl, hs3.below hb⟩
        clear hs3
        go_wp2_with fail
        refine HSame.out.mono ?_
        rintro e w4 ⟨rfl, hs4⟩
        have HS4 : Hid (Stand w w4 (w.heap.size + 1) w1.heap.size) := hs4
        clear hs4
        go_wp2_with fail
        go_roundw
        case rel => exact ⟨j + 1, by omega, by omega, by go_num, HS4.out⟩
        case measure => simp [intOf]; omega
      · have h2I : ¬ (j : Int) < 200 := by omega
        have HB : Hid (Below w.heap.size w wr) := by obtain ⟨_, _, _, _, hb⟩ := HSt.out; exact hb
        go_wp2_with fail
        refine (works_any _).mono ?_
        rintro e w3 ⟨rfl, hb3⟩
        go_wp2_with fail
        go_ret
        exact ⟨rfl, HB.out.trans (hb3.mono HB.out.size)⟩
    · have hlI : ¬ (j : Int) < (L.length : Int) := by omega
      have HB : Hid (Below w.heap.size w wr) := by obtain ⟨_, _, _, _, hb⟩ := HSt.out; exact hb
      go_wp2_with fail
      refine (works_any _).mono ?_
      rintro e w3 ⟨rfl, hb3⟩
      go_wp2_with fail
      go_ret
      exact ⟨rfl, HB.out.trans (hb3.mono HB.out.size)⟩

set_option maxRecDepth 100000 in
theorem lifted (os : Os) (started : os.Started) (H : Type) (enc : TypeId × Value → H) :
    ReturnsInHanded {} Try.checked os 3 .any (Rows.diskPlaysSpec.pre6 enc Try.prog Try.f3 Rows.diskPlaysRow.domain false) (Rows.diskPlaysSpec.post enc Try.prog Try.f3 false true false false) := by
  refine returnsInHanded_of_change_sized (C := Try.checked) own started (by kernel_rfl) Try.func3
    (ChangeSpec.witness6 (enc := enc) (C := Try.checked) false ⟨#[], #[.slice none 0 0], []⟩ 8 (by kernel_rfl) (by kernel_rfl) (by kernel_rfl) (by kernel_rfl)) ?_
  intro W base args ds gs before hval0 hW _ hsz0 _
  have hsz : (DataW.weightsEach Try.prog (Try.f3.params.toList ++ Rows.diskPlaysSpec.plain.varTypes Try.prog) (ds ++ gs)).all (· ≤ reachBytes) = true := hsz0
  have hval : ∀ (j : Nat) t v, Try.f3.params[j]? = some t → args[j]? = some v → Value.okWide Try.prog W .any base t v := hval0
  have hW' := hW
  obtain ⟨p, q, hA0, hV, rfl, hfz, hnd⟩ := hW
  have hA : DataW.TrodAll enc Try.prog W 0 (fun _ => true) true Try.f3.params.toList args.toList ds p := hA0
  rw [Try.params3] at hA hval hsz
  obtain ⟨v0, vs0, d0, ds0, p0, q0, hargs, rfl, rfl, h0, r0⟩ := trodAll_cons hA
  obtain ⟨rfl, rfl, rfl⟩ := trodAll_nil r0
  obtain rfl : args = #[v0] := by cases args; simp_all
  obtain ⟨rfl, rfl⟩ := trodVars_none hV
  have lt0 : ∀ x ∈ p0, x.block < W.heap.size := by obtain ⟨m, hm⟩ := h0; exact DataW.trod_lt m _ _ _ hm
  have hwt : ∀ n ∈ d0.weights Try.prog 22, n ≤ reachBytes := fun n hn => by
    have := List.all_eq_true.1 hsz n (DataW.weights_mem_each (j := 0) rfl rfl n hn)
    simpa using this
  have x0 : ∃ L, ActsAt W v0 L ∧ ∀ y ∈ L, ActSz y := by
    obtain ⟨a, l, c, rfl⟩ := okWide_slice Try.underlying22 (hval 0 22 v0 rfl rfl)
    obtain ⟨m, hm⟩ := h0
    exact acts_sized hm hwt
  obtain ⟨L, hL, hZ⟩ := x0
  clear hA0 hval0 hsz0
  refine (walk v0 L W hL hZ).mono fun e W' ⟨he, bel⟩ => ?_
  subst he
  exact ⟨_, rfl, _, _, _, [], _, [], hW', trodAll_mk1 (shut_bool Try.underlying4 _), (trodAll_cons_mk (Below.trod laidOut (by kernel_rfl) (of_decide_eq_true (by kernel_rfl)) h0 bel lt0) trodAll_mk0), rfl, bel.frame _, fun h => by cases h⟩

end Plays
end Go.Proofs.Ytbiombolpfhdlaa

namespace Go.Proofs.Ytbiombolpfhdlaa
theorem diskPlays_holds : Rows.DiskPlaysSaid :=
  OpenClaim.holds_of_wide 3 Try.f3 rfl rfl rfl rfl rfl rfl rfl ⟨rfl, rfl, rfl, rfl, rfl⟩ rfl rfl rfl rfl rfl (by kernel_rfl) Try.func3 (by kernel_rfl)
    (of_decide_eq_true (by kernel_rfl)) (by unfold Func.isWrapper; first | (rw [if_pos (by decide +kernel)]; kernel_rfl) | (rw [if_neg (by decide +kernel)]; exact ⟨rfl, rfl⟩))
    (fun os started H enc _ => Plays.lifted os started H enc)
end Go.Proofs.Ytbiombolpfhdlaa
