/- The walk of WordsRuns. -/
import Derived.Test.YtibgpjokdpagcaaWRefR
import Derived.Test.YtibgpjokdpagcaaWRefB
import Derived.Test.YtibgpjokdpagcaaWCopied
namespace Go.Proofs.Ytibgpjokdpagcaa
open Go.RowKit

namespace Runs
theorem repG_all {w : World} {h g2 g3 n m : Nat} {c : List Int} {R : List (List Int)} {D : List Bool} (hR : RepG w h g2 g3 c R D) (hn : c.length = n) (hr : R.length = m) (hd : D.length = m) (hn2 : n ≤ 4096) (hm2 : m ≤ 4096) : WordsAt w (.slice (some ⟨h, 0, none⟩) n n) c ∧ RegsAt w (.slice (some ⟨g2, 0, none⟩) m m) R ∧ BoolsAt w (.slice (some ⟨g3, 0, none⟩) m m) D := by
  refine ⟨repG_words hR hn hn2, ?_, ?_⟩
  · obtain ⟨cur, h1, h2⟩ := hR.r
    subst hr
    exact sliceAt_flat (en := r8) (n := 8) (cap := R.length) (L := R) r8_len h1 (by rw [h2, Nat.mul_comm, ← flat_length r8_len, List.take_length]) (Nat.le_refl _) (by unfold maxLen; omega)
  · obtain ⟨cur, h1, h2⟩ := hR.d
    subst hd
    exact sliceAt_flat (en := bcell) (n := 1) (cap := D.length) (L := D) (fun _ => rfl) h1 (by rw [h2, Nat.mul_comm, ← flat_length (en := bcell) (m := 1) (fun _ => rfl), List.take_length]) (Nat.le_refl _) (by unfold maxLen; omega)

abbrev repO4 (v1 v2 v3 : Value) (k : Int) : Obj := .cells #[v1, v2, v3, .int .i64 k] 34 (0, 0)
theorem four_cells {w w' : World} {b : Nat} {v1 v2 v3 : Value} {k : Int} (h : w.heap[b]? = some (repO4 v1 v2 v3 k)) (hb : Below w.heap.size w w') : w'.cell? ⟨b, 0, none⟩ = some v1 ∧ w'.cell? ⟨b, 1, none⟩ = some v2 ∧ w'.cell? ⟨b, 2, none⟩ = some v3 ∧ w'.cell? ⟨b, 3, none⟩ = some (.int .i64 k) := by
  have h1 := (hb.block b (lt_of h)).trans h
  exact ⟨by rw [cell_of h1]; rfl, by rw [cell_of h1]; rfl, by rw [cell_of h1]; rfl, by rw [cell_of h1]; rfl⟩

theorem nils (w : World) : WordsAt w (.slice none 0 0) [] ∧ RegsAt w (.slice none 0 0) [] ∧ BoolsAt w (.slice none 0 0) [] :=
  ⟨⟨none, 0, rfl, Nat.le_refl _, Nat.zero_le _, fun h => absurd rfl h⟩, ⟨none, 0, rfl, Nat.le_refl _, Nat.zero_le _, fun h => absurd rfl h⟩, ⟨none, 0, rfl, Nat.le_refl _, Nat.zero_le _, fun h => absurd rfl h⟩⟩

set_option maxRecDepth 100000 in
set_option maxHeartbeats 4000000 in
theorem walk (vt vc vp : Value) (T : List TaskV) (c ps : List Int) (w : World) (hT : TasksIn w vt T) (hC : WordsAt w vc c) (hW : Words c) (hNc : NilOk vc) (hbc : c.length * 8 ≤ reachBytes) (hP : IntsAt w vp ps) (hNp : NilOk vp) (hbp : ps.length * 8 ≤ reachBytes) :
    Calls Try.prog 3 #[vt, vc, vp] w fun e w' => e = .returned (.bool true) ∧ Below w.heap.size w w' := by
  obtain ⟨iu, ui, uz0, uz1, uz2⟩ := info_parts infoU
  have HT : Hid (TasksIn w vt T) := hT
  have HC : Hid (WordsAt w vc c) := hC
  have HW : Hid (Words c) := hW
  have HP : Hid (IntsAt w vp ps) := hP
  have HNc : Hid (NilOk vc) := hNc
  have HNp : Hid (NilOk vp) := hNp
  obtain ⟨at_, ct, rfl, -, -, -⟩ := hT.at_.top
  obtain ⟨ac, cc, rfl, hlc, hcc, -⟩ := hC
  obtain ⟨ap, cp, rfl, hlp, hcp, -⟩ := hP
  unfold reachBytes at hbc hbp
  unfold maxLen at hcc hcp
  clear hT hW hNc hNp
  go_enter Try.func3, Try.ntmps3
  go_wp2_with fail
  refine (names_true _).mono ?_
  rintro e w0 ⟨rfl, rfl⟩
  go_wp2_with fail
  refine (copied_any _ T _ HT.out).mono ?_
  rintro e w1 ⟨v7, C, rfl, hTC, hcod, hb1⟩
  obtain ⟨a7, k7, hv7, -⟩ := hTC.top
  subst hv7
  have HTC : Hid (TasksAt w1 (.slice a7 C.length k7) C) := hTC
  have HCod : Hid (codes C = codes T) := hcod
  have HB1 : Hid (Below w.heap.size w w1) := hb1
  have HS : Hid (WordsAt (w1.alloc (.cells #[] 38)) (.slice ac c.length cc) c) := HC.out.below (hb1.alloc hb1.size _)
  clear hTC hcod hb1
  go_wp2_with (at_builtin; go_must (refine append_copy rfl _ _ 23 rfl w1.heap.size 38 iu (.int .u64 0) 1 8 Try.underlying23 ui uz0 uz1 uz2 rfl (by decide) w1.heap.size rfl (row_empty w1 _ _) (fun x : Int => [Value.int .u64 x]) ?q1 ?q2 _ c rfl HS.out HNc.out ?q3 ?q4 ?_))
  case q1 => exact fun _ => rfl
  case q2 =>
    intro y u hu
    rw [List.mem_singleton.1 hu]
    rfl
  case q3 => omega
  case q4 => simp
  intro v8 w2 hown2 hgrow2
  have hb2 : Below w1.heap.size w1 w2 := ((Below.refl _ w1).alloc (Nat.le_refl _) _).grown hgrow2 (by simp) (fun i hi => by cases hi; exact Nat.le_refl _)
  have hs8 := own_slice (en := fun x : Int => [Value.int .u64 x]) (n := 1) (fun _ => rfl) hown2
  obtain ⟨a8, k8, hv8, -⟩ := hs8
  subst hv8
  have HS8 : Hid (WordsAt w2 (.slice a8 c.length k8) c) := own_slice (en := fun x : Int => [Value.int .u64 x]) (n := 1) (fun _ => rfl) hown2
  have HB2 : Hid (Below w.heap.size w w2) := HB1.out.trans (hb2.mono HB1.out.size)
  have HTC2 : Hid (TasksAt w2 (.slice a7 C.length k7) C) := HTC.out.below hb2
  clear hown2 hgrow2 hb2 HTC HS HB1
  go_wp2_with fail
  refine (lendInts_any _ ps _ (HP.out.below HB2.out) HNp.out (by omega)).mono ?_
  rintro e w3 ⟨g9, k9, rfl, hL, -, hb3⟩
  have HL3 : Hid (LentAt w3 g9 k9 ps) := hL
  have HB3 : Hid (Below w.heap.size w w3) := HB2.out.trans (hb3.mono HB2.out.size)
  have HTC3 : Hid (TasksAt w3 (.slice a7 C.length k7) C) := HTC2.out.below hb3
  have HS3 : Hid (WordsAt w3 (.slice a8 c.length k8) c) := HS8.out.below hb3
  clear hL hb3 HTC2 HS8 HB2
  go_wp2_with fail
  refine (check_any _ C c.length _ HTC3.out).mono ?_
  rintro e w4 ⟨rfl, hb4⟩
  rw [HCod.out]
  have HB34 : Hid (Below w3.heap.size w3 w4) := hb4
  clear hb4
  go_wp2_with fail
  refine (rcheck_any _ T c.length _ (HT.out.at_.below (HB3.out.trans (HB34.out.mono HB3.out.size)))).mono ?_
  rintro e w5 ⟨rfl, hb5⟩
  have HB35 : Hid (Below w3.heap.size w3 w5) := HB34.out.trans (hb5.mono HB34.out.size)
  have HB5 : Hid (Below w.heap.size w w5) := HB3.out.trans (HB35.out.mono HB3.out.size)
  obtain ⟨z1, hz1⟩ : ∃ z, (checkE (codes T) c.length).1 = z := ⟨_, rfl⟩
  obtain ⟨z2, hz2⟩ : ∃ z, (checkE (codes T) c.length).2.1 = z := ⟨_, rfl⟩
  obtain ⟨z3, hz3⟩ : ∃ z, (checkE (codes T) c.length).2.2 = z := ⟨_, rfl⟩
  rw [hz1, hz2, hz3]
  clear hb5 HB34 hz1 hz2 hz3
  have n1 : (z1 != z1) = false := by simp
  have n2 : (z2 != z2) = false := by simp
  have n3 : (z3 != z3) = false := by simp
  obtain ⟨E, hE⟩ : ∃ E, runE (codes T) c.length ps = E := ⟨_, rfl⟩
  have n4 : (E != E) = false := by simp
  by_cases hE0 : E = 0
  · subst hE0
    have HE : Hid (runE (codes T) c.length ps = 0) := hE
    have HEC : Hid (runE (codes C) c.length ps = 0) := by rw [HCod.out]; exact hE
    obtain ⟨S, hS⟩ : ∃ S, (Sys.start (codes T) c).run (codes T) ps = S := ⟨_, rfl⟩
    have HS : Hid ((Sys.start (codes T) c).run (codes T) ps = S) := hS
    have HSC : Hid ((Sys.start (codes C) c).run (codes C) ps = S) := by rw [HCod.out]; exact hS
    have hOk := runE_zero hE
    have hK : S.Ok (codes T) c.length := by
      have := Sys.Ok.run hOk.1.all (Sys.Ok.start HW.out) hOk.2.2
      rw [hS] at this
      exact this
    have hCl : C.length = T.length := by rw [← codes_length C, HCod.out, codes_length]
    have hn4 : c.length ≤ 4096 := hOk.1.few
    have hm4 : C.length ≤ 4096 := by have := hOk.1.len; rw [codes_length] at this; omega
    have HLn : Hid (S.c.length = c.length ∧ (S.ms.map Mc.r).length = C.length ∧ (donesOf (codes C) S.ms).length = C.length ∧ (S.ms.map Mc.r).length = (donesOf (codes T) S.ms).length) := by
      have h1 := hK.len
      rw [codes_length] at h1
      refine ⟨hK.cn, by simp [h1, hCl], by simp [donesOf, codes_length, h1, hCl], by simp [donesOf, codes_length, h1]⟩
    have HDn : Hid (donesOf (codes C) S.ms = donesOf (codes T) S.ms) := by rw [HCod.out]; exact rfl
    clear hE hS hOk hK hCl
    go_wp2_with fail
    refine (run_ok (HTC3.out.below HB35.out) (HS3.out.below HB35.out) HW.out (HL3.out.below HB35.out).ints HEC.out HSC.out).mono ?_
    rintro e w6 ⟨h, g2, g3, rfl, hR, ⟨hnh, -, -⟩, hb6⟩
    obtain ⟨st, hst⟩ : ∃ s, S.steps = s := ⟨_, rfl⟩
    rw [hst]
    have HSt : Hid (S.steps = st) := hst
    have HR6 : Hid (WordsAt w6 (.slice (some ⟨h, 0, none⟩) c.length c.length) S.c ∧ RegsAt w6 (.slice (some ⟨g2, 0, none⟩) C.length C.length) (S.ms.map Mc.r) ∧ BoolsAt w6 (.slice (some ⟨g3, 0, none⟩) C.length C.length) (donesOf (codes T) S.ms)) := by
      have := repG_all hR HLn.out.1 HLn.out.2.1 HLn.out.2.2.1 hn4 hm4
      rw [HDn.out] at this
      exact this
    have HHc : Hid (∃ cur, w6.heap[h]? = some (.cells cur 38 (0, 0)) ∧ cur.size = c.length) := by
      obtain ⟨cur, e1, e2⟩ := hR.c
      refine ⟨cur, e1, ?_⟩
      have := congrArg List.length e2
      rw [ucells_length, HLn.out.1, Array.length_toList] at this
      exact this
    have hh6 : h < w6.heap.size := by obtain ⟨cur, e1, _⟩ := HHc.out; exact lt_of e1
    have hb66 : Below w6.heap.size w6 (w6.alloc (repO4 (.slice (some ⟨h, 0, none⟩) c.length c.length) (.slice (some ⟨g2, 0, none⟩) C.length C.length) (.slice (some ⟨g3, 0, none⟩) C.length C.length) (st : Int))) := (Below.refl _ _).alloc (Nat.le_refl _) _
    have HB36 : Hid (Below w3.heap.size w3 (w6.alloc (repO4 (.slice (some ⟨h, 0, none⟩) c.length c.length) (.slice (some ⟨g2, 0, none⟩) C.length C.length) (.slice (some ⟨g3, 0, none⟩) C.length C.length) (st : Int)))) := (HB35.out.trans (hb6.mono HB35.out.size)).trans (hb66.mono (Nat.le_trans HB35.out.size hb6.size))
    have HB6 : Hid (Below w.heap.size w (w6.alloc (repO4 (.slice (some ⟨h, 0, none⟩) c.length c.length) (.slice (some ⟨g2, 0, none⟩) C.length C.length) (.slice (some ⟨g3, 0, none⟩) C.length C.length) (st : Int)))) := HB3.out.trans (HB36.out.mono HB3.out.size)
    have HX6 : Hid ((w6.alloc (repO4 (.slice (some ⟨h, 0, none⟩) c.length c.length) (.slice (some ⟨g2, 0, none⟩) C.length C.length) (.slice (some ⟨g3, 0, none⟩) C.length C.length) (st : Int))).heap[w6.heap.size]? = some (repO4 (.slice (some ⟨h, 0, none⟩) c.length c.length) (.slice (some ⟨g2, 0, none⟩) C.length C.length) (.slice (some ⟨g3, 0, none⟩) C.length C.length) (st : Int))) := heap_new w6 _
    have HNh : Hid (w3.heap.size ≤ h) := Nat.le_trans HB35.out.size hnh
    have H66 : Hid (Below w6.heap.size w6 (w6.alloc (repO4 (.slice (some ⟨h, 0, none⟩) c.length c.length) (.slice (some ⟨g2, 0, none⟩) C.length C.length) (.slice (some ⟨g3, 0, none⟩) C.length C.length) (st : Int)))) := hb66
    clear hb6 hb66 hR hnh hst
    go_wp2_with fail
    refine (rrun_ok (HT.out.at_.below HB6.out) (HC.out.below HB6.out) HW.out HNc.out (HP.out.below HB6.out) HE.out HS.out).mono ?_
    rintro e w7 ⟨v1, v2, v3, rfl, hag, hb7⟩
    rw [HSt.out]
    obtain ⟨f1, f2, f3⟩ := hag w7 (Nat.le_refl _) (fun _ _ _ => rfl)
    obtain ⟨a1, k1, e1, -⟩ := f1
    obtain ⟨a2, k2, e2, -⟩ := f2
    obtain ⟨a3, k3, e3, -⟩ := f3
    rw [HLn.out.1] at e1
    rw [HLn.out.2.1] at e2
    have e4 : (donesOf (codes T) S.ms).length = C.length := by rw [← HDn.out]; exact HLn.out.2.2.1
    rw [e4] at e3
    subst e1 e2 e3
    have HAg : Hid (∀ W : World, w7.heap.size ≤ W.heap.size → (∀ i, (w6.alloc (repO4 (.slice (some ⟨h, 0, none⟩) c.length c.length) (.slice (some ⟨g2, 0, none⟩) C.length C.length) (.slice (some ⟨g3, 0, none⟩) C.length C.length) (st : Int))).heap.size ≤ i → i < w7.heap.size → W.heap[i]? = w7.heap[i]?) → WordsAt W (.slice a1 c.length k1) S.c ∧ RegsAt W (.slice a2 C.length k2) (S.ms.map Mc.r) ∧ BoolsAt W (.slice a3 C.length k3) (donesOf (codes T) S.ms)) := hag
    have hb78 : Below w7.heap.size w7 (w7.alloc (repO4 (.slice a1 c.length k1) (.slice a2 C.length k2) (.slice a3 C.length k3) (st : Int))) := (Below.refl _ _).alloc (Nat.le_refl _) _
    have hb68 : Below (w6.alloc (repO4 (.slice (some ⟨h, 0, none⟩) c.length c.length) (.slice (some ⟨g2, 0, none⟩) C.length C.length) (.slice (some ⟨g3, 0, none⟩) C.length C.length) (st : Int))).heap.size (w6.alloc (repO4 (.slice (some ⟨h, 0, none⟩) c.length c.length) (.slice (some ⟨g2, 0, none⟩) C.length C.length) (.slice (some ⟨g3, 0, none⟩) C.length C.length) (st : Int))) (w7.alloc (repO4 (.slice a1 c.length k1) (.slice a2 C.length k2) (.slice a3 C.length k3) (st : Int))) := hb7.trans (hb78.mono hb7.size)
    have HX8 : Hid ((w7.alloc (repO4 (.slice a1 c.length k1) (.slice a2 C.length k2) (.slice a3 C.length k3) (st : Int))).heap[w6.heap.size]? = some (repO4 (.slice (some ⟨h, 0, none⟩) c.length c.length) (.slice (some ⟨g2, 0, none⟩) C.length C.length) (.slice (some ⟨g3, 0, none⟩) C.length C.length) (st : Int))) := (hb68.block _ (lt_of HX6.out)).trans HX6.out
    have HY8 : Hid ((w7.alloc (repO4 (.slice a1 c.length k1) (.slice a2 C.length k2) (.slice a3 C.length k3) (st : Int))).heap[w7.heap.size]? = some (repO4 (.slice a1 c.length k1) (.slice a2 C.length k2) (.slice a3 C.length k3) (st : Int))) := heap_new w7 _
    have HB38 : Hid (Below w3.heap.size w3 (w7.alloc (repO4 (.slice a1 c.length k1) (.slice a2 C.length k2) (.slice a3 C.length k3) (st : Int)))) := HB36.out.trans (hb68.mono HB36.out.size)
    have hb68' : Below w6.heap.size w6 (w7.alloc (repO4 (.slice a1 c.length k1) (.slice a2 C.length k2) (.slice a3 C.length k3) (st : Int))) := H66.out.trans (hb68.mono H66.out.size)
    have HR8 : Hid (WordsAt (w7.alloc (repO4 (.slice a1 c.length k1) (.slice a2 C.length k2) (.slice a3 C.length k3) (st : Int))) (.slice (some ⟨h, 0, none⟩) c.length c.length) S.c ∧ RegsAt (w7.alloc (repO4 (.slice a1 c.length k1) (.slice a2 C.length k2) (.slice a3 C.length k3) (st : Int))) (.slice (some ⟨g2, 0, none⟩) C.length C.length) (S.ms.map Mc.r) ∧ BoolsAt (w7.alloc (repO4 (.slice a1 c.length k1) (.slice a2 C.length k2) (.slice a3 C.length k3) (st : Int))) (.slice (some ⟨g3, 0, none⟩) C.length C.length) (donesOf (codes T) S.ms)) := ⟨HR6.out.1.below hb68', HR6.out.2.1.below hb68', HR6.out.2.2.below hb68'⟩
    have HY9 : Hid (WordsAt (w7.alloc (repO4 (.slice a1 c.length k1) (.slice a2 C.length k2) (.slice a3 C.length k3) (st : Int))) (.slice a1 c.length k1) S.c ∧ RegsAt (w7.alloc (repO4 (.slice a1 c.length k1) (.slice a2 C.length k2) (.slice a3 C.length k3) (st : Int))) (.slice a2 C.length k2) (S.ms.map Mc.r) ∧ BoolsAt (w7.alloc (repO4 (.slice a1 c.length k1) (.slice a2 C.length k2) (.slice a3 C.length k3) (st : Int))) (.slice a3 C.length k3) (donesOf (codes T) S.ms)) := hag _ hb78.size (fun i _ hi => hb78.block i hi)
    have HHc8 : Hid (∃ cur, (w7.alloc (repO4 (.slice a1 c.length k1) (.slice a2 C.length k2) (.slice a3 C.length k3) (st : Int))).heap[h]? = some (.cells cur 38 (0, 0)) ∧ cur.size = c.length) := by
      obtain ⟨cur, e1, e2⟩ := HHc.out
      exact ⟨cur, (hb68'.block h hh6).trans e1, e2⟩
    have h67 : w6.heap.size < w7.heap.size := by have := hb7.size; simp at this; omega
    obtain ⟨c0, c1, c2, c3⟩ := four_cells HX8.out (Below.refl _ _)
    clear hb7 hb78 hb68 hb68' hag HX6 HB36 H66 HR6 HHc e4
    go_wp2_with fail
    refine (rsame_true (st : Int) _ HR8.out.1 HR8.out.2.1 HR8.out.2.2 HY9.out.1 HY9.out.2.1 HY9.out.2.2 HLn.out.2.2.2).mono ?_
    rintro e w9 ⟨rfl, hb9⟩
    have HB89 : Hid (Below (w7.alloc (repO4 (.slice a1 c.length k1) (.slice a2 C.length k2) (.slice a3 C.length k3) (st : Int))).heap.size (w7.alloc (repO4 (.slice a1 c.length k1) (.slice a2 C.length k2) (.slice a3 C.length k3) (st : Int))) w9) := hb9
    have HH9 : Hid (∃ cur, w9.heap[h]? = some (.cells cur 38 (0, 0)) ∧ cur.size = c.length) := by
      obtain ⟨cur, e1, e2⟩ := HHc8.out
      exact ⟨cur, (hb9.block h (lt_of e1)).trans e1, e2⟩
    have HX9 : Hid (w9.heap[w6.heap.size]? = some (repO4 (.slice (some ⟨h, 0, none⟩) c.length c.length) (.slice (some ⟨g2, 0, none⟩) C.length C.length) (.slice (some ⟨g3, 0, none⟩) C.length C.length) (st : Int))) := (hb9.block _ (lt_of HX8.out)).trans HX8.out
    have HYb : Hid (w9.heap[w7.heap.size]? = some (repO4 (.slice a1 c.length k1) (.slice a2 C.length k2) (.slice a3 C.length k3) (st : Int))) := (hb9.block _ (lt_of HY8.out)).trans HY8.out
    obtain ⟨p0, p1, p2, p3⟩ := four_cells HX9.out (Below.refl _ _)
    clear hb9 c0 c1 c2 c3 HHc8 HR8 HY9 HX8 HY8
    go_wp2_with fail
    clear p0 p1 p2 p3
    go_loopw [20] (fun i wr => ∃ j : Nat, j ≤ c.length ∧ i = .int .i64 j ∧ Turn (fun q => q = h) w9 wr ∧ ∃ cur, wr.heap[h]? = some (.cells cur 38 (0, 0)) ∧ cur.size = c.length) (fun i _ => c.length - (intOf i).toNat)
    case atStart => exact ⟨0, Nat.zero_le _, rfl, Turn.refl _ _, HH9.out⟩
    case round =>
      obtain ⟨j, hj, rfl, htn, cur, hcu, hcs⟩ := hrel
      have HTn : Hid (Turn (fun q => q = h) w9 wr) := htn
      have HCu : Hid (wr.heap[h]? = some (.cells cur 38 (0, 0)) ∧ cur.size = c.length) := ⟨hcu, hcs⟩
      have hx9 : wr.heap[w6.heap.size]? = some (repO4 (.slice (some ⟨h, 0, none⟩) c.length c.length) (.slice (some ⟨g2, 0, none⟩) C.length C.length) (.slice (some ⟨g3, 0, none⟩) C.length C.length) (st : Int)) := (htn.block _ (lt_of HX9.out) (by omega)).trans HX9.out
      have p0 : wr.cell? ⟨w6.heap.size, 0, none⟩ = some (.slice (some ⟨h, 0, none⟩) c.length c.length) := by rw [cell_of hx9]; rfl
      clear htn hx9
      by_cases hlt : j < c.length
      · have hlI : (j : Int) < (c.length : Int) := by omega
        obtain ⟨vv, hvv⟩ : ∃ v, cur[j]? = some v := ⟨_, Array.getElem?_eq_getElem (by omega)⟩
        have q0 : wr.cell? ⟨h, j, none⟩ = some vv := by rw [cell_of hcu]; exact hvv
        have q1 : wr.frozen? ⟨h, j, none⟩ = false := frozen_of hcu _
        have HN2 : Hid (Turn (fun q => q = h) w9 (wr.setCell ⟨h, j, none⟩ (.int .u64 77)) ∧ ∃ cur, (wr.setCell ⟨h, j, none⟩ (.int .u64 77)).heap[h]? = some (.cells cur 38 (0, 0)) ∧ cur.size = c.length) := ⟨HTn.out.trans (Turn.setCell _ _ _ rfl), _, heap_setCell_same hcu j _, by simpa using hcs⟩
        clear hcu hcs hvv
        go_wp2_with fail
        go_roundw
        case rel => exact ⟨j + 1, by omega, by go_num, HN2.out.1, HN2.out.2⟩
        case measure => simp [intOf]; omega
      · have hgI : ¬ (j : Int) < (c.length : Int) := by omega
        have HB39 : Hid (Below w3.heap.size w3 w9) := HB38.out.trans (HB89.out.mono HB38.out.size)
        have HB3r : Hid (Below w3.heap.size w3 wr) := HB39.out.trans ((HTn.out.mono (fun i e => by rw [e]; exact HNh.out)).toBelow HB39.out.size)
        clear hcu hcs
        go_wp2_with fail
        refine (run_ok (HTC3.out.below HB3r.out) (HS3.out.below HB3r.out) HW.out (HL3.out.below HB3r.out).ints HEC.out HSC.out).mono ?_
        rintro e wa ⟨h', g2', g3', rfl, hRa, -, hba⟩
        rw [HSt.out]
        have hbA : Below wr.heap.size wr (wa.alloc (repO4 (.slice (some ⟨h', 0, none⟩) c.length c.length) (.slice (some ⟨g2', 0, none⟩) C.length C.length) (.slice (some ⟨g3', 0, none⟩) C.length C.length) (st : Int))) := hba.alloc hba.size _
        have hbAa : Below wa.heap.size wa (wa.alloc (repO4 (.slice (some ⟨h', 0, none⟩) c.length c.length) (.slice (some ⟨g2', 0, none⟩) C.length C.length) (.slice (some ⟨g3', 0, none⟩) C.length C.length) (st : Int))) := (Below.refl _ _).alloc (Nat.le_refl _) _
        have HB3A : Hid (Below w3.heap.size w3 (wa.alloc (repO4 (.slice (some ⟨h', 0, none⟩) c.length c.length) (.slice (some ⟨g2', 0, none⟩) C.length C.length) (.slice (some ⟨g3', 0, none⟩) C.length C.length) (st : Int)))) := HB3r.out.trans (hbA.mono HB3r.out.size)
        have HRA : Hid (WordsAt (wa.alloc (repO4 (.slice (some ⟨h', 0, none⟩) c.length c.length) (.slice (some ⟨g2', 0, none⟩) C.length C.length) (.slice (some ⟨g3', 0, none⟩) C.length C.length) (st : Int))) (.slice (some ⟨h', 0, none⟩) c.length c.length) S.c ∧ RegsAt (wa.alloc (repO4 (.slice (some ⟨h', 0, none⟩) c.length c.length) (.slice (some ⟨g2', 0, none⟩) C.length C.length) (.slice (some ⟨g3', 0, none⟩) C.length C.length) (st : Int))) (.slice (some ⟨g2', 0, none⟩) C.length C.length) (S.ms.map Mc.r) ∧ BoolsAt (wa.alloc (repO4 (.slice (some ⟨h', 0, none⟩) c.length c.length) (.slice (some ⟨g2', 0, none⟩) C.length C.length) (.slice (some ⟨g3', 0, none⟩) C.length C.length) (st : Int))) (.slice (some ⟨g3', 0, none⟩) C.length C.length) (donesOf (codes T) S.ms)) := by
          have := repG_all hRa HLn.out.1 HLn.out.2.1 HLn.out.2.2.1 hn4 hm4
          rw [HDn.out] at this
          exact ⟨this.1.below hbAa, this.2.1.below hbAa, this.2.2.below hbAa⟩
        have hold : ∀ i, w6.heap.size < i → i < w9.heap.size → (wa.alloc (repO4 (.slice (some ⟨h', 0, none⟩) c.length c.length) (.slice (some ⟨g2', 0, none⟩) C.length C.length) (.slice (some ⟨g3', 0, none⟩) C.length C.length) (st : Int))).heap[i]? = w9.heap[i]? := fun i h1 h2 => (hbA.block i (Nat.lt_of_lt_of_le h2 HTn.out.size)).trans (HTn.out.block i h2 (by omega))
        have h79 : w7.heap.size < w9.heap.size := lt_of HYb.out
        have HYA : Hid (WordsAt (wa.alloc (repO4 (.slice (some ⟨h', 0, none⟩) c.length c.length) (.slice (some ⟨g2', 0, none⟩) C.length C.length) (.slice (some ⟨g3', 0, none⟩) C.length C.length) (st : Int))) (.slice a1 c.length k1) S.c ∧ RegsAt (wa.alloc (repO4 (.slice (some ⟨h', 0, none⟩) c.length c.length) (.slice (some ⟨g2', 0, none⟩) C.length C.length) (.slice (some ⟨g3', 0, none⟩) C.length C.length) (st : Int))) (.slice a2 C.length k2) (S.ms.map Mc.r) ∧ BoolsAt (wa.alloc (repO4 (.slice (some ⟨h', 0, none⟩) c.length c.length) (.slice (some ⟨g2', 0, none⟩) C.length C.length) (.slice (some ⟨g3', 0, none⟩) C.length C.length) (st : Int))) (.slice a3 C.length k3) (donesOf (codes T) S.ms)) := by
          refine HAg.out _ (by have := hbA.size; have := HTn.out.size; omega) (fun i h1 h2 => ?_)
          rw [World.size_alloc] at h1
          exact (hold i (by omega) (by omega)).trans ((HB89.out.block i (by simp; omega)).trans (Below.heap_alloc w7 _ i h2))
        have hyA : (wa.alloc (repO4 (.slice (some ⟨h', 0, none⟩) c.length c.length) (.slice (some ⟨g2', 0, none⟩) C.length C.length) (.slice (some ⟨g3', 0, none⟩) C.length C.length) (st : Int))).heap[w7.heap.size]? = some (repO4 (.slice a1 c.length k1) (.slice a2 C.length k2) (.slice a3 C.length k3) (st : Int)) := (hold _ h67 h79).trans HYb.out
        obtain ⟨s0, s1, s2, s3⟩ := four_cells hyA (Below.refl _ _)
        clear hba hbA hbAa hRa hold hyA p0
        go_wp2_with fail
        refine (rsame_true (st : Int) _ HRA.out.1 HRA.out.2.1 HRA.out.2.2 HYA.out.1 HYA.out.2.1 HYA.out.2.2 HLn.out.2.2.2).mono ?_
        rintro e wb ⟨rfl, hbb⟩
        have HB3b : Hid (Below w3.heap.size w3 wb) := HB3A.out.trans (hbb.mono HB3A.out.size)
        clear hbb s0 s1 s2 s3
        go_wp2_with fail
        refine (sameWords_true _ _ c _ (HS3.out.below HB3b.out) (HC.out.below (HB3.out.trans (HB3b.out.mono HB3.out.size)))).mono ?_
        rintro e wc ⟨rfl, hbc2⟩
        have HB3c : Hid (Below w3.heap.size w3 wc) := HB3b.out.trans (hbc2.mono HB3b.out.size)
        clear hbc2
        go_wp2_with fail
        refine (keptInts_true g9 k9 _ ps _ (HL3.out.below HB3c.out) (HP.out.below (HB3.out.trans (HB3c.out.mono HB3.out.size)))).mono ?_
        rintro e wd ⟨rfl, hbd⟩
        have HB3d : Hid (Below w3.heap.size w3 wd) := HB3c.out.trans (hbd.mono HB3c.out.size)
        clear hbd
        go_wp2_with fail
        refine (works_any _).mono ?_
        rintro e we ⟨rfl, hbe⟩
        have HBe : Hid (Below w.heap.size w we) := HB3.out.trans ((HB3d.out.trans (hbe.mono HB3d.out.size)).mono HB3.out.size)
        clear hbe
        go_wp2_with fail
        go_ret
        exact ⟨rfl, HBe.out⟩
  · have HE : Hid (runE (codes T) c.length ps = E) := hE
    have HEC : Hid (runE (codes C) c.length ps = E) := by rw [HCod.out]; exact hE
    have HNE : Hid (E ≠ 0) := hE0
    clear hE hE0
    go_wp2_with fail
    refine (run_bad (HTC3.out.below HB35.out) (HS3.out.below HB35.out) (HL3.out.below HB35.out).ints HEC.out HNE.out).mono ?_
    rintro e w6 ⟨rfl, hb6⟩
    have HB36 : Hid (Below w3.heap.size w3 (w6.alloc repZ)) := (HB35.out.trans (hb6.mono HB35.out.size)).alloc (by have := HB35.out.size; have := hb6.size; omega) _
    have HB6 : Hid (Below w.heap.size w (w6.alloc repZ)) := HB3.out.trans (HB36.out.mono HB3.out.size)
    have hx6 : (w6.alloc repZ).heap[w6.heap.size]? = some repZ := heap_new w6 _
    have HX6 : Hid ((w6.alloc repZ).heap[w6.heap.size]? = some repZ) := hx6
    clear hb6 hx6
    go_wp2_with fail
    refine (rrun_bad (HT.out.at_.below HB6.out) (HC.out.below HB6.out) (HP.out.below HB6.out) HE.out HNE.out).mono ?_
    rintro e w7 ⟨rfl, hb7⟩
    have hb78 : Below w7.heap.size w7 (w7.alloc repZ) := (Below.refl _ _).alloc (Nat.le_refl _) _
    have hb68 : Below (w6.alloc repZ).heap.size (w6.alloc repZ) (w7.alloc repZ) := hb7.trans (hb78.mono hb7.size)
    have HX8 : Hid ((w7.alloc repZ).heap[w6.heap.size]? = some (repO4 (.slice none 0 0) (.slice none 0 0) (.slice none 0 0) 0)) := (hb68.block _ (lt_of HX6.out)).trans HX6.out
    have HY8 : Hid ((w7.alloc repZ).heap[w7.heap.size]? = some (repO4 (.slice none 0 0) (.slice none 0 0) (.slice none 0 0) 0)) := heap_new w7 _
    have HB38 : Hid (Below w3.heap.size w3 (w7.alloc repZ)) := HB36.out.trans (hb68.mono HB36.out.size)
    obtain ⟨c0, c1, c2, c3⟩ := four_cells HX8.out (Below.refl _ _)
    clear hb7 hb78 hb68 HX6 HB36
    go_wp2_with fail
    refine (rsame_true (c := []) (R := []) (D := []) 0 _ (nils _).1 (nils _).2.1 (nils _).2.2 (nils _).1 (nils _).2.1 (nils _).2.2 rfl).mono ?_
    rintro e w9 ⟨rfl, hb9⟩
    have HB89 : Hid (Below (w7.alloc repZ).heap.size (w7.alloc repZ) w9) := hb9
    obtain ⟨p0, p1, p2, p3⟩ := four_cells HX8.out hb9
    obtain ⟨q0, q1, q2, q3⟩ := four_cells HY8.out hb9
    clear hb9 c0 c1 c2 c3
    go_wp2_with fail
    go_loopw [20] (fun i wr => i = .int .i64 0 ∧ wr = w9) (fun _ _ => 0)
    case atStart => exact ⟨rfl, rfl⟩
    case round =>
      obtain ⟨rfl, rfl⟩ := hrel
      have HB3r : Hid (Below w3.heap.size w3 wr) := HB38.out.trans (HB89.out.mono HB38.out.size)
      go_wp2_with fail
      refine (run_bad (HTC3.out.below HB3r.out) (HS3.out.below HB3r.out) (HL3.out.below HB3r.out).ints HEC.out HNE.out).mono ?_
      rintro e wa ⟨rfl, hba⟩
      have hbA : Below wr.heap.size wr (wa.alloc repZ) := hba.alloc hba.size _
      have HYA : Hid (Below (w7.alloc repZ).heap.size (w7.alloc repZ) (wa.alloc repZ)) := HB89.out.trans (hbA.mono HB89.out.size)
      have HB3A : Hid (Below w3.heap.size w3 (wa.alloc repZ)) := HB3r.out.trans (hbA.mono HB3r.out.size)
      obtain ⟨s0, s1, s2, s3⟩ := four_cells HY8.out HYA.out
      clear hba hbA q0 q1 q2 q3 p0 p1 p2 p3
      go_wp2_with fail
      refine (rsame_true (c := []) (R := []) (D := []) 0 _ (nils _).1 (nils _).2.1 (nils _).2.2 (nils _).1 (nils _).2.1 (nils _).2.2 rfl).mono ?_
      rintro e wb ⟨rfl, hbb⟩
      have HB3b : Hid (Below w3.heap.size w3 wb) := HB3A.out.trans (hbb.mono HB3A.out.size)
      clear hbb s0 s1 s2 s3
      go_wp2_with fail
      refine (sameWords_true _ _ c _ (HS3.out.below HB3b.out) (HC.out.below (HB3.out.trans (HB3b.out.mono HB3.out.size)))).mono ?_
      rintro e wc ⟨rfl, hbc2⟩
      have HB3c : Hid (Below w3.heap.size w3 wc) := HB3b.out.trans (hbc2.mono HB3b.out.size)
      clear hbc2
      go_wp2_with fail
      refine (keptInts_true g9 k9 _ ps _ (HL3.out.below HB3c.out) (HP.out.below (HB3.out.trans (HB3c.out.mono HB3.out.size)))).mono ?_
      rintro e wd ⟨rfl, hbd⟩
      have HB3d : Hid (Below w3.heap.size w3 wd) := HB3c.out.trans (hbd.mono HB3c.out.size)
      clear hbd
      go_wp2_with fail
      refine (works_any _).mono ?_
      rintro e we ⟨rfl, hbe⟩
      have HBe : Hid (Below w.heap.size w we) := HB3.out.trans ((HB3d.out.trans (hbe.mono HB3d.out.size)).mono HB3.out.size)
      clear hbe
      go_wp2_with fail
      go_ret
      exact ⟨rfl, HBe.out⟩
end Runs

end Go.Proofs.Ytibgpjokdpagcaa
