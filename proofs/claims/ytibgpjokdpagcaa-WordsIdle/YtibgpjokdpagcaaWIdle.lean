/- The walk of WordsIdle. -/
import Derived.Test.YtibgpjokdpagcaaWSame
namespace Go.Proofs.Ytibgpjokdpagcaa
open Go.RowKit

namespace Idle
theorem dones_get {T : List (List InsV)} {ms : List Mc} {t : Nat} (h : (donesOf T ms)[t]? = some true) : (T.getD t []).length ≤ (ms.getD t Mc.new).p := by
  unfold donesOf at h
  rw [List.getElem?_zipWith] at h
  rw [List.getD_eq_getElem?_getD, List.getD_eq_getElem?_getD]
  cases h1 : T[t]? with
  | none => rw [h1] at h; cases h
  | some L =>
    cases h2 : ms[t]? with
    | none => rw [h1, h2] at h; cases h
    | some m =>
      rw [h1, h2] at h
      have h3 : doneOf L m = true := by simpa using h
      exact of_decide_eq_true h3

/-- picks of what has stopped do nothing -/
theorem idle {T : List (List InsV)} {S : Sys} : ∀ {X : List Int}, (∀ q ∈ X, (donesOf T S.ms)[q.toNat]? = some true) → S.run T X = S
  | [], _ => rfl
  | q :: X, h => by
    have h1 : S.pick T q.toNat = S := by
      unfold Sys.pick
      rw [if_pos (dones_get (h q (by simp)))]
    show (S.pick T q.toNat).run T X = S
    rw [h1]
    exact idle (fun q hq => h q (by simp [hq]))

theorem noE {T : List (List InsV)} {n : Nat} {ps qs : List Int} (h : runE T n ps = 0) (hl : qs.length ≤ 1048576) (hq : ∀ q ∈ qs, 0 ≤ q ∧ q < T.length) : runE T n qs = 0 := by
  obtain ⟨h1, _, _⟩ := runE_zero h
  unfold runE
  rw [if_pos (checkE_ok.2 h1)]
  unfold pickE
  rw [if_neg (by omega), if_pos hq]

/-- the picks so far: those of before, and some of what has stopped -/
structure Pk (w3 wr : World) (v : Value) (ps X : List Int) (D : List Bool) (m : Nat) : Prop where
  own : wr.ownsRow w3.heap.size 3 1 v (ps.length + X.length) (flat (fun x : Int => [Value.int .i64 x]) (ps ++ X))
  few : X.length ≤ 2 * m
  all : ∀ q ∈ X, 0 ≤ q ∧ D[q.toNat]? = some true
  below : Below w3.heap.size w3 wr

theorem Pk.next {w3 wr w' : World} {v v' : Value} {ps X : List Int} {D : List Bool} {m : Nat} (h : Pk w3 wr v ps X D m) (hD : D[m]? = some true) {o : Obj} (hown : w'.ownsRow w3.heap.size 3 1 v' (ps.length + X.length + 2) (flat (fun x : Int => [Value.int .i64 x]) (ps ++ X) ++ [.int .i64 (m : Int), .int .i64 (m : Int)])) (hg : (wr.alloc o).grownBy w' v.ownBlock) : Pk w3 w' v' ps (X ++ [(m : Int), (m : Int)]) D (m + 1) := by
  refine ⟨?_, ?_, fun q hq => ?_, ?_⟩
  · have e : ps.length + (X ++ [(m : Int), (m : Int)]).length = ps.length + X.length + 2 := by simp; omega
    rw [e, ← List.append_assoc, flat_append]
    exact hown
  · have := h.few
    simp
    omega
  · rcases List.mem_append.1 hq with h1 | h1
    · exact h.all q h1
    · have e : q = (m : Int) := by simpa using h1
      rw [e]
      exact ⟨by omega, hD⟩
  · exact (h.below.alloc h.below.size _).grown hg (by simp; have := h.below.size; omega) (fun i hi => by
      obtain ⟨cur, hc, hx⟩ := ownsRow_own h.own hi
      exact hx)
theorem Pk.more {w3 wr : World} {v : Value} {ps X : List Int} {D : List Bool} {m : Nat} (h : Pk w3 wr v ps X D m) : Pk w3 wr v ps X D (m + 1) := ⟨h.own, by have := h.few; omega, h.all, h.below⟩

abbrev rep (h n g2 g3 m k : Nat) : Obj := .cells #[.slice (some ⟨h, 0, none⟩) n n, .slice (some ⟨g2, 0, none⟩) m m, .slice (some ⟨g3, 0, none⟩) m m, .int .i64 (k : Int)] 34

set_option maxRecDepth 100000 in
set_option maxHeartbeats 400000 in
theorem walk (vt vc vp : Value) (T : List TaskV) (c ps : List Int) (w : World) (hT : TasksAt w vt T) (hC : WordsAt w vc c) (hW : Words c) (hP : IntsAt w vp ps) (hN : NilOk vp) :
    Calls Try.prog 7 #[vt, vc, vp] w fun e w' => e = .returned (.bool true) ∧ Below w.heap.size w w' := by
  obtain ⟨i1, ki, kz0, kz1, kz2⟩ := info_parts infoI
  have HT : Hid (TasksAt w vt T) := hT
  have HC : Hid (WordsAt w vc c) := hC
  have HW : Hid (Words c) := hW
  have HP : Hid (IntsAt w vp ps) := hP
  have HN : Hid (NilOk vp) := hN
  obtain ⟨ap, cp, rfl, hlp, hcp, -⟩ := hP
  unfold maxLen at hcp
  clear hT hC hW hN
  obtain ⟨E, hE⟩ : ∃ E, runE (codes T) c.length ps = E := ⟨_, rfl⟩
  by_cases hz : E = 0
  · subst hz
    have HE : Hid (runE (codes T) c.length ps = 0) := hE
    obtain ⟨S, hS⟩ : ∃ S, (Sys.start (codes T) c).run (codes T) ps = S := ⟨_, rfl⟩
    have HS : Hid ((Sys.start (codes T) c).run (codes T) ps = S) := hS
    clear hE hS
    go_enter Try.func7, Try.ntmps7
    go_wp2_with fail
    refine (works_any _).mono ?_
    rintro e w1 ⟨rfl, hb1⟩
    have HB1 : Hid (Below w.heap.size w w1) := hb1
    clear hb1
    go_wp2_with fail
    refine (run_ok (HT.out.below HB1.out) (HC.out.below HB1.out) HW.out (HP.out.below HB1.out) HE.out HS.out).mono ?_
    rintro e w2 ⟨h, g2, g3, rfl, hR, -, hb2⟩
    have HB2 : Hid (Below w.heap.size w w2) := HB1.out.trans (hb2.mono HB1.out.size)
    have HR : Hid (RepG w2 h g2 g3 S.c (S.ms.map Mc.r) (donesOf (codes T) S.ms)) := hR
    have HB3 : Hid (Below w.heap.size w (w2.alloc (rep h c.length g2 g3 T.length S.steps))) := HB2.out.alloc HB2.out.size _
    clear hb2 hR HB1
    by_cases h2k : (2000 : Int) < (ps.length : Int)
    · go_wp2_with fail
      go_ret
      exact ⟨rfl, HB3.out⟩
    · obtain ⟨w3, hw3⟩ : ∃ w3, w2.alloc (rep h c.length g2 g3 T.length S.steps) = w3 := ⟨_, rfl⟩
      have HR3 : Hid (w3.heap[w2.heap.size]? = some (rep h c.length g2 g3 T.length S.steps)) := hw3 ▸ heap_new w2 _
      have HB23 : Hid (Below w2.heap.size w2 w3) := hw3 ▸ (Below.refl _ _).alloc (Nat.le_refl _) _
      rw [hw3] at HB3
      have HSl : Hid (IntsAt (w3.alloc (.cells #[] 3)) (.slice ap ps.length cp) ps) := HP.out.below (HB3.out.alloc HB3.out.size _)
      go_wp2_with (at_builtin; go_must (refine append_copy rfl _ _ 24 rfl w3.heap.size 3 i1 (.int .i64 0) 1 8 Try.underlying24 ki kz0 kz1 kz2 rfl (by decide) w3.heap.size rfl (row_empty w3 _ _) (fun x : Int => [Value.int .i64 x]) ?q1 ?q2 _ ps rfl HSl.out HN.out ?q3 ?q4 ?_))
      case q1 => exact fun _ => rfl
      case q2 =>
        intro y u hu
        rw [List.mem_singleton.1 hu]
        rfl
      case q3 => omega
      case q4 => simp
      intro v5 w5 hown5 hgrow5
      obtain ⟨D, hD⟩ : ∃ D, donesOf (codes T) S.ms = D := ⟨_, rfl⟩
      have hOk := runE_zero HE.out
      have HK : Hid (S.Ok (codes T) c.length) := by
        have := Sys.Ok.run hOk.1.all (Sys.Ok.start HW.out) hOk.2.2
        rw [HS.out] at this
        exact this
      have htl : T.length ≤ 4096 := by have := hOk.1.len; rw [codes_length] at this; exact this
      have hcl : c.length ≤ 4096 := hOk.1.few
      have hDl : D.length = T.length := by
        have := HK.out.len
        rw [← hD]
        simp [donesOf, codes_length] at this ⊢
        omega
      have HP0 : Hid (Pk w3 w5 v5 ps [] D 0) := ⟨by simpa using hown5, by simp, fun q hq => (by cases hq), ((Below.refl _ w3).alloc (Nat.le_refl _) _).grown hgrow5 (by simp) (fun i hi => by cases hi; exact Nat.le_refl _)⟩
      have HDD : Hid (donesOf (codes T) S.ms = D) := hD
      have h23 : w2.heap.size < w3.heap.size := lt_of HR3.out
      have hx5 : w5.heap[w2.heap.size]? = some (rep h c.length g2 g3 T.length S.steps) := (HP0.out.below.block _ h23).trans HR3.out
      have x2 : w5.cell? ⟨w2.heap.size, 2, none⟩ = some (.slice (some ⟨g3, 0, none⟩) T.length T.length) := by rw [cell_of hx5]; rfl
      clear hown5 hgrow5 hOk hx5 hD hw3
      go_wp2_with fail
      clear x2
      go_loopw [9, 49] (fun v i wr => ∃ m : Nat, m ≤ T.length ∧ i = .int .i64 m ∧ ∃ X, Pk w3 wr v ps X D m) (fun _ i _ => T.length - (intOf i).toNat)
      case atStart => exact ⟨0, Nat.zero_le _, rfl, [], HP0.out⟩
      case round =>
        obtain ⟨m, hm, rfl, X, hpk⟩ := hrel
        have HPk : Hid (Pk w3 wr u9 ps X D m) := hpk
        clear hpk HP0
        have hfew := HPk.out.few
        by_cases hmt : m < T.length
        · have hmI : (m : Int) < (T.length : Int) := by omega
          have hb : Below w2.heap.size w2 wr := HB23.out.trans (HPk.out.below.mono HB23.out.size)
          have hmD : m < D.length := by omega
          have d0 : wr.cell? ⟨g3, m, none⟩ = some (.bool D[m]) := by
            have := HR.out
            rw [HDD.out] at this
            exact repG_d this hb hmD
          cases hbd : D[m] with
          | false =>
            rw [hbd] at d0
            clear hb hbd
            go_wp2_with fail
            go_roundw
            case rel => exact ⟨m + 1, by omega, by go_num, X, HPk.out.more⟩
            case measure => simp [intOf]; omega
          | true =>
            rw [hbd] at d0
            have HDm : Hid (D[m]? = some true) := by rw [List.getElem?_eq_getElem hmD, hbd]; exact rfl
            have HO : Hid ((wr.alloc (.cells #[.int .i64 (m : Int), .int .i64 (m : Int)] 3)).ownsRow w3.heap.size 3 1 u9 (ps.length + X.length) (flat (fun x : Int => [Value.int .i64 x]) (ps ++ X))) := HPk.out.own.alloc _
            have hsz : w3.heap.size ≤ wr.heap.size := HPk.out.below.size
            clear hb hbd
            go_wp2_with (at_builtin; go_must (refine wpList_append_own _ rfl _ _ 24 rfl w3.heap.size 3 i1 (.int .i64 0) 1 8 Try.underlying24 ki kz0 kz1 kz2 rfl (by decide) u9 (ps.length + X.length) _ rfl HO.out ⟨wr.heap.size, 0, none⟩ 2 2 [.int .i64 (m : Int), .int .i64 (m : Int)] rfl rfl ?q2 ?q3 ?q4 ?q5 ?q6 ?_))
            case q2 =>
              intro i u hu
              rw [Addr.add_lit, cell_of (heap_new wr _)]
              match i, hu with
              | 0, hu => simpa using hu
              | 1, hu => simpa using hu
            case q3 =>
              intro u hu
              have e : u = .int .i64 (m : Int) := by simpa using hu
              rw [e]
              rfl
            case q4 => unfold maxLen; omega
            case q5 => omega
            case q6 => simp; omega
            intro v6 w6 hown6 hgrow6 _
            have HN6 : Hid (Pk w3 w6 v6 ps (X ++ [(m : Int), (m : Int)]) D (m + 1)) := HPk.out.next HDm.out hown6 hgrow6
            clear hown6 hgrow6
            go_wp2_with fail
            go_roundw
            case rel => exact ⟨m + 1, by omega, by go_num, _, HN6.out⟩
            case measure => simp [intOf]; omega
        · have hmI : ¬ (m : Int) < (T.length : Int) := by omega
          have HB6 : Hid (Below w.heap.size w wr) := HB3.out.trans (HPk.out.below.mono HB3.out.size)
          have HP6 : Hid (IntsAt wr u9 (ps ++ X)) := own_slice (en := fun x : Int => [Value.int .i64 x]) (n := 1) (fun _ => rfl) (by rw [List.length_append]; exact HPk.out.own)
          have HE6 : Hid (runE (codes T) c.length (ps ++ X) = 0) := noE HE.out (by rw [List.length_append]; omega) (fun q hq => by
            rcases List.mem_append.1 hq with h1 | h1
            · exact (runE_zero HE.out).2.2 q h1
            · obtain ⟨h2, h3⟩ := HPk.out.all q h1
              have := (List.getElem?_eq_some_iff.1 h3).1
              rw [codes_length]
              omega)
          have HS6 : Hid ((Sys.start (codes T) c).run (codes T) (ps ++ X) = S) := by
            show _ = _
            rw [Sys.run_append, HS.out]
            exact idle (fun q hq => by rw [HDD.out]; exact (HPk.out.all q hq).2)
          go_wp2_with fail
          refine (run_ok (HT.out.below HB6.out) (HC.out.below HB6.out) HW.out HP6.out HE6.out HS6.out).mono ?_
          rintro e w7 ⟨h', g2', g3', rfl, hR7, -, hb7⟩
          have hb8 : Below w7.heap.size w7 (w7.alloc (rep h' c.length g2' g3' T.length S.steps)) := (Below.refl _ _).alloc (Nat.le_refl _) _
          have HB8 : Hid (Below w.heap.size w (w7.alloc (rep h' c.length g2' g3' T.length S.steps))) := (HB6.out.trans (hb7.mono HB6.out.size)).trans (hb8.mono (Nat.le_trans HB6.out.size hb7.size))
          have hb28 : Below w2.heap.size w2 (w7.alloc (rep h' c.length g2' g3' T.length S.steps)) := ((HB23.out.trans (HPk.out.below.mono HB23.out.size)).trans (hb7.mono (by have := HB23.out.size; have := HPk.out.below.size; omega))).trans (hb8.mono (by have := HB23.out.size; have := HPk.out.below.size; have := hb7.size; omega))
          have hx8 : (w7.alloc (rep h' c.length g2' g3' T.length S.steps)).heap[w2.heap.size]? = some (rep h c.length g2 g3 T.length S.steps) := by
            refine (hb8.block _ ?_).trans ((hb7.block _ ?_).trans ((HPk.out.below.block _ h23).trans HR3.out))
            · have := HPk.out.below.size; have := hb7.size; omega
            · have := HPk.out.below.size; omega
          have x0 : (w7.alloc (rep h' c.length g2' g3' T.length S.steps)).cell? ⟨w2.heap.size, 0, none⟩ = some (.slice (some ⟨h, 0, none⟩) c.length c.length) := by rw [cell_of hx8]; rfl
          have x3 : (w7.alloc (rep h' c.length g2' g3' T.length S.steps)).cell? ⟨w2.heap.size, 3, none⟩ = some (.int .i64 (S.steps : Int)) := by rw [cell_of hx8]; rfl
          have HW1 : Hid (WordsAt (w7.alloc (rep h' c.length g2' g3' T.length S.steps)) (.slice (some ⟨h, 0, none⟩) c.length c.length) S.c) := (repG_words HR.out HK.out.cn hcl).below hb28
          have HW2 : Hid (WordsAt (w7.alloc (rep h' c.length g2' g3' T.length S.steps)) (.slice (some ⟨h', 0, none⟩) c.length c.length) S.c) := (repG_words hR7 HK.out.cn hcl).below hb8
          clear hR7 hb7 hb8 hb28 hx8
          go_wp2_with fail
          refine (sameWords_true _ _ S.c _ HW1.out HW2.out).mono ?_
          rintro e w9 ⟨rfl, hb9⟩
          have HB9 : Hid (Below w.heap.size w w9) := HB8.out.trans (hb9.mono HB8.out.size)
          clear hb9
          go_wp2_with fail
          go_ret
          exact ⟨rfl, HB9.out⟩
  · have hEb : (E != 0) = true := by rw [bne_iff_ne]; exact hz
    have hEz : (E == 0) = false := by rw [beq_eq_false_iff_ne]; exact hz
    have HE : Hid (runE (codes T) c.length ps = E) := hE
    have HZ : Hid (E ≠ 0) := hz
    clear hE hz
    go_enter Try.func7, Try.ntmps7
    go_wp2_with fail
    refine (works_any _).mono ?_
    rintro e w1 ⟨rfl, hb1⟩
    have HB1 : Hid (Below w.heap.size w w1) := hb1
    clear hb1
    go_wp2_with fail
    refine (run_bad (HT.out.below HB1.out) (HC.out.below HB1.out) (HP.out.below HB1.out) HE.out HZ.out).mono ?_
    rintro e w2 ⟨rfl, hb2⟩
    have HB2 : Hid (Below w.heap.size w w2) := HB1.out.trans (hb2.mono HB1.out.size)
    have HB3 : Hid (Below w.heap.size w (w2.alloc repZ)) := HB2.out.alloc HB2.out.size _
    clear hb2
    go_wp2_with fail
    go_ret
    exact ⟨rfl, HB3.out⟩
end Idle

end Go.Proofs.Ytibgpjokdpagcaa
