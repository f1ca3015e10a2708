/- The document's steps and ours, in plain words. -/
import Derived.Test.YtibgpjokdpagcaaWRefD
import Derived.Test.YtibgpjokdpagcaaWStepB
namespace Go.Proofs.Ytibgpjokdpagcaa
open Go.RowKit

/-- a task's place, when it has or has not come to a stop -/
def absP (L : List InsV) (p : Nat) (d : Bool) : Nat := if d then L.length else p
theorem absP_stopped (L : List InsV) (p : Nat) (d : Bool) : (d || decide (L.length ≤ p)) = decide (L.length ≤ absP L p d) := by
  cases d with
  | true => simp [absP]
  | false => simp [absP]

/-- within a step of the document's, k instructions after its beginning at s0 -/
structure InS (L : List InsV) (n : Nat) (s0 : St) (k : Nat) (acc d : Bool) (r : List Int) (p : Nat) (c : List Int) : Prop where
  r8 : r.length = 8
  pl : p ≤ L.length
  cn : c.length = n
  fin : (acc || d) = true → St.go L 64 s0 = ⟨r, absP L p d, c⟩
  mid : (acc || d) = false → St.go L (64 - k) ⟨r, p, c⟩ = St.go L 64 s0 ∧ (St.mk r p c).Ok L n

theorem InS.start {L : List InsV} {n : Nat} {r : List Int} {p : Nat} {c : List Int} (h : (St.mk r p c).Ok L n) : InS L n ⟨r, p, c⟩ 0 false false r p c :=
  ⟨h.r8, h.p, h.cn, (fun e => by cases e), fun _ => ⟨rfl, h⟩⟩

/-- at its end -/
theorem InS.stop {L : List InsV} {n : Nat} {s0 : St} {k : Nat} {acc d : Bool} {r : List Int} {p : Nat} {c : List Int} (h : InS L n s0 k acc d r p c) (he : 64 ≤ k ∨ acc = true ∨ L.length ≤ absP L p d) : St.go L 64 s0 = ⟨r, absP L p d, c⟩ := by
  by_cases hf : (acc || d) = true
  · exact h.fin hf
  · have hf' : (acc || d) = false := Bool.eq_false_iff.2 hf
    have ha : acc = false := by cases acc <;> simp_all
    have hd : d = false := by cases d <;> simp_all
    subst ha hd
    obtain ⟨h1, _⟩ := h.mid rfl
    rw [← h1]
    rcases he with he | he | he
    · rw [show 64 - k = 0 by omega]; rfl
    · cases he
    · exact go_none (s := ⟨r, p, c⟩) he

/-- one instruction more -/
theorem InS.next {L : List InsV} {n : Nat} {s0 : St} {k : Nat} {r : List Int} {p : Nat} {c : List Int} (h : InS L n s0 k false false r p c) (hO : TaskOk L n) (hk : k < 64) {x : InsV} (hx : L[p]? = some x) :
    ∃ p', doP x ⟨r, p, c⟩ L.length = ((p' : Nat) : Int) ∧ InS L n s0 (k + 1) (doA x ⟨r, p, c⟩ L.length) (decide (x.kind = 8)) (St.one L.length ⟨r, p, c⟩ x).1.r p' (St.one L.length ⟨r, p, c⟩ x).1.c := by
  obtain ⟨h1, hok⟩ := h.mid rfl
  have hp := (List.getElem?_eq_some_iff.1 hx).1
  have hok1 := hok.one hp (hO.all x (List.mem_of_getElem? hx))
  have e : 64 - k = (64 - (k + 1)) + 1 := by omega
  rw [e, go_some hx] at h1
  by_cases h8 : x.kind = 8
  · refine ⟨p + 1, by unfold doP; rw [if_pos h8]; rfl, ?_⟩
    have e1 : St.one L.length ⟨r, p, c⟩ x = (⟨r, L.length, c⟩, true) := by
      unfold St.one
      rw [if_neg (by omega), if_neg (by omega), if_neg (by omega), if_neg (by omega), if_neg (by omega), if_neg (by omega), if_neg (by omega)]
    have e2 : doA x ⟨r, p, c⟩ L.length = false := by unfold doA; rw [if_pos h8]
    have e3 : decide (x.kind = 8) = true := decide_eq_true h8
    rw [e1] at h1 ⊢
    rw [e2, e3]
    exact ⟨h.r8, hp, h.cn, fun _ => h1.symm, fun e => by cases e⟩
  · refine ⟨(St.one L.length ⟨r, p, c⟩ x).1.p, by unfold doP; rw [if_neg h8], ?_⟩
    have e2 : doA x ⟨r, p, c⟩ L.length = (St.one L.length ⟨r, p, c⟩ x).2 := by unfold doA; rw [if_neg h8]
    have e3 : decide (x.kind = 8) = false := decide_eq_false h8
    rw [e2, e3]
    refine ⟨hok1.r8, hok1.p, hok1.cn, fun e => ?_, fun e => ?_⟩
    · rw [Bool.or_false] at e
      rw [if_pos e] at h1
      exact h1.symm
    · rw [Bool.or_false] at e
      rw [if_neg (by rw [e]; simp)] at h1
      exact ⟨h1, hok1⟩

/-- the document's machines, and a system -/
structure Abs (T : List (List InsV)) (S : Sys) (Ps : List Int) (R : List (List Int)) (D : List Bool) (c : List Int) (k : Nat) : Prop where
  r : R = S.ms.map Mc.r
  c : c = S.c
  k : k = S.steps
  lp : Ps.length = T.length
  ld : D.length = T.length
  each : ∀ t, t < T.length → ∃ p : Nat, Ps.getD t 0 = (p : Int) ∧ p ≤ (T.getD t []).length ∧ (S.ms.getD t Mc.new).p = absP (T.getD t []) p (D.getD t false)

theorem Abs.start (T : List (List InsV)) (c : List Int) : Abs T (Sys.start T c) (List.replicate T.length 0) (List.replicate T.length zero8) (List.replicate T.length false) c 0 := by
  refine ⟨?_, rfl, rfl, by simp, by simp, fun t ht => ⟨0, ?_, Nat.zero_le _, ?_⟩⟩
  · show _ = (T.map fun _ => Mc.new).map Mc.r
    rw [List.map_map]
    exact (List.map_const' (l := T) (b := zero8)).symm
  · rw [getD_get (by simpa using ht)]; simp
  · have e : (List.replicate T.length false).getD t false = false := by rw [getD_get (by simpa using ht)]; simp
    rw [e, getD_get (by simpa [Sys.start] using ht)]
    simp [Sys.start, Mc.new, absP]

theorem Abs.same {T : List (List InsV)} {S : Sys} {Ps : List Int} {R : List (List Int)} {D : List Bool} {c : List Int} {k : Nat} (h : Abs T S Ps R D c k) {t p : Nat} (ht : t < T.length) (hp : Ps.getD t 0 = (p : Int)) (hs : (T.getD t []).length ≤ absP (T.getD t []) p (D.getD t false)) : S.pick T t = S := by
  obtain ⟨p', e1, _, e2⟩ := h.each t ht
  have : p' = p := by rw [hp] at e1; omega
  subst this
  unfold Sys.pick
  rw [e2, if_pos hs]

theorem Abs.pick {T : List (List InsV)} {S : Sys} {Ps : List Int} {R : List (List Int)} {D : List Bool} {c : List Int} {k : Nat} (h : Abs T S Ps R D c k) {n : Nat} (hS : S.Ok T n) {t p : Nat} (ht : t < T.length) (hp : Ps.getD t 0 = (p : Int)) (hs : ¬ (T.getD t []).length ≤ absP (T.getD t []) p (D.getD t false))
    {r : List Int} {p' : Nat} {d : Bool} {c' : List Int} (hd : D.getD t false = false) (hp' : p' ≤ (T.getD t []).length) (he : St.go (T.getD t []) 64 ⟨R.getD t [], p, c⟩ = ⟨r, absP (T.getD t []) p' d, c'⟩) : Abs T (S.pick T t) (Ps.set t (p' : Int)) (R.set t r) (D.set t d) c' (k + 1) := by
  obtain ⟨p0, e1, _, e2⟩ := h.each t ht
  have : p0 = p := by rw [hp] at e1; omega
  subst this
  have hm : t < S.ms.length := by rw [hS.len]; exact ht
  have hr : R.getD t [] = (S.ms.getD t Mc.new).r := by
    rw [h.r, getD_get (by simpa using hm), getD_get hm]
    simp
  have hpp : (S.ms.getD t Mc.new).p = p0 := by rw [e2, hd]; rfl
  have hpick : S.pick T t = ⟨S.ms.set t ⟨r, absP (T.getD t []) p' d⟩, c', S.steps + 1⟩ := by
    unfold Sys.pick
    rw [e2, if_neg hs, ← e2, hpp, ← hr, ← h.c, he]
  rw [hpick]
  refine ⟨by rw [h.r, List.map_set], rfl, by rw [h.k], by simpa using h.lp, by simpa using h.ld, fun u hu => ?_⟩
  by_cases e : u = t
  · subst e
    refine ⟨p', ?_, hp', ?_⟩
    · rw [getD_get (by simp [h.lp]; exact hu)]; simp
    · have e5 : (D.set u d).getD u false = d := by rw [getD_get (by simp [h.ld]; exact hu)]; simp
      rw [e5]
      show ((S.ms.set u ⟨r, absP (T.getD u []) p' d⟩).getD u Mc.new).p = _
      rw [getD_get (by simpa using hm)]
      simp only [List.getElem_set_self]
  · obtain ⟨q, f1, f2, f3⟩ := h.each u hu
    refine ⟨q, ?_, f2, ?_⟩
    · rw [List.getD_eq_getElem?_getD, List.getElem?_set_ne (Ne.symm e), ← List.getD_eq_getElem?_getD]; exact f1
    · have e5 : (D.set t d).getD u false = D.getD u false := by rw [List.getD_eq_getElem?_getD, List.getElem?_set_ne (Ne.symm e), ← List.getD_eq_getElem?_getD]
      have e6 : (S.ms.set t ⟨r, absP (T.getD t []) p' d⟩).getD u Mc.new = S.ms.getD u Mc.new := by rw [List.getD_eq_getElem?_getD, List.getElem?_set_ne (Ne.symm e), ← List.getD_eq_getElem?_getD]
      rw [e5]
      show ((S.ms.set t ⟨r, absP (T.getD t []) p' d⟩).getD u Mc.new).p = _
      rw [e6]
      exact f3

end Go.Proofs.Ytibgpjokdpagcaa
