/- Tasks that use no cell in common, in plain words. -/
import Derived.Test.YtibgpjokdpagcaaWRunB
namespace Go.Proofs.Ytibgpjokdpagcaa
open Go.RowKit

namespace Apart
/-- an instruction, its access turned to the cell z -/
def ov (z : Int) (x : InsV) : InsV := if 4 ≤ x.kind ∧ x.kind ≤ 6 then ⟨x.kind, x.a, x.b, z⟩ else x
def over (z : Int) (L : List InsV) : List InsV := L.map (ov z)
theorem over_length (z : Int) (L : List InsV) : (over z L).length = L.length := by simp [over]

theorem ov_may {z : Int} (hz : 0 ≤ z ∧ z < 2) {x : InsV} {many : Int} (h : x.may many 2) : (ov z x).may many 2 := by
  unfold ov
  split
  · rename_i hk
    refine ⟨h.1, ?_⟩
    unfold InsV.num
    dsimp only
    rw [if_neg (by omega), if_pos (by omega)]
    exact hz
  · exact h
theorem over_ok {z : Int} (hz : 0 ≤ z ∧ z < 2) {L : List InsV} (h : TaskOk L 2) : TaskOk (over z L) 2 := by
  refine ⟨by rw [over_length]; exact h.len, fun x hx => ?_⟩
  rw [over_length]
  obtain ⟨y, hy, rfl⟩ := List.mem_map.1 hx
  exact ov_may hz (h.all y hy)

def Only (k : Int) (L : List InsV) : Prop := ∀ x ∈ L, 4 ≤ x.kind → x.kind ≤ 6 → x.n = k
theorem over_only (z : Int) (L : List InsV) : Only z (over z L) := by
  intro x hx h1 h2
  obtain ⟨y, _, rfl⟩ := List.mem_map.1 hx
  unfold ov at h1 h2 ⊢
  by_cases h : 4 ≤ y.kind ∧ y.kind ≤ 6
  · rw [if_pos h]
  · rw [if_neg h] at h1 h2
    exact absurd ⟨h1, h2⟩ h

theorem one0 (len : Nat) (r : List Int) (p : Nat) (c0 : Int) (x : InsV) (hx : 4 ≤ x.kind → x.kind ≤ 6 → x.n = 0) : ∃ r' p' c' e, ∀ c1, St.one len ⟨r, p, [c0, c1]⟩ x = (⟨r', p', [c', c1]⟩, e) := by
  unfold St.one
  split
  · exact ⟨r.set x.a.toNat (x.n % two64), p + 1, c0, false, fun _ => rfl⟩
  split
  · exact ⟨r.set x.a.toNat (r.getD x.b.toNat 0), p + 1, c0, false, fun _ => rfl⟩
  split
  · exact ⟨r.set x.a.toNat ((r.getD x.b.toNat 0 + x.n) % two64), p + 1, c0, false, fun _ => rfl⟩
  split
  · exact ⟨r, if r.getD x.a.toNat 0 = 0 then x.n.toNat else p + 1, c0, false, fun _ => rfl⟩
  split
  · rw [hx (by omega) (by omega)]
    exact ⟨r.set x.a.toNat c0, p + 1, c0, true, fun _ => rfl⟩
  split
  · rw [hx (by omega) (by omega)]
    exact ⟨r, p + 1, r.getD x.a.toNat 0, true, fun _ => rfl⟩
  split
  · rw [hx (by omega) (by omega)]
    by_cases h : c0 = r.getD x.a.toNat 0
    · exact ⟨r.set x.a.toNat 1, p + 1, r.getD x.b.toNat 0, true, fun _ => if_pos h⟩
    · exact ⟨r.set x.a.toNat 0, p + 1, c0, true, fun _ => if_neg h⟩
  · exact ⟨r, len, c0, true, fun _ => rfl⟩
theorem one1 (len : Nat) (r : List Int) (p : Nat) (c1 : Int) (x : InsV) (hx : 4 ≤ x.kind → x.kind ≤ 6 → x.n = 1) : ∃ r' p' c' e, ∀ c0, St.one len ⟨r, p, [c0, c1]⟩ x = (⟨r', p', [c0, c']⟩, e) := by
  unfold St.one
  split
  · exact ⟨r.set x.a.toNat (x.n % two64), p + 1, c1, false, fun _ => rfl⟩
  split
  · exact ⟨r.set x.a.toNat (r.getD x.b.toNat 0), p + 1, c1, false, fun _ => rfl⟩
  split
  · exact ⟨r.set x.a.toNat ((r.getD x.b.toNat 0 + x.n) % two64), p + 1, c1, false, fun _ => rfl⟩
  split
  · exact ⟨r, if r.getD x.a.toNat 0 = 0 then x.n.toNat else p + 1, c1, false, fun _ => rfl⟩
  split
  · rw [hx (by omega) (by omega)]
    exact ⟨r.set x.a.toNat c1, p + 1, c1, true, fun _ => rfl⟩
  split
  · rw [hx (by omega) (by omega)]
    exact ⟨r, p + 1, r.getD x.a.toNat 0, true, fun _ => rfl⟩
  split
  · rw [hx (by omega) (by omega)]
    by_cases h : c1 = r.getD x.a.toNat 0
    · exact ⟨r.set x.a.toNat 1, p + 1, r.getD x.b.toNat 0, true, fun _ => if_pos h⟩
    · exact ⟨r.set x.a.toNat 0, p + 1, c1, true, fun _ => if_neg h⟩
  · exact ⟨r, len, c1, true, fun _ => rfl⟩

theorem go0 {L : List InsV} (hL : Only 0 L) : ∀ (k : Nat) (r : List Int) (p : Nat) (c0 : Int), ∃ r' p' c', ∀ c1, St.go L k ⟨r, p, [c0, c1]⟩ = ⟨r', p', [c', c1]⟩
  | 0, r, p, c0 => ⟨r, p, c0, fun _ => rfl⟩
  | k + 1, r, p, c0 => by
    cases hx : L[p]? with
    | none => exact ⟨r, p, c0, fun c1 => by rw [St.go]; dsimp only; rw [hx]⟩
    | some x =>
      obtain ⟨r1, p1, c', e, h1⟩ := one0 L.length r p c0 x (hL x (List.mem_of_getElem? hx))
      cases e with
      | true => exact ⟨r1, p1, c', fun c1 => by rw [St.go]; dsimp only; rw [hx]; dsimp only; rw [h1 c1]; rfl⟩
      | false =>
        obtain ⟨r2, p2, c2, h2⟩ := go0 hL k r1 p1 c'
        exact ⟨r2, p2, c2, fun c1 => by rw [St.go]; dsimp only; rw [hx]; dsimp only; rw [h1 c1]; exact h2 c1⟩
theorem go1 {L : List InsV} (hL : Only 1 L) : ∀ (k : Nat) (r : List Int) (p : Nat) (c1 : Int), ∃ r' p' c', ∀ c0, St.go L k ⟨r, p, [c0, c1]⟩ = ⟨r', p', [c0, c']⟩
  | 0, r, p, c1 => ⟨r, p, c1, fun _ => rfl⟩
  | k + 1, r, p, c1 => by
    cases hx : L[p]? with
    | none => exact ⟨r, p, c1, fun c0 => by rw [St.go]; dsimp only; rw [hx]⟩
    | some x =>
      obtain ⟨r1, p1, c', e, h1⟩ := one1 L.length r p c1 x (hL x (List.mem_of_getElem? hx))
      cases e with
      | true => exact ⟨r1, p1, c', fun c0 => by rw [St.go]; dsimp only; rw [hx]; dsimp only; rw [h1 c0]; rfl⟩
      | false =>
        obtain ⟨r2, p2, c2, h2⟩ := go1 hL k r1 p1 c'
        exact ⟨r2, p2, c2, fun c0 => by rw [St.go]; dsimp only; rw [hx]; dsimp only; rw [h1 c0]; exact h2 c0⟩

/-- both together, and each alone -/
structure Rel (X Y Z : Sys) : Prop where
  ex : ∃ m0 m1 c0 c1, X.ms = [m0, m1] ∧ X.c = [c0, c1] ∧ Y.ms = [m0] ∧ Y.c = [c0, 4] ∧ Z.ms = [m1] ∧ Z.c = [3, c1] ∧ m0.r.length = 8 ∧ m1.r.length = 8
  steps : X.steps = Y.steps + Z.steps

theorem Rel.start (A B : List InsV) : Rel (Sys.start [A, B] [3, 4]) (Sys.start [A] [3, 4]) (Sys.start [B] [3, 4]) := ⟨⟨Mc.new, Mc.new, 3, 4, rfl, rfl, rfl, rfl, rfl, rfl, rfl, rfl⟩, rfl⟩

theorem go_r8 {L : List InsV} {k : Nat} {s : St} (h : s.r.length = 8) : (St.go L k s).r.length = 8 := by
  induction k generalizing s with
  | zero => exact h
  | succ k ih =>
    rw [St.go]
    split
    · exact h
    · rename_i x _
      have h1 : (s.one L.length x).1.r.length = 8 := by
        unfold St.one
        repeat' split
        all_goals simpa using h
      split
      · exact h1
      · exact ih h1

theorem Rel.pick0 {A B : List InsV} (hA : Only 0 A) {X Y Z : Sys} (h : Rel X Y Z) : Rel (X.pick [A, B] 0) (Y.pick [A] 0) Z := by
  obtain ⟨⟨m0, m1, c0, c1, e1, e2, e3, e4, e5, e6, e7, e8⟩, hs⟩ := h
  obtain ⟨xm, xc, xs⟩ := X
  obtain ⟨ym, yc, ys⟩ := Y
  dsimp only at e1 e2 e3 e4 hs
  subst e1 e2 e3 e4
  unfold Sys.pick
  by_cases hp : A.length ≤ m0.p
  · rw [if_pos (show (([A, B] : List (List InsV)).getD 0 []).length ≤ (([m0, m1] : List Mc).getD 0 Mc.new).p from hp), if_pos (show (([A] : List (List InsV)).getD 0 []).length ≤ (([m0] : List Mc).getD 0 Mc.new).p from hp)]
    exact ⟨⟨m0, m1, c0, c1, rfl, rfl, rfl, rfl, e5, e6, e7, e8⟩, hs⟩
  · rw [if_neg (show ¬ (([A, B] : List (List InsV)).getD 0 []).length ≤ (([m0, m1] : List Mc).getD 0 Mc.new).p from hp), if_neg (show ¬ (([A] : List (List InsV)).getD 0 []).length ≤ (([m0] : List Mc).getD 0 Mc.new).p from hp)]
    obtain ⟨r', p', c', h1⟩ := go0 hA 64 m0.r m0.p c0
    have h8 : r'.length = 8 := by
      have := go_r8 (L := A) (k := 64) (s := ⟨m0.r, m0.p, [c0, c1]⟩) e7
      rw [h1] at this
      exact this
    refine ⟨⟨⟨r', p'⟩, m1, c', c1, ?_, ?_, ?_, ?_, e5, e6, h8, e8⟩, ?_⟩
    · show [(⟨(St.go A 64 ⟨m0.r, m0.p, [c0, c1]⟩).r, (St.go A 64 ⟨m0.r, m0.p, [c0, c1]⟩).p⟩ : Mc), m1] = _
      rw [h1]
    · show (St.go A 64 ⟨m0.r, m0.p, [c0, c1]⟩).c = _
      rw [h1]
    · show [(⟨(St.go A 64 ⟨m0.r, m0.p, [c0, 4]⟩).r, (St.go A 64 ⟨m0.r, m0.p, [c0, 4]⟩).p⟩ : Mc)] = _
      rw [h1]
    · show (St.go A 64 ⟨m0.r, m0.p, [c0, 4]⟩).c = _
      rw [h1]
    · show xs + 1 = ys + 1 + Z.steps
      omega
theorem Rel.pick1 {A B : List InsV} (hB : Only 1 B) {X Y Z : Sys} (h : Rel X Y Z) : Rel (X.pick [A, B] 1) Y (Z.pick [B] 0) := by
  obtain ⟨⟨m0, m1, c0, c1, e1, e2, e3, e4, e5, e6, e7, e8⟩, hs⟩ := h
  obtain ⟨xm, xc, xs⟩ := X
  obtain ⟨zm, zc, zs⟩ := Z
  dsimp only at e1 e2 e5 e6 hs
  subst e1 e2 e5 e6
  unfold Sys.pick
  by_cases hp : B.length ≤ m1.p
  · rw [if_pos (show (([A, B] : List (List InsV)).getD 1 []).length ≤ (([m0, m1] : List Mc).getD 1 Mc.new).p from hp), if_pos (show (([B] : List (List InsV)).getD 0 []).length ≤ (([m1] : List Mc).getD 0 Mc.new).p from hp)]
    exact ⟨⟨m0, m1, c0, c1, rfl, rfl, e3, e4, rfl, rfl, e7, e8⟩, hs⟩
  · rw [if_neg (show ¬ (([A, B] : List (List InsV)).getD 1 []).length ≤ (([m0, m1] : List Mc).getD 1 Mc.new).p from hp), if_neg (show ¬ (([B] : List (List InsV)).getD 0 []).length ≤ (([m1] : List Mc).getD 0 Mc.new).p from hp)]
    obtain ⟨r', p', c', h1⟩ := go1 hB 64 m1.r m1.p c1
    have h8 : r'.length = 8 := by
      have := go_r8 (L := B) (k := 64) (s := ⟨m1.r, m1.p, [c0, c1]⟩) e8
      rw [h1] at this
      exact this
    refine ⟨⟨m0, ⟨r', p'⟩, c0, c', ?_, ?_, e3, e4, ?_, ?_, e7, h8⟩, ?_⟩
    · show [m0, (⟨(St.go B 64 ⟨m1.r, m1.p, [c0, c1]⟩).r, (St.go B 64 ⟨m1.r, m1.p, [c0, c1]⟩).p⟩ : Mc)] = _
      rw [h1]
    · show (St.go B 64 ⟨m1.r, m1.p, [c0, c1]⟩).c = _
      rw [h1]
    · show [(⟨(St.go B 64 ⟨m1.r, m1.p, [3, c1]⟩).r, (St.go B 64 ⟨m1.r, m1.p, [3, c1]⟩).p⟩ : Mc)] = _
      rw [h1]
    · show (St.go B 64 ⟨m1.r, m1.p, [3, c1]⟩).c = _
      rw [h1]
    · show xs + 1 = Y.steps + (zs + 1)
      omega

theorem run_snoc (T : List (List InsV)) (S : Sys) (ps : List Int) (q : Int) : S.run T (ps ++ [q]) = (S.run T ps).pick T q.toNat := by
  rw [Sys.run_append]
  rfl
end Apart

end Go.Proofs.Ytibgpjokdpagcaa
