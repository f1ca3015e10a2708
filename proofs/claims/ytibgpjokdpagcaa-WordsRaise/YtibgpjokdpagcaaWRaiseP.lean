/- Raising a cell, in plain words. -/
import Derived.Test.YtibgpjokdpagcaaWRunB
namespace Go.Proofs.Ytibgpjokdpagcaa
open Go.RowKit

namespace Raise
def code : List InsV := [⟨4, 0, 0, 0⟩, ⟨3, 1, 0, 1⟩, ⟨6, 0, 1, 0⟩, ⟨7, 0, 0, 0⟩]

/-- a machine that raises -/
structure Mo (m : Mc) : Prop where
  r8 : m.r.length = 8
  p : m.p = 0 ∨ m.p = 1 ∨ (m.p = 3 ∧ (m.r.getD 0 0 = 0 ∨ m.r.getD 0 0 = 1)) ∨ m.p = 4
/-- has it raised? -/
def up (m : Mc) : Nat := if m.p = 4 ∨ (m.p = 3 ∧ m.r.getD 0 0 = 1) then 1 else 0

theorem up_le (m : Mc) : up m ≤ 1 := by unfold up; split <;> omega

theorem step {r : List Int} {p : Nat} {z : Int} (h : Mo ⟨r, p⟩) (hp : p < 4) (hz : 0 ≤ z ∧ z < 1000) :
    ∃ m' z', St.go code 64 ⟨r, p, [z]⟩ = ⟨m'.r, m'.p, [z']⟩ ∧ Mo m' ∧ z' + up ⟨r, p⟩ = z + up m' := by
  obtain ⟨h8, h4⟩ := h
  dsimp only at h8 h4
  match r, h8 with
  | [a, b, c, d, e, f, g, h], _ =>
    have h4' : p = 0 ∨ p = 1 ∨ (p = 3 ∧ (a = 0 ∨ a = 1)) ∨ p = 4 := h4
    rcases h4' with rfl | rfl | ⟨rfl, rfl | rfl⟩ | rfl
    · exact ⟨⟨[z, b, c, d, e, f, g, h], 1⟩, z, rfl, ⟨rfl, Or.inr (Or.inl rfl)⟩, rfl⟩
    · by_cases e1 : z = a
      · subst e1
        refine ⟨⟨[1, (z + 1) % two64, c, d, e, f, g, h], 3⟩, (z + 1) % two64, ?_, ⟨rfl, Or.inr (Or.inr (Or.inl ⟨rfl, Or.inr rfl⟩))⟩, ?_⟩
        · simp [St.go, St.one, code]
        · show (z + 1) % two64 + 0 = z + 1
          rw [Int.emod_eq_of_lt (by omega) (by unfold two64; omega)]
          omega
      · refine ⟨⟨[0, (a + 1) % two64, c, d, e, f, g, h], 3⟩, z, ?_, ⟨rfl, Or.inr (Or.inr (Or.inl ⟨rfl, Or.inl rfl⟩))⟩, rfl⟩
        simp [St.go, St.one, code, e1]
    · exact ⟨⟨[z, b, c, d, e, f, g, h], 1⟩, z, rfl, ⟨rfl, Or.inr (Or.inl rfl)⟩, rfl⟩
    · exact ⟨⟨[1, b, c, d, e, f, g, h], 4⟩, z, rfl, ⟨rfl, Or.inr (Or.inr (Or.inr rfl))⟩, rfl⟩
    · omega

theorem sum_set : ∀ (l : List Nat) (i : Nat) (h : i < l.length) (x : Nat), (l.set i x).sum + l[i] = l.sum + x
  | y :: l, 0, _, x => by simp; omega
  | y :: l, i + 1, h, x => by
    have := sum_set l i (by simpa using h) x
    simp only [List.set_cons_succ, List.sum_cons, List.getElem_cons_succ]
    omega
theorem sum_le : ∀ (l : List Mc), (l.map up).sum ≤ l.length
  | [] => Nat.le_refl _
  | m :: l => by
    have := sum_le l
    have h := up_le m
    simp only [List.map_cons, List.sum_cons, List.length_cons]
    omega

/-- what holds from pick to pick -/
structure Inv (k : Nat) (S : Sys) : Prop where
  len : S.ms.length = k
  each : ∀ m ∈ S.ms, Mo m
  c : S.c = [((7 + (S.ms.map up).sum : Nat) : Int)]

theorem Inv.start (k : Nat) : Inv k (Sys.start (List.replicate k code) [7]) := by
  refine ⟨by simp [Sys.start], fun m hm => ?_, ?_⟩
  · simp [Sys.start] at hm
    rw [hm.2]
    exact ⟨rfl, Or.inl rfl⟩
  · show [(7 : Int)] = _
    have : ((List.map (fun _ => Mc.new) (List.replicate k code)).map up).sum = 0 := by
      induction k with
      | zero => rfl
      | succ k ih => rw [List.replicate_succ, List.map_cons, List.map_cons, List.sum_cons, ih]; rfl
    show [(7 : Int)] = [((7 + ((List.map (fun _ => Mc.new) (List.replicate k code)).map up).sum : Nat) : Int)]
    rw [this]
    rfl

theorem Inv.pick {k : Nat} {S : Sys} (h : Inv k S) (hk : k ≤ 6) {t : Nat} (ht : t < k) : Inv k (S.pick (List.replicate k code) t) := by
  unfold Sys.pick
  have hm : t < S.ms.length := by rw [h.len]; exact ht
  rw [getD_get (show t < (List.replicate k code).length by simpa using ht), List.getElem_replicate, getD_get hm]
  split
  · exact h
  · rename_i hp
    have hp4 : S.ms[t].p < 4 := by simpa [code] using hp
    have hs := sum_le S.ms
    rw [h.len] at hs
    obtain ⟨m', z', e1, e2, e3⟩ := step (r := S.ms[t].r) (p := S.ms[t].p) (z := ((7 + (S.ms.map up).sum : Nat) : Int)) (h.each _ (List.getElem_mem hm)) hp4 (by omega)
    rw [h.c, e1]
    refine ⟨by simpa using h.len, fun m hm' => ?_, ?_⟩
    · rcases List.mem_or_eq_of_mem_set hm' with h1 | h1
      · exact h.each m h1
      · rw [h1]; exact e2
    · show [z'] = [((7 + ((S.ms.set t ⟨m'.r, m'.p⟩).map up).sum : Nat) : Int)]
      have := sum_set (S.ms.map up) t (by simpa using hm) (up m')
      rw [← List.map_set, List.getElem_map] at this
      congr 1
      have e4 : up ⟨S.ms[t].r, S.ms[t].p⟩ = up S.ms[t] := rfl
      have e5 : (S.ms.set t ⟨m'.r, m'.p⟩) = S.ms.set t m' := rfl
      rw [e5]
      omega

theorem Inv.run {k : Nat} (hk : k ≤ 6) : ∀ {ps : List Int} {S : Sys}, Inv k S → (∀ p ∈ ps, 0 ≤ p ∧ p < k) → Inv k (S.run (List.replicate k code) ps)
  | [], _, h, _ => h
  | p :: r, S, h, hp => by
    have h1 := hp p (by simp)
    exact Inv.run hk (S := S.pick _ p.toNat) (h.pick hk (by omega)) (fun q hq => hp q (by simp [hq]))

/-- how many have stopped -/
def count : List Bool → Nat
  | [] => 0
  | b :: r => (if b then 1 else 0) + count r
theorem count_take : ∀ (l : List Bool) (j : Nat) (h : j < l.length), count (l.take (j + 1)) = count (l.take j) + if l[j] then 1 else 0
  | b :: l, 0, _ => by simp [count]
  | b :: l, j + 1, h => by
    have := count_take l j (by simpa using h)
    simp only [List.take_succ_cons, count, List.getElem_cons_succ]
    omega
theorem count_le : ∀ (l : List Bool), count l ≤ l.length
  | [] => Nat.le_refl _
  | b :: l => by
    have := count_le l
    simp only [count, List.length_cons]
    split <;> omega
theorem done_le : ∀ (k : Nat) (ms : List Mc), ms.length = k → (∀ m ∈ ms, Mo m) → count (donesOf (List.replicate k code) ms) ≤ (ms.map up).sum
  | 0, [], _, _ => Nat.le_refl _
  | k + 1, m :: ms, hl, hm => by
    have ih := done_le k ms (by simpa using hl) (fun x hx => hm x (by simp [hx]))
    have h1 : (if doneOf code m then 1 else 0) ≤ up m := by
      obtain ⟨h8, hp⟩ := hm m (by simp)
      unfold doneOf up
      by_cases h4 : code.length ≤ m.p
      · have h4' : 4 ≤ m.p := h4
        have : m.p = 4 := by omega
        rw [if_pos (Or.inl this)]
        split <;> omega
      · rw [if_neg (by simpa using h4)]
        exact Nat.zero_le _
    show (if doneOf code m then 1 else 0) + count (donesOf (List.replicate k code) ms) ≤ up m + (ms.map up).sum
    omega

theorem taskOk : TaskOk code 1 := taskE_ok.1 (by kernel_rfl)
theorem noE {k : Nat} (hk : k ≤ 6) {ps : List Int} (hl : ps.length ≤ 500) (hp : ∀ p ∈ ps, 0 ≤ p ∧ p < k) : runE (List.replicate k code) 1 ps = 0 := by
  have h1 : (checkE (List.replicate k code) ((1 : Nat) : Int)).2.2 = 0 := checkE_ok.2 ⟨by simp; omega, by omega, fun L hL => by rw [List.eq_of_mem_replicate hL]; exact taskOk⟩
  unfold runE
  rw [if_pos h1]
  unfold pickE
  rw [if_neg (by omega), if_pos (by simpa using hp)]
end Raise

end Go.Proofs.Ytibgpjokdpagcaa
