/- Numbers put behind a row of one's own, at an operation of a region that draws its order. -/
import Derived.Test.YtibglhlhogfdnaaDoorQRow
import Derived.Deep.RegionLaw
import Derived.Deep.RegionHeld3
namespace Go.Proofs.YtibglhlhogfdnaaDoor
open Go.RowKit

theorem step_nums {k : IntKind} {e t : TypeId} {bytes : Nat} (KO : KindOk k e t bytes) {w : World} {ops : Array Oper} {o : Oper} {a : Act} {F : Act → World → Prop} {Q : Exit → Act → World → Prop} {E : Prop} (hgd : o.guard = none) (s x : Operand)
    (ho : o.op = .call { callee := .builtin .append, args := #[s, x], argTypes := #[t, t] })
    (base : Nat) (L Y : List Nat) (A : Option Addr) (n c : Nat) (hs : a.eval s = .slice A n c) (hown : w.ownsRow base e 1 (.slice A n c) n (flat (enK k) L)) (hn : n ≤ 1000000000) (hbase : base ≤ w.heap.size)
    (p m : Nat) {cx : Nat} (hx : a.eval x = .slice (some ⟨p, 0, none⟩) m cx) (hm : Y.length = m) (hm2 : m ≤ 1000000) (hp : RowK k e w p Y)
    (h : ∀ A' c' w', w'.ownsRow base e 1 (.slice A' (n + m) c') (n + m) (flat (enK k) (L ++ Y)) → Below base w w' → F (a.put o.dst (.slice A' (n + m) c')) w') :
    if Region.wanted o (yielded ops a.tmps) = true then Oper.wp Tryd.prog o a w F Q else E := by
  have hw : Region.wanted o (yielded ops a.tmps) = true := by simp [Region.wanted, hgd]
  rw [if_pos hw]
  obtain ⟨i, hi, hz, h1, h2⟩ := info_parts KO.info
  have hf := KO.few
  have hnb : (n + m) * bytes ≤ 140737488355328 := by
    calc (n + m) * bytes ≤ (n + m) * 8 := Nat.mul_le_mul_left _ hf
      _ ≤ 140737488355328 := by omega
  have hone : ∀ (Z : List Nat) (u : Value), u ∈ flat (enK k) Z → u.oneCell' = true := fun Z => by
    induction Z with
    | nil => intro u hu; cases hu
    | cons z Z ih =>
      intro u hu
      rw [flat_cons] at hu
      rcases List.mem_append.1 hu with hu | hu
      · rw [List.mem_singleton.1 hu]; rfl
      · exact ih u hu
  have hnews : ∀ j u, (flat (enK k) Y)[j]? = some u → w.cell? ((⟨p, 0, none⟩ : Addr).add j) = some u := fun j u hu => by
    obtain ⟨cur, h3, h4⟩ := hp
    have hj : j < Y.length := by
      have := (List.getElem?_eq_some_iff.1 hu).1
      rwa [flatK_len] at this
    rw [← h4, List.getElem?_take_of_lt hj] at hu
    rw [Addr.add_lit, Nat.zero_add, cell_of h3, ← Array.getElem?_toList, hu]
  obtain ⟨v', w', hr, k1, k2, _, k4⟩ := run_append_own_at (P := Tryd.prog) w base t o.type e i (.int k 0) 1 bytes KO.sl hi hz h1 h2 rfl (by decide) _ n _ hown ⟨p, 0, none⟩ m cx (flat (enK k) Y) (by rw [flatK_len, hm, Nat.mul_one]) hnews (hone Y) (by unfold maxLen; omega) hnb hbase
  obtain ⟨A', m', rfl⟩ := ownK_shape k1
  unfold Oper.wp
  simp [execOp, ho, resolve, invoke, builtin, hs, hx, hr, Result.andThen]
  refine h A' m' w' ?_ ((Below.refl _ _).grown k2 hbase (fun k hk => (hown.lt k hk).1))
  rw [flat_append]
  exact k1
end Go.Proofs.YtibglhlhogfdnaaDoor
