/- A step of a machine: stopped, swap, step. -/
import Derived.Test.YtibgpjokdpagcaaWRoom
import Derived.WalkMore
import Derived.ScopeJumps
import Derived.BigRegion
import Derived.Handy
namespace Go.Proofs.Ytibgpjokdpagcaa
open Go.RowKit

theorem scope_jumps {P : Program} {a : Act} {w : World} {Q : Exit → Act → World → Prop} {c rest : Code} (l : Nat) (J : Act → World → Prop) (μ : Act → World → Nat) (hf : findLabel c l = some (Code.skip.seq rest))
    (first : ∀ Q' : Exit → Act → World → Prop, (∀ a w, J a w → rest.wp P Q' a w) → c.wp P Q' a w)
    (pass : ∀ a w, J a w → rest.wp P (Exit.jump l (fun a' w' => J a' w' ∧ μ a' w' < μ a w) Q) a w) : (Code.scope c).wp P Q a w :=
  wp_scope_jumps l J μ hf (first _ (fun a w hJ => wp_mono (pass a w hJ) (fun e a' w' h => by
    cases e with
    | goto l' => exact ⟨h.1, h.2.1⟩
    | normal => exact h
    | exit _ => exact h
    | ret => exact h
    | panic _ => exact h
    | outgrown => exact h))) (fun a w hJ => wp_seq (wp_skip (pass a w hJ)))

theorem stopped_any (g o : Nat) (a : Option Addr) (len c p : Nat) (w : World) (h1 : w.cell? ⟨g, o, none⟩ = some (.slice a len c)) (h2 : w.cell? ⟨g, o + 9, none⟩ = some (.int .i64 (p : Int))) :
    Calls Try.prog 25 #[.pointer (some ⟨g, o, none⟩)] w fun e w' => e = .returned (.bool (decide (len ≤ p))) ∧ ∃ m, w' = w.drewN m := by
  go_enter Try.func25, Try.ntmps25
  go_wp2_with fail
  go_quiet (fail)
  go_wp2
  go_ret
  refine ⟨ret_bool ?_, nq, rfl⟩
  exact decide_eq_decide.2 (by omega)

set_option maxRecDepth 100000 in
theorem swap_any {w0 w : World} {g h : Nat} {G : List Mg} {t o : Nat} {v : Value} {s : St} {k i j : Nat} (hL : Loc w0 w g h G t o v s) (hk : k < s.c.length) (hi : i < 8) (hj : j < 8) :
    Calls Try.prog 32 #[.pointer (some ⟨g, o, none⟩), .pointer (some ⟨h, k, none⟩), .int .i64 (i : Int), .int .i64 (j : Int)] w fun e w' => e = .returned (.tuple #[]) ∧
      Loc w0 w' g h G t o v (if s.c.getD k 0 = s.r.getD i 0 then ⟨s.r.set i 1, s.p, s.c.set k (s.r.getD j 0)⟩ else ⟨s.r.set i 0, s.p, s.c⟩) ∧ Turn (fun q => q = g ∨ q = h) w w' := by
  have p1 := hL.cell hk
  have p2 := hL.reg hi
  have p3 := hL.reg hj
  have f1 := hL.frozen (o + 1 + i)
  have f2 := hL.frozenC k
  have HL : Hid (Loc w0 w g h G t o v s) := hL
  obtain ⟨x, hx⟩ : ∃ x, s.c.getD k 0 = x := ⟨_, rfl⟩
  obtain ⟨y, hy⟩ : ∃ y, s.r.getD i 0 = y := ⟨_, rfl⟩
  obtain ⟨z, hz⟩ : ∃ z, s.r.getD j 0 = z := ⟨_, rfl⟩
  rw [hx] at p1 ⊢
  rw [hy] at p2 ⊢
  rw [hz] at p3 ⊢
  clear hL
  by_cases e : x = y
  · have e2 : (x != y) = false := by rw [e]; simp
    rw [if_pos e]
    clear e hx hy hz
    go_enter Try.func32, Try.ntmps32
    go_wp2_with fail
    go_quiet (fail)
    have HL1 : Hid (Loc w0 (w.drewN nq) g h G t o v s) := HL.out.below (below_drewN w nq)
    have HL2 : Hid (Loc w0 ((w.drewN nq).setCell ⟨h, k, none⟩ (.int .u64 z)) g h G t o v ⟨s.r, s.p, s.c.set k z⟩) := HL1.out.setCel k z
    have q1 := HL2.out.reg hi
    have q2 := HL2.out.frozen (o + 1 + i)
    go_wp2_with fail
    go_returns
    exact ⟨rfl, HL2.out.setReg hi 1, (((Turn.refl _ _).drewN nq).trans (Turn.setCell _ _ _ (Or.inr rfl))).trans (Turn.setCell _ _ _ (Or.inl rfl))⟩
  · have e2 : (x != y) = true := by rw [bne_iff_ne]; exact e
    rw [if_neg e]
    clear e hx hy hz
    go_enter Try.func32, Try.ntmps32
    go_wp2_with fail
    go_quiet (fail)
    have HL1 : Hid (Loc w0 (w.drewN nq) g h G t o v s) := HL.out.below (below_drewN w nq)
    go_wp2_with fail
    go_returns
    exact ⟨rfl, HL1.out.setReg hi 0, ((Turn.refl _ _).drewN nq).trans (Turn.setCell _ _ _ (Or.inl rfl))⟩

end Go.Proofs.Ytibgpjokdpagcaa
