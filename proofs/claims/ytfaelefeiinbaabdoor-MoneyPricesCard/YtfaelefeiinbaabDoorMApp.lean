/- Layer 22: rows of numbers that grow by one. -/
import Derived.Test.YtfaelefeiinbaabDoorMRow
import Derived.Maps.AppendAt
namespace Go.Proofs.YtfaelefeiinbaabDoor
open Go.RowKit MP

theorem own_shape {w : World} {base n : Nat} {e : TypeId} {v : Value} {xs : List Value} (h : w.ownsRow base e 1 v n xs) : ∃ A m, v = .slice A n m := by
  rcases h.2 with ⟨h1, h2⟩ | ⟨g, cap, cur, h1, _⟩
  · subst h2; exact ⟨none, 0, h1⟩
  · exact ⟨some ⟨g, 0, none⟩, cap, h1⟩
/-- one number more at the end of a row of a call's own -/
theorem wpList_int {w : World} {ops : Array Oper} {rest : List Oper} {o : Oper} {a : Act} {Q : Exit → Act → World → Prop} (hgd : o.guard = none) (s x : Operand)
    (ho : o.op = .call { callee := .builtin .append, args := #[s, x], argTypes := #[27, 27] })
    (base : Nat) (L : List Int) (y : Int) (A : Option Addr) (n m : Nat) (hs : a.eval s = .slice A n m) (hown : w.ownsRow base 3 1 (.slice A n m) n (flat en1 L)) (hn : n ≤ 1000000) (hbase : base ≤ w.heap.size)
    (p : Nat) (hx : a.eval x = .slice (some ⟨p, 0, none⟩) 1 1) (hp : w.cell? ⟨p, 0, none⟩ = some (.int .i64 y))
    (h : ∀ A' m' w', w'.ownsRow base 3 1 (.slice A' (n + 1) m') (n + 1) (flat en1 (L ++ [y])) → Below base w w' → wpList Tryd.prog ops Q rest (a.put o.dst (.slice A' (n + 1) m')) w') :
    wpList Tryd.prog ops Q (o :: rest) a w := by
  obtain ⟨i, hi, hz, h1, h2⟩ := info_parts infoI
  refine wpList_append_own_at _ hgd s x 27 ho base 3 i (.int .i64 0) 1 8 Tryd.underlying27 hi hz h1 h2 rfl (by decide) _ n _ hs hown ⟨p, 0, none⟩ 1 1 [.int .i64 y] hx rfl (fun j u hu => ?_) (fun u hu => ?_) (by unfold maxLen; omega) (by omega) hbase (fun v' w' k1 k2 _ k4 => ?_)
  · cases j with
    | zero => simp at hu; rw [Addr.add_lit, ← hu]; exact hp
    | succ j => simp at hu
  · rw [List.mem_singleton.1 hu]; rfl
  · obtain ⟨A', m', rfl⟩ := own_shape k1
    refine h A' m' w' ?_ ((Below.refl _ _).grown k2 hbase (fun k hk => ?_))
    · have e : flat en1 (L ++ [y]) = flat en1 L ++ [.int .i64 y] := by rw [flat_append]; rfl
      rw [e]
      exact k1
    · exact (hown.lt k hk).1
theorem row_of {w : World} {base n c : Nat} {A : Option Addr} {X : List Int} (h : w.ownsRow base 3 1 (.slice A n c) n (flat en1 X)) (hn : 0 < n) (hx : X.length = n) : ∃ g, A = some ⟨g, 0, none⟩ ∧ base ≤ g ∧ RowG w g X ∧ n ≤ c ∧ c ≤ maxLen := by
  rcases h.2 with ⟨h1, h2⟩ | ⟨g, cap, cur, h1, h3, h4, h5, h6, _, h8⟩
  · omega
  · cases h1
    exact ⟨g, rfl, h3, ⟨cur, h4, by rw [hx]; rw [Nat.mul_one] at h8; exact h8⟩, h5, h6⟩
end Go.Proofs.YtfaelefeiinbaabDoor
