/- One thing more at the end of a row of one's own, within a region that draws its order (ERetire's law, for layer 14). -/
import Derived.Test.YtnboanlhdllhnaaGreatZCat
import Derived.Deep.RegionLaw
import Derived.Maps.AppendAt
namespace Go.Proofs.YtnboanlhdllhnaaGreat
open Go.RowKit

theorem own_shape {w : World} {base : Nat} {e : TypeId} {size n : Nat} {v : Value} {xs : List Value} (h : w.ownsRow base e size v n xs) : ∃ a m, v = .slice a n m := by
  rcases h.2 with ⟨rfl, rfl⟩ | ⟨g, cap, cur, rfl, _⟩
  · exact ⟨none, 0, rfl⟩
  · exact ⟨_, cap, rfl⟩

/-- one thing more at the end of a row of a call's own, within a region that draws -/
theorem step_append_one {w : World} {ops : Array Oper} {o : Oper} {a : Act} {K : Act → World → Prop} {Q : Exit → Act → World → Prop} {E : Prop} (hgd : o.guard = none) (s x : Operand) (t : TypeId)
    (ho : o.op = .call { callee := .builtin .append, args := #[s, x], argTypes := #[t, t] })
    (e : TypeId) (z : Value) (size bytes : Nat) (ht : Tryz.prog.underlying t = some (.slice e)) (hinfo : (Tryz.prog.info? e).map (fun i => (i.zero, i.size, i.bytes)) = some (some z, size, bytes)) (hzs : z.cells.size = size) (hsz : 0 < size) (hby : bytes ≤ 1024)
    {α : Type} (en : α → List Value) (hm : ∀ y, (en y).length = size) (hone : ∀ y, ∀ u ∈ en y, u.oneCell' = true) (L : List α) (y : α)
    (A : Option Addr) (n m : Nat) (hs : a.eval s = .slice A n m) (hown : w.ownsRow 0 e size (.slice A n m) n (flat en L)) (hn : n ≤ 1000000)
    (p : Nat) (hx : a.eval x = .slice (some ⟨p, 0, none⟩) 1 1) (hp : ∀ j u, (en y)[j]? = some u → w.cell? ⟨p, j, none⟩ = some u)
    (h : ∀ A' m' w', w'.ownsRow 0 e size (.slice A' (n + 1) m') (n + 1) (flat en (L ++ [y])) → Turn (fun i => (Value.slice A n m).ownBlock = some i) w w' → (∀ i, (Value.slice A' (n + 1) m').ownBlock = some i → (Value.slice A n m).ownBlock = some i ∨ w.heap.size ≤ i) → K (a.put o.dst (.slice A' (n + 1) m')) w') :
    if Region.wanted o (yielded ops a.tmps) = true then Oper.wp Tryz.prog o a w K Q else E := by
  have hw : Region.wanted o (yielded ops a.tmps) = true := by simp [Region.wanted, hgd]
  rw [if_pos hw]
  obtain ⟨i, hi, hz, h1, h2⟩ := info_parts hinfo
  have hb : (n + 1) * bytes ≤ 1000001 * 1024 := Nat.mul_le_mul (by omega) hby
  obtain ⟨v', w', hr, k1, k2, _, k4⟩ := run_append_own_at (P := Tryz.prog) w 0 t o.type e i z size bytes ht hi hz h1 h2 hzs hsz _ n _ hown ⟨p, 0, none⟩ 1 1 (en y) (by rw [hm, Nat.one_mul]) (fun j u hu => by rw [Addr.add_lit, Nat.zero_add]; exact hp j u hu) (hone y) (by unfold maxLen; omega) (by omega) (Nat.zero_le _)
  obtain ⟨A', m', rfl⟩ := own_shape k1
  unfold Oper.wp
  simp [execOp, ho, resolve, invoke, builtin, hs, hx, hr, Result.andThen]
  refine h A' m' w' ?_ (Turn.ofGrown k2 (fun k hk => hk)) (fun i hi => ?_)
  · rw [flat_append]
    simpa [flat] using k1
  · rcases k4 with k | k
    · exact Or.inl (k ▸ hi)
    · rw [k] at hi
      right
      injection hi with hi
      omega

theorem infoCol : (Tryz.prog.info? 70).map (fun i => (i.zero, i.size, i.bytes)) = some (some (.agg #[.string ⟨#[]⟩, .int .i64 0]), 2, 24) := by kernel_rfl
theorem infoIdx : (Tryz.prog.info? 64).map (fun i => (i.zero, i.size, i.bytes)) = some (some (.agg #[.string ⟨#[]⟩, .slice none 0 0, .bool false]), 3, 48) := by kernel_rfl
theorem infoI : (Tryz.prog.info? 3).map (fun i => (i.zero, i.size, i.bytes)) = some (some (.int .i64 0), 1, 8) := by kernel_rfl
theorem oneC : ∀ y, ∀ u ∈ enC y, u.oneCell' = true := fun y u hu => by
  simp only [enC, List.mem_cons, List.not_mem_nil, or_false] at hu
  rcases hu with rfl | rfl <;> rfl
theorem oneI : ∀ y, ∀ u ∈ enI y, u.oneCell' = true := fun y u hu => by
  simp only [enI, List.mem_cons, List.not_mem_nil, or_false] at hu
  rw [hu]; rfl

end Go.Proofs.YtnboanlhdllhnaaGreat
