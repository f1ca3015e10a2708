/- Retire. -/
import Derived.Test.YtonblbopfbjiaaaEAdv
import Derived.Deep.RegionLaw
namespace Go.Proofs.Ytonblbopfbjiaaa
open Go.RowKit

theorem infoT : (Try.prog.info? 59).map (fun i => (i.zero, i.size, i.bytes)) = some (some (.agg #[.int .i64 0, .int .i64 0]), 2, 16) := by kernel_rfl

theorem info_of {e : TypeId} {z : Value} {size bytes : Nat} (h : (Try.prog.info? e).map (fun i => (i.zero, i.size, i.bytes)) = some (some z, size, bytes)) : ∃ i, Try.prog.info? e = some i ∧ i.zero = some z ∧ i.size = size ∧ i.bytes = bytes := by
  cases hq : Try.prog.info? e with
  | none => rw [hq] at h; cases h
  | some i =>
    rw [hq] at h
    simp only [Option.map_some, Option.some.injEq, Prod.mk.injEq] at h
    exact ⟨i, rfl, h.1, h.2.1, h.2.2⟩

theorem own_shape {w : World} {base : Nat} {e : TypeId} {size n : Nat} {v : Value} {xs : List Value} (h : w.ownsRow base e size v n xs) : ∃ a m, v = .slice a n m := by
  rcases h.2 with ⟨rfl, rfl⟩ | ⟨g, cap, cur, rfl, _⟩
  · exact ⟨none, 0, rfl⟩
  · exact ⟨_, cap, rfl⟩

/-- one thing more at the end of a row of a call's own, within a region that draws -/
theorem step_append_one {w : World} {ops : Array Oper} {o : Oper} {a : Act} {K : Act → World → Prop} {Q : Exit → Act → World → Prop} {E : Prop} (hgd : o.guard = none) (s x : Operand) (t : TypeId)
    (ho : o.op = .call { callee := .builtin .append, args := #[s, x], argTypes := #[t, t] })
    (e : TypeId) (z : Value) (size bytes : Nat) (ht : Try.prog.underlying t = some (.slice e)) (hinfo : (Try.prog.info? e).map (fun i => (i.zero, i.size, i.bytes)) = some (some z, size, bytes)) (hzs : z.cells.size = size) (hsz : 0 < size) (hby : bytes ≤ 1024)
    {α : Type} (en : α → List Value) (hm : ∀ y, (en y).length = size) (hone : ∀ y, ∀ u ∈ en y, u.oneCell' = true) (L : List α) (y : α)
    (A : Option Addr) (n m : Nat) (hs : a.eval s = .slice A n m) (hown : w.ownsRow 0 e size (.slice A n m) n (flat en L)) (hn : n ≤ 1000000)
    (p : Nat) (hx : a.eval x = .slice (some ⟨p, 0, none⟩) 1 1) (hp : ∀ j u, (en y)[j]? = some u → w.cell? ⟨p, j, none⟩ = some u)
    (h : ∀ A' m' w', w'.ownsRow 0 e size (.slice A' (n + 1) m') (n + 1) (flat en (L ++ [y])) → Turn (fun i => (Value.slice A n m).ownBlock = some i) w w' → (∀ i, (Value.slice A' (n + 1) m').ownBlock = some i → (Value.slice A n m).ownBlock = some i ∨ w.heap.size ≤ i) → K (a.put o.dst (.slice A' (n + 1) m')) w') :
    if Region.wanted o (yielded ops a.tmps) = true then Oper.wp Try.prog o a w K Q else E := by
  have hw : Region.wanted o (yielded ops a.tmps) = true := by simp [Region.wanted, hgd]
  rw [if_pos hw]
  obtain ⟨i, hi, hz, h1, h2⟩ := info_of hinfo
  have hb : (n + 1) * bytes ≤ 1000001 * 1024 := Nat.mul_le_mul (by omega) hby
  obtain ⟨v', w', hr, k1, k2, _, k4⟩ := run_append_own_at (P := Try.prog) w 0 t o.type e i z size bytes ht hi hz h1 h2 hzs hsz _ n _ hown ⟨p, 0, none⟩ 1 1 (en y) (by rw [hm, Nat.one_mul]) (fun j u hu => by rw [Addr.add_lit, Nat.zero_add]; exact hp j u hu) (hone y) (by unfold maxLen; omega) (by omega) (Nat.zero_le _)
  obtain ⟨A', m', rfl⟩ := own_shape k1
  unfold Oper.wp
  simp [execOp, ho, resolve, invoke, builtin, hs, hx, hr, Result.andThen]
  refine h A' m' w' ?_ (Turn.ofGrown k2 (fun k hk => hk)) (fun i hi => ?_)
  · rw [flat_append]
    simpa [flat] using k1
  · rcases k4 with k | k
    · exact Or.inl (k ▸ hi)
    · rw [k] at hi
      right
      injection hi with hi
      omega

theorem oneT : ∀ y, ∀ u ∈ enT y, u.oneCell' = true := fun y u hu => by
  simp only [enT, List.mem_cons, List.not_mem_nil, or_false] at hu
  rcases hu with rfl | rfl <;> rfl

theorem thing_at (w : World) (x t : Int) : ∀ j u, (enT (x, t))[j]? = some u → (w.alloc (.cells #[.int .i64 x, .int .i64 t] 59 (0, 0))).drew.cell? ⟨w.heap.size, j, none⟩ = some u := fun j u hu => by
  show (w.alloc (.cells #[.int .i64 x, .int .i64 t] 59 (0, 0))).cell? ⟨w.heap.size, j, none⟩ = some u
  rw [cell_of (heap_new w _)]
  simpa [enT] using hu

theorem below_box (w : World) (o : Obj) : Below w.heap.size w (w.alloc o).drew := by
  have h : Below w.heap.size w (w.alloc o) := (Below.refl _ _).alloc (Nat.le_refl _) o
  exact ⟨h.os, h.tape, h.output, h.size, h.block⟩

section
variable {g : Nat} {c : Ck} {w : World} {F : Nat → Prop}

set_option maxRecDepth 100000 in
theorem retire_full (h : ClockI g c w F) (x : Int) (hn : c.th.length = 4096) : Calls Try.prog 14 #[.pointer (some ⟨g, 0, none⟩), .int .i64 x] w fun e w' => e = .returned (.int .i64 2) ∧ w' = w := by
  obtain ⟨b, a, m, hG, hF⟩ := h
  obtain ⟨-, -, -, -, c4, -, -, -⟩ := hG.cells
  rw [hn] at c4
  clear hG hF hn
  go_enter Try.func14, Try.ntmps14
  go_wp2_with fail
  go_ret
  exact ⟨rfl, rfl⟩

set_option maxRecDepth 100000 in
set_option maxHeartbeats 1000000 in
theorem retire_ok (h : ClockI g c w F) (x : Int) (hn : c.th.length < 4096) : Calls Try.prog 14 #[.pointer (some ⟨g, 0, none⟩), .int .i64 x] w fun e w' => e = .returned (.int .i64 0) ∧ Goes (ClockI g (c.retire x)) w w' F := by
  obtain ⟨b, a, m, hG, hF⟩ := h
  obtain ⟨c0, -, -, -, c4, -, -, f4⟩ := hG.cells
  have hg : g < w.heap.size := lt_of hG.st
  have HG : Hid (ClockG w g b a m c) := hG
  have HF : Hid (∀ i, F i ↔ (i = g ∨ i = b ∨ (Value.slice a c.th.length m).ownBlock = some i)) := hF
  obtain ⟨n, hnn⟩ : ∃ n, c.th.length = n := ⟨_, rfl⟩
  have HN : Hid (c.th.length = n) := hnn
  rw [hnn] at c4 hn
  have hn2 : ¬ (4096 : Int) ≤ (n : Int) := by omega
  have HO : Hid (∀ W, Below w.heap.size w W → W.ownsRow 0 59 2 (.slice a n m) n (flat enT c.th)) := fun W hW => by
    have h1 := hG.th
    rw [hnn] at h1
    exact ownsRow_block h1 (fun t e => by
      obtain ⟨cur, h2, _⟩ := ownsRow_own h1 e
      exact hW.block t (lt_of h2))
  have HC : Hid (∀ W W', Below w.heap.size w W → Turn (fun i => (Value.slice a n m).ownBlock = some i) W W' → W'.cell? ⟨g, 4, none⟩ = some (.slice a n m) ∧ W'.frozen? ⟨g, 4, none⟩ = false) := fun W W' hW hT => by
    have h1 := hG.tg
    rw [hnn] at h1
    have h2 := (hT.block g (Nat.lt_of_lt_of_le hg hW.size) h1).trans ((hW.block g hg).trans hG.st)
    rw [hnn] at h2
    exact ⟨by rw [cell_of h2]; rfl, frozen_of h2 _⟩
  have HE : Hid (∀ W W' A' m', Below w.heap.size w W → W'.ownsRow 0 59 2 (.slice A' (n + 1) m') (n + 1) (flat enT (c.th ++ [(x, c.now)])) → Turn (fun i => (Value.slice a n m).ownBlock = some i) W W' → (∀ i, (Value.slice A' (n + 1) m').ownBlock = some i → (Value.slice a n m).ownBlock = some i ∨ W.heap.size ≤ i) → Goes (ClockI g (c.retire x)) w (W'.setCell ⟨g, 4, none⟩ (.slice A' (n + 1) m')) F) := fun W W' A' m' hW k1 k2 k3 => by
    have hl : (c.th ++ [(x, c.now)]).length = n + 1 := by rw [List.length_append, hnn]; rfl
    have h0 : ClockG W g b a m c := hG.kept (hW.block g hg) (hW.block b (lt_of hG.wk)) (fun t e => by
      obtain ⟨cur, h2, _⟩ := ownsRow_own hG.th e
      exact hW.block t (lt_of h2))
    have h1 := Goes.ahead hW (h0.setT hF (c' := c.retire x) (L := c.th ++ [(x, c.now)]) (a' := A') (m' := m') (W := W') rfl (Ck.retire_ok hG.ok (by omega) x) (by rw [hnn]; exact k2) (by rw [hl]; exact k1) (by rw [hl, hnn]; exact k3))
    rw [hl] at h1
    exact h1
  clear hG hF hnn
  go_enter Try.func14, Try.ntmps14
  go_wp2_with fail
  go_region_law (refine step_append_one (by rfl) _ _ 53 (by rfl) 59 (.agg #[.int .i64 0, .int .i64 0]) 2 16 Try.underlying53 infoT rfl (by decide) (by decide) enT enT_len oneT c.th (x, c.now) a n m (by rfl) (HO.out _ (below_box w _)) (by omega) w.heap.size (by rfl) (thing_at w x c.now) ?_; intro A' m' w' k1 k2 k3; have q4 := (HC.out _ w' (below_box w _) k2).1; have f4' := (HC.out _ w' (below_box w _) k2).2; have HZ := HE.out _ w' A' m' (below_box w _) k1 k2 k3; clear k1 k2 k3)
  all_goals go_wp2_with fail
  all_goals go_ret
  all_goals exact ⟨rfl, by assumption⟩
end
end Go.Proofs.Ytonblbopfbjiaaa
