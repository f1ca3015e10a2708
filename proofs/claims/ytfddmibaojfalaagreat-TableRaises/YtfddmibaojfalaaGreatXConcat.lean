/- The library's Grow and Concat, of two slices of one number each. -/
import Derived.Test.YtfddmibaojfalaaGreatXNewT
import Derived.Lib.AppendZeros
namespace Go.Proofs.YtfddmibaojfalaaGreat
open Go.RowKit Go.Lib

theorem wpList_append_src {w : World} {ops : Array Oper} {rest : List Oper} {o : Oper} {a : Act} {Q : Exit → Act → World → Prop} (hgd : o.guard = none) (s x : Operand) (t : TypeId)
    (ho : o.op = .call { callee := .builtin .append, args := #[s, x], argTypes := #[t, t] })
    (e : TypeId) (z : Value) (size bytes : Nat) (ht : Tryz.prog.underlying t = some (.slice e)) (hinfo : (Tryz.prog.info? e).map (fun i => (i.zero, i.size, i.bytes)) = some (some z, size, bytes)) (hzs : z.cells.size = size) (hsz : 0 < size) (hby : bytes ≤ 1024)
    {α : Type} (en : α → List Value) (hm : ∀ y, (en y).length = size) (L : List α) (y : α) (hone : ∀ u ∈ en y, u.oneCell' = true)
    (A : Option Addr) (n m : Nat) (hs : a.eval s = .slice A n m) (hown : w.ownsRow 0 e size (.slice A n m) n (flat en L)) (hn : n ≤ 1000000)
    (p cx : Nat) (hx : a.eval x = .slice (some ⟨p, 0, none⟩) 1 cx) (hp : ∀ j u, (en y)[j]? = some u → w.cell? ⟨p, j, none⟩ = some u)
    (h : ∀ A' m' w', Hid (w'.ownsRow 0 e size (.slice A' (n + 1) m') (n + 1) (flat en (L ++ [y]))) → Hid (Turn (fun i => (Value.slice A n m).ownBlock = some i) w w') → Hid (∀ i, (Value.slice A' (n + 1) m').ownBlock = some i → (Value.slice A n m).ownBlock = some i ∨ w.heap.size ≤ i) → wpList Tryz.prog ops Q rest (a.put o.dst (.slice A' (n + 1) m')) w') :
    wpList Tryz.prog ops Q (o :: rest) a w := by
  obtain ⟨i, hi, hz, h1, h2⟩ := info_parts hinfo
  have hb : (n + 1) * bytes ≤ 1000001 * 1024 := Nat.mul_le_mul (by omega) hby
  refine wpList_append_own_at w hgd s x t ho 0 e i z size bytes ht hi hz h1 h2 hzs hsz _ n (flat en L) hs hown ⟨p, 0, none⟩ 1 cx (en y) hx (by rw [hm, Nat.one_mul]) (fun j u hu => by rw [Addr.add_lit, Nat.zero_add]; exact hp j u hu) hone (by unfold maxLen; omega) (by omega) (Nat.zero_le _) (fun v' w' k1 k2 _ k4 => ?_)
  obtain ⟨A', m', rfl⟩ := own_shape k1
  refine h A' m' w' ?_ (Turn.ofGrown k2 (fun k hk => hk)) (fun i hi => ?_)
  · show World.ownsRow _ _ _ _ _ _ _
    rw [flat_append]
    simpa [flat] using k1
  · rcases k4 with k | k
    · exact Or.inl (k ▸ hi)
    · rw [k] at hi
      right
      injection hi with hi
      omega

theorem wpList_zeros {w w' : World} {ops : Array Oper} {rest : List Oper} {o : Oper} {a : Act} {Q : Exit → Act → World → Prop} {v : Value} (hgd : o.guard = none) (s x : Operand)
    (ho : o.op = .call { callee := .builtin .append, args := #[s, x], argTypes := #[73, 3] }) (hs : a.eval s = .slice none 0 0) (hx : a.eval x = .int .i64 2)
    (hrun : ∀ ty, (Builtin.append_ #[73, 3] ty #[.slice none 0 0, .int .i64 2]).run Tryz.prog w = .ok v w')
    (h : wpList Tryz.prog ops Q rest (a.put o.dst v) w') : wpList Tryz.prog ops Q (o :: rest) a w := by
  refine wpList_step fun K' hK' => ?_
  rw [if_pos (by simp [Region.wanted, hgd])]
  unfold Oper.wp
  simp [execOp, ho, resolve, invoke, builtin, hs, hx, hrun, Result.andThen]
  exact hK' _ _ h

theorem infoN : (Tryz.prog.info? 3).map (fun i => (i.zero, i.size, i.bytes)) = some (some (.int .i64 0), 1, 8) := by kernel_rfl
theorem oneN (y : Nat) : ∀ u ∈ enN y, u.oneCell' = true := fun u hu => by
  simp only [enN, List.mem_cons, List.not_mem_nil, or_false] at hu
  rw [hu]; rfl

set_option maxRecDepth 100000 in
set_option maxHeartbeats 1000000 in
theorem grow_two (w : World) : Calls Tryz.prog 35 #[.slice none 0 0, .int .i64 2] w fun e w' => ∃ g c, e = .returned (.slice (some ⟨g, 0, none⟩) 0 c) ∧ w'.ownsRow 0 3 1 (.slice (some ⟨g, 0, none⟩) 0 c) 0 (flat enN []) ∧ w.heap.size ≤ g ∧ Below w.heap.size w w' := by
  obtain ⟨i, hi, hz, h1, h2⟩ := infoInt_parts
  have hrun := fun ty => run_append_nil_zeros (P := Tryz.prog) w 73 3 ty 3 i (.int .i64 0) .i64 .i64 Tryz.underlying73 Tryz.underlying3 hi hz 2 (by omega) (by omega) (by omega) (by rw [h2]; decide)
  have hg1 := grownCap_ge w 2 0 3
  have hg2 := grownCap_le_maxLen w 2 0 3 (by decide)
  obtain ⟨c, hc⟩ : ∃ c, grownCap w 2 0 3 = c := ⟨_, rfl⟩
  rw [hc] at hrun hg1 hg2
  obtain ⟨cur, hcur⟩ : ∃ x, Builtin.zeroCells (Value.int .i64 0).cells 2 ++ Builtin.zeroCells (Value.int .i64 0).cells (c - 2) = x := ⟨_, rfl⟩
  have hcs : cur.size = c := by
    rw [← hcur, Array.size_append, size_zeroCells, size_zeroCells]
    show 2 * 1 + (c - 2) * 1 = c
    omega
  rw [hcur] at hrun
  have hrun' : ∀ ty, (Builtin.append_ #[73, 3] ty #[.slice none 0 0, .int .i64 2]).run Tryz.prog w = .ok (.slice (some ⟨w.heap.size, 0, none⟩) 2 c) (w.drew.alloc (.cells cur 3)) := hrun
  have HF : Hid ((w.drew.alloc (.cells cur 3)).ownsRow 0 3 1 (.slice (some ⟨w.heap.size, 0, none⟩) 0 c) 0 (flat enN []) ∧ Below w.heap.size w (w.drew.alloc (.cells cur 3))) :=
    ⟨⟨rfl, Or.inr ⟨w.heap.size, c, cur, rfl, Nat.zero_le _, heap_new w.drew _, Nat.zero_le _, hg2, by omega, rfl⟩⟩, bl_alloc (bl_drew (Below.refl _ w)) _⟩
  unfold maxLen at hg2
  clear hrun hcur hcs hc hi hz h1 h2
  have HRun : Hid (∀ ty, (Builtin.append_ #[73, 3] ty #[.slice none 0 0, .int .i64 2]).run Tryz.prog w = .ok (.slice (some ⟨w.heap.size, 0, none⟩) 2 c) (w.drew.alloc (.cells cur 3))) := hrun'
  clear hrun'
  go_enter Tryz.func35, Tryz.ntmps35
  go_wp2_with (at_builtin; go_must (refine wpList_zeros rfl _ _ rfl rfl rfl HRun.out ?_))
  go_ret
  exact ⟨_, c, rfl, HF.out.1, Nat.le_refl _, HF.out.2⟩

set_option linter.unusedSimpArgs false in
set_option maxRecDepth 100000 in
set_option maxHeartbeats 2000000 in
theorem concat_two {w : World} {p g1 k1 g2 k2 v1 v2 : Nat} (c1 : w.cell? ⟨p, 0, none⟩ = some (.slice (some ⟨g1, 0, none⟩) 1 k1)) (c2 : w.cell? ⟨p, 1, none⟩ = some (.slice (some ⟨g2, 0, none⟩) 1 k2)) (d1 : w.cell? ⟨g1, 0, none⟩ = some (.int .i64 (v1 : Int))) (d2 : w.cell? ⟨g2, 0, none⟩ = some (.int .i64 (v2 : Int))) :
    Calls Tryz.prog 23 #[.slice (some ⟨p, 0, none⟩) 2 2] w fun e w' => ∃ g c, e = .returned (.slice (some ⟨g, 0, none⟩) 2 c) ∧ w'.ownsRow 0 3 1 (.slice (some ⟨g, 0, none⟩) 2 c) 2 (flat enN [v1, v2]) ∧ w.heap.size ≤ g ∧ Below w.heap.size w w' := by
  have pl : p < w.heap.size := cell_lt c1
  have HS : Hid (∀ u, Below w.heap.size w u → u.cell? ⟨p, 0, none⟩ = some (.slice (some ⟨g1, 0, none⟩) 1 k1) ∧ u.cell? ⟨p, 1, none⟩ = some (.slice (some ⟨g2, 0, none⟩) 1 k2) ∧ (∀ j x, (enN v1)[j]? = some x → u.cell? ⟨g1, j, none⟩ = some x) ∧ (∀ j x, (enN v2)[j]? = some x → u.cell? ⟨g2, j, none⟩ = some x)) := fun u hu => by
    refine ⟨cell_below c1 hu, cell_below c2 hu, fun j x hx => ?_, fun j x hx => ?_⟩
    · obtain ⟨hj, e⟩ := List.getElem?_eq_some_iff.1 hx
      have : j = 0 := by simp [enN] at hj; omega
      subst this
      rw [← e]
      exact cell_below d1 hu
    · obtain ⟨hj, e⟩ := List.getElem?_eq_some_iff.1 hx
      have : j = 0 := by simp [enN] at hj; omega
      subst this
      rw [← e]
      exact cell_below d2 hu
  have HG : Hid (Calls Tryz.prog 35 #[.slice none 0 0, .int .i64 2] w fun e w' => ∃ g c, e = .returned (.slice (some ⟨g, 0, none⟩) 0 c) ∧ w'.ownsRow 0 3 1 (.slice (some ⟨g, 0, none⟩) 0 c) 0 (flat enN []) ∧ w.heap.size ≤ g ∧ Below w.heap.size w w') := grow_two w
  clear d1 d2
  go_enter Tryz.func23, Tryz.ntmps23
  go_wp2_with fail
  refine wp_loop_rounds 3 ?_
  rw [rounds_succ]
  go_wp2_with fail
  rw [rounds_succ]
  go_wp2_with fail
  rw [rounds_succ]
  go_wp2_with (go_at_call 35; go_must (refine HG.out.mono ?_; rintro e w1 ⟨g, c, rfl, r1, gn, b1⟩; have HR1 : Hid (w1.ownsRow 0 3 1 (.slice (some ⟨g, 0, none⟩) 0 c) 0 (flat enN []) ∧ w.heap.size ≤ g ∧ Below w.heap.size w w1) := ⟨r1, gn, b1⟩; obtain ⟨s1, s2, s3, s4⟩ := HS.out w1 b1; have HS3 : Hid (∀ j x, (enN v1)[j]? = some x → w1.cell? ⟨g1, j, none⟩ = some x) := s3; have pl1 : p < w1.heap.size := cell_lt s1; clear r1 gn b1 s3 s4))
  refine wp_loop_rounds 3 ?_
  rw [rounds_succ]
  go_wp2_with (at_builtin; go_must (refine wpList_append_src rfl _ _ 73 rfl 3 (.int .i64 0) 1 8 Tryz.underlying73 infoN rfl (by decide) (by decide) enN (fun _ => rfl) [] v1 (oneN v1) (some ⟨g, 0, none⟩) 0 c rfl HR1.out.1 (by omega) g1 k1 rfl HS3.out ?_; intro A2 m2 w3 K1 K2 K3))
  have HB3 : Hid (Below w.heap.size w w3) := turn_new HR1.out.2.2 HR1.out.2.1 (K2.out.mono fun i hi => by
    have : g = i := by simpa [Value.ownBlock] using hi
    exact this.symm)
  have HN3 : Hid (∀ i, (Value.slice A2 1 m2).ownBlock = some i → w.heap.size ≤ i) := fun i hi => by
    rcases K3.out i hi with e | e
    · have : g = i := by simpa [Value.ownBlock] using e
      rw [← this]; exact HR1.out.2.1
    · exact Nat.le_trans HR1.out.2.2.size e
  have HR3 : Hid (w3.ownsRow 0 3 1 (.slice A2 1 m2) 1 (flat enN [v1])) := K1.out
  obtain ⟨s5, s6, -, s7⟩ := HS.out w3 HB3.out
  have HS7 : Hid (∀ j x, (enN v2)[j]? = some x → w3.cell? ⟨g2, j, none⟩ = some x) := s7
  have pl3 : p < w3.heap.size := cell_lt s5
  clear s7 K1 K2 K3
  rw [rounds_succ]
  go_wp2_with (at_builtin; go_must (refine wpList_append_src rfl _ _ 73 rfl 3 (.int .i64 0) 1 8 Tryz.underlying73 infoN rfl (by decide) (by decide) enN (fun _ => rfl) [v1] v2 (oneN v2) A2 1 m2 rfl HR3.out (by omega) g2 k2 rfl HS7.out ?_; intro A4 m4 w4 K1 K2 K3))
  rw [rounds_succ]
  go_wp2_with fail
  go_ret
  have hr4 := K1.out
  obtain ⟨_, q | ⟨gg, cap, cur, e1, _, e3⟩⟩ := id hr4
  · exact absurd q.2 (by decide)
  · have e2 : A4 = some ⟨gg, 0, none⟩ := by injection e1
    subst e2
    have hn4 : w.heap.size ≤ gg := by
      rcases K3.out gg rfl with e | e
      · exact HN3.out gg e
      · exact Nat.le_trans HB3.out.size e
    refine ⟨gg, m4, rfl, hr4, hn4, ?_⟩
    have t := (Turn.ofBelow (fun i => w.heap.size ≤ i) HB3.out).trans (K2.out.mono fun i hi => HN3.out i hi)
    exact t.toBelow (Nat.le_refl _)

end Go.Proofs.YtfddmibaojfalaaGreat
