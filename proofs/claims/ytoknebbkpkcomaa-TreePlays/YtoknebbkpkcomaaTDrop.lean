/- The program's drop: a leaf without keys is taken out. -/
import Derived.Test.YtoknebbkpkcomaaTSplit
namespace Go.Proofs.Ytoknebbkpkcomaa
open Go.RowKit Go.Lib

theorem step_del {ops : Array Oper} {o : Oper} {a : Act} {w : World} {K : Act → World → Prop} {Q : Exit → Act → World → Prop} {E : Prop}
    (hg : o.guard = none) (mm xx : Operand) (hop : o.op = Op.call { callee := Callee.builtin Builtin.delete, args := #[mm, xx], argTypes := #[60, 3] })
    (v u : Value) (hm : a.eval mm = v) (hx : a.eval xx = u) {w' : World} (hr : (Builtin.delete_ #[60, 3] o.type #[v, u]).run Try.prog w = .ok (.tuple #[]) w') (hK : K (a.put o.dst (.tuple #[])) w') :
    if Region.wanted o (yielded ops a.tmps) = true then Oper.wp Try.prog o a w K Q else E := by
  have hw : Region.wanted o (yielded ops a.tmps) = true := by simp [Region.wanted, hg]
  rw [if_pos hw]
  unfold Oper.wp
  simp [execOp, hop, resolve, invoke, builtin, hm, hx, hr, Result.andThen]
  exact hK

section
variable {w w' : World} {t b m c : Nat} {A B : List Lf} {l : Lf} {made keys : Int}

theorem qs_fixh (ls : List Lf) : qs (fixh ls) = qs ls := by cases ls <;> simp [fixh, qs]
theorem gs_fixh (ls : List Lf) : gs (fixh ls) = gs ls := by cases ls <;> simp [fixh, gs]
theorem ents_fixh (ls : List Lf) : ents (fixh ls) = ents ls := by cases ls <;> simp [fixh, ents]
theorem foot_fixh (ls : List Lf) : foot t b m (fixh ls) = foot t b m ls := by unfold foot; rw [qs_fixh, gs_fixh]
theorem length_fixh (ls : List Lf) : (fixh ls).length = ls.length := by cases ls <;> rfl
theorem foot_sub : (foot t b m (A ++ B)).Sublist (foot t b m (A ++ l :: B)) := by
  unfold foot
  have hs : (A ++ B).Sublist (A ++ l :: B) := List.Sublist.append (List.Sublist.refl _) (List.sublist_cons_self _ _)
  exact ((((hs.map (·.q)).append (hs.map (·.g))).cons_cons m).cons_cons b).cons_cons t

/-- the tree with one leaf less, by its parts -/
theorem TreeG.drop (h : TreeG w t b m c (A ++ l :: B) made keys) {h0 : Lf} {r : List Lf} (he : A ++ B = h0 :: r)
    {R' : Array Value} (hst : w'.heap[t]? = some (.cells #[.slice (some ⟨b, 0, none⟩) (A ++ B).length c, .map (some m), .int .i64 made, .int .i64 keys] 63 (0, 0)))
    (hrow : PtrRow w' b c (qs (A ++ B)) R') (hmap : LMap w' m made.toNat (ents (A ++ B))) (hq : w'.heap[h0.q]? = some (leafC { h0 with least := ⟨#[]⟩ }))
    (ht : Turn (fun i => i = t ∨ i = b ∨ i = m ∨ i = h0.q) w w') : TreeG w' t b m c (fixh (A ++ B)) made keys := by
  have hsub : ∀ x, x ∈ A ++ B → x ∈ A ++ l :: B := fun x hx => by rcases List.mem_append.1 hx with hx | hx <;> simp [hx]
  have hnd := h.apart.sublist foot_sub
  have hN := hnd
  unfold foot at hN
  simp only [List.nodup_cons, List.mem_cons, not_or] at hN
  have hh0 : h0 ∈ A ++ B := by rw [he]; exact List.mem_cons_self ..
  have hqg := hN.2.2.2
  rw [List.nodup_append] at hqg
  have hkg : ∀ x ∈ A ++ B, w'.heap[x.g]? = w.heap[x.g]? := fun x hx => by
    have hxg : x.g ∈ qs (A ++ B) ++ gs (A ++ B) := by simp [mem_gs hx]
    refine ht.block _ (h.lt (foot_g (hsub x hx))) ?_
    rintro (e | e | e | e)
    · exact hN.1.2.2 (e ▸ hxg)
    · exact hN.2.1.2 (e ▸ hxg)
    · exact hN.2.2.1 (e ▸ hxg)
    · exact hqg.2.2 _ (mem_qs hh0) _ (mem_gs hx) e.symm
  have hkq : ∀ x ∈ r, w'.heap[x.q]? = w.heap[x.q]? := fun x hx => by
    have hx' : x ∈ A ++ B := by rw [he]; exact List.mem_cons_of_mem _ hx
    have hxq : x.q ∈ qs (A ++ B) ++ gs (A ++ B) := by simp [mem_qs hx']
    refine ht.block _ (h.lt (foot_q (hsub x hx'))) ?_
    rintro (e | e | e | e)
    · exact hN.1.2.2 (e ▸ hxq)
    · exact hN.2.1.2 (e ▸ hxq)
    · exact hN.2.2.1 (e ▸ hxq)
    · have := hqg.1
      rw [he] at this
      unfold qs at this
      rw [List.map_cons, List.nodup_cons] at this
      exact this.1 (e ▸ mem_qs hx)
  have hfe : fixh (A ++ B) = { h0 with least := ⟨#[]⟩ } :: r := by rw [he]; rfl
  refine ⟨by rw [length_fixh]; exact hst, ⟨R', by rw [qs_fixh]; exact hrow⟩, by rw [ents_fixh]; exact hmap, fun x hx => ?_, fun x hx => ?_, by rw [foot_fixh]; exact hnd, ?_⟩
  · rw [hfe] at hx
    rcases List.mem_cons.1 hx with rfl | hx
    · exact hq
    · exact (hkq x hx).trans (h.leaf x (hsub x (by rw [he]; exact List.mem_cons_of_mem _ hx)))
  · rw [hfe] at hx
    rcases List.mem_cons.1 hx with rfl | hx
    · obtain ⟨C, hC⟩ := h.node h0 (hsub h0 hh0)
      exact ⟨C, hC.kept (hkg h0 hh0)⟩
    · have hx' : x ∈ A ++ B := by rw [he]; exact List.mem_cons_of_mem _ hx
      obtain ⟨C, hC⟩ := h.node x (hsub x hx')
      exact ⟨C, hC.kept (hkg x hx')⟩
  · rw [length_fixh]
    have := h.small
    simp at this ⊢
    omega

theorem qs_era : (qs (A ++ l :: B)).eraseIdx A.length = qs (A ++ B) := by
  have e : qs (A ++ l :: B) = qs A ++ l.q :: qs B := by simp [qs]
  have hl : (qs A).length = A.length := by simp [qs]
  rw [e, List.eraseIdx_append_of_length_le (by omega), hl, Nat.sub_self]
  simp [qs]

set_option maxRecDepth 100000 in
set_option maxHeartbeats 1000000 in
theorem tdrop_any (h : TreeG w t b m c (A ++ l :: B) made keys) (hnums : (A ++ l :: B).Pairwise (fun a b => a.num ≠ b.num)) (hnum : 1 ≤ l.num ∧ l.num ≤ made) (hm0 : 0 ≤ made ∧ made < 900000) {h0 : Lf} {r : List Lf} (he : A ++ B = h0 :: r) {x : Int} (hx : x = A.length) :
    Calls Try.prog 39 #[.pointer (some ⟨t, 0, none⟩), .int .i64 x] w fun e w' => e = .returned (.tuple #[]) ∧ Hid (TreeG w' t b m c (fixh (A ++ B)) made keys ∧ Turn (fun i => i = t ∨ i = b ∨ i = m ∨ i = h0.q) w w') := by
  have hl' : l ∈ A ++ l :: B := by simp
  have hsub : ∀ x, x ∈ A ++ B → x ∈ A ++ l :: B := fun x hx => by rcases List.mem_append.1 hx with hx | hx <;> simp [hx]
  obtain ⟨R, hR⟩ := h.row
  have hN := h.apart
  unfold foot at hN
  simp only [List.nodup_cons, List.mem_cons, not_or] at hN
  have htb : t ≠ b := hN.1.1
  have htm : t ≠ m := hN.1.2.1
  have hbm : b ≠ m := hN.2.1.1
  have ltt := h.lt (i := t) (by simp [foot])
  have ltb := h.lt (i := b) (by simp [foot])
  have ltm := h.lt (i := m) (by simp [foot])
  have hh0 : h0 ∈ A ++ l :: B := hsub h0 (by rw [he]; exact List.mem_cons_self ..)
  have lt0 := h.lt (i := h0.q) (foot_q hh0)
  have hq0 : h0.q ∈ qs (A ++ l :: B) ++ gs (A ++ l :: B) := by simp [mem_qs hh0]
  have h0t : h0.q ≠ t := fun e => hN.1.2.2 (e ▸ hq0)
  have h0b : h0.q ≠ b := fun e => hN.2.1.2 (e ▸ hq0)
  have h0m : h0.q ≠ m := fun e => hN.2.2.1 (e ▸ hq0)
  obtain ⟨c0, c1, -, -, fz⟩ := h.cells
  have hr := h.rowCell (j := A.length) (l := l) (by simp)
  obtain ⟨-, l1, -, -⟩ := h.leafCells (l := l) hl'
  have hbg := h.big
  -- the number is struck
  obtain ⟨u1, hu1, hM1, ht1⟩ := LMap.del (u := w.drew) (m := m) (n := made.toNat) (M := ents (A ++ l :: B)) (M' := ents (A ++ B)) (x := l.num) h.map (by omega) (fun p => by
    have hnn := hnums
    rw [List.pairwise_append, List.pairwise_cons] at hnn
    constructor
    · intro hp
      obtain ⟨y, hy, rfl⟩ := List.mem_map.1 hp
      refine ⟨List.mem_map.2 ⟨y, hsub y hy, rfl⟩, ?_⟩
      rcases List.mem_append.1 hy with hy | hy
      · exact hnn.2.2 y hy l (List.mem_cons_self ..)
      · exact (hnn.2.1.1 y hy).symm
    · rintro ⟨hp, hne⟩
      obtain ⟨y, hy, rfl⟩ := List.mem_map.1 hp
      refine List.mem_map.2 ⟨y, ?_, rfl⟩
      rcases List.mem_append.1 hy with hy | hy
      · simp [hy]
      · rcases List.mem_cons.1 hy with rfl | hy
        · exact absurd rfl hne
        · simp [hy]) 0
  have e1 : ∀ i, i < w.heap.size → i ≠ m → u1.heap[i]? = w.heap[i]? := fun i hi hne => ht1.block i hi hne
  have e1t := (e1 t ltt htm).trans h.st
  have hR1 : PtrRow u1 b c (qs (A ++ l :: B)) R := hR.heap (e1 b ltb hbm)
  have hql : (qs (A ++ l :: B)).length = (A ++ l :: B).length := by simp [qs]
  have hAl : A.length < (A ++ l :: B).length := by simp
  have hlen : (A ++ l :: B).length - 1 = (A ++ B).length := by simp
  have HD : Hid (∀ y : Int, y = (A.length : Int) + 1 → Calls Try.prog 56 #[.slice (some ⟨b, 0, none⟩) (A ++ l :: B).length c, .int .i64 (A.length : Int), .int .i64 y] u1 fun e w' => e = .returned (.slice (some ⟨b, 0, none⟩) (A ++ B).length c) ∧ Hid ((∃ R', PtrRow w' b c (qs (A ++ B)) R') ∧ Turn (fun i => i = b) u1 w')) := fun y hy => by
    have := tdelete_any hR1 (i := A.length) (by rw [hql]; exact hAl) hy
    rw [hql, hlen, qs_era] at this
    exact this
  have q0 : u1.cell? ⟨t, 0, none⟩ = some (.slice (some ⟨b, 0, none⟩) (A ++ l :: B).length c) := by rw [cell_of e1t]; rfl
  have HZ : Hid (∀ w2 : World, Hid ((∃ R', PtrRow w2 b c (qs (A ++ B)) R') ∧ Turn (fun i => i = b) u1 w2) → w2.frozen? ⟨t, 0, none⟩ = false ∧ w2.cell? ⟨t, 0, none⟩ = some (.slice (some ⟨b, 0, none⟩) (A ++ l :: B).length c) ∧ w2.cell? ⟨b, 0, none⟩ = some (.pointer (some ⟨h0.q, 0, none⟩)) ∧ w2.cell? ⟨h0.q, 2, none⟩ = some (.string h0.least) ∧ w2.frozen? ⟨h0.q, 2, none⟩ = false ∧
      Hid (TreeG ((w2.setCell ⟨t, 0, none⟩ (.slice (some ⟨b, 0, none⟩) (A ++ B).length c)).setCell ⟨h0.q, 2, none⟩ (.string ⟨#[]⟩)) t b m c (fixh (A ++ B)) made keys ∧ Turn (fun i => i = t ∨ i = b ∨ i = m ∨ i = h0.q) w ((w2.setCell ⟨t, 0, none⟩ (.slice (some ⟨b, 0, none⟩) (A ++ B).length c)).setCell ⟨h0.q, 2, none⟩ (.string ⟨#[]⟩)))) := by
    intro w2 hh
    obtain ⟨⟨R2, hR2⟩, ht2⟩ := hh.out
    have hs1 := ht1.size
    have hs1' : w.heap.size ≤ u1.heap.size := hs1
    have e2t := (ht2.block t (by omega) htb).trans e1t
    have e2q : w2.heap[h0.q]? = some (leafC h0) := (ht2.block h0.q (by omega) h0b).trans ((e1 h0.q lt0 h0m).trans (h.leaf h0 hh0))
    have hT : Turn (fun i => i = t ∨ i = b ∨ i = m ∨ i = h0.q) w ((w2.setCell ⟨t, 0, none⟩ (.slice (some ⟨b, 0, none⟩) (A ++ B).length c)).setCell ⟨h0.q, 2, none⟩ (.string ⟨#[]⟩)) := by
      have t1 : Turn (fun i => i = t ∨ i = b ∨ i = m ∨ i = h0.q) w u1 := by
        have := ht1.mono (S' := fun i => i = t ∨ i = b ∨ i = m ∨ i = h0.q) (fun i hi => Or.inr (Or.inr (Or.inl hi)))
        exact ⟨this.os, this.tape, this.output, this.size, this.block⟩
      exact ((t1.trans (ht2.mono (fun i hi => Or.inr (Or.inl hi)))).trans (Turn.setCell _ ⟨t, 0, none⟩ _ (Or.inl rfl))).trans (Turn.setCell _ ⟨h0.q, 2, none⟩ _ (Or.inr (Or.inr (Or.inr rfl))))
    refine ⟨frozen_of e2t _, by rw [cell_of e2t]; rfl, ?_, by rw [cell_of e2q]; rfl, frozen_of e2q _, ?_, hT⟩
    · rw [cell_of hR2.st]
      exact hR2.at_ 0 h0.q (by rw [he]; rfl)
    · refine h.drop he (R' := R2) ?_ (hR2.heap ?_) (hM1.heap ?_) ?_ hT
      · rw [Below.heap_setCell _ ⟨h0.q, 2, none⟩ _ t (fun e => h0t e.symm), heap_setCell_same e2t]
        rfl
      · rw [Below.heap_setCell _ ⟨h0.q, 2, none⟩ _ b (fun e => h0b e.symm), Below.heap_setCell _ ⟨t, 0, none⟩ _ b (fun e => htb e.symm)]
      · rw [Below.heap_setCell _ ⟨h0.q, 2, none⟩ _ m (fun e => h0m e.symm), Below.heap_setCell _ ⟨t, 0, none⟩ _ m (fun e => htm e.symm), ht2.block m (by omega) (fun e => hbm e.symm)]
      · have e3 : (w2.setCell ⟨t, 0, none⟩ (.slice (some ⟨b, 0, none⟩) (A ++ B).length c)).heap[h0.q]? = some (leafC h0) := by rw [Below.heap_setCell _ ⟨t, 0, none⟩ _ h0.q h0t]; exact e2q
        rw [heap_setCell_same e3]
        rfl
  have hlB : 0 < (A ++ B).length := by rw [he]; simp
  obtain ⟨N, hNN⟩ : ∃ N, (A ++ l :: B).length = N := ⟨_, rfl⟩
  obtain ⟨M, hMM⟩ : ∃ M, (A ++ B).length = M := ⟨_, rfl⟩
  obtain ⟨a, ha⟩ : ∃ a, A.length = a := ⟨_, rfl⟩
  obtain ⟨lq, hlq⟩ : ∃ lq, l.q = lq := ⟨_, rfl⟩
  obtain ⟨x1, hx1⟩ : ∃ x1, l.num = x1 := ⟨_, rfl⟩
  obtain ⟨hq, hhq⟩ : ∃ hq, h0.q = hq := ⟨_, rfl⟩
  rw [hNN] at c0 hbg HD HZ q0 hAl
  rw [hMM] at HD HZ hlB
  rw [ha] at hr hx HD hAl
  rw [hlq] at hr l1
  rw [hx1] at l1 hu1
  rw [hhq] at HZ h0t h0b ⊢
  obtain ⟨g1, g2, g3⟩ := hbg
  subst hx
  have w1 : IntKind.i64.wrap ((a : Int) + 1) = (a : Int) + 1 := by rw [IntKind.wrap_i64]; omega
  have hth : ¬ t = hq := fun e => h0t e.symm
  have hbt : ¬ b = t := fun e => htb e.symm
  clear h hnums hm0 he hl' hsub hR hN htm hbm ltt ltb ltm hh0 lt0 hq0 h0m hnum fz hM1 ht1 e1 e1t hR1 hql hlen hNN hMM ha hlq hx1 hhq
  go_enter Try.func39, Try.ntmps39
  go_wp2_with fail
  go_region_law (refine step_del (by rfl) _ _ (by rfl) _ _ (by rfl) (by rfl) hu1 ?_)
  all_goals go_wp2_with (go_at_call 56; go_must (refine (HD.out _ rfl).mono ?_; rintro e w2 ⟨rfl, h2⟩; obtain ⟨z1, z2, z3, z4, z5, z6⟩ := HZ.out w2 h2; clear h2))
  all_goals go_returns
  all_goals exact ⟨rfl, z6⟩
end

end Go.Proofs.Ytoknebbkpkcomaa
