import Derived.Test.YtoknebbkpkcomaaTRow
import Derived.Test.YtoknebbkpkcomaaTFind
import Derived.Handy
import Derived.BigRegion
/- The program's add: one leaf more. -/
namespace Go.Proofs.Ytoknebbkpkcomaa
open Go.RowKit Go.Lib

section
variable {w w' : World} {t b m c g0 : Nat} {A B : List Lf} {made keys : Int} {n0 : Nd} {least : ByteArray}

abbrev newLf (q g0 : Nat) (n0 : Nd) (num : Int) (least : ByteArray) : Lf := ⟨q, g0, n0, num, least⟩

theorem qs_ins (l : Lf) : (qs (A ++ B)).insertIdx A.length l.q = qs (A ++ l :: B) := by
  have h : (qs A).length = A.length := by simp [qs]
  have e : qs (A ++ B) = qs A ++ qs B := by simp [qs]
  rw [e, ← h, insertIdx_eq _ _ _ (by simp)]
  simp [qs]

/-- the tree with one leaf more, by its parts -/
theorem TreeG.add (h : TreeG w t b m c (A ++ B) made keys) (hg : g0 ∉ foot t b m (A ++ B)) {C : Array Value} (hn : NodeG w g0 C n0) (hm0 : 0 ≤ made) (hl : (A ++ B).length < 5000)
    {b' c' q : Nat} {R' : Array Value} (hst : w'.heap[t]? = some (.cells #[.slice (some ⟨b', 0, none⟩) ((A ++ B).length + 1) c', .map (some m), .int .i64 (made + 1), .int .i64 keys] 63 (0, 0)))
    (hrow : PtrRow w' b' c' ((qs (A ++ B)).insertIdx A.length q) R') (hmap : LMap w' m (made.toNat + 1) ((made + 1, q) :: ents (A ++ B))) (hq : w'.heap[q]? = some (leafC (newLf q g0 n0 (made + 1) least)))
    (hq0 : w.heap.size ≤ q) (hb' : b' = b ∨ w.heap.size ≤ b') (hqb : q ≠ b') (ht : Turn (fun i => i = t ∨ i = b ∨ i = m) w w') : TreeG w' t b' m c' (A ++ newLf q g0 n0 (made + 1) least :: B) (made + 1) keys := by
  have hN := h.apart
  have hglt := lt_of hn.st
  have hlt := fun i hi => h.lt (i := i) hi
  have hkeep : ∀ i, i ∈ qs (A ++ B) ++ gs (A ++ B) → w'.heap[i]? = w.heap[i]? := fun i hi => by
    have hf : i ∈ foot t b m (A ++ B) := by unfold foot; simp only [List.mem_cons]; exact Or.inr (Or.inr (Or.inr hi))
    unfold foot at hN
    simp only [List.nodup_cons, List.mem_cons, not_or] at hN
    refine ht.block i (hlt i hf) ?_
    rintro (e | e | e)
    · exact hN.1.2.2 (e ▸ hi)
    · exact hN.2.1.2 (e ▸ hi)
    · exact hN.2.2.1 (e ▸ hi)
  have hmem : ∀ x, x ∈ A ++ newLf q g0 n0 (made + 1) least :: B → x = newLf q g0 n0 (made + 1) least ∨ x ∈ A ++ B := fun x hx => by
    rcases List.mem_append.1 hx with hx | hx
    · exact Or.inr (by simp [hx])
    · rcases List.mem_cons.1 hx with hx | hx
      · exact Or.inl hx
      · exact Or.inr (by simp [hx])
  refine ⟨?_, ⟨R', ?_⟩, ?_, fun x hx => ?_, fun x hx => ?_, ?_, ?_⟩
  · rw [hst]
    simp only [List.length_append, List.length_cons]
    rw [show A.length + B.length + 1 = A.length + (B.length + 1) by omega]
  · rw [← qs_ins]
    exact hrow
  · rw [show (made + 1).toNat = made.toNat + 1 by omega]
    refine hmap.ext fun p => ?_
    simp [ents]
    constructor
    · rintro (h | h | h)
      · exact Or.inr (Or.inl h)
      · exact Or.inl h
      · exact Or.inr (Or.inr h)
    · rintro (h | h | h)
      · exact Or.inr (Or.inl h)
      · exact Or.inl h
      · exact Or.inr (Or.inr h)
  · rcases hmem x hx with rfl | hx
    · exact hq
    · exact (hkeep _ (by simp [mem_qs hx])).trans (h.leaf x hx)
  · rcases hmem x hx with rfl | hx
    · refine ⟨C, hn.kept (ht.block g0 hglt ?_)⟩
      rintro (e | e | e) <;> exact hg (by rw [e]; simp [foot])
    · obtain ⟨C', hC'⟩ := h.node x hx
      exact ⟨C', hC'.kept (hkeep _ (by simp [mem_gs hx]))⟩
  · -- all apart
    have hp : (foot t b' m (A ++ newLf q g0 n0 (made + 1) least :: B)).Perm (b' :: q :: g0 :: t :: m :: (qs (A ++ B) ++ gs (A ++ B))) := by
      unfold foot
      have e1 : qs (A ++ newLf q g0 n0 (made + 1) least :: B) = qs A ++ q :: qs B := by simp [qs]
      have e2 : gs (A ++ newLf q g0 n0 (made + 1) least :: B) = gs A ++ g0 :: gs B := by simp [gs]
      have e3 : qs (A ++ B) = qs A ++ qs B := by simp [qs]
      have e4 : gs (A ++ B) = gs A ++ gs B := by simp [gs]
      rw [e1, e2, e3, e4]
      have p1 : (qs A ++ q :: qs B).Perm (q :: (qs A ++ qs B)) := List.perm_middle
      have p2 : (gs A ++ g0 :: gs B).Perm (g0 :: (gs A ++ gs B)) := List.perm_middle
      have p3 : ((qs A ++ q :: qs B) ++ (gs A ++ g0 :: gs B)).Perm (q :: g0 :: ((qs A ++ qs B) ++ (gs A ++ gs B))) :=
        (List.Perm.append p1 p2).trans (by
          rw [List.cons_append]
          exact List.Perm.cons _ List.perm_middle)
      refine ((((p3.cons m).cons b').cons t)).trans ?_
      refine (List.Perm.swap b' t _).trans (List.Perm.cons _ ?_)
      refine ((List.Perm.cons t (List.Perm.swap q m _)).trans (List.Perm.swap q t _)).trans (List.Perm.cons _ ?_)
      exact (List.Perm.cons t (List.Perm.swap g0 m _)).trans (List.Perm.swap g0 t _)
    rw [hp.nodup_iff]
    have hN2 := hN
    unfold foot at hN2
    simp only [List.nodup_cons, List.mem_cons, not_or] at hN2 ⊢
    have hgs : ∀ i, i ∈ qs (A ++ B) ++ gs (A ++ B) → i < w.heap.size := fun i hi => hlt i (by unfold foot; simp only [List.mem_cons]; exact Or.inr (Or.inr (Or.inr hi)))
    have ltt : t < w.heap.size := hlt t (by simp [foot])
    have ltm : m < w.heap.size := hlt m (by simp [foot])
    have ltb : b < w.heap.size := hlt b (by simp [foot])
    have hg' : g0 ≠ t ∧ g0 ≠ b ∧ g0 ≠ m ∧ g0 ∉ qs (A ++ B) ++ gs (A ++ B) := by
      unfold foot at hg
      simp only [List.mem_cons, not_or] at hg
      exact hg
    refine ⟨⟨fun e => hqb e.symm, ?_, ?_, ?_, ?_⟩, ⟨by omega, by omega, by omega, fun hi => ?_⟩, ⟨hg'.1, hg'.2.2.1, hg'.2.2.2⟩, ⟨hN2.1.2.1, hN2.1.2.2⟩, hN2.2.2⟩
    · rcases hb' with e | e
      · rw [e]; exact fun q => hg'.2.1 q.symm
      · omega
    · rcases hb' with e | e
      · rw [e]; exact fun q => hN2.1.1 q.symm
      · omega
    · rcases hb' with e | e
      · rw [e]; exact hN2.2.1.1
      · omega
    · rcases hb' with e | e
      · rw [e]; exact hN2.2.1.2
      · intro hi; have := hgs _ hi; omega
    · have := hgs _ hi; omega
  · simp at hl ⊢
    omega
end

end Go.Proofs.Ytoknebbkpkcomaa

/- The program's add, walked. -/
namespace Go.Proofs.Ytoknebbkpkcomaa
open Go.RowKit Go.Lib

section
variable {w : World} {t b m c g0 : Nat} {A B : List Lf} {made keys : Int} {n0 : Nd} {least : ByteArray}

/-- what add makes of a tree -/
def Added (w : World) (t b m g0 : Nat) (A B : List Lf) (made keys : Int) (n0 : Nd) (least : ByteArray) (w' : World) : Prop :=
  ∃ b' c' q, TreeG w' t b' m c' (A ++ newLf q g0 n0 (made + 1) least :: B) (made + 1) keys ∧ Turn (fun i => i = t ∨ i = b ∨ i = m) w w' ∧ w.heap.size ≤ q ∧ (b' = b ∨ w.heap.size ≤ b')

set_option maxRecDepth 100000 in
set_option maxHeartbeats 1000000 in
theorem tadd_any (h : TreeG w t b m c (A ++ B) made keys) (hg : g0 ∉ foot t b m (A ++ B)) {C : Array Value} (hn : NodeG w g0 C n0) (hm0 : 0 ≤ made ∧ made < 900000) (hl : (A ++ B).length < 5000) (hfr : ∀ l ∈ A ++ B, l.num ≤ made) {x : Int} (hx : x = A.length) :
    Calls Try.prog 23 #[.pointer (some ⟨t, 0, none⟩), .int .i64 x, .pointer (some ⟨g0, 0, none⟩), .string least] w fun e w' => e = .returned (.tuple #[]) ∧ Added w t b m g0 A B made keys n0 least w' := by
  obtain ⟨R, hR⟩ := h.row
  have hN := h.apart
  unfold foot at hN
  simp only [List.nodup_cons, List.mem_cons, not_or] at hN
  have htb : t ≠ b := hN.1.1
  have htm : t ≠ m := hN.1.2.1
  have hbm : b ≠ m := hN.2.1.1
  have ltt := h.lt (i := t) (by simp [foot])
  have ltb := h.lt (i := b) (by simp [foot])
  have ltm := h.lt (i := m) (by simp [foot])
  obtain ⟨c0, c1, c2, -, fz⟩ := h.cells
  have f2 := fz 2
  have f0 := fz 0
  obtain ⟨q, hq⟩ : ∃ q, w.heap.size = q := ⟨_, rfl⟩
  -- the worlds
  obtain ⟨W3, hW3⟩ : ∃ W3, W3 = ((w.setCell ⟨t, 2, none⟩ (.int .i64 (made + 1))).alloc (.cells #[.pointer (some ⟨g0, 0, none⟩), .int .i64 (made + 1), .string least] 81)).alloc (.cells #[.pointer (some ⟨q, 0, none⟩)] 71) := ⟨_, rfl⟩
  have hS3 : W3.heap.size = q + 2 := by rw [hW3]; simp [hq]
  have hold : ∀ i, i < q → i ≠ t → W3.heap[i]? = w.heap[i]? := fun i hi hne => by
    rw [hW3, Below.heap_alloc _ _ i (by simp; omega), Below.heap_alloc _ _ i (by simp; omega), Below.heap_setCell w _ _ i hne]
  have h3t : W3.heap[t]? = some (.cells #[.slice (some ⟨b, 0, none⟩) (A ++ B).length c, .map (some m), .int .i64 (made + 1), .int .i64 keys] 63 (0, 0)) := by
    rw [hW3, Below.heap_alloc _ _ t (by simp; omega), Below.heap_alloc _ _ t (by simp; omega), heap_setCell_same h.st]
    rfl
  have h3q : W3.heap[q]? = some (leafC (newLf q g0 n0 (made + 1) least)) := by
    rw [hW3, Below.heap_alloc _ _ q (by simp [hq])]
    have := heap_new (w.setCell ⟨t, 2, none⟩ (.int .i64 (made + 1))) (.cells #[.pointer (some ⟨g0, 0, none⟩), .int .i64 (made + 1), .string least] 81)
    rw [World.size_setCell, hq] at this
    exact this
  have h3v : W3.heap[q + 1]? = some (.cells #[pv q] 71 (0, 0)) := by
    have := heap_new ((w.setCell ⟨t, 2, none⟩ (.int .i64 (made + 1))).alloc (.cells #[.pointer (some ⟨g0, 0, none⟩), .int .i64 (made + 1), .string least] 81)) (.cells #[.pointer (some ⟨q, 0, none⟩)] 71)
    rw [World.size_alloc, World.size_setCell, hq] at this
    rw [hW3]
    exact this
  have hR3 : PtrRow W3 b c (qs (A ++ B)) R := hR.heap (hold b (by omega) (fun e => htb e.symm))
  have hM3 : LMap W3 m made.toNat (ents (A ++ B)) := h.map.heap (hold m (by omega) (fun e => htm e.symm))
  have hql : (qs (A ++ B)).length = (A ++ B).length := by simp [qs]
  have HI : Hid (Calls Try.prog 40 #[.slice (some ⟨b, 0, none⟩) (A ++ B).length c, .int .i64 x, .slice (some ⟨q + 1, 0, none⟩) 1 1] W3 fun e w' => ∃ b' c', e = .returned (.slice (some ⟨b', 0, none⟩) ((A ++ B).length + 1) c') ∧ Hid ((∃ R', PtrRow w' b' c' ((qs (A ++ B)).insertIdx A.length q) R') ∧ (b' = b ∨ b' = W3.heap.size) ∧ Turn (fun i => i = b) W3 w')) := by
    have := tinsert_any hR3 (i := A.length) (q := q) (vb := q + 1) (by rw [hql]; omega) (by rw [hql]; simp) (by omega) h3v
    rw [hql, ← hx] at this
    exact this
  have HZ : Hid (∀ b' c' (w4 : World), Hid ((∃ R', PtrRow w4 b' c' ((qs (A ++ B)).insertIdx A.length q) R') ∧ (b' = b ∨ b' = W3.heap.size) ∧ Turn (fun i => i = b) W3 w4) →
      w4.frozen? ⟨t, 0, none⟩ = false ∧ w4.cell? ⟨t, 0, none⟩ = some (.slice (some ⟨b, 0, none⟩) (A ++ B).length c) ∧ ∀ V : World, V = (w4.setCell ⟨t, 0, none⟩ (.slice (some ⟨b', 0, none⟩) ((A ++ B).length + 1) c')).drew → V.cell? ⟨t, 1, none⟩ = some (.map (some m)) ∧ V.cell? ⟨q, 1, none⟩ = some (.int .i64 (made + 1)) ∧ ∃ u, (Instr.mapUpdate 60 (.map (some m)) (.int .i64 (made + 1)) (.pointer (some ⟨q, 0, none⟩))).run Try.prog V = .ok () u ∧ Added w t b m g0 A B made keys n0 least u) := by
    intro b' c' w4 hh
    obtain ⟨⟨R', hR'⟩, hb', ht4⟩ := hh.out
    have e4t : w4.heap[t]? = some (.cells #[.slice (some ⟨b, 0, none⟩) (A ++ B).length c, .map (some m), .int .i64 (made + 1), .int .i64 keys] 63 (0, 0)) := (ht4.block t (by omega) htb).trans h3t
    refine ⟨frozen_of e4t _, by rw [cell_of e4t]; rfl, fun V hV => ?_⟩
    have e5 : ∀ i, i ≠ t → V.heap[i]? = w4.heap[i]? := fun i hi => by rw [hV]; exact Below.heap_setCell w4 ⟨t, 0, none⟩ _ i hi
    have e5t : V.heap[t]? = some (.cells #[.slice (some ⟨b', 0, none⟩) ((A ++ B).length + 1) c', .map (some m), .int .i64 (made + 1), .int .i64 keys] 63 (0, 0)) := by
      rw [hV]
      exact heap_setCell_same e4t _ _
    have e5q : V.heap[q]? = some (leafC (newLf q g0 n0 (made + 1) least)) := by rw [e5 q (by omega), ht4.block q (by omega) (by omega)]; exact h3q
    have hM5 : LMap V m made.toNat (ents (A ++ B)) := hM3.heap (by rw [e5 m (fun e => htm e.symm), ht4.block m (by omega) (fun e => hbm e.symm)])
    have hV4 : V.heap.size = w4.heap.size := by rw [hV]; simp
    refine ⟨by rw [cell_of e5t]; rfl, by rw [cell_of e5q]; rfl, ?_⟩
    obtain ⟨u, hu, hMu, htu⟩ := hM5.put (by omega) (x := made + 1) (by omega) (fun r hr => by
      obtain ⟨l, hl', e⟩ := List.mem_map.1 hr
      have := hfr l hl'
      have e2 : l.num = made + 1 := congrArg (·.1) e
      omega) q
    have hut : u.heap[t]? = _ := (htu.block t (by rw [hV4]; have := ht4.size; omega) htm).trans e5t
    have hb'm : b' ≠ m := by rcases hb' with e | e <;> omega
    have hb't : b' ≠ t := by rcases hb' with e | e <;> omega
    refine ⟨u, hu, b', c', q, h.add hg hn hm0.1 hl hut (hR'.heap ?_) hMu ((htu.block q (by rw [hV4]; have := ht4.size; omega) (by omega)).trans e5q) (by omega) (by rcases hb' with e | e; exact Or.inl e; right; omega) (by rcases hb' with e | e <;> omega) ?_, ?_, by omega, by rcases hb' with e | e; exact Or.inl e; right; omega⟩
    · rw [htu.block b' (by rw [hV4]; exact lt_of hR'.st) hb'm, e5 b' hb't]
    all_goals
      refine ⟨htu.os.trans ?_, htu.tape.trans ?_, htu.output.trans ?_, ?_, fun i hi hS => ?_⟩
      · rw [hV]; exact ht4.os.trans (by rw [hW3]; rfl)
      · rw [hV]; exact ht4.tape.trans (by rw [hW3]; rfl)
      · rw [hV]; exact ht4.output.trans (by rw [hW3]; rfl)
      · have := htu.size; have := ht4.size; omega
      · simp only [not_or] at hS
        rw [htu.block i (by rw [hV4]; have := ht4.size; omega) hS.2.2, e5 i hS.1, ht4.block i (by omega) hS.2.1, hold i (by omega) hS.1]
  obtain ⟨N, hNN⟩ : ∃ N, (A ++ B).length = N := ⟨_, rfl⟩
  rw [hNN] at HI HZ c0
  obtain ⟨m0, m1⟩ := hm0
  have hWW : ((w.setCell ⟨t, 2, none⟩ (.int .i64 (made + 1))).alloc (.cells #[.pointer (some ⟨g0, 0, none⟩), .int .i64 (made + 1), .string least] 81)).alloc (.cells #[.pointer (some ⟨q, 0, none⟩)] 71) = W3 := hW3.symm
  have HQ : Hid (q = w.heap.size) := hq.symm
  subst hq
  rw [← hWW] at HI HZ
  clear h hg hn hR hR3 hM3 hold h3t h3q h3v hW3 hS3 hN hql hfr hl hNN hWW htm hbm hx
  go_enter Try.func23, Try.ntmps23
  go_wp2_with (go_at_call 40; go_must (refine HI.out.mono ?_; rintro e w4 ⟨b', c', rfl, h4⟩; obtain ⟨z1, z2, z3⟩ := HZ.out b' c' w4 h4; obtain ⟨z4, z5, u, z6, z7⟩ := z3 _ rfl; have HU : Hid (Added w t b m g0 A B made keys n0 least u) := z7; clear z7 z3 h4))
  go_region
  all_goals go_wp2
  all_goals go_returns
  all_goals exact ⟨rfl, HU.out⟩
end

end Go.Proofs.Ytoknebbkpkcomaa
