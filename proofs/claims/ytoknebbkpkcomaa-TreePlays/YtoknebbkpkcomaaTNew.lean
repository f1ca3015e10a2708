/- The program's New. -/
import Derived.Test.YtoknebbkpkcomaaTAddJ
namespace Go.Proofs.Ytoknebbkpkcomaa
open Go.RowKit Go.Lib

section
variable {w : World} {t m g0 : Nat} {n0 : Nd}

abbrev treeO (v : Value) (m : Nat) (made keys : Int) : Obj := .cells #[v, .map (some m), .int .i64 made, .int .i64 keys] 63 (0, 0)

def First (w : World) (t m g0 : Nat) (n0 : Nd) (w' : World) : Prop :=
  ∃ b c q, TreeG w' t b m c [newLf q g0 n0 1 ⟨#[]⟩] 1 0 ∧ Turn (fun i => i = t ∨ i = m) w w' ∧ w.heap.size ≤ q ∧ w.heap.size ≤ b

set_option maxRecDepth 100000 in
set_option maxHeartbeats 1000000 in
theorem tadd_nil (hst : w.heap[t]? = some (treeO (.slice none 0 0) m 0 0)) (hmap : LMap w m 0 []) {C : Array Value} (hn : NodeG w g0 C n0) (htm : t ≠ m) (htg : t ≠ g0) (hmg : m ≠ g0) :
    Calls Try.prog 23 #[.pointer (some ⟨t, 0, none⟩), .int .i64 0, .pointer (some ⟨g0, 0, none⟩), .string ⟨#[]⟩] w fun e w' => e = .returned (.tuple #[]) ∧ First w t m g0 n0 w' := by
  have ltt := lt_of hst
  have ltm := hmap.lt
  have ltg := lt_of hn.st
  have c0 : w.cell? ⟨t, 0, none⟩ = some (.slice none 0 0) := by rw [cell_of hst]; rfl
  have c1 : w.cell? ⟨t, 1, none⟩ = some (.map (some m)) := by rw [cell_of hst]; rfl
  have c2 : w.cell? ⟨t, 2, none⟩ = some (.int .i64 0) := by rw [cell_of hst]; rfl
  have f2 := frozen_of hst 2
  have f0 := frozen_of hst 0
  obtain ⟨q, hq⟩ : ∃ q, w.heap.size = q := ⟨_, rfl⟩
  obtain ⟨W3, hW3⟩ : ∃ W3, W3 = ((w.setCell ⟨t, 2, none⟩ (.int .i64 1)).alloc (.cells #[.pointer (some ⟨g0, 0, none⟩), .int .i64 1, .string ⟨#[]⟩] 81)).alloc (.cells #[.pointer (some ⟨q, 0, none⟩)] 71) := ⟨_, rfl⟩
  have hS3 : W3.heap.size = q + 2 := by rw [hW3]; simp [hq]
  have hold : ∀ i, i < q → i ≠ t → W3.heap[i]? = w.heap[i]? := fun i hi hne => by
    rw [hW3, Below.heap_alloc _ _ i (by simp; omega), Below.heap_alloc _ _ i (by simp; omega), Below.heap_setCell w _ _ i hne]
  have h3t : W3.heap[t]? = some (treeO (.slice none 0 0) m 1 0) := by
    rw [hW3, Below.heap_alloc _ _ t (by simp; omega), Below.heap_alloc _ _ t (by simp; omega), heap_setCell_same hst]
    rfl
  have h3q : W3.heap[q]? = some (leafC (newLf q g0 n0 1 ⟨#[]⟩)) := by
    rw [hW3, Below.heap_alloc _ _ q (by simp [hq])]
    have := heap_new (w.setCell ⟨t, 2, none⟩ (.int .i64 1)) (.cells #[.pointer (some ⟨g0, 0, none⟩), .int .i64 1, .string ⟨#[]⟩] 81)
    rw [World.size_setCell, hq] at this
    exact this
  have h3v : W3.heap[q + 1]? = some (.cells #[pv q] 71 (0, 0)) := by
    have := heap_new ((w.setCell ⟨t, 2, none⟩ (.int .i64 1)).alloc (.cells #[.pointer (some ⟨g0, 0, none⟩), .int .i64 1, .string ⟨#[]⟩] 81)) (.cells #[.pointer (some ⟨q, 0, none⟩)] 71)
    rw [World.size_alloc, World.size_setCell, hq] at this
    rw [hW3]
    exact this
  have hM3 : LMap W3 m 0 [] := hmap.heap (hold m (by omega) (fun e => htm e.symm))
  have HI : Hid (Calls Try.prog 40 #[.slice none 0 0, .int .i64 0, .slice (some ⟨q + 1, 0, none⟩) 1 1] W3 fun e w' => ∃ b' c', e = .returned (.slice (some ⟨b', 0, none⟩) 1 c') ∧ Hid ((∃ R', PtrRow w' b' c' [q] R') ∧ b' = W3.heap.size ∧ Below W3.heap.size W3 w')) := tinsert_nil h3v
  have HZ : Hid (∀ b' c' (w4 : World), Hid ((∃ R', PtrRow w4 b' c' [q] R') ∧ b' = W3.heap.size ∧ Below W3.heap.size W3 w4) →
      w4.frozen? ⟨t, 0, none⟩ = false ∧ w4.cell? ⟨t, 0, none⟩ = some (.slice none 0 0) ∧ ∀ V : World, V = (w4.setCell ⟨t, 0, none⟩ (.slice (some ⟨b', 0, none⟩) 1 c')).drew → V.cell? ⟨t, 1, none⟩ = some (.map (some m)) ∧ V.cell? ⟨q, 1, none⟩ = some (.int .i64 1) ∧ ∃ u, (Instr.mapUpdate 60 (.map (some m)) (.int .i64 1) (.pointer (some ⟨q, 0, none⟩))).run Try.prog V = .ok () u ∧ First w t m g0 n0 u) := by
    intro b' c' w4 hh
    obtain ⟨⟨R', hR'⟩, hb', hb4⟩ := hh.out
    have ht4 := Turn.ofBelow (fun _ => False) hb4
    have e4t : w4.heap[t]? = some (treeO (.slice none 0 0) m 1 0) := (ht4.block t (by omega) (fun h => h)).trans h3t
    refine ⟨frozen_of e4t _, by rw [cell_of e4t]; rfl, fun V hV => ?_⟩
    have e5 : ∀ i, i ≠ t → V.heap[i]? = w4.heap[i]? := fun i hi => by rw [hV]; exact Below.heap_setCell w4 ⟨t, 0, none⟩ _ i hi
    have e5t : V.heap[t]? = some (treeO (.slice (some ⟨b', 0, none⟩) 1 c') m 1 0) := by
      rw [hV]
      exact heap_setCell_same e4t _ _
    have e5q : V.heap[q]? = some (leafC (newLf q g0 n0 1 ⟨#[]⟩)) := by rw [e5 q (by omega), ht4.block q (by omega) (fun h => h)]; exact h3q
    have hM5 : LMap V m 0 [] := hM3.heap (by rw [e5 m (fun e => htm e.symm), ht4.block m (by omega) (fun h => h)])
    have hV4 : V.heap.size = w4.heap.size := by rw [hV]; simp
    refine ⟨by rw [cell_of e5t]; rfl, by rw [cell_of e5q]; rfl, ?_⟩
    obtain ⟨u, hu, hMu, htu⟩ := hM5.put (by omega) (x := 1) (by omega) (fun r hr => by cases hr) q
    have hs4 := ht4.size
    have hk : ∀ i, i < w.heap.size → ¬ (i = t ∨ i = m) → u.heap[i]? = w.heap[i]? := fun i hi hS => by
      simp only [not_or] at hS
      rw [htu.block i (by omega) hS.2, e5 i hS.1, ht4.block i (by omega) (fun h => h), hold i (by omega) hS.1]
    have hbu : u.heap[b']? = w4.heap[b']? := by rw [htu.block b' (by rw [hV4]; exact lt_of hR'.st) (by omega), e5 b' (by omega)]
    refine ⟨u, hu, b', c', q, ⟨(htu.block t (by omega) htm).trans e5t, ⟨R', hR'.heap hbu⟩, hMu, fun x hx => ?_, fun x hx => ?_, ?_, by simp⟩, ⟨htu.os.trans ?_, htu.tape.trans ?_, htu.output.trans ?_, ?_, hk⟩, by omega, by omega⟩
    · rw [List.mem_singleton.1 hx]
      exact (htu.block q (by omega) (by omega)).trans e5q
    · rw [List.mem_singleton.1 hx]
      exact ⟨C, hn.kept (hk g0 (by omega) (by
        rintro (e | e)
        · exact htg e.symm
        · exact hmg e.symm))⟩
    · unfold foot qs gs
      simp
      refine ⟨⟨?_, htm, ?_, htg⟩, ⟨?_, ?_, ?_⟩, ⟨?_, hmg⟩, ?_⟩ <;> omega
    · rw [hV]; exact ht4.os.trans (by rw [hW3]; rfl)
    · rw [hV]; exact ht4.tape.trans (by rw [hW3]; rfl)
    · rw [hV]; exact ht4.output.trans (by rw [hW3]; rfl)
    · have := htu.size; omega
  have hWW : ((w.setCell ⟨t, 2, none⟩ (.int .i64 1)).alloc (.cells #[.pointer (some ⟨g0, 0, none⟩), .int .i64 1, .string ⟨#[]⟩] 81)).alloc (.cells #[.pointer (some ⟨q, 0, none⟩)] 71) = W3 := hW3.symm
  subst hq
  rw [← hWW] at HI HZ
  clear hst hmap hn hM3 hold h3t h3q h3v hW3 hS3 hWW htm htg hmg
  go_enter Try.func23, Try.ntmps23
  go_wp2_with (go_at_call 40; go_must (refine HI.out.mono ?_; rintro e w4 ⟨b', c', rfl, h4⟩; obtain ⟨z1, z2, z3⟩ := HZ.out b' c' w4 h4; obtain ⟨z4, z5, u, z6, z7⟩ := z3 _ rfl; have HU : Hid (First w t m g0 n0 u) := z7; clear z7 z3 h4))
  go_region
  all_goals go_wp2
  all_goals go_returns
  all_goals exact ⟨rfl, HU.out⟩

def Tr.new (q g : Nat) : Tr := ⟨[newLf q g Nd.new 1 ⟨#[]⟩], 1⟩
theorem Tr.new_ok (q g : Nat) : (Tr.new q g).Ok 0 := by
  refine ⟨⟨⟨_, _, rfl, rfl⟩, List.pairwise_singleton .., fun l hl p hp => ?_, List.pairwise_singleton .., fun l hl => ?_, fun l hl => ?_, Or.inl rfl⟩, by simp [Tr.ks, Tr.new, allK, Nd.new], ⟨by show (1 : Int) ≤ 1 ∧ (1 : Int) ≤ ((0 : Nat) : Int) + 1; decide, fun l hl => ?_, fun l hl => ?_⟩⟩
  all_goals obtain rfl := List.mem_singleton.1 hl
  · cases hp
  · show (1 : Int) ≤ 1 ∧ (1 : Int) ≤ 1; decide
  · exact Nd.new_ok
  · show (0 : Int) ≤ 0 ∧ (0 : Int) ≤ 16 * ((0 : Nat) : Int); decide
  · show (0 : Int) ≤ 0 ∧ (0 : Int) ≤ ((0 : Nat) : Int); decide

set_option maxRecDepth 100000 in
theorem tnew_any (w : World) : Calls Try.prog 9 #[] w fun e w' => ∃ t q g F, e = .returned (.pointer (some ⟨t, 0, none⟩)) ∧ Hid (TreeI t (Tr.new q g) 0 w' F ∧ (∀ i, F i → w.heap.size ≤ i) ∧ Below w.heap.size w w') := by
  have hmm := @run_makeMap Try.prog
  have HN : Hid (∀ u : World, Calls Try.prog 24 #[] u fun e w' => ∃ g F, e = .returned (.pointer (some ⟨g, 0, none⟩)) ∧ NodeI g Nd.new w' F ∧ (∀ i, F i → u.heap.size ≤ i) ∧ Below u.heap.size u w') := fun u => new_any u
  obtain ⟨W2, hW2⟩ : ∃ W2, W2 = (w.alloc (.map #[] 0)).alloc (treeO (.slice none 0 0) w.heap.size 0 0) := ⟨_, rfl⟩
  have hs2 : W2.heap.size = w.heap.size + 2 := by rw [hW2]; simp
  have h2t : W2.heap[w.heap.size + 1]? = some (treeO (.slice none 0 0) w.heap.size 0 0) := by
    have := heap_new (w.alloc (.map #[] 0)) (treeO (.slice none 0 0) w.heap.size 0 0)
    rw [World.size_alloc] at this
    rw [hW2]
    exact this
  have h2m : LMap W2 w.heap.size 0 [] := (lmap_made w).heap (by rw [hW2]; exact Below.heap_alloc _ _ _ (by simp))
  have hb2 : Below w.heap.size w W2 := by rw [hW2]; exact ((Below.refl _ _).alloc (Nat.le_refl _) _).alloc (by simp) _
  have HA : Hid (∀ (g : Nat) (F : Nat → Prop) (w3 : World), NodeI g Nd.new w3 F → (∀ i, F i → W2.heap.size ≤ i) → Below W2.heap.size W2 w3 → Calls Try.prog 23 #[.pointer (some ⟨w.heap.size + 1, 0, none⟩), .int .i64 0, .pointer (some ⟨g, 0, none⟩), .string ⟨#[]⟩] w3 fun e w' => e = .returned (.tuple #[]) ∧ ∃ q g F, TreeI (w.heap.size + 1) (Tr.new q g) 0 w' F ∧ (∀ i, F i → w.heap.size ≤ i) ∧ Below w.heap.size w w') := by
    intro g F w3 hN hF hb
    obtain ⟨⟨C, hC⟩, hFe⟩ := id hN
    have hg := hF g ((hFe g).2 rfl)
    have hs3 := hb.size
    refine (tadd_nil (t := w.heap.size + 1) (m := w.heap.size) (g0 := g) ((hb.block _ (by omega)).trans h2t) (h2m.heap (hb.block _ (by omega))) hC (by omega) (by omega) (by omega)).mono fun e w' ⟨he, hw'⟩ => ?_
    obtain ⟨b, c, q, k1, k2, k3, k4⟩ := hw'
    refine ⟨he, q, g, _, ⟨b, _, c, k1, Tr.new_ok q g, fun i => Iff.rfl⟩, fun i hi => ?_, ?_⟩
    · rcases mem_foot hi with rfl | rfl | rfl | ⟨l, hl, e⟩
      · omega
      · omega
      · exact Nat.le_refl _
      · obtain rfl := List.mem_singleton.1 hl
        rcases e with e | e
        · rw [e]; show w.heap.size ≤ q; omega
        · rw [e]; show w.heap.size ≤ g; omega
    · refine (hb2.trans (hb.mono hb2.size)).trans ((k2.mono (S' := fun i => w.heap.size ≤ i) (fun i hi => by rcases hi with e | e <;> omega)).toBelow ?_)
      omega
  rw [hW2] at HA
  have HB : Hid (W2 = (w.alloc (.map #[] 0)).alloc (treeO (.slice none 0 0) w.heap.size 0 0)) := hW2
  clear hs2 h2t h2m hb2 hW2
  go_enter Try.func9, Try.ntmps9
  go_wp2_with (first | (go_at_call 24; go_must (refine (HN.out _).mono ?_; rintro e w3 ⟨g, F, rfl, k1, k2, k3⟩; have HA3 : Hid (Calls Try.prog 23 #[.pointer (some ⟨w.heap.size + 1, 0, none⟩), .int .i64 0, .pointer (some ⟨g, 0, none⟩), .string ⟨#[]⟩] w3 fun e w' => e = .returned (.tuple #[]) ∧ ∃ q g F, TreeI (w.heap.size + 1) (Tr.new q g) 0 w' F ∧ (∀ i, F i → w.heap.size ≤ i) ∧ Below w.heap.size w w') := HA.out g F w3 k1 k2 k3; clear k1 k2 k3)) | (go_at_call 23; go_must (refine HA3.out.mono ?_; rintro e w4 ⟨rfl, q4, g4, F4, h4⟩; have H4 : Hid (TreeI (w.heap.size + 1) (Tr.new q4 g4) 0 w4 F4 ∧ (∀ i, F4 i → w.heap.size ≤ i) ∧ Below w.heap.size w w4) := h4; clear h4)))
  go_ret
  exact ⟨_, q4, g4, F4, rfl, H4⟩
end

end Go.Proofs.Ytoknebbkpkcomaa
