/- The document's node: All. -/
import Derived.Test.YtnnkflghnapnpaaNRefT
import Derived.Test.YtnnkflghnapnpaaNHalvesT
import Derived.Deep.RegionLaw
namespace Go.Proofs.Ytnnkflghnapnpaa
open Go.RowKit

theorem step_appS {w : World} {ops : Array Oper} {o : Oper} {a : Act} {K : Act → World → Prop} {Q : Exit → Act → World → Prop} {E : Prop} (hw : Region.wanted o (yielded ops a.tmps) = true) (s x : Operand)
    (ho : o.op = .call { callee := .builtin .append, args := #[s, x], argTypes := #[51, 51] }) {B : Nat} {L : List ByteArray} {y : ByteArray} {A : Option Addr} {n m : Nat}
    (hs : a.eval s = .slice A n m) (hown : w.ownsRow B 9 1 (.slice A n m) n (scells L)) (hn : n ≤ 1000) {p : Nat} (hx : a.eval x = .slice (some ⟨p, 0, none⟩) 1 1) (hp : w.cell? ⟨p, 0, none⟩ = some (.string y)) (hB : B ≤ w.heap.size)
    (h : ∀ A' m' w', w'.ownsRow B 9 1 (.slice A' (n + 1) m') (n + 1) (scells (L ++ [y])) → Below B w w' → K (a.put o.dst (.slice A' (n + 1) m')) w') :
    if Region.wanted o (yielded ops a.tmps) = true then Oper.wp Try.prog o a w K Q else E := by
  rw [if_pos hw]
  obtain ⟨i, hi, hz, h1, h2⟩ := info_parts infoS
  obtain ⟨v', w', hr, k1, k2, _⟩ := run_append_own (P := Try.prog) w B 51 o.type 9 i (.string ⟨#[]⟩) 1 16 Try.underlying51 hi hz h1 h2 rfl (by decide) _ n _ hown ⟨p, 0, none⟩ 1 1 [.string y] rfl (fun j u hu => by
    cases j with
    | zero => simp at hu; rw [Addr.add_lit, ← hu]; exact hp
    | succ j => simp at hu) (fun u hu => by rw [List.mem_singleton.1 hu]; rfl) (by unfold maxLen; omega) (by omega) hB
  have e : scells (L ++ [y]) = scells L ++ [.string y] := by simp [scells]
  rw [← e] at k1
  obtain ⟨A', m', rfl⟩ : ∃ A' m', v' = .slice A' (n + 1) m' := by
    rcases k1.2 with ⟨rfl, hn⟩ | ⟨g, cap, cur, rfl, _⟩
    · cases hn
    · exact ⟨_, cap, rfl⟩
  unfold Oper.wp
  simp [execOp, ho, resolve, invoke, builtin, hs, hx, hr, Result.andThen]
  refine h A' m' w' k1 ?_
  have ht : Turn (fun i => B ≤ i) w w' := Turn.ofGrown k2 (fun g hg => by
    obtain ⟨cur, _, hb⟩ := ownsRow_own hown hg
    exact hb)
  exact ht.toBelow hB

theorem bx1 (w : World) (o : Obj) : Below w.heap.size w (w.drew.alloc o) := (below_drewN w 1).trans (below_alloc w.drew o)
theorem bx2 (w : World) (o : Obj) : Below w.heap.size w (w.alloc o).drew := below_dr (below_alloc w o) 1
theorem cx1 (w : World) (y : ByteArray) (T : TypeId) (fz : Nat × Nat) : (w.drew.alloc (.cells #[.string y] T fz)).cell? ⟨w.heap.size, 0, none⟩ = some (.string y) := by
  have := cell_of (heap_new w.drew (.cells #[.string y] T fz)) 0
  exact this
theorem cx2 (w : World) (y : ByteArray) (T : TypeId) (fz : Nat × Nat) : (w.alloc (.cells #[.string y] T fz)).drew.cell? ⟨w.heap.size, 0, none⟩ = some (.string y) := by
  have := cell_of (heap_new w (.cells #[.string y] T fz)) 0
  exact this

section
variable {w : World} {r : Nat} {n : Nd} {F : Nat → Prop}
set_option maxRecDepth 100000 in
set_option maxHeartbeats 2000000 in
theorem oall_any (h : RefI r n w F) : Calls Try.prog 45 #[.pointer (some ⟨r, 0, none⟩)] w fun e w' => ∃ A c, e = .returned (.slice A n.ks.length c) ∧ w'.ownsRow w.heap.size 9 1 (.slice A n.ks.length c) n.ks.length (scells n.keys) ∧ Below w.heap.size w w' := by
  obtain ⟨kb, vb, KS, VS, hG, hF⟩ := h
  have ho := hG.ok
  have c0 := hG.cells.c0
  have hfew := ho.few
  obtain ⟨V, hV⟩ : ∃ V, n.word = V := ⟨_, rfl⟩
  obtain ⟨N, hN⟩ : ∃ N, n.ks.length = N := ⟨_, rfl⟩
  have HP : Hid (Calls Try.prog 38 #[.int .u64 V] w fun e w' => ∃ z, e = .returned (.tuple #[.int .i64 (N : Int), z]) ∧ OwnN w' w.heap.size z n.l ∧ Below w.heap.size w w') := by
    have := parts_any ho.wd w
    rw [hV, hN] at this
    exact this
  have HC : Hid (∀ u : World, Below w.heap.size w u → RefC u r kb vb n) := fun u hb => (hG.below hb).cells
  have HO : Hid n.Ok := ho
  have HN : Hid (n.ks.length = N) := hN
  rw [hV] at c0
  rw [hN] at hfew ⊢
  clear hG ho hV hN hF
  go_enter Try.func45, Try.ntmps45
  go_wp2_with fail
  refine HP.out.mono ?_
  rintro e w1 ⟨z, rfl, ho1, hb1⟩
  obtain ⟨g, cap, hz, hcap1, hcap2, hgl, hcl⟩ := parts_shape ho1 HO.out.len
  have HCl : Hid (∀ u : World, Below w1.heap.size w1 u → ∀ (j y : Nat), n.l[j]? = some y → u.cell? ⟨g, j, none⟩ = some (.int .i64 (y : Int))) := fun u hb j y hy => (hb.cell (p := ⟨g, j, none⟩) hgl).trans (hcl j y hy)
  have HB1 : Hid (Below w.heap.size w w1) := hb1
  unfold maxLen at hcap2
  rw [hz]
  clear hz ho1 hcl HP c0 hb1
  go_wp2_with fail
  go_loopw [5, 6] (fun s i wr => ∃ (j : Nat) (A : Option Addr) (c : Nat), j ≤ N ∧ i = .int .i64 j ∧ s = .slice A j c ∧ Hid (wr.ownsRow w1.heap.size 9 1 (.slice A j c) j (scells (n.keys.take j))) ∧ Hid (Below w1.heap.size w1 wr)) (fun _ i _ => N - (intOf i).toNat)
  case atStart => exact ⟨0, none, 0, Nat.zero_le _, rfl, rfl, World.ownsRow_nil _ _ _ _, Below.refl _ _⟩
  case round =>
    obtain ⟨j, A, c, hj, rfl, rfl, HOw, HBl⟩ := hrel
    by_cases hlt : j < N
    · have hjI : (j : Int) < (N : Int) := by omega
      have hjI15 : (j : Int) < 15 := by omega
      obtain ⟨p, hp⟩ : ∃ p, n.ks[j]? = some p := ⟨_, List.getElem?_eq_getElem (by rw [HN.out]; exact hlt)⟩
      obtain ⟨s, e1, e2, e3⟩ := slot_of HO.out (j := j) (by omega)
      have hb2 : Below w.heap.size w wr := HB1.out.trans (HBl.out.mono HB1.out.size)
      have q1 := HCl.out wr HBl.out j s e1
      have q2 := (HC.out wr hb2).ck j p hp
      have q3 := (HC.out wr hb2).c1
      rw [e3] at q2
      have hsI : (s : Int) < 15 := by omega
      obtain ⟨q, hq⟩ : ∃ q, p.1 = q := ⟨_, rfl⟩
      rw [hq] at q2
      have HT : Hid (n.keys.take (j + 1) = n.keys.take j ++ [q]) := by
        show _ = _
        rw [List.take_add_one]
        unfold Nd.keys
        rw [List.getElem?_map, hp]
        show _ ++ [p.1] = _
        rw [hq]
      have HOk : Hid (∀ u : World, Below wr.heap.size wr u → u.ownsRow w1.heap.size 9 1 (.slice A j c) j (scells (n.keys.take j)) ∧ w1.heap.size ≤ u.heap.size) := fun u hb => ⟨ownsRow_block HOw.out (fun g hg => by
        obtain ⟨cur, x1, _⟩ := ownsRow_own HOw.out hg
        exact hb.block g (lt_of x1)), Nat.le_trans HBl.out.size hb.size⟩
      clear hp e1 e3 hq hb2
      go_wp2_with fail
      go_region_law (refine step_appS (by rfl) _ _ (by rfl) (L := n.keys.take j) (y := q) (by rfl) (HOk.out _ (by first | exact bx1 _ _ | exact bx2 _ _)).1 (by omega) (p := wr.heap.size) (by rfl) (by first | exact cx1 _ _ _ _ | exact cx2 _ _ _ _) (HOk.out _ (by first | exact bx1 _ _ | exact bx2 _ _)).2 ?_; intro A' m' w' k1 k2; have K1 : Hid (w'.ownsRow w1.heap.size 9 1 (.slice A' (j + 1) m') (j + 1) (scells (n.keys.take j ++ [q]))) := k1; have K2 : Hid (Below w1.heap.size w1 w') := HBl.out.trans (Below.trans (Below.mono (by first | exact bx1 _ _ | exact bx2 _ _) HBl.out.size) k2); clear k1 k2)
      all_goals (go_wp2_with fail; go_roundw; (case rel => exact ⟨j + 1, A', m', by omega, by go_num, rfl, (by rw [HT.out]; exact K1), K2⟩); (case measure => simp [intOf]; omega))
    · have hjI : ¬ (j : Int) < (N : Int) := by omega
      obtain rfl : j = N := by omega
      have HT : Hid (n.keys.take j = n.keys) := List.take_of_length_le (by unfold Nd.keys; rw [List.length_map, HN.out]; exact Nat.le_refl _)
      go_wp2_with fail
      go_ret
      refine ⟨A, c, rfl, ?_, HB1.out.trans (HBl.out.mono HB1.out.size)⟩
      have := HOw.out
      rw [HT.out] at this
      obtain ⟨x1, x2⟩ := this
      refine ⟨x1, ?_⟩
      rcases x2 with x | ⟨g', cap', cur', y1, y2, y3⟩
      · exact Or.inl x
      · exact Or.inr ⟨g', cap', cur', y1, Nat.le_trans HB1.out.size y2, y3⟩
end

end Go.Proofs.Ytnnkflghnapnpaa
