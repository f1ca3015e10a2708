/- append([]E{}, l...) in a region that draws its order. -/
import Derived.Test.YtibgpjokdpagcaaWLend
import Derived.Test.YtibgpjokdpagcaaWRefM
import Derived.Deep.RegionLaw
import Derived.Deep.RegionHeld3
namespace Go.Proofs.Ytibgpjokdpagcaa
open Go.RowKit

theorem step_append_copy {w : World} {ops : Array Oper} {o : Oper} {a : Act} {K : Act → World → Prop} {Q : Exit → Act → World → Prop} {E : Prop} (hgd : o.guard = none) (s x : Operand) (t : TypeId)
    (ho : o.op = .call { callee := .builtin .append, args := #[s, x], argTypes := #[t, t] })
    (base : Nat) (e : TypeId) (i : TypeInfo) (z : Value) (size bytes : Nat) (ht : Try.prog.underlying t = some (.slice e)) (hi : Try.prog.info? e = some i) (hz : i.zero = some z)
    (hsize : i.size = size) (hby : i.bytes = bytes) (hzs : z.cells.size = size) (hsz : 0 < size)
    (g : Nat) (hs : a.eval s = .slice (some ⟨g, 0, none⟩) 0 0) (hown : w.ownsRow base e size (.slice (some ⟨g, 0, none⟩) 0 0) 0 [])
    {α : Type} (en : α → List Value) (hm : ∀ y, (en y).length = size) (hone : ∀ y, ∀ u ∈ en y, u.oneCell' = true) (vx : Value) (L : List α) (hx : a.eval x = vx) (hsl : SliceAt w vx size en L) (hnil : NilOk vx)
    (h63 : L.length * bytes ≤ 140737488355328) (hbase : base ≤ w.heap.size)
    (h : ∀ b k w', w'.ownsRow base e size (.slice b L.length k) L.length (flat en L) → w.grownBy w' (some g) → K (a.put o.dst (.slice b L.length k)) w') :
    if Region.wanted o (yielded ops a.tmps) = true then Oper.wp Try.prog o a w K Q else E := by
  have hw : Region.wanted o (yielded ops a.tmps) = true := by simp [Region.wanted, hgd]
  rw [if_pos hw]
  have h' : ∀ v' w', w'.ownsRow base e size v' L.length (flat en L) → w.grownBy w' (some g) → K (a.put o.dst v') w' := by
    intro v' w' h1 h2
    obtain ⟨b, k, rfl, -⟩ := own_slice (en := en) hm h1
    exact h b k w' h1 h2
  obtain ⟨ax, cx, rfl, hl, hc, hxx⟩ := hsl
  cases ax with
  | none =>
    have hc0 := hnil _ _ rfl
    subst hc0
    have hL : L = [] := List.length_eq_zero_iff.1 (by omega)
    subst hL
    have hrun := run_append_owned_none (P := Try.prog) (w := w) base t o.type e i size ht hi _ 0 [] hown
    unfold Oper.wp
    have hx' : a.eval x = .slice none 0 0 := hx
    simp [execOp, ho, resolve, invoke, builtin, hs, hx', hrun, Result.andThen]
    exact h' _ _ hown ⟨rfl, rfl, rfl, Nat.le_refl _, fun _ _ _ => rfl⟩
  | some ad =>
    refine wp_append_own _ s x t ho base e i z size bytes ht hi hz hsize hby hzs hsz _ 0 [] hs hown ad L.length cx (flat en L) hx (by rw [flat_length hm, Nat.mul_comm]) (fun j u hu => ?_) (fun u hu => ?_) (by omega) (by rw [Nat.zero_add]; exact h63) hbase (fun v' w' h1 h2 _ => h' v' w' (by simpa using h1) h2)
    · have hj : j < size * L.length := by rw [← flat_length hm L]; exact (List.getElem?_eq_some_iff.1 hu).1
      have hne : L ≠ [] := by intro e; subst e; simp at hj
      obtain ⟨b, off, e, _, hcs⟩ := hxx hne
      cases e
      have hq : j / size < L.length := by rw [Nat.div_lt_iff_lt_mul hsz, Nat.mul_comm]; exact hj
      have hr : j % size < size := Nat.mod_lt _ hsz
      have ej : size * (j / size) + j % size = j := Nat.div_add_mod j size
      have h1 := flat_get hm L (j / size) hq (j % size) hr
      rw [ej, hu] at h1
      have h2 := hcs (j / size) hq (j % size) u h1.symm
      rw [Addr.add_lit]
      rw [Nat.add_assoc, Nat.mul_comm (j / size) size, ej] at h2
      exact h2
    · obtain ⟨y, _, hy⟩ := List.mem_flatMap.1 hu
      exact hone y u hy

theorem own_empty {W : World} {g base : Nat} {e : TypeId} {size : Nat} (h : W.heap[g]? = some (.cells #[] e (0, 0))) (hb : base ≤ g) : W.ownsRow base e size (.slice (some ⟨g, 0, none⟩) 0 0) 0 [] :=
  ⟨by simp, Or.inr ⟨g, 0, #[], rfl, hb, h, Nat.le_refl _, Nat.zero_le _, by simp, by simp⟩⟩
theorem drew_heap (W : World) : W.drew.heap = W.heap := rfl

theorem RefG.make {w W0 X : World} {mb pb rb db : Nat} {vt vq : Value} {m n : Nat} {c : List Int} {Zp Z1 Z2 : Array Value}
    (h0 : W0.heap[mb]? = some (.cells #[vt, .slice (some ⟨pb, 0, none⟩) m m, .slice none 0 0, .slice none 0 0, .slice none 0 0, .int .i64 0] 64 (0, 0))) (hp : W0.heap[pb]? = some (.cells Zp 3 (0, 0))) (hZp : Zp.toList = flat ei' (List.replicate m 0)) (hres : W0.heap[w.heap.size]? = some repZ) (hB0 : Below w.heap.size w W0) (hm : w.heap.size ≤ mb) (hpb : w.heap.size ≤ pb)
    (hX : Below W0.heap.size W0 X) (ho : X.ownsRow w.heap.size 38 1 vq n (ucells c)) (hr : X.heap[rb]? = some (.cells Z1 47 (0, 0))) (hd : X.heap[db]? = some (.cells Z2 4 (0, 0))) (hZ1 : Z1.toList = flat r8 (List.replicate m zero8)) (hZ2 : Z2.toList = flat bcell (List.replicate m false)) (hc : c.length = n) (hrb : W0.heap.size ≤ rb) (hdb : W0.heap.size ≤ db) :
    RefG w (X.setCells mb 2 [vq, .slice (some ⟨rb, 0, none⟩) m m, .slice (some ⟨db, 0, none⟩) m m, .int .i64 ((0 : Nat) : Int)]) mb pb rb db vt vq m n (List.replicate m 0) (List.replicate m zero8) (List.replicate m false) c 0 := by
  have tr := setCells_turn mb [vq, .slice (some ⟨rb, 0, none⟩) m m, .slice (some ⟨db, 0, none⟩) m m, .int .i64 ((0 : Nat) : Int)] 2 X
  have x0 := (hX.block mb (lt_of h0)).trans h0
  have xp := (hX.block pb (lt_of hp)).trans hp
  have xr := (hX.block _ (lt_of hres)).trans hres
  obtain ⟨c', e1, e2⟩ := setCells_heap mb [vq, .slice (some ⟨rb, 0, none⟩) m m, .slice (some ⟨db, 0, none⟩) m m, .int .i64 ((0 : Nat) : Int)] 2 X _ _ _ [vt, .slice (some ⟨pb, 0, none⟩) m m] [.slice none 0 0, .slice none 0 0, .slice none 0 0, .int .i64 0] x0 rfl rfl rfl
  obtain ⟨l'⟩ := c'
  cases e2
  have hs := hB0.size
  refine ⟨e1, ⟨Zp, (tr.block _ (lt_of xp) (other_type x0 xp (by decide))).trans xp, hZp⟩, ownsRow_block ho (fun g hg => ?_), ⟨Z1, (tr.block _ (lt_of hr) (other_type x0 hr (by decide))).trans hr, hZ1⟩, ⟨Z2, (tr.block _ (lt_of hd) (other_type x0 hd (by decide))).trans hd, hZ2⟩, by simp, by simp, by simp, hc, (tr.block _ (lt_of xr) (other_type x0 xr (by decide))).trans xr, (hB0.trans (hX.mono hs)).trans ((tr.mono (fun i e => by rw [e]; exact hm)).toBelow (Nat.le_trans hs hX.size)), ⟨hm, hpb, by omega, by omega⟩⟩
  obtain ⟨cu, g1, _⟩ := ownsRow_own ho hg
  exact tr.block g (lt_of g1) (other_type x0 g1 (by decide))

theorem RefG.make3 {w W0 w5 WF : World} {mb pb rb db : Nat} {vt vq : Value} {m n : Nat} {c : List Int} {Zp Z1 Z2 : Array Value}
    (h0 : W0.heap[mb]? = some (.cells #[vt, .slice (some ⟨pb, 0, none⟩) m m, .slice none 0 0, .slice none 0 0, .slice none 0 0, .int .i64 0] 64 (0, 0))) (hp : W0.heap[pb]? = some (.cells Zp 3 (0, 0))) (hZp : Zp.toList = flat ei' (List.replicate m 0)) (hres : W0.heap[w.heap.size]? = some repZ) (hB0 : Below w.heap.size w W0) (hm : w.heap.size ≤ mb) (hpb : w.heap.size ≤ pb)
    (hZ1 : Z1.toList = flat r8 (List.replicate m zero8)) (hZ2 : Z2.toList = flat bcell (List.replicate m false)) (hc : c.length = n)
    (hX : Below W0.heap.size W0 w5) (ho : w5.ownsRow w.heap.size 38 1 vq n (flat (fun x : Int => [Value.int .u64 x]) c))
    (hWF : Below w5.heap.size ((((w5.setCell ⟨mb, 2, none⟩ vq).setCell ⟨mb, 3, none⟩ (.slice (some ⟨rb, 0, none⟩) m m)).setCell ⟨mb, 4, none⟩ (.slice (some ⟨db, 0, none⟩) m m)).setCell ⟨mb, 5, none⟩ (.int .i64 0)) WF)
    (hr : w5.heap[rb]? = some (.cells Z1 47 (0, 0)) ∨ (w5.heap.size ≤ rb ∧ WF.heap[rb]? = some (.cells Z1 47 (0, 0)))) (hd : w5.heap[db]? = some (.cells Z2 4 (0, 0)) ∨ (w5.heap.size ≤ db ∧ WF.heap[db]? = some (.cells Z2 4 (0, 0)))) (hrb : W0.heap.size ≤ rb) (hdb : W0.heap.size ≤ db) :
    RefG w WF mb pb rb db vt vq m n (List.replicate m 0) (List.replicate m zero8) (List.replicate m false) c 0 := by
  have tr := setCells_turn mb [vq, .slice (some ⟨rb, 0, none⟩) m m, .slice (some ⟨db, 0, none⟩) m m, .int .i64 0] 2 w5
  have x0 := (hX.block mb (lt_of h0)).trans h0
  have xp := (hX.block pb (lt_of hp)).trans hp
  have xr := (hX.block _ (lt_of hres)).trans hres
  obtain ⟨c', e1, e2⟩ := setCells_heap mb [vq, .slice (some ⟨rb, 0, none⟩) m m, .slice (some ⟨db, 0, none⟩) m m, .int .i64 0] 2 w5 _ _ _ [vt, .slice (some ⟨pb, 0, none⟩) m m] [.slice none 0 0, .slice none 0 0, .slice none 0 0, .int .i64 0] x0 rfl rfl rfl
  obtain ⟨l'⟩ := c'
  cases e2
  have hs := hB0.size
  have old : ∀ {i : Nat} {cu : Array Value} {t : TypeId}, w5.heap[i]? = some (.cells cu t (0, 0)) → 64 ≠ t → WF.heap[i]? = some (.cells cu t (0, 0)) := by
    intro i cu t hi ht
    exact (hWF.block i (lt_of hi)).trans ((tr.block i (lt_of hi) (other_type x0 hi ht)).trans hi)
  have hr' : WF.heap[rb]? = some (.cells Z1 47 (0, 0)) := by
    rcases hr with hr | hr
    · exact old hr (by decide)
    · exact hr.2
  have hd' : WF.heap[db]? = some (.cells Z2 4 (0, 0)) := by
    rcases hd with hd | hd
    · exact old hd (by decide)
    · exact hd.2
  have hbF : Below w.heap.size w WF := ((hB0.trans (hX.mono hs)).trans ((tr.mono (fun i e => by rw [e]; exact hm)).toBelow (Nat.le_trans hs hX.size))).trans (hWF.mono (Nat.le_trans hs hX.size))
  refine ⟨(hWF.block mb (lt_of x0)).trans e1, ⟨Zp, old xp (by decide), hZp⟩, ?_, ⟨Z1, hr', hZ1⟩, ⟨Z2, hd', hZ2⟩, by simp, by simp, by simp, hc, old xr (by decide), hbF, ⟨hm, hpb, by omega, by omega⟩⟩
  rw [ucells_flat]
  refine ownsRow_block ho (fun g hg => ?_)
  obtain ⟨cu, g1, _⟩ := ownsRow_own ho hg
  rw [old g1 (by decide), g1]

end Go.Proofs.Ytibgpjokdpagcaa
