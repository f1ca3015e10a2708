/- The document's machine in memory, and what a write makes of it. -/
import Derived.Test.YtibgpjokdpagcaaWSame
namespace Go.Proofs.Ytibgpjokdpagcaa
open Go.RowKit

theorem other_type {w : World} {b b' : Nat} {c c' : Array Value} {t t' : TypeId} {f f' : Nat × Nat} (h : w.heap[b]? = some (.cells c t f)) (h' : w.heap[b']? = some (.cells c' t' f')) (ht : t ≠ t') : b' ≠ b := by
  intro e
  rw [e, h] at h'
  simp at h'
  exact ht h'.2.1

abbrev ei' (x : Int) : List Value := [Value.int .i64 x]
def RowI (w : World) (g : Nat) (P : List Int) : Prop := ∃ cur, w.heap[g]? = some (.cells cur 3 (0, 0)) ∧ cur.toList = flat ei' P

abbrev topO (vt vc : Value) (pb rb db m : Nat) (k : Nat) : Obj := .cells #[vt, .slice (some ⟨pb, 0, none⟩) m m, vc, .slice (some ⟨rb, 0, none⟩) m m, .slice (some ⟨db, 0, none⟩) m m, .int .i64 (k : Int)] 64 (0, 0)

structure RefG (wb w : World) (mb pb rb db : Nat) (vt vc : Value) (m n : Nat) (Ps : List Int) (R : List (List Int)) (D : List Bool) (c : List Int) (k : Nat) : Prop where
  top : w.heap[mb]? = some (topO vt vc pb rb db m k)
  pl : RowI w pb Ps
  cl : w.ownsRow wb.heap.size 38 1 vc n (ucells c)
  rl : RowR w rb R
  dl : RowB w db D
  lp : Ps.length = m
  lr : R.length = m
  ld : D.length = m
  lc : c.length = n
  res : w.heap[wb.heap.size]? = some repZ
  below : Below wb.heap.size wb w
  new : wb.heap.size ≤ mb ∧ wb.heap.size ≤ pb ∧ wb.heap.size ≤ rb ∧ wb.heap.size ≤ db

section
variable {wb w w' : World} {mb pb rb db : Nat} {vt vc : Value} {m n : Nat} {Ps : List Int} {R : List (List Int)} {D : List Bool} {c : List Int} {k : Nat}

theorem RefG.stay (h : RefG wb w mb pb rb db vt vc m n Ps R D c k) (hb : Below w.heap.size w w') : RefG wb w' mb pb rb db vt vc m n Ps R D c k := by
  obtain ⟨c1, p1, p2⟩ := h.pl
  obtain ⟨c2, r1, r2⟩ := h.rl
  obtain ⟨c3, d1, d2⟩ := h.dl
  exact ⟨(hb.block _ (lt_of h.top)).trans h.top, ⟨c1, (hb.block _ (lt_of p1)).trans p1, p2⟩, ownsRow_block h.cl (fun g hg => hb.block g (h.cl.lt g hg).2), ⟨c2, (hb.block _ (lt_of r1)).trans r1, r2⟩, ⟨c3, (hb.block _ (lt_of d1)).trans d1, d2⟩, h.lp, h.lr, h.ld, h.lc, (hb.block _ (lt_of h.res)).trans h.res, h.below.trans (hb.mono h.below.size), h.new⟩

theorem RefG.tops (h : RefG wb w mb pb rb db vt vc m n Ps R D c k) : w.cell? ⟨mb, 0, none⟩ = some vt ∧ w.cell? ⟨mb, 1, none⟩ = some (.slice (some ⟨pb, 0, none⟩) m m) ∧ w.cell? ⟨mb, 2, none⟩ = some vc ∧ w.cell? ⟨mb, 3, none⟩ = some (.slice (some ⟨rb, 0, none⟩) m m) ∧ w.cell? ⟨mb, 4, none⟩ = some (.slice (some ⟨db, 0, none⟩) m m) ∧ w.cell? ⟨mb, 5, none⟩ = some (.int .i64 (k : Int)) := by
  have := h.top
  exact ⟨by rw [cell_of this]; rfl, by rw [cell_of this]; rfl, by rw [cell_of this]; rfl, by rw [cell_of this]; rfl, by rw [cell_of this]; rfl, by rw [cell_of this]; rfl⟩
theorem RefG.place (h : RefG wb w mb pb rb db vt vc m n Ps R D c k) {t : Nat} (ht : t < m) : w.cell? ⟨pb, t, none⟩ = some (.int .i64 (Ps.getD t 0)) ∧ w.frozen? ⟨pb, t, none⟩ = false := by
  obtain ⟨cu, p1, p2⟩ := h.pl
  have hl : t < Ps.length := by rw [h.lp]; exact ht
  refine ⟨?_, frozen_of p1 _⟩
  rw [cell_of p1, ← Array.getElem?_toList, p2, getD_get hl]
  have := flat_get (en := ei') (m := 1) (fun _ => rfl) Ps t hl 0 (by omega)
  rw [Nat.one_mul, Nat.add_zero] at this
  exact this
theorem RefG.done (h : RefG wb w mb pb rb db vt vc m n Ps R D c k) {t : Nat} (ht : t < m) : w.cell? ⟨db, t, none⟩ = some (.bool (D.getD t false)) ∧ w.frozen? ⟨db, t, none⟩ = false := by
  obtain ⟨cu, p1, p2⟩ := h.dl
  have hl : t < D.length := by rw [h.ld]; exact ht
  refine ⟨?_, frozen_of p1 _⟩
  rw [cell_of p1, ← Array.getElem?_toList, p2, getD_get hl]
  have := flat_get (en := bcell) (m := 1) (fun _ => rfl) D t hl 0 (by omega)
  rw [Nat.one_mul, Nat.add_zero] at this
  exact this
theorem r8_get (r : List Int) {i : Nat} (h : i < 8) : (r8 r)[i]? = some (rv r i) := by
  rcases i with _ | _ | _ | _ | _ | _ | _ | _ | i
  · rfl
  · rfl
  · rfl
  · rfl
  · rfl
  · rfl
  · rfl
  · rfl
  · omega
theorem r8_set {r : List Int} (h8 : r.length = 8) {i : Nat} (h : i < 8) (z : Int) : (r8 r).set i (.int .u64 z) = r8 (r.set i z) := by
  match r, h8 with
  | [r0, r1, r2, r3, r4, r5, r6, r7], _ =>
    rcases i with _ | _ | _ | _ | _ | _ | _ | _ | i
    · rfl
    · rfl
    · rfl
    · rfl
    · rfl
    · rfl
    · rfl
    · rfl
    · omega
theorem RefG.reg (h : RefG wb w mb pb rb db vt vc m n Ps R D c k) {t i : Nat} (ht : t < m) (hi : i < 8) : w.cell? ⟨rb, t * 8 + i, none⟩ = some (.int .u64 ((R.getD t []).getD i 0)) ∧ w.frozen? ⟨rb, t * 8 + i, none⟩ = false := by
  obtain ⟨cu, p1, p2⟩ := h.rl
  have hl : t < R.length := by rw [h.lr]; exact ht
  refine ⟨?_, frozen_of p1 _⟩
  rw [cell_of p1, ← Array.getElem?_toList, p2, getD_get hl, Nat.mul_comm t 8, flat_get r8_len R t hl i hi, r8_get _ hi]
/-- where the cells lie -/
theorem RefG.block (h : RefG wb w mb pb rb db vt vc m n Ps R D c k) (hn : 0 < n) : ∃ cb cap cur, vc = .slice (some ⟨cb, 0, none⟩) n cap ∧ w.heap[cb]? = some (.cells cur 38 (0, 0)) ∧ cur.toList.take (n * 1) = ucells c ∧ wb.heap.size ≤ cb ∧ cur.size = cap * 1 ∧ n ≤ cap ∧ cap ≤ maxLen := by
  rcases h.cl.2 with ⟨_, h0⟩ | ⟨g, cap, cur, e, h1, h2, h3, h4, h5, h6⟩
  · omega
  · exact ⟨g, cap, cur, e, h2, h6, h1, h5, h3, h4⟩
theorem RefG.cell (h : RefG wb w mb pb rb db (vc := vc) vt m n Ps R D c k) {cb cap : Nat} (e : vc = .slice (some ⟨cb, 0, none⟩) n cap) {i : Nat} (hi : i < n) : w.cell? ⟨cb, i, none⟩ = some (.int .u64 (c.getD i 0)) ∧ w.frozen? ⟨cb, i, none⟩ = false := by
  obtain ⟨cb', cap', cur, e', h1, h2, _⟩ := h.block (by omega)
  rw [e] at e'
  cases e'
  refine ⟨?_, frozen_of h1 _⟩
  have h3 := ucells_get (c := c) (i := i) (by rw [h.lc]; exact hi)
  rw [← h2, Nat.mul_one, List.getElem?_take_of_lt hi] at h3
  rw [cell_of h1, ← Array.getElem?_toList]
  exact h3

theorem RefG.setPlace (h : RefG wb w mb pb rb db vt vc m n Ps R D c k) {t : Nat} (ht : t < m) (p : Int) : RefG wb (w.setCell ⟨pb, t, none⟩ (.int .i64 p)) mb pb rb db vt vc m n (Ps.set t p) R D c k := by
  obtain ⟨c1, p1, p2⟩ := h.pl
  obtain ⟨c2, r1, r2⟩ := h.rl
  obtain ⟨c3, d1, d2⟩ := h.dl
  have hl : t < Ps.length := by rw [h.lp]; exact ht
  have tr : Turn (fun i => i = pb) w (w.setCell ⟨pb, t, none⟩ (.int .i64 p)) := Turn.setCell w ⟨pb, t, none⟩ _ rfl
  refine ⟨(tr.block _ (lt_of h.top) (other_type p1 h.top (by decide))).trans h.top, ⟨_, heap_setCell_same p1 t _, ?_⟩, ownsRow_block h.cl (fun g hg => ?_), ⟨c2, (tr.block _ (lt_of r1) (other_type p1 r1 (by decide))).trans r1, r2⟩, ⟨c3, (tr.block _ (lt_of d1) (other_type p1 d1 (by decide))).trans d1, d2⟩, by simpa using h.lp, h.lr, h.ld, h.lc, (tr.block _ (lt_of h.res) (other_type p1 h.res (by decide))).trans h.res, h.below.trans ((tr.mono (fun i e => by rw [e]; exact h.new.2.1)).toBelow h.below.size), h.new⟩
  · rw [Array.toList_setIfInBounds, p2]
    have := flat_set (en := ei') (m := 1) (fun _ => rfl) Ps t hl 0 (.int .i64 p) p (by omega) rfl
    rw [Nat.one_mul, Nat.add_zero] at this
    exact this
  · obtain ⟨cur, hc, _⟩ := ownsRow_own h.cl hg
    exact tr.block _ (lt_of hc) (other_type p1 hc (by decide))
theorem RefG.setDone (h : RefG wb w mb pb rb db vt vc m n Ps R D c k) {t : Nat} (ht : t < m) (b : Bool) : RefG wb (w.setCell ⟨db, t, none⟩ (.bool b)) mb pb rb db vt vc m n Ps R (D.set t b) c k := by
  obtain ⟨c1, p1, p2⟩ := h.pl
  obtain ⟨c2, r1, r2⟩ := h.rl
  obtain ⟨c3, d1, d2⟩ := h.dl
  have hl : t < D.length := by rw [h.ld]; exact ht
  have tr : Turn (fun i => i = db) w (w.setCell ⟨db, t, none⟩ (.bool b)) := Turn.setCell w ⟨db, t, none⟩ _ rfl
  refine ⟨(tr.block _ (lt_of h.top) (other_type d1 h.top (by decide))).trans h.top, ⟨c1, (tr.block _ (lt_of p1) (other_type d1 p1 (by decide))).trans p1, p2⟩, ownsRow_block h.cl (fun g hg => ?_), ⟨c2, (tr.block _ (lt_of r1) (other_type d1 r1 (by decide))).trans r1, r2⟩, ⟨_, heap_setCell_same d1 t _, ?_⟩, h.lp, h.lr, by simpa using h.ld, h.lc, (tr.block _ (lt_of h.res) (other_type d1 h.res (by decide))).trans h.res, h.below.trans ((tr.mono (fun i e => by rw [e]; exact h.new.2.2.2)).toBelow h.below.size), h.new⟩
  · obtain ⟨cur, hc, _⟩ := ownsRow_own h.cl hg
    exact tr.block _ (lt_of hc) (other_type d1 hc (by decide))
  · rw [Array.toList_setIfInBounds, d2]
    have := flat_set (en := bcell) (m := 1) (fun _ => rfl) D t hl 0 (.bool b) b (by omega) rfl
    rw [Nat.one_mul, Nat.add_zero] at this
    exact this
theorem RefG.setReg (h : RefG wb w mb pb rb db vt vc m n Ps R D c k) {t i : Nat} (ht : t < m) (hi : i < 8) (h8 : (R.getD t []).length = 8) (z : Int) : RefG wb (w.setCell ⟨rb, t * 8 + i, none⟩ (.int .u64 z)) mb pb rb db vt vc m n Ps (R.set t ((R.getD t []).set i z)) D c k := by
  obtain ⟨c1, p1, p2⟩ := h.pl
  obtain ⟨c2, r1, r2⟩ := h.rl
  obtain ⟨c3, d1, d2⟩ := h.dl
  have hl : t < R.length := by rw [h.lr]; exact ht
  rw [getD_get hl] at h8 ⊢
  have tr : Turn (fun q => q = rb) w (w.setCell ⟨rb, t * 8 + i, none⟩ (.int .u64 z)) := Turn.setCell w ⟨rb, t * 8 + i, none⟩ _ rfl
  refine ⟨(tr.block _ (lt_of h.top) (other_type r1 h.top (by decide))).trans h.top, ⟨c1, (tr.block _ (lt_of p1) (other_type r1 p1 (by decide))).trans p1, p2⟩, ownsRow_block h.cl (fun g hg => ?_), ⟨_, heap_setCell_same r1 _ _, ?_⟩, ⟨c3, (tr.block _ (lt_of d1) (other_type r1 d1 (by decide))).trans d1, d2⟩, h.lp, by simpa using h.lr, h.ld, h.lc, (tr.block _ (lt_of h.res) (other_type r1 h.res (by decide))).trans h.res, h.below.trans ((tr.mono (fun i e => by rw [e]; exact h.new.2.2.1)).toBelow h.below.size), h.new⟩
  · obtain ⟨cur, hc, _⟩ := ownsRow_own h.cl hg
    exact tr.block _ (lt_of hc) (other_type r1 hc (by decide))
  · rw [Array.toList_setIfInBounds, r2, Nat.mul_comm t 8]
    exact flat_set r8_len R t hl i _ _ hi (r8_set h8 hi z)
theorem RefG.setCel (h : RefG wb w mb pb rb db vt vc m n Ps R D c k) {cb cap : Nat} (e : vc = .slice (some ⟨cb, 0, none⟩) n cap) {i : Nat} (hi : i < n) (z : Int) : RefG wb (w.setCell ⟨cb, i, none⟩ (.int .u64 z)) mb pb rb db vt vc m n Ps R D (c.set i z) k := by
  obtain ⟨c1, p1, p2⟩ := h.pl
  obtain ⟨c2, r1, r2⟩ := h.rl
  obtain ⟨c3, d1, d2⟩ := h.dl
  obtain ⟨cb', cap', cur, e', g1, g2, g3, g4, g5, g6⟩ := h.block (by omega)
  rw [e] at e'
  cases e'
  have tr : Turn (fun q => q = cb) w (w.setCell ⟨cb, i, none⟩ (.int .u64 z)) := Turn.setCell w ⟨cb, i, none⟩ _ rfl
  refine ⟨(tr.block _ (lt_of h.top) (other_type g1 h.top (by decide))).trans h.top, ⟨c1, (tr.block _ (lt_of p1) (other_type g1 p1 (by decide))).trans p1, p2⟩, ⟨by simp [ucells, h.lc], Or.inr ⟨cb, cap, _, e, g3, heap_setCell_same g1 i _, g5, g6, by simpa using g4, ?_⟩⟩, ⟨c2, (tr.block _ (lt_of r1) (other_type g1 r1 (by decide))).trans r1, r2⟩, ⟨c3, (tr.block _ (lt_of d1) (other_type g1 d1 (by decide))).trans d1, d2⟩, h.lp, h.lr, h.ld, by simpa using h.lc, (tr.block _ (lt_of h.res) (other_type g1 h.res (by decide))).trans h.res, h.below.trans ((tr.mono (fun i e => by rw [e]; exact g3)).toBelow h.below.size), h.new⟩
  rw [Array.toList_setIfInBounds, List.take_set, g2]
  exact ucells_set c i z
theorem RefG.setSteps (h : RefG wb w mb pb rb db vt vc m n Ps R D c k) (s : Nat) : RefG wb (w.setCell ⟨mb, 5, none⟩ (.int .i64 (s : Int))) mb pb rb db vt vc m n Ps R D c s := by
  obtain ⟨c1, p1, p2⟩ := h.pl
  obtain ⟨c2, r1, r2⟩ := h.rl
  obtain ⟨c3, d1, d2⟩ := h.dl
  have tr : Turn (fun q => q = mb) w (w.setCell ⟨mb, 5, none⟩ (.int .i64 (s : Int))) := Turn.setCell w ⟨mb, 5, none⟩ _ rfl
  refine ⟨heap_setCell_same h.top 5 _, ⟨c1, (tr.block _ (lt_of p1) (other_type h.top p1 (by decide))).trans p1, p2⟩, ownsRow_block h.cl (fun g hg => ?_), ⟨c2, (tr.block _ (lt_of r1) (other_type h.top r1 (by decide))).trans r1, r2⟩, ⟨c3, (tr.block _ (lt_of d1) (other_type h.top d1 (by decide))).trans d1, d2⟩, h.lp, h.lr, h.ld, h.lc, (tr.block _ (lt_of h.res) (other_type h.top h.res (by decide))).trans h.res, h.below.trans ((tr.mono (fun i e => by rw [e]; exact h.new.1)).toBelow h.below.size), h.new⟩
  obtain ⟨cur, hc, _⟩ := ownsRow_own h.cl hg
  exact tr.block _ (lt_of hc) (other_type h.top hc (by decide))
end

end Go.Proofs.Ytibgpjokdpagcaa
