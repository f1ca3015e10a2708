/- Where a node of the document lies; its place, Get, New. -/
import Derived.Test.YtnnkflghnapnpaaNRefJ
import Derived.Test.YtnnkflghnapnpaaNStand
namespace Go.Proofs.Ytnnkflghnapnpaa
open Go.RowKit

def icells (L : List Int) : List Value := L.map fun x => Value.int .i64 x
theorem icells_length (L : List Int) : (icells L).length = L.length := by simp [icells]
theorem icells_get {L : List Int} {i : Nat} {x : Int} (h : L[i]? = some x) : (icells L)[i]? = some (.int .i64 x) := by simp [icells, h]
theorem icells_set (L : List Int) (i : Nat) (x : Int) : (icells L).set i (.int .i64 x) = icells (L.set i x) := by simp [icells]

def HoldsR (KS : List ByteArray) (VS : List Int) (l : List Nat) (ks : List Kv) : Prop := ∀ (j : Nat) (p : Kv), ks[j]? = some p → ∃ s, l[j]? = some s ∧ KS[s]? = some p.1 ∧ VS[s]? = some p.2

def refO (n : Nd) (kb vb : Nat) : Obj := .cells #[.int .u64 n.word, .slice (some ⟨kb, 0, none⟩) 15 15, .slice (some ⟨vb, 0, none⟩) 15 15, .int .i64 n.ins, .int .i64 n.spl] 72 (0, 0)
structure RefG (w : World) (r kb vb : Nat) (KS : List ByteArray) (VS : List Int) (n : Nd) : Prop where
  st : w.heap[r]? = some (refO n kb vb)
  ks : w.heap[kb]? = some (.cells (scells KS).toArray 9 (0, 0))
  vs : w.heap[vb]? = some (.cells (icells VS).toArray 3 (0, 0))
  kl : KS.length = 15
  vl : VS.length = 15
  hold : HoldsR KS VS n.l n.ks
  ok : n.Ok
def RefI (r : Nat) (n : Nd) (w : World) (F : Nat → Prop) : Prop := ∃ kb vb KS VS, RefG w r kb vb KS VS n ∧ ∀ i, F i ↔ (i = r ∨ i = kb ∨ i = vb)

theorem below_dr {B : Nat} {a w : World} (h : Below B a w) (n : Nat) : Below B a (w.drewN n) := ⟨h.os, h.tape, h.output, h.size, h.block⟩

section
variable {w w' : World} {r kb vb : Nat} {KS : List ByteArray} {VS : List Int} {n n' : Nd} {F : Nat → Prop}

theorem RefG.ne1 (h : RefG w r kb vb KS VS n) : r ≠ kb := by
  intro e
  have h1 := h.st
  rw [e, h.ks] at h1
  simp [refO] at h1
theorem RefG.ne2 (h : RefG w r kb vb KS VS n) : r ≠ vb := by
  intro e
  have h1 := h.st
  rw [e, h.vs] at h1
  simp [refO] at h1
theorem RefG.ne3 (h : RefG w r kb vb KS VS n) : kb ≠ vb := by
  intro e
  have h1 := h.ks
  rw [e, h.vs] at h1
  simp at h1
theorem RefG.kept (h : RefG w r kb vb KS VS n) (h1 : w'.heap[r]? = w.heap[r]?) (h2 : w'.heap[kb]? = w.heap[kb]?) (h3 : w'.heap[vb]? = w.heap[vb]?) : RefG w' r kb vb KS VS n :=
  ⟨h1.trans h.st, h2.trans h.ks, h3.trans h.vs, h.kl, h.vl, h.hold, h.ok⟩
theorem RefG.below (h : RefG w r kb vb KS VS n) (hb : Below w.heap.size w w') : RefG w' r kb vb KS VS n :=
  h.kept (hb.block _ (lt_of h.st)) (hb.block _ (lt_of h.ks)) (hb.block _ (lt_of h.vs))
theorem refI_res (r : Nat) (n : Nd) : Res (RefI r n) := by
  refine ⟨fun {w F} h i hi => ?_, fun {w w' F S} h ht hS => ?_⟩
  · obtain ⟨kb, vb, KS, VS, h1, hF⟩ := h
    rcases (hF i).1 hi with rfl | rfl | rfl
    · exact lt_of h1.st
    · exact lt_of h1.ks
    · exact lt_of h1.vs
  · obtain ⟨kb, vb, KS, VS, h1, hF⟩ := h
    exact ⟨kb, vb, KS, VS, h1.kept (ht.block _ (lt_of h1.st) (hS _ ((hF _).2 (Or.inl rfl)))) (ht.block _ (lt_of h1.ks) (hS _ ((hF _).2 (Or.inr (Or.inl rfl))))) (ht.block _ (lt_of h1.vs) (hS _ ((hF _).2 (Or.inr (Or.inr rfl))))), hF⟩
theorem RefI.ok (h : RefI r n w F) : n.Ok := by obtain ⟨_, _, _, _, h, _⟩ := h; exact h.ok

structure RefC (w : World) (r kb vb : Nat) (n : Nd) : Prop where
  c0 : w.cell? ⟨r, 0, none⟩ = some (.int .u64 n.word)
  c1 : w.cell? ⟨r, 1, none⟩ = some (.slice (some ⟨kb, 0, none⟩) 15 15)
  c2 : w.cell? ⟨r, 2, none⟩ = some (.slice (some ⟨vb, 0, none⟩) 15 15)
  c3 : w.cell? ⟨r, 3, none⟩ = some (.int .i64 n.ins)
  c4 : w.cell? ⟨r, 4, none⟩ = some (.int .i64 n.spl)
  ck : ∀ (j : Nat) (p : Kv), n.ks[j]? = some p → w.cell? ⟨kb, n.l.getD j 0, none⟩ = some (.string p.1)
  cv : ∀ (j : Nat) (p : Kv), n.ks[j]? = some p → w.cell? ⟨vb, n.l.getD j 0, none⟩ = some (.int .i64 p.2)
  fr : ∀ i, w.frozen? ⟨r, i, none⟩ = false
  fk : ∀ i, w.frozen? ⟨kb, i, none⟩ = false
  fv : ∀ i, w.frozen? ⟨vb, i, none⟩ = false
theorem RefG.cells (h : RefG w r kb vb KS VS n) : RefC w r kb vb n := by
  have h1 := h.st
  unfold refO at h1
  refine ⟨by rw [cell_of h1]; rfl, by rw [cell_of h1]; rfl, by rw [cell_of h1]; rfl, by rw [cell_of h1]; rfl, by rw [cell_of h1]; rfl, fun j p hp => ?_, fun j p hp => ?_, fun i => frozen_of h1 i, fun i => frozen_of h.ks i, fun i => frozen_of h.vs i⟩
  · obtain ⟨s, e1, e2, e3⟩ := h.hold j p hp
    rw [cell_of h.ks, List.getElem?_toArray, show n.l.getD j 0 = s by simp [List.getD_eq_getElem?_getD, e1]]
    exact scells_get e2
  · obtain ⟨s, e1, e2, e3⟩ := h.hold j p hp
    rw [cell_of h.vs, List.getElem?_toArray, show n.l.getD j 0 = s by simp [List.getD_eq_getElem?_getD, e1]]
    exact icells_get e3

/-! ### place -/
def slotOf (n : Nd) (i : Nat) : Int := if i < n.ks.length then ((n.l.getD i 0 : Nat) : Int) else 0

set_option maxRecDepth 100000 in
set_option maxHeartbeats 1000000 in
theorem place_any (h : RefG w r kb vb KS VS n) {k : ByteArray} {i : Nat} (ha : At k n.ks i) : Calls Try.prog 42 #[.pointer (some ⟨r, 0, none⟩), .string k] w fun e w' => e = .returned (.tuple #[.int .i64 (i : Int), .int .i64 (slotOf n i), .bool (isAt k n.ks i)]) ∧ Below w.heap.size w w' := by
  have ho := h.ok
  have c0 := h.cells.c0
  have hil := ha.le
  have hfew := ho.few
  obtain ⟨V, hV⟩ : ∃ V, n.word = V := ⟨_, rfl⟩
  obtain ⟨N, hN⟩ : ∃ N, n.ks.length = N := ⟨_, rfl⟩
  have HP : Hid (Calls Try.prog 38 #[.int .u64 V] w fun e w' => ∃ z, e = .returned (.tuple #[.int .i64 (N : Int), z]) ∧ OwnN w' w.heap.size z n.l ∧ Below w.heap.size w w') := by
    have := parts_any ho.wd w
    rw [hV, hN] at this
    exact this
  have HC : Hid (∀ u : World, Below w.heap.size w u → RefC u r kb vb n) := fun u hb => (h.below hb).cells
  have HA : Hid (At k n.ks i) := ha
  have HO : Hid n.Ok := ho
  have HN : Hid (n.ks.length = N) := hN
  rw [hV] at c0
  rw [hN] at hil hfew
  clear h ha ho hV hN
  go_enter Try.func42, Try.ntmps42
  go_wp2_with fail
  refine HP.out.mono ?_
  rintro e w1 ⟨z, rfl, ho1, hb1⟩
  obtain ⟨g, cap, hz, hcap1, hcap2, hgl, hcl⟩ := parts_shape ho1 HO.out.len
  have HCl : Hid (∀ (j y : Nat), n.l[j]? = some y → w1.cell? ⟨g, j, none⟩ = some (.int .i64 (y : Int))) := hcl
  have HB1 : Hid (Below w.heap.size w w1) := hb1
  obtain ⟨-, d1, -, -, -, -, -, -, -, -⟩ := HC.out w1 hb1
  unfold maxLen at hcap2
  rw [hz]
  clear hz ho1 hcl HP c0 hb1
  go_wp2_with fail
  go_loopw [9] (fun v wr => ∃ j : Nat, j ≤ i ∧ v = .int .i64 j ∧ ∃ m, wr = w1.drewN m) (fun v _ => i - (intOf v).toNat)
  case atStart => exact ⟨0, Nat.zero_le _, rfl, 0, rfl⟩
  case round =>
    obtain ⟨j, hj, rfl, m, rfl⟩ := hrel
    by_cases hjn : j < N
    · have hjI : (j : Int) < (N : Int) := by omega
      have hjI15 : (j : Int) < 15 := by omega
      obtain ⟨p, hp⟩ : ∃ p, n.ks[j]? = some p := ⟨_, List.getElem?_eq_getElem (by rw [HN.out]; exact hjn)⟩
      obtain ⟨s, e1, e2, e3⟩ := slot_of HO.out (j := j) (by omega)
      have q1 := HCl.out j s e1
      have q2 := (HC.out w1 HB1.out).ck j p hp
      rw [e3] at q2
      have hsI : (s : Int) < 15 := by omega
      obtain ⟨q, hq⟩ : ∃ q, p.1 = q := ⟨_, rfl⟩
      rw [hq] at q2
      have HSl : Hid (slotOf n j = (s : Int)) := by show _ = _; unfold slotOf; rw [if_pos (by rw [HN.out]; exact hjn), e3]
      by_cases hlt : j < i
      · have hb : Op.bytesLess q.toList k.toList = true := by rw [← hq]; exact HA.out.ahead j p hlt hp
        clear hp e1 e3 hq HSl
        go_wp2_with fail
        go_quiet (fail)
        go_wp2_with fail
        go_roundw
        case rel => exact ⟨j + 1, by omega, by go_num, _, rfl⟩
        case measure => simp [intOf]; omega
      · obtain rfl : j = i := by omega
        have hb : Op.bytesLess q.toList k.toList = false := by rw [← hq]; exact HA.out.here p hp
        have HI : Hid (isAt k n.ks j = (q.toList == k.toList)) := by show _ = _; unfold isAt; rw [hp]; dsimp only; rw [hq]
        clear hp e1 e3 hq
        go_wp2_with fail
        go_quiet (fail)
        go_wp2_with fail
        go_quiet (fail)
        go_wp2_with fail
        go_ret3
        refine ⟨by rw [HI.out, HSl.out]; rfl, ?_⟩
        first | exact below_dr HB1.out _ | exact below_dr (below_dr HB1.out _) _ | exact below_dr (below_dr (below_dr HB1.out _) _) _
    · have hjI : ¬ (j : Int) < (N : Int) := by omega
      obtain rfl : j = i := by omega
      obtain rfl : j = N := by omega
      have HI : Hid (isAt k n.ks j = false) := by show _ = _; unfold isAt; rw [List.getElem?_eq_none (by rw [HN.out]; exact Nat.le_refl _)]
      have HSl : Hid (slotOf n j = 0) := by show _ = _; unfold slotOf; rw [if_neg (by rw [HN.out]; omega)]
      go_wp2_with fail
      go_ret3
      exact ⟨by rw [HI.out, HSl.out]; rfl, HB1.out.trans ((below_drewN w1 _).mono HB1.out.size)⟩
end

end Go.Proofs.Ytnnkflghnapnpaa
