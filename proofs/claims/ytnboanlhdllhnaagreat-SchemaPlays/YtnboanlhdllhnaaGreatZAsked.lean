/- mess: Asked of a request that creates a schema. -/
import Derived.Test.YtnboanlhdllhnaaGreatZRdJ
import Derived.Test.YtnboanlhdllhnaaGreatZAskJ
namespace Go.Proofs.YtnboanlhdllhnaaGreat
open Go.RowKit

abbrev reqZ : Obj := reqBox 0 (.string ⟨#[]⟩) (.slice none 0 0) (.int .i64 0) (.slice none 0 0)
abbrev req5 : Obj := reqBox 5 (.string ⟨#[]⟩) (.slice none 0 0) (.int .i64 0) (.slice none 0 0)

def readFs (b : Nat) : Value := .agg #[boundFn 101 b, boundFn 102 b, boundFn 103 b, boundFn 104 b, boundFn 105 b]

set_option maxRecDepth 100000 in
set_option maxHeartbeats 1000000 in
theorem rfields_any (b : Nat) (w : World) : Calls Tryz.prog 79 #[.pointer (some ⟨b, 0, none⟩)] w fun e w' => e = .returned (readFs b) ∧ Below w.heap.size w w' := by
  have hsf := @store_fn
  go_enter Tryz.func79, Tryz.ntmps79
  go_wp2
  refine bodyPost_ret (by simp [results, Tryz.results79, go_sem]; rfl) rfl ?_
  refine ⟨rfl, ?_⟩
  go_grown

section
variable {b : Nat} {s : St} {w : World}
set_option maxHeartbeats 400000 in
theorem rdone_any (h : RdI b s w) : Calls Tryz.prog 80 #[.pointer (some ⟨b, 0, none⟩)] w fun e w' => e = .returned (.bool (decide (s = ([], false)))) ∧ w' = w := by
  obtain ⟨r, z⟩ := s
  have q0 : w.cell? ⟨b, 0, none⟩ = some (.string (bytesOf r)) := by rw [cell_of h]; rfl
  have q1 : w.cell? ⟨b, 1, none⟩ = some (.bool z) := by rw [cell_of h]; rfl
  clear h
  cases z with
  | true =>
    have e : decide ((r, true) = (([], false) : St)) = false := by simp
    rw [e]
    go_enter Tryz.func80, Tryz.ntmps80
    go_wp2
    go_ret
    exact ⟨rfl, rfl⟩
  | false =>
    by_cases hr : r = []
    · subst hr
      have e : decide ((([] : List UInt8), false) = (([], false) : St)) = true := rfl
      have e1 : bytesOf [] = ⟨#[]⟩ := rfl
      rw [e]
      rw [e1] at q0
      go_enter Tryz.func80, Tryz.ntmps80
      go_wp2
      go_ret
      exact ⟨rfl, rfl⟩
    · have e : decide ((r, false) = (([], false) : St)) = false := by simp [hr]
      rw [e]
      have e1 : ¬ (bytesOf r = ⟨#[]⟩) := fun e => hr (by have := congrArg (fun s => s.data.toList) e; rw [bytesOf_list] at this; exact this)
      obtain ⟨t, ht⟩ : ∃ t, bytesOf r = t := ⟨_, rfl⟩
      rw [ht] at q0 e1
      have e2 : ¬ t.toList = [] := fun e => e1 (by rw [Go.ByteArray.toList_eq] at e; cases t; simp at e; rw [e])
      have e3 : t.toList.isEmpty = false := by cases hq : t.toList with | nil => exact absurd hq e2 | cons _ _ => rfl
      clear ht
      go_enter Tryz.func80, Tryz.ntmps80
      go_wp2
      go_ret
      exact ⟨rfl, rfl⟩

/-- what is read into a request -/
def RdTR (b xb : Nat) (w : World) (p : Tab × St) (e : Ending) (w' : World) : Prop :=
  e = .returned (.tuple #[]) ∧ Hid (∃ ca cn cc ia n ic X, RdI b p.2 w' ∧ w'.heap[xb]? = some (reqBox 5 (.string p.1.nm) (.slice ca cn cc) (.int .i64 p.1.key) (.slice ia n ic)) ∧ Turn (fun i => i = b ∨ i = xb) w w' ∧ TabO w' w.heap.size (.slice ca cn cc) (.slice ia n ic) X p.1)

set_option maxRecDepth 100000 in
set_option maxHeartbeats 1000000 in
theorem readTable_any (xb : Nat) (h : RdI b s w) (hr : s.1.length ≤ 1000000) (hne : xb ≠ b) (hx : w.heap[xb]? = some (reqBox 5 (.string ⟨#[]⟩) (.slice none 0 0) (.int .i64 0) (.slice none 0 0))) :
    Calls Tryz.prog 103 #[.pointer (some ⟨b, 0, none⟩), .pointer (some ⟨xb, 0, none⟩)] w (RdTR b xb w (rTb s)) := by
  have hbl := lt_of h
  have hxl := lt_of hx
  obtain ⟨p, hp⟩ : ∃ p, rTb s = p := ⟨_, rfl⟩
  have H1 : Hid (Calls Tryz.prog 132 #[.pointer (some ⟨b, 0, none⟩)] w fun e w' => ∃ ca cn cc ia n ic, e = .returned (.agg #[.string p.1.nm, .slice ca cn cc, .int .i64 p.1.key, .slice ia n ic]) ∧ Hid (∃ X, RdI b p.2 w' ∧ At1 b w w' ∧ TabO w' w.heap.size (.slice ca cn cc) (.slice ia n ic) X p.1)) := by
    rw [← hp]
    exact (rtable_any h hr).mono fun e w' ⟨ca, cn, cc, ia, n, ic, X, e1, e2⟩ => ⟨ca, cn, cc, ia, n, ic, e1, X, e2.out⟩
  have HX : Hid (∀ u, At1 b w u → u.heap[xb]? = some (reqBox 5 (.string ⟨#[]⟩) (.slice none 0 0) (.int .i64 0) (.slice none 0 0))) := fun u hu => (hu.block xb hxl hne).trans hx
  have HC : Hid (∀ u, At1 b w u → u.cell? ⟨xb, 4, none⟩ = some (.string ⟨#[]⟩) ∧ u.cell? ⟨xb, 5, none⟩ = some (.slice none 0 0) ∧ u.cell? ⟨xb, 6, none⟩ = some (.int .i64 0) ∧ u.cell? ⟨xb, 7, none⟩ = some (.slice none 0 0) ∧ u.frozen? ⟨xb, 4, none⟩ = false ∧ u.frozen? ⟨xb, 5, none⟩ = false ∧ u.frozen? ⟨xb, 6, none⟩ = false ∧ u.frozen? ⟨xb, 7, none⟩ = false) := fun u hu => by
    have k := HX.out u hu
    exact ⟨by rw [cell_of k]; rfl, by rw [cell_of k]; rfl, by rw [cell_of k]; rfl, by rw [cell_of k]; rfl, frozen_of k 4, frozen_of k 5, frozen_of k 6, frozen_of k 7⟩
  rw [hp]
  obtain ⟨nm, hnm⟩ : ∃ nm, p.1.nm = nm := ⟨_, rfl⟩
  obtain ⟨key, hkey⟩ : ∃ key, p.1.key = key := ⟨_, rfl⟩
  have HE : Hid (p.1.nm = nm ∧ p.1.key = key) := ⟨hnm, hkey⟩
  rw [hnm, hkey] at H1
  clear h hx hp hnm hkey
  go_enter Tryz.func103, Tryz.ntmps103
  go_wp2_with (go_at_call 132; go_must (refine H1.out.mono ?_; rintro e w1 ⟨ca, cn, cc, ia, n, ic, rfl, K1⟩; obtain ⟨c4, c5, c6, c7, f4, f5, f6, f7⟩ := HC.out w1 (by obtain ⟨X, _, h, _⟩ := K1.out; exact h)))
  go_end0
  obtain ⟨X, x1, x2, x3⟩ := K1.out
  have ht : Turn (fun i => i = xb) w1 ((((w1.setCell ⟨xb, 4, none⟩ (.string nm)).setCell ⟨xb, 5, none⟩ (.slice ca cn cc)).setCell ⟨xb, 6, none⟩ (.int .i64 key)).setCell ⟨xb, 7, none⟩ (.slice ia n ic)) := (((Turn.setCell (S := fun i => i = xb) w1 ⟨xb, 4, none⟩ _ rfl).trans (Turn.setCell _ ⟨xb, 5, none⟩ _ rfl)).trans (Turn.setCell _ ⟨xb, 6, none⟩ _ rfl)).trans (Turn.setCell _ ⟨xb, 7, none⟩ _ rfl)
  refine ⟨rfl, ca, cn, cc, ia, n, ic, X, (ht.block b (lt_of x1) (Ne.symm hne)).trans x1, ?_, (x2.mono (fun i hi => Or.inl hi)).trans (ht.mono (fun i hi => Or.inr hi)), ?_⟩
  · rw [HE.out.1, HE.out.2]
    exact heap_setCell_same (heap_setCell_same (heap_setCell_same (heap_setCell_same (HX.out w1 x2) 4 _) 5 _) 6 _) 7 _
  · have fr : ∀ {T : TypeId} {m k : Nat} {v : Value} {xs : List Value}, w1.ownsRow w.heap.size T m v k xs → World.ownsRow _ w.heap.size T m v k xs := fun hrow =>
      ownsRow_block hrow fun g hg => ht.block g (World.ownsRow.lt hrow g hg).2 (by have := (World.ownsRow.lt hrow g hg).1; omega)
    exact ⟨fr x3.co, fr x3.ix, x3.eq, fun x hx => fr (x3.nums x hx)⟩
end

/-- all of the bytes are one schema -/
def rdAll (B : List UInt8) : Option Tab := if B.length + 16 ≤ 65536 ∧ (rTb (B, false)).2 = ([], false) then some (rTb (B, false)).1 else none
theorem rdAll_some {B : List UInt8} {T : Tab} (h : rdAll B = some T) : rdTab B = some (T, []) := by
  unfold rdAll at h
  split at h
  · rename_i hc
    cases hq : rdTab B with
    | none => rw [reads_tab.no _ hq] at hc; simp at hc
    | some q =>
      obtain ⟨x, r⟩ := q
      rw [reads_tab.yes _ _ _ hq] at hc h
      simp only [Prod.mk.injEq, and_true] at hc
      cases h
      rw [hc.2]
  · cases h
theorem rdAll_of {B : List UInt8} {T : Tab} (h : rdTab B = some (T, [])) (hl : B.length + 16 ≤ 65536) : rdAll B = some T := by
  unfold rdAll
  rw [reads_tab.yes _ _ _ h, if_pos ⟨hl, rfl⟩]

/-- Asked, as far as it has come: its reader, its request, and where its answer will lie -/
structure AS (w u : World) (b xb : Nat) (s : St) (X : Obj) : Prop where
  rd : RdI b s u
  x : u.heap[xb]? = some X
  q : u.heap[w.heap.size]? = some reqZ
  below : Below w.heap.size w u
  hb : b = w.heap.size + 1
  hx : w.heap.size + 1 < xb
theorem AS.kept {w u u' : World} {b xb : Nat} {s : St} {X : Obj} (h : AS w u b xb s X) (hb : Below u.heap.size u u') : AS w u' b xb s X :=
  ⟨h.rd.below hb, (hb.block xb (lt_of h.x)).trans h.x, (hb.block _ (lt_of h.q)).trans h.q, h.below.trans (hb.mono h.below.size), h.hb, h.hx⟩
/-- all cells of a block, one behind the other -/
def setAll (W : World) (p : Nat) : Nat → List Value → World
  | _, [] => W
  | i, v :: r => setAll (W.setCell ⟨p, i, none⟩ v) p (i + 1) r
theorem setAll_turn (p : Nat) : ∀ (l : List Value) (i : Nat) (W : World), Turn (fun j => j = p) W (setAll W p i l)
  | [], _, _ => Turn.refl _ _
  | v :: r, i, W => (Turn.setCell (S := fun j => j = p) W ⟨p, i, none⟩ v rfl).trans (setAll_turn p r (i + 1) _)

/-- what Asked answers -/
def AskedR (B : List UInt8) (w : World) (e : Ending) (w' : World) : Prop :=
  Below w.heap.size w w' ∧ ((∃ T ca cn cc ia n ic X, rdAll B = some T ∧ e = .returned (.tuple #[reqVal 5 (.string T.nm) (.slice ca cn cc) (.int .i64 T.key) (.slice ia n ic), .int .i64 0]) ∧ TabO w' w.heap.size (.slice ca cn cc) (.slice ia n ic) X T) ∨
    (rdAll B = none ∧ ∃ m : Int, m ≠ 0 ∧ e = .returned (.tuple #[reqVal 0 (.string ⟨#[]⟩) (.slice none 0 0) (.int .i64 0) (.slice none 0 0), .int .i64 m])))

set_option maxRecDepth 100000 in
set_option maxHeartbeats 2000000 in
theorem asked_any (B : List UInt8) (w : World) (hB : B.length ≤ 900000) :
    Calls Tryz.prog 53 #[.string (bytesOf (le8 5 ++ (le8 0 ++ B)))] w (AskedR B w) := by
  have hl : (le8 5 ++ (le8 0 ++ B)).length = B.length + 16 := by simp only [List.length_append, le8_length]; omega
  have hsz : (bytesOf (le8 5 ++ (le8 0 ++ B))).size = B.length + 16 := by rw [bytesOf_size, hl]
  have n1 : rN (le8 5 ++ (le8 0 ++ B), false) = (5, (le8 0 ++ B, false)) := reads_num.yes _ _ _ (two_num.there 5 _ ⟨by decide, by decide⟩)
  have n2 : rN (le8 0 ++ B, false) = (0, (B, false)) := reads_num.yes _ _ _ (two_num.there 0 _ ⟨by decide, by decide⟩)
  obtain ⟨t, ht⟩ : ∃ t, bytesOf (le8 5 ++ (le8 0 ++ B)) = t := ⟨_, rfl⟩
  obtain ⟨k, hk⟩ : ∃ k, B.length + 16 = k := ⟨_, rfl⟩
  rw [ht, hk] at hsz
  by_cases hlong : 65536 < k
  · have HN : Hid (rdAll B = none) := by show _ = _; unfold rdAll; rw [if_neg (by omega)]
    rw [ht]
    have k1 : (65536 : Int) < (k : Int) := by omega
    clear hl n1 n2 ht hk
    go_enter Tryz.func53, Tryz.ntmps53
    go_wp2
    refine bodyPost_ret (by simp [results, Tryz.results53, go_sem]; rfl) rfl ?_
    refine ⟨by go_grown, Or.inr ⟨HN.out, 2, by decide, rfl⟩⟩
  · rw [← ht] at hsz
    have k1 : ¬ (65536 : Int) < (k : Int) := by omega
    obtain ⟨w0, hw0⟩ : ∃ w0, (w.alloc (reqBox 0 (.string ⟨#[]⟩) (.slice none 0 0) (.int .i64 0) (.slice none 0 0))).alloc (.cells #[.string (bytesOf (le8 5 ++ (le8 0 ++ B))), .bool false] 136) = w0 := ⟨_, rfl⟩
    obtain ⟨b, hb⟩ : ∃ b, w.heap.size + 1 = b := ⟨_, rfl⟩
    have hr0 : RdI b (le8 5 ++ (le8 0 ++ B), false) w0 := by
      rw [← hw0, ← hb]
      have := heap_new (w.alloc (reqBox 0 (.string ⟨#[]⟩) (.slice none 0 0) (.int .i64 0) (.slice none 0 0))) (.cells #[.string (bytesOf (le8 5 ++ (le8 0 ++ B))), .bool false] 136)
      have hz : (w.alloc (reqBox 0 (.string ⟨#[]⟩) (.slice none 0 0) (.int .i64 0) (.slice none 0 0))).heap.size = w.heap.size + 1 := by simp
      rw [hz] at this
      exact this
    have hq0 : w0.heap[w.heap.size]? = some (reqBox 0 (.string ⟨#[]⟩) (.slice none 0 0) (.int .i64 0) (.slice none 0 0)) := by
      rw [← hw0]
      exact (Below.heap_alloc _ _ _ (by simp)).trans (heap_new w _)
    have hbl0 : Below w.heap.size w w0 := by
      rw [← hw0]
      exact ((Below.refl _ w).alloc (Nat.le_refl _) _).alloc (by simp) _
    have HW0 : Hid (w0.heap[w.heap.size]? = some reqZ ∧ Below w.heap.size w w0 ∧ w0.heap.size = w.heap.size + 2) := ⟨hq0, hbl0, by rw [← hw0]; simp⟩
    have HB : Hid (w.heap.size + 1 = b) := hb
    have HN1 : Hid (Calls Tryz.prog 78 #[.pointer (some ⟨b, 0, none⟩)] w0 fun e w' => e = .returned (.int .i64 5) ∧ Hid (RdI b (le8 0 ++ B, false) w' ∧ At1 b w0 w')) := by
      have := rnumber_any hr0 (by show (le8 5 ++ (le8 0 ++ B)).length ≤ _; omega)
      rw [n1] at this
      exact this
    have HN2 : Hid (∀ u, RdI b (le8 0 ++ B, false) u ∧ At1 b w0 u → Calls Tryz.prog 78 #[.pointer (some ⟨b, 0, none⟩)] u fun e w' => e = .returned (.int .i64 0) ∧ Hid (RdI b (B, false) w' ∧ At1 b w0 w')) := fun u hu => by
      have := rnumber_any hu.1 (by show (le8 0 ++ B).length ≤ _; rw [List.length_append, le8_length]; omega)
      rw [n2] at this
      exact this.mono fun e w' ⟨e1, e2, e3⟩ => ⟨e1, e2, hu.2.trans e3⟩
    obtain ⟨t, ht⟩ : ∃ t, bytesOf (le8 5 ++ (le8 0 ++ B)) = t := ⟨_, rfl⟩
    rw [ht] at hsz hw0 ⊢
    have hsf := @store_fn
    clear hl n1 n2 ht hr0 hq0 hbl0
    go_enter Tryz.func53, Tryz.ntmps53
    go_wp2_with (first
      | (go_at_call 78; refine (HN2.out _ K1.out).mono ?_; rintro e w2 ⟨rfl, K2⟩)
      | (go_at_call 78; go_must (refine HN1.out.mono ?_; rintro e w1 ⟨rfl, K1⟩)))
    obtain ⟨w3, hw3⟩ : ∃ w3, w2.alloc req5 = w3 := ⟨_, rfl⟩
    obtain ⟨xb, hxb⟩ : ∃ xb, w2.heap.size = xb := ⟨_, rfl⟩
    have HA : Hid (AS w w3 b xb (B, false) req5) := by
      rw [← hw3, ← hxb]
      have hsz2 := K2.out.2.size
      have hsz0 : w0.heap.size = w.heap.size + 2 := HW0.out.2.2
      have hb2 : Below w2.heap.size w2 (w2.alloc req5) := (Below.refl _ w2).alloc (Nat.le_refl _) _
      have hq2 : w2.heap[w.heap.size]? = some reqZ := (K2.out.2.block _ (by omega) (by rw [← HB.out]; omega)).trans HW0.out.1
      have hbw : Below w.heap.size w w2 := HW0.out.2.1.trans ((K2.out.2.mono (S' := fun i => w.heap.size ≤ i) (fun i hi => by rw [hi, ← HB.out]; omega)).toBelow (by omega))
      exact ⟨K2.out.1.below hb2, heap_new w2 _, (hb2.block _ (lt_of hq2)).trans hq2, hbw.trans (hb2.mono hbw.size), HB.out.symm, by omega⟩
    have c0 : w3.cell? ⟨xb, 0, none⟩ = some (.int .i64 5) := by rw [cell_of HA.out.x]; rfl
    have HFl : Hid (∀ m, Calls Tryz.prog 79 #[.pointer (some ⟨b, 0, none⟩)] (w3.drewN m) fun e w' => e = .returned (readFs b) ∧ Hid (AS w w' b xb (B, false) req5) ∧ w'.cell? ⟨xb, 0, none⟩ = some (.int .i64 5)) := fun m => (rfields_any b _).mono fun e w' ⟨e1, e2⟩ => by
      have h1 := HA.out.kept ((below_drewN w3 m).trans e2)
      exact ⟨e1, h1, by rw [cell_of h1.x]; rfl⟩
    have HOf : Hid (∀ u, AS w u b xb (B, false) req5 → Calls Tryz.prog 69 #[readFs b, .int .i64 5] u fun e w' => ∃ g, e = .returned (.slice (some ⟨g, 0, none⟩) 1 1) ∧ w'.cell? ⟨g, 0, none⟩ = some (boundFn 103 b) ∧ Hid (AS w w' b xb (B, false) req5) ∧ w'.cell? ⟨xb, 0, none⟩ = some (.int .i64 5)) := fun u hu => (of_five _ _ _ _ _ (.pointer (some ⟨b, 0, none⟩)) u).mono fun e w' ⟨g, e1, e2, e3, e4⟩ => by
      have h1 := hu.kept e4.out
      exact ⟨g, e1, e2, h1, by rw [cell_of h1.x]; rfl⟩
    have HRT : Hid (∀ u, AS w u b xb (B, false) req5 → Calls Tryz.prog 103 #[.pointer (some ⟨b, 0, none⟩), .pointer (some ⟨xb, 0, none⟩)] u fun e w' => ∃ ca cn cc ia n ic, e = .returned (.tuple #[]) ∧ Hid (∃ X, AS w w' b xb (rTb (B, false)).2 (reqBox 5 (.string (rTb (B, false)).1.nm) (.slice ca cn cc) (.int .i64 (rTb (B, false)).1.key) (.slice ia n ic)) ∧ TabO w' (w.heap.size + 1) (.slice ca cn cc) (.slice ia n ic) X (rTb (B, false)).1)) := fun u hu =>
      (readTable_any xb hu.rd (by show B.length ≤ _; omega) (by have := hu.hb; have := hu.hx; omega) hu.x).mono fun e w' ⟨e1, e2⟩ => by
        obtain ⟨ca, cn, cc, ia, n, ic, X, x1, x2, x3, x4⟩ := e2.out
        have hus := lt_of hu.x
        have h1 := hu.hb
        have h2 := hu.hx
        exact ⟨ca, cn, cc, ia, n, ic, e1, X, ⟨x1, x2, (x3.block _ (by omega) (by omega)).trans hu.q, hu.below.trans ((x3.mono (S' := fun i => w.heap.size ≤ i) (fun i hi => by omega)).toBelow hu.below.size), hu.hb, hu.hx⟩, x4.low (by omega)⟩
    have HD : Hid (∀ u s X, AS w u b xb s X → Calls Tryz.prog 80 #[.pointer (some ⟨b, 0, none⟩)] u fun e w' => e = .returned (.bool (decide (s = ([], false)))) ∧ u = w') := fun u s X hu => (rdone_any hu.rd).mono fun e w' ⟨e1, e2⟩ => ⟨e1, e2.symm⟩
    have HQ : Hid (∀ u s X, AS w u b xb s X → (u.cell? ⟨w.heap.size, 0, none⟩ = some (.int .i64 0) ∧ u.cell? ⟨w.heap.size, 1, none⟩ = some (.int .i64 0) ∧ u.cell? ⟨w.heap.size, 2, none⟩ = some (.string ⟨#[]⟩) ∧ u.cell? ⟨w.heap.size, 3, none⟩ = some (.string ⟨#[]⟩) ∧ u.cell? ⟨w.heap.size, 4, none⟩ = some (.string ⟨#[]⟩) ∧ u.cell? ⟨w.heap.size, 5, none⟩ = some (.slice none 0 0) ∧ u.cell? ⟨w.heap.size, 6, none⟩ = some (.int .i64 0) ∧ u.cell? ⟨w.heap.size, 7, none⟩ = some (.slice none 0 0) ∧ u.cell? ⟨w.heap.size, 8, none⟩ = some (.slice none 0 0) ∧ u.cell? ⟨w.heap.size, 9, none⟩ = some (.slice none 0 0)) ∧ ∀ j, u.frozen? ⟨w.heap.size, j, none⟩ = false) := fun u s X hu => by
      have k := hu.q
      refine ⟨⟨?_, ?_, ?_, ?_, ?_, ?_, ?_, ?_, ?_, ?_⟩, fun j => frozen_of k j⟩ <;> (rw [cell_of k]; rfl)
    obtain ⟨T, hT⟩ : ∃ T, (rTb (B, false)).1 = T := ⟨_, rfl⟩
    obtain ⟨s, hs⟩ : ∃ s, (rTb (B, false)).2 = s := ⟨_, rfl⟩
    obtain ⟨nm, hnm⟩ : ∃ nm, T.nm = nm := ⟨_, rfl⟩
    obtain ⟨key, hkey⟩ : ∃ key, T.key = key := ⟨_, rfl⟩
    have HE : Hid (T.nm = nm ∧ T.key = key) := ⟨hnm, hkey⟩
    have HR : Hid (s = ([], false) → rdAll B = some T) := fun e => by
      unfold rdAll
      rw [hs, hT, if_pos ⟨by omega, e⟩]
    have HR2 : Hid (¬ s = ([], false) → rdAll B = none) := fun e => by
      unfold rdAll
      rw [hs, if_neg (fun h => e h.2)]
    rw [hT, hs, hnm, hkey] at HRT
    have HXc : Hid (∀ u ca cn cc ia n ic, AS w u b xb s (reqBox 5 (.string nm) (.slice ca cn cc) (.int .i64 key) (.slice ia n ic)) → u.cell? ⟨xb, 0, none⟩ = some (.int .i64 5) ∧ u.cell? ⟨xb, 1, none⟩ = some (.int .i64 0) ∧ u.cell? ⟨xb, 2, none⟩ = some (.string ⟨#[]⟩) ∧ u.cell? ⟨xb, 3, none⟩ = some (.string ⟨#[]⟩) ∧ u.cell? ⟨xb, 4, none⟩ = some (.string nm) ∧ u.cell? ⟨xb, 5, none⟩ = some (.slice ca cn cc) ∧ u.cell? ⟨xb, 6, none⟩ = some (.int .i64 key) ∧ u.cell? ⟨xb, 7, none⟩ = some (.slice ia n ic) ∧ u.cell? ⟨xb, 8, none⟩ = some (.slice none 0 0) ∧ u.cell? ⟨xb, 9, none⟩ = some (.slice none 0 0)) := fun u ca cn cc ia n ic hu => by
      have k := hu.x
      refine ⟨?_, ?_, ?_, ?_, ?_, ?_, ?_, ?_, ?_, ?_⟩ <;> (rw [cell_of k]; rfl)
    rw [hxb, hw3]
    unfold readFs at HFl HOf
    unfold boundFn at HFl HOf
    clear HA HN1 HN2 K1 K2 hxb hw3 hT hs hnm hkey hw0 HW0 hB hk hlong
    go_region_held3 (fun u => u.cell? ⟨xb, 0, none⟩ = some (.int .i64 5)) (go_keep)
      (first
        | (go_at_call 79; go_must (refine (HFl.out _).mono ?_; rintro e w5 ⟨rfl, K3, r0⟩))
        | (go_at_call 69; go_must (refine (HOf.out _ K3.out).mono ?_; rintro e w6 ⟨g, rfl, r1, K4, r2⟩)))
    go_wp2_with fail
    refine wp_loop_rounds 2 ?_
    rw [rounds_succ]
    go_wp2_with (go_at_call 103; go_must (refine (HRT.out _ K4.out).mono ?_; rintro e w7 ⟨ca, cn, cc, ia, n, ic, rfl, K5⟩))
    rw [rounds_succ]
    obtain ⟨X, K6, K7⟩ := K5.out
    have K6' : Hid (AS w w7 b xb s (reqBox 5 (.string nm) (.slice ca cn cc) (.int .i64 key) (.slice ia n ic))) := K6
    have K7' : Hid (TabO w7 (w.heap.size + 1) (.slice ca cn cc) (.slice ia n ic) X T) := K7
    obtain ⟨⟨d0, d1, d2, d3, d4, d5, d6, d7, d8, d9⟩, hf⟩ := HQ.out _ _ _ K6
    obtain ⟨e0, e1, e2, e3, e4, e5, e6, e7, e8, e9⟩ := HXc.out _ _ _ _ _ _ _ K6
    have HDn : Hid (Calls Tryz.prog 80 #[.pointer (some ⟨b, 0, none⟩)] w7 fun e w' => e = .returned (.bool (decide (s = ([], false)))) ∧ w7 = w') := HD.out _ _ _ K6
    have hne : w.heap.size ≠ xb := by have := K6.hx; omega
    clear K5 K6 K7 HFl HOf HRT HD HQ HXc K3 K4 r0 r1 r2
    have HIR : Hid (∀ u, Calls Tryz.prog 65 #[.int .i64 5, .int .i64 0] u fun e w' => e = .returned (.bool true) ∧ u = w') := fun u => (isRequest_five u).mono fun e w' ⟨e1, e2⟩ => ⟨e1, e2.symm⟩
    by_cases hgood : s = ([], false)
    · have hd : decide (s = ([], false)) = true := decide_eq_true hgood
      rw [hd] at HDn
      clear hd
      go_wp2_with (first
        | (go_at_call 80; go_must (refine HDn.out.mono ?_; rintro e w8 ⟨rfl, rfl⟩))
        | (go_at_call 65; go_must (refine (HIR.out _).mono ?_; rintro e w9 ⟨rfl, rfl⟩)))
      refine bodyPost_ret (by simp [results, Tryz.results53, go_sem, d0, d1, d2, d3, d4, d5, d6, d7, d8, d9]; rfl) rfl ?_
      have ht := setAll_turn w.heap.size [.int .i64 5, .int .i64 0, .string ⟨#[]⟩, .string ⟨#[]⟩, .string nm, .slice ca cn cc, .int .i64 key, .slice ia n ic, .slice none 0 0, .slice none 0 0] 0 w7
      have hbw := K6'.out.below
      refine ⟨hbw.trans ((ht.mono (S' := fun i => w.heap.size ≤ i) (fun i hi => by omega)).toBelow hbw.size), Or.inl ⟨T, ca, cn, cc, ia, n, ic, X, HR.out hgood, by rw [HE.out.1, HE.out.2], ?_⟩⟩
      have fr : ∀ {T : TypeId} {m k : Nat} {v : Value} {xs : List Value}, w7.ownsRow (w.heap.size + 1) T m v k xs → World.ownsRow _ w.heap.size T m v k xs := fun hrow =>
        ownsRow_low (ownsRow_block hrow fun g hg => ht.block g (World.ownsRow.lt hrow g hg).2 (by have := (World.ownsRow.lt hrow g hg).1; omega)) (by omega)
      exact ⟨fr K7'.out.co, fr K7'.out.ix, K7'.out.eq, fun x hx => fr (K7'.out.nums x hx)⟩
    · have hd : decide (s = ([], false)) = false := decide_eq_false hgood
      rw [hd] at HDn
      clear hd
      go_wp2_with (go_at_call 80; go_must (refine HDn.out.mono ?_; rintro e w8 ⟨rfl, rfl⟩))
      refine bodyPost_ret (by simp [results, Tryz.results53, go_sem, d0, d1, d2, d3, d4, d5, d6, d7, d8, d9]; rfl) rfl ?_
      have ht := setAll_turn w.heap.size [.int .i64 0, .int .i64 0, .string ⟨#[]⟩, .string ⟨#[]⟩, .string ⟨#[]⟩, .slice none 0 0, .int .i64 0, .slice none 0 0, .slice none 0 0, .slice none 0 0] 0 w7
      have hbw := K6'.out.below
      exact ⟨hbw.trans ((ht.mono (S' := fun i => w.heap.size ≤ i) (fun i hi => by omega)).toBelow hbw.size), Or.inr ⟨HR2.out hgood, 80, by decide, rfl⟩⟩

end Go.Proofs.YtnboanlhdllhnaaGreat
