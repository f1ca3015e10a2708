import Derived.Test.YtigegdelhpdlhaaGreatDoorJSortJ
/- Layer 18: wal.Load of a disk of logs (at most twenty entries). -/
namespace Go.Proofs.YtigegdelhpdlhaaGreatDoor
open Go.RowKit QP

abbrev lisO (v : Value) : Obj := .cells #[v] 38 (0, 0)
abbrev numO (z : Int) : Obj := .cells #[.int .i64 z] 3 (0, 0)
theorem EntsO.turn {S : Nat → Prop} {w w' : World} {base : Nat} {t k : ByteArray} {v : Value} {L : List Er} (h : EntsO w base t k v L) (ht : Turn S w w') (h1 : ∀ g, v.ownBlock = some g → ¬ S g) (h2 : ∀ e ∈ L, ¬ S e.g ∧ ¬ S e.x) : EntsO w' base t k v L := by
  refine ⟨⟨h.row.1, ?_⟩, fun e he => ?_⟩
  · rcases h.row.2 with q | ⟨g, cap, cur, rfl, hg, hh, r⟩
    · exact Or.inl q
    · exact Or.inr ⟨g, cap, cur, rfl, hg, (ht.block g (lt_of hh) (h1 g rfl)).trans hh, r⟩
  · obtain ⟨q1, q2, q3⟩ := h.ent e he
    exact ⟨(ht.block _ (lt_of q1) (h2 e he).1).trans q1, oneAt_turn q2 ht (h2 e he).2, q3⟩
/-- blocks of the caller's own, below the slice's, are written -/
theorem EntsO.set {w : World} {base : Nat} {t k : ByteArray} {v : Value} {L : List Er} (h : EntsO w base t k v L) (y i : Nat) (z : Value) (hy : y < base) : EntsO (w.setCell ⟨y, i, none⟩ z) base t k v L :=
  h.turn (S := fun j => j = y) (Turn.setCell (S := fun j => j = y) w ⟨y, i, none⟩ z rfl) (fun g hg e => by have := (World.ownsRow.lt h.row g hg).1; omega) (fun e he => by
    obtain ⟨_, _, q3, q4, _⟩ := h.ent e he
    exact ⟨fun h => by omega, fun h => by omega⟩)

section
variable {d D : Nat} {t k : ByteArray} {R : List Er}
set_option maxRecDepth 100000 in
set_option maxHeartbeats 1000000 in
theorem jLoad1_any (P : List (Nat × Nat)) (p y z : Nat) (u : World) (hp : u.heap[p]? = some (.cells #[.pointer (some ⟨d, 0, none⟩)] 23 (0, 0))) (hy : u.heap[y]? = some (lisO (.slice none 0 0))) (hz : u.heap[z]? = some (numO 0)) (hyz : y ≠ z)
    (h : Calls Tryz.prog 46 #[.pointer (some ⟨d, 0, none⟩)] u fun e w' => ∃ v, e = .returned (.tuple #[v, .int .i64 (D : Int)]) ∧ ∃ R, Hid (EntsO w' u.heap.size t k v (sortE R)) ∧ Hid (R.map Er.tn = P) ∧ Hid (Below u.heap.size u w')) :
    Calls Tryz.prog 45 #[.pointer (some ⟨p, 0, none⟩), .pointer (some ⟨y, 0, none⟩), .pointer (some ⟨z, 0, none⟩)] u fun r w' => r = .returned (.tuple #[]) ∧ ∃ v R w1, EntsO w1 u.heap.size t k v (sortE R) ∧ R.map Er.tn = P ∧ Below u.heap.size u w1 ∧ w' = (w1.setCell ⟨y, 0, none⟩ v).setCell ⟨z, 0, none⟩ (.int .i64 (D : Int)) := by
  have HC : Hid (Calls Tryz.prog 46 #[.pointer (some ⟨d, 0, none⟩)] u fun e w' => ∃ v, e = .returned (.tuple #[v, .int .i64 (D : Int)]) ∧ ∃ R, Hid (EntsO w' u.heap.size t k v (sortE R)) ∧ Hid (R.map Er.tn = P) ∧ Hid (Below u.heap.size u w')) := h
  have HY : Hid (u.heap[y]? = some (lisO (.slice none 0 0)) ∧ u.heap[z]? = some (numO 0)) := ⟨hy, hz⟩
  have dp : u.cell? ⟨p, 0, none⟩ = some (.pointer (some ⟨d, 0, none⟩)) := by rw [cell_of hp]; rfl
  clear h hp hy hz
  go_enter Tryz.func45, Tryz.ntmps45
  go_wp2_with fail
  refine HC.out.mono ?_
  rintro e w1 ⟨v, rfl, R, HE, HR, HB⟩
  have hy1 := (HB.out.block y (lt_of HY.out.1)).trans HY.out.1
  have hz1 := (HB.out.block z (lt_of HY.out.2)).trans HY.out.2
  have y0 : w1.cell? ⟨y, 0, none⟩ = some (.slice none 0 0) := by rw [cell_of hy1]; rfl
  have z0 : w1.cell? ⟨z, 0, none⟩ = some (.int .i64 0) := by rw [cell_of hz1]; rfl
  have fy := frozen_of hy1 0
  have fz := frozen_of hz1 0
  obtain ⟨A, c, hv⟩ := row_shapeJ HE.out.row
  have hv1 : v.oneCell' = true := by rw [hv]; rfl
  clear hy1 hz1
  go_wp2_with fail
  go_end0
  exact ⟨rfl, v, R, w1, HE.out, HR.out, HB.out, by rw [hv]⟩

set_option maxRecDepth 100000 in
set_option maxHeartbeats 2000000 in
theorem jLoad_calls (P : List (Nat × Nat)) (w : World) (h : ∀ u, Below w.heap.size w u → Calls Tryz.prog 46 #[.pointer (some ⟨d, 0, none⟩)] u fun e w' => ∃ v, e = .returned (.tuple #[v, .int .i64 (D : Int)]) ∧ ∃ R, Hid (EntsO w' u.heap.size t k v (sortE R)) ∧ Hid (R.map Er.tn = P) ∧ Hid (Below u.heap.size u w')) :
    Calls Tryz.prog 19 #[.pointer (some ⟨d, 0, none⟩)] w fun e w' => ∃ v, e = .returned (.tuple #[v, .int .i64 (D : Int), .int .i64 0]) ∧ ∃ R, Hid (EntsO w' w.heap.size t k v (sortE R)) ∧ Hid (R.map Er.tn = P) ∧ Hid (Below w.heap.size w w') := by
  have hmf : ∀ (fn : Fn) (first cap : Array Value) (w : World), (Instr.makeFunc fn first cap).run Tryz.prog w = .ok (.func fn first cap) w := fun _ _ _ _ => rfl
  obtain ⟨q, hq⟩ : ∃ q, w.heap.size = q := ⟨_, rfl⟩
  obtain ⟨wT, hwT⟩ : ∃ u, ((w.alloc (.cells #[.pointer (some ⟨d, 0, none⟩)] 23)).alloc (lisO (.slice none 0 0))).alloc (numO 0) = u := ⟨_, rfl⟩
  have b1 : Below w.heap.size w (w.alloc (.cells #[.pointer (some ⟨d, 0, none⟩)] 23)) := (Below.refl _ _).alloc (Nat.le_refl _) _
  have b2 := b1.alloc b1.size (lisO (.slice none 0 0))
  have b3 := b2.alloc b2.size (numO 0)
  have hn0 := (Below.heap_alloc _ (numO 0) w.heap.size (by simp; omega)).trans ((Below.heap_alloc _ (lisO (.slice none 0 0)) w.heap.size (by simp)).trans (heap_new w (.cells #[.pointer (some ⟨d, 0, none⟩)] 23)))
  have hn1 := (Below.heap_alloc _ (numO 0) (w.alloc (.cells #[.pointer (some ⟨d, 0, none⟩)] 23)).heap.size (by simp)).trans (heap_new (w.alloc (.cells #[.pointer (some ⟨d, 0, none⟩)] 23)) (lisO (.slice none 0 0)))
  have hn2 := heap_new ((w.alloc (.cells #[.pointer (some ⟨d, 0, none⟩)] 23)).alloc (lisO (.slice none 0 0))) (numO 0)
  have hsz : wT.heap.size = q + 3 := by rw [← hwT]; simp [hq]
  rw [World.size_alloc, hq] at hn1
  rw [World.size_alloc, World.size_alloc, hq] at hn2
  rw [hq] at hn0
  rw [hwT] at hn0 hn1 hn2 b3
  have hbT : Below w.heap.size w wT := b3
  have HD : Hid (Calls Tryz.prog 35 #[.func (.func 45) #[] #[.pointer (some ⟨q, 0, none⟩), .pointer (some ⟨q + 1, 0, none⟩), .pointer (some ⟨q + 2, 0, none⟩)]] wT fun r w' => r = .returned (.int .i64 0) ∧ ∃ v R, w'.heap[q + 1]? = some (lisO v) ∧ w'.heap[q + 2]? = some (numO (D : Int)) ∧ EntsO w' (q + 3) t k v (sortE R) ∧ R.map Er.tn = P ∧ Below w.heap.size w w') := by
    have hbe : Below wT.heap.size wT (wT.alloc (errO 0)) := (Below.refl _ _).alloc (Nat.le_refl _) _
    refine (done3_ok 45 _ _ _ wT (fun w' => ∃ v R w1, EntsO w1 (wT.alloc (errO 0)).heap.size t k v (sortE R) ∧ R.map Er.tn = P ∧ Below (wT.alloc (errO 0)).heap.size (wT.alloc (errO 0)) w1 ∧ w' = (w1.setCell ⟨q + 1, 0, none⟩ v).setCell ⟨q + 2, 0, none⟩ (.int .i64 (D : Int))) (enters_of Tryz.func45 (by kernel_rfl) rfl _) ?_ ?_).mono ?_
    · exact jLoad1_any P q (q + 1) (q + 2) (wT.alloc (errO 0)) ((hbe.block _ (by omega)).trans hn0) ((hbe.block _ (by omega)).trans hn1) ((hbe.block _ (by omega)).trans hn2) (by omega) (h _ (hbT.trans (hbe.mono (by omega))))
    · rintro w' ⟨v, R, w1, hE, hR, hB, rfl⟩
      have e1 := (hB.block wT.heap.size (by simp)).trans (heap_new wT (errO 0))
      exact (Below.heap_setCell _ ⟨q + 2, 0, none⟩ _ _ (by show wT.heap.size ≠ q + 2; omega)).trans ((Below.heap_setCell _ ⟨q + 1, 0, none⟩ _ _ (by show wT.heap.size ≠ q + 1; omega)).trans e1)
    · rintro r w' ⟨e1, w2, ⟨v, R, w1, hE, hR, hB, rfl⟩, rfl⟩
      have hsE : (wT.alloc (errO 0)).heap.size = q + 4 := by rw [World.size_alloc]; omega
      rw [hsE] at hE
      have hy1 := (hB.block (q + 1) (by omega)).trans ((hbe.block (q + 1) (by omega)).trans hn1)
      have hz1 := (hB.block (q + 2) (by omega)).trans ((hbe.block (q + 2) (by omega)).trans hn2)
      have hy2 := heap_setCell_same hy1 0 v
      have hz2 := (Below.heap_setCell w1 ⟨q + 1, 0, none⟩ v (q + 2) (by show q + 2 ≠ q + 1; omega)).trans hz1
      have hz3 := heap_setCell_same hz2 0 (.int .i64 (D : Int))
      have hy3 := (Below.heap_setCell _ ⟨q + 2, 0, none⟩ (.int .i64 (D : Int)) (q + 1) (by show q + 1 ≠ q + 2; omega)).trans hy2
      have hE3 := ((hE.set (q + 1) 0 v (by omega)).set (q + 2) 0 (.int .i64 (D : Int)) (by omega)).set wT.heap.size 0 (.int .i64 0) (by omega)
      have hb4 : Below w.heap.size w w1 := (hbT.trans (hbe.mono (by omega))).trans (hB.mono (by rw [hsE]; omega))
      have hT : Turn (fun i => w.heap.size ≤ i) w1 (((w1.setCell ⟨q + 1, 0, none⟩ v).setCell ⟨q + 2, 0, none⟩ (.int .i64 (D : Int))).setCell ⟨wT.heap.size, 0, none⟩ (.int .i64 0)) :=
        ((Turn.setCell (S := fun i => w.heap.size ≤ i) w1 ⟨q + 1, 0, none⟩ _ (by show _ ≤ q + 1; omega)).trans (Turn.setCell _ ⟨q + 2, 0, none⟩ _ (by show _ ≤ q + 2; omega))).trans (Turn.setCell _ ⟨wT.heap.size, 0, none⟩ _ (by show _ ≤ wT.heap.size; omega))
      exact ⟨e1, v, R, (Below.heap_setCell _ ⟨wT.heap.size, 0, none⟩ _ _ (by show q + 1 ≠ wT.heap.size; omega)).trans hy3, (Below.heap_setCell _ ⟨wT.heap.size, 0, none⟩ _ _ (by show q + 2 ≠ wT.heap.size; omega)).trans hz3, hE3.low (by omega), hR, hb4.trans (hT.toBelow hb4.size)⟩
  have HW : Hid (((w.alloc (.cells #[.pointer (some ⟨d, 0, none⟩)] 23)).alloc (lisO (.slice none 0 0))).alloc (numO 0) = wT) := hwT
  clear h hn0 hn1 hn2 hsz hbT hwT b1 b2 b3
  go_enter Tryz.func19, Tryz.ntmps19
  go_wp2_with fail
  rw [HW.out]
  refine HD.out.mono ?_
  rintro r w2 ⟨rfl, v, R, hy2, hz2, hE2, hR, hB2⟩
  have y0 : w2.cell? ⟨q + 1, 0, none⟩ = some v := by rw [cell_of hy2]; rfl
  have z0 : w2.cell? ⟨q + 2, 0, none⟩ = some (.int .i64 (D : Int)) := by rw [cell_of hz2]; rfl
  have fy := frozen_of hy2 0
  have fz := frozen_of hz2 0
  obtain ⟨A, c, hv⟩ := row_shapeJ hE2.row
  obtain ⟨n, hn⟩ : ∃ n, (sortE R).length = n := ⟨_, rfl⟩
  rw [hn] at hv
  have HH : Hid (w2.heap[q + 1]? = some (lisO v) ∧ w2.heap[q + 2]? = some (numO (D : Int)) ∧ EntsO w2 (q + 3) t k v (sortE R) ∧ R.map Er.tn = P ∧ Below w.heap.size w w2) := ⟨hy2, hz2, hE2, hR, hB2⟩
  have hv1 : v.oneCell' = true := by rw [hv]; rfl
  clear hy2 hz2 hE2 hR hB2 hn
  subst hv
  go_wp2_with fail
  go_region
  have hTy := heap_setCell_same HH.out.1 0 (.slice A n c)
  have hTz := (Below.heap_setCell w2 ⟨q + 1, 0, none⟩ (.slice A n c) (q + 2) (by show q + 2 ≠ q + 1; omega)).trans HH.out.2.1
  have hTz2 := heap_setCell_same hTz 0 (.int .i64 (D : Int))
  have hTy2 := (Below.heap_setCell (w2.setCell ⟨q + 1, 0, none⟩ (.slice A n c)) ⟨q + 2, 0, none⟩ (.int .i64 (D : Int)) (q + 1) (by show q + 1 ≠ q + 2; omega)).trans hTy
  have HF : Hid (EntsO ((w2.setCell ⟨q + 1, 0, none⟩ (.slice A n c)).setCell ⟨q + 2, 0, none⟩ (.int .i64 (D : Int))).drew w.heap.size t k (.slice A n c) (sortE R) ∧ R.map Er.tn = P ∧ Below w.heap.size w ((w2.setCell ⟨q + 1, 0, none⟩ (.slice A n c)).setCell ⟨q + 2, 0, none⟩ (.int .i64 (D : Int))).drew) := by
    obtain ⟨_, _, p3, p4, p5⟩ := HH.out
    have hT : Turn (fun i => w.heap.size ≤ i) w2 ((w2.setCell ⟨q + 1, 0, none⟩ (.slice A n c)).setCell ⟨q + 2, 0, none⟩ (.int .i64 (D : Int))) :=
      (Turn.setCell (S := fun i => w.heap.size ≤ i) w2 ⟨q + 1, 0, none⟩ _ (by show _ ≤ q + 1; omega)).trans (Turn.setCell _ ⟨q + 2, 0, none⟩ _ (by show _ ≤ q + 2; omega))
    have hE := ((p3.set (q + 1) 0 (.slice A n c) (by omega)).set (q + 2) 0 (.int .i64 (D : Int)) (by omega)).low (base' := w.heap.size) (by omega)
    exact ⟨hE.below (below_drewN _ 1), p4, (p5.trans (hT.toBelow p5.size)).trans ((below_drewN _ 1).mono (Nat.le_trans p5.size hT.size))⟩
  rw [show q + 1 + 1 = q + 2 from rfl]
  obtain ⟨we, hwe⟩ : ∃ we, ((w2.setCell ⟨q + 1, 0, none⟩ (.slice A n c)).setCell ⟨q + 2, 0, none⟩ (.int .i64 (D : Int))).drew = we := ⟨_, rfl⟩
  have r0 : we.cell? ⟨q + 1, 0, none⟩ = some (.slice A n c) := by
    rw [← hwe]
    show ((w2.setCell ⟨q + 1, 0, none⟩ (.slice A n c)).setCell ⟨q + 2, 0, none⟩ (.int .i64 (D : Int))).cell? _ = _
    rw [cell_of hTy2]; rfl
  have r1 : we.cell? ⟨q + 2, 0, none⟩ = some (.int .i64 (D : Int)) := by
    rw [← hwe]
    show ((w2.setCell ⟨q + 1, 0, none⟩ (.slice A n c)).setCell ⟨q + 2, 0, none⟩ (.int .i64 (D : Int))).cell? _ = _
    rw [cell_of hTz2]; rfl
  rw [hwe] at HF ⊢
  clear hTy hTz hTy2 hTz2 HH y0 z0 fy fz hwe
  go_wp2_with fail
  refine bodyPost_ret (v := .tuple #[.slice A n c, .int .i64 (D : Int), .int .i64 0]) (by simp [results, Tryz.results19, go_sem, r0, r1]) rfl ?_
  exact ⟨_, rfl, R, HF.out⟩
end
end Go.Proofs.YtigegdelhpdlhaaGreatDoor

/- Layer 18: what a log does to its disk: frames, marks, a write that lasts, the marks anew, the next generation. -/
namespace Go.Proofs.YtigegdelhpdlhaaGreatDoor
open Go.RowKit QP

set_option maxHeartbeats 1000000 in
theorem jframeOf_any (b : ByteArray) (w : World) (hb : b.size ≤ 65536) : Calls Tryz.prog 65 #[.string b] w fun e w' => e = .returned (.string (frameB b)) ∧ Below w.heap.size w w' := by
  have H1 : Hid (Calls Tryz.prog 90 #[.string b] w fun e w' => e = .returned (.tuple #[.string (frameB b), .int .i64 0]) ∧ Below w.heap.size w w') := fFrame_short b w hb
  have HM : Hid (∀ u, Calls Tryz.prog 60 #[.int .i64 0] u fun r w' => r = .returned (.tuple #[]) ∧ u = w') := fun u => (must_no u).mono fun _ _ h => ⟨h.1, h.2.symm⟩
  obtain ⟨f, hf⟩ : ∃ f, frameB b = f := ⟨_, rfl⟩
  rw [hf] at H1 ⊢
  clear hf
  go_enter Tryz.func65, Tryz.ntmps65
  go_wp2_with (first
    | (go_at_call 90; (with_reducible refine H1.out.mono ?_); rintro e w1 ⟨rfl, hb1⟩)
    | (go_at_call 60; (with_reducible refine (HM.out _).mono ?_); rintro e w2 ⟨rfl, rfl⟩))
  go_ret
  exact ⟨rfl, hb1⟩

set_option maxHeartbeats 1000000 in
theorem jmarkOf_any (n : Nat) (w : World) (hn : n ≤ 2147483648) : Calls Tryz.prog 70 #[.int .i64 (n : Int)] w fun e w' => e = .returned (.string (frameB (markN n))) ∧ Below w.heap.size w w' := by
  have H1 : Hid (∀ u, Calls Tryz.prog 95 #[.int .u64 (n : Int)] u fun e w' => e = .returned (.string (markN n)) ∧ Below u.heap.size u w') := fun u => numB_any n u
  have H2 : Hid (∀ u, Calls Tryz.prog 65 #[.string (markN n)] u fun e w' => e = .returned (.string (frameB (markN n))) ∧ Below u.heap.size u w') := fun u => jframeOf_any (markN n) u (by rw [markN_size]; decide)
  have wn : IntKind.u64.wrap (n : Int) = (n : Int) := by
    simp [IntKind.wrap, IntKind.bits, IntKind.signed]
    omega
  have wn2 : (n : Int) % 18446744073709551616 = (n : Int) := by omega
  obtain ⟨m, hm⟩ : ∃ m, markN n = m := ⟨_, rfl⟩
  obtain ⟨f, hf⟩ : ∃ f, frameB (markN n) = f := ⟨_, rfl⟩
  rw [hf] at H2 ⊢
  rw [hm] at H1 H2
  clear hf hm
  go_enter Tryz.func70, Tryz.ntmps70
  go_wp2_with (first
    | (go_at_call 95; (with_reducible refine (H1.out _).mono ?_); rintro e w1 ⟨rfl, hb1⟩)
    | (go_at_call 65; (with_reducible refine (H2.out _).mono ?_); rintro e w2 ⟨rfl, hb2⟩))
  go_ret
  exact ⟨rfl, hb1.trans (hb2.mono hb1.size)⟩

theorem Goes.step {I' : World → (Nat → Prop) → Prop} {w w1 w2 : World} {F F1 : Nat → Prop} (t1 : Turn F w w1) (n1 : ∀ i, F1 i → F i ∨ w.heap.size ≤ i) (h : Goes I' w1 w2 F1) : Goes I' w w2 F := by
  obtain ⟨G, j1, j2, j3⟩ := h
  exact ⟨G, j1, t1.transNew j2 n1, fun i hi => (j3 i hi).elim (n1 i) (fun h => Or.inr (Nat.le_trans t1.size h))⟩
section
variable {d : Nat} {s : Dk.Dsk} {w : World} {F : Nat → Prop}
set_option maxHeartbeats 1000000 in
/-- a write that lasts -/
theorem jwriteD_ok (k data : ByteArray) (h : DiskI d s w F) (hk : k.size ≤ maxLen) (hds : data.size ≤ maxLen) (h1 : Dk.appendE s k.data.toList data.data.toList = 0) (h2 : Dk.syncE (Dk.appendS s k.data.toList data.data.toList) k.data.toList = 0) :
    Calls Tryz.prog 67 #[.pointer (some ⟨d, 0, none⟩), .string k, .string data] w fun e w' => e = .returned (.tuple #[]) ∧ Goes (DiskI d (Dk.syncS (Dk.appendS s k.data.toList data.data.toList) k.data.toList)) w w' F := by
  have HA : Hid (Calls Tryz.prog 24 #[.pointer (some ⟨d, 0, none⟩), .string k, .string data] w fun e w' => e = .returned (.int .i64 0) ∧ Goes (DiskI d (Dk.appendS s k.data.toList data.data.toList)) w w' F) := by
    have := dappend_i k data h hk hds
    rw [h1] at this
    exact this
  have HS : Hid (∀ u F', DiskI d (Dk.appendS s k.data.toList data.data.toList) u F' → Calls Tryz.prog 25 #[.pointer (some ⟨d, 0, none⟩), .string k] u fun e w' => e = .returned (.int .i64 0) ∧ Goes (DiskI d (Dk.syncS (Dk.appendS s k.data.toList data.data.toList) k.data.toList)) u w' F') := fun u F' hu => by
    have := dsync_i k hu hk
    rw [h2] at this
    exact this
  have HM : Hid (∀ u, Calls Tryz.prog 60 #[.int .i64 0] u fun r w' => r = .returned (.tuple #[]) ∧ u = w') := fun u => (must_no u).mono fun _ _ h => ⟨h.1, h.2.symm⟩
  clear h h1 h2
  go_enter Tryz.func67, Tryz.ntmps67
  go_wp2_with (first
    | (go_at_call 24; (with_reducible refine HA.out.mono ?_); rintro e w1 ⟨rfl, hg1⟩; obtain ⟨F1, i1, t1, n1⟩ := id hg1; have HS1 := HS.out w1 F1 i1)
    | (go_at_call 25; (with_reducible refine HS1.mono ?_); rintro e w2 ⟨rfl, hg2⟩; clear HS1)
    | (go_at_call 60; (with_reducible refine (HM.out _).mono ?_); rintro e w3 ⟨rfl, rfl⟩))
  go_end0
  exact ⟨rfl, hg2.step t1 n1⟩

set_option maxHeartbeats 1000000 in
theorem jrmIf_any (k : ByteArray) (h : DiskI d s w F) (hk : k.size ≤ maxLen) (h1 : Dk.removeE s k.data.toList = 0 ∨ Dk.removeE s k.data.toList = 5) :
    Calls Tryz.prog 81 #[.pointer (some ⟨d, 0, none⟩), .string k] w fun e w' => e = .returned (.tuple #[]) ∧ Goes (DiskI d (Dk.removeS s k.data.toList)) w w' F := by
  have HM : Hid (∀ u, Calls Tryz.prog 60 #[.int .i64 0] u fun r w' => r = .returned (.tuple #[]) ∧ u = w') := fun u => (must_no u).mono fun _ _ h => ⟨h.1, h.2.symm⟩
  have HA := dremove_i k h hk
  rcases h1 with h1 | h1
  · rw [h1] at HA
    have HA' : Hid (Calls Tryz.prog 23 #[.pointer (some ⟨d, 0, none⟩), .string k] w fun e w' => e = .returned (.int .i64 0) ∧ Goes (DiskI d (Dk.removeS s k.data.toList)) w w' F) := HA
    clear HA h h1
    go_enter Tryz.func81, Tryz.ntmps81
    go_wp2_with (first
      | (go_at_call 23; (with_reducible refine HA'.out.mono ?_); rintro e w1 ⟨rfl, hg1⟩)
      | (go_at_call 60; (with_reducible refine (HM.out _).mono ?_); rintro e w3 ⟨rfl, rfl⟩))
    go_end0
    exact ⟨rfl, hg1⟩
  · rw [h1] at HA
    have HA' : Hid (Calls Tryz.prog 23 #[.pointer (some ⟨d, 0, none⟩), .string k] w fun e w' => e = .returned (.int .i64 5) ∧ Goes (DiskI d (Dk.removeS s k.data.toList)) w w' F) := HA
    clear HA h h1
    go_enter Tryz.func81, Tryz.ntmps81
    go_wp2_with (first
      | (go_at_call 23; (with_reducible refine HA'.out.mono ?_); rintro e w1 ⟨rfl, hg1⟩)
      | (go_at_call 60; (with_reducible refine (HM.out _).mono ?_); rintro e w3 ⟨rfl, rfl⟩))
    go_end0
    exact ⟨rfl, hg1⟩

set_option maxHeartbeats 1000000 in
/-- with no mark: the marks are taken away, if there are any (of nothing) -/
theorem jrenew_none (h : DiskI d s w F) (h1 : Dk.removeE s epochB.data.toList = 0 ∨ Dk.removeE s epochB.data.toList = 5) :
    Calls Tryz.prog 56 #[.pointer (some ⟨d, 0, none⟩), .int .i64 0] w fun e w' => e = .returned (.tuple #[]) ∧ Goes (DiskI d (Dk.removeS s epochB.data.toList)) w w' F := by
  have HA : Hid (Calls Tryz.prog 81 #[.pointer (some ⟨d, 0, none⟩), .string ⟨#[101, 112, 111, 99, 104]⟩] w fun e w' => e = .returned (.tuple #[]) ∧ Goes (DiskI d (Dk.removeS s epochB.data.toList)) w w' F) := jrmIf_any epochB h (by decide) h1
  clear h h1
  go_enter Tryz.func56, Tryz.ntmps56
  go_wp2_with (go_at_call 81; (with_reducible refine HA.out.mono ?_); rintro e w1 ⟨rfl, hg1⟩)
  go_returns
  exact ⟨rfl, hg1⟩

/-- the marks anew: one mark, put in their place -/
abbrev renS1 (s : Dk.Dsk) : Dk.Dsk := Dk.removeS s epochNB.data.toList
abbrev renS2 (s : Dk.Dsk) (n : Nat) : Dk.Dsk := Dk.syncS (Dk.appendS (renS1 s) epochNB.data.toList (frameB (markN n)).data.toList) epochNB.data.toList
abbrev renS (s : Dk.Dsk) (n : Nat) : Dk.Dsk := Dk.renameS (renS2 s n) epochNB.data.toList epochB.data.toList
set_option maxHeartbeats 2000000 in
theorem jrenew_some (n : Nat) (h : DiskI d s w F) (hn : n ≤ 2147483648) (hn0 : 0 < n) (h1 : Dk.removeE s epochNB.data.toList = 0 ∨ Dk.removeE s epochNB.data.toList = 5)
    (h2 : Dk.appendE (renS1 s) epochNB.data.toList (frameB (markN n)).data.toList = 0) (h3 : Dk.syncE (Dk.appendS (renS1 s) epochNB.data.toList (frameB (markN n)).data.toList) epochNB.data.toList = 0) (h4 : Dk.renameE (renS2 s n) epochNB.data.toList epochB.data.toList = 0) :
    Calls Tryz.prog 56 #[.pointer (some ⟨d, 0, none⟩), .int .i64 (n : Int)] w fun e w' => e = .returned (.tuple #[]) ∧ Goes (DiskI d (renS s n)) w w' F := by
  have HA : Hid (Calls Tryz.prog 81 #[.pointer (some ⟨d, 0, none⟩), .string ⟨#[101, 112, 111, 99, 104, 46, 110, 101, 119]⟩] w fun e w' => e = .returned (.tuple #[]) ∧ Goes (DiskI d (renS1 s)) w w' F) := jrmIf_any epochNB h (by decide) h1
  have HK : Hid (∀ u, Calls Tryz.prog 70 #[.int .i64 (n : Int)] u fun e w' => e = .returned (.string (frameB (markN n))) ∧ Below u.heap.size u w') := fun u => jmarkOf_any n u hn
  have hfs : (frameB (markN n)).size = 16 := by rw [frameB_size, markN_size]
  have HW : Hid (∀ u F', DiskI d (renS1 s) u F' → Calls Tryz.prog 67 #[.pointer (some ⟨d, 0, none⟩), .string ⟨#[101, 112, 111, 99, 104, 46, 110, 101, 119]⟩, .string (frameB (markN n))] u fun e w' => e = .returned (.tuple #[]) ∧ Goes (DiskI d (renS2 s n)) u w' F') := fun u F' hu => jwriteD_ok epochNB (frameB (markN n)) hu (by decide) (by rw [hfs]; decide) h2 h3
  have HR : Hid (∀ u F', DiskI d (renS2 s n) u F' → Calls Tryz.prog 82 #[.pointer (some ⟨d, 0, none⟩), .string ⟨#[101, 112, 111, 99, 104, 46, 110, 101, 119]⟩, .string ⟨#[101, 112, 111, 99, 104]⟩] u fun e w' => e = .returned (.int .i64 0) ∧ Goes (DiskI d (renS s n)) u w' F') := fun u F' hu => by
    have := drename_i epochNB epochB hu (by decide) (by decide)
    rw [h4] at this
    exact this
  have HM : Hid (∀ u, Calls Tryz.prog 60 #[.int .i64 0] u fun r w' => r = .returned (.tuple #[]) ∧ u = w') := fun u => (must_no u).mono fun _ _ h => ⟨h.1, h.2.symm⟩
  have hI : ¬ (n : Int) = 0 := by omega
  have hB : ((n : Int) == 0) = false := by rw [beq_eq_false_iff_ne]; exact hI
  have HRes : Hid (Res (DiskI d (renS1 s))) := DiskI.res d _
  obtain ⟨fr, hfr⟩ : ∃ f, frameB (markN n) = f := ⟨_, rfl⟩
  rw [hfr] at HK HW
  clear h h1 h2 h3 h4 hfs hfr
  go_enter Tryz.func56, Tryz.ntmps56
  go_wp2_with (first
    | (go_at_call 81; (with_reducible refine HA.out.mono ?_); rintro e w1 ⟨rfl, hg1⟩)
    | (go_at_call 70; (with_reducible refine (HK.out _).mono ?_); rintro e w2 ⟨rfl, hb2⟩; have hg2 := Goes.thenStay HRes.out hg1 hb2; obtain ⟨F2, i2, t2, n2⟩ := id hg2; have HW2 := HW.out w2 F2 i2)
    | (go_at_call 67; (with_reducible refine HW2.mono ?_); rintro e w3 ⟨rfl, hg3⟩; have hg3' := hg3.step t2 n2; obtain ⟨F3, i3, t3, n3⟩ := id hg3'; have HR3 := HR.out w3 F3 i3; clear HW2)
    | (go_at_call 82; (with_reducible refine HR3.mono ?_); rintro e w4 ⟨rfl, hg4⟩; clear HR3)
    | (go_at_call 60; (with_reducible refine (HM.out _).mono ?_); rintro e w5 ⟨rfl, rfl⟩))
  go_end0
  exact ⟨rfl, hg4.step t3 n3⟩

/-- the generation that no file is of -/
def nextGn (ks : List (List UInt8)) : Nat := ks.foldl (fun n k => if isLogK k then max n (genK k + 1) else n) 0
theorem nextGn_next {ks : List (List UInt8)} {j : Nat} (h : j < ks.length) : nextGn (ks.take (j + 1)) = if isLogK ks[j] then max (nextGn (ks.take j)) (genK ks[j] + 1) else nextGn (ks.take j) := by
  unfold nextGn
  rw [List.take_succ_eq_append_getElem h, List.foldl_append]
  rfl
theorem NameOkW.gen {k : List UInt8} (h : NameOkW k) (hl : isLogK k = true) : genK k < 100 := by
  rcases h with rfl | rfl | ⟨v, g, hv, hg, rfl⟩
  · rw [logK_epoch.1] at hl; cases hl
  · rw [logK_epoch.2.1] at hl; cases hl
  · rw [(logK_at hv hg).2.1]; exact hg

set_option maxRecDepth 100000 in
set_option maxHeartbeats 1000000 in
theorem jnextG_any (h : DiskI d s w F) (hn : ∀ p ∈ s.fs, NameOkW p.1) :
    Calls Tryz.prog 57 #[.pointer (some ⟨d, 0, none⟩)] w fun e w' => e = .returned (.int .i64 ((nextGn (Dk.keysL s.fs) : Nat) : Int)) ∧ Below w.heap.size w w' := by
  obtain ⟨KS, hKS⟩ : ∃ KS, Dk.keysL s.fs = KS := ⟨_, rfl⟩
  obtain ⟨N, hN⟩ : ∃ N, s.fs.length = N := ⟨_, rfl⟩
  have HKl : Hid (KS.length = N) := by show _ = _; rw [← hKS, ← hN]; simp [Dk.keysL]
  have HKn : Hid (∀ q ∈ KS, NameOkW q) := fun q hq => by
    rw [← hKS] at hq
    obtain ⟨p, hp, rfl⟩ := List.mem_map.1 hq
    exact hn p hp
  have HNm : Hid (Calls Tryz.prog 42 #[.pointer (some ⟨d, 0, none⟩)] w fun e w' => ∃ A c, e = .returned (.slice A N c) ∧ Hid (w'.ownsRow w.heap.size 9 1 (.slice A N c) N (KS.map encStr)) ∧ Below w.heap.size w w') := by
    refine (dnames_i h).mono fun e w' ⟨v, e1, e2, e3⟩ => ?_
    rw [hN, hKS] at e2
    obtain ⟨A, c, rfl⟩ := row_shapeJ e2
    exact ⟨A, c, e1, e2, e3⟩
  rw [hKS]
  clear h hn hKS hN
  go_enter Tryz.func57, Tryz.ntmps57
  go_wp2_with (go_at_call 42; (with_reducible refine HNm.out.mono ?_); rintro e w2 ⟨A, c, rfl, HO, hb2⟩)
  have HB2 : Hid (Below w.heap.size w w2) := hb2
  clear hb2 HNm
  go_loopw [3, 11] (fun v i wr => ∃ j m : Nat, j ≤ N ∧ i = .int .i64 j ∧ v = .int .i64 m ∧ m ≤ 100 ∧ Hid (m = nextGn (KS.take j)) ∧ Hid (Below w2.heap.size w2 wr)) (fun _ i _ => N - (intOf i).toNat)
  case atStart => exact ⟨0, 0, Nat.zero_le _, rfl, rfl, by decide, (rfl : _ = _), Below.refl _ _⟩
  case round =>
    obtain ⟨j, m, hj, rfl, rfl, hm, HMx, HBr⟩ := hrel
    by_cases hlt : j < N
    · obtain ⟨g, rfl, hc1, hc2⟩ := row_someJ HO.out (by omega)
      have hje : j < KS.length := by rw [HKl.out]; exact hlt
      obtain ⟨q, hq⟩ : ∃ q, KS[j] = q := ⟨_, rfl⟩
      have hqm : q ∈ KS := by rw [← hq]; exact List.getElem_mem hje
      have hx : (KS.map encStr)[j]? = some (.string ⟨q.toArray⟩) := by
        rw [List.getElem?_map, List.getElem?_eq_getElem hje, hq]
        rfl
      have q0 : wr.cell? ⟨g, j, none⟩ = some (.string ⟨q.toArray⟩) := by
        have h1 := World.ownsRow.cells (row_kept HO.out HBr.out) (g := g) rfl j _ hx
        rw [Addr.add_lit, Nat.zero_add] at h1
        exact h1
      have hun := nextGn_next hje
      rw [hq, ← HMx.out] at hun
      have HG := jgen_any q (HKn.out q hqm) wr
      have hgn := (HKn.out q hqm).gen
      have hlI : (j : Int) < (N : Int) := by omega
      obtain ⟨S, hS⟩ : ∃ S : ByteArray, (⟨q.toArray⟩ : ByteArray) = S := ⟨_, rfl⟩
      rw [hS] at q0 HG
      cases hlog : isLogK q with
      | true =>
        rw [hlog, if_pos rfl] at hun
        rw [hlog, if_pos rfl] at HG
        have hg100 := hgn hlog
        obtain ⟨G, hGG⟩ : ∃ G, genK q = G := ⟨_, rfl⟩
        rw [hGG] at HG hun hg100
        obtain ⟨M2, hM2⟩ : ∃ M2, max m (G + 1) = M2 := ⟨_, rfl⟩
        rw [hM2] at hun
        have HMx2 : Hid (M2 = nextGn (KS.take (j + 1))) := hun.symm
        have hM2' : M2 ≤ 100 := by omega
        have m1 : max (m : Int) ((G : Int) + 1) = (M2 : Int) := by omega
        have HG' : Hid (Calls Tryz.prog 59 #[.string S] wr fun e w' => e = .returned (.tuple #[.int .i64 (G : Int), .bool true]) ∧ Below wr.heap.size wr w') := HG
        clear HG hx hS hGG hlog hun hgn hM2
        go_wp2_with (go_at_call 59; (with_reducible refine HG'.out.mono ?_); rintro e w3 ⟨rfl, hb3⟩; have HB3 : Hid (Below w2.heap.size w2 w3) := HBr.out.trans (hb3.mono HBr.out.size); clear hb3)
        exact ⟨⟨j + 1, M2, by omega, by go_num, rfl, hM2', HMx2, HB3⟩, by simp [intOf]; omega⟩
      | false =>
        rw [hlog, if_neg (by decide)] at hun
        rw [hlog, if_neg (by decide)] at HG
        have HMx2 : Hid (m = nextGn (KS.take (j + 1))) := hun.symm
        have HG' : Hid (Calls Tryz.prog 59 #[.string S] wr fun e w' => e = .returned (.tuple #[.int .i64 ((0 : Nat) : Int), .bool false]) ∧ Below wr.heap.size wr w') := HG
        clear HG hx hS hlog hun hgn
        go_wp2_with (go_at_call 59; (with_reducible refine HG'.out.mono ?_); rintro e w3 ⟨rfl, hb3⟩; have HB3 : Hid (Below w2.heap.size w2 w3) := HBr.out.trans (hb3.mono HBr.out.size); clear hb3)
        exact ⟨⟨j + 1, m, by omega, by go_num, rfl, hm, HMx2, HB3⟩, by simp [intOf]; omega⟩
    · obtain rfl : j = N := by omega
      have hlI : ¬ (j : Int) < (j : Int) := by omega
      have HE2 : Hid (m = nextGn KS) := by
        show _ = _
        rw [HMx.out, List.take_of_length_le (by rw [HKl.out]; exact Nat.le_refl _)]
      clear HMx
      go_wp2
      go_ret
      exact ⟨by rw [← HE2.out]; rfl, HB2.out.trans (HBr.out.mono HB2.out.size)⟩
end
end Go.Proofs.YtigegdelhpdlhaaGreatDoor

/- Layer 18: where a log lies in memory; its workers. -/
namespace Go.Proofs.YtigegdelhpdlhaaGreatDoor
open Go.RowKit QP

/-- what waits of a worker, and its last word -/
abbrev Wk := List (Nat × Nat) × Nat
structure Lg where
  ws : List Wk
  dur : Nat
  gen : Nat
def enLn (t k : ByteArray) (p : Nat × Nat) : List Value := [.int .i64 ((p.1 / 8388608 : Nat) : Int), .string (frameB (bodyN t k p))]
theorem enLn_len (t k : ByteArray) (p : Nat × Nat) : (enLn t k p).length = 2 := rfl
def enWv (p : Value × Nat) : List Value := [p.1, .int .u64 (p.2 : Int)]
theorem enWv_len (p : Value × Nat) : (enWv p).length = 2 := rfl
/-- a log l over the disk d: its workers' row in block b, their slices vs -/
structure LogG (w : World) (t k : ByteArray) (l d b : Nat) (vs : List Value) (L : Lg) : Prop where
  top : w.heap[l]? = some (.cells #[.pointer (some ⟨d, 0, none⟩), .slice (some ⟨b, 0, none⟩) L.ws.length L.ws.length, .int .i64 (L.dur : Int), .int .i64 (L.gen : Int)] 103 (0, 0))
  row : ∃ cur, w.heap[b]? = some (.cells cur 95 (0, 0)) ∧ cur.toList = flat enWv (vs.zip (L.ws.map (·.2)))
  len : vs.length = L.ws.length
  own : ∀ (i : Nat) (v : Value) (wk : Wk), vs[i]? = some v → L.ws[i]? = some wk → w.ownsRow 0 113 2 v wk.1.length (flat (enLn t k) wk.1)
  apart : ∀ (i j : Nat) (a c : Value) (g : Nat), i ≠ j → vs[i]? = some a → vs[j]? = some c → a.ownBlock = some g → c.ownBlock ≠ some g
  few : L.ws.length ≤ 16 ∧ ∀ wk : Wk, wk ∈ L.ws → wk.1.length ≤ 1000 ∧ wk.2 < 18446744073709551616
def footL (l b : Nat) (vs : List Value) (i : Nat) : Prop := i = l ∨ i = b ∨ ∃ v ∈ vs, v.ownBlock = some i
def LogI (t k : ByteArray) (l d : Nat) (L : Lg) (w : World) (F : Nat → Prop) : Prop := ∃ b vs, LogG w t k l d b vs L ∧ ∀ i, F i ↔ footL l b vs i
section
variable {w w' : World} {t k : ByteArray} {l d b : Nat} {vs : List Value} {L : Lg}
theorem LogG.at (h : LogG w t k l d b vs L) {v : Value} (hv : v ∈ vs) : ∃ (i : Nat) (wk : Wk), vs[i]? = some v ∧ L.ws[i]? = some wk ∧ w.ownsRow 0 113 2 v wk.1.length (flat (enLn t k) wk.1) := by
  obtain ⟨i, hi⟩ := List.getElem?_of_mem hv
  have hl := (List.getElem?_eq_some_iff.1 hi).1
  have hw : L.ws[i]? = some (L.ws[i]'(by rw [← h.len]; exact hl)) := List.getElem?_eq_getElem _
  exact ⟨i, _, hi, hw, h.own i v _ hi hw⟩
theorem LogG.lt (h : LogG w t k l d b vs L) {i : Nat} (hi : footL l b vs i) : i < w.heap.size := by
  rcases hi with rfl | rfl | ⟨v, hv, e⟩
  · exact lt_of h.top
  · obtain ⟨cur, hc, _⟩ := h.row
    exact lt_of hc
  · obtain ⟨_, _, _, _, ho⟩ := h.at hv
    exact (World.ownsRow.lt ho i e).2
theorem LogG.kept (h : LogG w t k l d b vs L) {S : Nat → Prop} (ht : Turn S w w') (hS : ∀ i, footL l b vs i → ¬ S i) : LogG w' t k l d b vs L := by
  have hb : ∀ i, footL l b vs i → w'.heap[i]? = w.heap[i]? := fun i hi => ht.block i (h.lt hi) (hS i hi)
  refine ⟨(hb l (Or.inl rfl)).trans h.top, ?_, h.len, fun i v wk hv hw => ?_, h.apart, h.few⟩
  · obtain ⟨cur, hc, he⟩ := h.row
    exact ⟨cur, (hb b (Or.inr (Or.inl rfl))).trans hc, he⟩
  · exact ownsRow_block (h.own i v wk hv hw) fun g hg => hb g (Or.inr (Or.inr ⟨v, List.mem_of_getElem? hv, hg⟩))
theorem logI_res (t k : ByteArray) (l d : Nat) (L : Lg) : Res (LogI t k l d L) := by
  refine ⟨fun {w F} h i hi => ?_, fun {w w' F S} h ht hS => ?_⟩
  · obtain ⟨b, vs, h1, h2⟩ := h
    exact h1.lt ((h2 i).1 hi)
  · obtain ⟨b, vs, h1, h2⟩ := h
    exact ⟨b, vs, h1.kept ht (fun i hi => hS i ((h2 i).2 hi)), h2⟩
/-- a worker's two cells -/
theorem LogG.wk (h : LogG w t k l d b vs L) {i : Nat} {v : Value} {wk : Wk} (hv : vs[i]? = some v) (hw : L.ws[i]? = some wk) : w.cell? ⟨b, i * 2, none⟩ = some v ∧ w.cell? ⟨b, i * 2 + 1, none⟩ = some (.int .u64 (wk.2 : Int)) := by
  obtain ⟨cur, hc, he⟩ := h.row
  have hz : (vs.zip (L.ws.map (·.2)))[i]? = some (v, wk.2) := by
    rw [List.getElem?_zip_eq_some, List.getElem?_map, hw]
    exact ⟨hv, rfl⟩
  obtain ⟨hi, hze⟩ := List.getElem?_eq_some_iff.1 hz
  have g0 := flat_get enWv_len (vs.zip (L.ws.map (·.2))) i hi 0 (by omega)
  have g1 := flat_get enWv_len (vs.zip (L.ws.map (·.2))) i hi 1 (by omega)
  rw [hze, ← he, Array.getElem?_toList] at g0 g1
  rw [Nat.add_zero, Nat.mul_comm] at g0
  rw [Nat.mul_comm] at g1
  exact ⟨by rw [cell_of hc, g0]; rfl, by rw [cell_of hc, g1]; rfl⟩
end

set_option maxRecDepth 100000 in
set_option maxHeartbeats 1000000 in
theorem jworker_any (l d b n i : Nat) (x y : Value) (w : World) (h : w.heap[l]? = some (.cells #[.pointer (some ⟨d, 0, none⟩), .slice (some ⟨b, 0, none⟩) n n, x, y] 103 (0, 0))) (hi : i < n) :
    Calls Tryz.prog 53 #[.pointer (some ⟨l, 0, none⟩), .int .i64 (i : Int)] w fun e w' => e = .returned (.pointer (some ⟨b, i * 2, none⟩)) ∧ w = w' := by
  have q1 : w.cell? ⟨l, 1, none⟩ = some (.slice (some ⟨b, 0, none⟩) n n) := by rw [cell_of h]; rfl
  have HRf : Hid (∀ u, Calls Tryz.prog 55 #[.bool false, .int .i64 100] u fun r w' => r = .returned (.tuple #[]) ∧ u = w') := fun u => (refuse_no 100 u).mono fun _ _ h => ⟨h.1, h.2.symm⟩
  have c1 : ¬ (i : Int) < 0 := by omega
  have c2 : decide ((n : Int) ≤ (i : Int)) = false := decide_eq_false (by omega)
  have c3 : decide (n ≤ i) = false := decide_eq_false (by omega)
  have c4 : (i : Int) < (n : Int) := by omega
  have c5 : (0 : Int) ≤ (i : Int) := by omega
  clear h
  go_enter Tryz.func53, Tryz.ntmps53
  go_wp2_with (go_at_call 55; (with_reducible refine (HRf.out _).mono ?_); rintro e w1 ⟨rfl, rfl⟩)
  go_ret
  exact ⟨rfl, rfl⟩
end Go.Proofs.YtigegdelhpdlhaaGreatDoor
