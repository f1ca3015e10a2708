/- The program's read. -/
import Derived.Test.YtnboanlhdllhnaaGreatZAsked
import Derived.Test.YtnboanlhdllhnaaGreatZCreate
namespace Go.Proofs.YtnboanlhdllhnaaGreat
open Go.RowKit

theorem asked_some {B : List UInt8} {T : Tab} (w : World) (hB : B.length ≤ 900000) (h : rdAll B = some T) :
    Calls Tryz.prog 53 #[.string (bytesOf (le8 5 ++ (le8 0 ++ B)))] w fun e w' => ∃ ca cn cc ia n ic, e = .returned (.tuple #[reqVal 5 (.string T.nm) (.slice ca cn cc) (.int .i64 T.key) (.slice ia n ic), .int .i64 0]) ∧ Hid (∃ X, Below w.heap.size w w' ∧ TabO w' w.heap.size (.slice ca cn cc) (.slice ia n ic) X T) :=
  (asked_any B w hB).mono fun e w' ⟨h1, h2⟩ => by
    rcases h2 with ⟨T', ca, cn, cc, ia, n, ic, X, e1, e2, e3⟩ | ⟨e1, _⟩
    · rw [h] at e1
      cases e1
      exact ⟨ca, cn, cc, ia, n, ic, e2, X, h1, e3⟩
    · rw [h] at e1; cases e1
theorem asked_none {B : List UInt8} (w : World) (hB : B.length ≤ 900000) (h : rdAll B = none) :
    Calls Tryz.prog 53 #[.string (bytesOf (le8 5 ++ (le8 0 ++ B)))] w fun e w' => ∃ m : Int, m ≠ 0 ∧ e = .returned (.tuple #[reqVal 0 (.string ⟨#[]⟩) (.slice none 0 0) (.int .i64 0) (.slice none 0 0), .int .i64 m]) ∧ Hid (Below w.heap.size w w') :=
  (asked_any B w hB).mono fun e w' ⟨h1, h2⟩ => by
    rcases h2 with ⟨T', ca, cn, cc, ia, n, ic, X, e1, e2, e3⟩ | ⟨e1, m, e2, e3⟩
    · rw [h] at e1; cases e1
    · exact ⟨m, e2, e3, h1⟩

theorem asking_add (B : List UInt8) : (⟨#[5, 0, 0, 0, 0, 0, 0, 0, 0, 0, 0, 0, 0, 0, 0, 0]⟩ : ByteArray) ++ bytesOf B = bytesOf (le8 5 ++ (le8 0 ++ B)) := by
  apply kb_inj
  rw [← List.append_assoc]
  show ((⟨#[5, 0, 0, 0, 0, 0, 0, 0, 0, 0, 0, 0, 0, 0, 0, 0]⟩ : ByteArray) ++ bytesOf B).data.toList = (bytesOf (le8 5 ++ le8 0 ++ B)).data.toList
  rw [ByteArray.data_append, Array.toList_append, bytesOf_list, bytesOf_list]
  congr 1

set_option maxRecDepth 100000 in
set_option maxHeartbeats 1000000 in
theorem read_some {B : List UInt8} {T : Tab} (w : World) (hB : B.length ≤ 900000) (h : rdAll B = some T) :
    Calls Tryz.prog 35 #[.string (bytesOf B)] w fun e w' => ∃ ca cn cc ia n ic, e = .returned (.tuple #[.agg #[.string T.nm, .slice ca cn cc, .int .i64 T.key, .slice ia n ic], .bool true]) ∧ Hid (∃ X, Below w.heap.size w w' ∧ TabO w' w.heap.size (.slice ca cn cc) (.slice ia n ic) X T) := by
  have hz : (w.alloc tabZ).heap.size = w.heap.size + 1 := by simp
  obtain ⟨nm, hnm⟩ : ∃ nm, T.nm = nm := ⟨_, rfl⟩
  obtain ⟨key, hkey⟩ : ∃ key, T.key = key := ⟨_, rfl⟩
  have H1 : Hid (Calls Tryz.prog 53 #[.string (bytesOf (le8 5 ++ (le8 0 ++ B)))] (w.alloc tabZ) fun e w' => ∃ ca cn cc ia n ic, e = .returned (.tuple #[reqVal 5 (.string nm) (.slice ca cn cc) (.int .i64 key) (.slice ia n ic), .int .i64 0]) ∧ Hid (∃ X, Below (w.alloc tabZ).heap.size (w.alloc tabZ) w' ∧ TabO w' (w.heap.size + 1) (.slice ca cn cc) (.slice ia n ic) X T)) := by
    have := asked_some (w.alloc tabZ) hB h
    rw [hnm, hkey, hz] at this
    rw [hz]
    exact this
  have HQ : Hid (∀ u, Below (w.alloc tabZ).heap.size (w.alloc tabZ) u → u.heap[w.heap.size]? = some tabZ ∧ w.heap.size < u.heap.size) := fun u hu => by
    have := (hu.block w.heap.size (by rw [hz]; omega)).trans (heap_new w _)
    exact ⟨this, lt_of this⟩
  have HC : Hid (∀ u : World, u.heap[w.heap.size]? = some tabZ → u.cell? ⟨w.heap.size, 0, none⟩ = some (.string ⟨#[]⟩) ∧ u.cell? ⟨w.heap.size, 1, none⟩ = some (.slice none 0 0) ∧ u.cell? ⟨w.heap.size, 2, none⟩ = some (.int .i64 0) ∧ u.cell? ⟨w.heap.size, 3, none⟩ = some (.slice none 0 0) ∧ u.frozen? ⟨w.heap.size, 0, none⟩ = false ∧ u.frozen? ⟨w.heap.size, 1, none⟩ = false ∧ u.frozen? ⟨w.heap.size, 2, none⟩ = false ∧ u.frozen? ⟨w.heap.size, 3, none⟩ = false) := fun u k =>
    ⟨by rw [cell_of k]; rfl, by rw [cell_of k]; rfl, by rw [cell_of k]; rfl, by rw [cell_of k]; rfl, frozen_of k 0, frozen_of k 1, frozen_of k 2, frozen_of k 3⟩
  have hadd := asking_add B
  obtain ⟨t, ht⟩ : ∃ t, bytesOf B = t := ⟨_, rfl⟩
  obtain ⟨t2, ht2⟩ : ∃ t2, bytesOf (le8 5 ++ (le8 0 ++ B)) = t2 := ⟨_, rfl⟩
  rw [ht, ht2] at hadd
  rw [ht2] at H1
  rw [ht, hnm, hkey]
  have hts : ¬ 9223372036854775807 < 16 + t.size := by rw [← ht, bytesOf_size]; omega
  have HE : Hid (T.nm = nm ∧ T.key = key) := ⟨hnm, hkey⟩
  clear h ht ht2 hnm hkey
  go_enter Tryz.func35, Tryz.ntmps35
  go_wp2_with (go_at_call 53; go_must (refine H1.out.mono ?_; rintro e w1 ⟨ca, cn, cc, ia, n, ic, rfl, K1⟩; obtain ⟨kq, kl⟩ := HQ.out w1 (by obtain ⟨X, h, _⟩ := K1.out; exact h); obtain ⟨c0, c1, c2, c3, f0, f1, f2, f3⟩ := HC.out w1 kq; have KQ : Hid (w1.heap[w.heap.size]? = some tabZ) := kq; clear kq))
  have hj : ∀ o : Obj, (((((w1.setCell ⟨w.heap.size, 0, none⟩ (.string nm)).setCell ⟨w.heap.size, 1, none⟩ (.slice ca cn cc)).setCell ⟨w.heap.size, 2, none⟩ (.int .i64 key)).setCell ⟨w.heap.size, 3, none⟩ (.slice ia n ic)).alloc o).heap[w.heap.size]? = some (.cells #[.string nm, .slice ca cn cc, .int .i64 key, .slice ia n ic] 32 (0, 0)) := fun o => (Below.heap_alloc _ o _ (by simpa using kl)).trans (set4_heap KQ.out _ _ _ _)
  have j0 : ∀ o : Obj, (((((w1.setCell ⟨w.heap.size, 0, none⟩ (.string nm)).setCell ⟨w.heap.size, 1, none⟩ (.slice ca cn cc)).setCell ⟨w.heap.size, 2, none⟩ (.int .i64 key)).setCell ⟨w.heap.size, 3, none⟩ (.slice ia n ic)).alloc o).cell? ⟨w.heap.size, 0, none⟩ = some (.string nm) := fun o => by rw [cell_of (hj o)]; rfl
  have j1 : ∀ o : Obj, (((((w1.setCell ⟨w.heap.size, 0, none⟩ (.string nm)).setCell ⟨w.heap.size, 1, none⟩ (.slice ca cn cc)).setCell ⟨w.heap.size, 2, none⟩ (.int .i64 key)).setCell ⟨w.heap.size, 3, none⟩ (.slice ia n ic)).alloc o).cell? ⟨w.heap.size, 1, none⟩ = some (.slice ca cn cc) := fun o => by rw [cell_of (hj o)]; rfl
  have j2 : ∀ o : Obj, (((((w1.setCell ⟨w.heap.size, 0, none⟩ (.string nm)).setCell ⟨w.heap.size, 1, none⟩ (.slice ca cn cc)).setCell ⟨w.heap.size, 2, none⟩ (.int .i64 key)).setCell ⟨w.heap.size, 3, none⟩ (.slice ia n ic)).alloc o).cell? ⟨w.heap.size, 2, none⟩ = some (.int .i64 key) := fun o => by rw [cell_of (hj o)]; rfl
  have j3 : ∀ o : Obj, (((((w1.setCell ⟨w.heap.size, 0, none⟩ (.string nm)).setCell ⟨w.heap.size, 1, none⟩ (.slice ca cn cc)).setCell ⟨w.heap.size, 2, none⟩ (.int .i64 key)).setCell ⟨w.heap.size, 3, none⟩ (.slice ia n ic)).alloc o).cell? ⟨w.heap.size, 3, none⟩ = some (.slice ia n ic) := fun o => by rw [cell_of (hj o)]; rfl
  refine bodyPost_ret (by simp [results, Tryz.results35, go_sem, j0, j1, j2, j3]; rfl) rfl ?_
  obtain ⟨X, x1, x2⟩ := K1.out
  have hb0 : Below w.heap.size w w1 := ((Below.refl _ w).alloc (Nat.le_refl _) _).trans (x1.mono (by rw [hz]; omega))
  have ht := (set4_turn w1 w.heap.size (.string nm) (.slice ca cn cc) (.int .i64 key) (.slice ia n ic)).trans (Turn.alloc _ (reqBox 5 (.string nm) (.slice ca cn cc) (.int .i64 key) (.slice ia n ic)))
  have fr : ∀ {T : TypeId} {m k : Nat} {v : Value} {xs : List Value}, w1.ownsRow (w.heap.size + 1) T m v k xs → World.ownsRow _ w.heap.size T m v k xs := fun hrow =>
    ownsRow_low (ownsRow_block hrow fun g hg => ht.block g (World.ownsRow.lt hrow g hg).2 (by have := (World.ownsRow.lt hrow g hg).1; omega)) (by omega)
  exact ⟨ca, cn, cc, ia, n, ic, rfl, X, hb0.trans ((ht.mono (S' := fun i => w.heap.size ≤ i) (fun i hi => by omega)).toBelow hb0.size), ⟨fr x2.co, fr x2.ix, x2.eq, fun x hx => fr (x2.nums x hx)⟩⟩

set_option maxRecDepth 100000 in
set_option maxHeartbeats 1000000 in
theorem read_none {B : List UInt8} (w : World) (hB : B.length ≤ 900000) (h : rdAll B = none) :
    Calls Tryz.prog 35 #[.string (bytesOf B)] w fun e w' => e = .returned (.tuple #[zeroTab, .bool false]) ∧ Hid (Below w.heap.size w w') := by
  have hz : (w.alloc tabZ).heap.size = w.heap.size + 1 := by simp
  have H1 : Hid (Calls Tryz.prog 53 #[.string (bytesOf (le8 5 ++ (le8 0 ++ B)))] (w.alloc tabZ) fun e w' => ∃ m : Int, m ≠ 0 ∧ e = .returned (.tuple #[reqVal 0 (.string ⟨#[]⟩) (.slice none 0 0) (.int .i64 0) (.slice none 0 0), .int .i64 m]) ∧ Hid (Below (w.alloc tabZ).heap.size (w.alloc tabZ) w')) := asked_none (w.alloc tabZ) hB h
  have HQ : Hid (∀ u, Below (w.alloc tabZ).heap.size (w.alloc tabZ) u → u.heap[w.heap.size]? = some tabZ ∧ w.heap.size < u.heap.size) := fun u hu => by
    have := (hu.block w.heap.size (by rw [hz]; omega)).trans (heap_new w _)
    exact ⟨this, lt_of this⟩
  have HC : Hid (∀ u : World, u.heap[w.heap.size]? = some tabZ → u.cell? ⟨w.heap.size, 0, none⟩ = some (.string ⟨#[]⟩) ∧ u.cell? ⟨w.heap.size, 1, none⟩ = some (.slice none 0 0) ∧ u.cell? ⟨w.heap.size, 2, none⟩ = some (.int .i64 0) ∧ u.cell? ⟨w.heap.size, 3, none⟩ = some (.slice none 0 0) ∧ u.frozen? ⟨w.heap.size, 0, none⟩ = false ∧ u.frozen? ⟨w.heap.size, 1, none⟩ = false ∧ u.frozen? ⟨w.heap.size, 2, none⟩ = false ∧ u.frozen? ⟨w.heap.size, 3, none⟩ = false) := fun u k =>
    ⟨by rw [cell_of k]; rfl, by rw [cell_of k]; rfl, by rw [cell_of k]; rfl, by rw [cell_of k]; rfl, frozen_of k 0, frozen_of k 1, frozen_of k 2, frozen_of k 3⟩
  have hadd := asking_add B
  obtain ⟨t, ht⟩ : ∃ t, bytesOf B = t := ⟨_, rfl⟩
  obtain ⟨t2, ht2⟩ : ∃ t2, bytesOf (le8 5 ++ (le8 0 ++ B)) = t2 := ⟨_, rfl⟩
  rw [ht, ht2] at hadd
  rw [ht2] at H1
  rw [ht]
  have hts : ¬ 9223372036854775807 < 16 + t.size := by rw [← ht, bytesOf_size]; omega
  clear h ht ht2
  go_enter Tryz.func35, Tryz.ntmps35
  go_wp2_with (go_at_call 53; go_must (refine H1.out.mono ?_; rintro e w1 ⟨m, hm0, rfl, K1⟩; obtain ⟨kq, kl⟩ := HQ.out w1 K1.out; obtain ⟨c0, c1, c2, c3, f0, f1, f2, f3⟩ := HC.out w1 kq; have KQ : Hid (w1.heap[w.heap.size]? = some tabZ) := kq; clear kq))
  have hj : ∀ o : Obj, (((((w1.setCell ⟨w.heap.size, 0, none⟩ (.string ⟨#[]⟩)).setCell ⟨w.heap.size, 1, none⟩ (.slice none 0 0)).setCell ⟨w.heap.size, 2, none⟩ (.int .i64 0)).setCell ⟨w.heap.size, 3, none⟩ (.slice none 0 0)).alloc o).heap[w.heap.size]? = some (.cells #[.string ⟨#[]⟩, .slice none 0 0, .int .i64 0, .slice none 0 0] 32 (0, 0)) := fun o => (Below.heap_alloc _ o _ (by simpa using kl)).trans (set4_heap KQ.out _ _ _ _)
  have j0 : ∀ o : Obj, (((((w1.setCell ⟨w.heap.size, 0, none⟩ (.string ⟨#[]⟩)).setCell ⟨w.heap.size, 1, none⟩ (.slice none 0 0)).setCell ⟨w.heap.size, 2, none⟩ (.int .i64 0)).setCell ⟨w.heap.size, 3, none⟩ (.slice none 0 0)).alloc o).cell? ⟨w.heap.size, 0, none⟩ = some (.string ⟨#[]⟩) := fun o => by rw [cell_of (hj o)]; rfl
  have j1 : ∀ o : Obj, (((((w1.setCell ⟨w.heap.size, 0, none⟩ (.string ⟨#[]⟩)).setCell ⟨w.heap.size, 1, none⟩ (.slice none 0 0)).setCell ⟨w.heap.size, 2, none⟩ (.int .i64 0)).setCell ⟨w.heap.size, 3, none⟩ (.slice none 0 0)).alloc o).cell? ⟨w.heap.size, 1, none⟩ = some (.slice none 0 0) := fun o => by rw [cell_of (hj o)]; rfl
  have j2 : ∀ o : Obj, (((((w1.setCell ⟨w.heap.size, 0, none⟩ (.string ⟨#[]⟩)).setCell ⟨w.heap.size, 1, none⟩ (.slice none 0 0)).setCell ⟨w.heap.size, 2, none⟩ (.int .i64 0)).setCell ⟨w.heap.size, 3, none⟩ (.slice none 0 0)).alloc o).cell? ⟨w.heap.size, 2, none⟩ = some (.int .i64 0) := fun o => by rw [cell_of (hj o)]; rfl
  have j3 : ∀ o : Obj, (((((w1.setCell ⟨w.heap.size, 0, none⟩ (.string ⟨#[]⟩)).setCell ⟨w.heap.size, 1, none⟩ (.slice none 0 0)).setCell ⟨w.heap.size, 2, none⟩ (.int .i64 0)).setCell ⟨w.heap.size, 3, none⟩ (.slice none 0 0)).alloc o).cell? ⟨w.heap.size, 3, none⟩ = some (.slice none 0 0) := fun o => by rw [cell_of (hj o)]; rfl
  refine bodyPost_ret (by simp [results, Tryz.results35, go_sem, j0, j1, j2, j3]; rfl) rfl ?_
  have x1 := K1.out
  have hb0 : Below w.heap.size w w1 := ((Below.refl _ w).alloc (Nat.le_refl _) _).trans (x1.mono (by rw [hz]; omega))
  have ht := (set4_turn w1 w.heap.size (.string ⟨#[]⟩) (.slice none 0 0) (.int .i64 0) (.slice none 0 0)).trans (Turn.alloc _ (reqBox 0 (.string ⟨#[]⟩) (.slice none 0 0) (.int .i64 0) (.slice none 0 0)))
  exact ⟨by simp [hm0], hb0.trans ((ht.mono (S' := fun i => w.heap.size ≤ i) (fun i hi => by omega)).toBelow hb0.size)⟩

end Go.Proofs.YtnboanlhdllhnaaGreat
