import Derived.Test.YtnboanlhdllhnaaGreatZAsked
import Derived.Test.YtnboanlhdllhnaaGreatZCreate
import Derived.Test.YtnboanlhdllhnaaGreatZOrderPJ
import Derived.Test.YtnboanlhdllhnaaGreatZWkJ
/- The program's read. -/
namespace Go.Proofs.YtnboanlhdllhnaaGreat
open Go.RowKit

theorem asked_some {B : List UInt8} {T : Tab} (w : World) (hB : B.length ≤ 900000) (h : rdAll B = some T) :
    Calls Tryz.prog 53 #[.string (bytesOf (le8 5 ++ (le8 0 ++ B)))] w fun e w' => ∃ ca cn cc ia n ic, e = .returned (.tuple #[reqVal 5 (.string T.nm) (.slice ca cn cc) (.int .i64 T.key) (.slice ia n ic), .int .i64 0]) ∧ Hid (∃ X, Below w.heap.size w w' ∧ TabO w' w.heap.size (.slice ca cn cc) (.slice ia n ic) X T) :=
  (asked_any B w hB).mono fun e w' ⟨h1, h2⟩ => by
    rcases h2 with ⟨T', ca, cn, cc, ia, n, ic, X, e1, e2, e3⟩ | ⟨e1, _⟩
    · rw [h] at e1
      cases e1
      exact ⟨ca, cn, cc, ia, n, ic, e2, X, h1, e3⟩
    · rw [h] at e1; cases e1
theorem asked_none {B : List UInt8} (w : World) (hB : B.length ≤ 900000) (h : rdAll B = none) :
    Calls Tryz.prog 53 #[.string (bytesOf (le8 5 ++ (le8 0 ++ B)))] w fun e w' => ∃ m : Int, m ≠ 0 ∧ e = .returned (.tuple #[reqVal 0 (.string ⟨#[]⟩) (.slice none 0 0) (.int .i64 0) (.slice none 0 0), .int .i64 m]) ∧ Hid (Below w.heap.size w w') :=
  (asked_any B w hB).mono fun e w' ⟨h1, h2⟩ => by
    rcases h2 with ⟨T', ca, cn, cc, ia, n, ic, X, e1, e2, e3⟩ | ⟨e1, m, e2, e3⟩
    · rw [h] at e1; cases e1
    · exact ⟨m, e2, e3, h1⟩

theorem asking_add (B : List UInt8) : (⟨#[5, 0, 0, 0, 0, 0, 0, 0, 0, 0, 0, 0, 0, 0, 0, 0]⟩ : ByteArray) ++ bytesOf B = bytesOf (le8 5 ++ (le8 0 ++ B)) := by
  apply kb_inj
  rw [← List.append_assoc]
  show ((⟨#[5, 0, 0, 0, 0, 0, 0, 0, 0, 0, 0, 0, 0, 0, 0, 0]⟩ : ByteArray) ++ bytesOf B).data.toList = (bytesOf (le8 5 ++ le8 0 ++ B)).data.toList
  rw [ByteArray.data_append, Array.toList_append, bytesOf_list, bytesOf_list]
  congr 1

set_option maxRecDepth 100000 in
set_option maxHeartbeats 1000000 in
theorem read_some {B : List UInt8} {T : Tab} (w : World) (hB : B.length ≤ 900000) (h : rdAll B = some T) :
    Calls Tryz.prog 35 #[.string (bytesOf B)] w fun e w' => ∃ ca cn cc ia n ic, e = .returned (.tuple #[.agg #[.string T.nm, .slice ca cn cc, .int .i64 T.key, .slice ia n ic], .bool true]) ∧ Hid (∃ X, Below w.heap.size w w' ∧ TabO w' w.heap.size (.slice ca cn cc) (.slice ia n ic) X T) := by
  have hz : (w.alloc tabZ).heap.size = w.heap.size + 1 := by simp
  obtain ⟨nm, hnm⟩ : ∃ nm, T.nm = nm := ⟨_, rfl⟩
  obtain ⟨key, hkey⟩ : ∃ key, T.key = key := ⟨_, rfl⟩
  have H1 : Hid (Calls Tryz.prog 53 #[.string (bytesOf (le8 5 ++ (le8 0 ++ B)))] (w.alloc tabZ) fun e w' => ∃ ca cn cc ia n ic, e = .returned (.tuple #[reqVal 5 (.string nm) (.slice ca cn cc) (.int .i64 key) (.slice ia n ic), .int .i64 0]) ∧ Hid (∃ X, Below (w.alloc tabZ).heap.size (w.alloc tabZ) w' ∧ TabO w' (w.heap.size + 1) (.slice ca cn cc) (.slice ia n ic) X T)) := by
    have := asked_some (w.alloc tabZ) hB h
    rw [hnm, hkey, hz] at this
    rw [hz]
    exact this
  have HQ : Hid (∀ u, Below (w.alloc tabZ).heap.size (w.alloc tabZ) u → u.heap[w.heap.size]? = some tabZ ∧ w.heap.size < u.heap.size) := fun u hu => by
    have := (hu.block w.heap.size (by rw [hz]; omega)).trans (heap_new w _)
    exact ⟨this, lt_of this⟩
  have HC : Hid (∀ u : World, u.heap[w.heap.size]? = some tabZ → u.cell? ⟨w.heap.size, 0, none⟩ = some (.string ⟨#[]⟩) ∧ u.cell? ⟨w.heap.size, 1, none⟩ = some (.slice none 0 0) ∧ u.cell? ⟨w.heap.size, 2, none⟩ = some (.int .i64 0) ∧ u.cell? ⟨w.heap.size, 3, none⟩ = some (.slice none 0 0) ∧ u.frozen? ⟨w.heap.size, 0, none⟩ = false ∧ u.frozen? ⟨w.heap.size, 1, none⟩ = false ∧ u.frozen? ⟨w.heap.size, 2, none⟩ = false ∧ u.frozen? ⟨w.heap.size, 3, none⟩ = false) := fun u k =>
    ⟨by rw [cell_of k]; rfl, by rw [cell_of k]; rfl, by rw [cell_of k]; rfl, by rw [cell_of k]; rfl, frozen_of k 0, frozen_of k 1, frozen_of k 2, frozen_of k 3⟩
  have hadd := asking_add B
  obtain ⟨t, ht⟩ : ∃ t, bytesOf B = t := ⟨_, rfl⟩
  obtain ⟨t2, ht2⟩ : ∃ t2, bytesOf (le8 5 ++ (le8 0 ++ B)) = t2 := ⟨_, rfl⟩
  rw [ht, ht2] at hadd
  rw [ht2] at H1
  rw [ht, hnm, hkey]
  have hts : ¬ 9223372036854775807 < 16 + t.size := by rw [← ht, bytesOf_size]; omega
  have HE : Hid (T.nm = nm ∧ T.key = key) := ⟨hnm, hkey⟩
  clear h ht ht2 hnm hkey
  go_enter Tryz.func35, Tryz.ntmps35
  go_wp2_with (go_at_call 53; go_must (refine H1.out.mono ?_; rintro e w1 ⟨ca, cn, cc, ia, n, ic, rfl, K1⟩; obtain ⟨kq, kl⟩ := HQ.out w1 (by obtain ⟨X, h, _⟩ := K1.out; exact h); obtain ⟨c0, c1, c2, c3, f0, f1, f2, f3⟩ := HC.out w1 kq; have KQ : Hid (w1.heap[w.heap.size]? = some tabZ) := kq; clear kq))
  have hj : ∀ o : Obj, (((((w1.setCell ⟨w.heap.size, 0, none⟩ (.string nm)).setCell ⟨w.heap.size, 1, none⟩ (.slice ca cn cc)).setCell ⟨w.heap.size, 2, none⟩ (.int .i64 key)).setCell ⟨w.heap.size, 3, none⟩ (.slice ia n ic)).alloc o).heap[w.heap.size]? = some (.cells #[.string nm, .slice ca cn cc, .int .i64 key, .slice ia n ic] 32 (0, 0)) := fun o => (Below.heap_alloc _ o _ (by simpa using kl)).trans (set4_heap KQ.out _ _ _ _)
  have j0 : ∀ o : Obj, (((((w1.setCell ⟨w.heap.size, 0, none⟩ (.string nm)).setCell ⟨w.heap.size, 1, none⟩ (.slice ca cn cc)).setCell ⟨w.heap.size, 2, none⟩ (.int .i64 key)).setCell ⟨w.heap.size, 3, none⟩ (.slice ia n ic)).alloc o).cell? ⟨w.heap.size, 0, none⟩ = some (.string nm) := fun o => by rw [cell_of (hj o)]; rfl
  have j1 : ∀ o : Obj, (((((w1.setCell ⟨w.heap.size, 0, none⟩ (.string nm)).setCell ⟨w.heap.size, 1, none⟩ (.slice ca cn cc)).setCell ⟨w.heap.size, 2, none⟩ (.int .i64 key)).setCell ⟨w.heap.size, 3, none⟩ (.slice ia n ic)).alloc o).cell? ⟨w.heap.size, 1, none⟩ = some (.slice ca cn cc) := fun o => by rw [cell_of (hj o)]; rfl
  have j2 : ∀ o : Obj, (((((w1.setCell ⟨w.heap.size, 0, none⟩ (.string nm)).setCell ⟨w.heap.size, 1, none⟩ (.slice ca cn cc)).setCell ⟨w.heap.size, 2, none⟩ (.int .i64 key)).setCell ⟨w.heap.size, 3, none⟩ (.slice ia n ic)).alloc o).cell? ⟨w.heap.size, 2, none⟩ = some (.int .i64 key) := fun o => by rw [cell_of (hj o)]; rfl
  have j3 : ∀ o : Obj, (((((w1.setCell ⟨w.heap.size, 0, none⟩ (.string nm)).setCell ⟨w.heap.size, 1, none⟩ (.slice ca cn cc)).setCell ⟨w.heap.size, 2, none⟩ (.int .i64 key)).setCell ⟨w.heap.size, 3, none⟩ (.slice ia n ic)).alloc o).cell? ⟨w.heap.size, 3, none⟩ = some (.slice ia n ic) := fun o => by rw [cell_of (hj o)]; rfl
  refine bodyPost_ret (by simp [results, Tryz.results35, go_sem, j0, j1, j2, j3]; rfl) rfl ?_
  obtain ⟨X, x1, x2⟩ := K1.out
  have hb0 : Below w.heap.size w w1 := ((Below.refl _ w).alloc (Nat.le_refl _) _).trans (x1.mono (by rw [hz]; omega))
  have ht := (set4_turn w1 w.heap.size (.string nm) (.slice ca cn cc) (.int .i64 key) (.slice ia n ic)).trans (Turn.alloc _ (reqBox 5 (.string nm) (.slice ca cn cc) (.int .i64 key) (.slice ia n ic)))
  have fr : ∀ {T : TypeId} {m k : Nat} {v : Value} {xs : List Value}, w1.ownsRow (w.heap.size + 1) T m v k xs → World.ownsRow _ w.heap.size T m v k xs := fun hrow =>
    ownsRow_low (ownsRow_block hrow fun g hg => ht.block g (World.ownsRow.lt hrow g hg).2 (by have := (World.ownsRow.lt hrow g hg).1; omega)) (by omega)
  exact ⟨ca, cn, cc, ia, n, ic, rfl, X, hb0.trans ((ht.mono (S' := fun i => w.heap.size ≤ i) (fun i hi => by omega)).toBelow hb0.size), ⟨fr x2.co, fr x2.ix, x2.eq, fun x hx => fr (x2.nums x hx)⟩⟩

set_option maxRecDepth 100000 in
set_option maxHeartbeats 1000000 in
theorem read_none {B : List UInt8} (w : World) (hB : B.length ≤ 900000) (h : rdAll B = none) :
    Calls Tryz.prog 35 #[.string (bytesOf B)] w fun e w' => e = .returned (.tuple #[zeroTab, .bool false]) ∧ Hid (Below w.heap.size w w') := by
  have hz : (w.alloc tabZ).heap.size = w.heap.size + 1 := by simp
  have H1 : Hid (Calls Tryz.prog 53 #[.string (bytesOf (le8 5 ++ (le8 0 ++ B)))] (w.alloc tabZ) fun e w' => ∃ m : Int, m ≠ 0 ∧ e = .returned (.tuple #[reqVal 0 (.string ⟨#[]⟩) (.slice none 0 0) (.int .i64 0) (.slice none 0 0), .int .i64 m]) ∧ Hid (Below (w.alloc tabZ).heap.size (w.alloc tabZ) w')) := asked_none (w.alloc tabZ) hB h
  have HQ : Hid (∀ u, Below (w.alloc tabZ).heap.size (w.alloc tabZ) u → u.heap[w.heap.size]? = some tabZ ∧ w.heap.size < u.heap.size) := fun u hu => by
    have := (hu.block w.heap.size (by rw [hz]; omega)).trans (heap_new w _)
    exact ⟨this, lt_of this⟩
  have HC : Hid (∀ u : World, u.heap[w.heap.size]? = some tabZ → u.cell? ⟨w.heap.size, 0, none⟩ = some (.string ⟨#[]⟩) ∧ u.cell? ⟨w.heap.size, 1, none⟩ = some (.slice none 0 0) ∧ u.cell? ⟨w.heap.size, 2, none⟩ = some (.int .i64 0) ∧ u.cell? ⟨w.heap.size, 3, none⟩ = some (.slice none 0 0) ∧ u.frozen? ⟨w.heap.size, 0, none⟩ = false ∧ u.frozen? ⟨w.heap.size, 1, none⟩ = false ∧ u.frozen? ⟨w.heap.size, 2, none⟩ = false ∧ u.frozen? ⟨w.heap.size, 3, none⟩ = false) := fun u k =>
    ⟨by rw [cell_of k]; rfl, by rw [cell_of k]; rfl, by rw [cell_of k]; rfl, by rw [cell_of k]; rfl, frozen_of k 0, frozen_of k 1, frozen_of k 2, frozen_of k 3⟩
  have hadd := asking_add B
  obtain ⟨t, ht⟩ : ∃ t, bytesOf B = t := ⟨_, rfl⟩
  obtain ⟨t2, ht2⟩ : ∃ t2, bytesOf (le8 5 ++ (le8 0 ++ B)) = t2 := ⟨_, rfl⟩
  rw [ht, ht2] at hadd
  rw [ht2] at H1
  rw [ht]
  have hts : ¬ 9223372036854775807 < 16 + t.size := by rw [← ht, bytesOf_size]; omega
  clear h ht ht2
  go_enter Tryz.func35, Tryz.ntmps35
  go_wp2_with (go_at_call 53; go_must (refine H1.out.mono ?_; rintro e w1 ⟨m, hm0, rfl, K1⟩; obtain ⟨kq, kl⟩ := HQ.out w1 K1.out; obtain ⟨c0, c1, c2, c3, f0, f1, f2, f3⟩ := HC.out w1 kq; have KQ : Hid (w1.heap[w.heap.size]? = some tabZ) := kq; clear kq))
  have hj : ∀ o : Obj, (((((w1.setCell ⟨w.heap.size, 0, none⟩ (.string ⟨#[]⟩)).setCell ⟨w.heap.size, 1, none⟩ (.slice none 0 0)).setCell ⟨w.heap.size, 2, none⟩ (.int .i64 0)).setCell ⟨w.heap.size, 3, none⟩ (.slice none 0 0)).alloc o).heap[w.heap.size]? = some (.cells #[.string ⟨#[]⟩, .slice none 0 0, .int .i64 0, .slice none 0 0] 32 (0, 0)) := fun o => (Below.heap_alloc _ o _ (by simpa using kl)).trans (set4_heap KQ.out _ _ _ _)
  have j0 : ∀ o : Obj, (((((w1.setCell ⟨w.heap.size, 0, none⟩ (.string ⟨#[]⟩)).setCell ⟨w.heap.size, 1, none⟩ (.slice none 0 0)).setCell ⟨w.heap.size, 2, none⟩ (.int .i64 0)).setCell ⟨w.heap.size, 3, none⟩ (.slice none 0 0)).alloc o).cell? ⟨w.heap.size, 0, none⟩ = some (.string ⟨#[]⟩) := fun o => by rw [cell_of (hj o)]; rfl
  have j1 : ∀ o : Obj, (((((w1.setCell ⟨w.heap.size, 0, none⟩ (.string ⟨#[]⟩)).setCell ⟨w.heap.size, 1, none⟩ (.slice none 0 0)).setCell ⟨w.heap.size, 2, none⟩ (.int .i64 0)).setCell ⟨w.heap.size, 3, none⟩ (.slice none 0 0)).alloc o).cell? ⟨w.heap.size, 1, none⟩ = some (.slice none 0 0) := fun o => by rw [cell_of (hj o)]; rfl
  have j2 : ∀ o : Obj, (((((w1.setCell ⟨w.heap.size, 0, none⟩ (.string ⟨#[]⟩)).setCell ⟨w.heap.size, 1, none⟩ (.slice none 0 0)).setCell ⟨w.heap.size, 2, none⟩ (.int .i64 0)).setCell ⟨w.heap.size, 3, none⟩ (.slice none 0 0)).alloc o).cell? ⟨w.heap.size, 2, none⟩ = some (.int .i64 0) := fun o => by rw [cell_of (hj o)]; rfl
  have j3 : ∀ o : Obj, (((((w1.setCell ⟨w.heap.size, 0, none⟩ (.string ⟨#[]⟩)).setCell ⟨w.heap.size, 1, none⟩ (.slice none 0 0)).setCell ⟨w.heap.size, 2, none⟩ (.int .i64 0)).setCell ⟨w.heap.size, 3, none⟩ (.slice none 0 0)).alloc o).cell? ⟨w.heap.size, 3, none⟩ = some (.slice none 0 0) := fun o => by rw [cell_of (hj o)]; rfl
  refine bodyPost_ret (by simp [results, Tryz.results35, go_sem, j0, j1, j2, j3]; rfl) rfl ?_
  have x1 := K1.out
  have hb0 : Below w.heap.size w w1 := ((Below.refl _ w).alloc (Nat.le_refl _) _).trans (x1.mono (by rw [hz]; omega))
  have ht := (set4_turn w1 w.heap.size (.string ⟨#[]⟩) (.slice none 0 0) (.int .i64 0) (.slice none 0 0)).trans (Turn.alloc _ (reqBox 0 (.string ⟨#[]⟩) (.slice none 0 0) (.int .i64 0) (.slice none 0 0)))
  exact ⟨by simp [hm0], hb0.trans ((ht.mono (S' := fun i => w.heap.size ≤ i) (fun i hi => by omega)).toBelow hb0.size)⟩

end Go.Proofs.YtnboanlhdllhnaaGreat

/- The program's Decode. -/
namespace Go.Proofs.YtnboanlhdllhnaaGreat
open Go.RowKit

def strSz : Value → Nat
  | .string s => s.size
  | _ => 0

/-- what Decode answers -/
def DecR (b : List UInt8) (w : World) (e : Ending) (w' : World) : Prop :=
  (262144 < b.length ∧ e = .returned (.tuple #[.pointer none, .agg #[.int .i64 0, .int .i64 2]]) ∧ Below w.heap.size w w') ∨
  (b.length ≤ 262144 ∧ (∀ L, ¬ Good b L) ∧ e = .returned (.tuple #[.pointer none, .agg #[.int .i64 0, .int .i64 3]]) ∧ Below w.heap.size w w') ∨
  (b.length ≤ 262144 ∧ ∃ L c, Good b L ∧ e = .returned (.tuple #[.pointer (some ⟨c, 0, none⟩), .agg #[.int .i64 0, .int .i64 0]]) ∧ ∃ F, CatI c L w' F ∧ (∀ i, F i → w.heap.size ≤ i) ∧ Below w.heap.size w w')

abbrev fltZ : Obj := .cells #[.int .i64 0, .int .i64 0] 48

/-- within Decode: its catalogue, and where its fault will lie -/
def DS (w wr : World) (c : Nat) (L : Cat) : Prop :=
  ∃ F, CatI c L wr F ∧ (∀ i, F i → w.heap.size + 1 ≤ i) ∧ Below w.heap.size w wr ∧ wr.heap[w.heap.size]? = some fltZ
theorem DS.kept {w wr u : World} {c : Nat} {L : Cat} (h : DS w wr c L) (hb : Below wr.heap.size wr u) : DS w u c L := by
  obtain ⟨F, h1, h2, h3, h4⟩ := h
  exact ⟨F, (catI_res c L).kept h1 (Turn.ofBelow (fun _ => False) hb) (fun _ _ h => h), h2, h3.trans (hb.mono h3.size), (hb.block _ (lt_of h4)).trans h4⟩
theorem DS.goes {w wr : World} {c : Nat} {L : Cat} (h : DS w wr c L) : ∃ F, CatI c L wr F ∧ (∀ i, F i → i < wr.heap.size) ∧ ∀ u v L', Below wr.heap.size wr u → Goes (CatI c L') u v F → DS w v c L' := by
  obtain ⟨F, h1, h2, h3, h4⟩ := h
  refine ⟨F, h1, fun i hi => (catI_res c L).lt h1 i hi, fun wr' u L' hb hg => ?_⟩
  have h3 := h3.trans (hb.mono h3.size)
  have h4 := (hb.block _ (lt_of h4)).trans h4
  obtain ⟨F', g1, g2, g3⟩ := hg
  refine ⟨F', g1, fun i hi => ?_, h3.trans ((g2.mono (S' := fun i => w.heap.size ≤ i) (fun i hi => by have := h2 i hi; omega)).toBelow h3.size), (g2.block _ (lt_of h4) (fun hF => by have := h2 _ hF; omega)).trans h4⟩
  rcases g3 i hi with k | k
  · exact h2 i k
  · have := lt_of h4; omega
theorem DS.cells {w wr : World} {c : Nat} {L : Cat} (h : DS w wr c L) : wr.cell? ⟨w.heap.size, 0, none⟩ = some (.int .i64 0) ∧ wr.cell? ⟨w.heap.size, 1, none⟩ = some (.int .i64 0) ∧ wr.frozen? ⟨w.heap.size, 0, none⟩ = false ∧ wr.frozen? ⟨w.heap.size, 1, none⟩ = false ∧ w.heap.size < wr.heap.size := by
  obtain ⟨F, h1, h2, h3, h4⟩ := h
  exact ⟨by rw [cell_of h4]; rfl, by rw [cell_of h4]; rfl, frozen_of h4 0, frozen_of h4 1, lt_of h4⟩
theorem DS.fault {w wr : World} {c : Nat} {L : Cat} (h : DS w wr c L) (a b : Value) : Turn (fun i => i = w.heap.size) wr ((wr.setCell ⟨w.heap.size, 0, none⟩ a).setCell ⟨w.heap.size, 1, none⟩ b) ∧ Below w.heap.size w ((wr.setCell ⟨w.heap.size, 0, none⟩ a).setCell ⟨w.heap.size, 1, none⟩ b) := by
  obtain ⟨F, h1, h2, h3, h4⟩ := h
  have ht : Turn (fun i => i = w.heap.size) wr ((wr.setCell ⟨w.heap.size, 0, none⟩ a).setCell ⟨w.heap.size, 1, none⟩ b) := (Turn.setCell (S := fun i => i = w.heap.size) wr ⟨w.heap.size, 0, none⟩ _ rfl).trans (Turn.setCell _ ⟨w.heap.size, 1, none⟩ _ rfl)
  exact ⟨ht, h3.trans ((ht.mono (S' := fun i => w.heap.size ≤ i) (fun i hi => by omega)).toBelow h3.size)⟩

theorem OkTab.rg {T : Tab} (h : OkTab T) : Rg T := ⟨h.nm, h.co.2, h.key, fun x hx => ⟨(h.ix.2 x hx).1, (h.ix.2 x hx).2.2⟩⟩

set_option maxRecDepth 100000 in
set_option maxHeartbeats 4000000 in
theorem decode_any (b0 : List UInt8) (w : World) : Calls Tryz.prog 20 #[.string (bytesOf b0)] w (DecR b0 w) := by
  have hsz : (bytesOf b0).size = b0.length := bytesOf_size _
  by_cases hlong : 262144 < b0.length
  · obtain ⟨t, ht⟩ : ∃ t, bytesOf b0 = t := ⟨_, rfl⟩
    obtain ⟨n, hn⟩ : ∃ n, b0.length = n := ⟨_, rfl⟩
    have HL : Hid (262144 < b0.length) := hlong
    rw [ht, hn] at hsz
    rw [hn] at hlong
    have k1 : (262144 : Int) < (n : Int) := by omega
    rw [ht]
    clear ht hn
    go_enter Tryz.func20, Tryz.ntmps20
    go_wp2
    refine bodyPost_ret (by simp [results, Tryz.results20, go_sem]; rfl) rfl ?_
    exact Or.inl ⟨HL.out, rfl, by go_grown⟩
  · have HL : Hid (b0.length ≤ 262144) := by show _ ≤ _; omega
    have HN : Hid (Calls Tryz.prog 6 #[] (w.alloc fltZ) fun e w' => ∃ c, e = .returned (.pointer (some ⟨c, 0, none⟩)) ∧ Hid (DS w w' c [])) := (new_any (w.alloc fltZ)).mono fun e w' ⟨c, e1, e2⟩ => by
      obtain ⟨F, k1, k2, k3⟩ := e2.out
      have hz : (w.alloc fltZ).heap.size = w.heap.size + 1 := by simp
      refine ⟨c, e1, F, k1, fun i hi => by have := k2 i hi; omega, ((Below.refl _ w).alloc (Nat.le_refl _) _).trans (k3.mono (by omega)), (k3.block _ (by omega)).trans (heap_new w _)⟩
    have HSp : Hid (∀ (q : List UInt8) (u : World), q.length ≤ 262144 → Calls Tryz.prog 34 #[.string (bytesOf q)] u fun e w' => e = .returned (.tuple #[.string (bytesOf (firstB q)), .string (bytesOf (tabW q))]) ∧ Hid (Below u.heap.size u w')) := fun q u hq => split_any q u (by omega)
    have HRs : Hid (∀ (q : List UInt8) (T : Tab) (u : World), q.length ≤ 262144 → rdAll (firstB q) = some T → Calls Tryz.prog 35 #[.string (bytesOf (firstB q))] u fun e w' => ∃ ca cn cc ia n ic, e = .returned (.tuple #[.agg #[.string T.nm, .slice ca cn cc, .int .i64 T.key, .slice ia n ic], .bool true]) ∧ Hid (∃ X, Below u.heap.size u w' ∧ TabO w' u.heap.size (.slice ca cn cc) (.slice ia n ic) X T)) := fun q T u hq h => read_some u (by unfold firstB; rw [List.length_take]; omega) h
    have HRn : Hid (∀ (q : List UInt8) (u : World), q.length ≤ 262144 → rdAll (firstB q) = none → Calls Tryz.prog 35 #[.string (bytesOf (firstB q))] u fun e w' => e = .returned (.tuple #[zeroTab, .bool false]) ∧ Hid (Below u.heap.size u w')) := fun q u hq h => read_none u (by unfold firstB; rw [List.length_take]; omega) h
    have HCr : Hid (∀ (w3 : World) (c : Nat) (L : Cat) (T : Tab) ca cn cc ia n ic X, DS w w3 c L → OkTab T → TabO w3 0 (.slice ca cn cc) (.slice ia n ic) X T → Calls Tryz.prog 9 #[.pointer (some ⟨c, 0, none⟩), .agg #[.string T.nm, .slice ca cn cc, .int .i64 T.key, .slice ia n ic]] (w3.alloc (tabBox T.nm ca cn cc T.key ia n ic)) fun e w' => e = .returned (.int .i64 (crE L T)) ∧ Hid (DS w w' c (crL L T)) ∧ w'.cell? ⟨w3.heap.size, 0, none⟩ = some (.string T.nm)) := fun w3 c L T ca cn cc ia n ic X hd ho ht => by
      have hb : Below w3.heap.size w3 (w3.alloc (tabBox T.nm ca cn cc T.key ia n ic)) := (Below.refl _ w3).alloc (Nat.le_refl _) _
      obtain ⟨F, k1, k2, k3⟩ := hd.goes
      have k1' : CatI c L (w3.alloc (tabBox T.nm ca cn cc T.key ia n ic)) F := (catI_res c L).kept k1 (Turn.ofBelow (fun _ => False) hb) (fun _ _ h => h)
      refine (create_any c L _ _ T _ w3 F hb ht.tabV ho.rg ho.nm k1').mono fun e w' ⟨e1, e2⟩ => ⟨e1, k3 _ w' _ hb e2, ?_⟩
      obtain ⟨F', g1, g2, g3⟩ := e2
      have hx := (g2.block w3.heap.size (by simp) (fun hF => by have := k2 _ hF; omega)).trans (heap_new w3 _)
      rw [cell_of hx]
      rfl
    obtain ⟨t, ht⟩ : ∃ t, bytesOf b0 = t := ⟨_, rfl⟩
    have HT : Hid (bytesOf b0 = t) := ht
    obtain ⟨n, hn⟩ : ∃ n, b0.length = n := ⟨_, rfl⟩
    rw [ht, hn] at hsz
    rw [hn] at hlong
    have k1 : ¬ (262144 : Int) < (n : Int) := by omega
    rw [ht]
    clear ht hn hlong
    go_enter Tryz.func20, Tryz.ntmps20
    go_wp2_with (go_at_call 6; go_must (refine HN.out.mono ?_; rintro e w1 ⟨c, rfl, K1⟩))
    clear HN
    go_loopw [0, 5] (fun b last wr => ∃ (q lastL : List UInt8) (L : Cat), b = .string (bytesOf q) ∧ last = .string (bytesOf lastL) ∧ Hid (DecInv b0 L lastL q ∧ q.length ≤ 262144 ∧ DS w wr c L)) (fun b _ _ => strSz b)
    case atStart => exact ⟨b0, [], [], by rw [HT.out], rfl, DecInv.start b0, HL.out, K1.out⟩
    case round =>
      clear K1
      obtain ⟨q, lastL, L, rfl, rfl, HQ⟩ := hrel
      obtain ⟨d0, d1, f0, f1, dl⟩ := HQ.out.2.2.cells
      by_cases hq : q = []
      · have e1 : bytesOf q = ⟨#[]⟩ := by rw [hq]; rfl
        rw [e1]
        obtain ⟨la, hla⟩ : ∃ la, bytesOf lastL = la := ⟨_, rfl⟩
        rw [hla]
        clear hla e1
        go_wp2
        refine bodyPost_ret (by simp [results, Tryz.results20, go_sem, d0, d1]; rfl) rfl ?_
        obtain ⟨g1, g2, g3⟩ := HQ.out
        rw [hq] at g1
        obtain ⟨ht, hbw⟩ := g3.fault (.int .i64 0) (.int .i64 0)
        obtain ⟨F, x1, x2, x3, x4⟩ := g3
        exact Or.inr (Or.inr ⟨HL.out, L, c, g1.done, rfl, F, (catI_res c L).kept x1 ht (fun i hi e => by have := x2 i hi; omega), fun i hi => by have := x2 i hi; omega, hbw⟩)
      · have e1 : ¬ (bytesOf q = ⟨#[]⟩) := fun e => hq (by have := congrArg (fun s => s.data.toList) e; rw [bytesOf_list] at this; exact this)
        have HS1 : Hid (∀ u, Calls Tryz.prog 34 #[.string (bytesOf q)] u fun e w' => e = .returned (.tuple #[.string (bytesOf (firstB q)), .string (bytesOf (tabW q))]) ∧ Hid (Below u.heap.size u w')) := fun u => HSp.out q u HQ.out.2.1
        obtain ⟨qs, hqs⟩ : ∃ qs, bytesOf q = qs := ⟨_, rfl⟩
        obtain ⟨fs, hfs⟩ : ∃ fs, bytesOf (firstB q) = fs := ⟨_, rfl⟩
        obtain ⟨rs, hrs⟩ : ∃ rs, bytesOf (tabW q) = rs := ⟨_, rfl⟩
        obtain ⟨la, hla⟩ : ∃ la, bytesOf lastL = la := ⟨_, rfl⟩
        have HSz : Hid (qs.size = q.length ∧ rs.size = (tabW q).length) := ⟨by rw [← hqs, bytesOf_size], by rw [← hrs, bytesOf_size]⟩
        have HLa : Hid (bytesOf lastL = la ∧ bytesOf (tabW q) = rs) := ⟨hla, hrs⟩
        rw [hqs, hfs, hrs] at HS1
        rw [hqs] at e1
        have e2 : ¬ qs.toList = [] := fun e => e1 (by rw [Go.ByteArray.toList_eq] at e; cases qs; simp at e; rw [e])
        have e3 : qs.toList.isEmpty = false := by cases hq : qs.toList with | nil => exact absurd hq e2 | cons _ _ => rfl
        rw [hqs, hla]
        cases hr : rdAll (firstB q) with
        | none =>
          have HR1 : Hid (∀ u, Calls Tryz.prog 35 #[.string fs] u fun e w' => e = .returned (.tuple #[zeroTab, .bool false]) ∧ Hid (Below u.heap.size u w')) := fun u => by rw [← hfs]; exact HRn.out q u HQ.out.2.1 hr
          have HNo : Hid (∀ L', ¬ Good b0 L') := HQ.out.1.no hq (fun T h => by rw [hr] at h; cases h)
          clear hqs hfs hrs hla hr d0 d1 f0 f1 dl
          go_wp2_with (first
            | (go_at_call 34; go_must (refine (HS1.out _).mono ?_; rintro e w2 ⟨rfl, K2⟩; have D2 : Hid (DS w w2 c L) := HQ.out.2.2.kept K2.out))
            | (go_at_call 35; go_must (refine (HR1.out _).mono ?_; rintro e w3 ⟨rfl, K3⟩; have D3 : Hid (DS w w3 c L) := D2.out.kept K3.out; obtain ⟨d0, d1, f0, f1, dl⟩ := D3.out.cells)))
          have hj : ∀ o : Obj, (((w3.setCell ⟨w.heap.size, 0, none⟩ (.int .i64 0)).setCell ⟨w.heap.size, 1, none⟩ (.int .i64 3)).alloc o).heap[w.heap.size]? = some (.cells #[.int .i64 0, .int .i64 3] 48 (0, 0)) := fun o => by
            obtain ⟨F, x1, x2, x3, x4⟩ := D3.out
            exact (Below.heap_alloc _ o _ (by simpa using dl)).trans (heap_setCell_same (heap_setCell_same x4 0 _) 1 _)
          have j0 : ∀ o : Obj, (((w3.setCell ⟨w.heap.size, 0, none⟩ (.int .i64 0)).setCell ⟨w.heap.size, 1, none⟩ (.int .i64 3)).alloc o).cell? ⟨w.heap.size, 0, none⟩ = some (.int .i64 0) := fun o => by rw [cell_of (hj o)]; rfl
          have j1 : ∀ o : Obj, (((w3.setCell ⟨w.heap.size, 0, none⟩ (.int .i64 0)).setCell ⟨w.heap.size, 1, none⟩ (.int .i64 3)).alloc o).cell? ⟨w.heap.size, 1, none⟩ = some (.int .i64 3) := fun o => by rw [cell_of (hj o)]; rfl
          refine bodyPost_ret (by simp [results, Tryz.results20, go_sem, j0, j1]; rfl) rfl ?_
          have hbw := (D3.out.fault (.int .i64 0) (.int .i64 3)).2
          exact Or.inr (Or.inl ⟨HL.out, HNo.out, rfl, hbw.alloc hbw.size _⟩)
        | some T =>
          have hok := (two_tab.back _ _ _ (rdAll_some hr)).1
          obtain ⟨nm, hnm⟩ : ∃ nm, T.nm = nm := ⟨_, rfl⟩
          obtain ⟨key, hkey⟩ : ∃ key, T.key = key := ⟨_, rfl⟩
          have HNm : Hid (T.nm = nm) := hnm
          have HR1 : Hid (∀ u, Calls Tryz.prog 35 #[.string fs] u fun e w' => ∃ ca cn cc ia n ic, e = .returned (.tuple #[.agg #[.string nm, .slice ca cn cc, .int .i64 key, .slice ia n ic], .bool true]) ∧ Hid (∃ X, Below u.heap.size u w' ∧ TabO w' u.heap.size (.slice ca cn cc) (.slice ia n ic) X T)) := fun u => by rw [← hfs, ← hnm, ← hkey]; exact HRs.out q T u HQ.out.2.1 hr
          have HC1 : Hid (∀ (w3 : World) ca cn cc ia n ic X, DS w w3 c L → TabO w3 0 (.slice ca cn cc) (.slice ia n ic) X T → Calls Tryz.prog 9 #[.pointer (some ⟨c, 0, none⟩), .agg #[.string nm, .slice ca cn cc, .int .i64 key, .slice ia n ic]] (w3.alloc (tabBox nm ca cn cc key ia n ic)) fun e w' => e = .returned (.int .i64 (crE L T)) ∧ Hid (DS w w' c (crL L T)) ∧ w'.cell? ⟨w3.heap.size, 0, none⟩ = some (.string nm)) := fun w3 ca cn cc ia n ic X h1 h2 => by rw [← hnm, ← hkey]; exact HCr.out w3 c L T ca cn cc ia n ic X h1 hok h2
          have HLl : Hid (kb la = lastL) := by show _ = _; rw [← hla]; exact bytesOf_list _
          have HRd : Hid (rdAll (firstB q) = some T) := hr
          clear hqs hfs hrs hla hr d0 d1 f0 f1 dl hnm hkey hok HCr HRs HRn HSp
          by_cases hless : Op.bytesLess la.toList nm.toList = true
          · have b1 : Op.bytesLess nm.toList la.toList = false := bl_asym (a := la) (b := nm) hless
            have b2 : ¬ nm.toList = la.toList := fun e => by rw [e, bl_irrefl] at hless; cases hless
            have b3 : (nm.toList == la.toList) = false := beq_false_of_ne b2
            have HLs : Hid (bytesBefore lastL (kb T.nm) = true) := by
              show _ = _
              rw [← HLl.out, HNm.out, Dk.before_less]
              rw [Go.ByteArray.toList_eq, Go.ByteArray.toList_eq] at hless
              exact hless
            by_cases hz : crE L T = 0
            · rw [hz] at HC1
              obtain ⟨HY, hlt⟩ := HQ.out.1.yes hq HRd.out HLs.out hz
              have HY' : Hid (DecInv b0 (crL L T) (kb T.nm) (tabW q)) := HY
              clear HY
              go_wp2_with (first
                | (go_at_call 34; go_must (refine (HS1.out _).mono ?_; rintro e w2 ⟨rfl, K2⟩; have D2 : Hid (DS w w2 c L) := HQ.out.2.2.kept K2.out))
                | (go_at_call 35; go_must (refine (HR1.out _).mono ?_; rintro e w3 ⟨ca, cn, cc, ia, n3, ic, rfl, K3⟩; obtain ⟨X, K4, K5⟩ := K3.out; have D3 : Hid (DS w w3 c L) := D2.out.kept K4; have HC2 : Hid (Calls Tryz.prog 9 #[.pointer (some ⟨c, 0, none⟩), .agg #[.string nm, .slice ca cn cc, .int .i64 key, .slice ia n3 ic]] (w3.alloc (tabBox nm ca cn cc key ia n3 ic)) fun e w' => e = .returned (.int .i64 0) ∧ Hid (DS w w' c (crL L T)) ∧ w'.cell? ⟨w3.heap.size, 0, none⟩ = some (.string nm)) := HC1.out w3 ca cn cc ia n3 ic X D3.out (K5.low (Nat.zero_le _)); clear K4 K5 K3))
                | (go_at_call 9; go_must (refine HC2.out.mono ?_; rintro e w4 ⟨rfl, D4, c4⟩)))
              go_quiet (fail)
              go_wp2_with fail
              go_roundw
              case rel =>
                refine ⟨tabW q, kb T.nm, crL L T, by rw [HLa.out.2], by rw [HNm.out, kb_bytes], HY'.out, ?_, D4.out.kept (below_drewN w4 _)⟩
                have := HQ.out.2.1
                omega
              case measure =>
                show rs.size < qs.size
                rw [HSz.out.1, HSz.out.2]
                exact hlt
            · have HNo : Hid (∀ L', ¬ Good b0 L') := HQ.out.1.no hq (fun T' h _ => by rw [HRd.out] at h; cases h; exact hz)
              obtain ⟨ce, hce⟩ : ∃ ce, crE L T = ce := ⟨_, rfl⟩
              rw [hce] at HC1 hz
              have hz2 : (ce == 0) = false := beq_false_of_ne hz
              clear hce
              go_wp2_with (first
                | (go_at_call 34; go_must (refine (HS1.out _).mono ?_; rintro e w2 ⟨rfl, K2⟩; have D2 : Hid (DS w w2 c L) := HQ.out.2.2.kept K2.out))
                | (go_at_call 35; go_must (refine (HR1.out _).mono ?_; rintro e w3 ⟨ca, cn, cc, ia, n3, ic, rfl, K3⟩; obtain ⟨X, K4, K5⟩ := K3.out; have D3 : Hid (DS w w3 c L) := D2.out.kept K4; have HC2 : Hid (Calls Tryz.prog 9 #[.pointer (some ⟨c, 0, none⟩), .agg #[.string nm, .slice ca cn cc, .int .i64 key, .slice ia n3 ic]] (w3.alloc (tabBox nm ca cn cc key ia n3 ic)) fun e w' => e = .returned (.int .i64 ce) ∧ Hid (DS w w' c (crL L T)) ∧ w'.cell? ⟨w3.heap.size, 0, none⟩ = some (.string nm)) := HC1.out w3 ca cn cc ia n3 ic X D3.out (K5.low (Nat.zero_le _)); clear K4 K5 K3))
                | (go_at_call 9; go_must (refine HC2.out.mono ?_; rintro e w4 ⟨rfl, D4, c4⟩; obtain ⟨d0, d1, f0, f1, dl⟩ := D4.out.cells)))
              refine bodyPost_ret (by simp [results, Tryz.results20, go_sem, d0, d1]; rfl) rfl ?_
              have hbw := (D4.out.fault (.int .i64 0) (.int .i64 3)).2
              exact Or.inr (Or.inl ⟨HL.out, HNo.out, rfl, hbw⟩)
          · have HNo : Hid (∀ L', ¬ Good b0 L') := HQ.out.1.no hq (fun T' h h2 => by
              rw [HRd.out] at h; cases h
              rw [← HLl.out, HNm.out, Dk.before_less] at h2
              exact absurd (by rw [Go.ByteArray.toList_eq, Go.ByteArray.toList_eq]; exact h2) hless)
            have b0' : Op.bytesLess la.toList nm.toList = false := by cases h : Op.bytesLess la.toList nm.toList with | true => exact absurd h hless | false => rfl
            have b1 : (Op.bytesLess nm.toList la.toList || (nm.toList == la.toList)) = true := by
              rcases bl_total la.toList nm.toList with h | h | h
              · exact absurd h hless
              · rw [h]; simp
              · rw [h]; rfl
            clear HC1
            go_wp2_with (first
              | (go_at_call 34; go_must (refine (HS1.out _).mono ?_; rintro e w2 ⟨rfl, K2⟩; have D2 : Hid (DS w w2 c L) := HQ.out.2.2.kept K2.out))
              | (go_at_call 35; go_must (refine (HR1.out _).mono ?_; rintro e w3 ⟨ca, cn, cc, ia, n3, ic, rfl, K3⟩; have D3 : Hid (DS w w3 c L) := (by obtain ⟨X, K4, K5⟩ := K3.out; exact D2.out.kept K4); obtain ⟨d0, d1, f0, f1, dl⟩ := D3.out.cells)))
            have hj : ∀ o : Obj, (((w3.setCell ⟨w.heap.size, 0, none⟩ (.int .i64 0)).setCell ⟨w.heap.size, 1, none⟩ (.int .i64 3)).alloc o).heap[w.heap.size]? = some (.cells #[.int .i64 0, .int .i64 3] 48 (0, 0)) := fun o => by
              obtain ⟨F, x1, x2, x3, x4⟩ := D3.out
              exact (Below.heap_alloc _ o _ (by simpa using dl)).trans (heap_setCell_same (heap_setCell_same x4 0 _) 1 _)
            have j0 : ∀ o : Obj, (((w3.setCell ⟨w.heap.size, 0, none⟩ (.int .i64 0)).setCell ⟨w.heap.size, 1, none⟩ (.int .i64 3)).alloc o).cell? ⟨w.heap.size, 0, none⟩ = some (.int .i64 0) := fun o => by rw [cell_of (hj o)]; rfl
            have j1 : ∀ o : Obj, (((w3.setCell ⟨w.heap.size, 0, none⟩ (.int .i64 0)).setCell ⟨w.heap.size, 1, none⟩ (.int .i64 3)).alloc o).cell? ⟨w.heap.size, 1, none⟩ = some (.int .i64 3) := fun o => by rw [cell_of (hj o)]; rfl
            refine bodyPost_ret (by simp [results, Tryz.results20, go_sem, j0, j1]; rfl) rfl ?_
            have hbw := (D3.out.fault (.int .i64 0) (.int .i64 3)).2
            exact Or.inr (Or.inl ⟨HL.out, HNo.out, rfl, hbw.alloc hbw.size _⟩)

end Go.Proofs.YtnboanlhdllhnaaGreat
