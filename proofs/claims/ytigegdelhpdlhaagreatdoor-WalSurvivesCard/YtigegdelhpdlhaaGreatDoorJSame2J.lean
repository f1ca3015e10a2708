import Derived.Test.YtigegdelhpdlhaaGreatDoorJWorksJ
/- Layer 18: are entries the same (SameEntry). -/
namespace Go.Proofs.YtigegdelhpdlhaaGreatDoor
open Go.RowKit QP

theorem two_boxes (w : World) (t k : ByteArray) (x y : Nat) : Below w.heap.size w ((w.alloc (boxJ t k x)).alloc (boxJ t k y)).drew ∧ ((w.alloc (boxJ t k x)).alloc (boxJ t k y)).drew.heap[w.heap.size]? = some (boxJ t k x) ∧ ((w.alloc (boxJ t k x)).alloc (boxJ t k y)).drew.heap[w.heap.size + 1]? = some (boxJ t k y) := by
  have c1 : Below w.heap.size w (w.alloc (boxJ t k x)) := (Below.refl _ _).alloc (Nat.le_refl _) _
  have hn1 := heap_new (w.alloc (boxJ t k x)) (boxJ t k y)
  rw [World.size_alloc] at hn1
  exact ⟨bl_drew (c1.alloc c1.size _), (Below.heap_alloc _ _ w.heap.size (by simp)).trans (heap_new w _), hn1⟩
theorem box_cells {u : World} {g x : Nat} {t k : ByteArray} (h : u.heap[g]? = some (boxJ t k x)) : u.cell? ⟨g, 0, none⟩ = some (.string t) ∧ u.cell? ⟨g, 1, none⟩ = some (.string k) ∧ u.cell? ⟨g, 2, none⟩ = some (.bool false) ∧ u.cell? ⟨g, 3, none⟩ = some (.slice (some ⟨x, 0, none⟩) 1 1) :=
  ⟨by rw [cell_of h]; rfl, by rw [cell_of h]; rfl, by rw [cell_of h]; rfl, by rw [cell_of h]; rfl⟩

set_option maxRecDepth 100000 in
set_option maxHeartbeats 4000000 in
theorem sameEntry_one (T n : Nat) (t k : ByteArray) (g1 x1 g2 x2 : Nat) (w : World) (a1 : w.heap[g1]? = some (boxJ t k x1)) (a2 : OneAt w x1 2 (n : Int) ByteArray.empty) (b1 : w.heap[g2]? = some (boxJ t k x2)) (b2 : OneAt w x2 2 (n : Int) ByteArray.empty) :
    Calls Tryz.prog 48 #[.agg #[.int .u64 (T : Int), .slice (some ⟨g1, 0, none⟩) 1 1], .agg #[.int .u64 (T : Int), .slice (some ⟨g2, 0, none⟩) 1 1]] w fun e w' => e = .returned (.bool true) ∧ Below w.heap.size w w' := by
  obtain ⟨q, hq⟩ : ∃ q, w.heap.size = q := ⟨_, rfl⟩
  obtain ⟨wB, hwB⟩ : ∃ u, (w.alloc (entO T g1)).alloc (entO T g2) = u := ⟨_, rfl⟩
  have c1 : Below w.heap.size w (w.alloc (entO T g1)) := (Below.refl _ _).alloc (Nat.le_refl _) _
  have c2 := c1.alloc c1.size (entO T g2)
  have hn0 := (Below.heap_alloc _ (entO T g2) w.heap.size (by simp)).trans (heap_new w (entO T g1))
  have hn1 := heap_new (w.alloc (entO T g1)) (entO T g2)
  rw [World.size_alloc, hq] at hn1
  rw [hq] at hn0
  rw [hwB] at hn0 hn1 c2
  have HBB : Hid (Below w.heap.size w wB) := c2
  have HC : Hid (∀ u, Below wB.heap.size wB u → (u.cell? ⟨q, 0, none⟩ = some (.int .u64 (T : Int)) ∧ u.cell? ⟨q, 1, none⟩ = some (.slice (some ⟨g1, 0, none⟩) 1 1) ∧ u.cell? ⟨q + 1, 0, none⟩ = some (.int .u64 (T : Int)) ∧ u.cell? ⟨q + 1, 1, none⟩ = some (.slice (some ⟨g2, 0, none⟩) 1 1)) ∧
      (u.cell? ⟨g1, 0, none⟩ = some (.string t) ∧ u.cell? ⟨g1, 1, none⟩ = some (.string k) ∧ u.cell? ⟨g1, 2, none⟩ = some (.bool false) ∧ u.cell? ⟨g1, 3, none⟩ = some (.slice (some ⟨x1, 0, none⟩) 1 1)) ∧ (u.cell? ⟨g2, 0, none⟩ = some (.string t) ∧ u.cell? ⟨g2, 1, none⟩ = some (.string k) ∧ u.cell? ⟨g2, 2, none⟩ = some (.bool false) ∧ u.cell? ⟨g2, 3, none⟩ = some (.slice (some ⟨x2, 0, none⟩) 1 1))) := fun u hu => by
    have e0 := (hu.block _ (lt_of hn0)).trans hn0
    have e1 := (hu.block _ (lt_of hn1)).trans hn1
    have hb := c2.trans (hu.mono c2.size)
    have e2 := (hb.block _ (lt_of a1)).trans a1
    have e3 := (hb.block _ (lt_of b1)).trans b1
    exact ⟨⟨by rw [cell_of e0]; rfl, by rw [cell_of e0]; rfl, by rw [cell_of e1]; rfl, by rw [cell_of e1]; rfl⟩, ⟨by rw [cell_of e2]; rfl, by rw [cell_of e2]; rfl, by rw [cell_of e2]; rfl, by rw [cell_of e2]; rfl⟩, ⟨by rw [cell_of e3]; rfl, by rw [cell_of e3]; rfl, by rw [cell_of e3]; rfl, by rw [cell_of e3]; rfl⟩⟩
  have HR : Hid (∀ u, Below wB.heap.size wB u → Calls Tryz.prog 79 #[.slice (some ⟨x1, 0, none⟩) 1 1, .slice (some ⟨x2, 0, none⟩) 1 1] u fun e w' => e = .returned (.bool true) ∧ Below u.heap.size u w') := fun u hu => by
    have hb := c2.trans (hu.mono c2.size)
    exact sameRow_one n x1 x2 u (a2.below hb) (b2.below hb)
  have HW : Hid ((w.alloc (entO T g1)).alloc (entO T g2) = wB ∧ w.heap.size = q) := ⟨hwB, hq⟩
  obtain ⟨⟨z0, z1, z2, z3⟩, _, _⟩ := HC.out wB (Below.refl _ _)
  clear a1 a2 b1 b2 c1 c2 hn0 hn1 hwB hq
  go_enter Tryz.func48, Tryz.ntmps48
  go_wp2_with fail
  rw [HW.out.1, HW.out.2]
  go_loopw [5] (fun v wr => ∃ i : Nat, i ≤ 1 ∧ v = .int .i64 i ∧ Hid (Below wB.heap.size wB wr)) (fun v _ => 1 - (intOf v).toNat)
  case atStart => exact ⟨0, Nat.zero_le _, rfl, Below.refl _ _⟩
  case round =>
    obtain ⟨i, hi, rfl, HB⟩ := hrel
    obtain ⟨⟨p0, p1, p2, p3⟩, ⟨r0, r1, r2, r3⟩, ⟨s0, s1, s2, s3⟩⟩ := HC.out wr HB.out
    clear z0 z1 z2 z3
    by_cases hlt : i < 1
    · obtain rfl : i = 0 := by omega
      go_wp2_with fail
      go_region_held3 (fun u => u.cell? ⟨q, 1, none⟩ = some (.slice (some ⟨g1, 0, none⟩) 1 1) ∧ u.cell? ⟨q + 1, 1, none⟩ = some (.slice (some ⟨g2, 0, none⟩) 1 1) ∧
        (u.cell? ⟨g1, 0, none⟩ = some (.string t) ∧ u.cell? ⟨g1, 1, none⟩ = some (.string k) ∧ u.cell? ⟨g1, 2, none⟩ = some (.bool false) ∧ u.cell? ⟨g1, 3, none⟩ = some (.slice (some ⟨x1, 0, none⟩) 1 1)) ∧ (u.cell? ⟨g2, 0, none⟩ = some (.string t) ∧ u.cell? ⟨g2, 1, none⟩ = some (.string k) ∧ u.cell? ⟨g2, 2, none⟩ = some (.bool false) ∧ u.cell? ⟨g2, 3, none⟩ = some (.slice (some ⟨x2, 0, none⟩) 1 1))) (go_keep) (fail)
      · show _
        obtain ⟨hb, h1, h2⟩ := two_boxes wr t k x1 x2
        obtain ⟨v0, v1, v2, v3⟩ := box_cells h1
        obtain ⟨y0, y1, y2, y3⟩ := box_cells h2
        obtain ⟨X, hX⟩ : ∃ X, wr.heap.size = X := ⟨_, rfl⟩
        obtain ⟨wC, hwC⟩ : ∃ u, ((wr.alloc (boxJ t k x1)).alloc (boxJ t k x2)).drew = u := ⟨_, rfl⟩
        rw [hX] at v0 v1 v2 v3 y0 y1 y2 y3
        rw [hwC] at v0 v1 v2 v3 y0 y1 y2 y3 hb
        have HB2 : Hid (Below wB.heap.size wB wC) := HB.out.trans (hb.mono HB.out.size)
        have HWC : Hid (((wr.alloc (boxJ t k x1)).alloc (boxJ t k x2)).drew = wC ∧ wr.heap.size = X) := ⟨hwC, hX⟩
        clear h1 h2 hb hwC hX p0 p1 p2 p3 r0 r1 r2 r3 s0 s1 s2 s3
        rw [HWC.out.1, HWC.out.2]
        clear HWC
        go_wp2_with (go_at_call 79; (with_reducible refine (HR.out _ HB2.out).mono ?_); rintro e w5 ⟨rfl, hb5⟩)
        exact ⟨⟨0 + 1, by omega, by go_num, HB2.out.trans (hb5.mono HB2.out.size)⟩, by simp [intOf]⟩
      · show _
        obtain ⟨hb, h1, h2⟩ := two_boxes wr t k x2 x1
        obtain ⟨v0, v1, v2, v3⟩ := box_cells h1
        obtain ⟨y0, y1, y2, y3⟩ := box_cells h2
        obtain ⟨X, hX⟩ : ∃ X, wr.heap.size = X := ⟨_, rfl⟩
        obtain ⟨wC, hwC⟩ : ∃ u, ((wr.alloc (boxJ t k x2)).alloc (boxJ t k x1)).drew = u := ⟨_, rfl⟩
        rw [hX] at v0 v1 v2 v3 y0 y1 y2 y3
        rw [hwC] at v0 v1 v2 v3 y0 y1 y2 y3 hb
        have HB2 : Hid (Below wB.heap.size wB wC) := HB.out.trans (hb.mono HB.out.size)
        have HWC : Hid (((wr.alloc (boxJ t k x2)).alloc (boxJ t k x1)).drew = wC ∧ wr.heap.size = X) := ⟨hwC, hX⟩
        clear h1 h2 hb hwC hX p0 p1 p2 p3 r0 r1 r2 r3 s0 s1 s2 s3
        rw [HWC.out.1, HWC.out.2]
        clear HWC
        go_wp2_with (go_at_call 79; (with_reducible refine (HR.out _ HB2.out).mono ?_); rintro e w5 ⟨rfl, hb5⟩)
        exact ⟨⟨0 + 1, by omega, by go_num, HB2.out.trans (hb5.mono HB2.out.size)⟩, by simp [intOf]⟩
    · obtain rfl : i = 1 := by omega
      go_wp2_with fail
      go_ret
      exact ⟨rfl, HBB.out.trans (HB.out.mono HBB.out.size)⟩
end Go.Proofs.YtigegdelhpdlhaaGreatDoor

/- Layer 18: are slices of entries the same (SameEntries). -/
namespace Go.Proofs.YtigegdelhpdlhaaGreatDoor
open Go.RowKit QP

set_option maxRecDepth 100000 in
set_option maxHeartbeats 4000000 in
theorem sameEntries_any (t k : ByteArray) (v1 v2 : Value) (L1 L2 : List Er) (d1 d2 : Nat) (w : World) (h1 : EntsO w d1 t k v1 L1) (h2 : EntsO w d2 t k v2 L2) (h : L1.map Er.tn = L2.map Er.tn) (hl : L1.length ≤ 1000) :
    Calls Tryz.prog 21 #[v1, v2] w fun e w' => e = .returned (.bool true) ∧ Below w.heap.size w w' := by
  have hlen : L1.length = L2.length := by simpa using congrArg List.length h
  obtain ⟨a1, m1, rfl⟩ := row_shapeJ h1.row
  obtain ⟨a2, m2, rfl⟩ := row_shapeJ h2.row
  obtain ⟨N, hN⟩ : ∃ N, L1.length = N := ⟨_, rfl⟩
  have hN2 : L2.length = N := by omega
  have HA : Hid (∀ (u : World) (j : Nat), Below w.heap.size w u → j < N → ∃ g1 g2 b1 b2 T : Nat, a1 = some ⟨b1, 0, none⟩ ∧ a2 = some ⟨b2, 0, none⟩ ∧ N ≤ m1 ∧ m1 ≤ 9223372036854775807 ∧ N ≤ m2 ∧ m2 ≤ 9223372036854775807 ∧
      (u.cell? ⟨b1, j * 2, none⟩ = some (.int .u64 (T : Int)) ∧ u.cell? ⟨b1, j * 2 + 1, none⟩ = some (.slice (some ⟨g1, 0, none⟩) 1 1) ∧ u.cell? ⟨b2, j * 2, none⟩ = some (.int .u64 (T : Int)) ∧ u.cell? ⟨b2, j * 2 + 1, none⟩ = some (.slice (some ⟨g2, 0, none⟩) 1 1)) ∧
      ∀ u, Below w.heap.size w u → Calls Tryz.prog 48 #[.agg #[.int .u64 (T : Int), .slice (some ⟨g1, 0, none⟩) 1 1], .agg #[.int .u64 (T : Int), .slice (some ⟨g2, 0, none⟩) 1 1]] u fun e w' => e = .returned (.bool true) ∧ Below u.heap.size u w' ∧
      (w'.cell? ⟨b1, j * 2, none⟩ = some (.int .u64 (T : Int)) ∧ w'.cell? ⟨b1, j * 2 + 1, none⟩ = some (.slice (some ⟨g1, 0, none⟩) 1 1) ∧ w'.cell? ⟨b2, j * 2, none⟩ = some (.int .u64 (T : Int)) ∧ w'.cell? ⟨b2, j * 2 + 1, none⟩ = some (.slice (some ⟨g2, 0, none⟩) 1 1))) := fun u j hu hj => by
    obtain ⟨b1, rfl, k1, k2⟩ := row_someJ h1.row (by omega)
    obtain ⟨b2, rfl, k3, k4⟩ := row_someJ h2.row (by omega)
    have j1 : j < L1.length := by omega
    have j2 : j < L2.length := by omega
    have he : (L1[j]).tn = (L2[j]).tn := by
      have e1 : (L1.map Er.tn)[j]? = (L2.map Er.tn)[j]? := by rw [h]
      rw [List.getElem?_map, List.getElem?_map, List.getElem?_eq_getElem j1, List.getElem?_eq_getElem j2] at e1
      simpa using e1
    have hT : (L2[j]).T = (L1[j]).T := (congrArg Prod.fst he).symm
    have hn : (L2[j]).n = (L1[j]).n := (congrArg Prod.snd he).symm
    have key : ∀ u, Below w.heap.size w u → (u.cell? ⟨b1, j * 2, none⟩ = some (.int .u64 ((L1[j]).T : Int)) ∧ u.cell? ⟨b1, j * 2 + 1, none⟩ = some (.slice (some ⟨(L1[j]).g, 0, none⟩) 1 1) ∧ u.cell? ⟨b2, j * 2, none⟩ = some (.int .u64 ((L1[j]).T : Int)) ∧ u.cell? ⟨b2, j * 2 + 1, none⟩ = some (.slice (some ⟨(L2[j]).g, 0, none⟩) 1 1)) := fun u hu => by
      have f0 := flat_get (en := enE) (m := 2) (fun _ => rfl) L1 j j1 0 (by omega)
      have f1 := flat_get (en := enE) (m := 2) (fun _ => rfl) L1 j j1 1 (by omega)
      have f2 := flat_get (en := enE) (m := 2) (fun _ => rfl) L2 j j2 0 (by omega)
      have f3 := flat_get (en := enE) (m := 2) (fun _ => rfl) L2 j j2 1 (by omega)
      have q0 := World.ownsRow.cells (row_kept h1.row hu) (g := b1) rfl _ _ f0
      have q1 := World.ownsRow.cells (row_kept h1.row hu) (g := b1) rfl _ _ f1
      have q2 := World.ownsRow.cells (row_kept h2.row hu) (g := b2) rfl _ _ f2
      have q3 := World.ownsRow.cells (row_kept h2.row hu) (g := b2) rfl _ _ f3
      rw [Addr.add_lit, Nat.zero_add, Nat.mul_comm] at q0 q1 q2 q3
      refine ⟨q0, q1, ?_, q3⟩
      rw [← hT]
      exact q2
    refine ⟨(L1[j]).g, (L2[j]).g, b1, b2, (L1[j]).T, rfl, rfl, by omega, k2, by omega, k4, key u hu, fun u hu => ?_⟩
    obtain ⟨x1, x2, _⟩ := h1.ent _ (List.getElem_mem j1)
    obtain ⟨y1, y2, _⟩ := h2.ent _ (List.getElem_mem j2)
    rw [hn] at y2
    exact (sameEntry_one (L1[j]).T (L1[j]).n t k (L1[j]).g (L1[j]).x (L2[j]).g (L2[j]).x u ((hu.block _ (lt_of x1)).trans x1) (x2.below hu) ((hu.block _ (lt_of y1)).trans y1) (y2.below hu)).mono fun e w' ⟨e1, e2⟩ => ⟨e1, e2, key w' (hu.trans (e2.mono hu.size))⟩
  rw [hN] at hl ⊢
  rw [hN2]
  clear h1 h2 h hlen hN hN2
  go_enter Tryz.func21, Tryz.ntmps21
  go_wp2_with fail
  go_loopw [5] (fun v wr => ∃ i : Nat, i ≤ N ∧ v = .int .i64 i ∧ Hid (Below w.heap.size w wr)) (fun v _ => N - (intOf v).toNat)
  case atStart => exact ⟨0, Nat.zero_le _, rfl, Below.refl _ _⟩
  case round =>
    obtain ⟨i, hi, rfl, HB⟩ := hrel
    by_cases hlt : i < N
    · have hlI : (i : Int) < (N : Int) := by omega
      obtain ⟨g1, g2, b1, b2, T, rfl, rfl, k1, k2, k3, k4, ⟨p0, p1, p2, p3⟩, hS⟩ := HA.out wr i HB.out hlt
      have HS : Hid (Calls Tryz.prog 48 #[.agg #[.int .u64 (T : Int), .slice (some ⟨g1, 0, none⟩) 1 1], .agg #[.int .u64 (T : Int), .slice (some ⟨g2, 0, none⟩) 1 1]] wr.drew fun e w' => e = .returned (.bool true) ∧ Below wr.drew.heap.size wr.drew w' ∧
      (w'.cell? ⟨b1, i * 2, none⟩ = some (.int .u64 (T : Int)) ∧ w'.cell? ⟨b1, i * 2 + 1, none⟩ = some (.slice (some ⟨g1, 0, none⟩) 1 1) ∧ w'.cell? ⟨b2, i * 2, none⟩ = some (.int .u64 (T : Int)) ∧ w'.cell? ⟨b2, i * 2 + 1, none⟩ = some (.slice (some ⟨g2, 0, none⟩) 1 1))) := hS wr.drew (bl_drew HB.out)
      have HBd : Hid (∀ w', Below wr.drew.heap.size wr.drew w' → Below w.heap.size w w') := fun w' h' => (bl_drew HB.out).trans (h'.mono HB.out.size)
      clear hS HA
      go_wp2_with fail
      go_region_held3 (fun u => u.cell? ⟨b1, i * 2, none⟩ = some (.int .u64 (T : Int)) ∧ u.cell? ⟨b1, i * 2 + 1, none⟩ = some (.slice (some ⟨g1, 0, none⟩) 1 1) ∧ u.cell? ⟨b2, i * 2, none⟩ = some (.int .u64 (T : Int)) ∧ u.cell? ⟨b2, i * 2 + 1, none⟩ = some (.slice (some ⟨g2, 0, none⟩) 1 1)) (go_keep) (first | (go_at_call 48; (with_reducible refine HS.out.mono ?_); rintro e w2 ⟨rfl, hb2, ⟨e0, e1, e2, e3⟩⟩))
      have HB2 : Hid (Below w.heap.size w w2) := HBd.out w2 hb2
      go_wp2_with fail
      exact ⟨⟨i + 1, by omega, by go_num, HB2⟩, by simp [intOf]; omega⟩
    · obtain rfl : i = N := by omega
      have hlI : ¬ (i : Int) < (i : Int) := by omega
      go_wp2_with fail
      go_ret
      exact ⟨rfl, HB.out⟩
end Go.Proofs.YtigegdelhpdlhaaGreatDoor

/- Layer 18: what WalAgain's entries are, in plain words. -/
namespace Go.Proofs.YtigegdelhpdlhaaGreatDoor
open Go.RowKit QP

/-- two sorted lists of the same things are the same -/
theorem sorted_same {l1 l2 : List (Nat × Nat)} (hp : l1.Perm l2) (h1 : l1.Pairwise (fun a b => a.1 ≤ b.1)) (h2 : l2.Pairwise (fun a b => a.1 ≤ b.1)) (hi : ∀ a ∈ l1, ∀ b ∈ l1, a.1 = b.1 → a = b) : l1 = l2 := by
  induction l1 generalizing l2 with
  | nil => exact (List.nil_perm.1 hp).symm
  | cons a r ih =>
    cases l2 with
    | nil => exact absurd (List.perm_nil.1 hp) (by simp)
    | cons b q =>
      obtain ⟨a1, a2⟩ := List.pairwise_cons.1 h1
      obtain ⟨b1, b2⟩ := List.pairwise_cons.1 h2
      have hab : a = b := by
        have ha : a ∈ b :: q := hp.mem_iff.1 (List.mem_cons_self ..)
        have hb : b ∈ a :: r := hp.mem_iff.2 (List.mem_cons_self ..)
        rcases List.mem_cons.1 ha with h | h
        · exact h
        · rcases List.mem_cons.1 hb with h' | h'
          · exact h'.symm
          · have e1 := a1 b h'
            have e2 := b1 a h
            exact hi a (List.mem_cons_self ..) b hb (by omega)
      subst hab
      rw [ih ((List.perm_cons a).1 hp) a2 b2 fun x hx y hy => hi x (List.mem_cons_of_mem _ hx) y (List.mem_cons_of_mem _ hy)]
theorem sortE_same {R1 R2 : List Er} (h : R1.map Er.tn = R2.map Er.tn) (hi : ∀ a ∈ R1.map Er.tn, ∀ b ∈ R1.map Er.tn, a.1 = b.1 → a = b) : (sortE R1).map Er.tn = (sortE R2).map Er.tn := by
  obtain ⟨_, p1, q1⟩ := sortE_facts R1
  obtain ⟨_, p2, q2⟩ := sortE_facts R2
  have m1 : ((sortE R1).map Er.tn).Perm (R1.map Er.tn) := p1.map _
  have m2 : ((sortE R2).map Er.tn).Perm (R2.map Er.tn) := p2.map _
  refine sorted_same (m1.trans (h ▸ m2.symm)) ?_ ?_ fun a ha b hb => hi a (m1.mem_iff.1 ha) b (m1.mem_iff.1 hb)
  · rw [List.pairwise_map]
    exact q1
  · rw [List.pairwise_map]
    exact q2

/-- the entries that were added: their word tells their number -/
structure AgnE (ep i : Nat) (W : List (Nat × Nat)) : Prop where
  all : ∀ q ∈ W, TidOk q.1 ∧ q.1 / 8388608 ≤ ep ∧ q.1 % 8388608 = q.2 * 8 ∧ q.2 < i
theorem AgnE.inj {ep i : Nat} {W : List (Nat × Nat)} (h : AgnE ep i W) : ∀ a ∈ W, ∀ b ∈ W, a.1 = b.1 → a = b := fun a ha b hb e => by
  obtain ⟨_, _, h1, h2⟩ := h.all a ha
  obtain ⟨_, _, h3, h4⟩ := h.all b hb
  exact Prod.ext e (by rw [e] at h1; omega)
theorem AgnE.upTo {ep i : Nat} {W : List (Nat × Nat)} (h : AgnE ep i W) : upTo ep W = W := List.filter_eq_self.2 fun q hq => decide_eq_true (h.all q hq).2.1
theorem AgnE.add {ep ep' i : Nat} {W : List (Nat × Nat)} (h : AgnE ep i W) (he : ep ≤ ep') (he2 : ep' ≤ 2147483648) (hi : i ≤ 100) : AgnE ep' (i + 1) (W ++ [(tidN ep' i, i)]) := by
  refine ⟨fun q hq => ?_⟩
  rcases List.mem_append.1 hq with hq | hq
  · obtain ⟨h1, h2, h3, h4⟩ := h.all q hq
    exact ⟨h1, by omega, h3, by omega⟩
  · simp only [List.mem_singleton] at hq
    subst hq
    obtain ⟨k1, k2⟩ := tid_ok he2 (show i ≤ 1048575 by omega)
    refine ⟨k1, by rw [k2]; exact Nat.le_refl _, ?_, Nat.lt_succ_self _⟩
    show tidN ep' i % 8388608 = i * 8
    unfold tidN
    omega
theorem AgnE.up {ep ep' i i' : Nat} {W : List (Nat × Nat)} (h : AgnE ep i W) (he : ep ≤ ep') (hi : i ≤ i') : AgnE ep' i' W := ⟨fun q hq => by
  obtain ⟨h1, h2, h3, h4⟩ := h.all q hq
  exact ⟨h1, by omega, h3, by omega⟩⟩
/-- the files and their names -/
def agF (W0 W1 : List (Nat × Nat)) : List UInt8 → List (Nat × Nat) := updF (updF wkF0 (logB 0 0).data.toList (wkF0 (logB 0 0).data.toList ++ W0)) (logB 1 0).data.toList (updF wkF0 (logB 0 0).data.toList (wkF0 (logB 0 0).data.toList ++ W0) (logB 1 0).data.toList ++ W1)
theorem agF_at (W0 W1 : List (Nat × Nat)) : agF W0 W1 (logB 0 0).data.toList = W0 ∧ agF W0 W1 (logB 1 0).data.toList = W1 ∧ ∀ f, f ≠ (logB 0 0).data.toList → f ≠ (logB 1 0).data.toList → agF W0 W1 f = [] := by
  have h10 : updF wkF0 (logB 0 0).data.toList (wkF0 (logB 0 0).data.toList ++ W0) (logB 1 0).data.toList = [] := by
    unfold updF
    rw [if_neg log_ne]
  refine ⟨?_, ?_, fun f h1 h2 => ?_⟩
  · unfold agF updF
    rw [if_neg log_ne.symm, if_pos rfl]
    rfl
  · unfold agF
    rw [h10]
    unfold updF
    rw [if_pos rfl]
    rfl
  · unfold agF updF
    rw [if_neg h2, if_neg h1]
def agK (e0 e1 : Bool) : List (List UInt8) := [epochB.data.toList] ++ (if e0 then [] else [(logB 0 0).data.toList]) ++ (if e1 then [] else [(logB 1 0).data.toList])
theorem agK_is : ∀ e0 e1 : Bool, Dk.insN epochB.data.toList (if e1 then (if e0 then [] else Dk.insN (logB 0 0).data.toList []) else Dk.insN (logB 1 0).data.toList (if e0 then [] else Dk.insN (logB 0 0).data.toList [])) = agK e0 e1 ∧ Dk.insN epochB.data.toList (agK e0 e1) = agK e0 e1 := by decide +kernel
theorem agK_all (W0 W1 : List (Nat × Nat)) (ep i : Nat) (h0 : AgnE ep i W0) (h1 : AgnE ep i W1) : allE ep (agF W0 W1) (agK (decide (W0 = [])) (decide (W1 = []))) = W0 ++ W1 := by
  obtain ⟨a0, a1, _⟩ := agF_at W0 W1
  have l0 := (logK_at (v := 0) (g := 0) (by decide) (by decide)).1
  have l1 := (logK_at (v := 1) (g := 0) (by decide) (by decide)).1
  have e0 : (if decide (W0 = []) = true then ([] : List (List UInt8)) else [(logB 0 0).data.toList]).flatMap (fun k => if isLogK k then upTo ep (agF W0 W1 k) else []) = W0 := by
    by_cases h : W0 = []
    · rw [if_pos (decide_eq_true h), h]; rfl
    · rw [if_neg (by simpa using h)]
      simp [l0, a0, h0.upTo]
  have e1 : (if decide (W1 = []) = true then ([] : List (List UInt8)) else [(logB 1 0).data.toList]).flatMap (fun k => if isLogK k then upTo ep (agF W0 W1 k) else []) = W1 := by
    by_cases h : W1 = []
    · rw [if_pos (decide_eq_true h), h]; rfl
    · rw [if_neg (by simpa using h)]
      simp [l1, a1, h1.upTo]
  unfold allE agK
  rw [List.flatMap_append, List.flatMap_append, e0, e1]
  simp [logK_epoch.1]
end Go.Proofs.YtigegdelhpdlhaaGreatDoor
