/- step: a call of both, a net and the reference. -/
import Derived.Test.YthfmppghdlniiaaSBoth
import Derived.Test.YthfmppghdlniiaaSStand
import Derived.Test.YthfmppghdlniiaaSArgs
import Derived.Deep.RegionHeld3
namespace Go.Proofs.Ythfmppghdlniiaa
open Go.RowKit

/-- on the way from w to what Goes says, with blocks of the call's own -/
def Mid (I : World → (Nat → Prop) → Prop) (w wr : World) (F : Nat → Prop) (L : List (Nat × Obj)) : Prop :=
  ∃ F', I wr F' ∧ Turn F w wr ∧ (∀ i, F' i → F i ∨ w.heap.size ≤ i) ∧ ∀ p ∈ L, ¬ F' p.1 ∧ wr.heap[p.1]? = some p.2 ∧ w.heap.size ≤ p.1 ∧ ¬ F p.1

section
variable {I I' J : World → (Nat → Prop) → Prop} {w wr : World} {F : Nat → Prop} {L : List (Nat × Obj)}

theorem Mid.start (h : I w F) : Mid I w w F [] := ⟨F, h, Turn.refl _ _, fun _ hi => Or.inl hi, fun _ h => by cases h⟩
theorem Mid.goes (h : Mid I w wr F L) : Goes I w wr F := by obtain ⟨F', h1, h2, h3, _⟩ := h; exact ⟨F', h1, h2, h3⟩
theorem Mid.at (h : Mid I w wr F L) {b : Nat} {o : Obj} (hb : (b, o) ∈ L) : wr.heap[b]? = some o := by obtain ⟨_, _, _, _, h⟩ := h; exact (h _ hb).2.1
theorem Mid.drewN (R : Res I) (h : Mid I w wr F L) (m : Nat) : Mid I w (wr.drewN m) F L := by
  obtain ⟨F', h1, h2, h3, h4⟩ := h
  exact ⟨F', R.kept (S := fun _ => False) h1 (Turn.ofBelow _ (below_drewN wr m)) (fun _ _ h => h), h2.drewN m, h3, h4⟩
theorem Mid.alloc (R : Res I) (hF : ∀ i, F i → i < w.heap.size) (h : Mid I w wr F L) (o : Obj) : Mid I w (wr.alloc o) F ((wr.heap.size, o) :: L) := by
  obtain ⟨F', h1, h2, h3, h4⟩ := h
  have hb : Below wr.heap.size wr (wr.alloc o) := (Below.refl _ _).alloc (Nat.le_refl _) o
  refine ⟨F', R.kept (S := fun _ => False) h1 (Turn.ofBelow _ hb) (fun _ _ h => h), h2.trans (Turn.ofBelow _ hb), h3, fun p hp => ?_⟩
  rcases List.mem_cons.1 hp with rfl | hp
  · exact ⟨fun hi => absurd (R.lt h1 _ hi) (Nat.lt_irrefl _), heap_new wr o, h2.size, fun hi => by have := hF _ hi; have := h2.size; omega⟩
  · exact ⟨(h4 p hp).1, (hb.block p.1 (lt_of (h4 p hp).2.1)).trans (h4 p hp).2.1, (h4 p hp).2.2⟩
theorem Mid.call (h : Mid I w wr F L) : ∃ A, I wr A ∧ ∀ w', Goes I' wr w' A → Mid I' w w' F L := by
  obtain ⟨F', h1, h2, h3, h4⟩ := h
  refine ⟨F', h1, fun w' hg => ?_⟩
  obtain ⟨F2, g1, g2, g3⟩ := hg
  refine ⟨F2, g1, h2.transNew g2 h3, fun i hi => ?_, fun p hp => ⟨fun hi => ?_, (g2.block p.1 (lt_of (h4 p hp).2.1) (h4 p hp).1).trans (h4 p hp).2.1, (h4 p hp).2.2⟩⟩
  · rcases g3 i hi with h | h
    · exact h3 i h
    · exact Or.inr (Nat.le_trans h2.size h)
  · rcases g3 _ hi with h | h
    · exact (h4 p hp).1 h
    · have := lt_of (h4 p hp).2.1; omega
theorem Mid.left (hJ : Res J) (h : Mid (Sep I J) w wr F L) : ∃ A, I wr A ∧ ∀ w', Goes I' wr w' A → Mid (Sep I' J) w w' F L := by
  obtain ⟨A, h1, h2⟩ := h.call (I' := Sep I' J)
  obtain ⟨A', h3, h4⟩ := h1.left (I' := I') hJ
  exact ⟨A', h3, fun w' hg => h2 w' (h4 w' hg)⟩
theorem Mid.right (hJ : Res J) (h : Mid (Sep J I) w wr F L) : ∃ A, I wr A ∧ ∀ w', Goes I' wr w' A → Mid (Sep J I') w w' F L := by
  obtain ⟨A, h1, h2⟩ := h.call (I' := Sep J I')
  obtain ⟨A', h3, h4⟩ := h1.swap.left (I' := I') hJ
  exact ⟨A', h3, fun w' hg => h2 w' (h4 w' hg).swap⟩
end

abbrev ac (x : ActV) : Obj := .cells #[.int .i64 x.kind, .int .i64 x.conn, .int .i64 x.side, .int .i64 x.num, .string x.data] 29 (0, 0)
/-- the net n holds s, the reference r holds R; between them the call x in the block b -/
def Own (n r : Nat) (s : List Dr) (R : List Wy) (w u : World) (F : Nat → Prop) (b : Nat) (x : ActV) : Prop := Mid (Sep (NetI n s) (RefI r R)) w u F [(b, ac x)]

section
variable {n r : Nat} {s s' : List Dr} {R R' : List Wy} {w u : World} {F : Nat → Prop} {b : Nat} {x : ActV}
theorem Own.cells (h : Own n r s R w u F b x) : u.cell? ⟨b, 1, none⟩ = some (.int .i64 x.conn) ∧ u.cell? ⟨b, 2, none⟩ = some (.int .i64 x.side) ∧ u.cell? ⟨b, 3, none⟩ = some (.int .i64 x.num) ∧ u.cell? ⟨b, 4, none⟩ = some (.string x.data) := by
  have h1 := Mid.at h (b := b) (o := ac x) (by simp)
  exact ⟨by rw [cell_of h1]; rfl, by rw [cell_of h1]; rfl, by rw [cell_of h1]; rfl, by rw [cell_of h1]; rfl⟩
theorem Own.drewN (h : Own n r s R w u F b x) (m : Nat) : Own n r s R w (u.drewN m) F b x := Mid.drewN (Sep.res (netI_res _ _) (refI_res _ _)) h m
theorem own_net (h : Own n r s R w u F b x) {f : Nat} {args : Array Value} {v : Value} (hc : ∀ w F, NetI n s w F → Calls Try.prog f args w fun e w' => e = .returned v ∧ Goes (NetI n s') w w' F) :
    Calls Try.prog f args u fun e w' => e = .returned v ∧ Own n r s' R w w' F b x := by
  obtain ⟨A, h1, h2⟩ := Mid.left (I' := NetI n s') (refI_res _ _) h
  refine (hc u A h1).mono ?_
  rintro e w' ⟨rfl, hg⟩
  exact ⟨rfl, h2 w' hg⟩
theorem own_ref (h : Own n r s R w u F b x) {f : Nat} {args : Array Value} {v : Value} (hc : ∀ w F, RefI r R w F → Calls Try.prog f args w fun e w' => e = .returned v ∧ Goes (RefI r R') w w' F) :
    Calls Try.prog f args u fun e w' => e = .returned v ∧ Own n r s R' w w' F b x := by
  obtain ⟨A, h1, h2⟩ := Mid.right (I' := RefI r R') (netI_res _ _) h
  refine (hc u A h1).mono ?_
  rintro e w' ⟨rfl, hg⟩
  exact ⟨rfl, h2 w' hg⟩
end

section
variable {n r : Nat} {R : List Wy} {B : Nat} {F : Nat → Prop} {x : ActV}

set_option maxRecDepth 100000 in
set_option maxHeartbeats 1000000 in
theorem step_dial (w : World) (hI : Sep (NetI n (R.map Wy.dr)) (RefI r R) w F) (h : WF R B) (hB : B ≤ 1000000000) (hk : x.kind % 7 = 0) :
    Calls Try.prog 10 #[.pointer (some ⟨n, 0, none⟩), .pointer (some ⟨r, 0, none⟩), .agg #[.int .i64 x.kind, .int .i64 x.conn, .int .i64 x.side, .int .i64 x.num, .string x.data]] w fun e w' => e = .returned (.bool true) ∧ ∃ R', WF R' (B + 262144) ∧ Goes (Sep (NetI n (R'.map Wy.dr)) (RefI r R')) w w' F := by
  have hF : ∀ i, F i → i < w.heap.size := fun i hi => (Sep.res (netI_res _ _) (refI_res _ _)).lt hI i hi
  obtain ⟨k, E, R', hW, hN, hR⟩ := both_dial (n := n) (r := r) h hB
  have HM : Hid (Own n r (R.map Wy.dr) R w (w.alloc (ac x)) F w.heap.size x) := Mid.alloc (Sep.res (netI_res _ _) (refI_res _ _)) hF (Mid.start hI) (ac x)
  have HW : Hid (WF R' (B + 262144)) := hW
  have A1 : Hid (∀ W, Calls Try.prog 13 #[.int .i64 x.kind, .int .i64 7] W fun e w' => e = .returned (.int .i64 0) ∧ W = w') := fun W => by have := among_any x.kind 7 W (by omega) (by omega); rw [hk] at this; exact this
  obtain ⟨b, hb⟩ : ∃ b, w.heap.size = b := ⟨_, rfl⟩
  rw [hb] at HM
  obtain ⟨u0, hu0⟩ : ∃ u0, w.alloc (ac x) = u0 := ⟨_, rfl⟩
  rw [hu0] at HM
  have HU0 : Hid (w.alloc (ac x) = u0) := hu0
  have HN : Hid (∀ W, Own n r (R.map Wy.dr) R w W F b x → Calls Try.prog 12 #[.pointer (some ⟨n, 0, none⟩)] W fun e w' => e = .returned (.tuple #[.int .i64 k, .int .i64 E]) ∧ Own n r (R'.map Wy.dr) R w w' F b x) := fun W h => own_net h hN
  have HR : Hid (∀ W, Own n r (R'.map Wy.dr) R w W F b x → Calls Try.prog 20 #[.pointer (some ⟨r, 0, none⟩)] W fun e w' => e = .returned (.tuple #[.int .i64 k, .int .i64 E]) ∧ Own n r (R'.map Wy.dr) R' w w' F b x) := fun W h => own_ref h hR
  obtain ⟨-, -, -, -⟩ := HM.out.cells
  clear hI h hB hF hW hN hR hk hu0
  go_enter Try.func10, Try.ntmps10
  go_wp2_with fail
  refine (A1.out _).mono ?_
  rintro e u ⟨rfl, rfl⟩
  rw [HU0.out]
  go_wp2_with fail
  refine (HN.out _ HM.out).mono ?_
  rintro e u1 ⟨rfl, H1⟩
  have HS1 : Hid (Own n r (R'.map Wy.dr) R w u1 F b x) := H1
  obtain ⟨-, -, -, -⟩ := HS1.out.cells
  clear H1 HM
  go_wp2_with fail
  refine (HR.out _ HS1.out).mono ?_
  rintro e u2 ⟨rfl, H2⟩
  have HS2 : Hid (Own n r (R'.map Wy.dr) R' w u2 F b x) := H2
  clear H2 HS1
  go_wp2
  go_ret
  exact ⟨rfl, _, HW.out, Mid.goes HS2.out⟩

set_option maxRecDepth 100000 in
set_option maxHeartbeats 1000000 in
theorem step_write (w : World) (hI : Sep (NetI n (R.map Wy.dr)) (RefI r R) w F) (h : WF R B) (hB : B ≤ 1000000000) (hx : x.Ok) (hk : x.kind % 7 = 1) :
    Calls Try.prog 10 #[.pointer (some ⟨n, 0, none⟩), .pointer (some ⟨r, 0, none⟩), .agg #[.int .i64 x.kind, .int .i64 x.conn, .int .i64 x.side, .int .i64 x.num, .string x.data]] w fun e w' => e = .returned (.bool true) ∧ ∃ R', WF R' (B + 262144) ∧ Goes (Sep (NetI n (R'.map Wy.dr)) (RefI r R')) w w' F := by
  have hF : ∀ i, F i → i < w.heap.size := fun i hi => (Sep.res (netI_res _ _) (refI_res _ _)).lt hI i hi
  obtain ⟨E, R', hW, hN, hR⟩ := both_write (n := n) (r := r) h hB x.conn x.side x.data hx.data
  have HM : Hid (Own n r (R.map Wy.dr) R w (w.alloc (ac x)) F w.heap.size x) := Mid.alloc (Sep.res (netI_res _ _) (refI_res _ _)) hF (Mid.start hI) (ac x)
  have HW : Hid (WF R' (B + 262144)) := hW
  have A1 : Hid (∀ W, Calls Try.prog 13 #[.int .i64 x.kind, .int .i64 7] W fun e w' => e = .returned (.int .i64 1) ∧ W = w') := fun W => by have := among_any x.kind 7 W (by omega) (by omega); rw [hk] at this; exact this
  obtain ⟨b, hb⟩ : ∃ b, w.heap.size = b := ⟨_, rfl⟩
  rw [hb] at HM
  obtain ⟨u0, hu0⟩ : ∃ u0, w.alloc (ac x) = u0 := ⟨_, rfl⟩
  rw [hu0] at HM
  have HU0 : Hid (w.alloc (ac x) = u0) := hu0
  have HN : Hid (∀ W m, W = u0.drewN m → Calls Try.prog 14 #[.pointer (some ⟨n, 0, none⟩), .int .i64 x.conn, .int .i64 x.side, .string x.data] W fun e w' => e = .returned (.int .i64 E) ∧ Own n r (R'.map Wy.dr) R w w' F b x ∧ w'.cell? ⟨b, 1, none⟩ = some (.int .i64 x.conn) ∧ w'.cell? ⟨b, 2, none⟩ = some (.int .i64 x.side) ∧ w'.cell? ⟨b, 4, none⟩ = some (.string x.data)) := by
    rintro W m rfl
    refine (own_net (HM.out.drewN m) hN).mono ?_
    rintro e w' ⟨rfl, hg⟩
    exact ⟨rfl, hg, (Own.cells hg).1, (Own.cells hg).2.1, (Own.cells hg).2.2.2⟩
  have HR : Hid (∀ W, Own n r (R'.map Wy.dr) R w W F b x → Calls Try.prog 21 #[.pointer (some ⟨r, 0, none⟩), .int .i64 x.conn, .int .i64 x.side, .string x.data] W fun e w' => e = .returned (.int .i64 E) ∧ Own n r (R'.map Wy.dr) R' w w' F b x ∧ w'.cell? ⟨b, 1, none⟩ = some (.int .i64 x.conn) ∧ w'.cell? ⟨b, 2, none⟩ = some (.int .i64 x.side) ∧ w'.cell? ⟨b, 4, none⟩ = some (.string x.data)) := by
    intro W hW'
    refine (own_ref hW' hR).mono ?_
    rintro e w' ⟨rfl, hg⟩
    exact ⟨rfl, hg, (Own.cells hg).1, (Own.cells hg).2.1, (Own.cells hg).2.2.2⟩
  obtain ⟨q1, q2, -, q4⟩ := HM.out.cells
  clear hI h hB hF hW hN hR hk hu0
  go_enter Try.func10, Try.ntmps10
  go_wp2_with fail
  refine (A1.out _).mono ?_
  rintro e u ⟨rfl, rfl⟩
  rw [HU0.out]
  go_wp2_with fail
  go_region_held3 (fun w' => w'.cell? ⟨b, 1, none⟩ = some (.int .i64 x.conn) ∧ w'.cell? ⟨b, 2, none⟩ = some (.int .i64 x.side) ∧ w'.cell? ⟨b, 4, none⟩ = some (.string x.data)) (go_keep)
    (first
      | (go_at_call 14; refine (HN.out _ 1 rfl).mono ?_; rintro e w1 ⟨rfl, hH, p1, p2, p4⟩)
      | (go_at_call 21; refine (HR.out _ hH).mono ?_; rintro e w2 ⟨rfl, hG, r1, r2, r4⟩))
  all_goals go_wp2
  all_goals go_ret
  all_goals exact ⟨rfl, _, HW.out, Mid.goes hG⟩

set_option maxRecDepth 100000 in
set_option maxHeartbeats 1000000 in
theorem step_arrive (w : World) (hI : Sep (NetI n (R.map Wy.dr)) (RefI r R) w F) (h : WF R B) (hB : B ≤ 1000000000) (hk : x.kind % 7 = 2) :
    Calls Try.prog 10 #[.pointer (some ⟨n, 0, none⟩), .pointer (some ⟨r, 0, none⟩), .agg #[.int .i64 x.kind, .int .i64 x.conn, .int .i64 x.side, .int .i64 x.num, .string x.data]] w fun e w' => e = .returned (.bool true) ∧ ∃ R', WF R' (B + 262144) ∧ Goes (Sep (NetI n (R'.map Wy.dr)) (RefI r R')) w w' F := by
  have hF : ∀ i, F i → i < w.heap.size := fun i hi => (Sep.res (netI_res _ _) (refI_res _ _)).lt hI i hi
  obtain ⟨k, E, R', hW, hN, hR⟩ := both_arrive (n := n) (r := r) h hB x.conn x.side x.num
  have HM : Hid (Own n r (R.map Wy.dr) R w (w.alloc (ac x)) F w.heap.size x) := Mid.alloc (Sep.res (netI_res _ _) (refI_res _ _)) hF (Mid.start hI) (ac x)
  have HW : Hid (WF R' (B + 262144)) := hW
  have A1 : Hid (∀ W, Calls Try.prog 13 #[.int .i64 x.kind, .int .i64 7] W fun e w' => e = .returned (.int .i64 2) ∧ W = w') := fun W => by have := among_any x.kind 7 W (by omega) (by omega); rw [hk] at this; exact this
  obtain ⟨b, hb⟩ : ∃ b, w.heap.size = b := ⟨_, rfl⟩
  rw [hb] at HM
  obtain ⟨u0, hu0⟩ : ∃ u0, w.alloc (ac x) = u0 := ⟨_, rfl⟩
  rw [hu0] at HM
  have HU0 : Hid (w.alloc (ac x) = u0) := hu0
  have HN : Hid (∀ W, Own n r (R.map Wy.dr) R w W F b x → Calls Try.prog 15 #[.pointer (some ⟨n, 0, none⟩), .int .i64 x.conn, .int .i64 x.side, .int .i64 x.num] W fun e w' => e = .returned (.tuple #[.int .i64 k, .int .i64 E]) ∧ Own n r (R'.map Wy.dr) R w w' F b x) := fun W h => own_net h hN
  have HR : Hid (∀ W, Own n r (R'.map Wy.dr) R w W F b x → Calls Try.prog 22 #[.pointer (some ⟨r, 0, none⟩), .int .i64 x.conn, .int .i64 x.side, .int .i64 x.num] W fun e w' => e = .returned (.tuple #[.int .i64 k, .int .i64 E]) ∧ Own n r (R'.map Wy.dr) R' w w' F b x) := fun W h => own_ref h hR
  obtain ⟨q1, q2, q3, -⟩ := HM.out.cells
  clear hI h hB hF hW hN hR hk hu0
  go_enter Try.func10, Try.ntmps10
  go_wp2_with fail
  refine (A1.out _).mono ?_
  rintro e u ⟨rfl, rfl⟩
  rw [HU0.out]
  go_wp2_with fail
  refine (HN.out _ HM.out).mono ?_
  rintro e u1 ⟨rfl, H1⟩
  have HS1 : Hid (Own n r (R'.map Wy.dr) R w u1 F b x) := H1
  obtain ⟨s1, s2, s3, -⟩ := HS1.out.cells
  clear H1 HM
  go_wp2_with fail
  refine (HR.out _ HS1.out).mono ?_
  rintro e u2 ⟨rfl, H2⟩
  have HS2 : Hid (Own n r (R'.map Wy.dr) R' w u2 F b x) := H2
  clear H2 HS1
  go_wp2
  go_ret
  exact ⟨rfl, _, HW.out, Mid.goes HS2.out⟩

set_option maxRecDepth 100000 in
set_option maxHeartbeats 1000000 in
theorem step_read (w : World) (hI : Sep (NetI n (R.map Wy.dr)) (RefI r R) w F) (h : WF R B) (hB : B ≤ 1000000000) (hk : x.kind % 7 = 3) :
    Calls Try.prog 10 #[.pointer (some ⟨n, 0, none⟩), .pointer (some ⟨r, 0, none⟩), .agg #[.int .i64 x.kind, .int .i64 x.conn, .int .i64 x.side, .int .i64 x.num, .string x.data]] w fun e w' => e = .returned (.bool true) ∧ ∃ R', WF R' (B + 262144) ∧ Goes (Sep (NetI n (R'.map Wy.dr)) (RefI r R')) w w' F := by
  have hF : ∀ i, F i → i < w.heap.size := fun i hi => (Sep.res (netI_res _ _) (refI_res _ _)).lt hI i hi
  obtain ⟨z, E, R', hW, hN, hR⟩ := both_read (n := n) (r := r) h hB x.conn x.side x.num
  have HM : Hid (Own n r (R.map Wy.dr) R w (w.alloc (ac x)) F w.heap.size x) := Mid.alloc (Sep.res (netI_res _ _) (refI_res _ _)) hF (Mid.start hI) (ac x)
  have HW : Hid (WF R' (B + 262144)) := hW
  have A1 : Hid (∀ W, Calls Try.prog 13 #[.int .i64 x.kind, .int .i64 7] W fun e w' => e = .returned (.int .i64 3) ∧ W = w') := fun W => by have := among_any x.kind 7 W (by omega) (by omega); rw [hk] at this; exact this
  obtain ⟨b, hb⟩ : ∃ b, w.heap.size = b := ⟨_, rfl⟩
  rw [hb] at HM
  obtain ⟨u0, hu0⟩ : ∃ u0, w.alloc (ac x) = u0 := ⟨_, rfl⟩
  rw [hu0] at HM
  have HU0 : Hid (w.alloc (ac x) = u0) := hu0
  have HN : Hid (∀ W, Own n r (R.map Wy.dr) R w W F b x → Calls Try.prog 16 #[.pointer (some ⟨n, 0, none⟩), .int .i64 x.conn, .int .i64 x.side, .int .i64 x.num] W fun e w' => e = .returned (.tuple #[.string z, .int .i64 E]) ∧ Own n r (R'.map Wy.dr) R w w' F b x) := fun W h => own_net h hN
  have HR : Hid (∀ W, Own n r (R'.map Wy.dr) R w W F b x → Calls Try.prog 23 #[.pointer (some ⟨r, 0, none⟩), .int .i64 x.conn, .int .i64 x.side, .int .i64 x.num] W fun e w' => e = .returned (.tuple #[.string z, .int .i64 E]) ∧ Own n r (R'.map Wy.dr) R' w w' F b x) := fun W h => own_ref h hR
  obtain ⟨q1, q2, q3, -⟩ := HM.out.cells
  clear hI h hB hF hW hN hR hk hu0
  go_enter Try.func10, Try.ntmps10
  go_wp2_with fail
  refine (A1.out _).mono ?_
  rintro e u ⟨rfl, rfl⟩
  rw [HU0.out]
  go_wp2_with fail
  refine (HN.out _ HM.out).mono ?_
  rintro e u1 ⟨rfl, H1⟩
  have HS1 : Hid (Own n r (R'.map Wy.dr) R w u1 F b x) := H1
  obtain ⟨s1, s2, s3, -⟩ := HS1.out.cells
  clear H1 HM
  go_wp2_with fail
  refine (HR.out _ HS1.out).mono ?_
  rintro e u2 ⟨rfl, H2⟩
  have HS2 : Hid (Own n r (R'.map Wy.dr) R' w u2 F b x) := H2
  clear H2 HS1
  go_wp2
  go_ret
  exact ⟨rfl, _, HW.out, Mid.goes HS2.out⟩

set_option maxRecDepth 100000 in
set_option maxHeartbeats 1000000 in
theorem step_close (w : World) (hI : Sep (NetI n (R.map Wy.dr)) (RefI r R) w F) (h : WF R B) (hB : B ≤ 1000000000) (hk : x.kind % 7 = 4) :
    Calls Try.prog 10 #[.pointer (some ⟨n, 0, none⟩), .pointer (some ⟨r, 0, none⟩), .agg #[.int .i64 x.kind, .int .i64 x.conn, .int .i64 x.side, .int .i64 x.num, .string x.data]] w fun e w' => e = .returned (.bool true) ∧ ∃ R', WF R' (B + 262144) ∧ Goes (Sep (NetI n (R'.map Wy.dr)) (RefI r R')) w w' F := by
  have hF : ∀ i, F i → i < w.heap.size := fun i hi => (Sep.res (netI_res _ _) (refI_res _ _)).lt hI i hi
  obtain ⟨E, R', hW, hN, hR⟩ := both_close (n := n) (r := r) h hB x.conn x.side
  have HM : Hid (Own n r (R.map Wy.dr) R w (w.alloc (ac x)) F w.heap.size x) := Mid.alloc (Sep.res (netI_res _ _) (refI_res _ _)) hF (Mid.start hI) (ac x)
  have HW : Hid (WF R' (B + 262144)) := hW
  have A1 : Hid (∀ W, Calls Try.prog 13 #[.int .i64 x.kind, .int .i64 7] W fun e w' => e = .returned (.int .i64 4) ∧ W = w') := fun W => by have := among_any x.kind 7 W (by omega) (by omega); rw [hk] at this; exact this
  obtain ⟨b, hb⟩ : ∃ b, w.heap.size = b := ⟨_, rfl⟩
  rw [hb] at HM
  obtain ⟨u0, hu0⟩ : ∃ u0, w.alloc (ac x) = u0 := ⟨_, rfl⟩
  rw [hu0] at HM
  have HU0 : Hid (w.alloc (ac x) = u0) := hu0
  have HN : Hid (∀ W m, W = u0.drewN m → Calls Try.prog 17 #[.pointer (some ⟨n, 0, none⟩), .int .i64 x.conn, .int .i64 x.side] W fun e w' => e = .returned (.int .i64 E) ∧ Own n r (R'.map Wy.dr) R w w' F b x ∧ w'.cell? ⟨b, 1, none⟩ = some (.int .i64 x.conn) ∧ w'.cell? ⟨b, 2, none⟩ = some (.int .i64 x.side)) := by
    rintro W m rfl
    refine (own_net (HM.out.drewN m) hN).mono ?_
    rintro e w' ⟨rfl, hg⟩
    exact ⟨rfl, hg, (Own.cells hg).1, (Own.cells hg).2.1⟩
  have HR : Hid (∀ W, Own n r (R'.map Wy.dr) R w W F b x → Calls Try.prog 24 #[.pointer (some ⟨r, 0, none⟩), .int .i64 x.conn, .int .i64 x.side] W fun e w' => e = .returned (.int .i64 E) ∧ Own n r (R'.map Wy.dr) R' w w' F b x ∧ w'.cell? ⟨b, 1, none⟩ = some (.int .i64 x.conn) ∧ w'.cell? ⟨b, 2, none⟩ = some (.int .i64 x.side)) := by
    intro W hW'
    refine (own_ref hW' hR).mono ?_
    rintro e w' ⟨rfl, hg⟩
    exact ⟨rfl, hg, (Own.cells hg).1, (Own.cells hg).2.1⟩
  obtain ⟨q1, q2, -, -⟩ := HM.out.cells
  clear hI h hB hF hW hN hR hk hu0
  go_enter Try.func10, Try.ntmps10
  go_wp2_with fail
  refine (A1.out _).mono ?_
  rintro e u ⟨rfl, rfl⟩
  rw [HU0.out]
  go_wp2_with fail
  go_region_held3 (fun w' => w'.cell? ⟨b, 1, none⟩ = some (.int .i64 x.conn) ∧ w'.cell? ⟨b, 2, none⟩ = some (.int .i64 x.side)) (go_keep)
    (first
      | (go_at_call 17; refine (HN.out _ 1 rfl).mono ?_; rintro e w1 ⟨rfl, hH, p1, p2⟩)
      | (go_at_call 24; refine (HR.out _ hH).mono ?_; rintro e w2 ⟨rfl, hG, r1, r2⟩))
  all_goals go_wp2
  all_goals go_ret
  all_goals exact ⟨rfl, _, HW.out, Mid.goes hG⟩

set_option maxRecDepth 100000 in
set_option maxHeartbeats 1000000 in
theorem step_ended (w : World) (hI : Sep (NetI n (R.map Wy.dr)) (RefI r R) w F) (h : WF R B) (hB : B ≤ 1000000000) (hk : x.kind % 7 = 5) :
    Calls Try.prog 10 #[.pointer (some ⟨n, 0, none⟩), .pointer (some ⟨r, 0, none⟩), .agg #[.int .i64 x.kind, .int .i64 x.conn, .int .i64 x.side, .int .i64 x.num, .string x.data]] w fun e w' => e = .returned (.bool true) ∧ ∃ R', WF R' (B + 262144) ∧ Goes (Sep (NetI n (R'.map Wy.dr)) (RefI r R')) w w' F := by
  have hF : ∀ i, F i → i < w.heap.size := fun i hi => (Sep.res (netI_res _ _) (refI_res _ _)).lt hI i hi
  obtain ⟨b0, E, R', hW, hN, hR⟩ := both_ended (n := n) (r := r) h hB x.conn x.side
  have HM : Hid (Own n r (R.map Wy.dr) R w (w.alloc (ac x)) F w.heap.size x) := Mid.alloc (Sep.res (netI_res _ _) (refI_res _ _)) hF (Mid.start hI) (ac x)
  have HW : Hid (WF R' (B + 262144)) := hW
  have A1 : Hid (∀ W, Calls Try.prog 13 #[.int .i64 x.kind, .int .i64 7] W fun e w' => e = .returned (.int .i64 5) ∧ W = w') := fun W => by have := among_any x.kind 7 W (by omega) (by omega); rw [hk] at this; exact this
  obtain ⟨b, hb⟩ : ∃ b, w.heap.size = b := ⟨_, rfl⟩
  rw [hb] at HM
  obtain ⟨u0, hu0⟩ : ∃ u0, w.alloc (ac x) = u0 := ⟨_, rfl⟩
  rw [hu0] at HM
  have HU0 : Hid (w.alloc (ac x) = u0) := hu0
  have HN : Hid (∀ W, Own n r (R.map Wy.dr) R w W F b x → Calls Try.prog 18 #[.pointer (some ⟨n, 0, none⟩), .int .i64 x.conn, .int .i64 x.side] W fun e w' => e = .returned (.tuple #[.bool b0, .int .i64 E]) ∧ Own n r (R'.map Wy.dr) R w w' F b x) := fun W h => own_net h hN
  have HR : Hid (∀ W, Own n r (R'.map Wy.dr) R w W F b x → Calls Try.prog 25 #[.pointer (some ⟨r, 0, none⟩), .int .i64 x.conn, .int .i64 x.side] W fun e w' => e = .returned (.tuple #[.bool b0, .int .i64 E]) ∧ Own n r (R'.map Wy.dr) R' w w' F b x) := fun W h => own_ref h hR
  obtain ⟨q1, q2, -, -⟩ := HM.out.cells
  clear hI h hB hF hW hN hR hk hu0
  go_enter Try.func10, Try.ntmps10
  go_wp2_with fail
  refine (A1.out _).mono ?_
  rintro e u ⟨rfl, rfl⟩
  rw [HU0.out]
  go_wp2_with fail
  refine (HN.out _ HM.out).mono ?_
  rintro e u1 ⟨rfl, H1⟩
  have HS1 : Hid (Own n r (R'.map Wy.dr) R w u1 F b x) := H1
  obtain ⟨s1, s2, -, -⟩ := HS1.out.cells
  clear H1 HM
  go_wp2_with fail
  refine (HR.out _ HS1.out).mono ?_
  rintro e u2 ⟨rfl, H2⟩
  have HS2 : Hid (Own n r (R'.map Wy.dr) R' w u2 F b x) := H2
  clear H2 HS1
  go_wp2
  go_ret
  exact ⟨rfl, _, HW.out, Mid.goes HS2.out⟩

set_option maxRecDepth 100000 in
set_option maxHeartbeats 1000000 in
theorem step_pending (w : World) (hI : Sep (NetI n (R.map Wy.dr)) (RefI r R) w F) (h : WF R B) (hB : B ≤ 1000000000) (hk : x.kind % 7 = 6) :
    Calls Try.prog 10 #[.pointer (some ⟨n, 0, none⟩), .pointer (some ⟨r, 0, none⟩), .agg #[.int .i64 x.kind, .int .i64 x.conn, .int .i64 x.side, .int .i64 x.num, .string x.data]] w fun e w' => e = .returned (.bool true) ∧ ∃ R', WF R' (B + 262144) ∧ Goes (Sep (NetI n (R'.map Wy.dr)) (RefI r R')) w w' F := by
  have hF : ∀ i, F i → i < w.heap.size := fun i hi => (Sep.res (netI_res _ _) (refI_res _ _)).lt hI i hi
  obtain ⟨a0, b0, E, R', hW, hN, hR⟩ := both_pending (n := n) (r := r) h hB x.conn x.side
  have HM : Hid (Own n r (R.map Wy.dr) R w (w.alloc (ac x)) F w.heap.size x) := Mid.alloc (Sep.res (netI_res _ _) (refI_res _ _)) hF (Mid.start hI) (ac x)
  have HW : Hid (WF R' (B + 262144)) := hW
  have A1 : Hid (∀ W, Calls Try.prog 13 #[.int .i64 x.kind, .int .i64 7] W fun e w' => e = .returned (.int .i64 6) ∧ W = w') := fun W => by have := among_any x.kind 7 W (by omega) (by omega); rw [hk] at this; exact this
  obtain ⟨b, hb⟩ : ∃ b, w.heap.size = b := ⟨_, rfl⟩
  rw [hb] at HM
  obtain ⟨u0, hu0⟩ : ∃ u0, w.alloc (ac x) = u0 := ⟨_, rfl⟩
  rw [hu0] at HM
  have HU0 : Hid (w.alloc (ac x) = u0) := hu0
  have HN : Hid (∀ W, Own n r (R.map Wy.dr) R w W F b x → Calls Try.prog 19 #[.pointer (some ⟨n, 0, none⟩), .int .i64 x.conn, .int .i64 x.side] W fun e w' => e = .returned (.tuple #[.int .i64 a0, .int .i64 b0, .int .i64 E]) ∧ Own n r (R'.map Wy.dr) R w w' F b x) := fun W h => own_net h hN
  have HR : Hid (∀ W, Own n r (R'.map Wy.dr) R w W F b x → Calls Try.prog 26 #[.pointer (some ⟨r, 0, none⟩), .int .i64 x.conn, .int .i64 x.side] W fun e w' => e = .returned (.tuple #[.int .i64 a0, .int .i64 b0, .int .i64 E]) ∧ Own n r (R'.map Wy.dr) R' w w' F b x) := fun W h => own_ref h hR
  obtain ⟨q1, q2, -, -⟩ := HM.out.cells
  clear hI h hB hF hW hN hR hk hu0
  go_enter Try.func10, Try.ntmps10
  go_wp2_with fail
  refine (A1.out _).mono ?_
  rintro e u ⟨rfl, rfl⟩
  rw [HU0.out]
  go_wp2_with fail
  refine (HN.out _ HM.out).mono ?_
  rintro e u1 ⟨rfl, H1⟩
  have HS1 : Hid (Own n r (R'.map Wy.dr) R w u1 F b x) := H1
  obtain ⟨s1, s2, -, -⟩ := HS1.out.cells
  clear H1 HM
  go_wp2_with fail
  refine (HR.out _ HS1.out).mono ?_
  rintro e u2 ⟨rfl, H2⟩
  have HS2 : Hid (Own n r (R'.map Wy.dr) R' w u2 F b x) := H2
  clear H2 HS1
  go_wp2
  go_ret
  exact ⟨rfl, _, HW.out, Mid.goes HS2.out⟩

theorem step_true (w : World) (hI : Sep (NetI n (R.map Wy.dr)) (RefI r R) w F) (h : WF R B) (hB : B ≤ 1000000000) (hx : x.Ok) :
    Calls Try.prog 10 #[.pointer (some ⟨n, 0, none⟩), .pointer (some ⟨r, 0, none⟩), .agg #[.int .i64 x.kind, .int .i64 x.conn, .int .i64 x.side, .int .i64 x.num, .string x.data]] w fun e w' => e = .returned (.bool true) ∧ ∃ R', WF R' (B + 262144) ∧ Goes (Sep (NetI n (R'.map Wy.dr)) (RefI r R')) w w' F := by
  have h1 := Int.emod_nonneg x.kind (show (7 : Int) ≠ 0 by omega)
  have h2 := Int.emod_lt_of_pos x.kind (show (0 : Int) < 7 by omega)
  obtain hk | hk | hk | hk | hk | hk | hk : x.kind % 7 = 0 ∨ x.kind % 7 = 1 ∨ x.kind % 7 = 2 ∨ x.kind % 7 = 3 ∨ x.kind % 7 = 4 ∨ x.kind % 7 = 5 ∨ x.kind % 7 = 6 := by omega
  · exact step_dial w hI h hB hk
  · exact step_write w hI h hB hx hk
  · exact step_arrive w hI h hB hk
  · exact step_read w hI h hB hk
  · exact step_close w hI h hB hk
  · exact step_ended w hI h hB hk
  · exact step_pending w hI h hB hk

end
end Go.Proofs.Ythfmppghdlniiaa
