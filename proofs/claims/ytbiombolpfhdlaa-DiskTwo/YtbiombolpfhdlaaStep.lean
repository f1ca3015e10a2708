/- step: a call of both. -/
import Derived.Test.YtbiombolpfhdlaaBoth
import Derived.Test.YtbiombolpfhdlaaActs
import Derived.Test.YtbiombolpfhdlaaAmong
import Derived.Deep.RegionHeld3
namespace Go.Proofs.Ytbiombolpfhdlaa
open Go.RowKit Go.Maps

def boxA (w : World) (x : ActV) : World := w.alloc (.cells #[.int .i64 x.kind, .string x.name, .string x.data, .int .i64 x.num, x.dv] 31 (0, 0))

/-- what a call that came in keeps to -/
structure ActFit (w : World) (F : Nat → Prop) (x : ActV) : Prop where
  name : x.name.size ≤ maxLen
  data : x.data.size ≤ 140737488355328
  num : x.num ≤ 9223372036854775807
  draws : DrawsAt w F x.dv x.ds
  nil : ∀ c, x.dv = .slice none x.ds.length c → c = 0
  many : (x.ds.length + 1) * 8 ≤ 140737488355328

theorem box_cells {w w1 : World} {F : Nat → Prop} {x : ActV} (ht : Turn F (boxA w x) w1) (hF : ∀ i, F i → i < w.heap.size) :
    w1.cell? ⟨w.heap.size, 0, none⟩ = some (.int .i64 x.kind) ∧ w1.cell? ⟨w.heap.size, 1, none⟩ = some (.string x.name) ∧ w1.cell? ⟨w.heap.size, 2, none⟩ = some (.string x.data) ∧ w1.cell? ⟨w.heap.size, 3, none⟩ = some (.int .i64 x.num) ∧ w1.cell? ⟨w.heap.size, 4, none⟩ = some x.dv := by
  have hb : w1.heap[w.heap.size]? = some (.cells #[.int .i64 x.kind, .string x.name, .string x.data, .int .i64 x.num, x.dv] 31 (0, 0)) :=
    (ht.block w.heap.size (by simp [boxA]) (fun h => by have := hF _ h; omega)).trans (heap_new w _)
  exact ⟨by rw [cell_of hb]; rfl, by rw [cell_of hb]; rfl, by rw [cell_of hb]; rfl, by rw [cell_of hb]; rfl, by rw [cell_of hb]; rfl⟩

theorem boxA_goes {w w2 : World} {d r : Nat} {F : Nat → Prop} {s' : Dk.Dsk} {x : ActV} (h : BothGoes (boxA w x) w2 d r F s') : BothGoes w w2 d r F s' := by
  obtain ⟨F', h1, h2, h3⟩ := h
  exact ⟨F', h1, (Turn.alloc w _).trans h2, fun i hi => (h3 i hi).imp id (fun h4 => Nat.le_trans (by simp [boxA]) h4)⟩

theorem fuse_goes {d m : Nat} {G : List (List UInt8 × Gc)} {s : Dk.Dsk} (n : Int) (w : World) (h : DiskG Try.prog w d m G s) (hn : n ≤ 9223372036854775807) :
    Calls Try.prog 19 #[.pointer (some ⟨d, 0, none⟩), .int .i64 n] w fun e w' => e = .returned (.int .i64 (Dk.fuseE n)) ∧ Goes w w' d m G (Dk.fuseS s n) := by
  refine (fuse_any n w h hn).mono ?_
  rintro e w' ⟨rfl, hD, ht⟩
  exact ⟨rfl, Goes.top hD ht⟩
theorem rfuse_goes {r : Nat} {v : Value} {s : Dk.Dsk} (n : Int) (w : World) (h : RefG w r v s) :
    Calls Try.prog 30 #[.pointer (some ⟨r, 0, none⟩), .int .i64 n] w fun e w' => e = .returned (.int .i64 (Dk.fuseE n)) ∧ RGoes w w' r v (Dk.fuseS s n) := by
  refine (rfuse_any n w h).mono ?_
  rintro e w' ⟨rfl, hD, ht⟩
  exact ⟨rfl, RGoes.top hD ht⟩

section
variable {d r : Nat} {F : Nat → Prop} {s : Dk.Dsk} {x : ActV}

set_option maxRecDepth 100000 in
set_option maxHeartbeats 1000000 in
theorem step_append (w : World) (h : BothG w d r s F) (hx : ActFit w F x) (hk : x.kind % 7 = 0) :
    Calls Try.prog 12 #[.pointer (some ⟨d, 0, none⟩), .pointer (some ⟨r, 0, none⟩), .agg #[.int .i64 x.kind, .string x.name, .string x.data, .int .i64 x.num, x.dv]] w fun e w' => e = .returned (.bool true) ∧ ∃ s', BothGoes w w' d r F s' := by
  obtain ⟨E, hE⟩ : ∃ E, Dk.appendE s x.name.data.toList x.data.data.toList = E := ⟨_, rfl⟩
  obtain ⟨s', hs'⟩ : ∃ s', Dk.appendS s x.name.data.toList x.data.data.toList = s' := ⟨_, rfl⟩
  have hI := h.inv
  have hF3 : ∀ i, F i → i < w.heap.size := by obtain ⟨_, _, _, _, _, _, _, h3⟩ := h; exact h3
  obtain ⟨m, G, v, hD, hR, h1, h2, h3⟩ := h.below (w1 := boxA w x) ((Below.refl _ _).alloc (Nat.le_refl _) _)
  have HA : Hid (∀ W n, W = (boxA w x).drewN n → Calls Try.prog 16 #[.pointer (some ⟨d, 0, none⟩), .string x.name, .string x.data] W fun e w1 => e = .returned (.int .i64 E) ∧ Half (boxA w x) w1 d r v F s s' ∧ w1.cell? ⟨w.heap.size, 1, none⟩ = some (.string x.name) ∧ w1.cell? ⟨w.heap.size, 2, none⟩ = some (.string x.data)) := by
    rintro W n rfl
    refine (append_any x.name x.data _ (hD.drewN n) hx.name (Nat.le_trans hx.data (by decide))).mono ?_
    rintro e w1 ⟨rfl, hg⟩
    rw [hs'] at hg
    have hH := half_of hD hR h1 h2 h3 hg
    have ht : Turn F (boxA w x) w1 := by obtain ⟨_, _, _, _, ht, _⟩ := hH; exact ht
    obtain ⟨_, q1, q2, _, _⟩ := box_cells ht hF3
    exact ⟨by rw [hE], hH, q1, q2⟩
  have HR : Hid (∀ w1, Half (boxA w x) w1 d r v F s s' → Calls Try.prog 24 #[.pointer (some ⟨r, 0, none⟩), .string x.name, .string x.data] w1 fun e w2 => e = .returned (.int .i64 E) ∧ BothGoes w w2 d r F s' ∧ w2.cell? ⟨w.heap.size, 1, none⟩ = some (.string x.name) ∧ w2.cell? ⟨w.heap.size, 2, none⟩ = some (.string x.data)) := by
    intro w1 hH
    have hH' := hH
    obtain ⟨_, _, _, hR1, _⟩ := hH'
    refine (rappend_any x.name x.data w1 hR1 hI hx.name hx.data).mono ?_
    rintro e w2 ⟨rfl, hg⟩
    rw [hs'] at hg
    have hB := both_of hH hg
    have ht : Turn F (boxA w x) w2 := by obtain ⟨_, _, ht, _⟩ := hB; exact ht
    obtain ⟨_, q1, q2, _, _⟩ := box_cells ht hF3
    exact ⟨by rw [hE], boxA_goes hB, q1, q2⟩
  have A1 : Hid (∀ W, Calls Try.prog 15 #[.int .i64 x.kind, .int .i64 7] W fun e w' => e = .returned (.int .i64 0) ∧ W = w') := fun W => by have := among_any x.kind 7 W (by omega) (by omega); rw [hk] at this; exact this
  have q1 := (box_cells (x := x) (F := F) (Turn.refl _ (boxA w x)) hF3).2.1
  have q2 := (box_cells (x := x) (F := F) (Turn.refl _ (boxA w x)) hF3).2.2.1
  have HB : Hid (boxA w x = w.alloc (.cells #[.int .i64 x.kind, .string x.name, .string x.data, .int .i64 x.num, x.dv] 31 (0, 0))) := rfl
  clear h hx hD hR h1 h2 h3 hE hs' hI hF3 hk
  go_enter Try.func12, Try.ntmps12
  go_wp2_with fail
  refine (A1.out _).mono ?_
  rintro e u ⟨rfl, rfl⟩
  go_wp2_with fail
  go_region_held3 (fun w' => w'.cell? ⟨w.heap.size, 1, none⟩ = some (.string x.name) ∧ w'.cell? ⟨w.heap.size, 2, none⟩ = some (.string x.data)) (go_keep)
    (first
      | (go_at_call 16; refine (HA.out _ 1 ?_).mono ?_; (exact HB.out ▸ rfl); rintro e w1 ⟨rfl, hH, p1, p2⟩)
      | (go_at_call 24; refine (HR.out _ hH).mono ?_; rintro e w2 ⟨rfl, hG, r1, r2⟩))
  all_goals go_wp2
  all_goals go_ret
  all_goals exact ⟨rfl, _, hG⟩

set_option maxRecDepth 100000 in
set_option maxHeartbeats 1000000 in
theorem step_sync (w : World) (h : BothG w d r s F) (hx : ActFit w F x) (hk : x.kind % 7 = 1) :
    Calls Try.prog 12 #[.pointer (some ⟨d, 0, none⟩), .pointer (some ⟨r, 0, none⟩), .agg #[.int .i64 x.kind, .string x.name, .string x.data, .int .i64 x.num, x.dv]] w fun e w' => e = .returned (.bool true) ∧ ∃ s', BothGoes w w' d r F s' := by
  obtain ⟨E, hE⟩ : ∃ E, Dk.syncE s x.name.data.toList = E := ⟨_, rfl⟩
  obtain ⟨s', hs'⟩ : ∃ s', Dk.syncS s x.name.data.toList = s' := ⟨_, rfl⟩
  have hI := h.inv
  have hF3 : ∀ i, F i → i < w.heap.size := by obtain ⟨_, _, _, _, _, _, _, h3⟩ := h; exact h3
  obtain ⟨m, G, v, hD, hR, h1, h2, h3⟩ := h.below (w1 := boxA w x) ((Below.refl _ _).alloc (Nat.le_refl _) _)
  have HA : Hid (∀ W n, W = (boxA w x).drewN n → Calls Try.prog 17 #[.pointer (some ⟨d, 0, none⟩), .string x.name] W fun e w1 => e = .returned (.int .i64 E) ∧ Half (boxA w x) w1 d r v F s s' ∧ w1.cell? ⟨w.heap.size, 1, none⟩ = some (.string x.name)) := by
    rintro W n rfl
    refine (sync_any x.name _ (hD.drewN n) hx.name).mono ?_
    rintro e w1 ⟨rfl, hg⟩
    rw [hs'] at hg
    have hH := half_of hD hR h1 h2 h3 hg
    have ht : Turn F (boxA w x) w1 := by obtain ⟨_, _, _, _, ht, _⟩ := hH; exact ht
    obtain ⟨_, q1, _, _, _⟩ := box_cells ht hF3
    exact ⟨by rw [hE], hH, q1⟩
  have HR : Hid (∀ w1, Half (boxA w x) w1 d r v F s s' → Calls Try.prog 25 #[.pointer (some ⟨r, 0, none⟩), .string x.name] w1 fun e w2 => e = .returned (.int .i64 E) ∧ BothGoes w w2 d r F s' ∧ w2.cell? ⟨w.heap.size, 1, none⟩ = some (.string x.name)) := by
    intro w1 hH
    have hH' := hH
    obtain ⟨_, _, _, hR1, _⟩ := hH'
    refine (rsync_any x.name w1 hR1 hI hx.name).mono ?_
    rintro e w2 ⟨rfl, hg⟩
    rw [hs'] at hg
    have hB := both_of hH hg
    have ht : Turn F (boxA w x) w2 := by obtain ⟨_, _, ht, _⟩ := hB; exact ht
    obtain ⟨_, q1, _, _, _⟩ := box_cells ht hF3
    exact ⟨by rw [hE], boxA_goes hB, q1⟩
  have A1 : Hid (∀ W, Calls Try.prog 15 #[.int .i64 x.kind, .int .i64 7] W fun e w' => e = .returned (.int .i64 1) ∧ W = w') := fun W => by have := among_any x.kind 7 W (by omega) (by omega); rw [hk] at this; exact this
  have q1 := (box_cells (x := x) (F := F) (Turn.refl _ (boxA w x)) hF3).2.1
  have HB : Hid (boxA w x = w.alloc (.cells #[.int .i64 x.kind, .string x.name, .string x.data, .int .i64 x.num, x.dv] 31 (0, 0))) := rfl
  clear h hx hD hR h1 h2 h3 hE hs' hI hF3 hk
  go_enter Try.func12, Try.ntmps12
  go_wp2_with fail
  refine (A1.out _).mono ?_
  rintro e u ⟨rfl, rfl⟩
  go_wp2_with fail
  go_region_held3 (fun w' => w'.cell? ⟨w.heap.size, 1, none⟩ = some (.string x.name)) (go_keep)
    (first
      | (go_at_call 17; refine (HA.out _ 1 ?_).mono ?_; (exact HB.out ▸ rfl); rintro e w1 ⟨rfl, hH, p1⟩)
      | (go_at_call 25; refine (HR.out _ hH).mono ?_; rintro e w2 ⟨rfl, hG, r1⟩))
  all_goals go_wp2
  all_goals go_ret
  all_goals exact ⟨rfl, _, hG⟩

set_option maxRecDepth 100000 in
set_option maxHeartbeats 1000000 in
theorem step_rename (w : World) (h : BothG w d r s F) (hx : ActFit w F x) (hk : x.kind % 7 = 2) :
    Calls Try.prog 12 #[.pointer (some ⟨d, 0, none⟩), .pointer (some ⟨r, 0, none⟩), .agg #[.int .i64 x.kind, .string x.name, .string x.data, .int .i64 x.num, x.dv]] w fun e w' => e = .returned (.bool true) ∧ ∃ s', BothGoes w w' d r F s' := by
  obtain ⟨E, hE⟩ : ∃ E, Dk.renameE s x.name.data.toList x.data.data.toList = E := ⟨_, rfl⟩
  obtain ⟨s', hs'⟩ : ∃ s', Dk.renameS s x.name.data.toList x.data.data.toList = s' := ⟨_, rfl⟩
  have hI := h.inv
  have hF3 : ∀ i, F i → i < w.heap.size := by obtain ⟨_, _, _, _, _, _, _, h3⟩ := h; exact h3
  obtain ⟨m, G, v, hD, hR, h1, h2, h3⟩ := h.below (w1 := boxA w x) ((Below.refl _ _).alloc (Nat.le_refl _) _)
  have HA : Hid (∀ W n, W = (boxA w x).drewN n → Calls Try.prog 18 #[.pointer (some ⟨d, 0, none⟩), .string x.name, .string x.data] W fun e w1 => e = .returned (.int .i64 E) ∧ Half (boxA w x) w1 d r v F s s' ∧ w1.cell? ⟨w.heap.size, 1, none⟩ = some (.string x.name) ∧ w1.cell? ⟨w.heap.size, 2, none⟩ = some (.string x.data)) := by
    rintro W n rfl
    refine (rename_any x.name x.data _ (hD.drewN n) hx.name (Nat.le_trans hx.data (by decide))).mono ?_
    rintro e w1 ⟨rfl, hg⟩
    rw [hs'] at hg
    have hH := half_of hD hR h1 h2 h3 hg
    have ht : Turn F (boxA w x) w1 := by obtain ⟨_, _, _, _, ht, _⟩ := hH; exact ht
    obtain ⟨_, q1, q2, _, _⟩ := box_cells ht hF3
    exact ⟨by rw [hE], hH, q1, q2⟩
  have HR : Hid (∀ w1, Half (boxA w x) w1 d r v F s s' → Calls Try.prog 26 #[.pointer (some ⟨r, 0, none⟩), .string x.name, .string x.data] w1 fun e w2 => e = .returned (.int .i64 E) ∧ BothGoes w w2 d r F s' ∧ w2.cell? ⟨w.heap.size, 1, none⟩ = some (.string x.name) ∧ w2.cell? ⟨w.heap.size, 2, none⟩ = some (.string x.data)) := by
    intro w1 hH
    have hH' := hH
    obtain ⟨_, _, _, hR1, _⟩ := hH'
    refine (rrename_any x.name x.data w1 hR1 hI hx.name (Nat.le_trans hx.data (by decide))).mono ?_
    rintro e w2 ⟨rfl, hg⟩
    rw [hs'] at hg
    have hB := both_of hH hg
    have ht : Turn F (boxA w x) w2 := by obtain ⟨_, _, ht, _⟩ := hB; exact ht
    obtain ⟨_, q1, q2, _, _⟩ := box_cells ht hF3
    exact ⟨by rw [hE], boxA_goes hB, q1, q2⟩
  have A1 : Hid (∀ W, Calls Try.prog 15 #[.int .i64 x.kind, .int .i64 7] W fun e w' => e = .returned (.int .i64 2) ∧ W = w') := fun W => by have := among_any x.kind 7 W (by omega) (by omega); rw [hk] at this; exact this
  have q1 := (box_cells (x := x) (F := F) (Turn.refl _ (boxA w x)) hF3).2.1
  have q2 := (box_cells (x := x) (F := F) (Turn.refl _ (boxA w x)) hF3).2.2.1
  have HB : Hid (boxA w x = w.alloc (.cells #[.int .i64 x.kind, .string x.name, .string x.data, .int .i64 x.num, x.dv] 31 (0, 0))) := rfl
  clear h hx hD hR h1 h2 h3 hE hs' hI hF3 hk
  go_enter Try.func12, Try.ntmps12
  go_wp2_with fail
  refine (A1.out _).mono ?_
  rintro e u ⟨rfl, rfl⟩
  go_wp2_with fail
  go_region_held3 (fun w' => w'.cell? ⟨w.heap.size, 1, none⟩ = some (.string x.name) ∧ w'.cell? ⟨w.heap.size, 2, none⟩ = some (.string x.data)) (go_keep)
    (first
      | (go_at_call 18; refine (HA.out _ 1 ?_).mono ?_; (exact HB.out ▸ rfl); rintro e w1 ⟨rfl, hH, p1, p2⟩)
      | (go_at_call 26; refine (HR.out _ hH).mono ?_; rintro e w2 ⟨rfl, hG, r1, r2⟩))
  all_goals go_wp2
  all_goals go_ret
  all_goals exact ⟨rfl, _, hG⟩

set_option maxRecDepth 100000 in
set_option maxHeartbeats 1000000 in
theorem step_remove (w : World) (h : BothG w d r s F) (hx : ActFit w F x) (hk : x.kind % 7 = 3) :
    Calls Try.prog 12 #[.pointer (some ⟨d, 0, none⟩), .pointer (some ⟨r, 0, none⟩), .agg #[.int .i64 x.kind, .string x.name, .string x.data, .int .i64 x.num, x.dv]] w fun e w' => e = .returned (.bool true) ∧ ∃ s', BothGoes w w' d r F s' := by
  obtain ⟨E, hE⟩ : ∃ E, Dk.removeE s x.name.data.toList = E := ⟨_, rfl⟩
  obtain ⟨s', hs'⟩ : ∃ s', Dk.removeS s x.name.data.toList = s' := ⟨_, rfl⟩
  have hI := h.inv
  have hF3 : ∀ i, F i → i < w.heap.size := by obtain ⟨_, _, _, _, _, _, _, h3⟩ := h; exact h3
  obtain ⟨m, G, v, hD, hR, h1, h2, h3⟩ := h.below (w1 := boxA w x) ((Below.refl _ _).alloc (Nat.le_refl _) _)
  have HA : Hid (∀ W n, W = (boxA w x).drewN n → Calls Try.prog 27 #[.pointer (some ⟨d, 0, none⟩), .string x.name] W fun e w1 => e = .returned (.int .i64 E) ∧ Half (boxA w x) w1 d r v F s s' ∧ w1.cell? ⟨w.heap.size, 1, none⟩ = some (.string x.name)) := by
    rintro W n rfl
    refine (remove_any x.name _ (hD.drewN n) hx.name).mono ?_
    rintro e w1 ⟨rfl, hg⟩
    rw [hs'] at hg
    have hH := half_of hD hR h1 h2 h3 hg
    have ht : Turn F (boxA w x) w1 := by obtain ⟨_, _, _, _, ht, _⟩ := hH; exact ht
    obtain ⟨_, q1, _, _, _⟩ := box_cells ht hF3
    exact ⟨by rw [hE], hH, q1⟩
  have HR : Hid (∀ w1, Half (boxA w x) w1 d r v F s s' → Calls Try.prog 28 #[.pointer (some ⟨r, 0, none⟩), .string x.name] w1 fun e w2 => e = .returned (.int .i64 E) ∧ BothGoes w w2 d r F s' ∧ w2.cell? ⟨w.heap.size, 1, none⟩ = some (.string x.name)) := by
    intro w1 hH
    have hH' := hH
    obtain ⟨_, _, _, hR1, _⟩ := hH'
    refine (rremove_any x.name w1 hR1 hI hx.name).mono ?_
    rintro e w2 ⟨rfl, hg⟩
    rw [hs'] at hg
    have hB := both_of hH hg
    have ht : Turn F (boxA w x) w2 := by obtain ⟨_, _, ht, _⟩ := hB; exact ht
    obtain ⟨_, q1, _, _, _⟩ := box_cells ht hF3
    exact ⟨by rw [hE], boxA_goes hB, q1⟩
  have A1 : Hid (∀ W, Calls Try.prog 15 #[.int .i64 x.kind, .int .i64 7] W fun e w' => e = .returned (.int .i64 3) ∧ W = w') := fun W => by have := among_any x.kind 7 W (by omega) (by omega); rw [hk] at this; exact this
  have q1 := (box_cells (x := x) (F := F) (Turn.refl _ (boxA w x)) hF3).2.1
  have HB : Hid (boxA w x = w.alloc (.cells #[.int .i64 x.kind, .string x.name, .string x.data, .int .i64 x.num, x.dv] 31 (0, 0))) := rfl
  clear h hx hD hR h1 h2 h3 hE hs' hI hF3 hk
  go_enter Try.func12, Try.ntmps12
  go_wp2_with fail
  refine (A1.out _).mono ?_
  rintro e u ⟨rfl, rfl⟩
  go_wp2_with fail
  go_region_held3 (fun w' => w'.cell? ⟨w.heap.size, 1, none⟩ = some (.string x.name)) (go_keep)
    (first
      | (go_at_call 27; refine (HA.out _ 1 ?_).mono ?_; (exact HB.out ▸ rfl); rintro e w1 ⟨rfl, hH, p1⟩)
      | (go_at_call 28; refine (HR.out _ hH).mono ?_; rintro e w2 ⟨rfl, hG, r1⟩))
  all_goals go_wp2
  all_goals go_ret
  all_goals exact ⟨rfl, _, hG⟩

set_option maxRecDepth 100000 in
set_option maxHeartbeats 1000000 in
theorem step_fuse (w : World) (h : BothG w d r s F) (hx : ActFit w F x) (hk : x.kind % 7 = 5) :
    Calls Try.prog 12 #[.pointer (some ⟨d, 0, none⟩), .pointer (some ⟨r, 0, none⟩), .agg #[.int .i64 x.kind, .string x.name, .string x.data, .int .i64 x.num, x.dv]] w fun e w' => e = .returned (.bool true) ∧ ∃ s', BothGoes w w' d r F s' := by
  obtain ⟨E, hE⟩ : ∃ E, Dk.fuseE x.num = E := ⟨_, rfl⟩
  obtain ⟨s', hs'⟩ : ∃ s', Dk.fuseS s x.num = s' := ⟨_, rfl⟩
  have hI := h.inv
  have hF3 : ∀ i, F i → i < w.heap.size := by obtain ⟨_, _, _, _, _, _, _, h3⟩ := h; exact h3
  obtain ⟨m, G, v, hD, hR, h1, h2, h3⟩ := h.below (w1 := boxA w x) ((Below.refl _ _).alloc (Nat.le_refl _) _)
  have HA : Hid (∀ W n, W = (boxA w x).drewN n → Calls Try.prog 19 #[.pointer (some ⟨d, 0, none⟩), .int .i64 x.num] W fun e w1 => e = .returned (.int .i64 E) ∧ Half (boxA w x) w1 d r v F s s' ∧ w1.cell? ⟨w.heap.size, 3, none⟩ = some (.int .i64 x.num)) := by
    rintro W n rfl
    refine (fuse_goes x.num _ (hD.drewN n) hx.num).mono ?_
    rintro e w1 ⟨rfl, hg⟩
    rw [hs'] at hg
    have hH := half_of hD hR h1 h2 h3 hg
    have ht : Turn F (boxA w x) w1 := by obtain ⟨_, _, _, _, ht, _⟩ := hH; exact ht
    obtain ⟨_, _, _, q3, _⟩ := box_cells ht hF3
    exact ⟨by rw [hE], hH, q3⟩
  have HR : Hid (∀ w1, Half (boxA w x) w1 d r v F s s' → Calls Try.prog 30 #[.pointer (some ⟨r, 0, none⟩), .int .i64 x.num] w1 fun e w2 => e = .returned (.int .i64 E) ∧ BothGoes w w2 d r F s' ∧ w2.cell? ⟨w.heap.size, 3, none⟩ = some (.int .i64 x.num)) := by
    intro w1 hH
    have hH' := hH
    obtain ⟨_, _, _, hR1, _⟩ := hH'
    refine (rfuse_goes x.num w1 hR1).mono ?_
    rintro e w2 ⟨rfl, hg⟩
    rw [hs'] at hg
    have hB := both_of hH hg
    have ht : Turn F (boxA w x) w2 := by obtain ⟨_, _, ht, _⟩ := hB; exact ht
    obtain ⟨_, _, _, q3, _⟩ := box_cells ht hF3
    exact ⟨by rw [hE], boxA_goes hB, q3⟩
  have A1 : Hid (∀ W, Calls Try.prog 15 #[.int .i64 x.kind, .int .i64 7] W fun e w' => e = .returned (.int .i64 5) ∧ W = w') := fun W => by have := among_any x.kind 7 W (by omega) (by omega); rw [hk] at this; exact this
  have q3 := (box_cells (x := x) (F := F) (Turn.refl _ (boxA w x)) hF3).2.2.2.1
  have HB : Hid (boxA w x = w.alloc (.cells #[.int .i64 x.kind, .string x.name, .string x.data, .int .i64 x.num, x.dv] 31 (0, 0))) := rfl
  clear h hx hD hR h1 h2 h3 hE hs' hI hF3 hk
  go_enter Try.func12, Try.ntmps12
  go_wp2_with fail
  refine (A1.out _).mono ?_
  rintro e u ⟨rfl, rfl⟩
  go_wp2_with fail
  go_region_held3 (fun w' => w'.cell? ⟨w.heap.size, 3, none⟩ = some (.int .i64 x.num)) (go_keep)
    (first
      | (go_at_call 19; refine (HA.out _ 1 ?_).mono ?_; (exact HB.out ▸ rfl); rintro e w1 ⟨rfl, hH, p3⟩)
      | (go_at_call 30; refine (HR.out _ hH).mono ?_; rintro e w2 ⟨rfl, hG, r3⟩))
  all_goals go_wp2
  all_goals go_ret
  all_goals exact ⟨rfl, _, hG⟩

end
end Go.Proofs.Ytbiombolpfhdlaa
