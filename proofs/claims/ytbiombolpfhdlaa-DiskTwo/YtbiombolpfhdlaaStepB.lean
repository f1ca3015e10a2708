/- step: Read, Crash; every call. -/
import Derived.Test.YtbiombolpfhdlaaStep
namespace Go.Proofs.Ytbiombolpfhdlaa
open Go.RowKit Go.Maps

theorem BothGoes.from {w w1 w2 : World} {d r : Nat} {F : Nat → Prop} {s' : Dk.Dsk} (ht : Turn F w w1) (h : BothGoes w1 w2 d r F s') : BothGoes w w2 d r F s' := by
  obtain ⟨F', h1, h2, h3⟩ := h
  exact ⟨F', h1, ht.trans h2, fun i hi => (h3 i hi).imp id (fun h4 => Nat.le_trans ht.size h4)⟩
theorem BothGoes.drewN {w w1 : World} {d r : Nat} {F : Nat → Prop} {s' : Dk.Dsk} (h : BothGoes w w1 d r F s') (n : Nat) : BothGoes w (w1.drewN n) d r F s' := by
  obtain ⟨F', h1, h2, h3⟩ := h
  exact ⟨F', h1.below (below_drewN w1 n), h2.drewN n, h3⟩

section
variable {d r : Nat} {F : Nat → Prop} {s : Dk.Dsk} {x : ActV}

set_option maxRecDepth 100000 in
set_option maxHeartbeats 1000000 in
theorem step_read (w : World) (h : BothG w d r s F) (hx : ActFit w F x) (hk : x.kind % 7 = 4) :
    Calls Try.prog 12 #[.pointer (some ⟨d, 0, none⟩), .pointer (some ⟨r, 0, none⟩), .agg #[.int .i64 x.kind, .string x.name, .string x.data, .int .i64 x.num, x.dv]] w fun e w' => e = .returned (.bool true) ∧ ∃ s', BothGoes w w' d r F s' := by
  obtain ⟨E, hE⟩ : ∃ E, Dk.findE s x.name.data.toList = E := ⟨_, rfl⟩
  obtain ⟨t, ht⟩ : ∃ t, bs (Dk.readV s x.name.data.toList) = t := ⟨_, rfl⟩
  have hI := h.inv
  have hB := h.below (w1 := boxA w x) ((Below.refl _ _).alloc (Nat.le_refl _) _)
  have HG : Hid (BothGoes w (boxA w x) d r F s) := ⟨F, hB, Turn.alloc w _, fun _ hi => Or.inl hi⟩
  obtain ⟨m, G, v, hD, hR, -, -, -⟩ := hB
  have HA : Hid (Calls Try.prog 23 #[.pointer (some ⟨d, 0, none⟩), .string x.name] (boxA w x) fun e w1 => e = .returned (.tuple #[.string t, .int .i64 E]) ∧ w1 = boxA w x) := by
    have := read_any x.name _ hD hx.name
    rw [hE] at this
    rw [← ht]
    exact this
  have HR : Hid (Calls Try.prog 29 #[.pointer (some ⟨r, 0, none⟩), .string x.name] (boxA w x) fun e w1 => e = .returned (.tuple #[.string t, .int .i64 E]) ∧ boxA w x = w1) := by
    have := rread_any x.name _ hR hI.few hx.name
    rw [hE, ht] at this
    exact this
  have A1 : Hid (∀ W, Calls Try.prog 15 #[.int .i64 x.kind, .int .i64 7] W fun e w' => e = .returned (.int .i64 4) ∧ W = w') := fun W => by have := among_any x.kind 7 W (by omega) (by omega); rw [hk] at this; exact this
  unfold boxA at HA HR HG
  clear h hx hD hR hE ht hI hk
  go_enter Try.func12, Try.ntmps12
  go_wp2_with fail
  refine (A1.out _).mono ?_
  rintro e u ⟨rfl, rfl⟩
  go_wp2_with fail
  refine HA.out.mono ?_
  rintro e u ⟨rfl, rfl⟩
  go_wp2_with fail
  refine HR.out.mono ?_
  rintro e u ⟨rfl, rfl⟩
  go_wp2_with fail
  go_ret
  exact ⟨rfl, _, HG.out⟩

set_option maxRecDepth 100000 in
set_option maxHeartbeats 2000000 in
theorem step_crash (w : World) (h : BothG w d r s F) (hx : ActFit w F x) (hk : x.kind % 7 = 6) :
    Calls Try.prog 12 #[.pointer (some ⟨d, 0, none⟩), .pointer (some ⟨r, 0, none⟩), .agg #[.int .i64 x.kind, .string x.name, .string x.data, .int .i64 x.num, x.dv]] w fun e w' => e = .returned (.bool true) ∧ ∃ s', BothGoes w w' d r F s' := by
  obtain ⟨E, hE⟩ : ∃ E, Dk.crashE x.ds = E := ⟨_, rfl⟩
  obtain ⟨s', hs'⟩ : ∃ s', Dk.crashS s x.ds = s' := ⟨_, rfl⟩
  have hI := h.inv
  have hF3 : ∀ i, F i → i < w.heap.size := by obtain ⟨_, _, _, _, _, _, _, h3⟩ := h; exact h3
  have hB := h.below (w1 := boxA w x) ((Below.refl _ _).alloc (Nat.le_refl _) _)
  have hdB : DrawsAt (boxA w x) F x.dv x.ds := hx.draws.kept (Turn.alloc w _)
  have hxs : ∀ y ∈ x.ds, y ≤ 9223372036854775807 := by obtain ⟨_, _, _, _, _, _, h5⟩ := hx.draws; exact h5
  have HL : Hid (Calls Try.prog 31 #[x.dv] (boxA w x) fun e w' => ∃ g c, e = .returned (.slice (some ⟨g, 0, none⟩) x.ds.length c) ∧ LentAt w' g c x.ds ∧ (boxA w x).heap.size ≤ g ∧ Below (boxA w x).heap.size (boxA w x) w') := lendInts_any _ _ _ hdB hx.nil hx.many
  have HBoth : Hid (∀ w1 g c, LentAt w1 g c x.ds → (boxA w x).heap.size ≤ g → Below (boxA w x).heap.size (boxA w x) w1 → w1.cell? ⟨w.heap.size, 4, none⟩ = some x.dv ∧ ∃ v,
      (∀ W n, W = w1.drewN n → Calls Try.prog 20 #[.pointer (some ⟨d, 0, none⟩), .slice (some ⟨g, 0, none⟩) x.ds.length c] W fun e u1 => e = .returned (.int .i64 E) ∧ Half w1 u1 d r v F s s' ∧ u1.cell? ⟨w.heap.size, 4, none⟩ = some x.dv) ∧
      (∀ u1, Half w1 u1 d r v F s s' → Calls Try.prog 32 #[.pointer (some ⟨r, 0, none⟩), x.dv] u1 fun e u2 => e = .returned (.int .i64 E) ∧ BothGoes w1 u2 d r F s' ∧ u2.cell? ⟨w.heap.size, 4, none⟩ = some x.dv) ∧
      (∀ u2, BothGoes w1 u2 d r F s' → Calls Try.prog 33 #[.slice (some ⟨g, 0, none⟩) x.ds.length c, x.dv] u2 fun e u3 => e = .returned (.bool true) ∧ BothGoes w u3 d r F s' ∧ u3.cell? ⟨w.heap.size, 4, none⟩ = some x.dv)) := by
    intro w1 g c hL hg hb
    have hsB : (boxA w x).heap.size = w.heap.size + 1 := World.size_alloc _ _
    have hB1 := hB.below hb
    obtain ⟨m, G, v, hD, hR, h1, h2, h3⟩ := hB1
    have hnF : ¬ F g := fun hf => by have := hF3 g hf; omega
    have tB : Turn F (boxA w x) w1 := Turn.ofBelow _ hb
    have tW : Turn F w w1 := (Turn.alloc w _).trans tB
    have hd1 : DrawsAt w1 F x.dv x.ds := hdB.kept tB
    refine ⟨(box_cells tB hF3).2.2.2.2, v, ?_, ?_, ?_⟩
    · rintro W n rfl
      have hLn : LentAt (w1.drewN n) g c x.ds := hL.kept (S := fun _ => False) (Turn.ofBelow _ (below_drewN w1 n)) (fun h => h)
      refine (crash_any _ x.ds _ (hD.drewN n) (hLn.draws (fun hf => hnF (h1 g hf).1) hxs)).mono ?_
      rintro e u1 ⟨rfl, hgo⟩
      rw [hs'] at hgo
      have hH := half_of hD hR h1 h2 h3 hgo
      have ht : Turn F w1 u1 := by obtain ⟨_, _, _, _, ht, _⟩ := hH; exact ht
      exact ⟨by rw [hE], hH, (box_cells (tB.trans ht) hF3).2.2.2.2⟩
    · intro u1 hH
      have hH' := hH
      obtain ⟨_, _, _, hR1, ht, _⟩ := hH'
      refine (rcrash_any _ x.ds u1 hR1 hI ((hd1.kept ht).other h2)).mono ?_
      rintro e u2 ⟨rfl, hgo⟩
      rw [hs'] at hgo
      have hBg := both_of hH hgo
      have ht2 : Turn F w1 u2 := by obtain ⟨_, _, ht, _⟩ := hBg; exact ht
      exact ⟨by rw [hE], hBg, (box_cells (tB.trans ht2) hF3).2.2.2.2⟩
    · intro u2 hBg
      have ht2 : Turn F w1 u2 := by obtain ⟨_, _, ht, _⟩ := hBg; exact ht
      refine (keptInts_true g c _ x.ds u2 (hL.kept ht2 hnF) hxs (hd1.kept ht2)).mono ?_
      rintro e u3 ⟨rfl, n, rfl⟩
      exact ⟨rfl, (BothGoes.from tW hBg).drewN n, (box_cells ((tB.trans ht2).drewN n) hF3).2.2.2.2⟩
  have A1 : Hid (∀ W, Calls Try.prog 15 #[.int .i64 x.kind, .int .i64 7] W fun e w' => e = .returned (.int .i64 6) ∧ W = w') := fun W => by have := among_any x.kind 7 W (by omega) (by omega); rw [hk] at this; exact this
  obtain ⟨da, dc, hdv, -, hdc⟩ := hx.draws.shape
  unfold maxLen at hdc
  rw [hdv] at HL HBoth
  rw [hdv]
  unfold boxA at HL HBoth
  rw [hdv] at HL HBoth
  clear h hx hB hdB hE hs' hI hk hxs hF3 hdv
  go_enter Try.func12, Try.ntmps12
  go_wp2_with fail
  refine (A1.out _).mono ?_
  rintro e u ⟨rfl, rfl⟩
  go_wp2_with fail
  refine HL.out.mono ?_
  rintro e w1 ⟨g, c, rfl, hLe, hg, hb⟩
  obtain ⟨q4, v, hA, hR, hK⟩ := HBoth.out w1 g c hLe hg hb
  have HA : Hid (∀ W n, W = w1.drewN n → Calls Try.prog 20 #[.pointer (some ⟨d, 0, none⟩), .slice (some ⟨g, 0, none⟩) x.ds.length c] W fun e u1 => e = .returned (.int .i64 E) ∧ Half w1 u1 d r v F s s' ∧ u1.cell? ⟨w.heap.size, 4, none⟩ = some (.slice da x.ds.length dc)) := hA
  have HR : Hid (∀ u1, Half w1 u1 d r v F s s' → Calls Try.prog 32 #[.pointer (some ⟨r, 0, none⟩), .slice da x.ds.length dc] u1 fun e u2 => e = .returned (.int .i64 E) ∧ BothGoes w1 u2 d r F s' ∧ u2.cell? ⟨w.heap.size, 4, none⟩ = some (.slice da x.ds.length dc)) := hR
  have HK : Hid (∀ u2, BothGoes w1 u2 d r F s' → Calls Try.prog 33 #[.slice (some ⟨g, 0, none⟩) x.ds.length c, .slice da x.ds.length dc] u2 fun e u3 => e = .returned (.bool true) ∧ BothGoes w u3 d r F s' ∧ u3.cell? ⟨w.heap.size, 4, none⟩ = some (.slice da x.ds.length dc)) := hK
  clear hA hR hK hLe hg hb HBoth HL
  go_wp2_with fail
  go_region_held3 (fun w' => w'.cell? ⟨w.heap.size, 4, none⟩ = some (.slice da x.ds.length dc)) (go_keep)
    (first
      | (go_at_call 20; refine (HA.out _ 1 ?_).mono ?_; (exact rfl); rintro e u1 ⟨rfl, hH, p4⟩)
      | (go_at_call 32; refine (HR.out _ hH).mono ?_; rintro e u2 ⟨rfl, hG, r4⟩)
      | (go_at_call 33; refine (HK.out _ hG).mono ?_; rintro e u3 ⟨rfl, hG3, t4⟩))
  all_goals go_wp2
  all_goals go_ret
  all_goals exact ⟨rfl, _, hG3⟩

theorem step_true (w : World) (h : BothG w d r s F) (hx : ActFit w F x) :
    Calls Try.prog 12 #[.pointer (some ⟨d, 0, none⟩), .pointer (some ⟨r, 0, none⟩), .agg #[.int .i64 x.kind, .string x.name, .string x.data, .int .i64 x.num, x.dv]] w fun e w' => e = .returned (.bool true) ∧ ∃ s', BothGoes w w' d r F s' := by
  have hc : x.kind % 7 = 0 ∨ x.kind % 7 = 1 ∨ x.kind % 7 = 2 ∨ x.kind % 7 = 3 ∨ x.kind % 7 = 4 ∨ x.kind % 7 = 5 ∨ x.kind % 7 = 6 := by omega
  rcases hc with hk | hk | hk | hk | hk | hk | hk
  · exact step_append w h hx hk
  · exact step_sync w h hx hk
  · exact step_rename w h hx hk
  · exact step_remove w h hx hk
  · exact step_read w h hx hk
  · exact step_fuse w h hx hk
  · exact step_crash w h hx hk

end
end Go.Proofs.Ytbiombolpfhdlaa
