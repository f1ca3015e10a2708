/- Layer 22: the chapter's examples. -/
import Derived.Test.YtfaelefeiinbaaaDoorMTextC
import Derived.Test.YtfaelefeiinbaaaDoorMSame
namespace Go.Proofs.YtfaelefeiinbaaaDoor
open Go.RowKit MP

theorem ints_two (u : World) (x y : Int) : IntsAt (u.alloc (.cells #[.int .i64 x, .int .i64 y] 3)) (.slice (some ⟨u.heap.size, 0, none⟩) 2 2) [x, y] :=
  sliceAt_flat (L := [x, y]) (n := 1) (fun _ => rfl) (heap_new u _) rfl (Nat.le_refl _) (by decide)
theorem ints_three (u : World) (x y z : Int) : IntsAt (u.alloc (.cells #[.int .i64 x, .int .i64 y, .int .i64 z] 3)) (.slice (some ⟨u.heap.size, 0, none⟩) 3 3) [x, y, z] :=
  sliceAt_flat (L := [x, y, z]) (n := 1) (fun _ => rfl) (heap_new u _) rfl (Nat.le_refl _) (by decide)
theorem text_five : txV (-5) = ofL [45, 48, 46, 48, 53] ∧ txE (-5) = 0 := by
  have h : may (-5) = true := by decide
  unfold txV txE
  rw [h]
  refine ⟨congrArg ofL ?_, rfl⟩
  unfold text
  rw [if_pos (by decide)]
  have e : textN (Int.natAbs (-5)) = [48, 46, 48, 53] := by
    unfold textN two
    rw [show Int.natAbs (-5) = 5 from rfl, show 5 / 100 = 0 from rfl, dec_one (by decide)]
    rfl
  rw [e]

set_option maxRecDepth 100000 in
set_option maxHeartbeats 1000000 in
theorem works_any (w : World) : Calls Tryd.prog 13 #[] w fun e w' => e = .returned (.bool true) ∧ Below w.heap.size w w' := by
  have H1 : Hid (∀ u, Calls Tryd.prog 9 #[.int .i64 (-5)] u fun e w' => e = .returned (.tuple #[.string (ofL [45, 48, 46, 48, 53]), .int .i64 0]) ∧ Below u.heap.size u w') := fun u => by
    have := Text_any (-5) u (Or.inl (by decide))
    rw [text_five.1, text_five.2] at this
    exact this
  have H2 : Hid (∀ u, Calls Tryd.prog 17 #[.int .i64 (-5), .int .i64 5000] u fun e w' => e = .returned (.tuple #[.int .i64 (-3), .int .i64 0]) ∧ Below u.heap.size u w') := fun u => by
    refine (Part_any (-5) 5000 u).mono fun e w' h => ?_
    rw [show partV (-5) 5000 = -3 by decide, show partE (-5) 5000 = 0 by decide] at h
    obtain ⟨h1, n, h2⟩ := h
    exact ⟨h1, by rw [h2]; exact below_drewN u n⟩
  have H3 : Hid (∀ u : World, Calls Tryd.prog 19 #[.int .i64 250, .int .i64 4, .slice (some ⟨u.heap.size, 0, none⟩) 2 2] (u.alloc (.cells #[.int .i64 1000, .int .i64 500] 3)) fun e w' => e = .returned (.tuple #[.int .i64 1155, .int .i64 0]) ∧ Below u.heap.size u w') := fun u => by
    refine (Price_any 250 4 _ [1000, 500] _ (ints_two u 1000 500)).mono fun e w' h => ?_
    rw [show priceV 250 4 [1000, 500] = 1155 by decide, show priceE 250 4 [1000, 500] = 0 by decide] at h
    have hb : Below u.heap.size u (u.alloc (.cells #[.int .i64 1000, .int .i64 500] 3)) := (Below.refl _ _).alloc (Nat.le_refl _) _
    exact ⟨h.1, hb.trans (h.2.mono hb.size)⟩
  have H4 : Hid (∀ u : World, Calls Tryd.prog 22 #[.int .i64 (-100), .slice (some ⟨u.heap.size, 0, none⟩) 3 3] (u.alloc (.cells #[.int .i64 1, .int .i64 1, .int .i64 1] 3)) fun e w' => ∃ g c, e = .returned (.tuple #[.slice (some ⟨g, 0, none⟩) 3 c, .int .i64 0]) ∧ IntsAt w' (.slice (some ⟨g, 0, none⟩) 3 c) [-34, -33, -33] ∧ Below u.heap.size u w') := fun u => by
    refine (Share_any (-100) _ [1, 1, 1] _ (ints_three u 1 1 1)).mono fun e w' h => ?_
    obtain ⟨v, h1, h2, h3⟩ := h
    rw [show shE (-100) [1, 1, 1] = 0 by decide] at h1
    rw [show shV (-100) [1, 1, 1] = [-34, -33, -33] by decide] at h2
    have hi := h2.ints
    have hb : Below u.heap.size u (u.alloc (.cells #[.int .i64 1, .int .i64 1, .int .i64 1] 3)) := (Below.refl _ _).alloc (Nat.le_refl _) _
    rcases h2 with ⟨_, h2⟩ | ⟨g, c, rfl, _⟩
    · cases h2
    · exact ⟨g, c, h1, hi, hb.trans (h3.mono hb.size)⟩
  go_enter Tryd.func13, Tryd.ntmps13
  go_wp2_with fail
  refine (H1.out _).mono ?_
  rintro y w1 ⟨rfl, hb1⟩
  have HB1 : Hid (Below w.heap.size w w1) := hb1
  clear hb1
  go_wp2_with fail
  refine (H2.out _).mono ?_
  rintro y w2 ⟨rfl, hb2⟩
  have HB2 : Hid (Below w.heap.size w w2) := HB1.out.trans (hb2.mono HB1.out.size)
  clear hb2
  go_wp2_with fail
  refine (H3.out _).mono ?_
  rintro y w3 ⟨rfl, hb3⟩
  have HB3 : Hid (Below w.heap.size w w3) := HB2.out.trans (hb3.mono HB2.out.size)
  clear hb3
  go_wp2_with fail
  refine (H4.out _).mono ?_
  rintro y w4 ⟨g, c, rfl, hi4, hb4⟩
  have HB4 : Hid (Below w.heap.size w w4) := HB3.out.trans (hb4.mono HB3.out.size)
  have H5 : Hid (Calls Tryd.prog 24 #[.slice (some ⟨g, 0, none⟩) 3 c, .slice (some ⟨w4.heap.size, 0, none⟩) 3 3] (w4.alloc (.cells #[.int .i64 (-34), .int .i64 (-33), .int .i64 (-33)] 3)) fun e w' => e = .returned (.bool true) ∧ Below w.heap.size w w') := by
    have hb : Below w4.heap.size w4 (w4.alloc (.cells #[.int .i64 (-34), .int .i64 (-33), .int .i64 (-33)] 3)) := (Below.refl _ _).alloc (Nat.le_refl _) _
    refine (sameInts_true _ _ [-34, -33, -33] _ (hi4.below hb) (ints_three w4 (-34) (-33) (-33))).mono fun e w' h => ⟨h.1, ?_⟩
    have hb' := HB4.out.trans (hb.mono HB4.out.size)
    exact hb'.trans (h.2.mono hb'.size)
  clear hi4 hb4
  go_wp2_with (go_at_call 24; go_must (refine H5.out.mono ?_; rintro y w5 ⟨rfl, hb5⟩))
  go_ret
  exact ⟨rfl, hb5⟩
end Go.Proofs.YtfaelefeiinbaaaDoor
