/- The program's frame of bytes. -/
import Derived.Test.YthiihilifckapaaFOwn
import Derived.Test.YthiihilifckapaaFSum
namespace Go.Proofs.Ythiihilifckapaa
open Go.RowKit

theorem headB_list (b : ByteArray) : (headB b).data.toList = le4 b.size ++ b.data.toList := by
  show ((bytesOf (le4 b.size) ++ b).data).toList = _
  rw [ByteArray.data_append, Array.toList_append]
  rfl

theorem headB_of (b : ByteArray) : bytesOf (le4 b.size ++ b.data.toList) = headB b := by
  apply ByteArray.ext
  apply Array.ext'
  rw [headB_list]
  rfl

theorem frameB_list (b : ByteArray) : (frameB b).data.toList = le4 b.size ++ b.data.toList ++ le4 (crc (headB b).data.toList) := by
  show ((headB b ++ bytesOf (le4 (crc (headB b).data.toList))).data).toList = _
  rw [ByteArray.data_append, Array.toList_append, headB_list]
  rfl

theorem frameB_of (b : ByteArray) : bytesOf (le4 b.size ++ b.data.toList ++ le4 (crc (headB b).data.toList)) = frameB b := by
  apply ByteArray.ext
  apply Array.ext'
  rw [frameB_list]
  rfl

theorem le4_len (n : Nat) : (le4 n).length = 4 := rfl

set_option maxRecDepth 100000 in
set_option maxHeartbeats 1000000 in
theorem fFrame_short (b : ByteArray) (w : World) (h : b.size ≤ 65536) :
    Calls Try.prog 7 #[.string b] w fun e w' => e = .returned (.tuple #[.string (frameB b), .int .i64 0]) ∧ Below w.heap.size w w' := by
  obtain ⟨u, hmk, ho, hbu⟩ := made_own w w.heap.size (4 + b.size + 4) (by omega) (Nat.le_refl _)
  rw [show ((4 + b.size + 4 : Nat) : Int) = 4 + (b.size : Int) + 4 by omega] at hmk
  obtain ⟨c, hc⟩ : ∃ c, 4 + b.size + 4 = c := ⟨_, rfl⟩
  rw [hc] at hmk ho
  have HO : Hid (OwnB u w.heap.size (.slice (some ⟨w.heap.size, 0, none⟩) 0 c) []) := ho
  have h' : ¬ (65536 < (b.size : Int)) := by omega
  have hx : ((b.size : Nat) : Int) % 4294967296 = b.size := by omega
  have hz := hbu.size
  obtain ⟨L1, hL1⟩ : ∃ L, le4 b.size = L := ⟨_, rfl⟩
  obtain ⟨L2, hL2⟩ : ∃ L, L1 ++ b.data.toList = L := ⟨_, rfl⟩
  obtain ⟨k, hk⟩ : ∃ k, crc (headB b).data.toList = k := ⟨_, rfl⟩
  obtain ⟨L3, hL3⟩ : ∃ L, L2 ++ le4 k = L := ⟨_, rfl⟩
  have hk2 : k < 4294967296 := hk ▸ crc_lt _
  have l1 : L1.length = 4 := by rw [← hL1]; rfl
  have l2 : L2.length = 4 + b.size := by rw [← hL2, List.length_append, l1]; rfl
  have H2 : Hid (bytesOf L2 = headB b) := (by rw [← hL2, ← hL1, headB_of] : _ = _)
  have H3 : Hid (bytesOf L3 = frameB b) := (by rw [← hL3, ← hL2, ← hL1, ← hk, frameB_of] : _ = _)
  have HA1 : Hid (∀ w0 : World, ∀ v base, OwnB w0 base v [] → base ≤ w0.heap.size → Calls Try.prog 17 #[v, .int .u32 (b.size : Int)] w0 fun e w' => ∃ v, e = .returned v ∧ OwnB w' base v L1 ∧ Below base w0 w') := fun w0 v base hv hb0 => by
    have := fappendWord_any b.size base v [] w0 (by omega) (by simp) hv hb0
    rw [List.nil_append, hL1] at this
    exact this
  have HA2 : Hid (∀ w0 : World, ∀ v base, OwnB w0 base v L2 → base ≤ w0.heap.size → Calls Try.prog 17 #[v, .int .u32 (k : Int)] w0 fun e w' => ∃ v, e = .returned v ∧ OwnB w' base v L3 ∧ Below base w0 w') := fun w0 v base hv hb0 => by
    have := fappendWord_any k base v L2 w0 hk2 (by omega) hv hb0
    rw [hL3] at this
    exact this
  have HS : Hid (∀ w0 : World, Calls Try.prog 9 #[.string (headB b)] w0 fun e w' => e = .returned (.int .u32 (k : Int)) ∧ w' = w0) := fun w0 => by
    have := fSum_any (headB b) w0 (by rw [headB_size]; unfold maxLen; omega)
    rw [hk] at this
    exact this
  have HL2 : Hid (L1 ++ b.data.toList = L2) := hL2
  clear ho hk hL1 hL2 hL3 hc
  go_enter Try.func7, Try.ntmps7
  go_wp2_with (first
    | (go_at_call 17; refine (HA1.out _ _ _ HO.out (by omega)).mono ?_; rintro e w1 ⟨v1, rfl, ho1, hb1⟩; have HO1 : Hid (OwnB w1 w.heap.size v1 L1) := ho1; have hz1 := hb1.size; clear ho1)
    | (at_builtin; go_must (refine Go.Proofs.Ythiihilifckapaa.wpList_text rfl _ _ rfl w.heap.size v1 L1 w1 rfl HO1.out b rfl (by omega) (by omega) ?_)))
  rw [HL2.out]
  intro v2 w2 ho2 hb2
  have hc2 := ho2.str
  rw [H2.out] at hc2
  have HO2 : Hid (OwnB w2 w.heap.size v2 L2) := ho2
  have hz2 := hb2.size
  clear ho2
  go_wp2_with (first
    | (go_at_call 9; refine (HS.out _).mono ?_; rintro e w3 ⟨rfl, rfl⟩)
    | (go_at_call 17; refine (HA2.out _ _ _ HO2.out (by omega)).mono ?_; rintro e w4 ⟨v4, rfl, ho4, hb4⟩; have hc4 := ho4.str; rw [H3.out] at hc4; clear ho4))
  go_ret2
  exact ⟨rfl, ((hbu.trans hb1).trans hb2).trans hb4⟩

set_option maxHeartbeats 400000 in
theorem fFrame_long (b : ByteArray) (w : World) (h : 65536 < b.size) :
    Calls Try.prog 7 #[.string b] w fun e w' => e = .returned (.tuple #[.string .empty, .int .i64 2]) ∧ w' = w := by
  have h2 : (65536 : Int) < b.size := by omega
  go_enter Try.func7, Try.ntmps7
  go_wp2
  go_ret2
  exact ⟨rfl, rfl⟩

theorem fFrame_any (b : ByteArray) (w : World) :
    Calls Try.prog 7 #[.string b] w fun e w' => e = .returned (.tuple #[.string (if b.size ≤ 65536 then frameB b else .empty), .int .i64 (if b.size ≤ 65536 then 0 else 2)]) ∧ Below w.heap.size w w' := by
  by_cases h : b.size ≤ 65536
  · rw [if_pos h, if_pos h]
    exact fFrame_short b w h
  · rw [if_neg h, if_neg h]
    exact (fFrame_long b w (by omega)).mono fun e w' ⟨h1, h2⟩ => ⟨h1, h2 ▸ Below.refl _ _⟩

end Go.Proofs.Ythiihilifckapaa
