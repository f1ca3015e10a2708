/- The law FrameBytes: its walk, for at most 2^45 bytes. -/
import Derived.Test.YthiihilifckapaaFTexts
import Derived.Test.YthiihilifckapaaFWorks
namespace Go.Proofs.Ythiihilifckapaa.Bytes
open Go.RowKit

theorem keep {w w' : World} {g : Nat} {o : Obj} (h : w.heap[g]? = some o) (hb : Below w.heap.size w w') : w'.heap[g]? = some o := (hb.block g (lt_of h)).trans h
theorem over {w : World} {g : Nat} {o : Obj} (h : w.heap[g]? = some o) (o' : Obj) : (w.alloc o').heap[g]? = some o := (Below.heap_alloc w o' g (lt_of h)).trans h

set_option maxRecDepth 100000 in
set_option maxHeartbeats 1000000 in
theorem walk (b : ByteArray) (x : Int) (w : World) (hb : b.size ≤ 35184372088832) :
    Calls Try.prog 3 #[.string b, .int .i64 x] w fun e w' => e = .returned (.bool true) ∧ Below w.heap.size w w' := by
  have hm : b.size ≤ maxLen := by unfold maxLen; omega
  obtain ⟨S, hS⟩ : ∃ S : ByteArray, (if b.size ≤ 65536 then frameB b else .empty) = S := ⟨_, rfl⟩
  obtain ⟨c, hc⟩ : ∃ c : Int, (if b.size ≤ 65536 then 0 else 2) = c := ⟨_, rfl⟩
  obtain ⟨k, hk⟩ : ∃ k, crc b.data.toList = k := ⟨_, rfl⟩
  obtain ⟨L, hL⟩ : ∃ L, frames b = L := ⟨_, rfl⟩
  have HF1 : Hid (∀ w : World, Calls Try.prog 7 #[.string b] w fun e w' => e = .returned (.tuple #[.string S, .int .i64 c]) ∧ Below w.heap.size w w') := fun w => hS ▸ hc ▸ fFrame_any b w
  have HF2 : Hid (∀ w : World, Calls Try.prog 8 #[.string b] w fun e w' => e = .returned (.tuple #[.string S, .int .i64 c]) ∧ Below w.heap.size w w') := fun w => hS ▸ hc ▸ rfFrame_any b w hm
  have HS1 : Hid (∀ w : World, Calls Try.prog 9 #[.string b] w fun e w' => e = .returned (.int .u32 (k : Int)) ∧ w' = w) := fun w => hk ▸ fSum_any b w hm
  have HS2 : Hid (∀ w : World, Calls Try.prog 10 #[.string b] w fun e w' => e = .returned (.int .u32 (k : Int)) ∧ w' = w) := fun w => hk ▸ rfSum_any b w hm
  have HU0 : Hid (∃ y s p q, (∀ w : World, Calls Try.prog 11 #[.string b, .int .i64 x] w fun e w' => e = .returned (.tuple #[.string y, .int .i64 s, .agg #[.int .i64 p, .int .i64 q]]) ∧ Below w.heap.size w w') ∧
    ∀ w : World, Calls Try.prog 12 #[.string b, .int .i64 x] w fun e w' => e = .returned (.tuple #[.string y, .int .i64 s, .agg #[.int .i64 p, .int .i64 q]]) ∧ Below w.heap.size w w') :=
    ⟨(found b x).body, (found b x).stop, (found b x).place, (found b x).code, fun w => fUnframe_any b x w (by omega), fun w => rfUnframe_any b x w hm⟩
  obtain ⟨y, s, p, q, hu1, hu2⟩ := HU0.out
  have HU1 : Hid (∀ w : World, Calls Try.prog 11 #[.string b, .int .i64 x] w fun e w' => e = .returned (.tuple #[.string y, .int .i64 s, .agg #[.int .i64 p, .int .i64 q]]) ∧ Below w.heap.size w w') := hu1
  have HU2 : Hid (∀ w : World, Calls Try.prog 12 #[.string b, .int .i64 x] w fun e w' => e = .returned (.tuple #[.string y, .int .i64 s, .agg #[.int .i64 p, .int .i64 q]]) ∧ Below w.heap.size w w') := hu2
  have HL1 : Hid (∀ w : World, Calls Try.prog 13 #[.string b] w fun e w' => ∃ v, e = .returned (.tuple #[v, .int .i64 (L.2 : Int)]) ∧ StrsAt w' v L.1 ∧ Below w.heap.size w w') := fun w => by
    refine (fFrames_any b w hb).mono ?_
    rintro e w' ⟨v, rfl, h1, h2⟩
    rw [hL] at h1 ⊢
    exact ⟨v, rfl, (strs_of_row h1).1, h2⟩
  have HL2 : Hid (∀ w : World, Calls Try.prog 14 #[.string b] w fun e w' => ∃ v, e = .returned (.tuple #[v, .int .i64 (L.2 : Int)]) ∧ StrsAt w' v L.1 ∧ Below w.heap.size w w') := fun w => by
    refine (rfFrames_any b w hb).mono ?_
    rintro e w' ⟨v, rfl, h1, h2⟩
    rw [hL] at h1 ⊢
    exact ⟨v, rfl, (strs_of_row h1).1, h2⟩
  obtain ⟨Ls, Ln⟩ := L
  dsimp only at HL1 HL2
  clear hS hc hk hL HU0 hu1 hu2 hm hb
  go_enter Try.func3, Try.ntmps3
  go_wp2_with (first
    | (go_at_call 7; go_must (refine (HF1.out _).mono ?_; rintro e w1 ⟨rfl, hw1⟩))
    | (go_at_call 8; go_must (refine (HF2.out _).mono ?_; rintro e w2 ⟨rfl, hw2⟩))
    | (go_at_call 9; go_must (refine (HS1.out _).mono ?_; rintro e w3 ⟨rfl, rfl⟩))
    | (go_at_call 10; go_must (refine (HS2.out _).mono ?_; rintro e w4 ⟨rfl, rfl⟩))
    | (go_at_call 11; go_must (refine (HU1.out _).mono ?_; rintro e w5 ⟨rfl, hw5⟩))
    | (go_at_call 12; go_must (refine (HU2.out _).mono ?_; rintro e w6 ⟨rfl, hw6⟩))
    | (go_at_call 13; go_must (refine (HL1.out _).mono ?_)))
  rintro e w7 ⟨v7, rfl, hv7, hw7⟩
  have g5 := keep (over (keep (heap_new w5 (.cells #[.int .i64 p, .int .i64 q] 28)) hw6) (.cells #[.int .i64 p, .int .i64 q] 28)) hw7
  have g6 := keep (heap_new w6 (.cells #[.int .i64 p, .int .i64 q] 28)) hw7
  have HG : Hid (w7.heap[w5.heap.size]? = some (.cells #[.int .i64 p, .int .i64 q] 28 (0, 0)) ∧ w7.heap[w6.heap.size]? = some (.cells #[.int .i64 p, .int .i64 q] 28 (0, 0))) := ⟨g5, g6⟩
  have HV7 : Hid (StrsAt w7 v7 Ls) := hv7
  have HB7 : Hid (Below w.heap.size w w7) := (by
    have b2 := hw1.trans (hw2.mono hw1.size)
    have b3 := b2.trans (hw5.mono b2.size)
    have b4 := b3.alloc b3.size (.cells #[.int .i64 p, .int .i64 q] 28)
    have b5 := b4.trans (hw6.mono b4.size)
    have b6 := b5.alloc b5.size (.cells #[.int .i64 p, .int .i64 q] 28)
    exact b6.trans (hw7.mono b6.size) : Below _ _ _)
  clear g5 g6 hv7 hw7 hw6 hw5 hw2 hw1
  go_wp2_with (go_at_call 14; go_must (refine (HL2.out _).mono ?_))
  rintro e w8 ⟨v8, rfl, hv8, hw8⟩
  have HT : Hid (Calls Try.prog 15 #[v7, v8] w8 fun e w' => e = .returned (.bool true) ∧ ∃ n, w' = w8.drewN n) := sameTexts_true v7 v8 Ls w8 (HV7.out.below hw8) hv8
  have g5 := keep HG.out.1 hw8
  have g6 := keep HG.out.2 hw8
  have q0 : w8.cell? ⟨w5.heap.size, 0, none⟩ = some (.int .i64 p) := cell_of g5 0
  have q1 : w8.cell? ⟨w5.heap.size, 1, none⟩ = some (.int .i64 q) := cell_of g5 1
  have q2 : w8.cell? ⟨w6.heap.size, 0, none⟩ = some (.int .i64 p) := cell_of g6 0
  have q3 : w8.cell? ⟨w6.heap.size, 1, none⟩ = some (.int .i64 q) := cell_of g6 1
  have HB8 : Hid (Below w.heap.size w w8) := HB7.out.trans (hw8.mono HB7.out.size)
  clear g5 g6 hv8 hw8 HG
  go_wp2_with (first
    | (go_at_call 15; go_must (refine HT.out.mono ?_; rintro e w9 ⟨rfl, m, rfl⟩))
    | (go_at_call 16; go_must (refine (works6_any _).mono ?_; rintro e w10 ⟨rfl, hw10⟩)))
  go_ret
  have b9 := below_draws HB8.out m
  exact ⟨rfl, b9.trans (hw10.mono b9.size)⟩

end Go.Proofs.Ythiihilifckapaa.Bytes
