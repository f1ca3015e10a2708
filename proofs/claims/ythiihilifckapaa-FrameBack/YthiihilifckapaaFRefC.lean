/- The document's frame of bytes, and its fault. -/
import Derived.Test.YthiihilifckapaaFRefB
namespace Go.Proofs.Ythiihilifckapaa
open Go.RowKit

/-- a length ahead, a sum behind -/
def headB (b : ByteArray) : ByteArray := bytesOf (le4 b.size) ++ b
def frameB (b : ByteArray) : ByteArray := headB b ++ bytesOf (le4 (crc (headB b).data.toList))

theorem le4_size (n : Nat) : (bytesOf (le4 n)).size = 4 := rfl
theorem headB_size (b : ByteArray) : (headB b).size = 4 + b.size := by rw [headB, ByteArray.size_append, le4_size]

set_option maxHeartbeats 400000 in
theorem rfOf_any (b : ByteArray) (w : World) (hb : b.size ≤ 65536) :
    Calls Try.prog 18 #[.string b] w fun e w' => e = .returned (.string (frameB b)) ∧ Below w.heap.size w w' := by
  have hs := headB_size b
  have hm : (headB b).size ≤ maxLen := by unfold maxLen; omega
  have HH : Hid (bytesOf (le4 b.size) ++ b = headB b) := rfl
  have HF : Hid (headB b ++ bytesOf (le4 (crc (headB b).data.toList)) = frameB b) := rfl
  have h4 := le4_size
  have hx : ((b.size : Nat) : Int) % 4294967296 = b.size := by omega
  have HM : Hid ((headB b).size ≤ maxLen) := hm
  clear hm
  go_enter Try.func18, Try.ntmps18
  go_wp2_with (go_at_call 23; refine (rffour_any b.size _ (by omega)).mono ?_; rintro e w1 ⟨rfl, hw1⟩)
  rw [HH.out]
  go_wp2_with (first
    | (go_at_call 10; refine (rfSum_any (headB b) _ HM.out).mono ?_; rintro e w2 ⟨rfl, rfl⟩)
    | (go_at_call 23; refine (rffour_any (crc (headB b).data.toList) _ (crc_lt _)).mono ?_; rintro e w3 ⟨rfl, hw3⟩))
  go_ret
  exact ⟨congrArg (fun x => Ending.returned (Value.string x)) HF.out, hw1.trans (hw3.mono hw1.size)⟩

set_option maxHeartbeats 400000 in
theorem rfFrame_any (b : ByteArray) (w : World) (hb : b.size ≤ maxLen) :
    Calls Try.prog 8 #[.string b] w fun e w' => e = .returned (.tuple #[.string (if b.size ≤ 65536 then frameB b else .empty), .int .i64 (if b.size ≤ 65536 then 0 else 2)]) ∧ Below w.heap.size w w' := by
  unfold maxLen at hb
  by_cases h : b.size ≤ 65536
  · have HF : Hid (∀ w : World, Calls Try.prog 18 #[.string b] w fun e w' => e = .returned (.string (frameB b)) ∧ Below w.heap.size w w') := fun w => rfOf_any b w h
    rw [if_pos h, if_pos h]
    go_enter Try.func8, Try.ntmps8
    go_wp2_with (go_at_call 18; refine (HF.out _).mono ?_; rintro e w1 ⟨rfl, hw1⟩)
    go_ret2
    exact ⟨rfl, hw1⟩
  · have h2 : (65536 : Int) < b.size := by omega
    rw [if_neg h, if_neg h]
    go_enter Try.func8, Try.ntmps8
    go_wp2
    go_ret2
    exact ⟨rfl, Below.refl _ _⟩

set_option maxHeartbeats 400000 in
theorem rffault_any (a e : Int) (w : World) :
    Calls Try.prog 21 #[.int .i64 a, .int .i64 e] w fun r w' => r = .returned (.agg #[.int .i64 a, .int .i64 e]) ∧ w' = w.alloc (.cells #[.int .i64 a, .int .i64 e] 28) := by
  go_enter Try.func21, Try.ntmps21
  go_wp2
  refine bodyPost_ret (by simp [results, Try.results21, go_sem]; rfl) rfl ?_
  exact ⟨rfl, rfl⟩

end Go.Proofs.Ythiihilifckapaa
