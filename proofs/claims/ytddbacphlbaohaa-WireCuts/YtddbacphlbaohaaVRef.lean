/- The document's packets and readers. -/
import Derived.Test.YtddbacphlbaohaaVTexts
namespace Go.Proofs.Ytddbacphlbaohaa
open Go.RowKit

theorem convert4 (w : World) (a b c d : Int) :
    (convert 43 9 (.slice (some ⟨w.heap.size, 0, none⟩) 4 4)).run Try.prog (w.alloc (.cells #[.int .u8 a, .int .u8 b, .int .u8 c, .int .u8 d] 5)) =
      .ok (.string (strOfNums [a, b, c, d])) (w.alloc (.cells #[.int .u8 a, .int .u8 b, .int .u8 c, .int .u8 d] 5)) := by
  refine run_convert_bytes_arg (P := Try.prog) _ 43 5 Try.underlying43 Try.underlying5 w.heap.size 0 4 4 [a, b, c, d] rfl ?_ 9 Try.underlying9
  intro i hi
  rw [Nat.zero_add]
  rcases i with _ | _ | _ | _ | i
  · simp [go_sem]
  · simp [go_sem]
  · simp [go_sem]
  · simp [go_sem]
  · omega

theorem pk4_nums (n : Nat) : strOfNums [(n : Int) / 16777216, (n : Int) / 65536 % 256, (n : Int) / 256 % 256, (n : Int) % 256] = bytesOf (pk4 n) := by
  have e1 : (n : Int) % 256 = ((n % 256 : Nat) : Int) := by omega
  have e2 : (n : Int) / 256 % 256 = ((n / 256 % 256 : Nat) : Int) := by omega
  have e3 : (n : Int) / 65536 % 256 = ((n / 65536 % 256 : Nat) : Int) := by omega
  have e4 : (n : Int) / 16777216 = ((n / 16777216 : Nat) : Int) := by omega
  rw [e1, e2, e3, e4]
  rfl

set_option maxHeartbeats 400000 in
theorem rvOf_any (b : ByteArray) (w : World) (hb : b.size ≤ 65536) :
    Calls Try.prog 20 #[.string b] w fun e w' => e = .returned (.string (bytesOf (packet b.data.toList))) ∧ Below w.heap.size w w' := by
  obtain ⟨n, hn⟩ : ∃ n, b.size = n := ⟨_, rfl⟩
  obtain ⟨P, hP⟩ : ∃ P, strOfNums [(n : Int) / 16777216, (n : Int) / 65536 % 256, (n : Int) / 256 % 256, (n : Int) % 256] = P := ⟨_, rfl⟩
  have hPs : P.size = 4 := by rw [← hP, pk4_nums]; rfl
  have HN : Hid (P ++ b = bytesOf (packet b.data.toList)) := (by
    rw [← hP, pk4_nums, app_of, ← hn]
    rfl : _ = _)
  have hc := convert4 w ((n : Int) / 16777216) ((n : Int) / 65536 % 256) ((n : Int) / 256 % 256) ((n : Int) % 256)
  rw [hP] at hc
  clear hP
  go_enter Try.func20, Try.ntmps20
  go_wp2
  go_ret
  exact ⟨congrArg (fun x => Ending.returned (Value.string x)) HN.out, (Below.refl _ _).alloc (Nat.le_refl _) _⟩

/-- the packet of bytes, or none -/
def packS (b : ByteArray) : ByteArray := if b.size ≤ 65536 then bytesOf (packet b.data.toList) else .empty
def packE (b : ByteArray) : Int := if b.size ≤ 65536 then 0 else 2

set_option maxHeartbeats 400000 in
theorem rvPacket_any (b : ByteArray) (w : World) :
    Calls Try.prog 15 #[.string b] w fun e w' => e = .returned (.tuple #[.string (packS b), .int .i64 (packE b)]) ∧ Below w.heap.size w w' := by
  by_cases h : b.size ≤ 65536
  · have HF : Hid (∀ w : World, Calls Try.prog 20 #[.string b] w fun e w' => e = .returned (.string (bytesOf (packet b.data.toList))) ∧ Below w.heap.size w w') := fun w => rvOf_any b w h
    rw [packS, packE, if_pos h, if_pos h]
    have h' : ¬ ((65536 : Int) < b.size) := by omega
    obtain ⟨S, hS⟩ : ∃ S, bytesOf (packet b.data.toList) = S := ⟨_, rfl⟩
    rw [hS] at HF ⊢
    go_enter Try.func15, Try.ntmps15
    go_wp2_with (go_at_call 20; go_must (refine (HF.out _).mono ?_; rintro e w1 ⟨rfl, hw1⟩))
    go_ret2
    exact ⟨rfl, hw1⟩
  · have h2 : (65536 : Int) < b.size := by omega
    rw [packS, packE, if_neg h, if_neg h]
    go_enter Try.func15, Try.ntmps15
    go_wp2
    go_ret2
    exact ⟨rfl, Below.refl _ _⟩

/-- a reader of the document's, where it lies -/
def RvAt (w : World) (g : Nat) (r : Rd) : Prop := w.heap[g]? = some (.cells #[.string (bytesOf r.kept), .bool r.ill] 33 (0, 0))

set_option maxHeartbeats 400000 in
theorem rvNew_any (w : World) : Calls Try.prog 8 #[] w fun e w' => e = .returned (.pointer (some ⟨w.heap.size, 0, none⟩)) ∧ RvAt w' w.heap.size ⟨[], false⟩ ∧ Below w.heap.size w w' := by
  go_enter Try.func8, Try.ntmps8
  go_wp2
  go_ret
  exact ⟨rfl, heap_new w _, (Below.refl _ _).alloc (Nat.le_refl _) _⟩

theorem be4_at (b : ByteArray) (a : Nat) (h : a + 4 ≤ b.size) : be4 (b.data.toList.drop a) = (b[a]'(by omega)).toNat * 16777216 + (b[a + 1]'(by omega)).toNat * 65536 + (b[a + 2]'(by omega)).toNat * 256 + (b[a + 3]'(by omega)).toNat := by
  have hl : b.data.toList.length = b.size := rfl
  rw [List.drop_eq_getElem_cons (by omega), List.drop_eq_getElem_cons (by omega), List.drop_eq_getElem_cons (by omega), List.drop_eq_getElem_cons (by omega)]
  rfl

end Go.Proofs.Ytddbacphlbaohaa
