/- The document's four bytes of a number, and back. -/
import Derived.Test.YthiihilifckapaaFRef
import Derived.BigRegion
import Derived.OwnWalk
namespace Go.Proofs.Ythiihilifckapaa
open Go.RowKit

def le4 (n : Nat) : List UInt8 := [UInt8.ofNat (n % 256), UInt8.ofNat (n / 256 % 256), UInt8.ofNat (n / 65536 % 256), UInt8.ofNat (n / 16777216)]

def bytesOf (l : List UInt8) : ByteArray := ⟨l.toArray⟩

theorem convert4 (w : World) (a b c d : Int) :
    (convert 39 9 (.slice (some ⟨w.heap.size, 0, none⟩) 4 4)).run Try.prog (w.alloc (.cells #[.int .u8 a, .int .u8 b, .int .u8 c, .int .u8 d] 5)) =
      .ok (.string (strOfNums [a, b, c, d])) (w.alloc (.cells #[.int .u8 a, .int .u8 b, .int .u8 c, .int .u8 d] 5)) := by
  refine run_convert_bytes_arg (P := Try.prog) _ 39 5 Try.underlying39 Try.underlying5 w.heap.size 0 4 4 [a, b, c, d] rfl ?_ 9 Try.underlying9
  intro i hi
  rw [Nat.zero_add]
  rcases i with _ | _ | _ | _ | i
  · simp [go_sem]
  · simp [go_sem]
  · simp [go_sem]
  · simp [go_sem]
  · omega

theorem le4_nums (n : Nat) : strOfNums [(n : Int) % 256, (n : Int) / 256 % 256, (n : Int) / 65536 % 256, (n : Int) / 16777216] = bytesOf (le4 n) := by
  have e1 : (n : Int) % 256 = ((n % 256 : Nat) : Int) := by omega
  have e2 : (n : Int) / 256 % 256 = ((n / 256 % 256 : Nat) : Int) := by omega
  have e3 : (n : Int) / 65536 % 256 = ((n / 65536 % 256 : Nat) : Int) := by omega
  have e4 : (n : Int) / 16777216 = ((n / 16777216 : Nat) : Int) := by omega
  rw [e1, e2, e3, e4]
  rfl

set_option maxHeartbeats 400000 in
theorem rffour_any (n : Nat) (w : World) (hn : n < 4294967296) :
    Calls Try.prog 23 #[.int .u32 (n : Int)] w fun e w' => e = .returned (.string (bytesOf (le4 n))) ∧ Below w.heap.size w w' := by
  have kc := convert4
  have HN : Hid (strOfNums [(n : Int) % 256, (n : Int) / 256 % 256, (n : Int) / 65536 % 256, (n : Int) / 16777216] = bytesOf (le4 n)) := le4_nums n
  go_enter Try.func23, Try.ntmps23
  go_wp2
  go_ret
  exact ⟨congrArg (fun x => Ending.returned (Value.string x)) HN.out, (Below.refl _ _).alloc (Nat.le_refl _) _⟩

/-- four bytes as a number -/
def un4 : List UInt8 → Nat
  | a :: b :: c :: d :: _ => a.toNat + b.toNat * 256 + c.toNat * 65536 + d.toNat * 16777216
  | _ => 0

theorem un4_at (b : ByteArray) (hb : b.size = 4) : un4 b.data.toList = (b[0]'(by omega)).toNat + (b[1]'(by omega)).toNat * 256 + (b[2]'(by omega)).toNat * 65536 + (b[3]'(by omega)).toNat * 16777216 := by
  obtain ⟨⟨l⟩⟩ := b
  have hl : l.length = 4 := hb
  match l, hl with
  | [p, q, r, t], _ => rfl

set_option maxHeartbeats 400000 in
theorem rfunfour_any (b : ByteArray) (w : World) (hb : b.size = 4) :
    Calls Try.prog 22 #[.string b] w fun e w' => e = .returned (.int .u32 ((un4 b.data.toList : Nat) : Int)) ∧ ∃ m, w' = w.drewN m := by
  have h0 : 0 < b.size := by omega
  have h1 : 1 < b.size := by omega
  have h2 : 2 < b.size := by omega
  have h3 : 3 < b.size := by omega
  go_enter Try.func22, Try.ntmps22
  go_wp2
  go_quiet (fail)
  go_wp2
  go_ret
  refine ⟨?_, _, rfl⟩
  have e : un4 b.data.toList = b[0].toNat + b[1].toNat * 256 + b[2].toNat * 65536 + b[3].toNat * 16777216 := un4_at b hb
  have a0 := b[0].toNat_lt
  have a1 := b[1].toNat_lt
  have a2 := b[2].toNat_lt
  have a3 := b[3].toNat_lt
  show Ending.returned (Value.int .u32 _) = _
  rw [e]
  congr 2
  omega

end Go.Proofs.Ythiihilifckapaa
