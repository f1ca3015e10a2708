import Derived.Test.YtigegdelhpdlhaaGreatDoorJDiskJ
import Derived.Test.YtigegdelhpdlhaaGreatDoorProg
import Derived.WalkKit
import Derived.WalkSpells
import Derived.WalkLawsBesides
import Derived.Laws.BitsAllLaws
import Derived.BigRegion
import Derived.OwnWalk
/- The document's sum of bytes is the plain one. -/
namespace Go.Proofs.YtigegdelhpdlhaaGreatDoor
open Go.RowKit

theorem crcBits_succ : ∀ (n s : Nat), crcBits (n + 1) s = crcBit (crcBits n s)
  | 0, _ => rfl
  | n + 1, s => by rw [show crcBits (n + 1 + 1) s = crcBits (n + 1) (crcBit s) from rfl, crcBits_succ n]; rfl

theorem crcOn_take (b : ByteArray) (s j : Nat) (hj : j < b.size) : crcOn s (b.data.toList.take (j + 1)) = crcBits 8 (crcOn s (b.data.toList.take j) ^^^ b[j].toNat) := by
  rw [List.take_succ_eq_append_getElem (by simpa using hj), crcOn_append, crcOn_cons, crcOn_nil]
  rfl

theorem crcBit_odd {s : Nat} (h : s % 2 = 1) : crcBit s = (s / 2) ^^^ 3988292384 := by unfold crcBit; rw [if_pos h]
theorem crcBit_even {s : Nat} (h : s % 2 = 0) : crcBit s = s / 2 := by unfold crcBit; rw [if_neg (by omega)]

end Go.Proofs.YtigegdelhpdlhaaGreatDoor

/- The document's four bytes of a number, and back. -/
namespace Go.Proofs.YtigegdelhpdlhaaGreatDoor
open Go.RowKit

def le4 (n : Nat) : List UInt8 := [UInt8.ofNat (n % 256), UInt8.ofNat (n / 256 % 256), UInt8.ofNat (n / 65536 % 256), UInt8.ofNat (n / 16777216)]

def bytesOf (l : List UInt8) : ByteArray := ⟨l.toArray⟩

theorem convert4 (w : World) (a b c d : Int) :
    (convert 54 9 (.slice (some ⟨w.heap.size, 0, none⟩) 4 4)).run Tryz.prog (w.alloc (.cells #[.int .u8 a, .int .u8 b, .int .u8 c, .int .u8 d] 5)) =
      .ok (.string (strOfNums [a, b, c, d])) (w.alloc (.cells #[.int .u8 a, .int .u8 b, .int .u8 c, .int .u8 d] 5)) := by
  refine run_convert_bytes_arg (P := Tryz.prog) _ 54 5 Tryz.underlying54 Tryz.underlying5 w.heap.size 0 4 4 [a, b, c, d] rfl ?_ 9 Tryz.underlying9
  intro i hi
  rw [Nat.zero_add]
  rcases i with _ | _ | _ | _ | i
  · simp [go_sem]
  · simp [go_sem]
  · simp [go_sem]
  · simp [go_sem]
  · omega

theorem le4_nums (n : Nat) : strOfNums [(n : Int) % 256, (n : Int) / 256 % 256, (n : Int) / 65536 % 256, (n : Int) / 16777216] = bytesOf (le4 n) := by
  have e1 : (n : Int) % 256 = ((n % 256 : Nat) : Int) := by omega
  have e2 : (n : Int) / 256 % 256 = ((n / 256 % 256 : Nat) : Int) := by omega
  have e3 : (n : Int) / 65536 % 256 = ((n / 65536 % 256 : Nat) : Int) := by omega
  have e4 : (n : Int) / 16777216 = ((n / 16777216 : Nat) : Int) := by omega
  rw [e1, e2, e3, e4]
  rfl

/-- four bytes as a number -/
def un4 : List UInt8 → Nat
  | a :: b :: c :: d :: _ => a.toNat + b.toNat * 256 + c.toNat * 65536 + d.toNat * 16777216
  | _ => 0

theorem un4_at (b : ByteArray) (hb : b.size = 4) : un4 b.data.toList = (b[0]'(by omega)).toNat + (b[1]'(by omega)).toNat * 256 + (b[2]'(by omega)).toNat * 65536 + (b[3]'(by omega)).toNat * 16777216 := by
  obtain ⟨⟨l⟩⟩ := b
  have hl : l.length = 4 := hb
  match l, hl with
  | [p, q, r, t], _ => rfl

end Go.Proofs.YtigegdelhpdlhaaGreatDoor
