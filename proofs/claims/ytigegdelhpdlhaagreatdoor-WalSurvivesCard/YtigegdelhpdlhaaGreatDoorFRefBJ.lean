import Derived.Test.YtigegdelhpdlhaaGreatDoorJDiskJ
import Derived.BigRegion
import Derived.OwnWalk
import Derived.Handy
import Derived.Deep.QuietTactic
/- The document's four bytes of a number, and back. -/
namespace Go.Proofs.YtigegdelhpdlhaaGreatDoor
open Go.RowKit

def le4 (n : Nat) : List UInt8 := [UInt8.ofNat (n % 256), UInt8.ofNat (n / 256 % 256), UInt8.ofNat (n / 65536 % 256), UInt8.ofNat (n / 16777216)]

def bytesOf (l : List UInt8) : ByteArray := ⟨l.toArray⟩

theorem convert4 (w : World) (a b c d : Int) :
    (convert 54 9 (.slice (some ⟨w.heap.size, 0, none⟩) 4 4)).run Tryz.prog (w.alloc (.cells #[.int .u8 a, .int .u8 b, .int .u8 c, .int .u8 d] 5)) =
      .ok (.string (strOfNums [a, b, c, d])) (w.alloc (.cells #[.int .u8 a, .int .u8 b, .int .u8 c, .int .u8 d] 5)) := by
  refine run_convert_bytes_arg (P := Tryz.prog) _ 54 5 Tryz.underlying54 Tryz.underlying5 w.heap.size 0 4 4 [a, b, c, d] rfl ?_ 9 Tryz.underlying9
  intro i hi
  rw [Nat.zero_add]
  rcases i with _ | _ | _ | _ | i
  · simp [go_sem]
  · simp [go_sem]
  · simp [go_sem]
  · simp [go_sem]
  · omega

theorem le4_nums (n : Nat) : strOfNums [(n : Int) % 256, (n : Int) / 256 % 256, (n : Int) / 65536 % 256, (n : Int) / 16777216] = bytesOf (le4 n) := by
  have e1 : (n : Int) % 256 = ((n % 256 : Nat) : Int) := by omega
  have e2 : (n : Int) / 256 % 256 = ((n / 256 % 256 : Nat) : Int) := by omega
  have e3 : (n : Int) / 65536 % 256 = ((n / 65536 % 256 : Nat) : Int) := by omega
  have e4 : (n : Int) / 16777216 = ((n / 16777216 : Nat) : Int) := by omega
  rw [e1, e2, e3, e4]
  rfl

/-- four bytes as a number -/
def un4 : List UInt8 → Nat
  | a :: b :: c :: d :: _ => a.toNat + b.toNat * 256 + c.toNat * 65536 + d.toNat * 16777216
  | _ => 0

theorem un4_at (b : ByteArray) (hb : b.size = 4) : un4 b.data.toList = (b[0]'(by omega)).toNat + (b[1]'(by omega)).toNat * 256 + (b[2]'(by omega)).toNat * 65536 + (b[3]'(by omega)).toNat * 16777216 := by
  obtain ⟨⟨l⟩⟩ := b
  have hl : l.length = 4 := hb
  match l, hl with
  | [p, q, r, t], _ => rfl

end Go.Proofs.YtigegdelhpdlhaaGreatDoor

/- The document's frame of bytes, and its fault. -/
namespace Go.Proofs.YtigegdelhpdlhaaGreatDoor
open Go.RowKit

/-- a length ahead, a sum behind -/
def headB (b : ByteArray) : ByteArray := bytesOf (le4 b.size) ++ b
def frameB (b : ByteArray) : ByteArray := headB b ++ bytesOf (le4 (crc (headB b).data.toList))

theorem le4_size (n : Nat) : (bytesOf (le4 n)).size = 4 := rfl
theorem headB_size (b : ByteArray) : (headB b).size = 4 + b.size := by rw [headB, ByteArray.size_append, le4_size]

end Go.Proofs.YtigegdelhpdlhaaGreatDoor

/- The document's look for a frame at a place. -/
namespace Go.Proofs.YtigegdelhpdlhaaGreatDoor
open Go.RowKit

/-- what stands at a place: the bytes, the place behind, the fault's place and number -/
structure Found where
  body : ByteArray
  stop : Int
  place : Int
  code : Int

def lenAt (b : ByteArray) (a : Nat) : Nat := un4 (b.extract a (a + 4)).data.toList
def sumAt (b : ByteArray) (a n : Nat) : Nat := crc (b.extract a (a + 4 + n)).data.toList
def wasAt (b : ByteArray) (a n : Nat) : Nat := un4 (b.extract (a + 4 + n) (a + 8 + n)).data.toList

def found (b : ByteArray) (x : Int) : Found :=
  if x < 0 ∨ (b.size : Int) < x then ⟨.empty, 0, 0, 1⟩
  else if b.size < x.toNat + 4 then ⟨.empty, 0, x, 61⟩
  else if 65536 < lenAt b x.toNat then ⟨.empty, 0, x, 2⟩
  else if b.size < x.toNat + 8 + lenAt b x.toNat then ⟨.empty, 0, x, 61⟩
  else if sumAt b x.toNat (lenAt b x.toNat) ≠ wasAt b x.toNat (lenAt b x.toNat) then ⟨.empty, 0, x, 60⟩
  else ⟨b.extract (x.toNat + 4) (x.toNat + 4 + lenAt b x.toNat), x + 8 + lenAt b x.toNat, 0, 0⟩

def Found.en (f : Found) : Value := .tuple #[.string f.body, .int .i64 f.stop, .agg #[.int .i64 f.place, .int .i64 f.code]]

theorem un4_lt : ∀ l, un4 l < 4294967296
  | [] => by decide
  | [_] => Nat.zero_lt_succ _
  | [_, _] => Nat.zero_lt_succ _
  | [_, _, _] => Nat.zero_lt_succ _
  | a :: b :: c :: d :: _ => by
    have h1 := a.toNat_lt
    have h2 := b.toNat_lt
    have h3 := c.toNat_lt
    have h4 := d.toNat_lt
    show a.toNat + b.toNat * 256 + c.toNat * 65536 + d.toNat * 16777216 < 4294967296
    omega

theorem below_draws {B : Nat} {a w : World} (h : Below B a w) (n : Nat) : Below B a (w.drewN n) := h.trans ⟨rfl, rfl, rfl, Nat.le_refl _, fun _ _ => rfl⟩

theorem quiet_more {P : Program} {f : FuncId} {args : Array Value} {w : World} {m x : Nat} {v : Value}
    (h : Calls P f args (w.drewN (m + x)) fun e w' => e = .returned v ∧ ∃ k, w' = (w.drewN (m + x)).drewN k) : Calls P f args (w.drewN (m + x)) fun e w'' => e = .returned v ∧ ∃ n, w'' = w.drewN (m + n) :=
  h.mono fun _ _ ⟨he, k, hk⟩ => ⟨he, x + k, by rw [hk, World.drewN_drewN, Nat.add_assoc]⟩

theorem quiet_more_same {P : Program} {f : FuncId} {args : Array Value} {w : World} {m x : Nat} {v : Value}
    (h : Calls P f args (w.drewN (m + x)) fun e w' => e = .returned v ∧ w' = w.drewN (m + x)) : Calls P f args (w.drewN (m + x)) fun e w'' => e = .returned v ∧ ∃ n, w'' = w.drewN (m + n) :=
  h.mono fun _ _ ⟨he, hk⟩ => ⟨he, x, hk⟩

end Go.Proofs.YtigegdelhpdlhaaGreatDoor
