/- What layer 7's texts stand on: strings, their bytes, rows of strings. -/
import Derived.Test.YtddbacphlbaohaaVPure
import Derived.Test.YtddbacphlbaohaaProg
import Derived.WalkKit
import Derived.WalkSpells
import Derived.WalkLawsBesides
import Derived.Laws.BitsAllLaws
import Derived.BigRegion
import Derived.OwnWalk
import Derived.Handy
import Derived.Deep.QuietTactic
import Derived.Deep.DeepMust
import Derived.Sort.EncStr
namespace Go.Proofs.Ytddbacphlbaohaa
open Go.RowKit

def bytesOf (l : List UInt8) : ByteArray := ⟨l.toArray⟩

theorem bytesOf_self (b : ByteArray) : bytesOf b.data.toList = b := by cases b; rfl
theorem bytesOf_list (l : List UInt8) : (bytesOf l).data.toList = l := rfl
theorem bytesOf_size (l : List UInt8) : (bytesOf l).size = l.length := rfl

theorem app_list (a b : ByteArray) : (a ++ b).data.toList = a.data.toList ++ b.data.toList := by
  rw [ByteArray.data_append, Array.toList_append]

theorem app_of (l : List UInt8) (b : ByteArray) : bytesOf l ++ b = bytesOf (l ++ b.data.toList) := by
  apply ByteArray.ext
  apply Array.ext'
  rw [app_list]
  rfl

theorem extract_list (b : ByteArray) (i j : Nat) : (b.extract i j).data.toList = (b.data.toList.take j).drop i := by
  rw [ByteArray.data_extract, Array.toList_extract, List.extract_eq_take_drop]
  rw [List.drop_take]

theorem take_all (b : ByteArray) : b.data.toList.take b.size = b.data.toList := List.take_of_length_le (Nat.le_refl _)

theorem ext_of (b : ByteArray) (i j : Nat) (l : List UInt8) (h : (b.data.toList.take j).drop i = l) : b.extract i j = bytesOf l := by
  apply ByteArray.ext
  apply Array.ext'
  rw [extract_list, h]
  rfl

theorem infoStr : (Try.prog.info? 9).map (fun i => (i.zero, i.size, i.bytes)) = some (some (.string ByteArray.empty), 1, 16) := by kernel_rfl

theorem infoStr_parts : ∃ i, Try.prog.info? 9 = some i ∧ i.zero = some (.string ByteArray.empty) ∧ i.size = 1 ∧ i.bytes = 16 := by
  have h := infoStr
  cases hq : Try.prog.info? 9 with
  | none => rw [hq] at h; cases h
  | some i =>
    rw [hq] at h
    simp only [Option.map_some, Option.some.injEq, Prod.mk.injEq] at h
    exact ⟨i, rfl, h.1, h.2.1, h.2.2⟩

theorem enc_self (x : ByteArray) : Go.Proofs.encStr x.data.toList = .string x := by cases x; rfl

theorem row_kept {w w' : World} {base : Nat} {e : TypeId} {size : Nat} {v : Value} {n : Nat} {xs : List Value} (h : w.ownsRow base e size v n xs) (hb : Below w.heap.size w w') : w'.ownsRow base e size v n xs :=
  ownsRow_block h fun g hg => hb.block g (h.lt g hg).2

theorem below_draws {B : Nat} {a w : World} (h : Below B a w) (n : Nat) : Below B a (w.drewN n) := h.trans ⟨rfl, rfl, rfl, Nat.le_refl _, fun _ _ => rfl⟩

theorem keep {w w' : World} {g : Nat} {o : Obj} (h : w.heap[g]? = some o) (hb : Below w.heap.size w w') : w'.heap[g]? = some o := (hb.block g (lt_of h)).trans h
theorem over {w : World} {g : Nat} {o : Obj} (h : w.heap[g]? = some o) (o' : Obj) : (w.alloc o').heap[g]? = some o := (Below.heap_alloc w o' g (lt_of h)).trans h

end Go.Proofs.Ytddbacphlbaohaa
