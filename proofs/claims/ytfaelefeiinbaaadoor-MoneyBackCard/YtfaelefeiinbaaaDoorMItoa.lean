/- strconv.Itoa and strconv.Atoi, as the library's shelf has them, at this program. -/
import Derived.Test.YtfaelefeiinbaaaDoorLay
import Derived.Test.YtfaelefeiinbaaaDoorMShareD
import Derived.Lib.SmallJoins
import Derived.Lib.AppendIntMem
namespace Go.Proofs.YtfaelefeiinbaaaDoor
open Go.RowKit MP

/-- the table that Itoa reads -/
abbrev Tab (w : World) : Prop := Lib.TabIs Tryd.prog w "internal/strconv.uint64pow10" .u64 Lib.pow10Tab
theorem itoa_small (i : Nat) (hi : i < 100) (w : World) : Calls Tryd.prog 27 #[.int .i64 (i : Int)] w fun e w' => e = .returned (.string ⟨(Lib.decDigits i).toArray⟩) ∧ w' = w :=
  Any.strconv_Itoa_small Tryd.laysItoaSmall i hi w
theorem itoa_any (n : Nat) (hn : n < 9223372036854775808) (w : World) (ht : Tab w) : Calls Tryd.prog 27 #[.int .i64 (n : Int)] w fun e w' => e = .returned (.string ⟨(Lib.decDigits n).toArray⟩) ∧ Below w.heap.size w w' := by
  refine (Any.strconv_Itoa Tryd.laysItoa (n : Int) (by omega) (by omega) w ht).mono fun e w' h => ?_
  obtain ⟨h1, k, os, rfl⟩ := h
  refine ⟨?_, Lib.below_grow _ w (Nat.le_refl _) k os⟩
  rw [h1]
  unfold Lib.itoa
  rw [if_neg (by omega), Int.toNat_natCast]
end Go.Proofs.YtfaelefeiinbaaaDoor
