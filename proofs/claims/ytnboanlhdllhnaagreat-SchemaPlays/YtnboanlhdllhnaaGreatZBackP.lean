/- What the laws of bytes need of Decode: its three answers, one by one; faults compared. -/
import Derived.Test.YtnboanlhdllhnaaGreatZDecJ
import Derived.Test.YtnboanlhdllhnaaGreatZSame
import Derived.Test.YtnboanlhdllhnaaGreatZFind
namespace Go.Proofs.YtnboanlhdllhnaaGreat
open Go.RowKit

theorem decode_long {b : List UInt8} (w : World) (h : 262144 < b.length) : Calls Tryz.prog 20 #[.string (bytesOf b)] w fun e w' => e = .returned (.tuple #[.pointer none, .agg #[.int .i64 0, .int .i64 2]]) ∧ Hid (Below w.heap.size w w') :=
  (decode_any b w).mono fun e w' hd => by
    rcases hd with ⟨_, h1, h2⟩ | ⟨h1, _⟩ | ⟨h1, _⟩
    · exact ⟨h1, h2⟩
    · omega
    · omega
theorem decode_bad {b : List UInt8} (w : World) (h : b.length ≤ 262144) (hn : ∀ L, ¬ Good b L) : Calls Tryz.prog 20 #[.string (bytesOf b)] w fun e w' => e = .returned (.tuple #[.pointer none, .agg #[.int .i64 0, .int .i64 3]]) ∧ Hid (Below w.heap.size w w') :=
  (decode_any b w).mono fun e w' hd => by
    rcases hd with ⟨h1, _⟩ | ⟨_, _, h1, h2⟩ | ⟨_, L, c, hg, _⟩
    · omega
    · exact ⟨h1, h2⟩
    · exact absurd hg (hn L)
theorem decode_good {b : List UInt8} {L : Cat} (w : World) (h : b.length ≤ 262144) (hg : Good b L) : Calls Tryz.prog 20 #[.string (bytesOf b)] w fun e w' => ∃ c, e = .returned (.tuple #[.pointer (some ⟨c, 0, none⟩), .agg #[.int .i64 0, .int .i64 0]]) ∧ Hid (∃ F, CatI c L w' F ∧ (∀ i, F i → w.heap.size ≤ i) ∧ Below w.heap.size w w') :=
  (decode_any b w).mono fun e w' hd => by
    rcases hd with ⟨h1, _⟩ | ⟨_, hn, _⟩ | ⟨_, L', c, hg', h1, h2⟩
    · omega
    · exact absurd hg (hn L)
    · rw [hg.unique hg']; exact ⟨c, h1, h2⟩

theorem eqFlt (x : Int) (W : World) : (Op.equalIn 10000 48 (.agg #[.int .i64 0, .int .i64 x]) (.agg #[.int .i64 0, .int .i64 0])).run Tryz.prog W = .ok (x == 0) W := by
  have h0 : ∀ (y : Int) (W : World), (_root_.Go.part 3 #[.int .i64 0, .int .i64 y] 0).run Tryz.prog W = .ok (.int .i64 0) W := fun y W => by kernel_rfl
  have h1 : ∀ (y : Int) (W : World), (_root_.Go.part 37 #[.int .i64 0, .int .i64 y] 1).run Tryz.prog W = .ok (.int .i64 y) W := fun y W => by kernel_rfl
  have hi : ∀ W : World, (Op.equalIn 9999 3 (.int .i64 0) (.int .i64 0)).run Tryz.prog W = .ok ((0 : Int) == 0) W := fun W => run_equalIn_int (P := Tryz.prog) W 9998 3 .i64 .i64 0 0 Tryz.underlying3
  have he : ∀ W : World, (Op.equalIn 9999 37 (.int .i64 x) (.int .i64 0)).run Tryz.prog W = .ok (x == 0) W := fun W => run_equalIn_int (P := Tryz.prog) W 9998 37 .i64 .i64 x 0 Tryz.underlying37
  have hf : Tryz.prog.underlying 48 = some (.struct (Tryz.prog.fieldsOf 48)) := by kernel_rfl
  show (Op.equalIn (9999 + 1) 48 _ _).run Tryz.prog W = _
  rw [run_equalIn_agg _ _ _ _ _ hf (by kernel_rfl)]
  have hu := Tryz.underlying48
  rw [hf] at hu
  simp only [Option.some.injEq, TypeDesc.struct.injEq] at hu
  rw [hu]
  by_cases hx : x = 0
  · subst hx
    simp [Op.eqFields, h0, h1, hi, he]
  · have hx2 : (x == 0) = false := beq_false_of_ne hx
    simp [Op.eqFields, h0, h1, hi, he, hx2]
theorem guardFlt : Tryz.prog.eqGuardType Tryz.prog.depth 48 = false := by kernel_rfl

theorem enc_good {L : Cat} (h : (catB L).length ≤ 262144) : encS L = bytesOf (catB L) ∧ encE L = 0 := by
  unfold encS encE
  rw [if_pos h, if_pos h]
  exact ⟨rfl, rfl⟩

/-- a name that is told, and the schema of that name -/
theorem name_at {L : Cat} (h : CatOk L) {j : Nat} {n : ByteArray} (hn : (namesC L)[j]? = some n) : ∃ T, T.nm = n ∧ Dk.getL (kb n) L = some T ∧ T.may = true := by
  unfold namesC Dk.keysL at hn
  rw [List.map_map, List.getElem?_map] at hn
  cases hq : L[j]? with
  | none => rw [hq] at hn; cases hn
  | some p =>
    rw [hq] at hn
    have hm := List.mem_of_getElem? hq
    obtain ⟨h1, h2⟩ := h.own p hm
    have e : bytesOf p.1 = n := by simpa using hn
    have e2 : p.2.nm = n := by rw [← e, h1, kb_bytes]
    refine ⟨p.2, e2, ?_, h2⟩
    rw [← e2, ← h1]
    exact getL_of_mem h.rise (show (p.1, p.2) ∈ L from hm)

end Go.Proofs.YtnboanlhdllhnaaGreat
