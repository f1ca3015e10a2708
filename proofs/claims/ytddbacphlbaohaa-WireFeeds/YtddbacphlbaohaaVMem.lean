/- Own slices of bytes, and what a cut of one shows. -/
import Derived.Test.YtddbacphlbaohaaVRef
import Derived.Test.YtddbacphlbaohaaGrow
import Derived.Deep.DeepMust
import Derived.Maps.AppendAt
import Derived.Deep.AppendLies
import Derived.Lib.AppendStr
import Derived.Lib.BufferRead
import Derived.Laws.IdiomStrings
import Derived.Laws.CopyOwn
import Derived.Laws.OwnMore
import Derived.Handy
namespace Go.Proofs.Ytddbacphlbaohaa
open Go.RowKit

/-- an own slice of bytes -/
def OwnB (w : World) (base : Nat) (v : Value) (l : List UInt8) : Prop := w.ownsRow base 5 1 v l.length (bcells l)

theorem infoByte : (Try.prog.info? 5).map (fun i => (i.zero, i.size, i.bytes)) = some (some (.int .u8 0), 1, 1) := by kernel_rfl

theorem infoByte_parts : ∃ i, Try.prog.info? 5 = some i ∧ i.zero = some (.int .u8 0) ∧ i.size = 1 ∧ i.bytes = 1 := by
  have h := infoByte
  cases hq : Try.prog.info? 5 with
  | none => rw [hq] at h; cases h
  | some i =>
    rw [hq] at h
    simp only [Option.map_some, Option.some.injEq, Prod.mk.injEq] at h
    exact ⟨i, rfl, h.1, h.2.1, h.2.2⟩

theorem OwnB.kept {w w' : World} {base : Nat} {v : Value} {l : List UInt8} (h : OwnB w base v l) (hb : Below w.heap.size w w') : OwnB w' base v l :=
  ownsRow_block h fun g hg => hb.block g (World.ownsRow.lt h g hg).2

theorem OwnB.nil (w : World) (base : Nat) : OwnB w base (.slice none 0 0) [] := World.ownsRow_nil w base _ _

theorem OwnB.str {w : World} {base : Nat} {v : Value} {l : List UInt8} (h : OwnB w base v l) : (convert 43 9 v).run Try.prog w = .ok (.string (bytesOf l)) w := by
  rcases h.2 with ⟨rfl, hl⟩ | ⟨g, cap, cur, rfl, -, -, -, -, -, -⟩
  · have e : l = [] := List.eq_nil_of_length_eq_zero hl
    subst e
    exact Lib.run_convert_nil_bytes w 43 9 5 0 Try.underlying43 Try.underlying5 Try.underlying9
  · refine run_convert_bytes_back w 43 9 5 ⟨g, 0, none⟩ cap l Try.underlying43 Try.underlying5 Try.underlying9 fun j hj => ?_
    exact World.ownsRow.cells h (g := g) rfl j _ (by simp [bcells, hj])

/-- four bytes put behind an own slice of bytes -/
theorem wpList_four {ops : Array Oper} {rest : List Oper} {o : Oper} {a : Act} {Q : Exit → Act → World → Prop} (hgd : o.guard = none) (s x : Operand)
    (ho : o.op = .call { callee := .builtin .append, args := #[s, x], argTypes := #[43, 43] })
    (base : Nat) (v : Value) (l : List UInt8) (w : World) (C : List UInt8) (m : Nat) (cs : Array Value) (hC : cs.toList = bcells C) (hm : C.length = m) (hs : a.eval s = v) (hown : OwnB w base v l) (g : Nat) (hg : w.heap.size = g) (hx : a.eval x = .slice (some ⟨g, 0, none⟩) m m)
    (hL : l.length + m ≤ 100000) (hbase : base ≤ w.heap.size)
    (h : ∀ v' w', OwnB w' base v' (l ++ C) → Below base w w' → wpList Try.prog ops Q rest (a.put o.dst v') w') :
    wpList Try.prog ops Q (o :: rest) a (w.alloc (.cells cs 5)) := by
  subst hg
  obtain ⟨i0, hi, hz0, hz1, hz2⟩ := infoByte_parts
  have hb : (w.alloc (.cells cs 5)).heap[w.heap.size]? = some (.cells cs 5) := by simp [World.alloc, -World.alloc_eq]
  refine wpList_append_own_at _ hgd s x 43 ho base 5 i0 (.int .u8 0) 1 1 Try.underlying43 hi hz0 hz1 hz2 rfl (by decide) v l.length (bcells l) hs (World.ownsRow.alloc hown _) ⟨w.heap.size, 0, none⟩ m m (bcells C) hx ?_ ?_ ?_ ?_ ?_ ?_ ?_
  · rw [bcells_length, hm, Nat.mul_one]
  · rw [← hC]
    exact World.news_of_block hb
  · intro u hu
    obtain ⟨c, -, rfl⟩ := List.mem_map.1 hu
    rfl
  · unfold maxLen; omega
  · omega
  · simp; omega
  · intro v' w' h1 h2 _ _
    refine h v' w' ?_ ?_
    · unfold OwnB
      rw [bcells_append, List.length_append, hm]
      exact h1
    · exact ((Below.refl base w).alloc hbase _).grown h2 (by simp; omega) (fun i hi => (World.ownsRow.lt hown i hi).1)

/-- a string's bytes put behind an own slice of bytes -/
theorem wpList_text {ops : Array Oper} {rest : List Oper} {o : Oper} {a : Act} {Q : Exit → Act → World → Prop} (hgd : o.guard = none) (sl x : Operand)
    (ho : o.op = .call { callee := .builtin .append, args := #[sl, x], argTypes := #[43, 9] })
    (base : Nat) (v : Value) (l : List UInt8) (w : World) (hs : a.eval sl = v) (hown : OwnB w base v l) (s : ByteArray) (hx : a.eval x = .string s)
    (hL : l.length + s.size ≤ 1000000) (hbase : base ≤ w.heap.size)
    (h : ∀ v' w', OwnB w' base v' (l ++ s.data.toList) → Below base w w' → wpList Try.prog ops Q rest (a.put o.dst v') w') : wpList Try.prog ops Q (o :: rest) a w := by
  obtain ⟨i0, hi, hz0, hz1, hz2⟩ := infoByte_parts
  refine Lib.wpList_append_own_string _ hgd sl x 43 9 ho base 5 i0 Try.underlying43 Try.underlying9 hi hz0 hz1 hz2 v l.length (bcells l) hs hown s hx (by unfold maxLen; omega) (by omega) hbase ?_
  intro v' w' h1 h2 _
  refine h v' w' ?_ ((Below.refl base w).grown h2 hbase (fun i hi => (World.ownsRow.lt hown i hi).1))
  unfold OwnB
  rw [bcells_append, List.length_append]
  exact h1

/-- the same, with the place of the new slice -/
theorem wpList_text_at {ops : Array Oper} {rest : List Oper} {o : Oper} {a : Act} {Q : Exit → Act → World → Prop} (hgd : o.guard = none) (sl x : Operand)
    (ho : o.op = .call { callee := .builtin .append, args := #[sl, x], argTypes := #[43, 9] })
    (v : Value) (l : List UInt8) (w : World) (hs : a.eval sl = v) (hown : OwnB w 0 v l) (s : ByteArray) (hx : a.eval x = .string s)
    (hL : l.length + s.size ≤ 1000000)
    (h : ∀ a' c' w', OwnB w' 0 (.slice a' (l.length + s.size) c') (l ++ s.data.toList) → w.grownBy w' v.ownBlock → (∀ b, (Value.slice a' (l.length + s.size) c').ownBlock = some b → v.ownBlock = some b ∨ w.heap.size ≤ b) →
      wpList Try.prog ops Q rest (a.put o.dst (.slice a' (l.length + s.size) c')) w') : wpList Try.prog ops Q (o :: rest) a w := by
  obtain ⟨i0, hi, hz0, hz1, hz2⟩ := infoByte_parts
  refine wpList_append_str _ hgd sl x 43 9 ho 5 i0 Try.underlying43 Try.underlying9 hi hz0 hz1 hz2 v l.length (bcells l) hs hown s hx (by unfold maxLen; omega) (by omega) ?_
  intro a' c' w' h1 h2 h3
  refine h a' c' w' ?_ h2 h3
  unfold OwnB
  rw [bcells_append, List.length_append]
  exact h1

theorem made_own (w : World) (base c : Nat) (hc : c ≤ 281474976710656) (hbase : base ≤ w.heap.size) :
    ∃ u, (Instr.makeSlice 43 (.int .i64 0) (.int .i64 (c : Int))).run Try.prog w = .ok (.slice (some ⟨w.heap.size, 0, none⟩) 0 c) u ∧ OwnB u base (.slice (some ⟨w.heap.size, 0, none⟩) 0 c) [] ∧ Below base w u := by
  obtain ⟨i0, hi, hz0, hz1, hz2⟩ := infoByte_parts
  obtain ⟨u, h1, h2, h3⟩ := run_make_own (P := Try.prog) w base 43 5 i0 (.int .u8 0) 1 Try.underlying43 hi hz0 hz1 .i64 .i64 c (by rw [hz2]; omega) (by unfold maxLen; omega) hbase
  exact ⟨u, h1, h2, (Below.refl base w).grown h3 hbase (fun i hi => by cases hi)⟩

/-- a slice of n noughts, new -/
theorem made_full (n : Nat) (hn : n ≤ 281474976710656) : ∃ M : List Value, M.length = n ∧ ∀ W : World, (Instr.makeSlice 43 (.int .i64 (n : Int)) (.int .i64 (n : Int))).run Try.prog W = .ok (.slice (some ⟨W.heap.size, 0, none⟩) n n) (W.alloc (.cells M.toArray 5)) := by
  obtain ⟨i0, hi, hz0, hz1, hz2⟩ := infoByte_parts
  refine ⟨(madeCells (Value.int .u8 0).cells (((n : Nat) : Int).toNat * i0.size)).toList, ?_, fun W => ?_⟩
  · rw [hz1]
    simp [size_madeCells]
  · have h := run_make (P := Try.prog) W 43 5 i0 (.int .u8 0) Try.underlying43 hi hz0 .i64 .i64 (n : Int) (n : Int) (by omega) (by omega) (by rw [hz2]; omega) (by omega)
    simpa using h

/-- the bytes that a slice shows -/
def Shows (w : World) (a : Option Addr) (l : List UInt8) : Prop := l ≠ [] → ∃ b off, a = some ⟨b, off, none⟩ ∧ b < w.heap.size ∧ ∀ i, (h : i < l.length) → w.cell? ⟨b, off + i, none⟩ = some (.int .u8 (l[i].toNat : Int))

theorem OwnB.shape {w : World} {base : Nat} {v : Value} {l : List UInt8} (h : OwnB w base v l) : ∃ a c, v = .slice a l.length c ∧ l.length ≤ c ∧ c ≤ maxLen ∧ Shows w a l := by
  rcases h.2 with ⟨rfl, hl⟩ | ⟨g, cap, cur, rfl, -, hg, h1, h2, -, -⟩
  · refine ⟨none, 0, by rw [hl], by omega, Nat.zero_le _, fun hne => absurd (List.eq_nil_of_length_eq_zero hl) hne⟩
  · refine ⟨_, cap, rfl, h1, h2, fun _ => ⟨g, 0, rfl, lt_of hg, fun i hi => ?_⟩⟩
    have := World.ownsRow.cells h (g := g) rfl i _ (bcells_get hi)
    rw [Addr.add_lit] at this
    exact this

theorem Shows.kept {w w' : World} {a : Option Addr} {l : List UInt8} (h : Shows w a l) (hb : Below w.heap.size w w') : Shows w' a l := fun hne => by
  obtain ⟨b, off, e, hlt, hc⟩ := h hne
  refine ⟨b, off, e, Nat.lt_of_lt_of_le hlt hb.size, fun i hi => ?_⟩
  rw [← hc i hi]
  unfold World.cell?
  rw [hb.block b hlt]

/-- a part of it -/
theorem run_part (a : Option Addr) (n c i j : Nat) (h1 : i ≤ j) (h2 : j ≤ c) (W : World) :
    (Instr.slice 43 (.slice a n c) (some (.int .i64 (i : Int))) (some (.int .i64 (j : Int))) none).run Try.prog W = .ok (.slice (if c = i then a else a.map (·.add i)) (j - i) (c - i)) W := by
  have h1' : (i : Int) ≤ (j : Int) := by omega
  have h2' : (j : Int) ≤ (c : Int) := by omega
  simp [Instr.slice, run_underlying Try.underlying43, Instr.sliceBounds, run_sliceBound, h1', h2', Result.andThen]

theorem run_rest (a : Option Addr) (n c k : Nat) (h : k ≤ n) (W : World) :
    (Instr.slice 43 (.slice a n c) (some (.int .i64 (k : Int))) none none).run Try.prog W = .ok (.slice (if c = k then a else a.map (·.add k)) (n - k) (c - k)) W := by
  have h1 : (k : Int) ≤ (n : Int) := by omega
  simp [Instr.slice, run_underlying Try.underlying43, Instr.sliceBounds, run_sliceBound, h1, Result.andThen]

theorem Shows.part {w : World} {a : Option Addr} {l : List UInt8} (h : Shows w a l) (c i n : Nat) (hc : l.length ≤ c) : Shows w (if c = i then a else a.map (·.add i)) ((l.drop i).take n) := fun hne => by
  have hl : i < l.length := by
    rcases Nat.lt_or_ge i l.length with h1 | h1
    · exact h1
    · exact absurd (by rw [List.drop_eq_nil_of_le h1, List.take_nil]) hne
  obtain ⟨b, off, e, hlt, hcell⟩ := h (fun e => by rw [e] at hl; cases hl)
  rw [if_neg (by omega), e]
  refine ⟨b, off + i, by simp [Addr.add_lit], hlt, fun j hj => ?_⟩
  have hj2 : i + j < l.length := by rw [List.length_take, List.length_drop] at hj; omega
  have := hcell (i + j) hj2
  rw [Nat.add_assoc, this, List.getElem_take, List.getElem_drop]

/-- as a string -/
theorem Shows.str {w : World} {a : Option Addr} {l : List UInt8} (h : Shows w a l) (c : Nat) : (convert 43 9 (.slice a l.length c)).run Try.prog w = .ok (.string (bytesOf l)) w := by
  by_cases hne : l = []
  · subst hne
    cases a with
    | none =>
      rw [run_convert_bytes_nil w 43 5 Try.underlying43 Try.underlying5 _ _ 9 Try.underlying9]
      rfl
    | some a => exact run_convert_bytes_back w 43 9 5 a c [] Try.underlying43 Try.underlying5 Try.underlying9 fun j hj => (by cases hj)
  · obtain ⟨b, off, rfl, -, hc⟩ := h hne
    refine run_convert_bytes_back w 43 9 5 ⟨b, off, none⟩ c l Try.underlying43 Try.underlying5 Try.underlying9 fun j hj => ?_
    rw [Addr.add_lit]
    exact hc j hj

end Go.Proofs.Ytddbacphlbaohaa
