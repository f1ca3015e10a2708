/- Own slices of bytes: put behind, and read as a string. -/
import Derived.Test.YthiihilifckapaaFRefC
import Derived.Deep.DeepMust
import Derived.Maps.AppendAt
import Derived.Deep.AppendLies
import Derived.Lib.AppendStr
import Derived.Lib.BufferRead
import Derived.Laws.IdiomStrings
import Derived.Handy
namespace Go.Proofs.Ythiihilifckapaa
open Go.RowKit

def cellsB (l : List UInt8) : List Value := l.map fun c => Value.int .u8 c.toNat

/-- an own slice of bytes -/
def OwnB (w : World) (base : Nat) (v : Value) (l : List UInt8) : Prop := w.ownsRow base 5 1 v l.length (cellsB l)

theorem infoByte : (Try.prog.info? 5).map (fun i => (i.zero, i.size, i.bytes)) = some (some (.int .u8 0), 1, 1) := by kernel_rfl

theorem infoByte_parts : ∃ i, Try.prog.info? 5 = some i ∧ i.zero = some (.int .u8 0) ∧ i.size = 1 ∧ i.bytes = 1 := by
  have h := infoByte
  cases hq : Try.prog.info? 5 with
  | none => rw [hq] at h; cases h
  | some i =>
    rw [hq] at h
    simp only [Option.map_some, Option.some.injEq, Prod.mk.injEq] at h
    exact ⟨i, rfl, h.1, h.2.1, h.2.2⟩

theorem OwnB.kept {w w' : World} {base : Nat} {v : Value} {l : List UInt8} (h : OwnB w base v l) (hb : Below w.heap.size w w') : OwnB w' base v l :=
  ownsRow_block h fun g hg => hb.block g (World.ownsRow.lt h g hg).2

theorem OwnB.str {w : World} {base : Nat} {v : Value} {l : List UInt8} (h : OwnB w base v l) : (convert 39 9 v).run Try.prog w = .ok (.string (bytesOf l)) w := by
  rcases h.2 with ⟨rfl, hl⟩ | ⟨g, cap, cur, rfl, -, -, -, -, -, -⟩
  · have e : l = [] := List.eq_nil_of_length_eq_zero hl
    subst e
    exact Lib.run_convert_nil_bytes w 39 9 5 0 Try.underlying39 Try.underlying5 Try.underlying9
  · refine run_convert_bytes_back w 39 9 5 ⟨g, 0, none⟩ cap l Try.underlying39 Try.underlying5 Try.underlying9 fun j hj => ?_
    exact World.ownsRow.cells h (g := g) rfl j _ (by simp [cellsB, hj])

/-- four bytes put behind an own slice of bytes -/
theorem wpList_four {ops : Array Oper} {rest : List Oper} {o : Oper} {a : Act} {Q : Exit → Act → World → Prop} (hgd : o.guard = none) (s x : Operand)
    (ho : o.op = .call { callee := .builtin .append, args := #[s, x], argTypes := #[39, 39] })
    (base : Nat) (v : Value) (l : List UInt8) (w : World) (C : List UInt8) (m : Nat) (cs : Array Value) (hC : cs.toList = cellsB C) (hm : C.length = m) (hs : a.eval s = v) (hown : OwnB w base v l) (g : Nat) (hg : w.heap.size = g) (hx : a.eval x = .slice (some ⟨g, 0, none⟩) m m)
    (hL : l.length + m ≤ 100000) (hbase : base ≤ w.heap.size)
    (h : ∀ v' w', OwnB w' base v' (l ++ C) → Below base w w' → wpList Try.prog ops Q rest (a.put o.dst v') w') :
    wpList Try.prog ops Q (o :: rest) a (w.alloc (.cells cs 5)) := by
  subst hg
  obtain ⟨i0, hi, hz0, hz1, hz2⟩ := infoByte_parts
  have hb : (w.alloc (.cells cs 5)).heap[w.heap.size]? = some (.cells cs 5) := by simp [World.alloc, -World.alloc_eq]
  refine wpList_append_own_at _ hgd s x 39 ho base 5 i0 (.int .u8 0) 1 1 Try.underlying39 hi hz0 hz1 hz2 rfl (by decide) v l.length (cellsB l) hs (World.ownsRow.alloc hown _) ⟨w.heap.size, 0, none⟩ m m (cellsB C) hx ?_ ?_ ?_ ?_ ?_ ?_ ?_
  · rw [cellsB, List.length_map, hm, Nat.mul_one]
  · rw [← hC]
    exact World.news_of_block hb
  · intro u hu
    obtain ⟨c, -, rfl⟩ := List.mem_map.1 hu
    rfl
  · unfold maxLen; omega
  · omega
  · simp; omega
  · intro v' w' h1 h2 _ _
    refine h v' w' ?_ ?_
    · unfold OwnB
      rw [cellsB, List.map_append, List.length_append, hm]
      exact h1
    · exact ((Below.refl base w).alloc hbase _).grown h2 (by simp; omega) (fun i hi => (World.ownsRow.lt hown i hi).1)

/-- a string's bytes put behind an own slice of bytes -/
theorem wpList_text {ops : Array Oper} {rest : List Oper} {o : Oper} {a : Act} {Q : Exit → Act → World → Prop} (hgd : o.guard = none) (sl x : Operand)
    (ho : o.op = .call { callee := .builtin .append, args := #[sl, x], argTypes := #[39, 9] })
    (base : Nat) (v : Value) (l : List UInt8) (w : World) (hs : a.eval sl = v) (hown : OwnB w base v l) (s : ByteArray) (hx : a.eval x = .string s)
    (hL : l.length + s.size ≤ 100000) (hbase : base ≤ w.heap.size)
    (h : ∀ v' w', OwnB w' base v' (l ++ s.data.toList) → Below base w w' → wpList Try.prog ops Q rest (a.put o.dst v') w') : wpList Try.prog ops Q (o :: rest) a w := by
  obtain ⟨i0, hi, hz0, hz1, hz2⟩ := infoByte_parts
  refine Lib.wpList_append_own_string _ hgd sl x 39 9 ho base 5 i0 Try.underlying39 Try.underlying9 hi hz0 hz1 hz2 v l.length (cellsB l) hs hown s hx (by unfold maxLen; omega) (by omega) hbase ?_
  intro v' w' h1 h2 _
  refine h v' w' ?_ ((Below.refl base w).grown h2 hbase (fun i hi => (World.ownsRow.lt hown i hi).1))
  unfold OwnB
  rw [cellsB, List.map_append, List.length_append]
  exact h1

theorem made_own (w : World) (base c : Nat) (hc : c ≤ 281474976710656) (hbase : base ≤ w.heap.size) :
    ∃ u, (Instr.makeSlice 39 (.int .i64 0) (.int .i64 (c : Int))).run Try.prog w = .ok (.slice (some ⟨w.heap.size, 0, none⟩) 0 c) u ∧ OwnB u base (.slice (some ⟨w.heap.size, 0, none⟩) 0 c) [] ∧ Below base w u := by
  obtain ⟨i0, hi, hz0, hz1, hz2⟩ := infoByte_parts
  obtain ⟨u, h1, h2, h3⟩ := run_make_own (P := Try.prog) w base 39 5 i0 (.int .u8 0) 1 Try.underlying39 hi hz0 hz1 .i64 .i64 c (by rw [hz2]; omega) (by unfold maxLen; omega) hbase
  exact ⟨u, h1, h2, (Below.refl base w).grown h3 hbase (fun i hi => by cases hi)⟩

theorem le4_cells {n : Nat} (hn : n < 4294967296) : cellsB (le4 n) = [.int .u8 ((n : Int) % 256), .int .u8 ((n : Int) / 256 % 256), .int .u8 ((n : Int) / 65536 % 256), .int .u8 ((n : Int) / 16777216)] := by
  have e1 : (UInt8.ofNat (n % 256)).toNat = n % 256 := by simp
  have e2 : (UInt8.ofNat (n / 256 % 256)).toNat = n / 256 % 256 := by simp
  have e3 : (UInt8.ofNat (n / 65536 % 256)).toNat = n / 65536 % 256 := by simp
  have e4 : (UInt8.ofNat (n / 16777216)).toNat = n / 16777216 := by simp; omega
  have c1 : ((n % 256 : Nat) : Int) = (n : Int) % 256 := by omega
  have c2 : ((n / 256 % 256 : Nat) : Int) = (n : Int) / 256 % 256 := by omega
  have c3 : ((n / 65536 % 256 : Nat) : Int) = (n : Int) / 65536 % 256 := by omega
  have c4 : ((n / 16777216 : Nat) : Int) = (n : Int) / 16777216 := by omega
  rw [← c1, ← c2, ← c3, ← c4, ← e1, ← e2, ← e3, ← e4]
  rfl

set_option maxHeartbeats 400000 in
theorem fappendWord_any (n : Nat) (base : Nat) (out : Value) (l : List UInt8) (w : World) (hn : n < 4294967296) (hl : l.length ≤ 90000) (ho : OwnB w base out l) (hbase : base ≤ w.heap.size) :
    Calls Try.prog 17 #[out, .int .u32 (n : Int)] w fun e w' => ∃ v, e = .returned v ∧ OwnB w' base v (l ++ le4 n) ∧ Below base w w' := by
  have HO : Hid (OwnB w base out l) := ho
  have HC : Hid (cellsB (le4 n) = [.int .u8 ((n : Int) % 256), .int .u8 ((n : Int) / 256 % 256), .int .u8 ((n : Int) / 65536 % 256), .int .u8 ((n : Int) / 16777216)]) := le4_cells hn
  clear ho
  go_enter Try.func17, Try.ntmps17
  go_wp2_with (at_builtin; go_must (refine wpList_four rfl _ _ rfl base out l w (le4 n) 4 #[.int .u8 ((n : Int) % 256), .int .u8 ((n : Int) / 256 % 256), .int .u8 ((n : Int) / 65536 % 256), .int .u8 ((n : Int) / 16777216)] HC.out.symm rfl rfl HO.out _ rfl rfl (by omega) (by omega) ?_))
  intro v1 w1 ho1 hb1
  go_wp2
  go_ret
  exact ⟨_, rfl, ho1, hb1⟩

end Go.Proofs.Ythiihilifckapaa
