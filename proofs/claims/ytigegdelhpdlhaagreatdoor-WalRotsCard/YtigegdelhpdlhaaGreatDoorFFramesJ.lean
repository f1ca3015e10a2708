import Derived.Test.YtigegdelhpdlhaaGreatDoorFRefEJ
import Derived.Test.YtigegdelhpdlhaaGreatDoorFLookJ
import Derived.Test.YtigegdelhpdlhaaGreatDoorFRefCJ
import Derived.Deep.DeepMust
import Derived.Maps.AppendAt
import Derived.Deep.AppendLies
import Derived.Lib.AppendStr
import Derived.Lib.BufferRead
import Derived.Laws.IdiomStrings
import Derived.Handy
/- The program's frames, one behind the other, are the document's. -/
namespace Go.Proofs.YtigegdelhpdlhaaGreatDoor
open Go.RowKit

set_option maxRecDepth 100000 in
set_option maxHeartbeats 1000000 in
theorem fFrames_any (b : ByteArray) (w : World) (hb : b.size ≤ 35184372088832) :
    Calls Tryz.prog 120 #[.string b] w fun e w' => ∃ v, e = .returned (.tuple #[v, .int .i64 ((frames b).2 : Int)]) ∧ w'.ownsRow w.heap.size 9 1 v (frames b).1.length ((frames b).1.map Go.Proofs.encStr) ∧ Below w.heap.size w w' := by
  obtain ⟨i0, hi, hz0, hz1, hz2⟩ := infoStr_parts
  have HB : Hid (b.size ≤ 35184372088832) := hb
  go_enter Tryz.func120, Tryz.ntmps120
  go_wp2_with fail
  go_loopw [2, 3] (fun out i wr => ∃ (a : Nat) (L : List (List UInt8)), a ≤ b.size ∧ i = .int .i64 a ∧ 8 * L.length ≤ a ∧ frames b = (L ++ (framesAt b a).1, (framesAt b a).2) ∧ wr.ownsRow w.heap.size 9 1 out L.length (L.map Go.Proofs.encStr) ∧ Below w.heap.size w wr) (fun _ i _ => b.size - (intOf i).toNat)
  case atStart => exact ⟨0, [], Nat.zero_le _, rfl, Nat.le_refl _, rfl, World.ownsRow_nil _ _ _ _, Below.refl _ _⟩
  case round =>
    obtain ⟨a, L, ha, rfl, h8, hfr, hrow, hbr⟩ := hrel
    have HR : Hid (wr.ownsRow w.heap.size 9 1 u2 L.length (L.map Go.Proofs.encStr)) := hrow
    have HF : Hid (frames b = (L ++ (framesAt b a).1, (framesAt b a).2)) := hfr
    have hsz1 : w.heap.size ≤ wr.heap.size := hbr.size
    obtain ⟨F, hF⟩ : ∃ F, found b a = F := ⟨_, rfl⟩
    have HU : Hid (Calls Tryz.prog 121 #[.string b, .int .i64 (a : Int)] wr fun e w' => e = .returned F.en ∧ Below wr.heap.size wr w') := hF ▸ fUnframe_any b a wr (Nat.le_trans HB.out (by decide))
    clear hrow hfr
    obtain ⟨x, s, p, c⟩ := F
    have hen : (Found.mk x s p c).en = .tuple #[.string x, .int .i64 s, .agg #[.int .i64 p, .int .i64 c]] := rfl
    rw [hen] at HU
    by_cases hc : c = 0
    · subst hc
      obtain ⟨k, hk, hk1, hk2⟩ := found_ok (b := b) (a := a) (by rw [hF])
      have HN : Hid (framesAt b a = (x.data.toList :: (framesAt b k).1, (framesAt b k).2)) := (by
        rw [framesAt_next (by rw [hF]) hk, hF] : _ = _)
      rw [hF] at hk
      have hk' : s = (k : Int) := hk
      clear hk hF
      subst hk'
      go_wp2_with (first
        | (go_at_call 121; refine (HU.out).mono ?_; rintro e w1 ⟨rfl, hw1⟩; have HR1 : Hid (w1.ownsRow w.heap.size 9 1 u2 L.length (L.map Go.Proofs.encStr)) := row_kept HR.out hw1; have hsz2 : w.heap.size ≤ w1.heap.size := Nat.le_trans hsz1 hw1.size)
        | (at_builtin; go_must (refine wpList_append_own _ rfl _ _ 79 rfl w.heap.size 9 i0 (.string ByteArray.empty) 1 16 Tryz.underlying79 hi hz0 hz1 hz2 rfl (by decide) _ L.length _ rfl ((HR1.out.alloc _).alloc _) ⟨w1.heap.size + 1, 0, none⟩ 1 1 [.string x] rfl rfl ?q1 ?q2 ?q3 ?q4 ?q5 ?_)))
      case q1 =>
        intro i u hu
        rw [Addr.add_lit]
        match i, hu with
        | 0, hu => simpa [go_sem] using hu
      case q2 =>
        intro u hu
        simp only [List.mem_cons, List.not_mem_nil, or_false] at hu
        subst hu
        rfl
      case q3 => unfold maxLen; omega
      case q4 => omega
      case q5 => simp; omega
      intro v' w3 hown3 hgrow3 _
      go_wp2
      go_roundw
      case rel =>
        refine ⟨k, L ++ [x.data.toList], by omega, by go_num, by simp; omega, ?_, ?_, ?_⟩
        · rw [HF.out, HN.out]
          simp
        · rw [List.map_append, List.length_append]
          have e3 : [x.data.toList].map Go.Proofs.encStr = [Value.string x] := by
            show [Go.Proofs.encStr x.data.toList] = _
            rw [enc_self]
          rw [e3]
          exact hown3
        · exact (((hbr.trans (hw1.mono hsz1)).alloc (by omega) _).alloc (by simp; omega) _).grown hgrow3 (by simp; omega) (fun i hi => (HR1.out.lt i hi).1)
      case measure => simp [intOf]; omega
    · have HN : Hid (framesAt b a = ([], a)) := framesAt_end (by rw [hF]; exact hc)
      have hc' : (c != 0) = true := by simpa using hc
      clear hF
      go_wp2_with (go_at_call 121; refine (HU.out).mono ?_; rintro e w1 ⟨rfl, hw1⟩)
      go_ret2
      rw [HF.out, HN.out]
      refine ⟨_, rfl, ?_, (hbr.trans (hw1.mono hsz1)).alloc (Nat.le_trans hsz1 hw1.size) _⟩
      rw [List.append_nil]
      exact (row_kept HR.out hw1).alloc _

end Go.Proofs.YtigegdelhpdlhaaGreatDoor

/- Own slices of bytes: put behind, and read as a string. -/
namespace Go.Proofs.YtigegdelhpdlhaaGreatDoor
open Go.RowKit

def cellsB (l : List UInt8) : List Value := l.map fun c => Value.int .u8 c.toNat

/-- an own slice of bytes -/
def OwnB (w : World) (base : Nat) (v : Value) (l : List UInt8) : Prop := w.ownsRow base 5 1 v l.length (cellsB l)

theorem infoByte : (Tryz.prog.info? 5).map (fun i => (i.zero, i.size, i.bytes)) = some (some (.int .u8 0), 1, 1) := by kernel_rfl

theorem infoByte_parts : ∃ i, Tryz.prog.info? 5 = some i ∧ i.zero = some (.int .u8 0) ∧ i.size = 1 ∧ i.bytes = 1 := by
  have h := infoByte
  cases hq : Tryz.prog.info? 5 with
  | none => rw [hq] at h; cases h
  | some i =>
    rw [hq] at h
    simp only [Option.map_some, Option.some.injEq, Prod.mk.injEq] at h
    exact ⟨i, rfl, h.1, h.2.1, h.2.2⟩

theorem OwnB.kept {w w' : World} {base : Nat} {v : Value} {l : List UInt8} (h : OwnB w base v l) (hb : Below w.heap.size w w') : OwnB w' base v l :=
  ownsRow_block h fun g hg => hb.block g (World.ownsRow.lt h g hg).2

theorem OwnB.str {w : World} {base : Nat} {v : Value} {l : List UInt8} (h : OwnB w base v l) : (convert 54 9 v).run Tryz.prog w = .ok (.string (bytesOf l)) w := by
  rcases h.2 with ⟨rfl, hl⟩ | ⟨g, cap, cur, rfl, -, -, -, -, -, -⟩
  · have e : l = [] := List.eq_nil_of_length_eq_zero hl
    subst e
    exact Lib.run_convert_nil_bytes w 54 9 5 0 Tryz.underlying54 Tryz.underlying5 Tryz.underlying9
  · refine run_convert_bytes_back w 54 9 5 ⟨g, 0, none⟩ cap l Tryz.underlying54 Tryz.underlying5 Tryz.underlying9 fun j hj => ?_
    exact World.ownsRow.cells h (g := g) rfl j _ (by simp [cellsB, hj])

/-- four bytes put behind an own slice of bytes -/
theorem wpList_four {ops : Array Oper} {rest : List Oper} {o : Oper} {a : Act} {Q : Exit → Act → World → Prop} (hgd : o.guard = none) (s x : Operand)
    (ho : o.op = .call { callee := .builtin .append, args := #[s, x], argTypes := #[54, 54] })
    (base : Nat) (v : Value) (l : List UInt8) (w : World) (C : List UInt8) (m : Nat) (cs : Array Value) (hC : cs.toList = cellsB C) (hm : C.length = m) (hs : a.eval s = v) (hown : OwnB w base v l) (g : Nat) (hg : w.heap.size = g) (hx : a.eval x = .slice (some ⟨g, 0, none⟩) m m)
    (hL : l.length + m ≤ 100000) (hbase : base ≤ w.heap.size)
    (h : ∀ v' w', OwnB w' base v' (l ++ C) → Below base w w' → wpList Tryz.prog ops Q rest (a.put o.dst v') w') :
    wpList Tryz.prog ops Q (o :: rest) a (w.alloc (.cells cs 5)) := by
  subst hg
  obtain ⟨i0, hi, hz0, hz1, hz2⟩ := infoByte_parts
  have hb : (w.alloc (.cells cs 5)).heap[w.heap.size]? = some (.cells cs 5) := by simp [World.alloc, -World.alloc_eq]
  refine wpList_append_own_at _ hgd s x 54 ho base 5 i0 (.int .u8 0) 1 1 Tryz.underlying54 hi hz0 hz1 hz2 rfl (by decide) v l.length (cellsB l) hs (World.ownsRow.alloc hown _) ⟨w.heap.size, 0, none⟩ m m (cellsB C) hx ?_ ?_ ?_ ?_ ?_ ?_ ?_
  · rw [cellsB, List.length_map, hm, Nat.mul_one]
  · rw [← hC]
    exact World.news_of_block hb
  · intro u hu
    obtain ⟨c, -, rfl⟩ := List.mem_map.1 hu
    rfl
  · unfold maxLen; omega
  · omega
  · simp; omega
  · intro v' w' h1 h2 _ _
    refine h v' w' ?_ ?_
    · unfold OwnB
      rw [cellsB, List.map_append, List.length_append, hm]
      exact h1
    · exact ((Below.refl base w).alloc hbase _).grown h2 (by simp; omega) (fun i hi => (World.ownsRow.lt hown i hi).1)

/-- a string's bytes put behind an own slice of bytes -/
theorem wpList_text {ops : Array Oper} {rest : List Oper} {o : Oper} {a : Act} {Q : Exit → Act → World → Prop} (hgd : o.guard = none) (sl x : Operand)
    (ho : o.op = .call { callee := .builtin .append, args := #[sl, x], argTypes := #[54, 9] })
    (base : Nat) (v : Value) (l : List UInt8) (w : World) (hs : a.eval sl = v) (hown : OwnB w base v l) (s : ByteArray) (hx : a.eval x = .string s)
    (hL : l.length + s.size ≤ 100000) (hbase : base ≤ w.heap.size)
    (h : ∀ v' w', OwnB w' base v' (l ++ s.data.toList) → Below base w w' → wpList Tryz.prog ops Q rest (a.put o.dst v') w') : wpList Tryz.prog ops Q (o :: rest) a w := by
  obtain ⟨i0, hi, hz0, hz1, hz2⟩ := infoByte_parts
  refine Lib.wpList_append_own_string _ hgd sl x 54 9 ho base 5 i0 Tryz.underlying54 Tryz.underlying9 hi hz0 hz1 hz2 v l.length (cellsB l) hs hown s hx (by unfold maxLen; omega) (by omega) hbase ?_
  intro v' w' h1 h2 _
  refine h v' w' ?_ ((Below.refl base w).grown h2 hbase (fun i hi => (World.ownsRow.lt hown i hi).1))
  unfold OwnB
  rw [cellsB, List.map_append, List.length_append]
  exact h1

theorem made_own (w : World) (base c : Nat) (hc : c ≤ 281474976710656) (hbase : base ≤ w.heap.size) :
    ∃ u, (Instr.makeSlice 54 (.int .i64 0) (.int .i64 (c : Int))).run Tryz.prog w = .ok (.slice (some ⟨w.heap.size, 0, none⟩) 0 c) u ∧ OwnB u base (.slice (some ⟨w.heap.size, 0, none⟩) 0 c) [] ∧ Below base w u := by
  obtain ⟨i0, hi, hz0, hz1, hz2⟩ := infoByte_parts
  obtain ⟨u, h1, h2, h3⟩ := run_make_own (P := Tryz.prog) w base 54 5 i0 (.int .u8 0) 1 Tryz.underlying54 hi hz0 hz1 .i64 .i64 c (by rw [hz2]; omega) (by unfold maxLen; omega) hbase
  exact ⟨u, h1, h2, (Below.refl base w).grown h3 hbase (fun i hi => by cases hi)⟩

theorem le4_cells {n : Nat} (hn : n < 4294967296) : cellsB (le4 n) = [.int .u8 ((n : Int) % 256), .int .u8 ((n : Int) / 256 % 256), .int .u8 ((n : Int) / 65536 % 256), .int .u8 ((n : Int) / 16777216)] := by
  have e1 : (UInt8.ofNat (n % 256)).toNat = n % 256 := by simp
  have e2 : (UInt8.ofNat (n / 256 % 256)).toNat = n / 256 % 256 := by simp
  have e3 : (UInt8.ofNat (n / 65536 % 256)).toNat = n / 65536 % 256 := by simp
  have e4 : (UInt8.ofNat (n / 16777216)).toNat = n / 16777216 := by simp; omega
  have c1 : ((n % 256 : Nat) : Int) = (n : Int) % 256 := by omega
  have c2 : ((n / 256 % 256 : Nat) : Int) = (n : Int) / 256 % 256 := by omega
  have c3 : ((n / 65536 % 256 : Nat) : Int) = (n : Int) / 65536 % 256 := by omega
  have c4 : ((n / 16777216 : Nat) : Int) = (n : Int) / 16777216 := by omega
  rw [← c1, ← c2, ← c3, ← c4, ← e1, ← e2, ← e3, ← e4]
  rfl

set_option maxHeartbeats 400000 in
theorem fappendWord_any (n : Nat) (base : Nat) (out : Value) (l : List UInt8) (w : World) (hn : n < 4294967296) (hl : l.length ≤ 90000) (ho : OwnB w base out l) (hbase : base ≤ w.heap.size) :
    Calls Tryz.prog 113 #[out, .int .u32 (n : Int)] w fun e w' => ∃ v, e = .returned v ∧ OwnB w' base v (l ++ le4 n) ∧ Below base w w' := by
  have HO : Hid (OwnB w base out l) := ho
  have HC : Hid (cellsB (le4 n) = [.int .u8 ((n : Int) % 256), .int .u8 ((n : Int) / 256 % 256), .int .u8 ((n : Int) / 65536 % 256), .int .u8 ((n : Int) / 16777216)]) := le4_cells hn
  clear ho
  go_enter Tryz.func113, Tryz.ntmps113
  go_wp2_with (at_builtin; go_must (refine wpList_four rfl _ _ rfl base out l w (le4 n) 4 #[.int .u8 ((n : Int) % 256), .int .u8 ((n : Int) / 256 % 256), .int .u8 ((n : Int) / 65536 % 256), .int .u8 ((n : Int) / 16777216)] HC.out.symm rfl rfl HO.out _ rfl rfl (by omega) (by omega) ?_))
  intro v1 w1 ho1 hb1
  go_wp2
  go_ret
  exact ⟨_, rfl, ho1, hb1⟩

end Go.Proofs.YtigegdelhpdlhaaGreatDoor
