import Derived.Test.YtigegdelhpdlhaaGreatDoorFRefEJ
import Derived.Test.YtigegdelhpdlhaaGreatDoorLayCJ
import Derived.Test.YtigegdelhpdlhaaGreatDoorFRefBJ
import Derived.Deep.DeepMust
import Derived.Maps.AppendAt
import Derived.Deep.AppendLies
import Derived.Lib.AppendStr
import Derived.Lib.BufferRead
import Derived.Laws.IdiomStrings
import Derived.Handy
/- The program's look for a frame at a place is the document's. -/
namespace Go.Proofs.YtigegdelhpdlhaaGreatDoor
open Go.RowKit

theorem extract_list (b : ByteArray) (i j : Nat) : (b.extract i j).data.toList = (b.data.toList.take j).drop i := by
  rw [ByteArray.data_extract, Array.toList_extract, List.extract_eq_take_drop]
  rw [List.drop_take]

theorem take_all (b : ByteArray) : b.data.toList.take b.size = b.data.toList := List.take_of_length_le (Nat.le_refl _)

theorem un4_cut (l : List UInt8) (h : 4 ≤ l.length) : un4 (l.take 4) = un4 l := by
  match l, h with
  | p :: q :: r :: t :: _, _ => rfl

theorem un4_ext (b : ByteArray) {a : Nat} (h : a + 4 ≤ b.size) : un4 (b.extract a b.size).data.toList = lenAt b a := by
  have hl : b.data.toList.length = b.size := rfl
  unfold lenAt
  rw [extract_list, extract_list, take_all, ← un4_cut (b.data.toList.drop a) (by rw [List.length_drop]; omega), List.drop_take, Nat.add_sub_cancel_left]

theorem crc_ext (b : ByteArray) (a n : Nat) : ((b.extract a b.size).extract 0 (4 + n)).data.toList = (b.extract a (a + 4 + n)).data.toList := by
  rw [extract_list, extract_list, extract_list, List.drop_zero, take_all, List.drop_take, show a + 4 + n - a = 4 + n by omega]

theorem was_ext (b : ByteArray) {a n : Nat} (h : a + 8 + n ≤ b.size) : un4 ((b.extract a b.size).extract (4 + n) (b.extract a b.size).size).data.toList = wasAt b a n := by
  have hl : b.data.toList.length = b.size := rfl
  unfold wasAt
  rw [extract_list, extract_list, extract_list, take_all, ByteArray.size_extract, List.take_of_length_le (by rw [List.length_drop]; omega), List.drop_drop, ← un4_cut _ (by rw [List.length_drop]; omega), List.drop_take,
    show a + 8 + n - (a + 4 + n) = 4 by omega, show a + (4 + n) = a + 4 + n by omega]

/-- what is found at a place, by the look at what stands from there on -/
theorem found_lk (b : ByteArray) {a : Nat} (h : a ≤ b.size) : found b a =
    (if (lk (b.extract a b.size)).2 = 0 then ⟨b.extract (a + 4) (a + 4 + (lk (b.extract a b.size)).1), (a : Int) + 8 + (lk (b.extract a b.size)).1, 0, 0⟩ else ⟨.empty, 0, a, (lk (b.extract a b.size)).2⟩) ∧
    ((lk (b.extract a b.size)).2 = 0 → a + 8 + (lk (b.extract a b.size)).1 ≤ b.size ∧ (lk (b.extract a b.size)).1 ≤ 65536) := by
  have hs : (b.extract a b.size).size = b.size - a := by rw [ByteArray.size_extract]; omega
  have h0 : ¬ ((a : Int) < 0 ∨ (b.size : Int) < a) := by omega
  have ht : (a : Int).toNat = a := by omega
  by_cases h4 : b.size < a + 4
  · have e : lk (b.extract a b.size) = (0, 61) := by unfold lk; rw [if_pos (by omega)]
    rw [e]
    exact ⟨by unfold found; rw [if_neg h0, ht, if_pos h4, if_neg (by decide)], fun h => by cases h⟩
  have hu := un4_ext b (a := a) (by omega)
  by_cases h5 : 65536 < lenAt b a
  · have e : lk (b.extract a b.size) = (0, 2) := by unfold lk; rw [if_neg (by omega), hu, if_pos h5]
    rw [e]
    exact ⟨by unfold found; rw [if_neg h0, ht, if_neg h4, if_pos h5, if_neg (by decide)], fun h => by cases h⟩
  by_cases h6 : b.size < a + 8 + lenAt b a
  · have e : lk (b.extract a b.size) = (0, 61) := by unfold lk; rw [if_neg (by omega), hu, if_neg h5, if_pos (by omega)]
    rw [e]
    exact ⟨by unfold found; rw [if_neg h0, ht, if_neg h4, if_neg h5, if_pos h6, if_neg (by decide)], fun h => by cases h⟩
  have e1 : un4 ((b.extract a b.size).extract (4 + lenAt b a) (b.extract a b.size).size).data.toList = wasAt b a (lenAt b a) := was_ext b (by omega)
  have e2 : crc ((b.extract a b.size).extract 0 (4 + lenAt b a)).data.toList = sumAt b a (lenAt b a) := by rw [crc_ext b]; rfl
  by_cases h7 : sumAt b a (lenAt b a) ≠ wasAt b a (lenAt b a)
  · have e : lk (b.extract a b.size) = (0, 60) := by unfold lk; rw [if_neg (by omega), hu, if_neg h5, if_neg (by omega), e1, e2, if_pos (Ne.symm h7)]
    rw [e]
    exact ⟨by unfold found; rw [if_neg h0, ht, if_neg h4, if_neg h5, if_neg h6, if_pos h7, if_neg (by decide)], fun h => by cases h⟩
  · have e : lk (b.extract a b.size) = (lenAt b a, 0) := by unfold lk; rw [if_neg (by omega), hu, if_neg h5, if_neg (by omega), e1, e2, if_neg (fun h => h7 (Ne.symm h))]
    rw [e]
    exact ⟨by unfold found; rw [if_neg h0, ht, if_neg h4, if_neg h5, if_neg h6, if_neg h7, if_pos rfl], fun _ => ⟨by dsimp only; omega, by dsimp only; omega⟩⟩

theorem fault_kept {w w2 : World} {m : Nat} (h : Below ((w.alloc (.cells #[.int .i64 0, .int .i64 0] 176)).drewN m).heap.size ((w.alloc (.cells #[.int .i64 0, .int .i64 0] 176)).drewN m) w2) :
    w2.heap[w.heap.size]? = some (.cells #[.int .i64 0, .int .i64 0] 176 (0, 0)) := by
  rw [h.block _ (by show w.heap.size < (w.alloc _).heap.size; simp)]
  exact heap_new w _

theorem fault_set {w2 : World} {g : Nat} (h : w2.heap[g]? = some (.cells #[.int .i64 0, .int .i64 0] 176 (0, 0))) :
    (w2.setCell ⟨g, 0, none⟩ (.int .i64 0)).cell? ⟨g, 0, none⟩ = some (.int .i64 0) ∧ ((w2.setCell ⟨g, 0, none⟩ (.int .i64 0)).setCell ⟨g, 1, none⟩ (.int .i64 0)).cell? ⟨g, 1, none⟩ = some (.int .i64 0) := by
  have h1 := heap_setCell_same h 0 (.int .i64 0)
  have h2 := heap_setCell_same h1 1 (.int .i64 0)
  exact ⟨by rw [cell_of h1]; rfl, by rw [cell_of h2]; rfl⟩

set_option maxHeartbeats 800000 in
theorem fUnframe_any (b : ByteArray) (x : Int) (w : World) (hb : b.size ≤ 562949953421312) :
    Calls Tryz.prog 121 #[.string b, .int .i64 x] w fun e w' => e = .returned (found b x).en ∧ Below w.heap.size w w' := by
  by_cases h0 : x < 0 ∨ (b.size : Int) < x
  · have HF : Hid (found b x = ⟨.empty, 0, 0, 1⟩) := (by unfold found; rw [if_pos h0] : _ = _)
    rw [HF.out]
    by_cases h1 : x < 0
    · go_enter Tryz.func121, Tryz.ntmps121
      go_wp2
      refine bodyPost_ret (by simp [results, Tryz.results121, go_sem]; rfl) rfl ?_
      exact ⟨rfl, by go_grown⟩
    · have h2 : (b.size : Int) < x := by omega
      go_enter Tryz.func121, Tryz.ntmps121
      go_wp2
      refine bodyPost_ret (by simp [results, Tryz.results121, go_sem]; rfl) rfl ?_
      exact ⟨rfl, by go_grown⟩
  obtain ⟨a, rfl⟩ : ∃ a : Nat, x = (a : Int) := ⟨x.toNat, by omega⟩
  have ha : a ≤ b.size := by omega
  obtain ⟨s, hs⟩ : ∃ s, b.extract a b.size = s := ⟨_, rfl⟩
  have hss : s.size ≤ maxLen := by rw [← hs, ByteArray.size_extract]; unfold maxLen; omega
  have hfl := found_lk b ha
  rw [hs] at hfl
  obtain ⟨L, hL⟩ : ∃ L, lk s = L := ⟨_, rfl⟩
  rw [hL] at hfl
  have HK : Hid (∀ w : World, Calls Tryz.prog 145 #[.string s] w fun e w' => e = .returned (.tuple #[.int .i64 (L.1 : Int), .int .i64 L.2]) ∧ ∃ m, w' = w.drewN m) := fun w => hL ▸ flook_any s w hss
  obtain ⟨n, e⟩ := L
  dsimp only at hfl HK
  have k1 : ∀ w : World, (Instr.slice 9 (.string b) (some (.int .i64 (a : Int))) none none).run Tryz.prog w = .ok (.string s) w := fun w => by
    have h := run_slice_string_l (P := Tryz.prog) w 9 b Tryz.underlying9 .i64 (a : Int) (by omega) (by omega)
    rw [show (a : Int).toNat = a by omega, hs] at h
    exact h
  by_cases he : e = 0
  · subst he
    obtain ⟨h8, h9⟩ := hfl.2 rfl
    have HF : Hid (found b a = ⟨b.extract (a + 4) (a + 4 + n), (a : Int) + 8 + n, 0, 0⟩) := (by rw [hfl.1, if_pos rfl] : _ = _)
    rw [HF.out]
    have x1 : IntKind.i64.wrap ((a : Int) + 4) = (a : Int) + 4 := wrap_small _ (by omega) (by omega)
    have x2 : IntKind.i64.wrap ((a : Int) + 4 + n) = (a : Int) + 4 + n := wrap_small _ (by omega) (by omega)
    have x3 : IntKind.i64.wrap ((a : Int) + 4 + n + 4) = (a : Int) + 8 + n := by rw [wrap_small _ (by omega) (by omega)]; omega
    have k2 : ∀ w : World, (Instr.slice 9 (.string b) (some (.int .i64 ((a : Int) + 4))) (some (.int .i64 ((a : Int) + 4 + n))) none).run Tryz.prog w = .ok (.string (b.extract (a + 4) (a + 4 + n))) w := fun w => by
      rw [run_slice_string w 9 b .i64 .i64 _ _ Tryz.underlying9 (by omega) (by omega) (by omega), show ((a : Int) + 4 + n).toNat = a + 4 + n by omega]
      rfl
    obtain ⟨y, hy⟩ : ∃ y, b.extract (a + 4) (a + 4 + n) = y := ⟨_, rfl⟩
    rw [hy] at k2
    rw [hy]
    have HC : Hid (∀ w : World, Calls Tryz.prog 146 #[.string y] w fun e w' => e = .returned (.string y) ∧ Below w.heap.size w w') := fun w => sClone_any y w (by rw [← hy, ByteArray.size_extract]; omega)
    clear h0 hs hss hfl hL hy
    go_enter Tryz.func121, Tryz.ntmps121
    go_wp2_with (first
      | (go_at_call 145; refine (HK.out _).mono ?_; rintro e w1 ⟨rfl, m, rfl⟩)
      | (go_at_call 146; refine (HC.out _).mono ?_; rintro e w2 ⟨rfl, hw2⟩; have q0 := cell_of (fault_kept hw2) 0; have q1 := cell_of (fault_kept hw2) 1; have q2 := frozen_of (fault_kept hw2) 0; have q3 := frozen_of (fault_kept hw2) 1; rw [show (#[Value.int .i64 0, Value.int .i64 0] : Array Value)[0]? = some (.int .i64 0) from rfl] at q0; rw [show (#[Value.int .i64 0, Value.int .i64 0] : Array Value)[1]? = some (.int .i64 0) from rfl] at q1))
    obtain ⟨r0, r1⟩ := fault_set (fault_kept hw2)
    refine bodyPost_ret (by simp [results, Tryz.results121, go_sem, r0, r1]; rfl) rfl ?_
    have hb1 : Below w.heap.size w ((w.alloc (.cells #[.int .i64 0, .int .i64 0] 176)).drewN m) := below_draws ((Below.refl _ _).alloc (Nat.le_refl _) _) _
    exact ⟨rfl, by go_grown; exact hb1.trans (hw2.mono hb1.size)⟩
  · have HF : Hid (found b a = ⟨.empty, 0, a, e⟩) := (by rw [hfl.1, if_neg he] : _ = _)
    rw [HF.out]
    have he' : (e != 0) = true := by simpa using he
    clear h0 hs hss hfl hL he
    go_enter Tryz.func121, Tryz.ntmps121
    go_wp2_with (go_at_call 145; refine (HK.out _).mono ?_; rintro e w1 ⟨rfl, m, rfl⟩)
    refine bodyPost_ret (by simp [results, Tryz.results121, go_sem]; rfl) rfl ?_
    exact ⟨rfl, by go_grown; exact below_draws ((Below.refl _ _).alloc (Nat.le_refl _) _) _⟩

end Go.Proofs.YtigegdelhpdlhaaGreatDoor

/- The program's frames, one behind the other, are the document's. -/
namespace Go.Proofs.YtigegdelhpdlhaaGreatDoor
open Go.RowKit

set_option maxRecDepth 100000 in
set_option maxHeartbeats 1000000 in
theorem fFrames_any (b : ByteArray) (w : World) (hb : b.size ≤ 35184372088832) :
    Calls Tryz.prog 120 #[.string b] w fun e w' => ∃ v, e = .returned (.tuple #[v, .int .i64 ((frames b).2 : Int)]) ∧ w'.ownsRow w.heap.size 9 1 v (frames b).1.length ((frames b).1.map Go.Proofs.encStr) ∧ Below w.heap.size w w' := by
  obtain ⟨i0, hi, hz0, hz1, hz2⟩ := infoStr_parts
  have HB : Hid (b.size ≤ 35184372088832) := hb
  go_enter Tryz.func120, Tryz.ntmps120
  go_wp2_with fail
  go_loopw [2, 3] (fun out i wr => ∃ (a : Nat) (L : List (List UInt8)), a ≤ b.size ∧ i = .int .i64 a ∧ 8 * L.length ≤ a ∧ frames b = (L ++ (framesAt b a).1, (framesAt b a).2) ∧ wr.ownsRow w.heap.size 9 1 out L.length (L.map Go.Proofs.encStr) ∧ Below w.heap.size w wr) (fun _ i _ => b.size - (intOf i).toNat)
  case atStart => exact ⟨0, [], Nat.zero_le _, rfl, Nat.le_refl _, rfl, World.ownsRow_nil _ _ _ _, Below.refl _ _⟩
  case round =>
    obtain ⟨a, L, ha, rfl, h8, hfr, hrow, hbr⟩ := hrel
    have HR : Hid (wr.ownsRow w.heap.size 9 1 u2 L.length (L.map Go.Proofs.encStr)) := hrow
    have HF : Hid (frames b = (L ++ (framesAt b a).1, (framesAt b a).2)) := hfr
    have hsz1 : w.heap.size ≤ wr.heap.size := hbr.size
    obtain ⟨F, hF⟩ : ∃ F, found b a = F := ⟨_, rfl⟩
    have HU : Hid (Calls Tryz.prog 121 #[.string b, .int .i64 (a : Int)] wr fun e w' => e = .returned F.en ∧ Below wr.heap.size wr w') := hF ▸ fUnframe_any b a wr (Nat.le_trans HB.out (by decide))
    clear hrow hfr
    obtain ⟨x, s, p, c⟩ := F
    have hen : (Found.mk x s p c).en = .tuple #[.string x, .int .i64 s, .agg #[.int .i64 p, .int .i64 c]] := rfl
    rw [hen] at HU
    by_cases hc : c = 0
    · subst hc
      obtain ⟨k, hk, hk1, hk2⟩ := found_ok (b := b) (a := a) (by rw [hF])
      have HN : Hid (framesAt b a = (x.data.toList :: (framesAt b k).1, (framesAt b k).2)) := (by
        rw [framesAt_next (by rw [hF]) hk, hF] : _ = _)
      rw [hF] at hk
      have hk' : s = (k : Int) := hk
      clear hk hF
      subst hk'
      go_wp2_with (first
        | (go_at_call 121; refine (HU.out).mono ?_; rintro e w1 ⟨rfl, hw1⟩; have HR1 : Hid (w1.ownsRow w.heap.size 9 1 u2 L.length (L.map Go.Proofs.encStr)) := row_kept HR.out hw1; have hsz2 : w.heap.size ≤ w1.heap.size := Nat.le_trans hsz1 hw1.size)
        | (at_builtin; go_must (refine wpList_append_own _ rfl _ _ 79 rfl w.heap.size 9 i0 (.string ByteArray.empty) 1 16 Tryz.underlying79 hi hz0 hz1 hz2 rfl (by decide) _ L.length _ rfl ((HR1.out.alloc _).alloc _) ⟨w1.heap.size + 1, 0, none⟩ 1 1 [.string x] rfl rfl ?q1 ?q2 ?q3 ?q4 ?q5 ?_)))
      case q1 =>
        intro i u hu
        rw [Addr.add_lit]
        match i, hu with
        | 0, hu => simpa [go_sem] using hu
      case q2 =>
        intro u hu
        simp only [List.mem_cons, List.not_mem_nil, or_false] at hu
        subst hu
        rfl
      case q3 => unfold maxLen; omega
      case q4 => omega
      case q5 => simp; omega
      intro v' w3 hown3 hgrow3 _
      go_wp2
      go_roundw
      case rel =>
        refine ⟨k, L ++ [x.data.toList], by omega, by go_num, by simp; omega, ?_, ?_, ?_⟩
        · rw [HF.out, HN.out]
          simp
        · rw [List.map_append, List.length_append]
          have e3 : [x.data.toList].map Go.Proofs.encStr = [Value.string x] := by
            show [Go.Proofs.encStr x.data.toList] = _
            rw [enc_self]
          rw [e3]
          exact hown3
        · exact (((hbr.trans (hw1.mono hsz1)).alloc (by omega) _).alloc (by simp; omega) _).grown hgrow3 (by simp; omega) (fun i hi => (HR1.out.lt i hi).1)
      case measure => simp [intOf]; omega
    · have HN : Hid (framesAt b a = ([], a)) := framesAt_end (by rw [hF]; exact hc)
      have hc' : (c != 0) = true := by simpa using hc
      clear hF
      go_wp2_with (go_at_call 121; refine (HU.out).mono ?_; rintro e w1 ⟨rfl, hw1⟩)
      go_ret2
      rw [HF.out, HN.out]
      refine ⟨_, rfl, ?_, (hbr.trans (hw1.mono hsz1)).alloc (Nat.le_trans hsz1 hw1.size) _⟩
      rw [List.append_nil]
      exact (row_kept HR.out hw1).alloc _

end Go.Proofs.YtigegdelhpdlhaaGreatDoor

/- Own slices of bytes: put behind, and read as a string. -/
namespace Go.Proofs.YtigegdelhpdlhaaGreatDoor
open Go.RowKit

def cellsB (l : List UInt8) : List Value := l.map fun c => Value.int .u8 c.toNat

/-- an own slice of bytes -/
def OwnB (w : World) (base : Nat) (v : Value) (l : List UInt8) : Prop := w.ownsRow base 5 1 v l.length (cellsB l)

theorem infoByte : (Tryz.prog.info? 5).map (fun i => (i.zero, i.size, i.bytes)) = some (some (.int .u8 0), 1, 1) := by kernel_rfl

theorem infoByte_parts : ∃ i, Tryz.prog.info? 5 = some i ∧ i.zero = some (.int .u8 0) ∧ i.size = 1 ∧ i.bytes = 1 := by
  have h := infoByte
  cases hq : Tryz.prog.info? 5 with
  | none => rw [hq] at h; cases h
  | some i =>
    rw [hq] at h
    simp only [Option.map_some, Option.some.injEq, Prod.mk.injEq] at h
    exact ⟨i, rfl, h.1, h.2.1, h.2.2⟩

theorem OwnB.kept {w w' : World} {base : Nat} {v : Value} {l : List UInt8} (h : OwnB w base v l) (hb : Below w.heap.size w w') : OwnB w' base v l :=
  ownsRow_block h fun g hg => hb.block g (World.ownsRow.lt h g hg).2

theorem OwnB.str {w : World} {base : Nat} {v : Value} {l : List UInt8} (h : OwnB w base v l) : (convert 54 9 v).run Tryz.prog w = .ok (.string (bytesOf l)) w := by
  rcases h.2 with ⟨rfl, hl⟩ | ⟨g, cap, cur, rfl, -, -, -, -, -, -⟩
  · have e : l = [] := List.eq_nil_of_length_eq_zero hl
    subst e
    exact Lib.run_convert_nil_bytes w 54 9 5 0 Tryz.underlying54 Tryz.underlying5 Tryz.underlying9
  · refine run_convert_bytes_back w 54 9 5 ⟨g, 0, none⟩ cap l Tryz.underlying54 Tryz.underlying5 Tryz.underlying9 fun j hj => ?_
    exact World.ownsRow.cells h (g := g) rfl j _ (by simp [cellsB, hj])

/-- four bytes put behind an own slice of bytes -/
theorem wpList_four {ops : Array Oper} {rest : List Oper} {o : Oper} {a : Act} {Q : Exit → Act → World → Prop} (hgd : o.guard = none) (s x : Operand)
    (ho : o.op = .call { callee := .builtin .append, args := #[s, x], argTypes := #[54, 54] })
    (base : Nat) (v : Value) (l : List UInt8) (w : World) (C : List UInt8) (m : Nat) (cs : Array Value) (hC : cs.toList = cellsB C) (hm : C.length = m) (hs : a.eval s = v) (hown : OwnB w base v l) (g : Nat) (hg : w.heap.size = g) (hx : a.eval x = .slice (some ⟨g, 0, none⟩) m m)
    (hL : l.length + m ≤ 100000) (hbase : base ≤ w.heap.size)
    (h : ∀ v' w', OwnB w' base v' (l ++ C) → Below base w w' → wpList Tryz.prog ops Q rest (a.put o.dst v') w') :
    wpList Tryz.prog ops Q (o :: rest) a (w.alloc (.cells cs 5)) := by
  subst hg
  obtain ⟨i0, hi, hz0, hz1, hz2⟩ := infoByte_parts
  have hb : (w.alloc (.cells cs 5)).heap[w.heap.size]? = some (.cells cs 5) := by simp [World.alloc, -World.alloc_eq]
  refine wpList_append_own_at _ hgd s x 54 ho base 5 i0 (.int .u8 0) 1 1 Tryz.underlying54 hi hz0 hz1 hz2 rfl (by decide) v l.length (cellsB l) hs (World.ownsRow.alloc hown _) ⟨w.heap.size, 0, none⟩ m m (cellsB C) hx ?_ ?_ ?_ ?_ ?_ ?_ ?_
  · rw [cellsB, List.length_map, hm, Nat.mul_one]
  · rw [← hC]
    exact World.news_of_block hb
  · intro u hu
    obtain ⟨c, -, rfl⟩ := List.mem_map.1 hu
    rfl
  · unfold maxLen; omega
  · omega
  · simp; omega
  · intro v' w' h1 h2 _ _
    refine h v' w' ?_ ?_
    · unfold OwnB
      rw [cellsB, List.map_append, List.length_append, hm]
      exact h1
    · exact ((Below.refl base w).alloc hbase _).grown h2 (by simp; omega) (fun i hi => (World.ownsRow.lt hown i hi).1)

/-- a string's bytes put behind an own slice of bytes -/
theorem wpList_text {ops : Array Oper} {rest : List Oper} {o : Oper} {a : Act} {Q : Exit → Act → World → Prop} (hgd : o.guard = none) (sl x : Operand)
    (ho : o.op = .call { callee := .builtin .append, args := #[sl, x], argTypes := #[54, 9] })
    (base : Nat) (v : Value) (l : List UInt8) (w : World) (hs : a.eval sl = v) (hown : OwnB w base v l) (s : ByteArray) (hx : a.eval x = .string s)
    (hL : l.length + s.size ≤ 100000) (hbase : base ≤ w.heap.size)
    (h : ∀ v' w', OwnB w' base v' (l ++ s.data.toList) → Below base w w' → wpList Tryz.prog ops Q rest (a.put o.dst v') w') : wpList Tryz.prog ops Q (o :: rest) a w := by
  obtain ⟨i0, hi, hz0, hz1, hz2⟩ := infoByte_parts
  refine Lib.wpList_append_own_string _ hgd sl x 54 9 ho base 5 i0 Tryz.underlying54 Tryz.underlying9 hi hz0 hz1 hz2 v l.length (cellsB l) hs hown s hx (by unfold maxLen; omega) (by omega) hbase ?_
  intro v' w' h1 h2 _
  refine h v' w' ?_ ((Below.refl base w).grown h2 hbase (fun i hi => (World.ownsRow.lt hown i hi).1))
  unfold OwnB
  rw [cellsB, List.map_append, List.length_append]
  exact h1

theorem made_own (w : World) (base c : Nat) (hc : c ≤ 281474976710656) (hbase : base ≤ w.heap.size) :
    ∃ u, (Instr.makeSlice 54 (.int .i64 0) (.int .i64 (c : Int))).run Tryz.prog w = .ok (.slice (some ⟨w.heap.size, 0, none⟩) 0 c) u ∧ OwnB u base (.slice (some ⟨w.heap.size, 0, none⟩) 0 c) [] ∧ Below base w u := by
  obtain ⟨i0, hi, hz0, hz1, hz2⟩ := infoByte_parts
  obtain ⟨u, h1, h2, h3⟩ := run_make_own (P := Tryz.prog) w base 54 5 i0 (.int .u8 0) 1 Tryz.underlying54 hi hz0 hz1 .i64 .i64 c (by rw [hz2]; omega) (by unfold maxLen; omega) hbase
  exact ⟨u, h1, h2, (Below.refl base w).grown h3 hbase (fun i hi => by cases hi)⟩

theorem le4_cells {n : Nat} (hn : n < 4294967296) : cellsB (le4 n) = [.int .u8 ((n : Int) % 256), .int .u8 ((n : Int) / 256 % 256), .int .u8 ((n : Int) / 65536 % 256), .int .u8 ((n : Int) / 16777216)] := by
  have e1 : (UInt8.ofNat (n % 256)).toNat = n % 256 := by simp
  have e2 : (UInt8.ofNat (n / 256 % 256)).toNat = n / 256 % 256 := by simp
  have e3 : (UInt8.ofNat (n / 65536 % 256)).toNat = n / 65536 % 256 := by simp
  have e4 : (UInt8.ofNat (n / 16777216)).toNat = n / 16777216 := by simp; omega
  have c1 : ((n % 256 : Nat) : Int) = (n : Int) % 256 := by omega
  have c2 : ((n / 256 % 256 : Nat) : Int) = (n : Int) / 256 % 256 := by omega
  have c3 : ((n / 65536 % 256 : Nat) : Int) = (n : Int) / 65536 % 256 := by omega
  have c4 : ((n / 16777216 : Nat) : Int) = (n : Int) / 16777216 := by omega
  rw [← c1, ← c2, ← c3, ← c4, ← e1, ← e2, ← e3, ← e4]
  rfl

set_option maxHeartbeats 400000 in
theorem fappendWord_any (n : Nat) (base : Nat) (out : Value) (l : List UInt8) (w : World) (hn : n < 4294967296) (hl : l.length ≤ 90000) (ho : OwnB w base out l) (hbase : base ≤ w.heap.size) :
    Calls Tryz.prog 113 #[out, .int .u32 (n : Int)] w fun e w' => ∃ v, e = .returned v ∧ OwnB w' base v (l ++ le4 n) ∧ Below base w w' := by
  have HO : Hid (OwnB w base out l) := ho
  have HC : Hid (cellsB (le4 n) = [.int .u8 ((n : Int) % 256), .int .u8 ((n : Int) / 256 % 256), .int .u8 ((n : Int) / 65536 % 256), .int .u8 ((n : Int) / 16777216)]) := le4_cells hn
  clear ho
  go_enter Tryz.func113, Tryz.ntmps113
  go_wp2_with (at_builtin; go_must (refine wpList_four rfl _ _ rfl base out l w (le4 n) 4 #[.int .u8 ((n : Int) % 256), .int .u8 ((n : Int) / 256 % 256), .int .u8 ((n : Int) / 65536 % 256), .int .u8 ((n : Int) / 16777216)] HC.out.symm rfl rfl HO.out _ rfl rfl (by omega) (by omega) ?_))
  intro v1 w1 ho1 hb1
  go_wp2
  go_ret
  exact ⟨_, rfl, ho1, hb1⟩

end Go.Proofs.YtigegdelhpdlhaaGreatDoor
