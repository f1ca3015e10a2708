import Derived.Test.YtnboanlhdllhnaaGreatZNamesJ
import Derived.Lib.AppendStr
import Derived.Test.YtnboanlhdllhnaaGreatZMid
import Derived.Test.YtnboanlhdllhnaaGreatGrow
import Derived.Laws.IdiomStrings
import Derived.Lib.BufferRead
/- mess: the writer's put and number. -/
namespace Go.Proofs.YtnboanlhdllhnaaGreat
open Go.RowKit

def bytesOf (l : List UInt8) : ByteArray := ⟨l.toArray⟩
theorem bytesOf_list (l : List UInt8) : (bytesOf l).data.toList = l := by simp [bytesOf]
theorem bytesOf_size (l : List UInt8) : (bytesOf l).size = l.length := List.size_toArray

/-- an own slice of bytes -/
def OwnB (w : World) (base : Nat) (v : Value) (l : List UInt8) : Prop := w.ownsRow base 5 1 v l.length (bcells l)

theorem infoByte_parts : ∃ i, Tryz.prog.info? 5 = some i ∧ i.zero = some (.int .u8 0) ∧ i.size = 1 ∧ i.bytes = 1 := info_parts (by kernel_rfl)

theorem OwnB.shape {w : World} {base : Nat} {v : Value} {l : List UInt8} (h : OwnB w base v l) : ∃ A c, v = .slice A l.length c ∧ l.length ≤ c ∧ c ≤ 9223372036854775807 := by
  rcases h.2 with ⟨rfl, hl⟩ | ⟨g, cap, cur, rfl, -, -, h4, h5, -⟩
  · exact ⟨none, 0, by rw [hl], by omega, by omega⟩
  · unfold maxLen at h5
    exact ⟨_, _, rfl, h4, by omega⟩
theorem OwnB.block {w w' : World} {base : Nat} {v : Value} {l : List UInt8} (h : OwnB w base v l) (e : ∀ g, v.ownBlock = some g → w'.heap[g]? = w.heap[g]?) : OwnB w' base v l := ownsRow_block h e
theorem OwnB.lt {w : World} {base : Nat} {v : Value} {l : List UInt8} (h : OwnB w base v l) {g : Nat} (hg : v.ownBlock = some g) : base ≤ g ∧ g < w.heap.size := World.ownsRow.lt h g hg
theorem OwnB.kept {w w' : World} {base : Nat} {v : Value} {l : List UInt8} (h : OwnB w base v l) (hb : Below w.heap.size w w') : OwnB w' base v l :=
  h.block fun g hg => hb.block g (h.lt hg).2
theorem OwnB.ne {w : World} {base : Nat} {v : Value} {l : List UInt8} (h : OwnB w base v l) {b : Nat} {c : Array Value} {t : TypeId} {fz : Nat × Nat} (hb : w.heap[b]? = some (.cells c t fz)) (ht : t ≠ 5) {g : Nat} (hg : v.ownBlock = some g) : g ≠ b := by
  intro e
  subst e
  obtain ⟨cur, hc, _⟩ := ownsRow_own h hg
  rw [hb] at hc
  simp only [Option.some.injEq, Obj.cells.injEq] at hc
  exact ht hc.2.1

theorem OwnB.str {w : World} {base : Nat} {v : Value} {l : List UInt8} (h : OwnB w base v l) : (convert 73 9 v).run Tryz.prog w = .ok (.string (bytesOf l)) w := by
  rcases h.2 with ⟨rfl, hl⟩ | ⟨g, cap, cur, rfl, -, -, -, -, -, -⟩
  · have e : l = [] := List.eq_nil_of_length_eq_zero hl
    subst e
    exact Lib.run_convert_nil_bytes w 73 9 5 0 Tryz.underlying73 Tryz.underlying5 Tryz.underlying9
  · refine run_convert_bytes_back w 73 9 5 ⟨g, 0, none⟩ cap l Tryz.underlying73 Tryz.underlying5 Tryz.underlying9 fun j hj => ?_
    exact World.ownsRow.cells h (g := g) rfl j _ (bcells_get hj)

/-- a string's bytes put behind an own slice of bytes: what is turned, and where the new one lies -/
theorem wpList_textT {w : World} {ops : Array Oper} {rest : List Oper} {o : Oper} {a : Act} {Q : Exit → Act → World → Prop} (hgd : o.guard = none) (sl x : Operand)
    (ho : o.op = .call { callee := .builtin .append, args := #[sl, x], argTypes := #[73, 9] })
    (v : Value) (l : List UInt8) (hs : a.eval sl = v) (hown : OwnB w 0 v l) (s : ByteArray) (hx : a.eval x = .string s)
    (hL : l.length + s.size ≤ 10000000)
    (h : ∀ A c w' m, Hid ((l ++ s.data.toList).length = m) → Hid (OwnB w' 0 (.slice A m c) (l ++ s.data.toList)) → Hid (Turn (fun i => v.ownBlock = some i) w w') → Hid (∀ b, (Value.slice A m c).ownBlock = some b → v.ownBlock = some b ∨ w.heap.size ≤ b) → wpList Tryz.prog ops Q rest (a.put o.dst (.slice A m c)) w') : wpList Tryz.prog ops Q (o :: rest) a w := by
  obtain ⟨i0, hi, hz0, hz1, hz2⟩ := infoByte_parts
  refine wpList_append_str _ hgd sl x 73 9 ho 5 i0 Tryz.underlying73 Tryz.underlying9 hi hz0 hz1 hz2 v l.length (bcells l) hs hown s hx (by unfold maxLen; omega) (by omega) ?_
  intro A c w' h1 h2 h3
  refine h A c w' (l.length + s.size) (by show _ = _; rw [List.length_append, size_list]) ?_ (Turn.ofGrown h2 fun k hk => hk) h3
  show OwnB _ _ _ _
  unfold OwnB
  rw [bcells_append, List.length_append, size_list]
  exact h1

/-- a writer in block b: what it has written -/
def WrI (b : Nat) (l : List UInt8) (w : World) (F : Nat → Prop) : Prop :=
  ∃ A c, w.heap[b]? = some (.cells #[.slice A l.length c, .bool false, .bool false] 122 (0, 0)) ∧ OwnB w 0 (.slice A l.length c) l ∧ ∀ i, F i ↔ (i = b ∨ Value.ownBlock (.slice A l.length c) = some i)

theorem wrI_res (b : Nat) (l : List UInt8) : Res (WrI b l) := by
  refine ⟨fun {w F} h i hi => ?_, fun {w w' F S} h ht hS => ?_⟩
  · obtain ⟨A, c, h1, h2, h3⟩ := h
    rcases (h3 i).1 hi with rfl | h
    · exact lt_of h1
    · exact (h2.lt h).2
  · obtain ⟨A, c, h1, h2, h3⟩ := h
    refine ⟨A, c, (ht.block b (lt_of h1) (hS b ((h3 b).2 (Or.inl rfl)))).trans h1, h2.block fun g hg => ht.block g (h2.lt hg).2 (hS g ((h3 g).2 (Or.inr hg))), h3⟩

set_option maxRecDepth 100000 in
set_option maxHeartbeats 1000000 in
theorem put_any (b : Nat) (l : List UInt8) (s : ByteArray) (w : World) (F : Nat → Prop) (h : WrI b l w F) (hl : l.length + s.size ≤ 65536) :
    Calls Tryz.prog 88 #[.pointer (some ⟨b, 0, none⟩), .string s] w fun e w' => e = .returned (.tuple #[]) ∧ Goes (WrI b (l ++ s.data.toList)) w w' F := by
  obtain ⟨A, c, h1, h2, h3⟩ := h
  have hlt := lt_of h1
  have HF : Hid (∀ i, F i ↔ (i = b ∨ Value.ownBlock (.slice A l.length c) = some i)) := h3
  have HO : Hid (OwnB w 0 (.slice A l.length c) l) := h2
  have HB : Hid (w.heap[b]? = some (.cells #[.slice A l.length c, .bool false, .bool false] 122 (0, 0))) := h1
  obtain ⟨A1, c1, e1, g1, g2⟩ := h2.shape
  cases e1
  have q0 : w.cell? ⟨b, 0, none⟩ = some (.slice A l.length c) := by rw [cell_of h1]; rfl
  have q2 : w.cell? ⟨b, 2, none⟩ = some (.bool false) := by rw [cell_of h1]; rfl
  obtain ⟨n, hn⟩ : ∃ n, l.length = n := ⟨_, rfl⟩
  have HL : Hid (l.length + s.size ≤ 10000000) := by show _ ≤ _; omega
  rw [hn] at HO HB HF q0 hl g1
  have k1 : ¬ (65536 - (n : Int) < (s.size : Int)) := by omega
  have k2 : IntKind.i64.wrap (65536 - (n : Int)) = 65536 - (n : Int) := wrap_small _ (by omega) (by omega)
  clear h1 h2 h3 hn
  go_enter Tryz.func88, Tryz.ntmps88
  go_wp2_with (at_builtin; go_must (refine wpList_textT rfl _ _ rfl (.slice A n c) l rfl HO.out s rfl HL.out ?_))
  intro A' c' w' m HM HO2 HT HP
  have hB2 := (HT.out.block b hlt (fun e => HO.out.ne HB.out (by decide) e rfl)).trans HB.out
  have q3 : w'.cell? ⟨b, 0, none⟩ = some (.slice A n c) := by rw [cell_of hB2]; rfl
  have q4 := frozen_of hB2 0
  have HB2 : Hid (w'.heap[b]? = some (.cells #[.slice A n c, .bool false, .bool false] 122 (0, 0))) := hB2
  clear hB2
  go_wp2
  go_end0
  have hm : (l ++ s.data.toList).length = m := by rw [List.length_append, size_list]; exact HM.out
  refine ⟨rfl, (fun i => i = b ∨ Value.ownBlock (.slice A' m c') = some i), ⟨A', c', ?_, ?_, ?_⟩, ?_, fun i hi => ?_⟩
  · rw [hm]
    exact heap_setCell_same HB2.out 0 _
  · rw [hm]
    exact HO2.out.block fun g hg => Below.heap_setCell w' ⟨b, 0, none⟩ _ g (fun e => HO2.out.ne HB2.out (by decide) hg e)
  · intro i
    rw [hm]
  · have t1 : Turn F w w' := HT.out.mono fun i hi => (HF.out i).2 (Or.inr hi)
    have t2 : Turn F w' (w'.setCell ⟨b, 0, none⟩ (.slice A' m c')) := Turn.setCell w' ⟨b, 0, none⟩ _ ((HF.out b).2 (Or.inl rfl))
    exact t1.trans t2
  · rcases hi with rfl | hi
    · exact Or.inl ((HF.out i).2 (Or.inl rfl))
    · rcases HP.out i hi with h | h
      · exact Or.inl ((HF.out i).2 (Or.inr h))
      · exact Or.inr h

theorem le8_cells (n : Int) : bcells (le8 n) = [.int .u8 (n % 256), .int .u8 (n / 256 % 256), .int .u8 (n / 65536 % 256), .int .u8 (n / 16777216 % 256), .int .u8 (n / 4294967296 % 256), .int .u8 (n / 1099511627776 % 256), .int .u8 (n / 281474976710656 % 256), .int .u8 (n / 72057594037927936 % 256)] := by
  have e : ∀ u : Nat, ((UInt8.ofNat (u % 256)).toNat : Int) = (u : Int) % 256 := fun u => by simp
  have hu : ((uOf n : Nat) : Int) = n % 18446744073709551616 := by unfold uOf; omega
  simp only [le8, leN, bcells, List.map_cons, List.map_nil, e]
  simp only [List.cons.injEq, Value.int.injEq, true_and, and_true]
  refine ⟨?_, ?_, ?_, ?_, ?_, ?_, ?_, ?_⟩ <;> omega

set_option maxRecDepth 100000 in
set_option maxHeartbeats 1000000 in
theorem wnumber_any (b : Nat) (l : List UInt8) (n : Int) (w : World) (F : Nat → Prop) (h : WrI b l w F) (hl : l.length + 8 ≤ 65536) (hn : I64 n) :
    Calls Tryz.prog 67 #[.pointer (some ⟨b, 0, none⟩), .int .i64 n] w fun e w' => e = .returned (.tuple #[]) ∧ Goes (WrI b (l ++ le8 n)) w w' F := by
  obtain ⟨n1, n2⟩ := hn
  have hcv : (convert 73 9 (.slice (some ⟨w.heap.size, 0, none⟩) 8 8)).run Tryz.prog (w.alloc (.cells #[.int .u8 (n % 256), .int .u8 (n / 256 % 256), .int .u8 (n / 65536 % 256), .int .u8 (n / 16777216 % 256), .int .u8 (n / 4294967296 % 256), .int .u8 (n / 1099511627776 % 256), .int .u8 (n / 281474976710656 % 256), .int .u8 (n / 72057594037927936 % 256)] 146)) = .ok (.string (bytesOf (le8 n))) (w.alloc (.cells #[.int .u8 (n % 256), .int .u8 (n / 256 % 256), .int .u8 (n / 65536 % 256), .int .u8 (n / 16777216 % 256), .int .u8 (n / 4294967296 % 256), .int .u8 (n / 1099511627776 % 256), .int .u8 (n / 281474976710656 % 256), .int .u8 (n / 72057594037927936 % 256)] 146)) := by
    have := run_convert_bytes_back (P := Tryz.prog) (w.alloc (.cells #[.int .u8 (n % 256), .int .u8 (n / 256 % 256), .int .u8 (n / 65536 % 256), .int .u8 (n / 16777216 % 256), .int .u8 (n / 4294967296 % 256), .int .u8 (n / 1099511627776 % 256), .int .u8 (n / 281474976710656 % 256), .int .u8 (n / 72057594037927936 % 256)] 146)) 73 9 5 ⟨w.heap.size, 0, none⟩ 8 (le8 n) Tryz.underlying73 Tryz.underlying5 Tryz.underlying9 (fun j hj => by
      rw [Addr.add_lit, cell_of (heap_new w _), Nat.zero_add, ← Array.getElem?_toList]
      show ([_, _, _, _, _, _, _, _] : List Value)[j]? = _
      rw [← le8_cells, bcells_get hj])
    rw [le8_length] at this
    exact this
  have HP : Hid (∀ o : Obj, Calls Tryz.prog 88 #[.pointer (some ⟨b, 0, none⟩), .string (bytesOf (le8 n))] (w.alloc o) fun e w' => e = .returned (.tuple #[]) ∧ Hid (Goes (WrI b (l ++ le8 n)) w w' F)) := fun o => by
    obtain ⟨A, h1, h2⟩ := ((MidS.start h).alloc (wrI_res _ _) o).call
    refine (put_any b l (bytesOf (le8 n)) (w.alloc o) A h1 (by rw [bytesOf_size, le8_length]; exact hl)).mono fun e w' ⟨e1, e2⟩ => ⟨e1, ?_⟩
    rw [bytesOf_list] at e2
    exact (h2 w' _ e2).goes
  clear h
  go_enter Tryz.func67, Tryz.ntmps67
  go_wp2
  refine wp_loop_rounds 9 ?_
  iterate 9
    rw [rounds_succ]
    go_wp2_with fail
  go_wp2_with (go_at_call 88; go_must (refine (HP.out _).mono ?_; rintro e w1 ⟨rfl, H1⟩))
  go_end0
  exact ⟨rfl, H1.out⟩

end Go.Proofs.YtnboanlhdllhnaaGreat

/- mess: the writer's texts, flags, lists and schemas. -/
namespace Go.Proofs.YtnboanlhdllhnaaGreat
open Go.RowKit

section
variable {b : Nat} {l : List UInt8} {w : World} {F : Nat → Prop}

set_option maxRecDepth 100000 in
set_option maxHeartbeats 1000000 in
theorem wtext_any (s : ByteArray) (h : WrI b l w F) (hl : l.length + (txt s).length ≤ 65536) :
    Calls Tryz.prog 123 #[.pointer (some ⟨b, 0, none⟩), .string s] w fun e w' => e = .returned (.tuple #[]) ∧ Goes (WrI b (l ++ txt s)) w w' F := by
  rw [txt_length] at hl
  have H1 : Hid (Calls Tryz.prog 67 #[.pointer (some ⟨b, 0, none⟩), .int .i64 (s.size : Int)] w fun e w' => e = .returned (.tuple #[]) ∧ Hid (MidS (WrI b (l ++ le8 (s.size : Int))) w w' F [])) := by
    obtain ⟨A, h1, h2⟩ := (MidS.start h).call
    exact (wnumber_any b l _ w A h1 (by omega) ⟨by omega, by omega⟩).mono fun e w' ⟨e1, e2⟩ => ⟨e1, h2 w' _ e2⟩
  have H2 : Hid (∀ u, MidS (WrI b (l ++ le8 (s.size : Int))) w u F [] → Calls Tryz.prog 88 #[.pointer (some ⟨b, 0, none⟩), .string s] u fun e w' => e = .returned (.tuple #[]) ∧ Hid (Goes (WrI b (l ++ txt s)) w w' F)) := fun u hu => by
    obtain ⟨A, h1, h2⟩ := hu.call
    refine (put_any b _ s u A h1 (by rw [List.length_append, le8_length]; omega)).mono fun e w' ⟨e1, e2⟩ => ⟨e1, ?_⟩
    rw [List.append_assoc] at e2
    exact (h2 w' _ e2).goes
  clear h
  go_enter Tryz.func123, Tryz.ntmps123
  go_wp2_with (first
    | (go_at_call 67; go_must (refine H1.out.mono ?_; rintro e w1 ⟨rfl, K1⟩))
    | (go_at_call 88; go_must (refine (H2.out _ K1.out).mono ?_; rintro e w2 ⟨rfl, K2⟩)))
  go_end0
  exact ⟨rfl, K2.out⟩

set_option maxHeartbeats 400000 in
theorem wflag_any (u : Bool) (h : WrI b l w F) (hl : l.length + 1 ≤ 65536) :
    Calls Tryz.prog 154 #[.pointer (some ⟨b, 0, none⟩), .bool u] w fun e w' => e = .returned (.tuple #[]) ∧ Goes (WrI b (l ++ flagB u)) w w' F := by
  have H1 : Hid (Calls Tryz.prog 88 #[.pointer (some ⟨b, 0, none⟩), .string ⟨#[1]⟩] w fun e w' => e = .returned (.tuple #[]) ∧ Hid (Goes (WrI b (l ++ flagB true)) w w' F)) := put_any b l ⟨#[1]⟩ w F h hl
  have H0 : Hid (Calls Tryz.prog 88 #[.pointer (some ⟨b, 0, none⟩), .string ⟨#[0]⟩] w fun e w' => e = .returned (.tuple #[]) ∧ Hid (Goes (WrI b (l ++ flagB false)) w w' F)) := put_any b l ⟨#[0]⟩ w F h hl
  clear h
  cases u
  · go_enter Tryz.func154, Tryz.ntmps154
    go_wp2_with (go_at_call 88; go_must (refine H0.out.mono ?_; rintro e w1 ⟨rfl, K1⟩))
    go_end0
    exact ⟨rfl, K1.out⟩
  · go_enter Tryz.func154, Tryz.ntmps154
    go_wp2_with (go_at_call 88; go_must (refine H1.out.mono ?_; rintro e w1 ⟨rfl, K1⟩))
    go_end0
    exact ⟨rfl, K1.out⟩

set_option maxRecDepth 100000 in
set_option maxHeartbeats 1000000 in
theorem wcolumn_any (nm : ByteArray) (k : Int) (h : WrI b l w F) (hl : l.length + (colB (nm, k)).length ≤ 65536) (hk : I64 k) :
    Calls Tryz.prog 143 #[.pointer (some ⟨b, 0, none⟩), .agg #[.string nm, .int .i64 k]] w fun e w' => e = .returned (.tuple #[]) ∧ Goes (WrI b (l ++ colB (nm, k))) w w' F := by
  unfold colB at hl
  rw [List.length_append, le8_length] at hl
  have H1 : Hid (Calls Tryz.prog 123 #[.pointer (some ⟨b, 0, none⟩), .string nm] (w.alloc (.cells #[.string nm, .int .i64 k] 70)) fun e w' => e = .returned (.tuple #[]) ∧ Hid (MidS (WrI b (l ++ txt nm)) w w' F [(w.heap.size, .cells #[.string nm, .int .i64 k] 70)])) := by
    obtain ⟨A, h1, h2⟩ := ((MidS.start h).alloc (wrI_res _ _) (.cells #[.string nm, .int .i64 k] 70)).call
    exact (wtext_any nm h1 (by simp only at hl; omega)).mono fun e w' ⟨e1, e2⟩ => ⟨e1, h2 w' _ e2⟩
  have H2 : Hid (∀ u, MidS (WrI b (l ++ txt nm)) w u F [(w.heap.size, .cells #[.string nm, .int .i64 k] 70)] → Calls Tryz.prog 67 #[.pointer (some ⟨b, 0, none⟩), .int .i64 k] u fun e w' => e = .returned (.tuple #[]) ∧ Hid (Goes (WrI b (l ++ colB (nm, k))) w w' F)) := fun u hu => by
    obtain ⟨A, h1, h2⟩ := hu.call
    refine (wnumber_any b _ k u A h1 (by rw [List.length_append]; simp only at hl; omega) hk).mono fun e w' ⟨e1, e2⟩ => ⟨e1, ?_⟩
    rw [List.append_assoc] at e2
    exact (h2 w' _ e2).goes
  have HC : Hid (∀ u, MidS (WrI b (l ++ txt nm)) w u F [(w.heap.size, .cells #[.string nm, .int .i64 k] 70)] → u.cell? ⟨w.heap.size, 1, none⟩ = some (.int .i64 k)) := fun u hu => by rw [cell_of (hu.at (List.mem_singleton.2 rfl))]; rfl
  clear h
  go_enter Tryz.func143, Tryz.ntmps143
  go_wp2_with (first
    | (go_at_call 123; go_must (refine H1.out.mono ?_; rintro e w1 ⟨rfl, K1⟩; have c1 := HC.out _ K1.out))
    | (go_at_call 67; go_must (refine (H2.out _ K1.out).mono ?_; rintro e w2 ⟨rfl, K2⟩)))
  go_end0
  exact ⟨rfl, K2.out⟩

theorem flat_take {α : Type} (f : α → List UInt8) (L : List α) (i : Nat) : ((L.take i).flatMap f).length ≤ (L.flatMap f).length := by
  rw [← List.take_append_drop i L]
  simp only [List.flatMap_append, List.length_append]
  rw [List.take_append_drop]
  omega
theorem flat_next {α : Type} (f : α → List UInt8) {L : List α} {i : Nat} {x : α} (h : L[i]? = some x) : (L.take (i + 1)).flatMap f = (L.take i).flatMap f ++ f x := by
  rw [List.take_add_one, h, List.flatMap_append]
  simp

set_option maxRecDepth 100000 in
set_option maxHeartbeats 1000000 in
theorem wlistC_any (w0 : World) (cv : Value) (L : List (ByteArray × Int)) (h : WrI b l w F) (hb : Below w0.heap.size w0 w) (hF : ∀ i, F i → w0.heap.size ≤ i) (h0 : SliceAt w0 cv 2 enC L)
    (hl : l.length + (colsB L).length ≤ 65536) (hk : ∀ c ∈ L, I64 c.2) (hL : L.length ≤ 4096) :
    Calls Tryz.prog 142 #[.pointer (some ⟨b, 0, none⟩), cv, .func (.func 143) #[.pointer (some ⟨b, 0, none⟩)] #[]] w fun e w' => e = .returned (.tuple #[]) ∧ Goes (WrI b (l ++ colsB L)) w w' F := by
  obtain ⟨a, c, rfl, s1, s2, s3⟩ := h0.opened
  unfold maxLen at s2
  have HX : Hid (∀ u, MidS (fun _ _ => True) w u F [] → ∀ i y, L[i]? = some y → ∃ b off, a = some ⟨b, off, none⟩ ∧ u.cell? ⟨b, off + i * 2, none⟩ = some (.string y.1) ∧ u.cell? ⟨b, off + i * 2 + 1, none⟩ = some (.int .i64 y.2)) := fun u hu i y hy => by
    obtain ⟨hi, rfl⟩ := List.getElem?_eq_some_iff.1 hy
    obtain ⟨b, off, e, _, hc⟩ := s3 u (hb.trans (hu.below hF hb.size)) i hi
    exact ⟨b, off, e, hc 0 _ rfl, hc 1 _ rfl⟩
  obtain ⟨N, hN⟩ : ∃ N, L.length = N := ⟨_, rfl⟩
  have HN : Hid (L.length = N) := hN
  unfold colsB at hl
  rw [List.length_append, le8_length] at hl
  have HLn : Hid (l.length + (8 + (L.flatMap colB).length) ≤ 65536) := hl
  rw [hN] at s1 hL ⊢
  have H1 : Hid (Calls Tryz.prog 67 #[.pointer (some ⟨b, 0, none⟩), .int .i64 (N : Int)] w fun e w' => e = .returned (.tuple #[]) ∧ Hid (MidS (WrI b (l ++ le8 (N : Int))) w w' F [])) := by
    obtain ⟨A, h1, h2⟩ := (MidS.start h).call
    exact (wnumber_any b l _ w A h1 (by omega) ⟨by omega, by omega⟩).mono fun e w' ⟨e1, e2⟩ => ⟨e1, h2 w' _ e2⟩
  have H2 : Hid (∀ u i y, MidS (WrI b (l ++ le8 (N : Int) ++ (L.take i).flatMap colB)) w u F [] → L[i]? = some y → ∀ o : Obj, Calls Tryz.prog 143 #[.pointer (some ⟨b, 0, none⟩), .agg #[.string y.1, .int .i64 y.2]] (u.alloc o) fun e w' => e = .returned (.tuple #[]) ∧ Hid (MidS (WrI b (l ++ le8 (N : Int) ++ (L.take (i + 1)).flatMap colB)) w w' F [])) := fun u i y hu hy o => by
    obtain ⟨y1, y2⟩ := y
    obtain ⟨A, h1, h2⟩ := (hu.alloc (wrI_res _ _) o).call
    have hfl := flat_take colB L (i + 1)
    rw [flat_next colB hy, List.length_append] at hfl
    refine (wcolumn_any y1 y2 h1 (by rw [List.length_append, List.length_append, le8_length]; omega) (hk (y1, y2) (List.mem_of_getElem? hy))).mono fun e w' ⟨e1, e2⟩ => ⟨e1, ?_⟩
    rw [List.append_assoc, ← flat_next colB hy] at e2
    exact (h2 w' _ e2).drop (fun _ h => by cases h)
  clear h hb hF h0 s3 hk hN hl
  have hLI : ¬ (4096 : Int) < (N : Int) := by omega
  go_enter Tryz.func142, Tryz.ntmps142
  go_wp2_with (go_at_call 67; go_must (refine H1.out.mono ?_; rintro e w1 ⟨rfl, K1⟩))
  go_loopw [20] (fun v wr => ∃ i : Nat, i ≤ N ∧ v = .int .i64 i ∧ Hid (MidS (WrI b (l ++ le8 (N : Int) ++ (L.take i).flatMap colB)) w wr F [])) (fun v _ => N - (intOf v).toNat)
  case atStart => exact ⟨0, Nat.zero_le _, rfl, (by show MidS _ _ _ _ _; simpa using K1.out)⟩
  case round =>
    clear K1
    obtain ⟨i, hi, rfl, HM⟩ := hrel
    by_cases hlt : i < N
    · obtain ⟨⟨y, k⟩, hy⟩ : ∃ y, L[i]? = some y := ⟨_, List.getElem?_eq_getElem (by rw [HN.out]; exact hlt)⟩
      obtain ⟨bb, off, rfl, q1, q2⟩ := HX.out wr (by obtain ⟨F', k1, k2, k3, k4⟩ := HM.out; exact ⟨F', trivial, k2, k3, k4⟩) i (y, k) hy
      dsimp only at q1 q2
      have H3 : Hid (∀ o : Obj, Calls Tryz.prog 143 #[.pointer (some ⟨b, 0, none⟩), .agg #[.string y, .int .i64 k]] (wr.alloc o) fun e w' => e = .returned (.tuple #[]) ∧ Hid (MidS (WrI b (l ++ le8 (N : Int) ++ (L.take (i + 1)).flatMap colB)) w w' F [])) := fun o => H2.out wr i (y, k) HM.out hy o
      have hlI : (i : Int) < (N : Int) := by omega
      clear hy
      go_wp2_with (go_at_call 143; go_must (refine (H3.out _).mono ?_; rintro e w2 ⟨rfl, K2⟩))
      go_roundw
      case rel => exact ⟨i + 1, by omega, by go_num, K2⟩
      case measure => simp [intOf]; omega
    · have hlI : ¬ (i : Int) < (N : Int) := by omega
      go_wp2
      go_end0
      refine ⟨rfl, ?_⟩
      have := HM.out.goes
      rw [List.take_of_length_le (by rw [HN.out]; omega)] at this
      unfold colsB
      rw [HN.out, ← List.append_assoc]
      exact this
end

end Go.Proofs.YtnboanlhdllhnaaGreat

/- mess: the writer's indexes and whole schemas. -/
namespace Go.Proofs.YtnboanlhdllhnaaGreat
open Go.RowKit

section
variable {b : Nat} {l : List UInt8} {w : World} {F : Nat → Prop}

theorem MidS.any {I : World → (Nat → Prop) → Prop} {w wr : World} {F : Nat → Prop} {L : List (Nat × Obj)} (h : MidS I w wr F L) : MidS (fun _ _ => True) w wr F [] := by
  obtain ⟨F', k1, k2, k3, k4⟩ := h
  exact ⟨F', trivial, k2, k3, fun _ h => by cases h⟩

set_option maxRecDepth 100000 in
set_option maxHeartbeats 1000000 in
theorem wlistN_any (w0 : World) (cv : Value) (L : List Int) (h : WrI b l w F) (hb : Below w0.heap.size w0 w) (hF : ∀ i, F i → w0.heap.size ≤ i) (h0 : SliceAt w0 cv 1 enI L)
    (hl : l.length + (numsB L).length ≤ 65536) (hk : ∀ c ∈ L, I64 c) (hL : L.length ≤ 4096) :
    Calls Tryz.prog 153 #[.pointer (some ⟨b, 0, none⟩), cv, .func (.func 67) #[.pointer (some ⟨b, 0, none⟩)] #[]] w fun e w' => e = .returned (.tuple #[]) ∧ Goes (WrI b (l ++ numsB L)) w w' F := by
  obtain ⟨a, c, rfl, s1, s2, s3⟩ := h0.opened
  unfold maxLen at s2
  have HX : Hid (∀ u, MidS (fun _ _ => True) w u F [] → ∀ i y, L[i]? = some y → ∃ b off, a = some ⟨b, off, none⟩ ∧ u.cell? ⟨b, off + i, none⟩ = some (.int .i64 y)) := fun u hu i y hy => by
    obtain ⟨hi, rfl⟩ := List.getElem?_eq_some_iff.1 hy
    obtain ⟨b, off, e, _, hc⟩ := s3 u (hb.trans (hu.below hF hb.size)) i hi
    have := hc 0 _ rfl
    rw [Nat.mul_one] at this
    exact ⟨b, off, e, this⟩
  obtain ⟨N, hN⟩ : ∃ N, L.length = N := ⟨_, rfl⟩
  have HN : Hid (L.length = N) := hN
  unfold numsB at hl
  rw [List.length_append, le8_length] at hl
  rw [hN] at s1 hL ⊢
  have H1 : Hid (Calls Tryz.prog 67 #[.pointer (some ⟨b, 0, none⟩), .int .i64 (N : Int)] w fun e w' => e = .returned (.tuple #[]) ∧ Hid (MidS (WrI b (l ++ le8 (N : Int))) w w' F [])) := by
    obtain ⟨A, h1, h2⟩ := (MidS.start h).call
    exact (wnumber_any b l _ w A h1 (by omega) ⟨by omega, by omega⟩).mono fun e w' ⟨e1, e2⟩ => ⟨e1, h2 w' _ e2⟩
  have H2 : Hid (∀ u i y, MidS (WrI b (l ++ le8 (N : Int) ++ (L.take i).flatMap le8)) w u F [] → L[i]? = some y → Calls Tryz.prog 67 #[.pointer (some ⟨b, 0, none⟩), .int .i64 y] u fun e w' => e = .returned (.tuple #[]) ∧ Hid (MidS (WrI b (l ++ le8 (N : Int) ++ (L.take (i + 1)).flatMap le8)) w w' F [])) := fun u i y hu hy => by
    obtain ⟨A, h1, h2⟩ := hu.call
    have hfl := flat_take le8 L (i + 1)
    rw [flat_next le8 hy, List.length_append, le8_length] at hfl
    refine (wnumber_any b _ y u A h1 (by rw [List.length_append, List.length_append, le8_length]; omega) (hk y (List.mem_of_getElem? hy))).mono fun e w' ⟨e1, e2⟩ => ⟨e1, ?_⟩
    rw [List.append_assoc, ← flat_next le8 hy] at e2
    exact h2 w' _ e2
  clear h hb hF h0 s3 hk hN hl
  have hLI : ¬ (4096 : Int) < (N : Int) := by omega
  go_enter Tryz.func153, Tryz.ntmps153
  go_wp2_with (go_at_call 67; go_must (refine H1.out.mono ?_; rintro e w1 ⟨rfl, K1⟩))
  go_loopw [20] (fun v wr => ∃ i : Nat, i ≤ N ∧ v = .int .i64 i ∧ Hid (MidS (WrI b (l ++ le8 (N : Int) ++ (L.take i).flatMap le8)) w wr F [])) (fun v _ => N - (intOf v).toNat)
  case atStart => exact ⟨0, Nat.zero_le _, rfl, (by show MidS _ _ _ _ _; simpa using K1.out)⟩
  case round =>
    clear K1
    obtain ⟨i, hi, rfl, HM⟩ := hrel
    by_cases hlt : i < N
    · obtain ⟨y, hy⟩ : ∃ y, L[i]? = some y := ⟨_, List.getElem?_eq_getElem (by rw [HN.out]; exact hlt)⟩
      obtain ⟨bb, off, rfl, q1⟩ := HX.out wr HM.out.any i y hy
      have H3 : Hid (Calls Tryz.prog 67 #[.pointer (some ⟨b, 0, none⟩), .int .i64 y] wr fun e w' => e = .returned (.tuple #[]) ∧ Hid (MidS (WrI b (l ++ le8 (N : Int) ++ (L.take (i + 1)).flatMap le8)) w w' F [])) := H2.out wr i y HM.out hy
      have hlI : (i : Int) < (N : Int) := by omega
      clear hy
      go_wp2_with (go_at_call 67; go_must (refine H3.out.mono ?_; rintro e w2 ⟨rfl, K2⟩))
      go_roundw
      case rel => exact ⟨i + 1, by omega, by go_num, K2⟩
      case measure => simp [intOf]; omega
    · have hlI : ¬ (i : Int) < (N : Int) := by omega
      go_wp2
      go_end0
      refine ⟨rfl, ?_⟩
      have := HM.out.goes
      rw [List.take_of_length_le (by rw [HN.out]; omega)] at this
      unfold numsB
      rw [HN.out, ← List.append_assoc]
      exact this

abbrev ixBox (nm : ByteArray) (a : Option Addr) (n c : Nat) (un : Bool) : Obj := .cells #[.string nm, .slice a n c, .bool un] 64

set_option maxRecDepth 100000 in
set_option maxHeartbeats 1000000 in
theorem windex_any (w0 : World) (x : Ix) (v : Value) (h : WrI b l w F) (hb : Below w0.heap.size w0 w) (hF : ∀ i, F i → w0.heap.size ≤ i) (h0 : SliceAt w0 v 1 enI x.cs)
    (hl : l.length + (ixB x).length ≤ 65536) (hk : OkIx x) :
    Calls Tryz.prog 145 #[.pointer (some ⟨b, 0, none⟩), .agg #[.string x.nm, v, .bool x.un]] w fun e w' => e = .returned (.tuple #[]) ∧ Goes (WrI b (l ++ ixB x)) w w' F := by
  obtain ⟨nm, cs, un⟩ := x
  obtain ⟨a, c, rfl, s1, s2⟩ := slice_shape h0
  dsimp only at s1 s2 h0 hk ⊢
  unfold ixB at hl
  dsimp only at hl
  rw [List.length_append, List.length_append, txt_length] at hl
  have hfl : (flagB un).length = 1 := by cases un <;> rfl
  rw [hfl] at hl
  have H1 : Hid (Calls Tryz.prog 123 #[.pointer (some ⟨b, 0, none⟩), .string nm] (w.alloc (ixBox nm a cs.length c un)) fun e w' => e = .returned (.tuple #[]) ∧ Hid (MidS (WrI b (l ++ txt nm)) w w' F [(w.heap.size, ixBox nm a cs.length c un)])) := by
    obtain ⟨A, h1, h2⟩ := ((MidS.start h).alloc (wrI_res _ _) (ixBox nm a cs.length c un)).call
    exact (wtext_any nm h1 (by rw [txt_length]; omega)).mono fun e w' ⟨e1, e2⟩ => ⟨e1, h2 w' _ e2⟩
  have H2 : Hid (∀ u, MidS (WrI b (l ++ txt nm)) w u F [(w.heap.size, ixBox nm a cs.length c un)] → Calls Tryz.prog 153 #[.pointer (some ⟨b, 0, none⟩), .slice a cs.length c, .func (.func 67) #[.pointer (some ⟨b, 0, none⟩)] #[]] u fun e w' => e = .returned (.tuple #[]) ∧ Hid (MidS (WrI b (l ++ txt nm ++ numsB cs)) w w' F [(w.heap.size, ixBox nm a cs.length c un)])) := fun u hu => by
    obtain ⟨A, h1, hA, h2⟩ := hu.callF hF hb.size
    exact (wlistN_any w0 (.slice a cs.length c) cs h1 (hb.trans (hu.below hF hb.size)) hA h0 (by rw [List.length_append, txt_length]; omega) hk.2.2 hk.2.1).mono fun e w' ⟨e1, e2⟩ => ⟨e1, h2 w' _ e2⟩
  have H3 : Hid (∀ u, MidS (WrI b (l ++ txt nm ++ numsB cs)) w u F [(w.heap.size, ixBox nm a cs.length c un)] → Calls Tryz.prog 154 #[.pointer (some ⟨b, 0, none⟩), .bool un] u fun e w' => e = .returned (.tuple #[]) ∧ Hid (Goes (WrI b (l ++ ixB ⟨nm, cs, un⟩)) w w' F)) := fun u hu => by
    obtain ⟨A, h1, h2⟩ := hu.call
    refine (wflag_any un h1 (by rw [List.length_append, List.length_append, txt_length]; omega)).mono fun e w' ⟨e1, e2⟩ => ⟨e1, ?_⟩
    rw [List.append_assoc, List.append_assoc] at e2
    exact (h2 w' _ e2).goes
  have HC1 : Hid (∀ u, MidS (WrI b (l ++ txt nm)) w u F [(w.heap.size, ixBox nm a cs.length c un)] → u.cell? ⟨w.heap.size, 1, none⟩ = some (.slice a cs.length c)) := fun u hu => by rw [cell_of (hu.at (List.mem_singleton.2 rfl))]; rfl
  have HC2 : Hid (∀ u, MidS (WrI b (l ++ txt nm ++ numsB cs)) w u F [(w.heap.size, ixBox nm a cs.length c un)] → u.cell? ⟨w.heap.size, 2, none⟩ = some (.bool un)) := fun u hu => by rw [cell_of (hu.at (List.mem_singleton.2 rfl))]; rfl
  obtain ⟨N, hN⟩ : ∃ N, cs.length = N := ⟨_, rfl⟩
  rw [hN] at H1 H2 H3 HC1 HC2 ⊢
  clear h hb hF h0 hk hl hfl s1 hN
  go_enter Tryz.func145, Tryz.ntmps145
  go_wp2_with (first
    | (go_at_call 123; go_must (refine H1.out.mono ?_; rintro e w1 ⟨rfl, K1⟩; have c1 := HC1.out _ K1.out))
    | (go_at_call 153; go_must (refine (H2.out _ K1.out).mono ?_; rintro e w2 ⟨rfl, K2⟩; have c2 := HC2.out _ K2.out))
    | (go_at_call 154; go_must (refine (H3.out _ K2.out).mono ?_; rintro e w3 ⟨rfl, K3⟩)))
  go_end0
  exact ⟨rfl, K3.out⟩

set_option maxRecDepth 100000 in
set_option maxHeartbeats 1000000 in
theorem wlistX_any (w0 : World) (cv : Value) (L : List Iv) (h : WrI b l w F) (hb : Below w0.heap.size w0 w) (hF : ∀ i, F i → w0.heap.size ≤ i) (h0 : SliceAt w0 cv 3 enX L) (hv : ∀ x ∈ L, SliceAt w0 x.v 1 enI x.ix.cs)
    (hl : l.length + (ixsB (L.map Iv.ix)).length ≤ 65536) (hk : ∀ c ∈ L, OkIx c.ix) (hL : L.length ≤ 4096) :
    Calls Tryz.prog 144 #[.pointer (some ⟨b, 0, none⟩), cv, .func (.func 145) #[.pointer (some ⟨b, 0, none⟩)] #[]] w fun e w' => e = .returned (.tuple #[]) ∧ Goes (WrI b (l ++ ixsB (L.map Iv.ix))) w w' F := by
  obtain ⟨a, c, rfl, s1, s2, s3⟩ := h0.opened
  unfold maxLen at s2
  have HX : Hid (∀ u, MidS (fun _ _ => True) w u F [] → ∀ i y, L[i]? = some y → ∃ b off, a = some ⟨b, off, none⟩ ∧ u.cell? ⟨b, off + i * 3, none⟩ = some (.string y.ix.nm) ∧ u.cell? ⟨b, off + i * 3 + 1, none⟩ = some y.v ∧ u.cell? ⟨b, off + i * 3 + 2, none⟩ = some (.bool y.ix.un)) := fun u hu i y hy => by
    obtain ⟨hi, rfl⟩ := List.getElem?_eq_some_iff.1 hy
    obtain ⟨b, off, e, _, hc⟩ := s3 u (hb.trans (hu.below hF hb.size)) i hi
    exact ⟨b, off, e, hc 0 _ rfl, hc 1 _ rfl, hc 2 _ rfl⟩
  have HV : Hid (∀ x ∈ L, ∃ a c, x.v = .slice a x.ix.cs.length c) := fun x hx => by
    obtain ⟨a, c, e, _⟩ := hv x hx
    exact ⟨a, c, e⟩
  obtain ⟨N, hN⟩ : ∃ N, L.length = N := ⟨_, rfl⟩
  have HN : Hid (L.length = N) := hN
  unfold ixsB at hl
  rw [List.length_append, le8_length] at hl
  rw [hN] at s1 hL ⊢
  have H1 : Hid (Calls Tryz.prog 67 #[.pointer (some ⟨b, 0, none⟩), .int .i64 (N : Int)] w fun e w' => e = .returned (.tuple #[]) ∧ Hid (MidS (WrI b (l ++ le8 (N : Int))) w w' F [])) := by
    obtain ⟨A, h1, h2⟩ := (MidS.start h).call
    exact (wnumber_any b l _ w A h1 (by omega) ⟨by omega, by omega⟩).mono fun e w' ⟨e1, e2⟩ => ⟨e1, h2 w' _ e2⟩
  have H2 : Hid (∀ u i y, MidS (WrI b (l ++ le8 (N : Int) ++ ((L.map Iv.ix).take i).flatMap ixB)) w u F [] → L[i]? = some y → ∀ o : Obj, Calls Tryz.prog 145 #[.pointer (some ⟨b, 0, none⟩), .agg #[.string y.ix.nm, y.v, .bool y.ix.un]] (u.alloc o) fun e w' => e = .returned (.tuple #[]) ∧ Hid (MidS (WrI b (l ++ le8 (N : Int) ++ ((L.map Iv.ix).take (i + 1)).flatMap ixB)) w w' F [])) := fun u i y hu hy o => by
    have hu' := hu.alloc (wrI_res _ _) o
    obtain ⟨A, h1, hA, h2⟩ := hu'.callF hF hb.size
    have hm := List.mem_of_getElem? hy
    have hy2 : (L.map Iv.ix)[i]? = some y.ix := by rw [List.getElem?_map, hy]; rfl
    have hfl := flat_take ixB (L.map Iv.ix) (i + 1)
    rw [flat_next ixB hy2, List.length_append] at hfl
    refine (windex_any w0 y.ix y.v h1 (hb.trans (hu'.below hF hb.size)) hA (hv y hm) (by rw [List.length_append, List.length_append, le8_length]; omega) (hk y hm)).mono fun e w' ⟨e1, e2⟩ => ⟨e1, ?_⟩
    rw [List.append_assoc, ← flat_next ixB hy2] at e2
    exact (h2 w' _ e2).drop (fun _ h => by cases h)
  clear h hb hF h0 s3 hk hN hl hv
  have hLI : ¬ (4096 : Int) < (N : Int) := by omega
  go_enter Tryz.func144, Tryz.ntmps144
  go_wp2_with (go_at_call 67; go_must (refine H1.out.mono ?_; rintro e w1 ⟨rfl, K1⟩))
  go_loopw [20] (fun v wr => ∃ i : Nat, i ≤ N ∧ v = .int .i64 i ∧ Hid (MidS (WrI b (l ++ le8 (N : Int) ++ ((L.map Iv.ix).take i).flatMap ixB)) w wr F [])) (fun v _ => N - (intOf v).toNat)
  case atStart => exact ⟨0, Nat.zero_le _, rfl, (by show MidS _ _ _ _ _; simpa using K1.out)⟩
  case round =>
    clear K1
    obtain ⟨i, hi, rfl, HM⟩ := hrel
    by_cases hlt : i < N
    · obtain ⟨⟨⟨y, cs, un⟩, vv⟩, hy⟩ : ∃ y, L[i]? = some y := ⟨_, List.getElem?_eq_getElem (by rw [HN.out]; exact hlt)⟩
      obtain ⟨bb, off, rfl, q1, q2, q3⟩ := HX.out wr HM.out.any i _ hy
      obtain ⟨va, vc, hvv⟩ := HV.out _ (List.mem_of_getElem? hy)
      dsimp only at q1 q2 q3 hvv
      subst hvv
      obtain ⟨nc, hnc⟩ : ∃ nc, cs.length = nc := ⟨_, rfl⟩
      have H3 : Hid (∀ o : Obj, Calls Tryz.prog 145 #[.pointer (some ⟨b, 0, none⟩), .agg #[.string y, .slice va nc vc, .bool un]] (wr.alloc o) fun e w' => e = .returned (.tuple #[]) ∧ Hid (MidS (WrI b (l ++ le8 (N : Int) ++ ((L.map Iv.ix).take (i + 1)).flatMap ixB)) w w' F [])) := fun o => by
        have := H2.out wr i _ HM.out hy o
        dsimp only at this
        rw [hnc] at this
        exact this
      have hlI : (i : Int) < (N : Int) := by omega
      rw [hnc] at q2
      clear hy hnc
      go_wp2_with (go_at_call 145; go_must (refine (H3.out _).mono ?_; rintro e w2 ⟨rfl, K2⟩))
      go_roundw
      case rel => exact ⟨i + 1, by omega, by go_num, K2⟩
      case measure => simp [intOf]; omega
    · have hlI : ¬ (i : Int) < (N : Int) := by omega
      go_wp2
      go_end0
      refine ⟨rfl, ?_⟩
      have := HM.out.goes
      rw [List.take_of_length_le (by rw [List.length_map, HN.out]; omega)] at this
      unfold ixsB
      rw [List.length_map, HN.out, ← List.append_assoc]
      exact this

abbrev tabBox (nm : ByteArray) (ca : Option Addr) (cn cc : Nat) (key : Int) (ia : Option Addr) (n ic : Nat) : Obj := .cells #[.string nm, .slice ca cn cc, .int .i64 key, .slice ia n ic] 32

set_option maxRecDepth 100000 in
set_option maxHeartbeats 1000000 in
theorem wtable_any (w0 : World) (cv iv : Value) (T : Tab) (h : WrI b l w F) (hb : Below w0.heap.size w0 w) (hF : ∀ i, F i → w0.heap.size ≤ i) (h0 : TabV w0 cv iv T)
    (hl : l.length + (tabB T).length ≤ 65536) (hk : OkTab T) :
    Calls Tryz.prog 124 #[.pointer (some ⟨b, 0, none⟩), tabVal cv iv T] w fun e w' => e = .returned (.tuple #[]) ∧ Goes (WrI b (l ++ tabB T)) w w' F := by
  obtain ⟨g1, X, g2, g3, g4⟩ := h0
  obtain ⟨ca, cc, rfl, s1, s2⟩ := slice_shape g1
  obtain ⟨ia, ic, rfl, t1, t2⟩ := slice_shape g2
  unfold tabB at hl
  rw [List.length_append, List.length_append, List.length_append, txt_length, le8_length] at hl
  unfold tabVal
  have H1 : Hid (Calls Tryz.prog 123 #[.pointer (some ⟨b, 0, none⟩), .string T.nm] (w.alloc (tabBox T.nm ca T.co.length cc T.key ia X.length ic)) fun e w' => e = .returned (.tuple #[]) ∧ Hid (MidS (WrI b (l ++ txt T.nm)) w w' F [(w.heap.size, tabBox T.nm ca T.co.length cc T.key ia X.length ic)])) := by
    obtain ⟨A, h1, h2⟩ := ((MidS.start h).alloc (wrI_res _ _) (tabBox T.nm ca T.co.length cc T.key ia X.length ic)).call
    exact (wtext_any T.nm h1 (by rw [txt_length]; omega)).mono fun e w' ⟨e1, e2⟩ => ⟨e1, h2 w' _ e2⟩
  have H2 : Hid (∀ u, MidS (WrI b (l ++ txt T.nm)) w u F [(w.heap.size, tabBox T.nm ca T.co.length cc T.key ia X.length ic)] → Calls Tryz.prog 142 #[.pointer (some ⟨b, 0, none⟩), .slice ca T.co.length cc, .func (.func 143) #[.pointer (some ⟨b, 0, none⟩)] #[]] u fun e w' => e = .returned (.tuple #[]) ∧ Hid (MidS (WrI b (l ++ txt T.nm ++ colsB T.co)) w w' F [(w.heap.size, tabBox T.nm ca T.co.length cc T.key ia X.length ic)])) := fun u hu => by
    obtain ⟨A, h1, hA, h2⟩ := hu.callF hF hb.size
    exact (wlistC_any w0 _ T.co h1 (hb.trans (hu.below hF hb.size)) hA g1 (by rw [List.length_append, txt_length]; omega) (fun c hc => (hk.co.2 c hc).2) hk.co.1).mono fun e w' ⟨e1, e2⟩ => ⟨e1, h2 w' _ e2⟩
  have H3 : Hid (∀ u, MidS (WrI b (l ++ txt T.nm ++ colsB T.co)) w u F [(w.heap.size, tabBox T.nm ca T.co.length cc T.key ia X.length ic)] → Calls Tryz.prog 67 #[.pointer (some ⟨b, 0, none⟩), .int .i64 T.key] u fun e w' => e = .returned (.tuple #[]) ∧ Hid (MidS (WrI b (l ++ txt T.nm ++ colsB T.co ++ le8 T.key)) w w' F [(w.heap.size, tabBox T.nm ca T.co.length cc T.key ia X.length ic)])) := fun u hu => by
    obtain ⟨A, h1, h2⟩ := hu.call
    exact (wnumber_any b _ T.key u A h1 (by rw [List.length_append, List.length_append, txt_length]; omega) hk.key).mono fun e w' ⟨e1, e2⟩ => ⟨e1, h2 w' _ e2⟩
  have H4 : Hid (∀ u, MidS (WrI b (l ++ txt T.nm ++ colsB T.co ++ le8 T.key)) w u F [(w.heap.size, tabBox T.nm ca T.co.length cc T.key ia X.length ic)] → Calls Tryz.prog 144 #[.pointer (some ⟨b, 0, none⟩), .slice ia X.length ic, .func (.func 145) #[.pointer (some ⟨b, 0, none⟩)] #[]] u fun e w' => e = .returned (.tuple #[]) ∧ Hid (Goes (WrI b (l ++ tabB T)) w w' F)) := fun u hu => by
    obtain ⟨A, h1, hA, h2⟩ := hu.callF hF hb.size
    refine (wlistX_any w0 _ X h1 (hb.trans (hu.below hF hb.size)) hA g2 g4 (by rw [g3]; simp only [List.length_append, txt_length, le8_length]; omega) (fun c hc => hk.ix.2 _ (by rw [← g3]; exact List.mem_map.2 ⟨c, hc, rfl⟩)) (by have := hk.ix.1; rw [← g3, List.length_map] at this; exact this)).mono fun e w' ⟨e1, e2⟩ => ⟨e1, ?_⟩
    have := (h2 w' _ e2).goes
    rw [g3] at this
    unfold tabB
    simp only [List.append_assoc] at this ⊢
    exact this
  have HC1 : Hid (∀ u l', MidS (WrI b l') w u F [(w.heap.size, tabBox T.nm ca T.co.length cc T.key ia X.length ic)] → u.cell? ⟨w.heap.size, 1, none⟩ = some (.slice ca T.co.length cc) ∧ u.cell? ⟨w.heap.size, 2, none⟩ = some (.int .i64 T.key) ∧ u.cell? ⟨w.heap.size, 3, none⟩ = some (.slice ia X.length ic)) := fun u l' hu => by
    have := hu.at (List.mem_singleton.2 rfl)
    exact ⟨by rw [cell_of this]; rfl, by rw [cell_of this]; rfl, by rw [cell_of this]; rfl⟩
  obtain ⟨N, hN⟩ : ∃ N, T.co.length = N := ⟨_, rfl⟩
  obtain ⟨M, hM⟩ : ∃ M, X.length = M := ⟨_, rfl⟩
  obtain ⟨key, hkey⟩ : ∃ key, T.key = key := ⟨_, rfl⟩
  obtain ⟨nm, hnm⟩ : ∃ nm, T.nm = nm := ⟨_, rfl⟩
  rw [hN, hM, hkey, hnm] at H1 H2 H3 H4 HC1
  rw [hN, hM, hkey, hnm]
  clear h hb hF g1 g2 g3 g4 hk hl hN hM hkey hnm s1 t1
  go_enter Tryz.func124, Tryz.ntmps124
  go_wp2_with (first
    | (go_at_call 123; go_must (refine H1.out.mono ?_; rintro e w1 ⟨rfl, K1⟩; obtain ⟨c1, c2, c3⟩ := HC1.out _ _ K1.out))
    | (go_at_call 142; go_must (refine (H2.out _ K1.out).mono ?_; rintro e w2 ⟨rfl, K2⟩; obtain ⟨c4, c5, c6⟩ := HC1.out _ _ K2.out))
    | (go_at_call 67; go_must (refine (H3.out _ K2.out).mono ?_; rintro e w3 ⟨rfl, K3⟩; obtain ⟨c7, c8, c9⟩ := HC1.out _ _ K3.out))
    | (go_at_call 144; go_must (refine (H4.out _ K3.out).mono ?_; rintro e w4 ⟨rfl, K4⟩)))
  go_end0
  exact ⟨rfl, K4.out⟩

set_option maxHeartbeats 400000 in
theorem wdone_any (h : WrI b l w F) : Calls Tryz.prog 70 #[.pointer (some ⟨b, 0, none⟩)] w fun e w' => e = .returned (.tuple #[.string (bytesOf l), .int .i64 0]) ∧ w' = w := by
  obtain ⟨A, c, h1, h2, h3⟩ := h
  have q0 : w.cell? ⟨b, 0, none⟩ = some (.slice A l.length c) := by rw [cell_of h1]; rfl
  have q1 : w.cell? ⟨b, 1, none⟩ = some (.bool false) := by rw [cell_of h1]; rfl
  have q2 : w.cell? ⟨b, 2, none⟩ = some (.bool false) := by rw [cell_of h1]; rfl
  have hcv := h2.str
  obtain ⟨n, hn⟩ : ∃ n, l.length = n := ⟨_, rfl⟩
  rw [hn] at q0 hcv
  clear h1 h2 h3 hn
  go_enter Tryz.func70, Tryz.ntmps70
  go_wp2
  go_ret2
  exact ⟨rfl, rfl⟩
end

end Go.Proofs.YtnboanlhdllhnaaGreat
