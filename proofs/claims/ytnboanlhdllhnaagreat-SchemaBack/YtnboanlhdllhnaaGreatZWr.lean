/- mess: the writer's put and number. -/
import Derived.Test.YtnboanlhdllhnaaGreatZCheckT
import Derived.Lib.AppendStr
import Derived.Test.YtnboanlhdllhnaaGreatZMid
import Derived.Test.YtnboanlhdllhnaaGreatGrow
import Derived.Laws.IdiomStrings
import Derived.Lib.BufferRead
namespace Go.Proofs.YtnboanlhdllhnaaGreat
open Go.RowKit

def bytesOf (l : List UInt8) : ByteArray := ⟨l.toArray⟩
theorem bytesOf_list (l : List UInt8) : (bytesOf l).data.toList = l := by simp [bytesOf]
theorem bytesOf_size (l : List UInt8) : (bytesOf l).size = l.length := List.size_toArray

/-- an own slice of bytes -/
def OwnB (w : World) (base : Nat) (v : Value) (l : List UInt8) : Prop := w.ownsRow base 5 1 v l.length (bcells l)

theorem infoByte_parts : ∃ i, Tryz.prog.info? 5 = some i ∧ i.zero = some (.int .u8 0) ∧ i.size = 1 ∧ i.bytes = 1 := info_parts (by kernel_rfl)

theorem OwnB.shape {w : World} {base : Nat} {v : Value} {l : List UInt8} (h : OwnB w base v l) : ∃ A c, v = .slice A l.length c ∧ l.length ≤ c ∧ c ≤ 9223372036854775807 := by
  rcases h.2 with ⟨rfl, hl⟩ | ⟨g, cap, cur, rfl, -, -, h4, h5, -⟩
  · exact ⟨none, 0, by rw [hl], by omega, by omega⟩
  · unfold maxLen at h5
    exact ⟨_, _, rfl, h4, by omega⟩
theorem OwnB.block {w w' : World} {base : Nat} {v : Value} {l : List UInt8} (h : OwnB w base v l) (e : ∀ g, v.ownBlock = some g → w'.heap[g]? = w.heap[g]?) : OwnB w' base v l := ownsRow_block h e
theorem OwnB.lt {w : World} {base : Nat} {v : Value} {l : List UInt8} (h : OwnB w base v l) {g : Nat} (hg : v.ownBlock = some g) : base ≤ g ∧ g < w.heap.size := World.ownsRow.lt h g hg
theorem OwnB.kept {w w' : World} {base : Nat} {v : Value} {l : List UInt8} (h : OwnB w base v l) (hb : Below w.heap.size w w') : OwnB w' base v l :=
  h.block fun g hg => hb.block g (h.lt hg).2
theorem OwnB.ne {w : World} {base : Nat} {v : Value} {l : List UInt8} (h : OwnB w base v l) {b : Nat} {c : Array Value} {t : TypeId} {fz : Nat × Nat} (hb : w.heap[b]? = some (.cells c t fz)) (ht : t ≠ 5) {g : Nat} (hg : v.ownBlock = some g) : g ≠ b := by
  intro e
  subst e
  obtain ⟨cur, hc, _⟩ := ownsRow_own h hg
  rw [hb] at hc
  simp only [Option.some.injEq, Obj.cells.injEq] at hc
  exact ht hc.2.1

theorem OwnB.str {w : World} {base : Nat} {v : Value} {l : List UInt8} (h : OwnB w base v l) : (convert 73 9 v).run Tryz.prog w = .ok (.string (bytesOf l)) w := by
  rcases h.2 with ⟨rfl, hl⟩ | ⟨g, cap, cur, rfl, -, -, -, -, -, -⟩
  · have e : l = [] := List.eq_nil_of_length_eq_zero hl
    subst e
    exact Lib.run_convert_nil_bytes w 73 9 5 0 Tryz.underlying73 Tryz.underlying5 Tryz.underlying9
  · refine run_convert_bytes_back w 73 9 5 ⟨g, 0, none⟩ cap l Tryz.underlying73 Tryz.underlying5 Tryz.underlying9 fun j hj => ?_
    exact World.ownsRow.cells h (g := g) rfl j _ (bcells_get hj)

/-- a string's bytes put behind an own slice of bytes: what is turned, and where the new one lies -/
theorem wpList_textT {w : World} {ops : Array Oper} {rest : List Oper} {o : Oper} {a : Act} {Q : Exit → Act → World → Prop} (hgd : o.guard = none) (sl x : Operand)
    (ho : o.op = .call { callee := .builtin .append, args := #[sl, x], argTypes := #[73, 9] })
    (v : Value) (l : List UInt8) (hs : a.eval sl = v) (hown : OwnB w 0 v l) (s : ByteArray) (hx : a.eval x = .string s)
    (hL : l.length + s.size ≤ 10000000)
    (h : ∀ A c w' m, Hid ((l ++ s.data.toList).length = m) → Hid (OwnB w' 0 (.slice A m c) (l ++ s.data.toList)) → Hid (Turn (fun i => v.ownBlock = some i) w w') → Hid (∀ b, (Value.slice A m c).ownBlock = some b → v.ownBlock = some b ∨ w.heap.size ≤ b) → wpList Tryz.prog ops Q rest (a.put o.dst (.slice A m c)) w') : wpList Tryz.prog ops Q (o :: rest) a w := by
  obtain ⟨i0, hi, hz0, hz1, hz2⟩ := infoByte_parts
  refine wpList_append_str _ hgd sl x 73 9 ho 5 i0 Tryz.underlying73 Tryz.underlying9 hi hz0 hz1 hz2 v l.length (bcells l) hs hown s hx (by unfold maxLen; omega) (by omega) ?_
  intro A c w' h1 h2 h3
  refine h A c w' (l.length + s.size) (by show _ = _; rw [List.length_append, size_list]) ?_ (Turn.ofGrown h2 fun k hk => hk) h3
  show OwnB _ _ _ _
  unfold OwnB
  rw [bcells_append, List.length_append, size_list]
  exact h1

/-- a writer in block b: what it has written -/
def WrI (b : Nat) (l : List UInt8) (w : World) (F : Nat → Prop) : Prop :=
  ∃ A c, w.heap[b]? = some (.cells #[.slice A l.length c, .bool false, .bool false] 122 (0, 0)) ∧ OwnB w 0 (.slice A l.length c) l ∧ ∀ i, F i ↔ (i = b ∨ Value.ownBlock (.slice A l.length c) = some i)

theorem wrI_res (b : Nat) (l : List UInt8) : Res (WrI b l) := by
  refine ⟨fun {w F} h i hi => ?_, fun {w w' F S} h ht hS => ?_⟩
  · obtain ⟨A, c, h1, h2, h3⟩ := h
    rcases (h3 i).1 hi with rfl | h
    · exact lt_of h1
    · exact (h2.lt h).2
  · obtain ⟨A, c, h1, h2, h3⟩ := h
    refine ⟨A, c, (ht.block b (lt_of h1) (hS b ((h3 b).2 (Or.inl rfl)))).trans h1, h2.block fun g hg => ht.block g (h2.lt hg).2 (hS g ((h3 g).2 (Or.inr hg))), h3⟩

set_option maxRecDepth 100000 in
set_option maxHeartbeats 1000000 in
theorem put_any (b : Nat) (l : List UInt8) (s : ByteArray) (w : World) (F : Nat → Prop) (h : WrI b l w F) (hl : l.length + s.size ≤ 65536) :
    Calls Tryz.prog 88 #[.pointer (some ⟨b, 0, none⟩), .string s] w fun e w' => e = .returned (.tuple #[]) ∧ Goes (WrI b (l ++ s.data.toList)) w w' F := by
  obtain ⟨A, c, h1, h2, h3⟩ := h
  have hlt := lt_of h1
  have HF : Hid (∀ i, F i ↔ (i = b ∨ Value.ownBlock (.slice A l.length c) = some i)) := h3
  have HO : Hid (OwnB w 0 (.slice A l.length c) l) := h2
  have HB : Hid (w.heap[b]? = some (.cells #[.slice A l.length c, .bool false, .bool false] 122 (0, 0))) := h1
  obtain ⟨A1, c1, e1, g1, g2⟩ := h2.shape
  cases e1
  have q0 : w.cell? ⟨b, 0, none⟩ = some (.slice A l.length c) := by rw [cell_of h1]; rfl
  have q2 : w.cell? ⟨b, 2, none⟩ = some (.bool false) := by rw [cell_of h1]; rfl
  obtain ⟨n, hn⟩ : ∃ n, l.length = n := ⟨_, rfl⟩
  have HL : Hid (l.length + s.size ≤ 10000000) := by show _ ≤ _; omega
  rw [hn] at HO HB HF q0 hl g1
  have k1 : ¬ (65536 - (n : Int) < (s.size : Int)) := by omega
  have k2 : IntKind.i64.wrap (65536 - (n : Int)) = 65536 - (n : Int) := wrap_small _ (by omega) (by omega)
  clear h1 h2 h3 hn
  go_enter Tryz.func88, Tryz.ntmps88
  go_wp2_with (at_builtin; go_must (refine wpList_textT rfl _ _ rfl (.slice A n c) l rfl HO.out s rfl HL.out ?_))
  intro A' c' w' m HM HO2 HT HP
  have hB2 := (HT.out.block b hlt (fun e => HO.out.ne HB.out (by decide) e rfl)).trans HB.out
  have q3 : w'.cell? ⟨b, 0, none⟩ = some (.slice A n c) := by rw [cell_of hB2]; rfl
  have q4 := frozen_of hB2 0
  have HB2 : Hid (w'.heap[b]? = some (.cells #[.slice A n c, .bool false, .bool false] 122 (0, 0))) := hB2
  clear hB2
  go_wp2
  go_end0
  have hm : (l ++ s.data.toList).length = m := by rw [List.length_append, size_list]; exact HM.out
  refine ⟨rfl, (fun i => i = b ∨ Value.ownBlock (.slice A' m c') = some i), ⟨A', c', ?_, ?_, ?_⟩, ?_, fun i hi => ?_⟩
  · rw [hm]
    exact heap_setCell_same HB2.out 0 _
  · rw [hm]
    exact HO2.out.block fun g hg => Below.heap_setCell w' ⟨b, 0, none⟩ _ g (fun e => HO2.out.ne HB2.out (by decide) hg e)
  · intro i
    rw [hm]
  · have t1 : Turn F w w' := HT.out.mono fun i hi => (HF.out i).2 (Or.inr hi)
    have t2 : Turn F w' (w'.setCell ⟨b, 0, none⟩ (.slice A' m c')) := Turn.setCell w' ⟨b, 0, none⟩ _ ((HF.out b).2 (Or.inl rfl))
    exact t1.trans t2
  · rcases hi with rfl | hi
    · exact Or.inl ((HF.out i).2 (Or.inl rfl))
    · rcases HP.out i hi with h | h
      · exact Or.inl ((HF.out i).2 (Or.inr h))
      · exact Or.inr h

theorem le8_cells (n : Int) : bcells (le8 n) = [.int .u8 (n % 256), .int .u8 (n / 256 % 256), .int .u8 (n / 65536 % 256), .int .u8 (n / 16777216 % 256), .int .u8 (n / 4294967296 % 256), .int .u8 (n / 1099511627776 % 256), .int .u8 (n / 281474976710656 % 256), .int .u8 (n / 72057594037927936 % 256)] := by
  have e : ∀ u : Nat, ((UInt8.ofNat (u % 256)).toNat : Int) = (u : Int) % 256 := fun u => by simp
  have hu : ((uOf n : Nat) : Int) = n % 18446744073709551616 := by unfold uOf; omega
  simp only [le8, leN, bcells, List.map_cons, List.map_nil, e]
  simp only [List.cons.injEq, Value.int.injEq, true_and, and_true]
  refine ⟨?_, ?_, ?_, ?_, ?_, ?_, ?_, ?_⟩ <;> omega

set_option maxRecDepth 100000 in
set_option maxHeartbeats 1000000 in
theorem wnumber_any (b : Nat) (l : List UInt8) (n : Int) (w : World) (F : Nat → Prop) (h : WrI b l w F) (hl : l.length + 8 ≤ 65536) (hn : I64 n) :
    Calls Tryz.prog 67 #[.pointer (some ⟨b, 0, none⟩), .int .i64 n] w fun e w' => e = .returned (.tuple #[]) ∧ Goes (WrI b (l ++ le8 n)) w w' F := by
  obtain ⟨n1, n2⟩ := hn
  have hcv : (convert 73 9 (.slice (some ⟨w.heap.size, 0, none⟩) 8 8)).run Tryz.prog (w.alloc (.cells #[.int .u8 (n % 256), .int .u8 (n / 256 % 256), .int .u8 (n / 65536 % 256), .int .u8 (n / 16777216 % 256), .int .u8 (n / 4294967296 % 256), .int .u8 (n / 1099511627776 % 256), .int .u8 (n / 281474976710656 % 256), .int .u8 (n / 72057594037927936 % 256)] 146)) = .ok (.string (bytesOf (le8 n))) (w.alloc (.cells #[.int .u8 (n % 256), .int .u8 (n / 256 % 256), .int .u8 (n / 65536 % 256), .int .u8 (n / 16777216 % 256), .int .u8 (n / 4294967296 % 256), .int .u8 (n / 1099511627776 % 256), .int .u8 (n / 281474976710656 % 256), .int .u8 (n / 72057594037927936 % 256)] 146)) := by
    have := run_convert_bytes_back (P := Tryz.prog) (w.alloc (.cells #[.int .u8 (n % 256), .int .u8 (n / 256 % 256), .int .u8 (n / 65536 % 256), .int .u8 (n / 16777216 % 256), .int .u8 (n / 4294967296 % 256), .int .u8 (n / 1099511627776 % 256), .int .u8 (n / 281474976710656 % 256), .int .u8 (n / 72057594037927936 % 256)] 146)) 73 9 5 ⟨w.heap.size, 0, none⟩ 8 (le8 n) Tryz.underlying73 Tryz.underlying5 Tryz.underlying9 (fun j hj => by
      rw [Addr.add_lit, cell_of (heap_new w _), Nat.zero_add, ← Array.getElem?_toList]
      show ([_, _, _, _, _, _, _, _] : List Value)[j]? = _
      rw [← le8_cells, bcells_get hj])
    rw [le8_length] at this
    exact this
  have HP : Hid (∀ o : Obj, Calls Tryz.prog 88 #[.pointer (some ⟨b, 0, none⟩), .string (bytesOf (le8 n))] (w.alloc o) fun e w' => e = .returned (.tuple #[]) ∧ Hid (Goes (WrI b (l ++ le8 n)) w w' F)) := fun o => by
    obtain ⟨A, h1, h2⟩ := ((MidS.start h).alloc (wrI_res _ _) o).call
    refine (put_any b l (bytesOf (le8 n)) (w.alloc o) A h1 (by rw [bytesOf_size, le8_length]; exact hl)).mono fun e w' ⟨e1, e2⟩ => ⟨e1, ?_⟩
    rw [bytesOf_list] at e2
    exact (h2 w' _ e2).goes
  clear h
  go_enter Tryz.func67, Tryz.ntmps67
  go_wp2
  refine wp_loop_rounds 9 ?_
  iterate 9
    rw [rounds_succ]
    go_wp2_with fail
  go_wp2_with (go_at_call 88; go_must (refine (HP.out _).mono ?_; rintro e w1 ⟨rfl, H1⟩))
  go_end0
  exact ⟨rfl, H1.out⟩

end Go.Proofs.YtnboanlhdllhnaaGreat
