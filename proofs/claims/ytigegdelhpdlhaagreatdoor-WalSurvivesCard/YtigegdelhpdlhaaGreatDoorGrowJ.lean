import Derived.Lib.AppendStr
import Derived.Below
import Derived.Test.YtigegdelhpdlhaaGreatDoorJByJ
import Derived.Test.YtigegdelhpdlhaaGreatDoorJDec2J
import Derived.Laws.IdiomStrings
import Derived.Lib.BufferRead
/- Bytes of a string behind a slice of bytes: what it comes to, and where the new slice lies. Nothing here speaks of a program. -/
namespace Go.Proofs.YtigegdelhpdlhaaGreatDoor
open Go.RowKit Go.Lib

theorem run_append_str_at {P : Program} (w : World) (t u ty e : TypeId) (i : TypeInfo) (ht : P.underlying t = some (.slice e)) (hu : P.underlying u = some .string) (hi : P.info? e = some i) (hz : i.zero = some (.int .u8 0))
    (hsize : i.size = 1) (hby : i.bytes = 1) (v : Value) (n : Nat) (xs : List Value) (hown : w.ownsRow 0 e 1 v n xs) (s : ByteArray) (h63 : n + s.size ≤ maxLen) (hbytes : n + s.size ≤ 140737488355328) :
    ∃ a c w', (Builtin.append_ #[t, u] ty #[v, .string s]).run P w = .ok (.slice a (n + s.size) c) w' ∧ w'.ownsRow 0 e 1 (.slice a (n + s.size) c) (n + s.size) (xs ++ strCells s) ∧ w.grownBy w' v.ownBlock ∧
      ∀ b, (Value.slice a (n + s.size) c).ownBlock = some b → v.ownBlock = some b ∨ w.heap.size ≤ b := by
  have key : ∃ v' w', (Builtin.append_ #[t, u] ty #[v, .string s]).run P w = .ok v' w' ∧ w'.ownsRow 0 e 1 v' (n + s.size) (xs ++ strCells s) ∧ w.grownBy w' v.ownBlock ∧ ∀ b, v'.ownBlock = some b → v.ownBlock = some b ∨ w.heap.size ≤ b := by
    have hxl : xs.length = n := by simpa using hown.1
    rcases hown.2 with ⟨rfl, rfl⟩ | ⟨g, cap, cur, rfl, hbg, hg, hnc, hcm, hcs, htake⟩
    · have hx : xs = [] := List.eq_nil_of_length_eq_zero hxl
      subst hx
      obtain ⟨v', w', hr, h2, h3, _⟩ := run_append_own_string (P := P) w w.heap.size t u ty e i ht hu hi hz hsize hby (.slice none 0 0) 0 [] (World.ownsRow_nil w _ e 1) s h63 hbytes (Nat.le_refl _)
      refine ⟨v', w', hr, ?_, h3, fun b hb => Or.inr ?_⟩
      · obtain ⟨a1, a2⟩ := h2
        refine ⟨a1, ?_⟩
        rcases a2 with a2 | ⟨g, cap, cur, a3, _, a4⟩
        · exact Or.inl a2
        · exact Or.inr ⟨g, cap, cur, a3, Nat.zero_le _, a4⟩
      · rcases h2.2 with ⟨rfl, _⟩ | ⟨g, cap, cur, rfl, a, _⟩
        · cases hb
        · cases hb; exact a
    · obtain ⟨v', w', hr, h2, h3, _⟩ := run_append_own_string (P := P) w 0 t u ty e i ht hu hi hz hsize hby _ n xs hown s h63 hbytes (Nat.zero_le _)
      refine ⟨v', w', hr, h2, h3, fun b hb => ?_⟩
      by_cases hroom : n + s.size ≤ cap
      · have hcs' : cur.size = cap := by simpa using hcs
        have hr' := run_append_room_string (P := P) w t u ty e i ht hu hi hsize g n cap cur hg s hroom (by omega)
        rw [hr'] at hr
        cases hr
        exact Or.inl hb
      · have holds : ∀ j u, xs[j]? = some u → w.cell? ((⟨g, 0, none⟩ : Addr).add j) = some u := hown.cells (g := g) rfl
        have hsmall : n + s.size ≤ 9223372036854775807 := by simp only [maxLen] at h63; omega
        have hr' := run_append_grow_string (P := P) w t u ty e i (.int .u8 0) ht hu hi hz ⟨g, 0, none⟩ n cap xs (by rw [hsize]; simpa using hxl) holds s (by omega) (by omega) (by rw [hby]; exact growslice_fits (by omega) (by omega))
        rw [hr'] at hr
        cases hr
        cases hb
        exact Or.inr (Nat.le_refl _)
  obtain ⟨v', w', hr, h2, h3, h4⟩ := key
  have hs : ∃ a c, v' = .slice a (n + s.size) c := by
    rcases h2.2 with ⟨e, hn⟩ | ⟨b, cap, cur, e, _⟩
    · exact ⟨none, 0, by rw [e, hn]⟩
    · exact ⟨_, _, e⟩
  obtain ⟨a, c, rfl⟩ := hs
  exact ⟨a, c, w', hr, h2, h3, h4⟩

/-- At the operation, for the walk. -/
theorem wpList_append_str {P : Program} (w : World) {ops : Array Oper} {rest : List Oper} {o : Oper} {a : Act} {Q : Exit → Act → World → Prop} (hgd : o.guard = none) (sl x : Operand) (t u : TypeId)
    (ho : o.op = .call { callee := .builtin .append, args := #[sl, x], argTypes := #[t, u] })
    (e : TypeId) (i : TypeInfo) (ht : P.underlying t = some (.slice e)) (hu : P.underlying u = some .string) (hi : P.info? e = some i) (hz : i.zero = some (.int .u8 0))
    (hsize : i.size = 1) (hby : i.bytes = 1)
    (v : Value) (n : Nat) (xs : List Value) (hs : a.eval sl = v) (hown : w.ownsRow 0 e 1 v n xs) (s : ByteArray) (hx : a.eval x = .string s)
    (h63 : n + s.size ≤ maxLen) (hbytes : n + s.size ≤ 140737488355328)
    (h : ∀ a' c' w', w'.ownsRow 0 e 1 (.slice a' (n + s.size) c') (n + s.size) (xs ++ strCells s) → w.grownBy w' v.ownBlock →
      (∀ b, (Value.slice a' (n + s.size) c').ownBlock = some b → v.ownBlock = some b ∨ w.heap.size ≤ b) → wpList P ops Q rest (a.put o.dst (.slice a' (n + s.size) c')) w') : wpList P ops Q (o :: rest) a w := by
  refine wpList_plain hgd fun K hK => ?_
  obtain ⟨a', c', w', hr, h2, h3, h4⟩ := run_append_str_at (P := P) w t u o.type e i ht hu hi hz hsize hby v n xs hown s h63 hbytes
  unfold Oper.wp execOp
  simp only [ho, resolve, invoke, builtin, Sem.run_bind, Sem.run_pure, Result.andThen_ok, List.map_toArray, List.map_cons, List.map_nil, hs, hx, hr]
  exact hK _ _ (h a' c' w' h2 h3 h4)

end Go.Proofs.YtigegdelhpdlhaaGreatDoor

/- Layer 18: wal's writer: put. (Out of mess's, by jwr.py.) -/
namespace Go.Proofs.YtigegdelhpdlhaaGreatDoor
open Go.RowKit

theorem size_list (s : ByteArray) : s.data.toList.length = s.size := Array.length_toList
def jbytes (l : List UInt8) : ByteArray := ⟨l.toArray⟩
theorem jbytes_list (l : List UInt8) : (jbytes l).data.toList = l := by simp [jbytes]
theorem jbytes_size (l : List UInt8) : (jbytes l).size = l.length := List.size_toArray

/-- an own slice of bytes -/
def OwnJ (w : World) (base : Nat) (v : Value) (l : List UInt8) : Prop := w.ownsRow base 5 1 v l.length (bcells l)

theorem infoJ : ∃ i, Tryz.prog.info? 5 = some i ∧ i.zero = some (.int .u8 0) ∧ i.size = 1 ∧ i.bytes = 1 := info_parts (by kernel_rfl)

theorem OwnJ.shape {w : World} {base : Nat} {v : Value} {l : List UInt8} (h : OwnJ w base v l) : ∃ A c, v = .slice A l.length c ∧ l.length ≤ c ∧ c ≤ 9223372036854775807 := by
  rcases h.2 with ⟨rfl, hl⟩ | ⟨g, cap, cur, rfl, -, -, h4, h5, -⟩
  · exact ⟨none, 0, by rw [hl], by omega, by omega⟩
  · unfold maxLen at h5
    exact ⟨_, _, rfl, h4, by omega⟩
theorem OwnJ.block {w w' : World} {base : Nat} {v : Value} {l : List UInt8} (h : OwnJ w base v l) (e : ∀ g, v.ownBlock = some g → w'.heap[g]? = w.heap[g]?) : OwnJ w' base v l := ownsRow_block h e
theorem OwnJ.lt {w : World} {base : Nat} {v : Value} {l : List UInt8} (h : OwnJ w base v l) {g : Nat} (hg : v.ownBlock = some g) : base ≤ g ∧ g < w.heap.size := World.ownsRow.lt h g hg
theorem OwnJ.kept {w w' : World} {base : Nat} {v : Value} {l : List UInt8} (h : OwnJ w base v l) (hb : Below w.heap.size w w') : OwnJ w' base v l :=
  h.block fun g hg => hb.block g (h.lt hg).2
theorem OwnJ.ne {w : World} {base : Nat} {v : Value} {l : List UInt8} (h : OwnJ w base v l) {b : Nat} {c : Array Value} {t : TypeId} {fz : Nat × Nat} (hb : w.heap[b]? = some (.cells c t fz)) (ht : t ≠ 5) {g : Nat} (hg : v.ownBlock = some g) : g ≠ b := by
  intro e
  subst e
  obtain ⟨cur, hc, _⟩ := ownsRow_own h hg
  rw [hb] at hc
  simp only [Option.some.injEq, Obj.cells.injEq] at hc
  exact ht hc.2.1

theorem OwnJ.str {w : World} {base : Nat} {v : Value} {l : List UInt8} (h : OwnJ w base v l) : (convert 54 9 v).run Tryz.prog w = .ok (.string (jbytes l)) w := by
  rcases h.2 with ⟨rfl, hl⟩ | ⟨g, cap, cur, rfl, -, -, -, -, -, -⟩
  · have e : l = [] := List.eq_nil_of_length_eq_zero hl
    subst e
    exact Lib.run_convert_nil_bytes w 54 9 5 0 Tryz.underlying54 Tryz.underlying5 Tryz.underlying9
  · refine run_convert_bytes_back w 54 9 5 ⟨g, 0, none⟩ cap l Tryz.underlying54 Tryz.underlying5 Tryz.underlying9 fun j hj => ?_
    exact World.ownsRow.cells h (g := g) rfl j _ (bcells_get hj)

/-- a string's bytes put behind an own slice of bytes: what is turned, and where the new one lies -/
theorem wpList_textJ {w : World} {ops : Array Oper} {rest : List Oper} {o : Oper} {a : Act} {Q : Exit → Act → World → Prop} (hgd : o.guard = none) (sl x : Operand)
    (ho : o.op = .call { callee := .builtin .append, args := #[sl, x], argTypes := #[54, 9] })
    (v : Value) (l : List UInt8) (hs : a.eval sl = v) (hown : OwnJ w 0 v l) (s : ByteArray) (hx : a.eval x = .string s)
    (hL : l.length + s.size ≤ 10000000)
    (h : ∀ A c w' m, Hid ((l ++ s.data.toList).length = m) → Hid (OwnJ w' 0 (.slice A m c) (l ++ s.data.toList)) → Hid (Turn (fun i => v.ownBlock = some i) w w') → Hid (∀ b, (Value.slice A m c).ownBlock = some b → v.ownBlock = some b ∨ w.heap.size ≤ b) → wpList Tryz.prog ops Q rest (a.put o.dst (.slice A m c)) w') : wpList Tryz.prog ops Q (o :: rest) a w := by
  obtain ⟨i0, hi, hz0, hz1, hz2⟩ := infoJ
  refine wpList_append_str _ hgd sl x 54 9 ho 5 i0 Tryz.underlying54 Tryz.underlying9 hi hz0 hz1 hz2 v l.length (bcells l) hs hown s hx (by unfold maxLen; omega) (by omega) ?_
  intro A c w' h1 h2 h3
  refine h A c w' (l.length + s.size) (by show _ = _; rw [List.length_append, size_list]) ?_ (Turn.ofGrown h2 fun k hk => hk) h3
  show OwnJ _ _ _ _
  unfold OwnJ
  rw [bcells_append, List.length_append, size_list]
  exact h1

/-- a writer in block b: what it has written -/
def WrJ (b : Nat) (l : List UInt8) (w : World) (F : Nat → Prop) : Prop :=
  ∃ A c, w.heap[b]? = some (.cells #[.slice A l.length c] 140 (0, 0)) ∧ OwnJ w 0 (.slice A l.length c) l ∧ ∀ i, F i ↔ (i = b ∨ Value.ownBlock (.slice A l.length c) = some i)

theorem wrJ_res (b : Nat) (l : List UInt8) : Res (WrJ b l) := by
  refine ⟨fun {w F} h i hi => ?_, fun {w w' F S} h ht hS => ?_⟩
  · obtain ⟨A, c, h1, h2, h3⟩ := h
    rcases (h3 i).1 hi with rfl | h
    · exact lt_of h1
    · exact (h2.lt h).2
  · obtain ⟨A, c, h1, h2, h3⟩ := h
    refine ⟨A, c, (ht.block b (lt_of h1) (hS b ((h3 b).2 (Or.inl rfl)))).trans h1, h2.block fun g hg => ht.block g (h2.lt hg).2 (hS g ((h3 g).2 (Or.inr hg))), h3⟩

set_option maxRecDepth 100000 in
set_option maxHeartbeats 1000000 in
theorem jput_any (b : Nat) (l : List UInt8) (s : ByteArray) (w : World) (F : Nat → Prop) (h : WrJ b l w F) (hl : l.length + s.size ≤ 65536) :
    Calls Tryz.prog 109 #[.pointer (some ⟨b, 0, none⟩), .string s] w fun e w' => e = .returned (.tuple #[]) ∧ Goes (WrJ b (l ++ s.data.toList)) w w' F := by
  obtain ⟨A, c, h1, h2, h3⟩ := h
  have hlt := lt_of h1
  have HF : Hid (∀ i, F i ↔ (i = b ∨ Value.ownBlock (.slice A l.length c) = some i)) := h3
  have HO : Hid (OwnJ w 0 (.slice A l.length c) l) := h2
  have HB : Hid (w.heap[b]? = some (.cells #[.slice A l.length c] 140 (0, 0))) := h1
  obtain ⟨A1, c1, e1, g1, g2⟩ := h2.shape
  cases e1
  have q0 : w.cell? ⟨b, 0, none⟩ = some (.slice A l.length c) := by rw [cell_of h1]; rfl
  obtain ⟨n, hn⟩ : ∃ n, l.length = n := ⟨_, rfl⟩
  have HL : Hid (l.length + s.size ≤ 10000000) := by show _ ≤ _; omega
  rw [hn] at HO HB HF q0 hl g1
  have k1 : ¬ (65536 - (n : Int) < (s.size : Int)) := by omega
  have k2 : IntKind.i64.wrap (65536 - (n : Int)) = 65536 - (n : Int) := wrap_small _ (by omega) (by omega)
  clear h1 h2 h3 hn
  have HRf : Hid (∀ u, Calls Tryz.prog 55 #[.bool false, .int .i64 2] u fun r w' => r = .returned (.tuple #[]) ∧ w' = u) := fun u => refuse_no 2 u
  have k3 : decide (65536 - (n : Int) < (s.size : Int)) = false := decide_eq_false k1
  go_enter Tryz.func109, Tryz.ntmps109
  go_wp2_with fail
  refine (HRf.out _).mono ?_
  rintro e w2 ⟨rfl, hw2⟩
  obtain rfl := hw2.symm
  go_wp2_with (at_builtin; go_must (refine wpList_textJ rfl _ _ rfl (.slice A n c) l rfl HO.out s rfl HL.out ?_))
  intro A' c' w' m HM HO2 HT HP
  have hB2 := (HT.out.block b hlt (fun e => HO.out.ne HB.out (by decide) e rfl)).trans HB.out
  have q3 : w'.cell? ⟨b, 0, none⟩ = some (.slice A n c) := by rw [cell_of hB2]; rfl
  have q4 := frozen_of hB2 0
  have HB2 : Hid (w'.heap[b]? = some (.cells #[.slice A n c] 140 (0, 0))) := hB2
  clear hB2
  go_wp2
  go_end0
  have hm : (l ++ s.data.toList).length = m := by rw [List.length_append, size_list]; exact HM.out
  refine ⟨rfl, (fun i => i = b ∨ Value.ownBlock (.slice A' m c') = some i), ⟨A', c', ?_, ?_, ?_⟩, ?_, fun i hi => ?_⟩
  · rw [hm]
    exact heap_setCell_same HB2.out 0 _
  · rw [hm]
    exact HO2.out.block fun g hg => Below.heap_setCell w' ⟨b, 0, none⟩ _ g (fun e => HO2.out.ne HB2.out (by decide) hg e)
  · intro i
    rw [hm]
  · have t1 : Turn F w w' := HT.out.mono fun i hi => (HF.out i).2 (Or.inr hi)
    have t2 : Turn F w' (w'.setCell ⟨b, 0, none⟩ (.slice A' m c')) := Turn.setCell w' ⟨b, 0, none⟩ _ ((HF.out b).2 (Or.inl rfl))
    exact t1.trans t2
  · rcases hi with rfl | hi
    · exact Or.inl ((HF.out i).2 (Or.inl rfl))
    · rcases HP.out i hi with h | h
      · exact Or.inl ((HF.out i).2 (Or.inr h))
      · exact Or.inr h
end Go.Proofs.YtigegdelhpdlhaaGreatDoor

/- Layer 18: wal's writer: numbers, texts, flags. -/
namespace Go.Proofs.YtigegdelhpdlhaaGreatDoor
open Go.RowKit QP

theorem Goes.after {I' : World → (Nat → Prop) → Prop} {w w1 w' : World} {F : Nat → Prop} (hb : Below w.heap.size w w1) (h : Goes I' w1 w' F) : Goes I' w w' F := by
  obtain ⟨F', h1, h2, h3⟩ := h
  exact ⟨F', h1, (Turn.ofBelow F hb).trans h2, fun i hi => (h3 i hi).imp id (fun h => Nat.le_trans hb.size h)⟩
theorem Goes.then' {I' I'' : World → (Nat → Prop) → Prop} {w w1 w' : World} {F : Nat → Prop} (h : Goes I' w w1 F) (k : ∀ F', I' w1 F' → Goes I'' w1 w' F') : Goes I'' w w' F := by
  obtain ⟨F', h1, h2, h3⟩ := h
  obtain ⟨F'', k1, k2, k3⟩ := k F' h1
  refine ⟨F'', k1, h2.transNew k2 h3, fun i hi => ?_⟩
  rcases k3 i hi with h | h
  · exact h3 i h
  · exact Or.inr (Nat.le_trans h2.size h)
/-- eight bytes of a number, the lowest first -/
def le8J (n : Nat) : List UInt8 := (ofN (lo n 8)).data.toList
theorem le8J_length (n : Nat) : (le8J n).length = 8 := by
  unfold le8J
  rw [size_list, ofN_size, lo_length]

set_option maxHeartbeats 1000000 in
theorem jwnum_any (b : Nat) (l : List UInt8) (n : Nat) (w : World) (F : Nat → Prop) (h : WrJ b l w F) (hl : l.length + 8 ≤ 65536) :
    Calls Tryz.prog 88 #[.pointer (some ⟨b, 0, none⟩), .int .u64 (n : Int)] w fun e w' => e = .returned (.tuple #[]) ∧ Goes (WrJ b (l ++ le8J n)) w w' F := by
  have HN : Hid (Calls Tryz.prog 95 #[.int .u64 (n : Int)] w fun e w' => e = .returned (.string (ofN (lo n 8))) ∧ Below w.heap.size w w') := numB_any n w
  have HP : Hid (∀ u, Below w.heap.size w u → Calls Tryz.prog 109 #[.pointer (some ⟨b, 0, none⟩), .string (ofN (lo n 8))] u fun e w' => e = .returned (.tuple #[]) ∧ Goes (WrJ b (l ++ le8J n)) u w' F) := fun u hu => jput_any b l (ofN (lo n 8)) u F ((wrJ_res b l).kept (S := fun _ => False) h (Turn.ofBelow _ hu) (fun _ _ h => h)) (by rw [ofN_size, lo_length]; exact hl)
  clear h
  go_enter Tryz.func88, Tryz.ntmps88
  go_wp2_with fail
  refine HN.out.mono ?_
  rintro e w1 ⟨rfl, hb1⟩
  go_wp2_with fail
  refine (HP.out _ hb1).mono ?_
  rintro e w2 ⟨rfl, hg⟩
  have HG : Hid (Goes (WrJ b (l ++ le8J n)) w w2 F) := Goes.after hb1 hg
  clear hg
  go_wp2_with fail
  go_returns
  exact ⟨rfl, HG.out⟩

set_option maxHeartbeats 1000000 in
theorem jwtext_any (b : Nat) (l : List UInt8) (s : ByteArray) (w : World) (F : Nat → Prop) (h : WrJ b l w F) (hl : l.length + 8 + s.size ≤ 65536) :
    Calls Tryz.prog 110 #[.pointer (some ⟨b, 0, none⟩), .string s] w fun e w' => e = .returned (.tuple #[]) ∧ Goes (WrJ b (l ++ le8J s.size ++ s.data.toList)) w w' F := by
  have HN : Hid (Calls Tryz.prog 88 #[.pointer (some ⟨b, 0, none⟩), .int .u64 (s.size : Int)] w fun e w' => e = .returned (.tuple #[]) ∧ Goes (WrJ b (l ++ le8J s.size)) w w' F) := jwnum_any b l s.size w F h (by omega)
  have HP : Hid (∀ u F', WrJ b (l ++ le8J s.size) u F' → Calls Tryz.prog 109 #[.pointer (some ⟨b, 0, none⟩), .string s] u fun e w' => e = .returned (.tuple #[]) ∧ Goes (WrJ b (l ++ le8J s.size ++ s.data.toList)) u w' F') := fun u F' hu => jput_any b _ s u F' hu (by rw [List.length_append, le8J_length]; exact hl)
  have wn : IntKind.u64.wrap (s.size : Int) = (s.size : Int) := by
    simp [IntKind.wrap, IntKind.bits, IntKind.signed]
    omega
  have wn2 : (s.size : Int) % 18446744073709551616 = (s.size : Int) := by omega
  clear h
  go_enter Tryz.func110, Tryz.ntmps110
  go_wp2_with fail
  refine HN.out.mono ?_
  rintro e w1 ⟨rfl, hg1⟩
  obtain ⟨F1, i1, t1, n1⟩ := id hg1
  have HG1 : Hid (Goes (WrJ b (l ++ le8J s.size)) w w1 F) := hg1
  go_wp2_with fail
  refine (HP.out _ _ i1).mono ?_
  rintro e w2 ⟨rfl, hg⟩
  have HG : Hid (Goes (WrJ b (l ++ le8J s.size ++ s.data.toList)) w w2 F) := by
    obtain ⟨F2, j1, j2, j3⟩ := hg
    refine ⟨F2, j1, t1.transNew j2 n1, fun i hi => ?_⟩
    rcases j3 i hi with h | h
    · exact n1 i h
    · exact Or.inr (Nat.le_trans t1.size h)
  clear hg hg1 i1 t1 n1
  go_wp2_with fail
  go_returns
  exact ⟨rfl, HG.out⟩

set_option maxHeartbeats 1000000 in
theorem jwflag_no (b : Nat) (l : List UInt8) (w : World) (F : Nat → Prop) (h : WrJ b l w F) (hl : l.length + 1 ≤ 65536) :
    Calls Tryz.prog 111 #[.pointer (some ⟨b, 0, none⟩), .bool false] w fun e w' => e = .returned (.tuple #[]) ∧ Goes (WrJ b (l ++ [0])) w w' F := by
  have HP : Hid (Calls Tryz.prog 109 #[.pointer (some ⟨b, 0, none⟩), .string ⟨#[0]⟩] w fun e w' => e = .returned (.tuple #[]) ∧ Goes (WrJ b (l ++ [0])) w w' F) := jput_any b l ⟨#[0]⟩ w F h hl
  clear h
  go_enter Tryz.func111, Tryz.ntmps111
  go_wp2_with fail
  refine HP.out.mono ?_
  rintro e w2 ⟨rfl, hg⟩
  have HG : Hid (Goes (WrJ b (l ++ [0])) w w2 F) := hg
  clear hg
  go_wp2_with fail
  go_returns
  exact ⟨rfl, HG.out⟩
end Go.Proofs.YtigegdelhpdlhaaGreatDoor
