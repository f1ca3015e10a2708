/- A queue of bytes: a slice anywhere in a block of its own. What append makes of it, and what is cut off and read. -/
import Derived.Test.YthfmppghdlniiaaProg
import Derived.Test.YthfmppghdlniiaaBase
namespace Go.Proofs.Ythfmppghdlniiaa
open Go.RowKit Go.Lib

def QAt (w : World) (v : Value) (q : List UInt8) : Prop :=
  (v = .slice none 0 0 ∧ q = []) ∨ ∃ b off cap cur, v = .slice (some ⟨b, off, none⟩) q.length cap ∧ w.heap[b]? = some (.cells cur 5 (0, 0)) ∧ q.length ≤ cap ∧ off + cap ≤ cur.size ∧ cap ≤ maxLen ∧ (cur.toList.drop off).take q.length = bcells q

theorem QAt.nil (w : World) : QAt w (.slice none 0 0) [] := Or.inl ⟨rfl, rfl⟩

theorem QAt.block {w w' : World} {v : Value} {q : List UInt8} (h : QAt w v q) (hb : ∀ g, v.ownBlock = some g → w'.heap[g]? = w.heap[g]?) : QAt w' v q := by
  rcases h with h | ⟨b, off, cap, cur, rfl, hh, r⟩
  · exact Or.inl h
  · exact Or.inr ⟨b, off, cap, cur, rfl, (hb b rfl).trans hh, r⟩

theorem QAt.own {w : World} {v : Value} {q : List UInt8} (h : QAt w v q) {g : Nat} (hv : v.ownBlock = some g) : ∃ cur, w.heap[g]? = some (.cells cur 5 (0, 0)) := by
  rcases h with ⟨rfl, _⟩ | ⟨b, off, cap, cur, rfl, hh, r⟩
  · cases hv
  · cases hv; exact ⟨cur, hh⟩

theorem QAt.shape {w : World} {v : Value} {q : List UInt8} (h : QAt w v q) : ∃ a c, v = .slice a q.length c ∧ q.length ≤ c ∧ c ≤ maxLen ∧ (a = none → c = 0) := by
  rcases h with ⟨rfl, rfl⟩ | ⟨b, off, cap, cur, rfl, _, h1, _, h2, _⟩
  · exact ⟨none, 0, rfl, Nat.le_refl _, Nat.zero_le _, fun _ => rfl⟩
  · exact ⟨_, _, rfl, h1, h2, fun h => by cases h⟩

theorem QAt.ofRow {w : World} {base : Nat} {v : Value} {n : Nat} {q : List UInt8} (h : w.ownsRow base 5 1 v n (bcells q)) : QAt w v q := by
  obtain ⟨h1, h2⟩ := h
  have hn : q.length = n := by simpa [bcells] using h1
  rcases h2 with ⟨rfl, h0⟩ | ⟨g, cap, cur, rfl, _, hg, hc, hm, hs, ht⟩
  · exact Or.inl ⟨rfl, List.eq_nil_of_length_eq_zero (by omega)⟩
  · refine Or.inr ⟨g, 0, cap, cur, by rw [hn], hg, by omega, by omega, hm, ?_⟩
    rw [hn]
    simpa using ht

theorem infoB : (Try.prog.info? 5).map (fun i => (i.zero, i.size, i.bytes)) = some (some (.int .u8 0), 1, 1) := by kernel_rfl

theorem run_append_room_mid {P : Program} (w : World) (t u ty e : TypeId) (i : TypeInfo) (ht : P.underlying t = some (.slice e)) (hu : P.underlying u = some .string) (hi : P.info? e = some i) (hs1 : i.size = 1)
    (g off sLen sCap : Nat) (cur : Array Value) (hg : w.heap[g]? = some (.cells cur e (0, 0))) (s : ByteArray) (hroom : sLen + s.size ≤ sCap) (hfit : off + sLen + s.size ≤ cur.size) :
    (Builtin.append_ #[t, u] ty #[.slice (some ⟨g, off, none⟩) sLen sCap, .string s]).run P w =
      .ok (.slice (some ⟨g, off, none⟩) (sLen + s.size) sCap) (w.setRow g (cur.toList.take (off + sLen) ++ strCells s ++ cur.toList.drop (off + sLen + s.size)).toArray) := by
  have hf := run_firstCells_string (P := P) w 1 s
  have hst := run_storeCells_at P g (off + sLen) e (strCells s) 0 cur w hg (by simpa [strCells_length] using hfit) (strCells_oneCell s)
  simp only [Nat.add_zero, strCells_length] at hst
  simp [Builtin.append_, run_underlying ht, run_underlying hu, sizeOf, typeInfo, hi, hs1, Builtin.lenOf, hroom, hf, Addr.add_lit, hst]

theorem take_mid (A X B : List Value) (off n m : Nat) (h : (A.drop off).take n = X) (ho : off + n ≤ A.length) (hm : B.length = m) : ((A.take (off + n) ++ B ++ A.drop (off + n + m)).drop off).take (n + m) = X ++ B := by
  have e1 : A.take (off + n) = A.take off ++ X := by rw [List.take_add, h]
  have hXl : X.length = n := by rw [← h, List.length_take, List.length_drop]; omega
  have hl : (A.take off).length = off := by rw [List.length_take]; omega
  rw [e1, List.append_assoc, List.append_assoc, List.drop_left' hl, ← List.append_assoc]
  exact List.take_left' (by rw [List.length_append]; omega)

theorem append_q (w : World) (ty : TypeId) {v : Value} {q : List UInt8} (hq : QAt w v q) (s : ByteArray) (hb : q.length + s.size ≤ 262144) :
    ∃ a c w', (Builtin.append_ #[57, 9] ty #[v, .string s]).run Try.prog w = .ok (.slice a (q.length + s.size) c) w' ∧ QAt w' (.slice a (q.length + s.size) c) (q ++ s.data.toList) ∧ w.grownBy w' v.ownBlock ∧
      ∀ b, (Value.slice a (q.length + s.size) c).ownBlock = some b → v.ownBlock = some b ∨ w.heap.size ≤ b := by
  obtain ⟨i0, hi, hz0, hz1, hz2⟩ := info_parts infoB
  have hlen : (q ++ s.data.toList).length = q.length + s.size := by rw [List.length_append]; rfl
  rcases hq with ⟨rfl, rfl⟩ | ⟨b, off, cap, cur, rfl, hg, h1, h2, h3, h4⟩
  · obtain ⟨v', w', hr, r2, r3, _⟩ := run_append_own_string (P := Try.prog) w w.heap.size 57 9 ty 5 i0 Try.underlying57 Try.underlying9 hi hz0 hz1 hz2 (.slice none 0 0) 0 [] (World.ownsRow_nil w _ 5 1) s (by unfold maxLen; simp at hb; omega) (by simp at hb; omega) (Nat.le_refl _)
    rw [List.nil_append, bcells_str] at r2
    have hQ := QAt.ofRow r2
    obtain ⟨a, c, rfl, -⟩ := hQ.shape
    refine ⟨a, c, w', by simpa using hr, by simpa using hQ, r3, fun g hg => Or.inr ?_⟩
    have hown : (Value.slice a s.data.toList.length c).ownBlock = some g := by simpa using hg
    exact (ownsRow_own r2 hown).choose_spec.2
  · by_cases hroom : q.length + s.size ≤ cap
    · have hr := run_append_room_mid (P := Try.prog) w 57 9 ty 5 i0 Try.underlying57 Try.underlying9 hi hz1 b off q.length cap cur hg s hroom (by omega)
      refine ⟨_, _, _, hr, Or.inr ⟨b, off, cap, _, by rw [hlen], setRow_heap w b cur _ 5 _ hg, by omega, ?_, h3, ?_⟩, ⟨rfl, rfl, rfl, by simp, fun k _ hk => setRow_other w b k _ (fun e => hk (by simp [Value.ownBlock, e]))⟩, fun g hg => Or.inl hg⟩
      · simp only [List.size_toArray, List.length_append, List.length_take, List.length_drop, Array.length_toList, strCells_length]
        omega
      · rw [hlen, bcells_append, ← bcells_str]
        exact take_mid cur.toList (bcells q) (strCells s) off q.length s.size h4 (by simp; omega) (strCells_length s)
    · have holds : ∀ j u, (bcells q)[j]? = some u → w.cell? ((⟨b, off, none⟩ : Addr).add j) = some u := by
        intro j u hu
        have hj : j < q.length := by
          have := (List.getElem?_eq_some_iff.1 hu).1
          simpa [bcells] using this
        rw [← h4, List.getElem?_take_of_lt hj, List.getElem?_drop] at hu
        rw [Addr.add_lit, cell_of hg]
        simpa using hu
      have hge := grownCap_ge w (q.length + s.size) cap 5
      have hcm : grownCap w (q.length + s.size) cap 5 ≤ maxLen := grownCap_le_maxLen w (q.length + s.size) cap 5 (by unfold maxLen; omega)
      have hr := run_append_grow_string (P := Try.prog) w 57 9 ty 5 i0 (.int .u8 0) Try.underlying57 Try.underlying9 hi hz0 ⟨b, off, none⟩ q.length cap (bcells q) (by rw [hz1]; simp [bcells]) holds s (by omega) (by omega) (by rw [hz2]; exact growslice_fits (by omega) (by omega))
      refine ⟨_, _, _, hr, Or.inr ⟨w.heap.size, 0, _, _, by rw [hlen], heap_alloc_new w.drew _, by omega, ?_, hcm, ?_⟩, ⟨rfl, rfl, rfl, by simp, fun k hk _ => Below.heap_alloc w.drew _ k hk⟩, fun g hg => Or.inr (by cases hg; exact Nat.le_refl _)⟩
      · have hz : (Value.int IntKind.u8 0).cells.size = 1 := rfl
        simp only [Array.size_append, List.size_toArray, size_zeroCells, hz, bcells_length, strCells_length]
        omega
      · simp only [Array.toList_append, List.drop_zero]
        rw [hlen, bcells_append, ← bcells_str]
        exact List.take_left' (by simp [bcells_length, strCells_length])

/-- At the operation, for the walk. -/
theorem wpList_append_q (w : World) {ops : Array Oper} {rest : List Oper} {o : Oper} {a : Act} {Q : Exit → Act → World → Prop} (hgd : o.guard = none) (sl x : Operand)
    (ho : o.op = .call { callee := .builtin .append, args := #[sl, x], argTypes := #[57, 9] })
    (v : Value) (q : List UInt8) (hs : a.eval sl = v) (hq : QAt w v q) (s : ByteArray) (hx : a.eval x = .string s) (hb : q.length + s.size ≤ 262144)
    (h : ∀ a' c' w', QAt w' (.slice a' (q.length + s.size) c') (q ++ s.data.toList) → w.grownBy w' v.ownBlock →
      (∀ b, (Value.slice a' (q.length + s.size) c').ownBlock = some b → v.ownBlock = some b ∨ w.heap.size ≤ b) → wpList Try.prog ops Q rest (a.put o.dst (.slice a' (q.length + s.size) c')) w') : wpList Try.prog ops Q (o :: rest) a w := by
  refine wpList_plain hgd fun K hK => ?_
  obtain ⟨a', c', w', hr, h2, h3, h4⟩ := append_q w o.type hq s hb
  unfold Oper.wp execOp
  simp only [ho, resolve, invoke, builtin, Sem.run_bind, Sem.run_pure, Result.andThen_ok, List.map_toArray, List.map_cons, List.map_nil, hs, hx, hr]
  exact hK _ _ (h a' c' w' h2 h3 h4)


/-- the first k bytes -/
theorem cut_front (a : Option Addr) (n c k : Nat) (h : k ≤ c) (W : World) :
    (Instr.slice 57 (.slice a n c) none (some (.int .i64 (k : Int))) none).run Try.prog W = .ok (.slice a k c) W := by
  have h1 : (k : Int) ≤ (c : Int) := by omega
  have ha : ∀ x : Addr, x.add 0 = x := fun x => by simp [Addr.add]
  simp [Instr.slice, run_underlying Try.underlying57, Instr.sliceBounds, run_sliceBound, h1, Result.andThen, ha]

/-- what is left behind them -/
theorem cut_back (a : Option Addr) (n c k : Nat) (h : k ≤ n) (W : World) :
    (Instr.slice 57 (.slice a n c) (some (.int .i64 (k : Int))) none none).run Try.prog W = .ok (.slice (if c = k then a else a.map (·.add k)) (n - k) (c - k)) W := by
  have h1 : (k : Int) ≤ (n : Int) := by omega
  simp [Instr.slice, run_underlying Try.underlying57, Instr.sliceBounds, run_sliceBound, h1, Result.andThen]

theorem QAt.cut {w : World} {a : Option Addr} {c : Nat} {q : List UInt8} (h : QAt w (.slice a q.length c) q) (k : Nat) (hk : k ≤ q.length) :
    QAt w (.slice (if c = k then a else a.map (·.add k)) (q.length - k) (c - k)) (q.drop k) ∧ (Value.slice (if c = k then a else a.map (·.add k)) (q.length - k) (c - k)).ownBlock = (Value.slice a q.length c).ownBlock := by
  rcases h with ⟨e, rfl⟩ | ⟨b, off, cap, cur, e, hg, h1, h2, h3, h4⟩
  · obtain ⟨rfl, rfl⟩ : a = none ∧ c = 0 := by simpa using e
    obtain rfl : k = 0 := by simpa using hk
    exact ⟨Or.inl ⟨rfl, rfl⟩, rfl⟩
  · obtain ⟨rfl, rfl⟩ : a = some ⟨b, off, none⟩ ∧ c = cap := by simpa using e
    have e4 : ((cur.toList.drop (off + k)).take (q.length - k)) = bcells (q.drop k) := by
      have : bcells (q.drop k) = (bcells q).drop k := by simp [bcells, List.map_drop]
      rw [this, ← h4, List.drop_take, List.drop_drop]
    by_cases hc : c = k
    · subst hc
      have hz : q.drop c = [] := List.drop_eq_nil_of_le (by omega)
      rw [if_pos rfl]
      refine ⟨Or.inr ⟨b, off, 0, cur, ?_, hg, ?_, by omega, Nat.zero_le _, ?_⟩, rfl⟩
      · rw [hz]; simp; omega
      · rw [hz]; simp
      · rw [hz]; simp [bcells]
    · rw [if_neg hc]
      refine ⟨Or.inr ⟨b, off + k, c - k, cur, ?_, hg, ?_, by omega, by omega, ?_⟩, ?_⟩
      · rw [List.length_drop]; simp [Addr.add_lit]
      · rw [List.length_drop]; omega
      · rw [List.length_drop]; exact e4
      · simp [Value.ownBlock, Addr.add_lit]

/-- its first k bytes as a string -/
theorem QAt.text {w : World} {a : Option Addr} {c : Nat} {q : List UInt8} (h : QAt w (.slice a q.length c) q) (k : Nat) (hk : k ≤ q.length) :
    (convert 57 9 (.slice a k c)).run Try.prog w = .ok (.string ⟨(q.take k).toArray⟩) w := by
  rcases h with ⟨e, rfl⟩ | ⟨b, off, cap, cur, e, hg, h1, h2, h3, h4⟩
  · obtain ⟨rfl, rfl⟩ : a = none ∧ c = 0 := by simpa using e
    rw [run_convert_bytes_nil w 57 5 Try.underlying57 Try.underlying5 _ _ 9 Try.underlying9]
    rw [List.take_nil]
    rfl
  · obtain ⟨rfl, rfl⟩ : a = some ⟨b, off, none⟩ ∧ c = cap := by simpa using e
    rw [run_convert_bytes_arg w 57 5 Try.underlying57 Try.underlying5 b off k c ((q.take k).map fun x => (x.toNat : Int)) (by simp; omega) ?_ 9 Try.underlying9]
    · refine congrArg (fun x => Result.ok (Value.string x) w) ?_
      unfold strOfNums
      simp [List.map_map, Function.comp_def]
    · intro i hi
      have hi' : i < q.length := by omega
      have := bcells_get hi'
      rw [← h4, List.getElem?_take_of_lt hi', List.getElem?_drop] at this
      rw [cell_of hg]
      simp only [Array.getElem?_toList] at this
      rw [this]
      simp [List.getD, hi, hi']

end Go.Proofs.Ythfmppghdlniiaa
