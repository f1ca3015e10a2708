import Derived.Test.YtnboanlhdllhnaaGreatZUsP
import Derived.Test.YtnboanlhdllhnaaGreatZRdec
import Derived.Test.YtnboanlhdllhnaaGreatZEncode
/- The document's writers of numbers and texts. -/
namespace Go.Proofs.YtnboanlhdllhnaaGreat
open Go.RowKit

theorem infoByte : (Tryz.prog.info? 5).map (fun i => (i.zero, i.size, i.bytes)) = some (some (.int .u8 0), 1, 1) := by kernel_rfl
def enB (b : UInt8) : List Value := [.int .u8 b.toNat]
theorem flat_enB : ∀ l : List UInt8, flat enB l = bcells l
  | [] => rfl
  | b :: r => by rw [flat_cons, flat_enB r]; rfl
theorem byte_at (w : World) (b : UInt8) : ∀ j u, (enB b)[j]? = some u → (w.alloc (.cells #[.int .u8 (b.toNat : Int)] 5 (0, 0))).cell? ⟨w.heap.size, j, none⟩ = some u := fun j u hu => by
  rw [cell_of (heap_new w _)]
  simpa [enB] using hu
theorem one_byte (b : UInt8) : ∀ u ∈ enB b, u.oneCell' = true := fun u hu => by rw [List.mem_singleton.1 hu]; rfl

/-- what a writer of bytes answers: an own slice, which has grown -/
def BwR (v : Value) (l : List UInt8) (w : World) (e : Ending) (w' : World) : Prop :=
  ∃ A m c, e = .returned (.slice A m c) ∧ Hid (m = l.length ∧ OwnB w' 0 (.slice A m c) l ∧ Turn (fun i => v.ownBlock = some i) w w' ∧ ∀ i, (Value.slice A m c).ownBlock = some i → v.ownBlock = some i ∨ w.heap.size ≤ i)

/-- one byte more -/
theorem wpList_byteU {w : World} {ops : Array Oper} {rest : List Oper} {o : Oper} {a : Act} {Q : Exit → Act → World → Prop} (hgd : o.guard = none) (s x : Operand)
    (ho : o.op = .call { callee := .builtin .append, args := #[s, x], argTypes := #[73, 73] })
    (l : List UInt8) (y : UInt8) (A : Option Addr) (n m : Nat) (hs : a.eval s = .slice A n m) (hown : OwnB w 0 (.slice A n m) l) (hn : l.length = n) (hl : n ≤ 1000000000)
    (p : Nat) (hx : a.eval x = .slice (some ⟨p, 0, none⟩) 1 1) (hp : ∀ j u, (enB y)[j]? = some u → w.cell? ⟨p, j, none⟩ = some u)
    (h : ∀ A' m' w', Hid (OwnB w' 0 (.slice A' (n + 1) m') (l ++ [y])) → Hid (Turn (fun i => (Value.slice A n m).ownBlock = some i) w w') → Hid (∀ i, (Value.slice A' (n + 1) m').ownBlock = some i → (Value.slice A n m).ownBlock = some i ∨ w.heap.size ≤ i) → wpList Tryz.prog ops Q rest (a.put o.dst (.slice A' (n + 1) m')) w') :
    wpList Tryz.prog ops Q (o :: rest) a w := by
  obtain ⟨i, hi, hz, h1, h2⟩ := info_parts infoByte
  have hown' : w.ownsRow 0 5 1 (.slice A n m) n (bcells l) := by unfold OwnB at hown; rw [hn] at hown; exact hown
  refine wpList_append_own_at w hgd s x 73 ho 0 5 i (.int .u8 0) 1 1 Tryz.underlying73 hi hz h1 h2 rfl (by decide) _ n (bcells l) hs hown' ⟨p, 0, none⟩ 1 1 (enB y) hx rfl (fun j u hu => by rw [Addr.add_lit, Nat.zero_add]; exact hp j u hu) (one_byte y) (by unfold maxLen; omega) (by omega) (Nat.zero_le _) (fun v' w' k1 k2 _ k4 => ?_)
  obtain ⟨A', m', rfl⟩ := own_shape k1
  refine h A' m' w' ?_ (Turn.ofGrown k2 (fun k hk => hk)) (fun i hi => ?_)
  · show OwnB _ _ _ _
    unfold OwnB
    rw [bcells_append, List.length_append, hn]
    exact k1
  · rcases k4 with k | k
    · exact Or.inl (k ▸ hi)
    · rw [k] at hi
      right
      injection hi with hi
      omega
/-- a text more -/
theorem wpList_textU {w : World} {ops : Array Oper} {rest : List Oper} {o : Oper} {a : Act} {Q : Exit → Act → World → Prop} (hgd : o.guard = none) (sl x : Operand)
    (ho : o.op = .call { callee := .builtin .append, args := #[sl, x], argTypes := #[73, 9] })
    (v : Value) (l : List UInt8) (hs : a.eval sl = v) (hown : OwnB w 0 v l) (s : ByteArray) (hx : a.eval x = .string s)
    (hL : l.length + s.size ≤ 1000000000)
    (h : ∀ A c w' m, Hid ((l ++ s.data.toList).length = m) → Hid (OwnB w' 0 (.slice A m c) (l ++ s.data.toList)) → Hid (Turn (fun i => v.ownBlock = some i) w w') → Hid (∀ b, (Value.slice A m c).ownBlock = some b → v.ownBlock = some b ∨ w.heap.size ≤ b) → wpList Tryz.prog ops Q rest (a.put o.dst (.slice A m c)) w') : wpList Tryz.prog ops Q (o :: rest) a w := by
  obtain ⟨i0, hi, hz0, hz1, hz2⟩ := infoByte_parts
  refine wpList_append_str _ hgd sl x 73 9 ho 5 i0 Tryz.underlying73 Tryz.underlying9 hi hz0 hz1 hz2 v l.length (bcells l) hs hown s hx (by unfold maxLen; omega) (by omega) ?_
  intro A c w' h1 h2 h3
  refine h A c w' (l.length + s.size) (by show _ = _; rw [List.length_append, size_list]) ?_ (Turn.ofGrown h2 fun k hk => hk) h3
  show OwnB _ _ _ _
  unfold OwnB
  rw [bcells_append, List.length_append, size_list]
  exact h1

set_option maxRecDepth 100000 in
set_option maxHeartbeats 1000000 in
theorem bnumber_any (l : List UInt8) (A : Option Addr) (n c N : Nat) (w : World) (h : OwnB w 0 (.slice A n c) l) (hn : l.length = n) (hl : n ≤ 900000000) (hN : N ≤ 4611686018427387904) :
    Calls Tryz.prog 49 #[.slice A n c, .int .i64 (N : Int)] w (BwR (.slice A n c) (l ++ le8 (N : Int)) w) := by
  have HO : Hid (OwnB w 0 (.slice A n c) l) := h
  have HE : Hid (le8 (N : Int) = leN 8 N) := by
    show _ = _
    unfold le8
    have : uOf (N : Int) = N := by unfold uOf; omega
    rw [this]
  have HLn : Hid (l.length = n) := hn
  clear h hn
  go_enter Tryz.func49, Tryz.ntmps49
  go_wp2_with fail
  go_loopw [0, 5, 6] (fun v u i wr => ∃ (j U : Nat) (l' : List UInt8) (A' : Option Addr) (m' c' : Nat), j ≤ 8 ∧ i = .int .i64 j ∧ u = .int .u64 (U : Int) ∧ U < 18446744073709551616 ∧ v = .slice A' m' c' ∧ m' ≤ n + j ∧ Hid (l' ++ leN (8 - j) U = l ++ leN 8 N ∧ l'.length = m' ∧ OwnB wr 0 (.slice A' m' c') l' ∧ Turn (fun i => (Value.slice A n c).ownBlock = some i) w wr ∧ ∀ i, (Value.slice A' m' c').ownBlock = some i → (Value.slice A n c).ownBlock = some i ∨ w.heap.size ≤ i)) (fun _ _ i _ => 8 - (intOf i).toNat)
  case atStart => exact ⟨0, N, l, A, n, c, Nat.zero_le _, rfl, by rfl, by omega, rfl, by omega, rfl, HLn.out, HO.out, Turn.refl _ _, fun i hi => Or.inl hi⟩
  case round =>
    obtain ⟨j, U, l', A', m', c', hj, rfl, rfl, hU, rfl, hm, HQ⟩ := hrel
    by_cases hlt : j < 8
    · have hlI : (j : Int) < 8 := by omega
      obtain ⟨y, hy⟩ : ∃ y, U % 256 = y := ⟨_, rfl⟩
      have hy2 : y < 256 := by omega
      have hyI : (U : Int) % 256 = (y : Int) := by omega
      obtain ⟨z, hz⟩ : ∃ z, U / 256 = z := ⟨_, rfl⟩
      have hzI : (U : Int) / 256 = (z : Int) := by omega
      have hz2 : z < 18446744073709551616 := by omega
      have HYB : Hid ((UInt8.ofNat y).toNat = y) := by show _ = _; simp; omega
      have HOa : Hid (OwnB (wr.alloc (.cells #[.int .u8 (y : Int)] 5)) 0 (.slice A' m' c') l') := HQ.out.2.2.1.kept ((Below.refl _ wr).alloc (Nat.le_refl _) _)
      have HBy : Hid (∀ j u, (enB (UInt8.ofNat y))[j]? = some u → (wr.alloc (.cells #[.int .u8 (y : Int)] 5)).cell? ⟨wr.heap.size, j, none⟩ = some u) := by
        have := byte_at wr (UInt8.ofNat y)
        rw [HYB.out] at this
        exact this
      have HNx : Hid (leN (8 - j) U = UInt8.ofNat y :: leN (8 - (j + 1)) z) := by
        show _ = _
        rw [show 8 - j = (8 - (j + 1)) + 1 by omega, leN, hy, hz]
      clear hy hz
      go_wp2_with (at_builtin; go_must (refine wpList_byteU rfl _ _ rfl l' (UInt8.ofNat y) A' m' c' rfl HOa.out HQ.out.2.1 (by omega) wr.heap.size rfl HBy.out ?_; intro A2 c2 w2 r1 r2 r3))
      go_roundw
      case rel =>
        refine ⟨j + 1, z, l' ++ [UInt8.ofNat y], A2, m' + 1, c2, by omega, by go_num, rfl, hz2, rfl, by omega, ?_, by rw [List.length_append, HQ.out.2.1]; rfl, r1.out, (HQ.out.2.2.2.1.trans (Turn.alloc wr _)).transNew r2.out (fun i hi => ?_), fun i hi => ?_⟩
        · rw [List.append_assoc, List.singleton_append, ← HNx.out]
          exact HQ.out.1
        · rcases HQ.out.2.2.2.2 i hi with k | k
          · exact Or.inl k
          · exact Or.inr k
        · rcases r3.out i hi with k | k
          · exact HQ.out.2.2.2.2 i k
          · have := HQ.out.2.2.2.1.size
            simp at k
            exact Or.inr (by omega)
      case measure => simp [intOf]; omega
    · have hlI : ¬ (j : Int) < 8 := by omega
      obtain rfl : j = 8 := by omega
      go_wp2_with fail
      go_ret
      have h1 := HQ.out.1
      rw [Nat.sub_self, leN, List.append_nil] at h1
      refine ⟨A', m', c', rfl, ?_, ?_, HQ.out.2.2.2.1, HQ.out.2.2.2.2⟩
      · rw [HE.out, ← h1, HQ.out.2.1]
      · rw [HE.out, ← h1]; exact HQ.out.2.2.1

set_option maxRecDepth 100000 in
set_option maxHeartbeats 1000000 in
theorem btext_any (l : List UInt8) (A : Option Addr) (n c : Nat) (s : ByteArray) (w : World) (h : OwnB w 0 (.slice A n c) l) (hn : l.length = n) (hl : n ≤ 800000000) (hs : s.size ≤ 1000000) :
    Calls Tryz.prog 50 #[.slice A n c, .string s] w (BwR (.slice A n c) (l ++ txt s) w) := by
  have HN : Hid (Calls Tryz.prog 49 #[.slice A n c, .int .i64 (s.size : Int)] w fun e w' => ∃ A' m' c', e = .returned (.slice A' m' c') ∧ Hid (m' = (l ++ le8 (s.size : Int)).length ∧ OwnB w' 0 (.slice A' m' c') (l ++ le8 (s.size : Int)) ∧ Turn (fun i => (Value.slice A n c).ownBlock = some i) w w' ∧ ∀ i, (Value.slice A' m' c').ownBlock = some i → (Value.slice A n c).ownBlock = some i ∨ w.heap.size ≤ i)) := bnumber_any l A n c s.size w h hn (by omega) (by omega)
  have HLl : Hid ((l ++ le8 (s.size : Int)).length + s.size ≤ 1000000000) := by show _ ≤ _; rw [List.length_append, le8_length]; omega
  clear h
  go_enter Tryz.func50, Tryz.ntmps50
  go_wp2_with (first
    | (go_at_call 49; go_must (refine HN.out.mono ?_; rintro e w1 ⟨A1, m1, c1, rfl, K1⟩))
    | (at_builtin; go_must (refine wpList_textU rfl _ _ rfl (.slice A1 m1 c1) (l ++ le8 (s.size : Int)) rfl K1.out.2.1 s rfl HLl.out ?_; intro A2 c2 w2 m2 r0 r1 r2 r3)))
  go_ret
  have e : l ++ txt s = l ++ le8 (s.size : Int) ++ s.data.toList := by unfold txt; rw [List.append_assoc]
  refine ⟨A2, m2, c2, rfl, ?_, ?_, K1.out.2.2.1.transNew r2.out (fun i hi => K1.out.2.2.2 i hi), fun i hi => ?_⟩
  · rw [e]; exact r0.out.symm
  · rw [e]; exact r1.out
  · rcases r3.out i hi with k | k
    · exact K1.out.2.2.2 i k
    · have := K1.out.2.2.1.size; exact Or.inr (by omega)

end Go.Proofs.YtnboanlhdllhnaaGreat

/- The document's writer of schemas. -/
namespace Go.Proofs.YtnboanlhdllhnaaGreat
open Go.RowKit

/-- bytes that are written in a call, behind w0; and boxes beside them -/
structure BS (w0 wr : World) (A : Option Addr) (m c : Nat) (l : List UInt8) (Bx : List (Nat × Obj)) : Prop where
  base : Below w0.heap.size w0 wr
  own : OwnB wr 0 (.slice A m c) l
  len : l.length = m
  low : ∀ i, (Value.slice A m c).ownBlock = some i → w0.heap.size ≤ i
  box : ∀ p ∈ Bx, wr.heap[p.1]? = some p.2 ∧ ∃ cs t, p.2 = .cells cs t (0, 0) ∧ t ≠ 5
section
variable {w0 wr u : World} {A : Option Addr} {m c : Nat} {l : List UInt8} {Bx : List (Nat × Obj)}
theorem BS.fresh (h : BS w0 wr A m c l Bx) (hb : Below wr.heap.size wr u) : BS w0 u A m c l Bx :=
  ⟨h.base.trans (hb.mono h.base.size), h.own.kept hb, h.len, h.low, fun p hp => ⟨(hb.block p.1 (lt_of (h.box p hp).1)).trans (h.box p hp).1, (h.box p hp).2⟩⟩
theorem BS.more (h : BS w0 wr A m c l Bx) (hb : Below wr.heap.size wr u) {b : Nat} {cs : Array Value} {t : TypeId} (hx : u.heap[b]? = some (.cells cs t (0, 0))) (ht : t ≠ 5) : BS w0 u A m c l ((b, .cells cs t (0, 0)) :: Bx) := by
  have k := h.fresh hb
  refine ⟨k.base, k.own, k.len, k.low, fun p hp => ?_⟩
  rcases List.mem_cons.1 hp with rfl | hp
  · exact ⟨hx, cs, t, rfl, ht⟩
  · exact k.box p hp
theorem BS.drop {Bx' : List (Nat × Obj)} (h : BS w0 wr A m c l Bx) (hB : ∀ p ∈ Bx', p ∈ Bx) : BS w0 wr A m c l Bx' := ⟨h.base, h.own, h.len, h.low, fun p hp => h.box p (hB p hp)⟩
/-- the bytes have grown -/
theorem BS.grow (h : BS w0 wr A m c l Bx) {A' : Option Addr} {m' c' : Nat} {l' : List UInt8} (hm : m' = l'.length) (k1 : OwnB u 0 (.slice A' m' c') l') (k2 : Turn (fun i => (Value.slice A m c).ownBlock = some i) wr u) (k3 : ∀ i, (Value.slice A' m' c').ownBlock = some i → (Value.slice A m c).ownBlock = some i ∨ wr.heap.size ≤ i) : BS w0 u A' m' c' l' Bx := by
  refine ⟨h.base.trans ((k2.mono (S' := fun i => w0.heap.size ≤ i) h.low).toBelow h.base.size), k1, hm.symm, fun i hi => ?_, fun p hp => ?_⟩
  · rcases k3 i hi with k | k
    · exact h.low i k
    · have := h.base.size; omega
  · obtain ⟨b1, cs, t, e, ht⟩ := h.box p hp
    rw [e] at b1
    refine ⟨?_, cs, t, e, ht⟩
    rw [e]
    exact (k2.block p.1 (lt_of b1) (fun hi => h.own.ne b1 ht hi rfl)).trans b1
theorem BS.num (h : BS w0 wr A m c l Bx) (hl : m ≤ 900000000) {N : Nat} (hN : N ≤ 4611686018427387904) :
    Calls Tryz.prog 49 #[.slice A m c, .int .i64 (N : Int)] wr fun e w' => ∃ A' m' c', e = .returned (.slice A' m' c') ∧ Hid (BS w0 w' A' m' c' (l ++ le8 (N : Int)) Bx) :=
  (bnumber_any l A m c N wr h.own h.len hl hN).mono fun _ _ ⟨A', m', c', e1, e2⟩ => ⟨A', m', c', e1, h.grow e2.out.1 e2.out.2.1 e2.out.2.2.1 e2.out.2.2.2⟩
theorem BS.txt (h : BS w0 wr A m c l Bx) (hl : m ≤ 800000000) {s : ByteArray} (hs : s.size ≤ 1000000) :
    Calls Tryz.prog 50 #[.slice A m c, .string s] wr fun e w' => ∃ A' m' c', e = .returned (.slice A' m' c') ∧ Hid (BS w0 w' A' m' c' (l ++ Go.Proofs.YtnboanlhdllhnaaGreat.txt s) Bx) :=
  (btext_any l A m c s wr h.own h.len hl hs).mono fun _ _ ⟨A', m', c', e1, e2⟩ => ⟨A', m', c', e1, h.grow e2.out.1 e2.out.2.1 e2.out.2.2.1 e2.out.2.2.2⟩
end

/-- what the writer of schemas answers -/
def SwR (w0 : World) (l : List UInt8) (e : Ending) (w' : World) : Prop := ∃ A m c, e = .returned (.slice A m c) ∧ Hid (BS w0 w' A m c l [])

theorem col_len (L : List (ByteArray × Int)) (j : Nat) : ((L.take j).flatMap colB).length ≤ (L.flatMap colB).length := flat_take colB L j

set_option maxRecDepth 100000 in
set_option maxHeartbeats 4000000 in
theorem bschema_any (l : List UInt8) (A : Option Addr) (m c : Nat) (cv iv : Value) (T : Tab) (w w0 : World) (h : BS w0 w A m c l []) (hl : m ≤ 100000000) (hT : TabV w0 cv iv T) (hM : MayT T) :
    Calls Tryz.prog 32 #[.slice A m c, tabVal cv iv T] w (SwR w0 (l ++ tabB T)) := by
  obtain ⟨g1, X, g2, g3, g4⟩ := hT
  obtain ⟨ca, cc, rfl, s1, s2, s3⟩ := g1.opened
  obtain ⟨ia, ic, rfl, t1, t2, t3⟩ := g2.opened
  unfold maxLen at s2 t2
  have HXC : Hid (∀ u, Below w0.heap.size w0 u → ∀ i y, T.co[i]? = some y → ∃ b off, ca = some ⟨b, off, none⟩ ∧ u.cell? ⟨b, off + i * 2, none⟩ = some (.string y.1) ∧ u.cell? ⟨b, off + i * 2 + 1, none⟩ = some (.int .i64 y.2)) := fun u hu i y hy => by
    obtain ⟨hi, rfl⟩ := List.getElem?_eq_some_iff.1 hy
    obtain ⟨b, off, e, _, hc⟩ := s3 u hu i hi
    exact ⟨b, off, e, hc 0 _ rfl, hc 1 _ rfl⟩
  have HXX : Hid (∀ u, Below w0.heap.size w0 u → ∀ i y, X[i]? = some y → ∃ b off, ia = some ⟨b, off, none⟩ ∧ u.cell? ⟨b, off + i * 3, none⟩ = some (.string y.ix.nm) ∧ u.cell? ⟨b, off + i * 3 + 1, none⟩ = some y.v ∧ u.cell? ⟨b, off + i * 3 + 2, none⟩ = some (.bool y.ix.un)) := fun u hu i y hy => by
    obtain ⟨hi, rfl⟩ := List.getElem?_eq_some_iff.1 hy
    obtain ⟨b, off, e, _, hc⟩ := t3 u hu i hi
    exact ⟨b, off, e, hc 0 _ rfl, hc 1 _ rfl, hc 2 _ rfl⟩
  have HNm : Hid (∀ u, Below w0.heap.size w0 u → ∀ x ∈ X, SliceAt u x.v 1 enI x.ix.cs) := fun u hu x hx => (g4 x hx).below hu
  have k1 := hM.co2
  have k2 := hM.ix1
  have k3 := (nameOk_size hM.nm).2
  have hXl : X.length = T.ix.length := by rw [← g3, List.length_map]
  have HMy : Hid (MayT T) := hM
  have HMx : Hid (∀ x ∈ X, x.ix ∈ T.ix) := fun x hx => by rw [← g3]; exact List.mem_map.2 ⟨x, hx, rfl⟩
  have HXe : Hid (X.map Iv.ix = T.ix) := g3
  unfold tabVal
  obtain ⟨nm, hnm⟩ : ∃ nm, T.nm = nm := ⟨_, rfl⟩
  obtain ⟨C, hC⟩ : ∃ C, T.co = C := ⟨_, rfl⟩
  obtain ⟨N, hN⟩ : ∃ N, C.length = N := ⟨_, rfl⟩
  obtain ⟨M, hMm⟩ : ∃ M, X.length = M := ⟨_, rfl⟩
  have hky := hM.key1
  have hky2 := hM.key2
  obtain ⟨K, hK⟩ : ∃ K : Nat, T.key = (K : Int) := ⟨T.key.toNat, by omega⟩
  have hK2 : K ≤ 1000 := by omega
  obtain ⟨Z, hZ⟩ : ∃ Z, l ++ tabB T = Z := ⟨_, rfl⟩
  have HZl : Hid (Z.length ≤ 100005000) := by
    have h1 := hM.few.1
    have h2 := h.len
    show _ ≤ _
    rw [← hZ, List.length_append]
    omega
  obtain ⟨R1, hR1⟩ : ∃ R1, le8 (K : Int) ++ (le8 (M : Int) ++ (X.map Iv.ix).flatMap ixB) = R1 := ⟨_, rfl⟩
  have HTB : Hid (l ++ txt nm ++ le8 (N : Int) ++ (C.flatMap colB ++ R1) = Z) := by
    show _ = _
    rw [← hZ, ← hR1]
    unfold tabB colsB ixsB
    rw [hnm, hC, hN, hK, ← g3, List.length_map, hMm]
    simp only [List.append_assoc]
  have HR1 : Hid (le8 (K : Int) ++ (le8 (M : Int) ++ (X.map Iv.ix).flatMap ixB) = R1) := hR1
  have HZ : Hid (l ++ tabB T = Z) := hZ
  have HCn : Hid (C.length = N ∧ X.length = M) := ⟨hN, hMm⟩
  have HCy : Hid (∀ y ∈ C, y.1.size ≤ 32 ∧ 0 ≤ y.2 ∧ y.2 ≤ 5) := fun y hy => by
    rw [← hC] at hy
    have a1 := (nameOk_size (hM.names y hy)).2
    have a2 := hM.kinds y hy
    exact ⟨a1, by omega, by omega⟩
  have HXy : Hid (∀ x ∈ X, x.ix.nm.size ≤ 32 ∧ x.ix.cs.length ≤ 32 ∧ ∀ n ∈ x.ix.cs, 0 ≤ n ∧ n ≤ 1000) := fun x hx => by
    have hx' := HMx.out x hx
    have a1 := (nameOk_size (hM.ixn x.ix hx')).2
    obtain ⟨a2, a3, a4⟩ := hM.ixc x.ix hx'
    exact ⟨a1, a3, fun n hn => by have := a4 n hn; omega⟩
  have hnms : nm.size ≤ 32 := by rw [← hnm]; exact k3
  have hN32 : N ≤ 32 := by rw [← hN, ← hC]; exact k1
  have hM8 : M ≤ 8 := by omega
  rw [hC, hN] at s1
  rw [hC] at HXC
  rw [hMm] at t1
  rw [hnm, hC, hN, hMm, hK]
  obtain ⟨xb, hxb⟩ : ∃ xb, w.heap.size = xb := ⟨_, rfl⟩
  obtain ⟨wB, hwB⟩ : ∃ u, w.alloc (.cells #[.string nm, .slice ca N cc, .int .i64 (K : Int), .slice ia M ic] 32) = u := ⟨_, rfl⟩
  have HB0 : Hid (BS w0 wB A m c l [(xb, (.cells #[.string nm, .slice ca N cc, .int .i64 (K : Int), .slice ia M ic] 32 (0, 0)))]) := h.more (by rw [← hwB]; exact (Below.refl _ w).alloc (Nat.le_refl _) _) (by rw [← hwB, ← hxb]; exact heap_new w _) (by decide)
  have HB0d : Hid (BS w0 wB.drew A m c l [(xb, (.cells #[.string nm, .slice ca N cc, .int .i64 (K : Int), .slice ia M ic] 32 (0, 0)))]) := HB0.out.fresh (below_drewed (Below.refl _ wB))
  have HCl : Hid (∀ u A m c l Bx, BS w0 u A m c l Bx → (xb, (.cells #[.string nm, .slice ca N cc, .int .i64 (K : Int), .slice ia M ic] 32 (0, 0))) ∈ Bx → u.cell? ⟨xb, 0, none⟩ = some (.string nm) ∧ u.cell? ⟨xb, 1, none⟩ = some (.slice ca N cc) ∧ u.cell? ⟨xb, 2, none⟩ = some (.int .i64 (K : Int)) ∧ u.cell? ⟨xb, 3, none⟩ = some (.slice ia M ic)) := fun u A m c l Bx hu hx => box_cells (hu.box _ hx).1
  have H1 : Hid (Calls Tryz.prog 50 #[.slice A m c, .string nm] wB.drew fun e w' => ∃ A' m' c', e = .returned (.slice A' m' c') ∧ Hid (BS w0 w' A' m' c' (l ++ txt nm) [(xb, (.cells #[.string nm, .slice ca N cc, .int .i64 (K : Int), .slice ia M ic] 32 (0, 0)))])) := HB0d.out.txt (by omega) (by omega)
  have H2 : Hid (∀ u A' m' c', BS w0 u A' m' c' (l ++ txt nm) [(xb, (.cells #[.string nm, .slice ca N cc, .int .i64 (K : Int), .slice ia M ic] 32 (0, 0)))] → Calls Tryz.prog 49 #[.slice A' m' c', .int .i64 (N : Int)] u fun e w' => ∃ A' m' c', e = .returned (.slice A' m' c') ∧ Hid (BS w0 w' A' m' c' (l ++ txt nm ++ le8 (N : Int)) [(xb, (.cells #[.string nm, .slice ca N cc, .int .i64 (K : Int), .slice ia M ic] 32 (0, 0)))])) := fun u A' m' c' hu => hu.num (by
      have h1 := hu.len
      have h2 := h.len
      rw [List.length_append] at h1
      unfold txt at h1
      rw [List.length_append, le8_length, size_list] at h1
      omega) (by omega)
  have HSa : Hid (∀ u, u = wB.drew → u.cell? ⟨xb, 0, none⟩ = some (.string nm) ∧ u.cell? ⟨xb, 1, none⟩ = some (.slice ca N cc) ∧ u.cell? ⟨xb, 2, none⟩ = some (.int .i64 (K : Int)) ∧ u.cell? ⟨xb, 3, none⟩ = some (.slice ia M ic)) := fun u e => by rw [e]; exact HCl.out _ _ _ _ _ _ HB0d.out (List.mem_singleton.2 rfl)
  obtain ⟨x0, x1, x2, x3⟩ := HCl.out _ _ _ _ _ _ HB0.out (List.mem_singleton.2 rfl)
  clear h g1 g2 g3 g4 s3 t3 k1 k2 k3 hXl hM hky hky2 hnm hC hN hMm hK hZ hR1
  go_enter Tryz.func32, Tryz.ntmps32
  go_upto_region 1 with fail
  clear hwB hxb
  go_region_held3 (fun u => u.cell? ⟨xb, 0, none⟩ = some (.string nm) ∧ u.cell? ⟨xb, 1, none⟩ = some (.slice ca N cc) ∧ u.cell? ⟨xb, 2, none⟩ = some (.int .i64 (K : Int)) ∧ u.cell? ⟨xb, 3, none⟩ = some (.slice ia M ic)) (first | exact HSa.out _ rfl | exact S2.out | exact S1.out)
    (first
      | (go_at_call 50; go_must (refine H1.out.mono ?_; rintro e w1 ⟨A1, m1, c1, rfl, K1⟩; have S1 : Hid (w1.cell? ⟨xb, 0, none⟩ = some (.string nm) ∧ w1.cell? ⟨xb, 1, none⟩ = some (.slice ca N cc) ∧ w1.cell? ⟨xb, 2, none⟩ = some (.int .i64 (K : Int)) ∧ w1.cell? ⟨xb, 3, none⟩ = some (.slice ia M ic)) := HCl.out _ _ _ _ _ _ K1.out (List.mem_singleton.2 rfl)))
      | (go_at_call 49; go_must (refine (H2.out _ _ _ _ K1.out).mono ?_; rintro e w2 ⟨A2, m2, c2, rfl, K2⟩; have S2 : Hid (w2.cell? ⟨xb, 0, none⟩ = some (.string nm) ∧ w2.cell? ⟨xb, 1, none⟩ = some (.slice ca N cc) ∧ w2.cell? ⟨xb, 2, none⟩ = some (.int .i64 (K : Int)) ∧ w2.cell? ⟨xb, 3, none⟩ = some (.slice ia M ic)) := HCl.out _ _ _ _ _ _ K2.out (List.mem_singleton.2 rfl))))
  have HBd : Hid (∀ u A m c l' Bx R, BS w0 u A m c l' Bx → l' ++ R = Z → m ≤ 100005000) := fun u A m c l' Bx R h1 h2 => by
    have h3 := h1.len
    have h4 := HZl.out
    rw [← h2, List.length_append] at h4
    omega
  clear H1 H2 HSa S1 S2 K1 HB0 HB0d x0 x1 x2 x3
  go_wp2_with fail
  go_loopw [0, 5] (fun v i wr => ∃ (j : Nat) (l' : List UInt8) (A' : Option Addr) (m' c' : Nat), j ≤ N ∧ i = .int .i64 j ∧ v = .slice A' m' c' ∧ Hid (l' ++ ((C.drop j).flatMap colB ++ R1) = Z ∧ BS w0 wr A' m' c' l' [(xb, (.cells #[.string nm, .slice ca N cc, .int .i64 (K : Int), .slice ia M ic] 32 (0, 0)))])) (fun _ i _ => N - (intOf i).toNat)
  case atStart => exact ⟨0, _, A2, m2, c2, Nat.zero_le _, rfl, rfl, HTB.out, K2.out⟩
  case round =>
    clear K2
    obtain ⟨j, l', A', m', c', hj, rfl, rfl, HQ⟩ := hrel
    have hm' := HBd.out _ _ _ _ _ _ _ HQ.out.2 HQ.out.1
    obtain ⟨x0, x1, x2, x3⟩ := HCl.out _ _ _ _ _ _ HQ.out.2 (List.mem_singleton.2 rfl)
    by_cases hlt : j < N
    · have hlI : (j : Int) < (N : Int) := by omega
      obtain ⟨⟨yn, yk⟩, hy⟩ : ∃ y, C[j]? = some y := ⟨_, List.getElem?_eq_getElem (by rw [HCn.out.1]; exact hlt)⟩
      obtain ⟨a1, a2, a3⟩ := HCy.out _ (List.mem_of_getElem? hy)
      dsimp only at a1 a2 a3
      obtain ⟨k, rfl⟩ : ∃ k : Nat, yk = (k : Int) := ⟨yk.toNat, by omega⟩
      have HXC1 : Hid (∀ u, Below w0.heap.size w0 u → ∃ b off, ca = some ⟨b, off, none⟩ ∧ u.cell? ⟨b, off + j * 2, none⟩ = some (.string yn) ∧ u.cell? ⟨b, off + j * 2 + 1, none⟩ = some (.int .i64 (k : Int))) := fun u hu => HXC.out u hu j _ hy
      obtain ⟨b, off, rfl, q1, q2⟩ := HXC1.out wr HQ.out.2.base
      have HSc : Hid (∀ u A m c l Bx, BS w0 u A m c l Bx → (xb, (.cells #[.string nm, .slice (some ⟨b, off, none⟩) N cc, .int .i64 (K : Int), .slice ia M ic] 32 (0, 0))) ∈ Bx → u.cell? ⟨xb, 0, none⟩ = some (.string nm) ∧ u.cell? ⟨xb, 1, none⟩ = some (.slice (some ⟨b, off, none⟩) N cc) ∧ u.cell? ⟨xb, 2, none⟩ = some (.int .i64 (K : Int)) ∧ u.cell? ⟨xb, 3, none⟩ = some (.slice ia M ic) ∧ u.cell? ⟨b, off + j * 2, none⟩ = some (.string yn) ∧ u.cell? ⟨b, off + j * 2 + 1, none⟩ = some (.int .i64 (k : Int))) := fun u A m c l Bx hu hx => by
        obtain ⟨z0, z1, z2, z3⟩ := HCl.out _ _ _ _ _ _ hu hx
        obtain ⟨b', off', e', q1, q2⟩ := HXC1.out u hu.base
        simp only [Option.some.injEq, Addr.mk.injEq] at e'
        obtain ⟨rfl, rfl, -⟩ := e'
        exact ⟨z0, z1, z2, z3, q1, q2⟩
      have HDr : Hid ((C.drop j).flatMap colB = txt yn ++ le8 (k : Int) ++ (C.drop (j + 1)).flatMap colB) := by
        obtain ⟨hjl, he⟩ := List.getElem?_eq_some_iff.1 hy
        show _ = _
        rw [List.drop_eq_getElem_cons hjl, he, List.flatMap_cons]
        rfl
      have HQd : Hid (BS w0 wr.drew A' m' c' l' [(xb, (.cells #[.string nm, .slice (some ⟨b, off, none⟩) N cc, .int .i64 (K : Int), .slice ia M ic] 32 (0, 0)))]) := HQ.out.2.fresh (below_drewed (Below.refl _ wr))
      have H1 : Hid (Calls Tryz.prog 50 #[.slice A' m' c', .string yn] wr.drew fun e w' => ∃ A' m' c', e = .returned (.slice A' m' c') ∧ Hid (BS w0 w' A' m' c' (l' ++ txt yn) [(xb, (.cells #[.string nm, .slice (some ⟨b, off, none⟩) N cc, .int .i64 (K : Int), .slice ia M ic] 32 (0, 0)))])) := HQd.out.txt (by omega) (by omega)
      have HL2 : Hid (l'.length = m') := HQ.out.2.len
      have H2 : Hid (∀ u A' m' c', BS w0 u A' m' c' (l' ++ txt yn) [(xb, (.cells #[.string nm, .slice (some ⟨b, off, none⟩) N cc, .int .i64 (K : Int), .slice ia M ic] 32 (0, 0)))] → Calls Tryz.prog 49 #[.slice A' m' c', .int .i64 (k : Int)] u fun e w' => ∃ A' m' c', e = .returned (.slice A' m' c') ∧ Hid (BS w0 w' A' m' c' (l' ++ txt yn ++ le8 (k : Int)) [(xb, (.cells #[.string nm, .slice (some ⟨b, off, none⟩) N cc, .int .i64 (K : Int), .slice ia M ic] 32 (0, 0)))])) := fun u A1 m1 c1 hu => hu.num (by
        have h1 := hu.len
        rw [List.length_append] at h1
        unfold txt at h1
        rw [List.length_append, le8_length, size_list, HL2.out] at h1
        omega) (by omega)
      have HSa : Hid (∀ u, u = wr.drew → u.cell? ⟨xb, 0, none⟩ = some (.string nm) ∧ u.cell? ⟨xb, 1, none⟩ = some (.slice (some ⟨b, off, none⟩) N cc) ∧ u.cell? ⟨xb, 2, none⟩ = some (.int .i64 (K : Int)) ∧ u.cell? ⟨xb, 3, none⟩ = some (.slice ia M ic) ∧ u.cell? ⟨b, off + j * 2, none⟩ = some (.string yn) ∧ u.cell? ⟨b, off + j * 2 + 1, none⟩ = some (.int .i64 (k : Int))) := fun u e => by rw [e]; exact HSc.out _ _ _ _ _ _ HQd.out (List.mem_singleton.2 rfl)
      have hj0 : (0 : Int) ≤ (j : Int) := by omega
      clear hy HXC1 q1 q2
      go_upto_region 5 with fail
      go_region_held3 (fun u => u.cell? ⟨xb, 0, none⟩ = some (.string nm) ∧ u.cell? ⟨xb, 1, none⟩ = some (.slice (some ⟨b, off, none⟩) N cc) ∧ u.cell? ⟨xb, 2, none⟩ = some (.int .i64 (K : Int)) ∧ u.cell? ⟨xb, 3, none⟩ = some (.slice ia M ic) ∧ u.cell? ⟨b, off + j * 2, none⟩ = some (.string yn) ∧ u.cell? ⟨b, off + j * 2 + 1, none⟩ = some (.int .i64 (k : Int))) (first | exact HSa.out _ rfl | exact S2.out | exact S1.out)
        (first
          | (go_at_call 50; go_must (refine H1.out.mono ?_; rintro e w1 ⟨A1, m1, c1, rfl, K1⟩; have S1 : Hid (w1.cell? ⟨xb, 0, none⟩ = some (.string nm) ∧ w1.cell? ⟨xb, 1, none⟩ = some (.slice (some ⟨b, off, none⟩) N cc) ∧ w1.cell? ⟨xb, 2, none⟩ = some (.int .i64 (K : Int)) ∧ w1.cell? ⟨xb, 3, none⟩ = some (.slice ia M ic) ∧ w1.cell? ⟨b, off + j * 2, none⟩ = some (.string yn) ∧ w1.cell? ⟨b, off + j * 2 + 1, none⟩ = some (.int .i64 (k : Int))) := HSc.out _ _ _ _ _ _ K1.out (List.mem_singleton.2 rfl)))
          | (go_at_call 49; go_must (refine (H2.out _ _ _ _ K1.out).mono ?_; rintro e w2 ⟨A2, m2, c2, rfl, K2⟩; have S2 : Hid (w2.cell? ⟨xb, 0, none⟩ = some (.string nm) ∧ w2.cell? ⟨xb, 1, none⟩ = some (.slice (some ⟨b, off, none⟩) N cc) ∧ w2.cell? ⟨xb, 2, none⟩ = some (.int .i64 (K : Int)) ∧ w2.cell? ⟨xb, 3, none⟩ = some (.slice ia M ic) ∧ w2.cell? ⟨b, off + j * 2, none⟩ = some (.string yn) ∧ w2.cell? ⟨b, off + j * 2 + 1, none⟩ = some (.int .i64 (k : Int))) := HSc.out _ _ _ _ _ _ K2.out (List.mem_singleton.2 rfl))))
      go_wp2_with fail
      go_roundw
      case rel =>
        refine ⟨j + 1, _, A2, m2, c2, by omega, by go_num, rfl, ?_, K2.out⟩
        have h1 := HQ.out.1
        rw [HDr.out] at h1
        rw [← h1]
        simp only [List.append_assoc]
      case measure => simp [intOf]; omega
    · have hlI : ¬ (j : Int) < (N : Int) := by omega
      have HQ1 : Hid (l' ++ le8 (K : Int) ++ (le8 (M : Int) ++ (X.map Iv.ix).flatMap ixB) = Z) := by
        have h1 := HQ.out.1
        rw [List.drop_eq_nil_of_le (by rw [HCn.out.1]; omega), List.flatMap_nil, List.nil_append, ← HR1.out] at h1
        show _ = _
        rw [List.append_assoc]
        exact h1
      have HQd : Hid (BS w0 wr.drew A' m' c' l' [(xb, (.cells #[.string nm, .slice ca N cc, .int .i64 (K : Int), .slice ia M ic] 32 (0, 0)))]) := HQ.out.2.fresh (below_drewed (Below.refl _ wr))
      have H1 : Hid (Calls Tryz.prog 49 #[.slice A' m' c', .int .i64 (K : Int)] wr.drew fun e w' => ∃ A' m' c', e = .returned (.slice A' m' c') ∧ Hid (BS w0 w' A' m' c' (l' ++ le8 (K : Int)) [(xb, (.cells #[.string nm, .slice ca N cc, .int .i64 (K : Int), .slice ia M ic] 32 (0, 0)))])) := HQd.out.num (by omega) (by omega)
      have H2 : Hid (∀ u A' m' c', BS w0 u A' m' c' (l' ++ le8 (K : Int)) [(xb, (.cells #[.string nm, .slice ca N cc, .int .i64 (K : Int), .slice ia M ic] 32 (0, 0)))] → Calls Tryz.prog 49 #[.slice A' m' c', .int .i64 (M : Int)] u fun e w' => ∃ A' m' c', e = .returned (.slice A' m' c') ∧ Hid (BS w0 w' A' m' c' (l' ++ le8 (K : Int) ++ le8 (M : Int)) [(xb, (.cells #[.string nm, .slice ca N cc, .int .i64 (K : Int), .slice ia M ic] 32 (0, 0)))])) := fun u A1 m1 c1 hu => hu.num (by have := HBd.out _ _ _ _ _ _ _ hu HQ1.out; omega) (by omega)
      have HSa : Hid (∀ u, u = wr.drew → u.cell? ⟨xb, 0, none⟩ = some (.string nm) ∧ u.cell? ⟨xb, 1, none⟩ = some (.slice ca N cc) ∧ u.cell? ⟨xb, 2, none⟩ = some (.int .i64 (K : Int)) ∧ u.cell? ⟨xb, 3, none⟩ = some (.slice ia M ic)) := fun u e => by rw [e]; exact HCl.out _ _ _ _ _ _ HQd.out (List.mem_singleton.2 rfl)
      go_upto_region 6 with fail
      go_region_held3 (fun u => u.cell? ⟨xb, 0, none⟩ = some (.string nm) ∧ u.cell? ⟨xb, 1, none⟩ = some (.slice ca N cc) ∧ u.cell? ⟨xb, 2, none⟩ = some (.int .i64 (K : Int)) ∧ u.cell? ⟨xb, 3, none⟩ = some (.slice ia M ic)) (first | exact HSa.out _ rfl | exact S2.out | exact S1.out)
        (first
          | (go_at_call 49; refine (H2.out _ _ _ _ K1.out).mono ?_; rintro e w2 ⟨A2, m2, c2, rfl, K2⟩; have S2 : Hid (w2.cell? ⟨xb, 0, none⟩ = some (.string nm) ∧ w2.cell? ⟨xb, 1, none⟩ = some (.slice ca N cc) ∧ w2.cell? ⟨xb, 2, none⟩ = some (.int .i64 (K : Int)) ∧ w2.cell? ⟨xb, 3, none⟩ = some (.slice ia M ic)) := HCl.out _ _ _ _ _ _ K2.out (List.mem_singleton.2 rfl))
          | (go_at_call 49; refine H1.out.mono ?_; rintro e w1 ⟨A1, m1, c1, rfl, K1⟩; have S1 : Hid (w1.cell? ⟨xb, 0, none⟩ = some (.string nm) ∧ w1.cell? ⟨xb, 1, none⟩ = some (.slice ca N cc) ∧ w1.cell? ⟨xb, 2, none⟩ = some (.int .i64 (K : Int)) ∧ w1.cell? ⟨xb, 3, none⟩ = some (.slice ia M ic)) := HCl.out _ _ _ _ _ _ K1.out (List.mem_singleton.2 rfl)))
      have HQ2 : Hid (l' ++ le8 (K : Int) ++ le8 (M : Int) ++ (X.map Iv.ix).flatMap ixB = Z) := by
        show _ = _
        rw [← HQ1.out]
        simp only [List.append_assoc]
      clear HQ HQ1 HQd H1 H2 HSa S1 S2 K1 x0 x1 x2 x3 hlI hlt hm' HTB HR1
      go_wp2_with fail
      go_loopw [0, 6] (fun v i wr => ∃ (j : Nat) (l' : List UInt8) (A' : Option Addr) (m' c' : Nat), j ≤ M ∧ i = .int .i64 j ∧ v = .slice A' m' c' ∧ Hid (l' ++ ((X.drop j).map Iv.ix).flatMap ixB = Z ∧ BS w0 wr A' m' c' l' [(xb, (.cells #[.string nm, .slice ca N cc, .int .i64 (K : Int), .slice ia M ic] 32 (0, 0)))])) (fun _ i _ => M - (intOf i).toNat)
      case atStart => exact ⟨0, _, A2, m2, c2, Nat.zero_le _, rfl, rfl, HQ2.out, K2.out⟩
      case round =>
        clear K2 HQ2
        obtain ⟨j, l', A', m', c', hj, rfl, rfl, HQ⟩ := hrel
        have hm' := HBd.out _ _ _ _ _ _ _ HQ.out.2 HQ.out.1
        obtain ⟨x0, x1, x2, x3⟩ := HCl.out _ _ _ _ _ _ HQ.out.2 (List.mem_singleton.2 rfl)
        by_cases hlt : j < M
        · have hlI : (j : Int) < (M : Int) := by omega
          obtain ⟨⟨⟨yn, cs, un⟩, yv⟩, hy⟩ : ∃ y, X[j]? = some y := ⟨_, List.getElem?_eq_getElem (by rw [HCn.out.2]; exact hlt)⟩
          obtain ⟨a1, a2, a3⟩ := HXy.out _ (List.mem_of_getElem? hy)
          dsimp only at a1 a2 a3
          have sv0 := HNm.out w0 (Below.refl _ _) _ (List.mem_of_getElem? hy)
          dsimp only at sv0
          obtain ⟨va, vc, rfl, v1, v2, v3⟩ := sv0.opened
          obtain ⟨b, off, rfl, q1, q2, q3⟩ := HXX.out wr HQ.out.2.base j _ hy
          dsimp only at q1 q2 q3
          obtain ⟨R3, hR3⟩ : ∃ R3, ((X.drop (j + 1)).map Iv.ix).flatMap ixB = R3 := ⟨_, rfl⟩
          obtain ⟨nn, hnn⟩ : ∃ nn, cs.length = nn := ⟨_, rfl⟩
          have HDr : Hid (l' ++ txt yn ++ le8 (nn : Int) ++ (cs.flatMap le8 ++ (flagB un ++ R3)) = Z) := by
            obtain ⟨hjl, he⟩ := List.getElem?_eq_some_iff.1 hy
            have h1 := HQ.out.1
            rw [List.drop_eq_getElem_cons hjl, he, List.map_cons, List.flatMap_cons, hR3] at h1
            unfold ixB numsB at h1
            dsimp only at h1
            rw [hnn] at h1
            show _ = _
            rw [← h1]
            simp only [List.append_assoc]
          have HR3 : Hid (((X.drop (j + 1)).map Iv.ix).flatMap ixB = R3) := hR3
          have HNn : Hid (cs.length = nn) := hnn
          have HCs : Hid (∀ n ∈ cs, 0 ≤ n ∧ n ≤ 1000) := a3
          have HXI : Hid (∀ u, Below w0.heap.size w0 u → ∀ i y, cs[i]? = some y → ∃ b off, va = some ⟨b, off, none⟩ ∧ u.cell? ⟨b, off + i, none⟩ = some (.int .i64 y)) := fun u hu i y hy => by
            obtain ⟨hi, rfl⟩ := List.getElem?_eq_some_iff.1 hy
            obtain ⟨b, off, e, _, hc⟩ := v3 u hu i hi
            have := hc 0 _ rfl
            rw [Nat.mul_one, Nat.add_zero] at this
            exact ⟨b, off, e, this⟩
          rw [hnn] at q2 v1
          have hnn32 : nn ≤ 32 := by omega
          unfold maxLen at v2
          obtain ⟨zb, hzb⟩ : ∃ zb, wr.heap.size = zb := ⟨_, rfl⟩
          obtain ⟨wX, hwX⟩ : ∃ u, wr.alloc (.cells #[.string yn, .slice va nn vc, .bool un] 64) = u := ⟨_, rfl⟩
          have HX0 : Hid (BS w0 wX A' m' c' l' [(zb, (.cells #[.string yn, .slice va nn vc, .bool un] 64 (0, 0))), (xb, (.cells #[.string nm, .slice ca N cc, .int .i64 (K : Int), .slice (some ⟨b, off, none⟩) M ic] 32 (0, 0)))]) := HQ.out.2.more (by rw [← hwX]; exact (Below.refl _ wr).alloc (Nat.le_refl _) _) (by rw [← hwX, ← hzb]; exact heap_new wr _) (by decide)
          have HX0d : Hid (BS w0 wX.drew A' m' c' l' [(zb, (.cells #[.string yn, .slice va nn vc, .bool un] 64 (0, 0))), (xb, (.cells #[.string nm, .slice ca N cc, .int .i64 (K : Int), .slice (some ⟨b, off, none⟩) M ic] 32 (0, 0)))]) := HX0.out.fresh (below_drewed (Below.refl _ wX))
          have HZc : Hid (∀ u A m c l Bx, BS w0 u A m c l Bx → (zb, (.cells #[.string yn, .slice va nn vc, .bool un] 64 (0, 0))) ∈ Bx → u.cell? ⟨zb, 0, none⟩ = some (.string yn) ∧ u.cell? ⟨zb, 1, none⟩ = some (.slice va nn vc) ∧ u.cell? ⟨zb, 2, none⟩ = some (.bool un)) := fun u A m c l Bx hu hx => by
            have k := (hu.box _ hx).1
            exact ⟨by rw [cell_of k]; rfl, by rw [cell_of k]; rfl, by rw [cell_of k]; rfl⟩
          have H1 : Hid (Calls Tryz.prog 50 #[.slice A' m' c', .string yn] wX.drew fun e w' => ∃ A' m' c', e = .returned (.slice A' m' c') ∧ Hid (BS w0 w' A' m' c' (l' ++ txt yn) [(zb, (.cells #[.string yn, .slice va nn vc, .bool un] 64 (0, 0))), (xb, (.cells #[.string nm, .slice ca N cc, .int .i64 (K : Int), .slice (some ⟨b, off, none⟩) M ic] 32 (0, 0)))])) := HX0d.out.txt (by omega) (by omega)
          have HL2 : Hid (l'.length = m') := HQ.out.2.len
          have H2 : Hid (∀ u A' m' c', BS w0 u A' m' c' (l' ++ txt yn) [(zb, (.cells #[.string yn, .slice va nn vc, .bool un] 64 (0, 0))), (xb, (.cells #[.string nm, .slice ca N cc, .int .i64 (K : Int), .slice (some ⟨b, off, none⟩) M ic] 32 (0, 0)))] → Calls Tryz.prog 49 #[.slice A' m' c', .int .i64 (nn : Int)] u fun e w' => ∃ A' m' c', e = .returned (.slice A' m' c') ∧ Hid (BS w0 w' A' m' c' (l' ++ txt yn ++ le8 (nn : Int)) [(zb, (.cells #[.string yn, .slice va nn vc, .bool un] 64 (0, 0))), (xb, (.cells #[.string nm, .slice ca N cc, .int .i64 (K : Int), .slice (some ⟨b, off, none⟩) M ic] 32 (0, 0)))])) := fun u A1 m1 c1 hu => hu.num (by
            have h1 := hu.len
            rw [List.length_append] at h1
            unfold txt at h1
            rw [List.length_append, le8_length, size_list, HL2.out] at h1
            omega) (by omega)
          have HSa : Hid (∀ u, u = wX.drew → u.cell? ⟨zb, 0, none⟩ = some (.string yn) ∧ u.cell? ⟨zb, 1, none⟩ = some (.slice va nn vc) ∧ u.cell? ⟨zb, 2, none⟩ = some (.bool un)) := fun u e => by rw [e]; exact HZc.out _ _ _ _ _ _ HX0d.out (List.mem_cons_self ..)
          have hj0 : (0 : Int) ≤ (j : Int) := by omega
          clear hy hR3 hnn a3 v3 sv0
          go_upto_region 11 with fail
          clear hwX hzb q1 q2 q3 x0 x1 x2 x3
          go_region_held3 (fun u => u.cell? ⟨zb, 0, none⟩ = some (.string yn) ∧ u.cell? ⟨zb, 1, none⟩ = some (.slice va nn vc) ∧ u.cell? ⟨zb, 2, none⟩ = some (.bool un)) (first | exact HSa.out _ rfl | exact S2.out | exact S1.out)
            (first
              | (go_at_call 50; go_must (refine H1.out.mono ?_; rintro e w1 ⟨A1, m1, c1, rfl, K1⟩; have S1 : Hid (w1.cell? ⟨zb, 0, none⟩ = some (.string yn) ∧ w1.cell? ⟨zb, 1, none⟩ = some (.slice va nn vc) ∧ w1.cell? ⟨zb, 2, none⟩ = some (.bool un)) := HZc.out _ _ _ _ _ _ K1.out (List.mem_cons_self ..)))
              | (go_at_call 49; go_must (refine (H2.out _ _ _ _ K1.out).mono ?_; rintro e w2 ⟨A2, m2, c2, rfl, K2⟩; have S2 : Hid (w2.cell? ⟨zb, 0, none⟩ = some (.string yn) ∧ w2.cell? ⟨zb, 1, none⟩ = some (.slice va nn vc) ∧ w2.cell? ⟨zb, 2, none⟩ = some (.bool un)) := HZc.out _ _ _ _ _ _ K2.out (List.mem_cons_self ..))))
          clear H1 H2 HSa S1 S2 K1 HX0 HX0d
          go_wp2_with fail
          go_loopw [0, 8] (fun v i wr => ∃ (k : Nat) (l' : List UInt8) (A' : Option Addr) (m' c' : Nat), k ≤ nn ∧ i = .int .i64 k ∧ v = .slice A' m' c' ∧ Hid (l' ++ ((cs.drop k).flatMap le8 ++ (flagB un ++ R3)) = Z ∧ BS w0 wr A' m' c' l' [(zb, (.cells #[.string yn, .slice va nn vc, .bool un] 64 (0, 0))), (xb, (.cells #[.string nm, .slice ca N cc, .int .i64 (K : Int), .slice (some ⟨b, off, none⟩) M ic] 32 (0, 0)))])) (fun _ i _ => nn - (intOf i).toNat)
          case atStart => exact ⟨0, _, A2, m2, c2, Nat.zero_le _, rfl, rfl, HDr.out, K2.out⟩
          case round =>
            clear K2 HDr
            obtain ⟨k, l', A', m', c', hk, rfl, rfl, HY⟩ := hrel
            have hm2 := HBd.out _ _ _ _ _ _ _ HY.out.2 HY.out.1
            obtain ⟨z0, z1, z2⟩ := HZc.out _ _ _ _ _ _ HY.out.2 (List.mem_cons_self ..)
            by_cases hkl : k < nn
            · have hkI : (k : Int) < (nn : Int) := by omega
              obtain ⟨y, hy⟩ : ∃ y, cs[k]? = some y := ⟨_, List.getElem?_eq_getElem (by rw [HNn.out]; exact hkl)⟩
              obtain ⟨y1, y2⟩ := HCs.out y (List.mem_of_getElem? hy)
              obtain ⟨Y, rfl⟩ : ∃ Y : Nat, y = (Y : Int) := ⟨y.toNat, by omega⟩
              obtain ⟨b', off', rfl, q1⟩ := HXI.out wr HY.out.2.base k _ hy
              have HDr : Hid ((cs.drop k).flatMap le8 = le8 (Y : Int) ++ (cs.drop (k + 1)).flatMap le8) := by
                obtain ⟨hjl, he⟩ := List.getElem?_eq_some_iff.1 hy
                show _ = _
                rw [List.drop_eq_getElem_cons hjl, he, List.flatMap_cons]
              have H1' : Hid (Calls Tryz.prog 49 #[.slice A' m' c', .int .i64 (Y : Int)] wr fun e w' => ∃ A' m' c', e = .returned (.slice A' m' c') ∧ Hid (BS w0 w' A' m' c' (l' ++ le8 (Y : Int)) [(zb, (.cells #[.string yn, .slice (some ⟨b', off', none⟩) nn vc, .bool un] 64 (0, 0))), (xb, (.cells #[.string nm, .slice ca N cc, .int .i64 (K : Int), .slice (some ⟨b, off, none⟩) M ic] 32 (0, 0)))])) := HY.out.2.num (N := Y) (by omega) (by omega)
              clear hy
              go_wp2_with (go_at_call 49; go_must (refine H1'.out.mono ?_; rintro e w1 ⟨A1, m1, c1, rfl, K1⟩))
              go_roundw
              case rel =>
                refine ⟨k + 1, _, A1, m1, c1, by omega, by go_num, rfl, ?_, K1.out⟩
                have h1 := HY.out.1
                rw [HDr.out] at h1
                rw [← h1]
                simp only [List.append_assoc]
              case measure => simp [intOf]; omega
            · have hkI : ¬ (k : Int) < (nn : Int) := by omega
              have HY1 : Hid (l' ++ (flagB un ++ R3) = Z) := by
                have h1 := HY.out.1
                rw [List.drop_eq_nil_of_le (by rw [HNn.out]; omega), List.flatMap_nil, List.nil_append] at h1
                exact h1
              have HOa : Hid (∀ o : Obj, OwnB (wr.alloc o) 0 (.slice A' m' c') l') := fun o => HY.out.2.own.kept ((Below.refl _ wr).alloc (Nat.le_refl _) o)
              have HOb : Hid (∀ o : Obj, BS w0 (wr.alloc o) A' m' c' l' [(xb, (.cells #[.string nm, .slice ca N cc, .int .i64 (K : Int), .slice (some ⟨b, off, none⟩) M ic] 32 (0, 0)))]) := fun o => (HY.out.2.drop (fun p hp => List.mem_cons_of_mem _ hp)).fresh ((Below.refl _ wr).alloc (Nat.le_refl _) o)
              cases un with
              | false =>
                have HBy : Hid (∀ j u, (enB 0)[j]? = some u → (wr.alloc (.cells #[.int .u8 0] 5)).cell? ⟨wr.heap.size, j, none⟩ = some u) := byte_at wr 0
                go_wp2_with (at_builtin; go_must (refine wpList_byteU rfl _ _ rfl l' 0 A' m' c' rfl (HOa.out _) HY.out.2.len (by omega) wr.heap.size rfl HBy.out ?_; intro A1 c1 w1 r1 r2 r3))
                go_roundw
                case rel => exact ⟨j + 1, _, A1, m' + 1, c1, by omega, by go_num, rfl, by rw [HR3.out, List.append_assoc]; exact HY1.out, (HOb.out _).grow (by rw [List.length_append, HY.out.2.len]; rfl) r1.out r2.out r3.out⟩
                case measure => simp [intOf]; omega
              | true =>
                have HBy : Hid (∀ j u, (enB 1)[j]? = some u → (wr.alloc (.cells #[.int .u8 1] 5)).cell? ⟨wr.heap.size, j, none⟩ = some u) := byte_at wr 1
                go_wp2_with (at_builtin; go_must (refine wpList_byteU rfl _ _ rfl l' 1 A' m' c' rfl (HOa.out _) HY.out.2.len (by omega) wr.heap.size rfl HBy.out ?_; intro A1 c1 w1 r1 r2 r3))
                go_roundw
                case rel => exact ⟨j + 1, _, A1, m' + 1, c1, by omega, by go_num, rfl, by rw [HR3.out, List.append_assoc]; exact HY1.out, (HOb.out _).grow (by rw [List.length_append, HY.out.2.len]; rfl) r1.out r2.out r3.out⟩
                case measure => simp [intOf]; omega
        · have hlI : ¬ (j : Int) < (M : Int) := by omega
          go_wp2_with fail
          go_ret
          have h1 := HQ.out.1
          rw [List.drop_eq_nil_of_le (by rw [HCn.out.2]; omega), List.map_nil, List.flatMap_nil, List.append_nil] at h1
          refine ⟨A', m', c', rfl, ?_⟩
          rw [HZ.out, ← h1]
          exact HQ.out.2.drop (fun p hp => by cases hp)

end Go.Proofs.YtnboanlhdllhnaaGreat

/- The document's Encode. -/
namespace Go.Proofs.YtnboanlhdllhnaaGreat
open Go.RowKit

theorem catB_take {G : List Ge} {j : Nat} {g : Ge} (h : G[j]? = some g) : catB (catOf (G.take (j + 1))) = catB (catOf (G.take j)) ++ tabB g.T := by
  unfold catOf
  rw [List.take_add_one, h, List.map_append, catB_append]
  simp [catB]

set_option maxRecDepth 100000 in
set_option maxHeartbeats 2000000 in
theorem rencode_any {w : World} {c : Nat} {S : Sl} {G : List Ge} (hG : RcG w c S G) :
    Calls Tryz.prog 18 #[.pointer (some ⟨c, 0, none⟩)] w fun e w' => e = .returned (.tuple #[.string (encS (catOf G)), .int .i64 (encE (catOf G))]) ∧ Hid (Below w.heap.size w w') := by
  obtain ⟨SA, SN, SC⟩ := S
  have HC : Hid (∀ u, Below w.heap.size w u → u.cell? ⟨c, 0, none⟩ = some (.slice SA SN SC)) := fun u hu => (hG.below hu).cell
  have HL : Hid (G.length = SN) := hG.len
  have HG : Hid (RcG w c ⟨SA, SN, SC⟩ G) := hG
  have hfew : SN ≤ 4096 := by have := hG.few; have := hG.len; dsimp only at this; omega
  have hsc : SN ≤ SC := by
    have hs : SliceAt w (.slice SA SN SC) 4 enG G := own_slice (en := enG) (fun _ => rfl) (by rw [hG.len]; exact hG.row)
    obtain ⟨a, c', e, h1, _⟩ := hs
    simp only [Value.slice.injEq] at e
    have := HL.out
    omega
  have HSw : Hid (∀ u A m c' l (g : Ge), g ∈ G → BS w u A m c' l [] → m ≤ 100000000 → Calls Tryz.prog 32 #[.slice A m c', .agg #[.string g.T.nm, g.cv, .int .i64 g.T.key, g.iv]] u (SwR w (l ++ tabB g.T))) := fun u A m c' l g hg hu hm =>
    bschema_any l A m c' g.cv g.iv g.T u w hu hm (hG.tabs g hg).1.tabV (hG.tabs g hg).2
  clear hG
  go_enter Tryz.func18, Tryz.ntmps18
  go_wp2_with fail
  go_loopw [4, 5] (fun v i wr => ∃ (j : Nat) (A : Option Addr) (m c' : Nat), j ≤ SN ∧ i = .int .i64 j ∧ v = .slice A m c' ∧ m ≤ j * 5000 ∧ Hid (BS w wr A m c' (catB (catOf (G.take j))) [])) (fun _ i _ => SN - (intOf i).toNat)
  case atStart => exact ⟨0, none, 0, 0, Nat.zero_le _, rfl, rfl, by omega, ⟨Below.refl _ _, World.ownsRow_nil _ _ _ _, rfl, (fun i h => by cases h), (fun _ h => by cases h)⟩⟩
  case round =>
    obtain ⟨j, A, m, c', hj, rfl, rfl, hm, HQ⟩ := hrel
    have q0 := HC.out wr HQ.out.base
    by_cases hlt : j < SN
    · have hlI : (j : Int) < (SN : Int) := by omega
      obtain ⟨g, hg⟩ : ∃ g, G[j]? = some g := ⟨_, List.getElem?_eq_getElem (by rw [HL.out]; exact hlt)⟩
      have hmem := List.mem_of_getElem? hg
      have HNx : Hid (catB (catOf (G.take (j + 1))) = catB (catOf (G.take j)) ++ tabB g.T) := catB_take hg
      have hfw := (HG.out.tabs g hmem).2.few.1
      have HFw : Hid ((tabB g.T).length ≤ 5000) := hfw
      have hsw := HSw.out wr A m c' _ g hmem HQ.out (by omega)
      obtain ⟨b, off, hSA, q1, q2, q3, q4⟩ := HG.out.rows wr HQ.out.base j g hg
      dsimp only at hSA
      subst hSA
      obtain ⟨⟨c1a, c1n, c1c, e1⟩, ⟨c2a, c2n, c2c, e2⟩⟩ := (HG.out.tabs g hmem).1.shape
      obtain ⟨nm, hnm⟩ : ∃ nm, g.T.nm = nm := ⟨_, rfl⟩
      obtain ⟨key, hkey⟩ : ∃ key, g.T.key = key := ⟨_, rfl⟩
      rw [hnm, hkey, e1, e2, ← HNx.out] at hsw
      rw [hnm] at q1
      rw [e1] at q2
      rw [hkey] at q3
      rw [e2] at q4
      have H1 : Hid (Calls Tryz.prog 32 #[.slice A m c', .agg #[.string nm, .slice c1a c1n c1c, .int .i64 key, .slice c2a c2n c2c]] wr fun e w' => ∃ A m c, e = .returned (.slice A m c) ∧ Hid (BS w w' A m c (catB (catOf (G.take (j + 1)))) [])) := hsw
      have HLn : Hid ((catB (catOf (G.take j))).length = m) := HQ.out.len
      clear hg hmem hsw e1 e2 hnm hkey hfw
      go_wp2_with (go_at_call 32; go_must (refine H1.out.mono ?_; rintro e w1 ⟨A1, m1, c1, rfl, K1⟩))
      go_roundw
      case rel =>
        refine ⟨j + 1, A1, m1, c1, by omega, by go_num, rfl, ?_, K1.out⟩
        have h1 := K1.out.len
        rw [HNx.out, List.length_append, HLn.out] at h1
        have h2 := HFw.out
        omega
      case measure => simp [intOf]; omega
    · have hlI : ¬ (j : Int) < (SN : Int) := by omega
      have HQ2 : Hid (BS w wr A m c' (catB (catOf G)) []) := by
        have := HQ.out
        rw [List.take_of_length_le (by rw [HL.out]; omega)] at this
        exact this
      have HLn : Hid ((catB (catOf G)).length = m) := HQ2.out.len
      by_cases hbig : m ≤ 262144
      · have k1 : ¬ (262144 : Int) < (m : Int) := by omega
        have HE : Hid (encS (catOf G) = bytesOf (catB (catOf G)) ∧ encE (catOf G) = 0) := enc_good (by rw [HLn.out]; exact hbig)
        have hcv : (convert 73 9 (.slice A m c')).run Tryz.prog wr = .ok (.string (bytesOf (catB (catOf G)))) wr := HQ2.out.own.str
        go_wp2_with fail
        go_ret2
        exact ⟨by rw [HE.out.1, HE.out.2]; rfl, HQ2.out.base⟩
      · have k1 : (262144 : Int) < (m : Int) := by omega
        have HE : Hid (encS (catOf G) = ⟨#[]⟩ ∧ encE (catOf G) = 2) := by
          unfold encS encE
          rw [if_neg (by rw [HLn.out]; exact hbig), if_neg (by rw [HLn.out]; exact hbig)]
          exact ⟨rfl, rfl⟩
        go_wp2_with fail
        go_ret2
        exact ⟨by rw [HE.out.1, HE.out.2]; rfl, HQ2.out.base⟩

end Go.Proofs.YtnboanlhdllhnaaGreat
