/- Bytes put behind one another: a number's eight, and a text's. -/
import Derived.Test.YtookddieiegchaaKVal
import Derived.Deep.DeepMust
import Derived.Laws.BitsAllLaws
import Derived.Maps.AppendAt
import Derived.Deep.AppendLies
import Derived.Lib.ConvBytes
namespace Go.Proofs.Ytookddieiegchaa
open Go.RowKit

def byt (n : Int) : Value := .int .u8 n

/-- an own slice of bytes -/
def Own (w : World) (base : Nat) (v : Value) (L : List Int) : Prop := w.ownsRow base 5 1 v L.length (L.map byt)

theorem infoByte : (Try.prog.info? 5).map (fun i => (i.zero, i.size, i.bytes)) = some (some (.int .u8 0), 1, 1) := by kernel_rfl

theorem infoByte_parts : ∃ i, Try.prog.info? 5 = some i ∧ i.zero = some (.int .u8 0) ∧ i.size = 1 ∧ i.bytes = 1 := by
  have h := infoByte
  cases hq : Try.prog.info? 5 with
  | none => rw [hq] at h; cases h
  | some i =>
    rw [hq] at h
    simp only [Option.map_some, Option.some.injEq, Prod.mk.injEq] at h
    exact ⟨i, rfl, h.1, h.2.1, h.2.2⟩

set_option maxRecDepth 100000 in
set_option maxHeartbeats 1000000 in
theorem number_any (n : Int) (B : List Int) (base : Nat) (out : Value) (L : List Int) (w : World) (hB : B.length = 8) (hL : L.length ≤ 1000) (ho : Own w base out L) (hbase : base ≤ w.heap.size)
    (hn : ∀ j, j < 8 → B[j]? = some (n / 2 ^ (56 - 8 * j) % 256)) :
    Calls Try.prog 10 #[out, .int .u64 n] w fun e w' => ∃ v, e = .returned v ∧ Own w' base v (L ++ B) ∧ Below base w w' := by
  obtain ⟨i0, hi, hz0, hz1, hz2⟩ := infoByte_parts
  have HN : Hid (∀ j, j < 8 → B[j]? = some (n / 2 ^ (56 - 8 * j) % 256)) := hn
  have HB : Hid (B.length = 8) := hB
  have HO : Hid (Own w base out L) := ho
  clear hn hB ho
  go_enter Try.func10, Try.ntmps10
  go_wp2_with fail
  go_loopw [0, 5] (fun o s wr => ∃ j : Nat, j ≤ 8 ∧ s = .int .i64 (56 - 8 * (j : Int)) ∧ Own wr base o (L ++ B.take j) ∧ Below base w wr) (fun _ s _ => (intOf s + 8).toNat)
  case atStart => exact ⟨0, by omega, rfl, by simpa using HO.out, Below.refl _ _⟩
  case round =>
    obtain ⟨j, hj, rfl, hrow, hbr⟩ := hrel
    have HR : Hid (Own wr base u0 (L ++ B.take j)) := hrow
    clear hrow
    have hsz : base ≤ wr.heap.size := Nat.le_trans hbase hbr.size
    by_cases h8 : j = 8
    · subst h8
      go_wp2_with fail
      go_ret
      refine ⟨_, rfl, ?_, hbr⟩
      have e : B.take 8 = B := by rw [← HB.out]; exact List.take_length
      rw [← e]
      exact HR.out
    · have hlt : 8 * (j : Int) ≤ 56 := by omega
      have hlen : Hid ((L ++ B.take j).length = L.length + j) := (by rw [List.length_append, List.length_take, HB.out, Nat.min_eq_left hj] : _ = _)
      obtain ⟨m, Y, hmY⟩ : ∃ m Y, (L ++ B.take j).length = m ∧ (L ++ B.take j).map byt = Y := ⟨_, _, rfl, rfl⟩
      have HY : Hid ((L ++ B.take j).length = m ∧ (L ++ B.take j).map byt = Y) := hmY
      have HW : Hid (wr.ownsRow base 5 1 u0 m Y) := (by
        have h := HR.out
        unfold Own at h
        rw [HY.out.1, HY.out.2] at h
        exact h : wr.ownsRow base 5 1 u0 m Y)
      have hm : m ≤ 2000 := by have h1 := HY.out.1; have h2 := hlen.out; omega
      clear hmY HR
      go_wp2_with (at_builtin; go_must (refine wpList_append_own _ rfl _ _ 34 rfl base 5 i0 (.int .u8 0) 1 1 Try.underlying34 hi hz0 hz1 hz2 rfl (by decide) _ _ _ rfl (HW.out.alloc _) ⟨wr.heap.size, 0, none⟩ 1 1 [.int .u8 (n / 2 ^ (56 - 8 * j) % 256)] rfl rfl ?q1 ?q2 ?q3 ?q4 ?q5 ?_))
      case q1 => exact cell_one_new _ _ _
      case q2 =>
        intro u hu
        simp only [List.mem_cons, List.not_mem_nil, or_false] at hu
        subst hu
        rfl
      case q3 => unfold maxLen; omega
      case q4 => omega
      case q5 => simp; omega
      intro v' w3 hown3 hgrow3 _
      go_wp2
      go_roundw
      case rel =>
        refine ⟨j + 1, by omega, by go_num, ?_, ?_⟩
        · have e : B.take (j + 1) = B.take j ++ [n / 2 ^ (56 - 8 * j) % 256] := by
            rw [List.take_add_one, HN.out j (by omega)]
            rfl
          unfold Own
          rw [e, ← List.append_assoc, List.map_append, List.length_append, HY.out.1, HY.out.2]
          exact hown3
        · exact (hbr.alloc (by omega) _).grown hgrow3 (by simp; omega) (fun i hi => (HW.out.lt i hi).1)
      case measure => simp [intOf]; omega

/-- what stands in a key behind a text's first j bytes -/
def turned : List UInt8 → List Int
  | [] => []
  | c :: l => if c = 0 then 0 :: 255 :: turned l else (c.toNat : Int) :: turned l

theorem turned_snoc (c : UInt8) : ∀ l, turned (l ++ [c]) = turned l ++ (if c = 0 then [0, 255] else [(c.toNat : Int)])
  | [] => by
    by_cases h : c = 0
    · simp [turned, h]
    · simp [turned, h]
  | d :: l => by
    have ih := turned_snoc c l
    by_cases h : d = 0
    · simp [turned, h, ih]
    · simp [turned, h, ih]

theorem turned_le : ∀ l, (turned l).length ≤ 2 * l.length
  | [] => Nat.le_refl _
  | d :: l => by
    have ih := turned_le l
    by_cases h : d = 0
    · simp [turned, h]; omega
    · simp [turned, h]; omega

/-- bytes put behind an own slice of bytes -/
theorem wpList_bytes {ops : Array Oper} {rest : List Oper} {o : Oper} {a : Act} {Q : Exit → Act → World → Prop} (hgd : o.guard = none) (s x : Operand)
    (ho : o.op = .call { callee := .builtin .append, args := #[s, x], argTypes := #[34, 34] })
    (base : Nat) (v : Value) (L : List Int) (w : World) (C : List Int) (m : Nat) (cs : Array Value) (hC : cs.toList = C.map byt) (hm : C.length = m) (hs : a.eval s = v) (hown : Own w base v L) (g : Nat) (hg : w.heap.size = g) (hx : a.eval x = .slice (some ⟨g, 0, none⟩) m m)
    (hL : L.length + m ≤ 100000) (hbase : base ≤ w.heap.size)
    (h : ∀ v' w', Own w' base v' (L ++ C) → Below base w w' → (v'.ownBlock = v.ownBlock ∨ v'.ownBlock = some (w.heap.size + 1)) → (∀ g, g < w.heap.size → some g ≠ v.ownBlock → w'.heap[g]? = w.heap[g]?) → w.heap.size < w'.heap.size → wpList Try.prog ops Q rest (a.put o.dst v') w') :
    wpList Try.prog ops Q (o :: rest) a (w.alloc (.cells cs 5)) := by
  subst hg
  obtain ⟨i0, hi, hz0, hz1, hz2⟩ := infoByte_parts
  have hb : (w.alloc (.cells cs 5)).heap[w.heap.size]? = some (.cells cs 5) := by simp [World.alloc, -World.alloc_eq]
  refine wpList_append_own_at _ hgd s x 34 ho base 5 i0 (.int .u8 0) 1 1 Try.underlying34 hi hz0 hz1 hz2 rfl (by decide) v L.length (L.map byt) hs (World.ownsRow.alloc hown _) ⟨w.heap.size, 0, none⟩ m m (C.map byt) hx ?_ ?_ ?_ ?_ ?_ ?_ ?_
  · rw [List.length_map, hm, Nat.mul_one]
  · rw [← hC]
    exact World.news_of_block hb
  · intro u hu
    obtain ⟨c, -, rfl⟩ := List.mem_map.1 hu
    rfl
  · unfold maxLen; omega
  · omega
  · simp; omega
  · intro v' w' h1 h2 _ h4
    have hsz : (w.alloc (.cells cs 5)).heap.size = w.heap.size + 1 := by simp
    refine h v' w' ?_ ?_ ?_ ?_ ?_
    · unfold Own
      rw [List.map_append, List.length_append, hm]
      exact h1
    · exact ((Below.refl base w).alloc hbase _).grown h2 (by simp; omega) (fun i hi => (World.ownsRow.lt hown i hi).1)
    · rcases h4 with h4 | h4
      · exact Or.inl h4
      · right; rw [h4, hsz]
    · intro g hg hne
      rw [h2.block g (by omega) hne]
      exact ((Below.refl w.heap.size w).alloc (Nat.le_refl _) _).block g hg
    · have := h2.size
      omega

theorem conv_law (s : ByteArray) (w : World) : ∃ u c, (convert 9 34 (.string s)).run Try.prog w = .ok (.slice (some ⟨w.heap.size, 0, none⟩) s.size c) u ∧ Below w.heap.size w u ∧ u.heap.size = w.heap.size + 1 ∧
    ∀ j, j < s.size → u.cell? ⟨w.heap.size, j, none⟩ = some (.int .u8 (s.data.toList.getD j 0).toNat) := by
  refine ⟨_, _, Lib.run_convert_string_bytes w 9 34 5 s Try.underlying9 Try.underlying34 Try.underlying5, ?_, Lib.bytesWorld_size _ _ _, fun j hj => Lib.bytesWorld_cell w _ s j hj⟩
  exact ⟨rfl, rfl, rfl, by rw [Lib.bytesWorld_size]; omega, fun j hj => Lib.bytesWorld_at_old w _ s j hj⟩

theorem Own.kept {w w' : World} {base : Nat} {v : Value} {L : List Int} (h : Own w base v L) (hb : Below w.heap.size w w') : Own w' base v L :=
  ownsRow_block h fun g hg => hb.block g (World.ownsRow.lt h g hg).2

set_option maxRecDepth 100000 in
set_option maxHeartbeats 1000000 in
theorem text_any (s : ByteArray) (base : Nat) (out : Value) (L : List Int) (w : World) (hs : s.size ≤ 4096) (hL : L.length ≤ 1000) (ho : Own w base out L) (hbase : base ≤ w.heap.size) :
    Calls Try.prog 12 #[out, .string s] w fun e w' => ∃ v, e = .returned v ∧ Own w' base v (L ++ turned s.data.toList ++ [0, 1]) ∧ Below base w w' := by
  obtain ⟨i0, hi, hz0, hz1, hz2⟩ := infoByte_parts
  obtain ⟨u, c, hconv, hbu, hsu, hcu⟩ := conv_law s w
  have HO : Hid (Own u base out L) := ho.kept hbu
  have HU : Hid (∀ j, j < s.size → u.cell? ⟨w.heap.size, j, none⟩ = some (.int .u8 (s.data.toList.getD j 0).toNat)) := hcu
  have HBU : Hid (Below base w u) := hbu.mono hbase
  have hob : Hid (out.ownBlock ≠ some w.heap.size) := (fun e => by
    have h := (World.ownsRow.lt ho _ e).2
    omega : out.ownBlock ≠ some w.heap.size)
  obtain ⟨g0, hg0⟩ : ∃ g0, w.heap.size = g0 := ⟨_, rfl⟩
  rw [hg0] at hconv HU hob
  have hsu' : u.heap.size = g0 + 1 := by omega
  have hbu0 : base ≤ g0 := by omega
  have HSU : Hid (u.heap.size = g0 + 1) := hsu'
  clear ho hbu hsu hcu hsu' hbase
  go_enter Try.func12, Try.ntmps12
  go_wp2_with fail
  go_loopw [0, 10] (fun o i wr => ∃ j : Nat, j ≤ s.size ∧ i = .int .i64 (j : Int) ∧ Own wr base o (L ++ turned (s.data.toList.take j)) ∧ Below base w wr ∧ o.ownBlock ≠ some g0 ∧ g0 < wr.heap.size ∧ (∀ j, j < s.size → wr.cell? ⟨g0, j, none⟩ = some (.int .u8 (s.data.toList.getD j 0).toNat))) (fun _ i _ => s.size - (intOf i).toNat)
  case atStart => exact ⟨0, by omega, rfl, by simpa [turned] using HO.out, HBU.out, hob.out, by rw [HSU.out]; omega, HU.out⟩
  case round =>
    obtain ⟨j, hj, rfl, hrow, hbr, hne, hg, hcells⟩ := hrel
    obtain ⟨X, hX⟩ : ∃ X, L ++ turned (s.data.toList.take j) = X := ⟨_, rfl⟩
    have HX : Hid (L ++ turned (s.data.toList.take j) = X) := hX
    have HR : Hid (Own wr base u0 X) := hX ▸ hrow
    have HC : Hid (∀ j, j < s.size → wr.cell? ⟨g0, j, none⟩ = some (.int .u8 (s.data.toList.getD j 0).toNat)) := hcells
    have HNE : Hid (u0.ownBlock ≠ some g0) := hne
    have hsz : base ≤ wr.heap.size := by omega
    have hXl : X.length ≤ 20000 := by
      have h1 := turned_le (s.data.toList.take j)
      have h2 : (s.data.toList.take j).length ≤ j := by rw [List.length_take]; omega
      rw [← hX, List.length_append]
      omega
    clear hrow hcells hX hne
    by_cases hend : j = s.size
    · subst hend
      go_wp2_with (at_builtin; go_must (refine wpList_bytes rfl _ _ rfl base u0 X wr [0, 1] 2 #[.int .u8 0, .int .u8 1] rfl rfl rfl HR.out _ rfl rfl (by omega) (by omega) ?_))
      intro v1 w1 ho1 hb1 _ _ _
      go_wp2_with fail
      go_ret
      refine ⟨_, rfl, ?_, hbr.trans hb1⟩
      have e : s.data.toList.take s.size = s.data.toList := List.take_of_length_le (by simp)
      rw [← e, HX.out]
      exact ho1
    · have hlt : j < s.size := by omega
      have hlt' : (j : Int) < (s.size : Int) := by omega
      obtain ⟨c, hc⟩ : ∃ c, s.data.toList.getD j 0 = c := ⟨_, rfl⟩
      have hcell := HC.out j hlt
      rw [hc] at hcell
      have HS : Hid (s.data.toList.take (j + 1) = s.data.toList.take j ++ [c]) := (by
        have hl : j < s.data.toList.length := by simpa using hlt
        rw [← hc, List.take_add_one, List.getElem?_eq_getElem hl]
        simp [List.getD, List.getElem?_eq_getElem hl] : _ = _)
      clear hc
      by_cases h0 : c = 0
      · subst h0
        go_wp2_with (at_builtin; go_must (refine wpList_bytes rfl _ _ rfl base u0 X wr [0] 1 #[.int .u8 0] rfl rfl rfl HR.out _ rfl rfl (by omega) (by omega) ?_))
        intro v1 w1 ho1 hb1 hv1 hk1 hs1
        have HR1 : Hid (Own w1 base v1 (X ++ [0])) := ho1
        have hl1 : (X ++ [0]).length ≤ 30000 := by simp; omega
        have HK1 : Hid (∀ g, g < wr.heap.size → some g ≠ u0.ownBlock → w1.heap[g]? = wr.heap[g]?) := hk1
        have HV1 : Hid (v1.ownBlock = u0.ownBlock ∨ v1.ownBlock = some (wr.heap.size + 1)) := hv1
        have hsz1 : base ≤ w1.heap.size := by omega
        obtain ⟨X1, hX1⟩ : ∃ X1, X ++ [0] = X1 := ⟨_, rfl⟩
        have HX1 : Hid (X ++ [0] = X1) := hX1
        rw [hX1] at HR1 hl1
        clear ho1 hk1 hv1 hX1
        go_wp2_with (at_builtin; go_must (refine wpList_bytes rfl _ _ rfl base v1 X1 w1 [255] 1 #[.int .u8 255] rfl rfl rfl HR1.out _ rfl rfl (by omega) (by omega) ?_))
        intro v2 w2 ho2 hb2 hv2 hk2 hs2
        have HR2 : Hid (Own w2 base v2 (X1 ++ [255])) := ho2
        have HK2 : Hid (∀ g, g < w1.heap.size → some g ≠ v1.ownBlock → w2.heap[g]? = w1.heap[g]?) := hk2
        have HV2 : Hid (v2.ownBlock = v1.ownBlock ∨ v2.ownBlock = some (w1.heap.size + 1)) := hv2
        clear ho2 hk2 hv2
        go_wp2_with fail
        go_roundw
        case rel =>
          have hn1 : v1.ownBlock ≠ some g0 := by
            intro e
            rcases HV1.out with h | h
            · exact HNE.out (h ▸ e)
            · rw [h] at e; injection e with e; omega
          refine ⟨j + 1, by omega, by go_num, ?_, (hbr.trans hb1).trans hb2, ?_, by omega, fun i hi => ?_⟩
          · rw [HS.out, turned_snoc, if_pos rfl, ← List.append_assoc, HX.out]
            have h := HR2.out
            rw [← HX1.out, List.append_assoc] at h
            exact h
          · intro e
            rcases HV2.out with h | h
            · exact hn1 (h ▸ e)
            · rw [h] at e; injection e with e; omega
          · rw [World.cell?_of_block (HK2.out g0 (by omega) (fun e => hn1 e.symm)), World.cell?_of_block (HK1.out g0 hg (fun e => HNE.out e.symm))]
            exact HC.out i hi
        case measure => simp [intOf]; omega
      · have h0' : ((c.toNat : Int) == 0) = false := by
          simp only [beq_eq_false_iff_ne, ne_eq]
          intro e
          exact h0 (UInt8.toNat_inj.1 (by simpa using e))
        go_wp2_with (at_builtin; go_must (refine wpList_bytes rfl _ _ rfl base u0 X wr [(c.toNat : Int)] 1 #[.int .u8 (c.toNat : Int)] rfl rfl rfl HR.out _ rfl rfl (by omega) (by omega) ?_))
        intro v1 w1 ho1 hb1 hv1 hk1 hs1
        have HR1 : Hid (Own w1 base v1 (X ++ [(c.toNat : Int)])) := ho1
        have HK1 : Hid (∀ g, g < wr.heap.size → some g ≠ u0.ownBlock → w1.heap[g]? = wr.heap[g]?) := hk1
        have HV1 : Hid (v1.ownBlock = u0.ownBlock ∨ v1.ownBlock = some (wr.heap.size + 1)) := hv1
        clear ho1 hk1 hv1
        go_wp2_with fail
        go_roundw
        case rel =>
          refine ⟨j + 1, by omega, by go_num, ?_, hbr.trans hb1, ?_, by omega, fun i hi => ?_⟩
          · rw [HS.out, turned_snoc, if_neg h0, ← List.append_assoc, HX.out]
            exact HR1.out
          · intro e
            rcases HV1.out with h | h
            · exact HNE.out (h ▸ e)
            · rw [h] at e; injection e with e; omega
          · rw [World.cell?_of_block (HK1.out g0 hg (fun e => HNE.out e.symm))]
            exact HC.out i hi
        case measure => simp [intOf]; omega

end Go.Proofs.Ytookddieiegchaa
