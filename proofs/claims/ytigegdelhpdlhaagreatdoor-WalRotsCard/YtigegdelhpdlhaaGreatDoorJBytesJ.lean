import Derived.Test.YtigegdelhpdlhaaGreatDoorJToldJ
import Derived.Shelf.Strconv.Itoa3
import Derived.Test.YtigegdelhpdlhaaGreatDoorProg
/- Layer 18: wal.bytesOf of an entry of one write. -/
namespace Go.Proofs.YtigegdelhpdlhaaGreatDoor
open Go.RowKit QP

theorem jbytes_ofN (l : List UInt8) : jbytes l = ofN (l.map UInt8.toNat) := by
  unfold jbytes ofN
  congr 2
  rw [List.map_map]
  have e : (UInt8.ofNat ∘ UInt8.toNat) = id := by funext b; simp
  rw [e, List.map_id]
theorem le8J_map (n : Nat) : (le8J n).map UInt8.toNat = lo n 8 := nb_ofN (lo_bytes n 8)
theorem rowJ_map (n : Nat) : ((ofN (rowB n)).data.toList).map UInt8.toNat = rowB n := nb_ofN (rowB_bytes n)
/-- what bytesOf tells -/
theorem entJ_is (T n : Nat) (t k : ByteArray) : jbytes (le8J T ++ le8J 1 ++ writeJ t k n) = ofN (entN T t k n) := by
  rw [jbytes_ofN]
  congr 1
  unfold writeJ entN writeN
  simp only [List.map_append, le8J_map, rowJ_map, List.map_cons, List.map_nil, List.append_assoc, List.append_nil]
  rfl

/-- a writer in a block of its own, made at w2 as block m -/
def StB (m : Nat) (l : List UInt8) (w2 u : World) : Prop := ∃ F', WrJ m l u F' ∧ (∀ i, F' i → m ≤ i) ∧ Turn (fun i => m ≤ i) w2 u
section
variable {m : Nat} {l l2 : List UInt8} {w2 u u' : World}
theorem StB.call (h : StB m l w2 u) : ∃ A, WrJ m l u A ∧ (∀ i, A i → m ≤ i) ∧ ∀ l2 u', Goes (WrJ m l2) u u' A → StB m l2 w2 u' := by
  obtain ⟨F', h1, h2, h3⟩ := h
  refine ⟨F', h1, h2, fun l2 u' hg => ?_⟩
  obtain ⟨F2, g1, g2, g3⟩ := hg
  have hm : m < u.heap.size := by obtain ⟨A, c, q1, _⟩ := h1; exact lt_of q1
  refine ⟨F2, g1, fun i hi => ?_, h3.trans (g2.mono h2)⟩
  rcases g3 i hi with h | h
  · exact h2 i h
  · omega
theorem StB.below (h : StB m l w2 u) (hb : Below u.heap.size u u') : StB m l w2 u' := by
  obtain ⟨F', h1, h2, h3⟩ := h
  exact ⟨F', (wrJ_res m l).kept (S := fun _ => False) h1 (Turn.ofBelow _ hb) (fun _ _ h => h), h2, h3.trans (Turn.ofBelow _ hb)⟩
theorem StB.block (h : StB m l w2 u) {i : Nat} (hi : i < m) (hs : i < w2.heap.size) : u.heap[i]? = w2.heap[i]? := by
  obtain ⟨F', h1, h2, h3⟩ := h
  exact h3.block i hs (by omega)
theorem StB.slot (h : StB m l w2 u) : ∃ A c, u.cell? ⟨m, 0, none⟩ = some (.slice A l.length c) ∧ (convert 54 9 (.slice A l.length c)).run Tryz.prog u = .ok (.string (jbytes l)) u := by
  obtain ⟨F', ⟨A, c, h1, h2, h3⟩, _, _⟩ := h
  exact ⟨A, c, by rw [cell_of h1]; rfl, h2.str⟩
end

set_option maxRecDepth 100000 in
set_option maxHeartbeats 2000000 in
theorem jbytesOf_any (T n : Nat) (t k : ByteArray) (g x : Nat) (w : World) (hT : TidOk T) (hg : w.heap[g]? = some (boxJ t k x)) (hx : OneAt w x 2 (n : Int) ByteArray.empty) (hn : n < 9223372036854775808) (ht : t.size ≤ 100) (hk : k.size ≤ 100) :
    Calls Tryz.prog 63 #[.agg #[.int .u64 (T : Int), .slice (some ⟨g, 0, none⟩) 1 1]] w fun e w' => e = .returned (.string (ofN (entN T t k n))) ∧ Below w.heap.size w w' := by
  obtain ⟨wA, hwA⟩ : ∃ u, w.alloc (.cells #[.int .u64 (T : Int), .slice (some ⟨g, 0, none⟩) 1 1] 42) = u := ⟨_, rfl⟩
  have hbA : Below w.heap.size w wA := by rw [← hwA]; exact (Below.refl _ _).alloc (Nat.le_refl _) _
  have hcA : wA.heap[w.heap.size]? = some (.cells #[.int .u64 (T : Int), .slice (some ⟨g, 0, none⟩) 1 1] 42 (0, 0)) := by rw [← hwA]; exact heap_new w _
  have hgl := lt_of hg
  have HC : Hid (Calls Tryz.prog 87 #[.agg #[.int .u64 (T : Int), .slice (some ⟨g, 0, none⟩) 1 1]] wA fun e w' => e = .returned (.tuple #[]) ∧ Below wA.heap.size wA w') := jcheck_any T n t k g x wA hT ((hbA.block g hgl).trans hg) (hx.below hbA) ht hk
  have HA : Hid (w.heap[g]? = some (boxJ t k x) ∧ OneAt w x 2 (n : Int) ByteArray.empty ∧ Below w.heap.size w wA ∧ wA.heap[w.heap.size]? = some (.cells #[.int .u64 (T : Int), .slice (some ⟨g, 0, none⟩) 1 1] 42 (0, 0))) := ⟨hg, hx, hbA, hcA⟩
  have HW : Hid (w.alloc (.cells #[.int .u64 (T : Int), .slice (some ⟨g, 0, none⟩) 1 1] 42) = wA) := hwA
  have hxl := hx.1
  have hTl : Hid (T < 18446744073709551616) := hT.lt
  have HEq : Hid (jbytes (le8J T ++ le8J 1 ++ writeJ t k n) = ofN (entN T t k n)) := entJ_is T n t k
  clear hg hx hbA hcA hwA hT
  go_enter Tryz.func63, Tryz.ntmps63
  go_wp2_with fail
  rw [HW.out]
  refine HC.out.mono ?_
  rintro e w1 ⟨rfl, hb1⟩
  have hB1 : Below w.heap.size w w1 := HA.out.2.2.1.trans (hb1.mono HA.out.2.2.1.size)
  have hq1 := (hb1.block w.heap.size (lt_of HA.out.2.2.2)).trans HA.out.2.2.2
  have hm1 : w.heap.size < w1.heap.size := lt_of hq1
  obtain ⟨m, hm⟩ : ∃ m, w1.heap.size = m := ⟨_, rfl⟩
  obtain ⟨w2, hw2⟩ : ∃ u, w1.alloc (.cells #[.slice none 0 0] 140) = u := ⟨_, rfl⟩
  have hb2 : Below w1.heap.size w1 w2 := by rw [← hw2]; exact (Below.refl _ _).alloc (Nat.le_refl _) _
  have S0 : Hid (StB m [] w2 w2) := by
    refine ⟨fun i => i = m, ⟨none, 0, ?_, ⟨rfl, Or.inl ⟨rfl, rfl⟩⟩, fun i => ?_⟩, fun i hi => by omega, Turn.refl _ _⟩
    · rw [← hw2, ← hm]; exact heap_new w1 _
    · exact ⟨fun h => Or.inl h, fun h => h.elim id (fun h => by cases h)⟩
  have hms : m < w2.heap.size := by rw [← hm, ← hw2]; simp
  have HF : Hid (w2.heap[w.heap.size]? = some (.cells #[.int .u64 (T : Int), .slice (some ⟨g, 0, none⟩) 1 1] 42 (0, 0)) ∧ w2.heap[g]? = some (boxJ t k x) ∧ OneAt w2 x 2 (n : Int) ByteArray.empty ∧ Below w.heap.size w w2 ∧ w.heap.size < m ∧ g < m ∧ x < m ∧ m < w2.heap.size) :=
    ⟨(hb2.block _ hm1).trans hq1, (hb2.block _ (by omega)).trans ((hB1.block g hgl).trans HA.out.1), (HA.out.2.1.below hB1).below hb2, hB1.trans (hb2.mono hB1.size), by omega, by omega, by omega, hms⟩
  have HCell : Hid (∀ l u, StB m l w2 u → u.cell? ⟨w.heap.size, 0, none⟩ = some (.int .u64 (T : Int)) ∧ u.cell? ⟨w.heap.size, 1, none⟩ = some (.slice (some ⟨g, 0, none⟩) 1 1) ∧ u.cell? ⟨g, 0, none⟩ = some (.string t) ∧ u.cell? ⟨g, 1, none⟩ = some (.string k) ∧ u.cell? ⟨g, 2, none⟩ = some (.bool false) ∧ u.cell? ⟨g, 3, none⟩ = some (.slice (some ⟨x, 0, none⟩) 1 1)) := fun l u hs => by
    obtain ⟨p1, p2, p3, p4, p5, p6, p7, p8⟩ := HF.out
    have a1 := (hs.block (i := w.heap.size) p5 (by omega)).trans p1
    have a2 := (hs.block (i := g) p6 (by omega)).trans p2
    exact ⟨by rw [cell_of a1]; rfl, by rw [cell_of a1]; rfl, by rw [cell_of a2]; rfl, by rw [cell_of a2]; rfl, by rw [cell_of a2]; rfl, by rw [cell_of a2]; rfl⟩
  have HNum : Hid (∀ l u (z : Nat), StB m l w2 u → l.length ≤ 100 → Calls Tryz.prog 88 #[.pointer (some ⟨m, 0, none⟩), .int .u64 (z : Int)] u fun e w' => e = .returned (.tuple #[]) ∧ StB m (l ++ le8J z) w2 w') := fun l u z hs hl => by
    obtain ⟨A, h1, h2, h3⟩ := hs.call
    exact (jwnum_any m l z u A h1 (by omega)).mono fun e w' ⟨e1, e2⟩ => ⟨e1, h3 _ _ e2⟩
  have HWr : Hid (∀ l u, StB m l w2 u → l.length ≤ 100 → Calls Tryz.prog 89 #[.pointer (some ⟨m, 0, none⟩), .agg #[.string t, .string k, .bool false, .slice (some ⟨x, 0, none⟩) 1 1]] u fun e w' => e = .returned (.tuple #[]) ∧ StB m (l ++ writeJ t k n) w2 w') := fun l u hs hl => by
    obtain ⟨A, h1, h2, h3⟩ := hs.call
    obtain ⟨p1, p2, p3, p4, p5, p6, p7, p8⟩ := HF.out
    have hxu : OneAt u x 2 (n : Int) ByteArray.empty := by
      obtain ⟨_, _, _, hT⟩ := id hs
      exact oneAt_turn p3 hT (by omega)
    exact (jwwrite_any m x n t k l u A h1 hxu (fun hf => by have := h2 _ hf; omega) hn ht hk (by omega)).mono fun e w' ⟨e1, e2⟩ => ⟨e1, h3 _ _ e2⟩
  have HW2 : Hid (w1.alloc (.cells #[.slice none 0 0] 140) = w2) := hw2
  obtain ⟨c0, c1, -, -, -, -⟩ := HCell.out _ _ S0.out
  have d0 : w1.cell? ⟨w.heap.size, 0, none⟩ = some (.int .u64 (T : Int)) := by rw [cell_of hq1]; rfl
  have d1 : w1.cell? ⟨w.heap.size, 1, none⟩ = some (.slice (some ⟨g, 0, none⟩) 1 1) := by rw [cell_of hq1]; rfl
  have hlm : w.heap.size < m := by omega
  have hne : w.heap.size ≠ m := by omega
  have e0 : (w1.alloc (.cells #[.slice none 0 0] 140)).cell? ⟨w.heap.size, 0, none⟩ = some (.int .u64 (T : Int)) := by rw [hw2]; exact c0
  have e1 : (w1.alloc (.cells #[.slice none 0 0] 140)).cell? ⟨w.heap.size, 1, none⟩ = some (.slice (some ⟨g, 0, none⟩) 1 1) := by rw [hw2]; exact c1
  clear hB1 hq1 hb2 hw2 hms HC hb1
  go_wp2_with fail
  rw [HW2.out]
  refine (HNum.out [] w2 T S0.out (by decide)).mono ?_
  rintro e w3 ⟨rfl, hs3⟩
  rw [List.nil_append] at hs3
  have S3 : Hid (StB m (le8J T) w2 w3) := hs3
  clear hs3 c0 c1 d0 d1 e0 e1
  obtain ⟨c0, c1, -, -, -, -⟩ := HCell.out _ _ S3.out
  have HN1 : Hid (Calls Tryz.prog 88 #[.pointer (some ⟨m, 0, none⟩), .int .u64 1] w3 fun e w' => e = .returned (.tuple #[]) ∧ StB m (le8J T ++ le8J 1) w2 w') := HNum.out (le8J T) w3 1 S3.out (by rw [le8J_length]; decide)
  go_wp2_with fail
  refine HN1.out.mono ?_
  rintro e w4 ⟨rfl, hs4⟩
  have S4 : Hid (StB m (le8J T ++ le8J 1) w2 w4) := hs4
  clear hs4 c0 c1 HN1
  obtain ⟨c0, c1, c2, c3, c4, c5⟩ := HCell.out _ _ S4.out
  go_wp2_with fail
  refine wp_loop_rounds 2 ?_
  rw [rounds_succ]
  have HWr4 : Hid (∀ o, Calls Tryz.prog 89 #[.pointer (some ⟨m, 0, none⟩), .agg #[.string t, .string k, .bool false, .slice (some ⟨x, 0, none⟩) 1 1]] (w4.alloc o) fun e w' => e = .returned (.tuple #[]) ∧ StB m (le8J T ++ le8J 1 ++ writeJ t k n) w2 w') := fun o => HWr.out _ _ (S4.out.below ((Below.refl _ _).alloc (Nat.le_refl _) o)) (by rw [List.length_append, le8J_length, le8J_length]; decide)
  go_wp2_with fail
  refine (HWr4.out _).mono ?_
  rintro e w5 ⟨rfl, hs5⟩
  obtain ⟨A, c, q0, q1⟩ := hs5.slot
  rw [HEq.out] at q1
  obtain ⟨L, hL⟩ : ∃ L, (le8J T ++ le8J 1 ++ writeJ t k n).length = L := ⟨_, rfl⟩
  rw [hL] at q0 q1
  have HB5 : Hid (Below w.heap.size w w5) := by
    obtain ⟨_, _, _, hT⟩ := hs5
    obtain ⟨p1, p2, p3, p4, p5, p6, p7, p8⟩ := HF.out
    exact p4.trans ((hT.mono (S' := fun i => w.heap.size ≤ i) (fun i hi => by omega)).toBelow p4.size)
  clear hs5 c0 c1 c2 c3 c4 c5 hL
  go_wp2_with fail
  rw [rounds_succ]
  go_wp2_with fail
  go_ret
  exact ⟨rfl, HB5.out⟩
end Go.Proofs.YtigegdelhpdlhaaGreatDoor

/- The library contract that the proofs of this seat lean on (a copy of a text), laid at its program. -/
namespace Go.Proofs
open Go.Shelf
def Tryz.laysItoaSmall_ren : Go.Shelf.Ren := ⟨fun | 171 => 94 | 243 => 116 | 246 => 133 | 283 => 159 | 284 => 160 | 285 => 161 | 286 => 162 | 129 => 144 | 317 => 180 | 318 => 181 | 319 => 182 | 320 => 183 | 337 => 186 | 338 => 187 | n => n, fun | 3 => 3 | 9 => 9 | 2 => 2 | 4 => 4 | 171 => 212 | 0 => 0 | 53 => 39 | 37 => 54 | 5 => 5 | 173 => 214 | 212 => 225 | 51 => 165 | 20 => 20 | 213 => 226 | 46 => 172 | 232 => 235 | 233 => 236 | n => n, fun | 17 => 2 | 18 => 3 | 19 => 4 | n => n⟩
theorem Tryz.laysItoaSmall : Go.Proofs.Lays.n171 Tryz.prog Tryz.laysItoaSmall_ren := {
  mixed := by kernel_rfl
  f129 := Tryz.func144.trans (congrArg some (by kernel_rfl))
  f171 := Tryz.func94.trans (congrArg some (by kernel_rfl))
  f243 := Tryz.func116.trans (congrArg some (by kernel_rfl))
  f246 := Tryz.func133.trans (congrArg some (by kernel_rfl))
  f283 := Tryz.func159.trans (congrArg some (by kernel_rfl))
  f284 := Tryz.func160.trans (congrArg some (by kernel_rfl))
  f285 := Tryz.func161.trans (congrArg some (by kernel_rfl))
  f286 := Tryz.func162.trans (congrArg some (by kernel_rfl))
  f317 := Tryz.func180.trans (congrArg some (by kernel_rfl))
  f318 := Tryz.func181.trans (congrArg some (by kernel_rfl))
  f319 := Tryz.func182.trans (congrArg some (by kernel_rfl))
  f320 := Tryz.func183.trans (congrArg some (by kernel_rfl))
  f337 := Tryz.func186.trans (congrArg some (by kernel_rfl))
  f338 := Tryz.func187.trans (congrArg some (by kernel_rfl))
  t0 := Tryz.underlying0
  a0 := Tryz.isAgg0
  z0 := Tryz.sizeOf0
  v0 := Tryz.zeroValue0
  t2 := Tryz.underlying2
  a2 := Tryz.isAgg2
  z2 := Tryz.sizeOf2
  v2 := Tryz.zeroValue2
  t3 := Tryz.underlying3
  a3 := Tryz.isAgg3
  z3 := Tryz.sizeOf3
  v3 := Tryz.zeroValue3
  t4 := Tryz.underlying4
  a4 := Tryz.isAgg4
  z4 := Tryz.sizeOf4
  v4 := Tryz.zeroValue4
  t5 := Tryz.underlying5
  a5 := Tryz.isAgg5
  z5 := Tryz.sizeOf5
  v5 := Tryz.zeroValue5
  t9 := Tryz.underlying9
  a9 := Tryz.isAgg9
  z9 := Tryz.sizeOf9
  v9 := Tryz.zeroValue9
  t20 := Tryz.underlying20
  a20 := Tryz.isAgg20
  z20 := Tryz.sizeOf20
  v20 := Tryz.zeroValue20
  t37 := Tryz.underlying54
  a37 := Tryz.isAgg54
  z37 := Tryz.sizeOf54
  v37 := Tryz.zeroValue54
  t46 := Tryz.underlying172
  a46 := Tryz.isAgg172
  z46 := Tryz.sizeOf172
  v46 := Tryz.zeroValue172
  t51 := Tryz.underlying165
  a51 := Tryz.isAgg165
  z51 := Tryz.sizeOf165
  v51 := Tryz.zeroValue165
  t53 := Tryz.underlying39
  a53 := Tryz.isAgg39
  z53 := Tryz.sizeOf39
  v53 := Tryz.zeroValue39
  t171 := Tryz.underlying212
  a171 := Tryz.isAgg212
  z171 := Tryz.sizeOf212
  v171 := Tryz.zeroValue212
  t173 := Tryz.underlying214
  a173 := Tryz.isAgg214
  z173 := Tryz.sizeOf214
  v173 := Tryz.zeroValue214
  t212 := Tryz.underlying225
  a212 := Tryz.isAgg225
  z212 := Tryz.sizeOf225
  v212 := Tryz.zeroValue225
  t213 := Tryz.underlying226
  a213 := Tryz.isAgg226
  z213 := Tryz.sizeOf226
  t232 := Tryz.underlying235
  a232 := Tryz.isAgg235
  z232 := Tryz.sizeOf235
  v232 := Tryz.zeroValue235
  t233 := Tryz.underlying236
  a233 := Tryz.isAgg236
  z233 := Tryz.sizeOf236
  v233 := Tryz.zeroValue236
  g17 := by kernel_rfl
  g18 := by kernel_rfl
  g19 := by kernel_rfl }
end Go.Proofs
