/- The document's node: Get, Put, Take, New. -/
import Derived.Test.YtnnkflghnapnpaaNRef
namespace Go.Proofs.Ytnnkflghnapnpaa
open Go.RowKit

section
variable {w : World} {r : Nat} {n n' : Nd} {F : Nat → Prop} {k : ByteArray}

theorem oget_yes (h : RefI r n w F) {i : Nat} {v : Int} (hi : n.ks[i]? = some (k, v)) : Calls Try.prog 24 #[.pointer (some ⟨r, 0, none⟩), .string k] w fun e w' => e = .returned (.tuple #[.int .i64 v, .bool true]) ∧ Below w.heap.size w w' := by
  obtain ⟨kb, vb, KS, VS, hG, hF⟩ := h
  have ho := hG.ok
  have hil := (List.getElem?_eq_some_iff.1 hi).1
  have hf := ho.few
  obtain ⟨s, e1, e2, e3⟩ := slot_of ho (j := i) (by omega)
  have HPl : Hid (Calls Try.prog 42 #[.pointer (some ⟨r, 0, none⟩), .string k] w fun e w' => e = .returned (.tuple #[.int .i64 (i : Int), .int .i64 (s : Int), .bool true]) ∧ Below w.heap.size w w') := by
    have := place_any hG (ho.at hi)
    rw [isAt_yes hi, show slotOf n i = (s : Int) by unfold slotOf; rw [if_pos hil, e3]] at this
    exact this
  have HC : Hid (∀ u : World, Below w.heap.size w u → u.cell? ⟨r, 2, none⟩ = some (.slice (some ⟨vb, 0, none⟩) 15 15) ∧ u.cell? ⟨vb, s, none⟩ = some (.int .i64 v)) := fun u hb => by
    have := (hG.below hb).cells
    have cv := this.cv i _ hi
    rw [e3] at cv
    exact ⟨this.c2, cv⟩
  have hsI : (s : Int) < 15 := by omega
  clear hG ho hF hi hil hf e1 e3
  go_enter Try.func24, Try.ntmps24
  go_wp2_with (go_at_call 42; go_must (refine HPl.out.mono ?_; rintro e w1 ⟨rfl, hb1⟩; obtain ⟨q1, q2⟩ := HC.out w1 hb1))
  go_ret2
  exact ⟨rfl, hb1⟩
theorem oget_no (h : RefI r n w F) (hk : k ∉ n.keys) : Calls Try.prog 24 #[.pointer (some ⟨r, 0, none⟩), .string k] w fun e w' => e = .returned (.tuple #[.int .i64 0, .bool false]) ∧ Below w.heap.size w w' := by
  obtain ⟨kb, vb, KS, VS, hG, hF⟩ := h
  obtain ⟨i, ha⟩ := at_ex k n.ks
  obtain ⟨S, hS⟩ : ∃ S, slotOf n i = S := ⟨_, rfl⟩
  have HPl : Hid (Calls Try.prog 42 #[.pointer (some ⟨r, 0, none⟩), .string k] w fun e w' => e = .returned (.tuple #[.int .i64 (i : Int), .int .i64 S, .bool false]) ∧ Below w.heap.size w w') := by
    have := place_any hG ha
    rw [isAt_no (fun v hv => hk (List.mem_map.2 ⟨_, List.mem_of_getElem? hv, rfl⟩)), hS] at this
    exact this
  clear hG hF ha hS
  go_enter Try.func24, Try.ntmps24
  go_wp2_with (go_at_call 42; go_must (refine HPl.out.mono ?_; rintro e w1 ⟨rfl, hb1⟩))
  go_ret2
  exact ⟨rfl, hb1⟩
theorem oget_to {v : Int} {b : Bool} (hp : GetsTo n k v b) (h : RefI r n w F) : Calls Try.prog 24 #[.pointer (some ⟨r, 0, none⟩), .string k] w fun e w' => e = .returned (.tuple #[.int .i64 v, .bool b]) ∧ Below w.heap.size w w' := by
  rcases hp with ⟨hk, rfl, rfl⟩ | ⟨i, hi, rfl⟩
  · exact oget_no h hk
  · exact oget_yes h hi

/-! ### Put -/
theorem oput_long (hk : 4096 < k.size) (v : Int) (r : Nat) (w : World) : Calls Try.prog 22 #[.pointer (some ⟨r, 0, none⟩), .string k, .int .i64 v] w fun e w' => e = .returned (.tuple #[.int .i64 0, .bool false, .int .i64 2]) ∧ w' = w := by
  have h1 : 4096 < (k.size : Int) := by omega
  clear hk
  go_enter Try.func22, Try.ntmps22
  go_wp2
  go_ret3
  exact ⟨rfl, rfl⟩

theorem RefG.goesTo {u W : World} {kb vb : Nat} {KS' : List ByteArray} {VS' : List Int} (hF : ∀ i, F i ↔ (i = r ∨ i = kb ∨ i = vb)) (hb : Below w.heap.size w u) (ht : Turn (fun i => i = r ∨ i = kb ∨ i = vb) u W) (h' : RefG W r kb vb KS' VS' n') : Goes (RefI r n') w W F :=
  ⟨F, ⟨kb, vb, KS', VS', h', hF⟩, (Turn.ofBelow _ hb).trans (ht.mono (fun i hi => (hF i).2 hi)), fun _ hi => Or.inl hi⟩

set_option maxRecDepth 100000 in
set_option maxHeartbeats 1000000 in
theorem oput_there (h : RefI r n w F) {i : Nat} {v v' : Int} (hi : n.ks[i]? = some (k, v)) (hv : Num v') : Calls Try.prog 22 #[.pointer (some ⟨r, 0, none⟩), .string k, .int .i64 v'] w fun e w' => e = .returned (.tuple #[.int .i64 v, .bool true, .int .i64 0]) ∧ Goes (RefI r (n.set i k v')) w w' F := by
  obtain ⟨kb, vb, KS, VS, hG, hF⟩ := h
  have ho := hG.ok
  have hil := (List.getElem?_eq_some_iff.1 hi).1
  have hf := ho.few
  have hk : k.size ≤ 4096 := ho.short _ (List.mem_of_getElem? hi)
  have hkI : ¬ 4096 < (k.size : Int) := by omega
  obtain ⟨s, e1, e2, e3⟩ := slot_of ho (j := i) (by omega)
  have HPl : Hid (Calls Try.prog 42 #[.pointer (some ⟨r, 0, none⟩), .string k] w fun e w' => e = .returned (.tuple #[.int .i64 (i : Int), .int .i64 (s : Int), .bool true]) ∧ Below w.heap.size w w') := by
    have := place_any hG (ho.at hi)
    rw [isAt_yes hi, show slotOf n i = (s : Int) by unfold slotOf; rw [if_pos hil, e3]] at this
    exact this
  have HC : Hid (∀ u : World, Below w.heap.size w u → u.cell? ⟨r, 2, none⟩ = some (.slice (some ⟨vb, 0, none⟩) 15 15) ∧ u.cell? ⟨vb, s, none⟩ = some (.int .i64 v) ∧ u.frozen? ⟨vb, s, none⟩ = false) := fun u hb => by
    have := (hG.below hb).cells
    have cv := this.cv i _ hi
    rw [e3] at cv
    exact ⟨this.c2, cv, this.fv s⟩
  have HG : Hid (∀ u : World, Below w.heap.size w u → Goes (RefI r (n.set i k v')) w (u.setCell ⟨vb, s, none⟩ (.int .i64 v')) F) := fun u hb => by
    have hu := hG.below hb
    have ht : Turn (fun j => j = r ∨ j = kb ∨ j = vb) u (u.setCell ⟨vb, s, none⟩ (.int .i64 v')) := Turn.setCell u ⟨vb, s, none⟩ _ (Or.inr (Or.inr rfl))
    have ht1 : Turn (fun j => j = vb) u (u.setCell ⟨vb, s, none⟩ (.int .i64 v')) := Turn.setCell u ⟨vb, s, none⟩ _ rfl
    refine RefG.goesTo hF hb ht (KS' := KS) (VS' := VS.set s v') ⟨?_, ?_, ?_, hu.kl, by simp [hu.vl], fun j p hp => ?_, ho.set hi hv⟩
    · rw [ht1.block r (lt_of hu.st) hu.ne2, hu.st]
      simp [refO, Nd.word, Nd.set]
    · rw [ht1.block kb (lt_of hu.ks) hu.ne3, hu.ks]
    · rw [heap_setCell_same hu.vs, List.setIfInBounds_toArray, icells_set]
    · have hp' : (n.ks.set i (k, v'))[j]? = some p := hp
      by_cases e : i = j
      · subst e
        rw [List.getElem?_set_self hil] at hp'
        cases hp'
        obtain ⟨t, x1, x2, x3⟩ := hu.hold i _ hi
        obtain rfl : t = s := by rw [e1] at x1; cases x1; rfl
        exact ⟨t, x1, x2, List.getElem?_set_self (by rw [hu.vl]; exact e2)⟩
      · rw [List.getElem?_set_ne e] at hp'
        obtain ⟨t, x1, x2, x3⟩ := hu.hold j _ hp'
        exact ⟨t, x1, x2, by rw [List.getElem?_set_ne (slot_ne ho e1 x1 e)]; exact x3⟩
  have hsI : (s : Int) < 15 := by omega
  clear hG ho hF hi hil hf e1 e3 hk hv
  go_enter Try.func22, Try.ntmps22
  go_wp2_with (go_at_call 42; go_must (refine HPl.out.mono ?_; rintro e w1 ⟨rfl, hb1⟩; obtain ⟨q1, q2, q3⟩ := HC.out w1 hb1))
  go_ret3
  exact ⟨rfl, HG.out w1 hb1⟩

theorem oput_full (h : RefI r n w F) (hk : k ∉ n.keys) (hs : k.size ≤ 4096) (hf : n.ks.length = 15) (v : Int) : Calls Try.prog 22 #[.pointer (some ⟨r, 0, none⟩), .string k, .int .i64 v] w fun e w' => e = .returned (.tuple #[.int .i64 0, .bool false, .int .i64 120]) ∧ Below w.heap.size w w' := by
  obtain ⟨kb, vb, KS, VS, hG, hF⟩ := h
  have ho := hG.ok
  obtain ⟨i, ha⟩ := at_ex k n.ks
  have hkI : ¬ 4096 < (k.size : Int) := by omega
  obtain ⟨S, hS⟩ : ∃ S, slotOf n i = S := ⟨_, rfl⟩
  have HPl : Hid (Calls Try.prog 42 #[.pointer (some ⟨r, 0, none⟩), .string k] w fun e w' => e = .returned (.tuple #[.int .i64 (i : Int), .int .i64 S, .bool false]) ∧ Below w.heap.size w w') := by
    have := place_any hG ha
    rw [isAt_no (fun v hv => hk (List.mem_map.2 ⟨_, List.mem_of_getElem? hv, rfl⟩)), hS] at this
    exact this
  obtain ⟨V, hV⟩ : ∃ V, n.word = V := ⟨_, rfl⟩
  have HC : Hid (∀ u : World, Below w.heap.size w u → u.cell? ⟨r, 0, none⟩ = some (.int .u64 V)) := fun u hb => by rw [← hV]; exact (hG.below hb).cells.c0
  have HI : Hid (∀ u : World, Calls Try.prog 10 #[.int .u64 V, .int .i64 (i : Int)] u fun e w' => e = .returned (.tuple #[.int .u64 0, .int .i64 0, .int .i64 120]) ∧ Below u.heap.size u w') := fun u => by rw [← hV]; exact oinsert_full ho.wd ho.may hf _ u
  clear hG hF ha hS ho hk hs hf hV
  go_enter Try.func22, Try.ntmps22
  go_wp2_with (first | (go_at_call 42; go_must (refine HPl.out.mono ?_; rintro e w1 ⟨rfl, hb1⟩; have q1 := HC.out w1 hb1)) | (go_at_call 10; go_must (refine (HI.out _).mono ?_; rintro e w2 ⟨rfl, hb2⟩)))
  go_ret3
  exact ⟨rfl, hb1.trans (hb2.mono hb1.size)⟩

/-- the node's own block is written -/
theorem refO_set0 {n : Nd} {kb vb : Nat} {u : World} (h : u.heap[r]? = some (refO n kb vb)) (V I : Int) :
    ((u.setCell ⟨r, 0, none⟩ (.int .u64 V)).setCell ⟨r, 3, none⟩ (.int .i64 I)).heap[r]? = some (.cells #[.int .u64 V, .slice (some ⟨kb, 0, none⟩) 15 15, .slice (some ⟨vb, 0, none⟩) 15 15, .int .i64 I, .int .i64 n.spl] 72 (0, 0)) :=
  heap_setCell_same (heap_setCell_same h _ _) _ _

set_option maxRecDepth 100000 in
set_option maxHeartbeats 1000000 in
theorem oput_new (h : RefI r n w F) {i : Nat} (ha : At k n.ks i) (hno : ∀ v, n.ks[i]? ≠ some (k, v)) (hk : k.size ≤ 4096) (hf : n.ks.length < 15) {v : Int} (hv : Num v) (hI : 0 ≤ n.ins ∧ n.ins < 1000000) :
    Calls Try.prog 22 #[.pointer (some ⟨r, 0, none⟩), .string k, .int .i64 v] w fun e w' => e = .returned (.tuple #[.int .i64 0, .bool false, .int .i64 0]) ∧ Goes (RefI r (n.add i k v)) w w' F := by
  obtain ⟨kb, vb, KS, VS, hG, hF⟩ := h
  have ho := hG.ok
  have hkI : ¬ 4096 < (k.size : Int) := by omega
  obtain ⟨s, e1, e2, e3⟩ := slot_of ho (j := n.ks.length) (by omega)
  obtain ⟨S, hS⟩ : ∃ S, slotOf n i = S := ⟨_, rfl⟩
  have HPl : Hid (Calls Try.prog 42 #[.pointer (some ⟨r, 0, none⟩), .string k] w fun e w' => e = .returned (.tuple #[.int .i64 (i : Int), .int .i64 S, .bool false]) ∧ Below w.heap.size w w') := by
    have := place_any hG ha
    rw [isAt_no hno, hS] at this
    exact this
  obtain ⟨I, hIe⟩ : ∃ I, n.ins = I := ⟨_, rfl⟩
  obtain ⟨V, hV⟩ : ∃ V, n.word = V := ⟨_, rfl⟩
  obtain ⟨V', hV'⟩ : ∃ V', V' = wdv (n.ks.length + 1) (insW n.l n.ks.length i) := ⟨_, rfl⟩
  have HIn : Hid (∀ u : World, Calls Try.prog 10 #[.int .u64 V, .int .i64 (i : Int)] u fun e w' => e = .returned (.tuple #[.int .u64 V', .int .i64 (s : Int), .int .i64 0]) ∧ Below u.heap.size u w') := fun u => by
    have := oinsert_ok ho.wd ho.may hf (rfl : (i : Int) = (i : Nat)) ha.le u
    rw [e3, hV, ← hV'] at this
    exact this
  have HC : Hid (∀ u : World, Below w.heap.size w u → u.cell? ⟨r, 0, none⟩ = some (.int .u64 V) ∧ u.cell? ⟨r, 1, none⟩ = some (.slice (some ⟨kb, 0, none⟩) 15 15) ∧ u.cell? ⟨r, 2, none⟩ = some (.slice (some ⟨vb, 0, none⟩) 15 15) ∧ u.cell? ⟨r, 3, none⟩ = some (.int .i64 I) ∧ (∃ x, u.cell? ⟨kb, s, none⟩ = some x) ∧ (∃ x, u.cell? ⟨vb, s, none⟩ = some x) ∧ (u.frozen? ⟨r, 0, none⟩ = false ∧ u.frozen? ⟨r, 3, none⟩ = false ∧ u.frozen? ⟨kb, s, none⟩ = false ∧ u.frozen? ⟨vb, s, none⟩ = false)) := fun u hb => by
    have hu := hG.below hb
    have hc := hu.cells
    have b1 : s < KS.length := by rw [hu.kl]; exact e2
    have b2 : s < VS.length := by rw [hu.vl]; exact e2
    refine ⟨hV ▸ hc.c0, hc.c1, hc.c2, hIe ▸ hc.c3, ⟨.string KS[s], ?_⟩, ⟨.int .i64 VS[s], ?_⟩, hc.fr 0, hc.fr 3, hc.fk s, hc.fv s⟩
    · rw [cell_of hu.ks, List.getElem?_toArray]
      exact scells_get (List.getElem?_eq_getElem (by rw [hu.kl]; exact e2))
    · rw [cell_of hu.vs, List.getElem?_toArray]
      exact icells_get (List.getElem?_eq_getElem (by rw [hu.vl]; exact e2))
  have HG : Hid (∀ u : World, Below w.heap.size w u → Goes (RefI r (n.add i k v)) w ((((u.setCell ⟨r, 0, none⟩ (.int .u64 V')).setCell ⟨kb, s, none⟩ (.string k)).setCell ⟨vb, s, none⟩ (.int .i64 v)).setCell ⟨r, 3, none⟩ (.int .i64 (I + 1))) F) := fun u hb => by
    have hu := hG.below hb
    have n1 := hu.ne1
    have n2 := hu.ne2
    have n3 := hu.ne3
    have t1 : Turn (fun j => j = r) u (u.setCell ⟨r, 0, none⟩ (.int .u64 V')) := Turn.setCell u ⟨r, 0, none⟩ _ rfl
    have t2 : Turn (fun j => j = kb) _ ((u.setCell ⟨r, 0, none⟩ (.int .u64 V')).setCell ⟨kb, s, none⟩ (.string k)) := Turn.setCell _ ⟨kb, s, none⟩ _ rfl
    have t3 : Turn (fun j => j = vb) _ (((u.setCell ⟨r, 0, none⟩ (.int .u64 V')).setCell ⟨kb, s, none⟩ (.string k)).setCell ⟨vb, s, none⟩ (.int .i64 v)) := Turn.setCell _ ⟨vb, s, none⟩ _ rfl
    have t4 : Turn (fun j => j = r) _ ((((u.setCell ⟨r, 0, none⟩ (.int .u64 V')).setCell ⟨kb, s, none⟩ (.string k)).setCell ⟨vb, s, none⟩ (.int .i64 v)).setCell ⟨r, 3, none⟩ (.int .i64 (I + 1))) := Turn.setCell _ ⟨r, 3, none⟩ _ rfl
    have ht : Turn (fun j => j = r ∨ j = kb ∨ j = vb) u _ := (((t1.mono fun _ h => Or.inl h).trans (t2.mono fun _ h => Or.inr (Or.inl h))).trans (t3.mono fun _ h => Or.inr (Or.inr h))).trans (t4.mono fun _ h => Or.inl h)
    have z1 := heap_setCell_same hu.st 0 (.int .u64 V')
    have z1k := (t1.block kb (lt_of hu.ks) (Ne.symm n1)).trans hu.ks
    have z1v := (t1.block vb (lt_of hu.vs) (Ne.symm n2)).trans hu.vs
    have z2 := (t2.block r (lt_of z1) n1).trans z1
    have z2k := heap_setCell_same z1k s (.string k)
    have z2v := (t2.block vb (lt_of z1v) (Ne.symm n3)).trans z1v
    have z3 := (t3.block r (lt_of z2) n2).trans z2
    have z3k := (t3.block kb (lt_of z2k) n3).trans z2k
    have z3v := heap_setCell_same z2v s (.int .i64 v)
    have z4 := heap_setCell_same z3 3 (.int .i64 (I + 1))
    have z4k := (t4.block kb (lt_of z3k) (Ne.symm n1)).trans z3k
    have z4v := (t4.block vb (lt_of z3v) (Ne.symm n2)).trans z3v
    have hlen : (n.ks.insertIdx i (k, v)).length = n.ks.length + 1 := List.length_insertIdx_of_le_length ha.le _
    have hgd : n.l.getD n.ks.length 0 = s := e3
    refine RefG.goesTo hF hb ht (KS' := KS.set s k) (VS' := VS.set s v) ⟨?_, ?_, ?_, by simp [hu.kl], by simp [hu.vl], fun j p hp => ?_, ho.add ha hno hf hk hv⟩
    · rw [z4, hV', ← hIe]
      show some (Obj.cells _ _ _) = some (refO (n.add i k v) kb vb)
      unfold refO
      have e1 : (n.add i k v).word = wdv (n.ks.length + 1) (insW n.l n.ks.length i) := by
        show wdv (n.ks.insertIdx i (k, v)).length (insW n.l n.ks.length i) = _
        rw [hlen]
      rw [e1]
      rfl
    · rw [z4k, List.setIfInBounds_toArray, scells_set]
    · rw [z4v, List.setIfInBounds_toArray, icells_set]
    · have hp' : (n.ks.insertIdx i (k, v))[j]? = some p := hp
      have hle := ha.le
      have hel : (n.l.eraseIdx n.ks.length).length = 14 := by rw [List.length_eraseIdx_of_lt (by have := ho.len; omega)]; have := ho.len; omega
      have hl' : ∀ j t, j < n.ks.length → n.l[j]? = some t → (n.l.eraseIdx n.ks.length)[j]? = some t := fun j t hj e => by rw [List.getElem?_eraseIdx, if_pos hj]; exact e
      show ∃ s', ((n.l.eraseIdx n.ks.length).insertIdx i (n.l.getD n.ks.length 0))[j]? = some s' ∧ _ ∧ _
      rw [hgd]
      rcases ins_get hp' ha.le with ⟨h1, h2⟩ | ⟨h1, h2⟩ | ⟨h1, h2⟩
      · obtain ⟨t, x1, x2, x3⟩ := hu.hold j p h2
        have hjl := (List.getElem?_eq_some_iff.1 h2).1
        have hne := slot_ne ho e1 x1 (by omega)
        refine ⟨t, ?_, by rw [List.getElem?_set_ne hne]; exact x2, by rw [List.getElem?_set_ne hne]; exact x3⟩
        rw [List.getElem?_insertIdx, if_pos h1]
        exact hl' j t hjl x1
      · subst h1 h2
        refine ⟨s, ?_, List.getElem?_set_self (by rw [hu.kl]; exact e2), List.getElem?_set_self (by rw [hu.vl]; exact e2)⟩
        rw [List.getElem?_insertIdx, if_neg (by omega), if_pos rfl, if_pos (by omega)]
      · obtain ⟨t, x1, x2, x3⟩ := hu.hold (j - 1) p h2
        have hjl := (List.getElem?_eq_some_iff.1 h2).1
        have hne := slot_ne ho e1 x1 (by omega)
        refine ⟨t, ?_, by rw [List.getElem?_set_ne hne]; exact x2, by rw [List.getElem?_set_ne hne]; exact x3⟩
        rw [List.getElem?_insertIdx, if_neg (by omega), if_neg (by omega)]
        exact hl' (j - 1) t hjl x1
  have m1 := hG.ne1
  have m2 := hG.ne2
  have m3 := hG.ne3
  have m1' := Ne.symm m1
  have m2' := Ne.symm m2
  have m3' := Ne.symm m3
  rw [hIe] at hI
  obtain ⟨i0, i1⟩ := hI
  have hsI : (s : Int) < 15 := by omega
  clear hG hF ha hno hk hf hv e1 e3 hV hV' hIe ho hS
  go_enter Try.func22, Try.ntmps22
  go_wp2_with (first | (go_at_call 42; go_must (refine HPl.out.mono ?_; rintro e w1 ⟨rfl, hb1⟩; obtain ⟨q1, -⟩ := HC.out w1 hb1)) | (go_at_call 10; go_must (refine (HIn.out _).mono ?_; rintro e w2 ⟨rfl, hb2⟩; have hb12 := hb1.trans (hb2.mono hb1.size); obtain ⟨p0, p1, p2, p3, ⟨x4, p4⟩, ⟨x5, p5⟩, p6, p7, p8, p9⟩ := HC.out w2 hb12)))
  go_ret3
  exact ⟨rfl, HG.out w2 hb12⟩

theorem oput_to {v was e : Int} {there : Bool} (hp : PutsTo n k v n' was there e) (h : RefI r n w F) (hv : Num v) (hI : 0 ≤ n.ins ∧ n.ins < 900000) :
    Calls Try.prog 22 #[.pointer (some ⟨r, 0, none⟩), .string k, .int .i64 v] w fun x w' => x = .returned (.tuple #[.int .i64 was, .bool there, .int .i64 e]) ∧ Goes (RefI r n') w w' F := by
  rcases hp with ⟨hl, rfl, rfl, rfl, rfl⟩ | ⟨i, hi, rfl, rfl, rfl⟩ | ⟨h1, h2, h3, rfl, rfl, rfl, rfl⟩ | ⟨i, h1, h2, h3, h4, rfl, rfl, rfl, rfl⟩
  · exact (oput_long hl v r w).mono fun x w' ⟨h1, h2⟩ => ⟨h1, by subst h2; exact Goes.stay h⟩
  · exact oput_there h hi hv
  · exact (oput_full h h1 h2 h3 v).mono fun x w' ⟨h1, h2⟩ => ⟨h1, Goes.thenStay (refI_res r _) (Goes.stay h) h2⟩
  · exact oput_new h h1 h2 h3 h4 hv (by omega)
end

end Go.Proofs.Ytnnkflghnapnpaa
