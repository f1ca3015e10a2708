/- Layer 22: lists of numbers that are lent, held against each other and spoiled: SameInts, LendInts, KeptInts. -/
import Derived.Test.YtfaelefeiinbaaaDoorMShareC
import Derived.Deep.DeepMust
namespace Go.Proofs.YtfaelefeiinbaaaDoor
open Go.RowKit MP

set_option maxRecDepth 100000 in
set_option maxHeartbeats 400000 in
theorem sameInts_true (v v' : Value) (L : List Int) (w : World) (h : IntsAt w v L) (h' : IntsAt w v' L) :
    Calls Tryd.prog 24 #[v, v'] w fun e w' => e = .returned (.bool true) ∧ Below w.heap.size w w' := by
  obtain ⟨a, c, rfl, hl, hc, hx⟩ := h
  obtain ⟨a', c', rfl, hl', hc', hx'⟩ := h'
  have HX : Hid (L ≠ [] → ∃ b off, a = some ⟨b, off, none⟩ ∧ b < w.heap.size ∧ ∀ i, (h : i < L.length) → ∀ (j : Nat) (u : Value), ([Value.int .i64 L[i]])[j]? = some u → w.cell? ⟨b, off + i * 1 + j, none⟩ = some u) := hx
  have HX' : Hid (L ≠ [] → ∃ b off, a' = some ⟨b, off, none⟩ ∧ b < w.heap.size ∧ ∀ i, (h : i < L.length) → ∀ (j : Nat) (u : Value), ([Value.int .i64 L[i]])[j]? = some u → w.cell? ⟨b, off + i * 1 + j, none⟩ = some u) := hx'
  unfold maxLen at hc hc'
  clear hx hx'
  go_enter Tryd.func24, Tryd.ntmps24
  go_wp2_with fail
  go_loopw [5] (fun i wr => ∃ j : Nat, j ≤ L.length ∧ i = .int .i64 j ∧ Below w.heap.size w wr) (fun i _ => L.length - (intOf i).toNat)
  case atStart => exact ⟨0, Nat.zero_le _, rfl, Below.refl _ _⟩
  case round =>
    obtain ⟨j, hj, rfl, hb⟩ := hrel
    have HB : Hid (Below w.heap.size w wr) := hb
    clear hb
    by_cases hlt : j < L.length
    · have hlI : (j : Int) < (L.length : Int) := by omega
      have hne : L ≠ [] := by intro e; rw [e] at hlt; simp at hlt
      obtain ⟨b, off, rfl, hbl, hcs⟩ := HX.out hne
      obtain ⟨b', off', rfl, hbl', hcs'⟩ := HX'.out hne
      obtain ⟨x, hxe⟩ : ∃ x, L[j] = x := ⟨_, rfl⟩
      have q := hcs j hlt 0 _ rfl
      have q' := hcs' j hlt 0 _ rfl
      rw [hxe, Nat.mul_one, Nat.add_zero] at q q'
      have p : wr.cell? ⟨b, off + j, none⟩ = some (.int .i64 x) := (HB.out.cell hbl).trans q
      have p' : wr.cell? ⟨b', off' + j, none⟩ = some (.int .i64 x) := (HB.out.cell hbl').trans q'
      clear hcs hcs' q q' hxe hne
      go_wp2_with fail
      go_quiet (fail)
      have HB2 : Hid (Below w.heap.size w (wr.drewN nq)) := HB.out.trans ((below_drewN wr nq).mono HB.out.size)
      go_wp2_with fail
      go_roundw
      case rel => exact ⟨j + 1, by omega, by go_num, HB2.out⟩
      case measure => simp [intOf]; omega
    · have hgI : ¬ (j : Int) < (L.length : Int) := by omega
      go_wp2_with fail
      go_ret
      exact ⟨rfl, HB.out⟩

theorem cutI (a : Addr) (n c k : Nat) (h : k ≤ c) (W : World) :
    (Instr.slice 29 (.slice (some a) n c) none (some (.int .i64 (k : Int))) none).run Tryd.prog W = .ok (.slice (some a) k c) W := by
  have hz : ∀ W, (sizeOf 3).run Tryd.prog W = .ok 1 W := fun W => by kernel_rfl
  have h1 : (k : Int) ≤ (c : Int) := by omega
  obtain ⟨b, off, sp⟩ := a
  cases sp with
  | none => simp [Instr.slice, run_underlying Tryd.underlying29, Instr.sliceBounds, run_sliceBound, h1, hz, Result.andThen, Addr.add_lit]
  | some s => simp [Instr.slice, run_underlying Tryd.underlying29, Instr.sliceBounds, run_sliceBound, h1, hz, Result.andThen, Addr.add]

/-- a copy of L in the block g, and the mark behind it -/
structure LentAt (w : World) (g c : Nat) (L : List Int) : Prop where
  cap : L.length + 1 ≤ c
  capm : c ≤ maxLen
  row : ∃ cur, w.heap[g]? = some (.cells cur 3 (0, 0)) ∧ cur.toList.take ((L.length + 1) * 1) = flat (fun x : Int => [Value.int .i64 x]) (L ++ [-77])

theorem LentAt.ints {w : World} {g c : Nat} {L : List Int} (h : LentAt w g c L) : IntsAt w (.slice (some ⟨g, 0, none⟩) L.length c) L := by
  obtain ⟨cur, h1, h2⟩ := h.row
  refine sliceAt_flat (en := fun x : Int => [Value.int .i64 x]) (n := 1) (cap := c) (L := L) (fun _ => rfl) h1 ?_ (by have := h.cap; omega) h.capm
  have e := congrArg (List.take L.length) h2
  rw [List.take_take, Nat.min_eq_left (by omega), flat_append, List.take_left' (by rw [flat_length (m := 1) (fun _ => rfl), Nat.one_mul])] at e
  rw [Nat.mul_one]
  exact e
theorem LentAt.mark {w : World} {g c : Nat} {L : List Int} (h : LentAt w g c L) : w.cell? ⟨g, L.length, none⟩ = some (.int .i64 (-77)) := by
  obtain ⟨cur, h1, h2⟩ := h.row
  have h3 := flat_get (en := fun x : Int => [Value.int .i64 x]) (m := 1) (fun _ => rfl) (L ++ [-77]) L.length (by simp) 0 (by omega)
  rw [← h2, List.getElem?_take_of_lt (by omega), Nat.one_mul, Nat.add_zero, List.getElem_append_right (Nat.le_refl _)] at h3
  rw [cell_of h1, ← Array.getElem?_toList, h3]
  simp
theorem LentAt.below {w w' : World} {g c : Nat} {L : List Int} (h : LentAt w g c L) (hb : Below w.heap.size w w') : LentAt w' g c L := by
  obtain ⟨cur, h1, h2⟩ := h.row
  exact ⟨h.cap, h.capm, cur, (hb.block g (lt_of h1)).trans h1, h2⟩

set_option maxRecDepth 100000 in
set_option maxHeartbeats 400000 in
theorem lendInts_any (v : Value) (L : List Int) (w : World) (h : IntsAt w v L) (hN : NilOk v) (hb : (L.length + 1) * 8 ≤ 140737488355328) :
    Calls Tryd.prog 14 #[v] w fun e w' => ∃ g c, e = .returned (.slice (some ⟨g, 0, none⟩) L.length c) ∧ LentAt w' g c L ∧ w.heap.size ≤ g ∧ Below w.heap.size w w' := by
  obtain ⟨i1, ki, kz0, kz1, kz2⟩ := info_parts infoI
  have HS : Hid (IntsAt (w.alloc (.cells #[] 3)) v L) := h.below ((Below.refl _ _).alloc (Nat.le_refl _) _)
  have HN : Hid (NilOk v) := hN
  obtain ⟨a, c, rfl, hl, hc, -⟩ := h
  unfold maxLen at hc
  clear hN
  go_enter Tryd.func14, Tryd.ntmps14
  go_wp2_with (at_builtin; go_must (refine append_copy rfl _ _ 29 rfl w.heap.size 3 i1 (.int .i64 0) 1 8 Tryd.underlying29 ki kz0 kz1 kz2 rfl (by decide) w.heap.size rfl (row_empty w _ _) (fun x : Int => [Value.int .i64 x]) ?q1 ?q2 _ L rfl HS.out HN.out ?q3 ?q4 ?_))
  case q1 => exact fun _ => rfl
  case q2 =>
    intro y u hu
    rw [List.mem_singleton.1 hu]
    rfl
  case q3 => omega
  case q4 => simp
  intro v1 w1 hown1 hgrow1
  have HB1 : Hid (Below w.heap.size w w1) := ((Below.refl _ w).alloc (Nat.le_refl _) _).grown hgrow1 (by simp) (fun i hi => by cases hi; exact Nat.le_refl _)
  have HO1 : Hid ((w1.alloc (.cells #[.int .i64 (-77)] 3)).ownsRow w.heap.size 3 1 v1 L.length (flat (fun x : Int => [Value.int .i64 x]) L)) := hown1.alloc _
  have HW1 : Hid (w1.ownsRow w.heap.size 3 1 v1 L.length (flat (fun x : Int => [Value.int .i64 x]) L)) := hown1
  have hsz1 : w.heap.size ≤ w1.heap.size := HB1.out.size
  clear hown1 hgrow1
  go_wp2_with (at_builtin; go_must (refine wpList_append_own _ rfl _ _ 29 rfl w.heap.size 3 i1 (.int .i64 0) 1 8 Tryd.underlying29 ki kz0 kz1 kz2 rfl (by decide) v1 L.length _ rfl HO1.out ⟨w1.heap.size, 0, none⟩ 1 1 [.int .i64 (-77)] rfl rfl ?q2 ?q3 ?q4 ?q5 ?q6 ?_))
  case q2 =>
    intro i u hu
    rw [Addr.add_lit, cell_of (heap_new w1 _)]
    match i, hu with
    | 0, hu => simpa using hu
  case q3 =>
    intro u hu
    rw [List.mem_singleton.1 hu]
    rfl
  case q4 => unfold maxLen; omega
  case q5 => omega
  case q6 => simp; omega
  intro v2 w2 hown2 hgrow2 _
  have HB2 : Hid (Below w.heap.size w w2) := (HB1.out.alloc hsz1 _).grown hgrow2 (by simp; omega) (fun i hi => (HW1.out.lt i hi).1)
  have hex : ∃ g c2, v2 = .slice (some ⟨g, 0, none⟩) (L.length + 1) c2 ∧ LentAt w2 g c2 L ∧ w.heap.size ≤ g := by
    rcases hown2.2 with ⟨_, h0⟩ | ⟨g, cap, cur, e, e1, e2, e3, e4, e5, e6⟩
    · omega
    · exact ⟨g, cap, e, ⟨e3, e4, cur, e2, by rw [e6, flat_append]; rfl⟩, e1⟩
  obtain ⟨g, c2, rfl, hL, hg⟩ := hex
  have HL : Hid (LentAt w2 g c2 L) := hL
  have hsl : ∀ W, (Instr.slice 29 (.slice (some ⟨g, 0, none⟩) (L.length + 1) c2) none (some (.int .i64 (L.length : Int))) none).run Tryd.prog W = .ok (.slice (some ⟨g, 0, none⟩) L.length c2) W := fun W => cutI _ _ c2 L.length (by have := hL.cap; omega) W
  clear hown2 hgrow2 hL
  go_wp2_with fail
  go_ret
  exact ⟨g, c2, rfl, HL.out, hg, HB2.out⟩

set_option maxRecDepth 100000 in
set_option maxHeartbeats 400000 in
theorem keptInts_true (g c : Nat) (v : Value) (L : List Int) (w : World) (h : LentAt w g c L) (h' : IntsAt w v L) :
    Calls Tryd.prog 21 #[.slice (some ⟨g, 0, none⟩) L.length c, v] w fun e w' => e = .returned (.bool true) ∧ Below w.heap.size w w' := by
  have HL : Hid (LentAt w g c L) := h
  have HV : Hid (IntsAt w v L) := h'
  obtain ⟨a', c', rfl, hl', hc', -⟩ := h'
  have hcap := h.cap
  have hcm := h.capm
  unfold maxLen at hcm hc'
  have hsl : ∀ W, (Instr.slice 29 (.slice (some ⟨g, 0, none⟩) L.length c) none (some (.int .i64 ((L.length : Int) + 1))) none).run Tryd.prog W = .ok (.slice (some ⟨g, 0, none⟩) (L.length + 1) c) W := fun W => cutI _ _ c (L.length + 1) (by omega) W
  clear h
  go_enter Tryd.func21, Tryd.ntmps21
  go_wp2_with fail
  refine (sameInts_true _ _ L _ HL.out.ints HV.out).mono ?_
  rintro e w1 ⟨rfl, hb⟩
  have m1 := (HL.out.below hb).mark
  have HB : Hid (Below w.heap.size w w1) := hb
  clear hb
  go_wp2_with fail
  go_ret
  exact ⟨rfl, HB.out⟩

end Go.Proofs.YtfaelefeiinbaaaDoor
