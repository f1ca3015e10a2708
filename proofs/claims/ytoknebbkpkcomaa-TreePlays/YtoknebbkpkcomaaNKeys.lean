/- The program's Keys. -/
import Derived.Test.YtoknebbkpkcomaaNPut
import Derived.Laws.MakeOwn
namespace Go.Proofs.Ytoknebbkpkcomaa
open Go.RowKit

def scells (L : List ByteArray) : List Value := L.map fun x => Value.string x
theorem scells_length (L : List ByteArray) : (scells L).length = L.length := by simp [scells]
theorem scells_set (L : List ByteArray) (i : Nat) (x : ByteArray) : (scells L).set i (.string x) = scells (L.set i x) := by simp [scells]
theorem scells_get {L : List ByteArray} {i : Nat} {x : ByteArray} (h : L[i]? = some x) : (scells L)[i]? = some (.string x) := by simp [scells, h]

theorem make_strs (w : World) (n : Nat) (hn : n ≤ 100000) :
    (Instr.makeSlice 26 (.int .i64 (n : Int)) (.int .i64 (n : Int))).run Try.prog w = .ok (.slice (some ⟨w.heap.size, 0, none⟩) n n) (w.alloc (.cells (scells (List.replicate n ⟨#[]⟩)).toArray 9)) := by
  have hi : (Try.prog.info? 9).map (fun i => (i.zero, i.size, i.bytes)) = some (some (.string ⟨#[]⟩), 1, 16) := by kernel_rfl
  cases hq : Try.prog.info? 9 with
  | none => rw [hq] at hi; cases hi
  | some inf =>
    rw [hq] at hi
    simp only [Option.map_some, Option.some.injEq, Prod.mk.injEq] at hi
    obtain ⟨h1, h2, h3⟩ := hi
    have h4 : ((16 * n : Nat) : Int) ≤ 281474976710656 := by omega
    rw [Int.natCast_mul] at h4
    have := run_make (P := Try.prog) w 26 9 inf (.string ⟨#[]⟩) Try.underlying26 hq h1 .i64 .i64 (n : Int) (n : Int) (by omega) (Int.le_refl _) (by rw [h3]; exact h4) (by omega)
    rw [h2] at this
    rw [Nat.mul_one] at this
    have e : madeCells (Value.string ⟨#[]⟩).cells n = (scells (List.replicate n ⟨#[]⟩)).toArray := by
      apply Array.ext'
      apply List.ext_getElem?
      intro i
      by_cases hi : i < n
      · simp [madeCells, scells, Value.cells, hi, Nat.mod_one]
      · simp [madeCells, scells, Value.cells, hi]
    rw [Int.toNat_natCast, e] at this
    exact this

/-- a block of texts -/
def TextsAt (w : World) (b : Nat) (L : List ByteArray) : Prop := w.heap[b]? = some (.cells (scells L).toArray 9 (0, 0))

section
variable {g : Nat} {n : Nd} {w : World} {F : Nat → Prop}

/-- the first j keys, and nothing behind them -/
def part (K : List ByteArray) (j : Nat) : List ByteArray := K.take j ++ List.replicate (K.length - j) ⟨#[]⟩
theorem part_zero (K : List ByteArray) : part K 0 = List.replicate K.length ⟨#[]⟩ := by simp [part]
theorem part_all (K : List ByteArray) : part K K.length = K := by simp [part]
theorem part_length (K : List ByteArray) {j : Nat} (h : j ≤ K.length) : (part K j).length = K.length := by simp [part]; omega
theorem part_at (K : List ByteArray) {j : Nat} (h : j < K.length) : (part K j)[j]? = some ⟨#[]⟩ := by
  unfold part
  rw [List.getElem?_append_right (by simp; omega), List.length_take, Nat.min_eq_left (Nat.le_of_lt h), Nat.sub_self]
  rw [List.getElem?_replicate, if_pos (by omega)]
theorem part_next (K : List ByteArray) {j : Nat} (h : j < K.length) : (part K j).set j K[j] = part K (j + 1) := by
  unfold part
  rw [List.set_append_right _ _ (by simp; omega), List.length_take, Nat.min_eq_left (Nat.le_of_lt h), Nat.sub_self, show K.length - j = (K.length - (j + 1)) + 1 by omega, List.replicate_succ, List.set_cons_zero, List.take_add_one, List.getElem?_eq_getElem h, List.append_assoc]
  rfl

set_option maxRecDepth 100000 in
set_option maxHeartbeats 1000000 in
theorem keys_any (h : NodeI g n w F) : Calls Try.prog 46 #[.pointer (some ⟨g, 0, none⟩)] w fun e w' => ∃ b, e = .returned (.slice (some ⟨b, 0, none⟩) n.keys.length n.keys.length) ∧ w.heap.size ≤ b ∧ TextsAt w' b n.keys ∧ Below w.heap.size w w' := by
  obtain ⟨⟨C, hG⟩, hF⟩ := h
  have ho := hG.ok
  have c0 := hG.cells.c0
  have hf := ho.few
  have hkl : n.keys.length = n.ks.length := by simp [Nd.keys]
  obtain ⟨V, hV⟩ : ∃ V, n.word = V := ⟨_, rfl⟩
  obtain ⟨N, hN⟩ : ∃ N, n.ks.length = N := ⟨_, rfl⟩
  rw [hV] at c0
  have HU : Hid (∀ u : World, Calls Try.prog 60 #[.int .u64 V] u fun e w' => e = .returned (.int .i64 (N : Int)) ∧ w' = u) := fun u => by
    have := usedOf_any ho.wd u
    rw [hV, hN] at this
    exact this
  have HKA : Hid (∀ (u : World) (j : Nat) (k : ByteArray), Below w.heap.size w u → n.keys[j]? = some k → Calls Try.prog 61 #[.pointer (some ⟨g, 0, none⟩), .int .i64 (j : Int)] u fun e w' => e = .returned (.string k) ∧ ∃ m', w' = u.drewN m') := fun u j k hb hk => by
    unfold Nd.keys at hk
    rw [List.getElem?_map] at hk
    obtain ⟨p, hp, rfl⟩ := Option.map_eq_some_iff.1 hk
    exact keyAt_any (hG.kept (hb.block g (lt_of hG.st))).cells ho rfl hp
  have HC : Hid (∀ (j : Nat) (k : ByteArray) (u : World), n.keys[j]? = some k → Calls Try.prog 52 #[.string k] u fun e w' => e = .returned (.string k) ∧ Below u.heap.size u w') := fun j k u hk => sClone_any k u (by
    obtain ⟨p, hp, rfl⟩ := List.mem_map.1 (List.mem_of_getElem? hk)
    have := ho.short p hp
    omega)
  have hmk := fun u => make_strs u N (by omega)
  obtain ⟨K, hK⟩ : ∃ K, n.keys = K := ⟨_, rfl⟩
  rw [hN, hK] at hkl
  rw [hK] at HKA HC ⊢
  have HL : Hid (K.length = N) := hkl
  have hN15 : N ≤ 15 := by omega
  clear hG ho hF hV hN hK hkl hf
  go_enter Try.func46, Try.ntmps46
  go_wp2_with (go_at_call 60; go_must (refine (HU.out _).mono ?_; rintro e w ⟨rfl, rfl⟩))
  obtain ⟨b, hb⟩ : ∃ b, w.heap.size = b := ⟨_, rfl⟩
  have HBE : Hid (w.heap.size = b) := hb
  rw [hb]
  go_loopw [13] (fun v wr => ∃ j : Nat, j ≤ N ∧ v = .int .i64 j ∧ Hid (TextsAt wr b (part K j)) ∧ Hid (Below b w wr)) (fun v _ => N - (intOf v).toNat)
  case atStart =>
    refine ⟨0, Nat.zero_le _, rfl, ?_, ?_⟩
    · show TextsAt _ b (part K 0)
      rw [part_zero, HL.out, ← HBE.out]
      exact heap_new w _
    · show Below b w _
      rw [← HBE.out]
      exact (Below.refl _ _).alloc (Nat.le_refl _) _
  case round =>
    obtain ⟨j, hj, rfl, HT, HB⟩ := hrel
    by_cases hlt : j < N
    · have hjI : (j : Int) < (N : Int) := by omega
      have hjK : j < K.length := by rw [HL.out]; exact hlt
      obtain ⟨k, hk⟩ : ∃ k, K[j]? = some k := ⟨_, List.getElem?_eq_getElem hjK⟩
      have HK : Hid (K[j]? = some k) := hk
      have H1 : Hid (Calls Try.prog 61 #[.pointer (some ⟨g, 0, none⟩), .int .i64 (j : Int)] wr fun e w' => e = .returned (.string k) ∧ ∃ m', w' = wr.drewN m') := HKA.out wr j k (by rw [HBE.out]; exact HB.out) hk
      have H2 : Hid (∀ u : World, Calls Try.prog 52 #[.string k] u fun e w' => e = .returned (.string k) ∧ Below u.heap.size u w') := fun u => HC.out j k u hk
      have hbl : b < wr.heap.size := lt_of HT.out
      have HS : Hid (∀ u : World, Below wr.heap.size wr u → TextsAt u b (part K j)) := fun u hb => (hb.block b (lt_of HT.out)).trans HT.out
      clear hk hjK hb
      go_wp2_with (first | (go_at_call 61; go_must (refine H1.out.mono ?_; rintro e w1 ⟨rfl, m1, rfl⟩)) | (go_at_call 52; go_must (refine (H2.out _).mono ?_; rintro e w2 ⟨rfl, hb2⟩; have HT2 : Hid (TextsAt w2 b (part K j)) := HS.out w2 ((below_drewN wr _).trans hb2); have q0 : w2.cell? ⟨b, j, none⟩ = some (.string ⟨#[]⟩) := (by rw [cell_of HT2.out, List.getElem?_toArray]; exact scells_get (part_at K (by rw [HL.out]; exact hlt))); have q1 := frozen_of HT2.out j)))
      go_roundw
      case rel =>
        refine ⟨j + 1, by omega, by go_num, ?_, ?_⟩
        · show TextsAt _ b (part K (j + 1))
          have hjK : j < K.length := by rw [HL.out]; exact hlt
          have e := heap_setCell_same HT2.out j (.string k)
          rw [List.setIfInBounds_toArray, scells_set, show k = K[j] by have := HK.out; rw [List.getElem?_eq_getElem hjK] at this; exact (Option.some.inj this).symm, part_next K hjK] at e
          rw [show k = K[j] by have := HK.out; rw [List.getElem?_eq_getElem hjK] at this; exact (Option.some.inj this).symm]
          exact e
        · show Below b w _
          have h1 : Below b w w2 := HB.out.trans ((((below_drewN wr m1).trans hb2)).mono (by omega))
          exact h1.trans ((Turn.setCell (S := fun i => b ≤ i) w2 ⟨b, j, none⟩ _ (Nat.le_refl _)).toBelow (by have := lt_of HT2.out; omega))
      case measure => simp [intOf]; omega
    · have hjI : ¬ (j : Int) < (N : Int) := by omega
      obtain rfl : j = N := by omega
      clear hb
      go_wp2
      go_ret
      refine ⟨b, by rw [HL.out]; rfl, by rw [HBE.out]; exact Nat.le_refl _, ?_, by rw [HBE.out]; exact HB.out⟩
      have := HT.out
      rw [← HL.out, part_all] at this
      exact this
end

end Go.Proofs.Ytoknebbkpkcomaa
