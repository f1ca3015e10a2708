/- A row of rows: slices.Insert and slices.Delete of one. -/
import Derived.Test.YtfddmibaojfalaaGreatXInsJ
namespace Go.Proofs.YtfddmibaojfalaaGreat
open Go.RowKit Go.Lib Go.Shelf

/-- the library's contract for slices.Delete, laid at this program -/
def delRen : Go.Shelf.Ren := ⟨fun | 45 => 47 | n => n, fun | 0 => 0 | 3 => 3 | 4 => 4 | 22 => 44 | 23 => 37 | n => n, fun | n => n⟩
theorem laysDelete : SlLaysE.n45 Tryz.prog delRen := {
  mixed := by kernel_rfl
  f45 := ⟨Tryz.f47.name, by kernel_rfl, Tryz.func47.trans (congrArg some (by kernel_rfl))⟩
  t0 := Tryz.underlying0
  a0 := Tryz.isAgg0
  z0 := Tryz.sizeOf0
  v0 := Tryz.zeroValue0
  t3 := Tryz.underlying3
  a3 := Tryz.isAgg3
  z3 := Tryz.sizeOf3
  v3 := Tryz.zeroValue3
  t4 := Tryz.underlying4
  a4 := Tryz.isAgg4
  z4 := Tryz.sizeOf4
  v4 := Tryz.zeroValue4
  t22 := Tryz.underlying44
  a22 := Tryz.isAgg44
  z22 := Tryz.sizeOf44
  v22 := Tryz.zeroValue44
  a23 := Tryz.isAgg37
  z23 := Tryz.sizeOf37 }

def enP : Option Rw → Value
  | none => .slice none 0 0
  | some q => pv q

section
variable {w : World} {b c vb i : Nat} {q : Rw} {L : List Rw} {R : Array Value}

theorem putRow_turn (W : World) (d : Array (Option Rw)) : Turn (fun j => j = b) W (Go.Sort.putRow enP W b 0 d) := by
  refine ⟨rfl, rfl, rfl, by simp, fun j hj hne => ?_⟩
  unfold Go.Sort.putRow Go.Sort.mapBlock
  have hne' : ¬ b = j := fun e => hne e.symm
  simp only [Array.getElem?_modify, hne', if_false]
theorem putRow_heap (W : World) (d : Array (Option Rw)) {C : Array Value} (h : W.heap[b]? = some (.cells C 37 (0, 0))) : (Go.Sort.putRow enP W b 0 d).heap[b]? = some (.cells (Go.Sort.putCells enP 0 d C) 37 (0, 0)) := by
  unfold Go.Sort.putRow Go.Sort.mapBlock
  simp only [Array.getElem?_modify, if_true, h, Option.map_some, Go.Sort.onCells]

theorem xdelete_any (h : PtrRow w b c L R) (hi : i < L.length) {j : Int} (hj : j = (i : Int) + 1) :
    Calls Tryz.prog 47 #[.slice (some ⟨b, 0, none⟩) L.length c, .int .i64 (i : Int), .int .i64 j] w fun e w' => e = .returned (.slice (some ⟨b, 0, none⟩) (L.length - 1) c) ∧ Hid ((∃ R', PtrRow w' b c (L.eraseIdx i) R') ∧ Turn (fun i => i = b) w w') := by
  obtain ⟨i0, hi0, hz0, hzs, hzb⟩ := info_parts infoP
  have hbig := h.big
  have hfit := h.fit
  unfold maxLen at hbig
  have hH : Go.Sort.Holds enP w b 0 (L.map some).toArray := fun k hk => by
    have hk' : k < L.length := by simpa using hk
    refine ⟨?_, frozen_of h.st _⟩
    rw [Nat.zero_add, cell_of h.st, h.at_ k _ (List.getElem?_eq_getElem hk'), getElem!_pos _ k hk]
    simp [enP]
  have hds : (L.map some).toArray.size = L.length := by simp
  have hc := AnyE.slices_Delete laysDelete enP (fun x => by cases x <;> rfl) none Tryz.zeroValue37 i0 hi0 hzs b 0 c i (i + 1) (L.map some).toArray w hH (by rw [hds]; exact hfit) (by omega) (by omega) (by rw [hds]; omega)
  rw [hds] at hc
  subst hj
  rw [show ((i + 1 : Nat) : Int) = (i : Int) + 1 by omega] at hc
  refine Calls.mono hc fun e w' ⟨h1, n, h2⟩ => ⟨?_, ?_⟩
  · rw [h1, show i + 1 - i = 1 by omega]
  · subst h2
    have hst : (Go.Sort.ahead w n).heap[b]? = some (.cells R 37 (0, 0)) := h.st
    refine ⟨⟨_, putRow_heap _ _ hst, ?_, ?_, h.big, fun k x hk => ?_⟩, ?_⟩
    · simp [Go.Sort.putCells, h.size]
    · rw [List.length_eraseIdx_of_lt hi]; omega
    · have hkl := (List.getElem?_eq_some_iff.1 hk).1
      rw [List.length_eraseIdx_of_lt hi] at hkl
      unfold Go.Sort.putCells
      have e1 : (List.take i (L.map some).toArray.toList ++ List.drop (i + 1) (L.map some).toArray.toList ++ List.replicate (i + 1 - i) none).toArray[k]? = some (some x) := by
        rw [List.getElem?_toArray, List.getElem?_append_left (by simp; omega)]
        rw [List.getElem?_eraseIdx] at hk
        by_cases hki : k < i
        · rw [if_pos hki] at hk
          rw [List.getElem?_append_left (by simp; omega), List.getElem?_take_of_lt hki]
          simp [hk]
        · rw [if_neg hki] at hk
          rw [List.getElem?_append_right (by simp; omega), List.length_take, List.getElem?_drop]
          have : i + 1 + (k - min i (L.map some).toArray.toList.length) = k + 1 := by simp; omega
          rw [this]
          simp [hk]
      obtain ⟨hk2, e2⟩ := Array.getElem?_eq_some_iff.1 e1
      rw [Array.getElem?_mapIdx, Array.getElem?_eq_getElem (by have := h.size; omega), Option.map_some, if_pos ⟨Nat.zero_le _, by rw [Nat.zero_add]; exact hk2⟩, Nat.sub_zero, getElem!_pos _ k hk2, e2]
      rfl
    · have := putRow_turn (b := b) (Go.Sort.ahead w n) (List.take i (L.map some).toArray.toList ++ List.drop (i + 1) (L.map some).toArray.toList ++ List.replicate (i + 1 - i) none).toArray
      exact ⟨this.os, this.tape, this.output, this.size, this.block⟩

theorem xinsert_any (h : PtrRow w b c L R) (hn : L.length ≤ 5000) (hi : i ≤ L.length) (hvb : vb ≠ b) (hv : w.heap[vb]? = some (.cells #[pv q] 37 (0, 0))) :
    Calls Tryz.prog 48 #[.slice (some ⟨b, 0, none⟩) L.length c, .int .i64 (i : Int), .slice (some ⟨vb, 0, none⟩) 1 1] w fun e w' => ∃ b' c', e = .returned (.slice (some ⟨b', 0, none⟩) (L.length + 1) c') ∧ Hid ((∃ R', PtrRow w' b' c' (L.insertIdx i q) R') ∧ (b' = b ∨ b' = w.heap.size) ∧ Turn (fun i => i = b) w w') := by
  by_cases he : i = L.length
  · subst he
    refine (insert_end (q := q) h.owns ⟨_, _, rfl, fun e => by cases e⟩ hn hv).mono fun e w' ⟨v', h1, h2, h3, h4⟩ => ?_
    obtain ⟨b', c', R', rfl, hR⟩ := ownsRow_ptr h2 (by simp)
    refine ⟨b', c', by rw [h1]; simp, ⟨R', ?_⟩, ?_, h4.mono (fun j hj => (Option.some.inj hj).symm)⟩
    · rw [List.insertIdx_length_self]
      exact hR
    · rcases h3 with h3 | h3
      · exact Or.inl (Option.some.inj h3)
      · exact Or.inr (Option.some.inj h3)
  · by_cases hr : L.length + 1 ≤ c
    · exact (insert_room h hn (by omega) hr hvb hv).mono fun e w' ⟨h1, h2⟩ => ⟨b, c, h1, h2.out.1, Or.inl rfl, h2.out.2⟩
    · exact (insert_grow h hn (by omega) (by omega) hv).mono fun e w' ⟨c', h1, h2⟩ => ⟨_, c', h1, h2.out.1, Or.inr rfl, h2.out.2⟩
theorem tinsert_nil (hv : w.heap[vb]? = some (.cells #[pv q] 37 (0, 0))) :
    Calls Tryz.prog 48 #[.slice none 0 0, .int .i64 0, .slice (some ⟨vb, 0, none⟩) 1 1] w fun e w' => ∃ b' c', e = .returned (.slice (some ⟨b', 0, none⟩) 1 c') ∧ Hid ((∃ R', PtrRow w' b' c' [q] R') ∧ b' = w.heap.size ∧ Below w.heap.size w w') := by
  refine (insert_end (L := []) (q := q) (v := .slice none 0 0) ⟨rfl, Or.inl ⟨rfl, rfl⟩⟩ ⟨_, _, rfl, fun _ => rfl⟩ (by simp) hv).mono fun e w' ⟨v', h1, h2, h3, h4⟩ => ?_
  obtain ⟨b', c', R', rfl, hR⟩ := ownsRow_ptr h2 (by simp)
  refine ⟨b', c', by rw [h1]; simp, ⟨R', hR⟩, ?_, ⟨h4.os, h4.tape, h4.output, h4.size, fun j hj => h4.block j hj (fun e => by cases e)⟩⟩
  rcases h3 with h3 | h3
  · cases h3
  · exact Option.some.inj h3
end

end Go.Proofs.YtfddmibaojfalaaGreat
