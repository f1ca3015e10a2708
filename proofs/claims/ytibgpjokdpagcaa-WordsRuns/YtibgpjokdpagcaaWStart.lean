/- start: machines of their own. -/
import Derived.Test.YtibgpjokdpagcaaWMake
namespace Go.Proofs.Ytibgpjokdpagcaa
open Go.RowKit

def Mg.zero : Mg := ⟨.slice none 0 0, zero8, 0⟩
/-- the machines of the first j tasks have their code -/
def startG (T : List TaskV) (j : Nat) : List Mg := (T.take j).map (fun t => ⟨t.v, zero8, 0⟩) ++ List.replicate (T.length - j) Mg.zero
theorem startG_length (T : List TaskV) {j : Nat} (h : j ≤ T.length) : (startG T j).length = T.length := by simp [startG]; omega
theorem startG_zero (T : List TaskV) : startG T 0 = List.replicate T.length Mg.zero := by simp [startG]
theorem startG_at (T : List TaskV) {j : Nat} (h : j < T.length) : (startG T j)[j]'(by rw [startG_length T (by omega)]; exact h) = Mg.zero := by
  simp only [startG]
  rw [List.getElem_append_right (by simp; omega)]
  simp
theorem startG_set (T : List TaskV) {j : Nat} (h : j < T.length) : (startG T j).set j ⟨T[j].v, zero8, 0⟩ = startG T (j + 1) := by
  unfold startG
  rw [List.take_succ_eq_append_getElem h, List.map_append, List.set_append_right _ _ (by simp; omega)]
  have e : T.length - j = (T.length - (j + 1)) + 1 := by omega
  rw [e, List.replicate_succ]
  have e2 : j - (List.map (fun t : TaskV => (⟨t.v, zero8, 0⟩ : Mg)) (List.take j T)).length = 0 := by simp; omega
  rw [e2, List.set_cons_zero]
  simp

/-- a row of machines in the block g -/
def RowM (w : World) (g : Nat) (G : List Mg) : Prop := ∃ cur, w.heap[g]? = some (.cells cur 59 (0, 0)) ∧ cur.toList = flat Mg.en G

set_option maxRecDepth 100000 in
set_option maxHeartbeats 400000 in
theorem start_any (v : Value) (T : List TaskV) (w : World) (hA : TasksAt w v T) (hT : T.length ≤ 4096) :
    Calls Try.prog 24 #[v] w fun e w' => e = .returned (.slice (some ⟨w.heap.size, 0, none⟩) T.length T.length) ∧ RowM w' w.heap.size (startG T T.length) ∧ Below w.heap.size w w' := by
  obtain ⟨⟨a, c, rfl, hl, hc, hx⟩, he⟩ := hA
  have HX : Hid (T ≠ [] → ∃ b off, a = some ⟨b, off, none⟩ ∧ b < w.heap.size ∧ ∀ i, (h : i < T.length) → ∀ (j : Nat) (u : Value), ([T[i].v])[j]? = some u → w.cell? ⟨b, off + i * 1 + j, none⟩ = some u) := hx
  have HT : Hid (∀ t ∈ T, SliceAt w t.v 4 InsV.en t.L) := he
  have hmk := make_any Try.underlying55 infoM w T.length (by omega) (by omega)
  have hz := made_flat (en := Mg.en) Mg.en_len (by omega) (d := Mg.zero) (z := (Value.agg #[.slice none 0 0, .int .u64 0, .int .u64 0, .int .u64 0, .int .u64 0, .int .u64 0, .int .u64 0, .int .u64 0, .int .u64 0, .int .i64 0]).cells) rfl T.length
  generalize madeCells (Value.agg #[.slice none 0 0, .int .u64 0, .int .u64 0, .int .u64 0, .int .u64 0, .int .u64 0, .int .u64 0, .int .u64 0, .int .u64 0, .int .i64 0]).cells (T.length * 10) = Z at hmk hz
  have HI0 : Hid (RowM (w.alloc (.cells Z 59)) w.heap.size (startG T 0) ∧ Below w.heap.size w (w.alloc (.cells Z 59))) := ⟨⟨Z, heap_new w _, by rw [startG_zero]; exact hz⟩, (Below.refl _ _).alloc (Nat.le_refl _) _⟩
  obtain ⟨g, hg⟩ : ∃ g, w.heap.size = g := ⟨_, rfl⟩
  unfold maxLen at hc
  clear hx he hz
  go_enter Try.func24, Try.ntmps24
  go_wp2_with fail
  rw [hg] at HI0
  try simp only [hg]
  go_loopw [11] (fun i wr => ∃ j : Nat, j ≤ T.length ∧ i = .int .i64 j ∧ RowM wr g (startG T j) ∧ Below g w wr) (fun i _ => T.length - (intOf i).toNat)
  case atStart => exact ⟨0, Nat.zero_le _, rfl, HI0.out.1, HI0.out.2⟩
  case round =>
    obtain ⟨j, hj, rfl, hrow, hbel⟩ := hrel
    have HR : Hid (RowM wr g (startG T j)) := hrow
    have HW : Hid (Below g w wr) := hbel
    clear hrow hbel HI0 hmk
    by_cases hlt : j < T.length
    · have hlI : (j : Int) < (T.length : Int) := by omega
      obtain ⟨b, off, rfl, hbl, hcs⟩ := HX.out (by intro e; rw [e] at hlt; simp at hlt)
      obtain ⟨t, hte⟩ : ∃ t, T[j] = t := ⟨_, rfl⟩
      have q := hcs j hlt 0 _ rfl
      have hmem : t ∈ T := hte ▸ List.getElem_mem hlt
      obtain ⟨ta, tc, hte2, ht3⟩ := HT.out t hmem
      rw [hte, Nat.mul_one, Nat.add_zero, hte2] at q
      have p0 : wr.cell? ⟨b, off + j, none⟩ = some (.slice ta t.L.length tc) := (HW.out.cell (by rw [← hg]; exact hbl)).trans q
      have HS : Hid ((startG T j).set j ⟨.slice ta t.L.length tc, zero8, 0⟩ = startG T (j + 1)) := by
        have := startG_set T hlt
        rw [hte, hte2] at this
        exact this
      obtain ⟨cur, hcu, hcl⟩ := HR.out
      have hlen := startG_length T hj
      have q0 : wr.cell? ⟨g, 10 * j, none⟩ = some (.slice none 0 0) := by
        rw [cell_of hcu, ← Array.getElem?_toList, hcl]
        have := flat_get Mg.en_len (startG T j) j (by omega) 0 (by omega)
        rw [startG_at T hlt] at this
        exact this
      have q1 : wr.frozen? ⟨g, 10 * j, none⟩ = false := frozen_of hcu _
      have HN : Hid (∀ u, u = wr.setCell ⟨g, 10 * j, none⟩ (.slice ta t.L.length tc) → RowM u g (startG T (j + 1)) ∧ Below g w u) := by
        rintro u rfl
        refine ⟨⟨_, heap_setCell_same hcu _ _, ?_⟩, HW.out.trans ((Turn.setCell (S := fun i => g ≤ i) wr ⟨g, 10 * j, none⟩ _ (Nat.le_refl _)).toBelow (by have := lt_of hcu; omega))⟩
        rw [Array.toList_setIfInBounds, hcl, ← HS.out]
        refine flat_set Mg.en_len (startG T j) j (by omega) 0 _ _ (by omega) ?_
        rw [startG_at T hlt]
        rfl
      rw [Nat.mul_comm 10 j] at q0 q1 HN
      clear q hcs hte hmem hte2 ht3 hcu hcl hlen HS
      go_wp2_with fail
      go_roundw
      case rel => exact ⟨j + 1, by omega, by go_num, (HN.out _ rfl).1, (HN.out _ rfl).2⟩
      case measure => simp [intOf]; omega
    · have hgI : ¬ (j : Int) < (T.length : Int) := by omega
      have ej : j = T.length := by omega
      subst ej
      go_wp2_with fail
      go_ret
      exact ⟨rfl, HR.out, HW.out⟩

end Go.Proofs.Ytibgpjokdpagcaa
