/- The reference disk in memory; its small functions. -/
import Derived.Test.YtbiombolpfhdlaaHas
namespace Go.Proofs.Ytbiombolpfhdlaa
open Go.RowKit Go.Maps

def bs (l : List UInt8) : ByteArray := ⟨l.toArray⟩
theorem bs_data (l : List UInt8) : (bs l).data.toList = l := by simp [bs]
theorem bs_back (k : ByteArray) : bs k.data.toList = k := by cases k; simp [bs]
theorem bs_size (l : List UInt8) : (bs l).size = l.length := by simp [bs, ByteArray.size]

def rcell (p : List UInt8 × Dk.Fil) : List Value := [.string (bs p.1), .string (bs p.2.data), .int .i64 (p.2.safe : Int)]
def rcells (fs : List (List UInt8 × Dk.Fil)) : List Value := fs.flatMap rcell
def leftI (s : Dk.Dsk) : Int := if s.fused then (s.left : Int) else -1

theorem rcells_length (fs : List (List UInt8 × Dk.Fil)) : (rcells fs).length = fs.length * 3 := by
  unfold rcells
  induction fs with
  | nil => rfl
  | cons p r ih => simp [List.flatMap_cons, rcell] at *; omega

theorem rcells_get : ∀ (fs : List (List UInt8 × Dk.Fil)) (i : Nat) (h : i < fs.length), (rcells fs)[i * 3]? = some (.string (bs (fs[i]).1)) ∧ (rcells fs)[i * 3 + 1]? = some (.string (bs (fs[i]).2.data)) ∧ (rcells fs)[i * 3 + 2]? = some (.int .i64 ((fs[i]).2.safe : Int))
  | p :: r, 0, _ => ⟨rfl, rfl, rfl⟩
  | p :: r, i + 1, h => by
    have := rcells_get r i (by simpa using h)
    have e : rcells (p :: r) = rcell p ++ rcells r := rfl
    rw [e]
    have e0 : (i + 1) * 3 = i * 3 + 3 := by omega
    rw [e0]
    exact this

structure RefG (w : World) (r : Nat) (v : Value) (s : Dk.Dsk) : Prop where
  top : w.heap[r]? = some (.cells #[v, .int .i64 (leftI s), .bool s.down] 56 (0, 0))
  row : w.ownsRow 0 61 3 v s.fs.length (rcells s.fs)

/-- what every state of a disk keeps to -/
structure Inv (s : Dk.Dsk) : Prop where
  rise : Dk.Rise s.fs
  few : s.fs.length ≤ 64
  safe : ∀ p ∈ s.fs, p.2.safe ≤ p.2.data.length
  len : ∀ p ∈ s.fs, p.2.data.length ≤ 262144
  names : ∀ p ∈ s.fs, Dk.okName p.1 = true
  left : s.left ≤ 9223372036854775807

theorem DiskG.inv {w : World} {d m : Nat} {G : List (List UInt8 × Gc)} {s : Dk.Dsk} (h : DiskG Try.prog w d m G s) : Inv s := by
  have hp : ∀ p ∈ s.fs, ∃ q ∈ G, p = (q.1, q.2.fil) := by
    intro p hp
    rw [h.fs] at hp
    unfold Dk.mapL at hp
    obtain ⟨q, hq, rfl⟩ := List.mem_map.1 hp
    exact ⟨q, hq, rfl⟩
  refine ⟨h.riseF, by rw [h.len_fs]; exact h.few, fun p h' => ?_, fun p h' => ?_, fun p h' => ?_, h.left⟩
  · obtain ⟨q, hq, rfl⟩ := hp p h'; exact (h.files q hq).safe
  · obtain ⟨q, hq, rfl⟩ := hp p h'; exact (h.files q hq).len
  · obtain ⟨q, hq, rfl⟩ := hp p h'; exact h.names q hq

def rfoot (r : Nat) (v : Value) (i : Nat) : Prop := i = r ∨ v.ownBlock = some i

section
variable {w : World} {r : Nat} {v : Value} {s : Dk.Dsk}

theorem RefG.cells (h : RefG w r v s) : w.cell? ⟨r, 0, none⟩ = some v ∧ w.cell? ⟨r, 1, none⟩ = some (.int .i64 (leftI s)) ∧ w.cell? ⟨r, 2, none⟩ = some (.bool s.down) :=
  ⟨by rw [cell_of h.top]; rfl, by rw [cell_of h.top]; rfl, by rw [cell_of h.top]; rfl⟩

theorem row3 {base : Nat} {e : TypeId} {n : Nat} {xs : List Value} (h : w.ownsRow base e 3 v n xs) : ∃ a c, v = .slice a n c ∧ n ≤ c ∧ c ≤ maxLen ∧ (0 < n → ∃ g, a = some ⟨g, 0, none⟩) := by
  rcases h.2 with ⟨e, hn⟩ | ⟨b, cap, cur, e, _, _, h1, h2, _⟩
  · exact ⟨none, 0, by rw [e, hn], by omega, Nat.zero_le _, fun hp => by omega⟩
  · exact ⟨_, _, e, h1, h2, fun _ => ⟨b, rfl⟩⟩

/-- the three cells of a file -/
theorem row_file {base g c : Nat} {fs : List (List UInt8 × Dk.Fil)} (h : w.ownsRow base 61 3 (.slice (some ⟨g, 0, none⟩) fs.length c) fs.length (rcells fs)) {i : Nat} (hi : i < fs.length) :
    w.cell? ⟨g, i * 3, none⟩ = some (.string (bs (fs[i]).1)) ∧ w.cell? ⟨g, i * 3 + 1, none⟩ = some (.string (bs (fs[i]).2.data)) ∧ w.cell? ⟨g, i * 3 + 2, none⟩ = some (.int .i64 ((fs[i]).2.safe : Int)) := by
  obtain ⟨e0, e1, e2⟩ := rcells_get fs i hi
  have c0 := h.cells (g := g) rfl _ _ e0
  have c1 := h.cells (g := g) rfl _ _ e1
  have c2 := h.cells (g := g) rfl _ _ e2
  rw [Addr.add_lit, Nat.zero_add] at c0 c1 c2
  exact ⟨c0, c1, c2⟩

theorem RefG.lt (h : RefG w r v s) {i : Nat} (hi : rfoot r v i) : i < w.heap.size := by
  rcases hi with rfl | hi
  · exact lt_of h.top
  · exact (h.row.lt i hi).2

theorem RefG.kept {w' : World} (h : RefG w r v s) {S : Nat → Prop} (ht : Turn S w w') (hS : ∀ i, rfoot r v i → ¬ S i) : RefG w' r v s :=
  ⟨(ht.block r (lt_of h.top) (hS r (Or.inl rfl))).trans h.top, ownsRow_block h.row (fun g hg => ht.block g (h.row.lt g hg).2 (hS g (Or.inr hg)))⟩

theorem RefG.r_row (h : RefG w r v s) {i : Nat} (hi : v.ownBlock = some i) : r ≠ i := by
  intro e
  rcases h.row.2 with ⟨rfl, _⟩ | ⟨b, cap, cur, rfl, _, hg, _⟩
  · cases hi
  · cases hi
    have e : r = b := e
    rw [← e, h.top] at hg
    simp at hg

/-- the struct alone is turned -/
theorem RefG.topped {w' : World} {s' : Dk.Dsk} (h : RefG w r v s) (ht : Turn (fun i => i = r) w w') (htop : w'.heap[r]? = some (.cells #[v, .int .i64 (leftI s'), .bool s'.down] 56 (0, 0))) (hfs : s'.fs = s.fs) : RefG w' r v s' := by
  refine ⟨htop, ?_⟩
  rw [hfs]
  exact ownsRow_block h.row (fun g hg => ht.block g (h.row.lt g hg).2 (h.r_row hg).symm)
end

def RGoes (w w' : World) (r : Nat) (v : Value) (s' : Dk.Dsk) : Prop :=
  ∃ v', RefG w' r v' s' ∧ Turn (rfoot r v) w w' ∧ ∀ i, rfoot r v' i → rfoot r v i ∨ w.heap.size ≤ i
theorem RGoes.stay {w : World} {r : Nat} {v : Value} {s : Dk.Dsk} (h : RefG w r v s) : RGoes w w r v s := ⟨v, h, Turn.refl _ _, fun _ hi => Or.inl hi⟩
theorem RGoes.top {w w' : World} {r : Nat} {v : Value} {s : Dk.Dsk} (h : RefG w' r v s) (ht : Turn (fun i => i = r) w w') : RGoes w w' r v s := ⟨v, h, ht.mono (fun _ hi => Or.inl hi), fun _ hi => Or.inl hi⟩

set_option maxHeartbeats 400000 in
theorem rnew_any (w : World) : Calls Try.prog 10 #[] w fun e w' => e = .returned (.pointer (some ⟨w.heap.size, 0, none⟩)) ∧ RefG w' w.heap.size (.slice none 0 0) Dk.blank ∧ Below w.heap.size w w' := by
  go_enter Try.func10, Try.ntmps10
  go_wp2
  go_ret
  refine ⟨rfl, ⟨heap_new w _, World.ownsRow_nil _ _ _ _⟩, (Below.refl _ _).alloc (Nat.le_refl _) _⟩

set_option maxHeartbeats 400000 in
theorem rfuse_any {r : Nat} {v : Value} {s : Dk.Dsk} (n : Int) (w : World) (h : RefG w r v s) :
    Calls Try.prog 30 #[.pointer (some ⟨r, 0, none⟩), .int .i64 n] w fun e w' => e = .returned (.int .i64 (Dk.fuseE n)) ∧ RefG w' r v (Dk.fuseS s n) ∧ Turn (fun i => i = r) w w' := by
  have H : Hid (RefG w r v s) := h
  obtain ⟨c0, c1, c2⟩ := h.cells
  have f1 := frozen_of h.top 1
  clear h
  by_cases hlt : n < 0
  · have e1 : Dk.fuseE n = 1 := by unfold Dk.fuseE; rw [if_pos hlt]
    have e2 : Dk.fuseS s n = s := by unfold Dk.fuseS; rw [if_pos hlt]
    rw [e1, e2]
    clear e1 e2
    go_enter Try.func30, Try.ntmps30
    go_wp2
    go_ret
    exact ⟨rfl, H.out, Turn.refl _ _⟩
  · have e1 : Dk.fuseE n = 0 := by unfold Dk.fuseE; rw [if_neg hlt]
    have e2 : Dk.fuseS s n = { s with fused := true, left := n.toNat } := by unfold Dk.fuseS; rw [if_neg hlt]
    rw [e1, e2]
    have HN : Hid (¬ n < 0) := hlt
    clear e1 e2
    go_enter Try.func30, Try.ntmps30
    go_wp2
    go_ret
    refine ⟨rfl, H.out.topped (Turn.setCell _ _ _ rfl) ?_ rfl, Turn.setCell _ _ _ rfl⟩
    rw [heap_setCell_same H.out.top]
    have : ((n.toNat : Nat) : Int) = n := by have := HN.out; omega
    simp [leftI, this]

set_option maxHeartbeats 400000 in
theorem rchange_any {r : Nat} {v : Value} {s : Dk.Dsk} (w : World) (h : RefG w r v s) (hl : s.left ≤ 9223372036854775807) :
    Calls Try.prog 43 #[.pointer (some ⟨r, 0, none⟩)] w fun e w' => e = .returned (.bool (!Dk.burnt s)) ∧ RefG w' r v (Dk.changeS s) ∧ Turn (fun i => i = r) w w' := by
  have H : Hid (RefG w r v s) := h
  obtain ⟨c0, c1, c2⟩ := h.cells
  have f1 := frozen_of h.top 1
  have f2 := frozen_of h.top 2
  clear h
  cases hd : s.down <;> cases hf : s.fused <;> rw [hd] at c2 <;> rw [show leftI s = _ from by unfold leftI; rw [hf]] at c1
  · simp only [Bool.false_eq_true, if_false] at c1
    go_enter Try.func43, Try.ntmps43
    go_wp2
    go_ret
    refine ⟨ret_bool (by simp [Dk.burnt, hd, hf]), ?_, Turn.refl _ _⟩
    rw [show Dk.changeS s = s from by simp [Dk.changeS, Dk.burnt, hf, hd]]
    exact H.out
  · simp only [if_true] at c1
    by_cases hz : s.left = 0
    · have hzI : (((s.left : Nat) : Int) == 0) = true := by rw [hz]; rfl
      go_enter Try.func43, Try.ntmps43
      go_wp2
      go_ret
      refine ⟨ret_bool (by simp [Dk.burnt, hf, hz]), ?_, Turn.setCell _ _ _ rfl⟩
      refine H.out.topped (Turn.setCell _ _ _ rfl) ?_ (by simp [Dk.changeS, Dk.burnt, hf, hz])
      rw [heap_setCell_same H.out.top]
      simp [Dk.changeS, Dk.burnt, leftI, hf, hz]
    · have hzI : (((s.left : Nat) : Int) == 0) = false := by rw [beq_eq_false_iff_ne]; omega
      have hp : (0 : Int) < ((s.left : Nat) : Int) := by omega
      go_enter Try.func43, Try.ntmps43
      go_wp2
      go_ret
      refine ⟨ret_bool (by simp [Dk.burnt, hd, hz]), ?_, Turn.setCell _ _ _ rfl⟩
      refine H.out.topped (Turn.setCell _ _ _ rfl) ?_ (by simp [Dk.changeS, Dk.burnt, hf, hd, hz])
      rw [heap_setCell_same H.out.top]
      have : (((s.left - 1 : Nat) : Nat) : Int) = (s.left : Int) - 1 := by omega
      simp [Dk.changeS, Dk.burnt, leftI, hf, hd, hz, this]
  · go_enter Try.func43, Try.ntmps43
    go_wp2
    go_ret
    refine ⟨ret_bool (by simp [Dk.burnt, hd]), ?_, Turn.setCell _ _ _ rfl⟩
    refine H.out.topped (Turn.setCell _ _ _ rfl) ?_ (by simp [Dk.changeS, Dk.burnt, hd])
    rw [heap_setCell_same H.out.top]
    simp [Dk.changeS, Dk.burnt, leftI, hd, hf]
  · go_enter Try.func43, Try.ntmps43
    go_wp2
    go_ret
    refine ⟨ret_bool (by simp [Dk.burnt, hd]), ?_, Turn.setCell _ _ _ rfl⟩
    refine H.out.topped (Turn.setCell _ _ _ rfl) ?_ (by simp [Dk.changeS, Dk.burnt, hd])
    rw [heap_setCell_same H.out.top]
    simp [Dk.changeS, Dk.burnt, leftI, hd, hf]

end Go.Proofs.Ytbiombolpfhdlaa
