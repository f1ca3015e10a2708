/- report: registers and whether each has stopped. -/
import Derived.Test.YtibgpjokdpagcaaWStart
import Derived.Test.YtibgpjokdpagcaaWStep
import Derived.Deep.RegionHeld3
namespace Go.Proofs.Ytibgpjokdpagcaa
open Go.RowKit

def r8 (r : List Int) : List Value := [rv r 0, rv r 1, rv r 2, rv r 3, rv r 4, rv r 5, rv r 6, rv r 7]
theorem r8_len (r : List Int) : (r8 r).length = 8 := rfl

def vlen : Value → Nat
  | .slice _ n _ => n
  | _ => 0
def Mg.dn (m : Mg) : Bool := decide (vlen m.v ≤ m.p)

def RowR (w : World) (g : Nat) (R : List (List Int)) : Prop := ∃ cur, w.heap[g]? = some (.cells cur 47 (0, 0)) ∧ cur.toList = flat r8 R
def bcell (b : Bool) : List Value := [.bool b]
def RowB (w : World) (g : Nat) (D : List Bool) : Prop := ∃ cur, w.heap[g]? = some (.cells cur 4 (0, 0)) ∧ cur.toList = flat bcell D

abbrev vz8 : Value := .agg #[.int .u64 0, .int .u64 0, .int .u64 0, .int .u64 0, .int .u64 0, .int .u64 0, .int .u64 0, .int .u64 0]

/-- the first j of L are done -/
def part {α β : Type} (f : α → β) (d : β) (L : List α) (j : Nat) : List β := (L.take j).map f ++ List.replicate (L.length - j) d
section
variable {α β : Type} {f : α → β} {d : β} {L : List α} {j : Nat}
theorem part_length (h : j ≤ L.length) : (part f d L j).length = L.length := by simp [part]; omega
theorem part_zero : part f d L 0 = List.replicate L.length d := by simp [part]
theorem part_all : part f d L L.length = L.map f := by simp [part]
theorem part_at (h : j < L.length) : (part f d L j)[j]'(by rw [part_length (by omega)]; exact h) = d := by
  simp only [part]
  rw [List.getElem_append_right (by simp; omega)]
  simp
theorem part_set (h : j < L.length) : (part f d L j).set j (f L[j]) = part f d L (j + 1) := by
  unfold part
  rw [List.take_succ_eq_append_getElem h, List.map_append, List.set_append_right _ _ (by simp; omega)]
  have e : L.length - j = (L.length - (j + 1)) + 1 := by omega
  rw [e, List.replicate_succ]
  have e2 : j - (List.map f (List.take j L)).length = 0 := by simp; omega
  rw [e2, List.set_cons_zero]
  simp
end

theorem heap_alloc (w : World) (o : Obj) (i : Nat) : (w.alloc o).heap[i]? = if i = w.heap.size then some o else w.heap[i]? := by
  split
  · rename_i e; rw [e]; exact heap_new w o
  · rename_i e
    by_cases h : i < w.heap.size
    · exact Below.heap_alloc w o i h
    · rw [Array.getElem?_eq_none (by simp; omega), Array.getElem?_eq_none (by omega)]
theorem four_heap (w : World) (a b c d x : Obj) {i : Nat} (h : (i = w.heap.size ∧ x = a) ∨ (i = w.heap.size + 1 ∧ x = b) ∨ (i = w.heap.size + 1 + 1 ∧ x = c) ∨ (i = w.heap.size + 1 + 1 + 1 ∧ x = d)) : ((((w.alloc a).alloc b).alloc c).alloc d).drew.heap[i]? = some x := by
  show ((((w.alloc a).alloc b).alloc c).alloc d).heap[i]? = some x
  rw [heap_alloc, heap_alloc, heap_alloc, heap_alloc]
  simp only [World.size_alloc]
  rcases h with ⟨rfl, rfl⟩ | ⟨rfl, rfl⟩ | ⟨rfl, rfl⟩ | ⟨rfl, rfl⟩
  · rw [if_neg (by omega), if_neg (by omega), if_neg (by omega), if_pos rfl]
  · rw [if_neg (by omega), if_neg (by omega), if_pos rfl]
  · rw [if_neg (by omega), if_pos rfl]
  · rw [if_pos rfl]
theorem four_below (w : World) (a b c d : Obj) : Below w.heap.size w ((((w.alloc a).alloc b).alloc c).alloc d).drew :=
  (((((Below.refl _ _).alloc (Nat.le_refl _) a).alloc (by simp) b).alloc (by simp; omega) c).alloc (by simp; omega) d).drew

abbrev repO (vc : Value) (g2 g3 n : Nat) (k : Nat) : Obj := .cells #[vc, .slice (some ⟨g2, 0, none⟩) n n, .slice (some ⟨g3, 0, none⟩) n n, .int .i64 (k : Int)] 34 (0, 0)
abbrev repZ : Obj := .cells #[.slice none 0 0, .slice none 0 0, .slice none 0 0, .int .i64 0] 34 (0, 0)

structure RepS (w wr : World) (G : List Mg) (vc : Value) (k rb xb g2 g3 : Nat) (j jb : Nat) : Prop where
  res : wr.heap[rb]? = some repZ
  x : wr.heap[xb]? = some (repO vc g2 g3 G.length k)
  r : RowR wr g2 (part Mg.r zero8 G j)
  b : RowB wr g3 (part Mg.dn false G jb)
  new : w.heap.size ≤ rb ∧ w.heap.size ≤ xb ∧ w.heap.size ≤ g2 ∧ w.heap.size ≤ g3
  ne : rb ≠ xb ∧ rb ≠ g2 ∧ rb ≠ g3 ∧ xb ≠ g2 ∧ xb ≠ g3 ∧ g2 ≠ g3
  below : Below w.heap.size w wr

section
variable {w wr w' : World} {G : List Mg} {vc : Value} {V : List Value} {k rb xb g2 g3 j jb : Nat}
theorem RepS.stay (h : RepS w wr G vc k rb xb g2 g3 j jb) (hb : Below wr.heap.size wr w') : RepS w w' G vc k rb xb g2 g3 j jb := by
  obtain ⟨h1, h2, ⟨c1, h3, h3'⟩, ⟨c2, h4, h4'⟩, h5, h6, h7⟩ := h
  exact ⟨(hb.block _ (lt_of h1)).trans h1, (hb.block _ (lt_of h2)).trans h2, ⟨c1, (hb.block _ (lt_of h3)).trans h3, h3'⟩, ⟨c2, (hb.block _ (lt_of h4)).trans h4, h4'⟩, h5, h6, h7.trans (hb.mono h7.size)⟩
theorem RepS.setR (h : RepS w wr G vc k rb xb g2 g3 j jb) (hj : j < G.length) (hv : r8 (G[j]).r = V) : RepS w (wr.setCells g2 (j * 8) V) G vc k rb xb g2 g3 (j + 1) jb := by
  obtain ⟨h1, h2, ⟨c1, h3, h3'⟩, ⟨c2, h4, h4'⟩, h5, h6, h7⟩ := h
  have ht := setCells_turn g2 V (j * 8) wr
  refine ⟨(ht.block _ (lt_of h1) h6.2.1).trans h1, (ht.block _ (lt_of h2) h6.2.2.2.1).trans h2, ?_, ⟨c2, (ht.block _ (lt_of h4) (Ne.symm h6.2.2.2.2.2)).trans h4, h4'⟩, h5, h6, h7.trans ((ht.mono (fun i e => by rw [e]; exact h5.2.2.1)).toBelow h7.size)⟩
  rw [← hv]
  obtain ⟨c', e1, e2⟩ := setCells_flat r8_len h3 h3' (i := j) (by rw [part_length (by omega)]; exact hj) (G[j]).r
  exact ⟨c', e1, by rw [e2, part_set hj]⟩
theorem RepS.setB (h : RepS w wr G vc k rb xb g2 g3 j jb) (hj : jb < G.length) {d : Bool} (hd : (G[jb]).dn = d) : RepS w (wr.setCell ⟨g3, jb, none⟩ (.bool d)) G vc k rb xb g2 g3 j (jb + 1) := by
  obtain ⟨h1, h2, ⟨c1, h3, h3'⟩, ⟨c2, h4, h4'⟩, h5, h6, h7⟩ := h
  have ht : Turn (fun i => i = g3) wr (wr.setCell ⟨g3, jb, none⟩ (.bool d)) := Turn.setCell wr ⟨g3, jb, none⟩ _ rfl
  refine ⟨(ht.block _ (lt_of h1) h6.2.2.1).trans h1, (ht.block _ (lt_of h2) h6.2.2.2.2.1).trans h2, ⟨c1, (ht.block _ (lt_of h3) h6.2.2.2.2.2).trans h3, h3'⟩, ?_, h5, h6, h7.trans ((ht.mono (fun i e => by rw [e]; exact h5.2.2.2)).toBelow h7.size)⟩
  refine ⟨_, heap_setCell_same h4 _ _, ?_⟩
  rw [Array.toList_setIfInBounds, h4', ← part_set hj, hd]
  have := flat_set (en := bcell) (m := 1) (fun _ => rfl) (part Mg.dn false G jb) jb (by rw [part_length (by omega)]; exact hj) 0 (.bool d) d (by omega) rfl
  simpa using this
end

set_option maxRecDepth 100000 in
set_option maxHeartbeats 400000 in
theorem report_any {g h : Nat} {G : List Mg} {c : List Int} {w : World} {n k : Nat} (hR : RoomG w g h G c) (hV : ∀ m ∈ G, ∃ a l q, m.v = .slice a l q) (hG : G.length ≤ 4096) :
    Calls Try.prog 27 #[.slice (some ⟨g, 0, none⟩) G.length G.length, .slice (some ⟨h, 0, none⟩) n n, .int .i64 (k : Int)] w fun e w' => ∃ g2 g3, e = .returned (.agg #[.slice (some ⟨h, 0, none⟩) n n, .slice (some ⟨g2, 0, none⟩) G.length G.length, .slice (some ⟨g3, 0, none⟩) G.length G.length, .int .i64 (k : Int)]) ∧
      RowR w' g2 (G.map Mg.r) ∧ RowB w' g3 (G.map Mg.dn) ∧ g2 ≠ g3 ∧ w.heap.size ≤ g2 ∧ w.heap.size ≤ g3 ∧ Below w.heap.size w w' := by
  have HR : Hid (RoomG w g h G c) := hR
  have HV : Hid (∀ m ∈ G, ∃ a l q, m.v = .slice a l q) := hV
  have hgl : g < w.heap.size := hR.lt.1
  clear hR hV
  have hm1 := fun u : World => make_any Try.underlying31 infoA u G.length (by omega) (by omega)
  have hm2 := fun u : World => make_any Try.underlying32 infoB u G.length (by omega) (by omega)
  have hz1 := made_flat (en := r8) r8_len (by omega) (d := zero8) (z := (Value.agg #[.int .u64 0, .int .u64 0, .int .u64 0, .int .u64 0, .int .u64 0, .int .u64 0, .int .u64 0, .int .u64 0]).cells) rfl G.length
  have hz2 := made_flat (en := bcell) (m := 1) (fun _ => rfl) (by omega) (d := false) (z := (Value.bool false).cells) rfl G.length
  generalize madeCells (Value.agg #[.int .u64 0, .int .u64 0, .int .u64 0, .int .u64 0, .int .u64 0, .int .u64 0, .int .u64 0, .int .u64 0]).cells (G.length * 8) = Z1 at hm1 hz1
  generalize madeCells (Value.bool false).cells (G.length * 1) = Z2 at hm2 hz2
  rw [← part_zero (f := Mg.r) (L := G)] at hz1
  rw [← part_zero (f := Mg.dn) (L := G)] at hz2
  have HZ : Hid (Z1.toList = flat r8 (part Mg.r zero8 G 0) ∧ Z2.toList = flat bcell (part Mg.dn false G 0)) := ⟨hz1, hz2⟩
  clear hz1 hz2
  go_enter Try.func27, Try.ntmps27
  go_wp2_with fail
  rename_i K hK
  have key : Hid (∀ (u : World) (xb g2 g3 : Nat), RepS w u G (.slice (some ⟨h, 0, none⟩) n n) k w.heap.size xb g2 g3 0 0 → K { tmps := #[.slice (some ⟨g, 0, none⟩) G.length G.length, .slice (some ⟨h, 0, none⟩) n n, .int .i64 (k : Int), undef, undef, undef, .pointer (some ⟨w.heap.size, 0, none⟩), .pointer (some ⟨xb, 0, none⟩), undef,
      .slice (some ⟨h, 0, none⟩) n n, .slice (some ⟨g, 0, none⟩) G.length G.length, .int .i64 (G.length : Int), .slice (some ⟨g2, 0, none⟩) G.length G.length, .slice (some ⟨g, 0, none⟩) G.length G.length, .int .i64 (G.length : Int), .slice (some ⟨g3, 0, none⟩) G.length G.length, .int .i64 (k : Int),
      .agg #[.slice (some ⟨h, 0, none⟩) n n, .slice (some ⟨g2, 0, none⟩) G.length G.length, .slice (some ⟨g3, 0, none⟩) G.length G.length, .int .i64 (k : Int)], undef, undef, undef, undef, undef, undef, undef, undef, undef, undef, undef, undef, undef, undef, undef, undef, undef, undef, undef, undef, undef, undef, undef, undef], defers := [] } u) := by
    intro u xb g2 g3 hu
    have HU : Hid (RepS w u G (.slice (some ⟨h, 0, none⟩) n n) k w.heap.size xb g2 g3 0 0) := hu
    clear hu hm1 hm2
    apply hK
    clear hK
    go_wp2_with fail
    go_loopw [20] (fun i wr => ∃ j : Nat, j ≤ G.length ∧ i = .int .i64 j ∧ RepS w wr G (.slice (some ⟨h, 0, none⟩) n n) k w.heap.size xb g2 g3 j j) (fun i _ => G.length - (intOf i).toNat)
    case atStart => exact ⟨0, Nat.zero_le _, rfl, HU.out⟩
    case round =>
      obtain ⟨j, hj, rfl, hS⟩ := hrel
      have HS : Hid (RepS w wr G (.slice (some ⟨h, 0, none⟩) n n) k w.heap.size xb g2 g3 j j) := hS
      clear hS HU
      by_cases hlt : j < G.length
      · have hlI : (j : Int) < (G.length : Int) := by omega
        have hRm : RoomG wr g h G c := HR.out.kept (S := fun _ => False) (Turn.ofBelow _ HS.out.below) (fun h => h) (fun h => h)
        have q := fun f hf => hRm.at hlt (o := j * 10) (Nat.mul_comm _ _) (f := f) hf
        obtain ⟨m, hme⟩ : ∃ m, G[j] = m := ⟨_, rfl⟩
        rw [hme] at q
        obtain ⟨ma, ml, mq, hmv⟩ := HV.out m (hme ▸ List.getElem_mem hlt)
        obtain ⟨mv, mr, mp⟩ := m
        cases hmv
        have HM : Hid (G[j] = ⟨.slice ma ml mq, mr, mp⟩) := hme
        obtain ⟨v0, hv0⟩ : ∃ x, mr.getD 0 0 = x := ⟨_, rfl⟩
        obtain ⟨v1, hv1⟩ : ∃ x, mr.getD 1 0 = x := ⟨_, rfl⟩
        obtain ⟨v2, hv2⟩ : ∃ x, mr.getD 2 0 = x := ⟨_, rfl⟩
        obtain ⟨v3, hv3⟩ : ∃ x, mr.getD 3 0 = x := ⟨_, rfl⟩
        obtain ⟨v4, hv4⟩ : ∃ x, mr.getD 4 0 = x := ⟨_, rfl⟩
        obtain ⟨v5, hv5⟩ : ∃ x, mr.getD 5 0 = x := ⟨_, rfl⟩
        obtain ⟨v6, hv6⟩ : ∃ x, mr.getD 6 0 = x := ⟨_, rfl⟩
        obtain ⟨v7, hv7⟩ : ∃ x, mr.getD 7 0 = x := ⟨_, rfl⟩
        have H8 : Hid (r8 mr = [.int .u64 v0, .int .u64 v1, .int .u64 v2, .int .u64 v3, .int .u64 v4, .int .u64 v5, .int .u64 v6, .int .u64 v7]) := by
          show r8 mr = _
          unfold r8 rv
          rw [hv0, hv1, hv2, hv3, hv4, hv5, hv6, hv7]
        have q0 : wr.cell? ⟨g, j * 10, none⟩ = some (.slice ma ml mq) := q 0 (by omega)
        have q1 : wr.cell? ⟨g, j * 10 + 1, none⟩ = some (.int .u64 v0) := hv0 ▸ q 1 (by omega)
        have q2 : wr.cell? ⟨g, j * 10 + 1 + 1, none⟩ = some (.int .u64 v1) := hv1 ▸ q 2 (by omega)
        have q3 : wr.cell? ⟨g, j * 10 + 1 + 2, none⟩ = some (.int .u64 v2) := hv2 ▸ q 3 (by omega)
        have q4 : wr.cell? ⟨g, j * 10 + 1 + 3, none⟩ = some (.int .u64 v3) := hv3 ▸ q 4 (by omega)
        have q5 : wr.cell? ⟨g, j * 10 + 1 + 4, none⟩ = some (.int .u64 v4) := hv4 ▸ q 5 (by omega)
        have q6 : wr.cell? ⟨g, j * 10 + 1 + 5, none⟩ = some (.int .u64 v5) := hv5 ▸ q 6 (by omega)
        have q7 : wr.cell? ⟨g, j * 10 + 1 + 6, none⟩ = some (.int .u64 v6) := hv6 ▸ q 7 (by omega)
        have q8 : wr.cell? ⟨g, j * 10 + 1 + 7, none⟩ = some (.int .u64 v7) := hv7 ▸ q 8 (by omega)
        have q9 : wr.cell? ⟨g, j * 10 + 9, none⟩ = some (.int .i64 (mp : Int)) := q 9 (by omega)
        have x1 : wr.cell? ⟨xb, 1, none⟩ = some (.slice (some ⟨g2, 0, none⟩) G.length G.length) := by rw [cell_of HS.out.x]; rfl
        have x2 : wr.cell? ⟨xb, 2, none⟩ = some (.slice (some ⟨g3, 0, none⟩) G.length G.length) := by rw [cell_of HS.out.x]; rfl
        have y : ∀ f, f < 8 → wr.cell? ⟨g2, j * 8 + f, none⟩ = some (.int .u64 0) := by
          intro f hf
          obtain ⟨cur, hcu, hcl⟩ := HS.out.r
          rw [cell_of hcu, ← Array.getElem?_toList, hcl, Nat.mul_comm j 8, flat_get r8_len _ j (by rw [part_length hj]; exact hlt) f hf, part_at hlt]
          rcases f with _ | _ | _ | _ | _ | _ | _ | _ | f
          · rfl
          · rfl
          · rfl
          · rfl
          · rfl
          · rfl
          · rfl
          · rfl
          · omega
        have y0 : wr.cell? ⟨g2, j * 8, none⟩ = some (.int .u64 0) := y 0 (by omega)
        have y1 := y 1 (by omega)
        have y2 := y 2 (by omega)
        have y3 := y 3 (by omega)
        have y4 := y 4 (by omega)
        have y5 := y 5 (by omega)
        have y6 := y 6 (by omega)
        have y7 := y 7 (by omega)
        have z : ∀ f, wr.frozen? ⟨g2, f, none⟩ = false := by
          obtain ⟨cur, hcu, _⟩ := HS.out.r
          exact fun f => frozen_of hcu f
        clear hv0 hv1 hv2 hv3 hv4 hv5 hv6 hv7 y q hRm hme
        go_wp2_with fail
        go_region
        have HS5 : Hid (RepS w (wr.setCells g2 (j * 8) [.int .u64 v0, .int .u64 v1, .int .u64 v2, .int .u64 v3, .int .u64 v4, .int .u64 v5, .int .u64 v6, .int .u64 v7]).drew G (.slice (some ⟨h, 0, none⟩) n n) k w.heap.size xb g2 g3 (j + 1) j) :=
          (HS.out.setR hlt (by rw [HM.out]; exact H8.out)).stay ((Below.refl _ _).drew)
        have ew : ((((((((wr.setCell ⟨g2, j * 8, none⟩ (.int .u64 v0)).setCell ⟨g2, j * 8 + 1, none⟩ (.int .u64 v1)).setCell ⟨g2, j * 8 + 2, none⟩ (.int .u64 v2)).setCell ⟨g2, j * 8 + 3, none⟩ (.int .u64 v3)).setCell ⟨g2, j * 8 + 4, none⟩ (.int .u64 v4)).setCell ⟨g2, j * 8 + 5, none⟩ (.int .u64 v5)).setCell ⟨g2, j * 8 + 6, none⟩ (.int .u64 v6)).setCell ⟨g2, j * 8 + 7, none⟩ (.int .u64 v7)).drew
          = (wr.setCells g2 (j * 8) [.int .u64 v0, .int .u64 v1, .int .u64 v2, .int .u64 v3, .int .u64 v4, .int .u64 v5, .int .u64 v6, .int .u64 v7]).drew := rfl
        rw [ew]
        clear ew q0 q1 q2 q3 q4 q5 q6 q7 q8 q9 x1 x2 y0 y1 y2 y3 y4 y5 y6 y7 z
        generalize (wr.setCells g2 (j * 8) [.int .u64 v0, .int .u64 v1, .int .u64 v2, .int .u64 v3, .int .u64 v4, .int .u64 v5, .int .u64 v6, .int .u64 v7]).drew = w5 at HS5 ⊢
        have HC : Hid (∀ W, RepS w W G (.slice (some ⟨h, 0, none⟩) n n) k w.heap.size xb g2 g3 (j + 1) j → Calls Try.prog 25 #[.pointer (some ⟨g, j * 10, none⟩)] W fun e w' => e = .returned (.bool (decide (ml ≤ mp))) ∧ RepS w w' G (.slice (some ⟨h, 0, none⟩) n n) k w.heap.size xb g2 g3 (j + 1) j ∧ w'.cell? ⟨xb, 2, none⟩ = some (.slice (some ⟨g3, 0, none⟩) G.length G.length) ∧ w'.cell? ⟨g3, j, none⟩ = some (.bool false) ∧ w'.frozen? ⟨g3, j, none⟩ = false) := by
          intro W hW
          have hRm : RoomG W g h G c := HR.out.kept (S := fun _ => False) (Turn.ofBelow _ hW.below) (fun h => h) (fun h => h)
          have q := fun f hf => hRm.at hlt (o := j * 10) (Nat.mul_comm _ _) (f := f) hf
          rw [HM.out] at q
          refine (stopped_any g (j * 10) ma ml mq mp W (q 0 (by omega)) (q 9 (by omega))).mono ?_
          rintro e w' ⟨rfl, m, rfl⟩
          have hS := hW.stay (below_drewN W m)
          refine ⟨rfl, hS, by rw [cell_of hS.x]; rfl, ?_, ?_⟩
          · obtain ⟨cur, hcu, hcl⟩ := hS.b
            rw [cell_of hcu, ← Array.getElem?_toList, hcl]
            have := flat_get (en := bcell) (m := 1) (fun _ => rfl) (part Mg.dn false G j) j (by rw [part_length hj]; exact hlt) 0 (by omega)
            rw [part_at hlt, Nat.one_mul, Nat.add_zero] at this
            exact this
          · obtain ⟨cur, hcu, _⟩ := hS.b
            exact frozen_of hcu j
        have x2 : w5.cell? ⟨xb, 2, none⟩ = some (.slice (some ⟨g3, 0, none⟩) G.length G.length) := by rw [cell_of HS5.out.x]; rfl
        have HD : Hid ((G[j]).dn = decide (ml ≤ mp)) := by rw [HM.out]; exact rfl
        have ne1 : xb ≠ g3 := HS5.out.ne.2.2.2.2.1
        have ne2 : g3 ≠ xb := Ne.symm ne1
        clear HR
        go_wp2_with fail
        go_region_held3 (fun w' => w'.cell? ⟨xb, 2, none⟩ = some (.slice (some ⟨g3, 0, none⟩) G.length G.length)) (go_keep)
          (first
            | (go_at_call 25; refine (HC.out _ (HS5.out.stay (below_drewN w5 1))).mono ?_; rintro e w6 ⟨rfl, hS6, x6, b6, f6⟩))
        all_goals go_wp2_with fail
        all_goals go_roundw
        case rel => exact ⟨j + 1, by omega, by go_num, hS6.setB hlt HD.out⟩
        case measure => simp [intOf]; omega
      · have hgI : ¬ (j : Int) < (G.length : Int) := by omega
        have ej : j = G.length := by omega
        subst ej
        have hx := HS.out.x
        have hr := HS.out.res
        have x0 : wr.cell? ⟨xb, 0, none⟩ = some (.slice (some ⟨h, 0, none⟩) n n) := by rw [cell_of hx]; rfl
        have x1 : wr.cell? ⟨xb, 1, none⟩ = some (.slice (some ⟨g2, 0, none⟩) G.length G.length) := by rw [cell_of hx]; rfl
        have x2 : wr.cell? ⟨xb, 2, none⟩ = some (.slice (some ⟨g3, 0, none⟩) G.length G.length) := by rw [cell_of hx]; rfl
        have x3 : wr.cell? ⟨xb, 3, none⟩ = some (.int .i64 (k : Int)) := by rw [cell_of hx]; rfl
        have y0 : wr.cell? ⟨w.heap.size, 0, none⟩ = some (.slice none 0 0) := by rw [cell_of hr]; rfl
        have y1 : wr.cell? ⟨w.heap.size, 1, none⟩ = some (.slice none 0 0) := by rw [cell_of hr]; rfl
        have y2 : wr.cell? ⟨w.heap.size, 2, none⟩ = some (.slice none 0 0) := by rw [cell_of hr]; rfl
        have y3 : wr.cell? ⟨w.heap.size, 3, none⟩ = some (.int .i64 0) := by rw [cell_of hr]; rfl
        have z : ∀ f, wr.frozen? ⟨w.heap.size, f, none⟩ = false := fun f => frozen_of hr f
        clear hx hr
        have HF : Hid (∀ W, W = wr.setCells w.heap.size 0 [.slice (some ⟨h, 0, none⟩) n n, .slice (some ⟨g2, 0, none⟩) G.length G.length, .slice (some ⟨g3, 0, none⟩) G.length G.length, .int .i64 (k : Int)] → W.heap[w.heap.size]? = some (repO (.slice (some ⟨h, 0, none⟩) n n) g2 g3 G.length k) ∧ RowR W g2 (G.map Mg.r) ∧ RowB W g3 (G.map Mg.dn) ∧ g2 ≠ g3 ∧ w.heap.size ≤ g2 ∧ w.heap.size ≤ g3 ∧ Below w.heap.size w W) := by
          rintro W rfl
          obtain ⟨h1, h2, ⟨c1, h3, h3'⟩, ⟨c2, h4, h4'⟩, h5, h6, h7⟩ := HS.out
          have ht := setCells_turn w.heap.size [.slice (some ⟨h, 0, none⟩) n n, .slice (some ⟨g2, 0, none⟩) G.length G.length, .slice (some ⟨g3, 0, none⟩) G.length G.length, .int .i64 (k : Int)] 0 wr
          obtain ⟨c', e1, e2⟩ := setCells_heap w.heap.size [.slice (some ⟨h, 0, none⟩) n n, .slice (some ⟨g2, 0, none⟩) G.length G.length, .slice (some ⟨g3, 0, none⟩) G.length G.length, .int .i64 (k : Int)] 0 wr _ _ _ [] [.slice none 0 0, .slice none 0 0, .slice none 0 0, .int .i64 0] h1 rfl rfl rfl
          obtain ⟨l'⟩ := c'
          cases e2
          refine ⟨e1, ⟨c1, (ht.block _ (lt_of h3) (Ne.symm h6.2.1)).trans h3, by rw [h3', part_all]⟩, ⟨c2, (ht.block _ (lt_of h4) (Ne.symm h6.2.2.1)).trans h4, by rw [h4', part_all]⟩, h6.2.2.2.2.2, h5.2.2.1, h5.2.2.2, h7.trans ((ht.mono (fun i e => by rw [e]; exact Nat.le_refl _)).toBelow h7.size)⟩
        clear HS HV HR
        go_wp2_with fail
        have hF := HF.out _ rfl
        have ew : ((((wr.setCell ⟨w.heap.size, 0, none⟩ (.slice (some ⟨h, 0, none⟩) n n)).setCell ⟨w.heap.size, 1, none⟩ (.slice (some ⟨g2, 0, none⟩) G.length G.length)).setCell ⟨w.heap.size, 2, none⟩ (.slice (some ⟨g3, 0, none⟩) G.length G.length)).setCell ⟨w.heap.size, 3, none⟩ (.int .i64 (k : Int)))
          = wr.setCells w.heap.size 0 [.slice (some ⟨h, 0, none⟩) n n, .slice (some ⟨g2, 0, none⟩) G.length G.length, .slice (some ⟨g3, 0, none⟩) G.length G.length, .int .i64 (k : Int)] := rfl
        rw [ew]
        generalize wr.setCells w.heap.size 0 [.slice (some ⟨h, 0, none⟩) n n, .slice (some ⟨g2, 0, none⟩) G.length G.length, .slice (some ⟨g3, 0, none⟩) G.length G.length, .int .i64 (k : Int)] = W at hF ⊢
        obtain ⟨f1, f2⟩ := hF
        have c0 : W.cell? ⟨w.heap.size, 0, none⟩ = some (.slice (some ⟨h, 0, none⟩) n n) := by rw [cell_of f1]; rfl
        have c1 : W.cell? ⟨w.heap.size, 1, none⟩ = some (.slice (some ⟨g2, 0, none⟩) G.length G.length) := by rw [cell_of f1]; rfl
        have c2 : W.cell? ⟨w.heap.size, 2, none⟩ = some (.slice (some ⟨g3, 0, none⟩) G.length G.length) := by rw [cell_of f1]; rfl
        have c3 : W.cell? ⟨w.heap.size, 3, none⟩ = some (.int .i64 (k : Int)) := by rw [cell_of f1]; rfl
        refine bodyPost_ret (by simp [results, Try.results27, go_sem, c0, c1, c2, c3]; rfl) rfl ?_
        exact ⟨g2, g3, rfl, f2⟩
  go_region
  all_goals refine key.out _ _ _ _ ?_
  all_goals refine ⟨?_, ?_, ⟨_, ?_, HZ.out.1⟩, ⟨_, ?_, HZ.out.2⟩, by omega, by omega, ?_⟩
  all_goals first
    | exact four_heap _ _ _ _ _ _ (Or.inl ⟨rfl, rfl⟩)
    | exact four_heap _ _ _ _ _ _ (Or.inr (Or.inl ⟨rfl, rfl⟩))
    | exact four_heap _ _ _ _ _ _ (Or.inr (Or.inr (Or.inl ⟨rfl, rfl⟩)))
    | exact four_heap _ _ _ _ _ _ (Or.inr (Or.inr (Or.inr ⟨rfl, rfl⟩)))
    | exact four_below _ _ _ _ _

end Go.Proofs.Ytibgpjokdpagcaa
