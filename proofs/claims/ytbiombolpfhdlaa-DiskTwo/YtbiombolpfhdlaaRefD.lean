/- The reference disk: put, a file that was not there. -/
import Derived.Test.YtbiombolpfhdlaaRefC
namespace Go.Proofs.Ytbiombolpfhdlaa
open Go.RowKit Go.Maps

theorem rcells_one (l : List (List UInt8 × Dk.Fil)) : ∀ u ∈ rcells l, u.oneCell' = true := by
  intro u hu
  unfold rcells at hu
  obtain ⟨p, _, hp⟩ := List.mem_flatMap.1 hu
  unfold rcell at hp
  simp only [List.mem_cons, List.not_mem_nil, or_false] at hp
  rcases hp with rfl | rfl | rfl <;> rfl

theorem row_cells {w : World} {base g n c : Nat} {xs : List Value} (h : w.ownsRow base 61 3 (.slice (some ⟨g, 0, none⟩) n c) n xs) (j : Nat) (u : Value) (hu : xs[j]? = some u) : w.cell? ⟨g, j, none⟩ = some u := by
  have := h.cells (g := g) rfl j u hu
  rw [Addr.add_lit, Nat.zero_add] at this
  exact this

theorem new3 (W : World) (a b c : Value) (t : TypeId) : ∀ j u, [a, b, c][j]? = some u → (W.alloc (.cells #[a, b, c] t (0, 0))).cell? ((⟨W.heap.size, 0, none⟩ : Addr).add j) = some u := by
  intro j u hu
  rw [Addr.add_lit, cell_of (heap_new _ _)]
  match j, hu with
  | 0, hu => simpa using hu
  | 1, hu => simpa using hu
  | 2, hu => simpa using hu
theorem one3 (a b : ByteArray) (n : Int) : ∀ u ∈ [Value.string a, Value.string b, Value.int .i64 n], u.oneCell' = true := by
  intro u hu
  simp only [List.mem_cons, List.not_mem_nil, or_false] at hu
  rcases hu with rfl | rfl | rfl <;> rfl

theorem grown_old {w w' : World} {row : Option Nat} {base b : Nat} (hg : w.grownBy w' row) (hrow : ∀ k, row = some k → base ≤ k) (hb : b < base) (hbase : base ≤ w.heap.size) : w'.heap[b]? = w.heap[b]? :=
  hg.block b (by omega) (fun e => by have := hrow b e.symm; omega)

theorem src_take {w : World} {base g n c : Nat} {fs : List (List UInt8 × Dk.Fil)} (h : w.ownsRow base 61 3 (.slice (some ⟨g, 0, none⟩) n c) n (rcells fs)) {t : Nat} (ht : t ≤ fs.length) :
    ∀ j u, (rcells (fs.take t))[j]? = some u → w.cell? ((⟨g, 0, none⟩ : Addr).add j) = some u := by
  intro j u hu
  rw [rcells_take fs t ht] at hu
  obtain ⟨hj, e⟩ := List.getElem?_eq_some_iff.1 hu
  rw [Addr.add_lit, Nat.zero_add]
  refine row_cells h j u ?_
  rw [List.length_take] at hj
  rw [List.getElem?_take_of_lt (by omega)] at hu
  exact hu

theorem src_drop {w : World} {base g n c A : Nat} {fs : List (List UInt8 × Dk.Fil)} (h : w.ownsRow base 61 3 (.slice (some ⟨g, 0, none⟩) n c) n (rcells fs)) {t : Nat} (ht : t ≤ fs.length) (hA : t < fs.length → A = t * 3) :
    ∀ j u, (rcells (fs.drop t))[j]? = some u → w.cell? ((⟨g, A, none⟩ : Addr).add j) = some u := by
  intro j u hu
  rw [rcells_drop fs t ht, List.getElem?_drop] at hu
  by_cases hlt : t < fs.length
  · rw [Addr.add_lit, hA hlt]
    exact row_cells h _ u hu
  · have hn : (rcells fs)[t * 3 + j]? = none := List.getElem?_eq_none (by rw [rcells_length]; omega)
    rw [hn] at hu
    cases hu

section
variable {r : Nat} {v : Value} {s : Dk.Dsk}

/-- the struct leads to a new row -/
theorem rnew_row {w W W3 : World} {v3 : Value} (h : RefG w r v s) {s' : Dk.Dsk} (hT : Turn (rfoot r v) w W) (hl : leftI s' = leftI s) (hd : s'.down = s.down)
    (hrow : W.ownsRow w.heap.size 61 3 v3 s'.fs.length (rcells s'.fs)) (htop : W.heap[r]? = w.heap[r]?) (e : W.setCell ⟨r, 0, none⟩ v3 = W3) : RGoes w W3 r v s' := by
  subst e
  refine ⟨v3, ⟨?_, ?_⟩, hT.trans (Turn.setCell W ⟨r, 0, none⟩ v3 (Or.inl rfl)), fun i hi => ?_⟩
  · rw [heap_setCell_same (htop.trans h.top), hl, hd]
    simp
  · have hr : r < w.heap.size := lt_of h.top
    have h0 : W.ownsRow 0 61 3 v3 s'.fs.length (rcells s'.fs) := ownsRow_zero hrow
    refine ownsRow_block h0 (fun g hg => Below.heap_setCell _ _ _ _ ?_)
    have := (hrow.lt g hg).1
    show g ≠ r
    omega
  · rcases hi with hi | hi
    · exact Or.inl (Or.inl hi)
    · exact Or.inr (hrow.lt i hi).1

set_option maxRecDepth 100000 in
set_option maxHeartbeats 2000000 in
theorem rput_first (p : List UInt8 × Dk.Fil) (w : World) (h : RefG w r (.slice none 0 0) s) (hfs : s.fs = []) :
    Calls Try.prog 44 #[.pointer (some ⟨r, 0, none⟩), .agg #[.string (bs p.1), .string (bs p.2.data), .int .i64 (p.2.safe : Int)]] w fun e w' => e = .returned (.tuple #[]) ∧ RGoes w w' r (.slice none 0 0) { s with fs := Dk.putL p.1 p.2 s.fs } := by
  have H : Hid (RefG w r (.slice none 0 0) s) := h
  have HFs : Hid (s.fs = []) := hfs
  have hbox : RefG (boxF w p) r (.slice none 0 0) s := h.kept (S := fun _ => False) (boxF_turn _ w p) (fun _ _ h => h)
  obtain ⟨b0, b1, b2⟩ := boxF_cells w p
  obtain ⟨k0, hk0⟩ : ∃ k0, bs p.1 = k0 := ⟨_, rfl⟩
  obtain ⟨k1, hk1⟩ : ∃ k1, bs p.2.data = k1 := ⟨_, rfl⟩
  have HK0 : Hid (bs p.1 = k0) := hk0
  have HK1 : Hid (bs p.2.data = k1) := hk1
  obtain ⟨w0, hw0⟩ : ∃ w0, boxF w p = w0 := ⟨_, rfl⟩
  have HW0 : Hid (boxF w p = w0) := hw0
  have c0 := hbox.cells.1
  have ft := frozen_of hbox.top 0
  have hrl : r < w.heap.size := lt_of h.top
  have hs0 : w0.heap.size = w.heap.size + 1 := by rw [← hw0]; exact boxF_size w p
  have HS0 : Hid (w0.heap.size = w.heap.size + 1) := hs0
  have HT0 : Hid (w0.heap[r]? = w.heap[r]?) := by show _ = _; rw [← hw0]; exact Below.heap_alloc w _ r hrl
  rw [hw0] at c0 ft b0 b1 b2
  rw [hk0] at b0
  rw [hk1] at b1
  have hwe : w.alloc (.cells #[.string k0, .string k1, .int .i64 (p.2.safe : Int)] 61 (0, 0)) = w0 := by rw [← hw0, ← hk0, ← hk1]; rfl
  rw [hk0, hk1]
  obtain ⟨i0, hi, hz0, hz1, hz2⟩ := info_parts infoF
  have hsl1 := cutF0
  have hsl2 := restF0
  clear h hbox hk0 hk1 hw0 hfs hs0
  go_enter Try.func44, Try.ntmps44
  go_wp2
  go_loopw [4] (fun i wr => i = .int .i64 0 ∧ wr = w0) (fun _ _ => 0)
  case atStart => exact ⟨rfl, rfl⟩
  case round =>
    obtain ⟨rfl, hwr⟩ := hrel
    subst wr
    go_wp2
    go_quiet (fail)
    go_wp2
    go_quiet (fail)
    go_wp2_with (first
      | (at_builtin; refine wpList_append_own_none rfl _ _ 54 rfl w0.heap.size 61 i0 3 Try.underlying54 hi _ 0 [] rfl (World.ownsRow_nil _ _ _ _) rfl ?_)
      | (at_builtin; go_must (refine wpList_append_own _ rfl _ _ 54 rfl w0.heap.size 61 i0 _ 3 40 Try.underlying54 hi hz0 hz1 hz2 rfl (by decide) _ 0 [] rfl (World.ownsRow_nil _ _ _ _) ⟨w0.heap.size, 0, none⟩ 1 1 [.string k0, .string k1, .int .i64 (p.2.safe : Int)] rfl rfl ?q1 ?q2 ?q3 ?q4 ?q5 ?_)))
    case q1 => exact new3 (w0.drewN _) _ _ _ _
    case q2 => exact one3 _ _ _
    case q3 => unfold maxLen; omega
    case q4 => omega
    case q5 => simp
    intro v2 w2 hown2 hgrow2 _
    have hg2 : (w0.drewN (_ : Nat)).grownBy w2 none := (World.grownBy_alloc _ _ none).trans hgrow2
    have hblk : w2.heap[r]? = w.heap[r]? := (hg2.block r (by show r < w0.heap.size; rw [HS0.out]; omega) (by simp)).trans HT0.out
    have HBlk : Hid (w2.heap[r]? = w.heap[r]?) := hblk
    have c1 : w2.cell? ⟨r, 0, none⟩ = some (.slice none 0 0) := by rw [cell_of (hblk.trans H.out.top)]; rfl
    have f1 : w2.frozen? ⟨r, 0, none⟩ = false := frozen_of (hblk.trans H.out.top) 0
    have HT2 : Hid (Turn (rfoot r (.slice none 0 0)) w w2) := by
      have t0 : Turn (rfoot r (.slice none 0 0)) w w0 := HW0.out ▸ boxF_turn _ w p
      exact (t0.drewN _).trans (Turn.ofGrown hg2 (fun k hk => by cases hk))
    have HO2 : Hid (w2.ownsRow w0.heap.size 61 3 v2 1 [.string k0, .string k1, .int .i64 (p.2.safe : Int)]) := by
      show w2.ownsRow _ _ _ _ _ _
      simpa using hown2
    obtain ⟨a2, c2, hv2, -⟩ := row3 HO2.out
    rw [hv2] at HO2
    clear hown2 hgrow2 hg2 hblk
    subst hv2
    go_wp2_with (at_builtin; go_must (refine wpList_append_own_none rfl _ _ 54 rfl w0.heap.size 61 i0 3 Try.underlying54 hi _ 1 _ rfl HO2.out rfl ?_))
    go_end0
    refine ⟨rfl, ?_⟩
    refine rnew_row H.out HT2.out rfl rfl ?_ HBlk.out rfl
    show w2.ownsRow w.heap.size 61 3 _ (Dk.putL p.1 p.2 s.fs).length (rcells (Dk.putL p.1 p.2 s.fs))
    rw [HFs.out]
    have := HO2.out
    rw [← HK0.out, ← HK1.out] at this
    exact ownsRow_base_a this (by rw [HS0.out]; omega)

set_option maxRecDepth 100000 in
set_option maxHeartbeats 4000000 in
theorem rput_more (p : List UInt8 × Dk.Fil) (w : World) {g c : Nat} (h : RefG w r (.slice (some ⟨g, 0, none⟩) s.fs.length c) s) (hI : Inv s) (hmore : s.fs.length < 64) {t : Nat} (ht : t ≤ s.fs.length) (hb : ∀ i, (h : i < s.fs.length) → i < t → bytesBefore (s.fs[i]).1 p.1 = true)
    (hnb : (h : t < s.fs.length) → bytesBefore (s.fs[t]).1 p.1 = false) (hne : (h : t < s.fs.length) → (s.fs[t]).1 ≠ p.1) :
    Calls Try.prog 44 #[.pointer (some ⟨r, 0, none⟩), .agg #[.string (bs p.1), .string (bs p.2.data), .int .i64 (p.2.safe : Int)]] w fun e w' => e = .returned (.tuple #[]) ∧ RGoes w w' r (.slice (some ⟨g, 0, none⟩) s.fs.length c) { s with fs := Dk.putL p.1 p.2 s.fs } := by
  have H : Hid (RefG w r (.slice (some ⟨g, 0, none⟩) s.fs.length c) s) := h
  have HPut : Hid (Dk.putL p.1 p.2 s.fs = s.fs.take t ++ (p.1, p.2) :: s.fs.drop t) := put_new p.2 hI.rise ht hb hnb hne
  obtain ⟨a', c', hv, hnc, hcm, -⟩ := row3 h.row
  cases hv
  unfold maxLen at hcm
  have HB : Hid (∀ i, (h : i < s.fs.length) → i < t → bytesBefore (s.fs[i]).1 p.1 = true) := hb
  have HNB : Hid ((h : t < s.fs.length) → bytesBefore (s.fs[t]).1 p.1 = false) := hnb
  have HNE : Hid ((h : t < s.fs.length) → (s.fs[t]).1 ≠ p.1) := hne
  have hbox : RefG (boxF w p) r (.slice (some ⟨g, 0, none⟩) s.fs.length c) s := h.kept (S := fun _ => False) (boxF_turn _ w p) (fun _ _ h => h)
  obtain ⟨b0, b1, b2⟩ := boxF_cells w p
  obtain ⟨k0, hk0⟩ : ∃ k0, bs p.1 = k0 := ⟨_, rfl⟩
  obtain ⟨k1, hk1⟩ : ∃ k1, bs p.2.data = k1 := ⟨_, rfl⟩
  have HK0 : Hid (bs p.1 = k0) := hk0
  have HK1 : Hid (bs p.2.data = k1) := hk1
  obtain ⟨w0, hw0⟩ : ∃ w0, boxF w p = w0 := ⟨_, rfl⟩
  have HW0 : Hid (boxF w p = w0) := hw0
  have HBox : Hid (RefG w0 r (.slice (some ⟨g, 0, none⟩) s.fs.length c) s) := hw0 ▸ hbox
  have c0 := hbox.cells.1
  have hrl : r < w.heap.size := lt_of h.top
  have hgl : g < w.heap.size := (h.row.lt g rfl).2
  have hs0 : w0.heap.size = w.heap.size + 1 := by rw [← hw0]; exact boxF_size w p
  have HS0 : Hid (w0.heap.size = w.heap.size + 1) := hs0
  have HT0 : Hid (w0.heap[r]? = w.heap[r]?) := by show _ = _; rw [← hw0]; exact Below.heap_alloc w _ r hrl
  rw [hw0] at c0 b0 b1 b2
  rw [hk0] at b0
  rw [hk1] at b1
  have hwe : w.alloc (.cells #[.string k0, .string k1, .int .i64 (p.2.safe : Int)] 61 (0, 0)) = w0 := by rw [← hw0, ← hk0, ← hk1]; rfl
  rw [hk0, hk1]
  obtain ⟨i0, hi, hz0, hz1, hz2⟩ := info_parts infoF
  have hsl1 : ∀ W, (Instr.slice 54 (.slice (some ⟨g, 0, none⟩) s.fs.length c) none (some (.int .i64 (t : Int))) none).run Try.prog W = .ok (.slice (some ⟨g, 0, none⟩) t c) W := fun W => cutF g s.fs.length c t (by omega) W
  obtain ⟨A2, hA2⟩ : ∃ A2 : Nat, (if c = t then (0 : Nat) else t * 3) = A2 := ⟨_, rfl⟩
  have hsl2 : ∀ W, (Instr.slice 54 (.slice (some ⟨g, 0, none⟩) s.fs.length c) (some (.int .i64 (t : Int))) none none).run Try.prog W = .ok (.slice (some ⟨g, A2, none⟩) (s.fs.length - t) (c - t)) W := fun W => by
    rw [restF g s.fs.length c t ht W, ← hA2]
    split <;> rfl
  have HA2 : Hid (t < s.fs.length → A2 = t * 3) := fun hh => by rw [← hA2, if_neg (by omega)]
  clear h hI hbox hk0 hk1 hw0 hs0 hb hnb hne hA2
  go_enter Try.func44, Try.ntmps44
  go_wp2
  go_loopw [4] (fun i wr => ∃ j : Nat, j ≤ t ∧ i = .int .i64 j ∧ ∃ n, wr = w0.drewN n) (fun i _ => t - (intOf i).toNat)
  case atStart => exact ⟨0, Nat.zero_le _, rfl, 0, rfl⟩
  case round =>
    obtain ⟨j, hj, rfl, nn, rfl⟩ := hrel
    by_cases hjt : j = t
    · subst hjt
      by_cases hlt : j < s.fs.length
      · obtain ⟨q0, q1, q2⟩ := row_file HBox.out.row hlt
        have hless : Op.bytesLess (bs (s.fs[j]).1).toList k0.toList = false := by
          rw [bb_less, bs_data, ← HK0.out, bs_data]; exact HNB.out hlt
        have heq : ((bs (s.fs[j]).1).toList == k0.toList) = false := by
          rw [bb_eq, bs_data, ← HK0.out, bs_data]; exact decide_eq_false (HNE.out hlt)
        obtain ⟨kj, hkj⟩ : ∃ kj, bs (s.fs[j]).1 = kj := ⟨_, rfl⟩
        rw [hkj] at q0 hless heq
        have hlI : (j : Int) < (s.fs.length : Int) := by omega
        clear hkj
        go_wp2
        go_quiet (fail)
        go_wp2
        go_quiet (fail)
        have HRN : Hid (∀ N, (w0.drewN N).ownsRow 0 61 3 (.slice (some ⟨g, 0, none⟩) s.fs.length c) s.fs.length (rcells s.fs)) := fun N => HBox.out.row
        go_wp2_with (at_builtin; go_must (refine wpList_append_own _ rfl _ _ 54 rfl w0.heap.size 61 i0 _ 3 40 Try.underlying54 hi hz0 hz1 hz2 rfl (by decide) _ 0 [] rfl (World.ownsRow_nil _ _ _ _) ⟨g, 0, none⟩ j c (rcells (s.fs.take j)) rfl ?q1 ?q2 ?q3 ?q4 ?q5 ?q6 ?_))
        case q1 => rw [rcells_length, List.length_take]; congr 1; omega
        case q2 => exact src_take (HRN.out _) ht
        case q3 => exact rcells_one _
        case q4 => unfold maxLen; omega
        case q5 => omega
        case q6 => exact Nat.le_refl _
        intro v1 w1 hown1 hgrow1 _
        have HO1 : Hid (w1.ownsRow w0.heap.size 61 3 v1 j (rcells (s.fs.take j))) := by
          show w1.ownsRow _ _ _ _ _ _
          simpa using hown1
        have old1 : Hid (∀ b, b < w0.heap.size → w1.heap[b]? = w0.heap[b]?) := fun b hb' => (grown_old hgrow1 (base := w0.heap.size) (fun k hk => by cases hk) hb' (Nat.le_refl _) : w1.heap[b]? = (w0.drewN _).heap[b]?)
        have hsz1 : w0.heap.size ≤ w1.heap.size := hgrow1.size
        have HT1 : Hid (Turn (fun _ => False) w0 w1) := (Turn.refl _ w0).drewN _ |>.trans (Turn.ofGrown hgrow1 (fun k hk => by cases hk))
        have hxb : w.heap.size < w0.heap.size := by rw [HS0.out]; omega
        have d0 : w1.cell? ⟨w.heap.size, 0, none⟩ = some (.string k0) := (World.cell?_of_block (w := w0) (a := ⟨w.heap.size, 0, none⟩) (old1.out _ hxb)).trans b0
        have d1 : w1.cell? ⟨w.heap.size, 1, none⟩ = some (.string k1) := (World.cell?_of_block (w := w0) (a := ⟨w.heap.size, 1, none⟩) (old1.out _ hxb)).trans b1
        have d2 : w1.cell? ⟨w.heap.size, 2, none⟩ = some (.int .i64 (p.2.safe : Int)) := (World.cell?_of_block (w := w0) (a := ⟨w.heap.size, 2, none⟩) (old1.out _ hxb)).trans b2
        clear hown1 hgrow1
        go_wp2_with (at_builtin; go_must (refine wpList_append_own _ rfl _ _ 54 rfl w0.heap.size 61 i0 _ 3 40 Try.underlying54 hi hz0 hz1 hz2 rfl (by decide) _ j (rcells (s.fs.take j)) rfl (HO1.out.alloc _) ⟨w1.heap.size, 0, none⟩ 1 1 [.string k0, .string k1, .int .i64 (p.2.safe : Int)] rfl rfl ?q1 ?q2 ?q3 ?q4 ?q5 ?_))
        case q1 => exact new3 w1 _ _ _ _
        case q2 => exact one3 _ _ _
        case q3 => unfold maxLen; omega
        case q4 => omega
        case q5 => simp; omega
        intro v2 w2 hown2 hgrow2 _
        have HO2 : Hid (w2.ownsRow w0.heap.size 61 3 v2 (j + 1) (rcells (s.fs.take j) ++ [.string k0, .string k1, .int .i64 (p.2.safe : Int)])) := hown2
        have old2 : Hid (∀ b, b < w0.heap.size → w2.heap[b]? = w0.heap[b]?) := fun b hb' =>
          (grown_old hgrow2 (base := w0.heap.size) (fun k hk => (HO1.out.lt k hk).1) hb' (by simp; omega)).trans ((Below.heap_alloc w1 _ b (by omega)).trans (old1.out b hb'))
        have hsz2 : w0.heap.size ≤ w2.heap.size := Nat.le_trans (by simp; omega) hgrow2.size
        have HT2 : Hid (Turn (fun i => w0.heap.size ≤ i) w0 w2) := ((HT1.out.mono (fun _ h => h.elim)).trans (Turn.alloc w1 _)).trans (Turn.ofGrown hgrow2 (fun k hk => (HO1.out.lt k hk).1))
        have hrl0 : r < w0.heap.size := by rw [HS0.out]; omega
        have hgl0 : g < w0.heap.size := by rw [HS0.out]; omega
        have e0 : w2.cell? ⟨r, 0, none⟩ = some (.slice (some ⟨g, 0, none⟩) s.fs.length c) := (World.cell?_of_block (w := w0) (a := ⟨r, 0, none⟩) (old2.out r hrl0)).trans c0
        have HRow2 : Hid (w2.ownsRow 0 61 3 (.slice (some ⟨g, 0, none⟩) s.fs.length c) s.fs.length (rcells s.fs)) := ownsRow_block HBox.out.row (fun b hb' => by cases hb'; exact old2.out g hgl0)
        clear hown2 hgrow2 d0 d1 d2
        go_wp2_with (at_builtin; go_must (refine wpList_append_own _ rfl _ _ 54 rfl w0.heap.size 61 i0 _ 3 40 Try.underlying54 hi hz0 hz1 hz2 rfl (by decide) _ (j + 1) _ rfl HO2.out ⟨g, A2, none⟩ (s.fs.length - j) (c - j) (rcells (s.fs.drop j)) rfl ?q1 ?q2 ?q3 ?q4 ?q5 ?q6 ?_))
        case q1 => rw [rcells_length, List.length_drop]
        case q2 => exact src_drop HRow2.out ht HA2.out
        case q3 => exact rcells_one _
        case q4 => unfold maxLen; omega
        case q5 => omega
        case q6 => omega
        intro v3 w3 hown3 hgrow3 _
        have HO3 : Hid (w3.ownsRow w0.heap.size 61 3 v3 (j + 1 + (s.fs.length - j)) (rcells (s.fs.take j) ++ (.string k0 :: .string k1 :: .int .i64 (p.2.safe : Int) :: rcells (s.fs.drop j)))) := hown3
        have hblk : w3.heap[r]? = w.heap[r]? := (grown_old hgrow3 (base := w0.heap.size) (fun k hk => (HO2.out.lt k hk).1) hrl0 hsz2).trans ((old2.out r hrl0).trans HT0.out)
        have HBlk : Hid (w3.heap[r]? = w.heap[r]?) := hblk
        have g1 : w3.cell? ⟨r, 0, none⟩ = some (.slice (some ⟨g, 0, none⟩) s.fs.length c) := by rw [cell_of (hblk.trans H.out.top)]; rfl
        have g2 : w3.frozen? ⟨r, 0, none⟩ = false := frozen_of (hblk.trans H.out.top) 0
        have HT3 : Hid (Turn (rfoot r (.slice (some ⟨g, 0, none⟩) s.fs.length c)) w w3) := by
          have t0 : Turn (rfoot r (.slice (some ⟨g, 0, none⟩) s.fs.length c)) w w0 := HW0.out ▸ boxF_turn _ w p
          have t3 : Turn (fun i => w0.heap.size ≤ i) w0 w3 := HT2.out.trans (Turn.ofGrown hgrow3 (fun k hk => (HO2.out.lt k hk).1))
          exact t0.transNew t3 (fun i hi' => Or.inr (by have := HS0.out; omega))
        obtain ⟨a3, c3, hv3, -⟩ := row3 HO3.out
        rw [hv3] at HO3
        clear hown3 hgrow3 hblk
        subst hv3
        go_wp2
        go_end0
        refine ⟨rfl, ?_⟩
        refine rnew_row H.out HT3.out rfl rfl ?_ HBlk.out rfl
        show w3.ownsRow w.heap.size 61 3 _ (Dk.putL p.1 p.2 s.fs).length (rcells (Dk.putL p.1 p.2 s.fs))
        have e1 : (Dk.putL p.1 p.2 s.fs).length = j + 1 + (s.fs.length - j) := by rw [HPut.out]; simp; omega
        have e2 : rcells (Dk.putL p.1 p.2 s.fs) = rcells (s.fs.take j) ++ (.string k0 :: .string k1 :: .int .i64 (p.2.safe : Int) :: rcells (s.fs.drop j)) := by
          rw [HPut.out, rcells_append, ← HK0.out, ← HK1.out]
          rfl
        rw [e1, e2]
        exact ownsRow_base_a HO3.out (by rw [HS0.out]; omega)
      · have hlI : decide ((j : Int) < (s.fs.length : Int)) = false := decide_eq_false (by omega)
        go_wp2
        go_quiet (fail)
        go_wp2
        go_quiet (fail)
        have HRN : Hid (∀ N, (w0.drewN N).ownsRow 0 61 3 (.slice (some ⟨g, 0, none⟩) s.fs.length c) s.fs.length (rcells s.fs)) := fun N => HBox.out.row
        go_wp2_with (at_builtin; go_must (refine wpList_append_own _ rfl _ _ 54 rfl w0.heap.size 61 i0 _ 3 40 Try.underlying54 hi hz0 hz1 hz2 rfl (by decide) _ 0 [] rfl (World.ownsRow_nil _ _ _ _) ⟨g, 0, none⟩ j c (rcells (s.fs.take j)) rfl ?q1 ?q2 ?q3 ?q4 ?q5 ?q6 ?_))
        case q1 => rw [rcells_length, List.length_take]; congr 1; omega
        case q2 => exact src_take (HRN.out _) ht
        case q3 => exact rcells_one _
        case q4 => unfold maxLen; omega
        case q5 => omega
        case q6 => exact Nat.le_refl _
        intro v1 w1 hown1 hgrow1 _
        have HO1 : Hid (w1.ownsRow w0.heap.size 61 3 v1 j (rcells (s.fs.take j))) := by
          show w1.ownsRow _ _ _ _ _ _
          simpa using hown1
        have old1 : Hid (∀ b, b < w0.heap.size → w1.heap[b]? = w0.heap[b]?) := fun b hb' => (grown_old hgrow1 (base := w0.heap.size) (fun k hk => by cases hk) hb' (Nat.le_refl _) : w1.heap[b]? = (w0.drewN _).heap[b]?)
        have hsz1 : w0.heap.size ≤ w1.heap.size := hgrow1.size
        have HT1 : Hid (Turn (fun _ => False) w0 w1) := (Turn.refl _ w0).drewN _ |>.trans (Turn.ofGrown hgrow1 (fun k hk => by cases hk))
        have hxb : w.heap.size < w0.heap.size := by rw [HS0.out]; omega
        have d0 : w1.cell? ⟨w.heap.size, 0, none⟩ = some (.string k0) := (World.cell?_of_block (w := w0) (a := ⟨w.heap.size, 0, none⟩) (old1.out _ hxb)).trans b0
        have d1 : w1.cell? ⟨w.heap.size, 1, none⟩ = some (.string k1) := (World.cell?_of_block (w := w0) (a := ⟨w.heap.size, 1, none⟩) (old1.out _ hxb)).trans b1
        have d2 : w1.cell? ⟨w.heap.size, 2, none⟩ = some (.int .i64 (p.2.safe : Int)) := (World.cell?_of_block (w := w0) (a := ⟨w.heap.size, 2, none⟩) (old1.out _ hxb)).trans b2
        clear hown1 hgrow1
        go_wp2_with (at_builtin; go_must (refine wpList_append_own _ rfl _ _ 54 rfl w0.heap.size 61 i0 _ 3 40 Try.underlying54 hi hz0 hz1 hz2 rfl (by decide) _ j (rcells (s.fs.take j)) rfl (HO1.out.alloc _) ⟨w1.heap.size, 0, none⟩ 1 1 [.string k0, .string k1, .int .i64 (p.2.safe : Int)] rfl rfl ?q1 ?q2 ?q3 ?q4 ?q5 ?_))
        case q1 => exact new3 w1 _ _ _ _
        case q2 => exact one3 _ _ _
        case q3 => unfold maxLen; omega
        case q4 => omega
        case q5 => simp; omega
        intro v2 w2 hown2 hgrow2 _
        have HO2 : Hid (w2.ownsRow w0.heap.size 61 3 v2 (j + 1) (rcells (s.fs.take j) ++ [.string k0, .string k1, .int .i64 (p.2.safe : Int)])) := hown2
        have old2 : Hid (∀ b, b < w0.heap.size → w2.heap[b]? = w0.heap[b]?) := fun b hb' =>
          (grown_old hgrow2 (base := w0.heap.size) (fun k hk => (HO1.out.lt k hk).1) hb' (by simp; omega)).trans ((Below.heap_alloc w1 _ b (by omega)).trans (old1.out b hb'))
        have hsz2 : w0.heap.size ≤ w2.heap.size := Nat.le_trans (by simp; omega) hgrow2.size
        have HT2 : Hid (Turn (fun i => w0.heap.size ≤ i) w0 w2) := ((HT1.out.mono (fun _ h => h.elim)).trans (Turn.alloc w1 _)).trans (Turn.ofGrown hgrow2 (fun k hk => (HO1.out.lt k hk).1))
        have hrl0 : r < w0.heap.size := by rw [HS0.out]; omega
        have hgl0 : g < w0.heap.size := by rw [HS0.out]; omega
        have e0 : w2.cell? ⟨r, 0, none⟩ = some (.slice (some ⟨g, 0, none⟩) s.fs.length c) := (World.cell?_of_block (w := w0) (a := ⟨r, 0, none⟩) (old2.out r hrl0)).trans c0
        have HRow2 : Hid (w2.ownsRow 0 61 3 (.slice (some ⟨g, 0, none⟩) s.fs.length c) s.fs.length (rcells s.fs)) := ownsRow_block HBox.out.row (fun b hb' => by cases hb'; exact old2.out g hgl0)
        clear hown2 hgrow2 d0 d1 d2
        go_wp2_with (at_builtin; go_must (refine wpList_append_own _ rfl _ _ 54 rfl w0.heap.size 61 i0 _ 3 40 Try.underlying54 hi hz0 hz1 hz2 rfl (by decide) _ (j + 1) _ rfl HO2.out ⟨g, A2, none⟩ (s.fs.length - j) (c - j) (rcells (s.fs.drop j)) rfl ?q1 ?q2 ?q3 ?q4 ?q5 ?q6 ?_))
        case q1 => rw [rcells_length, List.length_drop]
        case q2 => exact src_drop HRow2.out ht HA2.out
        case q3 => exact rcells_one _
        case q4 => unfold maxLen; omega
        case q5 => omega
        case q6 => omega
        intro v3 w3 hown3 hgrow3 _
        have HO3 : Hid (w3.ownsRow w0.heap.size 61 3 v3 (j + 1 + (s.fs.length - j)) (rcells (s.fs.take j) ++ (.string k0 :: .string k1 :: .int .i64 (p.2.safe : Int) :: rcells (s.fs.drop j)))) := hown3
        have hblk : w3.heap[r]? = w.heap[r]? := (grown_old hgrow3 (base := w0.heap.size) (fun k hk => (HO2.out.lt k hk).1) hrl0 hsz2).trans ((old2.out r hrl0).trans HT0.out)
        have HBlk : Hid (w3.heap[r]? = w.heap[r]?) := hblk
        have g1 : w3.cell? ⟨r, 0, none⟩ = some (.slice (some ⟨g, 0, none⟩) s.fs.length c) := by rw [cell_of (hblk.trans H.out.top)]; rfl
        have g2 : w3.frozen? ⟨r, 0, none⟩ = false := frozen_of (hblk.trans H.out.top) 0
        have HT3 : Hid (Turn (rfoot r (.slice (some ⟨g, 0, none⟩) s.fs.length c)) w w3) := by
          have t0 : Turn (rfoot r (.slice (some ⟨g, 0, none⟩) s.fs.length c)) w w0 := HW0.out ▸ boxF_turn _ w p
          have t3 : Turn (fun i => w0.heap.size ≤ i) w0 w3 := HT2.out.trans (Turn.ofGrown hgrow3 (fun k hk => (HO2.out.lt k hk).1))
          exact t0.transNew t3 (fun i hi' => Or.inr (by have := HS0.out; omega))
        obtain ⟨a3, c3, hv3, -⟩ := row3 HO3.out
        rw [hv3] at HO3
        clear hown3 hgrow3 hblk
        subst hv3
        go_wp2
        go_end0
        refine ⟨rfl, ?_⟩
        refine rnew_row H.out HT3.out rfl rfl ?_ HBlk.out rfl
        show w3.ownsRow w.heap.size 61 3 _ (Dk.putL p.1 p.2 s.fs).length (rcells (Dk.putL p.1 p.2 s.fs))
        have e1 : (Dk.putL p.1 p.2 s.fs).length = j + 1 + (s.fs.length - j) := by rw [HPut.out]; simp; omega
        have e2 : rcells (Dk.putL p.1 p.2 s.fs) = rcells (s.fs.take j) ++ (.string k0 :: .string k1 :: .int .i64 (p.2.safe : Int) :: rcells (s.fs.drop j)) := by
          rw [HPut.out, rcells_append, ← HK0.out, ← HK1.out]
          rfl
        rw [e1, e2]
        exact ownsRow_base_a HO3.out (by rw [HS0.out]; omega)
    · have hlt : j < s.fs.length := by omega
      have hlI : (j : Int) < (s.fs.length : Int) := by omega
      obtain ⟨q0, q1, q2⟩ := row_file HBox.out.row hlt
      have hless : Op.bytesLess (bs (s.fs[j]).1).toList k0.toList = true := by
        rw [bb_less, bs_data, ← HK0.out, bs_data]; exact HB.out j hlt (by omega)
      obtain ⟨kj, hkj⟩ : ∃ kj, bs (s.fs[j]).1 = kj := ⟨_, rfl⟩
      rw [hkj] at q0 hless
      clear hkj
      go_wp2
      go_quiet (fail)
      go_wp2
      go_roundw
      case rel => exact ⟨j + 1, by omega, by go_num, _, rfl⟩
      case measure => simp [intOf]; omega

end
end Go.Proofs.Ytbiombolpfhdlaa
