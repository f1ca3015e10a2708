/- Lists of numbers that are lent: SameInts, LendInts, KeptInts. -/
import Derived.Test.YtbiombolpfhdlaaHas
import Derived.Laws.AppendOwnNone
namespace Go.Proofs.Ytbiombolpfhdlaa
open Go.RowKit Go.Maps

theorem infoI : (Try.prog.info? 3).map (fun i => (i.zero, i.size, i.bytes)) = some (some (.int .i64 0), 1, 8) := by kernel_rfl

theorem cutI (g n c k : Nat) (h : k ≤ c) (W : World) :
    (Instr.slice 29 (.slice (some ⟨g, 0, none⟩) n c) none (some (.int .i64 (k : Int))) none).run Try.prog W = .ok (.slice (some ⟨g, 0, none⟩) k c) W := by
  have hz : ∀ W, (sizeOf 3).run Try.prog W = .ok 1 W := fun W => by kernel_rfl
  have h1 : (k : Int) ≤ (c : Int) := by omega
  simp [Instr.slice, run_underlying Try.underlying29, Instr.sliceBounds, run_sliceBound, h1, hz, Result.andThen, Addr.add_lit]

def ints (ds : List Int) : List Value := ds.map (fun x => Value.int .i64 x)

/-- A copy of ds in block g, and the mark behind it. -/
structure LentAt (w : World) (g c : Nat) (ds : List Int) : Prop where
  cap : ds.length + 1 ≤ c
  capm : c ≤ maxLen
  lt : g < w.heap.size
  cells : ∀ i, i < ds.length → w.cell? ⟨g, i, none⟩ = some (.int .i64 (ds.getD i 0))
  mark : w.cell? ⟨g, ds.length, none⟩ = some (.int .i64 (-77))

theorem LentAt.kept {w w' : World} {g c : Nat} {ds : List Int} {S : Nat → Prop} (h : LentAt w g c ds) (ht : Turn S w w') (hS : ¬ S g) : LentAt w' g c ds := by
  have hb := ht.block g h.lt hS
  exact ⟨h.cap, h.capm, Nat.lt_of_lt_of_le h.lt ht.size, fun i hi => (World.cell?_of_block (w := w) (a := ⟨g, i, none⟩) hb).trans (h.cells i hi), (World.cell?_of_block (w := w) (a := ⟨g, ds.length, none⟩) hb).trans h.mark⟩

theorem LentAt.draws {w : World} {g c : Nat} {ds : List Int} {S : Nat → Prop} (h : LentAt w g c ds) (hS : ¬ S g) (hx : ∀ x ∈ ds, x ≤ 9223372036854775807) : DrawsAt w S (.slice (some ⟨g, 0, none⟩) ds.length c) ds :=
  ⟨_, c, rfl, by have := h.cap; omega, h.capm, fun _ => ⟨g, 0, rfl, h.lt, hS, fun i hi => by rw [Nat.zero_add]; exact h.cells i hi⟩, hx⟩

theorem DrawsAt.other {w : World} {S S' : Nat → Prop} {v : Value} {r : List Int} (h : DrawsAt w S v r) (hS : ∀ i, S' i → S i) : DrawsAt w S' v r := by
  obtain ⟨a, c, h1, h2, h3, h4, h5⟩ := h
  refine ⟨a, c, h1, h2, h3, fun hr => ?_, h5⟩
  obtain ⟨b, off, e, hb, hS2, hc⟩ := h4 hr
  exact ⟨b, off, e, hb, fun h6 => hS2 (hS _ h6), hc⟩

theorem DrawsAt.shape {w : World} {S : Nat → Prop} {v : Value} {r : List Int} (h : DrawsAt w S v r) : ∃ a c, v = .slice a r.length c ∧ r.length ≤ c ∧ c ≤ maxLen := by
  obtain ⟨a, c, h1, h2, h3, h4, h5⟩ := h
  exact ⟨a, c, h1, h2, h3⟩

set_option maxRecDepth 100000 in
set_option maxHeartbeats 1000000 in
theorem sameInts_true {S S' : Nat → Prop} (v v' : Value) (L : List Int) (w : World) (h : DrawsAt w S v L) (h' : DrawsAt w S' v' L) :
    Calls Try.prog 47 #[v, v'] w fun e w' => e = .returned (.bool true) ∧ ∃ n, w' = w.drewN n := by
  obtain ⟨a, c, rfl, hl, hc, hx, -⟩ := h
  obtain ⟨a', c', rfl, hl', hc', hx', -⟩ := h'
  unfold maxLen at hc hc'
  by_cases hL : L = []
  · subst hL
    clear hx hx'
    go_enter Try.func47, Try.ntmps47
    go_wp2
    go_loopw [5] (fun i wr => i = .int .i64 0 ∧ wr = w) (fun _ _ => 0)
    case atStart => exact ⟨rfl, rfl⟩
    case round =>
      obtain ⟨rfl, rfl⟩ := hrel
      go_wp2
      go_ret
      exact ⟨rfl, 0, rfl⟩
  · obtain ⟨b, off, rfl, -, -, hb⟩ := hx hL
    obtain ⟨b', off', rfl, -, -, hb'⟩ := hx' hL
    have HB : Hid (∀ i, i < L.length → w.cell? ⟨b, off + i, none⟩ = some (.int .i64 (L.getD i 0))) := hb
    have HB' : Hid (∀ i, i < L.length → w.cell? ⟨b', off' + i, none⟩ = some (.int .i64 (L.getD i 0))) := hb'
    clear hb hb' hx hx' hL
    go_enter Try.func47, Try.ntmps47
    go_wp2
    go_loopw [5] (fun i wr => ∃ j : Nat, j ≤ L.length ∧ i = .int .i64 j ∧ ∃ n, wr = w.drewN n) (fun i _ => L.length - (intOf i).toNat)
    case atStart => exact ⟨0, Nat.zero_le _, rfl, 0, rfl⟩
    case round =>
      obtain ⟨j, hj, rfl, nn, rfl⟩ := hrel
      by_cases hlt : j < L.length
      · have q1 := HB.out j hlt
        have q2 := HB'.out j hlt
        obtain ⟨k, hk⟩ : ∃ k : Int, L.getD j 0 = k := ⟨_, rfl⟩
        rw [hk] at q1 q2
        clear hk
        have hlI : (j : Int) < (L.length : Int) := by omega
        go_wp2
        go_quiet (fail)
        go_wp2
        go_roundw
        case rel => exact ⟨j + 1, by omega, by go_num, _, rfl⟩
        case measure => simp [intOf]; omega
      · go_wp2
        go_ret
        exact ⟨rfl, nn, rfl⟩

set_option maxRecDepth 100000 in
set_option maxHeartbeats 1000000 in
theorem keptInts_true {S : Nat → Prop} (g c : Nat) (v : Value) (L : List Int) (w : World) (h : LentAt w g c L) (hx : ∀ x ∈ L, x ≤ 9223372036854775807) (h' : DrawsAt w S v L) :
    Calls Try.prog 33 #[.slice (some ⟨g, 0, none⟩) L.length c, v] w fun e w' => e = .returned (.bool true) ∧ ∃ n, w' = w.drewN n := by
  have HSI : Hid (Calls Try.prog 47 #[.slice (some ⟨g, 0, none⟩) L.length c, v] w fun e w' => e = .returned (.bool true) ∧ ∃ n, w' = w.drewN n) := sameInts_true (S := fun _ => False) _ _ _ _ (h.draws (fun h => h) hx) h'
  obtain ⟨a', c', rfl, hl', hc'⟩ := h'.shape
  have hcap := h.cap
  have hcm := h.capm
  have hmk := h.mark
  unfold maxLen at hc' hcm
  have hsl : ∀ W, (Instr.slice 29 (.slice (some ⟨g, 0, none⟩) L.length c) none (some (.int .i64 ((L.length : Int) + 1))) none).run Try.prog W = .ok (.slice (some ⟨g, 0, none⟩) (L.length + 1) c) W := fun W => by
    rw [show (L.length : Int) + 1 = ((L.length + 1 : Nat) : Int) from by omega]
    exact cutI g L.length c (L.length + 1) hcap W
  clear h h' hx
  go_enter Try.func33, Try.ntmps33
  go_wp2_with fail
  refine HSI.out.mono ?_
  rintro e w' ⟨rfl, n, rfl⟩
  go_wp2_with fail
  go_ret
  exact ⟨rfl, n, rfl⟩

theorem ints_one (ds : List Int) : ∀ u ∈ ints ds, u.oneCell' = true := by
  intro u hu
  unfold ints at hu
  obtain ⟨x, _, rfl⟩ := List.mem_map.1 hu
  rfl
theorem ints_get (ds : List Int) (i : Nat) (h : i < ds.length) : (ints ds)[i]? = some (.int .i64 (ds.getD i 0)) := by
  unfold ints
  simp [h]

/-- what was made, in plain words -/
theorem lent_of {w : World} {base : Nat} {v : Value} {ds : List Int} (h : w.ownsRow base 3 1 v (ds.length + 1) (ints ds ++ [.int .i64 (-77)])) : ∃ g c, v = .slice (some ⟨g, 0, none⟩) (ds.length + 1) c ∧ LentAt w g c ds ∧ base ≤ g := by
  rcases h.2 with ⟨_, hn⟩ | ⟨g, cap, cur, e, hbase, hg, hnc, hcm, _⟩
  · omega
  · refine ⟨g, cap, e, ⟨hnc, hcm, lt_of hg, fun i hi => ?_, ?_⟩, hbase⟩
    · have := h.cells (g := g) (by rw [e]; rfl) i (.int .i64 (ds.getD i 0)) (by rw [List.getElem?_append_left (by simpa [ints] using hi)]; exact ints_get ds i hi)
      rw [Addr.add_lit, Nat.zero_add] at this
      exact this
    · have := h.cells (g := g) (by rw [e]; rfl) ds.length (.int .i64 (-77)) (by rw [List.getElem?_append_right (by simp [ints])]; simp [ints])
      rw [Addr.add_lit, Nat.zero_add] at this
      exact this

theorem row_empty (w : World) : (w.alloc (.cells #[] 3 (0, 0))).ownsRow w.heap.size 3 1 (.slice (some ⟨w.heap.size, 0, none⟩) 0 0) 0 [] :=
  ⟨rfl, Or.inr ⟨w.heap.size, 0, #[], rfl, Nat.le_refl _, heap_new w _, Nat.le_refl _, Nat.zero_le _, rfl, rfl⟩⟩

set_option maxRecDepth 100000 in
set_option maxHeartbeats 1000000 in
theorem lendInts_any {S : Nat → Prop} (v : Value) (ds : List Int) (w : World) (h : DrawsAt w S v ds) (hnil : ∀ c, v = .slice none ds.length c → c = 0) (hb : (ds.length + 1) * 8 ≤ 140737488355328) :
    Calls Try.prog 31 #[v] w fun e w' => ∃ g c, e = .returned (.slice (some ⟨g, 0, none⟩) ds.length c) ∧ LentAt w' g c ds ∧ w.heap.size ≤ g ∧ Below w.heap.size w w' := by
  obtain ⟨a, c, rfl, hl, hc, hx, -⟩ := h
  obtain ⟨i0, hi, hz0, hz1, hz2⟩ := info_parts infoI
  unfold maxLen at hc
  cases a with
  | none =>
    have hc0 := hnil c rfl
    subst hc0
    have hd : ds = [] := List.eq_nil_of_length_eq_zero (by omega)
    subst hd
    clear hx hnil
    go_enter Try.func31, Try.ntmps31
    go_wp2_with (first
      | (at_builtin; refine wpList_append_own_none rfl _ _ 29 rfl w.heap.size 3 i0 1 Try.underlying29 hi _ 0 [] rfl (row_empty w) rfl ?_)
      | (at_builtin; refine wpList_append_own _ rfl _ _ 29 rfl w.heap.size 3 i0 (.int .i64 0) 1 8 Try.underlying29 hi hz0 hz1 hz2 rfl (by decide) _ 0 [] rfl ((row_empty w).alloc _) ⟨w.heap.size + 1, 0, none⟩ 1 1 [.int .i64 (-77)] rfl rfl ?q2 ?q3 ?q4 ?q5 ?q6 ?_))
    case q2 =>
      intro i u hu
      have e := heap_new (w.alloc (.cells #[] 3 (0, 0))) (.cells #[.int .i64 (-77)] 3 (0, 0))
      rw [World.size_alloc] at e
      rw [Addr.add_lit, cell_of e]
      match i, hu with
      | 0, hu => simpa using hu
    case q3 =>
      intro u hu
      simp only [List.mem_cons, List.not_mem_nil, or_false] at hu
      subst hu
      rfl
    case q4 => unfold maxLen; omega
    case q5 => omega
    case q6 => simp; omega
    intro v1 w1 hown1 hgrow1 _
    have HB1 : Hid (Below w.heap.size w w1) := ((((Below.refl _ w).alloc (Nat.le_refl _) _).alloc (by simp) _).grown hgrow1 (by simp; omega) (fun i hi => by cases hi; exact Nat.le_refl _))
    obtain ⟨g, c1, rfl, hL, hg⟩ := lent_of (ds := []) hown1
    have HL : Hid (LentAt w1 g c1 []) := hL
    have hsl : ∀ W, (Instr.slice 29 (.slice (some ⟨g, 0, none⟩) (([] : List Int).length + 1) c1) none (some (.int .i64 0)) none).run Try.prog W = .ok (.slice (some ⟨g, 0, none⟩) 0 c1) W := fun W => cutI g _ c1 0 (Nat.zero_le _) W
    clear hown1 hgrow1 hL
    go_wp2_with fail
    go_ret
    exact ⟨g, c1, rfl, HL.out, hg, HB1.out⟩
  | some ad =>
    have HX : Hid (∀ (W : World), Below w.heap.size w W → ∀ j u, (ints ds)[j]? = some u → W.cell? (ad.add j) = some u) := by
      intro W hW j u hu
      have hj : j < ds.length := by
        rcases Nat.lt_or_ge j ds.length with h1 | h1
        · exact h1
        · rw [List.getElem?_eq_none (by simpa [ints] using h1)] at hu; cases hu
      rw [ints_get ds j hj] at hu
      obtain ⟨b, off, e, hb, _, hcl⟩ := hx (by intro e; rw [e] at hj; simp at hj)
      cases e
      rw [Addr.add_lit, hW.cell (p := ⟨b, off + j, none⟩) hb, hcl j hj]
      exact hu
    clear hx hnil
    go_enter Try.func31, Try.ntmps31
    go_wp2_with (at_builtin; go_must (refine wpList_append_own _ rfl _ _ 29 rfl w.heap.size 3 i0 (.int .i64 0) 1 8 Try.underlying29 hi hz0 hz1 hz2 rfl (by decide) (.slice (some ⟨w.heap.size, 0, none⟩) 0 0) 0 [] rfl (row_empty w) ad ds.length c (ints ds) rfl ?q1 ?q2 ?q3 ?q4 ?q5 ?q6 ?_))
    case q1 => simp [ints]
    case q2 => exact HX.out _ ((Below.refl _ w).alloc (Nat.le_refl _) _)
    case q3 => exact ints_one ds
    case q4 => unfold maxLen; omega
    case q5 => omega
    case q6 => simp
    intro v1 w1 hown1 hgrow1 _
    have HO1 : Hid (w1.ownsRow w.heap.size 3 1 v1 ds.length (ints ds)) := by
      show w1.ownsRow _ _ _ _ _ _
      simpa using hown1
    have HB1 : Hid (Below w.heap.size w w1) := ((Below.refl _ w).alloc (Nat.le_refl _) _).grown hgrow1 (by simp) (fun i hi => by cases hi; exact Nat.le_refl _)
    have hsz1 : w.heap.size ≤ w1.heap.size := HB1.out.size
    clear hown1 hgrow1
    go_wp2_with (at_builtin; go_must (refine wpList_append_own _ rfl _ _ 29 rfl w.heap.size 3 i0 (.int .i64 0) 1 8 Try.underlying29 hi hz0 hz1 hz2 rfl (by decide) _ ds.length _ rfl (HO1.out.alloc _) ⟨w1.heap.size, 0, none⟩ 1 1 [.int .i64 (-77)] rfl rfl ?q2 ?q3 ?q4 ?q5 ?q6 ?_))
    case q2 =>
      intro i u hu
      rw [Addr.add_lit, cell_of (heap_new w1 _)]
      match i, hu with
      | 0, hu => simpa using hu
    case q3 =>
      intro u hu
      simp only [List.mem_cons, List.not_mem_nil, or_false] at hu
      subst hu
      rfl
    case q4 => unfold maxLen; omega
    case q5 => omega
    case q6 => simp; omega
    intro v2 w2 hown2 hgrow2 _
    have HB2 : Hid (Below w.heap.size w w2) := (HB1.out.alloc hsz1 _).grown hgrow2 (by simp; omega) (fun i hi => (HO1.out.lt i hi).1)
    obtain ⟨g, c1, rfl, hL, hg⟩ := lent_of hown2
    have HL : Hid (LentAt w2 g c1 ds) := hL
    have hsl : ∀ W, (Instr.slice 29 (.slice (some ⟨g, 0, none⟩) (ds.length + 1) c1) none (some (.int .i64 (ds.length : Int))) none).run Try.prog W = .ok (.slice (some ⟨g, 0, none⟩) ds.length c1) W := fun W => cutI g _ c1 ds.length (by have := hL.cap; omega) W
    clear hown2 hgrow2 hL
    go_wp2_with fail
    go_ret
    exact ⟨g, c1, rfl, HL.out, hg, HB2.out⟩

end Go.Proofs.Ytbiombolpfhdlaa
