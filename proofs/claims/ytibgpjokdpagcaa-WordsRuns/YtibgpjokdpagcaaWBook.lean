/- What the law holds reports and picks against: Same, SameInts, LendInts, KeptInts. -/
import Derived.Test.YtibgpjokdpagcaaWSame
import Derived.Test.YtibgpjokdpagcaaWEq
namespace Go.Proofs.Ytibgpjokdpagcaa
open Go.RowKit

abbrev RegsAt (w : World) (v : Value) (R : List (List Int)) : Prop := SliceAt w v 8 r8 R
abbrev BoolsAt (w : World) (v : Value) (D : List Bool) : Prop := SliceAt w v 1 bcell D

set_option maxRecDepth 100000 in
set_option maxHeartbeats 1000000 in
theorem rsame_true {v1 v2 v3 u1 u2 u3 : Value} {c : List Int} {R : List (List Int)} {D : List Bool} (k : Int) (w : World) (hv1 : WordsAt w v1 c) (hv2 : RegsAt w v2 R) (hv3 : BoolsAt w v3 D) (hu1 : WordsAt w u1 c) (hu2 : RegsAt w u2 R) (hu3 : BoolsAt w u3 D) (hRD : R.length = D.length) :
    Calls Try.prog 15 #[.agg #[v1, v2, v3, .int .i64 k], .agg #[u1, u2, u3, .int .i64 k]] w fun e w' => e = .returned (.bool true) ∧ Below w.heap.size w w' := by
  have Hv1 : Hid (WordsAt w v1 c) := hv1
  have Hv2 : Hid (RegsAt w v2 R) := hv2
  have Hv3 : Hid (BoolsAt w v3 D) := hv3
  have Hu1 : Hid (WordsAt w u1 c) := hu1
  have Hu2 : Hid (RegsAt w u2 R) := hu2
  have Hu3 : Hid (BoolsAt w u3 D) := hu3
  obtain ⟨a1, k1, rfl, l1, m1, -⟩ := hv1
  obtain ⟨a2, k2, rfl, l2, m2, -⟩ := hv2
  obtain ⟨a3, k3, rfl, l3, m3, -⟩ := hv3
  obtain ⟨b1, j1, rfl, n1, o1, -⟩ := hu1
  obtain ⟨b2, j2, rfl, n2, o2, -⟩ := hu2
  obtain ⟨b3, j3, rfl, n3, o3, -⟩ := hu3
  unfold maxLen at m1 m2 m3 o1 o2 o3
  have hkk : (k != k) = false := by simp
  obtain ⟨W0, hW0⟩ : ∃ W0, (w.alloc (.cells #[.slice a1 c.length k1, .slice a2 R.length k2, .slice a3 D.length k3, .int .i64 k] 34)).alloc (.cells #[.slice b1 c.length j1, .slice b2 R.length j2, .slice b3 D.length j3, .int .i64 k] 34) = W0 := ⟨_, rfl⟩
  have HB0 : Hid (Below w.heap.size w W0) := hW0 ▸ ((Below.refl _ _).alloc (Nat.le_refl _) _).alloc (by simp) _
  have HX : Hid (W0.heap[w.heap.size]? = some (.cells #[.slice a1 c.length k1, .slice a2 R.length k2, .slice a3 D.length k3, .int .i64 k] 34 (0, 0))) := by
    show W0.heap[_]? = _
    rw [← hW0, heap_alloc, if_neg (by simp), heap_new]
  have HY : Hid (W0.heap[w.heap.size + 1]? = some (.cells #[.slice b1 c.length j1, .slice b2 R.length j2, .slice b3 D.length j3, .int .i64 k] 34 (0, 0))) := by
    show W0.heap[_]? = _
    have := heap_new (w.alloc (.cells #[.slice a1 c.length k1, .slice a2 R.length k2, .slice a3 D.length k3, .int .i64 k] 34)) (.cells #[.slice b1 c.length j1, .slice b2 R.length j2, .slice b3 D.length j3, .int .i64 k] 34)
    rw [World.size_alloc] at this
    rw [← hW0]
    exact this
  have HF : Hid (∀ wr, Below W0.heap.size W0 wr → (wr.cell? ⟨w.heap.size, 0, none⟩ = some (.slice a1 c.length k1) ∧ wr.cell? ⟨w.heap.size, 1, none⟩ = some (.slice a2 R.length k2) ∧ wr.cell? ⟨w.heap.size, 2, none⟩ = some (.slice a3 D.length k3)) ∧ wr.cell? ⟨w.heap.size + 1, 0, none⟩ = some (.slice b1 c.length j1) ∧ wr.cell? ⟨w.heap.size + 1, 1, none⟩ = some (.slice b2 R.length j2) ∧ wr.cell? ⟨w.heap.size + 1, 2, none⟩ = some (.slice b3 D.length j3)) := by
    intro wr hwr
    have h1 := (hwr.block _ (lt_of HX.out)).trans HX.out
    have h2 := (hwr.block _ (lt_of HY.out)).trans HY.out
    exact ⟨⟨by rw [cell_of h1]; rfl, by rw [cell_of h1]; rfl, by rw [cell_of h1]; rfl⟩, by rw [cell_of h2]; rfl, by rw [cell_of h2]; rfl, by rw [cell_of h2]; rfl⟩
  have HA0 : Hid (Below W0.heap.size W0 ((w.alloc (.cells #[.slice a1 c.length k1, .slice a2 R.length k2, .slice a3 D.length k3, .int .i64 k] 34)).alloc (.cells #[.slice b1 c.length j1, .slice b2 R.length j2, .slice b3 D.length j3, .int .i64 k] 34))) := by
    show Below _ _ _
    rw [hW0]
    exact Below.refl _ _
  have HRD : Hid (R.length = D.length) := hRD
  clear HX HY hRD
  go_enter Try.func15, Try.ntmps15
  clear hW0
  go_wp2_with fail
  go_loopw [5] (fun i wr => ∃ j : Nat, j ≤ c.length ∧ i = .int .i64 j ∧ Below W0.heap.size W0 wr) (fun i _ => c.length - (intOf i).toNat)
  case atStart => exact ⟨0, Nat.zero_le _, rfl, HA0.out⟩
  case round =>
    obtain ⟨j, hj, rfl, hb⟩ := hrel
    have HB : Hid (Below W0.heap.size W0 wr) := hb
    have hbw : Below w.heap.size w wr := HB0.out.trans (hb.mono HB0.out.size)
    obtain ⟨⟨x0, x1, -⟩, y0, y1, -⟩ := HF.out wr hb
    clear hb
    by_cases hlt : j < c.length
    · have hlI : (j : Int) < (c.length : Int) := by omega
      have hne : c ≠ [] := by intro e; rw [e] at hlt; simp at hlt
      obtain ⟨a1', k1', e1, -, -, h1⟩ := Hv1.out
      cases e1
      obtain ⟨b1', j1', e2, -, -, h2⟩ := Hu1.out
      cases e2
      obtain ⟨b, off, rfl, hbl, hcs⟩ := h1 hne
      obtain ⟨b', off', rfl, hbl', hcs'⟩ := h2 hne
      obtain ⟨x, hxe⟩ : ∃ x, c[j] = x := ⟨_, rfl⟩
      have q := hcs j hlt 0 _ rfl
      have q' := hcs' j hlt 0 _ rfl
      rw [hxe, Nat.mul_one, Nat.add_zero] at q q'
      have p : wr.cell? ⟨b, off + j, none⟩ = some (.int .u64 x) := (hbw.cell hbl).trans q
      have p' : wr.cell? ⟨b', off' + j, none⟩ = some (.int .u64 x) := (hbw.cell hbl').trans q'
      clear hcs hcs' q q' hxe hne h1 h2 hbw
      go_wp2_with fail
      go_quiet (fail)
      have HB2 : Hid (Below W0.heap.size W0 (wr.drewN nq)) := HB.out.trans ((below_drewN wr nq).mono HB.out.size)
      go_wp2_with fail
      go_roundw
      case rel => exact ⟨j + 1, by omega, by go_num, HB2.out⟩
      case measure => simp [intOf]; omega
    · have hgI : ¬ (j : Int) < (c.length : Int) := by omega
      clear hbw
      go_wp2_with fail
      generalize wr = wq at *
      clear x0 x1 y0 y1
      go_loopw [6] (fun i wr => ∃ t : Nat, t ≤ R.length ∧ i = .int .i64 t ∧ Below W0.heap.size W0 wr) (fun i _ => R.length - (intOf i).toNat)
      case atStart => exact ⟨0, Nat.zero_le _, rfl, HB.out⟩
      case round =>
        obtain ⟨t, ht, rfl, hb⟩ := hrel
        have HC : Hid (Below W0.heap.size W0 wr) := hb
        have hbw : Below w.heap.size w wr := HB0.out.trans (hb.mono HB0.out.size)
        obtain ⟨⟨-, x1, x2⟩, -, y1, y2⟩ := HF.out wr hb
        clear hb
        by_cases hlt : t < R.length
        · have hlI : (t : Int) < (R.length : Int) := by omega
          have hltD : t < D.length := by rw [← HRD.out]; exact hlt
          have hlD : (t : Int) < (D.length : Int) := by omega
          have hne : R ≠ [] := by intro e; rw [e] at hlt; simp at hlt
          have hneD : D ≠ [] := by intro e; rw [e] at hltD; simp at hltD
          obtain ⟨a2', k2', e1, -, -, h1⟩ := Hv2.out
          cases e1
          obtain ⟨b2', j2', e2, -, -, h2⟩ := Hu2.out
          cases e2
          obtain ⟨a3', k3', e3, -, -, h3⟩ := Hv3.out
          cases e3
          obtain ⟨b3', j3', e4, -, -, h4⟩ := Hu3.out
          cases e4
          obtain ⟨c1, i1, rfl, hc1, g1⟩ := h1 hne
          obtain ⟨c2, i2, rfl, hc2, g2⟩ := h2 hne
          obtain ⟨c3, i3, rfl, hc3, g3⟩ := h3 hneD
          obtain ⟨c4, i4, rfl, hc4, g4⟩ := h4 hneD
          obtain ⟨r, hr⟩ : ∃ r, R[t] = r := ⟨_, rfl⟩
          obtain ⟨d, hd⟩ : ∃ d, D[t] = d := ⟨_, rfl⟩
          have z1 := g1 t hlt
          have z2 := g2 t hlt
          have z3 := g3 t hltD 0 _ rfl
          have z4 := g4 t hltD 0 _ rfl
          rw [hr] at z1 z2
          rw [hd, Nat.mul_one, Nat.add_zero] at z3 z4
          obtain ⟨v0, hv0⟩ : ∃ z, r.getD 0 0 = z := ⟨_, rfl⟩
          obtain ⟨v1, hv1⟩ : ∃ z, r.getD 1 0 = z := ⟨_, rfl⟩
          obtain ⟨v2, hv2⟩ : ∃ z, r.getD 2 0 = z := ⟨_, rfl⟩
          obtain ⟨v3, hv3⟩ : ∃ z, r.getD 3 0 = z := ⟨_, rfl⟩
          obtain ⟨v4, hv4⟩ : ∃ z, r.getD 4 0 = z := ⟨_, rfl⟩
          obtain ⟨v5, hv5⟩ : ∃ z, r.getD 5 0 = z := ⟨_, rfl⟩
          obtain ⟨v6, hv6⟩ : ∃ z, r.getD 6 0 = z := ⟨_, rfl⟩
          obtain ⟨v7, hv7⟩ : ∃ z, r.getD 7 0 = z := ⟨_, rfl⟩
          have A0 : wr.cell? ⟨c1, i1 + t * 8, none⟩ = some (.int .u64 v0) := hv0 ▸ (hbw.cell (p := ⟨c1, i1 + t * 8, none⟩) hc1).trans (z1 0 _ rfl)
          have B0 : wr.cell? ⟨c2, i2 + t * 8, none⟩ = some (.int .u64 v0) := hv0 ▸ (hbw.cell (p := ⟨c2, i2 + t * 8, none⟩) hc2).trans (z2 0 _ rfl)
          have A1 : wr.cell? ⟨c1, i1 + t * 8 + 1, none⟩ = some (.int .u64 v1) := hv1 ▸ (hbw.cell (p := ⟨c1, i1 + t * 8 + 1, none⟩) hc1).trans (z1 1 _ rfl)
          have B1 : wr.cell? ⟨c2, i2 + t * 8 + 1, none⟩ = some (.int .u64 v1) := hv1 ▸ (hbw.cell (p := ⟨c2, i2 + t * 8 + 1, none⟩) hc2).trans (z2 1 _ rfl)
          have A2 : wr.cell? ⟨c1, i1 + t * 8 + 2, none⟩ = some (.int .u64 v2) := hv2 ▸ (hbw.cell (p := ⟨c1, i1 + t * 8 + 2, none⟩) hc1).trans (z1 2 _ rfl)
          have B2 : wr.cell? ⟨c2, i2 + t * 8 + 2, none⟩ = some (.int .u64 v2) := hv2 ▸ (hbw.cell (p := ⟨c2, i2 + t * 8 + 2, none⟩) hc2).trans (z2 2 _ rfl)
          have A3 : wr.cell? ⟨c1, i1 + t * 8 + 3, none⟩ = some (.int .u64 v3) := hv3 ▸ (hbw.cell (p := ⟨c1, i1 + t * 8 + 3, none⟩) hc1).trans (z1 3 _ rfl)
          have B3 : wr.cell? ⟨c2, i2 + t * 8 + 3, none⟩ = some (.int .u64 v3) := hv3 ▸ (hbw.cell (p := ⟨c2, i2 + t * 8 + 3, none⟩) hc2).trans (z2 3 _ rfl)
          have A4 : wr.cell? ⟨c1, i1 + t * 8 + 4, none⟩ = some (.int .u64 v4) := hv4 ▸ (hbw.cell (p := ⟨c1, i1 + t * 8 + 4, none⟩) hc1).trans (z1 4 _ rfl)
          have B4 : wr.cell? ⟨c2, i2 + t * 8 + 4, none⟩ = some (.int .u64 v4) := hv4 ▸ (hbw.cell (p := ⟨c2, i2 + t * 8 + 4, none⟩) hc2).trans (z2 4 _ rfl)
          have A5 : wr.cell? ⟨c1, i1 + t * 8 + 5, none⟩ = some (.int .u64 v5) := hv5 ▸ (hbw.cell (p := ⟨c1, i1 + t * 8 + 5, none⟩) hc1).trans (z1 5 _ rfl)
          have B5 : wr.cell? ⟨c2, i2 + t * 8 + 5, none⟩ = some (.int .u64 v5) := hv5 ▸ (hbw.cell (p := ⟨c2, i2 + t * 8 + 5, none⟩) hc2).trans (z2 5 _ rfl)
          have A6 : wr.cell? ⟨c1, i1 + t * 8 + 6, none⟩ = some (.int .u64 v6) := hv6 ▸ (hbw.cell (p := ⟨c1, i1 + t * 8 + 6, none⟩) hc1).trans (z1 6 _ rfl)
          have B6 : wr.cell? ⟨c2, i2 + t * 8 + 6, none⟩ = some (.int .u64 v6) := hv6 ▸ (hbw.cell (p := ⟨c2, i2 + t * 8 + 6, none⟩) hc2).trans (z2 6 _ rfl)
          have A7 : wr.cell? ⟨c1, i1 + t * 8 + 7, none⟩ = some (.int .u64 v7) := hv7 ▸ (hbw.cell (p := ⟨c1, i1 + t * 8 + 7, none⟩) hc1).trans (z1 7 _ rfl)
          have B7 : wr.cell? ⟨c2, i2 + t * 8 + 7, none⟩ = some (.int .u64 v7) := hv7 ▸ (hbw.cell (p := ⟨c2, i2 + t * 8 + 7, none⟩) hc2).trans (z2 7 _ rfl)
          have E1 : wr.cell? ⟨c3, i3 + t, none⟩ = some (.bool d) := (hbw.cell hc3).trans z3
          have E2 : wr.cell? ⟨c4, i4 + t, none⟩ = some (.bool d) := (hbw.cell hc4).trans z4
          have eqp := eqArr v0 v1 v2 v3 v4 v5 v6 v7
          have gd8 := guard8
          clear hv0 hv1 hv2 hv3 hv4 hv5 hv6 hv7 z1 z2 z3 z4 g1 g2 g3 g4 h1 h2 h3 h4 hr hd hne hneD hbw
          go_wp2_with fail
          go_quiet (fail)
          have HC2 : Hid (Below W0.heap.size W0 (wr.drewN nq)) := HC.out.trans ((below_drewN wr nq).mono HC.out.size)
          go_wp2_with fail
          go_roundw
          case rel => exact ⟨t + 1, by omega, by go_num, HC2.out⟩
          case measure => simp [intOf]; omega
        · have hgI : ¬ (t : Int) < (R.length : Int) := by omega
          have HZ : Hid (Below w.heap.size w wr) := hbw
          clear hbw
          go_wp2_with fail
          go_ret
          exact ⟨rfl, HZ.out⟩

set_option maxRecDepth 100000 in
set_option maxHeartbeats 400000 in
theorem sameInts_true (v v' : Value) (L : List Int) (w : World) (h : IntsAt w v L) (h' : IntsAt w v' L) :
    Calls Try.prog 30 #[v, v'] w fun e w' => e = .returned (.bool true) ∧ Below w.heap.size w w' := by
  obtain ⟨a, c, rfl, hl, hc, hx⟩ := h
  obtain ⟨a', c', rfl, hl', hc', hx'⟩ := h'
  have HX : Hid (L ≠ [] → ∃ b off, a = some ⟨b, off, none⟩ ∧ b < w.heap.size ∧ ∀ i, (h : i < L.length) → ∀ (j : Nat) (u : Value), ([Value.int .i64 L[i]])[j]? = some u → w.cell? ⟨b, off + i * 1 + j, none⟩ = some u) := hx
  have HX' : Hid (L ≠ [] → ∃ b off, a' = some ⟨b, off, none⟩ ∧ b < w.heap.size ∧ ∀ i, (h : i < L.length) → ∀ (j : Nat) (u : Value), ([Value.int .i64 L[i]])[j]? = some u → w.cell? ⟨b, off + i * 1 + j, none⟩ = some u) := hx'
  unfold maxLen at hc hc'
  clear hx hx'
  go_enter Try.func30, Try.ntmps30
  go_wp2_with fail
  go_loopw [5] (fun i wr => ∃ j : Nat, j ≤ L.length ∧ i = .int .i64 j ∧ Below w.heap.size w wr) (fun i _ => L.length - (intOf i).toNat)
  case atStart => exact ⟨0, Nat.zero_le _, rfl, Below.refl _ _⟩
  case round =>
    obtain ⟨j, hj, rfl, hb⟩ := hrel
    have HB : Hid (Below w.heap.size w wr) := hb
    clear hb
    by_cases hlt : j < L.length
    · have hlI : (j : Int) < (L.length : Int) := by omega
      have hne : L ≠ [] := by intro e; rw [e] at hlt; simp at hlt
      obtain ⟨b, off, rfl, hbl, hcs⟩ := HX.out hne
      obtain ⟨b', off', rfl, hbl', hcs'⟩ := HX'.out hne
      obtain ⟨x, hxe⟩ : ∃ x, L[j] = x := ⟨_, rfl⟩
      have q := hcs j hlt 0 _ rfl
      have q' := hcs' j hlt 0 _ rfl
      rw [hxe, Nat.mul_one, Nat.add_zero] at q q'
      have p : wr.cell? ⟨b, off + j, none⟩ = some (.int .i64 x) := (HB.out.cell hbl).trans q
      have p' : wr.cell? ⟨b', off' + j, none⟩ = some (.int .i64 x) := (HB.out.cell hbl').trans q'
      clear hcs hcs' q q' hxe hne
      go_wp2_with fail
      go_quiet (fail)
      have HB2 : Hid (Below w.heap.size w (wr.drewN nq)) := HB.out.trans ((below_drewN wr nq).mono HB.out.size)
      go_wp2_with fail
      go_roundw
      case rel => exact ⟨j + 1, by omega, by go_num, HB2.out⟩
      case measure => simp [intOf]; omega
    · have hgI : ¬ (j : Int) < (L.length : Int) := by omega
      go_wp2_with fail
      go_ret
      exact ⟨rfl, HB.out⟩

theorem cutI (a : Addr) (n c k : Nat) (h : k ≤ c) (W : World) :
    (Instr.slice 24 (.slice (some a) n c) none (some (.int .i64 (k : Int))) none).run Try.prog W = .ok (.slice (some a) k c) W := by
  have hz : ∀ W, (sizeOf 3).run Try.prog W = .ok 1 W := fun W => by kernel_rfl
  have h1 : (k : Int) ≤ (c : Int) := by omega
  obtain ⟨b, off, sp⟩ := a
  cases sp with
  | none => simp [Instr.slice, run_underlying Try.underlying24, Instr.sliceBounds, run_sliceBound, h1, hz, Result.andThen, Addr.add_lit]
  | some s => simp [Instr.slice, run_underlying Try.underlying24, Instr.sliceBounds, run_sliceBound, h1, hz, Result.andThen, Addr.add]

end Go.Proofs.Ytibgpjokdpagcaa
