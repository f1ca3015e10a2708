/- The law's spoil of a schema that came out. -/
import Derived.Test.YtnboanlhdllhnaaGreatZRc
import Derived.Test.YtnboanlhdllhnaaGreatZRdec
namespace Go.Proofs.YtnboanlhdllhnaaGreat
open Go.RowKit

set_option maxRecDepth 100000 in
set_option maxHeartbeats 400000 in
theorem spoil_row {w : World} {b n cap : Nat} {cur : Array Value} {t : TypeId} (mark : Int) (hb : w.heap[b]? = some (.cells cur t (0, 0))) (hs : cur.size = cap) (hc : cap ≤ maxLen) : Calls Tryz.prog 30 #[.slice (some ⟨b, 0, none⟩) n cap, .int .i64 mark] w fun e w' => e = .returned (.tuple #[]) ∧ Hid (Turn (fun i => i = b) w w' ∧ ∃ cur', w'.heap[b]? = some (.cells cur' t (0, 0)) ∧ cur'.size = cap) := by
  unfold maxLen at hc
  have HB : Hid (w.heap[b]? = some (.cells cur t (0, 0))) := hb
  have HS : Hid (cur.size = cap) := hs
  clear hb hs
  go_enter Tryz.func30, Tryz.ntmps30
  go_wp2_with fail
  go_loopw [4] (fun i wr => ∃ (k : Nat) (cur' : Array Value), k ≤ cap ∧ i = .int .i64 k ∧ Hid (wr.heap[b]? = some (.cells cur' t (0, 0))) ∧ Hid (cur'.size = cap) ∧ Hid (Turn (fun i => i = b) w wr)) (fun i _ => cap - (intOf i).toNat)
  case atStart => exact ⟨0, cur, Nat.zero_le _, rfl, HB, HS, Turn.refl _ _⟩
  case round =>
    obtain ⟨k, cur', hk, rfl, HB', HS', HT⟩ := hrel
    by_cases hlt : k < cap
    · have hlI : (k : Int) < (cap : Int) := by omega
      have hlc : k < cur'.size := by rw [HS'.out]; exact hlt
      have q1 : wr.cell? ⟨b, k, none⟩ = some cur'[k] := by rw [cell_of HB'.out, Array.getElem?_eq_getElem hlc]
      have f1 : wr.frozen? ⟨b, k, none⟩ = false := frozen_of HB'.out _
      have HB2 : Hid ((wr.setCell ⟨b, k, none⟩ (.int .i64 mark)).heap[b]? = some (.cells (cur'.setIfInBounds k (.int .i64 mark)) t (0, 0))) := heap_setCell_same HB'.out k _
      have HS2 : Hid ((cur'.setIfInBounds k (.int .i64 mark)).size = cap) := (by rw [Array.size_setIfInBounds, HS'.out] : _ = _)
      have HT2 : Hid (Turn (fun i => i = b) w (wr.setCell ⟨b, k, none⟩ (.int .i64 mark))) := HT.out.trans (Turn.setCell wr ⟨b, k, none⟩ _ rfl)
      obtain ⟨z, hz⟩ : ∃ z, cur'[k] = z := ⟨_, rfl⟩
      rw [hz] at q1
      clear hz hlc
      go_wp2_with fail
      go_roundw
      case rel => exact ⟨k + 1, _, by omega, by go_num, HB2, HS2, HT2⟩
      case measure => simp [intOf]; omega
    · have hlI : ¬ (k : Int) < (cap : Int) := by omega
      go_wp2_with fail
      go_end0
      exact ⟨rfl, HT.out, cur', HB'.out, HS'.out⟩

set_option maxRecDepth 100000 in
theorem spoil_nil (w : World) (mark : Int) : Calls Tryz.prog 30 #[.slice none 0 0, .int .i64 mark] w fun e w' => e = .returned (.tuple #[]) ∧ w' = w := by
  go_enter Tryz.func30, Tryz.ntmps30
  go_wp2_with fail
  go_loopw [4] (fun i wr => i = .int .i64 0 ∧ wr = w) (fun _ _ => 0)
  case atStart => exact ⟨rfl, rfl⟩
  case round =>
    obtain ⟨rfl, hwq⟩ := hrel
    subst hwq
    go_wp2_with fail
    go_end0
    exact ⟨rfl, rfl⟩

/-- only numbers, and of old blocks only those of S, have changed -/
structure SpI (S : Nat → Prop) (w wr : World) : Prop where
  turn : Turn S w wr
  keep : ∀ (i : Nat) (cs : Array Value) (t : TypeId), w.heap[i]? = some (.cells cs t (0, 0)) → ∃ cs', wr.heap[i]? = some (.cells cs' t (0, 0)) ∧ cs'.size = cs.size ∧ (t ≠ 3 → cs' = cs)
theorem SpI.refl (S : Nat → Prop) (w : World) : SpI S w w := ⟨Turn.refl _ _, fun _ cs _ h => ⟨cs, h, rfl, fun _ => rfl⟩⟩
theorem SpI.nums {S : Nat → Prop} {w wr : World} {base : Nat} (h : SpI S w wr) {x : Iv} (hx : NumsO w base x) (hS : ∀ i, x.v.ownBlock = some i → S i) : Calls Tryz.prog 30 #[x.v, .int .i64 (-7)] wr fun e w' => e = .returned (.tuple #[]) ∧ Hid (SpI S w w') := by
  rcases hx.2 with ⟨hv, _⟩ | ⟨g, cap, cur, hv, hg, hc, h1, h2, h3, h4⟩
  · rw [hv]
    refine (spoil_nil wr (-7)).mono fun e w' ⟨e1, e2⟩ => ⟨e1, ?_⟩
    rw [e2]; exact h
  · rw [hv]
    obtain ⟨cs', k1, k2, k3⟩ := h.keep g cur _ hc
    refine (spoil_row (-7) k1 (by rw [k2, h3, Nat.mul_one]) h2).mono fun e w' ⟨e1, e2⟩ => ⟨e1, ?_⟩
    obtain ⟨t1, cur', t2, t3⟩ := e2.out
    refine ⟨h.turn.trans (t1.mono fun i hi => by rw [hi]; exact hS g (by rw [hv]; rfl)), fun i cs t hi => ?_⟩
    obtain ⟨cs1, j1, j2, j3⟩ := h.keep i cs t hi
    by_cases e : i = g
    · subst e
      rw [hc] at hi
      injection hi with hi
      injection hi with hi1 hi2
      subst hi1
      subst hi2
      exact ⟨cur', t2, by rw [t3, h3, Nat.mul_one], fun hn => absurd rfl hn⟩
    · exact ⟨cs1, (t1.block i (lt_of j1) e).trans j1, j2, j3⟩

set_option maxRecDepth 100000 in
set_option maxHeartbeats 2000000 in
theorem spoil_any (cv iv : Value) (X : List Iv) (T : Tab) (base : Nat) (w : World) (h : TabO w base cv iv X T) :
    Calls Tryz.prog 12 #[tabVal cv iv T] w fun e w' => e = .returned (.tuple #[]) ∧ Hid (Turn (fun i => Ge.foot ⟨T, cv, iv, X⟩ i) w w') := by
  obtain ⟨⟨ca, cn, cc, rfl⟩, ⟨ia, im, ic, rfl⟩⟩ := h.shape
  obtain ⟨S, hS⟩ : ∃ S : Nat → Prop, (fun i => Ge.foot ⟨T, .slice ca cn cc, .slice ia im ic, X⟩ i) = S := ⟨_, rfl⟩
  have HSc : Hid (∀ i, (Value.slice ca cn cc).ownBlock = some i → S i) := fun i hi => by rw [← hS]; exact Or.inl hi
  have HSx : Hid (∀ x ∈ X, ∀ i, x.v.ownBlock = some i → S i) := fun x hx i hi => by rw [← hS]; exact Or.inr (Or.inr ⟨x, hx, hi⟩)
  rw [hS]
  unfold tabVal
  obtain ⟨nm, hnm⟩ : ∃ nm, T.nm = nm := ⟨_, rfl⟩
  obtain ⟨key, hkey⟩ : ∃ key, T.key = key := ⟨_, rfl⟩
  rw [hnm, hkey]
  have hcn : T.co.length = cn := by
    rcases h.co.2 with ⟨e, e2⟩ | ⟨g, cap, cur, e, _⟩
    · injection e with _ e1 _; omega
    · injection e with _ e1 _; omega
  have him : X.length = im := by
    rcases h.ix.2 with ⟨e, e2⟩ | ⟨g, cap, cur, e, _⟩
    · injection e with _ e1 _; omega
    · injection e with _ e1 _; omega
  have hco := h.co
  have hix := h.ix
  rw [hcn] at hco
  rw [him] at hix
  obtain ⟨xb, hxb⟩ : ∃ xb, w.heap.size = xb := ⟨_, rfl⟩
  obtain ⟨wB, hwB⟩ : ∃ u, w.alloc (.cells #[.string nm, .slice ca cn cc, .int .i64 key, .slice ia im ic] 32) = u := ⟨_, rfl⟩
  have hBB : Below w.heap.size w wB := by rw [← hwB]; exact (Below.refl _ w).alloc (Nat.le_refl _) _
  have hxB : wB.heap[xb]? = some (.cells #[.string nm, .slice ca cn cc, .int .i64 key, .slice ia im ic] 32 (0, 0)) := by rw [← hwB, ← hxb]; exact heap_new w _
  have HBw : Hid (Turn S w wB) := Turn.ofBelow S hBB
  have HCB : Hid (wB.ownsRow base 70 2 (.slice ca cn cc) cn (flat enC T.co)) := ownsRow_block hco fun i hi => hBB.block i (World.ownsRow.lt hco i hi).2
  have HIB : Hid (wB.ownsRow base 64 3 (.slice ia im ic) im (flat enX X)) := ownsRow_block hix fun i hi => hBB.block i (World.ownsRow.lt hix i hi).2
  have HNB : Hid (∀ x ∈ X, NumsO wB base x) := fun x hx => ownsRow_block (h.nums x hx) fun i hi => hBB.block i (World.ownsRow.lt (h.nums x hx) i hi).2
  have HXB : Hid (wB.heap[xb]? = some (.cells #[.string nm, .slice ca cn cc, .int .i64 key, .slice ia im ic] 32 (0, 0))) := hxB
  have HIm : Hid (X.length = im) := him
  have hcmx : cn ≤ 9223372036854775807 ∧ im ≤ 9223372036854775807 ∧ cn ≤ cc ∧ im ≤ ic ∧ cc ≤ 9223372036854775807 ∧ ic ≤ 9223372036854775807 := by
    obtain ⟨_, c1, e1, l1, m1, _⟩ := own_slice (en := enC) (L := T.co) (fun _ => rfl) (by rw [hcn]; exact hco)
    obtain ⟨_, c2, e2, l2, m2, _⟩ := own_slice (en := enX) (L := X) (fun _ => rfl) (by rw [him]; exact hix)
    injection e1 with _ e11 e12
    injection e2 with _ e21 e22
    unfold maxLen at m1 m2
    omega
  obtain ⟨hx1, hx2, hx3, hx4, hx5, hx6⟩ := hcmx
  clear h hco hix hcn him hBB hxB hnm hkey hS
  obtain ⟨x0, x1, x2, x3⟩ := box_cells HXB.out
  go_enter Tryz.func12, Tryz.ntmps12
  go_wp2_with fail
  clear x0 x1 x2 x3
  go_loopw [2] (fun v wr => ∃ (j : Nat), j ≤ cn ∧ v = .int .i64 j ∧ Hid (Turn S wB wr ∧ (∀ (i : Nat) (cs : Array Value) (t : TypeId), wB.heap[i]? = some (.cells cs t (0, 0)) → ∃ cs', wr.heap[i]? = some (.cells cs' t (0, 0)) ∧ cs'.size = cs.size ∧ (t ≠ 70 → cs' = cs)))) (fun v _ => cn - (intOf v).toNat)
  case atStart => exact ⟨0, Nat.zero_le _, rfl, Turn.refl _ _, fun _ cs _ h => ⟨cs, h, rfl, fun _ => rfl⟩⟩
  case round =>
    obtain ⟨j, hj, rfl, HQ⟩ := hrel
    obtain ⟨bx, hbx, _, hbe⟩ := HQ.out.2 _ _ _ HXB.out
    obtain rfl := hbe (by decide)
    obtain ⟨x0, x1, x2, x3⟩ := box_cells hbx
    clear hbx hbe
    by_cases hlt : j < cn
    · have hlI : (j : Int) < (cn : Int) := by omega
      obtain ⟨g, cur, hca, hg, hbase, hsz⟩ : ∃ g cur, ca = some ⟨g, 0, none⟩ ∧ wB.heap[g]? = some (.cells cur 70 (0, 0)) ∧ base ≤ g ∧ cn * 2 ≤ cur.size := by
        rcases HCB.out.2 with ⟨e, e2⟩ | ⟨g, cap, cur, e, hg, hc, h1, h2, h3, h4⟩
        · omega
        · injection e with e1 _ e3
          exact ⟨g, cur, e1, hc, hg, by omega⟩
      subst hca
      obtain ⟨cur', hc1, hc2, _⟩ := HQ.out.2 _ _ _ hg
      have l1 : j * 2 < cur'.size := by omega
      have l2 : j * 2 + 1 < cur'.size := by omega
      have q1 : wr.cell? ⟨g, j * 2, none⟩ = some cur'[j * 2] := by rw [cell_of hc1, Array.getElem?_eq_getElem l1]
      have q2 : wr.cell? ⟨g, j * 2 + 1, none⟩ = some cur'[j * 2 + 1] := by rw [cell_of hc1, Array.getElem?_eq_getElem l2]
      have f1 := frozen_of hc1 (j * 2)
      have f2 := frozen_of hc1 (j * 2 + 1)
      have HC1 : Hid (wr.heap[g]? = some (.cells cur' 70 (0, 0)) ∧ cur'.size = cur.size ∧ wB.heap[g]? = some (.cells cur 70 (0, 0)) ∧ base ≤ g) := ⟨hc1, hc2, hg, hbase⟩
      obtain ⟨z1, hz1⟩ : ∃ z, cur'[j * 2] = z := ⟨_, rfl⟩
      obtain ⟨z2, hz2⟩ : ∃ z, cur'[j * 2 + 1] = z := ⟨_, rfl⟩
      rw [hz1] at q1
      rw [hz2] at q2
      clear hc1 hc2 hg hbase hsz hz1 hz2 l1 l2
      go_wp2_with fail
      go_roundw
      case rel =>
        refine ⟨j + 1, by omega, by go_num, ?_, fun i cs t hi => ?_⟩
        · exact (HQ.out.1.trans (Turn.setCell wr ⟨g, j * 2, none⟩ _ (HSc.out g rfl))).trans (Turn.setCell _ ⟨g, j * 2 + 1, none⟩ _ (HSc.out g rfl))
        · obtain ⟨cs1, j1, j2, j3⟩ := HQ.out.2 i cs t hi
          by_cases e : i = g
          · subst e
            rw [HC1.out.2.2.1] at hi
            injection hi with hi
            injection hi with hi1 hi2
            subst hi1
            subst hi2
            refine ⟨_, heap_setCell_same (heap_setCell_same HC1.out.1 (j * 2) _) (j * 2 + 1) _, ?_, fun hn => absurd rfl hn⟩
            rw [Array.size_setIfInBounds, Array.size_setIfInBounds]
            exact HC1.out.2.1
          · refine ⟨cs1, ?_, j2, j3⟩
            rw [Below.heap_setCell _ _ _ i (fun e2 => e (by simpa using e2)), Below.heap_setCell _ _ _ i (fun e2 => e (by simpa using e2))]
            exact j1
      case measure => simp [intOf]; omega
    · have hlI : ¬ (j : Int) < (cn : Int) := by omega
      have HIR : Hid (wr.ownsRow base 64 3 (.slice ia im ic) im (flat enX X)) := by
        rcases HIB.out.2 with ⟨e, e2⟩ | ⟨g, cap, cur, e, hg, hc, r⟩
        · exact ⟨HIB.out.1, Or.inl ⟨e, e2⟩⟩
        · obtain ⟨cs', k1, k2, k3⟩ := HQ.out.2 _ _ _ hc
          obtain rfl := k3 (by decide)
          exact ⟨HIB.out.1, Or.inr ⟨g, cap, cs', e, hg, k1, r⟩⟩
      have HNR : Hid (∀ x ∈ X, NumsO wr base x) := fun x hx => by
        rcases (HNB.out x hx).2 with ⟨e, e2⟩ | ⟨g, cap, cur, e, hg, hc, r⟩
        · exact ⟨(HNB.out x hx).1, Or.inl ⟨e, e2⟩⟩
        · obtain ⟨cs', k1, k2, k3⟩ := HQ.out.2 _ _ _ hc
          obtain rfl := k3 (by decide)
          exact ⟨(HNB.out x hx).1, Or.inr ⟨g, cap, cs', e, hg, k1, r⟩⟩
      have HXR : Hid (wr.heap[xb]? = some (.cells #[.string nm, .slice ca cn cc, .int .i64 key, .slice ia im ic] 32 (0, 0))) := by
        obtain ⟨cs', k1, k2, k3⟩ := HQ.out.2 _ _ _ HXB.out
        obtain rfl := k3 (by decide)
        exact k1
      have HTw : Hid (Turn S w wr) := HBw.out.trans HQ.out.1
      clear HQ HIB HNB HXB HCB
      go_wp2_with fail
      clear x0 x1 x2 x3
      obtain ⟨wV, hwV⟩ : ∃ wV, wV = wr := ⟨_, rfl⟩
      rw [← hwV] at HIR HNR HXR HTw ⊢
      clear hwV
      go_loopw [3] (fun v wr => ∃ (j : Nat), j ≤ im ∧ v = .int .i64 j ∧ Hid (SpI S wV wr)) (fun v _ => im - (intOf v).toNat)
      case atStart => exact ⟨0, Nat.zero_le _, rfl, SpI.refl _ _⟩
      case round =>
        obtain ⟨j, hj, rfl, HQ⟩ := hrel
        obtain ⟨bx, hbx, _, hbe⟩ := HQ.out.keep _ _ _ HXR.out
        obtain rfl := hbe (by decide)
        obtain ⟨x0, x1, x2, x3⟩ := box_cells hbx
        clear hbx hbe
        by_cases hlt : j < im
        · have hlI : (j : Int) < (im : Int) := by omega
          obtain ⟨x, hx⟩ : ∃ x, X[j]? = some x := ⟨_, List.getElem?_eq_getElem (by rw [HIm.out]; exact hlt)⟩
          have H1 := HQ.out.nums (HNR.out x (List.mem_of_getElem? hx)) (HSx.out x (List.mem_of_getElem? hx))
          obtain ⟨xa, xc, hxv⟩ := own_shape (HNR.out x (List.mem_of_getElem? hx))
          obtain ⟨xn, hxn⟩ : ∃ xn, x.ix.cs.length = xn := ⟨_, rfl⟩
          rw [hxn] at hxv
          obtain ⟨g, hia, q1⟩ : ∃ g, ia = some ⟨g, 0, none⟩ ∧ wr.cell? ⟨g, j * 3 + 1, none⟩ = some x.v := by
            rcases HIR.out.2 with ⟨e, e2⟩ | ⟨g, cap, cur, e, hg, hc, h1, h2, h3, h4⟩
            · omega
            · injection e with e1 _ e3
              obtain ⟨cs', k1, k2, k3⟩ := HQ.out.keep _ _ _ hc
              obtain rfl := k3 (by decide)
              refine ⟨g, e1, ?_⟩
              rw [cell_of k1, ← Array.getElem?_toList]
              have hf := flat_get (en := enX) (m := 3) (fun _ => rfl) X j (by rw [HIm.out]; exact hlt) 1 (by omega)
              obtain ⟨hjl, he⟩ := List.getElem?_eq_some_iff.1 hx
              rw [he, ← h4, List.getElem?_take_of_lt (by omega)] at hf
              rw [show j * 3 + 1 = 3 * j + 1 by omega, hf]
              rfl
          subst hia
          rw [hxv] at H1 q1
          have H2 : Hid (Calls Tryz.prog 30 #[.slice xa xn xc, .int .i64 (-7)] wr fun e w' => e = .returned (.tuple #[]) ∧ Hid (SpI S wV w')) := H1
          clear hx hxv hxn H1
          go_wp2_with (go_at_call 30; go_must (refine H2.out.mono ?_; rintro e w3 ⟨rfl, K3⟩))
          go_roundw
          case rel => exact ⟨j + 1, by omega, by go_num, K3⟩
          case measure => simp [intOf]; omega
        · have hlI : ¬ (j : Int) < (im : Int) := by omega
          go_wp2_with fail
          go_end0
          exact ⟨rfl, HTw.out.trans HQ.out.turn⟩

end Go.Proofs.YtnboanlhdllhnaaGreat
