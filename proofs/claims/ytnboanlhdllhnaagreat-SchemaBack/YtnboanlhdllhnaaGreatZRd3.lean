/- mess: the reader's lists of indexes, and whole schemas. -/
import Derived.Test.YtnboanlhdllhnaaGreatZRd2
namespace Go.Proofs.YtnboanlhdllhnaaGreat
open Go.RowKit

abbrev NumsO (w : World) (base : Nat) (x : Iv) : Prop := w.ownsRow base 3 1 x.v x.ix.cs.length (flat enI x.ix.cs)
def ListX (b : Nat) (w : World) (p : List Ix × St) (e : Ending) (w' : World) : Prop :=
  ∃ a n c X, e = .returned (.slice a n c) ∧ Hid (n = X.length ∧ X.map Iv.ix = p.1 ∧ RdI b p.2 w' ∧ At1 b w w' ∧ w'.ownsRow w.heap.size 64 3 (.slice a n c) n (flat enX X) ∧ ∀ x ∈ X, NumsO w' w.heap.size x)

/-- the list of indexes, as far as it has come -/
structure XL (b : Nat) (w wr : World) (g N : Nat) (K : List Ix) (s : St) (X : List Iv) (j : Nat) : Prop where
  len : X.length = N
  eq : X.map Iv.ix = K
  rd : RdI b s wr
  at1 : At1 b w wr
  row : wr.heap[g]? = some (.cells (flat enX (partG noIv X j)).toArray 64 (0, 0))
  new : w.heap.size ≤ g
  nums : ∀ x ∈ partG noIv X j, NumsO wr w.heap.size x

section
variable {b : Nat} {s : St} {w : World}

set_option maxRecDepth 100000 in
set_option maxHeartbeats 1000000 in
theorem rlistX_any (h : RdI b s w) (hr : s.1.length ≤ 1000000) :
    Calls Tryz.prog 149 #[.pointer (some ⟨b, 0, none⟩), .func (.func 150) #[.pointer (some ⟨b, 0, none⟩)] #[]] w (ListX b w (rL rX s)) := by
  have hbl := lt_of h
  have H1 : Hid (Calls Tryz.prog 78 #[.pointer (some ⟨b, 0, none⟩)] w fun e w' => e = .returned (.int .i64 (rN s).1) ∧ Hid (RdI b (rN s).2 w' ∧ At1 b w w')) := rnumber_any h hr
  have H2 : Hid (∀ w1, RdI b (rN s).2 w1 ∧ At1 b w w1 → Calls Tryz.prog 130 #[.pointer (some ⟨b, 0, none⟩)] w1 fun e w' => e = .returned (.tuple #[]) ∧ Hid (RdI b ([], true) w' ∧ At1 b w w')) := fun w1 hu =>
    (rfail_any hu.1).mono fun e w' ⟨e1, e2, e3⟩ => ⟨e1, e2, hu.2.trans e3⟩
  have q1 := Nat.le_trans (less_num s) hr
  have H3 : Hid (∀ u j, RdI b (rRep rX j (rN s).2).2 u → Calls Tryz.prog 150 #[.pointer (some ⟨b, 0, none⟩)] u (IxR b u (rX (rRep rX j (rN s).2).2))) := fun u j hu => rindex_any hu (Nat.le_trans (less_rep less_ix j _) q1)
  obtain ⟨n, hn⟩ : ∃ n, (rN s).1 = n := ⟨_, rfl⟩
  have HN : Hid ((rN s).1 = n) := hn
  rw [hn] at H1
  clear h hn
  by_cases hc : 0 ≤ n ∧ n ≤ 4096
  · obtain ⟨c1, c2⟩ := hc
    obtain ⟨N, rfl⟩ := Int.eq_ofNat_of_zero_le c1
    have hm := fun u => make_ixs N (by omega) u
    obtain ⟨K, hK⟩ : ∃ K, (rRep rX N (rN s).2).1 = K := ⟨_, rfl⟩
    have HK : Hid (rL rX s = (K, (rRep rX N (rN s).2).2)) := by
      show _ = _
      unfold rL
      rw [HN.out, if_pos ⟨c1, c2⟩, show ((N : Int)).toNat = N from rfl, ← hK]
    have HKl : Hid (K.length = N) := by show _ = _; rw [← hK]; exact rRep_length _ _ _
    have HKa : Hid (∀ j, j < N → K[j]? = some (rX (rRep rX j (rN s).2).2).1) := fun j hj => by rw [← hK]; exact rRep_at _ _ _ _ hj
    have k1 : ¬ ((N : Int) < 0) := by omega
    have k2 : ¬ ((4096 : Int) < (N : Int)) := by omega
    clear hK
    go_enter Tryz.func149, Tryz.ntmps149
    go_wp2_with (go_at_call 78; go_must (refine H1.out.mono ?_; rintro e w1 ⟨rfl, K1⟩))
    obtain ⟨g, hg⟩ : ∃ g, w1.heap.size = g := ⟨_, rfl⟩
    obtain ⟨wA, hwA⟩ : ∃ wA, w1.alloc (.cells (flat enX (List.replicate N noIv)).toArray 64) = wA := ⟨_, rfl⟩
    have HA : Hid (XL b w wA g N K (rN s).2 (K.map fun k => ⟨k, .slice none 0 0⟩) 0) := by
      rw [← hwA, ← hg]
      refine ⟨by rw [List.length_map]; exact HKl.out, by rw [List.map_map]; exact List.map_id' _, K1.out.1.below ((Below.refl _ w1).alloc (Nat.le_refl _) _), K1.out.2.trans (Turn.alloc w1 _), ?_, K1.out.2.size, fun x hx => ?_⟩
      · rw [partG_zero, List.length_map, HKl.out]; exact heap_new w1 _
      · rw [partG_zero] at hx
        rw [List.eq_of_mem_replicate hx]; exact World.ownsRow_nil _ _ _ _
    rw [hg, hwA]
    clear hm hg hwA K1
    go_loopw [22] (fun v wr => ∃ (j : Nat) (X : List Iv), j ≤ N ∧ v = .int .i64 j ∧ Hid (XL b w wr g N K (rRep rX j (rN s).2).2 X j)) (fun v _ => N - (intOf v).toNat)
    case atStart => exact ⟨0, _, Nat.zero_le _, rfl, HA⟩
    case round =>
      clear HA
      obtain ⟨j, X, hj, rfl, HQ⟩ := hrel
      by_cases hlt : j < N
      · have hlI : (j : Int) < (N : Int) := by omega
        have hjl : j < X.length := by rw [HQ.out.len]; exact hlt
        have hgb : g ≠ b := by have := HQ.out.new; omega
        have hgl := lt_of HQ.out.row
        have HKj := HKa.out j hlt
        obtain ⟨⟨nm, cs, un⟩, hx⟩ : ∃ x, (rX (rRep rX j (rN s).2).2).1 = x := ⟨_, rfl⟩
        have H4 : Hid (Calls Tryz.prog 150 #[.pointer (some ⟨b, 0, none⟩)] wr fun e w' => ∃ a n c, e = .returned (.agg #[.string nm, .slice a n c, .bool un]) ∧ Hid (n = cs.length ∧ RdI b (rRep rX (j + 1) (rN s).2).2 w' ∧ At1 b wr w' ∧ w'.ownsRow wr.heap.size 3 1 (.slice a n c) n (flat enI cs))) := (H3.out wr j HQ.out.rd).mono fun e w' he => by
          unfold IxR at he
          rw [hx] at he
          rw [rRep_next]
          exact he
        rw [hx] at HKj
        have HKx : Hid (K[j]? = some ⟨nm, cs, un⟩) := HKj
        have HF : Hid (∀ u, At1 b wr u → u.heap[g]? = some (.cells (flat enX (partG noIv X j)).toArray 64 (0, 0))) := fun u hu => (hu.block g (lt_of HQ.out.row) hgb).trans HQ.out.row
        have HF2 : Hid (∀ u, At1 b wr u → u.cell? ⟨g, j * 3, none⟩ = some (.string ⟨#[]⟩) ∧ u.cell? ⟨g, j * 3 + 1, none⟩ = some (.slice none 0 0) ∧ u.cell? ⟨g, j * 3 + 2, none⟩ = some (.bool false) ∧ u.frozen? ⟨g, j * 3, none⟩ = false ∧ u.frozen? ⟨g, j * 3 + 1, none⟩ = false ∧ u.frozen? ⟨g, j * 3 + 2, none⟩ = false) := fun u hu => by
          have c := HF.out u hu
          exact ⟨rows_at (en := enX) (m := 3) (fun _ => rfl) c (partG_at hjl) (i := 0) rfl, rows_at (en := enX) (m := 3) (fun _ => rfl) c (partG_at hjl) (i := 1) rfl, rows_at (en := enX) (m := 3) (fun _ => rfl) c (partG_at hjl) (i := 2) rfl, frozen_of c _, frozen_of c _, frozen_of c _⟩
        have hjN2 : j * 3 + 2 < N * 3 := by omega
        clear HKj hx hjl hgl
        go_wp2_with (go_at_call 150; go_must (refine H4.out.mono ?_; rintro e w2 ⟨a, n, c, rfl, K2⟩; obtain ⟨v1, v2, v3, v4, v5, v6⟩ := HF2.out _ K2.out.2.2.1))
        go_roundw
        case rel =>
          refine ⟨j + 1, X.set j ⟨⟨nm, cs, un⟩, .slice a n c⟩, by omega, by go_num, ?_⟩
          have hjl : j < X.length := by rw [HQ.out.len]; exact hlt
          have hjk : j < K.length := by rw [HKl.out]; exact hlt
          have hgl := lt_of HQ.out.row
          have ht : Turn (fun i => i = g) w2 (((w2.setCell ⟨g, j * 3, none⟩ (.string nm)).setCell ⟨g, j * 3 + 1, none⟩ (.slice a n c)).setCell ⟨g, j * 3 + 2, none⟩ (.bool un)) := ((Turn.setCell (S := fun i => i = g) w2 ⟨g, j * 3, none⟩ _ rfl).trans (Turn.setCell _ ⟨g, j * 3 + 1, none⟩ _ rfl)).trans (Turn.setCell _ ⟨g, j * 3 + 2, none⟩ _ rfl)
          have hs := setX_heap (HF.out _ K2.out.2.2.1) (j := j) (by rw [partG_length (by omega)]; exact hjl) ⟨⟨nm, cs, un⟩, .slice a n c⟩
          have hpn : (partG noIv X j).set j ⟨⟨nm, cs, un⟩, .slice a n c⟩ = partG noIv (X.set j ⟨⟨nm, cs, un⟩, .slice a n c⟩) (j + 1) := by
            have := partG_next (z := noIv) (K := X.set j ⟨⟨nm, cs, un⟩, .slice a n c⟩) (j := j) (by rw [List.length_set]; exact hjl)
            rw [List.getElem_set_self] at this
            rw [← this]
            unfold partG
            rw [List.length_set, List.take_set_of_le (Nat.le_refl j)]
          refine ⟨by rw [List.length_set]; exact HQ.out.len, ?_, (ht.block b (lt_of K2.out.2.1) (Ne.symm hgb)).trans K2.out.2.1, (HQ.out.at1.trans K2.out.2.2.1).transNew ht (fun i hi => Or.inr (by have := HQ.out.new; omega)), by rw [← hpn]; exact hs, HQ.out.new, fun x hx => ?_⟩
          · rw [List.map_set, HQ.out.eq]
            have hkj : K[j] = ⟨nm, cs, un⟩ := by have := HKx.out; rw [List.getElem?_eq_getElem hjk] at this; exact Option.some.inj this
            show K.set j ⟨nm, cs, un⟩ = K
            rw [← hkj, List.set_getElem_self]
          · rw [← hpn] at hx
            have hrow : NumsO w2 w.heap.size x ∧ ∀ g', x.v.ownBlock = some g' → g' ≠ g := by
              rcases List.mem_or_eq_of_mem_set hx with h | h
              · have h1 := own_at1 (HQ.out.nums x h) K2.out.2.2.1 (by omega)
                refine ⟨h1, fun g' hg' e => ?_⟩
                obtain ⟨cur, hc, _⟩ := ownsRow_own h1 hg'
                rw [e, HF.out _ K2.out.2.2.1] at hc
                simp at hc
              · rw [h]
                have h1 := K2.out.2.2.2
                rw [K2.out.1] at h1
                have h2 : NumsO w2 wr.heap.size ⟨⟨nm, cs, un⟩, .slice a n c⟩ := by
                  show World.ownsRow _ _ _ _ _ cs.length _
                  rw [K2.out.1]
                  exact h1
                exact ⟨ownsRow_low h2 HQ.out.at1.size, fun g' hg' e => by have := (World.ownsRow.lt h2 g' hg').1; omega⟩
            exact ownsRow_block hrow.1 fun g' hg' => ht.block g' (World.ownsRow.lt hrow.1 g' hg').2 (hrow.2 g' hg')
        case measure => simp [intOf]; omega
      · have hlI : ¬ (j : Int) < (N : Int) := by omega
        go_wp2
        go_ret
        show ListX _ _ _ _ _
        rw [HK.out]
        have hq := HQ.out
        rw [show j = N by omega] at hq
        have e := hq.len
        have g3 := hq.row
        have g5 := hq.nums
        have hpa : partG noIv X N = X := by rw [← e]; exact partG_all
        rw [hpa] at g3 g5
        refine ⟨_, _, _, X, rfl, e.symm, hq.eq, hq.rd, hq.at1, ?_, g5⟩
        exact row_made (en := enX) (m := 3) (fun _ => rfl) e (by omega) g3 hq.new
  · have HK : Hid (rL rX s = ([], ([], true))) := by
      show _ = _
      unfold rL
      rw [HN.out, if_neg hc]
    by_cases h0 : n < 0
    · go_enter Tryz.func149, Tryz.ntmps149
      go_wp2_with (first
        | (go_at_call 78; go_must (refine H1.out.mono ?_; rintro e w1 ⟨rfl, K1⟩))
        | (go_at_call 130; go_must (refine (H2.out _ K1.out).mono ?_; rintro e w2 ⟨rfl, K2⟩)))
      go_ret
      show ListX _ _ _ _ _
      rw [HK.out]
      exact ⟨none, 0, 0, [], rfl, rfl, rfl, K2.out.1, K2.out.2, World.ownsRow_nil _ _ _ _, (fun _ h => by cases h)⟩
    · have h1 : (4096 : Int) < n := by omega
      go_enter Tryz.func149, Tryz.ntmps149
      go_wp2_with (first
        | (go_at_call 78; go_must (refine H1.out.mono ?_; rintro e w1 ⟨rfl, K1⟩))
        | (go_at_call 130; go_must (refine (H2.out _ K1.out).mono ?_; rintro e w2 ⟨rfl, K2⟩)))
      go_ret
      show ListX _ _ _ _ _
      rw [HK.out]
      exact ⟨none, 0, 0, [], rfl, rfl, rfl, K2.out.1, K2.out.2, World.ownsRow_nil _ _ _ _, (fun _ h => by cases h)⟩

/-- what a reader of schemas answers -/
def TabR (b : Nat) (w : World) (p : Tab × St) (e : Ending) (w' : World) : Prop :=
  ∃ ca cn cc ia n ic X, e = .returned (.agg #[.string p.1.nm, .slice ca cn cc, .int .i64 p.1.key, .slice ia n ic]) ∧ Hid (RdI b p.2 w' ∧ At1 b w w' ∧ TabO w' w.heap.size (.slice ca cn cc) (.slice ia n ic) X p.1)

theorem TabO.at1 {w w' : World} {base b : Nat} {cv iv : Value} {X : List Iv} {T : Tab} (h : TabO w base cv iv X T) (ht : At1 b w w') (hb : b < base) : TabO w' base cv iv X T :=
  ⟨own_at1 h.co ht hb, own_at1 h.ix ht hb, h.eq, fun x hx => own_at1 (h.nums x hx) ht hb⟩

set_option maxRecDepth 100000 in
set_option maxHeartbeats 2000000 in
theorem rtable_any (h : RdI b s w) (hr : s.1.length ≤ 1000000) :
    Calls Tryz.prog 132 #[.pointer (some ⟨b, 0, none⟩)] w (TabR b w (rTb s)) := by
  have hbl := lt_of h
  have h0 : RdI b s (w.alloc tabZ) := h.below ((Below.refl _ w).alloc (Nat.le_refl _) _)
  have HX : Hid (∀ u, At1 b (w.alloc tabZ) u → u.heap[w.heap.size]? = some tabZ) := fun u hu => (hu.block _ (by simp) (by omega)).trans (heap_new w _)
  have hsz : (w.alloc tabZ).heap.size = w.heap.size + 1 := by simp
  have q1 := Nat.le_trans (less_text s) hr
  have q2 := Nat.le_trans (less_list less_col (rT s).2) q1
  have q3 := Nat.le_trans (less_num (rL rC (rT s).2).2) q2
  obtain ⟨s1, hs1⟩ : ∃ s1, (rT s).2 = s1 := ⟨_, rfl⟩
  obtain ⟨s2, hs2⟩ : ∃ s2, (rL rC s1).2 = s2 := ⟨_, rfl⟩
  obtain ⟨s3, hs3⟩ : ∃ s3, (rN s2).2 = s3 := ⟨_, rfl⟩
  obtain ⟨s4, hs4⟩ : ∃ s4, (rL rX s3).2 = s4 := ⟨_, rfl⟩
  rw [hs1] at q1 q2 q3
  rw [hs2] at q2 q3
  rw [hs3] at q3
  have H1 : Hid (Calls Tryz.prog 131 #[.pointer (some ⟨b, 0, none⟩)] (w.alloc tabZ) fun e w' => e = .returned (.string (rT s).1) ∧ Hid (RdI b s1 w' ∧ At1 b (w.alloc tabZ) w')) := by rw [← hs1]; exact rtext_any h0 hr
  have H2 : Hid (∀ u, RdI b s1 u ∧ At1 b (w.alloc tabZ) u → Calls Tryz.prog 147 #[.pointer (some ⟨b, 0, none⟩), .func (.func 148) #[.pointer (some ⟨b, 0, none⟩)] #[]] u fun e w' => ∃ a n c, e = .returned (.slice a n c) ∧ Hid (n = (rL rC s1).1.length ∧ RdI b s2 w' ∧ At1 b (w.alloc tabZ) w' ∧ w'.ownsRow (w.heap.size + 1) 70 2 (.slice a n c) n (flat enC (rL rC s1).1))) := fun u hu =>
    (rlistC_any hu.1 q1).mono fun e w' ⟨a, n, c, e1, e2⟩ => ⟨a, n, c, e1, e2.out.1, by rw [← hs2]; exact e2.out.2.1, hu.2.trans e2.out.2.2.1, ownsRow_low e2.out.2.2.2 (by have := hu.2.size; omega)⟩
  have H3 : Hid (∀ u, RdI b s2 u → Calls Tryz.prog 78 #[.pointer (some ⟨b, 0, none⟩)] u fun e w' => e = .returned (.int .i64 (rN s2).1) ∧ Hid (RdI b s3 w' ∧ At1 b u w')) := fun u hu => by rw [← hs3]; exact rnumber_any hu q2
  have H4 : Hid (∀ u, RdI b s3 u ∧ At1 b (w.alloc tabZ) u → Calls Tryz.prog 149 #[.pointer (some ⟨b, 0, none⟩), .func (.func 150) #[.pointer (some ⟨b, 0, none⟩)] #[]] u fun e w' => ∃ a n c, e = .returned (.slice a n c) ∧ Hid (∃ X, n = X.length ∧ X.map Iv.ix = (rL rX s3).1 ∧ RdI b s4 w' ∧ At1 b u w' ∧ w'.ownsRow (w.heap.size + 1) 64 3 (.slice a n c) n (flat enX X) ∧ ∀ x ∈ X, NumsO w' (w.heap.size + 1) x)) := fun u hu =>
    (rlistX_any hu.1 q3).mono fun e w' ⟨a, n, c, X, e1, e2⟩ => ⟨a, n, c, e1, X, e2.out.1, e2.out.2.1, by rw [← hs4]; exact e2.out.2.2.1, e2.out.2.2.2.1, ownsRow_low e2.out.2.2.2.2.1 (by have := hu.2.size; omega), fun x hx => ownsRow_low (e2.out.2.2.2.2.2 x hx) (by have := hu.2.size; omega)⟩
  obtain ⟨nm, hnm⟩ : ∃ nm, (rT s).1 = nm := ⟨_, rfl⟩
  obtain ⟨key, hkey⟩ : ∃ key, (rN s2).1 = key := ⟨_, rfl⟩
  obtain ⟨C, hC⟩ : ∃ C, (rL rC s1).1 = C := ⟨_, rfl⟩
  obtain ⟨I, hI⟩ : ∃ I, (rL rX s3).1 = I := ⟨_, rfl⟩
  have HE : Hid (rTb s = (⟨nm, C, key, I⟩, s4)) := by show _ = _; unfold rTb; rw [hs1, hs2, hs3, hs4, hnm, hkey, hC, hI]
  rw [hnm] at H1
  rw [hkey] at H3
  rw [hC] at H2
  rw [hI] at H4
  have HC : Hid (∀ u, At1 b (w.alloc tabZ) u → u.cell? ⟨w.heap.size, 0, none⟩ = some (.string ⟨#[]⟩) ∧ u.cell? ⟨w.heap.size, 1, none⟩ = some (.slice none 0 0) ∧ u.cell? ⟨w.heap.size, 2, none⟩ = some (.int .i64 0) ∧ u.cell? ⟨w.heap.size, 3, none⟩ = some (.slice none 0 0) ∧ u.frozen? ⟨w.heap.size, 0, none⟩ = false ∧ u.frozen? ⟨w.heap.size, 1, none⟩ = false ∧ u.frozen? ⟨w.heap.size, 2, none⟩ = false ∧ u.frozen? ⟨w.heap.size, 3, none⟩ = false) := fun u hu => by
    have k := HX.out u hu
    exact ⟨by rw [cell_of k]; rfl, by rw [cell_of k]; rfl, by rw [cell_of k]; rfl, by rw [cell_of k]; rfl, frozen_of k 0, frozen_of k 1, frozen_of k 2, frozen_of k 3⟩
  clear h h0 hnm hkey hC hI hs1 hs2 hs3 hs4 q1 q2 q3
  go_enter Tryz.func132, Tryz.ntmps132
  go_wp2_with (first
    | (go_at_call 131; go_must (refine H1.out.mono ?_; rintro e w1 ⟨rfl, K1⟩))
    | (go_at_call 147; go_must (refine (H2.out _ K1.out).mono ?_; rintro e w2 ⟨ca, cn, cc, rfl, K2⟩))
    | (go_at_call 78; go_must (refine (H3.out _ K2.out.2.1).mono ?_; rintro e w3 ⟨rfl, K3⟩; have A3 : Hid (At1 b (w.alloc tabZ) w3) := K2.out.2.2.1.trans K3.out.2))
    | (go_at_call 149; go_must (refine (H4.out _ ⟨K3.out.1, A3.out⟩).mono ?_; rintro e w4 ⟨ia, n, ic, rfl, K4⟩; have A4 : Hid (At1 b (w.alloc tabZ) w4 ∧ At1 b w2 w4) := (by obtain ⟨X, _, _, _, h, _⟩ := K4.out; exact ⟨A3.out.trans h, K3.out.2.trans h⟩); obtain ⟨c0, c1, c2, c3, c4, c5, c6, c7⟩ := HC.out _ A4.out.1)))
  have hk := HX.out w4 A4.out.1
  have i0 : (w4.setCell ⟨w.heap.size, 0, none⟩ (.string nm)).cell? ⟨w.heap.size, 0, none⟩ = some (.string nm) := by rw [cell_of (heap_setCell_same hk 0 _)]; rfl
  have i1 : ∀ x, ((w4.setCell ⟨w.heap.size, 0, none⟩ x).setCell ⟨w.heap.size, 1, none⟩ (.slice ca cn cc)).cell? ⟨w.heap.size, 1, none⟩ = some (.slice ca cn cc) := fun x => by rw [cell_of (heap_setCell_same (heap_setCell_same hk 0 _) 1 _)]; rfl
  have i2 : ∀ x y, (((w4.setCell ⟨w.heap.size, 0, none⟩ x).setCell ⟨w.heap.size, 1, none⟩ y).setCell ⟨w.heap.size, 2, none⟩ (.int .i64 key)).cell? ⟨w.heap.size, 2, none⟩ = some (.int .i64 key) := fun x y => by rw [cell_of (heap_setCell_same (heap_setCell_same (heap_setCell_same hk 0 _) 1 _) 2 _)]; rfl
  have i3 : ∀ x y z, ((((w4.setCell ⟨w.heap.size, 0, none⟩ x).setCell ⟨w.heap.size, 1, none⟩ y).setCell ⟨w.heap.size, 2, none⟩ z).setCell ⟨w.heap.size, 3, none⟩ (.slice ia n ic)).cell? ⟨w.heap.size, 3, none⟩ = some (.slice ia n ic) := fun x y z => by rw [cell_of (heap_setCell_same (heap_setCell_same (heap_setCell_same (heap_setCell_same hk 0 _) 1 _) 2 _) 3 _)]; rfl
  refine bodyPost_ret (by simp [results, Tryz.results132, go_sem, i0, i1, i2, i3]; rfl) rfl ?_
  have ht := set4_turn w4 w.heap.size (.string nm) (.slice ca cn cc) (.int .i64 key) (.slice ia n ic)
  show TabR _ _ _ _ _
  rw [HE.out]
  obtain ⟨X, x1, x2, x3, x4, x5, x6⟩ := K4.out
  have hco := own_at1 K2.out.2.2.2 A4.out.2 (by omega)
  refine ⟨ca, cn, cc, ia, n, ic, X, rfl, (ht.block b (lt_of x3) (by omega)).trans x3, ((Turn.alloc w _).trans A4.out.1).transNew ht (fun i hi => Or.inr (by omega)), ?_⟩
  have e1 := K2.out.1
  have fr : ∀ {T : TypeId} {m k : Nat} {v : Value} {xs : List Value}, w4.ownsRow (w.heap.size + 1) T m v k xs → (set4 w4 w.heap.size (.string nm) (.slice ca cn cc) (.int .i64 key) (.slice ia n ic)).ownsRow w.heap.size T m v k xs := fun hrow =>
    ownsRow_low (ownsRow_block hrow fun g hg => ht.block g (World.ownsRow.lt hrow g hg).2 (by have := (World.ownsRow.lt hrow g hg).1; omega)) (by omega)
  refine ⟨?_, ?_, x2, fun x hx => fr (x6 x hx)⟩
  · have := fr hco
    rw [e1] at this
    rw [e1]
    exact this
  · have := fr x5
    rw [x1] at this
    rw [x1]
    exact this
end

end Go.Proofs.YtnboanlhdllhnaaGreat
