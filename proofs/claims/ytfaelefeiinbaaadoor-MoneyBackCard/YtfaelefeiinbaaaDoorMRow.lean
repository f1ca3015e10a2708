/- Layer 22: rows of numbers of a call's own; what is left is dealt out, cent by cent. -/
import Derived.Test.YtfaelefeiinbaaaDoorMPriceC
import Derived.Laws.MakeOwn
import Derived.Handy
namespace Go.Proofs.YtfaelefeiinbaaaDoor
open Go.RowKit MP

abbrev en1 : Int → List Value := fun x => [Value.int .i64 x]
/-- the block g opens with the numbers X -/
def RowG (w : World) (g : Nat) (X : List Int) : Prop := ∃ cur : Array Value, w.heap[g]? = some (.cells cur 3 (0, 0)) ∧ cur.toList.take X.length = flat en1 X
theorem flat_len (X : List Int) : (flat en1 X).length = X.length := by rw [flat_length (m := 1) (fun _ => rfl), Nat.one_mul]
theorem RowG.cell {w : World} {g : Nat} {X : List Int} (h : RowG w g X) {i : Nat} {x : Int} (hx : X[i]? = some x) : w.cell? ⟨g, i, none⟩ = some (.int .i64 x) := by
  obtain ⟨cur, h1, h2⟩ := h
  obtain ⟨hi, he⟩ := List.getElem?_eq_some_iff.1 hx
  have h3 := flat_get (en := en1) (m := 1) (fun _ => rfl) X i hi 0 (by omega)
  rw [← h2, Nat.one_mul, Nat.add_zero, List.getElem?_take_of_lt hi] at h3
  rw [cell_of h1, ← Array.getElem?_toList, h3, he]
  rfl
theorem RowG.frozen {w : World} {g : Nat} {X : List Int} (h : RowG w g X) (i : Nat) : w.frozen? ⟨g, i, none⟩ = false := by
  obtain ⟨cur, h1, _⟩ := h
  exact frozen_of h1 i
theorem RowG.lt {w : World} {g : Nat} {X : List Int} (h : RowG w g X) : g < w.heap.size := by
  obtain ⟨cur, h1, _⟩ := h
  exact lt_of h1
theorem RowG.set {w : World} {g : Nat} {X : List Int} (h : RowG w g X) {i : Nat} (hi : i < X.length) (y : Int) : RowG (w.setCell ⟨g, i, none⟩ (.int .i64 y)) g (X.set i y) := by
  obtain ⟨cur, h1, h2⟩ := h
  refine ⟨_, heap_setCell_same h1 i _, ?_⟩
  have h3 := flat_set (en := en1) (m := 1) (fun _ => rfl) X i hi 0 (.int .i64 y) y (by omega) rfl
  rw [Nat.one_mul, Nat.add_zero] at h3
  rw [List.length_set, ← h3, ← h2, Array.toList_setIfInBounds, List.take_set]
theorem RowG.same {w w' : World} {g : Nat} {X : List Int} (h : RowG w g X) (hb : w'.heap[g]? = w.heap[g]?) : RowG w' g X := by
  obtain ⟨cur, h1, h2⟩ := h
  exact ⟨cur, hb.trans h1, h2⟩
theorem RowG.below {w w' : World} {g : Nat} {X : List Int} (h : RowG w g X) (hb : Below w.heap.size w w') : RowG w' g X := h.same (hb.block g h.lt)
theorem RowG.ints {w : World} {g c : Nat} {X : List Int} (h : RowG w g X) (h1 : X.length ≤ c) (h2 : c ≤ maxLen) : IntsAt w (.slice (some ⟨g, 0, none⟩) X.length c) X := by
  obtain ⟨cur, h3, h4⟩ := h
  exact sliceAt_flat (en := en1) (n := 1) (fun _ => rfl) h3 (by rw [Nat.mul_one]; exact h4) h1 h2

theorem infoI : (Tryd.prog.info? 3).map (fun i => (i.zero, i.size, i.bytes)) = some (some (.int .i64 0), 1, 8) := by kernel_rfl
theorem make_ints (n : Nat) (hn : n ≤ 100000) : ∃ M : Array Value, M.toList = flat en1 (List.replicate n 0) ∧ ∀ w : World, (Instr.makeSlice 29 (.int .i64 (n : Int)) (.int .i64 (n : Int))).run Tryd.prog w = .ok (.slice (some ⟨w.heap.size, 0, none⟩) n n) (w.alloc (.cells M 3)) := by
  obtain ⟨i0, hi, hz0, hz1, hz2⟩ := info_parts infoI
  have ef : ∀ X : List Int, flat en1 X = X.map (Value.int .i64) := fun X => by
    induction X with
    | nil => rfl
    | cons x X ih => rw [flat_cons, ih]; rfl
  refine ⟨madeCells (Value.int .i64 0).cells (((n : Nat) : Int).toNat * i0.size), ?_, fun W => ?_⟩
  · rw [hz1, ef]
    apply List.ext_getElem
    · simp [size_madeCells]
    · intro j h1 h2
      simp [madeCells, Value.cells, Nat.mod_one]
  · have h := run_make (P := Tryd.prog) W 29 3 i0 (.int .i64 0) Tryd.underlying29 hi hz0 .i64 .i64 (n : Int) (n : Int) (by omega) (by omega) (by rw [hz2]; omega) (by omega)
    simpa using h

theorem giveI_bound {a : Int} {W : List Int} (h : okW W = true) (ha : may a = true) {j n : Nat} {y : Int} (hy : (giveI a W j)[n]? = some y) : -2000000000000000 ≤ y ∧ y ≤ 2000000000000000 := by
  rw [may_iff] at ha
  unfold giveI at hy
  rw [List.getElem?_map] at hy
  obtain ⟨x, hx, rfl⟩ := Option.map_eq_some_iff.1 hy
  obtain ⟨h3, rfl⟩ := List.getElem?_eq_some_iff.1 hx
  have hl := give_length j (nat W) _ (base_length a.natAbs (sumN (nat W)) (nat W))
  have h1 : n < (nat W).length := by omega
  have h2 : n < (bases a.natAbs (sumN (nat W)) (nat W)).length := by rw [base_length]; exact h1
  have k := (give_at j (nat W) _ n h1 h2 h3).2.2
  have k2 := sum_ge _ n h2
  have k3 := (left_sg (a := a) h).2.2.2
  unfold sg
  split <;> omega

set_option maxRecDepth 100000 in
set_option maxHeartbeats 1000000 in
theorem deal_up (a : Int) (v : Value) (W : List Int) (g c m : Nat) (w0 w : World) (hv : IntsAt w0 v W) (hb : Below w0.heap.size w0 w) (hg : w0.heap.size ≤ g) (hrow : RowG w g (giveI a W 0)) (hok : okW W = true) (ha : may a = true) (hm : m = leftN a W) (hcent : 0 < m → (if a < 0 then (-1 : Int) else 1) = 1) :
    Calls Tryd.prog 40 #[.int .i64 ((m : Int)), .slice (some ⟨g, 0, none⟩) W.length c, v] w fun e w' => e = .returned (.tuple #[]) ∧ Below w0.heap.size w0 w' ∧ RowG w' g (sharesI a W) := by
  obtain ⟨a1, c1, rfl, hl, hc, hx⟩ := hv
  have HX : Hid (W ≠ [] → ∃ b off, a1 = some ⟨b, off, none⟩ ∧ b < w0.heap.size ∧ ∀ i, (h : i < W.length) → ∀ (j : Nat) (u : Value), ([Value.int .i64 W[i]])[j]? = some u → w0.cell? ⟨b, off + i * 1 + j, none⟩ = some u) := hx
  have hleft := left_sg (a := a) hok
  have HL : Hid (m < cnt (nat W)) := by show _ < _; rw [hm]; exact hleft.2.1
  have hm1 : m ≤ 1000 := by rw [hm]; exact hleft.2.2.1
  have hlen : W.length ≤ 1000 := ((okW_iff W).1 hok).2.1
  have HE : Hid (giveI a W m = sharesI a W) := by show _ = _; rw [hm]; exact giveI_left a W
  have HR : Hid (W.all isRate = true) := ((okW_iff W).1 hok).2.2.1
  have HB0 : Hid (Below w0.heap.size w0 w) := hb
  have HG0 : Hid (RowG w g (giveI a W 0)) := hrow
  have HOk : Hid (okW W = true) := hok
  have HMa : Hid (may a = true) := ha
  have HG : Hid (w0.heap.size ≤ g) := hg
  have HCent : Hid (0 < m → (if a < 0 then (-1 : Int) else 1) = 1) := hcent
  unfold maxLen at hc
  clear hx hleft hm hb hrow hok ha hg hcent
  go_enter Tryd.func40, Tryd.ntmps40
  go_wp2_with fail
  go_loopw [7, 13] (fun nv i wr => ∃ (j n : Nat), j ≤ m ∧ i = .int .i64 j ∧ nv = .int .i64 n ∧ n ≤ W.length ∧ Hid (cnt ((nat W).take n) = j) ∧ Hid (Below w0.heap.size w0 wr) ∧ Hid (RowG wr g (giveI a W j))) (fun _ i _ => m - (intOf i).toNat)
  case atStart => exact ⟨0, 0, Nat.zero_le _, rfl, rfl, Nat.zero_le _, (rfl : _ = _), HB0, HG0⟩
  case round =>
    clear HB0 HG0
    obtain ⟨j, n, hj, rfl, rfl, hn, HN, HB, HRow⟩ := hrel
    by_cases hlt : j < m
    · have hlI : (j : Int) < (m : Int) := by omega
      go_wp2_with fail
      go_loop [7] (fun nv => ∃ n : Nat, nv = .int .i64 n ∧ n ≤ W.length ∧ Hid (cnt ((nat W).take n) = j)) (fun nv => W.length - (intOf nv).toNat)
      case atStart => exact ⟨n, rfl, hn, HN⟩
      case round =>
        clear HN hn
        obtain ⟨n, rfl, hn, HN⟩ := hrel
        have hnl : n < W.length := by
          have := cnt_take_lt (ws := nat W) (n := n) (by rw [HN.out]; exact Nat.lt_trans hlt HL.out)
          rw [nat_length] at this
          exact this
        have hnI : (n : Int) < (W.length : Int) := by omega
        have hne : W ≠ [] := by intro e; rw [e] at hnl; simp at hnl
        obtain ⟨b, off, rfl, hbl, hcs⟩ := HX.out hne
        obtain ⟨x, hxe⟩ : ∃ x, W[n] = x := ⟨_, rfl⟩
        have q0 := hcs n hnl 0 _ rfl
        rw [hxe, Nat.mul_one, Nat.add_zero] at q0
        have q := (HB.out.cell (p := ⟨b, off + n, none⟩) hbl).trans q0
        have hxr := (isRate_iff x).1 (List.all_eq_true.1 HR.out x (hxe ▸ List.getElem_mem hnl))
        have h' : n < (nat W).length := by rw [nat_length]; exact hnl
        have HC1 : Hid (cnt ((nat W).take (n + 1)) = j + (if x = 0 then 0 else 1)) := by
          show _ = _
          have e1 : ((nat W)[n] = 0) = (x = 0) := by rw [nat_at hnl h', hxe]; exact propext (by omega)
          rw [cnt_take_succ h', HN.out]
          simp only [e1]
        by_cases hx0 : x = 0
        · subst hx0
          have HC2 : Hid (cnt ((nat W).take (n + 1)) = j) := HC1.out
          clear hcs hxe hne hxr q0 h' HC1
          go_wp2_with fail
          go_round
          case rel => exact ⟨n + 1, by go_num, by omega, HC2⟩
          case measure => simp [intOf]; omega
        · have hxp : 0 < x := by omega
          have HC2 : Hid (cnt ((nat W).take (n + 1)) = j + 1) := by
            have := HC1.out
            rw [if_neg hx0] at this
            exact this
          have hgl : n < (giveI a W j).length := by rw [giveI_length]; exact hnl
          obtain ⟨y, hy⟩ : ∃ y, (giveI a W j)[n]? = some y := ⟨_, List.getElem?_eq_getElem hgl⟩
          have hyb := giveI_bound HOk.out HMa.out hy
          have p1 := HRow.out.cell hy
          have p2 := HRow.out.frozen n
          have HNx : Hid (giveI a W (j + 1) = (giveI a W j).set n (y + 1)) := by
            have := giveI_next (a := a) hnl (by rw [hxe]; exact hxp) (y := y) (by rw [HN.out]; exact hy)
            rw [HN.out, HCent.out (by omega)] at this
            exact this
          have HRn : Hid (∀ u, RowG u g (giveI a W j) → RowG (u.setCell ⟨g, n, none⟩ (.int .i64 (y + 1))) g (giveI a W (j + 1))) := fun u hu => by
            rw [HNx.out]
            exact hu.set hgl _
          have wy : IntKind.i64.wrap (y + 1) = y + 1 := wrapI (by omega) (by omega)
          clear hcs hxe hne hxr q0 h' HC1 hyb hy hgl HNx
          go_wp2_with fail
          go_roundw
          case rel => exact ⟨j + 1, n + 1, by omega, by go_num, by go_num, by omega, HC2, HB.out.setCell (p := ⟨g, n, none⟩) HG.out _, HRn.out _ HRow.out⟩
          case measure => simp [intOf]; omega
    · obtain rfl : j = m := by omega
      go_wp2_with fail
      go_returns
      exact ⟨rfl, HB.out, HE.out ▸ HRow.out⟩

set_option maxRecDepth 100000 in
set_option maxHeartbeats 1000000 in
theorem deal_down (a : Int) (v : Value) (W : List Int) (g c m : Nat) (w0 w : World) (hv : IntsAt w0 v W) (hb : Below w0.heap.size w0 w) (hg : w0.heap.size ≤ g) (hrow : RowG w g (giveI a W 0)) (hok : okW W = true) (ha : may a = true) (hm : m = leftN a W) (hcent : 0 < m → (if a < 0 then (-1 : Int) else 1) = -1) (hpos : 0 < m) :
    Calls Tryd.prog 40 #[.int .i64 (-(m : Int)), .slice (some ⟨g, 0, none⟩) W.length c, v] w fun e w' => e = .returned (.tuple #[]) ∧ Below w0.heap.size w0 w' ∧ RowG w' g (sharesI a W) := by
  obtain ⟨a1, c1, rfl, hl, hc, hx⟩ := hv
  have HX : Hid (W ≠ [] → ∃ b off, a1 = some ⟨b, off, none⟩ ∧ b < w0.heap.size ∧ ∀ i, (h : i < W.length) → ∀ (j : Nat) (u : Value), ([Value.int .i64 W[i]])[j]? = some u → w0.cell? ⟨b, off + i * 1 + j, none⟩ = some u) := hx
  have hleft := left_sg (a := a) hok
  have HL : Hid (m < cnt (nat W)) := by show _ < _; rw [hm]; exact hleft.2.1
  have hm1 : m ≤ 1000 := by rw [hm]; exact hleft.2.2.1
  have hlen : W.length ≤ 1000 := ((okW_iff W).1 hok).2.1
  have HE : Hid (giveI a W m = sharesI a W) := by show _ = _; rw [hm]; exact giveI_left a W
  have HR : Hid (W.all isRate = true) := ((okW_iff W).1 hok).2.2.1
  have HB0 : Hid (Below w0.heap.size w0 w) := hb
  have HG0 : Hid (RowG w g (giveI a W 0)) := hrow
  have HOk : Hid (okW W = true) := hok
  have HMa : Hid (may a = true) := ha
  have HG : Hid (w0.heap.size ≤ g) := hg
  have HCent : Hid (0 < m → (if a < 0 then (-1 : Int) else 1) = -1) := hcent
  have HP : Hid (0 < m) := hpos
  unfold maxLen at hc
  clear hpos
  clear hx hleft hm hb hrow hok ha hg hcent
  have hmn : -(m : Int) < 0 := by have := HP.out; omega
  go_enter Tryd.func40, Tryd.ntmps40
  go_wp2_with fail
  go_loopw [7, 13] (fun nv i wr => ∃ (j n : Nat), j ≤ m ∧ i = .int .i64 j ∧ nv = .int .i64 n ∧ n ≤ W.length ∧ Hid (cnt ((nat W).take n) = j) ∧ Hid (Below w0.heap.size w0 wr) ∧ Hid (RowG wr g (giveI a W j))) (fun _ i _ => m - (intOf i).toNat)
  case atStart => exact ⟨0, 0, Nat.zero_le _, rfl, rfl, Nat.zero_le _, (rfl : _ = _), HB0, HG0⟩
  case round =>
    clear HB0 HG0
    obtain ⟨j, n, hj, rfl, rfl, hn, HN, HB, HRow⟩ := hrel
    by_cases hlt : j < m
    · have hlI : (j : Int) < (m : Int) := by omega
      go_wp2_with fail
      go_loop [7] (fun nv => ∃ n : Nat, nv = .int .i64 n ∧ n ≤ W.length ∧ Hid (cnt ((nat W).take n) = j)) (fun nv => W.length - (intOf nv).toNat)
      case atStart => exact ⟨n, rfl, hn, HN⟩
      case round =>
        clear HN hn
        obtain ⟨n, rfl, hn, HN⟩ := hrel
        have hnl : n < W.length := by
          have := cnt_take_lt (ws := nat W) (n := n) (by rw [HN.out]; exact Nat.lt_trans hlt HL.out)
          rw [nat_length] at this
          exact this
        have hnI : (n : Int) < (W.length : Int) := by omega
        have hne : W ≠ [] := by intro e; rw [e] at hnl; simp at hnl
        obtain ⟨b, off, rfl, hbl, hcs⟩ := HX.out hne
        obtain ⟨x, hxe⟩ : ∃ x, W[n] = x := ⟨_, rfl⟩
        have q0 := hcs n hnl 0 _ rfl
        rw [hxe, Nat.mul_one, Nat.add_zero] at q0
        have q := (HB.out.cell (p := ⟨b, off + n, none⟩) hbl).trans q0
        have hxr := (isRate_iff x).1 (List.all_eq_true.1 HR.out x (hxe ▸ List.getElem_mem hnl))
        have h' : n < (nat W).length := by rw [nat_length]; exact hnl
        have HC1 : Hid (cnt ((nat W).take (n + 1)) = j + (if x = 0 then 0 else 1)) := by
          show _ = _
          have e1 : ((nat W)[n] = 0) = (x = 0) := by rw [nat_at hnl h', hxe]; exact propext (by omega)
          rw [cnt_take_succ h', HN.out]
          simp only [e1]
        by_cases hx0 : x = 0
        · subst hx0
          have HC2 : Hid (cnt ((nat W).take (n + 1)) = j) := HC1.out
          clear hcs hxe hne hxr q0 h' HC1
          go_wp2_with fail
          go_round
          case rel => exact ⟨n + 1, by go_num, by omega, HC2⟩
          case measure => simp [intOf]; omega
        · have hxp : 0 < x := by omega
          have HC2 : Hid (cnt ((nat W).take (n + 1)) = j + 1) := by
            have := HC1.out
            rw [if_neg hx0] at this
            exact this
          have hgl : n < (giveI a W j).length := by rw [giveI_length]; exact hnl
          obtain ⟨y, hy⟩ : ∃ y, (giveI a W j)[n]? = some y := ⟨_, List.getElem?_eq_getElem hgl⟩
          have hyb := giveI_bound HOk.out HMa.out hy
          have p1 := HRow.out.cell hy
          have p2 := HRow.out.frozen n
          have HNx : Hid (giveI a W (j + 1) = (giveI a W j).set n (y + -1)) := by
            have := giveI_next (a := a) hnl (by rw [hxe]; exact hxp) (y := y) (by rw [HN.out]; exact hy)
            rw [HN.out, HCent.out (by omega)] at this
            exact this
          have HRn : Hid (∀ u, RowG u g (giveI a W j) → RowG (u.setCell ⟨g, n, none⟩ (.int .i64 (y + -1))) g (giveI a W (j + 1))) := fun u hu => by
            rw [HNx.out]
            exact hu.set hgl _
          have wy : IntKind.i64.wrap (y + -1) = y + -1 := wrapI (by omega) (by omega)
          clear hcs hxe hne hxr q0 h' HC1 hyb hy hgl HNx
          go_wp2_with fail
          go_roundw
          case rel => exact ⟨j + 1, n + 1, by omega, by go_num, by go_num, by omega, HC2, HB.out.setCell (p := ⟨g, n, none⟩) HG.out _, HRn.out _ HRow.out⟩
          case measure => simp [intOf]; omega
    · obtain rfl : j = m := by omega
      go_wp2_with fail
      go_returns
      exact ⟨rfl, HB.out, HE.out ▸ HRow.out⟩
end Go.Proofs.YtfaelefeiinbaaaDoor
