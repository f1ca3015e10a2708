/- Layer 25: SameTexts: two slices of texts held against one another. -/
import Derived.Test.YtibglhlhogfdnaaDoorURefO
import Derived.Test.YtibglhlhogfdnaaDoorUKit
namespace Go.Proofs.YtibglhlhogfdnaaDoor
open Go.RowKit QP AP

def enS (s : ByteArray) : List Value := [.string s]

theorem strs_cell {w : World} {a : Option Addr} {c : Nat} {L : List ByteArray} (h : SliceAt w (.slice a L.length c) 1 enS L) (hL : L ≠ []) : ∃ b off, a = some ⟨b, off, none⟩ ∧ ∀ i x, L[i]? = some x → w.cell? ⟨b, off + i, none⟩ = some (.string x) := by
  obtain ⟨a', c', e, h1, h2, h3⟩ := h
  cases e
  obtain ⟨b, off, e, _, hc⟩ := h3 hL
  refine ⟨b, off, e, fun i x hx => ?_⟩
  obtain ⟨hi, rfl⟩ := List.getElem?_eq_some_iff.1 hx
  have := hc i hi 0 _ rfl
  rw [Nat.mul_one, Nat.add_zero] at this
  exact this

set_option maxHeartbeats 1000000 in
theorem sameTexts_any (v v' : Value) (L L' : List ByteArray) (w : World) (h : SliceAt w v 1 enS L) (h' : SliceAt w v' 1 enS L') :
    Calls Tryd.prog 20 #[v, v'] w fun e w' => e = .returned (.bool (decide (L = L'))) ∧ ∃ m, w' = w.drewN m := by
  obtain ⟨a, c, rfl, hl, hc, -⟩ := id h
  obtain ⟨a', c', rfl, hl', hc', -⟩ := id h'
  unfold maxLen at hc hc'
  obtain ⟨N, hN⟩ : ∃ N, L.length = N := ⟨_, rfl⟩
  obtain ⟨N', hN'⟩ : ∃ N', L'.length = N' := ⟨_, rfl⟩
  have HX := strs_cell h
  have HX' := strs_cell h'
  have HXh : Hid (L ≠ [] → ∃ b off, a = some ⟨b, off, none⟩ ∧ ∀ i x, L[i]? = some x → w.cell? ⟨b, off + i, none⟩ = some (.string x)) := HX
  have HXh' : Hid (L' ≠ [] → ∃ b off, a' = some ⟨b, off, none⟩ ∧ ∀ i x, L'[i]? = some x → w.cell? ⟨b, off + i, none⟩ = some (.string x)) := HX'
  have HNl : Hid (L.length = N ∧ L'.length = N') := ⟨hN, hN'⟩
  rw [hN] at hl ⊢
  rw [hN'] at hl' ⊢
  clear HX HX' h h' hN hN'
  by_cases hne : N = N'
  · subst hne
    by_cases h0 : N = 0
    · subst h0
      have HE : Hid (decide (L = L') = true) := by
        show _ = _
        rw [decide_eq_true_iff, List.length_eq_zero_iff.1 HNl.out.1, List.length_eq_zero_iff.1 HNl.out.2]
      go_enter Tryd.func20, Tryd.ntmps20
      go_wp2
      go_loopw [5] (fun i wr => i = .int .i64 0 ∧ wr = w) (fun _ _ => 0)
      case atStart => exact ⟨rfl, rfl⟩
      case round =>
        obtain ⟨rfl, rfl⟩ := hrel
        go_wp2
        go_ret
        exact ⟨by rw [HE.out]; rfl, 0, rfl⟩
    · obtain ⟨b, off, rfl, hb⟩ := HXh.out (fun e => h0 (by rw [← HNl.out.1, e]; rfl))
      obtain ⟨b', off', rfl, hb'⟩ := HXh'.out (fun e => h0 (by rw [← HNl.out.2, e]; rfl))
      have HB : Hid (∀ i x, L[i]? = some x → w.cell? ⟨b, off + i, none⟩ = some (.string x)) := hb
      have HB' : Hid (∀ i x, L'[i]? = some x → w.cell? ⟨b', off' + i, none⟩ = some (.string x)) := hb'
      clear hb hb' HXh HXh' h0
      go_enter Tryd.func20, Tryd.ntmps20
      go_wp2
      go_loopw [5] (fun i wr => ∃ j : Nat, j ≤ N ∧ i = .int .i64 j ∧ Hid (L.take j = L'.take j) ∧ ∃ n, wr = w.drewN n) (fun i _ => N - (intOf i).toNat)
      case atStart => exact ⟨0, Nat.zero_le _, rfl, (rfl : _ = _), 0, rfl⟩
      case round =>
        obtain ⟨j, hj, rfl, HT, nn, rfl⟩ := hrel
        by_cases hlt : j < N
        · have h1 : j < L.length := by rw [HNl.out.1]; exact hlt
          have h2 : j < L'.length := by rw [HNl.out.2]; exact hlt
          obtain ⟨x, hx⟩ : ∃ x, L[j]? = some x := ⟨_, List.getElem?_eq_getElem h1⟩
          obtain ⟨y, hy⟩ : ∃ y, L'[j]? = some y := ⟨_, List.getElem?_eq_getElem h2⟩
          have q1 := HB.out j x hx
          have q2 := HB'.out j y hy
          have HXY : Hid (L[j]? = some x ∧ L'[j]? = some y) := ⟨hx, hy⟩
          have hlI : (j : Int) < (N : Int) := by omega
          clear hx hy h1 h2
          by_cases hxy : x = y
          · subst hxy
            go_wp2
            go_quiet (fail)
            go_wp2
            go_roundw
            case rel => exact ⟨j + 1, by omega, by go_num, (by show _ = _; rw [List.take_add_one, List.take_add_one, HT.out, HXY.out.1, HXY.out.2] : Hid _), _, rfl⟩
            case measure => simp [intOf]; omega
          · have hne1 : (x.toList == y.toList) = false := by rw [beq_eq_false_iff_ne]; exact fun e => hxy (toList_inj e)
            have hne2 : ¬ x.toList = y.toList := fun e => hxy (toList_inj e)
            have HE : Hid (decide (L = L') = false) := by
              show _ = _
              rw [decide_eq_false_iff_not]
              intro e
              have := HXY.out
              rw [e] at this
              exact hxy (Option.some.inj (this.1.symm.trans this.2))
            clear hxy
            go_wp2
            go_quiet (fail)
            go_wp2
            go_ret
            exact ⟨by rw [HE.out]; rfl, _, World.drewN_drewN _ _ _⟩
        · have hlI : ¬ (j : Int) < (N : Int) := by omega
          have HE : Hid (decide (L = L') = true) := by
            show _ = _
            rw [decide_eq_true_iff]
            have := HT.out
            rw [List.take_of_length_le (by rw [HNl.out.1]; omega), List.take_of_length_le (by rw [HNl.out.2]; omega)] at this
            exact this
          go_wp2
          go_ret
          exact ⟨by rw [HE.out]; rfl, nn, rfl⟩
  · have hb : ((N : Int) != (N' : Int)) = true := bne_iff_ne.2 (by omega)
    have hnI : ¬ (N : Int) = (N' : Int) := by omega
    have HE : Hid (decide (L = L') = false) := by
      show _ = _
      rw [decide_eq_false_iff_not]
      rintro rfl
      exact hne (HNl.out.1.symm.trans HNl.out.2)
    go_enter Tryd.func20, Tryd.ntmps20
    go_wp2
    go_ret
    exact ⟨by rw [HE.out]; rfl, 0, rfl⟩

end Go.Proofs.YtibglhlhogfdnaaDoor
