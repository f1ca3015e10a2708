/- The program's Names. -/
import Derived.Test.YtibglhlhogfdnaaDoorUPut
import Derived.Test.YtibglhlhogfdnaaDoorURefK
import Derived.Test.YtibglhlhogfdnaaDoorCopy
import Derived.Test.YtibglhlhogfdnaaDoorLay
namespace Go.Proofs.YtibglhlhogfdnaaDoor
open Go.RowKit Go.Maps Go.Sort Go.Shelf QP AP

theorem rowU_again {w : World} {base g N cap : Nat} {t : TypeId} {xs : List Value} (h : w.ownsRow base t 1 (.slice (some ⟨g, 0, none⟩) N cap) N xs) {j : Nat} {x : Value} (hx : xs[j]? = some x) : (w.setCell ⟨g, j, none⟩ x).ownsRow base t 1 (.slice (some ⟨g, 0, none⟩) N cap) N xs := by
  obtain ⟨h1, h2⟩ := h
  refine ⟨h1, ?_⟩
  rcases h2 with ⟨h2, _⟩ | ⟨g', cap', cur, e, hg, hh, r1, r2, r3, r4⟩
  · cases h2
  · cases e
    refine Or.inr ⟨g, cap, _, rfl, hg, heap_setCell_same hh j x, r1, r2, by simpa using r3, ?_⟩
    obtain ⟨hj, rfl⟩ := List.getElem?_eq_some_iff.1 hx
    rw [Array.toList_setIfInBounds, List.take_set, r4, List.set_getElem_self]
theorem ownsRow_lowU {w : World} {base base' : Nat} {e : TypeId} {size : Nat} {v : Value} {n : Nat} {xs : List Value} (h : w.ownsRow base e size v n xs) (hb : base' ≤ base) : w.ownsRow base' e size v n xs := by
  obtain ⟨h1, h2⟩ := h
  refine ⟨h1, ?_⟩
  rcases h2 with h2 | ⟨g, cap, cur, rfl, hg, r⟩
  · exact Or.inl h2
  · exact Or.inr ⟨g, cap, cur, rfl, Nat.le_trans hb hg, r⟩
theorem rowT_shape {w : World} {base n : Nat} {v : Value} {t : TypeId} {xs : List Value} (h : w.ownsRow base t 1 v n xs) : ∃ A cap, v = .slice A n cap ∧ True := by
  rcases h.2 with ⟨h1, hl⟩ | ⟨g, cap', cur, h1, hg, hh, r1, r2, r3, r4⟩
  · subst h1
    exact ⟨none, 0, by rw [hl], trivial⟩
  · subst h1
    exact ⟨_, _, rfl, trivial⟩
theorem encS_kb (L : List ByteArray) : (L.map kb).map encStr = scells L := by
  unfold scells
  rw [List.map_map]
  rfl
theorem rowT_of {w : World} {base : Nat} {A : Option Addr} {cap : Nat} {L : List ByteArray} (h : w.ownsRow base 9 1 (.slice A L.length cap) L.length (scells L)) : RowT w base (.slice A L.length cap) L := by
  rcases h.2 with ⟨h1, hl⟩ | ⟨g, cap', cur, h1, hg, hh, r1, r2, r3, r4⟩
  · simp only [Value.slice.injEq] at h1
    obtain ⟨rfl, h0, rfl⟩ := h1
    exact ⟨none, 0, rfl, by omega, by unfold maxLen; omega, fun _ => rfl, fun hne => absurd (List.eq_nil_of_length_eq_zero h0) hne⟩
  · simp only [Value.slice.injEq] at h1
    obtain ⟨rfl, h0, rfl⟩ := h1
    refine ⟨some ⟨g, 0, none⟩, cap, rfl, r1, r2, (fun e => by cases e), fun _ => ⟨g, 0, cur, rfl, hg, hh, fun i hi => ?_⟩⟩
    have h5 : (scells L)[i]? = some (.string L[i]) := by simp [scells, hi]
    rw [← r4, List.getElem?_take_of_lt (show i < L.length * 1 by omega)] at h5
    rw [Nat.zero_add]
    simpa using h5

set_option maxRecDepth 100000 in
set_option maxHeartbeats 1000000 in
theorem namesRow_auth (g : Nat) (K : List Kv) (w : World) (F : Nat → Prop) (h : KeyI g K w F) :
    Calls Tryd.prog 21 #[.pointer (some ⟨g, 0, none⟩)] w fun e w' => ∃ A cap, e = .returned (.slice A (namesOf K).length cap) ∧ Hid (w'.ownsRow w.heap.size 9 1 (.slice A (namesOf K).length cap) (namesOf K).length (scells (namesOf K))) ∧ Hid (Below w.heap.size w w') := by
  obtain ⟨m, hG, hF⟩ := h
  have c0 : w.cell? ⟨g, 0, none⟩ = some (.map (some m)) := by rw [cell_of hG.top]; rfl
  have hfew := hG.few
  have hsz : Maps.size (Dk.toD tokU (gK K)) = K.length := by rw [Dk.toD_size, gK_length]
  have HR : Hid (Dk.Rise (gK K)) := rise_gK.2 hG.rise
  have HShort : Hid (∀ x ∈ namesOf K, x.size ≤ 32) := fun x hx => by
    obtain ⟨p, hp, rfl⟩ := List.mem_map.1 hx
    exact (hG.short p hp).1
  have hN : (namesOf K).length = K.length := by simp [namesOf]
  have HKs : Hid (Calls Tryd.prog 34 #[.map (some m)] w _) := callsIn_wide.1 (Tryd.maps_Keys_34 (some m) w)
  have HSs : Hid (Calls Tryd.prog 33 _ _ fun e w' => ∃ A cap, e = .returned (.slice A (namesOf K).length cap) ∧ Hid (w'.ownsRow w.heap.size 9 1 (.slice A (namesOf K).length cap) (namesOf K).length (scells (namesOf K))) ∧ Hid (Below w.heap.size w w')) := (callsIn_wide.1 (Tryd.slices_Sorted_keys_33_34 m _ _ heldR w hG.map (by rw [hsz]; unfold maxLen; omega) (by rw [hsz]; omega))).mono fun e w' ⟨v, ss, e1, hS, hrow, hnil, hb⟩ => by
    have x1 : ss.mergeSort (fun x y => decide (x ≤ y)) = Dk.keysL (gK K) := by
      have := mergeSort_of_perm hS
      rw [Dk.toD_keys, Dk.rise_keys HR.out] at this
      exact this
    have x2 : ss.length = K.length := by
      have := hS.length_eq
      rw [Dk.toD_keys] at this
      rw [this]
      unfold Dk.keysL
      rw [List.length_map, gK_length]
    rw [x1, x2, gK_keys, encS_kb, ← hN] at hrow
    have hrow' := ownsRow_lowU hrow (base' := w.heap.size) (by simp)
    obtain ⟨A, cap, hv, _⟩ := rowT_shape hrow'
    subst hv
    exact ⟨A, cap, e1, hrow', ((Below.refl _ w).alloc (Nat.le_refl _) _).trans (hb.mono (by simp))⟩
  obtain ⟨Z, hZ⟩ : ∃ Z, namesOf K = Z := ⟨_, rfl⟩
  rw [hZ] at HSs HShort hN ⊢
  obtain ⟨N, hNn⟩ : ∃ N, Z.length = N := ⟨_, rfl⟩
  have HN : Hid (Z.length = N) := hNn
  rw [hNn] at HSs hN ⊢
  have hN4 : N ≤ 4096 := by omega
  have HCl : Hid (∀ x ∈ Z, ∀ u, Calls Tryd.prog 27 #[.string x] u fun e w' => e = .returned (.string x) ∧ Below u.heap.size u w') := fun x hx u => sClone_any x u (by have := HShort.out x hx; omega)
  clear hG hF hsz hZ hNn HR hfew HShort hN
  go_enter Tryd.func21, Tryd.ntmps21
  go_wp2_with (first
    | (go_at_call 34; go_must (refine HKs.out.mono ?_; rintro e w1 ⟨rfl, rfl⟩))
    | (go_at_call 33; go_must (refine HSs.out.mono ?_; rintro e w2 ⟨A, cap, rfl, HR2, HB2⟩)))
  clear HKs HSs
  by_cases h0 : N = 0
  · subst h0
    go_loopw [14] (fun v wr => v = .int .i64 0 ∧ wr = w2) (fun _ _ => 0)
    case atStart => exact ⟨rfl, rfl⟩
    case round =>
      obtain ⟨rfl, rfl⟩ := hrel
      go_wp2
      go_ret
      exact ⟨A, cap, rfl, HR2, HB2⟩
  · obtain ⟨g, hA, hcap⟩ : ∃ g, A = some ⟨g, 0, none⟩ ∧ N ≤ cap ∧ cap ≤ 9223372036854775807 := by
      rcases HR2.out.2 with ⟨h1, h2⟩ | ⟨g, cap', cur, h1, _, _, h4, h5, _⟩
      · exact absurd h2 h0
      · cases h1
        unfold maxLen at h5
        exact ⟨g, rfl, h4, by omega⟩
    subst hA
    go_loopw [14] (fun v wr => ∃ j : Nat, j ≤ N ∧ v = .int .i64 j ∧ Hid (wr.ownsRow w.heap.size 9 1 (.slice (some ⟨g, 0, none⟩) N cap) N (scells Z)) ∧ Hid (Below w.heap.size w wr)) (fun v _ => N - (intOf v).toNat)
    case atStart => exact ⟨0, Nat.zero_le _, rfl, HR2, HB2⟩
    case round =>
      clear HR2 HB2
      obtain ⟨j, hj, rfl, HR, HB⟩ := hrel
      by_cases hlt : j < N
      · obtain ⟨x, hx⟩ : ∃ x, Z[j]? = some x := ⟨_, List.getElem?_eq_getElem (by rw [HN.out]; exact hlt)⟩
        have hsx : (scells Z)[j]? = some (.string x) := by simp [scells, hx]
        have HF : Hid (∀ u, Below wr.heap.size wr u → u.ownsRow w.heap.size 9 1 (.slice (some ⟨g, 0, none⟩) N cap) N (scells Z) ∧ Below w.heap.size w u ∧ u.cell? ⟨g, j, none⟩ = some (.string x) ∧ u.frozen? ⟨g, j, none⟩ = false) := fun u hu => by
          have hr := ownsRow_block HR.out fun i hi => hu.block i (World.ownsRow.lt HR.out i hi).2
          have hc := World.ownsRow.cells hr (g := g) rfl j _ hsx
          obtain ⟨cur, hcur, _⟩ := ownsRow_own hr (g := g) rfl
          refine ⟨hr, HB.out.trans (hu.mono HB.out.size), ?_, frozen_of hcur j⟩
          rw [Addr.add_lit, Nat.zero_add] at hc
          exact hc
        obtain ⟨-, -, q1, q2⟩ := HF.out wr (Below.refl _ _)
        have HC1 : Hid (∀ u, Calls Tryd.prog 27 #[.string x] u fun e w' => e = .returned (.string x) ∧ Below u.heap.size u w') := HCl.out x (List.mem_of_getElem? hx)
        have HSX : Hid ((scells Z)[j]? = some (.string x)) := hsx
        have hlI : (j : Int) < (N : Int) := by omega
        clear hx hsx
        go_wp2_with (go_at_call 27; go_must (refine (HC1.out _).mono ?_; rintro e w5 ⟨rfl, hb5⟩; obtain ⟨r5, b5, s1, s2⟩ := HF.out w5 hb5; have R5 : Hid (w5.ownsRow w.heap.size 9 1 (.slice (some ⟨g, 0, none⟩) N cap) N (scells Z)) := r5; have B5 : Hid (Below w.heap.size w w5) := b5; clear r5 b5))
        go_roundw
        case rel =>
          refine ⟨j + 1, by omega, by go_num, rowU_again R5.out HSX.out, ?_⟩
          have hgg := World.ownsRow.lt R5.out g rfl
          exact B5.out.trans ((Turn.setCell (S := fun i => w.heap.size ≤ i) w5 ⟨g, j, none⟩ _ hgg.1).toBelow B5.out.size)
        case measure => simp [intOf]; omega
      · have hlI : ¬ (j : Int) < (N : Int) := by omega
        go_wp2
        go_ret
        exact ⟨_, _, rfl, HR, HB⟩

theorem names_auth (g : Nat) (K : List Kv) (w : World) (F : Nat → Prop) (h : KeyI g K w F) :
    Calls Tryd.prog 21 #[.pointer (some ⟨g, 0, none⟩)] w fun e w' => ∃ v F', e = .returned v ∧ RowT w' w.heap.size v (namesOf K) ∧ KeyI g K w' F' ∧ Turn F w w' ∧ (∀ i, F' i → F i ∨ w.heap.size ≤ i) ∧ ∀ i, v.ownBlock = some i → ¬ F' i := by
  refine (namesRow_auth g K w F h).mono fun e w' ⟨A, cap, e1, hr, hb⟩ => ?_
  have hlt : ∀ i, F i → i < w.heap.size := (keyI_res g K).lt h
  obtain ⟨m, hG, hF⟩ := h
  obtain ⟨F', k1, k2, k3⟩ := keyGoes hG hF hb.out
  refine ⟨_, F, e1, rowT_of hr.out, ⟨m, hG.kept fun i hi => hb.out.block i (hG.lt hi), hF⟩, Turn.ofBelow _ hb.out, fun _ hi => Or.inl hi, fun i hi hFi => ?_⟩
  have h1 := (World.ownsRow.lt hr.out i hi).1
  have h2 := hlt i hFi
  omega
end Go.Proofs.YtibglhlhogfdnaaDoor
