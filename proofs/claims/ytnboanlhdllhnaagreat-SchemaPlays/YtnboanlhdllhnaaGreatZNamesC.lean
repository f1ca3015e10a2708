/- The program's Drop and Names. -/
import Derived.Test.YtnboanlhdllhnaaGreatZCreate
import Derived.Test.YtnboanlhdllhnaaGreatLay
namespace Go.Proofs.YtnboanlhdllhnaaGreat
open Go.RowKit Go.Maps Go.Sort Go.Shelf

/-! ### Drop -/
def drE (L : Cat) (k : ByteArray) : Int := if (Dk.getL (kb k) L).isSome then 0 else 141
def drL (L : Cat) (k : ByteArray) : Cat := Dk.delL (kb k) L

section
variable {w w' : World} {c m : Nat} {G : List (List UInt8 × Ge)}
theorem CatG.del (h : CatG w c m G) (k : ByteArray) (hk : k.size ≤ maxLen) (ty : TypeId) :
    ∃ w', (Builtin.delete_ #[59, 9] ty #[.map (some m), .string k]).run Tryz.prog w = .ok (.tuple #[]) w' ∧ CatG w' c m (Dk.delL (kb k) G) ∧ Turn (fun i => i = m) w w' := by
  obtain ⟨w', hrun, k1, k2⟩ := h.map.drop keyed Tryz.underlying59 (keyOfS hk) ty
  have tt := turn_of_map k2
  refine ⟨w', hrun, ⟨(tt.block c (lt_of h.top) (Ne.symm h.ne)).trans h.top, ?_, fun p hp => ?_, Nat.le_trans (List.length_filter_le _ _) h.few⟩, tt⟩
  · have := ownsMap_exact k1
    rw [Dk.toD_del, Dk.toD_size] at this
    exact this
  · have hp := (Dk.mem_delL.1 hp).1
    exact ⟨(h.tabs p hp).1.block fun i hi => tt.block i ((h.tabs p hp).1.lt hi).2 (h.tab_ne hp hi), (h.tabs p hp).2⟩
end

set_option maxRecDepth 100000 in
set_option maxHeartbeats 1000000 in
theorem drop_any (c : Nat) (L : Cat) (k : ByteArray) (w : World) (F : Nat → Prop) (hk : k.size ≤ maxLen) (h : CatI c L w F) :
    Calls Tryz.prog 13 #[.pointer (some ⟨c, 0, none⟩), .string k] w fun e w' => e = .returned (.int .i64 (drE L k)) ∧ Goes (CatI c (drL L k)) w w' F := by
  obtain ⟨m, G, hG, hL, hF⟩ := h
  have hcl := lt_of hG.top
  have c0 : w.cell? ⟨c, 0, none⟩ = some (.map (some m)) := by rw [cell_of hG.top]; rfl
  have HGet : Hid (Dk.getL (kb k) L = (Dk.getL (kb k) G).map Ge.T) := by show _ = _; rw [hL, Dk.getL_mapL]
  rcases hG.look k hk with ⟨g, hg, hlk⟩ | ⟨hn, hlk⟩
  · obtain ⟨⟨ga, gn, gc, hgv⟩, ja, jn, jc, hjv⟩ := (hG.tabs _ (Dk.getL_mem hg)).1.shape
    obtain ⟨gnm, hgnm⟩ : ∃ x, g.T.nm = x := ⟨_, rfl⟩
    obtain ⟨gk, hgk⟩ : ∃ x, g.T.key = x := ⟨_, rfl⟩
    unfold Ge.val tabVal at hlk
    rw [hgv, hjv, hgnm, hgk] at hlk
    have HE : Hid (drE L k = 0) := by show _ = _; unfold drE; rw [HGet.out, hg]; rfl
    have hb : ∀ o : Obj, Below w.heap.size w (w.alloc o) := fun o => (Below.refl _ _).alloc (Nat.le_refl _) o
    have HD : Hid (∀ o ty, ∃ w', (Builtin.delete_ #[59, 9] ty #[.map (some m), .string k]).run Tryz.prog (w.alloc o) = .ok (.tuple #[]) w' ∧ Goes (CatI c (drL L k)) w w' F) := fun o ty => by
      have hG2 : CatG (w.alloc o) c m G := hG.kept fun i hi => (hb o).block i (hG.lt hi)
      obtain ⟨w', k1, k2, k3⟩ := hG2.del k hk ty
      refine ⟨w', k1, catFoot c m (Dk.delL (kb k) G), ⟨m, _, k2, ?_, fun _ => Iff.rfl⟩, (Turn.ofBelow F (hb o)).trans (k3.mono fun i hi => (hF i).2 (Or.inr (Or.inl hi))), fun i hi => Or.inl ((hF i).2 ?_)⟩
      · unfold drL; rw [hL, Dk.mapL_delL]
      · rcases hi with hi | hi | ⟨p, hp, hi⟩
        · exact Or.inl hi
        · exact Or.inr (Or.inl hi)
        · exact Or.inr (Or.inr ⟨p, (Dk.mem_delL.1 hp).1, hi⟩)
    clear hG hL hF hg hgv hjv hgnm hgk hb
    obtain ⟨w6, hrun, hgo⟩ := HD.out (.cells #[.string gnm, .slice ga gn gc, .int .i64 gk, .slice ja jn jc] 32) 0
    have HGo : Hid (Goes (CatI c (drL L k)) w w6 F) := hgo
    clear hgo HD
    go_enter Tryz.func13, Tryz.ntmps13
    go_wp2
    go_ret
    exact ⟨by rw [HE.out]; rfl, HGo.out⟩
  · have HE : Hid (drE L k = 141) := by show _ = _; unfold drE; rw [HGet.out, hn]; rfl
    have HGo : Hid (∀ o : Obj, Goes (CatI c (drL L k)) w (w.alloc o) F) := fun o => by
      have hb : Below w.heap.size w (w.alloc o) := (Below.refl _ _).alloc (Nat.le_refl _) o
      refine ⟨F, ⟨m, G, hG.kept fun i hi => hb.block i (hG.lt hi), ?_, hF⟩, Turn.ofBelow _ hb, fun _ hi => Or.inl hi⟩
      unfold drL
      rw [hL, ← Dk.mapL_delL, Dk.delL_other (Dk.getL_none hn)]
    clear hG hL hF hn
    go_enter Tryz.func13, Tryz.ntmps13
    go_wp2
    go_ret
    exact ⟨by rw [HE.out]; rfl, HGo.out _⟩

/-! ### Names -/
def namesC (L : Cat) : List ByteArray := (Dk.keysL L).map bytesOf
theorem namesC_length (L : Cat) : (namesC L).length = L.length := by unfold namesC Dk.keysL; rw [List.length_map, List.length_map]
theorem enc_scells (K : List (List UInt8)) : K.map encStr = scells (K.map bytesOf) := by unfold scells; rw [List.map_map]; rfl

theorem row_again {w : World} {base g N cap : Nat} {t : TypeId} {xs : List Value} (h : w.ownsRow base t 1 (.slice (some ⟨g, 0, none⟩) N cap) N xs) {j : Nat} {x : Value} (hx : xs[j]? = some x) : (w.setCell ⟨g, j, none⟩ x).ownsRow base t 1 (.slice (some ⟨g, 0, none⟩) N cap) N xs := by
  obtain ⟨h1, h2⟩ := h
  refine ⟨h1, ?_⟩
  rcases h2 with ⟨h2, _⟩ | ⟨g', cap', cur, e, hg, hh, r1, r2, r3, r4⟩
  · cases h2
  · cases e
    refine Or.inr ⟨g, cap, _, rfl, hg, heap_setCell_same hh j x, r1, r2, by simpa using r3, ?_⟩
    obtain ⟨hj, rfl⟩ := List.getElem?_eq_some_iff.1 hx
    rw [Array.toList_setIfInBounds, List.take_set, r4, List.set_getElem_self]

set_option maxRecDepth 100000 in
set_option maxHeartbeats 1000000 in
theorem names_any (c : Nat) (L : Cat) (w : World) (F : Nat → Prop) (h : CatI c L w F) :
    Calls Tryz.prog 22 #[.pointer (some ⟨c, 0, none⟩)] w fun e w' => ∃ A cap, e = .returned (.slice A (namesC L).length cap) ∧ Hid (w'.ownsRow w.heap.size 9 1 (.slice A (namesC L).length cap) (namesC L).length (scells (namesC L))) ∧ Hid (Below w.heap.size w w') := by
  obtain ⟨m, G, hG, hL, hF⟩ := h
  have c0 : w.cell? ⟨c, 0, none⟩ = some (.map (some m)) := by rw [cell_of hG.top]; rfl
  have hfew := hG.few
  have hsz : Maps.size (Dk.toD tok G) = G.length := Dk.toD_size tok G
  have HR : Hid (Dk.Rise G) := hG.rise
  have HKe : Hid (namesC L = (Dk.keysL G).map bytesOf) := by show _ = _; unfold namesC; rw [hL, Dk.keysL_mapL]
  have HShort : Hid (∀ x ∈ namesC L, x.size ≤ 32) := fun x hx => by
    rw [HKe.out] at hx
    obtain ⟨k, hk, rfl⟩ := List.mem_map.1 hx
    obtain ⟨p, hp, rfl⟩ := List.mem_map.1 hk
    have h1 := (hG.tabs p hp).2
    have h2 := (nameOk_size h1.2.nm).2
    rw [bytesOf_size, h1.1, size_list]
    exact h2
  have hN : (namesC L).length = G.length := by rw [namesC_length, hL, Dk.length_mapL]
  have HKs : Hid (Calls Tryz.prog 37 #[.map (some m)] w _) := callsIn_wide.1 (Tryz.maps_Keys_37 (some m) w)
  have HSs : Hid (Calls Tryz.prog 36 _ _ fun e w' => ∃ A cap, e = .returned (.slice A (namesC L).length cap) ∧ Hid (w'.ownsRow w.heap.size 9 1 (.slice A (namesC L).length cap) (namesC L).length (scells (namesC L))) ∧ Hid (Below w.heap.size w w')) := (callsIn_wide.1 (Tryz.slices_Sorted_keys_36_37 m _ _ heldR w hG.map (by rw [hsz]; unfold maxLen; omega) (by rw [hsz]; omega))).mono fun e w' ⟨v, ss, e1, hS, hrow, hnil, hb⟩ => by
    have x1 : ss.mergeSort (fun x y => decide (x ≤ y)) = Dk.keysL G := by
      have := mergeSort_of_perm hS
      rw [Dk.toD_keys, Dk.rise_keys HR.out] at this
      exact this
    have x2 : ss.length = G.length := by
      have := hS.length_eq
      rw [Dk.toD_keys] at this
      rw [this]
      unfold Dk.keysL
      simp
    rw [x1, x2, enc_scells, ← HKe.out, ← hN] at hrow
    have hrow' := ownsRow_low hrow (base' := w.heap.size) (by simp)
    obtain ⟨A, cap, hv, _⟩ := own_slice (en := enS) (n := 1) (fun _ => rfl) (L := namesC L) (by rw [scells_flat]; exact hrow')
    subst hv
    exact ⟨A, cap, e1, hrow', ((Below.refl _ w).alloc (Nat.le_refl _) _).trans (hb.mono (by simp))⟩
  obtain ⟨K, hK⟩ : ∃ K, namesC L = K := ⟨_, rfl⟩
  rw [hK] at HSs HShort hN ⊢
  obtain ⟨N, hNn⟩ : ∃ N, K.length = N := ⟨_, rfl⟩
  have HN : Hid (K.length = N) := hNn
  rw [hNn] at HSs hN ⊢
  have hN4 : N ≤ 4096 := by omega
  have HCl : Hid (∀ x ∈ K, ∀ u, Calls Tryz.prog 38 #[.string x] u fun e w' => e = .returned (.string x) ∧ Below u.heap.size u w') := fun x hx u => sClone_any x u (by have := HShort.out x hx; omega)
  clear hG hL hF hsz hK hNn HKe HR hfew HShort hN
  go_enter Tryz.func22, Tryz.ntmps22
  go_wp2_with (first
    | (go_at_call 37; go_must (refine HKs.out.mono ?_; rintro e w1 ⟨rfl, rfl⟩))
    | (go_at_call 36; go_must (refine HSs.out.mono ?_; rintro e w2 ⟨A, cap, rfl, HR2, HB2⟩)))
  clear HKs HSs
  by_cases h0 : N = 0
  · subst h0
    go_loopw [14] (fun v wr => v = .int .i64 0 ∧ wr = w2) (fun _ _ => 0)
    case atStart => exact ⟨rfl, rfl⟩
    case round =>
      obtain ⟨rfl, rfl⟩ := hrel
      go_wp2
      go_ret
      exact ⟨A, cap, rfl, HR2, HB2⟩
  · obtain ⟨g, hA, hcap⟩ : ∃ g, A = some ⟨g, 0, none⟩ ∧ N ≤ cap ∧ cap ≤ 9223372036854775807 := by
      rcases HR2.out.2 with ⟨h1, h2⟩ | ⟨g, cap', cur, h1, _, _, h4, h5, _⟩
      · exact absurd h2 h0
      · cases h1
        unfold maxLen at h5
        exact ⟨g, rfl, h4, by omega⟩
    subst hA
    go_loopw [14] (fun v wr => ∃ j : Nat, j ≤ N ∧ v = .int .i64 j ∧ Hid (wr.ownsRow w.heap.size 9 1 (.slice (some ⟨g, 0, none⟩) N cap) N (scells K)) ∧ Hid (Below w.heap.size w wr)) (fun v _ => N - (intOf v).toNat)
    case atStart => exact ⟨0, Nat.zero_le _, rfl, HR2, HB2⟩
    case round =>
      clear HR2 HB2
      obtain ⟨j, hj, rfl, HR, HB⟩ := hrel
      by_cases hlt : j < N
      · obtain ⟨x, hx⟩ : ∃ x, K[j]? = some x := ⟨_, List.getElem?_eq_getElem (by rw [HN.out]; exact hlt)⟩
        have hsx : (scells K)[j]? = some (.string x) := by simp [scells, hx]
        have HF : Hid (∀ u, Below wr.heap.size wr u → u.ownsRow w.heap.size 9 1 (.slice (some ⟨g, 0, none⟩) N cap) N (scells K) ∧ Below w.heap.size w u ∧ u.cell? ⟨g, j, none⟩ = some (.string x) ∧ u.frozen? ⟨g, j, none⟩ = false) := fun u hu => by
          have hr := ownsRow_block HR.out fun i hi => hu.block i (World.ownsRow.lt HR.out i hi).2
          have hc := World.ownsRow.cells hr (g := g) rfl j _ hsx
          obtain ⟨cur, hcur, _⟩ := ownsRow_own hr (g := g) rfl
          refine ⟨hr, HB.out.trans (hu.mono HB.out.size), ?_, frozen_of hcur j⟩
          rw [Addr.add_lit, Nat.zero_add] at hc
          exact hc
        obtain ⟨-, -, q1, q2⟩ := HF.out wr (Below.refl _ _)
        have HC1 : Hid (∀ u, Calls Tryz.prog 38 #[.string x] u fun e w' => e = .returned (.string x) ∧ Below u.heap.size u w') := HCl.out x (List.mem_of_getElem? hx)
        have HSX : Hid ((scells K)[j]? = some (.string x)) := hsx
        have hlI : (j : Int) < (N : Int) := by omega
        clear hx hsx
        go_wp2_with (go_at_call 38; go_must (refine (HC1.out _).mono ?_; rintro e w5 ⟨rfl, hb5⟩; obtain ⟨r5, b5, s1, s2⟩ := HF.out w5 hb5; have R5 : Hid (w5.ownsRow w.heap.size 9 1 (.slice (some ⟨g, 0, none⟩) N cap) N (scells K)) := r5; have B5 : Hid (Below w.heap.size w w5) := b5; clear r5 b5))
        go_roundw
        case rel =>
          refine ⟨j + 1, by omega, by go_num, row_again R5.out HSX.out, ?_⟩
          have hgg := World.ownsRow.lt R5.out g rfl
          exact B5.out.trans ((Turn.setCell (S := fun i => w.heap.size ≤ i) w5 ⟨g, j, none⟩ _ hgg.1).toBelow B5.out.size)
        case measure => simp [intOf]; omega
      · have hlI : ¬ (j : Int) < (N : Int) := by omega
        go_wp2
        go_ret
        exact ⟨_, _, rfl, HR, HB⟩

end Go.Proofs.YtnboanlhdllhnaaGreat
