/- Layer 22: the program's prices. -/
import Derived.Test.YtfaelefeiinbaaaDoorMPartC
namespace Go.Proofs.YtfaelefeiinbaaaDoor
open Go.RowKit MP

/-- a price behind some of its rates -/
def prO (a m : Int) (l : List Int) : Option Int := if may (a * m) then adds (a * m) l else none
def St (a m p e : Int) (l : List Int) : Prop := (e = 0 ∧ prO a m l = some p ∧ may p = true) ∨ (e = 1 ∧ p = 0 ∧ prO a m l = none)
theorem adds_one (n r : Int) : adds n [r] = raO n r := by
  unfold raO
  simp only [adds]
theorem prO_snoc (a m : Int) (l : List Int) (x : Int) : prO a m (l ++ [x]) = (prO a m l).bind fun p => raO p x := by
  unfold prO
  split
  · rw [adds_append]; congr 1
  · rfl
theorem prO_none {a m : Int} {L : List Int} {j : Nat} (h : prO a m (L.take j) = none) : prO a m L = none := by
  have e : L = L.take j ++ L.drop j := (List.take_append_drop j L).symm
  rw [e]
  unfold prO at h ⊢
  split
  · rename_i hm
    rw [if_pos hm] at h
    rw [adds_append, h]
    rfl
  · rfl
theorem St.start (a m : Int) : St a m (amV (a * m)) (amE (a * m)) [] := by
  unfold St prO amV amE
  cases h : may (a * m)
  · exact Or.inr ⟨rfl, rfl, rfl⟩
  · exact Or.inl ⟨rfl, rfl, h⟩
theorem St.next {a m p : Int} {l : List Int} (x : Int) (h : prO a m l = some p) : St a m (raV p x) (raE p x) (l ++ [x]) := by
  unfold St
  rw [prO_snoc, h]
  show (_ ∧ raO p x = _ ∧ _) ∨ (_ ∧ _ ∧ raO p x = _)
  unfold raV raE
  cases hr : raO p x with
  | none => exact Or.inr ⟨rfl, rfl, rfl⟩
  | some y =>
    refine Or.inl ⟨rfl, rfl, ?_⟩
    unfold raO at hr
    split at hr
    · rename_i hh
      cases hr
      simp only [Bool.and_eq_true] at hh
      exact hh.2
    · cases hr
theorem price_end {a m p e : Int} {L : List Int} (h1 : may a = true) (h2 : isRate m = true) (h3 : L.all isRate = true) (h : St a m p e L) : priceV a m L = p ∧ priceE a m L = e := by
  have h2' : isMany m = true := h2
  have hO : priceO a m L = prO a m L := by
    unfold priceO prO
    rw [h2', h3]
    simp
  unfold priceV priceE
  rw [h1, hO]
  rcases h with ⟨rfl, h, _⟩ | ⟨rfl, rfl, h⟩
  · rw [h]; exact ⟨rfl, rfl⟩
  · rw [h]; exact ⟨rfl, rfl⟩
theorem price_no {a m : Int} {L : List Int} (h1 : may a = true) (h : isRate m = false ∨ L.all isRate = false) : priceV a m L = 0 ∧ priceE a m L = 1 := by
  have hO : priceO a m L = none := by
    unfold priceO
    rcases h with h | h
    · have h' : isMany m = false := h
      rw [h']; simp
    · rw [h]; simp
  unfold priceV priceE
  rw [h1, hO]
  exact ⟨rfl, rfl⟩
theorem price_bad {a m : Int} {L : List Int} (h1 : may a = false) : priceV a m L = 0 ∧ priceE a m L = 220 := by
  unfold priceV priceE
  rw [h1]
  exact ⟨rfl, rfl⟩

set_option maxRecDepth 100000 in
set_option maxHeartbeats 1000000 in
theorem Price_any (a m : Int) (v : Value) (L : List Int) (w : World) (hv : IntsAt w v L) : Calls Tryd.prog 19 #[.int .i64 a, .int .i64 m, v] w fun e w' => e = .returned (.tuple #[.int .i64 (priceV a m L), .int .i64 (priceE a m L)]) ∧ Below w.heap.size w w' := by
  have HV : Hid (IntsAt w v L) := hv
  obtain ⟨a1, c, rfl, hl, hc, hx⟩ := hv
  have HX : Hid (L ≠ [] → ∃ b off, a1 = some ⟨b, off, none⟩ ∧ b < w.heap.size ∧ ∀ i, (h : i < L.length) → ∀ (j : Nat) (u : Value), ([Value.int .i64 L[i]])[j]? = some u → w.cell? ⟨b, off + i * 1 + j, none⟩ = some u) := hx
  unfold maxLen at hc
  clear hx
  have HC : Hid (∀ u, Calls Tryd.prog 26 #[.int .i64 a] u fun e w' => e = .returned (.bool (may a)) ∧ w' = u) := fun u => isAmount_any a u
  have HD : Hid (∀ u, Calls Tryd.prog 32 #[.int .i64 m, .int .i64 1000000] u fun e w' => e = .returned (.bool (isRate m)) ∧ w' = u) := fun u => within_any m u
  have HA : Hid (Calls Tryd.prog 37 #[.slice a1 L.length c, .int .i64 1000000] w fun e w' => e = .returned (.bool (L.all isRate)) ∧ w' = w) := allWithin_any _ L w HV.out
  by_cases hm : may a = true
  · have HM : Hid (may a = true) := hm
    rw [hm] at HC
    by_cases hr : isRate m = true
    · have HR : Hid (isRate m = true) := hr
      rw [hr] at HD
      by_cases hA : L.all isRate = true
      · have HAl : Hid (L.all isRate = true) := hA
        rw [hA] at HA
        have HT : Hid (∀ u, Calls Tryd.prog 38 #[.int .i64 a, .int .i64 m] u fun e w' => e = .returned (.tuple #[.int .i64 (amV (a * m)), .int .i64 (amE (a * m))]) ∧ w' = u) := fun u => times_any a m u hm hr
        have HS0 : Hid (St a m (amV (a * m)) (amE (a * m)) []) := St.start a m
        obtain ⟨V0, hV0⟩ : ∃ V0, amV (a * m) = V0 := ⟨_, rfl⟩
        obtain ⟨E0, hE0⟩ : ∃ E0, amE (a * m) = E0 := ⟨_, rfl⟩
        rw [hV0, hE0] at HT HS0
        obtain ⟨V, hV⟩ : ∃ V, priceV a m L = V := ⟨_, rfl⟩
        obtain ⟨E, hE⟩ : ∃ E, priceE a m L = E := ⟨_, rfl⟩
        have HPV : Hid (priceV a m L = V) := hV
        have HPE : Hid (priceE a m L = E) := hE
        rw [hV, hE]
        clear hV hE hV0 hE0 hm hr hA
        go_enter Tryd.func19, Tryd.ntmps19
        go_wp2_with (first
          | (go_at_call 26; go_must (refine (HC.out _).mono ?_; rintro y w2 ⟨rfl, hwz⟩; obtain rfl := hwz.symm))
          | (go_at_call 32; go_must (refine (HD.out _).mono ?_; rintro y w2 ⟨rfl, hwz⟩; obtain rfl := hwz.symm))
          | (go_at_call 37; go_must (refine HA.out.mono ?_; rintro y w2 ⟨rfl, hwz⟩; obtain rfl := hwz.symm))
          | (go_at_call 38; go_must (refine (HT.out _).mono ?_; rintro y w2 ⟨rfl, hwz⟩; obtain rfl := hwz.symm)))
        go_loopw [8, 9, 30] (fun pv ev i wr => ∃ (j : Nat) (p e : Int), j ≤ L.length ∧ i = .int .i64 j ∧ pv = .int .i64 p ∧ ev = .int .i64 e ∧ Hid (St a m p e (L.take j)) ∧ Hid (Below w.heap.size w wr)) (fun _ _ i _ => L.length - (intOf i).toNat)
        case atStart => exact ⟨0, V0, E0, Nat.zero_le _, rfl, rfl, rfl, HS0, Below.refl _ _⟩
        case round =>
          clear HS0 HT HC HD HA
          obtain ⟨j, p, e, hj, rfl, rfl, rfl, HS, HB⟩ := hrel
          rcases HS.out with ⟨rfl, hO, hp⟩ | ⟨rfl, rfl, hO⟩
          · by_cases hlt : j < L.length
            · have hlI : (j : Int) < (L.length : Int) := by omega
              have hne : L ≠ [] := by intro e; rw [e] at hlt; simp at hlt
              obtain ⟨b, off, rfl, hbl, hcs⟩ := HX.out hne
              obtain ⟨x, hxe⟩ : ∃ x, L[j] = x := ⟨_, rfl⟩
              have q := hcs j hlt 0 _ rfl
              rw [hxe, Nat.mul_one, Nat.add_zero] at q
              have q' : wr.cell? ⟨b, off + j, none⟩ = some (.int .i64 x) := (HB.out.cell hbl).trans q
              have hxr : isRate x = true := List.all_eq_true.1 HAl.out x (hxe ▸ List.getElem_mem hlt)
              have HN : Hid (St a m (raV p x) (raE p x) (L.take (j + 1))) := by
                show St _ _ _ _ _
                rw [take_snoc L j hlt, hxe]
                exact St.next x hO
              have HRa : Hid (Calls Tryd.prog 39 #[.int .i64 p, .int .i64 x] wr fun e w' => e = .returned (.tuple #[.int .i64 (raV p x), .int .i64 (raE p x)]) ∧ Below wr.heap.size wr w') := raise_any p x wr hp hxr
              obtain ⟨P, hP⟩ : ∃ P, raV p x = P := ⟨_, rfl⟩
              obtain ⟨F, hF⟩ : ∃ F, raE p x = F := ⟨_, rfl⟩
              rw [hP, hF] at HN HRa
              clear hcs hxe hne hxr q hO hp HS hP hF
              go_wp2_with (go_at_call 39; go_must (refine HRa.out.mono ?_; rintro y w2 ⟨rfl, hb⟩))
              have HB2 : Hid (Below w.heap.size w w2) := HB.out.trans (hb.mono HB.out.size)
              go_roundw
              case rel => exact ⟨j + 1, P, F, by omega, by go_num, rfl, rfl, HN, HB2⟩
              case measure => simp [intOf]; omega
            · have hgI : ¬ (j : Int) < (L.length : Int) := by omega
              have hS := HS.out
              rw [List.take_of_length_le (by omega)] at hS
              have HE : Hid (V = p ∧ E = 0) := by
                have := price_end HM.out HR.out HAl.out hS
                rw [HPV.out, HPE.out] at this
                exact this
              clear hS hO hp HS
              go_wp2_with fail
              go_ret2
              exact ⟨by rw [HE.out.1, HE.out.2]; rfl, HB.out⟩
          · have HE : Hid (V = 0 ∧ E = 1) := by
              have := price_end (p := 0) (e := 1) HM.out HR.out HAl.out (Or.inr ⟨rfl, rfl, prO_none hO⟩)
              rw [HPV.out, HPE.out] at this
              exact this
            clear hO HS
            by_cases hlt : j < L.length
            · have hlI : (j : Int) < (L.length : Int) := by omega
              go_wp2_with fail
              go_ret2
              exact ⟨by rw [HE.out.1, HE.out.2]; rfl, HB.out⟩
            · have hgI : ¬ (j : Int) < (L.length : Int) := by omega
              go_wp2_with fail
              go_ret2
              exact ⟨by rw [HE.out.1, HE.out.2]; rfl, HB.out⟩
      · have hA' : L.all isRate = false := by simpa using hA
        rw [hA'] at HA
        obtain ⟨hV, hE⟩ := price_no (a := a) (m := m) hm (Or.inr hA')
        rw [hV, hE]
        clear hV hE hA hA' hm hr
        go_enter Tryd.func19, Tryd.ntmps19
        go_wp2_with (first
          | (go_at_call 26; go_must (refine (HC.out _).mono ?_; rintro y w2 ⟨rfl, hwz⟩; obtain rfl := hwz.symm))
          | (go_at_call 32; go_must (refine (HD.out _).mono ?_; rintro y w2 ⟨rfl, hwz⟩; obtain rfl := hwz.symm))
          | (go_at_call 37; go_must (refine HA.out.mono ?_; rintro y w2 ⟨rfl, hwz⟩; obtain rfl := hwz.symm)))
        go_ret2
        exact ⟨rfl, Below.refl _ _⟩
    · have hr' : isRate m = false := by simpa using hr
      rw [hr'] at HD
      obtain ⟨hV, hE⟩ := price_no (L := L) hm (Or.inl hr')
      rw [hV, hE]
      clear hV hE hr hr' hm
      go_enter Tryd.func19, Tryd.ntmps19
      go_wp2_with (first
        | (go_at_call 26; go_must (refine (HC.out _).mono ?_; rintro y w2 ⟨rfl, hwz⟩; obtain rfl := hwz.symm))
        | (go_at_call 32; go_must (refine (HD.out _).mono ?_; rintro y w2 ⟨rfl, hwz⟩; obtain rfl := hwz.symm)))
      go_ret2
      exact ⟨rfl, Below.refl _ _⟩
  · have hm' : may a = false := by simpa using hm
    rw [hm'] at HC
    obtain ⟨hV, hE⟩ := price_bad (m := m) (L := L) hm'
    rw [hV, hE]
    clear hV hE hm hm'
    go_enter Tryd.func19, Tryd.ntmps19
    go_wp2_with (go_at_call 26; go_must (refine (HC.out _).mono ?_; rintro y w2 ⟨rfl, hwz⟩; obtain rfl := hwz.symm))
    go_ret2
    exact ⟨rfl, Below.refl _ _⟩
end Go.Proofs.YtfaelefeiinbaaaDoor
