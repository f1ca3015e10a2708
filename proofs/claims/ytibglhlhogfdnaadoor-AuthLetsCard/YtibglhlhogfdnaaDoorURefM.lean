/- Layer 25: the document's Check, Take and Put. -/
import Derived.Test.YtibglhlhogfdnaaDoorURefL
namespace Go.Proofs.YtibglhlhogfdnaaDoor
open Go.RowKit QP AP

section
variable {w : World} {r : Nat} {K : List Kv} {F : Nat → Prop} {k : ByteArray}
/-- what a call tells, and what the table is then -/
def OutR (r : Nat) (K' : List Kv) (w : World) (F : Nat → Prop) (E : Int) (e : Ending) (w' : World) : Prop := e = .returned (.int .i64 E) ∧ Goes (RI r K') w w' F

set_option maxRecDepth 100000 in
set_option maxHeartbeats 2000000 in
theorem rcheck_any (h : RI r K w F) (hz : ∀ p ∈ K, p.2.size ≤ 100) (n c p : ByteArray) (hn : n.size ≤ 10000) (hc : c.size ≤ 10000) : Calls Tryd.prog 19 #[.pointer (some ⟨r, 0, none⟩), .string n, .string c, .string p] w (OutR r K w F (checkE K n c p)) := by
  have HPl : Hid (Calls Tryd.prog 29 #[.pointer (some ⟨r, 0, none⟩), .string n] w (PlcR w K n)) := rplace_any h n
  have HI : Hid (RI r K w F) := h
  have HR : Hid (Rise K) := h.rise
  have hfew := h.few
  obtain ⟨aK, cK, aV, cV, x1, x2, y1, y2, hcl, hx, -⟩ := h.shape
  obtain ⟨N, hN⟩ : ∃ N, K.length = N := ⟨_, rfl⟩
  have HN : Hid (K.length = N) := hN
  rw [hN] at y1 hcl hfew
  have HC : Hid (∀ u, Below w.heap.size w u → u.cell? ⟨r, 1, none⟩ = some (.slice aV N cV)) := fun u hu => (hcl u hu).2.2.1
  have HX : Hid (∀ u, Below w.heap.size w u → ∀ (i : Nat) k v, K[i]? = some (k, v) → ∃ b, aV = some ⟨b, 0, none⟩ ∧ u.cell? ⟨b, i, none⟩ = some (.string v)) := fun u hu i k v hi => by
    obtain ⟨_, b, _, e, _, c⟩ := hx u hu i k v hi
    exact ⟨b, e, c⟩
  unfold maxLen at y2
  clear h hcl hx hN x1 x2
  go_enter Tryd.func19, Tryd.ntmps19
  go_wp2_with fail
  refine HPl.out.mono ?_
  rintro e w1 ⟨i, bb, rfl, HPc, HW⟩
  have HB : Hid (Below w.heap.size w w1) := by
    obtain ⟨m, e⟩ := HW.out
    rw [e]
    exact below_drewN w m
  have HGo : Hid (∀ u, Below w1.heap.size w1 u → Goes (RI r K) w u F) := fun u hu => by
    obtain ⟨m, e⟩ := HW.out
    have h1 : Goes (RI r K) w w1 F := by rw [e]; exact Goes.drew (ri_res r K) HI.out m
    exact h1.thenStay (ri_res r K) hu
  clear HPl HW
  cases bb with
  | true =>
    obtain ⟨v, hv⟩ := HPc.out.2.1 rfl
    have hg := plc_there HR.out hv
    have hvs : v.size ≤ 100 := hz _ (List.mem_of_getElem? hv)
    have hiN : i < N := by have := (List.getElem?_eq_some_iff.1 hv).1; have := HN.out; omega
    have hiI : (i : Int) < (N : Int) := by omega
    have d0 := HC.out w1 HB.out
    obtain ⟨b, rfl, e0⟩ := HX.out w1 HB.out i n v hv
    obtain ⟨q, hq⟩ : ∃ q, proof v n c = q := ⟨_, rfl⟩
    have HP : Hid (Calls Tryd.prog 17 #[.string v, .string n, .string c] w1 fun e w' => e = .returned (.string q) ∧ Below w1.heap.size w1 w') := by
      have := rproof_any v n c w1 (by omega) hn hc
      rw [hq] at this
      exact this
    by_cases hpq : p = q
    · have HE : Hid (checkE K n c p = 0) := by show _ = _; rw [hpq, ← hq]; exact checkE_yes hg c
      subst hpq
      clear hv hg hq HPc
      go_wp2_with fail
      refine HP.out.mono ?_
      rintro e w2 ⟨rfl, hb2⟩
      go_wp2_with fail
      go_ret
      exact ⟨by rw [HE.out]; rfl, HGo.out _ hb2⟩
    · have HE : Hid (checkE K n c p = 250) := checkE_no hg (by rw [hq]; exact hpq)
      have hne : (p.toList == q.toList) = false := by rw [beq_eq_false_iff_ne]; exact fun e => hpq (toList_inj e)
      clear hv hg hq HPc hpq
      go_wp2_with fail
      refine HP.out.mono ?_
      rintro e w2 ⟨rfl, hb2⟩
      go_wp2_with fail
      go_ret
      exact ⟨by rw [HE.out]; rfl, HGo.out _ hb2⟩
  | false =>
    have hg := plc_none HR.out HPc.out.1 (HPc.out.2.2 rfl)
    have HE : Hid (checkE K n c p = 250) := checkE_none hg c p
    have HGo1 : Hid (Goes (RI r K) w w1 F) := HGo.out _ (Below.refl _ _)
    clear hg HPc HGo
    go_wp2_with fail
    go_ret
    exact ⟨by rw [HE.out]; rfl, HGo1.out⟩

set_option maxRecDepth 100000 in
set_option maxHeartbeats 1000000 in
theorem rtake_none (h : RI r K w F) (hg : getK k K = none) : Calls Tryd.prog 15 #[.pointer (some ⟨r, 0, none⟩), .string k] w (OutR r K w F 5) := by
  have HPl : Hid (Calls Tryd.prog 29 #[.pointer (some ⟨r, 0, none⟩), .string k] w (PlcR w K k)) := rplace_any h k
  have HI : Hid (RI r K w F) := h
  have HG : Hid (getK k K = none) := hg
  clear h hg
  go_enter Tryd.func15, Tryd.ntmps15
  go_wp2_with fail
  refine HPl.out.mono ?_
  rintro e w1 ⟨i, bb, rfl, HPc, HW⟩
  obtain rfl : bb = false := by
    cases bb with
    | false => rfl
    | true =>
      obtain ⟨v1, hv1⟩ := HPc.out.2.1 rfl
      have := plc_there HI.out.rise hv1
      rw [HG.out] at this
      cases this
  have HGo : Hid (Goes (RI r K) w w1 F) := by
    obtain ⟨n, e⟩ := HW.out
    rw [e]
    exact Goes.drew (ri_res r K) HI.out n
  clear HPl HPc HW HI HG
  go_wp2_with fail
  go_ret
  exact ⟨rfl, HGo.out⟩

set_option maxRecDepth 100000 in
set_option maxHeartbeats 4000000 in
theorem rtake_some (h : RI r K w F) {v0 : ByteArray} (hg : getK k K = some v0) : Calls Tryd.prog 15 #[.pointer (some ⟨r, 0, none⟩), .string k] w (OutR r (delK k K) w F 0) := by
  have HPl : Hid (Calls Tryd.prog 29 #[.pointer (some ⟨r, 0, none⟩), .string k] w (PlcR w K k)) := rplace_any h k
  have HR : Hid (Rise K) := h.rise
  have HG : Hid (getK k K = some v0) := hg
  have hl := h.few
  obtain ⟨aK, cK, aV, cV, x1, x2, y1, y2, hc, hx, hF⟩ := h.shape
  obtain ⟨N, hN⟩ : ∃ N, K.length = N := ⟨_, rfl⟩
  have HN : Hid (K.length = N) := hN
  rw [hN] at hc x1 y1 hl hF
  have HF : Hid (∀ i, F i ↔ rF r (.slice aK N cK) (.slice aV N cV) i) := hF
  have HU : Hid (RG w r (.slice aK N cK) (.slice aV N cV) K) := (hc w (Below.refl _ _)).1
  have HC : Hid (∀ u, Below w.heap.size w u → u.cell? ⟨r, 0, none⟩ = some (.slice aK N cK) ∧ u.cell? ⟨r, 1, none⟩ = some (.slice aV N cV) ∧ u.frozen? ⟨r, 0, none⟩ = false ∧ u.frozen? ⟨r, 1, none⟩ = false) := fun u hu => (hc u hu).2
  obtain ⟨XK, hXK⟩ : ∃ X, scells (keysOf K) = X := ⟨_, rfl⟩
  obtain ⟨XV, hXV⟩ : ∃ X, scells (valsOf K) = X := ⟨_, rfl⟩
  have HXK : Hid (scells (keysOf K) = XK ∧ XK.length = N ∧ ∀ u ∈ XK, u.oneCell' = true) := ⟨hXK, by rw [← hXK, scells_length, keysOf_length, hN], by rw [← hXK]; exact scells_one _⟩
  have HXV : Hid (scells (valsOf K) = XV ∧ XV.length = N ∧ ∀ u ∈ XV, u.oneCell' = true) := ⟨hXV, by rw [← hXV, scells_length, valsOf_length, hN], by rw [← hXV]; exact scells_one _⟩
  have RK : w.ownsRow 0 9 1 (.slice aK N cK) N XK := by have := HU.out.rk; rw [hN, hXK] at this; exact this
  have RV : w.ownsRow 0 9 1 (.slice aV N cV) N XV := by have := HU.out.rv; rw [hN, hXV] at this; exact this
  have HPK : Hid (∀ i, i ≤ N → (∃ ad c, Part 26 (.slice aK N cK) none (some (.int .i64 (i : Int))) w i (XK.take i) ad c) ∧ ∃ ad c, Part 26 (.slice aK N cK) (some (.int .i64 (i : Int))) none w (N - i) (XK.drop i) ad c) := fun i hi => ⟨part_to Tryd.underlying26 sizeS RK hi, part_from Tryd.underlying26 sizeS RK hi rfl⟩
  have HPV : Hid (∀ i, i ≤ N → (∃ ad c, Part 26 (.slice aV N cV) none (some (.int .i64 (i : Int))) w i (XV.take i) ad c) ∧ ∃ ad c, Part 26 (.slice aV N cV) (some (.int .i64 (i : Int))) none w (N - i) (XV.drop i) ad c) := fun i hi => ⟨part_to Tryd.underlying26 sizeS RV hi, part_from Tryd.underlying26 sizeS RV hi rfl⟩
  have HLt : Hid ((∀ g, (Value.slice aK N cK).ownBlock = some g → g < w.heap.size ∧ g ≠ r) ∧ (∀ g, (Value.slice aV N cV).ownBlock = some g → g < w.heap.size ∧ g ≠ r)) := ⟨fun g hg => ⟨ownsRow_lt RK hg, (HU.out.nk g hg).1⟩, fun g hg => ⟨ownsRow_lt RV hg, HU.out.nv g hg⟩⟩
  unfold maxLen at x2 y2
  clear h hg hc hN hXK hXV RK RV hF hx
  go_enter Tryd.func15, Tryd.ntmps15
  go_wp2_with fail
  refine HPl.out.mono ?_
  rintro e w1 ⟨i, bb, rfl, HPc, HW⟩
  have HB : Hid (Below w.heap.size w w1) := by
    obtain ⟨n, e⟩ := HW.out
    rw [e]
    exact below_drewN w n
  obtain rfl : bb = true := by
    cases bb with
    | true => rfl
    | false =>
      have := plc_none HR.out HPc.out.1 (HPc.out.2.2 rfl)
      rw [HG.out] at this
      cases this
  obtain ⟨v1, hv1⟩ := HPc.out.2.1 rfl
  obtain rfl : v0 = v1 := by
    have := plc_there HR.out hv1
    rw [HG.out] at this
    exact Option.some.inj this
  have hiN : i + 1 ≤ N := by have := (List.getElem?_eq_some_iff.1 hv1).1; have := HN.out; omega
  have hiI : (i : Int) < (N : Int) := by omega
  obtain ⟨K', hK'⟩ : ∃ K', delK k K = K' := ⟨_, rfl⟩
  have hins := delK_at HR.out hv1
  have HK' : Hid (delK k K = K' ∧ Rise K' ∧ K'.length + 1 = N) := by
    refine ⟨hK', hK' ▸ HR.out.del, ?_⟩
    rw [← hK', length_del HR.out HG.out, HN.out]
  have HKK : Hid (scells (keysOf K') = ([] ++ XK.take i) ++ XK.drop (i + 1)) := by
    show _ = _
    rw [← hK', hins, keys_del, HXK.out.1]
  have HKV : Hid (scells (valsOf K') = ([] ++ XV.take i) ++ XV.drop (i + 1)) := by
    show _ = _
    rw [← hK', hins, vals_del, HXV.out.1]
  rw [hK']
  obtain ⟨d, hd⟩ : ∃ d, N - (i + 1) = d := ⟨_, rfl⟩
  obtain ⟨⟨p1, q1, P1⟩, -⟩ := HPK.out i (by omega)
  obtain ⟨-, ⟨p2, q2, P2⟩⟩ := HPK.out (i + 1) hiN
  obtain ⟨⟨p3, q3, P3⟩, -⟩ := HPV.out i (by omega)
  obtain ⟨-, ⟨p4, q4, P4⟩⟩ := HPV.out (i + 1) hiN
  have hi1 : ((i + 1 : Nat) : Int) = (i : Int) + 1 := by omega
  rw [hd, hi1] at P2 P4
  have HP1 : Hid (Part 26 (.slice aK N cK) none (some (.int .i64 (i : Int))) w i (XK.take i) p1 q1) := P1
  have HP2 : Hid (Part 26 (.slice aK N cK) (some (.int .i64 ((i : Int) + 1))) none w d (XK.drop (i + 1)) p2 q2) := P2
  have HP3 : Hid (Part 26 (.slice aV N cV) none (some (.int .i64 (i : Int))) w i (XV.take i) p3 q3) := P3
  have HP4 : Hid (Part 26 (.slice aV N cV) (some (.int .i64 ((i : Int) + 1))) none w d (XV.drop (i + 1)) p4 q4) := P4
  have s1 := P1.1
  have s2 := P2.1
  have s3 := P3.1
  have s4 := P4.1
  have HBK : Hid (∀ u, Below w.heap.size w u → ∀ g, (Value.slice aK N cK).ownBlock = some g → u.heap[g]? = w.heap[g]?) := fun u hu g hg => hu.block g (HLt.out.1 g hg).1
  have HBV : Hid (∀ u, Below w.heap.size w u → ∀ g, (Value.slice aV N cV).ownBlock = some g → u.heap[g]? = w.heap[g]?) := fun u hu g hg => hu.block g (HLt.out.2 g hg).1
  have HT0 : Hid (Two2 w w1 (.slice none 0 0) (.slice none 0 0) [] []) := Two2.nil HB.out
  have hlK : Hid ((XK.take i).length = i ∧ (XK.drop (i + 1)).length = d ∧ (XV.take i).length = i ∧ (XV.drop (i + 1)).length = d) := by
    refine ⟨?_, ?_, ?_, ?_⟩ <;> simp [HXK.out.2.1, HXV.out.2.1] <;> omega
  have hN1 : i + d + 1 = N := by omega
  obtain ⟨M, hM⟩ : ∃ M, i + d = M := ⟨_, rfl⟩
  have hMN : M + 1 = N := by omega
  have HLe : Hid (([] ++ XK.take i).length + d = M ∧ ([] ++ XV.take i).length + d = M ∧ M = (([] ++ XK.take i) ++ XK.drop (i + 1)).length ∧ M = (([] ++ XV.take i) ++ XV.drop (i + 1)).length ∧ K'.length = M) := by
    obtain ⟨l1, l2, l3, l4⟩ := hlK.out
    have := HK'.out.2.2
    refine ⟨?_, ?_, ?_, ?_, ?_⟩ <;> (try simp only [List.nil_append, List.length_append, l1, l2, l3, l4]) <;> omega
  obtain ⟨c0, c1, f0, f1⟩ := HC.out w1 HB.out
  clear hK' hins P1 P2 P3 P4 HPK HPV HPl HW hd HG HPc hv1 hM hi1
  go_wp2_with (first
    | (refine wpList_app1 Tryd.underlying26 infoStr rfl (by decide) rfl _ _ rfl (take_one HXK.out.2.2 i) rfl HT0.out.rk rfl hlK.out.1 HP1.out.2.1 (HP1.out.2.2 _ (HBK.out _ HT0.out.bel)) (Nat.zero_add i) (by omega) HT0.out.bel.size ?_
       intro A1 e1 u1 k1 k2 k3
       have HT1 : Hid (Two2 w u1 (.slice A1 i e1) (.slice none 0 0) ([] ++ XK.take i) []) := HT0.out.key (by simp [hlK.out.1]) k1 k2 k3
       obtain ⟨c0, c1, f0, f1⟩ := HC.out u1 HT1.out.bel
       clear k1 k2 k3 HT0)
    | (refine wpList_app1 Tryd.underlying26 infoStr rfl (by decide) rfl _ _ rfl (take_one HXV.out.2.2 i) rfl HT1.out.rv rfl hlK.out.2.2.1 HP3.out.2.1 (HP3.out.2.2 _ (HBV.out _ HT1.out.bel)) (Nat.zero_add i) (by omega) HT1.out.bel.size ?_
       intro A2 e2 u2 k1 k2 k3
       have HT2 : Hid (Two2 w u2 (.slice A1 i e1) (.slice A2 i e2) ([] ++ XK.take i) ([] ++ XV.take i)) := HT1.out.val (by simp [hlK.out.2.2.1]) k1 k2 k3
       obtain ⟨c0, c1, f0, f1⟩ := HC.out u2 HT2.out.bel
       clear k1 k2 k3 HT1)
    | (refine wpList_app1 Tryd.underlying26 infoStr rfl (by decide) rfl _ _ rfl (drop_one HXK.out.2.2 (i + 1)) rfl HT2.out.rk rfl hlK.out.2.1 HP2.out.2.1 (HP2.out.2.2 _ (HBK.out _ HT2.out.bel)) (HLe.out.1) (by omega) HT2.out.bel.size ?_
       intro A5 e5 u5 k1 k2 k3
       have HH : Hid (RHalf w (u5.setCell ⟨r, 0, none⟩ (.slice A5 M e5)) r (.slice aV N cV) (.slice A5 M e5) (.slice A2 i e2) ([] ++ XV.take i) K') := Two2.half HU.out HT2.out (by rw [HKK.out, HLe.out.2.2.2.2]; exact k1) k2 k3
       have HT5 : Hid (Below w.heap.size w u5) := (HT2.out.key (HLe.out.2.2.1) k1 k2 k3).bel
       obtain ⟨c0, c1, f0, f1⟩ := HC.out u5 HT5.out
       have c2 : (u5.setCell ⟨r, 0, none⟩ (.slice A5 M e5)).cell? ⟨r, 1, none⟩ = some (.slice aV N cV) := (by rw [cell_of HH.out.st]; rfl)
       clear k1 k2 k3 HT2)
    | (refine wpList_app1 Tryd.underlying26 infoStr rfl (by decide) rfl _ _ rfl (drop_one HXV.out.2.2 (i + 1)) rfl HH.out.rv rfl hlK.out.2.2.2 HP4.out.2.1 (HP4.out.2.2 _ (fun g hg => HH.out.old g (HLt.out.2 g hg).1 (HLt.out.2 g hg).2)) (HLe.out.2.1) (by omega) HH.out.size ?_
       intro A6 e6 u6 k1 k2 k3
       have HGo : Hid (Goes (RI r K') w (u6.setCell ⟨r, 1, none⟩ (.slice A6 M e6)) F) := HH.out.done HF.out (lt_of HU.out.st) (by rw [HKV.out, HLe.out.2.2.2.2]; exact k1) k2 k3 HK'.out.2.1 (by rw [HLe.out.2.2.2.2]; omega)
       obtain ⟨c3, f3⟩ := HH.out.cell (lt_of HU.out.st) k2
       clear k1 k2 k3 HH))
  go_ret
  exact ⟨rfl, by rw [HK'.out.1]; exact HGo.out⟩



end
end Go.Proofs.YtibglhlhogfdnaaDoor
