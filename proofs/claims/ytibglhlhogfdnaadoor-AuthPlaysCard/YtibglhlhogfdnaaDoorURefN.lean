/- Layer 25: the document's Put. (The most of it written by a program out of layer 13's document.) -/
import Derived.Test.YtibglhlhogfdnaaDoorURefM
namespace Go.Proofs.YtibglhlhogfdnaaDoor
open Go.RowKit QP AP

section
variable {w : World} {r : Nat} {K : List Kv} {F : Nat → Prop} {k : ByteArray}

theorem keys_set {v v0 : ByteArray} {i : Nat} (hi : K[i]? = some (k, v0)) : scells (keysOf (K.set i (k, v))) = (([] ++ (scells (keysOf K)).take i) ++ [.string k]) ++ (scells (keysOf K)).drop (i + 1) := by
  obtain ⟨h1, h2⟩ := List.getElem?_eq_some_iff.1 hi
  rw [List.set_eq_take_append_cons_drop, if_pos h1]
  simp [scells, keysOf]
theorem vals_set {v v0 : ByteArray} {i : Nat} (hi : K[i]? = some (k, v0)) : scells (valsOf (K.set i (k, v))) = (([] ++ (scells (valsOf K)).take i) ++ [.string v]) ++ (scells (valsOf K)).drop (i + 1) := by
  obtain ⟨h1, h2⟩ := List.getElem?_eq_some_iff.1 hi
  rw [List.set_eq_take_append_cons_drop, if_pos h1]
  simp [scells, valsOf]

set_option maxRecDepth 100000 in
set_option maxHeartbeats 4000000 in
theorem rput_new (h : RI r K w F) (hk : nameOk k = true) (hg : getK k K = none) (hl : K.length < 4096) {v : ByteArray} (hv1 : 1 ≤ v.size) (hv2 : v.size ≤ 64) : Calls Tryd.prog 13 #[.pointer (some ⟨r, 0, none⟩), .string k, .string v] w (OutR r (insK k v K) w F 0) := by
  have HNm : Hid (Calls Tryd.prog 28 #[.string k] w fun e w' => e = .returned (.bool true) ∧ w = w') := by
    have := rnamed_any k w (by have := (nameOk_size hk).2; unfold maxLen; omega)
    rw [hk] at this
    exact this
  have e1 : decide ((v.size : Int) < 1) = false := decide_eq_false (by omega)
  have e2 : decide ((64 : Int) < (v.size : Int)) = false := decide_eq_false (by omega)
  have HPl : Hid (Calls Tryd.prog 29 #[.pointer (some ⟨r, 0, none⟩), .string k] w (PlcR w K k)) := rplace_any h k
  have HR : Hid (Rise K) := h.rise
  have HG : Hid (getK k K = none) := hg
  obtain ⟨aK, cK, aV, cV, x1, x2, y1, y2, hc, hx, hF⟩ := h.shape
  obtain ⟨N, hN⟩ : ∃ N, K.length = N := ⟨_, rfl⟩
  have HN : Hid (K.length = N) := hN
  rw [hN] at hc x1 y1 hl hF
  have HF : Hid (∀ i, F i ↔ rF r (.slice aK N cK) (.slice aV N cV) i) := hF
  have HU : Hid (RG w r (.slice aK N cK) (.slice aV N cV) K) := (hc w (Below.refl _ _)).1
  have HC : Hid (∀ u, Below w.heap.size w u → u.cell? ⟨r, 0, none⟩ = some (.slice aK N cK) ∧ u.cell? ⟨r, 1, none⟩ = some (.slice aV N cV) ∧ u.frozen? ⟨r, 0, none⟩ = false ∧ u.frozen? ⟨r, 1, none⟩ = false) := fun u hu => (hc u hu).2
  obtain ⟨XK, hXK⟩ : ∃ X, scells (keysOf K) = X := ⟨_, rfl⟩
  obtain ⟨XV, hXV⟩ : ∃ X, scells (valsOf K) = X := ⟨_, rfl⟩
  have HXK : Hid (scells (keysOf K) = XK ∧ XK.length = N ∧ ∀ u ∈ XK, u.oneCell' = true) := ⟨hXK, by rw [← hXK, scells_length, keysOf_length, hN], by rw [← hXK]; exact scells_one _⟩
  have HXV : Hid (scells (valsOf K) = XV ∧ XV.length = N ∧ ∀ u ∈ XV, u.oneCell' = true) := ⟨hXV, by rw [← hXV, scells_length, valsOf_length, hN], by rw [← hXV]; exact scells_one _⟩
  have RK : w.ownsRow 0 9 1 (.slice aK N cK) N XK := by have := HU.out.rk; rw [hN, hXK] at this; exact this
  have RV : w.ownsRow 0 9 1 (.slice aV N cV) N XV := by have := HU.out.rv; rw [hN, hXV] at this; exact this
  have HPK : Hid (∀ i, i ≤ N → (∃ ad c, Part 26 (.slice aK N cK) none (some (.int .i64 (i : Int))) w i (XK.take i) ad c) ∧ ∃ ad c, Part 26 (.slice aK N cK) (some (.int .i64 (i : Int))) none w (N - i) (XK.drop i) ad c) := fun i hi => ⟨part_to Tryd.underlying26 sizeS RK hi, part_from Tryd.underlying26 sizeS RK hi rfl⟩
  have HPV : Hid (∀ i, i ≤ N → (∃ ad c, Part 26 (.slice aV N cV) none (some (.int .i64 (i : Int))) w i (XV.take i) ad c) ∧ ∃ ad c, Part 26 (.slice aV N cV) (some (.int .i64 (i : Int))) none w (N - i) (XV.drop i) ad c) := fun i hi => ⟨part_to Tryd.underlying26 sizeS RV hi, part_from Tryd.underlying26 sizeS RV hi rfl⟩
  have HLt : Hid ((∀ g, (Value.slice aK N cK).ownBlock = some g → g < w.heap.size ∧ g ≠ r) ∧ (∀ g, (Value.slice aV N cV).ownBlock = some g → g < w.heap.size ∧ g ≠ r)) := ⟨fun g hg => ⟨ownsRow_lt RK hg, (HU.out.nk g hg).1⟩, fun g hg => ⟨ownsRow_lt RV hg, HU.out.nv g hg⟩⟩
  unfold maxLen at x2 y2
  clear h hg hk hc hx hN hXK hXV RK RV hF
  have e3 : decide ((4096 : Int) ≤ (N : Int)) = false := decide_eq_false (by omega)
  go_enter Tryd.func13, Tryd.ntmps13
  go_wp2_with fail
  refine HNm.out.mono ?_
  rintro e w0 ⟨rfl, rfl⟩
  go_wp2_with fail
  refine HPl.out.mono ?_
  rintro e w1 ⟨i, bb, rfl, HPc, HW⟩
  have HB : Hid (Below w.heap.size w w1) := by
    obtain ⟨n, e⟩ := HW.out
    rw [e]
    exact below_drewN w n
  obtain rfl : bb = false := by
    cases bb with
    | false => rfl
    | true =>
      obtain ⟨v1, hv1⟩ := HPc.out.2.1 rfl
      have := plc_there HR.out hv1
      rw [HG.out] at this
      cases this
  have hiN : i ≤ N := by have := HPc.out.1.le; have := HN.out; omega
  obtain ⟨K', hK'⟩ : ∃ K', insK k v K = K' := ⟨_, rfl⟩
  have hins := insK_new (v := v) HR.out HPc.out.1 (HPc.out.2.2 rfl)
  have HK' : Hid (insK k v K = K' ∧ Rise K' ∧ K'.length = N + 1) := by
    refine ⟨hK', hK' ▸ HR.out.ins, ?_⟩
    rw [← hK', length_ins_new HR.out HG.out, HN.out]
  have HKK : Hid (scells (keysOf K') = (([] ++ XK.take i) ++ [.string k]) ++ XK.drop i) := by
    show _ = _
    rw [← hK', hins, keys_ins HPc.out.1.le, HXK.out.1]
  have HKV : Hid (scells (valsOf K') = (([] ++ XV.take i) ++ [.string v]) ++ XV.drop i) := by
    show _ = _
    rw [← hK', hins, vals_ins HPc.out.1.le, HXV.out.1]
  rw [hK']
  obtain ⟨d, hd⟩ : ∃ d, N - i = d := ⟨_, rfl⟩
  obtain ⟨⟨p1, q1, P1⟩, ⟨p2, q2, P2⟩⟩ := HPK.out i hiN
  obtain ⟨⟨p3, q3, P3⟩, ⟨p4, q4, P4⟩⟩ := HPV.out i hiN
  rw [hd] at P2 P4
  have HP1 : Hid (Part 26 (.slice aK N cK) none (some (.int .i64 (i : Int))) w i (XK.take i) p1 q1) := P1
  have HP2 : Hid (Part 26 (.slice aK N cK) (some (.int .i64 (i : Int))) none w d (XK.drop i) p2 q2) := P2
  have HP3 : Hid (Part 26 (.slice aV N cV) none (some (.int .i64 (i : Int))) w i (XV.take i) p3 q3) := P3
  have HP4 : Hid (Part 26 (.slice aV N cV) (some (.int .i64 (i : Int))) none w d (XV.drop i) p4 q4) := P4
  have s1 := P1.1
  have s2 := P2.1
  have s3 := P3.1
  have s4 := P4.1
  have HBK : Hid (∀ u, Below w.heap.size w u → ∀ g, (Value.slice aK N cK).ownBlock = some g → u.heap[g]? = w.heap[g]?) := fun u hu g hg => hu.block g (HLt.out.1 g hg).1
  have HBV : Hid (∀ u, Below w.heap.size w u → ∀ g, (Value.slice aV N cV).ownBlock = some g → u.heap[g]? = w.heap[g]?) := fun u hu g hg => hu.block g (HLt.out.2 g hg).1
  have HT0 : Hid (Two2 w w1 (.slice none 0 0) (.slice none 0 0) [] []) := Two2.nil HB.out
  have hlK : Hid ((XK.take i).length = i ∧ (XK.drop i).length = d ∧ (XV.take i).length = i ∧ (XV.drop i).length = d) := by
    refine ⟨?_, ?_, ?_, ?_⟩ <;> simp [HXK.out.2.1, HXV.out.2.1] <;> omega
  have hN1 : i + 1 + d = N + 1 := by omega
  have HLe : Hid ((([] ++ XK.take i) ++ [Value.string k]).length + d = N + 1 ∧ (([] ++ XV.take i) ++ [Value.string v]).length + d = N + 1 ∧ N + 1 = ((([] ++ XK.take i) ++ [Value.string k]) ++ XK.drop i).length ∧ N + 1 = ((([] ++ XV.take i) ++ [Value.string v]) ++ XV.drop i).length) := by
    obtain ⟨l1, l2, l3, l4⟩ := hlK.out
    refine ⟨?_, ?_, ?_, ?_⟩ <;> simp only [List.nil_append, List.length_append, List.length_singleton, l1, l2, l3, l4] <;> omega
  obtain ⟨c0, c1, f0, f1⟩ := HC.out w1 HB.out
  clear hK' hins P1 P2 P3 P4 HPK HPV HPl HW hd HG HPc HNm
  go_wp2_with (first
    | (refine wpList_app1 Tryd.underlying26 infoStr rfl (by decide) rfl _ _ rfl (take_one HXK.out.2.2 i) rfl HT0.out.rk rfl hlK.out.1 HP1.out.2.1 (HP1.out.2.2 _ (HBK.out _ HT0.out.bel)) (Nat.zero_add i) (by omega) HT0.out.bel.size ?_
       intro A1 e1 u1 k1 k2 k3
       have HT1 : Hid (Two2 w u1 (.slice A1 i e1) (.slice none 0 0) ([] ++ XK.take i) []) := HT0.out.key (by simp [hlK.out.1]) k1 k2 k3
       obtain ⟨c0, c1, f0, f1⟩ := HC.out u1 HT1.out.bel
       clear k1 k2 k3 HT0)
    | (refine wpList_app1 Tryd.underlying26 infoStr rfl (by decide) rfl _ _ rfl (take_one HXV.out.2.2 i) rfl HT1.out.rv rfl hlK.out.2.2.1 HP3.out.2.1 (HP3.out.2.2 _ (HBV.out _ HT1.out.bel)) (Nat.zero_add i) (by omega) HT1.out.bel.size ?_
       intro A2 e2 u2 k1 k2 k3
       have HT2 : Hid (Two2 w u2 (.slice A1 i e1) (.slice A2 i e2) ([] ++ XK.take i) ([] ++ XV.take i)) := HT1.out.val (by simp [hlK.out.2.2.1]) k1 k2 k3
       obtain ⟨c0, c1, f0, f1⟩ := HC.out u2 HT2.out.bel
       have HTa : Hid (Two2 w (u2.alloc (.cells #[.string k] 9 (0, 0))) (.slice A1 i e1) (.slice A2 i e2) ([] ++ XK.take i) ([] ++ XV.take i)) := HT2.out.stay (below_al u2 _)
       clear k1 k2 k3 HT1 HT2)
    | (refine wpList_app1 Tryd.underlying26 infoStr rfl (by decide) rfl _ _ rfl (str_one k) rfl HTa.out.rk rfl rfl (fun h => by cases h) one_new (by rw [List.nil_append, hlK.out.1]) (by omega) HTa.out.bel.size ?_
       intro A3 e3 u3 k1 k2 k3
       have HT3 : Hid (Two2 w u3 (.slice A3 (i + 1) e3) (.slice A2 i e2) (([] ++ XK.take i) ++ [.string k]) ([] ++ XV.take i)) := HTa.out.key (by simp [hlK.out.1]) k1 k2 k3
       obtain ⟨c0, c1, f0, f1⟩ := HC.out u3 HT3.out.bel
       have HTb : Hid (Two2 w (u3.alloc (.cells #[.string v] 9 (0, 0))) (.slice A3 (i + 1) e3) (.slice A2 i e2) (([] ++ XK.take i) ++ [.string k]) ([] ++ XV.take i)) := HT3.out.stay (below_al u3 _)
       clear k1 k2 k3 HTa HT3)
    | (refine wpList_app1 Tryd.underlying26 infoStr rfl (by decide) rfl _ _ rfl (str_one v) rfl HTb.out.rv rfl rfl (fun h => by cases h) one_new (by rw [List.nil_append, hlK.out.2.2.1]) (by omega) HTb.out.bel.size ?_
       intro A4 e4 u4 k1 k2 k3
       have HT4 : Hid (Two2 w u4 (.slice A3 (i + 1) e3) (.slice A4 (i + 1) e4) (([] ++ XK.take i) ++ [.string k]) (([] ++ XV.take i) ++ [.string v])) := HTb.out.val (by simp [hlK.out.2.2.1]) k1 k2 k3
       obtain ⟨c0, c1, f0, f1⟩ := HC.out u4 HT4.out.bel
       clear k1 k2 k3 HTb)
    | (refine wpList_app1 Tryd.underlying26 infoStr rfl (by decide) rfl _ _ rfl (drop_one HXK.out.2.2 i) rfl HT4.out.rk rfl hlK.out.2.1 HP2.out.2.1 (HP2.out.2.2 _ (HBK.out _ HT4.out.bel)) (HLe.out.1) (by omega) HT4.out.bel.size ?_
       intro A5 e5 u5 k1 k2 k3
       have HH : Hid (RHalf w (u5.setCell ⟨r, 0, none⟩ (.slice A5 (N + 1) e5)) r (.slice aV N cV) (.slice A5 (N + 1) e5) (.slice A4 (i + 1) e4) (([] ++ XV.take i) ++ [.string v]) K') := Two2.half HU.out HT4.out (by rw [HKK.out, HK'.out.2.2]; exact k1) k2 k3
       have HT5 : Hid (Below w.heap.size w u5) := (HT4.out.key (HLe.out.2.2.1) k1 k2 k3).bel
       obtain ⟨c0, c1, f0, f1⟩ := HC.out u5 HT5.out
       have c2 : (u5.setCell ⟨r, 0, none⟩ (.slice A5 (N + 1) e5)).cell? ⟨r, 1, none⟩ = some (.slice aV N cV) := (by rw [cell_of HH.out.st]; rfl)
       clear k1 k2 k3 HT4)
    | (refine wpList_app1 Tryd.underlying26 infoStr rfl (by decide) rfl _ _ rfl (drop_one HXV.out.2.2 i) rfl HH.out.rv rfl hlK.out.2.2.2 HP4.out.2.1 (HP4.out.2.2 _ (fun g hg => HH.out.old g (HLt.out.2 g hg).1 (HLt.out.2 g hg).2)) (HLe.out.2.1) (by omega) HH.out.size ?_
       intro A6 e6 u6 k1 k2 k3
       have HGo : Hid (Goes (RI r K') w (u6.setCell ⟨r, 1, none⟩ (.slice A6 (N + 1) e6)) F) := HH.out.done HF.out (lt_of HU.out.st) (by rw [HKV.out, HK'.out.2.2]; exact k1) k2 k3 HK'.out.2.1 (by rw [HK'.out.2.2]; omega)
       obtain ⟨c3, f3⟩ := HH.out.cell (lt_of HU.out.st) k2
       clear k1 k2 k3 HH))
  go_ret
  exact ⟨rfl, by rw [HK'.out.1]; exact HGo.out⟩

set_option maxRecDepth 100000 in
set_option maxHeartbeats 4000000 in
theorem rput_there (h : RI r K w F) (hk : nameOk k = true) {v0 : ByteArray} (hg : getK k K = some v0) {v : ByteArray} (hv1 : 1 ≤ v.size) (hv2 : v.size ≤ 64) : Calls Tryd.prog 13 #[.pointer (some ⟨r, 0, none⟩), .string k, .string v] w (OutR r (insK k v K) w F 0) := by
  have HNm : Hid (Calls Tryd.prog 28 #[.string k] w fun e w' => e = .returned (.bool true) ∧ w = w') := by
    have := rnamed_any k w (by have := (nameOk_size hk).2; unfold maxLen; omega)
    rw [hk] at this
    exact this
  have e1 : decide ((v.size : Int) < 1) = false := decide_eq_false (by omega)
  have e2 : decide ((64 : Int) < (v.size : Int)) = false := decide_eq_false (by omega)
  have HPl : Hid (Calls Tryd.prog 29 #[.pointer (some ⟨r, 0, none⟩), .string k] w (PlcR w K k)) := rplace_any h k
  have HR : Hid (Rise K) := h.rise
  have HG : Hid (getK k K = some v0) := hg
  have hl := h.few
  obtain ⟨aK, cK, aV, cV, x1, x2, y1, y2, hc, hx, hF⟩ := h.shape
  obtain ⟨N, hN⟩ : ∃ N, K.length = N := ⟨_, rfl⟩
  have HN : Hid (K.length = N) := hN
  rw [hN] at hc x1 y1 hl hF
  have HF : Hid (∀ i, F i ↔ rF r (.slice aK N cK) (.slice aV N cV) i) := hF
  have HU : Hid (RG w r (.slice aK N cK) (.slice aV N cV) K) := (hc w (Below.refl _ _)).1
  have HC : Hid (∀ u, Below w.heap.size w u → u.cell? ⟨r, 0, none⟩ = some (.slice aK N cK) ∧ u.cell? ⟨r, 1, none⟩ = some (.slice aV N cV) ∧ u.frozen? ⟨r, 0, none⟩ = false ∧ u.frozen? ⟨r, 1, none⟩ = false) := fun u hu => (hc u hu).2
  obtain ⟨XK, hXK⟩ : ∃ X, scells (keysOf K) = X := ⟨_, rfl⟩
  obtain ⟨XV, hXV⟩ : ∃ X, scells (valsOf K) = X := ⟨_, rfl⟩
  have HXK : Hid (scells (keysOf K) = XK ∧ XK.length = N ∧ ∀ u ∈ XK, u.oneCell' = true) := ⟨hXK, by rw [← hXK, scells_length, keysOf_length, hN], by rw [← hXK]; exact scells_one _⟩
  have HXV : Hid (scells (valsOf K) = XV ∧ XV.length = N ∧ ∀ u ∈ XV, u.oneCell' = true) := ⟨hXV, by rw [← hXV, scells_length, valsOf_length, hN], by rw [← hXV]; exact scells_one _⟩
  have RK : w.ownsRow 0 9 1 (.slice aK N cK) N XK := by have := HU.out.rk; rw [hN, hXK] at this; exact this
  have RV : w.ownsRow 0 9 1 (.slice aV N cV) N XV := by have := HU.out.rv; rw [hN, hXV] at this; exact this
  have HPK : Hid (∀ i, i ≤ N → (∃ ad c, Part 26 (.slice aK N cK) none (some (.int .i64 (i : Int))) w i (XK.take i) ad c) ∧ ∃ ad c, Part 26 (.slice aK N cK) (some (.int .i64 (i : Int))) none w (N - i) (XK.drop i) ad c) := fun i hi => ⟨part_to Tryd.underlying26 sizeS RK hi, part_from Tryd.underlying26 sizeS RK hi rfl⟩
  have HPV : Hid (∀ i, i ≤ N → (∃ ad c, Part 26 (.slice aV N cV) none (some (.int .i64 (i : Int))) w i (XV.take i) ad c) ∧ ∃ ad c, Part 26 (.slice aV N cV) (some (.int .i64 (i : Int))) none w (N - i) (XV.drop i) ad c) := fun i hi => ⟨part_to Tryd.underlying26 sizeS RV hi, part_from Tryd.underlying26 sizeS RV hi rfl⟩
  have HLt : Hid ((∀ g, (Value.slice aK N cK).ownBlock = some g → g < w.heap.size ∧ g ≠ r) ∧ (∀ g, (Value.slice aV N cV).ownBlock = some g → g < w.heap.size ∧ g ≠ r)) := ⟨fun g hg => ⟨ownsRow_lt RK hg, (HU.out.nk g hg).1⟩, fun g hg => ⟨ownsRow_lt RV hg, HU.out.nv g hg⟩⟩
  unfold maxLen at x2 y2
  clear h hg hk hc hx hN hXK hXV RK RV hF
  go_enter Tryd.func13, Tryd.ntmps13
  go_wp2_with fail
  refine HNm.out.mono ?_
  rintro e w0 ⟨rfl, rfl⟩
  go_wp2_with fail
  refine HPl.out.mono ?_
  rintro e w1 ⟨i, bb, rfl, HPc, HW⟩
  have HB : Hid (Below w.heap.size w w1) := by
    obtain ⟨n, e⟩ := HW.out
    rw [e]
    exact below_drewN w n
  obtain rfl : bb = true := by
    cases bb with
    | true => rfl
    | false =>
      have := plc_none HR.out HPc.out.1 (HPc.out.2.2 rfl)
      rw [HG.out] at this
      cases this
  obtain ⟨va, hva⟩ := HPc.out.2.1 rfl
  have hiN : i + 1 ≤ N := by have := (List.getElem?_eq_some_iff.1 hva).1; have := HN.out; omega
  obtain ⟨K', hK'⟩ : ∃ K', insK k v K = K' := ⟨_, rfl⟩
  have hins := insK_there (v := v) HR.out hva
  have HK' : Hid (insK k v K = K' ∧ Rise K' ∧ K'.length = N) := by
    refine ⟨hK', hK' ▸ HR.out.ins, ?_⟩
    rw [← hK', hins, List.length_set, HN.out]
  have HKK : Hid (scells (keysOf K') = (([] ++ XK.take i) ++ [.string k]) ++ XK.drop (i + 1)) := by
    show _ = _
    rw [← hK', hins, keys_set hva, HXK.out.1]
  have HKV : Hid (scells (valsOf K') = (([] ++ XV.take i) ++ [.string v]) ++ XV.drop (i + 1)) := by
    show _ = _
    rw [← hK', hins, vals_set hva, HXV.out.1]
  rw [hK']
  obtain ⟨d, hd⟩ : ∃ d, N - (i + 1) = d := ⟨_, rfl⟩
  obtain ⟨⟨p1, q1, P1⟩, -⟩ := HPK.out i (by omega)
  obtain ⟨-, ⟨p2, q2, P2⟩⟩ := HPK.out (i + 1) hiN
  obtain ⟨⟨p3, q3, P3⟩, -⟩ := HPV.out i (by omega)
  obtain ⟨-, ⟨p4, q4, P4⟩⟩ := HPV.out (i + 1) hiN
  have hi1 : ((i + 1 : Nat) : Int) = (i : Int) + 1 := by omega
  rw [hd, hi1] at P2 P4
  have HP1 : Hid (Part 26 (.slice aK N cK) none (some (.int .i64 (i : Int))) w i (XK.take i) p1 q1) := P1
  have HP2 : Hid (Part 26 (.slice aK N cK) (some (.int .i64 ((i : Int) + 1))) none w d (XK.drop (i + 1)) p2 q2) := P2
  have HP3 : Hid (Part 26 (.slice aV N cV) none (some (.int .i64 (i : Int))) w i (XV.take i) p3 q3) := P3
  have HP4 : Hid (Part 26 (.slice aV N cV) (some (.int .i64 ((i : Int) + 1))) none w d (XV.drop (i + 1)) p4 q4) := P4
  have s1 := P1.1
  have s2 := P2.1
  have s3 := P3.1
  have s4 := P4.1
  have HBK : Hid (∀ u, Below w.heap.size w u → ∀ g, (Value.slice aK N cK).ownBlock = some g → u.heap[g]? = w.heap[g]?) := fun u hu g hg => hu.block g (HLt.out.1 g hg).1
  have HBV : Hid (∀ u, Below w.heap.size w u → ∀ g, (Value.slice aV N cV).ownBlock = some g → u.heap[g]? = w.heap[g]?) := fun u hu g hg => hu.block g (HLt.out.2 g hg).1
  have HT0 : Hid (Two2 w w1 (.slice none 0 0) (.slice none 0 0) [] []) := Two2.nil HB.out
  have hlK : Hid ((XK.take i).length = i ∧ (XK.drop (i + 1)).length = d ∧ (XV.take i).length = i ∧ (XV.drop (i + 1)).length = d) := by
    refine ⟨?_, ?_, ?_, ?_⟩ <;> simp [HXK.out.2.1, HXV.out.2.1] <;> omega
  have hN1 : i + 1 + d = N := by omega
  have HLe : Hid ((([] ++ XK.take i) ++ [Value.string k]).length + d = N ∧ (([] ++ XV.take i) ++ [Value.string v]).length + d = N ∧ N = ((([] ++ XK.take i) ++ [Value.string k]) ++ XK.drop (i + 1)).length ∧ N = ((([] ++ XV.take i) ++ [Value.string v]) ++ XV.drop (i + 1)).length) := by
    obtain ⟨l1, l2, l3, l4⟩ := hlK.out
    refine ⟨?_, ?_, ?_, ?_⟩ <;> simp only [List.nil_append, List.length_append, List.length_singleton, l1, l2, l3, l4] <;> omega
  obtain ⟨c0, c1, f0, f1⟩ := HC.out w1 HB.out
  clear hK' hins P1 P2 P3 P4 HPK HPV HPl HW hd HG HPc HNm hi1 hva
  go_wp2_with (first
    | (refine wpList_app1 Tryd.underlying26 infoStr rfl (by decide) rfl _ _ rfl (take_one HXK.out.2.2 i) rfl HT0.out.rk rfl hlK.out.1 HP1.out.2.1 (HP1.out.2.2 _ (HBK.out _ HT0.out.bel)) (Nat.zero_add i) (by omega) HT0.out.bel.size ?_
       intro A1 e1 u1 k1 k2 k3
       have HT1 : Hid (Two2 w u1 (.slice A1 i e1) (.slice none 0 0) ([] ++ XK.take i) []) := HT0.out.key (by simp [hlK.out.1]) k1 k2 k3
       obtain ⟨c0, c1, f0, f1⟩ := HC.out u1 HT1.out.bel
       clear k1 k2 k3 HT0)
    | (refine wpList_app1 Tryd.underlying26 infoStr rfl (by decide) rfl _ _ rfl (take_one HXV.out.2.2 i) rfl HT1.out.rv rfl hlK.out.2.2.1 HP3.out.2.1 (HP3.out.2.2 _ (HBV.out _ HT1.out.bel)) (Nat.zero_add i) (by omega) HT1.out.bel.size ?_
       intro A2 e2 u2 k1 k2 k3
       have HT2 : Hid (Two2 w u2 (.slice A1 i e1) (.slice A2 i e2) ([] ++ XK.take i) ([] ++ XV.take i)) := HT1.out.val (by simp [hlK.out.2.2.1]) k1 k2 k3
       obtain ⟨c0, c1, f0, f1⟩ := HC.out u2 HT2.out.bel
       have HTa : Hid (Two2 w (u2.alloc (.cells #[.string k] 9 (0, 0))) (.slice A1 i e1) (.slice A2 i e2) ([] ++ XK.take i) ([] ++ XV.take i)) := HT2.out.stay (below_al u2 _)
       clear k1 k2 k3 HT1 HT2)
    | (refine wpList_app1 Tryd.underlying26 infoStr rfl (by decide) rfl _ _ rfl (str_one k) rfl HTa.out.rk rfl rfl (fun h => by cases h) one_new (by rw [List.nil_append, hlK.out.1]) (by omega) HTa.out.bel.size ?_
       intro A3 e3 u3 k1 k2 k3
       have HT3 : Hid (Two2 w u3 (.slice A3 (i + 1) e3) (.slice A2 i e2) (([] ++ XK.take i) ++ [.string k]) ([] ++ XV.take i)) := HTa.out.key (by simp [hlK.out.1]) k1 k2 k3
       obtain ⟨c0, c1, f0, f1⟩ := HC.out u3 HT3.out.bel
       have HTb : Hid (Two2 w (u3.alloc (.cells #[.string v] 9 (0, 0))) (.slice A3 (i + 1) e3) (.slice A2 i e2) (([] ++ XK.take i) ++ [.string k]) ([] ++ XV.take i)) := HT3.out.stay (below_al u3 _)
       clear k1 k2 k3 HTa HT3)
    | (refine wpList_app1 Tryd.underlying26 infoStr rfl (by decide) rfl _ _ rfl (str_one v) rfl HTb.out.rv rfl rfl (fun h => by cases h) one_new (by rw [List.nil_append, hlK.out.2.2.1]) (by omega) HTb.out.bel.size ?_
       intro A4 e4 u4 k1 k2 k3
       have HT4 : Hid (Two2 w u4 (.slice A3 (i + 1) e3) (.slice A4 (i + 1) e4) (([] ++ XK.take i) ++ [.string k]) (([] ++ XV.take i) ++ [.string v])) := HTb.out.val (by simp [hlK.out.2.2.1]) k1 k2 k3
       obtain ⟨c0, c1, f0, f1⟩ := HC.out u4 HT4.out.bel
       clear k1 k2 k3 HTb)
    | (refine wpList_app1 Tryd.underlying26 infoStr rfl (by decide) rfl _ _ rfl (drop_one HXK.out.2.2 (i + 1)) rfl HT4.out.rk rfl hlK.out.2.1 HP2.out.2.1 (HP2.out.2.2 _ (HBK.out _ HT4.out.bel)) (HLe.out.1) (by omega) HT4.out.bel.size ?_
       intro A5 e5 u5 k1 k2 k3
       have HH : Hid (RHalf w (u5.setCell ⟨r, 0, none⟩ (.slice A5 N e5)) r (.slice aV N cV) (.slice A5 N e5) (.slice A4 (i + 1) e4) (([] ++ XV.take i) ++ [.string v]) K') := Two2.half HU.out HT4.out (by rw [HKK.out, HK'.out.2.2]; exact k1) k2 k3
       have HT5 : Hid (Below w.heap.size w u5) := (HT4.out.key (HLe.out.2.2.1) k1 k2 k3).bel
       obtain ⟨c0, c1, f0, f1⟩ := HC.out u5 HT5.out
       have c2 : (u5.setCell ⟨r, 0, none⟩ (.slice A5 N e5)).cell? ⟨r, 1, none⟩ = some (.slice aV N cV) := (by rw [cell_of HH.out.st]; rfl)
       clear k1 k2 k3 HT4)
    | (refine wpList_app1 Tryd.underlying26 infoStr rfl (by decide) rfl _ _ rfl (drop_one HXV.out.2.2 (i + 1)) rfl HH.out.rv rfl hlK.out.2.2.2 HP4.out.2.1 (HP4.out.2.2 _ (fun g hg => HH.out.old g (HLt.out.2 g hg).1 (HLt.out.2 g hg).2)) (HLe.out.2.1) (by omega) HH.out.size ?_
       intro A6 e6 u6 k1 k2 k3
       have HGo : Hid (Goes (RI r K') w (u6.setCell ⟨r, 1, none⟩ (.slice A6 N e6)) F) := HH.out.done HF.out (lt_of HU.out.st) (by rw [HKV.out, HK'.out.2.2]; exact k1) k2 k3 HK'.out.2.1 (by rw [HK'.out.2.2]; omega)
       obtain ⟨c3, f3⟩ := HH.out.cell (lt_of HU.out.st) k2
       clear k1 k2 k3 HH))
  go_ret
  exact ⟨rfl, by rw [HK'.out.1]; exact HGo.out⟩

end
end Go.Proofs.YtibglhlhogfdnaaDoor
