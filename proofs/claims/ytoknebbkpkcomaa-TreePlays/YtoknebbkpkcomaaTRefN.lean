/- The document's tree: a new key is put in; a key is taken out. -/
import Derived.Test.YtoknebbkpkcomaaTRefP
namespace Go.Proofs.Ytoknebbkpkcomaa
open Go.RowKit

section
variable {w : World} {r : Nat} {K : List Kv} {F : Nat → Prop} {k : ByteArray}

theorem take_one {X : List Value} (h : ∀ u ∈ X, u.oneCell' = true) (i : Nat) : ∀ u ∈ X.take i, u.oneCell' = true := fun u hu => h u (List.mem_of_mem_take hu)
theorem drop_one {X : List Value} (h : ∀ u ∈ X, u.oneCell' = true) (i : Nat) : ∀ u ∈ X.drop i, u.oneCell' = true := fun u hu => h u (List.mem_of_mem_drop hu)
theorem str_one (k : ByteArray) : ∀ u ∈ [Value.string k], u.oneCell' = true := fun u hu => by rw [List.mem_singleton.1 hu]; rfl
theorem int_one (v : Int) : ∀ u ∈ [Value.int .i64 v], u.oneCell' = true := fun u hu => by rw [List.mem_singleton.1 hu]; rfl

/-- what a slice operation tells, and what it shows as long as a row is as it was -/
def Part (T : TypeId) (v : Value) (lo hi : Option Value) (w : World) (m : Nat) (ys : List Value) (ad : Option Addr) (c : Nat) : Prop :=
  (∀ W : World, (Instr.slice T v lo hi none).run Try.prog W = .ok (.slice ad m c) W) ∧ (ad = none → c = 0) ∧ ∀ u : World, (∀ g, v.ownBlock = some g → u.heap[g]? = w.heap[g]?) → ys ≠ [] → ∃ b off, ad = some ⟨b, off, none⟩ ∧ ∀ (j : Nat) x, ys[j]? = some x → u.cell? ⟨b, off + j, none⟩ = some x

set_option maxRecDepth 100000 in
set_option maxHeartbeats 4000000 in
theorem uput_new (h : UI r K w F) (hk : k.size ≤ 4096) (hg : getK k K = none) (hl : K.length < 4096) (v : Int) : Calls Try.prog 25 #[.pointer (some ⟨r, 0, none⟩), .string k, .int .i64 v] w (UPutR r (insK k v K) w F 0 false 0) := by
  have HPl : Hid (Calls Try.prog 42 #[.pointer (some ⟨r, 0, none⟩), .string k] w fun e w' => ∃ (i : Nat) (b : Bool), e = .returned (.tuple #[.int .i64 (i : Int), .bool b]) ∧ Hid (Plc K k i b) ∧ Hid (∃ n, w' = w.drewN n)) := uplace_any h k
  have HR : Hid (Rise K) := h.rise
  have HG : Hid (getK k K = none) := hg
  have hkI : ¬ (4096 : Int) < (k.size : Int) := by omega
  obtain ⟨aK, cK, aV, cV, x1, x2, y1, y2, hc, hx, hF⟩ := h.shape
  obtain ⟨N, hN⟩ : ∃ N, K.length = N := ⟨_, rfl⟩
  have HN : Hid (K.length = N) := hN
  rw [hN] at hc x1 y1 hl hF
  have HF : Hid (∀ i, F i ↔ uF r (.slice aK N cK) (.slice aV N cV) i) := hF
  have HU : Hid (UG w r (.slice aK N cK) (.slice aV N cV) K) := (hc w (Below.refl _ _)).1
  have HC : Hid (∀ u, Below w.heap.size w u → u.cell? ⟨r, 0, none⟩ = some (.slice aK N cK) ∧ u.cell? ⟨r, 1, none⟩ = some (.slice aV N cV) ∧ u.frozen? ⟨r, 0, none⟩ = false ∧ u.frozen? ⟨r, 1, none⟩ = false) := fun u hu => (hc u hu).2
  obtain ⟨XK, hXK⟩ : ∃ X, scells (keysOf K) = X := ⟨_, rfl⟩
  obtain ⟨XV, hXV⟩ : ∃ X, icells (valsOf K) = X := ⟨_, rfl⟩
  have HXK : Hid (scells (keysOf K) = XK ∧ XK.length = N ∧ ∀ u ∈ XK, u.oneCell' = true) := ⟨hXK, by rw [← hXK, scells_length, keysOf_length, hN], by rw [← hXK]; exact scells_one _⟩
  have HXV : Hid (icells (valsOf K) = XV ∧ XV.length = N ∧ ∀ u ∈ XV, u.oneCell' = true) := ⟨hXV, by rw [← hXV, icells_length, valsOf_length, hN], by rw [← hXV]; exact icells_one _⟩
  have RK : w.ownsRow 0 9 1 (.slice aK N cK) N XK := by have := HU.out.rk; rw [hN, hXK] at this; exact this
  have RV : w.ownsRow 0 3 1 (.slice aV N cV) N XV := by have := HU.out.rv; rw [hN, hXV] at this; exact this
  have HPK : Hid (∀ i, i ≤ N → (∃ ad c, Part 26 (.slice aK N cK) none (some (.int .i64 (i : Int))) w i (XK.take i) ad c) ∧ ∃ ad c, Part 26 (.slice aK N cK) (some (.int .i64 (i : Int))) none w (N - i) (XK.drop i) ad c) := fun i hi => ⟨part_to Try.underlying26 sizeS RK hi, part_from Try.underlying26 sizeS RK hi rfl⟩
  have HPV : Hid (∀ i, i ≤ N → (∃ ad c, Part 27 (.slice aV N cV) none (some (.int .i64 (i : Int))) w i (XV.take i) ad c) ∧ ∃ ad c, Part 27 (.slice aV N cV) (some (.int .i64 (i : Int))) none w (N - i) (XV.drop i) ad c) := fun i hi => ⟨part_to Try.underlying27 sizeI RV hi, part_from Try.underlying27 sizeI RV hi rfl⟩
  have HLt : Hid ((∀ g, (Value.slice aK N cK).ownBlock = some g → g < w.heap.size ∧ g ≠ r) ∧ (∀ g, (Value.slice aV N cV).ownBlock = some g → g < w.heap.size ∧ g ≠ r)) := ⟨fun g hg => ⟨ownsRow_lt RK hg, (HU.out.nk g hg).1⟩, fun g hg => ⟨ownsRow_lt RV hg, HU.out.nv g hg⟩⟩
  unfold maxLen at x2 y2
  clear h hg hk hc hx hN hXK hXV RK RV hF
  go_enter Try.func25, Try.ntmps25
  go_wp2_with fail
  refine HPl.out.mono ?_
  rintro e w1 ⟨i, bb, rfl, HPc, HW⟩
  have HB : Hid (Below w.heap.size w w1) := by
    obtain ⟨n, e⟩ := HW.out
    rw [e]
    exact below_drewN w n
  obtain rfl : bb = false := by
    cases bb with
    | false => rfl
    | true =>
      obtain ⟨v1, hv1⟩ := HPc.out.2.1 rfl
      have := plc_there HR.out hv1
      rw [HG.out] at this
      cases this
  have hiN : i ≤ N := by have := HPc.out.1.le; have := HN.out; omega
  obtain ⟨K', hK'⟩ : ∃ K', insK k v K = K' := ⟨_, rfl⟩
  have hins := insK_new (v := v) HR.out HPc.out.1 (HPc.out.2.2 rfl)
  have HK' : Hid (insK k v K = K' ∧ Rise K' ∧ K'.length = N + 1) := by
    refine ⟨hK', hK' ▸ HR.out.ins, ?_⟩
    rw [← hK', length_ins_new HR.out HG.out, HN.out]
  have HKK : Hid (scells (keysOf K') = (([] ++ XK.take i) ++ [.string k]) ++ XK.drop i) := by
    show _ = _
    rw [← hK', hins, keys_ins HPc.out.1.le, HXK.out.1]
  have HKV : Hid (icells (valsOf K') = (([] ++ XV.take i) ++ [.int .i64 v]) ++ XV.drop i) := by
    show _ = _
    rw [← hK', hins, vals_ins HPc.out.1.le, HXV.out.1]
  rw [hK']
  obtain ⟨d, hd⟩ : ∃ d, N - i = d := ⟨_, rfl⟩
  obtain ⟨⟨p1, q1, P1⟩, ⟨p2, q2, P2⟩⟩ := HPK.out i hiN
  obtain ⟨⟨p3, q3, P3⟩, ⟨p4, q4, P4⟩⟩ := HPV.out i hiN
  rw [hd] at P2 P4
  have HP1 : Hid (Part 26 (.slice aK N cK) none (some (.int .i64 (i : Int))) w i (XK.take i) p1 q1) := P1
  have HP2 : Hid (Part 26 (.slice aK N cK) (some (.int .i64 (i : Int))) none w d (XK.drop i) p2 q2) := P2
  have HP3 : Hid (Part 27 (.slice aV N cV) none (some (.int .i64 (i : Int))) w i (XV.take i) p3 q3) := P3
  have HP4 : Hid (Part 27 (.slice aV N cV) (some (.int .i64 (i : Int))) none w d (XV.drop i) p4 q4) := P4
  have s1 := P1.1
  have s2 := P2.1
  have s3 := P3.1
  have s4 := P4.1
  have HBK : Hid (∀ u, Below w.heap.size w u → ∀ g, (Value.slice aK N cK).ownBlock = some g → u.heap[g]? = w.heap[g]?) := fun u hu g hg => hu.block g (HLt.out.1 g hg).1
  have HBV : Hid (∀ u, Below w.heap.size w u → ∀ g, (Value.slice aV N cV).ownBlock = some g → u.heap[g]? = w.heap[g]?) := fun u hu g hg => hu.block g (HLt.out.2 g hg).1
  have HT0 : Hid (Two2 w w1 (.slice none 0 0) (.slice none 0 0) [] []) := Two2.nil HB.out
  have hlK : Hid ((XK.take i).length = i ∧ (XK.drop i).length = d ∧ (XV.take i).length = i ∧ (XV.drop i).length = d) := by
    refine ⟨?_, ?_, ?_, ?_⟩ <;> simp [HXK.out.2.1, HXV.out.2.1] <;> omega
  have hN1 : i + 1 + d = N + 1 := by omega
  have HLe : Hid ((([] ++ XK.take i) ++ [Value.string k]).length + d = N + 1 ∧ (([] ++ XV.take i) ++ [Value.int .i64 v]).length + d = N + 1 ∧ N + 1 = ((([] ++ XK.take i) ++ [Value.string k]) ++ XK.drop i).length ∧ N + 1 = ((([] ++ XV.take i) ++ [Value.int .i64 v]) ++ XV.drop i).length) := by
    obtain ⟨l1, l2, l3, l4⟩ := hlK.out
    refine ⟨?_, ?_, ?_, ?_⟩ <;> simp only [List.nil_append, List.length_append, List.length_singleton, l1, l2, l3, l4] <;> omega
  obtain ⟨c0, c1, f0, f1⟩ := HC.out w1 HB.out
  clear hK' hins P1 P2 P3 P4 HPK HPV HPl HW hd HG HPc
  go_wp2_with (first
    | (refine wpList_app1 Try.underlying26 infoStr rfl (by decide) rfl _ _ rfl (take_one HXK.out.2.2 i) rfl HT0.out.rk rfl hlK.out.1 HP1.out.2.1 (HP1.out.2.2 _ (HBK.out _ HT0.out.bel)) (Nat.zero_add i) (by omega) HT0.out.bel.size ?_
       intro A1 e1 u1 k1 k2 k3
       have HT1 : Hid (Two2 w u1 (.slice A1 i e1) (.slice none 0 0) ([] ++ XK.take i) []) := HT0.out.key (by simp [hlK.out.1]) k1 k2 k3
       obtain ⟨c0, c1, f0, f1⟩ := HC.out u1 HT1.out.bel
       clear k1 k2 k3 HT0)
    | (refine wpList_app1 Try.underlying27 infoInt rfl (by decide) rfl _ _ rfl (take_one HXV.out.2.2 i) rfl HT1.out.rv rfl hlK.out.2.2.1 HP3.out.2.1 (HP3.out.2.2 _ (HBV.out _ HT1.out.bel)) (Nat.zero_add i) (by omega) HT1.out.bel.size ?_
       intro A2 e2 u2 k1 k2 k3
       have HT2 : Hid (Two2 w u2 (.slice A1 i e1) (.slice A2 i e2) ([] ++ XK.take i) ([] ++ XV.take i)) := HT1.out.val (by simp [hlK.out.2.2.1]) k1 k2 k3
       obtain ⟨c0, c1, f0, f1⟩ := HC.out u2 HT2.out.bel
       have HTa : Hid (Two2 w (u2.alloc (.cells #[.string k] 9 (0, 0))) (.slice A1 i e1) (.slice A2 i e2) ([] ++ XK.take i) ([] ++ XV.take i)) := HT2.out.stay (below_al u2 _)
       clear k1 k2 k3 HT1 HT2)
    | (refine wpList_app1 Try.underlying26 infoStr rfl (by decide) rfl _ _ rfl (str_one k) rfl HTa.out.rk rfl rfl (fun h => by cases h) one_new (by rw [List.nil_append, hlK.out.1]) (by omega) HTa.out.bel.size ?_
       intro A3 e3 u3 k1 k2 k3
       have HT3 : Hid (Two2 w u3 (.slice A3 (i + 1) e3) (.slice A2 i e2) (([] ++ XK.take i) ++ [.string k]) ([] ++ XV.take i)) := HTa.out.key (by simp [hlK.out.1]) k1 k2 k3
       obtain ⟨c0, c1, f0, f1⟩ := HC.out u3 HT3.out.bel
       have HTb : Hid (Two2 w (u3.alloc (.cells #[.int .i64 v] 3 (0, 0))) (.slice A3 (i + 1) e3) (.slice A2 i e2) (([] ++ XK.take i) ++ [.string k]) ([] ++ XV.take i)) := HT3.out.stay (below_al u3 _)
       clear k1 k2 k3 HTa HT3)
    | (refine wpList_app1 Try.underlying27 infoInt rfl (by decide) rfl _ _ rfl (int_one v) rfl HTb.out.rv rfl rfl (fun h => by cases h) one_new (by rw [List.nil_append, hlK.out.2.2.1]) (by omega) HTb.out.bel.size ?_
       intro A4 e4 u4 k1 k2 k3
       have HT4 : Hid (Two2 w u4 (.slice A3 (i + 1) e3) (.slice A4 (i + 1) e4) (([] ++ XK.take i) ++ [.string k]) (([] ++ XV.take i) ++ [.int .i64 v])) := HTb.out.val (by simp [hlK.out.2.2.1]) k1 k2 k3
       obtain ⟨c0, c1, f0, f1⟩ := HC.out u4 HT4.out.bel
       clear k1 k2 k3 HTb)
    | (refine wpList_app1 Try.underlying26 infoStr rfl (by decide) rfl _ _ rfl (drop_one HXK.out.2.2 i) rfl HT4.out.rk rfl hlK.out.2.1 HP2.out.2.1 (HP2.out.2.2 _ (HBK.out _ HT4.out.bel)) (HLe.out.1) (by omega) HT4.out.bel.size ?_
       intro A5 e5 u5 k1 k2 k3
       have HH : Hid (UHalf w (u5.setCell ⟨r, 0, none⟩ (.slice A5 (N + 1) e5)) r (.slice aV N cV) (.slice A5 (N + 1) e5) (.slice A4 (i + 1) e4) (([] ++ XV.take i) ++ [.int .i64 v]) K') := Two2.half HU.out HT4.out (by rw [HKK.out, HK'.out.2.2]; exact k1) k2 k3
       have HT5 : Hid (Below w.heap.size w u5) := (HT4.out.key (HLe.out.2.2.1) k1 k2 k3).bel
       obtain ⟨c0, c1, f0, f1⟩ := HC.out u5 HT5.out
       have c2 : (u5.setCell ⟨r, 0, none⟩ (.slice A5 (N + 1) e5)).cell? ⟨r, 1, none⟩ = some (.slice aV N cV) := (by rw [cell_of HH.out.st]; rfl)
       clear k1 k2 k3 HT4)
    | (refine wpList_app1 Try.underlying27 infoInt rfl (by decide) rfl _ _ rfl (drop_one HXV.out.2.2 i) rfl HH.out.rv rfl hlK.out.2.2.2 HP4.out.2.1 (HP4.out.2.2 _ (fun g hg => HH.out.old g (HLt.out.2 g hg).1 (HLt.out.2 g hg).2)) (HLe.out.2.1) (by omega) HH.out.size ?_
       intro A6 e6 u6 k1 k2 k3
       have HGo : Hid (Goes (UI r K') w (u6.setCell ⟨r, 1, none⟩ (.slice A6 (N + 1) e6)) F) := HH.out.done HF.out (lt_of HU.out.st) (by rw [HKV.out, HK'.out.2.2]; exact k1) k2 k3 HK'.out.2.1 (by rw [HK'.out.2.2]; omega)
       obtain ⟨c3, f3⟩ := HH.out.cell (lt_of HU.out.st) k2
       clear k1 k2 k3 HH))
  go_ret3
  exact ⟨rfl, by rw [HK'.out.1]; exact HGo.out⟩

def UTakeR (r : Nat) (K' : List Kv) (w : World) (F : Nat → Prop) (was : Int) (e : Int) (x : Ending) (w' : World) : Prop := x = .returned (.tuple #[.int .i64 was, .int .i64 e]) ∧ Goes (UI r K') w w' F

set_option maxRecDepth 100000 in
set_option maxHeartbeats 1000000 in
theorem utake_none (h : UI r K w F) (hg : getK k K = none) : Calls Try.prog 27 #[.pointer (some ⟨r, 0, none⟩), .string k] w (UTakeR r K w F 0 5) := by
  have HPl : Hid (Calls Try.prog 42 #[.pointer (some ⟨r, 0, none⟩), .string k] w fun e w' => ∃ (i : Nat) (b : Bool), e = .returned (.tuple #[.int .i64 (i : Int), .bool b]) ∧ Hid (Plc K k i b) ∧ Hid (∃ n, w' = w.drewN n)) := uplace_any h k
  have HI : Hid (UI r K w F) := h
  have HG : Hid (getK k K = none) := hg
  clear h hg
  go_enter Try.func27, Try.ntmps27
  go_wp2_with fail
  refine HPl.out.mono ?_
  rintro e w1 ⟨i, bb, rfl, HPc, HW⟩
  obtain rfl : bb = false := by
    cases bb with
    | false => rfl
    | true =>
      obtain ⟨v1, hv1⟩ := HPc.out.2.1 rfl
      have := plc_there HI.out.rise hv1
      rw [HG.out] at this
      cases this
  have HGo : Hid (Goes (UI r K) w w1 F) := by
    obtain ⟨n, e⟩ := HW.out
    rw [e]
    exact Goes.drew (ui_res r K) HI.out n
  clear HPl HPc HW HI HG
  go_wp2_with fail
  go_ret2
  exact ⟨rfl, HGo.out⟩

set_option maxRecDepth 100000 in
set_option maxHeartbeats 4000000 in
theorem utake_some (h : UI r K w F) {v0 : Int} (hg : getK k K = some v0) : Calls Try.prog 27 #[.pointer (some ⟨r, 0, none⟩), .string k] w (UTakeR r (delK k K) w F v0 0) := by
  have HPl : Hid (Calls Try.prog 42 #[.pointer (some ⟨r, 0, none⟩), .string k] w fun e w' => ∃ (i : Nat) (b : Bool), e = .returned (.tuple #[.int .i64 (i : Int), .bool b]) ∧ Hid (Plc K k i b) ∧ Hid (∃ n, w' = w.drewN n)) := uplace_any h k
  have HR : Hid (Rise K) := h.rise
  have HG : Hid (getK k K = some v0) := hg
  have hl := h.few
  obtain ⟨aK, cK, aV, cV, x1, x2, y1, y2, hc, hx, hF⟩ := h.shape
  obtain ⟨N, hN⟩ : ∃ N, K.length = N := ⟨_, rfl⟩
  have HN : Hid (K.length = N) := hN
  rw [hN] at hc x1 y1 hl hF
  have HF : Hid (∀ i, F i ↔ uF r (.slice aK N cK) (.slice aV N cV) i) := hF
  have HU : Hid (UG w r (.slice aK N cK) (.slice aV N cV) K) := (hc w (Below.refl _ _)).1
  have HX : Hid (∀ u, Below w.heap.size w u → ∀ (i : Nat) k v, K[i]? = some (k, v) → ∃ b off, aV = some ⟨b, off, none⟩ ∧ u.cell? ⟨b, off + i, none⟩ = some (.int .i64 v)) := fun u hu i k v hi => by
    obtain ⟨_, _, b, off, _, e, _, c⟩ := hx u hu i k v hi
    exact ⟨b, off, e, c⟩
  have HC : Hid (∀ u, Below w.heap.size w u → u.cell? ⟨r, 0, none⟩ = some (.slice aK N cK) ∧ u.cell? ⟨r, 1, none⟩ = some (.slice aV N cV) ∧ u.frozen? ⟨r, 0, none⟩ = false ∧ u.frozen? ⟨r, 1, none⟩ = false) := fun u hu => (hc u hu).2
  obtain ⟨XK, hXK⟩ : ∃ X, scells (keysOf K) = X := ⟨_, rfl⟩
  obtain ⟨XV, hXV⟩ : ∃ X, icells (valsOf K) = X := ⟨_, rfl⟩
  have HXK : Hid (scells (keysOf K) = XK ∧ XK.length = N ∧ ∀ u ∈ XK, u.oneCell' = true) := ⟨hXK, by rw [← hXK, scells_length, keysOf_length, hN], by rw [← hXK]; exact scells_one _⟩
  have HXV : Hid (icells (valsOf K) = XV ∧ XV.length = N ∧ ∀ u ∈ XV, u.oneCell' = true) := ⟨hXV, by rw [← hXV, icells_length, valsOf_length, hN], by rw [← hXV]; exact icells_one _⟩
  have RK : w.ownsRow 0 9 1 (.slice aK N cK) N XK := by have := HU.out.rk; rw [hN, hXK] at this; exact this
  have RV : w.ownsRow 0 3 1 (.slice aV N cV) N XV := by have := HU.out.rv; rw [hN, hXV] at this; exact this
  have HPK : Hid (∀ i, i ≤ N → (∃ ad c, Part 26 (.slice aK N cK) none (some (.int .i64 (i : Int))) w i (XK.take i) ad c) ∧ ∃ ad c, Part 26 (.slice aK N cK) (some (.int .i64 (i : Int))) none w (N - i) (XK.drop i) ad c) := fun i hi => ⟨part_to Try.underlying26 sizeS RK hi, part_from Try.underlying26 sizeS RK hi rfl⟩
  have HPV : Hid (∀ i, i ≤ N → (∃ ad c, Part 27 (.slice aV N cV) none (some (.int .i64 (i : Int))) w i (XV.take i) ad c) ∧ ∃ ad c, Part 27 (.slice aV N cV) (some (.int .i64 (i : Int))) none w (N - i) (XV.drop i) ad c) := fun i hi => ⟨part_to Try.underlying27 sizeI RV hi, part_from Try.underlying27 sizeI RV hi rfl⟩
  have HLt : Hid ((∀ g, (Value.slice aK N cK).ownBlock = some g → g < w.heap.size ∧ g ≠ r) ∧ (∀ g, (Value.slice aV N cV).ownBlock = some g → g < w.heap.size ∧ g ≠ r)) := ⟨fun g hg => ⟨ownsRow_lt RK hg, (HU.out.nk g hg).1⟩, fun g hg => ⟨ownsRow_lt RV hg, HU.out.nv g hg⟩⟩
  unfold maxLen at x2 y2
  clear h hg hc hN hXK hXV RK RV hF hx
  go_enter Try.func27, Try.ntmps27
  go_wp2_with fail
  refine HPl.out.mono ?_
  rintro e w1 ⟨i, bb, rfl, HPc, HW⟩
  have HB : Hid (Below w.heap.size w w1) := by
    obtain ⟨n, e⟩ := HW.out
    rw [e]
    exact below_drewN w n
  obtain rfl : bb = true := by
    cases bb with
    | true => rfl
    | false =>
      have := plc_none HR.out HPc.out.1 (HPc.out.2.2 rfl)
      rw [HG.out] at this
      cases this
  obtain ⟨v1, hv1⟩ := HPc.out.2.1 rfl
  obtain rfl : v0 = v1 := by
    have := plc_there HR.out hv1
    rw [HG.out] at this
    exact Option.some.inj this
  have hiN : i + 1 ≤ N := by have := (List.getElem?_eq_some_iff.1 hv1).1; have := HN.out; omega
  have hiI : (i : Int) < (N : Int) := by omega
  obtain ⟨K', hK'⟩ : ∃ K', delK k K = K' := ⟨_, rfl⟩
  have hins := delK_at HR.out hv1
  have HK' : Hid (delK k K = K' ∧ Rise K' ∧ K'.length + 1 = N) := by
    refine ⟨hK', hK' ▸ HR.out.del, ?_⟩
    rw [← hK', length_del HR.out HG.out, HN.out]
  have HKK : Hid (scells (keysOf K') = ([] ++ XK.take i) ++ XK.drop (i + 1)) := by
    show _ = _
    rw [← hK', hins, keys_del, HXK.out.1]
  have HKV : Hid (icells (valsOf K') = ([] ++ XV.take i) ++ XV.drop (i + 1)) := by
    show _ = _
    rw [← hK', hins, vals_del, HXV.out.1]
  rw [hK']
  obtain ⟨d, hd⟩ : ∃ d, N - (i + 1) = d := ⟨_, rfl⟩
  obtain ⟨⟨p1, q1, P1⟩, -⟩ := HPK.out i (by omega)
  obtain ⟨-, ⟨p2, q2, P2⟩⟩ := HPK.out (i + 1) hiN
  obtain ⟨⟨p3, q3, P3⟩, -⟩ := HPV.out i (by omega)
  obtain ⟨-, ⟨p4, q4, P4⟩⟩ := HPV.out (i + 1) hiN
  have hi1 : ((i + 1 : Nat) : Int) = (i : Int) + 1 := by omega
  rw [hd, hi1] at P2 P4
  have HP1 : Hid (Part 26 (.slice aK N cK) none (some (.int .i64 (i : Int))) w i (XK.take i) p1 q1) := P1
  have HP2 : Hid (Part 26 (.slice aK N cK) (some (.int .i64 ((i : Int) + 1))) none w d (XK.drop (i + 1)) p2 q2) := P2
  have HP3 : Hid (Part 27 (.slice aV N cV) none (some (.int .i64 (i : Int))) w i (XV.take i) p3 q3) := P3
  have HP4 : Hid (Part 27 (.slice aV N cV) (some (.int .i64 ((i : Int) + 1))) none w d (XV.drop (i + 1)) p4 q4) := P4
  have s1 := P1.1
  have s2 := P2.1
  have s3 := P3.1
  have s4 := P4.1
  have HBK : Hid (∀ u, Below w.heap.size w u → ∀ g, (Value.slice aK N cK).ownBlock = some g → u.heap[g]? = w.heap[g]?) := fun u hu g hg => hu.block g (HLt.out.1 g hg).1
  have HBV : Hid (∀ u, Below w.heap.size w u → ∀ g, (Value.slice aV N cV).ownBlock = some g → u.heap[g]? = w.heap[g]?) := fun u hu g hg => hu.block g (HLt.out.2 g hg).1
  have HT0 : Hid (Two2 w w1 (.slice none 0 0) (.slice none 0 0) [] []) := Two2.nil HB.out
  have hlK : Hid ((XK.take i).length = i ∧ (XK.drop (i + 1)).length = d ∧ (XV.take i).length = i ∧ (XV.drop (i + 1)).length = d) := by
    refine ⟨?_, ?_, ?_, ?_⟩ <;> simp [HXK.out.2.1, HXV.out.2.1] <;> omega
  have hN1 : i + d + 1 = N := by omega
  obtain ⟨M, hM⟩ : ∃ M, i + d = M := ⟨_, rfl⟩
  have hMN : M + 1 = N := by omega
  obtain ⟨vb, vo, rfl, g0⟩ := HX.out w1 HB.out i k v0 hv1
  have HLe : Hid (([] ++ XK.take i).length + d = M ∧ ([] ++ XV.take i).length + d = M ∧ M = (([] ++ XK.take i) ++ XK.drop (i + 1)).length ∧ M = (([] ++ XV.take i) ++ XV.drop (i + 1)).length ∧ K'.length = M) := by
    obtain ⟨l1, l2, l3, l4⟩ := hlK.out
    have := HK'.out.2.2
    refine ⟨?_, ?_, ?_, ?_, ?_⟩ <;> (try simp only [List.nil_append, List.length_append, l1, l2, l3, l4]) <;> omega
  obtain ⟨c0, c1, f0, f1⟩ := HC.out w1 HB.out
  clear hK' hins P1 P2 P3 P4 HPK HPV HPl HW hd HG HPc hv1 hM hi1 HX
  go_wp2_with (first
    | (refine wpList_app1 Try.underlying26 infoStr rfl (by decide) rfl _ _ rfl (take_one HXK.out.2.2 i) rfl HT0.out.rk rfl hlK.out.1 HP1.out.2.1 (HP1.out.2.2 _ (HBK.out _ HT0.out.bel)) (Nat.zero_add i) (by omega) HT0.out.bel.size ?_
       intro A1 e1 u1 k1 k2 k3
       have HT1 : Hid (Two2 w u1 (.slice A1 i e1) (.slice none 0 0) ([] ++ XK.take i) []) := HT0.out.key (by simp [hlK.out.1]) k1 k2 k3
       obtain ⟨c0, c1, f0, f1⟩ := HC.out u1 HT1.out.bel
       clear k1 k2 k3 HT0)
    | (refine wpList_app1 Try.underlying27 infoInt rfl (by decide) rfl _ _ rfl (take_one HXV.out.2.2 i) rfl HT1.out.rv rfl hlK.out.2.2.1 HP3.out.2.1 (HP3.out.2.2 _ (HBV.out _ HT1.out.bel)) (Nat.zero_add i) (by omega) HT1.out.bel.size ?_
       intro A2 e2 u2 k1 k2 k3
       have HT2 : Hid (Two2 w u2 (.slice A1 i e1) (.slice A2 i e2) ([] ++ XK.take i) ([] ++ XV.take i)) := HT1.out.val (by simp [hlK.out.2.2.1]) k1 k2 k3
       obtain ⟨c0, c1, f0, f1⟩ := HC.out u2 HT2.out.bel
       clear k1 k2 k3 HT1)
    | (refine wpList_app1 Try.underlying26 infoStr rfl (by decide) rfl _ _ rfl (drop_one HXK.out.2.2 (i + 1)) rfl HT2.out.rk rfl hlK.out.2.1 HP2.out.2.1 (HP2.out.2.2 _ (HBK.out _ HT2.out.bel)) (HLe.out.1) (by omega) HT2.out.bel.size ?_
       intro A5 e5 u5 k1 k2 k3
       have HH : Hid (UHalf w (u5.setCell ⟨r, 0, none⟩ (.slice A5 M e5)) r (.slice (some ⟨vb, vo, none⟩) N cV) (.slice A5 M e5) (.slice A2 i e2) ([] ++ XV.take i) K') := Two2.half HU.out HT2.out (by rw [HKK.out, HLe.out.2.2.2.2]; exact k1) k2 k3
       have HT5 : Hid (Below w.heap.size w u5) := (HT2.out.key (HLe.out.2.2.1) k1 k2 k3).bel
       obtain ⟨c0, c1, f0, f1⟩ := HC.out u5 HT5.out
       have c2 : (u5.setCell ⟨r, 0, none⟩ (.slice A5 M e5)).cell? ⟨r, 1, none⟩ = some (.slice (some ⟨vb, vo, none⟩) N cV) := (by rw [cell_of HH.out.st]; rfl)
       clear k1 k2 k3 HT2)
    | (refine wpList_app1 Try.underlying27 infoInt rfl (by decide) rfl _ _ rfl (drop_one HXV.out.2.2 (i + 1)) rfl HH.out.rv rfl hlK.out.2.2.2 HP4.out.2.1 (HP4.out.2.2 _ (fun g hg => HH.out.old g (HLt.out.2 g hg).1 (HLt.out.2 g hg).2)) (HLe.out.2.1) (by omega) HH.out.size ?_
       intro A6 e6 u6 k1 k2 k3
       have HGo : Hid (Goes (UI r K') w (u6.setCell ⟨r, 1, none⟩ (.slice A6 M e6)) F) := HH.out.done HF.out (lt_of HU.out.st) (by rw [HKV.out, HLe.out.2.2.2.2]; exact k1) k2 k3 HK'.out.2.1 (by rw [HLe.out.2.2.2.2]; omega)
       obtain ⟨c3, f3⟩ := HH.out.cell (lt_of HU.out.st) k2
       clear k1 k2 k3 HH))
  go_ret2
  exact ⟨rfl, by rw [HK'.out.1]; exact HGo.out⟩

theorem uput_to {v was e : Int} {there : Bool} {K' : List Kv} (hp : PutK K k v K' was there e) (h : UI r K w F) : Calls Try.prog 25 #[.pointer (some ⟨r, 0, none⟩), .string k, .int .i64 v] w (UPutR r K' w F was there e) := by
  rcases hp with ⟨h1, rfl, rfl, rfl, rfl⟩ | ⟨h1, h2, rfl, rfl, rfl⟩ | ⟨h1, h2, h3, rfl, rfl, rfl, rfl⟩ | ⟨h1, h2, h3, rfl, rfl, rfl, rfl⟩
  · exact uput_long h h1 v
  · exact uput_there h h1 h2
  · exact uput_full h h1 h2 h3 v
  · exact uput_new h h1 h2 h3 v
theorem utake_to {was e : Int} {K' : List Kv} (hp : TakeK K k K' was e) (h : UI r K w F) : Calls Try.prog 27 #[.pointer (some ⟨r, 0, none⟩), .string k] w (UTakeR r K' w F was e) := by
  rcases hp with ⟨h1, rfl, rfl, rfl⟩ | ⟨h1, rfl, rfl⟩
  · exact utake_none h h1
  · exact utake_some h h1
end

end Go.Proofs.Ytoknebbkpkcomaa
