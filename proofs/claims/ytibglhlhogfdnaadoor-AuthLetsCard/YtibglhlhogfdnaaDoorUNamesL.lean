/- AuthNames: the law's walk. -/
import Derived.Test.YtibglhlhogfdnaaDoorUKit
import Derived.Test.YtibglhlhogfdnaaDoorUMap
import Derived.Deep.RegionHeld3
namespace Go.Proofs.YtibglhlhogfdnaaDoor
open Go.RowKit QP AP

/-- a block beside the object becomes another one -/
theorem Stand.write {I : World → (Nat → Prop) → Prop} {w wr w' : World} {L : List (Nat × Obj)} (R : Res I) (h : Stand I w wr L) {b : Nat} {o o' : Obj} (hb : (b, o) ∈ L) (ht : Turn (fun i => i = b) wr w') (ho : w'.heap[b]? = some o') (L' : List (Nat × Obj))
    (hL : ∀ p ∈ L', (p ∈ L ∧ p.1 ≠ b) ∨ p = (b, o')) : Stand I w w' L' := by
  obtain ⟨F, h1, h2, h3, h4, h5⟩ := h
  refine ⟨F, R.kept h1 ht (fun j hj e => h3 _ hb (by rw [e] at hj; exact hj)), h2, fun p hp hF => ?_, fun p hp => ?_, h5.trans ((ht.mono (fun j e => by rw [e]; exact (h4 _ hb).2)).toBelow h5.size)⟩
  · rcases hL p hp with ⟨h, _⟩ | rfl
    · exact h3 p h hF
    · exact h3 _ hb hF
  · rcases hL p hp with ⟨h, hn⟩ | rfl
    · exact ⟨(ht.block p.1 (lt_of (h4 p h).1) hn).trans (h4 p h).1, (h4 p h).2⟩
    · exact ⟨ho, (h4 _ hb).2⟩


theorem getK_head {n v : ByteArray} {r : List Kv} : getK n ((n, v) :: r) = some v := by unfold getK; rw [if_pos rfl]
theorem delK_head {n v : ByteArray} {r : List Kv} (h : Rise ((n, v) :: r)) : delK n ((n, v) :: r) = r := by
  obtain ⟨h1, _⟩ := List.pairwise_cons.1 h
  unfold delK
  rw [List.filter_cons, if_neg (by simp)]
  exact List.filter_eq_self.2 fun q hq => by
    have := bl_ne (h1 q hq)
    simp
    exact fun e => this e.symm
theorem getK_at {K : List Kv} (h : Rise K) {i : Nat} {n v : ByteArray} (hi : K[i]? = some (n, v)) : getK n K = some v := (getK_some h).2 (List.mem_of_getElem? hi)
theorem rise_drop {K : List Kv} (h : Rise K) (i : Nat) : Rise (K.drop i) := List.Pairwise.sublist (List.drop_sublist i K) h
theorem drop_at {K : List Kv} {i : Nat} {x : Kv} (hi : K[i]? = some x) : K.drop i = x :: K.drop (i + 1) := by
  obtain ⟨h1, rfl⟩ := List.getElem?_eq_some_iff.1 hi
  exact List.drop_eq_getElem_cons h1
theorem namesOf_at {K : List Kv} {i : Nat} {n v : ByteArray} (hi : K[i]? = some (n, v)) : (namesOf K)[i]? = some n := by simp [namesOf, hi]
theorem namesOf_length (K : List Kv) : (namesOf K).length = K.length := by simp [namesOf]

theorem snames {T : KitA} {g : Nat} {K : List Kv} {w wr : World} {L : List (Nat × Obj)} (hw : T.Ok w) (h : Stand (T.I g K) w wr L) : Calls Tryd.prog 21 #[.pointer (some ⟨g, 0, none⟩)] wr fun e w' => ∃ a c L', e = .returned (.slice a K.length c) ∧ Stand (T.I g K) w w' L' ∧ (∀ p ∈ L, p ∈ L') ∧ ∀ (I : World → (Nat → Prop) → Prop) (u : World), Stand I w u L' → ∀ (i : Nat) (n : ByteArray), (namesOf K)[i]? = some n → ∃ b off, a = some ⟨b, off, none⟩ ∧ u.cell? ⟨b, off + i, none⟩ = some (.string n) := by
  have hok := T.okAt hw h
  obtain ⟨F, h1, h2, h3, h4, h5⟩ := h
  refine (T.names g K wr F hok h1).mono ?_
  rintro e w' ⟨v, F', rfl, ⟨a, c, rfl, _, _, _, hx⟩, i1, i2, i3, i4⟩
  rw [namesOf_length]
  have hL : ∀ p ∈ L, w'.heap[p.1]? = some p.2 ∧ w.heap.size ≤ p.1 := fun p hp => ⟨(i2.block p.1 (lt_of (h4 p hp).1) (h3 p hp)).trans (h4 p hp).1, (h4 p hp).2⟩
  have hF : ∀ i, F' i → w.heap.size ≤ i := fun i hi => (i3 i hi).elim (h2 i) (Nat.le_trans h5.size)
  have hFL : ∀ p ∈ L, ¬ F' p.1 := fun p hp hF' => by
    rcases i3 _ hF' with h | h
    · exact h3 p hp h
    · have := lt_of (h4 p hp).1; omega
  have hB : Below w.heap.size w w' := h5.trans ((i2.mono h2).toBelow h5.size)
  by_cases hK : namesOf K = []
  · exact ⟨a, c, L, rfl, ⟨F', i1, hF, hFL, hL, hB⟩, fun _ hp => hp, fun I u _ i n hn => by rw [hK] at hn; simp at hn⟩
  · obtain ⟨b, off, C, rfl, hb, hh, hc⟩ := hx hK
    refine ⟨_, c, (b, .cells C 9 (0, 0)) :: L, rfl, ⟨F', i1, hF, fun p hp => ?_, fun p hp => ?_, hB⟩, fun _ hp => List.mem_cons_of_mem _ hp, fun I u hu i n hn => ⟨b, off, rfl, ?_⟩⟩
    · rcases List.mem_cons.1 hp with rfl | hp
      · exact i4 b rfl
      · exact hFL p hp
    · rcases List.mem_cons.1 hp with rfl | hp
      · exact ⟨hh, Nat.le_trans h5.size hb⟩
      · exact hL p hp
    · rw [cell_of (hu.at (List.mem_cons_self ..))]
      obtain ⟨hi, rfl⟩ := List.getElem?_eq_some_iff.1 hn
      exact hc i hi
namespace NamesL
def strOne (s : ByteArray) : List Value := [.string s]
theorem strs_open {w : World} {v0 : Value} {L : List ByteArray} (hL : SliceAt w v0 1 strOne L) : ∃ a c, v0 = .slice a L.length c ∧ (L ≠ [] → ∃ b off, a = some ⟨b, off, none⟩ ∧ b < w.heap.size ∧ ∀ i, (h : i < L.length) → w.cell? ⟨b, off + i, none⟩ = some (.string L[i])) := by
  obtain ⟨a, c, rfl, -, -, hx⟩ := hL
  refine ⟨a, c, rfl, fun hne => ?_⟩
  obtain ⟨b, off, h1, h2, h3⟩ := hx hne
  refine ⟨b, off, h1, h2, fun i hi => ?_⟩
  have := h3 i hi 0 (.string L[i]) rfl
  simpa using this

set_option maxRecDepth 100000 in
set_option maxHeartbeats 4000000 in
theorem walk (T : KitA) (v0 v1 : Value) (N M : List ByteArray) (w : World) (hw : T.Ok w) (hN : SliceAt w v0 1 strOne N) (hM : SliceAt w v1 1 strOne M) : Calls Tryd.prog 6 #[v0, v1] w fun e w' => e = .returned (.bool true) ∧ Below w.heap.size w w' := by
  obtain ⟨a0, c0, rfl, hx0⟩ := strs_open hN
  obtain ⟨a1, c1, rfl, hx1⟩ := strs_open hM
  have HX0 : Hid (N ≠ [] → ∃ b off, a0 = some ⟨b, off, none⟩ ∧ b < w.heap.size ∧ ∀ i, (h : i < N.length) → w.cell? ⟨b, off + i, none⟩ = some (.string N[i])) := hx0
  have HX1 : Hid (M ≠ [] → ∃ b off, a1 = some ⟨b, off, none⟩ ∧ b < w.heap.size ∧ ∀ i, (h : i < M.length) → w.cell? ⟨b, off + i, none⟩ = some (.string M[i])) := hx1
  have HN : Hid (∀ u, Below w.heap.size w u → Calls Tryd.prog 7 #[] u fun e w' => ∃ g, e = .returned (.pointer (some ⟨g, 0, none⟩)) ∧ Stand (T.I g []) w w' []) := fun u hu => snew hw hu
  have HW : Hid (∀ g K u, Stand (T.I g K) w u [] → Calls Tryd.prog 8 #[] u fun e w' => e = .returned (.bool true) ∧ Stand (T.I g K) w w' []) := fun g K u hu => (works_any T u (T.okAt hw hu)).mono fun _ _ x => ⟨x.1, hu.below (T.res g K) x.2⟩
  have HP : Hid (∀ g K L u (n k : ByteArray), n.size ≤ 100 → k.size ≤ 100 → Stand (T.I g K) w u L → Calls Tryd.prog 12 #[.pointer (some ⟨g, 0, none⟩), .string n, .string k] u fun e w' => e = .returned (.int .i64 (putE K n k)) ∧ Stand (T.I g (putK K n k)) w w' L) := fun g K L u n k h1 h2 h => sput hw h n k (by omega) (by omega)
  obtain ⟨ch, hch⟩ : ∃ c, chal 9 9 = c := ⟨_, rfl⟩
  have hchs : ch.size = 32 := by rw [← hch, chal_size]
  have HCh : Hid (∀ g K L u, Stand (T.I g K) w u L → Calls Tryd.prog 9 #[.int .u64 9, .int .i64 9] u fun e w' => e = .returned (.string ch) ∧ Stand (T.I g K) w w' L) := fun g K L u h => by
    have := schal hw h 9 9 (by decide)
    rw [show (IntKind.u64.wrap 9).toNat = 9 from rfl, hch] at this
    exact this
  have HR : Hid (∀ {g K L u}, Stand (T.I g K) w u L → Rise K ∧ K.length ≤ 4096) := fun {g K L u} h => by
    obtain ⟨F, h1, _⟩ := h
    exact T.rise h1
  clear hx0 hx1 hN hM hch
  have hmm := @run_makeMap Tryd.prog
  go_enter Tryd.func6, Tryd.ntmps6
  go_wp2_with fail
  refine (HN.out _ (Below.refl _ _)).mono ?_
  rintro e w1 ⟨g, rfl, hs1⟩
  go_wp2_with fail
  refine (HW.out _ _ _ hs1).mono ?_
  rintro e w2 ⟨rfl, hs2⟩
  have HM0 : Hid (MapO w2.heap.size (.map #[] 0) 0 []) := ⟨_, heap_new w2 _, mapIs_made w2⟩
  have HS0 : Hid (Stand (T.I g []) w (w2.alloc (.map #[] 0)) [(w2.heap.size, .map #[] 0)]) := hs2.alloc (T.res g []) _
  obtain ⟨mb, hmb⟩ : ∃ mb, w2.heap.size = mb := ⟨_, rfl⟩
  rw [hmb] at HM0 HS0
  clear hs1 hs2 HW HN
  go_wp2_with fail
  clear hmb hmm
  go_loopw [7] (fun iv wr => ∃ (i c : Nat) (O : Obj) (K : List Kv), i ≤ 12 ∧ iv = .int .i64 i ∧ c ≤ i ∧ Hid (Stand (T.I g K) w wr [(mb, O)]) ∧ Hid (MapO mb O c K) ∧ Hid (∀ p ∈ K, p.1.size ≤ 100 ∧ p.2.size ≤ 100)) (fun iv _ => 12 - (intOf iv).toNat)
  case atStart => exact ⟨0, 0, _, [], by omega, rfl, by omega, HS0, HM0, fun p hp => by cases hp⟩
  case round =>
    clear HM0 HS0
    obtain ⟨i, cm, O, K, hi, rfl, hcm, HS, HMO, HZ⟩ := hrel
    by_cases hlt : i < N.length ∧ i < M.length ∧ i < 12
    · obtain ⟨l0, l1, l2⟩ := hlt
      have e0 : decide ((i : Int) < (N.length : Int)) = true := decide_eq_true (by omega)
      have e1 : decide ((i : Int) < (M.length : Int)) = true := decide_eq_true (by omega)
      have e2 : decide ((i : Int) < 12) = true := decide_eq_true (by omega)
      have e3 : (i : Int) < (N.length : Int) := by omega
      have e4 : (i : Int) < (M.length : Int) := by omega
      obtain ⟨b0, o0, rfl, hb0, hc0⟩ := HX0.out (by intro e; rw [e] at l0; exact absurd l0 (Nat.not_lt_zero _))
      obtain ⟨b1, o1, rfl, hb1, hc1⟩ := HX1.out (by intro e; rw [e] at l1; exact absurd l1 (Nat.not_lt_zero _))
      obtain ⟨n, hn⟩ : ∃ n, N[i] = n := ⟨_, rfl⟩
      obtain ⟨k, hk⟩ : ∃ n, M[i] = n := ⟨_, rfl⟩
      have q0 := hc0 i l0
      have q1 := hc1 i l1
      rw [hn] at q0
      rw [hk] at q1
      have HC : Hid (∀ u, Below w.heap.size w u → u.cell? ⟨b0, o0 + i, none⟩ = some (.string n) ∧ u.cell? ⟨b1, o1 + i, none⟩ = some (.string k)) := fun u hu => ⟨(hu.cell (p := ⟨b0, o0 + i, none⟩) hb0).trans q0, (hu.cell (p := ⟨b1, o1 + i, none⟩) hb1).trans q1⟩
      obtain ⟨x0, x1⟩ := HC.out wr HS.out.base
      clear hc0 hc1 hn hk q0 q1 hb0 hb1
      by_cases z0 : 100 < n.size
      · have y0 : decide ((100 : Int) < (n.size : Int)) = true := decide_eq_true (by omega)
        go_wp2_with fail
        go_ret
        exact ⟨rfl, HS.out.base⟩
      have y0 : decide ((100 : Int) < (n.size : Int)) = false := decide_eq_false (by omega)
      by_cases z1 : 100 < k.size
      · have y1 : decide ((100 : Int) < (k.size : Int)) = true := decide_eq_true (by omega)
        go_wp2_with fail
        go_ret
        exact ⟨rfl, HS.out.base⟩
      have y1 : decide ((100 : Int) < (k.size : Int)) = false := decide_eq_false (by omega)
      obtain ⟨E, hE⟩ : ∃ E, putE K n k = E := ⟨_, rfl⟩
      have HPc : Hid (∀ m, Calls Tryd.prog 12 #[.pointer (some ⟨g, 0, none⟩), .string n, .string k] (wr.drewN m) fun e w' => e = .returned (.int .i64 E) ∧ Stand (T.I g (putK K n k)) w w' [(mb, O)] ∧ w'.cell? ⟨b0, o0 + i, none⟩ = some (.string n) ∧ w'.cell? ⟨b1, o1 + i, none⟩ = some (.string k)) := fun m => (HP.out g K _ _ n k (by omega) (by omega) (HS.out.drewN (T.res _ _) m)).mono fun e w' h => by
        rw [hE] at h
        exact ⟨h.1, h.2, HC.out w' h.2.base⟩
      have hr := (HR.out HS.out).1
      by_cases hE0 : E = 0
      · subst hE0
        have hK := putK_ok hE
        rw [hK] at HPc
        have HZ2 : Hid (∀ p ∈ insK n k K, p.1.size ≤ 100 ∧ p.2.size ≤ 100) := fun p hp => by
          rcases mem_insK hp with rfl | hp
          · exact ⟨Nat.le_of_not_lt z0, Nat.le_of_not_lt z1⟩
          · exact HZ.out p hp
        have HPut : Hid (∀ u, MapIs u mb cm K → ∃ w', (Instr.mapUpdate 50 (.map (some mb)) (.string n) (.string k)).run Tryd.prog u = .ok () w' ∧ MapIs w' mb (cm + 1) (insK n k K) ∧ Turn (fun i => i = mb) u w') := fun u hu => hu.put_run hr (by omega) (by unfold maxLen; omega) (by unfold maxLen; omega)
        clear hE hK hr HZ
        go_wp2_with fail
        go_region_held3 (fun u => u.cell? ⟨b0, o0 + i, none⟩ = some (.string n) ∧ u.cell? ⟨b1, o1 + i, none⟩ = some (.string k)) (go_keep)
          (first | (go_at_call 12; refine (HPc.out 1).mono ?_; rintro e w3 ⟨rfl, hS3, p0, p1⟩))
        have hmap : MapIs w3 mb cm K := HMO.out.is (hS3.at (List.mem_singleton.2 rfl))
        obtain ⟨w4, hput, hm4, ht4⟩ := HPut.out w3.drew (hmap.heap rfl)
        obtain ⟨O4, ho4, hmo4⟩ := hm4.obj
        have HS4 : Hid (Stand (T.I g (insK n k K)) w w4 [(mb, O4)]) := (hS3.drewN (T.res _ _) 1).write (T.res _ _) (List.mem_singleton.2 rfl) ht4 ho4 _ (fun p hp => Or.inr (List.mem_singleton.1 hp))
        have HM4 : Hid (MapO mb O4 (cm + 1) (insK n k K)) := hmo4
        clear hmap hm4 ht4 ho4 hmo4 hS3 HMO HS HPc HPut
        go_wp2_with fail
        go_region
        go_wp2_with fail
        go_roundw
        case rel => exact ⟨i + 1, cm + 1, O4, insK n k K, by omega, by go_num, by omega, HS4, HM4, HZ2⟩
        case measure => simp [intOf]; omega
      · have hEI : ((E : Int) == 0) = false := by simp; exact hE0
        have hK := putK_no (show putE K n k ≠ 0 by rw [hE]; exact hE0)
        rw [hK] at HPc
        clear hE hK hr
        go_wp2_with fail
        go_region_held3 (fun u => u.cell? ⟨b0, o0 + i, none⟩ = some (.string n) ∧ u.cell? ⟨b1, o1 + i, none⟩ = some (.string k)) (go_keep)
          (first | (go_at_call 12; refine (HPc.out 1).mono ?_; rintro e w3 ⟨rfl, hS3, p0, p1⟩))
        have HS3 : Hid (Stand (T.I g K) w w3 [(mb, O)]) := hS3
        clear hS3 HS HPc
        go_wp2_with fail
        go_roundw
        case rel => exact ⟨i + 1, cm, O, K, by omega, by go_num, by omega, HS3, HMO, HZ⟩
        case measure => simp [intOf]; omega
    · by_cases l0 : i < N.length
      · have e0 : decide ((i : Int) < (N.length : Int)) = true := decide_eq_true (by omega)
        by_cases l1 : i < M.length
        · have e1 : decide ((i : Int) < (M.length : Int)) = true := decide_eq_true (by omega)
          have e2 : decide ((i : Int) < 12) = false := decide_eq_false (by omega)
          go_wp2_with fail
          refine (snames hw HS.out).mono ?_
          rintro e w3 ⟨la, lc, L, rfl, hS3, hsub, hnm⟩
          have HMap : Hid (∀ (I : World → (Nat → Prop) → Prop) (u : World), Stand I w u L → MapIs u mb cm K) := fun I u hu => HMO.out.is (hu.at (hsub _ (List.mem_singleton.2 rfl)))
          have HNm : Hid (∀ (I : World → (Nat → Prop) → Prop) (u : World), Stand I w u L → ∀ (i : Nat) (n : ByteArray), (namesOf K)[i]? = some n → ∃ b off, la = some ⟨b, off, none⟩ ∧ u.cell? ⟨b, off + i, none⟩ = some (.string n)) := hnm
          have HS3 : Hid (Stand (T.I g K) w w3 L) := hS3
          have HRi : Hid (Rise K) := (HR.out HS.out).1
          have hfew := (HR.out HS.out).2
          obtain ⟨Z, hZ⟩ : ∃ Z, K.length = Z := ⟨_, rfl⟩
          have HLen : Hid (K.length = Z) := hZ
          rw [hZ] at hfew ⊢
          have HM3 : Hid (MapIs w3 mb cm K) := HMap.out _ _ hS3
          clear hS3 hsub hnm HS hZ
          go_wp2_with (first | (refine wpList_lenS rfl _ rfl rfl HM3.out HLen.out ?_))
          clear HM3
          refine (HCh.out _ _ _ _ HS3.out).mono ?_
          rintro e w4 ⟨rfl, hS4⟩
          have HS4 : Hid (Stand (T.I g (K.drop 0)) w w4 L) := hS4
          clear hS4 HS3
          go_wp2_with fail
          go_loopw [82] (fun jv wx => ∃ j : Nat, j ≤ Z ∧ jv = .int .i64 j ∧ Hid (Stand (T.I g (K.drop j)) w wx L)) (fun jv _ => Z - (intOf jv).toNat)
          case atStart => exact ⟨0, Nat.zero_le _, rfl, HS4⟩
          case round =>
            clear HS4
            obtain ⟨j, hj, rfl, HS⟩ := hrel
            by_cases hjZ : j < Z
            · have hjI : (j : Int) < (Z : Int) := by omega
              obtain ⟨⟨n, v⟩, hjK⟩ : ∃ p, K[j]? = some p := ⟨_, List.getElem?_eq_getElem (by rw [HLen.out]; exact hjZ)⟩
              obtain ⟨hn100, hv100⟩ := HZ.out _ (List.mem_of_getElem? hjK)
              have hn100 : n.size ≤ 100 := hn100
              have hv100 : v.size ≤ 100 := hv100
              obtain ⟨b, off, rfl, hcell⟩ := HNm.out _ _ HS.out j n (namesOf_at hjK)
              have hget := getK_at HRi.out hjK
              have hG : lookV K n = v ∧ (getK n K).isSome = true := ⟨by unfold lookV; rw [hget]; rfl, by rw [hget]; rfl⟩
              have HMx : Hid (MapIs wr mb cm K) := HMap.out _ _ HS.out
              have hdr := drop_at hjK
              have hrd : Rise ((n, v) :: K.drop (j + 1)) := by rw [← hdr]; exact rise_drop HRi.out j
              obtain ⟨p, hp⟩ : ∃ p, proof v n ch = p := ⟨_, rfl⟩
              have hps : p.size = 32 := by rw [← hp, proof_size]
              have hck : checkE (K.drop j) n ch p = 0 := by rw [hdr, ← hp]; exact checkE_yes getK_head ch
              have htk : takeE (K.drop j) n = 0 := by unfold takeE; rw [hdr, getK_head]; rfl
              have hdl : delK n (K.drop j) = K.drop (j + 1) := by rw [hdr, delK_head hrd]
              have hno : checkE (K.drop (j + 1)) n ch p = 250 := checkE_none (getK_none.2 fun q hq e => by
                have := (List.pairwise_cons.1 hrd).1 q hq
                rw [e, bl_self] at this
                cases this) ch p
              have HPf : Hid (∀ K u, Stand (T.I g K) w u L → Calls Tryd.prog 16 #[.string v, .string n, .string ch] u fun e w' => e = .returned (.string p) ∧ Stand (T.I g K) w w' L) := fun K u h => by
                have := sproof hw h v n ch (by omega) (by omega) (by omega)
                rw [hp] at this
                exact this
              have HC1 : Hid (∀ u, Stand (T.I g (K.drop j)) w u L → Calls Tryd.prog 18 #[.pointer (some ⟨g, 0, none⟩), .string n, .string ch, .string p] u fun e w' => e = .returned (.int .i64 0) ∧ Stand (T.I g (K.drop j)) w w' L) := fun u h => by
                have := scheck hw h n ch p (by omega) (by omega) (by omega)
                rw [hck] at this
                exact this
              have HTk : Hid (∀ u, Stand (T.I g (K.drop j)) w u L → Calls Tryd.prog 14 #[.pointer (some ⟨g, 0, none⟩), .string n] u fun e w' => e = .returned (.int .i64 0) ∧ Stand (T.I g (K.drop (j + 1))) w w' L) := fun u h => by
                have := stake hw h n (by omega)
                rw [htk, hdl] at this
                exact this
              have HC2 : Hid (∀ u, Stand (T.I g (K.drop (j + 1))) w u L → Calls Tryd.prog 18 #[.pointer (some ⟨g, 0, none⟩), .string n, .string ch, .string p] u fun e w' => e = .returned (.int .i64 250) ∧ Stand (T.I g (K.drop (j + 1))) w w' L) := fun u h => by
                have := scheck hw h n ch p (by omega) (by omega) (by omega)
                rw [hno] at this
                exact this
              have hnm : n.size ≤ maxLen := by unfold maxLen; omega
              by_cases hj0 : j = 0
              · subst hj0
                clear hget hdr hrd hck htk hdl hno hp hjK
                rw [Nat.add_zero] at hcell
                rw [show ((0 : Nat) : Int) = 0 from rfl] at hjI ⊢
                go_wp2_with (first | (refine wpList_lookS rfl _ _ rfl rfl HMx.out rfl hnm hG ?_))
                refine (HPf.out _ _ HS.out).mono ?_
                rintro e w5 ⟨rfl, hs5⟩
                go_wp2_with fail
                refine (HC1.out _ hs5).mono ?_
                rintro e w6 ⟨rfl, hs6⟩
                go_wp2_with fail
                refine (HTk.out _ hs6).mono ?_
                rintro e w7 ⟨rfl, hs7⟩
                go_wp2_with fail
                refine (HPf.out _ _ hs7).mono ?_
                rintro e w8 ⟨rfl, hs8⟩
                go_wp2_with fail
                refine (HC2.out _ hs8).mono ?_
                rintro e w9 ⟨rfl, hs9⟩
                have HS9 : Hid (Stand (T.I g (K.drop (0 + 1))) w w9 L) := hs9
                clear hs5 hs6 hs7 hs8 hs9
                go_wp2_with fail
                go_roundw
                case rel => exact ⟨0 + 1, by omega, by go_num, HS9⟩
                case measure => simp [intOf]; omega
              · have h0I : decide ((0 : Int) < (j : Int)) = true := decide_eq_true (by omega)
                obtain ⟨i1, hi1⟩ : ∃ i1, j - 1 = i1 := ⟨_, rfl⟩
                have hi1I : (j : Int) - 1 = (i1 : Int) := by omega
                have hi1Z : i1 < Z := by omega
                have hi1Z2 : (i1 : Int) < (Z : Int) := by omega
                have wi1 : IntKind.i64.wrap (i1 : Int) = (i1 : Int) := wrapI (by omega) (by omega)
                obtain ⟨⟨n1, v1⟩, hiK⟩ : ∃ p, K[i1]? = some p := ⟨_, List.getElem?_eq_getElem (by rw [HLen.out]; exact hi1Z)⟩
                obtain ⟨b', off', hbo, hcell1⟩ := HNm.out _ _ HS.out i1 n1 (namesOf_at hiK)
                cases hbo
                have hless : Op.bytesLess n1.toList n.toList = true := by
                  obtain ⟨h1, h2⟩ := List.getElem?_eq_some_iff.1 hiK
                  obtain ⟨h3, h4⟩ := List.getElem?_eq_some_iff.1 hjK
                  have := List.pairwise_iff_getElem.1 HRi.out i1 j h1 h3 (by omega)
                  rw [h2, h4] at this
                  exact this
                clear hget hdr hrd hck htk hdl hno hp hjK hiK hi1
                go_wp2_with (first | (refine wpList_lookS rfl _ _ rfl rfl HMx.out rfl hnm hG ?_))
                refine (HPf.out _ _ HS.out).mono ?_
                rintro e w5 ⟨rfl, hs5⟩
                go_wp2_with fail
                refine (HC1.out _ hs5).mono ?_
                rintro e w6 ⟨rfl, hs6⟩
                go_wp2_with fail
                refine (HTk.out _ hs6).mono ?_
                rintro e w7 ⟨rfl, hs7⟩
                go_wp2_with fail
                refine (HPf.out _ _ hs7).mono ?_
                rintro e w8 ⟨rfl, hs8⟩
                go_wp2_with fail
                refine (HC2.out _ hs8).mono ?_
                rintro e w9 ⟨rfl, hs9⟩
                have HS9 : Hid (Stand (T.I g (K.drop (j + 1))) w w9 L) := hs9
                clear hs5 hs6 hs7 hs8 hs9
                go_wp2_with fail
                go_roundw
                case rel => exact ⟨j + 1, by omega, by go_num, HS9⟩
                case measure => simp [intOf]; omega
            · obtain rfl : j = Z := by omega
              have hjI : ¬ (j : Int) < (j : Int) := by omega
              have hdz : (K.drop j).length = 0 := by rw [List.length_drop, HLen.out]; omega
              have HNa := snames hw HS.out
              rw [hdz] at HNa
              have HNa' : Hid (Calls Tryd.prog 21 #[.pointer (some ⟨g, 0, none⟩)] wr fun e w' => ∃ a c, e = .returned (.slice a 0 c) ∧ Below w.heap.size w w') := HNa.mono fun e w' ⟨a, c, L', h1, h2, _⟩ => ⟨a, c, h1, h2.base⟩
              clear HNa hdz
              go_wp2_with fail
              refine HNa'.out.mono ?_
              rintro e w9 ⟨a9, c9, rfl, hb9⟩
              go_wp2_with fail
              go_ret
              exact ⟨rfl, hb9⟩
        · have e1 : decide ((i : Int) < (M.length : Int)) = false := decide_eq_false (by omega)
          go_wp2_with fail
          refine (snames hw HS.out).mono ?_
          rintro e w3 ⟨la, lc, L, rfl, hS3, hsub, hnm⟩
          have HMap : Hid (∀ (I : World → (Nat → Prop) → Prop) (u : World), Stand I w u L → MapIs u mb cm K) := fun I u hu => HMO.out.is (hu.at (hsub _ (List.mem_singleton.2 rfl)))
          have HNm : Hid (∀ (I : World → (Nat → Prop) → Prop) (u : World), Stand I w u L → ∀ (i : Nat) (n : ByteArray), (namesOf K)[i]? = some n → ∃ b off, la = some ⟨b, off, none⟩ ∧ u.cell? ⟨b, off + i, none⟩ = some (.string n)) := hnm
          have HS3 : Hid (Stand (T.I g K) w w3 L) := hS3
          have HRi : Hid (Rise K) := (HR.out HS.out).1
          have hfew := (HR.out HS.out).2
          obtain ⟨Z, hZ⟩ : ∃ Z, K.length = Z := ⟨_, rfl⟩
          have HLen : Hid (K.length = Z) := hZ
          rw [hZ] at hfew ⊢
          have HM3 : Hid (MapIs w3 mb cm K) := HMap.out _ _ hS3
          clear hS3 hsub hnm HS hZ
          go_wp2_with (first | (refine wpList_lenS rfl _ rfl rfl HM3.out HLen.out ?_))
          clear HM3
          refine (HCh.out _ _ _ _ HS3.out).mono ?_
          rintro e w4 ⟨rfl, hS4⟩
          have HS4 : Hid (Stand (T.I g (K.drop 0)) w w4 L) := hS4
          clear hS4 HS3
          go_wp2_with fail
          go_loopw [82] (fun jv wx => ∃ j : Nat, j ≤ Z ∧ jv = .int .i64 j ∧ Hid (Stand (T.I g (K.drop j)) w wx L)) (fun jv _ => Z - (intOf jv).toNat)
          case atStart => exact ⟨0, Nat.zero_le _, rfl, HS4⟩
          case round =>
            clear HS4
            obtain ⟨j, hj, rfl, HS⟩ := hrel
            by_cases hjZ : j < Z
            · have hjI : (j : Int) < (Z : Int) := by omega
              obtain ⟨⟨n, v⟩, hjK⟩ : ∃ p, K[j]? = some p := ⟨_, List.getElem?_eq_getElem (by rw [HLen.out]; exact hjZ)⟩
              obtain ⟨hn100, hv100⟩ := HZ.out _ (List.mem_of_getElem? hjK)
              have hn100 : n.size ≤ 100 := hn100
              have hv100 : v.size ≤ 100 := hv100
              obtain ⟨b, off, rfl, hcell⟩ := HNm.out _ _ HS.out j n (namesOf_at hjK)
              have hget := getK_at HRi.out hjK
              have hG : lookV K n = v ∧ (getK n K).isSome = true := ⟨by unfold lookV; rw [hget]; rfl, by rw [hget]; rfl⟩
              have HMx : Hid (MapIs wr mb cm K) := HMap.out _ _ HS.out
              have hdr := drop_at hjK
              have hrd : Rise ((n, v) :: K.drop (j + 1)) := by rw [← hdr]; exact rise_drop HRi.out j
              obtain ⟨p, hp⟩ : ∃ p, proof v n ch = p := ⟨_, rfl⟩
              have hps : p.size = 32 := by rw [← hp, proof_size]
              have hck : checkE (K.drop j) n ch p = 0 := by rw [hdr, ← hp]; exact checkE_yes getK_head ch
              have htk : takeE (K.drop j) n = 0 := by unfold takeE; rw [hdr, getK_head]; rfl
              have hdl : delK n (K.drop j) = K.drop (j + 1) := by rw [hdr, delK_head hrd]
              have hno : checkE (K.drop (j + 1)) n ch p = 250 := checkE_none (getK_none.2 fun q hq e => by
                have := (List.pairwise_cons.1 hrd).1 q hq
                rw [e, bl_self] at this
                cases this) ch p
              have HPf : Hid (∀ K u, Stand (T.I g K) w u L → Calls Tryd.prog 16 #[.string v, .string n, .string ch] u fun e w' => e = .returned (.string p) ∧ Stand (T.I g K) w w' L) := fun K u h => by
                have := sproof hw h v n ch (by omega) (by omega) (by omega)
                rw [hp] at this
                exact this
              have HC1 : Hid (∀ u, Stand (T.I g (K.drop j)) w u L → Calls Tryd.prog 18 #[.pointer (some ⟨g, 0, none⟩), .string n, .string ch, .string p] u fun e w' => e = .returned (.int .i64 0) ∧ Stand (T.I g (K.drop j)) w w' L) := fun u h => by
                have := scheck hw h n ch p (by omega) (by omega) (by omega)
                rw [hck] at this
                exact this
              have HTk : Hid (∀ u, Stand (T.I g (K.drop j)) w u L → Calls Tryd.prog 14 #[.pointer (some ⟨g, 0, none⟩), .string n] u fun e w' => e = .returned (.int .i64 0) ∧ Stand (T.I g (K.drop (j + 1))) w w' L) := fun u h => by
                have := stake hw h n (by omega)
                rw [htk, hdl] at this
                exact this
              have HC2 : Hid (∀ u, Stand (T.I g (K.drop (j + 1))) w u L → Calls Tryd.prog 18 #[.pointer (some ⟨g, 0, none⟩), .string n, .string ch, .string p] u fun e w' => e = .returned (.int .i64 250) ∧ Stand (T.I g (K.drop (j + 1))) w w' L) := fun u h => by
                have := scheck hw h n ch p (by omega) (by omega) (by omega)
                rw [hno] at this
                exact this
              have hnm : n.size ≤ maxLen := by unfold maxLen; omega
              by_cases hj0 : j = 0
              · subst hj0
                clear hget hdr hrd hck htk hdl hno hp hjK
                rw [Nat.add_zero] at hcell
                rw [show ((0 : Nat) : Int) = 0 from rfl] at hjI ⊢
                go_wp2_with (first | (refine wpList_lookS rfl _ _ rfl rfl HMx.out rfl hnm hG ?_))
                refine (HPf.out _ _ HS.out).mono ?_
                rintro e w5 ⟨rfl, hs5⟩
                go_wp2_with fail
                refine (HC1.out _ hs5).mono ?_
                rintro e w6 ⟨rfl, hs6⟩
                go_wp2_with fail
                refine (HTk.out _ hs6).mono ?_
                rintro e w7 ⟨rfl, hs7⟩
                go_wp2_with fail
                refine (HPf.out _ _ hs7).mono ?_
                rintro e w8 ⟨rfl, hs8⟩
                go_wp2_with fail
                refine (HC2.out _ hs8).mono ?_
                rintro e w9 ⟨rfl, hs9⟩
                have HS9 : Hid (Stand (T.I g (K.drop (0 + 1))) w w9 L) := hs9
                clear hs5 hs6 hs7 hs8 hs9
                go_wp2_with fail
                go_roundw
                case rel => exact ⟨0 + 1, by omega, by go_num, HS9⟩
                case measure => simp [intOf]; omega
              · have h0I : decide ((0 : Int) < (j : Int)) = true := decide_eq_true (by omega)
                obtain ⟨i1, hi1⟩ : ∃ i1, j - 1 = i1 := ⟨_, rfl⟩
                have hi1I : (j : Int) - 1 = (i1 : Int) := by omega
                have hi1Z : i1 < Z := by omega
                have hi1Z2 : (i1 : Int) < (Z : Int) := by omega
                have wi1 : IntKind.i64.wrap (i1 : Int) = (i1 : Int) := wrapI (by omega) (by omega)
                obtain ⟨⟨n1, v1⟩, hiK⟩ : ∃ p, K[i1]? = some p := ⟨_, List.getElem?_eq_getElem (by rw [HLen.out]; exact hi1Z)⟩
                obtain ⟨b', off', hbo, hcell1⟩ := HNm.out _ _ HS.out i1 n1 (namesOf_at hiK)
                cases hbo
                have hless : Op.bytesLess n1.toList n.toList = true := by
                  obtain ⟨h1, h2⟩ := List.getElem?_eq_some_iff.1 hiK
                  obtain ⟨h3, h4⟩ := List.getElem?_eq_some_iff.1 hjK
                  have := List.pairwise_iff_getElem.1 HRi.out i1 j h1 h3 (by omega)
                  rw [h2, h4] at this
                  exact this
                clear hget hdr hrd hck htk hdl hno hp hjK hiK hi1
                go_wp2_with (first | (refine wpList_lookS rfl _ _ rfl rfl HMx.out rfl hnm hG ?_))
                refine (HPf.out _ _ HS.out).mono ?_
                rintro e w5 ⟨rfl, hs5⟩
                go_wp2_with fail
                refine (HC1.out _ hs5).mono ?_
                rintro e w6 ⟨rfl, hs6⟩
                go_wp2_with fail
                refine (HTk.out _ hs6).mono ?_
                rintro e w7 ⟨rfl, hs7⟩
                go_wp2_with fail
                refine (HPf.out _ _ hs7).mono ?_
                rintro e w8 ⟨rfl, hs8⟩
                go_wp2_with fail
                refine (HC2.out _ hs8).mono ?_
                rintro e w9 ⟨rfl, hs9⟩
                have HS9 : Hid (Stand (T.I g (K.drop (j + 1))) w w9 L) := hs9
                clear hs5 hs6 hs7 hs8 hs9
                go_wp2_with fail
                go_roundw
                case rel => exact ⟨j + 1, by omega, by go_num, HS9⟩
                case measure => simp [intOf]; omega
            · obtain rfl : j = Z := by omega
              have hjI : ¬ (j : Int) < (j : Int) := by omega
              have hdz : (K.drop j).length = 0 := by rw [List.length_drop, HLen.out]; omega
              have HNa := snames hw HS.out
              rw [hdz] at HNa
              have HNa' : Hid (Calls Tryd.prog 21 #[.pointer (some ⟨g, 0, none⟩)] wr fun e w' => ∃ a c, e = .returned (.slice a 0 c) ∧ Below w.heap.size w w') := HNa.mono fun e w' ⟨a, c, L', h1, h2, _⟩ => ⟨a, c, h1, h2.base⟩
              clear HNa hdz
              go_wp2_with fail
              refine HNa'.out.mono ?_
              rintro e w9 ⟨a9, c9, rfl, hb9⟩
              go_wp2_with fail
              go_ret
              exact ⟨rfl, hb9⟩
      have e0 : decide ((i : Int) < (N.length : Int)) = false := decide_eq_false (by omega)
      go_wp2_with fail
      refine (snames hw HS.out).mono ?_
      rintro e w3 ⟨la, lc, L, rfl, hS3, hsub, hnm⟩
      have HMap : Hid (∀ (I : World → (Nat → Prop) → Prop) (u : World), Stand I w u L → MapIs u mb cm K) := fun I u hu => HMO.out.is (hu.at (hsub _ (List.mem_singleton.2 rfl)))
      have HNm : Hid (∀ (I : World → (Nat → Prop) → Prop) (u : World), Stand I w u L → ∀ (i : Nat) (n : ByteArray), (namesOf K)[i]? = some n → ∃ b off, la = some ⟨b, off, none⟩ ∧ u.cell? ⟨b, off + i, none⟩ = some (.string n)) := hnm
      have HS3 : Hid (Stand (T.I g K) w w3 L) := hS3
      have HRi : Hid (Rise K) := (HR.out HS.out).1
      have hfew := (HR.out HS.out).2
      obtain ⟨Z, hZ⟩ : ∃ Z, K.length = Z := ⟨_, rfl⟩
      have HLen : Hid (K.length = Z) := hZ
      rw [hZ] at hfew ⊢
      have HM3 : Hid (MapIs w3 mb cm K) := HMap.out _ _ hS3
      clear hS3 hsub hnm HS hZ
      go_wp2_with (first | (refine wpList_lenS rfl _ rfl rfl HM3.out HLen.out ?_))
      clear HM3
      refine (HCh.out _ _ _ _ HS3.out).mono ?_
      rintro e w4 ⟨rfl, hS4⟩
      have HS4 : Hid (Stand (T.I g (K.drop 0)) w w4 L) := hS4
      clear hS4 HS3
      go_wp2_with fail
      go_loopw [82] (fun jv wx => ∃ j : Nat, j ≤ Z ∧ jv = .int .i64 j ∧ Hid (Stand (T.I g (K.drop j)) w wx L)) (fun jv _ => Z - (intOf jv).toNat)
      case atStart => exact ⟨0, Nat.zero_le _, rfl, HS4⟩
      case round =>
        clear HS4
        obtain ⟨j, hj, rfl, HS⟩ := hrel
        by_cases hjZ : j < Z
        · have hjI : (j : Int) < (Z : Int) := by omega
          obtain ⟨⟨n, v⟩, hjK⟩ : ∃ p, K[j]? = some p := ⟨_, List.getElem?_eq_getElem (by rw [HLen.out]; exact hjZ)⟩
          obtain ⟨hn100, hv100⟩ := HZ.out _ (List.mem_of_getElem? hjK)
          have hn100 : n.size ≤ 100 := hn100
          have hv100 : v.size ≤ 100 := hv100
          obtain ⟨b, off, rfl, hcell⟩ := HNm.out _ _ HS.out j n (namesOf_at hjK)
          have hget := getK_at HRi.out hjK
          have hG : lookV K n = v ∧ (getK n K).isSome = true := ⟨by unfold lookV; rw [hget]; rfl, by rw [hget]; rfl⟩
          have HMx : Hid (MapIs wr mb cm K) := HMap.out _ _ HS.out
          have hdr := drop_at hjK
          have hrd : Rise ((n, v) :: K.drop (j + 1)) := by rw [← hdr]; exact rise_drop HRi.out j
          obtain ⟨p, hp⟩ : ∃ p, proof v n ch = p := ⟨_, rfl⟩
          have hps : p.size = 32 := by rw [← hp, proof_size]
          have hck : checkE (K.drop j) n ch p = 0 := by rw [hdr, ← hp]; exact checkE_yes getK_head ch
          have htk : takeE (K.drop j) n = 0 := by unfold takeE; rw [hdr, getK_head]; rfl
          have hdl : delK n (K.drop j) = K.drop (j + 1) := by rw [hdr, delK_head hrd]
          have hno : checkE (K.drop (j + 1)) n ch p = 250 := checkE_none (getK_none.2 fun q hq e => by
            have := (List.pairwise_cons.1 hrd).1 q hq
            rw [e, bl_self] at this
            cases this) ch p
          have HPf : Hid (∀ K u, Stand (T.I g K) w u L → Calls Tryd.prog 16 #[.string v, .string n, .string ch] u fun e w' => e = .returned (.string p) ∧ Stand (T.I g K) w w' L) := fun K u h => by
            have := sproof hw h v n ch (by omega) (by omega) (by omega)
            rw [hp] at this
            exact this
          have HC1 : Hid (∀ u, Stand (T.I g (K.drop j)) w u L → Calls Tryd.prog 18 #[.pointer (some ⟨g, 0, none⟩), .string n, .string ch, .string p] u fun e w' => e = .returned (.int .i64 0) ∧ Stand (T.I g (K.drop j)) w w' L) := fun u h => by
            have := scheck hw h n ch p (by omega) (by omega) (by omega)
            rw [hck] at this
            exact this
          have HTk : Hid (∀ u, Stand (T.I g (K.drop j)) w u L → Calls Tryd.prog 14 #[.pointer (some ⟨g, 0, none⟩), .string n] u fun e w' => e = .returned (.int .i64 0) ∧ Stand (T.I g (K.drop (j + 1))) w w' L) := fun u h => by
            have := stake hw h n (by omega)
            rw [htk, hdl] at this
            exact this
          have HC2 : Hid (∀ u, Stand (T.I g (K.drop (j + 1))) w u L → Calls Tryd.prog 18 #[.pointer (some ⟨g, 0, none⟩), .string n, .string ch, .string p] u fun e w' => e = .returned (.int .i64 250) ∧ Stand (T.I g (K.drop (j + 1))) w w' L) := fun u h => by
            have := scheck hw h n ch p (by omega) (by omega) (by omega)
            rw [hno] at this
            exact this
          have hnm : n.size ≤ maxLen := by unfold maxLen; omega
          by_cases hj0 : j = 0
          · subst hj0
            clear hget hdr hrd hck htk hdl hno hp hjK
            rw [Nat.add_zero] at hcell
            rw [show ((0 : Nat) : Int) = 0 from rfl] at hjI ⊢
            go_wp2_with (first | (refine wpList_lookS rfl _ _ rfl rfl HMx.out rfl hnm hG ?_))
            refine (HPf.out _ _ HS.out).mono ?_
            rintro e w5 ⟨rfl, hs5⟩
            go_wp2_with fail
            refine (HC1.out _ hs5).mono ?_
            rintro e w6 ⟨rfl, hs6⟩
            go_wp2_with fail
            refine (HTk.out _ hs6).mono ?_
            rintro e w7 ⟨rfl, hs7⟩
            go_wp2_with fail
            refine (HPf.out _ _ hs7).mono ?_
            rintro e w8 ⟨rfl, hs8⟩
            go_wp2_with fail
            refine (HC2.out _ hs8).mono ?_
            rintro e w9 ⟨rfl, hs9⟩
            have HS9 : Hid (Stand (T.I g (K.drop (0 + 1))) w w9 L) := hs9
            clear hs5 hs6 hs7 hs8 hs9
            go_wp2_with fail
            go_roundw
            case rel => exact ⟨0 + 1, by omega, by go_num, HS9⟩
            case measure => simp [intOf]; omega
          · have h0I : decide ((0 : Int) < (j : Int)) = true := decide_eq_true (by omega)
            obtain ⟨i1, hi1⟩ : ∃ i1, j - 1 = i1 := ⟨_, rfl⟩
            have hi1I : (j : Int) - 1 = (i1 : Int) := by omega
            have hi1Z : i1 < Z := by omega
            have hi1Z2 : (i1 : Int) < (Z : Int) := by omega
            have wi1 : IntKind.i64.wrap (i1 : Int) = (i1 : Int) := wrapI (by omega) (by omega)
            obtain ⟨⟨n1, v1⟩, hiK⟩ : ∃ p, K[i1]? = some p := ⟨_, List.getElem?_eq_getElem (by rw [HLen.out]; exact hi1Z)⟩
            obtain ⟨b', off', hbo, hcell1⟩ := HNm.out _ _ HS.out i1 n1 (namesOf_at hiK)
            cases hbo
            have hless : Op.bytesLess n1.toList n.toList = true := by
              obtain ⟨h1, h2⟩ := List.getElem?_eq_some_iff.1 hiK
              obtain ⟨h3, h4⟩ := List.getElem?_eq_some_iff.1 hjK
              have := List.pairwise_iff_getElem.1 HRi.out i1 j h1 h3 (by omega)
              rw [h2, h4] at this
              exact this
            clear hget hdr hrd hck htk hdl hno hp hjK hiK hi1
            go_wp2_with (first | (refine wpList_lookS rfl _ _ rfl rfl HMx.out rfl hnm hG ?_))
            refine (HPf.out _ _ HS.out).mono ?_
            rintro e w5 ⟨rfl, hs5⟩
            go_wp2_with fail
            refine (HC1.out _ hs5).mono ?_
            rintro e w6 ⟨rfl, hs6⟩
            go_wp2_with fail
            refine (HTk.out _ hs6).mono ?_
            rintro e w7 ⟨rfl, hs7⟩
            go_wp2_with fail
            refine (HPf.out _ _ hs7).mono ?_
            rintro e w8 ⟨rfl, hs8⟩
            go_wp2_with fail
            refine (HC2.out _ hs8).mono ?_
            rintro e w9 ⟨rfl, hs9⟩
            have HS9 : Hid (Stand (T.I g (K.drop (j + 1))) w w9 L) := hs9
            clear hs5 hs6 hs7 hs8 hs9
            go_wp2_with fail
            go_roundw
            case rel => exact ⟨j + 1, by omega, by go_num, HS9⟩
            case measure => simp [intOf]; omega
        · obtain rfl : j = Z := by omega
          have hjI : ¬ (j : Int) < (j : Int) := by omega
          have hdz : (K.drop j).length = 0 := by rw [List.length_drop, HLen.out]; omega
          have HNa := snames hw HS.out
          rw [hdz] at HNa
          have HNa' : Hid (Calls Tryd.prog 21 #[.pointer (some ⟨g, 0, none⟩)] wr fun e w' => ∃ a c, e = .returned (.slice a 0 c) ∧ Below w.heap.size w w') := HNa.mono fun e w' ⟨a, c, L', h1, h2, _⟩ => ⟨a, c, h1, h2.base⟩
          clear HNa hdz
          go_wp2_with fail
          refine HNa'.out.mono ?_
          rintro e w9 ⟨a9, c9, rfl, hb9⟩
          go_wp2_with fail
          go_ret
          exact ⟨rfl, hb9⟩
end NamesL
end Go.Proofs.YtibglhlhogfdnaaDoor
