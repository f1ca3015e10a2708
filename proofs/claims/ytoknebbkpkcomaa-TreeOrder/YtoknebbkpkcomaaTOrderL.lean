/- The law TreeOrder: its walk. -/
import Derived.Test.YtoknebbkpkcomaaTOrderP
import Derived.Test.YtoknebbkpkcomaaTSide
import Derived.Test.YtoknebbkpkcomaaTBook
import Derived.Test.YtoknebbkpkcomaaTWorks
import Derived.Test.YtoknebbkpkcomaaNMap
import Derived.Maps.OwnOps
namespace Go.Proofs.Ytoknebbkpkcomaa
open Go.RowKit Go.Maps

theorem strs_open {w : World} {v : Value} {L : List ByteArray} (h : SliceAt w v 1 enS L) : ∃ a c, v = .slice a L.length c ∧ L.length ≤ c ∧ c ≤ maxLen ∧ ∀ u, Below w.heap.size w u → ∀ (i : Nat) x, L[i]? = some x → ∃ b off, a = some ⟨b, off, none⟩ ∧ u.cell? ⟨b, off + i, none⟩ = some (.string x) := by
  obtain ⟨a, c, e, h1, h2, h3⟩ := h
  refine ⟨a, c, e, h1, h2, fun u hu i x hx => ?_⟩
  obtain ⟨hi, rfl⟩ := List.getElem?_eq_some_iff.1 hx
  obtain ⟨b, off, e, hl, hc⟩ := h3 (fun e => by rw [e] at hi; simp at hi)
  refine ⟨b, off, e, ?_⟩
  have := hc i hi 0 _ rfl
  rw [Nat.mul_one, Nat.add_zero] at this
  rw [hu.cell (p := ⟨b, off + i, none⟩) hl]
  exact this

/-- a look into the map -/
theorem look_run {u : World} {mb c : Nat} {M : List Kv} (h : MapIs u mb c M) (hM : Rise M) {k : ByteArray} (hs : k.size ≤ maxLen) {v : Int} (hg : getK k M = some v) : (Instr.lookup 58 (.map (some mb)) (.string k) false).run Try.prog u = .ok (.int .i64 v) u := by
  obtain ⟨D, h1, h2⟩ := h
  obtain ⟨c, hrun, hat, _⟩ := h1.lookup_int lawS Try.underlying58 Try.underlying3 (zeroI _) (WideMaps.keyOf_string_mk Try.underlying9 hs)
  have h4 := (h2.yes k v ((getK_some hM).1 hg)).2
  have hat2 : (DataW.lit (Lit.int .i64 v) : DataW Unit) = .lit (.int .i64 c) := h4.symm.trans hat
  simp only [DataW.lit.injEq, Lit.int.injEq, true_and] at hat2
  rw [hat2]
  exact hrun
section
variable {w : World} {ops : Array Oper} {rest : List Oper} {o : Oper} {a : Act} {Q : Exit → Act → World → Prop}
theorem wpList_lookB (hg : o.guard = none) (m x : Operand) (hop : o.op = Op.lookup 58 m x true) {mb c : Nat} {M : List Kv} (hm : a.eval m = .map (some mb)) (h : MapIs w mb c M) {k : ByteArray} (hx : a.eval x = .string k) (hs : k.size ≤ maxLen) {b : Bool} (hb : hasK k M = b)
    (hK : ∀ v : Int, wpList Try.prog ops Q rest (a.put o.dst (.tuple #[.int .i64 v, .bool b])) w) : wpList Try.prog ops Q (o :: rest) a w := by
  obtain ⟨D, h1, h2⟩ := h
  refine wpList_lookup_own_ok_int _ hg m x 58 hop 9 3 .i64 lawS Try.underlying58 Try.underlying3 (zeroI _) mb c D hm h1 _ _ hx (WideMaps.keyOf_string_mk Try.underlying9 hs) ?_
  intro z _ _
  rw [h2.hasIff, hb]
  exact hK z
end

theorem scanned_full {T : Tr} {a : Nat} {told : List Kv} {seen : List Sn} (h : T.Ok a) (hs : Scanned T.ls ⟨#[]⟩ ⟨#[]⟩ 4096 told seen) : told = T.ks := by
  rw [hs.eq]
  have e : scanK ⟨#[]⟩ ⟨#[]⟩ (allK T.ls) = T.ks := List.filter_eq_self.2 (fun p _ => by unfold inK; rw [bl_empty]; rfl)
  rw [e]
  exact List.take_of_length_le h.few

namespace OrderL

set_option maxRecDepth 100000 in
set_option maxHeartbeats 8000000 in
theorem walk (v0 v1 : Value) (K0 O0 : List ByteArray) (w : World) (hK : SliceAt w v0 1 enS K0) (hO : SliceAt w v1 1 enS O0) (zK : ∀ a ∈ K0, a.size ≤ reachBytes) (zO : ∀ a ∈ O0, a.size ≤ reachBytes) :
    Calls Try.prog 8 #[v0, v1] w fun e w' => e = .returned (.bool true) ∧ Below w.heap.size w w' := by
  have HWk : Hid (∀ u : World, Calls Try.prog 15 #[] u fun e w' => e = .returned (.bool true) ∧ Below u.heap.size u w') := works_any
  have HNew : Hid (∀ w1, Below w.heap.size w w1 → Calls Try.prog 9 #[] w1 fun e w' => ∃ t T, e = .returned (.pointer (some ⟨t, 0, none⟩)) ∧ Hid (T.ks = [] ∧ HasT t T 0 w w' [])) := fun w1 hb => hast_new hb
  obtain ⟨ak, ck, rfl, hk1, hk2, hkx⟩ := strs_open hK
  obtain ⟨ao, co, rfl, ho1, ho2, hox⟩ := strs_open hO
  unfold maxLen at hk2 ho2
  have HKX : Hid (∀ u, Below w.heap.size w u → ∀ (i : Nat) x, K0[i]? = some x → ∃ b off, ak = some ⟨b, off, none⟩ ∧ u.cell? ⟨b, off + i, none⟩ = some (.string x)) := hkx
  have HOX : Hid (∀ u, Below w.heap.size w u → ∀ (i : Nat) x, O0[i]? = some x → ∃ b off, ao = some ⟨b, off, none⟩ ∧ u.cell? ⟨b, off + i, none⟩ = some (.string x)) := hox
  have HZK : Hid (∀ (i : Nat) x, K0[i]? = some x → x.size ≤ maxLen) := fun i x hx => Nat.le_trans (zK x (List.mem_of_getElem? hx)) (by decide)
  have HZO : Hid (∀ (i : Nat) x, O0[i]? = some x → x.size ≤ maxLen) := fun i x hx => Nat.le_trans (zO x (List.mem_of_getElem? hx)) (by decide)
  obtain ⟨m, hm⟩ : ∃ m, K0.length = m := ⟨_, rfl⟩
  obtain ⟨l, hl⟩ : ∃ l, O0.length = l := ⟨_, rfl⟩
  have HM : Hid (K0.length = m ∧ O0.length = l) := ⟨hm, hl⟩
  rw [hm] at hk1 ⊢
  rw [hl] at ho1 ⊢
  clear hK hO zK zO hkx hox hm hl
  have hmm := @run_makeMap Try.prog
  go_enter Try.func8, Try.ntmps8
  go_wp2_with fail
  refine (HWk.out _).mono ?_
  rintro e w1 ⟨rfl, hb1⟩
  have HB1 : Hid (Below w.heap.size w w1) := hb1
  clear HWk hb1
  go_wp2_with fail
  refine (HNew.out _ HB1.out).mono ?_
  rintro e w2 ⟨t, T0, rfl, H2⟩
  clear HNew HB1
  go_wp2_with fail
  refine (twoT_new H2.out.2).mono ?_
  rintro e w3 ⟨s, S0, rfl, H3⟩
  have HT0 : Hid (T0.ks = []) := H2.out.1
  have HS0 : Hid (S0.ks = []) := H3.out.1
  have H4 : Hid (TwoT t T0 0 s S0 0 w (w3.alloc (.map #[] 0)) [(w3.heap.size, .map #[] 0)]) := Stand.alloc (twoT_res _ _ _ _ _ _) H3.out.2 (.map #[] 0)
  have HM0 : Hid (MapO w3.heap.size (.map #[] 0) 0 []) := ⟨_, heap_new w3 _, mapIs_made w3⟩
  obtain ⟨mb, hmb⟩ : ∃ mb, w3.heap.size = mb := ⟨_, rfl⟩
  rw [hmb] at H4 HM0
  clear H2 H3
  obtain ⟨n, hn⟩ : ∃ n, min m 150 = n := ⟨_, rfl⟩
  have hn1 : n ≤ m := by omega
  have hn2 : n ≤ 150 := by omega
  have hnI : min (m : Int) 150 = (n : Int) := by omega
  go_wp2_with fail
  try rw [hmb]
  try rw [hnI]
  clear hn hnI
  go_loopw [38] (fun i wr => ∃ (j : Nat) (T : Tr) (M : List Kv) (O : Obj), j ≤ n ∧ i = .int .i64 j ∧ Hid (AInv K0 j M T.ks) ∧ Hid (MapO mb O j M) ∧ Hid (TwoT t T (2 * j) s S0 0 w wr [(mb, O)])) (fun i _ => n - (intOf i).toNat)
  case atStart => exact ⟨0, T0, [], _, Nat.zero_le _, rfl, by show AInv _ _ _ _; rw [HT0.out]; exact AInv.zero K0, HM0, H4⟩
  case round =>
    clear H4 HM0 HT0 hmb
    obtain ⟨j, T, M, O, hj, rfl, HA, HO, HI⟩ := hrel
    by_cases hlt : j < n
    · have hlI : (j : Int) < (n : Int) := by omega
      have hjm : (j : Int) < (m : Int) := by omega
      obtain ⟨k, hk⟩ : ∃ k, K0[j]? = some k := ⟨_, List.getElem?_eq_getElem (by rw [HM.out.1]; omega)⟩
      have HT : Hid (∀ u, Below w.heap.size w u → ∃ b off, ak = some ⟨b, off, none⟩ ∧ u.cell? ⟨b, off + j, none⟩ = some (.string k)) := fun u hu => HKX.out u hu j k hk
      obtain ⟨b, off, rfl, t0⟩ := HT.out wr (Stand.base HI.out)
      have HT2 : Hid (∀ u, Below w.heap.size w u → u.cell? ⟨b, off + j, none⟩ = some (.string k)) := fun u hu => by
        obtain ⟨b', off', e, h⟩ := HT.out u hu
        cases e
        exact h
      have HKs : Hid (k.size ≤ maxLen) := HZK.out j k hk
      have HNm : Hid (Num (j : Int)) := (by constructor <;> omega : Num (j : Int))
      obtain ⟨A', was, th, e0, hp, hA'⟩ := HA.out.put (allK_rise (TwoT.okL HI.out).ok) hk (by omega)
      have HA' : Hid (AInv K0 (j + 1) (insK k (j : Int) M) A') := hA'
      have HP : Hid (PutK T.ks k (j : Int) A' was th e0) := hp
      have HPL : Hid (PutL M (insK k (j : Int) M) k (j : Int)) := insK_putL HA.out.rise k _
      have HMi : Hid (MapIs wr mb j M) := HO.out.is (Stand.at HI.out (by simp))
      clear hp hA' hk HT
      go_wp2_with (first
        | (refine wpList_putS rfl _ _ _ rfl rfl HMi.out (by omega) rfl HKs.out rfl HNm.out HPL.out ?_; intro wt k1 k2; obtain ⟨O2, hO2, hO3⟩ := k1.obj; have HO2 : Hid (MapO mb O2 (j + 1) (insK k (j : Int) M)) := hO3; have H2 : Hid (TwoT t T (2 * j) s S0 0 w wt [(mb, O2)]) := Stand.write (twoT_res _ _ _ _ _ _) HI.out (b := mb) (o := O) (by simp) k2 hO2 _ (by simp); have t1 := HT2.out wt (Stand.base H2.out); clear k1 k2 hO2 hO3)
        | (go_at_call 17; go_must (refine (TwoT.putL H2.out HP.out HNm.out (by omega)).mono ?_; rintro e w5 ⟨rfl, T5, H5⟩)))
      go_roundw
      case rel => exact ⟨j + 1, T5, insK k (j : Int) M, O2, by omega, by go_num, by show AInv _ _ _ _; rw [H5.out.1]; exact HA'.out, HO2, H5.out.2⟩
      case measure => simp [intOf]; omega
    · obtain rfl : j = n := by omega
      have hlI : ¬ (j : Int) < (j : Int) := by omega
      have HOm : Hid (∀ (i : Nat) x, O0[i]? = some x → i < 100 → (O0.take 100)[i]? = some x) := fun i x hx hi => by rw [List.getElem?_take_of_lt hi]; exact hx
      go_wp2_with fail
      go_loopw [10] (fun i wr => ∃ (q : Nat) (S : Tr), q ≤ 100 ∧ i = .int .i64 q ∧ Hid (B2 (O0.take 100) q S.ks) ∧ Hid (TwoT t T (2 * j) s S (2 * q) w wr [(mb, O)])) (fun i _ => 100 - (intOf i).toNat)
      case atStart => exact ⟨0, S0, Nat.zero_le _, rfl, by show B2 _ _ _; rw [HS0.out]; exact B2.zero _, HI⟩
      case round =>
        clear HI HS0
        obtain ⟨q, S, hq, rfl, HB, HI⟩ := hrel
        by_cases hlt : q < l ∧ q < 100
        · obtain ⟨hlt, h100⟩ := hlt
          have hql : (q : Int) < (l : Int) := by omega
          have h100I : (q : Int) < 100 := by omega
          obtain ⟨k, hk⟩ : ∃ k, O0[q]? = some k := ⟨_, List.getElem?_eq_getElem (by rw [HM.out.2]; omega)⟩
          obtain ⟨b, off, rfl, t0⟩ := HOX.out wr (Stand.base HI.out) q k hk
          obtain ⟨B', was, th, e0, hp, hB'⟩ := HB.out.put (allK_rise (TwoT.okR HI.out).ok) (List.mem_of_getElem? (HOm.out q k hk h100)) h100
          have HB' : Hid (B2 (O0.take 100) (q + 1) B') := hB'
          have HP : Hid (PutK S.ks k (-1) B' was th e0) := hp
          clear hp hB' hk
          go_wp2_with (go_at_call 17; go_must (refine (TwoT.putR HI.out HP.out (by decide) (by omega)).mono ?_; rintro e w5 ⟨rfl, S5, H5⟩))
          go_roundw
          case rel => exact ⟨q + 1, S5, by omega, by go_num, by show B2 _ _ _; rw [H5.out.1]; exact HB'.out, H5.out.2⟩
          case measure => simp [intOf]; omega
        · by_cases hl1 : 100 < l
          · have f1 : (q : Int) < (l : Int) := by omega
            have f2 : ¬ (q : Int) < 100 := by omega
            have HB3 : Hid (B3 K0 (O0.take 100) M j j S.ks) := HB.out.three hq j
            clear HB
            go_wp2_with fail
            go_loopw [11] (fun i wr => ∃ (p : Nat) (S : Tr) (c : Nat), p ≤ j ∧ c + 2 * p ≤ 200 + 2 * j ∧ i = .int .i64 ((p : Int) - 1) ∧ Hid (B3 K0 (O0.take 100) M j p S.ks) ∧ Hid (TwoT t T (2 * j) s S c w wr [(mb, O)])) (fun i _ => (intOf i + 1).toNat)
            case atStart => exact ⟨j, S, 2 * q, Nat.le_refl _, by omega, rfl, HB3, HI⟩
            case round =>
              clear HI HB3
              obtain ⟨p, S, c, hp, hc, rfl, HB3, HI⟩ := hrel
              by_cases hp0 : p = 0
              · subst hp0
                rw [show (((0 : Nat) : Int) - 1) = -1 from rfl]
                have HB4 : Hid (B4 (O0.take 100) M 0 S.ks) := HB3.out.four HA.out
                clear HB3
                go_wp2_with fail
                go_loopw [12] (fun i wr => ∃ (q : Nat) (S : Tr) (c : Nat), q ≤ 100 ∧ q ≤ l ∧ c ≤ 500 + 2 * q ∧ i = .int .i64 q ∧ Hid (B4 (O0.take 100) M q S.ks) ∧ Hid (TwoT t T (2 * j) s S c w wr [(mb, O)])) (fun i _ => 100 - (intOf i).toNat)
                case atStart => exact ⟨0, S, c, Nat.zero_le _, Nat.zero_le _, by omega, rfl, HB4, HI⟩
                case round =>
                  clear HI HB4 hc
                  obtain ⟨q, S, c, hq, hql, hc, rfl, HB4, HI⟩ := hrel
                  by_cases hlt : q < l ∧ q < 100
                  · obtain ⟨hlt, h100⟩ := hlt
                    have hqlI : (q : Int) < (l : Int) := by omega
                    have h100I : (q : Int) < 100 := by omega
                    obtain ⟨k, hk⟩ : ∃ k, O0[q]? = some k := ⟨_, List.getElem?_eq_getElem (by rw [HM.out.2]; omega)⟩
                    obtain ⟨b, off, rfl, t0⟩ := HOX.out wr (Stand.base HI.out) q k hk
                    have HKs : Hid (k.size ≤ maxLen) := HZO.out q k hk
                    have hkO := HOm.out q k hk h100
                    have HMi : Hid (MapIs wr mb j M) := HO.out.is (Stand.at HI.out (by simp))
                    cases hg : getK k M with
                    | some v =>
                      have HH : Hid (hasK k M = true) := hasK_true hg
                      have HB' : Hid (B4 (O0.take 100) M (q + 1) S.ks) := HB4.out.skip hkO (by rw [hg]; simp)
                      clear hg hkO hk
                      go_wp2_with (refine wpList_lookB rfl _ _ rfl rfl HMi.out rfl HKs.out HH.out ?_; intro z)
                      go_roundw
                      case rel => exact ⟨q + 1, S, c, by omega, by omega, by omega, by go_num, HB', HI⟩
                      case measure => simp [intOf]; omega
                    | none =>
                      have HH : Hid (hasK k M = false) := hasK_false hg
                      obtain ⟨B', was, e0, hp, hB'⟩ := HB4.out.take hkO hg
                      have HB' : Hid (B4 (O0.take 100) M (q + 1) B') := hB'
                      have HP : Hid (TakeK S.ks k B' was e0) := hp
                      clear hg hkO hk hp hB'
                      go_wp2_with (first
                        | (refine wpList_lookB rfl _ _ rfl rfl HMi.out rfl HKs.out HH.out ?_; intro z)
                        | (go_at_call 19; go_must (refine (TwoT.takeR HI.out HP.out (by omega)).mono ?_; rintro e w5 ⟨rfl, S5, H5⟩)))
                      go_roundw
                      case rel => exact ⟨q + 1, S5, c + 2, by omega, by omega, by omega, by go_num, by show B4 _ _ _ _; rw [H5.out.1]; exact HB'.out, H5.out.2⟩
                      case measure => simp [intOf]; omega
                  · have hqe : q = 100 := by omega
                    have f1 : (q : Int) < (l : Int) := by omega
                    have f2 : ¬ (q : Int) < 100 := by omega
                    have HEq : Hid (T.ks = S.ks) := HB4.out.done (by rw [List.length_take, HM.out.2]; omega) HA.out (allK_rise (TwoT.okL HI.out).ok) (allK_rise (TwoT.okR HI.out).ok)
                    go_wp2_with fail
                    refine (TwoT.scanL (most := 4096) rfl HI.out (by omega) (by omega)).mono ?_
                    rintro e w7 ⟨vk, vv, vs, told, seen, L1, rfl, HSc, HR, H7⟩
                    obtain rfl : told = T.ks := scanned_full (TwoT.okL H7.out) HSc.out
                    clear HI HSc
                    go_wp2_with fail
                    refine (TwoT.scanR (most := 4096) rfl H7.out (by omega) (by omega)).mono ?_
                    rintro e w8 ⟨xk, xv, xs, told, seen2, L2, rfl, HSc, HR2, H8⟩
                    obtain rfl : told = S.ks := scanned_full (TwoT.okR H8.out) HSc.out
                    have HB8 : Hid (Below w.heap.size w w8) := Stand.base H8.out
                    have HSt : Hid (Calls Try.prog 13 #[vk, xk] w8 fun e w' => e = .returned (.bool true) ∧ Hid (TwoT t T (2 * j) s S c w w' (L2 ++ (L1 ++ [(mb, O)])))) := by
                      have q1 := (HR.out w8 (fun p hp => Stand.heaps H8.out p (by simp [hp]))).1
                      have q2 := (HR2.out w8 (fun p hp => Stand.heaps H8.out p (by simp [hp]))).1
                      have := sameTexts_any _ _ _ _ _ q1 q2
                      rw [decide_eq_true (by rw [HEq.out])] at this
                      exact this.mono fun e w' ⟨e1, n, e2⟩ => ⟨e1, e2 ▸ Stand.drewN (twoT_res _ _ _ _ _ _) H8.out n⟩
                    have HSi : Hid (∀ u, TwoT t T (2 * j) s S c w u (L2 ++ (L1 ++ [(mb, O)])) → Calls Try.prog 14 #[vv, xv] u fun e w' => e = .returned (.bool true) ∧ Hid (TwoT t T (2 * j) s S c w w' (L2 ++ (L1 ++ [(mb, O)])))) := fun u hu => by
                      have q1 := (HR.out u (fun p hp => Stand.heaps hu p (by simp [hp]))).2.1
                      have q2 := (HR2.out u (fun p hp => Stand.heaps hu p (by simp [hp]))).2.1
                      rw [HEq.out] at q1
                      exact (same_ints q1 q2).mono fun e w' ⟨e1, n, e2⟩ => ⟨e1, e2 ▸ Stand.drewN (twoT_res _ _ _ _ _ _) hu n⟩
                    obtain ⟨N, hN⟩ : ∃ N, S.ks.length = N := ⟨_, rfl⟩
                    have HLa : Hid (∀ u, TwoT t T (2 * j) s S c w u (L2 ++ (L1 ++ [(mb, O)])) → Calls Try.prog 11 #[.pointer (some ⟨t, 0, none⟩)] u fun e w' => e = .returned (.int .i64 (N : Int)) ∧ w' = u) := fun u hu => by
                      have := TwoT.lenL hu
                      rw [HEq.out, hN] at this
                      exact this
                    have HLb : Hid (∀ u, TwoT t T (2 * j) s S c w u (L2 ++ (L1 ++ [(mb, O)])) → Calls Try.prog 11 #[.pointer (some ⟨s, 0, none⟩)] u fun e w' => e = .returned (.int .i64 (N : Int)) ∧ w' = u) := fun u hu => by
                      have := TwoT.lenR hu
                      rw [hN] at this
                      exact this
                    clear hN HR HR2 HSc H7 H8 HEq
                    go_wp2_with fail
                    refine HSt.out.mono ?_
                    rintro e w9 ⟨rfl, H9⟩
                    go_wp2_with fail
                    refine (HSi.out _ H9.out).mono ?_
                    rintro e w10 ⟨rfl, H10⟩
                    go_wp2_with fail
                    refine (HLa.out _ H10.out).mono ?_
                    rintro e w11 ⟨rfl, rfl⟩
                    go_wp2_with fail
                    refine (HLb.out _ H10.out).mono ?_
                    rintro e w12 ⟨rfl, rfl⟩
                    go_wp2_with fail
                    go_ret
                    exact ⟨rfl, Stand.base H10.out⟩
              · obtain ⟨i, rfl⟩ : ∃ i, p = i + 1 := ⟨p - 1, by omega⟩
                have hii : ((i + 1 : Nat) : Int) - 1 = (i : Int) := by omega
                rw [hii]
                have hi0 : (0 : Int) ≤ (i : Int) := by omega
                have him : (i : Int) < (m : Int) := by omega
                obtain ⟨k, hk⟩ : ∃ k, K0[i]? = some k := ⟨_, List.getElem?_eq_getElem (by rw [HM.out.1]; omega)⟩
                obtain ⟨v, hv⟩ : ∃ v, getK k M = some v := by
                  have := (HA.out.mem k).2 (List.mem_of_getElem? (i := i) (by rw [List.getElem?_take_of_lt (by omega)]; exact hk))
                  cases e : getK k M with
                  | none => exact absurd e this
                  | some v => exact ⟨v, rfl⟩
                have HNm : Hid (Num v) := by
                  obtain ⟨a1, a2⟩ := HA.out.num k v hv
                  exact (by constructor <;> omega : Num v)
                have HKs : Hid (k.size ≤ maxLen) := HZK.out i k hk
                have HS : Hid (∀ u, TwoT t T (2 * j) s S c w u [(mb, O)] → ∃ b off, ak = some ⟨b, off, none⟩ ∧ u.cell? ⟨b, off + i, none⟩ = some (.string k) ∧ (Instr.lookup 58 (.map (some mb)) (.string k) false).run Try.prog u = .ok (.int .i64 v) u) := fun u hu => by
                  obtain ⟨b, off, e, h1⟩ := HKX.out u (Stand.base hu) i k hk
                  exact ⟨b, off, e, h1, look_run (HO.out.is (Stand.at hu (by simp))) HA.out.rise HKs.out hv⟩
                obtain ⟨b, off, rfl, t0, t1⟩ := HS.out wr HI.out
                obtain ⟨B', was, th, e0, hpp, hB'⟩ := HB3.out.put (allK_rise (TwoT.okR HI.out).ok) hk hv (by omega)
                have HB' : Hid (B3 K0 (O0.take 100) M j i B') := hB'
                have HP : Hid (∀ u, Below wr.heap.size wr u → Calls Try.prog 17 #[.pointer (some ⟨s, 0, none⟩), .string k, .int .i64 v] u fun e w' => e = .returned (.tuple #[.int .i64 was, .bool th, .int .i64 e0]) ∧ (∃ S', Hid (S'.ks = B' ∧ TwoT t T (2 * j) s S' (c + 2) w w' [(mb, O)])) ∧ w'.cell? ⟨b, off + i, none⟩ = some (.string k) ∧ (Instr.lookup 58 (.map (some mb)) (.string k) false).run Try.prog w' = .ok (.int .i64 v) w') := fun u hu => (TwoT.putR (Stand.below (twoT_res _ _ _ _ _ _) HI.out hu) hpp HNm.out (by omega)).mono fun e w' ⟨h1, S', h2⟩ => by
                  refine ⟨h1, ⟨S', h2⟩, ?_, look_run (HO.out.is (Stand.at h2.out.2 (by simp))) HA.out.rise HKs.out hv⟩
                  obtain ⟨b', off', e, h3⟩ := HKX.out w' (Stand.base h2.out.2) i k hk
                  cases e
                  exact h3
                have t2 : (Instr.lookup 58 (.map (some mb)) (.string k) false).run Try.prog wr.drew = .ok (.int .i64 v) wr.drew := look_run (u := wr.drew) (MapIs.heap (u' := wr.drew) (HO.out.is (Stand.at HI.out (by simp))) rfl) HA.out.rise HKs.out hv
                clear hk hv hpp hB' HS
                go_wp2_with fail
                go_region_held3 (fun u => u.cell? ⟨b, off + i, none⟩ = some (.string k) ∧ (Instr.lookup 58 (.map (some mb)) (.string k) false).run Try.prog u = .ok (.int .i64 v) u) (go_keep)
                  ((go_at_call 17; go_must (refine (HP.out _ (below_drewN wr _)).mono ?_; rintro e w5 ⟨rfl, ⟨S5, H5⟩, r0, r1⟩)))
                go_wp2_with fail
                go_roundw
                case rel => exact ⟨i, S5, c + 2, by omega, by omega, by go_num, by show B3 _ _ _ _ _ _; rw [H5.out.1]; exact HB'.out, H5.out.2⟩
                case measure => simp [intOf]
          · have f1 : ¬ (q : Int) < (l : Int) := by omega
            have HB3 : Hid (B3 K0 (O0.take 100) M j j S.ks) := HB.out.three hq j
            clear HB
            go_wp2_with fail
            go_loopw [11] (fun i wr => ∃ (p : Nat) (S : Tr) (c : Nat), p ≤ j ∧ c + 2 * p ≤ 200 + 2 * j ∧ i = .int .i64 ((p : Int) - 1) ∧ Hid (B3 K0 (O0.take 100) M j p S.ks) ∧ Hid (TwoT t T (2 * j) s S c w wr [(mb, O)])) (fun i _ => (intOf i + 1).toNat)
            case atStart => exact ⟨j, S, 2 * q, Nat.le_refl _, by omega, rfl, HB3, HI⟩
            case round =>
              clear HI HB3
              obtain ⟨p, S, c, hp, hc, rfl, HB3, HI⟩ := hrel
              by_cases hp0 : p = 0
              · subst hp0
                rw [show (((0 : Nat) : Int) - 1) = -1 from rfl]
                have HB4 : Hid (B4 (O0.take 100) M 0 S.ks) := HB3.out.four HA.out
                clear HB3
                go_wp2_with fail
                go_loopw [12] (fun i wr => ∃ (q : Nat) (S : Tr) (c : Nat), q ≤ 100 ∧ q ≤ l ∧ c ≤ 500 + 2 * q ∧ i = .int .i64 q ∧ Hid (B4 (O0.take 100) M q S.ks) ∧ Hid (TwoT t T (2 * j) s S c w wr [(mb, O)])) (fun i _ => 100 - (intOf i).toNat)
                case atStart => exact ⟨0, S, c, Nat.zero_le _, Nat.zero_le _, by omega, rfl, HB4, HI⟩
                case round =>
                  clear HI HB4 hc
                  obtain ⟨q, S, c, hq, hql, hc, rfl, HB4, HI⟩ := hrel
                  by_cases hlt : q < l ∧ q < 100
                  · obtain ⟨hlt, h100⟩ := hlt
                    have hqlI : (q : Int) < (l : Int) := by omega
                    have h100I : (q : Int) < 100 := by omega
                    obtain ⟨k, hk⟩ : ∃ k, O0[q]? = some k := ⟨_, List.getElem?_eq_getElem (by rw [HM.out.2]; omega)⟩
                    obtain ⟨b, off, rfl, t0⟩ := HOX.out wr (Stand.base HI.out) q k hk
                    have HKs : Hid (k.size ≤ maxLen) := HZO.out q k hk
                    have hkO := HOm.out q k hk h100
                    have HMi : Hid (MapIs wr mb j M) := HO.out.is (Stand.at HI.out (by simp))
                    cases hg : getK k M with
                    | some v =>
                      have HH : Hid (hasK k M = true) := hasK_true hg
                      have HB' : Hid (B4 (O0.take 100) M (q + 1) S.ks) := HB4.out.skip hkO (by rw [hg]; simp)
                      clear hg hkO hk
                      go_wp2_with (refine wpList_lookB rfl _ _ rfl rfl HMi.out rfl HKs.out HH.out ?_; intro z)
                      go_roundw
                      case rel => exact ⟨q + 1, S, c, by omega, by omega, by omega, by go_num, HB', HI⟩
                      case measure => simp [intOf]; omega
                    | none =>
                      have HH : Hid (hasK k M = false) := hasK_false hg
                      obtain ⟨B', was, e0, hp, hB'⟩ := HB4.out.take hkO hg
                      have HB' : Hid (B4 (O0.take 100) M (q + 1) B') := hB'
                      have HP : Hid (TakeK S.ks k B' was e0) := hp
                      clear hg hkO hk hp hB'
                      go_wp2_with (first
                        | (refine wpList_lookB rfl _ _ rfl rfl HMi.out rfl HKs.out HH.out ?_; intro z)
                        | (go_at_call 19; go_must (refine (TwoT.takeR HI.out HP.out (by omega)).mono ?_; rintro e w5 ⟨rfl, S5, H5⟩)))
                      go_roundw
                      case rel => exact ⟨q + 1, S5, c + 2, by omega, by omega, by omega, by go_num, by show B4 _ _ _ _; rw [H5.out.1]; exact HB'.out, H5.out.2⟩
                      case measure => simp [intOf]; omega
                  · have hqe : q = l := by omega
                    have f1 : ¬ (q : Int) < (l : Int) := by omega
                    have HEq : Hid (T.ks = S.ks) := HB4.out.done (by rw [List.length_take, HM.out.2]; omega) HA.out (allK_rise (TwoT.okL HI.out).ok) (allK_rise (TwoT.okR HI.out).ok)
                    go_wp2_with fail
                    refine (TwoT.scanL (most := 4096) rfl HI.out (by omega) (by omega)).mono ?_
                    rintro e w7 ⟨vk, vv, vs, told, seen, L1, rfl, HSc, HR, H7⟩
                    obtain rfl : told = T.ks := scanned_full (TwoT.okL H7.out) HSc.out
                    clear HI HSc
                    go_wp2_with fail
                    refine (TwoT.scanR (most := 4096) rfl H7.out (by omega) (by omega)).mono ?_
                    rintro e w8 ⟨xk, xv, xs, told, seen2, L2, rfl, HSc, HR2, H8⟩
                    obtain rfl : told = S.ks := scanned_full (TwoT.okR H8.out) HSc.out
                    have HB8 : Hid (Below w.heap.size w w8) := Stand.base H8.out
                    have HSt : Hid (Calls Try.prog 13 #[vk, xk] w8 fun e w' => e = .returned (.bool true) ∧ Hid (TwoT t T (2 * j) s S c w w' (L2 ++ (L1 ++ [(mb, O)])))) := by
                      have q1 := (HR.out w8 (fun p hp => Stand.heaps H8.out p (by simp [hp]))).1
                      have q2 := (HR2.out w8 (fun p hp => Stand.heaps H8.out p (by simp [hp]))).1
                      have := sameTexts_any _ _ _ _ _ q1 q2
                      rw [decide_eq_true (by rw [HEq.out])] at this
                      exact this.mono fun e w' ⟨e1, n, e2⟩ => ⟨e1, e2 ▸ Stand.drewN (twoT_res _ _ _ _ _ _) H8.out n⟩
                    have HSi : Hid (∀ u, TwoT t T (2 * j) s S c w u (L2 ++ (L1 ++ [(mb, O)])) → Calls Try.prog 14 #[vv, xv] u fun e w' => e = .returned (.bool true) ∧ Hid (TwoT t T (2 * j) s S c w w' (L2 ++ (L1 ++ [(mb, O)])))) := fun u hu => by
                      have q1 := (HR.out u (fun p hp => Stand.heaps hu p (by simp [hp]))).2.1
                      have q2 := (HR2.out u (fun p hp => Stand.heaps hu p (by simp [hp]))).2.1
                      rw [HEq.out] at q1
                      exact (same_ints q1 q2).mono fun e w' ⟨e1, n, e2⟩ => ⟨e1, e2 ▸ Stand.drewN (twoT_res _ _ _ _ _ _) hu n⟩
                    obtain ⟨N, hN⟩ : ∃ N, S.ks.length = N := ⟨_, rfl⟩
                    have HLa : Hid (∀ u, TwoT t T (2 * j) s S c w u (L2 ++ (L1 ++ [(mb, O)])) → Calls Try.prog 11 #[.pointer (some ⟨t, 0, none⟩)] u fun e w' => e = .returned (.int .i64 (N : Int)) ∧ w' = u) := fun u hu => by
                      have := TwoT.lenL hu
                      rw [HEq.out, hN] at this
                      exact this
                    have HLb : Hid (∀ u, TwoT t T (2 * j) s S c w u (L2 ++ (L1 ++ [(mb, O)])) → Calls Try.prog 11 #[.pointer (some ⟨s, 0, none⟩)] u fun e w' => e = .returned (.int .i64 (N : Int)) ∧ w' = u) := fun u hu => by
                      have := TwoT.lenR hu
                      rw [hN] at this
                      exact this
                    clear hN HR HR2 HSc H7 H8 HEq
                    go_wp2_with fail
                    refine HSt.out.mono ?_
                    rintro e w9 ⟨rfl, H9⟩
                    go_wp2_with fail
                    refine (HSi.out _ H9.out).mono ?_
                    rintro e w10 ⟨rfl, H10⟩
                    go_wp2_with fail
                    refine (HLa.out _ H10.out).mono ?_
                    rintro e w11 ⟨rfl, rfl⟩
                    go_wp2_with fail
                    refine (HLb.out _ H10.out).mono ?_
                    rintro e w12 ⟨rfl, rfl⟩
                    go_wp2_with fail
                    go_ret
                    exact ⟨rfl, Stand.base H10.out⟩
              · obtain ⟨i, rfl⟩ : ∃ i, p = i + 1 := ⟨p - 1, by omega⟩
                have hii : ((i + 1 : Nat) : Int) - 1 = (i : Int) := by omega
                rw [hii]
                have hi0 : (0 : Int) ≤ (i : Int) := by omega
                have him : (i : Int) < (m : Int) := by omega
                obtain ⟨k, hk⟩ : ∃ k, K0[i]? = some k := ⟨_, List.getElem?_eq_getElem (by rw [HM.out.1]; omega)⟩
                obtain ⟨v, hv⟩ : ∃ v, getK k M = some v := by
                  have := (HA.out.mem k).2 (List.mem_of_getElem? (i := i) (by rw [List.getElem?_take_of_lt (by omega)]; exact hk))
                  cases e : getK k M with
                  | none => exact absurd e this
                  | some v => exact ⟨v, rfl⟩
                have HNm : Hid (Num v) := by
                  obtain ⟨a1, a2⟩ := HA.out.num k v hv
                  exact (by constructor <;> omega : Num v)
                have HKs : Hid (k.size ≤ maxLen) := HZK.out i k hk
                have HS : Hid (∀ u, TwoT t T (2 * j) s S c w u [(mb, O)] → ∃ b off, ak = some ⟨b, off, none⟩ ∧ u.cell? ⟨b, off + i, none⟩ = some (.string k) ∧ (Instr.lookup 58 (.map (some mb)) (.string k) false).run Try.prog u = .ok (.int .i64 v) u) := fun u hu => by
                  obtain ⟨b, off, e, h1⟩ := HKX.out u (Stand.base hu) i k hk
                  exact ⟨b, off, e, h1, look_run (HO.out.is (Stand.at hu (by simp))) HA.out.rise HKs.out hv⟩
                obtain ⟨b, off, rfl, t0, t1⟩ := HS.out wr HI.out
                obtain ⟨B', was, th, e0, hpp, hB'⟩ := HB3.out.put (allK_rise (TwoT.okR HI.out).ok) hk hv (by omega)
                have HB' : Hid (B3 K0 (O0.take 100) M j i B') := hB'
                have HP : Hid (∀ u, Below wr.heap.size wr u → Calls Try.prog 17 #[.pointer (some ⟨s, 0, none⟩), .string k, .int .i64 v] u fun e w' => e = .returned (.tuple #[.int .i64 was, .bool th, .int .i64 e0]) ∧ (∃ S', Hid (S'.ks = B' ∧ TwoT t T (2 * j) s S' (c + 2) w w' [(mb, O)])) ∧ w'.cell? ⟨b, off + i, none⟩ = some (.string k) ∧ (Instr.lookup 58 (.map (some mb)) (.string k) false).run Try.prog w' = .ok (.int .i64 v) w') := fun u hu => (TwoT.putR (Stand.below (twoT_res _ _ _ _ _ _) HI.out hu) hpp HNm.out (by omega)).mono fun e w' ⟨h1, S', h2⟩ => by
                  refine ⟨h1, ⟨S', h2⟩, ?_, look_run (HO.out.is (Stand.at h2.out.2 (by simp))) HA.out.rise HKs.out hv⟩
                  obtain ⟨b', off', e, h3⟩ := HKX.out w' (Stand.base h2.out.2) i k hk
                  cases e
                  exact h3
                have t2 : (Instr.lookup 58 (.map (some mb)) (.string k) false).run Try.prog wr.drew = .ok (.int .i64 v) wr.drew := look_run (u := wr.drew) (MapIs.heap (u' := wr.drew) (HO.out.is (Stand.at HI.out (by simp))) rfl) HA.out.rise HKs.out hv
                clear hk hv hpp hB' HS
                go_wp2_with fail
                go_region_held3 (fun u => u.cell? ⟨b, off + i, none⟩ = some (.string k) ∧ (Instr.lookup 58 (.map (some mb)) (.string k) false).run Try.prog u = .ok (.int .i64 v) u) (go_keep)
                  ((go_at_call 17; go_must (refine (HP.out _ (below_drewN wr _)).mono ?_; rintro e w5 ⟨rfl, ⟨S5, H5⟩, r0, r1⟩)))
                go_wp2_with fail
                go_roundw
                case rel => exact ⟨i, S5, c + 2, by omega, by omega, by go_num, by show B3 _ _ _ _ _ _; rw [H5.out.1]; exact HB'.out, H5.out.2⟩
                case measure => simp [intOf]
end OrderL

end Go.Proofs.Ytoknebbkpkcomaa
