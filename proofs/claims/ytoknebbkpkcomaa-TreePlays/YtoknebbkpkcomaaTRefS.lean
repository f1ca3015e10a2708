/- The document's tree: Scan. -/
import Derived.Test.YtoknebbkpkcomaaTRefP
namespace Go.Proofs.Ytoknebbkpkcomaa
open Go.RowKit

def aheadB (to : ByteArray) (p : Kv) : Bool := decide (to = ⟨#[]⟩) || bl p.1 to

theorem filter_while {c : Kv → Bool} : ∀ {Z : List Kv}, Z.Pairwise (fun p q => c q = true → c p = true) → Z.filter c = Z.takeWhile c
  | [], _ => rfl
  | p :: r, h => by
    obtain ⟨h1, h2⟩ := List.pairwise_cons.1 h
    cases hp : c p with
    | true => rw [List.filter_cons_of_pos hp, List.takeWhile_cons_of_pos hp, filter_while h2]
    | false =>
      rw [List.filter_cons_of_neg (by rw [hp]; simp), List.takeWhile_cons_of_neg (by rw [hp]; simp), List.filter_eq_nil_iff]
      intro q hq hcq
      rw [h1 q hq hcq] at hp
      cases hp

theorem scan_at {K : List Kv} {f to : ByteArray} {i : Nat} (h : Rise K) (ha : At f K i) : scanK f to K = (K.drop i).takeWhile (aheadB to) := by
  have e1 : scanK f to K = (K.drop i).filter (aheadB to) := by
    have hs : K = K.take i ++ K.drop i := (List.take_append_drop i K).symm
    unfold scanK
    conv => lhs; rw [hs]
    rw [List.filter_append]
    have n1 : (K.take i).filter (inK f to) = [] := by
      rw [List.filter_eq_nil_iff]
      intro p hp
      obtain ⟨j, hj⟩ := List.getElem?_of_mem hp
      have hji : j < i := by have := (List.getElem?_eq_some_iff.1 hj).1; rw [List.length_take] at this; omega
      rw [List.getElem?_take_of_lt hji] at hj
      unfold inK
      rw [ha.ahead j p hji hj]
      simp
    rw [n1, List.nil_append]
    refine List.filter_congr fun p hp => ?_
    obtain ⟨j, hj⟩ := List.getElem?_of_mem hp
    rw [List.getElem?_drop] at hj
    have hb : bl p.1 f = false := by
      have hi : i < K.length := by have := (List.getElem?_eq_some_iff.1 hj).1; omega
      have h0 := ha.here _ (List.getElem?_eq_getElem hi)
      rcases Nat.eq_zero_or_pos j with e | e
      · subst e
        rw [Nat.add_zero, List.getElem?_eq_getElem hi] at hj
        cases hj
        exact h0
      · have h1 := rise_lt h (show i < i + j by omega) (List.getElem?_eq_getElem hi) hj
        cases hc : bl p.1 f with
        | false => rfl
        | true =>
          have := bl_tr h1 hc
          rw [h0] at this
          cases this
    unfold inK aheadB
    rw [hb]
    rfl
  rw [e1]
  refine filter_while ((h.drop (i := i)).imp fun hpq hq => ?_)
  unfold aheadB at hq ⊢
  rcases Bool.or_eq_true _ _ |>.mp hq with e | e
  · rw [e]; rfl
  · rw [bl_tr hpq e, Bool.or_true]

/-- the first ones that stand ahead, up to an end -/
theorem while_take {c : Kv → Bool} : ∀ {Z : List Kv} {j most : Nat}, (∀ p ∈ Z.take j, c p = true) → j ≤ most → (j = most ∨ Z.length ≤ j ∨ ∃ p, Z[j]? = some p ∧ c p = false) → Z.take j = (Z.takeWhile c).take most
  | [], j, most, _, _, _ => by simp
  | p :: r, 0, most, _, h2, h3 => by
    rcases h3 with h | h | ⟨q, hq, hc⟩
    · subst h; simp
    · simp at h
    · simp at hq
      subst hq
      rw [List.takeWhile_cons_of_neg (by rw [hc]; simp)]
      simp
  | p :: r, j + 1, 0, _, h2, _ => by omega
  | p :: r, j + 1, most + 1, h1, h2, h3 => by
    have hp : c p = true := h1 p (by simp)
    rw [List.takeWhile_cons_of_pos hp, List.take_succ_cons, List.take_succ_cons, while_take (Z := r) (j := j) (most := most) (fun q hq => h1 q (by simp [hq])) (by omega) ?_]
    rcases h3 with h | h | ⟨q, hq, hc⟩
    · exact Or.inl (by omega)
    · exact Or.inr (Or.inl (by simpa using h))
    · exact Or.inr (Or.inr ⟨q, by simpa using hq, hc⟩)

section
variable {w : World} {r : Nat} {K : List Kv} {F : Nat → Prop} {f to : ByteArray}

set_option maxRecDepth 100000 in
theorem uscan_bad {mm : Int} (hm : ¬ (1 ≤ mm ∧ mm ≤ 4096)) (w : World) : Calls Try.prog 28 #[.pointer (some ⟨r, 0, none⟩), .string f, .string to, .int .i64 mm] w fun x w' => x = .returned (.tuple #[.slice none 0 0, .slice none 0 0, .int .i64 1]) ∧ w' = w := by
  by_cases h1 : mm < 1
  · clear hm
    go_enter Try.func28, Try.ntmps28
    go_wp2_with fail
    go_ret3
    exact ⟨rfl, rfl⟩
  · have h2 : 4096 < mm := by omega
    clear hm
    go_enter Try.func28, Try.ntmps28
    go_wp2_with fail
    go_ret3
    exact ⟨rfl, rfl⟩

def UScanR (K : List Kv) (w : World) (f to : ByteArray) (most : Nat) (x : Ending) (w' : World) : Prop := ∃ vk vv, x = .returned (.tuple #[vk, vv, .int .i64 0]) ∧ Two2 w w' vk vv (scells (keysOf ((scanK f to K).take most))) (icells (valsOf ((scanK f to K).take most)))

set_option maxRecDepth 100000 in
set_option maxHeartbeats 4000000 in
theorem uscan_any (h : UI r K w F) {most : Nat} (h1 : 1 ≤ most) (h2 : most ≤ 4096) : Calls Try.prog 28 #[.pointer (some ⟨r, 0, none⟩), .string f, .string to, .int .i64 (most : Int)] w (UScanR K w f to most) := by
  have HPl : Hid (Calls Try.prog 42 #[.pointer (some ⟨r, 0, none⟩), .string f] w fun e w' => ∃ (i : Nat) (b : Bool), e = .returned (.tuple #[.int .i64 (i : Int), .bool b]) ∧ Hid (Plc K f i b) ∧ Hid (∃ n, w' = w.drewN n)) := uplace_any h f
  have HR : Hid (Rise K) := h.rise
  have hfew := h.few
  obtain ⟨aK, cK, aV, cV, x1, x2, y1, y2, hc, hx, -⟩ := h.shape
  obtain ⟨N, hN⟩ : ∃ N, K.length = N := ⟨_, rfl⟩
  have HN : Hid (K.length = N) := hN
  rw [hN] at hc x1 y1 hfew
  have HC : Hid (∀ u, Below w.heap.size w u → u.cell? ⟨r, 0, none⟩ = some (.slice aK N cK) ∧ u.cell? ⟨r, 1, none⟩ = some (.slice aV N cV)) := fun u hu => ⟨(hc u hu).2.1, (hc u hu).2.2.1⟩
  have HX : Hid (∀ u, Below w.heap.size w u → ∀ (i : Nat) k v, K[i]? = some (k, v) → ∃ b off b' off', aK = some ⟨b, off, none⟩ ∧ aV = some ⟨b', off', none⟩ ∧ u.cell? ⟨b, off + i, none⟩ = some (.string k) ∧ u.cell? ⟨b', off' + i, none⟩ = some (.int .i64 v)) := hx
  have n1 : ¬ (most : Int) < 1 := by omega
  have n2 : ¬ (4096 : Int) < (most : Int) := by omega
  unfold maxLen at x2 y2
  clear h hc hx hN
  go_enter Try.func28, Try.ntmps28
  go_wp2_with fail
  refine HPl.out.mono ?_
  rintro e w1 ⟨i0, bb, rfl, HPc, HW⟩
  have HB : Hid (Below w.heap.size w w1) := by
    obtain ⟨n, e⟩ := HW.out
    rw [e]
    exact below_drewN w n
  have HSc : Hid (scanK f to K = (K.drop i0).takeWhile (aheadB to)) := scan_at HR.out HPc.out.1
  have hi0 : i0 ≤ N := by have := HPc.out.1.le; have := HN.out; omega
  have HT0 : Hid (Two2 w w1 (.slice none 0 0) (.slice none 0 0) [] []) := Two2.nil HB.out
  have HZ : Hid (∀ (j : Nat) p, K[i0 + j]? = some p → (K.drop i0)[j]? = some p ∧ (K.drop i0).take (j + 1) = (K.drop i0).take j ++ [p]) := fun j p hp => by
    have : (K.drop i0)[j]? = some p := by rw [List.getElem?_drop]; exact hp
    exact ⟨this, by rw [List.take_add_one, this]; rfl⟩
  have HZl : Hid ((K.drop i0).length = N - i0) := by show _ = _; rw [List.length_drop, HN.out]
  obtain ⟨Z, hZ⟩ : ∃ Z, K.drop i0 = Z := ⟨_, rfl⟩
  rw [hZ] at HSc HZ HZl
  clear HPl HPc HW HB hZ HR
  go_wp2_with fail
  go_loopw [11, 12, 13] (fun s1 s2 iv wr => ∃ (j z : Nat) (A1 A2 : Option Addr) (d1 d2 : Nat), j ≤ most ∧ z ≤ N ∧ z = i0 + j ∧ iv = .int .i64 z ∧ s1 = .slice A1 j d1 ∧ s2 = .slice A2 j d2 ∧ Hid (∀ p ∈ Z.take j, aheadB to p = true) ∧ Hid (Two2 w wr (.slice A1 j d1) (.slice A2 j d2) (scells (keysOf (Z.take j))) (icells (valsOf (Z.take j))))) (fun _ _ iv _ => N - (intOf iv).toNat)
  case atStart => exact ⟨0, i0, none, none, 0, 0, Nat.zero_le _, hi0, rfl, rfl, rfl, rfl, (fun p hp => by simp at hp), HT0⟩
  case round =>
    clear HT0
    obtain ⟨j, z, A1, A2, d1, d2, hj, hz, hzj, rfl, rfl, rfl, HA, HT⟩ := hrel
    obtain ⟨c0, c1⟩ := HC.out wr HT.out.bel
    have HZj : Hid (z = i0 + j) := hzj
    by_cases hzN : z < N
    · have hzI : (z : Int) < (N : Int) := by omega
      by_cases hjm : j < most
      · have hjI : (j : Int) < (most : Int) := by omega
        obtain ⟨⟨k, v⟩, hkv⟩ : ∃ p, K[z]? = some p := ⟨_, List.getElem?_eq_getElem (by rw [HN.out]; exact hzN)⟩
        obtain ⟨b, off, b', off', rfl, rfl, g0, g1⟩ := HX.out wr HT.out.bel z k v hkv
        obtain ⟨q1, q2⟩ := HZ.out j (k, v) (hzj ▸ hkv)
        have HQ : Hid (Z[j]? = some (k, v) ∧ Z.take (j + 1) = Z.take j ++ [(k, v)]) := ⟨q1, q2⟩
        have HTa : Hid (Two2 w (wr.alloc (.cells #[.string k] 9 (0, 0))) (.slice A1 j d1) (.slice A2 j d2) (scells (keysOf (Z.take j))) (icells (valsOf (Z.take j)))) := HT.out.stay (below_al wr _)
        have HLj : Hid ((scells (keysOf (Z.take j))).length = j ∧ (icells (valsOf (Z.take j))).length = j) := by
          have : (Z.take j).length = j := by rw [List.length_take, HZl.out]; omega
          exact ⟨by rw [scells_length, keysOf_length, this], by rw [icells_length, valsOf_length, this]⟩
        have HKj : Hid (scells (keysOf (Z.take (j + 1))) = scells (keysOf (Z.take j)) ++ [.string k] ∧ icells (valsOf (Z.take (j + 1))) = icells (valsOf (Z.take j)) ++ [.int .i64 v]) := by
          rw [q2]
          exact ⟨by simp [scells, keysOf], by simp [icells, valsOf]⟩
        have HX2 : Hid (∀ u, Below w.heap.size w u → u.cell? ⟨r, 1, none⟩ = some (.slice (some ⟨b', off', none⟩) N cV) ∧ u.cell? ⟨b', off' + z, none⟩ = some (.int .i64 v)) := fun u hu => by
          obtain ⟨_, _, _, _, e1, e2, _, g⟩ := HX.out u hu z k v hkv
          cases e1
          cases e2
          exact ⟨(HC.out u hu).2, g⟩
        clear q1 q2 hkv hzj
        cases hc : aheadB to (k, v) with
        | true =>
          have HA' : Hid (∀ p ∈ Z.take (j + 1), aheadB to p = true) := fun p hp => by
            rw [HQ.out.2] at hp
            rcases List.mem_append.1 hp with hp | hp
            · exact HA.out p hp
            · rw [List.mem_singleton.1 hp]; exact hc
          by_cases hte : to = ⟨#[]⟩
          · have ht1 : to.toList = [] := by rw [hte, Go.ByteArray.toList_eq]
            have ht2 : to.toList.isEmpty = true := by rw [ht1]; rfl
            clear hc hte
            go_wp2_with (first
              | (refine wpList_app1 Try.underlying26 infoStr rfl (by decide) rfl _ _ rfl (fun u hu => by rw [List.mem_singleton.1 hu]; rfl) rfl HTa.out.rk rfl rfl (fun h => by cases h) one_new (by rw [HLj.out.1]) (by omega) HTa.out.bel.size ?_
                 intro A3 e3 u3 k1 k2 k3
                 have HT3 : Hid (Two2 w u3 (.slice A3 (j + 1) e3) (.slice A2 j d2) (scells (keysOf (Z.take j)) ++ [.string k]) (icells (valsOf (Z.take j)))) := HTa.out.key (by rw [List.length_append, HLj.out.1]; rfl) k1 k2 k3
                 obtain ⟨c3, g3⟩ := HX2.out u3 HT3.out.bel
                 have HTb : Hid (Two2 w (u3.alloc (.cells #[.int .i64 v] 3 (0, 0))) (.slice A3 (j + 1) e3) (.slice A2 j d2) (scells (keysOf (Z.take j)) ++ [.string k]) (icells (valsOf (Z.take j)))) := HT3.out.stay (below_al u3 _)
                 clear k1 k2 k3 HT3)
              | (refine wpList_app1 Try.underlying27 infoInt rfl (by decide) rfl _ _ rfl (fun u hu => by rw [List.mem_singleton.1 hu]; rfl) rfl HTb.out.rv rfl rfl (fun h => by cases h) one_new (by rw [HLj.out.2]) (by omega) HTb.out.bel.size ?_
                 intro A4 e4 u4 k1 k2 k3
                 have HT4 : Hid (Two2 w u4 (.slice A3 (j + 1) e3) (.slice A4 (j + 1) e4) (scells (keysOf (Z.take (j + 1)))) (icells (valsOf (Z.take (j + 1))))) := (by rw [HKj.out.1, HKj.out.2]; exact HTb.out.val (by rw [List.length_append, HLj.out.2]; rfl) k1 k2 k3)
                 clear k1 k2 k3))
            go_roundw
            case rel => exact ⟨j + 1, z + 1, A3, A4, e3, e4, by omega, by omega, by have := HZj.out; omega, by go_num, rfl, rfl, HA', HT4⟩
            case measure => simp [intOf]; omega
          · have ht1 : ¬ to.toList = [] := fun e => hte (toList_inj (by rw [e, Go.ByteArray.toList_eq]))
            have ht2 : to.toList.isEmpty = false := by cases hq : to.toList with | nil => exact absurd hq ht1 | cons _ _ => rfl
            have hb2 : Op.bytesLess k.toList to.toList = true := by
              unfold aheadB at hc
              rcases (Bool.or_eq_true _ _).mp hc with e | e
              · exact absurd (of_decide_eq_true e) hte
              · exact e
            clear hc hte
            go_wp2_with (first
              | (refine wpList_app1 Try.underlying26 infoStr rfl (by decide) rfl _ _ rfl (fun u hu => by rw [List.mem_singleton.1 hu]; rfl) rfl HTa.out.rk rfl rfl (fun h => by cases h) one_new (by rw [HLj.out.1]) (by omega) HTa.out.bel.size ?_
                 intro A3 e3 u3 k1 k2 k3
                 have HT3 : Hid (Two2 w u3 (.slice A3 (j + 1) e3) (.slice A2 j d2) (scells (keysOf (Z.take j)) ++ [.string k]) (icells (valsOf (Z.take j)))) := HTa.out.key (by rw [List.length_append, HLj.out.1]; rfl) k1 k2 k3
                 obtain ⟨c3, g3⟩ := HX2.out u3 HT3.out.bel
                 have HTb : Hid (Two2 w (u3.alloc (.cells #[.int .i64 v] 3 (0, 0))) (.slice A3 (j + 1) e3) (.slice A2 j d2) (scells (keysOf (Z.take j)) ++ [.string k]) (icells (valsOf (Z.take j)))) := HT3.out.stay (below_al u3 _)
                 clear k1 k2 k3 HT3)
              | (refine wpList_app1 Try.underlying27 infoInt rfl (by decide) rfl _ _ rfl (fun u hu => by rw [List.mem_singleton.1 hu]; rfl) rfl HTb.out.rv rfl rfl (fun h => by cases h) one_new (by rw [HLj.out.2]) (by omega) HTb.out.bel.size ?_
                 intro A4 e4 u4 k1 k2 k3
                 have HT4 : Hid (Two2 w u4 (.slice A3 (j + 1) e3) (.slice A4 (j + 1) e4) (scells (keysOf (Z.take (j + 1)))) (icells (valsOf (Z.take (j + 1))))) := (by rw [HKj.out.1, HKj.out.2]; exact HTb.out.val (by rw [List.length_append, HLj.out.2]; rfl) k1 k2 k3)
                 clear k1 k2 k3))
            go_roundw
            case rel => exact ⟨j + 1, z + 1, A3, A4, e3, e4, by omega, by omega, by have := HZj.out; omega, by go_num, rfl, rfl, HA', HT4⟩
            case measure => simp [intOf]; omega
        | false =>
          have HE : Hid (Z.take j = (scanK f to K).take most) := by
            show _ = _
            rw [HSc.out]
            exact while_take HA.out hj (Or.inr (Or.inr ⟨_, HQ.out.1, hc⟩))
          have ht0 : to ≠ ⟨#[]⟩ := fun e => by subst e; simp [aheadB] at hc
          have ht1 : ¬ to.toList = [] := fun e => ht0 (toList_inj (by rw [e, Go.ByteArray.toList_eq]))
          have ht2 : to.toList.isEmpty = false := by cases hq : to.toList with | nil => exact absurd hq ht1 | cons _ _ => rfl
          have hb2 : Op.bytesLess k.toList to.toList = false := by
            unfold aheadB at hc
            exact (Bool.or_eq_false_iff.1 hc).2
          clear hc ht0
          go_wp2_with fail
          go_ret3
          exact ⟨_, _, rfl, by rw [← HE.out]; exact HT.out⟩
      · have hjI : ¬ (j : Int) < (most : Int) := by omega
        have HE : Hid (Z.take j = (scanK f to K).take most) := by
          show _ = _
          rw [HSc.out]
          exact while_take HA.out hj (Or.inl (by omega))
        go_wp2_with fail
        go_ret3
        exact ⟨_, _, rfl, by rw [← HE.out]; exact HT.out⟩
    · have hzI : ¬ (z : Int) < (N : Int) := by omega
      have HE : Hid (Z.take j = (scanK f to K).take most) := by
        show _ = _
        rw [HSc.out]
        exact while_take HA.out hj (Or.inr (Or.inl (by rw [HZl.out]; omega)))
      go_wp2_with fail
      go_ret3
      exact ⟨_, _, rfl, by rw [← HE.out]; exact HT.out⟩
end

end Go.Proofs.Ytoknebbkpkcomaa
