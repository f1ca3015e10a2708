/- The law TreeMany: its walk. -/
import Derived.Test.YtoknebbkpkcomaaTManyP
import Derived.Test.YtoknebbkpkcomaaTGrown
import Derived.Test.YtoknebbkpkcomaaTStandO
namespace Go.Proofs.Ytoknebbkpkcomaa
open Go.RowKit

theorem rise_get {K : List Kv} (h : Rise K) {y : Nat} {a b : Kv} (ha : K[y]? = some a) (hb : K[y + 1]? = some b) : bl a.1 b.1 = true := by
  obtain ⟨h1, rfl⟩ := List.getElem?_eq_some_iff.1 ha
  obtain ⟨h2, rfl⟩ := List.getElem?_eq_some_iff.1 hb
  exact List.pairwise_iff_getElem.1 h y (y + 1) h1 h2 (by omega)
theorem HasT.mono {t a a' : Nat} {T : Tr} {w wr : World} {L : List (Nat × Obj)} (h : HasT t T a w wr L) (ha : a ≤ a') : HasT t T a' w wr L := by
  obtain ⟨F, h1, h2⟩ := h
  exact ⟨F, h1.mono ha, h2⟩

theorem take_dst {P : Program} {md : Region.Mode} {ops : Array Oper} {Q : Exit → Act → World → Prop} {S : World → Prop} {i dst : Nat} {oi : Oper} {v : Value} {fuel : Nat} {listed : Array Bool} {a : Act} {w : World} (hi : ops[i]? = some oi) (hd : oi.dst = some dst)
    (hs : Region.noSelect ops = true) (hf : Region.free md ops listed i = true) (hr : (Region.ready md ops listed).contains i = true)
    (hQ : ∀ c (a : Act) w, Q (.panic c) { tmps := a.tmps.setIfInBounds dst v, defers := a.defers } w → Q (.panic c) a w) (hy : YieldsIf P ops S oi v a) (hS : S w)
    (h : wpAnyH P md ops Q S fuel (listed.setIfInBounds i true) { tmps := a.tmps.setIfInBounds dst v, defers := a.defers } w) : wpAnyH P md ops Q S (fuel + 1) listed a w :=
  wpAnyH_take hi hs hf hr (fun c a w => by rw [hd]; exact hQ c a w) hy hS (by rw [hd]; exact h)

namespace ManyL

set_option linter.unusedSimpArgs false in
set_option maxRecDepth 100000 in
set_option maxHeartbeats 8000000 in
theorem walk (by0 take0 : Int) (w : World) : Calls Try.prog 4 #[.int .i64 by0, .int .i64 take0] w fun e w' => e = .returned (.bool true) ∧ Below w.heap.size w w' := by
  have HWk : Hid (∀ u : World, Calls Try.prog 15 #[] u fun e w' => e = .returned (.bool true) ∧ Below u.heap.size u w') := works_any
  have HNum : Hid (∀ (n : Nat) (u : World), n < 1000000 → Calls Try.prog 18 #[.int .i64 (n : Int)] u fun e w' => e = .returned (.string (num n)) ∧ Below u.heap.size u w') := fun n u hn => number_any n hn u
  have HNew : Hid (Calls Try.prog 9 #[] w fun e w' => ∃ t T, e = .returned (.pointer (some ⟨t, 0, none⟩)) ∧ Hid (T.ks = [] ∧ HasT t T 0 w w' [])) := hast_new (Below.refl _ _)
  obtain ⟨x, hx⟩ : ∃ x : Nat, by0 % 500 = x := ⟨(by0 % 500).toNat, by omega⟩
  have hx5 : x < 500 := by omega
  obtain ⟨y, hy⟩ : ∃ y : Nat, take0 % 3 = y := ⟨(take0 % 3).toNat, by omega⟩
  have hy3 : y < 3 := by omega
  have HA1 : Hid (∀ u, Calls Try.prog 16 #[.int .i64 by0, .int .i64 500] u fun e w' => e = .returned (.int .i64 (x : Int)) ∧ w' = u) := fun u => among_to by0 500 u (by omega) (by omega) hx
  have HA2 : Hid (∀ u, Calls Try.prog 16 #[.int .i64 take0, .int .i64 3] u fun e w' => e = .returned (.int .i64 (y : Int)) ∧ w' = u) := fun u => among_to take0 3 u (by omega) (by omega) hy
  clear hx hy
  go_enter Try.func4, Try.ntmps4
  go_wp2_with fail
  refine HNew.out.mono ?_
  rintro e w1 ⟨t, T0, rfl, H0⟩
  clear HNew
  go_wp2_with fail
  refine (HWk.out _).mono ?_
  rintro e w2 ⟨rfl, hb2⟩
  have H2 : Hid (HasT t T0 0 w w2 []) := Stand.below (treeI_res _ _ _) H0.out.2 hb2
  have HK0 : Hid (T0.ks = []) := H0.out.1
  clear H0 hb2
  go_wp2_with fail
  refine (HA1.out _).mono ?_
  rintro e w3 ⟨rfl, rfl⟩
  go_wp2_with fail
  refine (HA2.out _).mono ?_
  rintro e w4 ⟨rfl, rfl⟩
  clear HA1 HA2
  go_wp2_with fail
  obtain ⟨b, hb⟩ : ∃ b : Nat, b = 2 * x + 1 := ⟨_, rfl⟩
  have hbI : 2 * (x : Int) + 1 = (b : Int) := by omega
  obtain ⟨d, hd⟩ : ∃ d : Nat, d = 2 + y := ⟨_, rfl⟩
  have hdI : 2 + (y : Int) = (d : Int) := by omega
  obtain ⟨c, hc⟩ := inv_ex hx5
  rw [← hb] at hc
  have HC : Hid (b * c % 4096 = 1) := hc
  have hb1000 : b < 1000 := by omega
  have hd2 : 2 ≤ d := by omega
  have hd4 : d ≤ 4 := by omega
  rw [hbI, hdI]
  clear hbI hdI hb hd hc hx5 hy3
  go_loopw [6] (fun i wr => ∃ (j : Nat) (T : Tr), j ≤ 4096 ∧ i = .int .i64 j ∧ Hid (PutInv b j T.ks) ∧ Hid (HasT t T (2 * j) w wr [])) (fun i _ => 4096 - (intOf i).toNat)
  case atStart => exact ⟨0, T0, by omega, rfl, by show PutInv _ _ _; rw [HK0.out]; exact PutInv.zero b, H2⟩
  case round =>
    clear H2 HK0
    obtain ⟨j, T, hj, rfl, HP, HI⟩ := hrel
    by_cases hlt : j < 4096
    · have hlI : (j : Int) < 4096 := by omega
      obtain ⟨q, hq⟩ : ∃ q : Nat, q = j * b := ⟨_, rfl⟩
      have hqI : (j : Int) * (b : Int) = (q : Int) := by rw [hq]; simp
      have hq5 : q < 5000000 := by
        have := Nat.mul_le_mul (Nat.le_of_lt hlt) (Nat.le_of_lt hb1000)
        omega
      obtain ⟨k, hk⟩ : ∃ k : Nat, k = q % 4096 := ⟨_, rfl⟩
      have hkI : (q : Int) % 4096 = (k : Int) := by omega
      have hk4 : k < 4096 := by omega
      obtain ⟨K', hp, hP'⟩ := HP.out.put (allK_rise HI.out.ok.ok) HC.out hlt
      have HP' : Hid (PutInv b (j + 1) K') := hP'
      rw [← hq, ← hk] at hp
      have HPt : Hid (∀ u, Below wr.heap.size wr u → Calls Try.prog 17 #[.pointer (some ⟨t, 0, none⟩), .string (num k), .int .i64 (k : Int)] u fun e w' => e = .returned (.tuple #[.int .i64 0, .bool false, .int .i64 0]) ∧ ∃ T', Hid (T'.ks = K' ∧ Moves T T' ∧ HasT t T' (2 * j + 2) w w' [])) := fun u hu => HasT.put (Stand.below (treeI_res _ _ _) HI.out hu) hp (by constructor <;> omega) (by omega)
      clear hP' hp hq hk
      go_wp2_with fail
      refine (HNum.out k wr (by omega)).mono ?_
      rintro e w5 ⟨rfl, hb5⟩
      have HB5 : Hid (Below wr.heap.size wr w5) := hb5
      clear hb5
      go_wp2_with fail
      refine (HPt.out _ HB5.out).mono ?_
      rintro e w6 ⟨rfl, T6, H6⟩
      clear HPt HB5
      go_wp2_with fail
      go_roundw
      case rel => exact ⟨j + 1, T6, by omega, by go_num, by show PutInv _ _ _; rw [H6.out.1]; exact HP'.out, H6.out.2.2⟩
      case measure => simp [intOf]; omega
    · obtain rfl : j = 4096 := by omega
      have HPx : Hid (Calls Try.prog 17 #[.pointer (some ⟨t, 0, none⟩), .string ⟨#[120]⟩, .int .i64 0] wr fun e w' => e = .returned (.tuple #[.int .i64 0, .bool false, .int .i64 2]) ∧ ∃ T', Hid (T'.ks = T.ks ∧ Moves T T' ∧ HasT t T' (2 * 4096 + 2) w w' [])) := HasT.put HI.out HP.out.x (by decide) (by omega)
      go_wp2_with fail
      refine HPx.out.mono ?_
      rintro e w5 ⟨rfl, T5, H5⟩
      have HT5 : Hid (TakeInv d 0 0 T5.ks) := by show TakeInv _ _ _ _; rw [H5.out.1]; exact HP.out.take HC.out d
      have HLn : Hid (Calls Try.prog 11 #[.pointer (some ⟨t, 0, none⟩)] w5 fun e w' => e = .returned (.int .i64 4096) ∧ w' = w5) := by
        have := H5.out.2.2.len
        rw [show T5.ks.length = 4096 by rw [H5.out.1]; exact HP.out.len] at this
        exact this
      have HI5 : Hid (HasT t T5 8194 w w5 []) := H5.out.2.2
      clear HPx H5 HP HI
      go_wp2_with (go_at_call 11; go_must (refine HLn.out.mono ?_; rintro e w6 ⟨rfl, rfl⟩))
      clear HLn
      have hd0 : ((d : Int) == 0) = false := by rw [beq_eq_false_iff_ne]; omega
      have hd1 : ¬ (d : Int) = 0 := by omega
      have hdN : ¬ d = 0 := by omega
      go_loopw [14, 15] (fun lv iv wr => ∃ (i left : Nat) (T : Tr), i ≤ 4096 ∧ iv = .int .i64 i ∧ lv = .int .i64 left ∧ left ≤ i ∧ Hid (TakeInv d i left T.ks) ∧ Hid (HasT t T (8194 + 2 * i) w wr [])) (fun _ iv _ => 4096 - (intOf iv).toNat)
      case atStart => exact ⟨0, 0, T5, by omega, rfl, rfl, by omega, HT5, HI5⟩
      case round =>
        clear HT5 HI5
        obtain ⟨i, left, T, hi, rfl, rfl, hle, HP, HI⟩ := hrel
        by_cases hlt : i < 4096
        · have hlI : (i : Int) < 4096 := by omega
          obtain ⟨r, hr⟩ : ∃ r : Nat, r = i % d := ⟨_, rfl⟩
          have hrI : (i : Int) % (d : Int) = (r : Int) := by rw [hr]; simp
          have hrT : (i : Int).tmod (d : Int) = (r : Int) := by rw [hr, Int.tmod_eq_emod_of_nonneg (by omega)]; simp
          by_cases hr0 : r = 0
          · subst hr0
            obtain ⟨K', hp, hP'⟩ := HP.out.drop (allK_rise HI.out.ok.ok) hlt hr.symm
            have HP' : Hid (TakeInv d (i + 1) left K') := hP'
            have HTk : Hid (∀ u, Below wr.heap.size wr u → Calls Try.prog 19 #[.pointer (some ⟨t, 0, none⟩), .string (num i)] u fun e w' => e = .returned (.tuple #[.int .i64 (i : Int), .int .i64 0]) ∧ ∃ T', Hid (T'.ks = K' ∧ Moves T T' ∧ HasT t T' (8194 + 2 * i + 2) w w' [])) := fun u hu => HasT.take (Stand.below (treeI_res _ _ _) HI.out hu) hp (by omega)
            clear hP' hp hr
            go_wp2_with fail
            refine (HNum.out i wr (by omega)).mono ?_
            rintro e w7 ⟨rfl, hb7⟩
            have HB7 : Hid (Below wr.heap.size wr w7) := hb7
            clear hb7
            go_wp2_with fail
            refine (HTk.out _ HB7.out).mono ?_
            rintro e w8 ⟨rfl, T8, H8⟩
            clear HTk HB7
            go_wp2_with fail
            go_roundw
            case rel => exact ⟨i + 1, left, T8, by omega, by go_num, rfl, by omega, by show TakeInv _ _ _ _; rw [H8.out.1]; exact HP'.out, H8.out.2.2⟩
            case measure => simp [intOf]; omega
          · have HP' : Hid (TakeInv d (i + 1) (left + 1) T.ks) := HP.out.skip (by rw [← hr]; exact hr0)
            have hrn : ¬ (r : Int) = 0 := by omega
            clear hr
            go_wp2_with fail
            go_roundw
            case rel => exact ⟨i + 1, left + 1, T, by omega, by go_num, by go_num, by omega, HP', HI.out.mono (by omega)⟩
            case measure => simp [intOf]; omega
        · obtain rfl : i = 4096 := by omega
          have HLen : Hid (T.ks.length = left) := by have := HP.out.len; show _ = _; omega
          have HTd : Hid (∀ told seen, Scanned T.ls ⟨#[]⟩ ⟨#[]⟩ 4096 told seen → told = T.ks) := fun told seen hs => by
            rw [hs.eq]
            have e : scanK ⟨#[]⟩ ⟨#[]⟩ (allK T.ls) = T.ks := scan_whole _
            rw [e]
            exact List.take_of_length_le HI.out.ok.few
          go_wp2_with fail
          refine (HI.out.scanO (most := 4096) rfl (by omega) (by omega)).mono ?_
          rintro e w7 ⟨vk, vv, vs, told, seen, L', rfl, HSc, HR, H7⟩
          obtain rfl := HTd.out told seen HSc.out
          obtain ⟨a1, c1, hvk⟩ := own_shape (HR.out w7 (fun p hp => H7.out.heaps p (by simp [hp]))).1
          obtain ⟨a2, c2, hvv⟩ := own_shape (HR.out w7 (fun p hp => H7.out.heaps p (by simp [hp]))).2
          rw [HLen.out] at hvk hvv
          subst hvk hvv
          have HCk : Hid (∀ u : World, (∀ p ∈ L', u.heap[p.1]? = some p.2) → ∀ (z : Nat) kk vz, T.ks[z]? = some (kk, vz) → ∃ b off b' off', a1 = some ⟨b, off, none⟩ ∧ a2 = some ⟨b', off', none⟩ ∧ u.cell? ⟨b, off + z, none⟩ = some (.string kk) ∧ u.cell? ⟨b', off' + z, none⟩ = some (.int .i64 vz)) := fun u hu z kk vz hz => by
            have q1 := row_strs (keysOf_length T.ks).symm (HR.out u hu).1
            have q2 := row_ints (valsOf_length T.ks).symm (HR.out u hu).2
            rw [← HLen.out, ← keysOf_length] at q1
            rw [← HLen.out, ← valsOf_length] at q2
            have hne : T.ks ≠ [] := fun e => by rw [e] at hz; simp at hz
            obtain ⟨b, off, e1, h1⟩ := strs_cell q1 (by simpa [keysOf] using hne)
            obtain ⟨b', off', e2, h2⟩ := ints_cell q2 (by simpa [valsOf] using hne)
            exact ⟨b, off, b', off', e1, e2, h1 z kk (by simp [keysOf, hz]), h2 z vz (by simp [valsOf, hz])⟩
          have HLn : Hid (Calls Try.prog 11 #[.pointer (some ⟨t, 0, none⟩)] w7 fun e w' => e = .returned (.int .i64 (left : Int)) ∧ w' = w7) := by
            have := H7.out.len
            rw [HLen.out] at this
            exact this
          have hl4 : left ≤ 4096 := hle
          clear HR HSc HTd HI
          go_wp2_with (go_at_call 11; go_must (refine HLn.out.mono ?_; rintro e w8 ⟨rfl, rfl⟩))
          clear HLn
          go_loopw [22] (fun iv wr => ∃ z : Nat, z ≤ left ∧ iv = .int .i64 z ∧ Hid (HasT t T (8194 + 2 * 4096) w wr (L' ++ []))) (fun iv _ => left - (intOf iv).toNat)
          case atStart => exact ⟨0, Nat.zero_le _, rfl, H7⟩
          case round =>
            clear H7
            obtain ⟨z, hz, rfl, HQ⟩ := hrel
            by_cases hzl : z < left
            · have hzI : (z : Int) < (left : Int) := by omega
              by_cases hz0 : z = 0
              · subst hz0
                rw [show ((0 : Nat) : Int) = (0 : Int) from rfl] at hzI ⊢
                obtain ⟨⟨kk, vz⟩, hkv⟩ : ∃ p, T.ks[0]? = some p := ⟨_, List.getElem?_eq_getElem (by rw [HLen.out]; exact hzl)⟩
                obtain ⟨kz, hk1, hk2, hk3⟩ := HP.out.all _ (List.mem_of_getElem? hkv)
                obtain ⟨rfl, rfl⟩ : kk = num kz ∧ vz = (kz : Int) := by injection hk2 with h1 h2; exact ⟨h1, h2⟩
                obtain ⟨r, hr⟩ : ∃ r : Nat, r = kz % d := ⟨_, rfl⟩
                have hrI : (kz : Int) % (d : Int) = (r : Int) := by rw [hr]; simp
                have hrT : (kz : Int).tmod (d : Int) = (r : Int) := by rw [hr, Int.tmod_eq_emod_of_nonneg (by omega)]; simp
                have hrn : ¬ (r : Int) = 0 := fun e => hk3 ⟨hk1, by omega⟩
                obtain ⟨kk, hkk⟩ : ∃ kk, num kz = kk := ⟨_, rfl⟩
                have HN2 : Hid (∀ u : World, Calls Try.prog 18 #[.int .i64 (kz : Int)] u fun e w' => e = .returned (.string kk) ∧ Below u.heap.size u w') := fun u => by rw [← hkk]; exact HNum.out kz u (by omega)
                rw [hkk] at hkv
                obtain ⟨b1, o1, b2, o2, rfl, rfl, t1, t2⟩ := HCk.out wr (fun p hp => HQ.out.heaps p (by simp [hp])) 0 _ _ hkv
                have HT : Hid (∀ u, Below wr.heap.size wr u → u.cell? ⟨b1, o1, none⟩ = some (.string kk) ∧ u.cell? ⟨b2, o2, none⟩ = some (.int .i64 (kz : Int))) := fun u hu => by
                  obtain ⟨_, _, _, _, e1, e2, q1, q2⟩ := HCk.out u (fun p hp => (Stand.below (treeI_res _ _ _) HQ.out hu).heaps p (by simp [hp])) 0 _ _ hkv
                  cases e1
                  cases e2
                  exact ⟨q1, q2⟩
                obtain ⟨t1, t2⟩ := HT.out wr (Below.refl _ _)
                clear hkv hk1 hk2 hk3 hr hkk
                go_wp2_with fail
                refine wp_region_held_drew (S := fun u => u.cell? ⟨b1, o1, none⟩ = some (.string kk) ∧ u.cell? ⟨b2, o2, none⟩ = some (.int .i64 (kz : Int))) (by kernel_rfl) ⟨t1, t2⟩ (fun hHeld => ?_)
                refine take_dst (i := 0) (dst := 128) (v := ?v0) rfl rfl (by kernel_rfl) (by kernel_rfl) (by kernel_rfl) (fun _ _ _ h => h) (Or.inl ⟨by rfl, ?hy0⟩) (by assumption) ?rest0
                case hy0 => intro w hSw; (try dsimp only at hSw); go_simp; try with_reducible rfl
                try simp only [List.setIfInBounds_toArray, List.set_cons_zero, List.set_cons_succ]
                refine take_dst (i := 1) (dst := 129) (v := ?v1) rfl rfl (by kernel_rfl) (by kernel_rfl) (by kernel_rfl) (fun _ _ _ h => h) (Or.inl ⟨by rfl, ?hy1⟩) (by assumption) ?rest1
                case hy1 => intro w hSw; (try dsimp only at hSw); go_simp; try with_reducible rfl
                try simp only [List.setIfInBounds_toArray, List.set_cons_zero, List.set_cons_succ]
                refine take_dst (i := 2) (dst := 130) (v := ?v2) rfl rfl (by kernel_rfl) (by kernel_rfl) (by kernel_rfl) (fun _ _ _ h => h) (Or.inl ⟨by rfl, ?hy2⟩) (by assumption) ?rest2
                case hy2 => intro w hSw; (try dsimp only at hSw); go_simp; try with_reducible rfl
                try simp only [List.setIfInBounds_toArray, List.set_cons_zero, List.set_cons_succ]
                refine take_dst (i := 3) (dst := 131) (v := ?v3) rfl rfl (by kernel_rfl) (by kernel_rfl) (by kernel_rfl) (fun _ _ _ h => h) (Or.inl ⟨by rfl, ?hy3⟩) (by assumption) ?rest3
                case hy3 => intro w hSw; (try dsimp only at hSw); go_simp; try with_reducible rfl
                try simp only [List.setIfInBounds_toArray, List.set_cons_zero, List.set_cons_succ]
                refine take_dst (i := 5) (dst := 133) (v := ?v5) rfl rfl (by kernel_rfl) (by kernel_rfl) (by kernel_rfl) (fun _ _ _ h => h) (Or.inl ⟨by rfl, ?hy5⟩) (by assumption) ?rest5
                case hy5 => intro w hSw; (try dsimp only at hSw); go_simp; try with_reducible rfl
                try simp only [List.setIfInBounds_toArray, List.set_cons_zero, List.set_cons_succ]
                refine take_dst (i := 6) (dst := 134) (v := ?v6) rfl rfl (by kernel_rfl) (by kernel_rfl) (by kernel_rfl) (fun _ _ _ h => h) (Or.inl ⟨by rfl, ?hy6⟩) (by assumption) ?rest6
                case hy6 => intro w hSw; (try dsimp only at hSw); go_simp; try with_reducible rfl
                try simp only [List.setIfInBounds_toArray, List.set_cons_zero, List.set_cons_succ]
                refine take_dst (i := 7) (dst := 135) (v := ?v7) rfl rfl (by kernel_rfl) (by kernel_rfl) (by kernel_rfl) (fun _ _ _ h => h) (Or.inl ⟨by rfl, ?hy7⟩) (by assumption) ?rest7
                case hy7 => intro w hSw; (try dsimp only at hSw); go_simp; try with_reducible rfl
                try simp only [List.setIfInBounds_toArray, List.set_cons_zero, List.set_cons_succ]
                refine take_dst (i := 8) (dst := 136) (v := ?v8) rfl rfl (by kernel_rfl) (by kernel_rfl) (by kernel_rfl) (fun _ _ _ h => h) (Or.inl ⟨by rfl, ?hy8⟩) (by assumption) ?rest8
                case hy8 => intro w hSw; (try dsimp only at hSw); go_simp; try with_reducible rfl
                try simp only [List.setIfInBounds_toArray, List.set_cons_zero, List.set_cons_succ]
                refine wpAnyH_ready (rs := [4]) (by kernel_rfl) (by simp) ?_
                refine AllReadyH.cons rfl (fun K9 hK9 => ?_) AllReadyH.nil
                rw [if_pos (by rfl)]
                go_simp
                refine (HN2.out _).mono ?_
                rintro e w9 ⟨rfl, hb9⟩
                have HB9 : Hid (Below wr.heap.size wr w9) := (below_drewN wr 1).trans hb9
                obtain ⟨r0, r1⟩ := HT.out w9 HB9.out
                clear hb9
                dsimp only
                refine hK9.out _ _ ⟨r0, r1⟩ (fun hS9 => ?_)
                clear hK9
                refine take_dst (i := 9) (dst := 137) (v := ?v9) rfl rfl (by kernel_rfl) (by kernel_rfl) (by kernel_rfl) (fun _ _ _ h => h) (Or.inl ⟨by rfl, ?hy9⟩) (by assumption) ?rest9
                case hy9 => intro w hSw; (try dsimp only at hSw); go_simp; try with_reducible rfl
                try simp only [List.setIfInBounds_toArray, List.set_cons_zero, List.set_cons_succ]
                refine take_dst (i := 10) (dst := 138) (v := ?v10) rfl rfl (by kernel_rfl) (by kernel_rfl) (by kernel_rfl) (fun _ _ _ h => h) (Or.inl ⟨by rfl, ?hy10⟩) (by assumption) ?rest10
                case hy10 => intro w hSw; (try dsimp only at hSw); go_simp; try with_reducible rfl
                try simp only [List.setIfInBounds_toArray, List.set_cons_zero, List.set_cons_succ]
                refine take_dst (i := 11) (dst := 139) (v := ?v11) rfl rfl (by kernel_rfl) (by kernel_rfl) (by kernel_rfl) (fun _ _ _ h => h) (Or.inl ⟨by rfl, ?hy11⟩) (by assumption) ?rest11
                case hy11 => intro w hSw; (try dsimp only at hSw); go_simp; try with_reducible rfl
                try simp only [List.setIfInBounds_toArray, List.set_cons_zero, List.set_cons_succ]
                refine take_dst (i := 12) (dst := 140) (v := ?v12) rfl rfl (by kernel_rfl) (by kernel_rfl) (by kernel_rfl) (fun _ _ _ h => h) (Or.inl ⟨by rfl, ?hy12⟩) (by assumption) ?rest12
                case hy12 => intro w hSw; (try dsimp only at hSw); go_simp; try with_reducible rfl
                try simp only [List.setIfInBounds_toArray, List.set_cons_zero, List.set_cons_succ]
                refine take_dst (i := 13) (dst := 141) (v := ?v13) rfl rfl (by kernel_rfl) (by kernel_rfl) (by kernel_rfl) (fun _ _ _ h => h) (Or.inl ⟨by rfl, ?hy13⟩) (by assumption) ?rest13
                case hy13 => intro w hSw; (try dsimp only at hSw); go_simp; try with_reducible rfl
                try simp only [List.setIfInBounds_toArray, List.set_cons_zero, List.set_cons_succ]
                refine take_dst (i := 14) (dst := 142) (v := undef) rfl rfl (by kernel_rfl) (by kernel_rfl) (by kernel_rfl) (fun _ _ _ h => h) (Or.inr ⟨by rfl, rfl⟩) (by assumption) ?rest14
                try simp only [List.setIfInBounds_toArray, List.set_cons_zero, List.set_cons_succ]
                refine take_dst (i := 15) (dst := 143) (v := undef) rfl rfl (by kernel_rfl) (by kernel_rfl) (by kernel_rfl) (fun _ _ _ h => h) (Or.inr ⟨by rfl, rfl⟩) (by assumption) ?rest15
                try simp only [List.setIfInBounds_toArray, List.set_cons_zero, List.set_cons_succ]
                refine take_dst (i := 16) (dst := 144) (v := undef) rfl rfl (by kernel_rfl) (by kernel_rfl) (by kernel_rfl) (fun _ _ _ h => h) (Or.inr ⟨by rfl, rfl⟩) (by assumption) ?rest16
                try simp only [List.setIfInBounds_toArray, List.set_cons_zero, List.set_cons_succ]
                refine take_dst (i := 17) (dst := 145) (v := undef) rfl rfl (by kernel_rfl) (by kernel_rfl) (by kernel_rfl) (fun _ _ _ h => h) (Or.inr ⟨by rfl, rfl⟩) (by assumption) ?rest17
                try simp only [List.setIfInBounds_toArray, List.set_cons_zero, List.set_cons_succ]
                refine take_dst (i := 18) (dst := 146) (v := undef) rfl rfl (by kernel_rfl) (by kernel_rfl) (by kernel_rfl) (fun _ _ _ h => h) (Or.inr ⟨by rfl, rfl⟩) (by assumption) ?rest18
                try simp only [List.setIfInBounds_toArray, List.set_cons_zero, List.set_cons_succ]
                refine take_dst (i := 19) (dst := 147) (v := undef) rfl rfl (by kernel_rfl) (by kernel_rfl) (by kernel_rfl) (fun _ _ _ h => h) (Or.inr ⟨by rfl, rfl⟩) (by assumption) ?rest19
                try simp only [List.setIfInBounds_toArray, List.set_cons_zero, List.set_cons_succ]
                refine take_dst (i := 20) (dst := 148) (v := undef) rfl rfl (by kernel_rfl) (by kernel_rfl) (by kernel_rfl) (fun _ _ _ h => h) (Or.inr ⟨by rfl, rfl⟩) (by assumption) ?rest20
                try simp only [List.setIfInBounds_toArray, List.set_cons_zero, List.set_cons_succ]
                refine take_dst (i := 21) (dst := 149) (v := undef) rfl rfl (by kernel_rfl) (by kernel_rfl) (by kernel_rfl) (fun _ _ _ h => h) (Or.inr ⟨by rfl, rfl⟩) (by assumption) ?rest21
                try simp only [List.setIfInBounds_toArray, List.set_cons_zero, List.set_cons_succ]
                refine take_dst (i := 22) (dst := 150) (v := undef) rfl rfl (by kernel_rfl) (by kernel_rfl) (by kernel_rfl) (fun _ _ _ h => h) (Or.inr ⟨by rfl, rfl⟩) (by assumption) ?rest22
                try simp only [List.setIfInBounds_toArray, List.set_cons_zero, List.set_cons_succ]
                refine take_dst (i := 23) (dst := 151) (v := undef) rfl rfl (by kernel_rfl) (by kernel_rfl) (by kernel_rfl) (fun _ _ _ h => h) (Or.inr ⟨by rfl, rfl⟩) (by assumption) ?rest23
                try simp only [List.setIfInBounds_toArray, List.set_cons_zero, List.set_cons_succ]
                refine take_dst (i := 24) (dst := 152) (v := ?v24) rfl rfl (by kernel_rfl) (by kernel_rfl) (by kernel_rfl) (fun _ _ _ h => h) (Or.inl ⟨by rfl, ?hy24⟩) (by assumption) ?rest24
                case hy24 => intro w hSw; (try dsimp only at hSw); go_simp; try with_reducible rfl
                try simp only [List.setIfInBounds_toArray, List.set_cons_zero, List.set_cons_succ]
                refine take_dst (i := 25) (dst := 153) (v := ?v25) rfl rfl (by kernel_rfl) (by kernel_rfl) (by kernel_rfl) (fun _ _ _ h => h) (Or.inl ⟨by rfl, ?hy25⟩) (by assumption) ?rest25
                case hy25 => intro w hSw; (try dsimp only at hSw); go_simp; try with_reducible rfl
                try simp only [List.setIfInBounds_toArray, List.set_cons_zero, List.set_cons_succ]
                refine take_dst (i := 26) (dst := 154) (v := ?v26) rfl rfl (by kernel_rfl) (by kernel_rfl) (by kernel_rfl) (fun _ _ _ h => h) (Or.inl ⟨by rfl, ?hy26⟩) (by assumption) ?rest26
                case hy26 => intro w hSw; (try dsimp only at hSw); go_simp; try with_reducible rfl
                try simp only [List.setIfInBounds_toArray, List.set_cons_zero, List.set_cons_succ]
                refine take_dst (i := 27) (dst := 155) (v := ?v27) rfl rfl (by kernel_rfl) (by kernel_rfl) (by kernel_rfl) (fun _ _ _ h => h) (Or.inl ⟨by rfl, ?hy27⟩) (by assumption) ?rest27
                case hy27 => intro w hSw; (try dsimp only at hSw); go_simp; try with_reducible rfl
                try simp only [List.setIfInBounds_toArray, List.set_cons_zero, List.set_cons_succ]
                refine take_dst (i := 28) (dst := 156) (v := ?v28) rfl rfl (by kernel_rfl) (by kernel_rfl) (by kernel_rfl) (fun _ _ _ h => h) (Or.inl ⟨by rfl, ?hy28⟩) (by assumption) ?rest28
                case hy28 => intro w hSw; (try dsimp only at hSw); go_simp; try with_reducible rfl
                try simp only [List.setIfInBounds_toArray, List.set_cons_zero, List.set_cons_succ]
                refine take_dst (i := 29) (dst := 157) (v := ?v29) rfl rfl (by kernel_rfl) (by kernel_rfl) (by kernel_rfl) (fun _ _ _ h => h) (Or.inl ⟨by rfl, ?hy29⟩) (by assumption) ?rest29
                case hy29 => intro w hSw; (try dsimp only at hSw); go_simp; try with_reducible rfl
                try simp only [List.setIfInBounds_toArray, List.set_cons_zero, List.set_cons_succ]
                refine take_dst (i := 30) (dst := 158) (v := ?v30) rfl rfl (by kernel_rfl) (by kernel_rfl) (by kernel_rfl) (fun _ _ _ h => h) (Or.inl ⟨by rfl, ?hy30⟩) (by assumption) ?rest30
                case hy30 => intro w hSw; (try dsimp only at hSw); go_simp; try with_reducible rfl
                try simp only [List.setIfInBounds_toArray, List.set_cons_zero, List.set_cons_succ]
                refine take_dst (i := 31) (dst := 159) (v := ?v31) rfl rfl (by kernel_rfl) (by kernel_rfl) (by kernel_rfl) (fun _ _ _ h => h) (Or.inl ⟨by rfl, ?hy31⟩) (by assumption) ?rest31
                case hy31 => intro w hSw; (try dsimp only at hSw); go_simp; try with_reducible rfl
                try simp only [List.setIfInBounds_toArray, List.set_cons_zero, List.set_cons_succ]
                refine take_dst (i := 32) (dst := 160) (v := ?v32) rfl rfl (by kernel_rfl) (by kernel_rfl) (by kernel_rfl) (fun _ _ _ h => h) (Or.inl ⟨by rfl, ?hy32⟩) (by assumption) ?rest32
                case hy32 => intro w hSw; (try dsimp only at hSw); go_simp; try with_reducible rfl
                try simp only [List.setIfInBounds_toArray, List.set_cons_zero, List.set_cons_succ]
                refine take_dst (i := 33) (dst := 161) (v := ?v33) rfl rfl (by kernel_rfl) (by kernel_rfl) (by kernel_rfl) (fun _ _ _ h => h) (Or.inl ⟨by rfl, ?hy33⟩) (by assumption) ?rest33
                case hy33 => intro w hSw; (try dsimp only at hSw); go_simp; try with_reducible rfl
                try simp only [List.setIfInBounds_toArray, List.set_cons_zero, List.set_cons_succ]
                refine take_dst (i := 34) (dst := 162) (v := ?v34) rfl rfl (by kernel_rfl) (by kernel_rfl) (by kernel_rfl) (fun _ _ _ h => h) (Or.inl ⟨by rfl, ?hy34⟩) (by assumption) ?rest34
                case hy34 => intro w hSw; (try dsimp only at hSw); go_simp; try with_reducible rfl
                try simp only [List.setIfInBounds_toArray, List.set_cons_zero, List.set_cons_succ]
                refine wpAnyH_done (by kernel_rfl) ?_ _
                go_wp2_with fail
                go_roundw
                case rel => exact ⟨0 + 1, by omega, by go_num, Stand.below (treeI_res _ _ _) HQ.out (by first | exact HB9.out | exact HB9.out.trans (below_drewN w9 _))⟩
                case measure => simp [intOf]; omega
              · obtain ⟨y, hzy⟩ : ∃ y : Nat, z = y + 1 := ⟨z - 1, by omega⟩
                have hsub : (z : Int) - 1 = (y : Int) := by omega
                have hpos : (0 : Int) < (z : Int) := by omega
                have hposN : 0 < z := by omega
                have hwr : IntKind.i64.wrap ((z : Int) - 1) = (y : Int) := by rw [hsub]; exact wrap_small (y : Int) (by omega) (by omega)
                have hwr2 : IntKind.i64.wrap (y : Int) = (y : Int) := wrap_small (y : Int) (by omega) (by omega)
                have hy0 : (0 : Int) ≤ (y : Int) := by omega
                have hyl : (y : Int) < (left : Int) := by omega
                obtain ⟨⟨kk, vz⟩, hkv⟩ : ∃ p, T.ks[z]? = some p := ⟨_, List.getElem?_eq_getElem (by rw [HLen.out]; exact hzl)⟩
                obtain ⟨kz, hk1, hk2, hk3⟩ := HP.out.all _ (List.mem_of_getElem? hkv)
                obtain ⟨rfl, rfl⟩ : kk = num kz ∧ vz = (kz : Int) := by injection hk2 with h1 h2; exact ⟨h1, h2⟩
                obtain ⟨r, hr⟩ : ∃ r : Nat, r = kz % d := ⟨_, rfl⟩
                have hrI : (kz : Int) % (d : Int) = (r : Int) := by rw [hr]; simp
                have hrT : (kz : Int).tmod (d : Int) = (r : Int) := by rw [hr, Int.tmod_eq_emod_of_nonneg (by omega)]; simp
                have hrn : ¬ (r : Int) = 0 := fun e => hk3 ⟨hk1, by omega⟩
                obtain ⟨kk, hkk⟩ : ∃ kk, num kz = kk := ⟨_, rfl⟩
                have HN2 : Hid (∀ u : World, Calls Try.prog 18 #[.int .i64 (kz : Int)] u fun e w' => e = .returned (.string kk) ∧ Below u.heap.size u w') := fun u => by rw [← hkk]; exact HNum.out kz u (by omega)
                rw [hkk] at hkv
                obtain ⟨⟨k1, v1⟩, hkv1⟩ : ∃ p, T.ks[y]? = some p := ⟨_, List.getElem?_eq_getElem (by rw [HLen.out]; omega)⟩
                have hbl : Op.bytesLess k1.toList kk.toList = true := rise_get (a := (k1, v1)) (b := (kk, (kz : Int))) (allK_rise HQ.out.ok.ok) hkv1 (by rw [← hzy]; exact hkv)
                obtain ⟨b1, o1, b2, o2, rfl, rfl, t1, t2⟩ := HCk.out wr (fun p hp => HQ.out.heaps p (by simp [hp])) z _ _ hkv
                have HT : Hid (∀ u, Below wr.heap.size wr u → u.cell? ⟨b1, o1 + z, none⟩ = some (.string kk) ∧ u.cell? ⟨b2, o2 + z, none⟩ = some (.int .i64 (kz : Int)) ∧ u.cell? ⟨b1, o1 + y, none⟩ = some (.string k1)) := fun u hu => by
                  have hh := (fun p hp => (Stand.below (treeI_res _ _ _) HQ.out hu).heaps p (by simp [hp]) : ∀ p ∈ L', u.heap[p.1]? = some p.2)
                  obtain ⟨_, _, _, _, e1, e2, q1, q2⟩ := HCk.out u hh z _ _ hkv
                  obtain ⟨_, _, _, _, e3, _, q3, _⟩ := HCk.out u hh y _ _ hkv1
                  cases e1
                  cases e2
                  cases e3
                  exact ⟨q1, q2, q3⟩
                obtain ⟨t1, t2, t3⟩ := HT.out wr (Below.refl _ _)
                clear hzy hkv hkv1 hk1 hk2 hk3 hr hkk
                go_wp2_with fail
                go_region_held3 (fun u => u.cell? ⟨b1, o1 + z, none⟩ = some (.string kk) ∧ u.cell? ⟨b2, o2 + z, none⟩ = some (.int .i64 (kz : Int)) ∧ u.cell? ⟨b1, o1 + y, none⟩ = some (.string k1)) (go_keep)
                  ((go_at_call 18; go_must (refine (HN2.out _).mono ?_; rintro e w9 ⟨rfl, hb9⟩; have HB9 : Hid (Below wr.heap.size wr w9) := (below_drewN wr _).trans hb9; obtain ⟨r0, r1, r2⟩ := HT.out w9 HB9.out; clear hb9)))
                go_wp2_with fail
                go_roundw
                case rel => exact ⟨z + 1, by omega, by go_num, Stand.below (treeI_res _ _ _) HQ.out (by first | exact HB9.out | exact HB9.out.trans (below_drewN w9 _))⟩
                case measure => simp [intOf]; omega
            · have hzI : ¬ (z : Int) < (left : Int) := by omega
              have HE2 : Hid (Below w.heap.size w wr) := HQ.out.base
              go_wp2_with fail
              go_ret
              exact ⟨rfl, HE2.out⟩
end ManyL

end Go.Proofs.Ytoknebbkpkcomaa
