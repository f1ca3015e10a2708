/- A tree behind some calls. -/
import Derived.Test.YtoknebbkpkcomaaTWorks
namespace Go.Proofs.Ytoknebbkpkcomaa
open Go.RowKit

theorem acts_open {w : World} {v : Value} {L : List ActV} (h : SliceAt w v 4 ActV.en L) : ∃ a c, v = .slice a L.length c ∧ L.length ≤ c ∧ c ≤ maxLen ∧ ∀ u, Below w.heap.size w u → ∀ i, (hi : i < L.length) → ∃ b off, a = some ⟨b, off, none⟩ ∧ u.cell? ⟨b, off + i * 4, none⟩ = some (.int .i64 L[i].kind) ∧ u.cell? ⟨b, off + i * 4 + 1, none⟩ = some (.string L[i].key) ∧ u.cell? ⟨b, off + i * 4 + 2, none⟩ = some (.string L[i].to) ∧ u.cell? ⟨b, off + i * 4 + 3, none⟩ = some (.int .i64 L[i].num) := by
  obtain ⟨a, c, e, h1, h2, h3⟩ := h
  refine ⟨a, c, e, h1, h2, fun u hu i hi => ?_⟩
  obtain ⟨b, off, e, hl, hc⟩ := h3 (fun e => by rw [e] at hi; simp at hi)
  exact ⟨b, off, e, by rw [hu.cell (p := ⟨b, off + i * 4, none⟩) hl]; exact hc i hi 0 _ rfl, by rw [hu.cell (p := ⟨b, off + i * 4 + 1, none⟩) hl]; exact hc i hi 1 _ rfl, by rw [hu.cell (p := ⟨b, off + i * 4 + 2, none⟩) hl]; exact hc i hi 2 _ rfl, by rw [hu.cell (p := ⟨b, off + i * 4 + 3, none⟩) hl]; exact hc i hi 3 _ rfl⟩

theorem among_to (x n : Int) (w : World) (hn : 1 ≤ n) (hn2 : n ≤ 1000) {r : Int} (hr : x % n = r) : Calls Try.prog 16 #[.int .i64 x, .int .i64 n] w fun e w' => e = .returned (.int .i64 r) ∧ w' = w := by
  rw [← hr]; exact among_any x n w hn hn2

set_option maxRecDepth 100000 in
set_option maxHeartbeats 2000000 in
theorem grown_any (v0 : Value) (L : List ActV) (w0 w : World) (h0 : Below w0.heap.size w0 w) (hL : SliceAt w0 v0 4 ActV.en L) (hZ : ∀ a ∈ L, a.Ok) :
    Calls Try.prog 20 #[v0] w fun e w' => ∃ t, e = .returned (.pointer (some ⟨t, 0, none⟩)) ∧ ∃ T, Hid (HasT t T 400 w0 w' []) := by
  obtain ⟨av, cv, rfl, hlc, hcm, hx⟩ := acts_open hL
  unfold maxLen at hcm
  have HX : Hid (∀ u, Below w0.heap.size w0 u → ∀ i, (hi : i < L.length) → ∃ b off, av = some ⟨b, off, none⟩ ∧ u.cell? ⟨b, off + i * 4, none⟩ = some (.int .i64 L[i].kind) ∧ u.cell? ⟨b, off + i * 4 + 1, none⟩ = some (.string L[i].key) ∧ u.cell? ⟨b, off + i * 4 + 2, none⟩ = some (.string L[i].to) ∧ u.cell? ⟨b, off + i * 4 + 3, none⟩ = some (.int .i64 L[i].num)) := hx
  have HZ : Hid (∀ a ∈ L, a.Ok) := hZ
  obtain ⟨m, hm⟩ : ∃ m, L.length = m := ⟨_, rfl⟩
  have HM : Hid (L.length = m) := hm
  rw [hm] at hlc ⊢
  clear hx hL hm hZ
  have HNew : Hid (Calls Try.prog 9 #[] w fun e w' => ∃ t T, e = .returned (.pointer (some ⟨t, 0, none⟩)) ∧ Hid (T.ks = [] ∧ HasT t T 0 w0 w' [])) := hast_new h0
  go_enter Try.func20, Try.ntmps20
  go_wp2_with fail
  refine HNew.out.mono ?_
  rintro e w1 ⟨t, T0, rfl, H0⟩
  clear HNew
  go_wp2_with fail
  go_loopw [4] (fun i wr => ∃ (j : Nat) (T : Tr), j ≤ 200 ∧ i = .int .i64 j ∧ Hid (HasT t T (2 * j) w0 wr [])) (fun i _ => 200 - (intOf i).toNat)
  case atStart => exact ⟨0, T0, by omega, rfl, H0.out.2⟩
  case round =>
    clear H0
    obtain ⟨j, T, hj, rfl, HI⟩ := hrel
    by_cases hlt : j < m ∧ j < 200
    · obtain ⟨hlt, h200⟩ := hlt
      have hlL : j < L.length := by rw [HM.out]; exact hlt
      obtain ⟨b, off, rfl, t0, t1, -, t3⟩ := HX.out wr (Stand.base HI.out) j hlL
      have hOk := HZ.out _ (List.getElem_mem hlL)
      obtain ⟨k, hk⟩ : ∃ k, L[j].kind = k := ⟨_, rfl⟩
      obtain ⟨x, hx⟩ : ∃ x, L[j].key = x := ⟨_, rfl⟩
      obtain ⟨y, hy⟩ : ∃ y, L[j].num = y := ⟨_, rfl⟩
      have HNm : Hid (Num y) := by rw [← hy]; exact hOk.num
      rw [hk] at t0
      rw [hx] at t1
      rw [hy] at t3
      have HT : Hid (∀ u, Below w0.heap.size w0 u → u.cell? ⟨b, off + j * 4 + 1, none⟩ = some (.string x) ∧ u.cell? ⟨b, off + j * 4 + 3, none⟩ = some (.int .i64 y)) := fun u hu => by
        obtain ⟨b', off', e, _, q1, _, q3⟩ := HX.out u hu j hlL
        cases e
        exact ⟨hx ▸ q1, hy ▸ q3⟩
      have hlI : (j : Int) < (m : Int) := by omega
      have h200I : (j : Int) < 200 := by omega
      obtain ⟨r, hr⟩ : ∃ r, k % 3 = r := ⟨_, rfl⟩
      have HAm : Hid (Calls Try.prog 16 #[.int .i64 k, .int .i64 3] wr fun e w' => e = .returned (.int .i64 r) ∧ w' = wr) := among_to k 3 wr (by omega) (by omega) hr
      clear hk hx hy hr hlL hOk
      go_wp2_with (go_at_call 16; go_must (refine HAm.out.mono ?_; rintro e w5 ⟨rfl, rfl⟩))
      · rename_i hr2
        obtain ⟨K', was, e0, hp⟩ := takeK_ex T.ks x
        have HP : Hid (Calls Try.prog 19 #[.pointer (some ⟨t, 0, none⟩), .string x] w5 fun e w' => e = .returned (.tuple #[.int .i64 was, .int .i64 e0]) ∧ ∃ T', Hid (T'.ks = K' ∧ Moves T T' ∧ HasT t T' (2 * j + 2) w0 w' [])) := HasT.take HI.out hp (by omega)
        clear hp
        go_wp2_with (go_at_call 19; go_must (refine HP.out.mono ?_; rintro e w6 ⟨rfl, T6, H6⟩))
        go_roundw
        case rel => exact ⟨j + 1, T6, by omega, by go_num, H6.out.2.2⟩
        case measure => simp [intOf]; omega
      · obtain ⟨K', was, th, e0, hp⟩ := putK_ex HI.out.ok.few x y
        have HP : Hid (∀ u, Below w5.heap.size w5 u → Calls Try.prog 17 #[.pointer (some ⟨t, 0, none⟩), .string x, .int .i64 y] u fun e w' => e = .returned (.tuple #[.int .i64 was, .bool th, .int .i64 e0]) ∧ ∃ T', Hid (T'.ks = K' ∧ Moves T T' ∧ HasT t T' (2 * j + 2) w0 w' [])) := fun u hu => HasT.put (Stand.below (treeI_res _ _ _) HI.out hu) hp HNm.out (by omega)
        clear hp
        go_wp2_with fail
        go_region_held3 (fun u => u.cell? ⟨b, off + j * 4 + 1, none⟩ = some (.string x) ∧ u.cell? ⟨b, off + j * 4 + 3, none⟩ = some (.int .i64 y)) (go_keep)
          ((go_at_call 17; go_must (refine (HP.out _ (below_drewN w5 _)).mono ?_; rintro e w6 ⟨rfl, T6, H6⟩; obtain ⟨r0, r1⟩ := HT.out w6 H6.out.2.2.base)))
        go_wp2_with fail
        go_roundw
        case rel => exact ⟨j + 1, T6, by omega, by go_num, H6.out.2.2⟩
        case measure => simp [intOf]; omega
    · have HE : Hid (HasT t T 400 w0 wr []) := by
        obtain ⟨F, h1, h2⟩ := HI.out
        exact ⟨F, h1.mono (by omega), h2⟩
      by_cases hm : j < m
      · have hlI : (j : Int) < (m : Int) := by omega
        have h200I : ¬ (j : Int) < 200 := by omega
        go_wp2_with fail
        go_ret
        exact ⟨t, rfl, T, HE⟩
      · have hlI : ¬ (j : Int) < (m : Int) := by omega
        go_wp2_with fail
        go_ret
        exact ⟨t, rfl, T, HE⟩

end Go.Proofs.Ytoknebbkpkcomaa
