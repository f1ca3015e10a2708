/- The program's Take, whole. -/
import Derived.Test.YtoknebbkpkcomaaTGet
namespace Go.Proofs.Ytoknebbkpkcomaa
open Go.RowKit

section
variable {w w' : World} {t b m c a : Nat} {T : Tr} {F : Nat → Prop} {k : ByteArray} {A B : List Lf} {l : Lf}

def TakeR (t : Nat) (T : Tr) (a : Nat) (K' : List Kv) (F : Nat → Prop) (w : World) (was e : Int) (x : Ending) (w' : World) : Prop :=
  x = .returned (.tuple #[.int .i64 was, .int .i64 e]) ∧ ∃ T' : Tr, T'.ks = K' ∧ Moves T T' ∧ Goes (TreeI t T' (a + 2)) w w' F

set_option maxRecDepth 100000 in
theorem ttake_none (h : TreeI t T a w F) (hn : getK k T.ks = none) : Calls Try.prog 19 #[.pointer (some ⟨t, 0, none⟩), .string k] w (TakeR t T a T.ks F w 0 5) := by
  have HR : Hid (∀ u, Below w.heap.size w u → TakeR t T a T.ks F w 0 5 (.returned (.tuple #[.int .i64 0, .int .i64 5])) u) := fun u hb => ⟨rfl, T, rfl, Moves.refl T, Goes.thenStay (treeI_res t T (a + 2)) (Goes.stay (h.mono (by omega))) hb⟩
  obtain ⟨b, m, c, hG, hO, hF⟩ := h
  obtain ⟨A, l, B, hc⟩ := cut_ex hO.ok k
  have hU : ∀ u, Below w.heap.size w u → TreeG u t b m c T.ls T.made (T.ks.length : Int) := fun u hb => hG.turn (Turn.ofBelow (fun _ => False) hb) (fun _ _ h => h)
  have HF : Hid (Calls Try.prog 33 #[.pointer (some ⟨t, 0, none⟩), .string k] w fun e w' => e = .returned (.int .i64 (A.length : Int)) ∧ Below w.heap.size w w') := tfind_any hG hc
  have HL : Hid (∀ u, Below w.heap.size w u → Look u t b c T.ls.length l.q l.g A.length) := fun u hb => (hU u hb).look hc
  have HT : Hid (∀ u, Below w.heap.size w u → Calls Try.prog 37 #[.pointer (some ⟨l.g, 0, none⟩), .string k] u fun e w' => e = .returned (.tuple #[.int .i64 0, .int .i64 5]) ∧ ∃ m, w' = u.drewN m) := fun u hb => take_no ((hU u hb).nodeI hc.mem) (getK_not hO.ok hc hn)
  have hbg := hG.big
  have hal := hc.lt
  obtain ⟨N, hN⟩ : ∃ N, T.ls.length = N := ⟨_, rfl⟩
  obtain ⟨x, hx⟩ : ∃ x, A.length = x := ⟨_, rfl⟩
  obtain ⟨lq, hlq⟩ : ∃ lq, l.q = lq := ⟨_, rfl⟩
  obtain ⟨lg, hlg⟩ : ∃ lg, l.g = lg := ⟨_, rfl⟩
  rw [hN] at HL hbg hal
  rw [hx] at HF HL hal
  rw [hlq] at HL
  rw [hlg] at HL HT
  obtain ⟨g1, g2, g3⟩ := hbg
  clear hU hG hO hF hc hn hN hx hlq hlg
  go_enter Try.func19, Try.ntmps19
  go_wp2_with (first | (go_at_call 33; go_must (refine HF.out.mono ?_; rintro e w1 ⟨rfl, hb1⟩; have HB1 : Hid (Below w.heap.size w w1) := hb1; obtain ⟨q0, q1, q2⟩ := HL.out w1 hb1; clear hb1)) | (go_at_call 37; go_must (refine (HT.out _ HB1.out).mono ?_; rintro e w2 ⟨rfl, m2, rfl⟩)))
  all_goals go_ret2
  all_goals exact HR.out _ (HB1.out.trans ((below_drewN w1 _).mono HB1.out.size))

/-- behind the node's Take, counted -/
structure Taken (w u : World) (t b m c a : Nat) (T : Tr) (F : Nat → Prop) (k : ByteArray) (A : List Lf) (l : Lf) (B : List Lf) (i : Nat) : Prop where
  tree : TreeG u t b m c (A ++ l.with (l.n.del i) :: B) T.made ((T.ks.length : Int) - 1)
  turn : Turn (fun i => i ∈ foot t b m T.ls) w u

set_option maxRecDepth 100000 in
set_option maxHeartbeats 1000000 in
theorem ttake_some (h : TreeI t T a w F) {v0 : Int} (hg : getK k T.ks = some v0) (hage : a ≤ 50000) : Calls Try.prog 19 #[.pointer (some ⟨t, 0, none⟩), .string k] w (TakeR t T a (delK k T.ks) F w v0 0) := by
  obtain ⟨b, m, c, hG, hO, hF⟩ := h
  obtain ⟨A, l, B, hc⟩ := cut_ex hO.ok k
  obtain ⟨i, hi⟩ := getK_idx hO.ok hc hg
  have hins := hO.young.ins l hc.mem
  have hmade := hO.young.made
  have hKl : 1 ≤ T.ks.length := by
    have := length_del (allK_rise hO.ok) hg
    show 1 ≤ (allK T.ls).length
    omega
  have hK4 : T.ks.length ≤ 4096 := hO.few
  have hlen : (delK k T.ks).length + 1 = T.ks.length := length_del (allK_rise hO.ok) hg
  have hU : ∀ u, Below w.heap.size w u → TreeG u t b m c T.ls T.made (T.ks.length : Int) := fun u hb => hG.turn (Turn.ofBelow (fun _ => False) hb) (fun _ _ h => h)
  have HF : Hid (Calls Try.prog 33 #[.pointer (some ⟨t, 0, none⟩), .string k] w fun e w' => e = .returned (.int .i64 (A.length : Int)) ∧ Below w.heap.size w w') := tfind_any hG hc
  have HL : Hid (∀ u, Below w.heap.size w u → Look u t b c T.ls.length l.q l.g A.length) := fun u hb => (hU u hb).look hc
  have hl1 : l.with (l.n.del i) ∈ A ++ l.with (l.n.del i) :: B := by simp
  have hN1 : (A ++ l.with (l.n.del i) :: B).length = T.ls.length := by rw [hc.eq]; simp
  -- the node's Take; then the count
  have HT : Hid (∀ u, Below w.heap.size w u → Calls Try.prog 37 #[.pointer (some ⟨l.g, 0, none⟩), .string k] u fun e w' => e = .returned (.tuple #[.int .i64 v0, .int .i64 0]) ∧ w'.cell? ⟨t, 3, none⟩ = some (.int .i64 (T.ks.length : Int)) ∧ w'.frozen? ⟨t, 3, none⟩ = false ∧ Hid (Taken w (w'.setCell ⟨t, 3, none⟩ (.int .i64 ((T.ks.length : Int) - 1))) t b m c a T F k A l B i)) := fun u hb => by
    refine (take_yes ((hU u hb).nodeI hc.mem) hi (by omega)).mono fun e w' ⟨h1, h2⟩ => ⟨h1, ?_⟩
    have hGu := hU u hb
    rw [hc.eq] at hGu
    have hG2 := hGu.withNodeI h2
    refine ⟨hG2.cells.c3, hG2.cells.fz 3, hG2.setKeys _, ?_⟩
    obtain ⟨F', k1, k2, k3⟩ := h2
    exact ((Turn.ofBelow _ hb).trans (k2.mono fun j hj => by rw [hj]; exact foot_g hc.mem)).trans (Turn.setCell _ ⟨t, 3, none⟩ _ (by simp [foot]))
  have HE : Hid (∀ (u : World) (bb : Bool), decide ((l.n.del i).ks.length = 0) = bb → Taken w u t b m c a T F k A l B i → Calls Try.prog 38 #[.pointer (some ⟨l.q, 0, none⟩)] u fun e w' => e = .returned (.bool bb) ∧ w' = u) := fun u bb hbb ht => by
    have := isEmpty_any ht.tree hl1
    rw [← hbb]
    exact this
  have HC0 : Hid (∀ u, Taken w u t b m c a T F k A l B i → u.cell? ⟨t, 0, none⟩ = some (.slice (some ⟨b, 0, none⟩) T.ls.length c)) := fun u ht => by rw [ht.tree.cells.c0, hN1]
  -- it stays
  have HR : Hid (∀ u, ((A = [] ∧ B = []) ∨ (l.n.del i).ks ≠ []) → Taken w u t b m c a T F k A l B i → TakeR t T a (delK k T.ks) F w v0 0 (.returned (.tuple #[.int .i64 v0, .int .i64 0])) u) := fun u hs ht => by
    obtain ⟨p1, p2, p3⟩ := take_del hO hc hi hs
    refine ⟨rfl, ⟨A ++ l.with (l.n.del i) :: B, T.made⟩, p2, p3, ?_⟩
    have e : ((Tr.mk (A ++ l.with (l.n.del i) :: B) T.made).ks.length : Int) = (T.ks.length : Int) - 1 := by
      show ((allK (A ++ l.with (l.n.del i) :: B)).length : Int) = _
      rw [p2]
      omega
    refine goes_tree hF ht.turn (by rw [e]; exact ht.tree) p1 (fun j hj => ?_)
    rw [foot_with, ← hc.eq] at hj
    exact Or.inl hj
  -- it goes
  have HD : Hid (∀ u, (l.n.del i).ks = [] → A ++ B ≠ [] → Taken w u t b m c a T F k A l B i → Calls Try.prog 39 #[.pointer (some ⟨t, 0, none⟩), .int .i64 (A.length : Int)] u fun e w' => e = .returned (.tuple #[]) ∧ Hid (TakeR t T a (delK k T.ks) F w v0 0 (.returned (.tuple #[.int .i64 v0, .int .i64 0])) w')) := fun u hs hne ht => by
    obtain ⟨h0, r, he⟩ : ∃ h0 r, A ++ B = h0 :: r := by
      cases e : A ++ B with
      | nil => exact absurd e hne
      | cons x r => exact ⟨x, r, rfl⟩
    obtain ⟨p1, p2, p3⟩ := take_drop hO hc hi hs hne
    have hkk : (A ++ l.with (l.n.del i) :: B).Pairwise (fun a b => a.num ≠ b.num) := by
      have h1 := hO.ok.nums
      rw [hc.eq] at h1
      have h2 : ((A ++ l :: B).map (·.num)).Pairwise (· ≠ ·) := List.pairwise_map.2 h1
      rw [show (A ++ l :: B).map (·.num) = (A ++ l.with (l.n.del i) :: B).map (·.num) by simp [Lf.with]] at h2
      exact List.pairwise_map.1 h2
    refine (tdrop_any ht.tree hkk (hO.ok.made l hc.mem) (by omega) he rfl).mono fun e w' ⟨h1, h2⟩ => ⟨h1, rfl, ⟨fixh (A ++ B), T.made⟩, p2, p3, ?_⟩
    obtain ⟨h2a, h2b⟩ := h2.out
    have e : ((Tr.mk (fixh (A ++ B)) T.made).ks.length : Int) = (T.ks.length : Int) - 1 := by
      show ((allK (fixh (A ++ B))).length : Int) = _
      rw [p2]
      omega
    have hsubf : ∀ j, j ∈ foot t b m (A ++ B) → j ∈ foot t b m T.ls := fun j hj => by
      rw [hc.eq]
      exact foot_sub.subset hj
    refine goes_tree hF (ht.turn.trans (h2b.mono fun j hj => ?_)) (by rw [e]; exact h2a) p1 (fun j hj => ?_)
    · have hh0 : h0 ∈ A ++ B := by rw [he]; exact List.mem_cons_self ..
      rcases hj with e | e | e | e
      · rw [e]; simp [foot]
      · rw [e]; simp [foot]
      · rw [e]; simp [foot]
      · rw [e]; exact hsubf _ (foot_q hh0)
    · rw [foot_fixh] at hj
      exact Or.inl (hsubf j hj)
  have hbg := hG.big
  have hal := hc.lt
  have hone : ¬ 1 < T.ls.length → A = [] ∧ B = [] := fun hh => by
    rw [hc.eq, List.length_append, List.length_cons] at hh
    exact ⟨List.length_eq_zero_iff.1 (by omega), List.length_eq_zero_iff.1 (by omega)⟩
  have hmore : 1 < T.ls.length → A ++ B ≠ [] := fun hh e => by
    rw [hc.eq, List.length_append, List.length_cons] at hh
    have := congrArg List.length e
    rw [List.length_append, List.length_nil] at this
    omega
  have hcase : ((l.n.del i).ks.length = 0 ∧ 1 < T.ls.length) ∨ ((l.n.del i).ks.length = 0 ∧ ¬ 1 < T.ls.length) ∨ ¬ (l.n.del i).ks.length = 0 := by omega
  obtain ⟨N, hN⟩ : ∃ N, T.ls.length = N := ⟨_, rfl⟩
  obtain ⟨x, hx⟩ : ∃ x, A.length = x := ⟨_, rfl⟩
  obtain ⟨lq, hlq⟩ : ∃ lq, l.q = lq := ⟨_, rfl⟩
  obtain ⟨lg, hlg⟩ : ∃ lg, l.g = lg := ⟨_, rfl⟩
  obtain ⟨Z, hZ⟩ : ∃ Z, T.ks.length = Z := ⟨_, rfl⟩
  obtain ⟨D, hD⟩ : ∃ D, (l.n.del i).ks = D := ⟨_, rfl⟩
  have HRs : Hid (∀ u, ((¬ 1 < N) ∨ D ≠ []) → Taken w u t b m c a T F k A l B i → TakeR t T a (delK k T.ks) F w v0 0 (.returned (.tuple #[.int .i64 v0, .int .i64 0])) u) := fun u hs ht => HR.out u (by
    rcases hs with hs | hs
    · exact Or.inl (hone (by rw [hN]; exact hs))
    · exact Or.inr (by rw [hD]; exact hs)) ht
  have HDs : Hid (∀ u, D = [] → 1 < N → Taken w u t b m c a T F k A l B i → Calls Try.prog 39 #[.pointer (some ⟨t, 0, none⟩), .int .i64 (x : Int)] u fun e w' => e = .returned (.tuple #[]) ∧ Hid (TakeR t T a (delK k T.ks) F w v0 0 (.returned (.tuple #[.int .i64 v0, .int .i64 0])) w')) := fun u hs hn ht => by
    have := HD.out u (by rw [hD]; exact hs) (hmore (by rw [hN]; exact hn)) ht
    rw [hx] at this
    exact this
  rw [hN] at HL hbg hal HC0 hcase
  rw [hx] at HF HL hal
  rw [hlq] at HL HE
  rw [hlg] at HL HT
  rw [hZ] at HT hK4 hKl
  rw [hD] at HE hcase
  obtain ⟨g1, g2, g3⟩ := hbg
  clear hU hG hO hF hc hg hN hx hlq hlg hZ hi hins hmade hlen hl1 hN1 hone hmore HR HD hD
  rcases hcase with ⟨d1, d2⟩ | ⟨d1, d2⟩ | d1
  · have hN1 : (1 : Int) < (N : Int) := by omega
    have hD0 : D = [] := List.length_eq_zero_iff.1 d1
    have HD0 : Hid (D = []) := hD0
    have HE1 : Hid (∀ u, Taken w u t b m c a T F k A l B i → Calls Try.prog 38 #[.pointer (some ⟨lq, 0, none⟩)] u fun e w' => e = .returned (.bool true) ∧ w' = u) := fun u ht => HE.out u true (decide_eq_true d1) ht
    clear hD0 d1
    go_enter Try.func19, Try.ntmps19
    go_wp2_with (first | (go_at_call 33; go_must (refine HF.out.mono ?_; rintro e w1 ⟨rfl, hb1⟩; have HB1 : Hid (Below w.heap.size w w1) := hb1; obtain ⟨q0, q1, q2⟩ := HL.out w1 hb1; clear hb1)) | (go_at_call 37; go_must (refine (HT.out _ HB1.out).mono ?_; rintro e w2 ⟨rfl, z1, z2, HT2⟩; have z3 := HC0.out _ HT2.out)) | (go_at_call 38; go_must (refine (HE1.out _ HT2.out).mono ?_; rintro e w3 ⟨rfl, rfl⟩)) | (go_at_call 39; go_must (refine (HDs.out _ HD0.out d2 HT2.out).mono ?_; rintro e w4 ⟨rfl, HR4⟩)))
    all_goals go_ret2
    all_goals exact HR4.out
  · have hN1 : ¬ (1 : Int) < (N : Int) := by omega
    have HE1 : Hid (∀ u, Taken w u t b m c a T F k A l B i → Calls Try.prog 38 #[.pointer (some ⟨lq, 0, none⟩)] u fun e w' => e = .returned (.bool true) ∧ w' = u) := fun u ht => HE.out u true (decide_eq_true d1) ht
    clear d1
    go_enter Try.func19, Try.ntmps19
    go_wp2_with (first | (go_at_call 33; go_must (refine HF.out.mono ?_; rintro e w1 ⟨rfl, hb1⟩; have HB1 : Hid (Below w.heap.size w w1) := hb1; obtain ⟨q0, q1, q2⟩ := HL.out w1 hb1; clear hb1)) | (go_at_call 37; go_must (refine (HT.out _ HB1.out).mono ?_; rintro e w2 ⟨rfl, z1, z2, HT2⟩; have z3 := HC0.out _ HT2.out)) | (go_at_call 38; go_must (refine (HE1.out _ HT2.out).mono ?_; rintro e w3 ⟨rfl, rfl⟩)))
    all_goals go_ret2
    all_goals exact HRs.out _ (Or.inl d2) HT2.out
  · have HE1 : Hid (∀ u, Taken w u t b m c a T F k A l B i → Calls Try.prog 38 #[.pointer (some ⟨lq, 0, none⟩)] u fun e w' => e = .returned (.bool false) ∧ w' = u) := fun u ht => HE.out u false (decide_eq_false d1) ht
    have HD0 : Hid (D ≠ []) := fun e => d1 (by rw [e]; rfl)
    clear d1
    go_enter Try.func19, Try.ntmps19
    go_wp2_with (first | (go_at_call 33; go_must (refine HF.out.mono ?_; rintro e w1 ⟨rfl, hb1⟩; have HB1 : Hid (Below w.heap.size w w1) := hb1; obtain ⟨q0, q1, q2⟩ := HL.out w1 hb1; clear hb1)) | (go_at_call 37; go_must (refine (HT.out _ HB1.out).mono ?_; rintro e w2 ⟨rfl, z1, z2, HT2⟩; have z3 := HC0.out _ HT2.out)) | (go_at_call 38; go_must (refine (HE1.out _ HT2.out).mono ?_; rintro e w3 ⟨rfl, rfl⟩)))
    all_goals go_ret2
    all_goals exact HRs.out _ (Or.inr HD0.out) HT2.out

theorem ttake_to {was e : Int} {K' : List Kv} (hp : TakeK T.ks k K' was e) (h : TreeI t T a w F) (hage : a ≤ 50000) :
    Calls Try.prog 19 #[.pointer (some ⟨t, 0, none⟩), .string k] w (TakeR t T a K' F w was e) := by
  rcases hp with ⟨h1, rfl, rfl, rfl⟩ | ⟨h1, rfl, rfl⟩
  · exact ttake_none h h1
  · exact ttake_some h h1 hage
end

end Go.Proofs.Ytoknebbkpkcomaa
