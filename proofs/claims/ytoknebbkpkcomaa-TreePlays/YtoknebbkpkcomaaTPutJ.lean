import Derived.Test.YtoknebbkpkcomaaTDrop
import Derived.Test.YtoknebbkpkcomaaTMove
/- The program's Put, walked: where a key is too long, there, or there is no room for it. -/
namespace Go.Proofs.Ytoknebbkpkcomaa
open Go.RowKit

section
variable {w w' : World} {t b m c a : Nat} {T : Tr} {F : Nat → Prop} {k : ByteArray} {A B : List Lf} {l : Lf}

theorem TreeI.mono {a' : Nat} (h : TreeI t T a w F) (ha : a ≤ a') : TreeI t T a' w F := by
  obtain ⟨b, m, c, h1, h2, h3⟩ := h
  exact ⟨b, m, c, h1, h2.mono ha, h3⟩
theorem goes_tree {T' : Tr} {b' c' a' : Nat} (hF : ∀ i, F i ↔ i ∈ foot t b m T.ls) (hT : Turn (fun i => i ∈ foot t b m T.ls) w w') (h' : TreeG w' t b' m c' T'.ls T'.made (T'.ks.length : Int)) (ok : T'.Ok a') (hsub : ∀ i ∈ foot t b' m T'.ls, i ∈ foot t b m T.ls ∨ w.heap.size ≤ i) : Goes (TreeI t T' a') w w' F :=
  ⟨fun i => i ∈ foot t b' m T'.ls, ⟨b', m, c', h', ok, fun _ => Iff.rfl⟩, hT.mono (fun i hi => (hF i).2 hi), fun i hi => (hsub i hi).imp_left (fun h => (hF i).2 h)⟩

def PutR (t : Nat) (T : Tr) (a : Nat) (K' : List Kv) (F : Nat → Prop) (w : World) (was : Int) (there : Bool) (e : Int) (x : Ending) (w' : World) : Prop :=
  x = .returned (.tuple #[.int .i64 was, .bool there, .int .i64 e]) ∧ ∃ T' : Tr, T'.ks = K' ∧ Moves T T' ∧ Goes (TreeI t T' (a + 2)) w w' F

theorem PutR.stay (h : TreeI t T a w F) (hb : Below w.heap.size w w') (was : Int) (there : Bool) (e : Int) : PutR t T a T.ks F w was there e (.returned (.tuple #[.int .i64 was, .bool there, .int .i64 e])) w' :=
  ⟨rfl, T, rfl, Moves.refl T, Goes.thenStay (treeI_res t T (a + 2)) (Goes.stay (h.mono (by omega))) hb⟩

theorem tput_long (h : TreeI t T a w F) (hk : 4096 < k.size) (v : Int) : Calls Try.prog 17 #[.pointer (some ⟨t, 0, none⟩), .string k, .int .i64 v] w (PutR t T a T.ks F w 0 false 2) := by
  have HR : Hid (PutR t T a T.ks F w 0 false 2 (.returned (.tuple #[.int .i64 0, .bool false, .int .i64 2])) w) := PutR.stay h (Below.refl _ _) 0 false 2
  have h1 : 4096 < (k.size : Int) := by omega
  clear hk h
  go_enter Try.func17, Try.ntmps17
  go_wp2
  go_ret3
  exact HR.out

/-- what a walk reads of a tree, at a key's leaf -/
structure Look (w : World) (t b c N lq lg a : Nat) : Prop where
  c0 : w.cell? ⟨t, 0, none⟩ = some (.slice (some ⟨b, 0, none⟩) N c)
  row : w.cell? ⟨b, a, none⟩ = some (.pointer (some ⟨lq, 0, none⟩))
  leaf : w.cell? ⟨lq, 0, none⟩ = some (.pointer (some ⟨lg, 0, none⟩))
theorem TreeG.look {made keys : Int} {ls : List Lf} (h : TreeG w t b m c ls made keys) (hc : Cut ls k A l B) : Look w t b c ls.length l.q l.g A.length :=
  ⟨h.cells.c0, h.rowCell hc.get, (h.leafCells hc.mem).1⟩

set_option maxRecDepth 100000 in
theorem tput_there (h : TreeI t T a w F) (hc : Cut T.ls k A l B) {i : Nat} {v0 v : Int} (hi : l.n.ks[i]? = some (k, v0)) (hv : Num v) :
    Calls Try.prog 17 #[.pointer (some ⟨t, 0, none⟩), .string k, .int .i64 v] w (PutR t T a (insK k v T.ks) F w v0 true 0) := by
  obtain ⟨b, m, c, hG, hO, hF⟩ := h
  have hks : k.size ≤ 4096 := (hO.ok.okn l hc.mem).short _ (List.mem_of_getElem? hi)
  have hkI : ¬ 4096 < (k.size : Int) := by omega
  have hU : ∀ u, Below w.heap.size w u → TreeG u t b m c T.ls T.made (T.ks.length : Int) := fun u hb => hG.turn (Turn.ofBelow (fun _ => False) hb) (fun _ _ h => h)
  have HF : Hid (Calls Try.prog 33 #[.pointer (some ⟨t, 0, none⟩), .string k] w fun e w' => e = .returned (.int .i64 (A.length : Int)) ∧ Below w.heap.size w w') := tfind_any hG hc
  have HL : Hid (∀ u, Below w.heap.size w u → Look u t b c T.ls.length l.q l.g A.length) := fun u hb => (hU u hb).look hc
  have HG : Hid (∀ u, Below w.heap.size w u → Calls Try.prog 34 #[.pointer (some ⟨l.g, 0, none⟩), .string k] u fun e w' => e = .returned (.tuple #[.int .i64 v0, .bool true]) ∧ ∃ m, w' = u.drewN m) := fun u hb => get_yes ((hU u hb).nodeI hc.mem) hi
  have HP : Hid (∀ u, Below w.heap.size w u → Calls Try.prog 35 #[.pointer (some ⟨l.g, 0, none⟩), .string k, .int .i64 v] u fun e w' => e = .returned (.tuple #[.int .i64 v0, .bool true, .int .i64 0]) ∧ Hid (PutR t T a (insK k v T.ks) F w v0 true 0 (.returned (.tuple #[.int .i64 v0, .bool true, .int .i64 0])) w')) := fun u hb => by
    refine (put_there ((hU u hb).nodeI hc.mem) hi hv).mono fun e w' ⟨h1, h2⟩ => ⟨h1, rfl, ⟨A ++ l.with (l.n.set i k v) :: B, T.made⟩, ?_⟩
    obtain ⟨p1, p2, p3⟩ := put_set hO hc hi hv
    refine ⟨p2, p3, ?_⟩
    have hGu := hU u hb
    rw [hc.eq] at hGu
    have hG2 := hGu.withNodeI h2
    have hlen : ((Tr.mk (A ++ l.with (l.n.set i k v) :: B) T.made).ks.length : Int) = (T.ks.length : Int) := by
      have hgk : getK k T.ks = some v0 := by rw [getK_own hO.ok hc]; exact (getK_some (hO.ok.okn l hc.mem).rise).2 (List.mem_of_getElem? hi)
      have e2 : (insK k v T.ks).length = T.ks.length := length_ins_old (allK_rise hO.ok) hgk
      show ((allK (A ++ l.with (l.n.set i k v) :: B)).length : Int) = _
      rw [p2, e2]
    refine goes_tree hF ?_ (by rw [hlen]; exact hG2) p1 (fun j hj => ?_)
    · obtain ⟨F', k1, k2, k3⟩ := h2
      exact (Turn.ofBelow _ hb).trans (k2.mono fun j hj => by rw [hj]; exact foot_g hc.mem)
    · rw [foot_with] at hj
      rw [hc.eq]
      exact Or.inl hj
  have hbg := hG.big
  have hal := hc.lt
  obtain ⟨N, hN⟩ : ∃ N, T.ls.length = N := ⟨_, rfl⟩
  obtain ⟨x, hx⟩ : ∃ x, A.length = x := ⟨_, rfl⟩
  obtain ⟨lq, hlq⟩ : ∃ lq, l.q = lq := ⟨_, rfl⟩
  obtain ⟨lg, hlg⟩ : ∃ lg, l.g = lg := ⟨_, rfl⟩
  rw [hN] at HL hbg hal
  rw [hx] at HF HL hal
  rw [hlq] at HL
  rw [hlg] at HL HG HP
  obtain ⟨g1, g2, g3⟩ := hbg
  clear hU hG hO hF hc hi hv hN hx hlq hlg hks
  go_enter Try.func17, Try.ntmps17
  go_wp2_with (first | (go_at_call 33; go_must (refine HF.out.mono ?_; rintro e w1 ⟨rfl, hb1⟩; have HB1 : Hid (Below w.heap.size w w1) := hb1; obtain ⟨q0, q1, q2⟩ := HL.out w1 hb1; clear hb1)) | (go_at_call 34; go_must (refine (HG.out _ HB1.out).mono ?_; rintro e w2 ⟨rfl, m2, rfl⟩)) | (go_at_call 35; go_must (refine (HP.out _ (HB1.out.trans ((below_drewN _ m2).mono HB1.out.size))).mono ?_; rintro e w3 ⟨rfl, HR⟩)))
  all_goals go_ret3
  all_goals exact HR.out

set_option maxRecDepth 100000 in
theorem tput_full (h : TreeI t T a w F) (hc : Cut T.ls k A l B) (hn : getK k T.ks = none) (hks : k.size ≤ 4096) (hf : T.ks.length = 4096) (v : Int) :
    Calls Try.prog 17 #[.pointer (some ⟨t, 0, none⟩), .string k, .int .i64 v] w (PutR t T a T.ks F w 0 false 2) := by
  have HR : Hid (∀ u, Below w.heap.size w u → PutR t T a T.ks F w 0 false 2 (.returned (.tuple #[.int .i64 0, .bool false, .int .i64 2])) u) := fun u hb => PutR.stay h hb 0 false 2
  obtain ⟨b, m, c, hG, hO, hF⟩ := h
  have hkI : ¬ 4096 < (k.size : Int) := by omega
  have hU : ∀ u, Below w.heap.size w u → TreeG u t b m c T.ls T.made (T.ks.length : Int) := fun u hb => hG.turn (Turn.ofBelow (fun _ => False) hb) (fun _ _ h => h)
  have HF : Hid (Calls Try.prog 33 #[.pointer (some ⟨t, 0, none⟩), .string k] w fun e w' => e = .returned (.int .i64 (A.length : Int)) ∧ Below w.heap.size w w') := tfind_any hG hc
  have HL : Hid (∀ u, Below w.heap.size w u → Look u t b c T.ls.length l.q l.g A.length ∧ u.cell? ⟨t, 3, none⟩ = some (.int .i64 4096)) := fun u hb => ⟨(hU u hb).look hc, by rw [(hU u hb).cells.c3, hf]; rfl⟩
  have HG : Hid (∀ u, Below w.heap.size w u → Calls Try.prog 34 #[.pointer (some ⟨l.g, 0, none⟩), .string k] u fun e w' => e = .returned (.tuple #[.int .i64 0, .bool false]) ∧ ∃ m, w' = u.drewN m) := fun u hb => get_no ((hU u hb).nodeI hc.mem) (getK_not hO.ok hc hn)
  have hbg := hG.big
  have hal := hc.lt
  obtain ⟨N, hN⟩ : ∃ N, T.ls.length = N := ⟨_, rfl⟩
  obtain ⟨x, hx⟩ : ∃ x, A.length = x := ⟨_, rfl⟩
  obtain ⟨lq, hlq⟩ : ∃ lq, l.q = lq := ⟨_, rfl⟩
  obtain ⟨lg, hlg⟩ : ∃ lg, l.g = lg := ⟨_, rfl⟩
  rw [hN] at HL hbg hal
  rw [hx] at HF HL hal
  rw [hlq] at HL
  rw [hlg] at HL HG
  obtain ⟨g1, g2, g3⟩ := hbg
  clear hU hG hO hF hc hn hf hN hx hlq hlg hks
  go_enter Try.func17, Try.ntmps17
  go_wp2_with (first | (go_at_call 33; go_must (refine HF.out.mono ?_; rintro e w1 ⟨rfl, hb1⟩; have HB1 : Hid (Below w.heap.size w w1) := hb1; obtain ⟨⟨q0, q1, q2⟩, q3⟩ := HL.out w1 hb1; clear hb1)) | (go_at_call 34; go_must (refine (HG.out _ HB1.out).mono ?_; rintro e w2 ⟨rfl, m2, rfl⟩)))
  all_goals go_ret3
  all_goals exact HR.out _ (HB1.out.trans ((below_drewN _ m2).mono HB1.out.size))
end

end Go.Proofs.Ytoknebbkpkcomaa

/- The program's Put, walked: a key more. -/
namespace Go.Proofs.Ytoknebbkpkcomaa
open Go.RowKit

section
variable {w w' : World} {t b m c a : Nat} {T : Tr} {F : Nat → Prop} {k : ByteArray} {A B : List Lf} {l : Lf}

theorem full_ne {n : Nd} (h : k ∉ n.keys) (i : Nat) (v : Int) : n.ks[i]? ≠ some (k, v) := fun hv => h (List.mem_map.2 ⟨_, List.mem_of_getElem? hv, rfl⟩)

/-- one key more in a node that has room, and it is counted -/
theorem counted {T : Tr} {a : Nat} {v : Int} {i : Nat} {w0 u w3 : World} {b0 : Nat} {T0 : Tr} {F : Nat → Prop} (hF : ∀ i, F i ↔ i ∈ foot t b0 m T0.ls) (hT0 : Turn (fun i => i ∈ foot t b0 m T0.ls) w0 u) (hsub0 : ∀ i ∈ foot t b m T.ls, i ∈ foot t b0 m T0.ls ∨ w0.heap.size ≤ i)
    (hG : TreeG u t b m c T.ls T.made (T.ks.length : Int)) (hO : T.Ok a) (hc : Cut T.ls k A l B) (ha : At k l.n.ks i) (hn : getK k T.ks = none) (hf15 : l.n.ks.length < 15) (hks : k.size ≤ 4096) (hv : Num v) (hfew : T.ks.length < 4096)
    (h2 : Goes (NodeI l.g (l.n.add i k v)) u w3 (fun i => i = l.g)) :
    w3.cell? ⟨t, 3, none⟩ = some (.int .i64 (T.ks.length : Int)) ∧ w3.frozen? ⟨t, 3, none⟩ = false ∧ ∃ T' : Tr, T'.ks = insK k v T.ks ∧ T'.Ok (a + 1) ∧ Moves T T' ∧ Goes (TreeI t T' (a + 1)) w0 (w3.setCell ⟨t, 3, none⟩ (.int .i64 ((T.ks.length : Int) + 1))) F := by
  have hno := full_ne (getK_not hO.ok hc hn) i
  obtain ⟨p1, p2, p3⟩ := put_add hO hc ha hno hn hf15 hks hv hfew
  have hGu := hG
  rw [hc.eq] at hGu
  have hG2 := hGu.withNodeI h2
  refine ⟨hG2.cells.c3, hG2.cells.fz 3, ⟨A ++ l.with (l.n.add i k v) :: B, T.made⟩, p2, p1, p3, ?_⟩
  have hlen : ((Tr.mk (A ++ l.with (l.n.add i k v) :: B) T.made).ks.length : Int) = (T.ks.length : Int) + 1 := by
    have e2 : (insK k v T.ks).length = T.ks.length + 1 := length_ins_new (allK_rise hO.ok) hn
    show ((allK (A ++ l.with (l.n.add i k v) :: B)).length : Int) = _
    rw [p2, e2]
    omega
  refine goes_tree hF ?_ (by rw [hlen]; exact hG2.setKeys _) p1 (fun j hj => ?_)
  · obtain ⟨F', k1, k2, k3⟩ := h2
    have hm : ∀ x, x ∈ foot t b m T.ls → x ∈ foot t b0 m T0.ls ∨ w0.heap.size ≤ x := hsub0
    have ht : t ∈ foot t b0 m T0.ls := by simp [foot]
    refine (hT0.transNew k2 (fun x hx => ?_)).trans (Turn.setCell _ ⟨t, 3, none⟩ _ ht)
    rw [hx]
    exact hm _ (foot_g hc.mem)
  · rw [foot_with, ← hc.eq] at hj
    exact hsub0 j hj

set_option maxRecDepth 100000 in
set_option maxHeartbeats 400000 in
theorem tput_new (h : TreeI t T a w F) (hc : Cut T.ls k A l B) (hn : getK k T.ks = none) (hks : k.size ≤ 4096) (hfew : T.ks.length < 4096) (hf15 : l.n.ks.length < 15) {v : Int} (hv : Num v) (hage : a ≤ 50000) :
    Calls Try.prog 17 #[.pointer (some ⟨t, 0, none⟩), .string k, .int .i64 v] w (PutR t T a (insK k v T.ks) F w 0 false 0) := by
  obtain ⟨b, m, c, hG, hO, hF⟩ := h
  have hkI : ¬ 4096 < (k.size : Int) := by omega
  obtain ⟨i, hat⟩ := at_ex k l.n.ks
  have hnk := getK_not hO.ok hc hn
  have hins := hO.young.ins l hc.mem
  have hU : ∀ u, Below w.heap.size w u → TreeG u t b m c T.ls T.made (T.ks.length : Int) := fun u hb => hG.turn (Turn.ofBelow (fun _ => False) hb) (fun _ _ h => h)
  have HF : Hid (Calls Try.prog 33 #[.pointer (some ⟨t, 0, none⟩), .string k] w fun e w' => e = .returned (.int .i64 (A.length : Int)) ∧ Below w.heap.size w w') := tfind_any hG hc
  have HL : Hid (∀ u, Below w.heap.size w u → Look u t b c T.ls.length l.q l.g A.length ∧ u.cell? ⟨t, 3, none⟩ = some (.int .i64 (T.ks.length : Int))) := fun u hb => ⟨(hU u hb).look hc, (hU u hb).cells.c3⟩
  have HG : Hid (∀ u, Below w.heap.size w u → Calls Try.prog 34 #[.pointer (some ⟨l.g, 0, none⟩), .string k] u fun e w' => e = .returned (.tuple #[.int .i64 0, .bool false]) ∧ ∃ m, w' = u.drewN m) := fun u hb => get_no ((hU u hb).nodeI hc.mem) hnk
  have HP : Hid (∀ u, Below w.heap.size w u → Calls Try.prog 35 #[.pointer (some ⟨l.g, 0, none⟩), .string k, .int .i64 v] u fun e w' => e = .returned (.tuple #[.int .i64 0, .bool false, .int .i64 0]) ∧ w'.cell? ⟨t, 3, none⟩ = some (.int .i64 (T.ks.length : Int)) ∧ w'.frozen? ⟨t, 3, none⟩ = false ∧ Hid (PutR t T a (insK k v T.ks) F w 0 false 0 (.returned (.tuple #[.int .i64 0, .bool false, .int .i64 0])) (w'.setCell ⟨t, 3, none⟩ (.int .i64 ((T.ks.length : Int) + 1))))) := fun u hb => by
    refine (put_new ((hU u hb).nodeI hc.mem) hat (full_ne hnk i) hks hf15 hv (by omega)).mono fun e w' ⟨h1, h2⟩ => ⟨h1, ?_⟩
    obtain ⟨q1, q2, T', q3, q4, q5, q6⟩ := counted hF (Turn.ofBelow _ hb) (fun i hi => Or.inl hi) (hU u hb) hO hc hat hn hf15 hks hv hfew h2
    obtain ⟨F', r1, r2, r3⟩ := q6
    exact ⟨q1, q2, rfl, T', q3, q5, F', r1.mono (by omega), r2, r3⟩
  have hbg := hG.big
  have hal := hc.lt
  obtain ⟨N, hN⟩ : ∃ N, T.ls.length = N := ⟨_, rfl⟩
  obtain ⟨x, hx⟩ : ∃ x, A.length = x := ⟨_, rfl⟩
  obtain ⟨lq, hlq⟩ : ∃ lq, l.q = lq := ⟨_, rfl⟩
  obtain ⟨lg, hlg⟩ : ∃ lg, l.g = lg := ⟨_, rfl⟩
  obtain ⟨Z, hZ⟩ : ∃ Z, T.ks.length = Z := ⟨_, rfl⟩
  rw [hN] at HL hbg hal
  rw [hx] at HF HL hal
  rw [hlq] at HL
  rw [hlg] at HL HG HP
  rw [hZ] at HL HP hfew
  obtain ⟨g1, g2, g3⟩ := hbg
  have hz1 : ¬ (Z : Int) = 4096 := by omega
  clear hU hG hO hF hc hn hN hx hlq hlg hks hZ hat hnk hins hv hf15
  go_enter Try.func17, Try.ntmps17
  go_wp2_with (first | (go_at_call 33; go_must (refine HF.out.mono ?_; rintro e w1 ⟨rfl, hb1⟩; have HB1 : Hid (Below w.heap.size w w1) := hb1; obtain ⟨⟨q0, q1, q2⟩, q3⟩ := HL.out w1 hb1; clear hb1)) | (go_at_call 34; go_must (refine (HG.out _ HB1.out).mono ?_; rintro e w2 ⟨rfl, m2, rfl⟩)) | (go_at_call 35; go_must (refine (HP.out _ (HB1.out.trans ((below_drewN _ m2).mono HB1.out.size))).mono ?_; rintro e w3 ⟨rfl, z1, z2, HR⟩)))
  all_goals go_ret3
  all_goals exact HR.out
end

end Go.Proofs.Ytoknebbkpkcomaa

/- The program's Put, walked: a key more, where its leaf is full and is split. -/
namespace Go.Proofs.Ytoknebbkpkcomaa
open Go.RowKit

section
variable {w w' : World} {t b m c a : Nat} {T : Tr} {F : Nat → Prop} {k : ByteArray} {A B : List Lf} {l : Lf}

theorem left_ok {n : Nd} (h : n.Ok) : n.left.Ok := ⟨h.len, h.may, by show (n.ks.take _).length ≤ 15; rw [List.length_take]; have := h.few; omega, h.rise.sublist (List.take_sublist _ _), fun p hp => h.short p (List.mem_of_mem_take hp), fun p hp => h.nums p (List.mem_of_mem_take hp)⟩
theorem right_ok {n : Nd} (h : n.Ok) : n.right.Ok := ⟨by show (List.range 15).length = 15; simp, Nd.new_ok.may, by show (n.ks.drop _).length ≤ 15; rw [List.length_drop]; have := h.few; omega, h.rise.sublist (List.drop_sublist _ _), fun p hp => h.short p (List.mem_of_mem_drop hp), fun p hp => h.nums p (List.mem_of_mem_drop hp)⟩

/-- the key's leaf behind the split is one of the halves -/
theorem half_small (hk : Lok T.ls T.made) (hc : Cut T.ls k A l B) {p : Kv} (hh : Half l p) (hf : l.n.ks.length = 15) {q g : Nat} {num : Int} {A2 B2 : List Lf} {l2 : Lf} (hc2 : Cut (A ++ l.with l.n.left :: l.spl q g num p.1 :: B) k A2 l2 B2) {made2 : Int} (hk2 : Lok (A ++ l.with l.n.left :: l.spl q g num p.1 :: B) made2) : l2.n.ks.length < 15 := by
  have hst : l.n.stay = 8 := by unfold Nd.stay; omega
  rcases mem_split hc2.mem with rfl | rfl | ⟨hx, hx'⟩
  · show (l.n.ks.take l.n.stay).length < 15
    rw [List.length_take]; omega
  · show (l.n.ks.drop l.n.stay).length < 15
    rw [List.length_drop]; omega
  · exfalso
    have h2 := hc2.inR hk2
    have h3 : InR (lst T.ls) k l2.least := ⟨h2.1, fun y hy hb => h2.2 y (by
      rw [hc.eq] at hy
      obtain ⟨x, hx, rfl⟩ := mem_lst.1 hy
      rcases List.mem_append.1 hx with hx | hx
      · exact lst_of (by simp [hx])
      · rcases List.mem_cons.1 hx with rfl | hx
        · exact mem_lst.2 ⟨x.with x.n.left, by simp, rfl⟩
        · exact lst_of (by simp [hx])) hb⟩
    have e := inR_uniq hk (by rw [hc.eq]; exact hx) hc.mem h3 (hc.inR hk)
    subst e
    have hr := hk.rise
    rw [hc.eq, List.pairwise_append, List.pairwise_cons] at hr
    rcases hx' with hx' | hx'
    · have := hr.2.2 l2 hx' l2 (List.mem_cons_self ..)
      rw [bl_self] at this; cases this
    · have := hr.2.1.1 l2 hx'
      rw [bl_self] at this; cases this

set_option maxRecDepth 100000 in
set_option maxHeartbeats 1000000 in
theorem tput_split (h : TreeI t T a w F) (hc : Cut T.ls k A l B) (hn : getK k T.ks = none) (hks : k.size ≤ 4096) (hfew : T.ks.length < 4096) (hf15 : l.n.ks.length = 15) {v : Int} (hv : Num v) (hage : a ≤ 50000) :
    Calls Try.prog 17 #[.pointer (some ⟨t, 0, none⟩), .string k, .int .i64 v] w (PutR t T a (insK k v T.ks) F w 0 false 0) := by
  obtain ⟨b, m, c, hG, hO, hF⟩ := h
  have hkI : ¬ 4096 < (k.size : Int) := by omega
  have hnk := getK_not hO.ok hc hn
  have hins := hO.young.ins l hc.mem
  have hspl := hO.young.spl l hc.mem
  have hmade := hO.young.made
  have hlf := allK_few hO.ok hO.few
  have hln := hO.ok.okn l hc.mem
  have hU : ∀ u, Below w.heap.size w u → TreeG u t b m c T.ls T.made (T.ks.length : Int) := fun u hb => hG.turn (Turn.ofBelow (fun _ => False) hb) (fun _ _ h => h)
  have HF : Hid (Calls Try.prog 33 #[.pointer (some ⟨t, 0, none⟩), .string k] w fun e w' => e = .returned (.int .i64 (A.length : Int)) ∧ Below w.heap.size w w') := tfind_any hG hc
  have HL : Hid (∀ u, Below w.heap.size w u → Look u t b c T.ls.length l.q l.g A.length ∧ u.cell? ⟨t, 3, none⟩ = some (.int .i64 (T.ks.length : Int))) := fun u hb => ⟨(hU u hb).look hc, (hU u hb).cells.c3⟩
  have HG : Hid (∀ u, Below w.heap.size w u → Calls Try.prog 34 #[.pointer (some ⟨l.g, 0, none⟩), .string k] u fun e w' => e = .returned (.tuple #[.int .i64 0, .bool false]) ∧ ∃ m, w' = u.drewN m) := fun u hb => get_no ((hU u hb).nodeI hc.mem) hnk
  have HP : Hid (∀ u, Below w.heap.size w u → Calls Try.prog 35 #[.pointer (some ⟨l.g, 0, none⟩), .string k, .int .i64 v] u fun e w' => e = .returned (.tuple #[.int .i64 0, .bool false, .int .i64 120]) ∧ ∃ m, w' = u.drewN m) := fun u hb => put_full ((hU u hb).nodeI hc.mem) hnk hks hf15 v
  -- behind the split
  have HS : Hid (∀ u, Below w.heap.size w u → Calls Try.prog 36 #[.pointer (some ⟨t, 0, none⟩), .int .i64 (A.length : Int)] u fun e w4 => e = .returned (.tuple #[]) ∧ ∃ b2 c2 N2 lq2 lg2 a2, a2 < N2 ∧ N2 ≤ c2 ∧ N2 ≤ 5000 ∧ c2 ≤ 9223372036854775807 ∧
      Look w4 t b2 c2 N2 lq2 lg2 a2 ∧ Hid (∀ u4, Below w4.heap.size w4 u4 → Look u4 t b2 c2 N2 lq2 lg2 a2 ∧ (Calls Try.prog 33 #[.pointer (some ⟨t, 0, none⟩), .string k] u4 fun e w' => e = .returned (.int .i64 (a2 : Int)) ∧ Below u4.heap.size u4 w') ∧
        (Calls Try.prog 35 #[.pointer (some ⟨lg2, 0, none⟩), .string k, .int .i64 v] u4 fun e w' => e = .returned (.tuple #[.int .i64 0, .bool false, .int .i64 0]) ∧ w'.cell? ⟨t, 3, none⟩ = some (.int .i64 (T.ks.length : Int)) ∧ w'.frozen? ⟨t, 3, none⟩ = false ∧ Hid (PutR t T a (insK k v T.ks) F w 0 false 0 (.returned (.tuple #[.int .i64 0, .bool false, .int .i64 0])) (w'.setCell ⟨t, 3, none⟩ (.int .i64 ((T.ks.length : Int) + 1))))))) := fun u hb => by
    have hGu := hU u hb
    have hok1 := hO.ok
    rw [hc.eq] at hGu hok1
    refine (tsplit_any hGu hok1 (by omega) (by omega) (by omega) (by omega) (by rw [← hc.eq]; omega) rfl).mono fun e w4 ⟨he, b2, c2, q, g, p, hh, hG4, ht4, hq, hg, hb2⟩ => ⟨he, ?_⟩
    obtain ⟨p1, p2, p3⟩ := put_split hO hc hh (left_ok hln) (right_ok hln) q g
    obtain ⟨T1, hT1⟩ : ∃ T1 : Tr, T1 = ⟨A ++ l.with l.n.left :: l.spl q g (T.made + 1) p.1 :: B, T.made + 1⟩ := ⟨_, rfl⟩
    have hks1 : T1.ks = T.ks := by rw [hT1]; exact p2
    rw [← hT1] at p1
    have hG41 : TreeG w4 t b2 m c2 T1.ls T1.made (T1.ks.length : Int) := by rw [hks1, hT1]; exact hG4
    obtain ⟨A2, l2, B2, hc2⟩ := cut_ex p1.ok k
    have hsm : l2.n.ks.length < 15 := by
      have hc2' := hc2
      have hk2' := p1.ok
      rw [hT1] at hc2' hk2'
      exact half_small hO.ok hc hh hf15 hc2' hk2'
    have hn1 : getK k T1.ks = none := by rw [hks1]; exact hn
    have hU4 : ∀ u4, Below w4.heap.size w4 u4 → TreeG u4 t b2 m c2 T1.ls T1.made (T1.ks.length : Int) := fun u4 hb4 => hG41.turn (Turn.ofBelow (fun _ => False) hb4) (fun _ _ h => h)
    have hbg := hG41.big
    have hsu := hb.size
    obtain ⟨i2, hat2⟩ := at_ex k l2.n.ks
    have hins2 := p1.young.ins l2 hc2.mem
    refine ⟨b2, c2, T1.ls.length, l2.q, l2.g, A2.length, hc2.lt, hbg.1, hbg.2.1, hbg.2.2, hG41.look hc2, fun u4 hb4 => ⟨(hU4 u4 hb4).look hc2, tfind_any (hU4 u4 hb4) hc2, ?_⟩⟩
    refine (put_new ((hU4 u4 hb4).nodeI hc2.mem) hat2 (full_ne (getK_not p1.ok hc2 hn1) i2) hks hsm hv (by omega)).mono fun e w' ⟨h1, h2⟩ => ⟨h1, ?_⟩
    have hfootm : ∀ i, i ∈ foot t b2 m T1.ls → i ∈ foot t b m T.ls ∨ w.heap.size ≤ i := fun i hi => by
      rcases mem_foot hi with rfl | rfl | rfl | ⟨x, hx, hxe⟩
      · exact Or.inl (by simp [foot])
      · rcases hb2 with e | e
        · exact Or.inl (by rw [e]; simp [foot])
        · right; omega
      · exact Or.inl (by simp [foot])
      · rw [hT1] at hx
        rcases mem_split hx with rfl | rfl | ⟨hx, _⟩
        · left
          rcases hxe with e | e
          · rw [e]; exact foot_q (l := l) hc.mem
          · rw [e]; exact foot_g (l := l) hc.mem
        · right
          rcases hxe with e | e
          · rw [e]; show w.heap.size ≤ q; omega
          · rw [e]; show w.heap.size ≤ g; omega
        · left
          rcases hxe with e | e
          · rw [e]; exact foot_q (by rw [hc.eq]; exact hx)
          · rw [e]; exact foot_g (by rw [hc.eq]; exact hx)
    have hT4 : Turn (fun i => i ∈ foot t b m T.ls) w u4 := by
      refine ((Turn.ofBelow _ hb).trans (ht4.mono fun i hi => ?_)).trans (Turn.ofBelow _ hb4)
      rcases hi with e | e | e | e
      · rw [e]; simp [foot]
      · rw [e]; simp [foot]
      · rw [e]; simp [foot]
      · rw [e]; exact foot_g hc.mem
    obtain ⟨q1, q2, T', q3, q4, q5, q6⟩ := counted hF hT4 hfootm (hU4 u4 hb4) p1 hc2 hat2 hn1 hsm hks hv (by rw [hks1]; exact hfew) h2
    rw [hks1] at q1 q3 q6
    obtain ⟨F', r1, r2, r3⟩ := q6
    refine ⟨q1, q2, rfl, T', q3, ⟨?_, fun he => ?_⟩, F', r1.mono (by omega), r2, r3⟩
    · have g1 := q5.grew
      rw [hT1] at g1
      exact p3.trans g1
    · exfalso
      have e2 : (insK k v T.ks).length = T.ks.length + 1 := length_ins_new (allK_rise hO.ok) hn
      rw [q3] at he
      omega
  have hbg := hG.big
  have hal := hc.lt
  obtain ⟨N, hN⟩ : ∃ N, T.ls.length = N := ⟨_, rfl⟩
  obtain ⟨x, hx⟩ : ∃ x, A.length = x := ⟨_, rfl⟩
  obtain ⟨lq, hlq⟩ : ∃ lq, l.q = lq := ⟨_, rfl⟩
  obtain ⟨lg, hlg⟩ : ∃ lg, l.g = lg := ⟨_, rfl⟩
  obtain ⟨Z, hZ⟩ : ∃ Z, T.ks.length = Z := ⟨_, rfl⟩
  rw [hN] at HL hbg hal
  rw [hx] at HF HL hal HS
  rw [hlq] at HL
  rw [hlg] at HL HG HP
  rw [hZ] at HL HS hfew
  obtain ⟨g1, g2, g3⟩ := hbg
  have hz1 : ¬ (Z : Int) = 4096 := by omega
  clear hU hG hO hF hc hn hN hx hlq hlg hks hZ hnk hins hv hf15 hspl hmade hlf hln
  go_enter Try.func17, Try.ntmps17
  go_wp2_with (first | (go_at_call 33; go_must (refine HF.out.mono ?_; rintro e w1 ⟨rfl, hb1⟩; have HB1 : Hid (Below w.heap.size w w1) := hb1; obtain ⟨⟨q0, q1, q2⟩, q3⟩ := HL.out w1 hb1; clear hb1)) | (go_at_call 34; go_must (refine (HG.out _ HB1.out).mono ?_; rintro e w2 ⟨rfl, m2, rfl⟩)) | (go_at_call 35; go_must (refine (HP.out _ (HB1.out.trans ((below_drewN _ m2).mono HB1.out.size))).mono ?_; rintro e w3 ⟨rfl, m3, rfl⟩)) | (go_at_call 36; go_must (refine (HS.out _ (HB1.out.trans ((below_drewN w1 _).mono HB1.out.size))).mono ?_; rintro e w4 ⟨rfl, b2, c2, N2, lq2, lg2, a2, k1, k2, k3, k4, ⟨r0, r1, r2⟩, H4⟩)))
  go_region_with (first | (go_at_call 33; go_must (refine ((H4.out _ (below_drewN w4 _)).2.1).mono ?_; rintro e w5 ⟨rfl, hb5⟩; have HB5 : Hid (Below w4.heap.size w4 w5) := (below_drewN w4 _).trans hb5; obtain ⟨⟨s0, s1, s2⟩, -, hp5⟩ := H4.out w5 HB5.out; clear hb5 hp5)) | (go_at_call 35; go_must (refine ((H4.out _ HB5.out).2.2).mono ?_; rintro e w6 ⟨rfl, z1, z2, HR⟩)))
  all_goals go_wp2
  all_goals go_ret3
  all_goals exact HR.out
end

end Go.Proofs.Ytoknebbkpkcomaa
