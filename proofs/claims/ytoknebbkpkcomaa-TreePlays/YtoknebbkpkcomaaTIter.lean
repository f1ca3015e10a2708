/- The iterator over a tree's keys: leaf by leaf, key by key. -/
import Derived.Test.YtoknebbkpkcomaaTBodyAJ
import Derived.Deep.Cut
namespace Go.Proofs.Ytoknebbkpkcomaa
open Go.RowKit Go.Shelf

abbrev ScS := List Kv × List Sn
def scI (pm pk pv ps : Nat) (most : Nat) (s : ScS) (w : World) (F : Nat → Prop) : Prop := s.1.length < most ∧ AccI pm pk pv ps (most : Int) s w F
theorem scI_res (pm pk pv ps most : Nat) (s : ScS) : Res (scI pm pk pv ps most s) :=
  ⟨fun h i hi => (accI_res pm pk pv ps most s).lt h.2 i hi, fun h ht hS => ⟨h.1, (accI_res pm pk pv ps most s).kept h.2 ht hS⟩⟩
def scOn (most : Nat) (s : ScS) (x : Kv) (s' : ScS) : Prop := s.1.length + 1 < most ∧ s' = (s.1 ++ [x], s.2)
def scOff (most : Nat) (s : ScS) (x : Kv) (s' : ScS) : Prop := s.1.length + 1 = most ∧ s' = (s.1 ++ [x], s.2)
def encK (x : Kv) : Array Value := #[.string x.1, .int .i64 x.2]

/-- what the iterator reads, and no round writes -/
structure Still (W : World) (F : Nat → Prop) (t b m c : Nat) (T : Tr) (p1 p2 p3 p4 ps : Nat) (fr to : ByteArray) : Prop where
  tree : TreeG W t b m c T.ls T.made (T.ks.length : Int)
  off : ∀ i ∈ foot t b m T.ls, ¬ F i
  q1 : W.heap[p1]? = some (boxO (.pointer (some ⟨t, 0, none⟩)) 23)
  q2 : W.heap[p2]? = some (boxO (.string fr) 9)
  q3 : W.heap[p3]? = some (boxO (.string to) 9)
  q4 : ∃ ty, W.heap[p4]? = some (boxO (.func (.func 30) #[] #[.pointer (some ⟨ps, 0, none⟩)]) ty)
  f : ¬ F p1 ∧ ¬ F p2 ∧ ¬ F p3 ∧ ¬ F p4

section
variable {W w : World} {F F' : Nat → Prop} {t b m c : Nat} {T : Tr} {p1 p2 p3 p4 ps : Nat} {fr to : ByteArray}

theorem Still.goes (h : Still W F t b m c T p1 p2 p3 p4 ps fr to) (ht : Turn F W w) (hF' : ∀ i, F' i → F i ∨ W.heap.size ≤ i) : Still w F' t b m c T p1 p2 p3 p4 ps fr to := by
  obtain ⟨f1, f2, f3, f4⟩ := h.f
  obtain ⟨ty, h4⟩ := h.q4
  have no : ∀ i, i < W.heap.size → ¬ F i → ¬ F' i := fun i hi hn hf => by
    rcases hF' i hf with e | e
    · exact hn e
    · omega
  exact ⟨h.tree.turn ht h.off, fun i hi => no i (h.tree.lt hi) (h.off i hi), (ht.block p1 (lt_of h.q1) f1).trans h.q1, (ht.block p2 (lt_of h.q2) f2).trans h.q2, (ht.block p3 (lt_of h.q3) f3).trans h.q3, ⟨ty, (ht.block p4 (lt_of h4) f4).trans h4⟩,
    no p1 (lt_of h.q1) f1, no p2 (lt_of h.q2) f2, no p3 (lt_of h.q3) f3, no p4 (lt_of h4) f4⟩
theorem Still.cells (h : Still W F t b m c T p1 p2 p3 p4 ps fr to) : W.cell? ⟨p1, 0, none⟩ = some (.pointer (some ⟨t, 0, none⟩)) ∧ W.cell? ⟨p2, 0, none⟩ = some (.string fr) ∧ W.cell? ⟨p3, 0, none⟩ = some (.string to) ∧ W.cell? ⟨p4, 0, none⟩ = some (.func (.func 30) #[] #[.pointer (some ⟨ps, 0, none⟩)]) := by
  obtain ⟨ty, h4⟩ := h.q4
  exact ⟨by rw [cell_of h.q1]; rfl, by rw [cell_of h.q2]; rfl, by rw [cell_of h.q3]; rfl, by rw [cell_of h4]; rfl⟩

/-- the state behind some leaves -/
def Upto (J : ScS → World → (Nat → Prop) → Prop) (W : World) (F : Nat → Prop) (s : ScS) (wr : World) : Prop := Goes (J s) W wr F
end

/-! ### plain: what is told leaf by leaf, key by key -/
section
variable {fr to : ByteArray}
theorem scanK_append (A B : List Kv) : scanK fr to (A ++ B) = scanK fr to A ++ scanK fr to B := by unfold scanK; exact List.filter_append _ _
theorem scan_leaf {Ls : List Lf} {i : Nat} {x : Lf} (h : Ls[i]? = some x) : scanK fr to (allK (Ls.take (i + 1))) = scanK fr to (allK (Ls.take i)) ++ scanK fr to x.n.ks := by
  rw [List.take_add_one, h, allK_append, scanK_append]
  simp [allK]
theorem sn_leaf {Ls : List Lf} {i : Nat} {x : Lf} (h : Ls[i]? = some x) : (Ls.take (i + 1)).map sn = (Ls.take i).map sn ++ [sn x] := by
  rw [List.take_add_one, h]
  simp
theorem scan_key_in {ks : List Kv} {j : Nat} {p : Kv} (h : ks[j]? = some p) (hin : inB fr to p.1 = true) : scanK fr to (ks.take (j + 1)) = scanK fr to (ks.take j) ++ [p] := by
  rw [List.take_add_one, h, scanK_append]
  have e : inK fr to p = true := hin
  unfold scanK
  simp [e]
theorem scan_key_out {ks : List Kv} {j : Nat} {p : Kv} (h : ks[j]? = some p) (hin : inB fr to p.1 = false) : scanK fr to (ks.take (j + 1)) = scanK fr to (ks.take j) := by
  rw [List.take_add_one, h, scanK_append]
  have e : inK fr to p = false := hin
  unfold scanK
  simp [e]
theorem leaf_at {Ls : List Lf} {i : Nat} {x : Lf} (h : Ls[i]? = some x) : Ls = Ls.take i ++ x :: Ls.drop (i + 1) := by
  obtain ⟨hi, e⟩ := List.getElem?_eq_some_iff.1 h
  rw [← e, ← List.drop_eq_getElem_cons hi, List.take_append_drop]
theorem take_split {ks : List Kv} (j : Nat) : ks = ks.take j ++ ks.drop j := (List.take_append_drop j ks).symm
end

set_option maxRecDepth 100000 in
set_option maxHeartbeats 2000000 in
theorem iter_any {n l pm pk pv ps most t b m c a p1 p2 p3 p4 : Nat} {T : Tr} {fr to : ByteArray} {J Jx : ScS → World → (Nat → Prop) → Prop} {W : World} {F : Nat → Prop}
    (rJ : ∀ s, Res (J s)) (hI : ∀ s W F, J s W F → ∃ A, scI pm pk pv ps most s W A ∧ (∀ i, A i → F i) ∧ ∀ W' s', Goes (scI pm pk pv ps most s') W W' A → Goes (J s') W W' F)
    (hY : ∀ s x W F, J s W F → YieldAt Fence.wide n Try.prog l (encK x) W (yieldEnds J Jx (scOn most) (scOff most) s x W F))
    (h0 : J ([], []) W F) (hS : Still W F t b m c T p1 p2 p3 p4 ps fr to) (hO : T.Ok a) (hm : 1 ≤ most ∧ most ≤ 4096) :
    Calls Try.prog 44 #[.func (.yield l) #[] #[], .pointer (some ⟨p1, 0, none⟩), .pointer (some ⟨p2, 0, none⟩), .pointer (some ⟨p3, 0, none⟩), .pointer (some ⟨p4, 0, none⟩)] W (iterEnds J Jx (fun s => Scanned T.ls fr to most s.1 s.2) (fun s => Scanned T.ls fr to most s.1 s.2) W F) := by
  obtain ⟨A, l0, B, hc⟩ := cut_ex hO.ok fr
  have hG := hS.tree
  obtain ⟨d1, d2, d3, d4⟩ := hS.cells
  have c0 := hG.cells.c0
  obtain ⟨g1, g2, g3⟩ := hG.big
  have hal := hc.lt
  have hLs : T.ls.drop A.length = l0 :: B := by rw [hc.eq]; simp
  have hN : T.ls.length - A.length = (l0 :: B).length := by rw [← hLs, List.length_drop]
  have HF : Hid (∀ u, Below W.heap.size W u → Calls Try.prog 33 #[.pointer (some ⟨t, 0, none⟩), .string fr] u fun e w' => e = .returned (.int .i64 (A.length : Int)) ∧ Below u.heap.size u w') := fun u hb => tfind_any (hG.turn (Turn.ofBelow (fun _ => False) hb) (fun _ _ h => h)) hc
  have HT : Hid (∀ u, Below W.heap.size W u → u.cell? ⟨t, 0, none⟩ = some (.slice (some ⟨b, 0, none⟩) T.ls.length c) ∧ u.cell? ⟨p1, 0, none⟩ = some (.pointer (some ⟨t, 0, none⟩)) ∧ u.cell? ⟨p2, 0, none⟩ = some (.string fr)) := fun u hb => by
    have h2 := hS.goes (Turn.ofBelow F hb) (F' := F) (fun i hi => Or.inl hi)
    exact ⟨h2.tree.cells.c0, h2.cells.1, h2.cells.2.1⟩
  obtain ⟨NN, hNN⟩ : ∃ NN, T.ls.length = NN := ⟨_, rfl⟩
  obtain ⟨x, hx⟩ : ∃ x, A.length = x := ⟨_, rfl⟩
  rw [hNN] at c0 HT g1 g2 hal
  rw [hx] at HF hal
  have hcx : ¬ c = x := by omega
  have hxN : x ≤ NN := by omega
  go_enter Try.func44, Try.ntmps44
  go_wp2_with fail
  go_region_held3 (fun u => u.cell? ⟨t, 0, none⟩ = some (.slice (some ⟨b, 0, none⟩) NN c) ∧ u.cell? ⟨p1, 0, none⟩ = some (.pointer (some ⟨t, 0, none⟩)) ∧ u.cell? ⟨p2, 0, none⟩ = some (.string fr)) (go_keep)
    ((go_at_call 33; go_must (refine (HF.out _ (below_drewN W _)).mono ?_; rintro e w1 ⟨rfl, hb1⟩; have HB1 : Hid (Below W.heap.size W w1) := (below_drewN W _).trans hb1; obtain ⟨r0, r1, r2⟩ := HT.out w1 HB1.out; clear hb1)))
  obtain ⟨Ls, hLL⟩ : ∃ Ls, l0 :: B = Ls := ⟨_, rfl⟩
  obtain ⟨M, hM⟩ : ∃ M, NN - x = M := ⟨_, rfl⟩
  have HLn : Hid (Ls.length = M) := by show _ = _; rw [← hLL, ← hN, hNN, hx, hM]
  have HLx : Hid (∀ i lf, Ls[i]? = some lf → T.ls[x + i]? = some lf ∧ lf ∈ T.ls) := fun i lf h => by
    rw [← hLL, ← hLs, List.getElem?_drop, hx] at h
    exact ⟨h, List.mem_of_getElem? h⟩
  have HCt : Hid (Cut T.ls fr A l0 B ∧ l0 :: B = Ls) := ⟨hc, hLL⟩
  have HSt : Hid (Still W F t b m c T p1 p2 p3 p4 ps fr to) := hS
  have HOk : Hid (T.Ok a) := hO
  have HI : Hid (∀ s W F, J s W F → ∃ A, scI pm pk pv ps most s W A ∧ (∀ i, A i → F i) ∧ ∀ W' s', Goes (scI pm pk pv ps most s') W W' A → Goes (J s') W W' F) := hI
  have HY : Hid (∀ s x W F, J s W F → YieldAt Fence.wide n Try.prog l (encK x) W (yieldEnds J Jx (scOn most) (scOff most) s x W F)) := hY
  have HRJ : Hid (∀ s, Res (J s)) := rJ
  have HJ1 : Hid (Goes (J ([], [])) W w1 F) := Goes.thenStay (rJ _) (Goes.stay h0) HB1.out
  obtain ⟨hm1, hm2⟩ := hm
  have hMs : M ≤ 5000 := by omega
  rw [hM]
  clear hG hS hO hI hY rJ h0 d1 d2 d3 d4 c0 g1 g2 hal hLs hN HF HT hNN hx hLL hc r0 r1 r2 HB1 hcx hxN
  go_wp2_with fail
  go_loopw [21] (fun v wr => ∃ i : Nat, i ≤ M ∧ v = .int .i64 i ∧ Hid ((scanK fr to (allK (Ls.take i))).length < most ∧ Goes (J (scanK fr to (allK (Ls.take i)), (Ls.take i).map sn)) W wr F)) (fun v _ => M - (intOf v).toNat)
  case atStart => exact ⟨0, Nat.zero_le _, rfl, by simp [scanK, allK]; omega, HJ1.out⟩
  case round =>
    obtain ⟨i, hi, rfl, HG⟩ := hrel
    obtain ⟨htl, F1, hj1, ht1, hf1⟩ := id HG.out
    by_cases hlt : i < M
    · have hiI : (i : Int) < (M : Int) := by omega
      obtain ⟨lf, hlf⟩ : ∃ lf, Ls[i]? = some lf := ⟨_, List.getElem?_eq_getElem (by rw [HLn.out]; exact hlt)⟩
      obtain ⟨hlT, hlm⟩ := HLx.out i lf hlf
      have HS1 : Hid (Still wr F1 t b m c T p1 p2 p3 p4 ps fr to) := HSt.out.goes ht1 hf1
      obtain ⟨d1, d2, d3, d4⟩ := HS1.out.cells
      have hrow := HS1.out.tree.rowCell hlT
      obtain ⟨z0, -, z2, -⟩ := HS1.out.tree.leafCells hlm
      obtain ⟨lq, hlq⟩ : ∃ lq, lf.q = lq := ⟨_, rfl⟩
      obtain ⟨lg, hlg⟩ : ∃ lg, lf.g = lg := ⟨_, rfl⟩
      obtain ⟨ll, hll⟩ : ∃ ll, lf.least = ll := ⟨_, rfl⟩
      have HA : Hid (∀ (u : World) (bb : Bool), ahead ll to = bb → Calls Try.prog 45 #[.string ll, .string to] u fun e w' => e = .returned (.bool bb) ∧ w' = u) := fun u bb hbb => by rw [← hbb]; exact isAhead_any ll to u
      rw [hlq] at hrow z0 z2
      rw [hlg] at z0
      rw [hll] at z2
      by_cases hah : ahead ll to = true
      · have HNt : Hid (∀ k, Calls Try.prog 30 #[.pointer (some ⟨lq, 0, none⟩), .pointer (some ⟨ps, 0, none⟩)] (wr.drewN k) fun e w' => e = .returned (.tuple #[]) ∧ Hid (Goes (J (scanK fr to (allK (Ls.take i)), (Ls.take i).map sn ++ [sn lf])) W w' F)) := fun k => by
          have hjk := (HRJ.out _).kept (S := fun _ => False) hj1 (Turn.ofBelow _ (below_drewN wr k)) (fun _ _ h => h)
          obtain ⟨A1, ⟨a1, a2⟩, a3, a4⟩ := HI.out _ _ _ hjk
          have hGk := HS1.out.tree.turn (Turn.ofBelow (fun _ => False) (below_drewN wr k)) (fun _ _ h => h)
          have := note_any a2 hGk hlm (by rw [List.length_map, List.length_take]; omega)
          rw [hlq] at this
          refine this.mono fun e w' ⟨h1, h2⟩ => ⟨h1, ?_⟩
          obtain ⟨F5, f1, f2, f3⟩ := h2.out
          have hg := a4 w' (scanK fr to (allK (Ls.take i)), (Ls.take i).map sn ++ [sn lf]) ⟨F5, ⟨a1, f1⟩, f2, f3⟩
          obtain ⟨F6, g1, g2, g3⟩ := hg
          refine ⟨F6, g1, (ht1.trans (Turn.ofBelow _ (below_drewN wr k))).transNew g2 hf1, fun j hj => ?_⟩
          rcases g3 j hj with e | e
          · exact hf1 j e
          · right
            have := ht1.size
            have e' : wr.heap.size ≤ j := e
            omega
        have HKy : Hid (∀ w2, Goes (J (scanK fr to (allK (Ls.take i)), (Ls.take i).map sn ++ [sn lf])) W w2 F → w2.cell? ⟨lq, 0, none⟩ = some (.pointer (some ⟨lg, 0, none⟩)) ∧ Calls Try.prog 46 #[.pointer (some ⟨lg, 0, none⟩)] w2 fun e w3 => ∃ bk, e = .returned (.slice (some ⟨bk, 0, none⟩) lf.n.keys.length lf.n.keys.length) ∧ Hid (∃ F3, TextsAt w3 bk lf.n.keys ∧ J (scanK fr to (allK (Ls.take i)), (Ls.take i).map sn ++ [sn lf]) w3 F3 ∧ Turn F W w3 ∧ (∀ j, F3 j → F j ∨ W.heap.size ≤ j) ∧ ¬ F3 bk ∧ Still w3 F3 t b m c T p1 p2 p3 p4 ps fr to)) := by
          intro w2 hg
          obtain ⟨F3, g1, g2, g3⟩ := hg
          have hS2 := HSt.out.goes g2 g3
          refine ⟨by have := (hS2.tree.leafCells hlm).1; rw [hlq, hlg] at this; exact this, ?_⟩
          have hk := keys_any (hS2.tree.nodeI hlm)
          rw [hlg] at hk
          refine hk.mono fun e w3 ⟨bk, e1, e2, e3, e4⟩ => ⟨bk, e1, F3, e3, (HRJ.out _).kept (S := fun _ => False) g1 (Turn.ofBelow _ e4) (fun _ _ h => h), g2.trans (Turn.ofBelow _ e4), g3, fun hh => ?_, hS2.goes (Turn.ofBelow _ e4) (fun j hj => Or.inl hj)⟩
          have := (HRJ.out _).lt g1 bk hh
          omega
        have hkf : lf.n.keys.length ≤ 15 := by
          have := (HOk.out.ok.okn lf hlm).few
          simp [Nd.keys]
          omega
        obtain ⟨kN, hkN⟩ : ∃ kN, lf.n.keys.length = kN := ⟨_, rfl⟩
        have HkN : Hid (lf.n.ks.length = kN) := by show _ = _; rw [← hkN]; simp [Nd.keys]
        rw [hkN] at HKy hkf
        have HLf : Hid (Ls[i]? = some lf ∧ lf ∈ T.ls ∧ lf.q = lq ∧ lf.g = lg) := ⟨hlf, hlm, hlq, hlg⟩
        clear hlf hlT hlm hlq hlg hll hj1 ht1 hf1 htl hkN
        go_wp2_with fail
        go_quiet ((go_at_call 45; exact Calls.quiet_of_same (HA.out _ true hah)))
        go_wp2_with (first | (go_at_call 30; go_must (refine (HNt.out _).mono ?_; rintro e w2 ⟨rfl, h2⟩; obtain ⟨y0, hk2⟩ := HKy.out w2 h2.out; have HK2 : Hid (Calls Try.prog 46 #[.pointer (some ⟨lg, 0, none⟩)] w2 _) := hk2; clear hk2)) | (go_at_call 46; go_must (refine HK2.out.mono ?_; rintro e w3 ⟨bk, rfl, h3⟩)))
        obtain ⟨F3, k1, k2, k3, k4, k5, k6⟩ := h3.out
        have HT3 : Hid (TextsAt w3 bk lf.n.keys ∧ ¬ F3 bk ∧ Still w3 F3 t b m c T p1 p2 p3 p4 ps fr to ∧ Turn F W w3 ∧ ∀ j, F3 j → F j ∨ W.heap.size ≤ j) := ⟨k1, k5, k6, k3, k4⟩
        obtain ⟨td, htd⟩ : ∃ td, scanK fr to (allK (Ls.take i)) = td := ⟨_, rfl⟩
        obtain ⟨s2, hs2⟩ : ∃ s2, (Ls.take i).map sn ++ [sn lf] = s2 := ⟨_, rfl⟩
        have HTD : Hid (scanK fr to (allK (Ls.take i)) = td ∧ (Ls.take i).map sn ++ [sn lf] = s2) := ⟨htd, hs2⟩
        have HJ3 : Hid (J (td, s2) w3 F3) := by rw [htd, hs2] at k2; exact k2
        have hTd : td.length < most := by rw [← htd]; exact HG.out.1
        clear k1 k2 k3 k4 k5 k6 h3 HNt HKy HK2 htd hs2 d1 d2 d3 d4 hrow z0 z2 y0 HG HS1 h2
        go_loopw [41] (fun v wr => ∃ j : Nat, j ≤ kN ∧ v = .int .i64 j ∧ Hid ((td ++ scanK fr to (lf.n.ks.take j)).length < most ∧ Goes (J (td ++ scanK fr to (lf.n.ks.take j), s2)) w3 wr F3)) (fun v _ => kN - (intOf v).toNat)
        case atStart => exact ⟨0, Nat.zero_le _, rfl, by simpa [scanK] using hTd, by simpa [scanK] using Goes.stay HJ3.out⟩
        case round =>
          obtain ⟨j, hj, rfl, HG2⟩ := hrel
          obtain ⟨htl2, F4, hj4, ht4, hf4⟩ := id HG2.out
          by_cases hjl : j < kN
          · have hjI : (j : Int) < (kN : Int) := by omega
            obtain ⟨⟨key, vx⟩, hp⟩ : ∃ p, lf.n.ks[j]? = some p := ⟨_, List.getElem?_eq_getElem (by rw [HkN.out]; exact hjl)⟩
            have HS4 : Hid (Still wr F4 t b m c T p1 p2 p3 p4 ps fr to) := HT3.out.2.2.1.goes ht4 hf4
            obtain ⟨d1, d2, d3, d4⟩ := HS4.out.cells
            have y0 : wr.cell? ⟨lq, 0, none⟩ = some (.pointer (some ⟨lg, 0, none⟩)) := by
              have := (HS4.out.tree.leafCells HLf.out.2.1).1
              rw [HLf.out.2.2.1, HLf.out.2.2.2] at this
              exact this
            have y1 : wr.cell? ⟨bk, j, none⟩ = some (.string key) := by
              have e := (ht4.block bk (lt_of HT3.out.1) HT3.out.2.1).trans HT3.out.1
              rw [cell_of e, List.getElem?_toArray]
              refine scells_get ?_
              unfold Nd.keys
              rw [List.getElem?_map, hp]
              rfl
            have HGt : Hid (∀ k, Calls Try.prog 34 #[.pointer (some ⟨lg, 0, none⟩), .string key] (wr.drewN k) fun e w' => e = .returned (.tuple #[.int .i64 vx, .bool true]) ∧ ∃ m, w' = (wr.drewN k).drewN m) := fun k => by
              have := get_yes ((HS4.out.tree.turn (Turn.ofBelow (fun _ => False) (below_drewN wr k)) (fun _ _ h => h)).nodeI HLf.out.2.1) hp
              rw [HLf.out.2.2.2] at this
              exact this
            have HA2 : Hid (∀ (u : World) (bb : Bool), ahead key to = bb → Calls Try.prog 45 #[.string key, .string to] u fun e w' => e = .returned (.bool bb) ∧ w' = u) := fun u bb hbb => by rw [← hbb]; exact isAhead_any key to u
            have hinB : inB fr to key = (!bl key fr && ahead key to) := rfl
            have HGs : Hid (∀ k, Goes (J (td ++ scanK fr to (lf.n.ks.take j), s2)) w3 (wr.drewN k) F3) := fun k => Goes.thenStay (HRJ.out _) HG2.out.2 (below_drewN wr k)
            by_cases hin : inB fr to key = true
            · have hb1 : bl key fr = false := inB_ge hin
              have hb2 : Op.bytesLess key.toList fr.toList = false := hb1
              have hah2 : ahead key to = true := by
                rw [hinB, hb1] at hin
                simpa using hin
              have HP : Hid (lf.n.ks[j]? = some (key, vx) ∧ inB fr to key = true) := ⟨hp, hin⟩
              have HF4 : Hid (J (td ++ scanK fr to (lf.n.ks.take j), s2) wr F4 ∧ Turn F3 w3 wr ∧ ∀ k, F4 k → F3 k ∨ w3.heap.size ≤ k) := ⟨hj4, ht4, hf4⟩
              clear hp hj4 ht4 hf4 htl2 hin hinB
              go_upto_region 9 with (go_at_call 34; go_must (refine (HGt.out 0).mono ?_; rintro e w5 ⟨rfl, m5, rfl⟩))
              obtain ⟨fn, tmps, assign, body, hy, hR⟩ := HY.out _ (key, vx) (wr.drewN m5) F4 ((HRJ.out _).kept (S := fun _ => False) HF4.out.1 (Turn.ofBelow _ (below_drewN wr m5)) (fun _ _ h => h))
              dsimp only [encK] at hy
              have HR : Hid (RoundIn Fence.wide n Try.prog l fn tmps assign body (wr.drewN m5) (yieldEnds J Jx (scOn most) (scOff most) (td ++ scanK fr to (lf.n.ks.take j), s2) (key, vx) (wr.drewN m5) F4)) := hR
              clear hR
              rw [← wpIn_wide (n := n + 1)]
              gi_wp2_with (refine ⟨trivial, ?_⟩; gi_at_call 45; refine (callsIn_wide.2 (HA2.out _ true hah2)).mono ?_; rintro e w6 ⟨rfl, rfl⟩)
              have HC : Hid (∀ (J' : ScS → World → (Nat → Prop) → Prop) (W5 : World) (s' : ScS), Goes (J' s') (wr.drewN m5) W5 F4 → Goes (J' s') w3 W5 F3) := fun J' W5 s' hg => by
                obtain ⟨-, ht4, hf4⟩ := HF4.out
                obtain ⟨F6, g1, g2, g3⟩ := hg
                refine ⟨F6, g1, (ht4.trans (Turn.ofBelow _ (below_drewN wr m5))).transNew g2 hf4, fun k hk => ?_⟩
                rcases g3 k hk with e | e
                · exact hf4 k e
                · right
                  have e' : wr.heap.size ≤ k := e
                  have := ht4.size
                  omega
              have HE : Hid (∀ W5, (td ++ scanK fr to (lf.n.ks.take j)).length + 1 = most → Goes (Jx (td ++ scanK fr to (lf.n.ks.take j) ++ [(key, vx)], s2)) (wr.drewN m5) W5 F4 → iterEnds J Jx (fun s => Scanned T.ls fr to most s.1 s.2) (fun s => Scanned T.ls fr to most s.1 s.2) W F (.returned (.tuple #[])) W5) := fun W5 hlen hg => by
                refine ⟨⟨_, rfl⟩, Or.inr ⟨(td ++ scanK fr to (lf.n.ks.take j) ++ [(key, vx)], s2), ?_, ?_⟩⟩
                · have he : l0 :: B = Ls.take i ++ lf :: Ls.drop (i + 1) := by rw [HCt.out.2]; exact leaf_at HLf.out.1
                  have e1 : td ++ scanK fr to (lf.n.ks.take j) ++ [(key, vx)] = scanK fr to (allK (Ls.take i) ++ lf.n.ks.take (j + 1)) := by
                    rw [scanK_append, HTD.out.1, scan_key_in HP.out.1 HP.out.2, List.append_assoc]
                  have e2 : s2 = (Ls.take i ++ [lf]).map sn := by rw [← HTD.out.2]; simp
                  show Scanned T.ls fr to most (td ++ scanK fr to (lf.n.ks.take j) ++ [(key, vx)]) s2
                  rw [e1, e2]
                  refine scanned_most HOk.out.ok HCt.out.1 he (take_split (j + 1)) ?_
                  rw [← e1, List.length_append]
                  exact hlen
                · have g2 := HC.out Jx W5 _ hg
                  obtain ⟨F6, g1, g2, g3⟩ := g2
                  obtain ⟨-, -, -, t3, f3⟩ := HT3.out
                  refine ⟨F6, g1, t3.transNew g2 f3, fun k hk => ?_⟩
                  rcases g3 k hk with e | e
                  · exact f3 k e
                  · right
                    have := t3.size
                    omega
              refine HR.out.mono ?_
              rintro e W5 (⟨rfl, s', ⟨ho1, rfl⟩, hg⟩ | ⟨rfl, s', ⟨ho1, rfl⟩, hg⟩)
              · have HX : Hid ((td ++ scanK fr to (lf.n.ks.take (j + 1))).length < most ∧ Goes (J (td ++ scanK fr to (lf.n.ks.take (j + 1)), s2)) w3 W5 F3) := by
                  rw [scan_key_in HP.out.1 HP.out.2, ← List.append_assoc]
                  refine ⟨?_, HC.out J W5 _ hg⟩
                  rw [List.length_append]
                  exact ho1
                clear hg ho1 hy
                gi_wp2
                go_wp2_with fail
                exact ⟨⟨j + 1, by omega, by go_num, HX⟩, by simp [intOf]; omega⟩
              · have HX : Hid (iterEnds J Jx (fun s => Scanned T.ls fr to most s.1 s.2) (fun s => Scanned T.ls fr to most s.1 s.2) W F (.returned (.tuple #[])) W5) := HE.out W5 ho1 hg
                clear hg ho1 hy
                gi_wp2
                go_wp2_with fail
                refine bodyPost_ret (results_none rfl _ _ _) rfl ?_
                exact HX.out
            · have hin' : inB fr to key = false := by simpa using hin
              have HX : Hid (∀ k, (td ++ scanK fr to (lf.n.ks.take (j + 1))).length < most ∧ Goes (J (td ++ scanK fr to (lf.n.ks.take (j + 1)), s2)) w3 (wr.drewN k) F3) := fun k => by
                rw [scan_key_out hp hin']
                exact ⟨htl2, HGs.out k⟩
              cases hbb : bl key fr with
              | true =>
                have hb2 : Op.bytesLess key.toList fr.toList = true := hbb
                clear hp hj4 ht4 hf4 htl2 hin hin' hinB hbb
                go_wp2_with (go_at_call 34; go_must (refine (HGt.out 0).mono ?_; rintro e w5 ⟨rfl, m5, rfl⟩))
                exact ⟨⟨j + 1, by omega, by go_num, HX.out _⟩, by simp [intOf]; omega⟩
              | false =>
                have hb2 : Op.bytesLess key.toList fr.toList = false := hbb
                have hah2 : ahead key to = false := by
                  rw [hinB, hbb] at hin'
                  simpa using hin'
                clear hp hj4 ht4 hf4 htl2 hin hin' hinB hbb
                go_wp2_with (first | (go_at_call 34; go_must (refine (HGt.out 0).mono ?_; rintro e w5 ⟨rfl, m5, rfl⟩)) | (go_at_call 45; go_must (refine (HA2.out _ false hah2).mono ?_; rintro e w6 ⟨rfl, rfl⟩)))
                exact ⟨⟨j + 1, by omega, by go_num, HX.out _⟩, by simp [intOf]; omega⟩
          · have hjI : ¬ (j : Int) < (kN : Int) := by omega
            obtain rfl : j = kN := by omega
            have HX : Hid ((scanK fr to (allK (Ls.take (i + 1)))).length < most ∧ Goes (J (scanK fr to (allK (Ls.take (i + 1))), (Ls.take (i + 1)).map sn)) W wr F) := by
              have e : lf.n.ks.take j = lf.n.ks := List.take_of_length_le (Nat.le_of_eq HkN.out)
              rw [e] at htl2 hj4
              rw [scan_leaf HLf.out.1, sn_leaf HLf.out.1, HTD.out.1, HTD.out.2]
              refine ⟨htl2, F4, hj4, HT3.out.2.2.2.1.transNew ht4 HT3.out.2.2.2.2, fun k hk => ?_⟩
              rcases hf4 k hk with e | e
              · exact HT3.out.2.2.2.2 k e
              · right
                have := HT3.out.2.2.2.1.size
                omega
            clear hj4 ht4 hf4 htl2
            go_wp2_with fail
            exact ⟨⟨i + 1, by omega, by go_num, HX⟩, by simp [intOf]; omega⟩
      · have hah' : ahead ll to = false := by simpa using hah
        have HD : Hid (∀ k, iterEnds J Jx (fun s => Scanned T.ls fr to most s.1 s.2) (fun s => Scanned T.ls fr to most s.1 s.2) W F (.returned (.tuple #[])) (wr.drewN k)) := fun k => by
          refine ⟨⟨_, rfl⟩, Or.inl ⟨_, ?_, Goes.thenStay (HRJ.out _) HG.out.2 (below_drewN wr k)⟩⟩
          have he : l0 :: B = Ls.take i ++ lf :: Ls.drop (i + 1) := by rw [HCt.out.2]; exact leaf_at hlf
          have ha2 : to ≠ ⟨#[]⟩ ∧ bl ll to = false := by
            unfold ahead at hah'
            simpa using hah'
          exact scanned_end HOk.out.ok HCt.out.1 he (by rw [hll]; exact ha2.2) ha2.1 htl
        clear hlf hlT hlm hlq hlg hll hah hj1 ht1 hf1 htl
        go_wp2_with fail
        go_quiet ((go_at_call 45; exact Calls.quiet_of_same (HA.out _ false hah')))
        go_wp2_with fail
        refine bodyPost_ret (results_none rfl _ _ _) rfl ?_
        exact HD.out _
    · have hiI : ¬ (i : Int) < (M : Int) := by omega
      obtain rfl : i = M := by omega
      have HD : Hid (iterEnds J Jx (fun s => Scanned T.ls fr to most s.1 s.2) (fun s => Scanned T.ls fr to most s.1 s.2) W F (.returned (.tuple #[])) wr) := by
        refine ⟨⟨_, rfl⟩, Or.inl ⟨_, ?_, HG.out.2⟩⟩
        have e : Ls.take i = l0 :: B := by rw [HCt.out.2]; exact List.take_of_length_le (Nat.le_of_eq HLn.out)
        have h1 := HG.out.1
        rw [e] at h1 ⊢
        exact scanned_all HOk.out.ok HCt.out.1 h1
      clear hj1 ht1 hf1 htl
      go_wp2_with fail
      go_returns
      exact HD.out

end Go.Proofs.Ytoknebbkpkcomaa
