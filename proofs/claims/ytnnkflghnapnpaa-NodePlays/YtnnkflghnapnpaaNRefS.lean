/- The document's node: Split. -/
import Derived.Test.YtnnkflghnapnpaaNRefA
namespace Go.Proofs.Ytnnkflghnapnpaa
open Go.RowKit

/-- within a call whose objects are older: from w to wr the objects of F became I, and the blocks L are the call's own -/
def MidS (I : World → (Nat → Prop) → Prop) (w wr : World) (F : Nat → Prop) (L : List (Nat × Obj)) : Prop :=
  ∃ F', I wr F' ∧ Turn F w wr ∧ (∀ i, F' i → F i ∨ w.heap.size ≤ i) ∧ ∀ p ∈ L, ¬ F' p.1 ∧ wr.heap[p.1]? = some p.2 ∧ w.heap.size ≤ p.1
section
variable {I J : World → (Nat → Prop) → Prop} {w wr w' : World} {F : Nat → Prop} {L : List (Nat × Obj)}
theorem MidS.goes (h : MidS I w wr F L) : Goes I w wr F := by
  obtain ⟨F', h1, h2, h3, _⟩ := h
  exact ⟨F', h1, h2, h3⟩
theorem MidS.at (h : MidS I w wr F L) {b : Nat} {o : Obj} (hb : (b, o) ∈ L) : wr.heap[b]? = some o := by
  obtain ⟨_, _, _, _, h⟩ := h
  exact (h _ hb).2.1
theorem MidS.call (h : MidS I w wr F L) : ∃ A, I wr A ∧ ∀ w' I', Goes I' wr w' A → MidS I' w w' F L := by
  obtain ⟨F', h1, h2, h3, h4⟩ := h
  refine ⟨F', h1, fun w' I' hg => ?_⟩
  obtain ⟨F'', k1, k2, k3⟩ := hg
  refine ⟨F'', k1, h2.transNew k2 h3, fun i hi => ?_, fun p hp => ?_⟩
  · rcases k3 i hi with h | h
    · exact h3 i h
    · exact Or.inr (Nat.le_trans h2.size h)
  · obtain ⟨x1, x2, x3⟩ := h4 p hp
    refine ⟨fun hF => ?_, (k2.block p.1 (lt_of x2) x1).trans x2, x3⟩
    rcases k3 _ hF with h | h
    · exact x1 h
    · have := lt_of x2; omega
theorem MidS.stay (R : Res I) (h : MidS I w wr F L) (hb : Below wr.heap.size wr w') : MidS I w w' F L := by
  obtain ⟨A, h1, h2⟩ := h.call
  exact h2 w' I (Goes.thenStay R (Goes.stay h1) hb)
theorem MidS.left (hJ : Res J) (h : MidS (Sep I J) w wr F L) : ∃ A, I wr A ∧ ∀ w' I', Goes I' wr w' A → MidS (Sep I' J) w w' F L := by
  obtain ⟨B, h1, h2⟩ := h.call
  obtain ⟨A, B', k1, k2, k3, k4, k5, k6⟩ := id h1
  refine ⟨A, k1, fun w' I' hg => h2 w' _ ?_⟩
  obtain ⟨A', g1, g2, g3⟩ := hg
  refine ⟨fun i => A' i ∨ B' i, ⟨A', B', g1, hJ.kept k2 g2 (fun i hi hA => k3 i hA hi), fun i hi hB => ?_, fun _ hi => Or.inl hi, fun _ hi => Or.inr hi, fun _ hi => hi⟩, g2.mono k4, fun i hi => ?_⟩
  · rcases g3 i hi with h | h
    · exact k3 i h hB
    · have := hJ.lt k2 i hB; omega
  · rcases hi with hi | hi
    · rcases g3 i hi with h | h
      · exact Or.inl (k4 i h)
      · exact Or.inr h
    · exact Or.inl (k5 i hi)
theorem MidS.swap (h : MidS (Sep I J) w wr F L) : MidS (Sep J I) w wr F L := by
  obtain ⟨F', h1, h2⟩ := h
  exact ⟨F', h1.swap, h2⟩
theorem MidS.right (hI : Res I) (h : MidS (Sep I J) w wr F L) : ∃ A, J wr A ∧ ∀ w' J', Goes J' wr w' A → MidS (Sep I J') w w' F L := by
  obtain ⟨A, h1, h2⟩ := MidS.left hI h.swap
  exact ⟨A, h1, fun w' J' hg => (h2 w' J' hg).swap⟩
end

section
variable {w : World} {r : Nat} {n : Nd} {F : Nat → Prop}
theorem RefI.setS (h : RefI r n w F) {S : Int} (hS : S = n.spl + 1) : Goes (RefI r { n with spl := n.spl + 1 }) w (w.setCell ⟨r, 4, none⟩ (.int .i64 S)) F := by
  obtain ⟨kb, vb, KS, VS, hG, hF⟩ := h
  have ho := hG.ok
  have t1 : Turn (fun j => j = r) w (w.setCell ⟨r, 4, none⟩ (.int .i64 S)) := Turn.setCell w ⟨r, 4, none⟩ _ rfl
  refine RefG.goesTo hF (Below.refl _ _) (t1.mono fun _ h => Or.inl h) (KS' := KS) (VS' := VS) ⟨?_, (t1.block kb (lt_of hG.ks) (Ne.symm hG.ne1)).trans hG.ks, (t1.block vb (lt_of hG.vs) (Ne.symm hG.ne2)).trans hG.vs, hG.kl, hG.vl, hG.hold, ⟨ho.len, ho.may, ho.few, ho.rise, ho.short, ho.nums⟩⟩
  have := heap_setCell_same (b := r) hG.st 4 (.int .i64 S)
  rw [this, hS]
  rfl

theorem osplit_few (h : RefI r n w F) (hf : n.ks.length < 2) : Calls Try.prog 28 #[.pointer (some ⟨r, 0, none⟩)] w fun e w' => e = .returned (.tuple #[.pointer none, .string ⟨#[]⟩, .int .i64 4]) ∧ Below w.heap.size w w' := by
  obtain ⟨N, hN⟩ : ∃ N, n.ks.length = N := ⟨_, rfl⟩
  have HA : Hid (Calls Try.prog 45 #[.pointer (some ⟨r, 0, none⟩)] w fun e w' => ∃ A c, e = .returned (.slice A N c) ∧ Below w.heap.size w w') := (oall_any h).mono fun e w' ⟨A, c, h1, _, h3⟩ => ⟨A, c, by rw [h1, hN], h3⟩
  have hN2 : (N : Int) < 2 := by omega
  clear h hf hN
  go_enter Try.func28, Try.ntmps28
  go_wp2_with (go_at_call 45; go_must (refine HA.out.mono ?_; rintro e w1 ⟨A, c, rfl, hb1⟩))
  go_ret3
  exact ⟨rfl, hb1⟩

def SplitO (r : Nat) (n : Nd) (F : Nat → Prop) (w : World) (e : Ending) (w' : World) : Prop :=
  ∃ q p, n.ks[n.stay]? = some p ∧ e = .returned (.tuple #[.pointer (some ⟨q, 0, none⟩), .string p.1, .int .i64 0]) ∧ Goes (Sep (RefI r n.left) (RefI q n.right)) w w' F

abbrev Mids (r : Nat) (a : Nd) (q : Nat) (b : Nd) (w wr : World) (F : Nat → Prop) (L : List (Nat × Obj)) : Prop := MidS (Sep (RefI r a) (RefI q b)) w wr F L

set_option maxRecDepth 100000 in
set_option maxHeartbeats 4000000 in
theorem osplit_ok (h : RefI r n w F) (hf : 2 ≤ n.ks.length) (hI : 0 ≤ n.ins ∧ n.ins < 800000) (hS : 0 ≤ n.spl ∧ n.spl < 900000) : Calls Try.prog 28 #[.pointer (some ⟨r, 0, none⟩)] w (SplitO r n F w) := by
  have ho := h.ok
  have hfew := ho.few
  obtain ⟨N, hN⟩ : ∃ N, n.ks.length = N := ⟨_, rfl⟩
  obtain ⟨M, hM⟩ : ∃ M, n.stay = M := ⟨_, rfl⟩
  have hMN : M = N - N / 2 := by rw [← hM, ← hN]; rfl
  have HA : Hid (Calls Try.prog 45 #[.pointer (some ⟨r, 0, none⟩)] w fun e w' => ∃ g cap, e = .returned (.slice (some ⟨g, 0, none⟩) N cap) ∧ Hid (N ≤ cap ∧ cap ≤ maxLen) ∧ w.heap.size ≤ g ∧ ∃ cur, Hid (w'.heap[g]? = some (.cells cur 9 (0, 0)) ∧ ∀ (j : Nat) (p : Kv), n.ks[j]? = some p → cur[j]? = some (.string p.1)) ∧ Below w.heap.size w w') := (oall_any h).mono fun e w' ⟨A, c, h1, h2, h3⟩ => by
    rw [hN] at h1 h2
    rcases h2.2 with ⟨_, hn⟩ | ⟨g, cap, cur, hv, hbg, hg, x1, x2, _, x4⟩
    · omega
    · injection hv with v1 v2 v3
      subst v1 v3
      refine ⟨g, c, h1, ⟨x1, x2⟩, hbg, cur, ⟨hg, fun j p hp => ?_⟩, h3⟩
      have hjl := (List.getElem?_eq_some_iff.1 hp).1
      have hk : n.keys[j]? = some p.1 := by unfold Nd.keys; rw [List.getElem?_map, hp]; rfl
      have := scells_get hk
      rw [← x4, List.getElem?_take_of_lt (by omega), Array.getElem?_toList] at this
      exact this
  have HNew : Hid (∀ u : World, Below w.heap.size w u → ∀ (g : Nat) (o : Obj), w.heap.size ≤ g → u.heap[g]? = some o → Calls Try.prog 19 #[] u fun e w' => ∃ q, e = .returned (.pointer (some ⟨q, 0, none⟩)) ∧ Hid (Mids r n q (rgt n 0) w w' F [(g, o)])) := fun u hb g o hg hgo =>
    (onew_any u).mono fun e w' ⟨q, A, h1, h2, h3, h4⟩ => ⟨q, h1, by
      have hb2 : Below w.heap.size w w' := hb.trans (h4.mono hb.size)
      have hw' : RefI r n w' F := (refI_res r n).kept (S := fun _ => False) h (Turn.ofBelow _ hb2) (fun _ _ h => h)
      rw [rgt_zero]
      refine ⟨fun i => F i ∨ A i, Sep.mk hw' h2 (fun i hi hA => ?_), Turn.ofBelow _ hb2, fun i hi => ?_, fun p hp => ?_⟩
      · have a1 := (refI_res r n).lt h i hi
        have a2 := h3 i hA
        have a3 := hb.size
        omega
      · rcases hi with h | h
        · exact Or.inl h
        · exact Or.inr (Nat.le_trans hb.size (h3 i h))
      · rw [List.mem_singleton.1 hp]
        refine ⟨fun hh => ?_, (h4.block g (lt_of hgo)).trans hgo, hg⟩
        rcases hh with h' | h'
        · have := (refI_res r n).lt h _ h'
          dsimp only at this
          omega
        · have a1 := h3 _ h'
          have a2 := lt_of hgo
          dsimp only at a1
          omega⟩
  obtain ⟨p, hp⟩ : ∃ p, n.ks[M]? = some p := ⟨_, List.getElem?_eq_getElem (by omega)⟩
  obtain ⟨k0, hk0⟩ : ∃ k0, p.1 = k0 := ⟨_, rfl⟩
  have HP0 : Hid (n.ks[n.stay]? = some p ∧ p.1 = k0 ∧ n.ks[M]? = some p) := ⟨by rw [hM]; exact hp, hk0, hp⟩
  have HN : Hid (n.ks.length = N ∧ n.stay = M ∧ n.Ok) := ⟨hN, hM, ho⟩
  have HII : Hid ((0 ≤ n.ins ∧ n.ins < 800000) ∧ (0 ≤ n.spl ∧ n.spl < 900000)) := ⟨hI, hS⟩
  rw [hN] at hf hfew
  have hN2 : ¬ (N : Int) < 2 := by omega
  obtain ⟨Z, hZ⟩ : ∃ Z, N / 2 = Z := ⟨_, rfl⟩
  rw [hZ] at hMN
  have HZ : Hid (N / 2 = Z) := hZ
  have hZN : M + Z = N := by omega
  have hq1 : ((N : Int) + 1) / 2 = (M : Int) := by omega
  have hq2 : Int.tdiv ((N : Int) + 1) 2 = (M : Int) := by rw [Int.tdiv_eq_ediv_of_nonneg (by omega)]; omega
  clear h ho hN hM hp hk0 hI hS hZ hMN
  go_enter Try.func28, Try.ntmps28
  go_wp2_with fail
  refine HA.out.mono ?_
  rintro e w1 ⟨g, cap, rfl, HCap, hgw, cur, HCur, hb1⟩
  have hcap1 := HCap.out.1
  have hcap2 := HCap.out.2
  unfold maxLen at hcap2
  have HNw : Hid (Calls Try.prog 19 #[] w1 fun e w' => ∃ q, e = .returned (.pointer (some ⟨q, 0, none⟩)) ∧ Hid (Mids r n q (rgt n 0) w w' F [(g, .cells cur 9 (0, 0))])) := HNew.out w1 hb1 g _ hgw HCur.out.1
  have HCr : Hid (∀ (j : Nat) (p : Kv), n.ks[j]? = some p → cur[j]? = some (.string p.1)) := HCur.out.2
  clear HA HNew HCur HCap hgw hb1
  go_wp2_with fail
  refine HNw.out.mono ?_
  rintro e w2 ⟨q, rfl, HQ⟩
  clear HNw
  go_wp2_with fail
  go_loopw [8] (fun v wr => ∃ j : Nat, j ≤ Z ∧ v = .int .i64 ((M + j : Nat) : Int) ∧ Hid (Mids r n q (rgt n j) w wr F [(g, .cells cur 9 (0, 0))])) (fun v _ => N - (intOf v).toNat)
  case atStart => exact ⟨0, Nat.zero_le _, rfl, HQ⟩
  case round =>
    clear HQ
    obtain ⟨j, hj, rfl, HPr⟩ := hrel
    by_cases hlt : j < Z
    · have hatI : ((M + j : Nat) : Int) < (N : Int) := by omega
      have hat : M + j < n.ks.length := by rw [HN.out.1]; omega
      obtain ⟨⟨kk, vv⟩, ht⟩ : ∃ t, n.ks[M + j]? = some t := ⟨_, List.getElem?_eq_getElem hat⟩
      have HKc : Hid (∀ u : World, u.heap[g]? = some (.cells cur 9 (0, 0)) → u.cell? ⟨g, M + j, none⟩ = some (.string kk)) := fun u hu => by rw [cell_of hu]; exact HCr.out _ _ ht
      have d0 := HKc.out wr (HPr.out.at (by simp))
      have HG1 : Hid (Calls Try.prog 24 #[.pointer (some ⟨r, 0, none⟩), .string kk] wr fun e w' => e = .returned (.tuple #[.int .i64 vv, .bool true]) ∧ Hid (Mids r n q (rgt n j) w w' F [(g, .cells cur 9 (0, 0))]) ∧ w'.cell? ⟨g, M + j, none⟩ = some (.string kk)) := by
        obtain ⟨A, hA, hA2⟩ := MidS.left (refI_res q (rgt n j)) HPr.out
        exact (oget_yes hA ht).mono fun e w' ⟨h1, h2⟩ => ⟨h1, HPr.out.stay (Sep.res (refI_res _ _) (refI_res _ _)) h2, HKc.out w' ((HPr.out.stay (Sep.res (refI_res _ _) (refI_res _ _)) h2).at (by simp))⟩
      have HP1 : Hid (∀ u : World, Mids r n q (rgt n j) w u F [(g, .cells cur 9 (0, 0))] → Calls Try.prog 22 #[.pointer (some ⟨q, 0, none⟩), .string kk, .int .i64 vv] u fun e w' => e = .returned (.tuple #[.int .i64 0, .bool false, .int .i64 0]) ∧ Hid (Mids r n q (rgt n (j + 1)) w w' F [(g, .cells cur 9 (0, 0))])) := fun u hu => by
        obtain ⟨B, hB, hB2⟩ := MidS.right (refI_res r n) hu
        have hN' := HN.out.1
        have hM' := HN.out.2.1
        have hj2 : j < n.ks.length / 2 := by rw [hN', HZ.out]; exact hlt
        have ht2 : n.ks[n.stay + j]? = some (kk, vv) := by rw [hM']; exact ht
        obtain ⟨a1, a2⟩ := rgt_at HN.out.2.2 hj2 ht2
        have hmem := List.mem_of_getElem? ht
        have hrl := rgt_length (n := n) (j := j) (by omega)
        have := oput_new hB a1 a2 (HN.out.2.2.short _ hmem) (by omega) (HN.out.2.2.nums _ hmem) ⟨(by show (0 : Int) ≤ j; omega), (by show (j : Int) < 1000000; omega)⟩
        rw [rgt_next HN.out.2.2 hj2 ht2] at this
        exact this.mono fun e w' ⟨h1, h2⟩ => ⟨h1, hB2 w' _ h2⟩
      clear ht hat HPr HKc
      go_wp2_with (first
        | (go_at_call 24; go_must (refine HG1.out.mono ?_; rintro e w3 ⟨rfl, H3, d1⟩))
        | (go_at_call 22; go_must (refine (HP1.out _ H3.out).mono ?_; rintro e w4 ⟨rfl, H4⟩)))
      go_roundw
      case rel => exact ⟨j + 1, by omega, by go_num, H4⟩
      case measure => simp [intOf]; omega
    · have hatI : ¬ ((M + j : Nat) : Int) < (N : Int) := by omega
      obtain rfl : j = Z := by omega
      have HQ1 : Hid (Mids r (lft n 0) q n.right w wr F [(g, .cells cur 9 (0, 0))]) := by
        have := HPr.out
        rw [← HZ.out, ← HN.out.1, rgt_end] at this
        rw [lft_zero]
        exact this
      clear HPr
      go_wp2_with fail
      go_loopw [11] (fun v wr => ∃ i : Nat, i ≤ j ∧ v = .int .i64 ((N : Int) - 1 - (i : Int)) ∧ Hid (Mids r (lft n i) q n.right w wr F [(g, .cells cur 9 (0, 0))])) (fun v _ => (intOf v + 1).toNat)
      case atStart => exact ⟨0, Nat.zero_le _, by go_num, HQ1⟩
      case round =>
        clear HQ1
        obtain ⟨i, hi, rfl, HPi⟩ := hrel
        by_cases hlt2 : i < j
        · have hI1 : (M : Int) ≤ (N : Int) - 1 - (i : Int) := by omega
          obtain ⟨y, hy⟩ : ∃ y, N - i - 1 = y := ⟨_, rfl⟩
          have hyI : (N : Int) - 1 - (i : Int) = (y : Int) := by omega
          have hyN : (y : Int) < (N : Int) := by omega
          obtain ⟨⟨kk, vv⟩, ht⟩ : ∃ t, n.ks[y]? = some t := ⟨_, List.getElem?_eq_getElem (by rw [HN.out.1]; omega)⟩
          have d0 : wr.cell? ⟨g, y, none⟩ = some (.string kk) := by rw [cell_of (HPi.out.at (b := g) (o := .cells cur 9 (0, 0)) (by simp))]; exact HCr.out _ _ ht
          have HTk : Hid (Calls Try.prog 26 #[.pointer (some ⟨r, 0, none⟩), .string kk] wr fun e w' => e = .returned (.tuple #[.int .i64 vv, .int .i64 0]) ∧ Hid (Mids r (lft n (i + 1)) q n.right w w' F [(g, .cells cur 9 (0, 0))])) := by
            have hN' := HN.out.1
            obtain ⟨A, hA, hA2⟩ := MidS.left (refI_res q n.right) HPi.out
            have ht2 : (lft n i).ks[n.ks.length - i - 1]? = some (kk, vv) := by rw [lft_get (by omega), hN', hy]; exact ht
            have hins : 0 ≤ (lft n i).ins ∧ (lft n i).ins < 1000000 := by
              have := HII.out.1
              show 0 ≤ n.ins + (i : Int) ∧ n.ins + (i : Int) < 1000000
              omega
            have := otake_yes hA ht2 hins
            rw [lft_next HN.out.2.2 (by omega)] at this
            exact this.mono fun e w' ⟨h1, h2⟩ => ⟨h1, hA2 w' _ h2⟩
          have HY : Hid ((y : Int) = (N : Int) - 1 - (i : Int)) := hyI.symm
          rw [hyI] at hI1 ⊢
          clear ht hyI HPi hy
          go_wp2_with (go_at_call 26; go_must (refine HTk.out.mono ?_; rintro e w5 ⟨rfl, H5⟩))
          go_roundw
          case rel => exact ⟨i + 1, by omega, (by have := HY.out; congr 1; omega), H5⟩
          case measure => simp [intOf]
        · have hI1 : ¬ (M : Int) ≤ (N : Int) - 1 - (i : Int) := by omega
          obtain rfl : i = j := by omega
          obtain ⟨A, hA, hA2⟩ := MidS.left (refI_res q n.right) HPi.out
          obtain ⟨kb, vb, KS, VS, hG, -⟩ := id hA
          have d4 : wr.cell? ⟨r, 4, none⟩ = some (.int .i64 n.spl) := hG.cells.c4
          have f4 := hG.cells.fr 4
          have hgr : g ≠ r := by
            intro e
            have h1 := HPi.out.at (b := g) (o := .cells cur 9 (0, 0)) (by simp)
            rw [e, hG.st] at h1
            simp [refO] at h1
          have hrg := Ne.symm hgr
          obtain ⟨S, hS⟩ : ∃ S, n.spl = S := ⟨_, rfl⟩
          have HEnd : Hid (Mids r n.left q n.right w (wr.setCell ⟨r, 4, none⟩ (.int .i64 (S + 1))) F [(g, .cells cur 9 (0, 0))]) := by
            have hg := hA.setS (S := S + 1) (by rw [← hS]; rfl)
            have := hA2 _ _ hg
            rw [← lft_end, HN.out.1, HZ.out]
            exact this
          have d0 : wr.cell? ⟨g, M, none⟩ = some (.string k0) := by
            rw [cell_of (HPi.out.at (b := g) (o := .cells cur 9 (0, 0)) (by simp)), ← HP0.out.2.1]
            exact HCr.out _ _ HP0.out.2.2
          have s0 : 0 ≤ S := by rw [← hS]; exact HII.out.2.1
          have s1 : S < 900000 := by rw [← hS]; exact HII.out.2.2
          have hMNI : (M : Int) < (N : Int) := by omega
          rw [hS] at d4
          clear hA hA2 hS hG HPi
          go_wp2_with fail
          go_quiet (fail)
          go_wp2_with fail
          go_ret3
          exact ⟨q, p, HP0.out.1, by rw [HP0.out.2.1]; rfl, MidS.goes (HEnd.out.stay (Sep.res (refI_res _ _) (refI_res _ _)) (below_drewN _ _))⟩
end

end Go.Proofs.Ytnnkflghnapnpaa
