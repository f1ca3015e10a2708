/- SchemaPlays's walk (written by zplays.py). -/
import Derived.Test.YtnboanlhdllhnaaGreatZHs
namespace Go.Proofs.YtnboanlhdllhnaaGreat
open Go.RowKit Go.Maps

theorem among_num (x n : Int) (_hn : 1 ≤ n) : (x.tmod n + n) % n = x % n := by
  have h3 : x.tmod n = x % n ∨ x.tmod n = x % n - n := by
    rw [Int.tmod_eq_emod]
    split
    · left; omega
    · right; omega
  rcases h3 with e | e
  · rw [e, Int.add_emod_right, Int.emod_emod]
  · rw [e, show x % n - n + n = x % n from by omega, Int.emod_emod]
set_option maxHeartbeats 400000 in
theorem among_any (x n : Int) (w : World) (hn : 1 ≤ n) (hn2 : n ≤ 1000) :
    Calls Tryz.prog 7 #[.int .i64 x, .int .i64 n] w fun e w' => e = .returned (.int .i64 (x % n)) ∧ w' = w := by
  have hl : -n < x.tmod n ∧ x.tmod n < n := ⟨Int.lt_tmod_of_pos x (by omega), Int.tmod_lt_of_pos x (by omega)⟩
  have h1 := hl.1
  have h2 := hl.2
  have HN : Hid ((x.tmod n + n) % n = x % n) := among_num x n hn
  have hz : (n == 0) = false := by rw [beq_eq_false_iff_ne]; omega
  clear hl
  go_enter Tryz.func7, Tryz.ntmps7
  go_wp2
  go_ret
  exact ⟨ret_int HN.out, rfl⟩
theorem crL_few {L : Cat} (h : L.length ≤ 4096) (T : Tab) : (crL L T).length ≤ 4096 := by
  unfold crL
  split
  · rename_i h0
    obtain ⟨_, h2, h3⟩ := crE_zero.1 h0
    unfold Dk.putL
    rw [Dk.length_insL, Dk.delL_other (Dk.getL_none h2)]
    omega
  · exact h
theorem drL_few {L : Cat} (h : L.length ≤ 4096) (k : ByteArray) : (drL L k).length ≤ 4096 := Nat.le_trans (List.length_filter_le _ _) h
theorem act_cells {w : World} {b : Nat} {x0 x1 x2 x3 x4 x5 : Value} {t : TypeId} (h : w.heap[b]? = some (.cells #[x0, x1, x2, x3, x4, x5] t (0, 0))) : w.cell? ⟨b, 0, none⟩ = some x0 ∧ w.cell? ⟨b, 1, none⟩ = some x1 ∧ w.cell? ⟨b, 2, none⟩ = some x2 ∧ w.cell? ⟨b, 3, none⟩ = some x3 ∧ w.cell? ⟨b, 4, none⟩ = some x4 ∧ w.cell? ⟨b, 5, none⟩ = some x5 :=
  ⟨by rw [cell_of h]; rfl, by rw [cell_of h]; rfl, by rw [cell_of h]; rfl, by rw [cell_of h]; rfl, by rw [cell_of h]; rfl, by rw [cell_of h]; rfl⟩
theorem both_start {w w1 : World} {c : Nat} {F : Nat → Prop} (h : CatI c [] w1 F) (hF : ∀ i, F i → w.heap.size ≤ i) (hb : Below w.heap.size w w1) : HS c [] w1.heap.size [] w (w1.alloc (.cells #[.slice none 0 0] 28)) 0 0 := by
  have hb1 : Below w1.heap.size w1 (w1.alloc (.cells #[.slice none 0 0] 28)) := (Below.refl _ w1).alloc (Nat.le_refl _) _
  refine ⟨F, rcFoot w1.heap.size Sl.nil [], (catI_res _ _).kept h (Turn.ofBelow (fun _ => False) hb1) (fun _ _ h => h), ⟨Sl.nil, [], ⟨heap_new w1 _, World.ownsRow_nil _ _ _ _, rfl, (fun _ h => by cases h), Nat.zero_le _⟩, rfl, fun _ => Iff.rfl⟩, fun i hA hB => ?_, fun i hi => ⟨?_, Or.inr (Nat.zero_le _)⟩, hb.trans (hb1.mono hb.size), Nat.zero_le _⟩
  · have := (catI_res _ _).lt h i hA
    rcases hB with e | e | ⟨_, e, _⟩
    · omega
    · cases e
    · cases e
  · rcases hi with hi | hi
    · exact hF i hi
    · rcases hi with e | e | ⟨_, e, _⟩
      · rw [e]; exact hb.size
      · cases e
      · cases e

namespace PlaysL

set_option maxRecDepth 100000 in
set_option maxHeartbeats 16000000 in
theorem walk (v0 : Value) (L0 : List Av) (w : World) (h0 : SliceAt w v0 6 enA L0) (hZ : ∀ a ∈ L0, a.Ok w) :
    Calls Tryz.prog 3 #[v0] w fun e w' => e = .returned (.bool true) ∧ Below w.heap.size w w' := by
  obtain ⟨av, cv, rfl, hlc, hcm, hx⟩ := h0.opened
  unfold maxLen at hcm
  have HX : Hid (∀ u, Below w.heap.size w u → ∀ i a, L0[i]? = some a → ∃ b off, av = some ⟨b, off, none⟩ ∧ u.cell? ⟨b, off + i * 6, none⟩ = some (.int .i64 a.k) ∧ u.cell? ⟨b, off + i * 6 + 1, none⟩ = some (.string a.nm) ∧ u.cell? ⟨b, off + i * 6 + 2, none⟩ = some (.string a.t.T.nm) ∧ u.cell? ⟨b, off + i * 6 + 3, none⟩ = some a.t.cv ∧ u.cell? ⟨b, off + i * 6 + 4, none⟩ = some (.int .i64 a.t.T.key) ∧ u.cell? ⟨b, off + i * 6 + 5, none⟩ = some a.t.iv) := fun u hu i a ha => by
    obtain ⟨hi, rfl⟩ := List.getElem?_eq_some_iff.1 ha
    obtain ⟨b, off, e, _, hc⟩ := hx u hu i hi
    exact ⟨b, off, e, hc 0 _ rfl, hc 1 _ rfl, hc 2 _ rfl, hc 3 _ rfl, hc 4 _ rfl, hc 5 _ rfl⟩
  have HOk : Hid (∀ a ∈ L0, a.Ok w) := hZ
  obtain ⟨m, hm⟩ : ∃ m, L0.length = m := ⟨_, rfl⟩
  have HM : Hid (L0.length = m) := hm
  rw [hm] at hlc ⊢
  have HN1 : Hid (Calls Tryz.prog 6 #[] w fun e w' => ∃ c, e = .returned (.pointer (some ⟨c, 0, none⟩)) ∧ Hid (∃ F, CatI c [] w' F ∧ (∀ i, F i → w.heap.size ≤ i) ∧ Below w.heap.size w w')) := new_any w
  have HWk : Hid (∀ u, Below w.heap.size w u → Calls Tryz.prog 19 #[] u fun e w' => e = .returned (.bool true) ∧ Hid (Below w.heap.size w w')) := fun u hu => (works_any u).mono fun e w' ⟨e1, e2⟩ => ⟨e1, hu.trans (e2.mono hu.size)⟩
  have HAm : Hid (∀ (x : Int) u, Calls Tryz.prog 7 #[.int .i64 x, .int .i64 4] u fun e w' => e = .returned (.int .i64 (x % 4)) ∧ w' = u) := fun x u => among_any x 4 u (by decide) (by decide)
  have hgf := guardFlt
  clear h0 hx hZ hm
  go_enter Tryz.func3, Tryz.ntmps3
  go_wp2_with (go_at_call 6; go_must (refine HN1.out.mono ?_; rintro e wa ⟨c0, rfl, KA⟩))
  obtain ⟨rb, hrb⟩ : ∃ rb, wa.heap.size = rb := ⟨_, rfl⟩
  have HB0 : Hid (HS c0 [] rb [] w (wa.alloc (.cells #[.slice none 0 0] 28)) 0 0) := by
    obtain ⟨F, f1, f2, f3⟩ := KA.out
    rw [← hrb]
    exact both_start f1 f2 f3
  rw [hrb]
  clear HN1 KA hrb
  go_loopw [3, 5] (fun v3 v5 wr => ∃ (i c : Nat) (L : Cat), i ≤ 100 ∧ v3 = .pointer (some ⟨c, 0, none⟩) ∧ v5 = .int .i64 i ∧ Hid (HS c L rb L w wr 0 0 ∧ CatOk L ∧ L.length ≤ 4096)) (fun _ v5 _ => 100 - (intOf v5).toNat)
  case atStart => exact ⟨0, c0, [], by omega, rfl, rfl, HB0.out, ⟨List.Pairwise.nil, (fun _ h => by cases h)⟩, Nat.zero_le _⟩
  case round =>
    clear HB0
    obtain ⟨i, c, L, hi, rfl, rfl, HQ⟩ := hrel
    by_cases hlt : i < m ∧ i < 100
    · obtain ⟨hlt, h100⟩ := hlt
      have hlI : (i : Int) < (m : Int) := by omega
      have h100I : (i : Int) < 100 := by omega
      obtain ⟨⟨k, nm, ⟨T, tcv, tiv⟩, X⟩, ha⟩ : ∃ a, L0[i]? = some a := ⟨_, List.getElem?_eq_getElem (by rw [HM.out]; exact hlt)⟩
      obtain ⟨ok1, ok2, ok3, ok4⟩ := HOk.out _ (List.mem_of_getElem? ha)
      obtain ⟨b, off, rfl, q0, q1, q2, q3, q4, q5⟩ := HX.out wr HQ.out.1.base i _ ha
      dsimp only at ok1 ok2 ok3 ok4 q0 q1 q2 q3 q4 q5
      obtain ⟨ca, cc, hcv, -, -⟩ := ok4.co.opened
      obtain ⟨ia, ic, hiv, -, -⟩ := ok4.ix.opened
      obtain ⟨cn, hcn⟩ : ∃ cn, T.co.length = cn := ⟨_, rfl⟩
      obtain ⟨im, him⟩ : ∃ im, X.length = im := ⟨_, rfl⟩
      rw [hcn] at hcv
      rw [him] at hiv
      subst hcv
      subst hiv
      have HCp : Hid (CpOk w (.slice ca cn cc) (.slice ia im ic) X T ∧ Rg T ∧ T.nm.size ≤ maxLen ∧ nm.size ≤ maxLen) := ⟨ok4, ok3.rg, by have := ok3.nm; dsimp only at this; unfold reachBytes at this; unfold maxLen; omega, by unfold reachBytes at ok2; unfold maxLen; omega⟩
      have hnm63 : nm.size ≤ 9223372036854775807 := by have := HCp.out.2.2.2; unfold maxLen at this; exact this
      obtain ⟨tn, htn⟩ : ∃ tn, T.nm = tn := ⟨_, rfl⟩
      obtain ⟨key, hkey⟩ : ∃ key, T.key = key := ⟨_, rfl⟩
      have HTn : Hid (T.nm = tn ∧ T.key = key) := ⟨htn, hkey⟩
      rw [htn] at q2
      rw [hkey] at q4
      obtain ⟨ab, hab⟩ : ∃ ab, wr.heap.size = ab := ⟨_, rfl⟩
      obtain ⟨wA, hwA⟩ : ∃ u, wr.alloc (.cells #[.int .i64 k, .string nm, .string tn, .slice ca cn cc, .int .i64 key, .slice ia im ic] 34) = u := ⟨_, rfl⟩
      have HbA : Hid (Below wr.heap.size wr wA ∧ wr.heap.size = ab ∧ wA.heap[ab]? = some (.cells #[.int .i64 k, .string nm, .string tn, .slice ca cn cc, .int .i64 key, .slice ia im ic] 34 (0, 0)) ∧ wA.heap.size = ab + 1) := ⟨by rw [← hwA]; exact (Below.refl _ wr).alloc (Nat.le_refl _) _, hab, by rw [← hwA, ← hab]; exact heap_new wr _, by rw [← hwA, ← hab]; simp⟩
      have HSA : Hid (HS c L rb L w wA ab (ab + 1)) := by
        have := HQ.out.1.hole HbA.out.1
        rw [HbA.out.2.1, HbA.out.2.2.2] at this
        exact this
      obtain ⟨a0, a1, a2, a3, a4, a5⟩ := act_cells HbA.out.2.2.1
      have hk4 : k % 4 = 0 ∨ k % 4 = 1 ∨ k % 4 = 2 ∨ k % 4 = 3 := by omega
      have HAk : Hid (Calls Tryz.prog 7 #[.int .i64 k, .int .i64 4] wA fun e w' => e = .returned (.int .i64 (k % 4)) ∧ w' = wA) := HAm.out k wA
      obtain ⟨kk, hkk⟩ : ∃ kk, k % 4 = kk := ⟨_, rfl⟩
      rw [hkk] at hk4 HAk
      clear ha ok1 ok2 ok3 ok4 hcn him htn hkey hkk
      go_upto_region 19 with (go_at_call 7; go_must (refine HAk.out.mono ?_; rintro e wz ⟨rfl, hwz⟩; obtain rfl := hwz.symm))
      clear hwA hab q0 q1 q2 q3 q4 q5 HAk
      rcases hk4 with rfl | rfl | rfl | rfl
      · -- Create
        have HCq : Hid (Calls Tryz.prog 8 #[.agg #[.string tn, .slice ca cn cc, .int .i64 key, .slice ia im ic]] wA fun e w' => ∃ d1 d2 d3 d4 d5 d6, e = .returned (.agg #[.string tn, .slice d1 d2 d3, .int .i64 key, .slice d4 d5 d6]) ∧ Hid (∃ X', Below wA.heap.size wA w' ∧ TabO w' wA.heap.size (.slice d1 d2 d3) (.slice d4 d5 d6) X' T)) := by
          have := copyT_any _ _ X T wA w HSA.out.base HCp.out.1
          unfold tabVal at this
          rw [HTn.out.1, HTn.out.2] at this
          refine this.mono fun e w' ⟨cv', iv', X', e1, e2, e3⟩ => ?_
          obtain ⟨⟨d1, d2, d3, rfl⟩, ⟨d4, d5, d6, rfl⟩⟩ := e2.shape
          unfold tabVal at e1
          rw [HTn.out.1, HTn.out.2] at e1
          exact ⟨d1, d2, d3, d4, d5, d6, e1, X', e3, e2⟩
        go_upto_region 21 with (go_at_call 8; go_must (refine HCq.out.mono ?_; rintro e w2 ⟨d1, d2, d3, d4, d5, d6, rfl, K2⟩))
        obtain ⟨ob, hob⟩ : ∃ ob, w2.heap.size = ob := ⟨_, rfl⟩
        obtain ⟨wO, hwO⟩ : ∃ u, w2.alloc (.cells #[.string tn, .slice d1 d2 d3, .int .i64 key, .slice d4 d5 d6] 32) = u := ⟨_, rfl⟩
        obtain ⟨X', K3, K4⟩ := K2.out
        have HO : Hid (HS c L rb L w wO.drew ab (ob + 1) ∧ TabO wO (ab + 1) (.slice d1 d2 d3) (.slice d4 d5 d6) X' T ∧ wO.heap[ob]? = some (.cells #[.string tn, .slice d1 d2 d3, .int .i64 key, .slice d4 d5 d6] 32 (0, 0)) ∧ wO.heap[ab]? = some (.cells #[.int .i64 k, .string nm, .string tn, .slice ca cn cc, .int .i64 key, .slice ia im ic] 34 (0, 0)) ∧ ab < ob ∧ wO.heap.size = ob + 1 ∧ w.heap.size ≤ ab ∧ (∀ i, Ge.foot ⟨T, .slice d1 d2 d3, .slice d4 d5 d6, X'⟩ i → ab + 1 ≤ i ∧ i < ob)) := by
          obtain ⟨y1, y2, y3, y4⟩ := HbA.out
          have b1 : Below w2.heap.size w2 wO := by rw [← hwO]; exact (Below.refl _ w2).alloc (Nat.le_refl _) _
          have b2 : Below wr.heap.size wr wO := y1.trans ((K3.mono y1.size).trans (b1.mono (Nat.le_trans y1.size K3.size)))
          have b3 : Below wr.heap.size wr wO.drew := below_drewed b2
          have sz : wO.heap.size = ob + 1 := by rw [← hwO, ← hob]; simp
          have hh := HQ.out.1.hole b3
          rw [y2, show wO.drew.heap.size = ob + 1 from sz] at hh
          have h2 := K3.size
          rw [y4] at K4
          have K5 : TabO wO (ab + 1) (.slice d1 d2 d3) (.slice d4 d5 d6) X' T := TabO.block (g := ⟨T, .slice d1 d2 d3, .slice d4 d5 d6, X'⟩) K4 fun i hi => b1.block i (TabO.lt (g := ⟨T, .slice d1 d2 d3, .slice d4 d5 d6, X'⟩) K4 hi).2
          refine ⟨hh, K5, by rw [← hwO, ← hob]; exact heap_new w2 _, (b1.block ab (by omega)).trans ((K3.block ab (by omega)).trans y3), by omega, sz, by have := HQ.out.1.base.size; omega, fun i hi => ?_⟩
          have := TabO.lt (g := ⟨T, .slice d1 d2 d3, .slice d4 d5 d6, X'⟩) K4 hi
          exact ⟨this.1, by omega⟩
        have HKp : Hid (∀ u, (∀ i, ab ≤ i → i < ob + 1 → u.heap[i]? = wO.heap[i]?) → (u.cell? ⟨ob, 0, none⟩ = some (.string tn) ∧ u.cell? ⟨ob, 1, none⟩ = some (.slice d1 d2 d3) ∧ u.cell? ⟨ob, 2, none⟩ = some (.int .i64 key) ∧ u.cell? ⟨ob, 3, none⟩ = some (.slice d4 d5 d6) ∧ u.cell? ⟨ab, 2, none⟩ = some (.string tn) ∧ u.cell? ⟨ab, 3, none⟩ = some (.slice ca cn cc) ∧ u.cell? ⟨ab, 4, none⟩ = some (.int .i64 key) ∧ u.cell? ⟨ab, 5, none⟩ = some (.slice ia im ic)) ∧ TabO u (ab + 1) (.slice d1 d2 d3) (.slice d4 d5 d6) X' T) := fun u hu => by
          obtain ⟨y1, y2, y3, y4, y5, y6, y7, y8⟩ := HO.out
          obtain ⟨z0, z1, z2, z3⟩ := box_cells ((hu ob (by omega) (by omega)).trans y3)
          obtain ⟨_, _, z4, z5, z6, z7⟩ := act_cells ((hu ab (by omega) (by omega)).trans y4)
          exact ⟨⟨z0, z1, z2, z3, z4, z5, z6, z7⟩, TabO.block (g := ⟨T, .slice d1 d2 d3, .slice d4 d5 d6, X'⟩) y2 fun i hi => by have := y8 i hi; exact hu i (by omega) (by omega)⟩
        have HC1 : Hid (Calls Tryz.prog 9 #[.pointer (some ⟨c, 0, none⟩), .agg #[.string tn, .slice d1 d2 d3, .int .i64 key, .slice d4 d5 d6]] wO.drew fun e w' => e = .returned (.int .i64 (crE L T)) ∧ Hid (HS c (crL L T) rb L w w' ab (ob + 1) ∧ ∀ i, ab ≤ i → i < ob + 1 → w'.heap[i]? = wO.heap[i]?)) := by
          have := HO.out.1.create (w0 := wO) (below_drewed (Below.refl _ wO)) HO.out.2.1.tabV HCp.out.2.1 HCp.out.2.2.1
          unfold tabVal at this
          rw [HTn.out.1, HTn.out.2] at this
          exact this.mono fun e w' ⟨e1, e2⟩ => ⟨e1, e2.out.1, fun i h1 h2 => e2.out.2.block i (by show i < wO.heap.size; rw [HO.out.2.2.2.2.2.1]; exact h2) (by omega)⟩
        have HC2 : Hid (∀ u, HS c (crL L T) rb L w u ab (ob + 1) ∧ (∀ i, ab ≤ i → i < ob + 1 → u.heap[i]? = wO.heap[i]?) → Calls Tryz.prog 10 #[.pointer (some ⟨rb, 0, none⟩), .agg #[.string tn, .slice ca cn cc, .int .i64 key, .slice ia im ic]] u fun e w' => e = .returned (.int .i64 (crE L T)) ∧ Hid (HS c (crL L T) rb (crL L T) w w' ab (ob + 1) ∧ ∀ i, ab ≤ i → i < ob + 1 → w'.heap[i]? = wO.heap[i]?)) := fun u hu => by
          have := hu.1.rcreate HQ.out.2.1.rise hu.1.base HCp.out.1 HCp.out.2.1
          unfold tabVal at this
          rw [HTn.out.1, HTn.out.2] at this
          refine this.mono fun e w' ⟨e1, e2⟩ => ⟨e1, e2.out.1, fun i h1 h2 => (e2.out.2.block i ?_ (by omega)).trans (hu.2 i h1 h2)⟩
          have h3 := hu.2 i h1 h2
          have h4 : i < wO.heap.size := by rw [HO.out.2.2.2.2.2.1]; exact h2
          rw [Array.getElem?_eq_getElem h4] at h3
          exact lt_of h3
        have HSm : Hid (∀ u, HS c (crL L T) rb (crL L T) w u ab (ob + 1) ∧ (∀ i, ab ≤ i → i < ob + 1 → u.heap[i]? = wO.heap[i]?) → Calls Tryz.prog 11 #[.agg #[.string tn, .slice d1 d2 d3, .int .i64 key, .slice d4 d5 d6], .agg #[.string tn, .slice ca cn cc, .int .i64 key, .slice ia im ic]] u fun e w' => e = .returned (.bool true) ∧ Hid (HS c (crL L T) rb (crL L T) w w' ab (ob + 1) ∧ ∀ i, ab ≤ i → i < ob + 1 → w'.heap[i]? = wO.heap[i]?)) := fun u hu => by
          have := sameTable_same _ _ _ _ T u u (Below.refl _ _) (HKp.out u hu.2).2.tabV (HCp.out.1.tabV.below hu.1.base)
          unfold tabVal at this
          rw [HTn.out.1, HTn.out.2] at this
          refine this.mono fun e w' ⟨e1, e2⟩ => ⟨e1, hu.1.below e2, fun i h1 h2 => (e2.block i ?_).trans (hu.2 i h1 h2)⟩
          have h3 := hu.2 i h1 h2
          have h4 : i < wO.heap.size := by rw [HO.out.2.2.2.2.2.1]; exact h2
          rw [Array.getElem?_eq_getElem h4] at h3
          exact lt_of h3
        obtain ⟨E, hE⟩ : ∃ E, crE L T = E := ⟨_, rfl⟩
        rw [hE] at HC1 HC2
        have HSa : Hid (wO.drew.cell? ⟨ob, 0, none⟩ = some (.string tn) ∧ wO.drew.cell? ⟨ob, 1, none⟩ = some (.slice d1 d2 d3) ∧ wO.drew.cell? ⟨ob, 2, none⟩ = some (.int .i64 key) ∧ wO.drew.cell? ⟨ob, 3, none⟩ = some (.slice d4 d5 d6) ∧ wO.drew.cell? ⟨ab, 2, none⟩ = some (.string tn) ∧ wO.drew.cell? ⟨ab, 3, none⟩ = some (.slice ca cn cc) ∧ wO.drew.cell? ⟨ab, 4, none⟩ = some (.int .i64 key) ∧ wO.drew.cell? ⟨ab, 5, none⟩ = some (.slice ia im ic)) := (HKp.out wO.drew (fun _ _ _ => rfl)).1
        rw [hob, hwO]
        clear hob hwO K2 K3 K4 hE HCq a0 a1 a2 a3 a4 a5
        go_region_held3 (fun u => u.cell? ⟨ob, 0, none⟩ = some (.string tn) ∧ u.cell? ⟨ob, 1, none⟩ = some (.slice d1 d2 d3) ∧ u.cell? ⟨ob, 2, none⟩ = some (.int .i64 key) ∧ u.cell? ⟨ob, 3, none⟩ = some (.slice d4 d5 d6) ∧ u.cell? ⟨ab, 2, none⟩ = some (.string tn) ∧ u.cell? ⟨ab, 3, none⟩ = some (.slice ca cn cc) ∧ u.cell? ⟨ab, 4, none⟩ = some (.int .i64 key) ∧ u.cell? ⟨ab, 5, none⟩ = some (.slice ia im ic)) (first | exact HSa.out | exact S5.out | exact S4.out | exact S3.out)
          (first
            | (go_at_call 9; go_must (refine HC1.out.mono ?_; rintro e w3 ⟨rfl, K3⟩; have S3 : Hid (w3.cell? ⟨ob, 0, none⟩ = some (.string tn) ∧ w3.cell? ⟨ob, 1, none⟩ = some (.slice d1 d2 d3) ∧ w3.cell? ⟨ob, 2, none⟩ = some (.int .i64 key) ∧ w3.cell? ⟨ob, 3, none⟩ = some (.slice d4 d5 d6) ∧ w3.cell? ⟨ab, 2, none⟩ = some (.string tn) ∧ w3.cell? ⟨ab, 3, none⟩ = some (.slice ca cn cc) ∧ w3.cell? ⟨ab, 4, none⟩ = some (.int .i64 key) ∧ w3.cell? ⟨ab, 5, none⟩ = some (.slice ia im ic)) := (HKp.out w3 K3.out.2).1))
            | (go_at_call 10; go_must (refine (HC2.out _ K3.out).mono ?_; rintro e w4 ⟨rfl, K4⟩; have S4 : Hid (w4.cell? ⟨ob, 0, none⟩ = some (.string tn) ∧ w4.cell? ⟨ob, 1, none⟩ = some (.slice d1 d2 d3) ∧ w4.cell? ⟨ob, 2, none⟩ = some (.int .i64 key) ∧ w4.cell? ⟨ob, 3, none⟩ = some (.slice d4 d5 d6) ∧ w4.cell? ⟨ab, 2, none⟩ = some (.string tn) ∧ w4.cell? ⟨ab, 3, none⟩ = some (.slice ca cn cc) ∧ w4.cell? ⟨ab, 4, none⟩ = some (.int .i64 key) ∧ w4.cell? ⟨ab, 5, none⟩ = some (.slice ia im ic)) := (HKp.out w4 K4.out.2).1))
            | (go_at_call 11; go_must (refine (HSm.out _ K4.out).mono ?_; rintro e w5 ⟨rfl, K5⟩; have S5 : Hid (w5.cell? ⟨ob, 0, none⟩ = some (.string tn) ∧ w5.cell? ⟨ob, 1, none⟩ = some (.slice d1 d2 d3) ∧ w5.cell? ⟨ob, 2, none⟩ = some (.int .i64 key) ∧ w5.cell? ⟨ob, 3, none⟩ = some (.slice d4 d5 d6) ∧ w5.cell? ⟨ab, 2, none⟩ = some (.string tn) ∧ w5.cell? ⟨ab, 3, none⟩ = some (.slice ca cn cc) ∧ w5.cell? ⟨ab, 4, none⟩ = some (.int .i64 key) ∧ w5.cell? ⟨ab, 5, none⟩ = some (.slice ia im ic)) := (HKp.out w5 K5.out.2).1)))
        obtain ⟨e0, e1, e2, e3, -, -, -, -⟩ := S5.out
        have HSp : Hid (Calls Tryz.prog 12 #[.agg #[.string tn, .slice d1 d2 d3, .int .i64 key, .slice d4 d5 d6]] w5 fun e w' => e = .returned (.tuple #[]) ∧ Hid (HS c (crL L T) rb (crL L T) w w' 0 0)) := by
          have := spoil_any _ _ X' T (ab + 1) w5 (HKp.out w5 K5.out.2).2
          unfold tabVal at this
          rw [HTn.out.1, HTn.out.2] at this
          exact this.mono fun e w' ⟨e1, e2⟩ => ⟨e1, K5.out.1.spoil e2.out (fun i hi => by have h1 := HO.out.2.2.2.2.2.2.2 i hi; have h2 := HO.out.2.2.2.2.2.2.1; omega)⟩
        clear HC1 HC2 HSm HSa S3 S4 S5
        go_upto_region 33 with (go_at_call 12; go_must (refine HSp.out.mono ?_; rintro e w6 ⟨rfl, K6⟩))
        clear e0 e1 e2 e3
        have HZ : Hid (HS c (crL L T) rb (crL L T) w w6 0 0 ∧ CatOk (crL L T) ∧ (crL L T).length ≤ 4096) := ⟨K6.out, HQ.out.2.1.create T, crL_few HQ.out.2.2 T⟩
        obtain ⟨LN, hLN⟩ : ∃ LN, (crL L T) = LN := ⟨_, rfl⟩
        rw [hLN] at HZ
        obtain ⟨NN, hNN⟩ : ∃ NN, LN.length = NN := ⟨_, rfl⟩
        have KN1 : Hid (Calls Tryz.prog 22 #[.pointer (some ⟨c, 0, none⟩)] w6 fun e w' => ∃ A cap, e = .returned (.slice A NN cap) ∧ Hid (SliceAt w' (.slice A NN cap) 1 enS (namesC LN) ∧ Below (w6).heap.size (w6) w')) := HZ.out.1.namesP hNN
        have KN2 : Hid (∀ u, HS c LN rb LN w u 0 0 → Calls Tryz.prog 23 #[.pointer (some ⟨rb, 0, none⟩)] u fun e w' => ∃ A n cap, e = .returned (.slice A n cap) ∧ Hid (SliceAt w' (.slice A n cap) 1 enS (namesC LN) ∧ Below u.heap.size u w')) := fun u hu => hu.namesR
        have KS : Hid (∀ u v v', SliceAt u v 1 enS (namesC LN) → SliceAt u v' 1 enS (namesC LN) → Calls Tryz.prog 21 #[v, v'] u fun e w' => e = .returned (.bool true) ∧ Hid (Below u.heap.size u w')) := fun u v v' h1 h2 => by
          have := sameTexts_any v v' (namesC LN) (namesC LN) u h1 h2
          rw [decide_eq_true rfl] at this
          exact this.mono fun e w' ⟨e1, m, e2⟩ => ⟨e1, by rw [e2]; exact below_drewN u m⟩
        clear hLN hNN
        go_wp2_with (first
          | (go_at_call 22; go_must (refine KN1.out.mono ?_; rintro e z1 ⟨A4, cap4, rfl, S4⟩; have Z1 : Hid (HS c LN rb LN w z1 0 0) := HZ.out.1.below S4.out.2))
          | (go_at_call 23; go_must (refine (KN2.out _ Z1.out).mono ?_; rintro e z2 ⟨A5, n5, cap5, rfl, S5⟩; have Z2 : Hid (HS c LN rb LN w z2 0 0) := Z1.out.below S5.out.2; have S4' : Hid (SliceAt z2 (.slice A4 NN cap4) 1 enS (namesC LN)) := S4.out.1.below S5.out.2))
          | (go_at_call 21; go_must (refine (KS.out _ _ _ S4'.out S5.out.1).mono ?_; rintro e z3 ⟨rfl, Z3⟩; have Z4 : Hid (HS c LN rb LN w z3 0 0) := Z2.out.below Z3.out)))
        go_roundw
        case rel => exact ⟨i + 1, c, LN, by omega, rfl, by go_num, Z4.out, HZ.out.2⟩
        case measure => simp [intOf]; omega
      · -- Drop
        have HD1 : Hid (Calls Tryz.prog 13 #[.pointer (some ⟨c, 0, none⟩), .string nm] wA.drew fun e w' => e = .returned (.int .i64 (drE L nm)) ∧ Hid (HS c (drL L nm) rb L w w' ab (ab + 1) ∧ w'.heap[ab]? = some (.cells #[.int .i64 k, .string nm, .string tn, .slice ca cn cc, .int .i64 key, .slice ia im ic] 34 (0, 0)))) := by
          have hs : HS c L rb L w wA.drew ab (ab + 1) := HSA.out.below (below_drewed (Below.refl _ wA))
          exact (hs.dropP HCp.out.2.2.2).mono fun e w' ⟨e1, e2⟩ => ⟨e1, e2.out.1, (e2.out.2.block ab (by show ab < wA.heap.size; rw [HbA.out.2.2.2]; omega) (by omega)).trans HbA.out.2.2.1⟩
        have HD2 : Hid (∀ u, HS c (drL L nm) rb L w u ab (ab + 1) ∧ u.heap[ab]? = some (.cells #[.int .i64 k, .string nm, .string tn, .slice ca cn cc, .int .i64 key, .slice ia im ic] 34 (0, 0)) → Calls Tryz.prog 14 #[.pointer (some ⟨rb, 0, none⟩), .string nm] u fun e w' => e = .returned (.int .i64 (drE L nm)) ∧ Hid (HS c (drL L nm) rb (drL L nm) w w' ab (ab + 1) ∧ w'.heap[ab]? = some (.cells #[.int .i64 k, .string nm, .string tn, .slice ca cn cc, .int .i64 key, .slice ia im ic] 34 (0, 0)))) := fun u hu =>
          (hu.1.dropR HQ.out.2.1.rise).mono fun e w' ⟨e1, e2⟩ => ⟨e1, e2.out.1, (e2.out.2.block ab (lt_of hu.2) (by omega)).trans hu.2⟩
        obtain ⟨E, hE⟩ : ∃ E, drE L nm = E := ⟨_, rfl⟩
        rw [hE] at HD1 HD2
        have HSa : Hid (wA.drew.cell? ⟨ab, 1, none⟩ = some (.string nm)) := a1
        clear hE
        go_upto_region 25 with fail
        clear a0 a1 a2 a3 a4 a5
        go_region_held3 (fun u => u.cell? ⟨ab, 1, none⟩ = some (.string nm)) (first | exact HSa.out | exact S4.out | exact S3.out)
          (first
            | (go_at_call 13; go_must (refine HD1.out.mono ?_; rintro e w3 ⟨rfl, K3⟩; have S3 : Hid (w3.cell? ⟨ab, 1, none⟩ = some (.string nm)) := (act_cells K3.out.2).2.1))
            | (go_at_call 14; go_must (refine (HD2.out _ K3.out).mono ?_; rintro e w4 ⟨rfl, K4⟩; have S4 : Hid (w4.cell? ⟨ab, 1, none⟩ = some (.string nm)) := (act_cells K4.out.2).2.1)))
        clear HD1 HD2 HSa S3 S4
        go_upto_region 33 with fail
        have HZ : Hid (HS c (drL L nm) rb (drL L nm) w w4 0 0 ∧ CatOk (drL L nm) ∧ (drL L nm).length ≤ 4096) := ⟨K4.out.1.free, HQ.out.2.1.drop nm, drL_few HQ.out.2.2 nm⟩
        obtain ⟨LN, hLN⟩ : ∃ LN, (drL L nm) = LN := ⟨_, rfl⟩
        rw [hLN] at HZ
        obtain ⟨NN, hNN⟩ : ∃ NN, LN.length = NN := ⟨_, rfl⟩
        have KN1 : Hid (Calls Tryz.prog 22 #[.pointer (some ⟨c, 0, none⟩)] w4 fun e w' => ∃ A cap, e = .returned (.slice A NN cap) ∧ Hid (SliceAt w' (.slice A NN cap) 1 enS (namesC LN) ∧ Below (w4).heap.size (w4) w')) := HZ.out.1.namesP hNN
        have KN2 : Hid (∀ u, HS c LN rb LN w u 0 0 → Calls Tryz.prog 23 #[.pointer (some ⟨rb, 0, none⟩)] u fun e w' => ∃ A n cap, e = .returned (.slice A n cap) ∧ Hid (SliceAt w' (.slice A n cap) 1 enS (namesC LN) ∧ Below u.heap.size u w')) := fun u hu => hu.namesR
        have KS : Hid (∀ u v v', SliceAt u v 1 enS (namesC LN) → SliceAt u v' 1 enS (namesC LN) → Calls Tryz.prog 21 #[v, v'] u fun e w' => e = .returned (.bool true) ∧ Hid (Below u.heap.size u w')) := fun u v v' h1 h2 => by
          have := sameTexts_any v v' (namesC LN) (namesC LN) u h1 h2
          rw [decide_eq_true rfl] at this
          exact this.mono fun e w' ⟨e1, m, e2⟩ => ⟨e1, by rw [e2]; exact below_drewN u m⟩
        clear hLN hNN
        go_wp2_with (first
          | (go_at_call 22; go_must (refine KN1.out.mono ?_; rintro e z1 ⟨A4, cap4, rfl, S4⟩; have Z1 : Hid (HS c LN rb LN w z1 0 0) := HZ.out.1.below S4.out.2))
          | (go_at_call 23; go_must (refine (KN2.out _ Z1.out).mono ?_; rintro e z2 ⟨A5, n5, cap5, rfl, S5⟩; have Z2 : Hid (HS c LN rb LN w z2 0 0) := Z1.out.below S5.out.2; have S4' : Hid (SliceAt z2 (.slice A4 NN cap4) 1 enS (namesC LN)) := S4.out.1.below S5.out.2))
          | (go_at_call 21; go_must (refine (KS.out _ _ _ S4'.out S5.out.1).mono ?_; rintro e z3 ⟨rfl, Z3⟩; have Z4 : Hid (HS c LN rb LN w z3 0 0) := Z2.out.below Z3.out)))
        go_roundw
        case rel => exact ⟨i + 1, c, LN, by omega, rfl, by go_num, Z4.out, HZ.out.2⟩
        case measure => simp [intOf]; omega
      · -- Find
        obtain ⟨FT, hFT⟩ : ∃ FT, fndT L nm = FT := ⟨_, rfl⟩
        obtain ⟨E, hE⟩ : ∃ E, fndE L nm = E := ⟨_, rfl⟩
        obtain ⟨fn, hfn⟩ : ∃ fn, FT.nm = fn := ⟨_, rfl⟩
        obtain ⟨fk, hfk⟩ : ∃ fk, FT.key = fk := ⟨_, rfl⟩
        have HFn : Hid (FT.nm = fn ∧ FT.key = fk) := ⟨hfn, hfk⟩
        have HF1 : Hid (Calls Tryz.prog 15 #[.pointer (some ⟨c, 0, none⟩), .string nm] wA fun e w' => ∃ d1 d2 d3 d4 d5 d6, e = .returned (.tuple #[.agg #[.string fn, .slice d1 d2 d3, .int .i64 fk, .slice d4 d5 d6], .int .i64 E]) ∧ Hid (∃ X, Below wA.heap.size wA w' ∧ TabO w' wA.heap.size (.slice d1 d2 d3) (.slice d4 d5 d6) X FT)) := by
          have := HSA.out.findP (k := nm) HCp.out.2.2.2
          rw [hFT, hE, hfn, hfk] at this
          exact this
        have HF2 : Hid (∀ u, HS c L rb L w u 0 0 → Calls Tryz.prog 16 #[.pointer (some ⟨rb, 0, none⟩), .string nm] u fun e w' => ∃ d1 d2 d3 d4 d5 d6, e = .returned (.tuple #[.agg #[.string fn, .slice d1 d2 d3, .int .i64 fk, .slice d4 d5 d6], .int .i64 E]) ∧ Hid (∃ X, Below u.heap.size u w' ∧ TabO w' u.heap.size (.slice d1 d2 d3) (.slice d4 d5 d6) X FT)) := fun u hu => by
          have := hu.findR (k := nm) HQ.out.2.1.rise
          rw [hFT, hE, hfn, hfk] at this
          exact this
        clear hFT hE hfn hfk
        go_upto_region 29 with (go_at_call 15; go_must (refine HF1.out.mono ?_; rintro e w2 ⟨d1, d2, d3, d4, d5, d6, rfl, K2⟩))
        obtain ⟨X2, K3, K4⟩ := K2.out
        obtain ⟨ob, hob⟩ : ∃ ob, w2.heap.size = ob := ⟨_, rfl⟩
        obtain ⟨wO, hwO⟩ : ∃ u, w2.alloc (.cells #[.string fn, .slice d1 d2 d3, .int .i64 fk, .slice d4 d5 d6] 32) = u := ⟨_, rfl⟩
        have HO : Hid (HS c L rb L w wO 0 0 ∧ TabO wO (ab + 1) (.slice d1 d2 d3) (.slice d4 d5 d6) X2 FT ∧ wO.heap[ob]? = some (.cells #[.string fn, .slice d1 d2 d3, .int .i64 fk, .slice d4 d5 d6] 32) ∧ wO.heap[ab]? = some (.cells #[.int .i64 k, .string nm, .string tn, .slice ca cn cc, .int .i64 key, .slice ia im ic] 34 (0, 0)) ∧ wO.heap.size = ob + 1 ∧ Below wr.heap.size wr wO ∧ wr.heap.size = ab ∧ w.heap.size ≤ ab) := by
          obtain ⟨y1, y2, y3, y4⟩ := HbA.out
          have b1 : Below w2.heap.size w2 wO := by rw [← hwO]; exact (Below.refl _ w2).alloc (Nat.le_refl _) _
          have b2 : Below wA.heap.size wA wO := K3.trans (b1.mono K3.size)
          have h2 := K3.size
          rw [y4] at K4
          exact ⟨(HSA.out.below b2).free, TabO.block (g := ⟨FT, .slice d1 d2 d3, .slice d4 d5 d6, X2⟩) K4 fun i hi => b1.block i (TabO.lt (g := ⟨FT, .slice d1 d2 d3, .slice d4 d5 d6, X2⟩) K4 hi).2, by rw [← hwO, ← hob]; exact heap_new w2 _, (b2.block ab (by omega)).trans y3, by rw [← hwO, ← hob]; simp, y1.trans (b2.mono y1.size), y2, by have := HQ.out.1.base.size; omega⟩
        obtain ⟨_, g1, _, _, _, _⟩ := act_cells HO.out.2.2.2.1
        rw [hob, hwO]
        clear hob hwO K2 K3 K4 HF1 a0 a1 a2 a3 a4 a5
        have HF3 : Hid (Calls Tryz.prog 16 #[.pointer (some ⟨rb, 0, none⟩), .string nm] wO fun e w' => ∃ d1 d2 d3 d4 d5 d6, e = .returned (.tuple #[.agg #[.string fn, .slice d1 d2 d3, .int .i64 fk, .slice d4 d5 d6], .int .i64 E]) ∧ Hid (∃ X, Below wO.heap.size wO w' ∧ TabO w' wO.heap.size (.slice d1 d2 d3) (.slice d4 d5 d6) X FT)) := HF2.out wO HO.out.1
        go_upto_region 30 with (go_at_call 16; go_must (refine HF3.out.mono ?_; rintro e w3 ⟨f1, f2, f3, f4, f5, f6, rfl, K3⟩))
        obtain ⟨X3, K4, K5⟩ := K3.out
        obtain ⟨yb, hyb⟩ : ∃ yb, w3.heap.size = yb := ⟨_, rfl⟩
        obtain ⟨wP, hwP⟩ : ∃ u, w3.alloc (.cells #[.string fn, .slice f1 f2 f3, .int .i64 fk, .slice f4 f5 f6] 32) = u := ⟨_, rfl⟩
        have HP : Hid (HS c L rb L w wP ab (yb + 1) ∧ TabO wP (ab + 1) (.slice d1 d2 d3) (.slice d4 d5 d6) X2 FT ∧ TabO wP 0 (.slice f1 f2 f3) (.slice f4 f5 f6) X3 FT ∧ wP.heap[ob]? = some (.cells #[.string fn, .slice d1 d2 d3, .int .i64 fk, .slice d4 d5 d6] 32) ∧ wP.heap[yb]? = some (.cells #[.string fn, .slice f1 f2 f3, .int .i64 fk, .slice f4 f5 f6] 32) ∧ wP.heap.size = yb + 1 ∧ (∀ i, Ge.foot ⟨FT, .slice d1 d2 d3, .slice d4 d5 d6, X2⟩ i → ab + 1 ≤ i ∧ i < ob + 1) ∧ ob + 1 ≤ yb ∧ w.heap.size ≤ ab) := by
          obtain ⟨y1, y2, y3, y4, y5, y6, y7, y8⟩ := HO.out
          have b1 : Below w3.heap.size w3 wP := by rw [← hwP]; exact (Below.refl _ w3).alloc (Nat.le_refl _) _
          have b2 : Below wO.heap.size wO wP := K4.trans (b1.mono K4.size)
          have sz : wP.heap.size = yb + 1 := by rw [← hwP, ← hyb]; simp
          have hh := HQ.out.1.hole (y6.trans (b2.mono y6.size))
          rw [y7, sz] at hh
          have h2 := K4.size
          exact ⟨hh, TabO.block (g := ⟨FT, .slice d1 d2 d3, .slice d4 d5 d6, X2⟩) y2 fun i hi => b2.block i (TabO.lt (g := ⟨FT, .slice d1 d2 d3, .slice d4 d5 d6, X2⟩) y2 hi).2, (TabO.block (g := ⟨FT, .slice f1 f2 f3, .slice f4 f5 f6, X3⟩) K5 fun i hi => b1.block i (TabO.lt (g := ⟨FT, .slice f1 f2 f3, .slice f4 f5 f6, X3⟩) K5 hi).2).low (Nat.zero_le _), (b2.block ob (by omega)).trans y3, by rw [← hwP, ← hyb]; exact heap_new w3 _, sz, fun i hi => by have := TabO.lt (g := ⟨FT, .slice d1 d2 d3, .slice d4 d5 d6, X2⟩) y2 hi; omega, by omega, y8⟩
        obtain ⟨x0, x1, x2, x3⟩ := box_cells HP.out.2.2.2.1
        obtain ⟨y0, y1, y2, y3⟩ := box_cells HP.out.2.2.2.2.1
        have HSm : Hid (Calls Tryz.prog 11 #[.agg #[.string fn, .slice d1 d2 d3, .int .i64 fk, .slice d4 d5 d6], .agg #[.string fn, .slice f1 f2 f3, .int .i64 fk, .slice f4 f5 f6]] wP fun e w' => e = .returned (.bool true) ∧ Hid (Below wP.heap.size wP w')) := by
          have := sameTable_same _ _ _ _ FT wP wP (Below.refl _ _) HP.out.2.1.tabV HP.out.2.2.1.tabV
          unfold tabVal at this
          rw [HFn.out.1, HFn.out.2] at this
          exact this
        rw [hyb, hwP]
        clear hyb hwP K3 K4 K5 HF2 HF3 HO g1
        have HSp : Hid (∀ u, Below wP.heap.size wP u → Calls Tryz.prog 12 #[.agg #[.string fn, .slice d1 d2 d3, .int .i64 fk, .slice d4 d5 d6]] u fun e w' => e = .returned (.tuple #[]) ∧ Hid (HS c L rb L w w' 0 0)) := fun u hu => by
          have hT : TabO u (ab + 1) (.slice d1 d2 d3) (.slice d4 d5 d6) X2 FT := TabO.block (g := ⟨FT, .slice d1 d2 d3, .slice d4 d5 d6, X2⟩) HP.out.2.1 fun i hi => hu.block i (TabO.lt (g := ⟨FT, .slice d1 d2 d3, .slice d4 d5 d6, X2⟩) HP.out.2.1 hi).2
          have := spoil_any _ _ X2 FT (ab + 1) u hT
          unfold tabVal at this
          rw [HFn.out.1, HFn.out.2] at this
          exact this.mono fun e w' ⟨e1, e2⟩ => ⟨e1, (HP.out.1.below hu).spoil e2.out (fun i hi => by have h1 := HP.out.2.2.2.2.2.2.1 i hi; have h2 := HP.out.2.2.2.2.2.2.2; omega)⟩
        have HXk : Hid (∀ u, Below wP.heap.size wP u → u.cell? ⟨ob, 0, none⟩ = some (.string fn) ∧ u.cell? ⟨ob, 1, none⟩ = some (.slice d1 d2 d3) ∧ u.cell? ⟨ob, 2, none⟩ = some (.int .i64 fk) ∧ u.cell? ⟨ob, 3, none⟩ = some (.slice d4 d5 d6)) := fun u hu => box_cells ((hu.block ob (lt_of HP.out.2.2.2.1)).trans HP.out.2.2.2.1)
        go_upto_region 33 with (first
          | (go_at_call 11; go_must (refine HSm.out.mono ?_; rintro e w4 ⟨rfl, K4⟩; obtain ⟨t0, t1, t2, t3⟩ := HXk.out w4 K4.out))
          | (go_at_call 12; go_must (refine (HSp.out _ K4.out).mono ?_; rintro e w5 ⟨rfl, K5⟩)))
        clear HSm HSp HXk x0 x1 x2 x3 y0 y1 y2 y3 t0 t1 t2 t3
        have HZ : Hid (HS c (L) rb (L) w w5 0 0 ∧ CatOk (L) ∧ (L).length ≤ 4096) := ⟨K5.out, HQ.out.2⟩
        obtain ⟨LN, hLN⟩ : ∃ LN, (L) = LN := ⟨_, rfl⟩
        rw [hLN] at HZ
        obtain ⟨NN, hNN⟩ : ∃ NN, LN.length = NN := ⟨_, rfl⟩
        have KN1 : Hid (Calls Tryz.prog 22 #[.pointer (some ⟨c, 0, none⟩)] w5 fun e w' => ∃ A cap, e = .returned (.slice A NN cap) ∧ Hid (SliceAt w' (.slice A NN cap) 1 enS (namesC LN) ∧ Below (w5).heap.size (w5) w')) := HZ.out.1.namesP hNN
        have KN2 : Hid (∀ u, HS c LN rb LN w u 0 0 → Calls Tryz.prog 23 #[.pointer (some ⟨rb, 0, none⟩)] u fun e w' => ∃ A n cap, e = .returned (.slice A n cap) ∧ Hid (SliceAt w' (.slice A n cap) 1 enS (namesC LN) ∧ Below u.heap.size u w')) := fun u hu => hu.namesR
        have KS : Hid (∀ u v v', SliceAt u v 1 enS (namesC LN) → SliceAt u v' 1 enS (namesC LN) → Calls Tryz.prog 21 #[v, v'] u fun e w' => e = .returned (.bool true) ∧ Hid (Below u.heap.size u w')) := fun u v v' h1 h2 => by
          have := sameTexts_any v v' (namesC LN) (namesC LN) u h1 h2
          rw [decide_eq_true rfl] at this
          exact this.mono fun e w' ⟨e1, m, e2⟩ => ⟨e1, by rw [e2]; exact below_drewN u m⟩
        clear hLN hNN
        go_wp2_with (first
          | (go_at_call 22; go_must (refine KN1.out.mono ?_; rintro e z1 ⟨A4, cap4, rfl, S4⟩; have Z1 : Hid (HS c LN rb LN w z1 0 0) := HZ.out.1.below S4.out.2))
          | (go_at_call 23; go_must (refine (KN2.out _ Z1.out).mono ?_; rintro e z2 ⟨A5, n5, cap5, rfl, S5⟩; have Z2 : Hid (HS c LN rb LN w z2 0 0) := Z1.out.below S5.out.2; have S4' : Hid (SliceAt z2 (.slice A4 NN cap4) 1 enS (namesC LN)) := S4.out.1.below S5.out.2))
          | (go_at_call 21; go_must (refine (KS.out _ _ _ S4'.out S5.out.1).mono ?_; rintro e z3 ⟨rfl, Z3⟩; have Z4 : Hid (HS c LN rb LN w z3 0 0) := Z2.out.below Z3.out)))
        go_roundw
        case rel => exact ⟨i + 1, c, LN, by omega, rfl, by go_num, Z4.out, HZ.out.2⟩
        case measure => simp [intOf]; omega
      · -- Encode
        have HE1 : Hid (Calls Tryz.prog 17 #[.pointer (some ⟨c, 0, none⟩)] wA fun e w' => e = .returned (.tuple #[.string (encS L), .int .i64 (encE L)]) ∧ Hid (Below wA.heap.size wA w')) := HSA.out.encP
        have HE2 : Hid (∀ u, HS c L rb L w u ab (ab + 1) → Calls Tryz.prog 18 #[.pointer (some ⟨rb, 0, none⟩)] u fun e w' => e = .returned (.tuple #[.string (encS L), .int .i64 (encE L)]) ∧ Hid (Below u.heap.size u w')) := fun u hu => hu.encR
        clear a0 a1 a2 a3 a4 a5
        by_cases hbig : (catB L).length ≤ 262144
        · obtain ⟨en1, en2⟩ := enc_good hbig
          obtain ⟨sA, hsA⟩ : ∃ sA, bytesOf (catB L) = sA := ⟨_, rfl⟩
          rw [en1, en2, hsA] at HE1 HE2
          have HDc : Hid (∀ u, Calls Tryz.prog 20 #[.string sA] u fun e w' => ∃ d, e = .returned (.tuple #[.pointer (some ⟨d, 0, none⟩), .agg #[.int .i64 0, .int .i64 0]]) ∧ Hid (∃ F, CatI d L w' F ∧ (∀ i, F i → u.heap.size ≤ i) ∧ Below u.heap.size u w')) := fun u => by rw [← hsA]; exact decode_good u hbig ⟨rfl, HQ.out.2.1, HQ.out.2.2⟩
          have hq : ∀ W : World, (Op.equalIn 10000 48 (.agg #[.int .i64 0, .int .i64 0]) (.agg #[.int .i64 0, .int .i64 0])).run Tryz.prog W = .ok true W := fun W => eqFltSame 0 W
          clear en1 en2 hsA
          go_upto_region 33 with (first
            | (go_at_call 17; go_must (refine HE1.out.mono ?_; rintro e w2 ⟨rfl, K2⟩; have S2 : Hid (HS c L rb L w w2 ab (ab + 1)) := HSA.out.below K2.out))
            | (go_at_call 18; go_must (refine (HE2.out _ S2.out).mono ?_; rintro e w3 ⟨rfl, K3⟩; have S3 : Hid (HS c L rb L w w3 ab (ab + 1)) := S2.out.below K3.out))
            | (go_at_call 20; go_must (refine (HDc.out _).mono ?_; rintro e w4 ⟨d, rfl, K4⟩; have S4 : Hid (∀ o : Obj, HS d L rb L w (w4.alloc o) 0 0) := (fun o => by obtain ⟨F, f1, f2, f3⟩ := K4.out; exact (S3.out.other f1 f2 f3).below ((Below.refl _ w4).alloc (Nat.le_refl _) o)))))
          obtain ⟨wD, hwD⟩ : ∃ u, w4.alloc (.cells #[.int .i64 0, .int .i64 0] 48) = u := ⟨_, rfl⟩
          have SD : Hid (HS d L rb L w wD 0 0) := by rw [← hwD]; exact S4.out _
          rw [hwD]
          clear hwD S4
          have HZ : Hid (HS d (L) rb (L) w wD 0 0 ∧ CatOk (L) ∧ (L).length ≤ 4096) := ⟨SD.out, HQ.out.2⟩
          obtain ⟨LN, hLN⟩ : ∃ LN, (L) = LN := ⟨_, rfl⟩
          rw [hLN] at HZ
          obtain ⟨NN, hNN⟩ : ∃ NN, LN.length = NN := ⟨_, rfl⟩
          have KN1 : Hid (Calls Tryz.prog 22 #[.pointer (some ⟨d, 0, none⟩)] wD fun e w' => ∃ A cap, e = .returned (.slice A NN cap) ∧ Hid (SliceAt w' (.slice A NN cap) 1 enS (namesC LN) ∧ Below (wD).heap.size (wD) w')) := HZ.out.1.namesP hNN
          have KN2 : Hid (∀ u, HS d LN rb LN w u 0 0 → Calls Tryz.prog 23 #[.pointer (some ⟨rb, 0, none⟩)] u fun e w' => ∃ A n cap, e = .returned (.slice A n cap) ∧ Hid (SliceAt w' (.slice A n cap) 1 enS (namesC LN) ∧ Below u.heap.size u w')) := fun u hu => hu.namesR
          have KS : Hid (∀ u v v', SliceAt u v 1 enS (namesC LN) → SliceAt u v' 1 enS (namesC LN) → Calls Tryz.prog 21 #[v, v'] u fun e w' => e = .returned (.bool true) ∧ Hid (Below u.heap.size u w')) := fun u v v' h1 h2 => by
            have := sameTexts_any v v' (namesC LN) (namesC LN) u h1 h2
            rw [decide_eq_true rfl] at this
            exact this.mono fun e w' ⟨e1, m, e2⟩ => ⟨e1, by rw [e2]; exact below_drewN u m⟩
          clear hLN hNN
          go_wp2_with (first
            | (go_at_call 22; go_must (refine KN1.out.mono ?_; rintro e z1 ⟨A4, cap4, rfl, S4⟩; have Z1 : Hid (HS d LN rb LN w z1 0 0) := HZ.out.1.below S4.out.2))
            | (go_at_call 23; go_must (refine (KN2.out _ Z1.out).mono ?_; rintro e z2 ⟨A5, n5, cap5, rfl, S5⟩; have Z2 : Hid (HS d LN rb LN w z2 0 0) := Z1.out.below S5.out.2; have S4' : Hid (SliceAt z2 (.slice A4 NN cap4) 1 enS (namesC LN)) := S4.out.1.below S5.out.2))
            | (go_at_call 21; go_must (refine (KS.out _ _ _ S4'.out S5.out.1).mono ?_; rintro e z3 ⟨rfl, Z3⟩; have Z4 : Hid (HS d LN rb LN w z3 0 0) := Z2.out.below Z3.out)))
          go_roundw
          case rel => exact ⟨i + 1, d, LN, by omega, rfl, by go_num, Z4.out, HZ.out.2⟩
          case measure => simp [intOf]; omega
        · have hee : encE L = 2 := by unfold encE; rw [if_neg hbig]
          obtain ⟨es, hes⟩ : ∃ es, encS L = es := ⟨_, rfl⟩
          rw [hee, hes] at HE1 HE2
          clear hee hes
          go_wp2_with (first
            | (go_at_call 17; go_must (refine HE1.out.mono ?_; rintro e w2 ⟨rfl, K2⟩; have S2 : Hid (HS c L rb L w w2 ab (ab + 1)) := HSA.out.below K2.out))
            | (go_at_call 18; go_must (refine (HE2.out _ S2.out).mono ?_; rintro e w3 ⟨rfl, K3⟩; have S3 : Hid (HS c L rb L w w3 ab (ab + 1)) := S2.out.below K3.out))
            | (go_at_call 19; go_must (refine (HWk.out _ S3.out.base).mono ?_; rintro e w4 ⟨rfl, K4⟩)))
          go_ret
          exact ⟨rfl, K4.out⟩
    · have hex : (¬ (i : Int) < (m : Int)) ∨ ((i : Int) < (m : Int) ∧ ¬ (i : Int) < 100) := by omega
      have HE : Hid (Calls Tryz.prog 19 #[] wr fun e w' => e = .returned (.bool true) ∧ Hid (Below w.heap.size w w')) := HWk.out wr HQ.out.1.base
      rcases hex with hx1 | ⟨hx1, hx2⟩
      all_goals (
        go_wp2_with (go_at_call 19; go_must (refine HE.out.mono ?_; rintro e we ⟨rfl, KE⟩))
        go_ret
        exact ⟨rfl, KE.out⟩)

end PlaysL
end Go.Proofs.YtnboanlhdllhnaaGreat
