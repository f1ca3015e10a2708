/- AuthOthers: the law's walk. -/
import Derived.Test.YtibglhlhogfdnaaDoorUKit
import Derived.Deep.RegionHeld3
namespace Go.Proofs.YtibglhlhogfdnaaDoor
open Go.RowKit QP AP
namespace OthersL

abbrev na : ByteArray := ⟨#[97]⟩
abbrev nbb : ByteArray := ⟨#[98]⟩
theorem ok_a : nameOk na = true := by decide
theorem ok_b : nameOk nbb = true := by decide
theorem put_ok {K : List Kv} {n k : ByteArray} (hn : nameOk n = true) (h1 : 1 ≤ k.size) (h2 : k.size ≤ 64) (h3 : K.length ≤ 100) : putE K n k = 0 ∧ putK K n k = insK n k K := by
  have h : putE K n k = 0 := by
    unfold putE
    rw [hn, if_neg (by simp), if_neg (by omega)]
  exact ⟨h, putK_ok h⟩
theorem ins_a (x y : ByteArray) : insK na y [(na, x)] = [(na, y)] := by
  unfold insK
  rw [if_neg (by rw [bl_self]; simp), if_pos rfl]
theorem ins_b (x y : ByteArray) : insK nbb y [(na, x)] = [(na, x), (nbb, y)] := by
  have h : bl na nbb = true := by
    unfold bl
    rw [Go.ByteArray.toList_eq, Go.ByteArray.toList_eq]
    rfl
  unfold insK
  rw [if_pos h]
  rfl
theorem get_a (x y : ByteArray) : getK na [(na, x), (nbb, y)] = some x := by unfold getK; rw [if_pos rfl]
theorem na_nbb : ¬ na = nbb := by decide
theorem get_b (x y : ByteArray) : getK nbb [(na, x), (nbb, y)] = some y := by
  unfold getK
  rw [if_neg na_nbb]
  unfold getK
  rw [if_pos rfl]
theorem toList_eq_dec (x y : ByteArray) : (x.toList == y.toList) = decide (x = y) := by
  by_cases h : x = y
  · subst h; simp
  · rw [decide_eq_false h, beq_eq_false_iff_ne]
    exact fun e => h (toList_inj e)

set_option maxRecDepth 100000 in
set_option maxHeartbeats 8000000 in
theorem walk (T : KitA) (a b : ByteArray) (d1 d2 : Nat) (nn : Int) (w00 : World) (hw0 : T.Ok w00) (hd1 : d1 < 18446744073709551616) (hd2 : d2 < 18446744073709551616) : Calls Tryd.prog 5 #[.string a, .string b, .agg #[.int .u64 (d1 : Int), .int .u64 (d2 : Int), .int .i64 nn]] w00 fun e w' => e = .returned (.bool true) ∧ Below w00.heap.size w00 w' := by
  obtain ⟨w, hw'⟩ : ∃ w, w00.alloc (.cells #[.int .u64 (d1 : Int), .int .u64 (d2 : Int), .int .i64 nn] 48) = w := ⟨_, rfl⟩
  have hB0 : Below w00.heap.size w00 w := by rw [← hw']; exact (Below.refl _ _).alloc (Nat.le_refl _) _
  have hbox : w.heap[w00.heap.size]? = some (.cells #[.int .u64 (d1 : Int), .int .u64 (d2 : Int), .int .i64 nn] 48) := by rw [← hw']; exact heap_new _ _
  have hlt : w00.heap.size < w.heap.size := lt_of hbox
  have hw : T.Ok w := T.ok hw0 hB0
  have HW0 : Hid (w00.alloc (.cells #[.int .u64 (d1 : Int), .int .u64 (d2 : Int), .int .i64 nn] 48) = w) := hw'
  have HE : Hid (∀ {I : World → (Nat → Prop) → Prop} {u : World}, Stand I w u [] → Below w00.heap.size w00 u) := fun h => hB0.trans (h.base.mono hB0.size)
  obtain ⟨bb, hbb⟩ : ∃ bb, w00.heap.size = bb := ⟨_, rfl⟩
  rw [hbb] at hbox hlt
  have HCell : Hid (∀ {I : World → (Nat → Prop) → Prop} {u : World}, Stand I w u [] → u.cell? ⟨bb, 0, none⟩ = some (.int .u64 (d1 : Int)) ∧ u.cell? ⟨bb, 1, none⟩ = some (.int .u64 (d2 : Int)) ∧ u.cell? ⟨bb, 2, none⟩ = some (.int .i64 nn)) := fun h => by
    have h1 := (h.base.block bb hlt).trans hbox
    exact ⟨cell_of h1 0, cell_of h1 1, cell_of h1 2⟩
  clear hw' hbox
  have HN : Hid (∀ u, Below w.heap.size w u → Calls Tryd.prog 7 #[] u fun e w' => ∃ g, e = .returned (.pointer (some ⟨g, 0, none⟩)) ∧ Stand (T.I g []) w w' []) := fun u hu => snew hw hu
  have HW : Hid (∀ g K u, Stand (T.I g K) w u [] → Calls Tryd.prog 8 #[] u fun e w' => e = .returned (.bool true) ∧ Stand (T.I g K) w w' []) := fun g K u hu => (works_any T u (T.okAt hw hu)).mono fun _ _ x => ⟨x.1, hu.below (T.res g K) x.2⟩
  have HP1 : Hid (∀ g u, Stand (T.I g []) w u [] → Calls Tryd.prog 12 #[.pointer (some ⟨g, 0, none⟩), .string na, .string kk] u fun e w' => e = .returned (.int .i64 0) ∧ Stand (T.I g [(na, kk)]) w w' []) := fun g u h => by
    have := sput hw h na kk (by decide) (by decide)
    obtain ⟨e1, e2⟩ := put_ok (K := []) (k := kk) ok_a (by decide) (by decide) (by decide)
    rw [e1, e2] at this
    exact this
  by_cases hab : (1 ≤ a.size ∧ a.size ≤ 64) ∧ 1 ≤ b.size ∧ b.size ≤ 64
  · obtain ⟨⟨a1, a2⟩, b1, b2⟩ := hab
    have z1 : decide ((a.size : Int) < 1) = false := decide_eq_false (by omega)
    have z2 : decide ((64 : Int) < (a.size : Int)) = false := decide_eq_false (by omega)
    have z3 : decide ((b.size : Int) < 1) = false := decide_eq_false (by omega)
    have z4 : decide ((64 : Int) < (b.size : Int)) = false := decide_eq_false (by omega)
    have HP2 : Hid (∀ g u, Stand (T.I g [(na, kk)]) w u [] → Calls Tryd.prog 12 #[.pointer (some ⟨g, 0, none⟩), .string na, .string a] u fun e w' => e = .returned (.int .i64 0) ∧ Stand (T.I g [(na, a)]) w w' []) := fun g u h => by
      have := sput hw h na a (by decide) (by omega)
      obtain ⟨e1, e2⟩ := put_ok (K := [(na, kk)]) (k := a) ok_a a1 a2 (by simp)
      rw [e1, e2, ins_a] at this
      exact this
    obtain ⟨K, hK⟩ : ∃ K, [(na, a), (nbb, b)] = K := ⟨_, rfl⟩
    have HP3 : Hid (∀ g u, Stand (T.I g [(na, a)]) w u [] → Calls Tryd.prog 12 #[.pointer (some ⟨g, 0, none⟩), .string nbb, .string b] u fun e w' => e = .returned (.int .i64 0) ∧ Stand (T.I g K) w w' []) := fun g u h => by
      have := sput hw h nbb b (by decide) (by omega)
      obtain ⟨e1, e2⟩ := put_ok (K := [(na, a)]) (k := b) ok_b b1 b2 (by simp)
      rw [e1, e2, ins_b, hK] at this
      exact this
    have ga : getK na K = some a := by rw [← hK, get_a]
    have gb : getK nbb K = some b := by rw [← hK, get_b]
    have hUp : ∃ U : Nat, (IntKind.u64.wrap nn).toNat = U := ⟨_, rfl⟩
    obtain ⟨U, hU⟩ := hUp
    obtain ⟨c, hc⟩ : ∃ c, chal d1 U = c := ⟨_, rfl⟩
    obtain ⟨d, hd⟩ : ∃ c, chal d2 U = c := ⟨_, rfl⟩
    have hcs : c.size = 32 := by rw [← hc, chal_size]
    have hds : d.size = 32 := by rw [← hd, chal_size]
    have HC1 : Hid (∀ g u, Stand (T.I g K) w u [] → Calls Tryd.prog 9 #[.int .u64 (d1 : Int), .int .i64 nn] u fun e w' => e = .returned (.string c) ∧ Stand (T.I g K) w w' [] ∧ w'.cell? ⟨bb, 0, none⟩ = some (.int .u64 (d1 : Int)) ∧ w'.cell? ⟨bb, 1, none⟩ = some (.int .u64 (d2 : Int)) ∧ w'.cell? ⟨bb, 2, none⟩ = some (.int .i64 nn)) := fun g u h => (schal hw h d1 nn hd1).mono fun e w' x => by
      rw [hU, hc] at x
      exact ⟨x.1, x.2, HCell.out x.2⟩
    have HC2 : Hid (∀ g u, Stand (T.I g K) w u [] → Calls Tryd.prog 9 #[.int .u64 (d2 : Int), .int .i64 nn] u fun e w' => e = .returned (.string d) ∧ Stand (T.I g K) w w' [] ∧ w'.cell? ⟨bb, 0, none⟩ = some (.int .u64 (d1 : Int)) ∧ w'.cell? ⟨bb, 1, none⟩ = some (.int .u64 (d2 : Int)) ∧ w'.cell? ⟨bb, 2, none⟩ = some (.int .i64 nn)) := fun g u h => (schal hw h d2 nn hd2).mono fun e w' x => by
      rw [hU, hd] at x
      exact ⟨x.1, x.2, HCell.out x.2⟩
    obtain ⟨p, hp⟩ : ∃ p, proof a na c = p := ⟨_, rfl⟩
    obtain ⟨pb, hpb⟩ : ∃ p, proof b nbb c = p := ⟨_, rfl⟩
    obtain ⟨pd, hpd⟩ : ∃ p, proof a na d = p := ⟨_, rfl⟩
    have hps : p.size = 32 := by rw [← hp, proof_size]
    have HF1 : Hid (∀ g u, Stand (T.I g K) w u [] → Calls Tryd.prog 16 #[.string a, .string na, .string c] u fun e w' => e = .returned (.string p) ∧ Stand (T.I g K) w w' []) := fun g u h => by
      have := sproof hw h a na c (by omega) (by decide) (by omega)
      rw [hp] at this
      exact this
    have HF2 : Hid (∀ g u, Stand (T.I g K) w u [] → Calls Tryd.prog 16 #[.string b, .string nbb, .string c] u fun e w' => e = .returned (.string pb) ∧ Stand (T.I g K) w w' []) := fun g u h => by
      have := sproof hw h b nbb c (by omega) (by decide) (by omega)
      rw [hpb] at this
      exact this
    have HF3 : Hid (∀ g u, Stand (T.I g K) w u [] → Calls Tryd.prog 16 #[.string a, .string na, .string d] u fun e w' => e = .returned (.string pd) ∧ Stand (T.I g K) w w' []) := fun g u h => by
      have := sproof hw h a na d (by omega) (by decide) (by omega)
      rw [hpd] at this
      exact this
    obtain ⟨E1, hE1⟩ : ∃ E, checkE K nbb c p = E := ⟨_, rfl⟩
    obtain ⟨E2, hE2⟩ : ∃ E, checkE K na d p = E := ⟨_, rfl⟩
    have HG1 : Hid (∀ g u, Stand (T.I g K) w u [] → Calls Tryd.prog 18 #[.pointer (some ⟨g, 0, none⟩), .string nbb, .string c, .string p] u fun e w' => e = .returned (.int .i64 E1) ∧ Stand (T.I g K) w w' []) := fun g u h => by
      have := scheck hw h nbb c p (by decide) (by omega) (by omega)
      rw [hE1] at this
      exact this
    have HG2 : Hid (∀ g u, Stand (T.I g K) w u [] → Calls Tryd.prog 18 #[.pointer (some ⟨g, 0, none⟩), .string na, .string d, .string p] u fun e w' => e = .returned (.int .i64 E2) ∧ Stand (T.I g K) w w' []) := fun g u h => by
      have := scheck hw h na d p (by decide) (by omega) (by omega)
      rw [hE2] at this
      exact this
    obtain ⟨q1, hq1⟩ : ∃ q, decide (p = pb) = q := ⟨_, rfl⟩
    obtain ⟨q2, hq2⟩ : ∃ q, decide (p = pd) = q := ⟨_, rfl⟩
    have t1 : (p.toList == pb.toList) = q1 := by rw [toList_eq_dec, hq1]
    have t2 : (p.toList == pd.toList) = q2 := by rw [toList_eq_dec, hq2]
    have s1 : ((E1 : Int) == 0) = q1 := by
      rw [← hE1, ← hq1]
      by_cases h : p = pb
      · rw [decide_eq_true h, h, ← hpb, checkE_yes gb]; rfl
      · rw [decide_eq_false h, checkE_no gb (by rw [hpb]; exact h)]; rfl
    have s2 : ((E2 : Int) == 0) = q2 := by
      rw [← hE2, ← hq2]
      by_cases h : p = pd
      · rw [decide_eq_true h, h, ← hpd, checkE_yes ga]; rfl
      · rw [decide_eq_false h, checkE_no ga (by rw [hpd]; exact h)]; rfl
    have hcd : c = d → q2 = true := fun h => by
      rw [← hq2]
      exact decide_eq_true (by rw [← hp, ← hpd, h])
    clear hK ga gb hU hc hd hp hpb hpd hps hcs hds hE1 hE2 hq1 hq2
    by_cases h : c = d
    · obtain rfl := hcd h
      subst h
      clear hcd
      go_enter Tryd.func5, Tryd.ntmps5
      go_wp2_with fail
      rw [HW0.out]
      refine (HN.out _ (Below.refl _ _)).mono ?_
      rintro e w1 ⟨g, rfl, hs1⟩
      go_wp2_with fail
      refine (HW.out _ _ _ hs1).mono ?_
      rintro e w2 ⟨rfl, hs2⟩
      go_wp2_with fail
      refine (HP1.out _ _ hs2).mono ?_
      rintro e w3 ⟨rfl, hs3⟩
      go_wp2_with fail
      refine (HP2.out _ _ hs3).mono ?_
      rintro e w4 ⟨rfl, hs4⟩
      go_wp2_with fail
      refine (HP3.out _ _ hs4).mono ?_
      rintro e w5 ⟨rfl, hs5⟩
      obtain ⟨x1, x2, x3⟩ := HCell.out hs5
      have hS : Stand (T.I g K) w w5.drew [] := hs5.drewN (T.res _ _) 1
      go_wp2_with fail
      go_region_held3 (fun u => u.cell? ⟨bb, 0, none⟩ = some (.int .u64 (d1 : Int)) ∧ u.cell? ⟨bb, 1, none⟩ = some (.int .u64 (d2 : Int)) ∧ u.cell? ⟨bb, 2, none⟩ = some (.int .i64 nn)) (go_keep)
        (first
          | (go_at_call 9; (with_reducible refine (HC1.out _ _ hS).mono ?_); rintro e w6 ⟨rfl, hS, y1, y2, y3⟩)
          | (go_at_call 9; (with_reducible refine (HC2.out _ _ hS).mono ?_); rintro e w6 ⟨rfl, hS, y1, y2, y3⟩))
      go_wp2_with fail
      refine (HF1.out _ _ hS).mono ?_
      rintro e w7 ⟨rfl, hs7⟩
      go_wp2_with fail
      refine (HG1.out _ _ hs7).mono ?_
      rintro e w8 ⟨rfl, hs8⟩
      go_wp2_with fail
      refine (HF2.out _ _ hs8).mono ?_
      rintro e w9 ⟨rfl, hs9⟩
      go_wp2_with fail
      refine (HG2.out _ _ hs9).mono ?_
      rintro e w10 ⟨rfl, hs10⟩
      go_wp2_with fail
      refine (HF3.out _ _ hs10).mono ?_
      rintro e w11 ⟨rfl, hs11⟩
      go_wp2_with fail
      refine (HG2.out _ _ hs11).mono ?_
      rintro e w12 ⟨rfl, hs12⟩
      go_wp2_with fail
      go_ret
      exact ⟨rfl, HE.out hs12⟩
    · have t3 : (c.toList == d.toList) = false := by rw [toList_eq_dec, decide_eq_false h]
      clear h hcd
      go_enter Tryd.func5, Tryd.ntmps5
      go_wp2_with fail
      rw [HW0.out]
      refine (HN.out _ (Below.refl _ _)).mono ?_
      rintro e w1 ⟨g, rfl, hs1⟩
      go_wp2_with fail
      refine (HW.out _ _ _ hs1).mono ?_
      rintro e w2 ⟨rfl, hs2⟩
      go_wp2_with fail
      refine (HP1.out _ _ hs2).mono ?_
      rintro e w3 ⟨rfl, hs3⟩
      go_wp2_with fail
      refine (HP2.out _ _ hs3).mono ?_
      rintro e w4 ⟨rfl, hs4⟩
      go_wp2_with fail
      refine (HP3.out _ _ hs4).mono ?_
      rintro e w5 ⟨rfl, hs5⟩
      obtain ⟨x1, x2, x3⟩ := HCell.out hs5
      have hS : Stand (T.I g K) w w5.drew [] := hs5.drewN (T.res _ _) 1
      go_wp2_with fail
      go_region_held3 (fun u => u.cell? ⟨bb, 0, none⟩ = some (.int .u64 (d1 : Int)) ∧ u.cell? ⟨bb, 1, none⟩ = some (.int .u64 (d2 : Int)) ∧ u.cell? ⟨bb, 2, none⟩ = some (.int .i64 nn)) (go_keep)
        (first
          | (go_at_call 9; (with_reducible refine (HC1.out _ _ hS).mono ?_); rintro e w6 ⟨rfl, hS, y1, y2, y3⟩)
          | (go_at_call 9; (with_reducible refine (HC2.out _ _ hS).mono ?_); rintro e w6 ⟨rfl, hS, y1, y2, y3⟩))
      go_wp2_with fail
      refine (HF1.out _ _ hS).mono ?_
      rintro e w7 ⟨rfl, hs7⟩
      go_wp2_with fail
      refine (HG1.out _ _ hs7).mono ?_
      rintro e w8 ⟨rfl, hs8⟩
      go_wp2_with fail
      refine (HF2.out _ _ hs8).mono ?_
      rintro e w9 ⟨rfl, hs9⟩
      go_wp2_with fail
      refine (HG2.out _ _ hs9).mono ?_
      rintro e w10 ⟨rfl, hs10⟩
      go_wp2_with fail
      refine (HF3.out _ _ hs10).mono ?_
      rintro e w11 ⟨rfl, hs11⟩
      go_wp2_with fail
      go_ret
      exact ⟨rfl, HE.out hs11⟩
  · by_cases z1 : a.size < 1
    · have y1 : decide ((a.size : Int) < 1) = true := decide_eq_true (by omega)
      go_enter Tryd.func5, Tryd.ntmps5
      go_wp2_with fail
      rw [HW0.out]
      refine (HN.out _ (Below.refl _ _)).mono ?_
      rintro e w1 ⟨g, rfl, hs1⟩
      go_wp2_with fail
      refine (HW.out _ _ _ hs1).mono ?_
      rintro e w2 ⟨rfl, hs2⟩
      go_wp2_with fail
      refine (HP1.out _ _ hs2).mono ?_
      rintro e w3 ⟨rfl, hs3⟩
      go_wp2_with fail
      go_ret
      exact ⟨rfl, HE.out hs3⟩
    have y1 : decide ((a.size : Int) < 1) = false := decide_eq_false (by omega)
    by_cases z2 : 64 < a.size
    · have y2 : decide ((64 : Int) < (a.size : Int)) = true := decide_eq_true (by omega)
      go_enter Tryd.func5, Tryd.ntmps5
      go_wp2_with fail
      rw [HW0.out]
      refine (HN.out _ (Below.refl _ _)).mono ?_
      rintro e w1 ⟨g, rfl, hs1⟩
      go_wp2_with fail
      refine (HW.out _ _ _ hs1).mono ?_
      rintro e w2 ⟨rfl, hs2⟩
      go_wp2_with fail
      refine (HP1.out _ _ hs2).mono ?_
      rintro e w3 ⟨rfl, hs3⟩
      go_wp2_with fail
      go_ret
      exact ⟨rfl, HE.out hs3⟩
    have y2 : decide ((64 : Int) < (a.size : Int)) = false := decide_eq_false (by omega)
    by_cases z3 : b.size < 1
    · have y3 : decide ((b.size : Int) < 1) = true := decide_eq_true (by omega)
      go_enter Tryd.func5, Tryd.ntmps5
      go_wp2_with fail
      rw [HW0.out]
      refine (HN.out _ (Below.refl _ _)).mono ?_
      rintro e w1 ⟨g, rfl, hs1⟩
      go_wp2_with fail
      refine (HW.out _ _ _ hs1).mono ?_
      rintro e w2 ⟨rfl, hs2⟩
      go_wp2_with fail
      refine (HP1.out _ _ hs2).mono ?_
      rintro e w3 ⟨rfl, hs3⟩
      go_wp2_with fail
      go_ret
      exact ⟨rfl, HE.out hs3⟩
    have y3 : decide ((b.size : Int) < 1) = false := decide_eq_false (by omega)
    have z4 : 64 < b.size := by omega
    have y4 : decide ((64 : Int) < (b.size : Int)) = true := decide_eq_true (by omega)
    go_enter Tryd.func5, Tryd.ntmps5
    go_wp2_with fail
    rw [HW0.out]
    refine (HN.out _ (Below.refl _ _)).mono ?_
    rintro e w1 ⟨g, rfl, hs1⟩
    go_wp2_with fail
    refine (HW.out _ _ _ hs1).mono ?_
    rintro e w2 ⟨rfl, hs2⟩
    go_wp2_with fail
    refine (HP1.out _ _ hs2).mono ?_
    rintro e w3 ⟨rfl, hs3⟩
    go_wp2_with fail
    go_ret
    exact ⟨rfl, HE.out hs3⟩
end OthersL
end Go.Proofs.YtibglhlhogfdnaaDoor
