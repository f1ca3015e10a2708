/- TableRaises: the law's own walk. -/
import Derived.Test.YtfddmibaojfalaaGreatXRaiseP
import Derived.Deep.Cut
import Derived.Deep.CutBlock
import Derived.Deep.DeepCutAuto
namespace Go.Proofs.YtfddmibaojfalaaGreat
open Go.RowKit Go.Maps

namespace RaiseL
abbrev colsO2 : Obj := .cells #[.string ⟨#[97]⟩, .int .i64 2, .string ⟨#[98]⟩, .int .i64 2] 25
/-- the law's schema as it lies -/
theorem tab2 {u : World} {pc : Nat} (h : u.heap[pc]? = some colsO2) : TabV u (.slice (some ⟨pc, 0, none⟩) 2 2) (.slice none 0 0) T2 := by
  refine ⟨sliceAt_flat (en := enC) (n := 2) (L := T2.co) (cap := 2) (fun _ => rfl) h rfl (by decide) (by decide), [], ⟨none, 0, rfl, Nat.le_refl _, Nat.zero_le _, fun q => absurd rfl q⟩, rfl, fun x hx => by cases hx⟩

set_option linter.unusedSimpArgs false in
set_option maxRecDepth 100000 in
set_option maxHeartbeats 8000000 in
theorem walk (hworks : ∀ u : World, Calls Tryz.prog 4 #[] u fun e w' => e = .returned (.bool true) ∧ Below u.heap.size u w') (n : Int) (hn : In64 n) (v : Value) (bs : List Int) (w : World) (hv : SliceAt w v 1 enI bs) (hb64 : ∀ b ∈ bs, In64 b) :
    Calls Tryz.prog 3 #[.int .i64 n, v] w fun e w' => e = .returned (.bool true) ∧ Below w.heap.size w w' := by
  have HWk : Hid (∀ u : World, Calls Tryz.prog 4 #[] u fun e w' => e = .returned (.bool true) ∧ Below u.heap.size u w') := hworks
  obtain ⟨va, vc, rfl, v1, v2, v3⟩ := id hv
  have HV : Hid (SliceAt w (.slice va bs.length vc) 1 enI bs) := hv
  obtain ⟨N, hN⟩ : ∃ N, bs.length = N := ⟨_, rfl⟩
  have HN : Hid (bs.length = N) := hN
  have HB64 : Hid (∀ b ∈ bs, In64 b) := hb64
  have HNw : Hid (∀ u : World, Calls Tryz.prog 5 #[] u fun e w' => ∃ d c m, e = .returned (.pointer (some ⟨d, 0, none⟩)) ∧ Hid (D0 w' u.heap.size w'.heap.size d c m) ∧ Hid (Below u.heap.size u w')) := new15_any
  have HBa : Hid (∀ (u : World) (o : Obj), Below u.heap.size u (u.alloc o)) := fun u o => (Below.refl _ u).alloc (Nat.le_refl _) o
  unfold maxLen at v2
  rw [hN] at v1 ⊢
  clear hworks hv v3 hN hb64
  go_enter Tryz.func3, Tryz.ntmps3
  go_wp2_with fail
  refine (HWk.out _).mono ?_
  rintro e w1 ⟨rfl, b1⟩
  have HB1 : Hid (Below w.heap.size w w1) := b1
  clear b1 HWk
  go_wp2_with fail
  obtain ⟨pc, hpc⟩ : ∃ x, w1.heap.size = x := ⟨_, rfl⟩
  obtain ⟨w2, hw2⟩ : ∃ u, w1.alloc colsO2 = u := ⟨_, rfl⟩
  obtain ⟨w3, hw3⟩ : ∃ u, w2.alloc (tabBox ⟨#[116]⟩ (some ⟨pc, 0, none⟩) 2 2 1 none 0 0) = u := ⟨_, rfl⟩
  have c2 : w2.heap[pc]? = some colsO2 := by rw [← hw2, ← hpc]; exact heap_new w1 _
  have z2 : w2.heap.size = pc + 1 := by rw [← hw2, ← hpc]; simp
  have c3 : w3.heap[pc]? = some colsO2 := by rw [← hw3, Below.heap_alloc _ _ _ (by omega)]; exact c2
  have t3 : w3.heap[pc + 1]? = some (tabBox ⟨#[116]⟩ (some ⟨pc, 0, none⟩) 2 2 1 none 0 0) := by rw [← hw3, ← z2]; exact heap_new w2 _
  have HB3 : Hid (Below w.heap.size w w3) := by
    show Below _ _ _
    rw [← hw3, ← hw2]
    exact bl_alloc (bl_alloc HB1.out _) _
  have H3 : Hid (w3.heap[pc]? = some colsO2 ∧ w3.heap[pc + 1]? = some (tabBox ⟨#[116]⟩ (some ⟨pc, 0, none⟩) 2 2 1 none 0 0)) := ⟨c3, t3⟩
  have z3 : w3.heap.size = pc + 2 := by rw [← hw3]; simp; omega
  have hpw : w.heap.size ≤ pc := by rw [← hpc]; exact HB1.out.size
  rw [hpc, hw2, hw3]
  clear hpc hw2 hw3 c2 c3 t3 z2
  refine (HNw.out _).mono ?_
  rintro e w4 ⟨da, ca, ma, rfl, HDa, HB4⟩
  go_wp2_with fail
  refine (HNw.out _).mono ?_
  rintro e w5 ⟨db, cb, mb, rfl, HDb, HB5⟩
  have HB35 : Hid (Below w3.heap.size w3 w5) := HB4.out.trans (HB5.out.mono HB4.out.size)
  have t5 := (HB35.out.block (pc + 1) (lt_of H3.out.2)).trans H3.out.2
  obtain ⟨p0, p1, p2, p3⟩ := box_cells15 t5
  have hl5 : pc + 1 < w5.heap.size := lt_of t5
  have HDa5 : Hid (D0 w5 w3.heap.size w4.heap.size da ca ma) := HDa.out.kept (Turn.ofBelow (fun _ => False) HB5.out) (fun _ _ _ q => q)
  have HCa : Hid (Calls Tryz.prog 6 #[.pointer (some ⟨da, 0, none⟩), .agg #[.string ⟨#[116]⟩, .slice (some ⟨pc, 0, none⟩) 2 2, .int .i64 1, .slice none 0 0]] w5 (CrR w3.heap.size w4.heap.size da ma T2 (fun S => S.ix = none) w5)) := create15 HDa5.out HB35.out _ _ T2 (tab2 H3.out.1) T2_rg (by decide) T2_may (fun S => S.ix = none) (fun u cv iv X ht => newTable_none ht rfl rfl)
  unfold CrR at HCa
  clear t5
  go_wp2_with fail
  refine HCa.out.mono ?_
  rintro e w6 ⟨rfl, ta, Sa, a1, a2, a3, a4, a5, a6, a7⟩
  have HA6 : Hid (DG w6 da ma ta Sa ∧ Nul Sa ∧ (∀ i, W ta Sa i → w5.heap.size ≤ i) ∧ Turn (fun i => CatQ w5 w3.heap.size w4.heap.size i) w5 w6) := ⟨a1, ⟨a2, a3, a5, a4⟩, a6, a7⟩
  have HDb6 : Hid (D0 w6 w4.heap.size w5.heap.size db cb mb) := HDb.out.kept a7 (fun i h1 _ q => by have := q.2.1; omega)
  have H36 : Hid (w6.heap[pc]? = some colsO2 ∧ w6.heap[pc + 1]? = some (tabBox ⟨#[116]⟩ (some ⟨pc, 0, none⟩) 2 2 1 none 0 0)) := by
    have kk : ∀ (i : Nat) (o : Obj), w3.heap[i]? = some o → w6.heap[i]? = some o := fun i o ho => by
      have e5 := (HB35.out.block i (lt_of ho)).trans ho
      exact (a7.block i (lt_of e5) (fun q => by have := q.1; have := lt_of ho; omega)).trans e5
    exact ⟨kk _ _ H3.out.1, kk _ _ H3.out.2⟩
  have hs56 : w5.heap.size ≤ w6.heap.size := a7.size
  have HLa : Hid (da < w4.heap.size ∧ ma < w4.heap.size) := ⟨HDa.out.hi.1, HDa.out.hi.2.1⟩
  clear a1 a2 a3 a4 a5 a6 a7 p0 p1 p2 p3 HCa HDa HDa5
  obtain ⟨p0, p1, p2, p3⟩ := box_cells15 H36.out.2
  have hl6 : pc + 1 < w6.heap.size := lt_of H36.out.2
  have HCb : Hid (Calls Tryz.prog 6 #[.pointer (some ⟨db, 0, none⟩), .agg #[.string ⟨#[116]⟩, .slice (some ⟨pc, 0, none⟩) 2 2, .int .i64 1, .slice none 0 0]] w6 (CrR w4.heap.size w5.heap.size db mb T2 (fun S => S.ix = none) w6)) := create15 HDb6.out (Below.refl _ _) _ _ T2 (tab2 H36.out.1) T2_rg (by decide) T2_may (fun S => S.ix = none) (fun u cv iv X ht => newTable_none ht rfl rfl)
  unfold CrR at HCb
  go_wp2_with fail
  refine HCb.out.mono ?_
  rintro e w7 ⟨rfl, tb, Sb, a1, a2, a3, a4, a5, a6, a7⟩
  have HBo : Hid (Both w7 da ma ta db mb tb Sa Sb) := ⟨HA6.out.1.keptB free_cat a7 (fun i q => q.2.2) (fun q => by have := q.1; have := HLa.out.1; omega) (fun q => by have := q.1; have := HLa.out.2; omega), a1, fun i h1 h2 => by
    have := HA6.out.1.tab.wlt h1
    have := a6 i h2
    omega⟩
  have HNb : Hid (Nul Sb) := ⟨a2, a3, a5, a4⟩
  have HB7 : Hid (Below w.heap.size w w7) := by
    have z4 := HB4.out.size
    have z5 := HB3.out.size
    have b5 : Below w.heap.size w w5 := HB3.out.trans (HB35.out.mono HB3.out.size)
    exact (((Turn.ofBelow (fun i => w.heap.size ≤ i) b5).trans (HA6.out.2.2.2.mono fun i q => by have := q.1; omega)).trans (a7.mono fun i q => by have := q.1; omega)).toBelow (Nat.le_refl _)
  have HNa : Hid (Nul Sa) := HA6.out.2.1
  have HWab : Hid ((∀ i, W ta Sa i → w.heap.size ≤ i) ∧ ∀ i, W tb Sb i → w.heap.size ≤ i) := by
    have b5 : Below w.heap.size w w5 := HB3.out.trans (HB35.out.mono HB3.out.size)
    have z5 := b5.size
    exact ⟨fun i hi => Nat.le_trans z5 (HA6.out.2.2.1 i hi), fun i hi => by have := a6 i hi; omega⟩
  clear a1 a2 a3 a4 a5 a6 a7 p0 p1 p2 p3 HCb HA6 HDb HDb6 H36 H3 HB35 HB3 HB4 HB5 HLa hl5 hl6 hs56 HNw HB1
  go_wp2_with fail
  obtain ⟨pk, hpk⟩ : ∃ x, w7.heap.size = x := ⟨_, rfl⟩
  obtain ⟨w8, hw8⟩ : ∃ u, w7.alloc (vobj 2 7 ⟨#[]⟩) = u := ⟨_, rfl⟩
  obtain ⟨w9, hw9⟩ : ∃ u, w8.alloc (rowO2 n) = u := ⟨_, rfl⟩
  obtain ⟨w10, hw10⟩ : ∃ u, w9.alloc (putO2 (pk + 1)) = u := ⟨_, rfl⟩
  have k8 : w8.heap[pk]? = some (vobj 2 7 ⟨#[]⟩) := by rw [← hw8, ← hpk]; exact heap_new w7 _
  have z8 : w8.heap.size = pk + 1 := by rw [← hw8, ← hpk]; simp
  have z9 : w9.heap.size = pk + 1 + 1 := by rw [← hw9]; simp; omega
  have r9 : w9.heap[pk + 1]? = some (rowO2 n) := by rw [← hw9, ← z8]; exact heap_new w8 _
  have o10 : w10.heap[pk + 1 + 1]? = some (putO2 (pk + 1)) := by rw [← hw10, ← z9]; exact heap_new w9 _
  have b8 : Below w8.heap.size w8 w9 := by rw [← hw9]; exact HBa.out _ _
  have b9 : Below w9.heap.size w9 w10 := by rw [← hw10]; exact HBa.out _ _
  have r10 := (b9.block (pk + 1) (lt_of r9)).trans r9
  have k10 : w10.heap[pk]? = some (vobj 2 7 ⟨#[]⟩) := by
    rw [b9.block pk (by omega), b8.block pk (by omega)]
    exact k8
  have HB70 : Hid (Below w7.heap.size w7 w10) := by
    show Below _ _ _
    rw [← hw10, ← hw9, ← hw8]
    exact bl_alloc (bl_alloc (bl_alloc (Below.refl _ _) _) _) _
  rw [hpk, hw8, hw9, hw10]
  have HK10 : Hid (w10.heap[pk]? = some (vobj 2 7 ⟨#[]⟩) ∧ w10.heap[pk + 1]? = some (rowO2 n) ∧ w10.heap[pk + 1 + 1]? = some (putO2 (pk + 1))) := ⟨k10, r10, o10⟩
  have HL10 : Hid (LS w pk da ma ta db mb tb w10 Sa Sb) := ⟨HBo.out.below HB70.out, HB7.out.trans (HB70.out.mono HB7.out.size), HWab.out.1, HWab.out.2, k10⟩
  clear hpk hw8 hw9 hw10 k8 z8 z9 r9 o10 b8 b9 r10 k10 HB70 HBo HB7 HWab
  refine (put_call HL10.out.both.a HNa.out n HK10.out.2.2 HK10.out.2.1).mono ?_
  rintro e w11 ⟨ra, rn, rc, rfl, HP⟩
  obtain ⟨Sa1, g1, g2, rA, g3⟩ := HP.out
  have HL11 : Hid (LS w pk da ma ta db mb tb w11 Sa1 Sb) := HL10.out.left g1 g2
  have HK11 : Hid (w11.heap[pk + 1]? = some (rowO2 n) ∧ w11.heap[pk + 1 + 1]? = some (putO2 (pk + 1))) :=
    ⟨(g1.turn.block _ (lt_of HK10.out.2.1) (fun q => Ty.not HK10.out.2.1 (by decide) (by decide) (by decide) (HL10.out.both.a.tab.wty q))).trans HK10.out.2.1, (g1.turn.block _ (lt_of HK10.out.2.2) (fun q => Ty.not HK10.out.2.2 (by decide) (by decide) (by decide) (HL10.out.both.a.tab.wty q))).trans HK10.out.2.2⟩
  have HOa : Hid (One Sa1 rA n) := g3
  clear g1 g2 g3 HP HK10 HL10 HNa
  go_wp2_with fail
  refine (put_call HL11.out.both.b HNb.out n HK11.out.2 HK11.out.1).mono ?_
  rintro e w12 ⟨ra', rn', rc', rfl, HP⟩
  obtain ⟨Sb1, g1, g2, rB, g3⟩ := HP.out
  have HL12 : Hid (LS w pk da ma ta db mb tb w12 Sa1 Sb1) := HL11.out.right g1 g2
  have HOb : Hid (One Sb1 rB n) := g3
  clear g1 g2 g3 HP HK11 HL11 HNb
  have HVc : Hid (∀ u, Below w.heap.size w u → ∀ (i : Nat) (b : Int), bs[i]? = some b → ∃ vb off, va = some ⟨vb, off, none⟩ ∧ vb < u.heap.size ∧ u.cell? ⟨vb, off + i, none⟩ = some (.int .i64 b)) := fun u hu i b hb => by
    obtain ⟨a, c, e1, _, _, e4⟩ := HV.out.below hu
    obtain ⟨hi, e⟩ := List.getElem?_eq_some_iff.1 hb
    obtain ⟨vb, off, e5, e6, e7⟩ := e4 (by intro q; rw [q] at hi; simp at hi)
    have e8 := e7 i hi 0 (.int .i64 b) (by rw [e]; rfl)
    rw [Nat.mul_one, Nat.add_zero] at e8
    injection e1 with e9
    exact ⟨vb, off, e9.trans e5, e6, e8⟩
  go_upto_block 0 with fail
  go_cut [10, 11] (fun up dn wc => ∃ (i : Nat) (ua : Option Addr) (uc : Nat) (na : Option Addr) (nc : Nat), i ≤ 30 ∧ up = .slice ua i uc ∧ dn = .slice na i nc ∧ Hid ((LS w pk da ma ta db mb tb wc Sa1 Sb1 ∧ OpsR w wc pk (.slice ua i uc) (bs.take i) ∧ OpsR w wc pk (.slice na i nc) (bs.take i).reverse ∧ ∀ k, (Value.slice ua i uc).ownBlock = some k → (Value.slice na i nc).ownBlock ≠ some k) ∧ (bs.take i).length = i ∧ ∀ b ∈ bs.take i, b ≠ -9223372036854775808))
  case first =>
    go_wp2_with fail
    go_loopg [12, 10, 11] 30 (fun gk v up dn wr => ∃ (i : Nat) (ua : Option Addr) (uc : Nat) (na : Option Addr) (nc : Nat), i ≤ N ∧ i ≤ 30 ∧ gk = 30 - i ∧ v = .int .i64 i ∧ up = .slice ua i uc ∧ dn = .slice na i nc ∧ Hid (LS w pk da ma ta db mb tb wr Sa1 Sb1 ∧ OpsR w wr pk (.slice ua i uc) (bs.take i) ∧ OpsR w wr pk (.slice na i nc) (bs.take i).reverse ∧ ∀ k, (Value.slice ua i uc).ownBlock = some k → (Value.slice na i nc).ownBlock ≠ some k) ∧ Hid (∀ b ∈ bs.take i, b ≠ -9223372036854775808))
    case atStart => exact ⟨0, none, 0, none, 0, Nat.zero_le _, Nat.zero_le _, rfl, rfl, rfl, rfl, ⟨HL12.out, OpsR.nil _ _ _, OpsR.nil _ _ _, fun k hk => by cases hk⟩, fun b hb => by cases hb⟩
    case round =>
      obtain ⟨i, ua, uc, na, nc, hi, hi30, rfl, rfl, rfl, rfl, HI, HMn⟩ := hrel
      clear HL12
      by_cases hlt : i < N ∧ i < 30
      · obtain ⟨hlN, hl30⟩ := hlt
        obtain ⟨b, hb⟩ : ∃ b, bs[i]? = some b := ⟨_, List.getElem?_eq_getElem (by rw [HN.out]; exact hlN)⟩
        obtain ⟨vb, off, rfl, hvl, hvc⟩ := HVc.out wr HI.out.1.below i b hb
        have hlI : (i : Int) < (N : Int) := by omega
        have hlJ : (i : Int) < 30 := by omega
        by_cases hmin : b = -9223372036854775808
        · subst hmin
          clear hb
          go_wp2_with fail
          go_ret
          exact ⟨rfl, HI.out.1.below⟩
        · have HTk : Hid (bs.take (i + 1) = bs.take i ++ [b] ∧ (bs.take i).length = i) := ⟨by rw [List.take_add_one, hb]; rfl, by rw [List.length_take, HN.out]; omega⟩
          have HC1 : Hid (∀ u, Below w.heap.size w u → u.cell? ⟨vb, off + i, none⟩ = some (.int .i64 b) ∧ vb < u.heap.size) := fun u hu => by
            obtain ⟨vb', off', e1, e2, e3⟩ := HVc.out u hu i b hb
            cases e1
            exact ⟨e3, e2⟩
          have HUp : Hid (∀ o, (wr.alloc o).ownsRow 0 39 9 (.slice ua i uc) i (flat enO ((bs.take i).map (opAdd (some ⟨pk, 0, none⟩, 1, 1))))) := fun o => by
            have := (HI.out.2.1.up (HBa.out wr o)).row
            rw [HTk.out.2] at this
            exact this
          have HUa : Hid (∀ j x, (enO (opAdd (some ⟨pk, 0, none⟩, 1, 1) b))[j]? = some x → (wr.alloc (.cells #[.int .i64 7, .string ⟨#[116]⟩, .slice (some ⟨pk, 0, none⟩) 1 1, .slice none 0 0, .slice none 0 0, .string ⟨#[]⟩, .int .i64 1, .int .i64 b, .int .i64 0] 39)).cell? ⟨wr.heap.size, j, none⟩ = some x) := fun j x hx => by
            rw [cell_of (heap_new wr _), List.getElem?_toArray]
            exact hx
          clear hb
          go_upto_region 18 with (at_builtin; go_must (refine wpList_append_one rfl _ _ 40 rfl 39 (.agg #[.int .i64 0, .string ⟨#[]⟩, .slice none 0 0, .slice none 0 0, .slice none 0 0, .string ⟨#[]⟩, .int .i64 0, .int .i64 0, .int .i64 0]) 9 136 Tryz.underlying40 infoOp rfl (by decide) (by decide) enO (fun _ => rfl) ((bs.take i).map (opAdd (some ⟨pk, 0, none⟩, 1, 1))) (opAdd (some ⟨pk, 0, none⟩, 1, 1) b) (oneO _) ua i uc rfl (HUp.out _) (by omega) wr.heap.size rfl HUa.out ?_; intro A2 m2 w14 K1 K2 K3))
          have HL14 : Hid (LS w pk da ma ta db mb tb w14 Sa1 Sb1 ∧ OpsR w w14 pk (.slice A2 (i + 1) m2) (bs.take (i + 1)) ∧ OpsR w w14 pk (.slice na i nc) (bs.take i).reverse ∧ ∀ k, (Value.slice A2 (i + 1) m2).ownBlock = some k → (Value.slice na i nc).ownBlock ≠ some k) := by
            obtain ⟨q1, q2, q3, q4⟩ := HI.out
            have hle : (bs.take (i + 1)).length = i + 1 := by rw [HTk.out.1, List.length_append, HTk.out.2]; rfl
            have hla := q1.up (HBa.out wr (.cells #[.int .i64 7, .string ⟨#[116]⟩, .slice (some ⟨pk, 0, none⟩) 1 1, .slice none 0 0, .slice none 0 0, .string ⟨#[]⟩, .int .i64 1, .int .i64 b, .int .i64 0] 39))
            have q2a := q2.up (HBa.out wr (.cells #[.int .i64 7, .string ⟨#[116]⟩, .slice (some ⟨pk, 0, none⟩) 1 1, .slice none 0 0, .slice none 0 0, .string ⟨#[]⟩, .int .i64 1, .int .i64 b, .int .i64 0] 39))
            have q3a := q3.up (HBa.out wr (.cells #[.int .i64 7, .string ⟨#[116]⟩, .slice (some ⟨pk, 0, none⟩) 1 1, .slice none 0 0, .slice none 0 0, .string ⟨#[]⟩, .int .i64 1, .int .i64 b, .int .i64 0] 39))
            have hsz := q1.below.size
            refine ⟨hla.op K2.out q2a.ty q2.new, ⟨?_, fun k hk => ?_⟩, q3a.keep fun k hk => ?_, fun k hk hd => ?_⟩
            · rw [hle, HTk.out.1, List.map_append]
              exact K1.out
            · rcases K3.out k hk with e | e
              · exact q2.new k e
              · simp at e; omega
            · obtain ⟨c, z, e⟩ := q3a.ty k hk
              exact K2.out.block k (lt_of e) (fun q => q4 k q hk)
            · rcases K3.out k hk with e | e
              · exact q4 k e hd
              · obtain ⟨c, z, e2⟩ := q3.ty k hd
                have := lt_of e2
                simp at e
                omega
          clear K1 K2 K3 HUp HUa HI
          obtain ⟨x1, x2⟩ := HC1.out w14 HL14.out.1.below
          have HDr : Hid (∀ o, (w14.alloc o).ownsRow 0 39 9 (.slice na i nc) ((bs.take i).reverse.map (opAdd (some ⟨pk, 0, none⟩, 1, 1))).length (flat enO ((bs.take i).reverse.map (opAdd (some ⟨pk, 0, none⟩, 1, 1))))) := fun o => by
            have := (HL14.out.2.2.1.up (HBa.out w14 o)).row
            rw [List.length_map]
            exact this
          have HD0 : Hid ((w14.alloc (.cells #[.int .i64 7, .string ⟨#[116]⟩, .slice (some ⟨pk, 0, none⟩) 1 1, .slice none 0 0, .slice none 0 0, .string ⟨#[]⟩, .int .i64 1, .int .i64 b, .int .i64 0] 39)).ownsRow 0 39 9 (.slice (some ⟨w14.heap.size, 0, none⟩) 1 1) [opAdd (some ⟨pk, 0, none⟩, 1, 1) b].length (flat enO [opAdd (some ⟨pk, 0, none⟩, 1, 1) b])) := ⟨rfl, Or.inr ⟨w14.heap.size, 1, _, rfl, Nat.zero_le _, heap_new w14 _, Nat.le_refl _, by decide, rfl, rfl⟩⟩
          go_wp2_with (at_builtin; go_must (refine append_list rfl _ _ 40 rfl 39 (.agg #[.int .i64 0, .string ⟨#[]⟩, .slice none 0 0, .slice none 0 0, .slice none 0 0, .string ⟨#[]⟩, .int .i64 0, .int .i64 0, .int .i64 0]) 9 136 Tryz.underlying40 infoOp rfl (by decide) (by decide) enO (fun _ => rfl) [opAdd (some ⟨pk, 0, none⟩, 1, 1) b] ((bs.take i).reverse.map (opAdd (some ⟨pk, 0, none⟩, 1, 1))) (fun y _ => oneO y) (.slice (some ⟨w14.heap.size, 0, none⟩) 1 1) (.slice na i nc) rfl HD0.out rfl (HDr.out _) (by rw [List.length_map, List.length_reverse, HTk.out.2]; simp; omega) ?_; intro A5 m5 w16 K1 K2 K3))
          have hlen : [opAdd (some ⟨pk, 0, none⟩, 1, 1) b].length + ((bs.take i).reverse.map (opAdd (some ⟨pk, 0, none⟩, 1, 1))).length = i + 1 := by
            rw [List.length_map, List.length_reverse, HTk.out.2]; simp; omega
          have hmin2 : 1 + min i bs.length = i + 1 := by have := HN.out; omega
          have HL16 : Hid (LS w pk da ma ta db mb tb w16 Sa1 Sb1 ∧ OpsR w w16 pk (.slice A2 (i + 1) m2) (bs.take (i + 1)) ∧ OpsR w w16 pk (.slice A5 (i + 1) m5) (bs.take (i + 1)).reverse ∧ ∀ k, (Value.slice A2 (i + 1) m2).ownBlock = some k → (Value.slice A5 (i + 1) m5).ownBlock ≠ some k) := by
            obtain ⟨q1, q2, q3, q4⟩ := HL14.out
            have k1 := K1.out
            have k3 := K3.out
            rw [hlen] at k1 k3
            have hb14 := HBa.out w14 (.cells #[.int .i64 7, .string ⟨#[116]⟩, .slice (some ⟨pk, 0, none⟩) 1 1, .slice none 0 0, .slice none 0 0, .string ⟨#[]⟩, .int .i64 1, .int .i64 b, .int .i64 0] 39)
            have hnew := heap_new w14 (.cells #[.int .i64 7, .string ⟨#[116]⟩, .slice (some ⟨pk, 0, none⟩) 1 1, .slice none 0 0, .slice none 0 0, .string ⟨#[]⟩, .int .i64 1, .int .i64 b, .int .i64 0] 39)
            have hsz := q1.below.size
            have own1 : ∀ k, (Value.slice (some ⟨w14.heap.size, 0, none⟩) 1 1).ownBlock = some k → k = w14.heap.size := fun k hk => by
              have : w14.heap.size = k := by simpa [Value.ownBlock] using hk
              exact this.symm
            have big : ∀ k, (Value.slice A5 (i + 1) m5).ownBlock = some k → w14.heap.size ≤ k := fun k hk => by
              rcases k3 k hk with e | e
              · have := own1 k e; omega
              · simp at e; omega
            refine ⟨(q1.up hb14).op K2.out (fun k hk => ?_) (fun k hk => ?_), (q2.up hb14).keep fun k hk => ?_, ⟨?_, fun k hk => ?_⟩, fun k hk hd => ?_⟩
            · rw [own1 k hk]; exact ⟨_, _, hnew⟩
            · rw [own1 k hk]; exact hsz
            · obtain ⟨c, z, e⟩ := q2.ty k hk
              have hl := lt_of e
              exact K2.out.block k (Nat.lt_of_lt_of_le hl hb14.size) (fun q => by have := own1 k q; omega)
            · have he : ((bs.take (i + 1)).reverse).length = i + 1 := by rw [List.length_reverse, HTk.out.1, List.length_append, HTk.out.2]; rfl
              rw [he, HTk.out.1, List.reverse_append]
              exact k1
            · exact Nat.le_trans hsz (big k hk)
            · obtain ⟨c, z, e⟩ := q2.ty k hk
              have := lt_of e
              have := big k hd
              omega
          clear K1 K2 K3
          have HMn2 : Hid (∀ b ∈ bs.take (i + 1), b ≠ -9223372036854775808) := fun x hx => by
            rw [HTk.out.1, List.mem_append, List.mem_singleton] at hx
            rcases hx with hx | rfl
            · exact HMn.out x hx
            · exact hmin
          go_roundg (30 - (i + 1))
          case rel => exact ⟨i + 1, A2, m2, A5, m5, by omega, by omega, rfl, by go_num, rfl, by first | rfl | rw [hmin2], HL16, HMn2⟩
          case measure => omega
      · have HLn : Hid ((bs.take i).length = i) := by show _ = _; rw [List.length_take, HN.out]; omega
        rcases Nat.lt_or_ge i N with hc | hc
        · have hlI : (i : Int) < (N : Int) := by omega
          have hlJ : ¬ (i : Int) < 30 := by omega
          go_wp2_with fail
          go_meet
          case rel => exact ⟨i, ua, uc, na, nc, hi30, rfl, rfl, HI.out, HLn.out, HMn.out⟩
        · have hlI : ¬ (i : Int) < (N : Int) := by omega
          go_wp2_with fail
          go_meet
          case rel => exact ⟨i, ua, uc, na, nc, hi30, rfl, rfl, HI.out, HLn.out, HMn.out⟩
  case rest =>
    clear HL12
    obtain ⟨M, ua, uc, na, nc, hM, rfl, rfl, HR⟩ := hcut
    obtain ⟨cs, hcs⟩ : ∃ cs, bs.take M = cs := ⟨_, rfl⟩
    have HC64 : Hid (∀ b ∈ cs, In64 b) := fun b hb => HB64.out b (by rw [← hcs] at hb; exact List.mem_of_mem_take hb)
    rw [hcs] at HR
    have HCl : Hid (cs.length = M) := HR.out.2.1
    have HF : Hid (cs.length ≤ 4096 ∧ cs.reverse.length ≤ 4096) := by have := HCl.out; exact ⟨by omega, by rw [List.length_reverse]; omega⟩
    have HUp : Hid (Calls Tryz.prog 7 #[.pointer (some ⟨da, 0, none⟩), .slice ua M uc] wc fun e B => ∃ ra rn rc done, e = .returned (.tuple #[.slice ra rn rc, .bool done, .int .i64 0]) ∧ Hid (∃ S', Gone wc ta Sa1 B S' ∧ LS w pk da ma ta db mb tb B S' Sb1 ∧ ((done = true ∧ (∃ r', One S' r' (sumTo n cs cs.length)) ∧ ∀ i, i ≤ cs.length → In64 (sumTo n cs i)) ∨ (done = false ∧ True)))) := HR.out.1.1.addA HOa.out hn HC64.out HF.out.1 HR.out.1.2.1 (fun _ => True) (Or.inl fun _ => trivial)
    clear hcs
    go_wp2_with fail
    refine HUp.out.mono ?_
    rintro e w14 ⟨ra1, rn1, rc1, p, rfl, HP⟩
    obtain ⟨Sa2, gA, lA, hA⟩ := HP.out
    have HD14 : Hid (OpsR w w14 pk (.slice na M nc) cs.reverse) := HR.out.1.2.2.1.gone gA HR.out.1.1.both.a.tab
    have HDn : Hid (Calls Tryz.prog 7 #[.pointer (some ⟨db, 0, none⟩), .slice na M nc] w14 fun e B => ∃ ra rn rc done, e = .returned (.tuple #[.slice ra rn rc, .bool done, .int .i64 0]) ∧ Hid (∃ S', Gone w14 tb Sb1 B S' ∧ LS w pk db mb tb da ma ta B S' Sa2 ∧ ((done = true ∧ (∃ r', One S' r' (sumTo n cs.reverse cs.reverse.length)) ∧ ∀ i, i ≤ cs.reverse.length → In64 (sumTo n cs.reverse i)) ∨ (done = false ∧ True)))) := lA.swapS.addA HOb.out hn (fun b hb => HC64.out b (List.mem_reverse.1 hb)) HF.out.2 HD14.out (fun _ => True) (Or.inl fun _ => trivial)
    have HA : Hid ((p = true ∧ (∃ r', One Sa2 r' (sumTo n cs cs.length)) ∧ ∀ i, i ≤ cs.length → In64 (sumTo n cs i)) ∨ (p = false ∧ True)) := hA
    have HLA : Hid (LS w pk da ma ta db mb tb w14 Sa2 Sb1) := lA
    have HMn : Hid (∀ b ∈ cs, b ≠ -9223372036854775808) := HR.out.2.2
    clear gA lA hA HP HUp HR
    go_wp2_with fail
    refine HDn.out.mono ?_
    rintro e w15 ⟨ra2, rn2, rc2, q, rfl, HQ⟩
    obtain ⟨Sb2, gB, lB, hB⟩ := HQ.out
    have HD15 : Hid (OpsR w w15 pk (.slice na M nc) cs.reverse) := HD14.out.gone gB HLA.out.both.b.tab
    have HLB : Hid (LS w pk da ma ta db mb tb w15 Sa2 Sb2) := lB.swapS
    have HB : Hid ((q = true ∧ (∃ r', One Sb2 r' (sumTo n cs.reverse cs.reverse.length)) ∧ ∀ i, i ≤ cs.reverse.length → In64 (sumTo n cs.reverse i)) ∨ (q = false ∧ True)) := hB
    clear gB lB hB HQ HDn HD14 HLA
    cases p with
    | false =>
      clear HA HB
      cases q <;> (go_wp2_with fail; go_ret; exact ⟨rfl, HLB.out.below⟩)
    | true =>
    cases q with
    | false =>
      clear HA HB
      go_wp2_with fail
      go_ret
      exact ⟨rfl, HLB.out.below⟩
    | true =>
    obtain ⟨rA2, HOa2, HIn⟩ : ∃ r', Hid (One Sa2 r' (sumTo n cs cs.length)) ∧ Hid (∀ i, i ≤ cs.length → In64 (sumTo n cs i)) := by
      rcases HA.out with ⟨_, ⟨r', h1⟩, h2⟩ | ⟨h, _⟩
      · exact ⟨r', h1, h2⟩
      · cases h
    obtain ⟨rB2, HOb2⟩ : ∃ r', Hid (One Sb2 r' (sumTo n cs cs.length)) := by
      rcases HB.out with ⟨_, ⟨r', h1⟩, h2⟩ | ⟨h, _⟩
      · rw [List.length_reverse, sumTo_rev] at h1
        exact ⟨r', h1⟩
      · cases h
    clear HA HB
    obtain ⟨X, hX⟩ : ∃ X, sumTo n cs cs.length = X := ⟨_, rfl⟩
    rw [hX] at HOa2 HOb2
    have HX : Hid (sumTo n cs cs.length = X) := hX
    clear hX
    have HRa : Hid (Calls Tryz.prog 8 #[.pointer (some ⟨da, 0, none⟩), .string ⟨#[116]⟩] w15 fun e w' => ∃ gb q, e = .returned (.tuple #[.slice (some ⟨gb, 0, none⟩) 1 1, .int .i64 0]) ∧ Hid (Row1 X w15 gb q w')) := rows_one HLB.out.both.a HOa2.out
    go_wp2_with fail
    refine HRa.out.mono ?_
    rintro e w16 ⟨ga, qa, rfl, HQa⟩
    have HL16 : Hid (LS w pk da ma ta db mb tb w16 Sa2 Sb2) := HLB.out.up HQa.out.below
    have HD16 : Hid (OpsR w w16 pk (.slice na M nc) cs.reverse) := HD15.out.up HQa.out.below
    have HRb : Hid (Calls Tryz.prog 8 #[.pointer (some ⟨db, 0, none⟩), .string ⟨#[116]⟩] w16 fun e w' => ∃ gb q, e = .returned (.tuple #[.slice (some ⟨gb, 0, none⟩) 1 1, .int .i64 0]) ∧ Hid (Row1 X w16 gb q w')) := rows_one HL16.out.both.b HOb2.out
    clear HLB HD15 HRa
    go_wp2_with fail
    refine HRb.out.mono ?_
    rintro e w17 ⟨gb, qb, rfl, HQb⟩
    have HL17 : Hid (LS w pk da ma ta db mb tb w17 Sa2 Sb2) := HL16.out.up HQb.out.below
    have HD17 : Hid (OpsR w w17 pk (.slice na M nc) cs.reverse) := HD16.out.up HQb.out.below
    have HSm : Hid (Calls Tryz.prog 9 #[.slice (some ⟨ga, 0, none⟩) 1 1, .slice (some ⟨gb, 0, none⟩) 1 1] w17 fun e w' => e = .returned (.bool true) ∧ Below w17.heap.size w17 w') := same_one (HQa.out.up HQb.out.below) HQb.out
    clear HL16 HD16 HRb HQa HQb
    go_wp2_with fail
    refine HSm.out.mono ?_
    rintro e w18 ⟨rfl, b18⟩
    have HL18 : Hid (LS w pk da ma ta db mb tb w18 Sa2 Sb2) := HL17.out.up b18
    have HD18 : Hid (OpsR w w18 pk (.slice na M nc) (negs cs.reverse 0)) := by
      show OpsR _ _ _ _ _
      rw [negs_zero]
      exact HD17.out.up b18
    clear HL17 HD17 HSm b18
    go_wp2_with fail
    go_loopg [144] M (fun gk v wr => ∃ i : Nat, i ≤ M ∧ gk = M - i ∧ v = .int .i64 i ∧ Hid (LS w pk da ma ta db mb tb wr Sa2 Sb2 ∧ OpsR w wr pk (.slice na M nc) (negs cs.reverse i)))
    case atStart => exact ⟨0, Nat.zero_le _, rfl, rfl, HL18.out, HD18.out⟩
    case round =>
      clear HL18 HD18
      obtain ⟨i, hi, rfl, rfl, HI⟩ := hrel
      by_cases hlt : i < M
      · have hlI : (i : Int) < (M : Int) := by omega
        obtain ⟨b, hb⟩ : ∃ b, cs.reverse[i]? = some b := ⟨_, List.getElem?_eq_getElem (by rw [List.length_reverse, HCl.out]; exact hlt)⟩
        have hbm : b ∈ cs := List.mem_reverse.1 (List.mem_of_getElem? hb)
        obtain ⟨nb, rfl, hcn, hnl, hnc, hnf, hset⟩ := HI.out.2.set (negs_at hb)
        have hwr : IntKind.i64.wrap (-b) = -b := by
          have h1 := HC64.out b hbm
          have h2 := HMn.out b hbm
          unfold In64 at h1
          rw [IntKind.wrap_i64]; omega
        have HN1 : Hid (LS w pk da ma ta db mb tb (wr.setCell ⟨nb, i * 9 + 7, none⟩ (.int .i64 (-b))) Sa2 Sb2 ∧ OpsR w (wr.setCell ⟨nb, i * 9 + 7, none⟩ (.int .i64 (-b))) pk (.slice (some ⟨nb, 0, none⟩) M nc) (negs cs.reverse (i + 1))) := by
          refine ⟨HI.out.1.op (Q := fun k => k = nb) (Turn.setCell _ _ _ rfl) (fun k hk => ?_) (fun k hk => ?_), ?_⟩
          · rw [hk]; exact HI.out.2.ty nb rfl
          · rw [hk]; exact HI.out.2.new nb rfl
          · rw [← negs_succ hb]; exact hset (-b)
        clear hset hb hbm HI
        go_wp2_with fail
        go_roundg (M - (i + 1))
        case rel => exact ⟨i + 1, by omega, rfl, by go_num, HN1⟩
        case measure => omega
      · obtain rfl : i = M := by omega
        have hlI : ¬ (i : Int) < (i : Int) := by omega
        have HL19 : Hid (LS w pk da ma ta db mb tb wr Sa2 Sb2) := HI.out.1
        have HD19 : Hid (OpsR w wr pk (.slice na i nc) (cs.reverse.map fun b => -b)) := by
          have h := HI.out.2
          have hl : i = cs.reverse.length := by rw [List.length_reverse]; exact HCl.out.symm
          show OpsR _ _ _ _ _
          rw [← negs_all]
          rw [← hl]
          exact h
        have HUn : Hid (Calls Tryz.prog 7 #[.pointer (some ⟨da, 0, none⟩), .slice na i nc] wr fun e B => ∃ ra rn rc, e = .returned (.tuple #[.slice ra rn rc, .bool true, .int .i64 0]) ∧ Hid (∃ S' r', LS w pk da ma ta db mb tb B S' Sb2 ∧ One S' r' n)) := by
          have hl : (cs.reverse.map fun b => -b).length = cs.length := by rw [List.length_map, List.length_reverse]
          refine (HL19.out.addA HOa2.out (by rw [← HX.out]; exact HIn.out _ (Nat.le_refl _)) (fun b hb => ?_) (by rw [hl]; exact HF.out.1) HD19.out (fun _ => False) (Or.inr fun j hj => ?_)).mono ?_
          · obtain ⟨c, hc, rfl⟩ := List.mem_map.1 hb
            have h1 := HC64.out c (List.mem_reverse.1 hc)
            have h2 := HMn.out c (List.mem_reverse.1 hc)
            unfold In64 at h1 ⊢
            omega
          · rw [hl] at hj
            rw [← HX.out, sumTo_back n cs j hj]
            exact HIn.out _ (Nat.sub_le _ _)
          · rintro e B ⟨ra, rn, rc, done, rfl, HH⟩
            obtain ⟨S', _, l', h⟩ := HH.out
            rcases h with ⟨rfl, ⟨r', h1⟩, _⟩ | ⟨_, h⟩
            · refine ⟨ra, rn, rc, rfl, S', r', l', ?_⟩
              rw [hl, ← HX.out, sumTo_back n cs cs.length (Nat.le_refl _), Nat.sub_self] at h1
              have e0 : sumTo n cs 0 = n := by unfold sumTo; simp
              rw [e0] at h1
              exact h1
            · exact h.elim
        clear HI HL19 HD19
        go_wp2_with fail
        refine HUn.out.mono ?_
        rintro e w20 ⟨ra3, rn3, rc3, rfl, HZ⟩
        obtain ⟨Sa3, rA3, l3, o3⟩ := HZ.out
        have HL20 : Hid (LS w pk da ma ta db mb tb w20 Sa3 Sb2) := l3
        have HRz : Hid (Calls Tryz.prog 8 #[.pointer (some ⟨da, 0, none⟩), .string ⟨#[116]⟩] w20 fun e w' => ∃ gb q, e = .returned (.tuple #[.slice (some ⟨gb, 0, none⟩) 1 1, .int .i64 0]) ∧ Hid (Row1 n w20 gb q w')) := rows_one l3.both.a o3
        clear l3 o3 HZ HUn
        go_wp2_with fail
        refine HRz.out.mono ?_
        rintro e w21 ⟨gz, qz, rfl, HQz⟩
        have HBz : Hid (Below w.heap.size w w21) := HL20.out.below.trans (HQz.out.below.mono HL20.out.below.size)
        obtain ⟨z1, z2, z3, z4, z5⟩ := HQz.out.cells
        clear HQz HRz HL20
        go_wp2_with fail
        go_ret
        exact ⟨rfl, HBz.out⟩

end RaiseL
end Go.Proofs.YtfddmibaojfalaaGreat
