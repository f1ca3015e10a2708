/- Whether a row clashes: the program's clashesBy and clashes, for a table of one index and for one of none. -/
import Derived.Test.YtfddmibaojfalaaGreatXKeyJ
import Derived.Test.YtfddmibaojfalaaGreatXGive
namespace Go.Proofs.YtfddmibaojfalaaGreat
open Go.RowKit

/-- where the one index of a table lies: its schema, and its list -/
structure IxAt (w : World) (iv xv : Value) (nm : ByteArray) (un : Bool) (ics : List Nat) (ib ic : Nat) (icv : Value) (xb xc : Nat) (xcv xrv : Value) (xcols : List Nat) (XR : List Rw) : Prop where
  iv : iv = .slice (some ⟨ib, 0, none⟩) 1 ic
  ic : 1 ≤ ic ∧ ic ≤ maxLen
  i0 : w.cell? ⟨ib, 0, none⟩ = some (.string nm)
  i1 : w.cell? ⟨ib, 1, none⟩ = some icv
  i2 : w.cell? ⟨ib, 2, none⟩ = some (.bool un)
  cs : SliceAt w icv 1 enN ics
  xv : xv = .slice (some ⟨xb, 0, none⟩) 1 xc
  xc : 1 ≤ xc ∧ xc ≤ maxLen
  list : LAt w xb 0 xcv xrv xcols XR
theorem IxAt.below {w u : World} {iv xv : Value} {nm : ByteArray} {un : Bool} {ics : List Nat} {ib ic : Nat} {icv : Value} {xb xc : Nat} {xcv xrv : Value} {xcols : List Nat} {XR : List Rw} (h : IxAt w iv xv nm un ics ib ic icv xb xc xcv xrv xcols XR) (hu : Below w.heap.size w u) : IxAt u iv xv nm un ics ib ic icv xb xc xcv xrv xcols XR :=
  ⟨h.iv, h.ic, cell_below h.i0 hu, cell_below h.i1 hu, cell_below h.i2 hu, h.cs.below hu, h.xv, h.xc, h.list.below hu⟩

/-- does a row clash by an index: is there another one with its values? -/
def clB (kcols ics xcols : List Nat) (XR : List Rw) (row : List V) (K : Nat) : Bool :=
  if begN xcols (cont XR) (pickV row ics) 1 = 0 then false else match XR[plc xcols (cont XR) (pickV row ics)]? with
    | some r => agn kcols r.vs (row.take K) != 0
    | none => false

theorem SliceAt.keyN {w : World} {v : Value} {L : List V} (h : SliceAt w v 4 enV L) : ∃ a c, v = .slice a L.length c := by
  obtain ⟨a, c, e, _⟩ := h
  exact ⟨a, c, e⟩

section
variable {tb : Nat} {cv iv kv rv xv rowv : Value} {T : Tab} {kcols : List Nat} {row : List V} {R : List Rw} {nm : ByteArray} {un : Bool} {ics : List Nat} {ib ic : Nat} {icv : Value} {xb xc : Nat} {xcv xrv : Value} {xcols : List Nat} {XR : List Rw}

set_option linter.unusedSimpArgs false in
set_option maxRecDepth 100000 in
set_option maxHeartbeats 2000000 in
theorem clashesBy_any {w0 : World} (h : TbV w0 tb cv iv kv rv xv T) (hM : LAt w0 tb 4 kv rv kcols R) (hx : IxAt w0 iv xv nm un ics ib ic icv xb xc xcv xrv xcols XR) (hr : SliceAt w0 rowv 4 enV row) (or : ∀ x ∈ row, OkV x)
    (hic : ∀ c ∈ ics, c < row.length) (hil : ics.length ≤ 32) (hnn : ∀ x ∈ pickV row ics, x.k ≠ 0) (ovp : ∀ x ∈ pickV row ics, OkV x) (hxl : ics.length ≤ xcols.length) (hm : Mono xcols (cont XR) (pickV row ics))
    (K : Nat) (hK : T.key = (K : Int)) (hKN : K ≤ row.length) (hKc : K ≤ kcols.length) (hkx : ∀ r ∈ XR, ∀ c ∈ kcols, c < r.vs.length) (w : World) (hb : Below w0.heap.size w0 w) :
    Calls Tryz.prog 88 #[.pointer (some ⟨tb, 0, none⟩), .int .i64 0, rowv] w fun e w' => e = .returned (.bool (clB kcols ics xcols XR row K)) ∧ Below w.heap.size w w' := by
  have HU : Hid (∀ u, Below w.heap.size w u → Below w0.heap.size w0 u) := fun u hu => hb.trans (hu.mono hb.size)
  have HPk : Hid (Calls Tryz.prog 46 #[rowv, icv] w (PickR row ics w)) := pick_any icv rowv ics row w w0 hb hx.cs hr hic (by omega)
  have HCF : Hid (∀ (u : World) (pv : Value), Below w.heap.size w u → SliceAt u pv 4 enV (pickV row ics) → Calls Tryz.prog 75 #[pv, .func (.func 76) #[] #[]] u fun e w' => e = .returned (.bool false) ∧ Below u.heap.size u w') := fun u pv _ hp => containsNull_no pv _ u u hp (Below.refl _ _) hnn
  have HBg : Hid (∀ (u u0 : World) (pv : Value), Below w.heap.size w u0 → SliceAt u0 pv 4 enV (pickV row ics) → Below u0.heap.size u0 u → Calls Tryz.prog 55 #[.pointer (some ⟨xb, 0, none⟩), pv, .int .i64 ((1 : Nat) : Int)] u (BegR xrv xcols XR (pickV row ics) 1 u)) := fun u u0 pv hu0 hp hu => beginWith_any (hx.list.below (HU.out u0 hu0)) hp (by simp [pickV]; exact hxl) ovp hm 1 (by omega) u hu
  obtain ⟨ra, rc, rfl⟩ := hr.keyN
  have HKo : Hid (∀ u, Below w.heap.size w u → Calls Tryz.prog 59 #[.pointer (some ⟨tb, 0, none⟩), .slice ra row.length rc] u fun e w' => e = .returned (.slice ra K rc) ∧ w' = u) := fun u hu => keyOf_any h hr K hK hKN u (HU.out u hu)
  have hkey := (cut_key hr hKN).2
  have HAg : Hid (∀ (u : World) (r : Rw), Below w.heap.size w u → r ∈ XR → Calls Tryz.prog 68 #[.pointer (some ⟨tb, 4, none⟩), .slice (some ⟨r.g, 0, none⟩) r.vs.length r.c, .slice ra K rc] u fun e w' => e = .returned (.int .i64 (agn kcols r.vs (row.take K))) ∧ Below u.heap.size u w') := fun u r hu hr' =>
    against_any tb 4 kv r.val (.slice ra K rc) kcols r.vs (row.take K) u w0 (HU.out u hu) hM.c0 hM.cs (hx.list.ro r hr').1.1 hkey (by rw [List.length_take]; omega) (hkx r hr') (hx.list.ro r hr').1.2 (fun x hx => or x (List.mem_of_mem_take hx))
  have HC : Hid (∀ u, Below w.heap.size w u → u.cell? ⟨tb, 3, none⟩ = some (.slice (some ⟨ib, 0, none⟩) 1 ic) ∧ u.cell? ⟨tb, 6, none⟩ = some (.slice (some ⟨xb, 0, none⟩) 1 xc) ∧ u.cell? ⟨ib, 1, none⟩ = some icv ∧ tb < u.heap.size ∧ xb < u.heap.size) := fun u hu => by
    have hu0 := HU.out u hu
    refine ⟨?_, ?_, cell_below hx.i1 hu0, Nat.lt_of_lt_of_le (lt_of h.st) hu0.size, Nat.lt_of_lt_of_le (cell_lt hx.list.c0) hu0.size⟩
    · rw [← hx.iv]; exact cell_below h.cells.c3 hu0
    · rw [← hx.xv]; exact cell_below h.cells.c6 hu0
  obtain ⟨ica, icc, hicv⟩ : ∃ a c, icv = .slice a ics.length c := by obtain ⟨a, c, e, _⟩ := hx.cs; exact ⟨a, c, e⟩
  subst hicv
  have hK1 := (run0_le xcols (pickV row ics) ((cont XR).drop (plc xcols (cont XR) (pickV row ics))) 1).1
  change begN xcols (cont XR) (pickV row ics) 1 ≤ 1 at hK1
  have hlen := begL_len xcols XR (pickV row ics) 1
  have HG : Hid (∀ r, (begL xcols XR (pickV row ics) 1)[0]? = some r → XR[plc xcols (cont XR) (pickV row ics)]? = some r) := fun r hr => by
    unfold begL at hr
    rw [List.getElem?_take] at hr
    split at hr
    · rw [List.getElem?_drop, Nat.add_zero] at hr; exact hr
    · cases hr
  unfold BegR at HBg
  unfold PickR at HPk
  unfold clB
  obtain ⟨icm1, icm2⟩ := hx.ic
  obtain ⟨xcm1, xcm2⟩ := hx.xc
  unfold maxLen at icm2 xcm2
  obtain ⟨B, hB⟩ : ∃ B, begN xcols (cont XR) (pickV row ics) 1 = B := ⟨_, rfl⟩
  rw [hB] at HBg hK1 hlen ⊢
  have HLen : Hid ((begL xcols XR (pickV row ics) 1).length = B) := hlen
  obtain ⟨IN, hIN⟩ : ∃ N, ics.length = N := ⟨_, rfl⟩
  obtain ⟨RN, hRN⟩ : ∃ N, row.length = N := ⟨_, rfl⟩
  obtain ⟨Z, hZ⟩ : ∃ Z : Bool, (if B = 0 then false else match XR[plc xcols (cont XR) (pickV row ics)]? with
    | some r => agn kcols r.vs (row.take K) != 0
    | none => false) = Z := ⟨_, rfl⟩
  have HZ : Hid ((if B = 0 then false else match XR[plc xcols (cont XR) (pickV row ics)]? with
    | some r => agn kcols r.vs (row.take K) != 0
    | none => false) = Z) := hZ
  rw [hZ]
  rw [hIN] at HPk HC hil
  rw [hRN] at HPk HKo hKN ⊢
  obtain ⟨c3, c6, d1, tl, xl⟩ := HC.out w (Below.refl _ _)
  clear h hM hx hr or hic hnn ovp hxl hm hK hkx hb hkey hB hlen hIN hRN hZ
  go_enter Tryz.func88, Tryz.ntmps88
  go_wp2_with fail
  refine HPk.out.mono ?_
  rintro e w1 ⟨g, rfl, hp1, hw1⟩
  have HB1 : Hid (Below w.heap.size w w1) := hw1
  have HP1 : Hid (SliceAt w1 (.slice (some ⟨g, 0, none⟩) IN IN) 4 enV (pickV row ics)) := hp1
  clear hp1 hw1
  go_wp2_with fail
  refine (HCF.out w1 _ HB1.out HP1.out).mono ?_
  rintro e w2 ⟨rfl, hw2⟩
  have HB2 : Hid (Below w.heap.size w w2) := HB1.out.trans (hw2.mono HB1.out.size)
  have HB12 : Hid (Below w1.heap.size w1 w2) := hw2
  obtain ⟨e3, e6, f1, tl2, xl2⟩ := HC.out w2 HB2.out
  clear hw2
  go_wp2_with fail
  refine (HBg.out w2 w1 _ HB1.out HP1.out HB12.out).mono ?_
  rintro e w3 ⟨ba, bc, rfl, hs3, hw3⟩
  have HB3 : Hid (Below w.heap.size w w3) := HB2.out.trans (hw3.mono HB2.out.size)
  have HS3 : Hid (SliceAt w3 (.slice ba B bc) 1 enR (begL xcols XR (pickV row ics) 1)) := hs3.1
  obtain ⟨k3, k6, l1, tl3, xl3⟩ := HC.out w3 HB3.out
  clear hw3 hs3
  by_cases hz : B = 0
  · subst hz
    have HZ' : Hid (Z = false) := by show _ = _; rw [← HZ.out, if_pos rfl]
    go_wp2_with fail
    refine wp_region_held_drew (S := fun u => u.cell? ⟨tb, 3, none⟩ = some (.slice (some ⟨ib, 0, none⟩) 1 ic)) (by kernel_rfl) (cell_drew k3) (fun hHeld => ?_)
    refine take_dst (i := 0) (dst := 30) (v := ?v0) rfl rfl (by kernel_rfl) (by kernel_rfl) (by kernel_rfl) (fun _ _ _ h => h) (Or.inl ⟨by rfl, ?hy0⟩) (by assumption) ?rest0
    case hy0 => intro w hSw; (try dsimp only at hSw); go_simp; try with_reducible rfl
    try simp only [List.setIfInBounds_toArray, List.set_cons_zero, List.set_cons_succ]
    refine take_dst (i := 1) (dst := 31) (v := ?v1) rfl rfl (by kernel_rfl) (by kernel_rfl) (by kernel_rfl) (fun _ _ _ h => h) (Or.inl ⟨by rfl, ?hy1⟩) (by assumption) ?rest1
    case hy1 => intro w hSw; (try dsimp only at hSw); go_simp; try with_reducible rfl
    try simp only [List.setIfInBounds_toArray, List.set_cons_zero, List.set_cons_succ]
    refine take_dst (i := 2) (dst := 32) (v := ?v2) rfl rfl (by kernel_rfl) (by kernel_rfl) (by kernel_rfl) (fun _ _ _ h => h) (Or.inl ⟨by rfl, ?hy2⟩) (by assumption) ?rest2
    case hy2 => intro w hSw; (try dsimp only at hSw); go_simp; try with_reducible rfl
    try simp only [List.setIfInBounds_toArray, List.set_cons_zero, List.set_cons_succ]
    refine take_dst (i := 3) (dst := 33) (v := ?v3) rfl rfl (by kernel_rfl) (by kernel_rfl) (by kernel_rfl) (fun _ _ _ h => h) (Or.inl ⟨by rfl, ?hy3⟩) (by assumption) ?rest3
    case hy3 => intro w hSw; (try dsimp only at hSw); go_simp; try with_reducible rfl
    try simp only [List.setIfInBounds_toArray, List.set_cons_zero, List.set_cons_succ]
    refine take_dst (i := 4) (dst := 34) (v := undef) rfl rfl (by kernel_rfl) (by kernel_rfl) (by kernel_rfl) (fun _ _ _ h => h) (Or.inr ⟨by rfl, rfl⟩) (by assumption) ?rest4
    try simp only [List.setIfInBounds_toArray, List.set_cons_zero, List.set_cons_succ]
    refine take_dst (i := 5) (dst := 35) (v := undef) rfl rfl (by kernel_rfl) (by kernel_rfl) (by kernel_rfl) (fun _ _ _ h => h) (Or.inr ⟨by rfl, rfl⟩) (by assumption) ?rest5
    try simp only [List.setIfInBounds_toArray, List.set_cons_zero, List.set_cons_succ]
    refine take_dst (i := 6) (dst := 36) (v := undef) rfl rfl (by kernel_rfl) (by kernel_rfl) (by kernel_rfl) (fun _ _ _ h => h) (Or.inr ⟨by rfl, rfl⟩) (by assumption) ?rest6
    try simp only [List.setIfInBounds_toArray, List.set_cons_zero, List.set_cons_succ]
    refine take_dst (i := 7) (dst := 37) (v := undef) rfl rfl (by kernel_rfl) (by kernel_rfl) (by kernel_rfl) (fun _ _ _ h => h) (Or.inr ⟨by rfl, rfl⟩) (by assumption) ?rest7
    try simp only [List.setIfInBounds_toArray, List.set_cons_zero, List.set_cons_succ]
    refine take_dst (i := 8) (dst := 38) (v := undef) rfl rfl (by kernel_rfl) (by kernel_rfl) (by kernel_rfl) (fun _ _ _ h => h) (Or.inr ⟨by rfl, rfl⟩) (by assumption) ?rest8
    try simp only [List.setIfInBounds_toArray, List.set_cons_zero, List.set_cons_succ]
    refine take_dst (i := 9) (dst := 39) (v := undef) rfl rfl (by kernel_rfl) (by kernel_rfl) (by kernel_rfl) (fun _ _ _ h => h) (Or.inr ⟨by rfl, rfl⟩) (by assumption) ?rest9
    try simp only [List.setIfInBounds_toArray, List.set_cons_zero, List.set_cons_succ]
    refine take_dst (i := 10) (dst := 40) (v := undef) rfl rfl (by kernel_rfl) (by kernel_rfl) (by kernel_rfl) (fun _ _ _ h => h) (Or.inr ⟨by rfl, rfl⟩) (by assumption) ?rest10
    try simp only [List.setIfInBounds_toArray, List.set_cons_zero, List.set_cons_succ]
    refine take_dst (i := 11) (dst := 41) (v := undef) rfl rfl (by kernel_rfl) (by kernel_rfl) (by kernel_rfl) (fun _ _ _ h => h) (Or.inr ⟨by rfl, rfl⟩) (by assumption) ?rest11
    try simp only [List.setIfInBounds_toArray, List.set_cons_zero, List.set_cons_succ]
    refine take_dst (i := 12) (dst := 42) (v := undef) rfl rfl (by kernel_rfl) (by kernel_rfl) (by kernel_rfl) (fun _ _ _ h => h) (Or.inr ⟨by rfl, rfl⟩) (by assumption) ?rest12
    try simp only [List.setIfInBounds_toArray, List.set_cons_zero, List.set_cons_succ]
    refine take_dst (i := 13) (dst := 43) (v := undef) rfl rfl (by kernel_rfl) (by kernel_rfl) (by kernel_rfl) (fun _ _ _ h => h) (Or.inr ⟨by rfl, rfl⟩) (by assumption) ?rest13
    try simp only [List.setIfInBounds_toArray, List.set_cons_zero, List.set_cons_succ]
    refine take_dst (i := 14) (dst := 44) (v := undef) rfl rfl (by kernel_rfl) (by kernel_rfl) (by kernel_rfl) (fun _ _ _ h => h) (Or.inr ⟨by rfl, rfl⟩) (by assumption) ?rest14
    try simp only [List.setIfInBounds_toArray, List.set_cons_zero, List.set_cons_succ]
    refine take_dst (i := 15) (dst := 45) (v := ?v15) rfl rfl (by kernel_rfl) (by kernel_rfl) (by kernel_rfl) (fun _ _ _ h => h) (Or.inl ⟨by rfl, ?hy15⟩) (by assumption) ?rest15
    case hy15 => intro w hSw; (try dsimp only at hSw); go_simp; try with_reducible rfl
    try simp only [List.setIfInBounds_toArray, List.set_cons_zero, List.set_cons_succ]
    refine take_dst (i := 16) (dst := 6) (v := ?v16) rfl rfl (by kernel_rfl) (by kernel_rfl) (by kernel_rfl) (fun _ _ _ h => h) (Or.inl ⟨by rfl, ?hy16⟩) (by assumption) ?rest16
    case hy16 => intro w hSw; (try dsimp only at hSw); go_simp; try with_reducible rfl
    try simp only [List.setIfInBounds_toArray, List.set_cons_zero, List.set_cons_succ]
    refine wpAnyH_done (by kernel_rfl) ?_ _
    go_wp2_with fail
    go_ret
    exact ⟨ret_bool HZ'.out.symm, bl_drew HB3.out⟩
  · obtain rfl : B = 1 := by omega
    obtain ⟨r, hr⟩ : ∃ r, (begL xcols XR (pickV row ics) 1)[0]? = some r := ⟨_, List.getElem?_eq_getElem (by rw [HLen.out]; omega)⟩
    have hR := HG.out r hr
    have HZ' : Hid (Z = (agn kcols r.vs (row.take K) != 0)) := by show _ = _; rw [← HZ.out, if_neg (by omega), hR]
    obtain ⟨a', c', e, g1, g2, g3⟩ := HS3.out.rows
    rw [HLen.out] at e g1
    cases e
    obtain ⟨b, off, rfl, hbl, q0⟩ := g3 w3 (Below.refl _ _) 0 _ hr
    have HAr : Hid (∀ u, Below w.heap.size w u → Calls Tryz.prog 68 #[.pointer (some ⟨tb, 4, none⟩), .slice (some ⟨r.g, 0, none⟩) r.vs.length r.c, .slice ra K rc] u fun e w' => e = .returned (.int .i64 (agn kcols r.vs (row.take K))) ∧ Below u.heap.size u w') := fun u hu => HAg.out u r hu (List.mem_of_getElem? hR)
    unfold Rw.val at q0
    obtain ⟨rg, rcc, rvs⟩ := r
    dsimp only at q0 HAr HZ'
    obtain ⟨M, hM⟩ : ∃ M, rvs.length = M := ⟨_, rfl⟩
    obtain ⟨E, hE⟩ : ∃ E, agn kcols rvs (row.take K) = E := ⟨_, rfl⟩
    rw [hM] at q0 HAr
    rw [hE] at HAr HZ'
    rw [Nat.add_zero] at q0
    unfold maxLen at g2
    have HS : Hid (∀ u, Below w3.heap.size w3 u → Below w.heap.size w u ∧ u.cell? ⟨b, off, none⟩ = some (.slice (some ⟨rg, 0, none⟩) M rcc)) := fun u hu => ⟨HB3.out.trans (hu.mono HB3.out.size), cell_below q0 hu⟩
    clear hr hR HG hM hE g3
    go_wp2_with fail
    go_region_held3 (fun u => u.cell? ⟨b, off, none⟩ = some (.slice (some ⟨rg, 0, none⟩) M rcc)) (go_keep)
      (first
        | (go_at_call 59; refine (HKo.out _ (bl_drew HB3.out)).mono ?_; rintro e w4 ⟨rfl, rfl⟩)
        | (go_at_call 68; refine (HAr.out _ (bl_drew HB3.out)).mono ?_; rintro e w5 ⟨rfl, h5⟩; obtain ⟨B5, s5⟩ := HS.out w5 ((bl_drew (Below.refl _ w3)).trans h5)))
    have HB5 : Hid (Below w.heap.size w w5) := B5
    clear h5 B5
    go_wp2_with fail
    go_ret
    exact ⟨ret_bool HZ'.out.symm, HB5.out⟩
end

end Go.Proofs.YtfddmibaojfalaaGreat
