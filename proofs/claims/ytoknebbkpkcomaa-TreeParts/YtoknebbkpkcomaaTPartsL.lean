/- The law TreeParts: its walk. -/
import Derived.Test.YtoknebbkpkcomaaTGrown
import Derived.Test.YtoknebbkpkcomaaTArgs
import Derived.Test.YtoknebbkpkcomaaTStandO
namespace Go.Proofs.Ytoknebbkpkcomaa
open Go.RowKit

theorem sliceAt_below {α : Type} {w u : World} {v : Value} {n : Nat} {en : α → List Value} {L : List α} (h : SliceAt w v n en L) (hb : Below w.heap.size w u) : SliceAt u v n en L := by
  obtain ⟨a, c, e, h1, h2, h3⟩ := h
  refine ⟨a, c, e, h1, h2, fun hne => ?_⟩
  obtain ⟨b, off, e, hl, hc⟩ := h3 hne
  exact ⟨b, off, e, Nat.lt_of_lt_of_le hl hb.size, fun i hi j x hx => by rw [hb.cell (p := ⟨b, off + i * n + j, none⟩) hl]; exact hc i hi j x hx⟩

/-- the first from a key on that is there -/
theorem scan_first {K : List Kv} (h : Rise K) {k : ByteArray} {v : Int} (hk : (k, v) ∈ K) : (scanK k ⟨#[]⟩ K).take 1 = [(k, v)] := by
  induction K with
  | nil => cases hk
  | cons p r ih =>
    obtain ⟨h1, h2⟩ := List.pairwise_cons.1 h
    rcases List.mem_cons.1 hk with rfl | hk
    · have e : inK k ⟨#[]⟩ (k, v) = true := by unfold inK; rw [bl_self]; rfl
      unfold scanK
      rw [List.filter_cons, if_pos e]
      rfl
    · have e : inK k ⟨#[]⟩ p = false := by unfold inK; rw [h1 _ hk]; rfl
      unfold scanK
      rw [List.filter_cons, if_neg (by rw [e]; simp)]
      exact ih h2 hk
theorem scanned_whole {T : Tr} {a : Nat} {f to : ByteArray} {told : List Kv} {seen : List Sn} (h : T.Ok a) (hs : Scanned T.ls f to 4096 told seen) : told = scanK f to T.ks := by
  rw [hs.eq]
  refine List.take_of_length_le ?_
  exact Nat.le_trans (List.length_filter_le (inK f to) (allK T.ls)) h.few

namespace PartsL

set_option maxRecDepth 100000 in
set_option maxHeartbeats 8000000 in
theorem walk (v0 : Value) (L : List ActV) (S : PartV) (w : World) (hL : SliceAt w v0 4 ActV.en L) (hZ : ∀ a ∈ L, a.Ok) :
    Calls Try.prog 7 #[v0, S.agg] w fun e w' => e = .returned (.bool true) ∧ Below w.heap.size w w' := by
  have HWk : Hid (∀ u : World, Calls Try.prog 15 #[] u fun e w' => e = .returned (.bool true) ∧ Below u.heap.size u w') := works_any
  obtain ⟨kf, kt, ka⟩ := S
  dsimp only [PartV.agg]
  obtain ⟨W1, hW1⟩ : ∃ W1, w.alloc (.cells #[.string kf, .string kt, .string ka] 56) = W1 := ⟨_, rfl⟩
  have hb1 : Below w.heap.size w W1 := by rw [← hW1]; exact (Below.refl _ _).alloc (Nat.le_refl _) _
  have hp1 : W1.heap[w.heap.size]? = some (.cells #[.string kf, .string kt, .string ka] 56 (0, 0)) := by rw [← hW1]; exact heap_new w _
  have HB1 : Hid (Below w.heap.size w W1) := hb1
  have HGr : Hid (∀ u : World, Below W1.heap.size W1 u → Calls Try.prog 20 #[v0] u fun e w' => ∃ t, e = .returned (.pointer (some ⟨t, 0, none⟩)) ∧ ∃ T, Hid (HasT t T 400 W1 w' [])) := fun u hu => grown_any v0 L W1 u hu (sliceAt_below hL hb1) hZ
  obtain ⟨p, hp⟩ : ∃ p, w.heap.size = p := ⟨_, rfl⟩
  rw [hp] at hp1
  have q1 : W1.cell? ⟨p, 0, none⟩ = some (.string kf) := by rw [cell_of hp1]; rfl
  have q2 : W1.cell? ⟨p, 1, none⟩ = some (.string kt) := by rw [cell_of hp1]; rfl
  have q3 : W1.cell? ⟨p, 2, none⟩ = some (.string ka) := by rw [cell_of hp1]; rfl
  clear hL hZ hb1 hp1
  go_enter Try.func7, Try.ntmps7
  go_wp2_with fail
  go_region_held3 (fun u => u.cell? ⟨p, 0, none⟩ = some (.string kf) ∧ u.cell? ⟨p, 1, none⟩ = some (.string kt) ∧ u.cell? ⟨p, 2, none⟩ = some (.string ka)) (go_keep) (fail)
  go_wp2_with fail
  refine (HWk.out _).mono ?_
  rintro e w2 ⟨rfl, hb2⟩
  have HB2 : Hid (Below W1.heap.size W1 w2) := (below_drewN W1 1).trans hb2
  clear hb2 hW1 q1 q2 q3
  go_wp2_with fail
  refine (HGr.out _ HB2.out).mono ?_
  rintro e w3 ⟨t, rfl, T, H0⟩
  clear HB2 HGr
  go_wp2_with fail
  have HS : Hid (∀ f to u La, HasT t T 400 W1 u La → Calls Try.prog 12 #[.pointer (some ⟨t, 0, none⟩), .string f, .string to, .int .i64 4096] u fun x w' => ∃ vk vv vs told seen L', x = .returned (.tuple #[vk, vv, vs, .int .i64 0]) ∧ Hid (told = scanK f to T.ks) ∧ Hid (RowsO L' vk vv told) ∧ Hid (HasT t T 400 W1 w' (L' ++ La))) := fun f to u La h =>
    (h.scanO (most := 4096) rfl (by omega) (by omega)).mono fun x w' ⟨vk, vv, vs, told, seen, L', e1, e2, e3, e4⟩ => ⟨vk, vv, vs, told, seen, L', e1, scanned_whole h.ok e2.out, e3, e4⟩
  refine (HS.out kf kt _ _ H0.out).mono ?_
  rintro e w4 ⟨vk, vv, vs, told, seen, L', rfl, HTd, HR, H4⟩
  clear H0
  obtain ⟨N, hN⟩ : ∃ N, told.length = N := ⟨_, rfl⟩
  have HN : Hid (told.length = N) := hN
  have hN4 : N ≤ 4096 := by
    have h2 : (scanK kf kt T.ks).length ≤ T.ks.length := List.length_filter_le _ _
    have h3 : T.ks.length ≤ 4096 := H4.out.ok.few
    rw [← hN, HTd.out]
    omega
  obtain ⟨a1, c1, hvk⟩ := own_shape (HR.out w4 (fun p hp => H4.out.heaps p (by simp [hp]))).1
  obtain ⟨a2, c2, hvv⟩ := own_shape (HR.out w4 (fun p hp => H4.out.heaps p (by simp [hp]))).2
  rw [hN] at hvk hvv
  subst hvk hvv
  have HCk : Hid (∀ u : World, (∀ p ∈ L', u.heap[p.1]? = some p.2) → ∀ (z : Nat) kk vz, told[z]? = some (kk, vz) → ∃ b off b' off', a1 = some ⟨b, off, none⟩ ∧ a2 = some ⟨b', off', none⟩ ∧ u.cell? ⟨b, off + z, none⟩ = some (.string kk) ∧ u.cell? ⟨b', off' + z, none⟩ = some (.int .i64 vz)) := fun u hu z kk vz hz => by
    have q1 := row_strs (keysOf_length told).symm (HR.out u hu).1
    have q2 := row_ints (valsOf_length told).symm (HR.out u hu).2
    rw [← HN.out, ← keysOf_length] at q1
    rw [← HN.out, ← valsOf_length] at q2
    have hne : told ≠ [] := fun e => by rw [e] at hz; simp at hz
    obtain ⟨b, off, e1, h1⟩ := strs_cell q1 (by simpa [keysOf] using hne)
    obtain ⟨b', off', e2, h2⟩ := ints_cell q2 (by simpa [valsOf] using hne)
    exact ⟨b, off, b', off', e1, e2, h1 z kk (by simp [keysOf, hz]), h2 z vz (by simp [valsOf, hz])⟩
  clear hN
  have HE : Hid (Below w.heap.size w w4) := HB1.out.trans (H4.out.base.mono HB1.out.size)
  by_cases hA : ka.toList = []
  · go_wp2_with fail
    go_ret
    exact ⟨rfl, hp ▸ HE.out⟩
  have hA1 : ka.toList.isEmpty = false := by cases hq : ka.toList with | nil => exact absurd hq hA | cons _ _ => rfl
  cases hB : Op.bytesLess ka.toList kf.toList with
  | true =>
    go_wp2_with fail
    go_ret
    exact ⟨rfl, hp ▸ HE.out⟩
  | false =>
    by_cases hC : kt.toList = []
    · have hC1 : kt.toList.isEmpty = true := by rw [hC]; rfl
      have HP0 : Hid (ka ≠ ⟨#[]⟩ ∧ bl ka kf = false ∧ (kt = ⟨#[]⟩ ∨ bl kt ka = false)) := ⟨fun e => hA (by rw [e, Go.ByteArray.toList_eq]), hB, Or.inl (toList_inj (by rw [hC, Go.ByteArray.toList_eq]))⟩
      go_wp2_with fail
      refine (HS.out kf ka _ _ H4.out).mono ?_
      rintro e w5 ⟨vk5, vv5, vs5, told5, seen5, L5, rfl, HTd5, HR5, H5⟩
      clear H4
      go_wp2_with fail
      refine (HS.out ka kt _ _ H5.out).mono ?_
      rintro e w6 ⟨vk6, vv6, vs6, told6, seen6, L6, rfl, HTd6, HR6, H6⟩
      clear H5
      have HSum : Hid (told5 ++ told6 = told) := by
        show _ = _
        rw [HTd.out, HTd5.out, HTd6.out]
        exact scan_parts (allK_rise H6.out.ok.ok) HP0.out.1 HP0.out.2.1 HP0.out.2.2
      have HFew : Hid (told5.length + told6.length ≤ 100000) := by
        have h1 := congrArg List.length HSum.out
        rw [List.length_append, HTd.out] at h1
        have h2 : (scanK kf kt T.ks).length ≤ T.ks.length := List.length_filter_le _ _
        have h3 : T.ks.length ≤ 4096 := H6.out.ok.few
        show _ ≤ _
        omega
      have HO5 : Hid (∀ u, Below w6.heap.size w6 u → u.ownsRow 0 9 1 vk5 told5.length (scells (keysOf told5))) := fun u hb => (HR5.out u (fun p hp => (Stand.below (treeI_res _ _ _) H6.out hb).heaps p (by simp [hp]))).1
      have HO6 : Hid (∀ u, Below w6.heap.size w6 u → u.ownsRow 0 9 1 vk6 told6.length (scells (keysOf told6))) := fun u hb => (HR6.out u (fun p hp => (Stand.below (treeI_res _ _ _) H6.out hb).heaps p (by simp [hp]))).1
      have HR0 : Hid ((w6.alloc (.cells #[] 9 (0, 0))).ownsRow w6.heap.size 9 1 (.slice (some ⟨w6.heap.size, 0, none⟩) 0 0) 0 []) := row_empty w6 9 1
      have HB0 : Hid (Below w6.heap.size w6 (w6.alloc (.cells #[] 9 (0, 0)))) := (Below.refl _ _).alloc (Nat.le_refl _) _
      have HSm : Hid (∀ u v, Below w6.heap.size w6 u → u.ownsRow w6.heap.size 9 1 v (0 + told5.length + told6.length) ([] ++ scells (keysOf told5) ++ scells (keysOf told6)) → Calls Try.prog 13 #[v, .slice a1 N c1] u fun e w' => e = .returned (.bool true) ∧ Hid (HasT t T 400 W1 w' (L' ++ []))) := fun u v hb hr => by
        have h9 := Stand.below (treeI_res _ _ _) H6.out hb
        rw [List.nil_append, ← scells_append] at hr
        have t1 := row_strs (by rw [List.length_append, keysOf_length, keysOf_length]; omega) hr
        have t2 := row_strs (keysOf_length told).symm (HR.out u (fun p hp => h9.heaps p (by simp [hp]))).1
        refine (sameTexts_any _ _ _ _ _ t1 t2).mono fun e w' ⟨he, m9, hw⟩ => ⟨by rw [he, decide_eq_true (by rw [← HSum.out]; simp [keysOf])], ?_⟩
        rw [hw]
        exact Stand.drop (Stand.drewN (treeI_res _ _ _) h9 m9) (fun p hp => List.mem_append_right _ (List.mem_append_right _ hp))
      have HS8 : Hid (w6.heap.size ≤ (w6.alloc (.cells #[] 9 (0, 0))).heap.size ∧ 0 + told5.length ≤ 100000 ∧ 0 + told5.length + told6.length ≤ 100000) := ⟨by simp, by have := HFew.out; omega, by have := HFew.out; omega⟩
      clear H6 HR5 HR6 HTd5 HTd6 HFew HSum HS
      go_wp2_with (first
        | (refine wpList_appR Try.underlying26 infoStr rfl (by decide) rfl _ _ rfl (scells_one _) rfl HR0.out rfl (HO5.out _ HB0.out) HS8.out.2.1 HS8.out.1 ?_; intro v10 w10 r10 b10; have R10 : Hid (w10.ownsRow w6.heap.size 9 1 v10 (0 + told5.length) ([] ++ scells (keysOf told5))) := r10; have B10 : Hid (Below w6.heap.size w6 w10) := HB0.out.trans b10; clear r10 b10)
        | (refine wpList_appR Try.underlying26 infoStr rfl (by decide) rfl _ _ rfl (scells_one _) rfl R10.out rfl (HO6.out _ B10.out) HS8.out.2.2 B10.out.size ?_; intro v11 w11 r11 b11; have HSm2 : Hid (Calls Try.prog 13 #[v11, .slice a1 N c1] w11 fun e w' => e = .returned (.bool true) ∧ Hid (HasT t T 400 W1 w' (L' ++ []))) := HSm.out w11 v11 (B10.out.trans b11) r11; clear r11 b11)
        | (go_at_call 13; go_must (refine HSm2.out.mono ?_; rintro e w12 ⟨rfl, H12⟩)))
      clear HR0 HB0 HSm HSm2 R10 B10 HO5 HO6 HS8
      go_loopw [110] (fun i wr => ∃ z : Nat, z ≤ N ∧ i = .int .i64 z ∧ Hid (HasT t T 400 W1 wr (L' ++ []))) (fun i _ => N - (intOf i).toNat)
      case atStart => exact ⟨0, Nat.zero_le _, rfl, H12⟩
      case round =>
        clear H12
        obtain ⟨z, hz, rfl, HQ⟩ := hrel
        by_cases hzl : z < N
        · have hzI : (z : Int) < (N : Int) := by omega
          obtain ⟨⟨kk, vz⟩, hkv⟩ : ∃ p, told[z]? = some p := ⟨_, List.getElem?_eq_getElem (by rw [HN.out]; exact hzl)⟩
          have hmem : (kk, vz) ∈ T.ks := by
            have := List.mem_of_getElem? hkv
            rw [HTd.out] at this
            exact (List.mem_filter.1 this).1
          obtain ⟨b1, o1, b2, o2, rfl, rfl, t1, t2⟩ := HCk.out wr (fun p hp => HQ.out.heaps p (by simp [hp])) z kk vz hkv
          have HCk' : Hid (∀ u : World, (∀ p ∈ L', u.heap[p.1]? = some p.2) → u.cell? ⟨b2, o2 + z, none⟩ = some (.int .i64 vz)) := fun u hu => by
            obtain ⟨_, _, _, _, _, e, _, q⟩ := HCk.out u hu z kk vz hkv
            cases e
            exact q
          have HGt : Hid (Calls Try.prog 22 #[.pointer (some ⟨t, 0, none⟩), .string kk] wr fun x w' => ∃ sb l, x = .returned (.tuple #[.int .i64 vz, .bool true, .slice (some ⟨sb, 0, none⟩) 1 1]) ∧ Hid (l ∈ T.ls ∧ InR (lst T.ls) kk l.least) ∧ Hid (HasT t T 400 W1 w' ((sb, snO (sn l)) :: (L' ++ [])))) := HQ.out.get (Or.inr ⟨(getK_some (allK_rise HQ.out.ok.ok)).2 hmem, rfl⟩)
          have HFi : Hid ((scanK kk ⟨#[]⟩ T.ks).take 1 = [(kk, vz)]) := scan_first (allK_rise HQ.out.ok.ok) hmem
          clear hkv hmem
          go_wp2_with fail
          refine HGt.out.mono ?_
          rintro e w13 ⟨sb, l13, rfl, -, H13⟩
          clear HGt HQ
          go_wp2_with fail
          refine (H13.out.scanO (most := 1) rfl (by omega) (by omega)).mono ?_
          rintro e w14 ⟨vk14, vv14, vs14, told14, seen14, L14, rfl, HSc14, HR14, H14⟩
          obtain rfl : told14 = [(kk, vz)] := HSc14.out.eq.trans HFi.out
          have q14 := row_strs (keysOf_length _).symm (HR14.out w14 (fun p hp => H14.out.heaps p (by simp [hp]))).1
          obtain ⟨a14, c14, rfl, -, -, -⟩ := id q14
          obtain ⟨b14, o14, rfl, h14⟩ := strs_cell (L := [kk]) q14 (by simp)
          have t14 : w14.cell? ⟨b14, o14, none⟩ = some (.string kk) := h14 0 kk rfl
          have t2' := HCk'.out w14 (fun p hp => H14.out.heaps p (by simp [hp]))
          have H15 : Hid (HasT t T 400 W1 w14 (L' ++ [])) := Stand.drop H14.out (fun p hp => List.mem_append_right _ (List.mem_cons_of_mem _ hp))
          clear H14 H13 q14 h14 HCk' t1 t2
          go_wp2_with fail
          go_roundw
          case rel => exact ⟨z + 1, by omega, by go_num, H15⟩
          case measure => simp [intOf]; omega
        · have hzI : ¬ (z : Int) < (N : Int) := by omega
          have HE2 : Hid (Below w.heap.size w wr) := HB1.out.trans (HQ.out.base.mono HB1.out.size)
          go_wp2_with fail
          go_ret
          exact ⟨rfl, hp ▸ HE2.out⟩
    have hC1 : kt.toList.isEmpty = false := by cases hq : kt.toList with | nil => exact absurd hq hC | cons _ _ => rfl
    cases hD : Op.bytesLess ka.toList kt.toList with
    | true =>
      cases hF : Op.bytesLess kt.toList kf.toList with
      | true =>
        go_wp2_with fail
        go_ret
        exact ⟨rfl, hp ▸ HE.out⟩
      | false =>
        have HP0 : Hid (ka ≠ ⟨#[]⟩ ∧ bl ka kf = false ∧ (kt = ⟨#[]⟩ ∨ bl kt ka = false)) := ⟨fun e => hA (by rw [e, Go.ByteArray.toList_eq]), hB, Or.inr (bl_asym hD)⟩
        go_wp2_with fail
        refine (HS.out kf ka _ _ H4.out).mono ?_
        rintro e w5 ⟨vk5, vv5, vs5, told5, seen5, L5, rfl, HTd5, HR5, H5⟩
        clear H4
        go_wp2_with fail
        refine (HS.out ka kt _ _ H5.out).mono ?_
        rintro e w6 ⟨vk6, vv6, vs6, told6, seen6, L6, rfl, HTd6, HR6, H6⟩
        clear H5
        have HSum : Hid (told5 ++ told6 = told) := by
          show _ = _
          rw [HTd.out, HTd5.out, HTd6.out]
          exact scan_parts (allK_rise H6.out.ok.ok) HP0.out.1 HP0.out.2.1 HP0.out.2.2
        have HFew : Hid (told5.length + told6.length ≤ 100000) := by
          have h1 := congrArg List.length HSum.out
          rw [List.length_append, HTd.out] at h1
          have h2 : (scanK kf kt T.ks).length ≤ T.ks.length := List.length_filter_le _ _
          have h3 : T.ks.length ≤ 4096 := H6.out.ok.few
          show _ ≤ _
          omega
        have HO5 : Hid (∀ u, Below w6.heap.size w6 u → u.ownsRow 0 9 1 vk5 told5.length (scells (keysOf told5))) := fun u hb => (HR5.out u (fun p hp => (Stand.below (treeI_res _ _ _) H6.out hb).heaps p (by simp [hp]))).1
        have HO6 : Hid (∀ u, Below w6.heap.size w6 u → u.ownsRow 0 9 1 vk6 told6.length (scells (keysOf told6))) := fun u hb => (HR6.out u (fun p hp => (Stand.below (treeI_res _ _ _) H6.out hb).heaps p (by simp [hp]))).1
        have HR0 : Hid ((w6.alloc (.cells #[] 9 (0, 0))).ownsRow w6.heap.size 9 1 (.slice (some ⟨w6.heap.size, 0, none⟩) 0 0) 0 []) := row_empty w6 9 1
        have HB0 : Hid (Below w6.heap.size w6 (w6.alloc (.cells #[] 9 (0, 0)))) := (Below.refl _ _).alloc (Nat.le_refl _) _
        have HSm : Hid (∀ u v, Below w6.heap.size w6 u → u.ownsRow w6.heap.size 9 1 v (0 + told5.length + told6.length) ([] ++ scells (keysOf told5) ++ scells (keysOf told6)) → Calls Try.prog 13 #[v, .slice a1 N c1] u fun e w' => e = .returned (.bool true) ∧ Hid (HasT t T 400 W1 w' (L' ++ []))) := fun u v hb hr => by
          have h9 := Stand.below (treeI_res _ _ _) H6.out hb
          rw [List.nil_append, ← scells_append] at hr
          have t1 := row_strs (by rw [List.length_append, keysOf_length, keysOf_length]; omega) hr
          have t2 := row_strs (keysOf_length told).symm (HR.out u (fun p hp => h9.heaps p (by simp [hp]))).1
          refine (sameTexts_any _ _ _ _ _ t1 t2).mono fun e w' ⟨he, m9, hw⟩ => ⟨by rw [he, decide_eq_true (by rw [← HSum.out]; simp [keysOf])], ?_⟩
          rw [hw]
          exact Stand.drop (Stand.drewN (treeI_res _ _ _) h9 m9) (fun p hp => List.mem_append_right _ (List.mem_append_right _ hp))
        have HS8 : Hid (w6.heap.size ≤ (w6.alloc (.cells #[] 9 (0, 0))).heap.size ∧ 0 + told5.length ≤ 100000 ∧ 0 + told5.length + told6.length ≤ 100000) := ⟨by simp, by have := HFew.out; omega, by have := HFew.out; omega⟩
        clear H6 HR5 HR6 HTd5 HTd6 HFew HSum HS
        go_wp2_with (first
          | (refine wpList_appR Try.underlying26 infoStr rfl (by decide) rfl _ _ rfl (scells_one _) rfl HR0.out rfl (HO5.out _ HB0.out) HS8.out.2.1 HS8.out.1 ?_; intro v10 w10 r10 b10; have R10 : Hid (w10.ownsRow w6.heap.size 9 1 v10 (0 + told5.length) ([] ++ scells (keysOf told5))) := r10; have B10 : Hid (Below w6.heap.size w6 w10) := HB0.out.trans b10; clear r10 b10)
          | (refine wpList_appR Try.underlying26 infoStr rfl (by decide) rfl _ _ rfl (scells_one _) rfl R10.out rfl (HO6.out _ B10.out) HS8.out.2.2 B10.out.size ?_; intro v11 w11 r11 b11; have HSm2 : Hid (Calls Try.prog 13 #[v11, .slice a1 N c1] w11 fun e w' => e = .returned (.bool true) ∧ Hid (HasT t T 400 W1 w' (L' ++ []))) := HSm.out w11 v11 (B10.out.trans b11) r11; clear r11 b11)
          | (go_at_call 13; go_must (refine HSm2.out.mono ?_; rintro e w12 ⟨rfl, H12⟩)))
        clear HR0 HB0 HSm HSm2 R10 B10 HO5 HO6 HS8
        go_loopw [110] (fun i wr => ∃ z : Nat, z ≤ N ∧ i = .int .i64 z ∧ Hid (HasT t T 400 W1 wr (L' ++ []))) (fun i _ => N - (intOf i).toNat)
        case atStart => exact ⟨0, Nat.zero_le _, rfl, H12⟩
        case round =>
          clear H12
          obtain ⟨z, hz, rfl, HQ⟩ := hrel
          by_cases hzl : z < N
          · have hzI : (z : Int) < (N : Int) := by omega
            obtain ⟨⟨kk, vz⟩, hkv⟩ : ∃ p, told[z]? = some p := ⟨_, List.getElem?_eq_getElem (by rw [HN.out]; exact hzl)⟩
            have hmem : (kk, vz) ∈ T.ks := by
              have := List.mem_of_getElem? hkv
              rw [HTd.out] at this
              exact (List.mem_filter.1 this).1
            obtain ⟨b1, o1, b2, o2, rfl, rfl, t1, t2⟩ := HCk.out wr (fun p hp => HQ.out.heaps p (by simp [hp])) z kk vz hkv
            have HCk' : Hid (∀ u : World, (∀ p ∈ L', u.heap[p.1]? = some p.2) → u.cell? ⟨b2, o2 + z, none⟩ = some (.int .i64 vz)) := fun u hu => by
              obtain ⟨_, _, _, _, _, e, _, q⟩ := HCk.out u hu z kk vz hkv
              cases e
              exact q
            have HGt : Hid (Calls Try.prog 22 #[.pointer (some ⟨t, 0, none⟩), .string kk] wr fun x w' => ∃ sb l, x = .returned (.tuple #[.int .i64 vz, .bool true, .slice (some ⟨sb, 0, none⟩) 1 1]) ∧ Hid (l ∈ T.ls ∧ InR (lst T.ls) kk l.least) ∧ Hid (HasT t T 400 W1 w' ((sb, snO (sn l)) :: (L' ++ [])))) := HQ.out.get (Or.inr ⟨(getK_some (allK_rise HQ.out.ok.ok)).2 hmem, rfl⟩)
            have HFi : Hid ((scanK kk ⟨#[]⟩ T.ks).take 1 = [(kk, vz)]) := scan_first (allK_rise HQ.out.ok.ok) hmem
            clear hkv hmem
            go_wp2_with fail
            refine HGt.out.mono ?_
            rintro e w13 ⟨sb, l13, rfl, -, H13⟩
            clear HGt HQ
            go_wp2_with fail
            refine (H13.out.scanO (most := 1) rfl (by omega) (by omega)).mono ?_
            rintro e w14 ⟨vk14, vv14, vs14, told14, seen14, L14, rfl, HSc14, HR14, H14⟩
            obtain rfl : told14 = [(kk, vz)] := HSc14.out.eq.trans HFi.out
            have q14 := row_strs (keysOf_length _).symm (HR14.out w14 (fun p hp => H14.out.heaps p (by simp [hp]))).1
            obtain ⟨a14, c14, rfl, -, -, -⟩ := id q14
            obtain ⟨b14, o14, rfl, h14⟩ := strs_cell (L := [kk]) q14 (by simp)
            have t14 : w14.cell? ⟨b14, o14, none⟩ = some (.string kk) := h14 0 kk rfl
            have t2' := HCk'.out w14 (fun p hp => H14.out.heaps p (by simp [hp]))
            have H15 : Hid (HasT t T 400 W1 w14 (L' ++ [])) := Stand.drop H14.out (fun p hp => List.mem_append_right _ (List.mem_cons_of_mem _ hp))
            clear H14 H13 q14 h14 HCk' t1 t2
            go_wp2_with fail
            go_roundw
            case rel => exact ⟨z + 1, by omega, by go_num, H15⟩
            case measure => simp [intOf]; omega
          · have hzI : ¬ (z : Int) < (N : Int) := by omega
            have HE2 : Hid (Below w.heap.size w wr) := HB1.out.trans (HQ.out.base.mono HB1.out.size)
            go_wp2_with fail
            go_ret
            exact ⟨rfl, hp ▸ HE2.out⟩
    | false =>
      by_cases hG : ka.toList = kt.toList
      · cases hF : Op.bytesLess kt.toList kf.toList with
        | true =>
          go_wp2_with fail
          go_ret
          exact ⟨rfl, hp ▸ HE.out⟩
        | false =>
          have HP0 : Hid (ka ≠ ⟨#[]⟩ ∧ bl ka kf = false ∧ (kt = ⟨#[]⟩ ∨ bl kt ka = false)) := ⟨fun e => hA (by rw [e, Go.ByteArray.toList_eq]), hB, Or.inr (by rw [toList_inj hG]; exact bl_self _)⟩
          go_wp2_with fail
          refine (HS.out kf ka _ _ H4.out).mono ?_
          rintro e w5 ⟨vk5, vv5, vs5, told5, seen5, L5, rfl, HTd5, HR5, H5⟩
          clear H4
          go_wp2_with fail
          refine (HS.out ka kt _ _ H5.out).mono ?_
          rintro e w6 ⟨vk6, vv6, vs6, told6, seen6, L6, rfl, HTd6, HR6, H6⟩
          clear H5
          have HSum : Hid (told5 ++ told6 = told) := by
            show _ = _
            rw [HTd.out, HTd5.out, HTd6.out]
            exact scan_parts (allK_rise H6.out.ok.ok) HP0.out.1 HP0.out.2.1 HP0.out.2.2
          have HFew : Hid (told5.length + told6.length ≤ 100000) := by
            have h1 := congrArg List.length HSum.out
            rw [List.length_append, HTd.out] at h1
            have h2 : (scanK kf kt T.ks).length ≤ T.ks.length := List.length_filter_le _ _
            have h3 : T.ks.length ≤ 4096 := H6.out.ok.few
            show _ ≤ _
            omega
          have HO5 : Hid (∀ u, Below w6.heap.size w6 u → u.ownsRow 0 9 1 vk5 told5.length (scells (keysOf told5))) := fun u hb => (HR5.out u (fun p hp => (Stand.below (treeI_res _ _ _) H6.out hb).heaps p (by simp [hp]))).1
          have HO6 : Hid (∀ u, Below w6.heap.size w6 u → u.ownsRow 0 9 1 vk6 told6.length (scells (keysOf told6))) := fun u hb => (HR6.out u (fun p hp => (Stand.below (treeI_res _ _ _) H6.out hb).heaps p (by simp [hp]))).1
          have HR0 : Hid ((w6.alloc (.cells #[] 9 (0, 0))).ownsRow w6.heap.size 9 1 (.slice (some ⟨w6.heap.size, 0, none⟩) 0 0) 0 []) := row_empty w6 9 1
          have HB0 : Hid (Below w6.heap.size w6 (w6.alloc (.cells #[] 9 (0, 0)))) := (Below.refl _ _).alloc (Nat.le_refl _) _
          have HSm : Hid (∀ u v, Below w6.heap.size w6 u → u.ownsRow w6.heap.size 9 1 v (0 + told5.length + told6.length) ([] ++ scells (keysOf told5) ++ scells (keysOf told6)) → Calls Try.prog 13 #[v, .slice a1 N c1] u fun e w' => e = .returned (.bool true) ∧ Hid (HasT t T 400 W1 w' (L' ++ []))) := fun u v hb hr => by
            have h9 := Stand.below (treeI_res _ _ _) H6.out hb
            rw [List.nil_append, ← scells_append] at hr
            have t1 := row_strs (by rw [List.length_append, keysOf_length, keysOf_length]; omega) hr
            have t2 := row_strs (keysOf_length told).symm (HR.out u (fun p hp => h9.heaps p (by simp [hp]))).1
            refine (sameTexts_any _ _ _ _ _ t1 t2).mono fun e w' ⟨he, m9, hw⟩ => ⟨by rw [he, decide_eq_true (by rw [← HSum.out]; simp [keysOf])], ?_⟩
            rw [hw]
            exact Stand.drop (Stand.drewN (treeI_res _ _ _) h9 m9) (fun p hp => List.mem_append_right _ (List.mem_append_right _ hp))
          have HS8 : Hid (w6.heap.size ≤ (w6.alloc (.cells #[] 9 (0, 0))).heap.size ∧ 0 + told5.length ≤ 100000 ∧ 0 + told5.length + told6.length ≤ 100000) := ⟨by simp, by have := HFew.out; omega, by have := HFew.out; omega⟩
          clear H6 HR5 HR6 HTd5 HTd6 HFew HSum HS
          go_wp2_with (first
            | (refine wpList_appR Try.underlying26 infoStr rfl (by decide) rfl _ _ rfl (scells_one _) rfl HR0.out rfl (HO5.out _ HB0.out) HS8.out.2.1 HS8.out.1 ?_; intro v10 w10 r10 b10; have R10 : Hid (w10.ownsRow w6.heap.size 9 1 v10 (0 + told5.length) ([] ++ scells (keysOf told5))) := r10; have B10 : Hid (Below w6.heap.size w6 w10) := HB0.out.trans b10; clear r10 b10)
            | (refine wpList_appR Try.underlying26 infoStr rfl (by decide) rfl _ _ rfl (scells_one _) rfl R10.out rfl (HO6.out _ B10.out) HS8.out.2.2 B10.out.size ?_; intro v11 w11 r11 b11; have HSm2 : Hid (Calls Try.prog 13 #[v11, .slice a1 N c1] w11 fun e w' => e = .returned (.bool true) ∧ Hid (HasT t T 400 W1 w' (L' ++ []))) := HSm.out w11 v11 (B10.out.trans b11) r11; clear r11 b11)
            | (go_at_call 13; go_must (refine HSm2.out.mono ?_; rintro e w12 ⟨rfl, H12⟩)))
          clear HR0 HB0 HSm HSm2 R10 B10 HO5 HO6 HS8
          go_loopw [110] (fun i wr => ∃ z : Nat, z ≤ N ∧ i = .int .i64 z ∧ Hid (HasT t T 400 W1 wr (L' ++ []))) (fun i _ => N - (intOf i).toNat)
          case atStart => exact ⟨0, Nat.zero_le _, rfl, H12⟩
          case round =>
            clear H12
            obtain ⟨z, hz, rfl, HQ⟩ := hrel
            by_cases hzl : z < N
            · have hzI : (z : Int) < (N : Int) := by omega
              obtain ⟨⟨kk, vz⟩, hkv⟩ : ∃ p, told[z]? = some p := ⟨_, List.getElem?_eq_getElem (by rw [HN.out]; exact hzl)⟩
              have hmem : (kk, vz) ∈ T.ks := by
                have := List.mem_of_getElem? hkv
                rw [HTd.out] at this
                exact (List.mem_filter.1 this).1
              obtain ⟨b1, o1, b2, o2, rfl, rfl, t1, t2⟩ := HCk.out wr (fun p hp => HQ.out.heaps p (by simp [hp])) z kk vz hkv
              have HCk' : Hid (∀ u : World, (∀ p ∈ L', u.heap[p.1]? = some p.2) → u.cell? ⟨b2, o2 + z, none⟩ = some (.int .i64 vz)) := fun u hu => by
                obtain ⟨_, _, _, _, _, e, _, q⟩ := HCk.out u hu z kk vz hkv
                cases e
                exact q
              have HGt : Hid (Calls Try.prog 22 #[.pointer (some ⟨t, 0, none⟩), .string kk] wr fun x w' => ∃ sb l, x = .returned (.tuple #[.int .i64 vz, .bool true, .slice (some ⟨sb, 0, none⟩) 1 1]) ∧ Hid (l ∈ T.ls ∧ InR (lst T.ls) kk l.least) ∧ Hid (HasT t T 400 W1 w' ((sb, snO (sn l)) :: (L' ++ [])))) := HQ.out.get (Or.inr ⟨(getK_some (allK_rise HQ.out.ok.ok)).2 hmem, rfl⟩)
              have HFi : Hid ((scanK kk ⟨#[]⟩ T.ks).take 1 = [(kk, vz)]) := scan_first (allK_rise HQ.out.ok.ok) hmem
              clear hkv hmem
              go_wp2_with fail
              refine HGt.out.mono ?_
              rintro e w13 ⟨sb, l13, rfl, -, H13⟩
              clear HGt HQ
              go_wp2_with fail
              refine (H13.out.scanO (most := 1) rfl (by omega) (by omega)).mono ?_
              rintro e w14 ⟨vk14, vv14, vs14, told14, seen14, L14, rfl, HSc14, HR14, H14⟩
              obtain rfl : told14 = [(kk, vz)] := HSc14.out.eq.trans HFi.out
              have q14 := row_strs (keysOf_length _).symm (HR14.out w14 (fun p hp => H14.out.heaps p (by simp [hp]))).1
              obtain ⟨a14, c14, rfl, -, -, -⟩ := id q14
              obtain ⟨b14, o14, rfl, h14⟩ := strs_cell (L := [kk]) q14 (by simp)
              have t14 : w14.cell? ⟨b14, o14, none⟩ = some (.string kk) := h14 0 kk rfl
              have t2' := HCk'.out w14 (fun p hp => H14.out.heaps p (by simp [hp]))
              have H15 : Hid (HasT t T 400 W1 w14 (L' ++ [])) := Stand.drop H14.out (fun p hp => List.mem_append_right _ (List.mem_cons_of_mem _ hp))
              clear H14 H13 q14 h14 HCk' t1 t2
              go_wp2_with fail
              go_roundw
              case rel => exact ⟨z + 1, by omega, by go_num, H15⟩
              case measure => simp [intOf]; omega
            · have hzI : ¬ (z : Int) < (N : Int) := by omega
              have HE2 : Hid (Below w.heap.size w wr) := HB1.out.trans (HQ.out.base.mono HB1.out.size)
              go_wp2_with fail
              go_ret
              exact ⟨rfl, hp ▸ HE2.out⟩
      · go_wp2_with fail
        go_ret
        exact ⟨rfl, hp ▸ HE.out⟩
end PartsL

end Go.Proofs.Ytoknebbkpkcomaa
