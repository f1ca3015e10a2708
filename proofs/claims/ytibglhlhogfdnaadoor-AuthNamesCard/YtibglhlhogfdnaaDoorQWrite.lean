/- The program's Hash.Write. -/
import Derived.Test.YtibglhlhogfdnaaDoorQHashN
import Derived.Test.YtibglhlhogfdnaaDoorQLast
import Derived.Test.YtibglhlhogfdnaaDoorQStep
namespace Go.Proofs.YtibglhlhogfdnaaDoor
open Go.RowKit QP

theorem nb_drop (c : ByteArray) (k : Nat) : nb (c.extract k c.size) = (nb c).drop k := by
  unfold nb
  rw [← List.map_drop]
  congr 1
  have e : (c.extract k c.size).data = c.data.extract k c.size := by simp
  rw [e, Array.toList_extract]
  simp only [List.extract]
  exact List.take_of_length_le (by rw [List.length_drop]; exact Nat.le_refl _)
theorem sizeByte1 : ∀ w, (Go.sizeOf 5).run Tryd.prog w = .ok 1 w := fun w => by
  have h : (Tryd.prog.info? 5).map (·.size) = some 1 := by kernel_rfl
  obtain ⟨i, hi, hs⟩ := Option.map_eq_some_iff.1 h
  simp [sizeOf, typeInfo, hi, hs]
theorem Con.turn {w w' : World} {F : Nat → Prop} (h : Con w) (ht : Turn F w w') (h0 : ¬ F 0) : Con w' := by
  have hb := ht.block 0 h.1 h0
  refine ⟨Nat.lt_of_lt_of_le h.1 ht.size, fun i x hx => ?_⟩
  rw [← h.2 i x hx]
  unfold World.cell?
  rw [hb]

set_option maxRecDepth 100000 in
set_option linter.unusedSimpArgs false in
set_option maxHeartbeats 4000000 in
theorem write_any (g : Nat) (m : List Nat) (b : ByteArray) (w : World) (F : Nat → Prop) (hc : Con w) (hI : HashI g m w F) (hb : m.length + b.size ≤ 500000) : Calls Tryd.prog 36 #[.pointer (some ⟨g, 0, none⟩), .string b] w fun e w' => e = .returned (.tuple #[]) ∧ Goes (HashI g (m ++ nb b)) w w' F := by
  obtain ⟨h0, ⟨S0, B0, hA0, hK0⟩, hF⟩ := hI
  have HF : Hid (∀ i, F i ↔ i = g) := hF
  have HC : Hid (Con w) := hc
  have HA0 : Hid (HashAt w g S0 B0 m.length) := hA0
  have HK0 : Hid (Keeps S0 B0 m) := hK0
  clear hF hc hA0 hK0
  go_enter Tryd.func36, Tryd.ntmps36
  go_wp2_with fail
  go_loopw [1] (fun bv wx => ∃ (c : ByteArray) (p : List Nat) (n : Nat) (S B : List Nat), bv = .string c ∧ Hid (p ++ nb c = m ++ nb b) ∧ Hid (p.length = n) ∧ n + c.size ≤ 500000 ∧ Hid (HashAt wx g S B n) ∧ Hid (Keeps S B p) ∧ Hid (Turn (fun i => i = g) w wx)) (fun bv _ => match bv with | .string c => c.size | _ => 0)
  case atStart => exact ⟨b, m, m.length, S0, B0, rfl, (rfl : _ = _), (rfl : _ = _), hb, HA0, HK0, Turn.refl _ _⟩
  case round =>
    clear HA0 HK0 hb
    obtain ⟨c, p, n, S, B, rfl, HP, HN, hnc, HA, HK, HT⟩ := hrel
    obtain ⟨cs, hcs⟩ : ∃ x, c.size = x := ⟨_, rfl⟩
    by_cases hpos : 0 < cs
    · have hposI : (0 : Int) < (c.size : Int) := by omega
      obtain ⟨r, hr⟩ : ∃ r, n % 64 = r := ⟨_, rfl⟩
      have hr64 : r < 64 := by omega
      obtain ⟨k, hk⟩ : ∃ k, min c.size (64 - r) = k := ⟨_, rfl⟩
      have hk1 : 0 < k := by omega
      have hk2 : k ≤ c.size := by omega
      have hk3 : r + k ≤ 64 := by omega
      have HYl : Hid (((nb c).take k).length = k) := by show _ = _; rw [List.length_take, nb_length]; omega
      obtain ⟨Y, hY⟩ : ∃ Y, (nb c).take k = Y := ⟨_, rfl⟩
      rw [hY] at HYl
      have HYb : Hid (Bytes Y) := by show Bytes _; rw [← hY]; exact fun x hx => nb_bytes c x (List.mem_of_mem_take hx)
      have HYc : Hid (nb c = Y ++ nb (c.extract k c.size)) := by show _ = _; rw [nb_drop, ← hY, List.take_append_drop]
      have hrE : (n : Int) % 64 = (r : Int) := by omega
      have hrT : (n : Int).tmod 64 = (r : Int) := by rw [Int.tmod_eq_emod_of_nonneg (by omega)]; omega
      have r0 : (0 : Int) ≤ (r : Int) := by omega
      have h64r : ¬ 64 = r := by omega
      have h64r' : ¬ r = 64 := by omega
      have rI : (r : Int) ≤ 64 := by omega
      have hcell := HA.out.len
      have HTh : Hid (wr.there g (8 + r) k) := HA.out.there _ _ (by omega)
      have HA1 : Hid (HashAt (wr.drew.setCells g (8 + r) (flat (enK .u8) Y)) g S (into B Y r) n) := (HA.out.same (w' := wr.drew) rfl).setBytes (by rw [HYl.out]; exact hk3)
      have HT1 : Hid (Turn (fun i => i = g) w (wr.drew.setCells g (8 + r) (flat (enK .u8) Y))) := HT.out.drew.trans (turn_setCells (F := fun i => i = g) rfl _ _ _)
      have HYt : Hid ((nb c).take k = Y) := hY
      have Hk : Hid (min c.size (64 - r) = k) := hk
      clear hY hk hcs
      go_wp2_with fail
      go_region_held3 (fun u => u.cell? ⟨g, 72, none⟩ = some (.int .u64 (n : Int))) (go_keep) ((refine step_copy_cut (by rfl) _ _ _ _ (by rfl) 5 Tryd.underlying45 sizeByte1 g (8 + r) (64 - r) (64 - r) (by rfl) c (by rfl) k Hk.out HTh.out ?_; rw [HYt.out]; have hce3 := HA1.out.len))
      obtain ⟨W1, hW1⟩ : ∃ W, wr.drew.setCells g (8 + r) (flat (enK .u8) Y) = W := ⟨_, rfl⟩
      rw [hW1] at HA1 HT1
      rw [hW1]
      have d72 := HA1.out.len
      have z72 := HA1.out.frozen 72
      obtain ⟨nk, hnk⟩ : ∃ x, n + k = x := ⟨_, rfl⟩
      have hnkI : (n : Int) + (k : Int) = (nk : Int) := by omega
      have wk : IntKind.u64.wrap (k : Int) = (k : Int) := wrapU (by omega) (by omega)
      have wk2 : (k : Int) % 18446744073709551616 = (k : Int) := by omega
      have wnk : IntKind.u64.wrap (nk : Int) = (nk : Int) := wrapU (by omega) (by omega)
      obtain ⟨q, hq⟩ : ∃ q, nk % 64 = q := ⟨_, rfl⟩
      have hqE : (nk : Int) % 64 = (q : Int) := by omega
      have hqT : (nk : Int).tmod 64 = (q : Int) := by rw [Int.tmod_eq_emod_of_nonneg (by omega)]; omega
      have HA2 : Hid (HashAt (W1.setCell ⟨g, 72, none⟩ (.int .u64 (nk : Int))) g S (into B Y r) nk) := HA1.out.setLen nk
      have HT2 : Hid (Turn (fun i => i = g) w (W1.setCell ⟨g, 72, none⟩ (.int .u64 (nk : Int)))) := HT1.out.trans (Turn.setCell W1 ⟨g, 72, none⟩ _ rfl)
      have HP2 : Hid ((p ++ Y) ++ nb (c.extract k c.size) = m ++ nb b) := by show _ = _; rw [← HP.out, HYc.out, List.append_assoc]
      have HN2 : Hid ((p ++ Y).length = nk) := by show _ = _; rw [List.length_append, HN.out, HYl.out, hnk]
      have HZ : Hid ((c.extract k c.size).size = c.size - k) := by show _ = _; rw [ByteArray.size_extract]; omega
      have hsl0 : (0 : Int) ≤ (k : Int) := by omega
      have hsl1 : (k : Int) ≤ (c.size : Int) := by omega
      obtain ⟨c2, hc2⟩ : ∃ x, c.extract k c.size = x := ⟨_, rfl⟩
      rw [hc2] at HP2 HZ
      have hle2 : nk + c2.size ≤ 500000 := by rw [HZ.out]; omega
      have hme : Hid (c2.size < c.size) := by show _ < _; rw [HZ.out]; omega
      by_cases hfull : r + k = 64
      · have hq0 : q = 0 := by omega
        subst hq0
        have HKf : Hid (Keeps (blk S (into B Y r)) (into B Y r) (p ++ Y)) := by
          have h := HK.out.full (Y := Y) HYb.out (by rw [HN.out, hr, HYl.out]; exact hfull)
          rw [HN.out, hr] at h
          exact h
        obtain ⟨W2, hW2⟩ : ∃ W, W1.setCell ⟨g, 72, none⟩ (.int .u64 (nk : Int)) = W := ⟨_, rfl⟩
        rw [hW2] at HA2 HT2
        have HW2 : Hid (W1.setCell ⟨g, 72, none⟩ (.int .u64 (nk : Int)) = W2) := hW2
        obtain ⟨Bn, hBn⟩ : ∃ X, into B Y r = X := ⟨_, rfl⟩
        rw [hBn] at HA2 HKf
        have HC2 : Hid (Con W2) := HC.out.turn HT2.out (by omega)
        have HS8 := HK.out.s8
        have HM : Hid (∀ u, Con u → Calls Tryd.prog 50 #[.agg (flat (enK .u32) S).toArray, .agg (flat (enK .u8) Bn).toArray] u fun e w' => e = .returned (.agg (flat (enK .u32) (blk S Bn)).toArray) ∧ Below u.heap.size u w') := fun u hu => mix_any S Bn u hu HS8.1 HS8.2 HKf.out.len HKf.out.by'
        have HAl : Hid ((flat (enK .u32) S).length = 8) := by show _ = _; rw [flatK_len, HS8.1]
        have HCl : Hid ((flat (enK .u8) Bn).length = 64) := by show _ = _; rw [flatK_len, HKf.out.len]
        have HX8 : Hid ((blk S Bn).length = 8) := blk_length _ HS8.1 HS8.2
        have HDl : Hid ((flat (enK .u32) (blk S Bn)).toArray.size = 8) := by show _ = _; rw [flat_size, HX8.out]
        have HDo : Hid ((flat (enK .u32) (blk S Bn)).toArray.all (·.oneCell') = true) := all_oneCell_toArray (flatK_one .u32 _)
        have HAz : Hid ((Tryd.prog.info? 85).map (·.size) = some (flat (enK .u32) S).length) := by show _ = _; rw [HAl.out]; exact size8
        have HCz : Hid ((Tryd.prog.info? 87).map (·.size) = some (flat (enK .u8) Bn).length) := by show _ = _; rw [HCl.out]; exact size64b
        have HDz : Hid ((Tryd.prog.info? 85).map (·.size) = some (flat (enK .u32) (blk S Bn)).toArray.size) := by show _ = _; rw [HDl.out]; exact size8
        obtain ⟨X, hX⟩ : ∃ X, blk S Bn = X := ⟨_, rfl⟩
        rw [hX] at HKf HX8 HM HDl HDo HDz
        obtain ⟨A, hA⟩ : ∃ X, flat (enK .u32) S = X := ⟨_, rfl⟩
        obtain ⟨C, hC⟩ : ∃ X, flat (enK .u8) Bn = X := ⟨_, rfl⟩
        obtain ⟨D, hD⟩ : ∃ D, (flat (enK .u32) X).toArray = D := ⟨_, rfl⟩
        have HDe : Hid (D.toList = flat (enK .u32) X) := by show _ = _; rw [← hD]
        have HRa : Hid (∀ u, HashAt u g S Bn nk → u.rangeAt g 0 A ∧ u.rangeAt g 8 C) := fun u hu => ⟨hA ▸ hu.state, hC ▸ hu.block⟩
        rw [hA] at HM HAz
        rw [hC] at HM HCz
        rw [hD] at HM HDl HDo HDz
        clear HS8 HAl HCl hX hA hC hD hBn hr hr64 hk1 hk3 hnk hq hfull HA HK HT HTh HA1 HT1 hpos hW1 hnc hW2
        go_wp2_with fail
        rw [HW2.out]
        have hS0 : W2.drew.rangeAt g 0 A ∧ W2.drew.rangeAt g 8 C := HRa.out W2.drew (HA2.out.same rfl)
        refine wp_region_last (S := fun u => u.rangeAt g 0 A ∧ u.rangeAt g 8 C) 12 (by kernel_rfl) hS0 (fun hHeld => ?_)
        refine last_take (i := 0) (dst := 34) (v := ?v34) rfl rfl (by kernel_rfl) (by kernel_rfl) (by kernel_rfl) (by kernel_rfl) (fun _ _ _ h => h) (Or.inl ⟨by rfl, ?hy34⟩) (by assumption) ?rest34
        case hy34 => intro w hSw; (try dsimp only at hSw); go_simp; try with_reducible rfl
        try simp only [List.setIfInBounds_toArray, List.set_cons_zero, List.set_cons_succ]
        refine last_take (i := 1) (dst := 35) (v := ?v35) rfl rfl (by kernel_rfl) (by kernel_rfl) (by kernel_rfl) (by kernel_rfl) (fun _ _ _ h => h) (Or.inl ⟨by rfl, ?hy35⟩) (by assumption) ?rest35
        case hy35 => intro w hSw; (try dsimp only at hSw); go_simp; try with_reducible rfl
        try simp only [List.setIfInBounds_toArray, List.set_cons_zero, List.set_cons_succ]
        refine last_take (i := 2) (dst := 36) (v := ?v36) rfl rfl (by kernel_rfl) (by kernel_rfl) (by kernel_rfl) (by kernel_rfl) (fun _ _ _ h => h) (Or.inl ⟨by rfl, ?hy36⟩) (by assumption) ?rest36
        case hy36 => intro w hSw; (try dsimp only at hSw); go_simp; try with_reducible rfl
        try simp only [List.setIfInBounds_toArray, List.set_cons_zero, List.set_cons_succ]
        refine last_take (i := 3) (dst := 37) (v := ?v37) rfl rfl (by kernel_rfl) (by kernel_rfl) (by kernel_rfl) (by kernel_rfl) (fun _ _ _ h => h) (Or.inl ⟨by rfl, ?hy37⟩) (by assumption) ?rest37
        case hy37 => intro w hSw; (try dsimp only at hSw); go_simp; try with_reducible rfl
        try simp only [List.setIfInBounds_toArray, List.set_cons_zero, List.set_cons_succ]
        refine last_take (i := 4) (dst := 38) (v := .agg A.toArray) rfl rfl (by kernel_rfl) (by kernel_rfl) (by kernel_rfl) (by kernel_rfl) (fun _ _ _ h => h) (yieldsIf_load_mid (by rfl) 85 _ (by rfl) g 0 (by rfl) A _ (fun u hu => hu.1) Tryd.underlying85 rfl HAz.out) (by assumption) ?rest38
        try simp only [List.setIfInBounds_toArray, List.set_cons_zero, List.set_cons_succ]
        refine last_take (i := 5) (dst := 39) (v := ?v39) rfl rfl (by kernel_rfl) (by kernel_rfl) (by kernel_rfl) (by kernel_rfl) (fun _ _ _ h => h) (Or.inl ⟨by rfl, ?hy39⟩) (by assumption) ?rest39
        case hy39 => intro w hSw; (try dsimp only at hSw); go_simp; try with_reducible rfl
        try simp only [List.setIfInBounds_toArray, List.set_cons_zero, List.set_cons_succ]
        refine last_take (i := 6) (dst := 40) (v := ?v40) rfl rfl (by kernel_rfl) (by kernel_rfl) (by kernel_rfl) (by kernel_rfl) (fun _ _ _ h => h) (Or.inl ⟨by rfl, ?hy40⟩) (by assumption) ?rest40
        case hy40 => intro w hSw; (try dsimp only at hSw); go_simp; try with_reducible rfl
        try simp only [List.setIfInBounds_toArray, List.set_cons_zero, List.set_cons_succ]
        refine last_take (i := 7) (dst := 41) (v := ?v41) rfl rfl (by kernel_rfl) (by kernel_rfl) (by kernel_rfl) (by kernel_rfl) (fun _ _ _ h => h) (Or.inl ⟨by rfl, ?hy41⟩) (by assumption) ?rest41
        case hy41 => intro w hSw; (try dsimp only at hSw); go_simp; try with_reducible rfl
        try simp only [List.setIfInBounds_toArray, List.set_cons_zero, List.set_cons_succ]
        refine last_take (i := 8) (dst := 42) (v := .agg C.toArray) rfl rfl (by kernel_rfl) (by kernel_rfl) (by kernel_rfl) (by kernel_rfl) (fun _ _ _ h => h) (yieldsIf_load_mid (by rfl) 87 _ (by rfl) g 8 (by rfl) C _ (fun u hu => hu.2) Tryd.underlying87 rfl HCz.out) (by assumption) ?rest42
        try simp only [List.setIfInBounds_toArray, List.set_cons_zero, List.set_cons_succ]
        refine last_ready (rs := [9]) (by kernel_rfl) (by simp) ?_
        refine AllReadyL.cons rfl (fun K hK => ?_) AllReadyL.nil
        rw [if_pos (by rfl)]
        go_simp
        refine (HM.out _ (show Con W2.drew from HC2.out)).mono ?_
        rintro e w4 ⟨rfl, hb4⟩
        dsimp only
        have HA4 : Hid (HashAt w4 g S Bn nk) := (HA2.out.same (w' := W2.drew) rfl).below hb4
        have HT4 : Hid (Turn (fun i => i = g) w w4) := HT2.out.drew.trans (Turn.ofBelow _ hb4)
        have HS4 : Hid (w4.rangeAt g 0 A ∧ w4.rangeAt g 8 C) := HRa.out w4 HA4.out
        clear hb4
        refine hK.out _ _ HS4.out (fun hS4 => ?_)
        clear hK
        try simp only [Act.put, List.setIfInBounds_toArray, List.set_cons_zero, List.set_cons_succ]
        refine last_take (i := 10) (dst := 44) (v := ?v44) rfl rfl (by kernel_rfl) (by kernel_rfl) (by kernel_rfl) (by kernel_rfl) (fun _ _ _ h => h) (Or.inl ⟨by rfl, ?hy44⟩) (by assumption) ?rest44
        case hy44 => intro w hSw; (try dsimp only at hSw); go_simp; try with_reducible rfl
        try simp only [List.setIfInBounds_toArray, List.set_cons_zero, List.set_cons_succ]
        refine last_take (i := 11) (dst := 45) (v := ?v45) rfl rfl (by kernel_rfl) (by kernel_rfl) (by kernel_rfl) (by kernel_rfl) (fun _ _ _ h => h) (Or.inl ⟨by rfl, ?hy45⟩) (by assumption) ?rest45
        case hy45 => intro w hSw; (try dsimp only at hSw); go_simp; try with_reducible rfl
        try simp only [List.setIfInBounds_toArray, List.set_cons_zero, List.set_cons_succ]
        refine last_last (by kernel_rfl) rfl (by kernel_rfl) (fun K hK => ?_)
        rw [if_pos (by rfl)]
        refine wp_store_mid 85 _ _ (by rfl) g 0 D (by rfl) (by rfl) (by rw [HDl.out]; exact HA4.out.there 0 8 (by omega)) HDz.out HDo.out ?_
        rw [HDe.out]
        have HA5 : Hid (HashAt (w4.setCells g 0 (flat (enK .u32) X)) g X Bn nk) := HA4.out.setState HX8.out
        have HT5 : Hid (Turn (fun i => i = g) w (w4.setCells g 0 (flat (enK .u32) X))) := HT4.out.trans (turn_setCells (F := fun i => i = g) rfl _ _ _)
        clear HA4 HT4 HS4 hS4 HRa hHeld hS0 HA2 HT2 HM
        refine hK.out _ _ ?_
        clear hK
        go_wp2_with fail
        go_roundw
        case rel => exact ⟨c2, p ++ Y, nk, X, Bn, rfl, HP2, HN2, hle2, HA5, HKf, HT5⟩
        case measure => exact hme.out
      · have hq0 : q = r + k := by omega
        have hqI : ¬ (q : Int) = 0 := by omega
        have hqB : ((q : Int) == 0) = false := by rw [beq_eq_false_iff_ne]; omega
        have HKp : Hid (Keeps S (into B Y r) (p ++ Y)) := by
          have h := HK.out.part (Y := Y) HYb.out (by rw [HN.out, hr, HYl.out]; omega)
          rw [HN.out, hr] at h
          exact h
        clear hr hr64 hk1 hk3 hnk hq hfull hq0 HA HK HT HTh HA1 HT1 hpos hW1 hnc
        go_wp2_with fail
        go_roundw
        case rel => exact ⟨c2, p ++ Y, nk, S, into B Y r, rfl, HP2, HN2, hle2, HA2, HKp, HT2⟩
        case measure => exact hme.out
    · have hc0 : c.size = 0 := by omega
      have hposI : ¬ (0 : Int) < (c.size : Int) := by omega
      have HE : Hid (p = m ++ nb b) := by
        have h1 : nb c = [] := List.eq_nil_of_length_eq_zero (by rw [nb_length, hc0])
        have h2 := HP.out
        rw [h1, List.append_nil] at h2
        exact h2
      have HG : Hid (Goes (HashI g (m ++ nb b)) w wr F) := by
        show Goes _ _ _ _
        rw [← HE.out]
        exact hash_goes h0 HF.out (by rw [HN.out]; exact HA.out) HK.out HT.out
      clear HA HK HT HP HN hc0 hcs hpos
      go_wp2_with fail
      go_returns
      exact ⟨rfl, HG.out⟩
end Go.Proofs.YtibglhlhogfdnaaDoor
