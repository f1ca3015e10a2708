/- The program's Unhex. -/
import Derived.Test.YtfbimjhhbddfjaaDoorQText
namespace Go.Proofs.YtfbimjhhbddfjaaDoor
open Go.RowKit QP

theorem i64_or_small (a b : Nat) (ha : a < 4294967296) (hb : b < 4294967296) : bits .or .i64 (a : Int) (b : Int) = ((a ||| b : Nat) : Int) := by
  have hx : a ||| b < 2 ^ 32 := Nat.or_lt_two_pow (by omega) (by omega)
  show IntKind.i64.wrap ((BitVec.ofInt 64 (a : Int) ||| BitVec.ofInt 64 (b : Int)).toNat : Int) = _
  rw [BitVec.toNat_or, ofInt_u64 a (by omega), ofInt_u64 b (by omega)]
  exact wrapI (by omega) (by omega)
theorem idx_dgt : ∀ c : Fin 256, firstIdx digits (c.1.toUInt8) = dgt c.1 := by decide +kernel
theorem idx_law (c : Nat) (hc : c < 256) (w : World) : (callFunc 40 #[.string digits, .int .u8 (c : Int)]).run Tryd.prog w = .ok (.value (.int .i64 (dgt c))) w := by
  rw [run_callFunc_indexByte (P := Tryd.prog) Tryd.func40 (by kernel_rfl) (by kernel_rfl) (by kernel_rfl) (by kernel_rfl), run_indexByte_string]
  have h := idx_dgt ⟨c, hc⟩
  simp only at h
  simp [Result.andThen, h]
theorem index_any (c : Nat) (w : World) (hc : c < 256) : Calls Tryd.prog 27 #[.string digits, .int .u8 (c : Int)] w fun e w' => e = .returned (.int .i64 (dgt c)) ∧ w' = w := by
  have hIL : Hid (∀ u, Calls Tryd.prog 35 #[.string digits, .int .u8 (c : Int)] u fun e w' => e = .returned (.int .i64 (dgt c)) ∧ w' = u) := fun u => by
    have hlaw := idx_law c hc
    obtain ⟨d, hd⟩ : ∃ d, dgt c = d := ⟨_, rfl⟩
    rw [hd] at hlaw ⊢
    clear hd
    go_enter Tryd.func35, Tryd.ntmps35
    go_wp2_with fail
    go_ret
    exact ⟨rfl, rfl⟩
  go_enter Tryd.func27, Tryd.ntmps27
  go_wp2_with fail
  refine (hIL.out _).mono ?_
  rintro e w2 ⟨rfl, rfl⟩
  go_wp2_with fail
  go_ret
  exact ⟨rfl, rfl⟩

theorem make_full8 (n : Nat) (hn : n ≤ 1000000) : ∃ M : Array Value, M.toList = flat (enK .u8) (List.replicate n 0) ∧ ∀ W : World, (Instr.makeSlice 35 (.int .i64 (n : Int)) (.int .i64 (n : Int))).run Tryd.prog W = .ok (.slice (some ⟨W.heap.size, 0, none⟩) n n) (W.alloc (.cells M 5)) := by
  obtain ⟨i0, hi, hz0, hz1, hz2⟩ := info_parts okU8.info
  refine ⟨madeCells (Value.int .u8 0).cells (((n : Nat) : Int).toNat * i0.size), ?_, fun W => ?_⟩
  · rw [hz1]
    have e : flat (enK .u8) (List.replicate n 0) = List.replicate n (Value.int .u8 0) := by
      clear hn
      induction n with
      | zero => rfl
      | succ n ih => rw [List.replicate_succ, flat_cons, ih]; rfl
    rw [e]
    apply List.ext_getElem
    · simp [size_madeCells]
    · intro j h1 h2
      simp [madeCells, Value.cells, Nat.mod_one]
  · have h := run_make (P := Tryd.prog) W 35 5 i0 (.int .u8 0) Tryd.underlying35 hi hz0 .i64 .i64 (n : Int) (n : Int) (by omega) (by omega) (by rw [hz2]; omega) (by omega)
    simpa using h
theorem fits_set {R : List Nat} {h : Nat} (v : Nat) (hl : R.length < h) : (R ++ List.replicate (h - R.length) 0).set R.length v = (R ++ [v]) ++ List.replicate (h - (R.length + 1)) 0 := by
  have e : h - R.length = (h - (R.length + 1)) + 1 := by omega
  rw [List.set_append_right _ _ (Nat.le_refl _), Nat.sub_self, e, List.replicate_succ, List.set_cons_zero, List.append_assoc]
  rfl

set_option maxRecDepth 100000 in
set_option maxHeartbeats 4000000 in
theorem unhexP_any (s : ByteArray) (w : World) (hz : s.size ≤ 140737488355328) : Calls Tryd.prog 15 #[.string s] w (UnR w (nb s)) := by
  have HD : Hid (∀ (c : Nat) u, c < 256 → Calls Tryd.prog 27 #[.string digits, .int .u8 (c : Int)] u fun e w' => e = .returned (.int .i64 (dgt c)) ∧ w' = u) := fun c u h => index_any c u h
  obtain ⟨n, hn⟩ : ∃ n, s.size = n := ⟨_, rfl⟩
  have HNl : Hid ((nb s).length = n) := by show _ = _; rw [nb_length, hn]
  have HNo : Hid (unF (nb s) = none → ∀ u, UnR u (nb s) (.returned (.tuple #[.string ⟨#[]⟩, .int .i64 3])) u) := fun h u => ⟨by rw [unS_none h, unE_none h]; rfl, Below.refl _ _⟩
  obtain ⟨r, hr⟩ : ∃ r, n % 2 = r := ⟨_, rfl⟩
  have hrE : (n : Int) % 2 = (r : Int) := by omega
  have hrT : (n : Int).tmod 2 = (r : Int) := by rw [Int.tmod_eq_emod_of_nonneg (by omega)]; omega
  by_cases h0 : r = 0
  · subst h0
    by_cases h1 : 524288 < n
    · have d1 : decide ((524288 : Int) < (n : Int)) = true := decide_eq_true (by omega)
      have HR : Hid (UnR w (nb s) (.returned (.tuple #[.string ⟨#[]⟩, .int .i64 3])) w) := HNo.out (by unfold unF; rw [HNl.out, if_neg (by omega)]) w
      clear HNo hr
      go_enter Tryd.func15, Tryd.ntmps15
      go_wp2_with fail
      go_ret2
      exact HR.out
    · have d1 : decide ((524288 : Int) < (n : Int)) = false := decide_eq_false (by omega)
      have HF : Hid (unF (nb s) = unhex (nb s)) := by show _ = _; unfold unF; rw [HNl.out, if_pos ⟨hr, by omega⟩]
      have hnb : n ≤ 524288 := by omega
      obtain ⟨h, hh⟩ : ∃ h, n / 2 = h := ⟨_, rfl⟩
      have hnh : n = 2 * h := by omega
      have q2 : (n : Int).tdiv 2 = (h : Int) := by rw [Int.tdiv_eq_ediv_of_nonneg (by omega)]; omega
      have q3 : (n : Int) / 2 = (h : Int) := by omega
      have wh : IntKind.i64.wrap (h : Int) = (h : Int) := wrapI (by omega) (by omega)
      obtain ⟨M, hM, hmk⟩ := make_full8 h (by omega)
      have hmkw := hmk w
      have HO0 : Hid (RowK .u8 5 (w.alloc (.cells M 5)) w.heap.size ([] ++ List.replicate (h - 0) 0)) := RowK.new w .u8 _ _ M (by rw [hM, List.nil_append, Nat.sub_zero])
      have HB0 : Hid (Below w.heap.size w (w.alloc (.cells M 5))) := (Below.refl _ _).alloc (Nat.le_refl _) _
      have Hnh : Hid (n = 2 * h) := hnh
      clear hr hM hmk hnh hh
      go_enter Tryd.func15, Tryd.ntmps15
      go_wp2_with fail
      go_loopw [23] (fun iv wx => ∃ (j : Nat) (R : List Nat), j ≤ h ∧ iv = .int .i64 j ∧ Hid (R.length = j) ∧ Hid (unhex ((nb s).take (2 * j)) = some R) ∧ Hid (RowK .u8 5 wx w.heap.size (R ++ List.replicate (h - R.length) 0)) ∧ Hid (Below w.heap.size w wx)) (fun iv _ => h - (intOf iv).toNat)
      case atStart => exact ⟨0, [], Nat.zero_le _, rfl, (rfl : _ = _), (rfl : _ = _), HO0, HB0⟩
      case round =>
        clear HO0 HB0 hmkw
        obtain ⟨j, R, hj, rfl, HR, HU, HO, HB⟩ := hrel
        have hnh := Hnh.out
        obtain ⟨k, hk⟩ : ∃ k, 2 * j = k := ⟨_, rfl⟩
        rw [hk] at HU
        by_cases hlt : j < h
        · have hjI : (j : Int) < (h : Int) := by omega
          have hj0 : (0 : Int) ≤ (j : Int) := by omega
          have kI : (2 : Int) * (j : Int) = (k : Int) := by omega
          have wk0 : IntKind.i64.wrap (k : Int) = (k : Int) := wrapI (by omega) (by omega)
          have wk : IntKind.i64.wrap ((k : Int) + 1) = (k : Int) + 1 := wrapI (by omega) (by omega)
          have hkI : (k : Int) < (n : Int) := by omega
          have hkI1 : (k : Int) + 1 < (n : Int) := by omega
          have l0 : k < s.size := by omega
          have l1 : k + 1 < s.size := by omega
          obtain ⟨a, ha⟩ : ∃ x, (s[k]'l0).toNat = x := ⟨_, rfl⟩
          obtain ⟨b, hb⟩ : ∃ x, (s[k + 1]'l1).toNat = x := ⟨_, rfl⟩
          have ta := nb_at s l0
          have tb := nb_at s l1
          rw [ha] at ta
          rw [hb] at tb
          have ba : a < 256 := by rw [← ha]; exact UInt8.toNat_lt _
          have bb : b < 256 := by rw [← hb]; exact UInt8.toNat_lt _
          obtain ⟨da, hda⟩ : ∃ x, dgt a = x := ⟨_, rfl⟩
          obtain ⟨db, hdb⟩ : ∃ x, dgt b = x := ⟨_, rfl⟩
          have ra := dgt_range a
          have rb := dgt_range b
          rw [hda] at ra
          rw [hdb] at rb
          have HA : Hid (∀ u, Calls Tryd.prog 27 #[.string digits, .int .u8 (a : Int)] u fun e w' => e = .returned (.int .i64 da) ∧ w' = u) := fun u => hda ▸ HD.out a u ba
          have HBd : Hid (∀ u, Calls Tryd.prog 27 #[.string digits, .int .u8 (b : Int)] u fun e w' => e = .returned (.int .i64 db) ∧ w' = u) := fun u => hdb ▸ HD.out b u bb
          have htk : (nb s).take (k + 2) = (nb s).take k ++ [a, b] := by
            rw [show k + 2 = (k + 1) + 1 from rfl, take_snoc tb, take_snoc ta, List.append_assoc]
            rfl
          have hcut : nb s = (nb s).take k ++ (a :: b :: (nb s).drop (k + 2)) := by
            conv => lhs; rw [← List.take_append_drop (k + 2) (nb s)]
            rw [htk, List.append_assoc]
            rfl
          have hun : unhex (nb s) = (unhex (a :: b :: (nb s).drop (k + 2))).map (R ++ ·) := by
            conv => lhs; rw [hcut]
            rw [unhex_append _ HU.out]
          by_cases hbad : da < 0 ∨ db < 0
          · have HR3 : Hid (∀ q, UnR w (nb s) (.returned (.tuple #[.string ⟨#[]⟩, .int .i64 3])) (wr.drewN q)) := fun q => by
              have h1 : unF (nb s) = none := by
                rw [HF.out, hun, unhex_cons, hda, hdb, if_pos hbad]
                rfl
              exact ⟨(HNo.out h1 w).1, HB.out.trans ((below_drewN wr q).mono HB.out.size)⟩
            clear hcut hun htk ta tb hda hdb HU HO HB HF HNo HD HR hnh hk Hnh
            by_cases hna : da < 0
            · have e1 : decide (da < 0) = true := decide_eq_true hna
              go_wp2_with fail
              go_quiet (first | (go_at_call 27; first | with_reducible exact Calls.quiet_of_same (HA.out _) | with_reducible exact quiet_more_same (HA.out _)) | (go_at_call 27; first | with_reducible exact Calls.quiet_of_same (HBd.out _) | with_reducible exact quiet_more_same (HBd.out _)))
              go_wp2_with fail
              go_ret2
              exact HR3.out _
            · have e1 : decide (da < 0) = false := decide_eq_false hna
              have e2 : decide (db < 0) = true := decide_eq_true (by omega)
              go_wp2_with fail
              go_quiet (first | (go_at_call 27; first | with_reducible exact Calls.quiet_of_same (HA.out _) | with_reducible exact quiet_more_same (HA.out _)) | (go_at_call 27; first | with_reducible exact Calls.quiet_of_same (HBd.out _) | with_reducible exact quiet_more_same (HBd.out _)))
              go_wp2_with fail
              go_ret2
              exact HR3.out _
          · have e1 : decide (da < 0) = false := decide_eq_false (by omega)
            have e2 : decide (db < 0) = false := decide_eq_false (by omega)
            have n1 : ¬ da < 0 := by omega
            have n2 : ¬ db < 0 := by omega
            obtain ⟨xa, hxa⟩ : ∃ x : Nat, da.toNat = x := ⟨_, rfl⟩
            obtain ⟨xb, hxb⟩ : ∃ x : Nat, db.toNat = x := ⟨_, rfl⟩
            have hxaI : da = (xa : Int) := by omega
            have hxbI : db = (xb : Int) := by omega
            have hua := unhex_two (a := a) (b := b) (by omega) (by omega)
            rw [hda, hdb] at hua
            clear hda hdb hbad
            subst hxaI
            subst hxbI
            obtain ⟨v, hv⟩ : ∃ v : Nat, xa * 16 + xb = v := ⟨_, rfl⟩
            have hvb : v < 256 := by omega
            have w16 : IntKind.i64.wrap ((xa : Int) * 16) = (xa : Int) * 16 := wrapI (by omega) (by omega)
            have o16 : bits .or .i64 ((xa : Int) * 16) (xb : Int) = (v : Int) := by
              have h1 : (xa * 16 ||| xb) = v := by
                rw [← hv]
                have := Nat.two_pow_add_eq_or_of_lt (i := 4) (show xb < 2 ^ 4 by omega) xa
                rw [Nat.mul_comm] at this
                exact this.symm
              rw [show ((xa : Int) * 16) = ((xa * 16 : Nat) : Int) by omega, i64_or_small (xa * 16) xb (by omega) (by omega), h1]
            have m8 : (v : Int) % 256 = (v : Int) := by omega
            have w8 : IntKind.u8.wrap (v : Int) = (v : Int) := by simp [IntKind.wrap, IntKind.bits, IntKind.signed]; omega
            have HU2 : Hid (unhex ((nb s).take (2 * (j + 1))) = some (R ++ [v])) := by
              show _ = _
              rw [show 2 * (j + 1) = k + 2 by omega, htk, unhex_append _ HU.out, hua]
              show some (R ++ [_]) = _
              congr 3
              omega
            have HR2 : Hid ((R ++ [v]).length = j + 1) := by show _ = _; rw [List.length_append, HR.out]; rfl
            have hset := fits_set (R := R) (h := h) v (by rw [HR.out]; exact hlt)
            rw [HR.out] at hset
            have HON : Hid (∀ q, RowK .u8 5 ((wr.drewN q).setCell ⟨w.heap.size, j, none⟩ (.int .u8 (v : Int))) w.heap.size ((R ++ [v]) ++ List.replicate (h - (R ++ [v]).length) 0)) := fun q => by
              have h1 := (show RowK .u8 5 (wr.drewN q) w.heap.size (R ++ List.replicate (h - R.length) 0) from HO.out).set (i := j) (by rw [List.length_append, List.length_replicate, HR.out]; omega) v
              rw [HR.out, hset] at h1
              rw [HR2.out]
              exact h1
            have HBN : Hid (∀ q, Below w.heap.size w ((wr.drewN q).setCell ⟨w.heap.size, j, none⟩ (.int .u8 (v : Int)))) := fun q => (HB.out.trans ((below_drewN wr q).mono HB.out.size)).setCell (p := ⟨w.heap.size, j, none⟩) (Nat.le_refl _) _
            have hfz := HO.out.frozen j
            have hz0 : j < (R ++ List.replicate (h - R.length) 0).length := by rw [List.length_append, List.length_replicate, HR.out]; omega
            have hce := HO.out.cell (List.getElem?_eq_getElem hz0)
            obtain ⟨z, hzz⟩ : ∃ z, (R ++ List.replicate (h - R.length) 0)[j] = z := ⟨_, rfl⟩
            rw [hzz] at hce
            have hj1 : Hid (j + 1 ≤ h) := hlt
            have hme : Hid (h - (j + 1) < h - j) := by show _ < _; omega
            clear hcut hun htk ta tb HU HO HB HF HNo HD HR hnh hk Hnh hset hzz hz0 hua hv hxa hxb
            go_wp2_with fail
            go_quiet (first | (go_at_call 27; first | with_reducible exact Calls.quiet_of_same (HA.out _) | with_reducible exact quiet_more_same (HA.out _)) | (go_at_call 27; first | with_reducible exact Calls.quiet_of_same (HBd.out _) | with_reducible exact quiet_more_same (HBd.out _)))
            go_wp2_with fail
            go_roundw
            case rel => exact ⟨j + 1, R ++ [v], hj1.out, by go_num, HR2, HU2, HON.out _, HBN.out _⟩
            case measure => simp [intOf]; omega
        · obtain rfl : j = h := by omega
          have hjI : ¬ (j : Int) < (j : Int) := by omega
          have hUn : unhex (nb s) = some R := by
            have := HU.out
            rwa [List.take_of_length_le (by rw [HNl.out]; omega)] at this
          have hrow := HO.out
          rw [HR.out, Nat.sub_self, List.replicate_zero, List.append_nil] at hrow
          have hst := str_arr (c := j) hrow (unhex_bytes hUn) HR.out
          have HR2 : Hid (UnR w (nb s) (.returned (.tuple #[.string (ofN R), .int .i64 0])) wr) := ⟨by rw [unS_some (by rw [HF.out, hUn]), unE_some (by rw [HF.out, hUn])], HB.out⟩
          clear hUn hrow HU HO HB HF HNo HD HR hnh hk Hnh
          go_wp2_with fail
          go_ret2
          exact HR2.out
  · have hne : ((r : Int) != 0) = true := by simp; omega
    have HR : Hid (UnR w (nb s) (.returned (.tuple #[.string ⟨#[]⟩, .int .i64 3])) w) := HNo.out (by unfold unF; rw [HNl.out, if_neg (by omega)]) w
    clear HNo hr h0
    go_enter Tryd.func15, Tryd.ntmps15
    go_wp2_with fail
    go_ret2
    exact HR.out
end Go.Proofs.YtfbimjhhbddfjaaDoor
