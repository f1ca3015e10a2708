/- Layer 24: the document's Hex, digit and Unhex. -/
import Derived.Test.YtfbimjhhbddfjaaDoorQHex
import Derived.Test.YtfbimjhhbddfjaaDoorQRefM
namespace Go.Proofs.YtfbimjhhbddfjaaDoor
open Go.RowKit QP

/-- what Hex tells -/
def HexR (w : World) (m : List Nat) (e : Ending) (w' : World) : Prop := e = .returned (.tuple #[.string (hexS m), .int .i64 (hexE m)]) ∧ Below w.heap.size w w'
def UnR (w : World) (m : List Nat) (e : Ending) (w' : World) : Prop := e = .returned (.tuple #[.string (unS m), .int .i64 (unE m)]) ∧ Below w.heap.size w w'
abbrev digits : ByteArray := ⟨#[48, 49, 50, 51, 52, 53, 54, 55, 56, 57, 97, 98, 99, 100, 101, 102]⟩
theorem digits_at : ∀ d : Fin 16, (digits.data[d.1]'d.2).toNat = hx d.1 := by decide
theorem digit_at {d : Nat} (h : d < digits.size) : (digits[d]'h).toNat = hx d := digits_at ⟨d, h⟩
theorem nb_at (b : ByteArray) {i : Nat} (h : i < b.size) : (nb b)[i]? = some (b[i]'h).toNat := by
  unfold nb
  rw [List.getElem?_map, List.getElem?_eq_getElem (show i < b.data.toList.length from h)]
  rfl

set_option maxRecDepth 100000 in
set_option maxHeartbeats 2000000 in
theorem digit_any (c : Nat) (w : World) (hc : c < 256) : Calls Tryd.prog 28 #[.int .u8 c] w fun e w' => e = .returned (.int .i64 (dgt c)) ∧ w' = w := by
  go_enter Tryd.func28, Tryd.ntmps28
  by_cases h1 : 48 ≤ c
  · have d1 : decide ((48 : Int) ≤ (c : Int)) = true := decide_eq_true (by omega)
    by_cases h2 : c ≤ 57
    · have d2 : decide ((c : Int) ≤ 57) = true := decide_eq_true (by omega)
      have e : dgt c = (c : Int) - 48 := by unfold dgt; rw [if_pos ⟨h1, h2⟩]
      have w1 : IntKind.u8.wrap ((c : Int) - 48) = (c : Int) - 48 := by simp [IntKind.wrap, IntKind.bits, IntKind.signed]; omega
      have HE : Hid (dgt c = (c : Int) - 48) := e
      clear e
      go_wp2_with fail
      go_ret
      exact ⟨by rw [HE.out]; rfl, rfl⟩
    · have d2 : decide ((c : Int) ≤ 57) = false := decide_eq_false (by omega)
      by_cases h3 : 97 ≤ c
      · have d3 : decide ((97 : Int) ≤ (c : Int)) = true := decide_eq_true (by omega)
        by_cases h4 : c ≤ 102
        · have d4 : decide ((c : Int) ≤ 102) = true := decide_eq_true (by omega)
          have HE : Hid (dgt c = (c : Int) - 97 + 10) := by show _ = _; unfold dgt; rw [if_neg (by omega), if_pos ⟨h3, h4⟩]; omega
          have w1 : IntKind.u8.wrap ((c : Int) - 97) = (c : Int) - 97 := by simp [IntKind.wrap, IntKind.bits, IntKind.signed]; omega
          go_wp2_with fail
          go_ret
          exact ⟨by rw [HE.out]; rfl, rfl⟩
        · have d4 : decide ((c : Int) ≤ 102) = false := decide_eq_false (by omega)
          have HE : Hid (dgt c = -1) := by show _ = _; unfold dgt; rw [if_neg (by omega), if_neg (by omega)]
          go_wp2_with fail
          go_ret
          exact ⟨by rw [HE.out]; rfl, rfl⟩
      · have d3 : decide ((97 : Int) ≤ (c : Int)) = false := decide_eq_false (by omega)
        have HE : Hid (dgt c = -1) := by show _ = _; unfold dgt; rw [if_neg (by omega), if_neg (by omega)]
        go_wp2_with fail
        go_ret
        exact ⟨by rw [HE.out]; rfl, rfl⟩
  · have d1 : decide ((48 : Int) ≤ (c : Int)) = false := decide_eq_false (by omega)
    have d3 : decide ((97 : Int) ≤ (c : Int)) = false := decide_eq_false (by omega)
    have HE : Hid (dgt c = -1) := by show _ = _; unfold dgt; rw [if_neg (by omega), if_neg (by omega)]
    go_wp2_with fail
    go_ret
    exact ⟨by rw [HE.out]; rfl, rfl⟩

set_option maxRecDepth 100000 in
set_option maxHeartbeats 2000000 in
theorem rHex_any (b : ByteArray) (w : World) : Calls Tryd.prog 14 #[.string b] w (HexR w (nb b)) := by
  go_enter Tryd.func14, Tryd.ntmps14
  by_cases hl : 262144 < b.size
  · have hI : (262144 : Int) < (b.size : Int) := by omega
    have HR : Hid (HexR w (nb b) (.returned (.tuple #[.string ⟨#[]⟩, .int .i64 2])) w) := by
      refine ⟨?_, Below.refl _ _⟩
      unfold hexS hexE
      rw [nb_length, if_pos hl, if_pos hl]
      rfl
    go_wp2_with fail
    go_ret2
    exact HR.out
  · have hI : ¬ (262144 : Int) < (b.size : Int) := by omega
    have HS : Hid (hexS (nb b) = ofN (hex (nb b))) := by show _ = _; unfold hexS; rw [nb_length, if_neg hl]
    have HE : Hid (hexE (nb b) = 0) := by show _ = _; unfold hexE; rw [nb_length, if_neg hl]
    have hlb : b.size ≤ 262144 := by omega
    go_wp2_with fail
    go_loopw [4, 5] (fun ov iv wx => ∃ (i c : Nat) (A : Option Addr), i ≤ b.size ∧ iv = .int .i64 i ∧ ov = .slice A (2 * i) c ∧ Hid (wx.ownsRow w.heap.size 5 1 (.slice A (2 * i) c) (2 * i) (flat (enK .u8) (hex ((nb b).take i)))) ∧ Hid (Below w.heap.size w wx)) (fun _ iv _ => b.size - (intOf iv).toNat)
    case atStart => exact ⟨0, 0, none, by omega, rfl, rfl, own_nil, Below.refl _ _⟩
    case round =>
      obtain ⟨i, c2, A2, hi, rfl, rfl, HO, HB⟩ := hrel
      by_cases hlt : i < b.size
      · have hiI : (i : Int) < (b.size : Int) := by omega
        obtain ⟨x, hx'⟩ : ∃ x, (b[i]'hlt).toNat = x := ⟨_, rfl⟩
        have hat := nb_at b hlt
        rw [hx'] at hat
        have hxb : x < 256 := by rw [← hx']; exact UInt8.toNat_lt _
        have HXn : Hid (hex ((nb b).take (i + 1)) = hex ((nb b).take i) ++ [hx (x / 16), hx (x % 16)]) := by
          obtain ⟨h1, h2⟩ := List.getElem?_eq_some_iff.1 hat
          show _ = _
          rw [List.take_succ_eq_append_getElem h1, hex_append, h2]
          rfl
        obtain ⟨d0, ed0⟩ : ∃ d, x / 16 = d := ⟨_, rfl⟩
        obtain ⟨d1, ed1⟩ : ∃ d, x % 16 = d := ⟨_, rfl⟩
        have hd0 : d0 < 16 := by omega
        have hd1 : d1 < 16 := by omega
        rw [ed0, ed1] at HXn
        have q0 : (x : Int) / 16 = (d0 : Int) := by omega
        have q1 : (x : Int) % 16 = (d1 : Int) := by omega
        have q2 : (x : Int).tdiv 16 = (d0 : Int) := by rw [Int.tdiv_eq_ediv_of_nonneg (by omega)]; exact q0
        have q3 : (x : Int).tmod 16 = (d1 : Int) := by rw [Int.tmod_eq_emod_of_nonneg (by omega)]; exact q1
        have k0 : IntKind.u8.wrap (d0 : Int) = (d0 : Int) := by simp [IntKind.wrap, IntKind.bits, IntKind.signed]; omega
        have k1 : IntKind.u8.wrap (d1 : Int) = (d1 : Int) := by simp [IntKind.wrap, IntKind.bits, IntKind.signed]; omega
        have g0 : (digits[d0]'hd0).toNat = hx d0 := digit_at hd0
        have g1 : (digits[d1]'hd1).toNat = hx d1 := digit_at hd1
        obtain ⟨y0, ey0⟩ : ∃ y, hx d0 = y := ⟨_, rfl⟩
        obtain ⟨y1, ey1⟩ : ∃ y, hx d1 = y := ⟨_, rfl⟩
        rw [ey0] at g0 HXn
        rw [ey1] at g1 HXn
        obtain ⟨m, hm⟩ : ∃ m, 2 * i = m := ⟨_, rfl⟩
        have HM : Hid (m + 2 = 2 * (i + 1)) := by show _ = _; omega
        have hmb : m ≤ 1000000 := by omega
        obtain ⟨Z, hZ⟩ : ∃ Z, hex ((nb b).take i) = Z := ⟨_, rfl⟩
        rw [hm, hZ] at HO
        rw [hm]
        rw [hZ] at HXn
        have HOu : Hid (∀ u, Below wr.heap.size wr u → u.ownsRow w.heap.size 5 1 (.slice A2 m c2) m (flat (enK .u8) Z)) := fun u hu => ownsRow_block HO.out fun k hk => hu.block k (World.ownsRow.lt HO.out k hk).2
        have hUw : w.heap.size ≤ wr.heap.size := HB.out.size
        clear ed0 ed1 ey0 ey1 hm hZ HO hat
        go_wp2_with fail
        go_region_held3 (fun _ => True) (trivial)
          ((refine step_nums okU8 (by rfl) _ _ (by rfl) w.heap.size Z [y0, y1] A2 m c2 (by rfl) (HOu.out _ (by go_grown)) (by omega) (by first | omega | (simp; omega)) wr.heap.size 2 (by rfl) (by rfl) (by omega) (by first | exact RowK.new wr .u8 _ _ _ rfl | exact RowK.new wr.drew .u8 _ _ _ rfl) ?_; intro A3 c3 w3 ho3 hb3))
        all_goals
          have HO4 : Hid (w3.ownsRow w.heap.size 5 1 (.slice A3 (m + 2) c3) (m + 2) (flat (enK .u8) (hex ((nb b).take (i + 1))))) := by show World.ownsRow _ _ _ _ _ _ _; rw [HXn.out]; exact ho3
          have HB4 : Hid (Below w.heap.size w w3) := (show Below w.heap.size w _ by have hBw := HB.out; go_grown).trans hb3
          clear ho3 hb3 HOu HB
          go_wp2_with fail
          go_roundw
          case rel => exact ⟨i + 1, c3, A3, by omega, by go_num, by rw [← HM.out], by rw [← HM.out]; exact HO4, HB4⟩
          case measure => simp [intOf]; omega
      · obtain rfl : i = b.size := by omega
        have hO := HO.out
        rw [List.take_of_length_le (by rw [nb_length]; omega)] at hO
        have hst := str_own hO (hex_bytes (nb_bytes b)) (by rw [hex_length, nb_length])
        have HR : Hid (HexR w (nb b) (.returned (.tuple #[.string (ofN (hex (nb b))), .int .i64 0])) wr) := by
          refine ⟨?_, HB.out⟩
          rw [HS.out, HE.out]
        clear hO HO HB
        go_wp2_with fail
        go_ret2
        exact HR.out

set_option maxRecDepth 100000 in
set_option maxHeartbeats 4000000 in
theorem rUnhex_any (s : ByteArray) (w : World) : Calls Tryd.prog 16 #[.string s] w (UnR w (nb s)) := by
  have HD : Hid (∀ (c : Nat) u, c < 256 → Calls Tryd.prog 28 #[.int .u8 c] u fun e w' => e = .returned (.int .i64 (dgt c)) ∧ w' = u) := fun c u h => digit_any c u h
  obtain ⟨n, hn⟩ : ∃ n, s.size = n := ⟨_, rfl⟩
  have HNl : Hid ((nb s).length = n) := by show _ = _; rw [nb_length, hn]
  have HNo : Hid (unF (nb s) = none → ∀ u, UnR u (nb s) (.returned (.tuple #[.string ⟨#[]⟩, .int .i64 3])) u) := fun h u => ⟨by rw [unS_none h, unE_none h]; rfl, Below.refl _ _⟩
  go_enter Tryd.func16, Tryd.ntmps16
  obtain ⟨r, hr⟩ : ∃ r, n % 2 = r := ⟨_, rfl⟩
  have hrE : (n : Int) % 2 = (r : Int) := by omega
  have hrT : (n : Int).tmod 2 = (r : Int) := by rw [Int.tmod_eq_emod_of_nonneg (by omega)]; omega
  by_cases h0 : r = 0
  · subst h0
    by_cases h1 : 524288 < n
    · have d1 : decide ((524288 : Int) < (n : Int)) = true := decide_eq_true (by omega)
      have HR := HNo.out (by unfold unF; rw [HNl.out, if_neg (by omega)]) w
      have HR' : Hid (UnR w (nb s) (.returned (.tuple #[.string ⟨#[]⟩, .int .i64 3])) w) := HR
      clear HR HNo hr
      go_wp2_with fail
      go_ret2
      exact HR'.out
    · have d1 : decide ((524288 : Int) < (n : Int)) = false := decide_eq_false (by omega)
      have HF : Hid (unF (nb s) = unhex (nb s)) := by show _ = _; unfold unF; rw [HNl.out, if_pos ⟨hr, by omega⟩]
      have hnb : n ≤ 524288 := by omega
      clear hrE hrT
      go_wp2_with fail
      go_loopw [4, 5] (fun ov iv wx => ∃ (j c : Nat) (A : Option Addr) (R : List Nat), 2 * j ≤ n ∧ iv = .int .i64 ((2 * j : Nat) : Int) ∧ ov = .slice A j c ∧ Hid (unhex ((nb s).take (2 * j)) = some R) ∧ Hid (wx.ownsRow w.heap.size 5 1 (.slice A j c) j (flat (enK .u8) R)) ∧ Hid (Below w.heap.size w wx)) (fun _ iv _ => n - (intOf iv).toNat)
      case atStart => exact ⟨0, 0, none, [], by omega, rfl, rfl, (rfl : _ = _), own_nil, Below.refl _ _⟩
      case round =>
        obtain ⟨j, c2, A2, R, hj, rfl, rfl, HU, HO, HB⟩ := hrel
        obtain ⟨k, hk⟩ : ∃ k, 2 * j = k := ⟨_, rfl⟩
        rw [hk] at HU ⊢
        by_cases hlt : k < n
        · have hkI : (k : Int) < (n : Int) := by omega
          have hk1 : k + 1 < n := by omega
          have hkI1 : (k : Int) + 1 < (n : Int) := by omega
          have l0 : k < s.size := by omega
          have l1 : k + 1 < s.size := by omega
          have wk : IntKind.i64.wrap ((k : Int) + 1) = (k : Int) + 1 := wrapI (by omega) (by omega)
          obtain ⟨a, ha⟩ : ∃ x, (s[k]'l0).toNat = x := ⟨_, rfl⟩
          obtain ⟨b, hb⟩ : ∃ x, (s[k + 1]'l1).toNat = x := ⟨_, rfl⟩
          have ta := nb_at s l0
          have tb := nb_at s l1
          rw [ha] at ta
          rw [hb] at tb
          have ba : a < 256 := by rw [← ha]; exact UInt8.toNat_lt _
          have bb : b < 256 := by rw [← hb]; exact UInt8.toNat_lt _
          obtain ⟨da, hda⟩ : ∃ x, dgt a = x := ⟨_, rfl⟩
          obtain ⟨db, hdb⟩ : ∃ x, dgt b = x := ⟨_, rfl⟩
          have ra := dgt_range a
          have rb := dgt_range b
          rw [hda] at ra
          rw [hdb] at rb
          have HA : Hid (∀ u, Calls Tryd.prog 28 #[.int .u8 a] u fun e w' => e = .returned (.int .i64 da) ∧ w' = u) := fun u => hda ▸ HD.out a u ba
          have HBd : Hid (∀ u, Calls Tryd.prog 28 #[.int .u8 b] u fun e w' => e = .returned (.int .i64 db) ∧ w' = u) := fun u => hdb ▸ HD.out b u bb
          have hcut : nb s = (nb s).take k ++ (a :: b :: (nb s).drop (k + 2)) := by
            obtain ⟨h1, h2⟩ := List.getElem?_eq_some_iff.1 ta
            obtain ⟨h3, h4⟩ := List.getElem?_eq_some_iff.1 tb
            conv => lhs; rw [← List.take_append_drop k (nb s)]
            rw [List.drop_eq_getElem_cons h1, h2, List.drop_eq_getElem_cons h3, h4]
          have hun : unhex (nb s) = (unhex (a :: b :: (nb s).drop (k + 2))).map (R ++ ·) := by
            conv => lhs; rw [hcut]
            rw [unhex_append _ HU.out]
          have htk : (nb s).take (k + 2) = (nb s).take k ++ [a, b] := by
            obtain ⟨h1, h2⟩ := List.getElem?_eq_some_iff.1 ta
            obtain ⟨h3, h4⟩ := List.getElem?_eq_some_iff.1 tb
            rw [List.take_succ_eq_append_getElem h3, List.take_succ_eq_append_getElem h1, h2, h4, List.append_assoc]
            rfl
          by_cases hbad : da < 0 ∨ db < 0
          · have HR : Hid (UnR w (nb s) (.returned (.tuple #[.string ⟨#[]⟩, .int .i64 3])) wr) := by
              have h1 : unF (nb s) = none := by
                rw [HF.out, hun, unhex_cons, hda, hdb, if_pos hbad]
                rfl
              obtain ⟨e1, _⟩ := HNo.out h1 w
              exact ⟨e1, HB.out⟩
            have HR2 : Hid (∀ q, UnR w (nb s) (.returned (.tuple #[.string ⟨#[]⟩, .int .i64 3])) (wr.drewN q)) := fun q => ⟨HR.out.1, HB.out.trans ((below_drewN wr q).mono HB.out.size)⟩
            clear hcut hun htk ta tb hda hdb HU HO HB HF HNo HD HR
            by_cases hna : da < 0
            · have e1 : decide (da < 0) = true := decide_eq_true hna
              go_wp2_with fail
              go_quiet (first | (go_at_call 28; first | with_reducible exact Calls.quiet_of_same (HA.out _) | with_reducible exact quiet_more_same (HA.out _)) | (go_at_call 28; first | with_reducible exact Calls.quiet_of_same (HBd.out _) | with_reducible exact quiet_more_same (HBd.out _)))
              go_wp2_with fail
              go_ret2
              exact HR2.out _
            · have e1 : decide (da < 0) = false := decide_eq_false hna
              have e2 : decide (db < 0) = true := decide_eq_true (by omega)
              go_wp2_with fail
              go_quiet (first | (go_at_call 28; first | with_reducible exact Calls.quiet_of_same (HA.out _) | with_reducible exact quiet_more_same (HA.out _)) | (go_at_call 28; first | with_reducible exact Calls.quiet_of_same (HBd.out _) | with_reducible exact quiet_more_same (HBd.out _)))
              go_wp2_with fail
              go_ret2
              exact HR2.out _
          · have e1 : decide (da < 0) = false := decide_eq_false (by omega)
            have e2 : decide (db < 0) = false := decide_eq_false (by omega)
            obtain ⟨v, hv⟩ : ∃ v : Nat, (16 * da + db).toNat = v := ⟨_, rfl⟩
            have hvI : 16 * da + db = (v : Int) := by omega
            have hvb : v < 256 := by omega
            have w16 : IntKind.i64.wrap (16 * da) = 16 * da := wrapI (by omega) (by omega)
            have wv : IntKind.i64.wrap (v : Int) = (v : Int) := wrapI (by omega) (by omega)
            have m8 : (v : Int) % 256 = (v : Int) := by omega
            have w8 : IntKind.u8.wrap (v : Int) = (v : Int) := by simp [IntKind.wrap, IntKind.bits, IntKind.signed]; omega
            have HU2 : Hid (unhex ((nb s).take (k + 2)) = some (R ++ [v])) := by
              show _ = _
              rw [htk, unhex_append _ HU.out, unhex_two (by omega) (by omega), hda, hdb, hv]
              rfl
            have HK2 : Hid (k + 2 = 2 * (j + 1)) := by show _ = _; omega
            have hjb : j ≤ 524288 := by omega
            have HB1 : Hid (∀ q, Below w.heap.size w (wr.drewN q)) := fun q => HB.out.trans ((below_drewN wr q).mono HB.out.size)
            have HO1 : Hid (∀ q, (wr.drewN q).ownsRow w.heap.size 5 1 (.slice A2 j c2) j (flat (enK .u8) R)) := fun q => ownsRow_block HO.out fun g hg => rfl
            have wk2 : IntKind.i64.wrap ((k : Int) + 2) = (k : Int) + 2 := wrapI (by omega) (by omega)
            clear hcut hun htk ta tb hda hdb HU HO HB HF HNo HD hv hbad
            go_wp2_with fail
            go_quiet (first | (go_at_call 28; first | with_reducible exact Calls.quiet_of_same (HA.out _) | with_reducible exact quiet_more_same (HA.out _)) | (go_at_call 28; first | with_reducible exact Calls.quiet_of_same (HBd.out _) | with_reducible exact quiet_more_same (HBd.out _)))
            obtain ⟨W, hW⟩ : ∃ W, wr.drewN nq = W := ⟨_, rfl⟩
            rw [hW]
            have HOW : Hid (W.ownsRow w.heap.size 5 1 (.slice A2 j c2) j (flat (enK .u8) R)) := hW ▸ HO1.out nq
            have HBW : Hid (Below w.heap.size w W) := hW ▸ HB1.out nq
            have hbW : w.heap.size ≤ W.heap.size := HBW.out.size
            clear hW HO1 HB1
            go_wp2_with (at_builtin; go_must (refine wpList_nums okU8 rfl _ _ rfl w.heap.size R [v] A2 j c2 rfl ?q1 (by omega) ?q2 W.heap.size 1 rfl rfl (by omega) ?q3 ?_))
            case q1 => exact HOW.out.alloc _
            case q2 => first | omega | (simp; omega)
            case q3 => exact RowK.new W .u8 _ [v] _ rfl
            intro A3 c3 w3 ho3 hb3 _ _
            have HO3 : Hid (w3.ownsRow w.heap.size 5 1 (.slice A3 (j + 1) c3) (j + 1) (flat (enK .u8) (R ++ [v]))) := ho3
            have HB3 : Hid (Below w.heap.size w w3) := (HBW.out.alloc hbW _).trans hb3
            clear ho3 hb3 HOW HBW
            go_wp2_with fail
            go_roundw
            case rel => exact ⟨j + 1, c3, A3, R ++ [v], by omega, by rw [← HK2.out]; rfl, rfl, by rw [← HK2.out]; exact HU2, HO3, HB3⟩
            case measure => simp [intOf]; omega
        · obtain rfl : k = n := by omega
          have hkI : ¬ (k : Int) < (k : Int) := by omega
          have hUn : unhex (nb s) = some R := by
            have := HU.out
            rwa [List.take_of_length_le (by rw [HNl.out]; omega)] at this
          have hRl := unhex_length hUn
          rw [HNl.out] at hRl
          have hst := str_own HO.out (unhex_bytes hUn) (by omega)
          have hF : unF (nb s) = some R := by rw [HF.out, hUn]
          have HR : Hid (UnR w (nb s) (.returned (.tuple #[.string (ofN R), .int .i64 0])) wr) := ⟨by rw [unS_some hF, unE_some hF], HB.out⟩
          clear hUn hRl hF HU HO HB HF HNo HD
          go_wp2_with fail
          go_ret2
          exact HR.out
  · have hne : ((r : Int) != 0) = true := by simp; omega
    have HR := HNo.out (by unfold unF; rw [HNl.out, if_neg (by omega)]) w
    have HR' : Hid (UnR w (nb s) (.returned (.tuple #[.string ⟨#[]⟩, .int .i64 3])) w) := HR
    clear HR HNo hr h0
    go_wp2_with fail
    go_ret2
    exact HR'.out
end Go.Proofs.YtfbimjhhbddfjaaDoor
