/- The program's Hex and Unhex. -/
import Derived.Test.YtfbimjhhbddfjaaDoorQText
namespace Go.Proofs.YtfbimjhhbddfjaaDoor
open Go.RowKit QP

theorem hex_take {b : ByteArray} {i x : Nat} (h : (nb b)[i]? = some x) : hex ((nb b).take (i + 1)) = hex ((nb b).take i) ++ [hx (x / 16), hx (x % 16)] := by
  rw [take_snoc h, hex_append]
  rfl

set_option maxRecDepth 100000 in
set_option maxHeartbeats 2000000 in
theorem hexP_any (b : ByteArray) (w : World) : Calls Tryd.prog 13 #[.string b] w (HexR w (nb b)) := by
  by_cases hl : 262144 < b.size
  · have hI : (262144 : Int) < (b.size : Int) := by omega
    have HR : Hid (HexR w (nb b) (.returned (.tuple #[.string ⟨#[]⟩, .int .i64 2])) w) := by
      refine ⟨?_, Below.refl _ _⟩
      unfold hexS hexE
      rw [nb_length, if_pos hl, if_pos hl]
      rfl
    go_enter Tryd.func13, Tryd.ntmps13
    go_wp2_with fail
    go_ret2
    exact HR.out
  · have hI : ¬ (262144 : Int) < (b.size : Int) := by omega
    have HS : Hid (hexS (nb b) = ofN (hex (nb b))) := by show _ = _; unfold hexS; rw [nb_length, if_neg hl]
    have HE : Hid (hexE (nb b) = 0) := by show _ = _; unfold hexE; rw [nb_length, if_neg hl]
    obtain ⟨n, hn⟩ : ∃ n, b.size = n := ⟨_, rfl⟩
    have hlb : n ≤ 262144 := by omega
    obtain ⟨n2, hn2⟩ : ∃ x, 2 * n = x := ⟨_, rfl⟩
    have h2I : (2 : Int) * (n : Int) = (n2 : Int) := by omega
    have w2 : IntKind.i64.wrap (n2 : Int) = (n2 : Int) := wrapI (by omega) (by omega)
    obtain ⟨u4, hmk, ho4, hb4⟩ := make_own8 w n2 (by omega)
    have HO4 : Hid (u4.ownsRow w.heap.size 5 1 (.slice (some ⟨w.heap.size, 0, none⟩) (2 * 0) n2) (2 * 0) (flat (enK .u8) (hex ((nb b).take 0)))) := ho4
    have HB4 : Hid (Below w.heap.size w u4) := hb4
    have Hn : Hid (b.size = n) := hn
    clear ho4 hb4 hl
    go_enter Tryd.func13, Tryd.ntmps13
    go_wp2_with fail
    clear hn2 h2I w2
    go_loopw [4, 15] (fun ov iv wx => ∃ (i c : Nat) (A : Option Addr), i ≤ n ∧ iv = .int .i64 i ∧ ov = .slice A (2 * i) c ∧ Hid (wx.ownsRow w.heap.size 5 1 (.slice A (2 * i) c) (2 * i) (flat (enK .u8) (hex ((nb b).take i)))) ∧ Hid (Below w.heap.size w wx)) (fun _ iv _ => n - (intOf iv).toNat)
    case atStart => exact ⟨0, n2, some ⟨w.heap.size, 0, none⟩, Nat.zero_le _, rfl, rfl, HO4, HB4⟩
    case round =>
      clear HO4 HB4 hmk
      obtain ⟨i, c2, A2, hi, rfl, rfl, HO, HB⟩ := hrel
      by_cases hlt : i < n
      · have hiI : (i : Int) < (n : Int) := by omega
        have hiB : (i : Int) < (b.size : Int) := by omega
        have hin : i < b.size := by omega
        obtain ⟨x, hx'⟩ : ∃ x, (b[i]'hin).toNat = x := ⟨_, rfl⟩
        have hat := nb_at b hin
        rw [hx'] at hat
        have hxb : x < 256 := by rw [← hx']; exact UInt8.toNat_lt _
        have HXn : Hid (hex ((nb b).take (i + 1)) = hex ((nb b).take i) ++ [hx (x / 16), hx (x % 16)]) := hex_take hat
        obtain ⟨d0, ed0⟩ : ∃ d, x / 16 = d := ⟨_, rfl⟩
        obtain ⟨d1, ed1⟩ : ∃ d, x % 16 = d := ⟨_, rfl⟩
        have hd0 : d0 < 16 := by omega
        have hd1 : d1 < 16 := by omega
        rw [ed0, ed1] at HXn
        have q0 : (x : Int) / 16 = (d0 : Int) := by omega
        have q1 : bits .and .u8 (x : Int) 15 = (d1 : Int) := by
          have h := u8_and_nat x 15 hxb (by decide)
          rw [show x &&& 15 = x % 16 from Nat.and_two_pow_sub_one_eq_mod x 4, ed1] at h
          exact h
        have i0 : (d0 : Int) < 16 := by omega
        have i1 : (d1 : Int) < 16 := by omega
        have g0 : (digits[d0]'hd0).toNat = hx d0 := digit_at hd0
        have g1 : (digits[d1]'hd1).toNat = hx d1 := digit_at hd1
        obtain ⟨y0, ey0⟩ : ∃ y, hx d0 = y := ⟨_, rfl⟩
        obtain ⟨y1, ey1⟩ : ∃ y, hx d1 = y := ⟨_, rfl⟩
        rw [ey0] at g0 HXn
        rw [ey1] at g1 HXn
        obtain ⟨m, hm⟩ : ∃ m, 2 * i = m := ⟨_, rfl⟩
        have HM : Hid (m + 2 = 2 * (i + 1)) := by show _ = _; omega
        have hmb : m ≤ 1000000 := by omega
        obtain ⟨Z, hZ⟩ : ∃ Z, hex ((nb b).take i) = Z := ⟨_, rfl⟩
        rw [hm, hZ] at HO
        rw [hm]
        rw [hZ] at HXn
        have HOu : Hid (∀ u, Below wr.heap.size wr u → u.ownsRow w.heap.size 5 1 (.slice A2 m c2) m (flat (enK .u8) Z)) := fun u hu => ownsRow_block HO.out fun k hk => hu.block k (World.ownsRow.lt HO.out k hk).2
        have hUw : w.heap.size ≤ wr.heap.size := HB.out.size
        have hi1 : Hid (i + 1 ≤ n) := hlt
        have hme : Hid (n - (i + 1) < n - i) := by show _ < _; omega
        clear ed0 ed1 ey0 ey1 hm hZ HO hat
        go_wp2_with fail
        go_region_held3 (fun _ => True) (trivial)
          ((refine step_nums okU8 (by rfl) _ _ (by rfl) w.heap.size Z [y0, y1] A2 m c2 (by rfl) (HOu.out _ (by go_grown)) (by omega) (by first | omega | (simp; omega)) wr.heap.size 2 (by rfl) (by rfl) (by omega) (by first | exact RowK.new wr .u8 _ _ _ rfl | exact RowK.new wr.drew .u8 _ _ _ rfl) ?_; intro A3 c3 w3 ho3 hb3))
        all_goals
          have HO4 : Hid (w3.ownsRow w.heap.size 5 1 (.slice A3 (m + 2) c3) (m + 2) (flat (enK .u8) (hex ((nb b).take (i + 1))))) := by show World.ownsRow _ _ _ _ _ _ _; rw [HXn.out]; exact ho3
          have HB4 : Hid (Below w.heap.size w w3) := (show Below w.heap.size w _ by have hBw := HB.out; go_grown).trans hb3
          clear ho3 hb3 HOu HB
          go_wp2_with fail
          go_roundw
          case rel => exact ⟨i + 1, c3, A3, hi1.out, by go_num, by rw [← HM.out], by rw [← HM.out]; exact HO4, HB4⟩
          case measure => simp [intOf]; omega
      · obtain rfl : i = n := by omega
        have hiI : ¬ (i : Int) < (i : Int) := by omega
        have hO := HO.out
        rw [List.take_of_length_le (by rw [nb_length, Hn.out]; exact Nat.le_refl _)] at hO
        have hst := str_own hO (hex_bytes (nb_bytes b)) (by rw [hex_length, nb_length, Hn.out])
        have HR : Hid (HexR w (nb b) (.returned (.tuple #[.string (ofN (hex (nb b))), .int .i64 0])) wr) := by
          refine ⟨?_, HB.out⟩
          rw [HS.out, HE.out]
        clear hO HO HB
        go_wp2_with fail
        go_ret2
        exact HR.out
end Go.Proofs.YtfbimjhhbddfjaaDoor
