/- Layer 24: the document's pad and Mac. -/
import Derived.Test.YtibglhlhogfdnaaDoorQRefS
namespace Go.Proofs.YtibglhlhogfdnaaDoor
open Go.RowKit QP

theorem str_row {w : World} {g n c : Nat} {L : List Nat} (h : RowK .u8 5 w g L) (hL : Bytes L) (hn : L.length = n) : (convert 45 9 (.slice (some ⟨g, 0, none⟩) n c)).run Tryd.prog w = .ok (.string (ofN L)) w := by
  subst hn
  have h2 := run_convert_bytes_back (P := Tryd.prog) w 45 9 5 ⟨g, 0, none⟩ c (L.map UInt8.ofNat) Tryd.underlying45 Tryd.underlying5 Tryd.underlying9 fun j hj => by
    have hj' : j < L.length := by simpa using hj
    have h4 := h.cell (i := j) (x := L[j]) (List.getElem?_eq_getElem hj')
    rw [Addr.add_lit, Nat.zero_add, h4]
    have h5 := hL L[j] (List.getElem_mem hj')
    simp
    omega
  rw [List.length_map] at h2
  exact h2
theorem make_u8 : ∃ C : Array Value, C.toList = flat (enK .u8) (List.replicate 64 0) ∧ ∀ w : World, (Instr.makeSlice 45 (.int .i64 64) (.int .i64 64)).run Tryd.prog w = .ok (.slice (some ⟨w.heap.size, 0, none⟩) 64 64) (w.alloc (.cells C 5)) := by
  obtain ⟨i0, hi, hz0, hz1, hz2⟩ := info_parts okU8.info
  refine ⟨madeCells (Value.int .u8 0).cells ((64 : Int).toNat * i0.size), ?_, fun W => ?_⟩
  · rw [hz1]
    kernel_rfl
  · have h := run_make (P := Tryd.prog) W 45 5 i0 (.int .u8 0) Tryd.underlying45 hi hz0 .i64 .i64 64 64 (by omega) (by omega) (by rw [hz2]; omega) (by omega)
    simpa using h
/-- the key's bytes so far, put together with a byte, and the noughts behind them -/
def pf (k : List Nat) (y i : Nat) : List Nat := (List.range i).map (fun j => k.getD j 0 ^^^ y) ++ List.replicate (64 - i) 0
theorem pf_length (k : List Nat) (y : Nat) {i : Nat} (h : i ≤ 64) : (pf k y i).length = 64 := by unfold pf; simp; omega
theorem pf_at (k : List Nat) (y : Nat) {i : Nat} (h : i < 64) : (pf k y i)[i]? = some 0 := by
  unfold pf
  rw [List.getElem?_append_right (by simp), List.length_map, List.length_range, Nat.sub_self, List.getElem?_replicate, if_pos (by omega)]
theorem pf_set (k : List Nat) (y : Nat) {i : Nat} (h : i < 64) : (pf k y i).set i (k.getD i 0 ^^^ y) = pf k y (i + 1) := by
  unfold pf
  have e : 64 - i = (64 - (i + 1)) + 1 := by omega
  rw [List.set_append_right _ _ (by simp), List.length_map, List.length_range, Nat.sub_self, e, List.replicate_succ, List.set_cons_zero, List.range_succ, List.map_append, List.append_assoc]
  rfl
theorem pf_full (k : List Nat) (y : Nat) : pf k y 64 = fill k y := by unfold pf fill; simp
theorem xor_byte {a b : Nat} (ha : a < 256) (hb : b < 256) : a ^^^ b < 256 := Nat.xor_lt_two_pow (n := 8) ha hb
theorem nb_get (s : ByteArray) (i : Nat) : (nb s).getD i 0 < 256 := by
  rw [List.getD_eq_getElem?_getD]
  cases h : (nb s)[i]? with
  | none => decide
  | some x => exact nb_bytes s x (List.mem_of_getElem? h)
theorem fill_bytes (k : ByteArray) {y : Nat} (hy : y < 256) : Bytes (fill (nb k) y) := fun x hx => by
  obtain ⟨i, _, rfl⟩ := List.mem_map.1 hx
  exact xor_byte (nb_get k i) hy
theorem fill_length (k : List Nat) (y : Nat) : (fill k y).length = 64 := by simp [fill]

set_option maxRecDepth 100000 in
set_option maxHeartbeats 2000000 in
theorem pad_any (k : ByteArray) (y : Nat) (w : World) (hy : y < 256) : Calls Tryd.prog 45 #[.string k, .int .u8 y] w (SumR w (fill (nb k) y)) := by
  obtain ⟨C, hC, hmk⟩ := make_u8
  have HR0 : Hid (RowK .u8 5 (w.alloc (.cells C 5)) w.heap.size (pf (nb k) y 0)) := RowK.new w .u8 _ _ C hC
  clear hC
  go_enter Tryd.func45, Tryd.ntmps45
  go_wp2_with fail
  go_loopw [6] (fun iv wr => ∃ i : Nat, i ≤ 64 ∧ iv = .int .i64 i ∧ Hid (RowK .u8 5 wr w.heap.size (pf (nb k) y i)) ∧ Hid (Below w.heap.size w wr)) (fun iv _ => 64 - (intOf iv).toNat)
  case atStart => exact ⟨0, by omega, rfl, HR0, (Below.refl _ _).alloc (Nat.le_refl _) _⟩
  case round =>
    clear HR0
    obtain ⟨i, hi, rfl, HW, HB⟩ := hrel
    by_cases hlt : i < 64
    · have hlI : (i : Int) < 64 := by omega
      obtain ⟨z, hz⟩ : ∃ z, (nb k).getD i 0 = z := ⟨_, rfl⟩
      have hzb : z < 256 := by rw [← hz]; exact nb_get k i
      obtain ⟨v, hv⟩ : ∃ v, z ^^^ y = v := ⟨_, rfl⟩
      have hvb : v < 256 := by rw [← hv]; exact xor_byte hzb hy
      have hx : bits .xor .u8 (z : Int) (y : Int) = (v : Int) := by rw [u8_xor_nat z y hzb hy, hv]
      have hset := pf_set (nb k) y hlt
      rw [hz, hv] at hset
      have hl64 : i < (pf (nb k) y i).length := by rw [pf_length _ _ hi]; exact hlt
      have hce := HW.out.cell (pf_at (nb k) y hlt)
      have hfz := HW.out.frozen i
      by_cases hin : i < k.size
      · have hiI : (i : Int) < (k.size : Int) := by omega
        have hget : (k[i]'hin).toNat = z := by
          rw [← hz]
          unfold nb
          rw [List.getD_eq_getElem?_getD, List.getElem?_map, List.getElem?_eq_getElem (show i < k.data.toList.length from hin)]
          rfl
        have HN : Hid (RowK .u8 5 ((wr.setCell ⟨w.heap.size, i, none⟩ (.int .u8 (z : Int))).setCell ⟨w.heap.size, i, none⟩ (.int .u8 (v : Int))) w.heap.size (pf (nb k) y (i + 1))) := by
          have h1 := (HW.out.set hl64 z).set (i := i) (by rw [List.length_set]; exact hl64) v
          rw [List.set_set, hset] at h1
          exact h1
        have HB2 : Hid (Below w.heap.size w ((wr.setCell ⟨w.heap.size, i, none⟩ (.int .u8 (z : Int))).setCell ⟨w.heap.size, i, none⟩ (.int .u8 (v : Int)))) := (HB.out.setCell (p := ⟨w.heap.size, i, none⟩) (Nat.le_refl _) _).setCell (p := ⟨w.heap.size, i, none⟩) (Nat.le_refl _) _
        clear hset hz hv hzb hvb
        go_wp2_with fail
        go_roundw
        case rel => exact ⟨i + 1, by omega, by go_num, HN, HB2⟩
        case measure => simp [intOf]; omega
      · have hiI : ¬ (i : Int) < (k.size : Int) := by omega
        have hz0 : z = 0 := by
          rw [← hz, List.getD_eq_getElem?_getD, List.getElem?_eq_none (by rw [nb_length]; omega)]
          rfl
        subst hz0
        have HN : Hid (RowK .u8 5 (wr.setCell ⟨w.heap.size, i, none⟩ (.int .u8 (v : Int))) w.heap.size (pf (nb k) y (i + 1))) := by
          have h1 := HW.out.set hl64 v
          rw [hset] at h1
          exact h1
        have HB2 : Hid (Below w.heap.size w (wr.setCell ⟨w.heap.size, i, none⟩ (.int .u8 (v : Int)))) := HB.out.setCell (p := ⟨w.heap.size, i, none⟩) (Nat.le_refl _) _
        have hx0 : bits .xor .u8 0 (y : Int) = (v : Int) := hx
        clear hset hz hv hzb hvb
        go_wp2_with fail
        go_roundw
        case rel => exact ⟨i + 1, by omega, by go_num, HN, HB2⟩
        case measure => simp [intOf]; omega
    · obtain rfl : i = 64 := by omega
      have hlI : ¬ ((64 : Nat) : Int) < 64 := by omega
      have hW := HW.out
      rw [pf_full] at hW
      have hst := str_row (c := 64) hW (fill_bytes k hy) (fill_length _ _)
      have HR : Hid (SumR w (fill (nb k) y) (.returned (.string (ofN (fill (nb k) y)))) wr) := ⟨rfl, HB.out⟩
      clear hW HW HB
      go_wp2_with fail
      go_ret
      exact HR.out

set_option maxRecDepth 100000 in
set_option maxHeartbeats 2000000 in
theorem rMac_any (k b : ByteArray) (w : World) (hk : k.size ≤ 300000) (hb : b.size ≤ 300000) : Calls Tryd.prog 31 #[.string k, .string b] w (SumR w (mac (nb k) (nb b))) := by
  have h0 : ∃ k0 : ByteArray, nb k0 = key0 (nb k) ∧ k0.size ≤ 64 ∧ (64 < k.size → k0 = ofN (dig (nb k))) ∧ (¬ 64 < k.size → k0 = k) := by
    by_cases h : 64 < k.size
    · refine ⟨ofN (dig (nb k)), ?_, by rw [ofN_size, dig_length]; omega, fun _ => rfl, fun h' => absurd h h'⟩
      rw [nb_ofN (dig_bytes _)]
      unfold key0
      rw [nb_length, if_pos h]
    · refine ⟨k, ?_, by omega, fun h' => absurd h' h, fun _ => rfl⟩
      unfold key0
      rw [nb_length, if_neg h]
  obtain ⟨k0, e0, s0, a0, n0⟩ := h0
  obtain ⟨p1, e1⟩ : ∃ p, ofN (fill (nb k0) 92) = p := ⟨_, rfl⟩
  obtain ⟨p2, e2⟩ : ∃ p, ofN (fill (nb k0) 54) = p := ⟨_, rfl⟩
  have s1 : p1.size = 64 := by rw [← e1, ofN_size, fill_length]
  have s2 : p2.size = 64 := by rw [← e2, ofN_size, fill_length]
  have n1 : nb p1 = fill (nb k0) 92 := by rw [← e1, nb_ofN (fill_bytes _ (by decide))]
  have n2 : nb p2 = fill (nb k0) 54 := by rw [← e2, nb_ofN (fill_bytes _ (by decide))]
  have s3 : (p2 ++ b).size ≤ 400000 := by rw [ByteArray.size_append, s2]; omega
  obtain ⟨d1, e3⟩ : ∃ d, ofN (dig (nb (p2 ++ b))) = d := ⟨_, rfl⟩
  have s4 : d1.size = 32 := by rw [← e3, ofN_size, dig_length]
  have n3 : nb d1 = dig (nb p2 ++ nb b) := by rw [← e3, nb_ofN (dig_bytes _), nb_append]
  have s5 : (p1 ++ d1).size ≤ 400000 := by rw [ByteArray.size_append, s1, s4]; omega
  have hm : dig (nb (p1 ++ d1)) = mac (nb k) (nb b) := by
    rw [nb_append, n1, n3, n2, e0]
    rfl
  have P1 : Hid (∀ u, Calls Tryd.prog 45 #[.string k0, .int .u8 92] u fun e w' => e = .returned (.string p1) ∧ Below u.heap.size u w') := fun u => by
    have h := pad_any k0 92 u (by decide)
    unfold SumR at h
    rw [e1] at h
    exact h
  have P2 : Hid (∀ u, Calls Tryd.prog 45 #[.string k0, .int .u8 54] u fun e w' => e = .returned (.string p2) ∧ Below u.heap.size u w') := fun u => by
    have h := pad_any k0 54 u (by decide)
    unfold SumR at h
    rw [e2] at h
    exact h
  have D1 : Hid (∀ u, Calls Tryd.prog 24 #[.string (p2 ++ b)] u fun e w' => e = .returned (.string d1) ∧ Below u.heap.size u w') := fun u => by
    have h := rSum_any (p2 ++ b) u s3
    unfold SumR at h
    rw [e3] at h
    exact h
  have D2 : Hid (∀ u, Calls Tryd.prog 24 #[.string (p1 ++ d1)] u (SumR u (mac (nb k) (nb b)))) := fun u => by
    have h := rSum_any (p1 ++ d1) u s5
    rw [hm] at h
    exact h
  have D0 : Hid (∀ u, Calls Tryd.prog 24 #[.string k] u fun e w' => e = .returned (.string (ofN (dig (nb k)))) ∧ Below u.heap.size u w') := fun u => rSum_any k u (by omega)
  clear e1 e2 e3 n1 n2 n3 hm e0 s3 s5
  go_enter Tryd.func31, Tryd.ntmps31
  by_cases h : 64 < k.size
  · have hI : (64 : Int) < (k.size : Int) := by omega
    have ek := a0 h
    rw [← ek] at D0
    clear a0 n0 ek
    go_wp2_with fail
    refine (D0.out _).mono ?_
    rintro y w1 ⟨rfl, hb1⟩
    have HB1 : Hid (Below w.heap.size w w1) := hb1
    clear hb1 D0
    go_wp2_with fail
    refine (P1.out _).mono ?_
    rintro y w2 ⟨rfl, hb2⟩
    have HB2 : Hid (Below w.heap.size w w2) := HB1.out.trans (hb2.mono HB1.out.size)
    clear hb2 P1 HB1
    go_wp2_with fail
    refine (P2.out _).mono ?_
    rintro y w3 ⟨rfl, hb3⟩
    have HB3 : Hid (Below w.heap.size w w3) := HB2.out.trans (hb3.mono HB2.out.size)
    clear hb3 P2 HB2
    go_wp2_with fail
    refine (D1.out _).mono ?_
    rintro y w4 ⟨rfl, hb4⟩
    have HB4 : Hid (Below w.heap.size w w4) := HB3.out.trans (hb4.mono HB3.out.size)
    clear hb4 D1 HB3
    go_wp2_with fail
    refine (D2.out _).mono ?_
    rintro y w5 ⟨rfl, hb5⟩
    have HB5 : Hid (Below w.heap.size w w5) := HB4.out.trans (hb5.mono HB4.out.size)
    clear hb5 D2 HB4
    go_wp2_with fail
    go_ret
    exact ⟨rfl, HB5.out⟩
  · have hI : ¬ (64 : Int) < (k.size : Int) := by omega
    obtain rfl := n0 h
    clear a0 n0 D0
    go_wp2_with fail
    refine (P1.out _).mono ?_
    rintro y w2 ⟨rfl, hb2⟩
    have HB2 : Hid (Below w.heap.size w w2) := hb2
    clear hb2 P1
    go_wp2_with fail
    refine (P2.out _).mono ?_
    rintro y w3 ⟨rfl, hb3⟩
    have HB3 : Hid (Below w.heap.size w w3) := HB2.out.trans (hb3.mono HB2.out.size)
    clear hb3 P2 HB2
    go_wp2_with fail
    refine (D1.out _).mono ?_
    rintro y w4 ⟨rfl, hb4⟩
    have HB4 : Hid (Below w.heap.size w w4) := HB3.out.trans (hb4.mono HB3.out.size)
    clear hb4 D1 HB3
    go_wp2_with fail
    refine (D2.out _).mono ?_
    rintro y w5 ⟨rfl, hb5⟩
    have HB5 : Hid (Below w.heap.size w w5) := HB4.out.trans (hb5.mono HB4.out.size)
    clear hb5 D2 HB4
    go_wp2_with fail
    go_ret
    exact ⟨rfl, HB5.out⟩
end Go.Proofs.YtibglhlhogfdnaaDoor
