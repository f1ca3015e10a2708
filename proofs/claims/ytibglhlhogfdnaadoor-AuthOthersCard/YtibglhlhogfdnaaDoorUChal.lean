/- The program's appendNumber and Challenge. -/
import Derived.Test.YtibglhlhogfdnaaDoorUTab
import Derived.Test.YtibglhlhogfdnaaDoorURefC
import Derived.Test.YtibglhlhogfdnaaDoorQMacP
import Derived.Lib.SlBytesConst
namespace Go.Proofs.YtibglhlhogfdnaaDoor
open Go.RowKit QP AP

theorem le8_is (n : Nat) : le8 n = (List.range 8).map fun j => n / 2 ^ (8 * j) % 256 := by
  unfold le8
  simp [List.range, List.range.loop]
theorem le8_at (n : Nat) {j : Nat} (hj : j < 8) : (le8 n).take (j + 1) = (le8 n).take j ++ [n / 2 ^ (8 * j) % 256] := by
  rw [le8_is, List.take_add_one]
  simp [List.getElem?_map, List.getElem?_range hj]
theorem le8_all (n : Nat) : (le8 n).take 8 = le8 n := rfl

theorem str_m {w : World} {g n c : Nat} {e : TypeId} {X : List Nat} (h : RowM .u8 e w g c X) (hX : Bytes X) (hn : X.length = n) : (convert 45 9 (.slice (some ⟨g, 0, none⟩) n c)).run Tryd.prog w = .ok (.string (ofN X)) w := by
  subst hn
  have h2 := run_convert_bytes_back (P := Tryd.prog) w 45 9 5 ⟨g, 0, none⟩ c (X.map UInt8.ofNat) Tryd.underlying45 Tryd.underlying5 Tryd.underlying9 fun j hj => by
    have hj' : j < X.length := by simpa using hj
    have h4 := h.cell (List.getElem?_eq_getElem hj')
    rw [Addr.add_lit, Nat.zero_add, h4]
    have h5 := hX X[j] (List.getElem_mem hj')
    simp
    omega
  rw [List.length_map] at h2
  exact h2
theorem le8_length (n : Nat) : (le8 n).length = 8 := rfl

set_option maxRecDepth 100000 in
set_option maxHeartbeats 1000000 in
theorem appU_any (base g n c : Nat) (L : List Nat) (N : Nat) (w : World) (hown : RowM .u8 5 w g c L) (hL : L.length = n) (hg : base ≤ g) (hn : n ≤ 1000) (hbase : base ≤ w.heap.size) :
    Calls Tryd.prog 22 #[.slice (some ⟨g, 0, none⟩) n c, .int .u64 (N : Int)] w fun e w' => ∃ g' c', e = .returned (.slice (some ⟨g', 0, none⟩) (n + 8) c') ∧ Hid (RowM .u8 5 w' g' c' (L ++ le8 N)) ∧ base ≤ g' ∧ Below base w w' := by
  have HO : Hid (RowM .u8 5 w g c (L ++ (le8 N).take 0)) := by
    show RowM _ _ _ _ _ _
    rw [List.take_zero, List.append_nil]
    exact hown
  have HL : Hid (L.length = n) := hL
  clear hown hL
  go_enter Tryd.func22, Tryd.ntmps22
  go_wp2_with fail
  go_loopw [0, 6] (fun ov iv wx => ∃ (j c g : Nat), j ≤ 8 ∧ iv = .int .i64 j ∧ ov = .slice (some ⟨g, 0, none⟩) (n + j) c ∧ Hid (RowM .u8 5 wx g c (L ++ (le8 N).take j)) ∧ Hid (base ≤ g) ∧ Hid (Below base w wx)) (fun _ iv _ => (8 - intOf iv).toNat)
  case atStart => exact ⟨0, c, g, by omega, rfl, rfl, HO, hg, Below.refl _ _⟩
  case round =>
    clear HO hg
    obtain ⟨j, c1, g1, hj, rfl, rfl, HO, Hg, HB⟩ := hrel
    have hbx : base ≤ wr.heap.size := Nat.le_trans hbase HB.out.size
    by_cases hlt : j < 8
    · have hlI : (j : Int) < 8 := by omega
      obtain ⟨a, ea⟩ : ∃ a, 8 * j = a := ⟨_, rfl⟩
      have ha : a < 64 := by omega
      have aI : 8 * (j : Int) = (a : Int) := by omega
      have wa : IntKind.i64.wrap (a : Int) = (a : Int) := wrapI (by omega) (by omega)
      have a0 : (0 : Int) ≤ (a : Int) := by omega
      obtain ⟨t, ht⟩ : ∃ t, 2 ^ a = t := ⟨_, rfl⟩
      have htI : (2 : Int) ^ a = (t : Int) := by rw [← ht]; simp
      obtain ⟨x, hx⟩ : ∃ x, N / t = x := ⟨_, rfl⟩
      have hxI : (N : Int) / (t : Int) = (x : Int) := by rw [← hx]; simp
      obtain ⟨y, hy⟩ : ∃ y, x % 256 = y := ⟨_, rfl⟩
      have hyI : (x : Int) % 256 = (y : Int) := by omega
      have HA1 : Hid (L ++ (le8 N).take (j + 1) = (L ++ (le8 N).take j) ++ [y]) := by
        show _ = _
        rw [le8_at N hlt, ea, ht, hx, hy, List.append_assoc]
      obtain ⟨m, hm⟩ : ∃ m, n + j = m := ⟨_, rfl⟩
      rw [hm]
      have HM : Hid (m + 1 = n + (j + 1)) := by show _ = _; omega
      have hm2 : m ≤ 2000 := by omega
      have hZl : (L ++ (le8 N).take j).length = m := by rw [List.length_append, HL.out, List.length_take, le8_length]; omega
      obtain ⟨Z, hZ⟩ : ∃ Z, L ++ (le8 N).take j = Z := ⟨_, rfl⟩
      rw [hZ] at HO HA1 hZl
      have HZl : Hid (Z.length = m) := hZl
      clear hZ hm hx hy ht ea hZl
      go_wp2_with (at_builtin; go_must (refine wpList_numsM okU8 rfl _ _ rfl base Z [y] g1 m c1 rfl ?q1 HZl.out (by omega) Hg.out ?q2 wr.heap.size 1 rfl rfl (by omega) ?q3 ?_))
      case q1 => exact HO.out.below ((Below.refl _ _).alloc (Nat.le_refl _) _)
      case q2 => simp; omega
      case q3 => exact RowK.new wr .u8 _ [y] _ rfl
      intro g3 c3 w3 ho3 hb3 hg3
      have HO3 : Hid (RowM .u8 5 w3 g3 c3 (L ++ (le8 N).take (j + 1))) := by show RowM _ _ _ _ _ _; rw [HA1.out]; exact ho3
      have HB3 : Hid (Below base w w3) := (HB.out.alloc hbx _).trans hb3
      have Hg3 : Hid (base ≤ g3) := hg3
      clear ho3 hb3 hg3 HO HB Hg
      go_wp2_with fail
      go_roundw
      case rel => exact ⟨j + 1, c3, g3, by omega, by go_num, by rw [← HM.out], HO3, Hg3, HB3⟩
      case measure => simp [intOf]; omega
    · obtain rfl : j = 8 := by omega
      have hlI : ¬ ((8 : Nat) : Int) < 8 := by omega
      go_wp2_with fail
      go_ret
      exact ⟨g1, c1, rfl, by rw [← le8_all N]; exact HO, Hg.out, HB.out⟩

set_option maxRecDepth 100000 in
set_option maxHeartbeats 2000000 in
theorem chal_auth (d : Nat) (nn : Int) (w : World) (hc : Con w) : Calls Tryd.prog 9 #[.int .u64 (d : Int), .int .i64 nn] w fun e w' => e = .returned (.string (chal d (IntKind.u64.wrap nn).toNat)) ∧ Below w.heap.size w w' := by
  obtain ⟨U, hU⟩ : ∃ U : Nat, IntKind.u64.wrap nn = (U : Int) := ⟨(IntKind.u64.wrap nn).toNat, by
    have : 0 ≤ IntKind.u64.wrap nn := by simp [IntKind.wrap, IntKind.bits, IntKind.signed]; omega
    omega⟩
  have hUt : (IntKind.u64.wrap nn).toNat = U := by rw [hU]; rfl
  rw [hUt]
  have b8 : ∀ n, Bytes (le8 n) := fun n => by rw [← leN_8]; exact leN_bytes n 8
  have HBy : Hid (Bytes (word ++ le8 d ++ le8 U)) := by
    intro x hx
    rcases List.mem_append.1 hx with hx | hx
    · rcases List.mem_append.1 hx with hx | hx
      · have hw : Bytes word := by unfold Bytes word; decide
        exact hw x hx
      · exact b8 _ x hx
    · exact b8 _ x hx
  have zl : (word ++ le8 d ++ le8 U).length = 25 := by rw [List.length_append, List.length_append, le8_length, le8_length]; rfl
  have z2 : (word ++ le8 d).length = 17 := by rw [List.length_append, le8_length]; rfl
  obtain ⟨w1, hw1⟩ : ∃ w1, w.alloc (.cells #[.int .u8 99, .int .u8 104, .int .u8 97, .int .u8 108, .int .u8 108, .int .u8 101, .int .u8 110, .int .u8 103, .int .u8 101] 5) = w1 := ⟨_, rfl⟩
  obtain ⟨w2, hw2⟩ : ∃ w2, w.alloc (.cells #[.int .u8 99, .int .u8 104, .int .u8 97, .int .u8 108, .int .u8 108, .int .u8 101, .int .u8 110, .int .u8 103, .int .u8 101] 5 (9, 10)) = w2 := ⟨_, rfl⟩
  have hcv : (convert 45 45 (.slice (some ⟨w.heap.size, 0, none⟩) 9 9)).run Tryd.prog w1 = .ok (.slice (some ⟨w.heap.size, 0, none⟩) 9 9) w2 := by
    rw [← hw1, ← hw2]
    exact Lib.run_convert_bytes_const w 45 5 #[.int .u8 99, .int .u8 104, .int .u8 97, .int .u8 108, .int .u8 108, .int .u8 101, .int .u8 110, .int .u8 103, .int .u8 101] 9 9 Tryd.underlying45 Tryd.underlying5
  have hb2 : Below w.heap.size w w2 := by rw [← hw2]; exact (Below.refl _ _).alloc (Nat.le_refl _) _
  have HB2 : Hid (Below w.heap.size w w2) := hb2
  have hm2 : RowM .u8 5 w2 w.heap.size 9 word := by
    rw [← hw2]
    exact ⟨_, (9, 10), heap_new w _, Or.inr (Nat.le_refl _), Nat.le_refl _, by unfold maxLen; omega, rfl, rfl⟩
  have HC1 : Hid (Calls Tryd.prog 22 #[.slice (some ⟨w.heap.size, 0, none⟩) 9 9, .int .u64 (d : Int)] w2 fun e w' => ∃ g' c', e = .returned (.slice (some ⟨g', 0, none⟩) 17 c') ∧ Hid (RowM .u8 5 w' g' c' (word ++ le8 d)) ∧ w.heap.size ≤ g' ∧ Below w.heap.size w2 w') := appU_any w.heap.size w.heap.size 9 9 word d w2 hm2 rfl (Nat.le_refl _) (by omega) hb2.size
  have HC2 : Hid (∀ g c u, RowM .u8 5 u g c (word ++ le8 d) → w.heap.size ≤ g → w.heap.size ≤ u.heap.size → Calls Tryd.prog 22 #[.slice (some ⟨g, 0, none⟩) 17 c, .int .u64 (U : Int)] u fun e w' => ∃ g' c', e = .returned (.slice (some ⟨g', 0, none⟩) 25 c') ∧ Hid (RowM .u8 5 w' g' c' (word ++ le8 d ++ le8 U)) ∧ w.heap.size ≤ g' ∧ Below w.heap.size u w') := fun g c u h1 h2 h3 => appU_any w.heap.size g 17 c (word ++ le8 d) U u h1 z2 h2 (by omega) h3
  obtain ⟨s, hs⟩ : ∃ s, ofN (word ++ le8 d ++ le8 U) = s := ⟨_, rfl⟩
  have HS : Hid (∀ u, Below w.heap.size w u → Calls Tryd.prog 23 #[.string s] u fun e w' => e = .returned (.string (chal d U)) ∧ Below u.heap.size u w') := fun u hu => by
    rw [← hs]
    have h := sum_any (ofN (word ++ le8 d ++ le8 U)) u (hc.below hu) (by rw [ofN_size, zl]; omega)
    unfold SumR at h
    rw [nb_ofN HBy.out] at h
    exact h
  have HSt : Hid (∀ g c u, RowM .u8 5 u g c (word ++ le8 d ++ le8 U) → (convert 45 9 (.slice (some ⟨g, 0, none⟩) 25 c)).run Tryd.prog u = .ok (.string s) u) := fun g c u h => by
    rw [← hs]
    exact str_m h HBy.out zl
  clear b8 hc hUt zl z2 hs hw2 hb2 hm2 HBy
  go_enter Tryd.func9, Tryd.ntmps9
  go_wp2_with (first
    | (go_at_call 22; (with_reducible refine HC1.out.mono ?_); rintro e w3 ⟨g3, c3, rfl, HM3, hg3, hb3⟩; have HB3 : Hid (Below w.heap.size w w3) := HB2.out.trans hb3; have HC3 : Hid (Calls Tryd.prog 22 #[.slice (some ⟨g3, 0, none⟩) 17 c3, .int .u64 (U : Int)] w3 _) := HC2.out g3 c3 w3 HM3.out hg3 HB3.out.size; clear hb3 hg3)
    | (go_at_call 22; (with_reducible refine HC3.out.mono ?_); rintro e w4 ⟨g4, c4, rfl, HM4, hg4, hb4⟩; have HB4 : Hid (Below w.heap.size w w4) := HB3.out.trans hb4; have hst := HSt.out g4 c4 w4 HM4.out; clear hb4 hg4)
    | (go_at_call 23; go_must ((with_reducible refine (HS.out _ HB4.out).mono ?_); rintro e w5 ⟨rfl, hb5⟩)))
  go_ret
  exact ⟨rfl, HB4.out.trans (hb5.mono HB4.out.size)⟩

set_option maxRecDepth 100000 in
set_option maxHeartbeats 2000000 in
theorem proof_auth (k n c : ByteArray) (w : World) (hcon : Con w) (hk : k.size ≤ 10000) (hn : n.size ≤ 10000) (hc : c.size ≤ 10000) : Calls Tryd.prog 16 #[.string k, .string n, .string c] w fun e w' => e = .returned (.string (proof k n c)) ∧ Below w.heap.size w w' := by
  have zw : (⟨#[0]⟩ : ByteArray).size = 1 := rfl
  have hz : nb (⟨#[0]⟩ : ByteArray) = [0] := rfl
  have H : Hid (∀ u, Below w.heap.size w u → Calls Tryd.prog 30 #[.string k, .string (n ++ (⟨#[0]⟩ : ByteArray) ++ c)] u fun e w' => e = .returned (.string (proof k n c)) ∧ Below u.heap.size u w') := fun u hu => by
    have h := mac_any k (n ++ (⟨#[0]⟩ : ByteArray) ++ c) u (hcon.below hu) (by omega) (by rw [ByteArray.size_append, ByteArray.size_append, zw]; omega)
    unfold SumR at h
    rw [nb_append, nb_append, hz, List.append_assoc] at h
    exact h
  clear hz hcon
  go_enter Tryd.func16, Tryd.ntmps16
  go_wp2_with fail
  refine (H.out _ (Below.refl _ _)).mono ?_
  rintro y w1 ⟨rfl, hb1⟩
  go_wp2_with fail
  go_ret
  exact ⟨rfl, hb1⟩
end Go.Proofs.YtibglhlhogfdnaaDoor
