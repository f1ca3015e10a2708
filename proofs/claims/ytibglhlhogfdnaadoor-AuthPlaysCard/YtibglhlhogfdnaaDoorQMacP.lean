/- The program's under and Mac. -/
import Derived.Test.YtibglhlhogfdnaaDoorQHSum
import Derived.Test.YtibglhlhogfdnaaDoorQRefM
namespace Go.Proofs.YtibglhlhogfdnaaDoor
open Go.RowKit QP

/-- the hash g of the bytes m, by itself -/
def HashJ (g : Nat) (m : List Nat) (w : World) : Prop := HashI g m w (fun i => i = g)
section
variable {g : Nat} {m : List Nat} {w w' : World}
theorem HashJ.turn {S : Nat → Prop} (h : HashJ g m w) (ht : Turn S w w') (hg : ¬ S g) : HashJ g m w' := (HashI.res g m).kept h ht (fun i hi => by rw [hi]; exact hg)
theorem HashJ.below (h : HashJ g m w) (hb : Below w.heap.size w w') : HashJ g m w' := h.turn (S := fun _ => False) (Turn.ofBelow _ hb) (fun h => h)
theorem HashJ.lt (h : HashJ g m w) : g < w.heap.size := (HashI.res g m).lt h g rfl
theorem HashJ.of {F : Nat → Prop} (h : HashI g m w F) : HashJ g m w ∧ F g := ⟨⟨h.1, h.2.1, fun _ => Iff.rfl⟩, (h.2.2 g).2 rfl⟩
end
theorem write_j (g : Nat) (m : List Nat) (b : ByteArray) (w : World) (hc : Con w) (hI : HashJ g m w) (hb : m.length + b.size ≤ 500000) : Calls Tryd.prog 36 #[.pointer (some ⟨g, 0, none⟩), .string b] w fun e w' => e = .returned (.tuple #[]) ∧ HashJ g (m ++ nb b) w' ∧ Turn (fun i => i = g) w w' :=
  (write_any g m b w _ hc hI hb).mono fun _ _ ⟨e1, _, h1, h2, _⟩ => ⟨e1, (HashJ.of h1).1, h2⟩
theorem hsum_j (g : Nat) (m : List Nat) (w : World) (hc : Con w) (hI : HashJ g m w) (hm : m.length ≤ 400000) : Calls Tryd.prog 37 #[.pointer (some ⟨g, 0, none⟩)] w fun e w' => e = .returned (.string (ofN (dig m))) ∧ HashJ g m w' ∧ Turn (fun i => i = g) w w' :=
  (hsum_any g m w _ hc hI hm).mono fun _ _ ⟨e1, _, h1, h2, _⟩ => ⟨e1, (HashJ.of h1).1, h2⟩
theorem new_j (w : World) (hw : 0 < w.heap.size) : Calls Tryd.prog 35 #[] w fun e w' => ∃ g, e = .returned (.pointer (some ⟨g, 0, none⟩)) ∧ HashJ g [] w' ∧ w.heap.size ≤ g ∧ Below w.heap.size w w' :=
  (new_any w hw).mono fun _ _ ⟨g, _, e1, h1, h2, h3⟩ => ⟨g, e1, (HashJ.of h1).1, h2 g (HashJ.of h1).2, h3⟩

theorem str_arr {w : World} {x n c : Nat} {e : TypeId} {X : List Nat} (h : RowK .u8 e w x X) (hX : Bytes X) (hn : X.length = n) : (convert 45 9 (.slice (some ⟨x, 0, none⟩) n c)).run Tryd.prog w = .ok (.string (ofN X)) w := by
  subst hn
  have h2 := run_convert_bytes_back (P := Tryd.prog) w 45 9 5 ⟨x, 0, none⟩ c (X.map UInt8.ofNat) Tryd.underlying45 Tryd.underlying5 Tryd.underlying9 fun j hj => by
    have hj' : j < X.length := by simpa using hj
    have h4 := h.cell (List.getElem?_eq_getElem hj')
    rw [Addr.add_lit, Nat.zero_add, h4]
    have h5 := hX X[j] (List.getElem_mem hj')
    simp
    omega
  rw [List.length_map] at h2
  exact h2
theorem byteX {a b : Nat} (ha : a < 256) (hb : b < 256) : bits .xor .u8 (a : Int) (b : Int) = ((a ^^^ b : Nat) : Int) := u8_xor_nat a b ha hb

/-- the key in a row of 64 -/
def wide (k : List Nat) : List Nat := k ++ List.replicate (64 - k.length) 0
/-- the first i of them put together with p -/
def half (P : List Nat) (p i : Nat) : List Nat := (P.map (· ^^^ p)).take i ++ P.drop i
theorem wide_length {k : List Nat} (h : k.length ≤ 64) : (wide k).length = 64 := by unfold wide; rw [List.length_append, List.length_replicate]; omega
theorem wide_fill {k : List Nat} (p : Nat) (h : k.length ≤ 64) : (wide k).map (· ^^^ p) = fill k p := by
  have hl := wide_length h
  unfold fill
  apply List.ext_getElem?
  intro j
  rw [List.getElem?_map, List.getElem?_map]
  rcases Nat.lt_or_ge j 64 with hj | hj
  · rw [List.getElem?_range hj, List.getElem?_eq_getElem (by omega)]
    simp only [Option.map_some]
    congr 2
    have e : (wide k)[j]'(by omega) = (wide k).getD j 0 := by simp [hl, hj]
    rw [e]
    unfold wide
    by_cases hk : j < k.length
    · simp [List.getElem?_append_left hk]
    · rw [List.getD_eq_getElem?_getD, List.getElem?_append_right (by omega), List.getD_eq_getElem?_getD, List.getElem?_eq_none (by omega : k.length ≤ j)]
      rw [List.getElem?_replicate]
      split <;> rfl
  · rw [List.getElem?_eq_none (by omega), List.getElem?_eq_none (by simp; omega)]
    rfl
theorem half_length {P : List Nat} (p : Nat) {i : Nat} (h : i ≤ P.length) : (half P p i).length = P.length := by unfold half; rw [List.length_append, List.length_take, List.length_map, List.length_drop]; omega
theorem half_at {P : List Nat} (p : Nat) {i : Nat} (h : i < P.length) : (half P p i)[i]? = some P[i] := by
  unfold half
  have e : ((P.map (· ^^^ p)).take i).length = i := by rw [List.length_take, List.length_map]; omega
  rw [List.getElem?_append_right (by omega), e, Nat.sub_self, List.getElem?_drop, Nat.add_zero, List.getElem?_eq_getElem h]
theorem half_set {P : List Nat} (p : Nat) {i : Nat} (h : i < P.length) : (half P p i).set i (P[i] ^^^ p) = half P p (i + 1) := by
  unfold half
  have hl : i < (P.map (· ^^^ p)).length := by rw [List.length_map]; exact h
  have e : ((P.map (· ^^^ p)).take i).length = i := by rw [List.length_take]; omega
  rw [List.set_append_right _ _ (by omega), e, Nat.sub_self, List.drop_eq_getElem_cons h, List.set_cons_zero, List.take_succ_eq_append_getElem hl, List.append_assoc]
  congr 1
  simp
theorem half_full {P : List Nat} (p : Nat) {n : Nat} (h : P.length = n) : half P p n = P.map (· ^^^ p) := by
  unfold half
  rw [List.take_of_length_le (by rw [List.length_map]; omega), List.drop_of_length_le (by omega), List.append_nil]
theorem fillB {k : List Nat} {p : Nat} (hk : Bytes k) (hp : p < 256) : Bytes (fill k p) := fun x hx => by
  unfold fill at hx
  obtain ⟨i, _, rfl⟩ := List.mem_map.1 hx
  have h1 : k.getD i 0 < 256 := byte_at hk i
  exact Nat.xor_lt_two_pow (n := 8) h1 hp
theorem fillL (k : List Nat) (p : Nat) : (fill k p).length = 64 := by unfold fill; simp

theorem zeros64b : (#[.int .u8 0, .int .u8 0, .int .u8 0, .int .u8 0, .int .u8 0, .int .u8 0, .int .u8 0, .int .u8 0, .int .u8 0, .int .u8 0, .int .u8 0, .int .u8 0, .int .u8 0, .int .u8 0, .int .u8 0, .int .u8 0, .int .u8 0, .int .u8 0, .int .u8 0, .int .u8 0, .int .u8 0, .int .u8 0, .int .u8 0, .int .u8 0, .int .u8 0, .int .u8 0, .int .u8 0, .int .u8 0, .int .u8 0, .int .u8 0, .int .u8 0, .int .u8 0, .int .u8 0, .int .u8 0, .int .u8 0, .int .u8 0, .int .u8 0, .int .u8 0, .int .u8 0, .int .u8 0, .int .u8 0, .int .u8 0, .int .u8 0, .int .u8 0, .int .u8 0, .int .u8 0, .int .u8 0, .int .u8 0, .int .u8 0, .int .u8 0, .int .u8 0, .int .u8 0, .int .u8 0, .int .u8 0, .int .u8 0, .int .u8 0, .int .u8 0, .int .u8 0, .int .u8 0, .int .u8 0, .int .u8 0, .int .u8 0, .int .u8 0, .int .u8 0] : Array Value) = (flat (enK .u8) (List.replicate 64 0)).toArray := by kernel_rfl

set_option maxRecDepth 100000 in
set_option maxHeartbeats 2000000 in
theorem under_any (k : ByteArray) (p : Nat) (w : World) (hc : Con w) (hk : k.size ≤ 64) (hp : p < 256) : Calls Tryd.prog 44 #[.string k, .int .u8 (p : Int)] w fun e w' => ∃ g, e = .returned (.pointer (some ⟨g, 0, none⟩)) ∧ HashJ g (fill (nb k) p) w' ∧ w.heap.size ≤ g ∧ Below w.heap.size w w' := by
  obtain ⟨x, hx⟩ : ∃ x, w.heap.size = x := ⟨_, rfl⟩
  obtain ⟨w1, hw1⟩ : ∃ u, w.alloc (.cells #[.int .u8 0, .int .u8 0, .int .u8 0, .int .u8 0, .int .u8 0, .int .u8 0, .int .u8 0, .int .u8 0, .int .u8 0, .int .u8 0, .int .u8 0, .int .u8 0, .int .u8 0, .int .u8 0, .int .u8 0, .int .u8 0, .int .u8 0, .int .u8 0, .int .u8 0, .int .u8 0, .int .u8 0, .int .u8 0, .int .u8 0, .int .u8 0, .int .u8 0, .int .u8 0, .int .u8 0, .int .u8 0, .int .u8 0, .int .u8 0, .int .u8 0, .int .u8 0, .int .u8 0, .int .u8 0, .int .u8 0, .int .u8 0, .int .u8 0, .int .u8 0, .int .u8 0, .int .u8 0, .int .u8 0, .int .u8 0, .int .u8 0, .int .u8 0, .int .u8 0, .int .u8 0, .int .u8 0, .int .u8 0, .int .u8 0, .int .u8 0, .int .u8 0, .int .u8 0, .int .u8 0, .int .u8 0, .int .u8 0, .int .u8 0, .int .u8 0, .int .u8 0, .int .u8 0, .int .u8 0, .int .u8 0, .int .u8 0, .int .u8 0, .int .u8 0] 87) = u := ⟨_, rfl⟩
  have hg1 : w1.heap[x]? = some (.cells (flat (enK .u8) (List.replicate 64 0)).toArray 87 (0, 0)) := by rw [← hw1, ← hx, ← zeros64b]; exact heap_new w _
  have hZs : (flat (enK .u8) (List.replicate 64 0)).toArray.size = 64 := by rw [flat_size]; simp
  have HTh : Hid (w1.there x 0 k.size) := fun j hj => ⟨by rw [cell_of hg1, Array.getElem?_eq_getElem (by omega)]; rfl, frozen_of hg1 _⟩
  have hkn : (nb k).length = k.size := nb_length k
  have HW : Hid (ArrG .u8 87 (w1.setCells x 0 (flat (enK .u8) ((nb k).take k.size))) x (half (wide (nb k)) p 0)) := by
    show ArrG _ _ _ _ _
    unfold ArrG
    rw [List.take_of_length_le (by omega), heap_setCells _ 0 _ w1 hg1 (by rw [flatK_len]; omega), flatK_len, hkn]
    congr 3
    rw [List.toList_toArray, flat_drop, List.take_zero, List.nil_append, ← flat_append]
    congr 1
    unfold half wide
    rw [List.take_zero, List.nil_append, List.drop_zero, List.drop_replicate, Nat.zero_add, hkn]
  have HB1 : Hid (Below x w (w1.setCells x 0 (flat (enK .u8) ((nb k).take k.size)))) := by
    have h1 : Below w.heap.size w w1 := by rw [← hw1]; exact (Below.refl _ _).alloc (Nat.le_refl _) _
    rw [hx] at h1
    exact below_setCells (Nat.le_refl _) _ _ _ h1
  have Hk : Hid (min k.size 64 = k.size) := Nat.min_eq_left hk
  have HWl : Hid ((wide (nb k)).length = 64) := wide_length (by omega)
  have HWb : Hid (Bytes (wide (nb k))) := (nb_bytes k).append (zeros_bytes _)
  have HFe : Hid ((wide (nb k)).map (· ^^^ p) = fill (nb k) p) := wide_fill p (by omega)
  have HFb : Hid (Bytes (fill (nb k) p)) := fillB (nb_bytes k) hp
  have HFl : Hid ((fill (nb k) p).length = 64) := fillL _ _
  have HC : Hid (Con w) := hc
  have Hx : Hid (w.heap.size = x) := hx
  obtain ⟨P, hP⟩ : ∃ P, wide (nb k) = P := ⟨_, rfl⟩
  rw [hP] at HW HWl HWb HFe
  obtain ⟨w2, hw2⟩ : ∃ u, w1.setCells x 0 (flat (enK .u8) ((nb k).take k.size)) = u := ⟨_, rfl⟩
  rw [hw2] at HW HB1
  have HW2 : Hid (w1.setCells x 0 (flat (enK .u8) ((nb k).take k.size)) = w2) := hw2
  clear hc hg1 hZs hkn hP hw2
  go_enter Tryd.func44, Tryd.ntmps44
  go_wp2_with ((refine wpList_copy_cut rfl (.tmp 8) (.tmp 9) 45 9 rfl 5 Tryd.underlying45 sizeByte1 x 0 64 64 rfl k rfl k.size Hk.out HTh.out ?_; rw [HW2.out]))
  go_loopw [11] (fun iv wx => ∃ i : Nat, i ≤ 64 ∧ iv = .int .i64 i ∧ Hid (ArrG .u8 87 wx x (half P p i)) ∧ Hid (Below x w wx)) (fun iv _ => 64 - (intOf iv).toNat)
  case atStart => exact ⟨0, by omega, rfl, HW, HB1⟩
  case round =>
    clear HW HB1 HTh HW2
    obtain ⟨i, hi, rfl, HX, HB⟩ := hrel
    by_cases hlt : i < 64
    · have hlI : (i : Int) < 64 := by omega
      have hi0 : (0 : Int) ≤ (i : Int) := by omega
      have hiP : i < P.length := by rw [HWl.out]; exact hlt
      have hat := half_at p hiP
      have hset := half_set p hiP
      have hby : P[i] < 256 := HWb.out _ (List.getElem_mem hiP)
      obtain ⟨y, hy⟩ : ∃ y, P[i] = y := ⟨_, rfl⟩
      rw [hy] at hat hset hby
      obtain ⟨z, hz⟩ : ∃ z, y ^^^ p = z := ⟨_, rfl⟩
      rw [hz] at hset
      have hxo : bits .xor .u8 (y : Int) (p : Int) = (z : Int) := by rw [byteX hby hp, hz]
      have hce := HX.out.row.cell hat
      have hfz := HX.out.row.frozen i
      have HN : Hid (ArrG .u8 87 (wr.setCell ⟨x, i, none⟩ (.int .u8 (z : Int))) x (half P p (i + 1))) := by
        have h1 := HX.out.set (i := i) (by rw [half_length p (by omega)]; exact hiP) z
        rw [hset] at h1
        exact h1
      have HB2 : Hid (Below x w (wr.setCell ⟨x, i, none⟩ (.int .u8 (z : Int)))) := HB.out.setCell (p := ⟨x, i, none⟩) (Nat.le_refl _) _
      clear hat hset hy hz hby hiP HX HB
      go_wp2_with fail
      go_roundw
      case rel => exact ⟨i + 1, by omega, by go_num, HN, HB2⟩
      case measure => simp [intOf]; omega
    · obtain rfl : i = 64 := by omega
      have hlI : ¬ ((64 : Nat) : Int) < 64 := by omega
      have hX := HX.out
      rw [half_full p HWl.out, HFe.out] at hX
      have HRow : Hid (RowK .u8 87 wr x (fill (nb k) p)) := hX.row
      have HBr : Hid (Below x w wr) := HB.out
      have HBw : Hid (Below w.heap.size w wr) := by show Below _ _ _; rw [Hx.out]; exact HB.out
      have HCr : Hid (Con wr) := HC.out.below HBw.out
      have HNw : Hid (Calls Tryd.prog 35 #[] wr fun e w' => ∃ g, e = .returned (.pointer (some ⟨g, 0, none⟩)) ∧ HashJ g [] w' ∧ wr.heap.size ≤ g ∧ Below wr.heap.size wr w') := new_j wr HCr.out.1
      clear hX HX HB hlt
      go_wp2_with fail
      refine HNw.out.mono ?_
      rintro e w5 ⟨g, rfl, hJ, hg, hb5⟩
      have HR5 : Hid (RowK .u8 87 w5 x (fill (nb k) p)) := HRow.out.below hb5
      have hst := str_arr (c := 64) HR5.out HFb.out HFl.out
      have HWr : Hid (Calls Tryd.prog 36 #[.pointer (some ⟨g, 0, none⟩), .string (ofN (fill (nb k) p))] w5 fun e w' => e = .returned (.tuple #[]) ∧ HashJ g (fill (nb k) p) w' ∧ Turn (fun i => i = g) w5 w') := by
        have h := write_j g [] (ofN (fill (nb k) p)) w5 (HCr.out.below hb5) hJ (by rw [ofN_size, HFl.out]; decide)
        rw [nb_ofN HFb.out, List.nil_append] at h
        exact h
      have hle : w.heap.size ≤ wr.heap.size := HBw.out.size
      have hwg : w.heap.size ≤ g := Nat.le_trans hle hg
      have HB5 : Hid (Below w.heap.size w w5) := HBw.out.trans (hb5.mono hle)
      go_wp2_with fail
      refine HWr.out.mono ?_
      rintro e w6 ⟨rfl, hJ6, hT6⟩
      have HB6 : Hid (Below w.heap.size w w6) := HB5.out.trans ((hT6.mono (S' := fun i => w.heap.size ≤ i) (fun i hi => by rw [hi]; exact hwg)).toBelow HB5.out.size)
      go_wp2_with fail
      go_ret
      exact ⟨g, rfl, hJ6, hwg, HB6.out⟩

set_option maxRecDepth 100000 in
set_option maxHeartbeats 2000000 in
theorem mac_any (k b : ByteArray) (w : World) (hc : Con w) (hk : k.size ≤ 300000) (hb : b.size ≤ 300000) : Calls Tryd.prog 30 #[.string k, .string b] w (SumR w (mac (nb k) (nb b))) := by
  have HC : Hid (Con w) := hc
  -- what follows once the key is short
  have HRest : Hid (∀ (u : World) (k2 : ByteArray), Below w.heap.size w u → k2.size ≤ 64 → nb k2 = key0 (nb k) →
      (∀ p, p < 256 → Calls Tryd.prog 44 #[.string k2, .int .u8 ((p : Nat) : Int)] u fun e w' => ∃ g, e = .returned (.pointer (some ⟨g, 0, none⟩)) ∧ HashJ g (fill (key0 (nb k)) p) w' ∧ u.heap.size ≤ g ∧ Below u.heap.size u w')) := fun u k2 hu h1 h2 p hp => by
    have h := under_any k2 p u (HC.out.below hu) h1 hp
    rw [h2] at h
    exact h
  have HSum : Hid (k.size > 64 → Calls Tryd.prog 23 #[.string k] w (SumR w (dig (nb k)))) := fun _ => sum_any k w HC.out (by omega)
  have HRes : Hid (dig (fill (key0 (nb k)) 92 ++ dig (fill (key0 (nb k)) 54 ++ nb b)) = mac (nb k) (nb b)) := (rfl : _ = _)
  obtain ⟨Ki, hKi⟩ : ∃ X, fill (key0 (nb k)) 54 = X := ⟨_, rfl⟩
  obtain ⟨Ko, hKo⟩ : ∃ X, fill (key0 (nb k)) 92 = X := ⟨_, rfl⟩
  have HKi : Hid (fill (key0 (nb k)) 54 = Ki) := hKi
  have HKo : Hid (fill (key0 (nb k)) 92 = Ko) := hKo
  have hli : Ki.length = 64 := by rw [← hKi]; exact fillL _ _
  have hlo : Ko.length = 64 := by rw [← hKo]; exact fillL _ _
  rw [hKi, hKo] at HRes
  clear hKi hKo hc
  go_enter Tryd.func30, Tryd.ntmps30
  by_cases hgt : 64 < k.size
  · have hgtI : (64 : Int) < (k.size : Int) := by omega
    have HS0 : Hid (Calls Tryd.prog 23 #[.string k] w fun e w' => e = .returned (.string (ofN (dig (nb k)))) ∧ Below w.heap.size w w') := HSum.out hgt
    obtain ⟨k2, hk2e⟩ : ∃ k2, ofN (dig (nb k)) = k2 := ⟨_, rfl⟩
    have hk2 : k2.size ≤ 64 := by rw [← hk2e, ofN_size, dig_length]; decide
    have hnk2 : Hid (nb k2 = key0 (nb k)) := by show _ = _; rw [← hk2e, nb_ofN (dig_bytes _)]; unfold key0; rw [nb_length, if_pos hgt]
    rw [hk2e] at HS0
    clear hk2e
    go_wp2_with fail
    refine HS0.out.mono ?_
    rintro e w1 ⟨rfl, hb0⟩
    have HU1 : Hid (Calls Tryd.prog 44 #[.string k2, .int .u8 54] w1 fun e w' => ∃ g, e = .returned (.pointer (some ⟨g, 0, none⟩)) ∧ HashJ g Ki w' ∧ w1.heap.size ≤ g ∧ Below w1.heap.size w1 w') := HKi.out ▸ HRest.out w1 k2 hb0 hk2 hnk2.out 54 (by decide)
    go_wp2_with fail
    refine HU1.out.mono ?_
    rintro e w2 ⟨g1, rfl, hJ1, hg1, hb2⟩
    have hs0 := hb0.size
    have hB2 : Below w.heap.size w w2 := hb0.trans (hb2.mono hs0)
    have hwg1 : w.heap.size ≤ g1 := Nat.le_trans hs0 hg1
    have HW1 : Hid (Calls Tryd.prog 36 #[.pointer (some ⟨g1, 0, none⟩), .string b] w2 fun e w' => e = .returned (.tuple #[]) ∧ HashJ g1 (Ki ++ nb b) w' ∧ Turn (fun i => i = g1) w2 w') := write_j g1 Ki b w2 (HC.out.below hB2) hJ1 (by omega)
    go_wp2_with fail
    refine HW1.out.mono ?_
    rintro e w3 ⟨rfl, hJ3, hT3⟩
    have hB3 : Below w.heap.size w w3 := hB2.trans ((hT3.mono (S' := fun i => w.heap.size ≤ i) (fun i hi => by rw [hi]; exact hwg1)).toBelow hB2.size)
    have hs3 := hB3.size
    have hl3 := hJ3.lt
    have HU2 : Hid (Calls Tryd.prog 44 #[.string k2, .int .u8 92] w3 fun e w' => ∃ g, e = .returned (.pointer (some ⟨g, 0, none⟩)) ∧ HashJ g Ko w' ∧ w3.heap.size ≤ g ∧ Below w3.heap.size w3 w') := HKo.out ▸ HRest.out w3 k2 hB3 hk2 hnk2.out 92 (by decide)
    go_wp2_with fail
    refine HU2.out.mono ?_
    rintro e w4 ⟨g2, rfl, hJo, hg2, hb4⟩
    have hB4 : Below w.heap.size w w4 := hB3.trans (hb4.mono hs3)
    have hs4 := hB4.size
    have hne : ¬ g2 = g1 := by omega
    have hwg2 : w.heap.size ≤ g2 := by omega
    have HS1 : Hid (Calls Tryd.prog 37 #[.pointer (some ⟨g1, 0, none⟩)] w4 fun e w' => e = .returned (.string (ofN (dig (Ki ++ nb b)))) ∧ HashJ g1 (Ki ++ nb b) w' ∧ Turn (fun i => i = g1) w4 w') := hsum_j g1 (Ki ++ nb b) w4 (HC.out.below hB4) (hJ3.below hb4) (by rw [List.length_append, nb_length]; omega)
    go_wp2_with fail
    refine HS1.out.mono ?_
    rintro e w5 ⟨rfl, hJ5, hT5⟩
    have hJ5o := hJo.turn hT5 hne
    have hB5 : Below w.heap.size w w5 := hB4.trans ((hT5.mono (S' := fun i => w.heap.size ≤ i) (fun i hi => by rw [hi]; exact hwg1)).toBelow hs4)
    have hs5 := hB5.size
    obtain ⟨D, hD⟩ : ∃ D, dig (Ki ++ nb b) = D := ⟨_, rfl⟩
    have hDb : Bytes D := by rw [← hD]; exact dig_bytes _
    have hDl : D.length = 32 := by rw [← hD]; exact dig_length _
    have HWo : Hid (Calls Tryd.prog 36 #[.pointer (some ⟨g2, 0, none⟩), .string (ofN (dig (Ki ++ nb b)))] w5 fun e w' => e = .returned (.tuple #[]) ∧ HashJ g2 (Ko ++ D) w' ∧ Turn (fun i => i = g2) w5 w') := by
      rw [hD]
      have h := write_j g2 Ko (ofN D) w5 (HC.out.below hB5) hJ5o (by rw [ofN_size]; omega)
      rw [nb_ofN hDb] at h
      exact h
    have HRes2 : Hid (dig (Ko ++ D) = mac (nb k) (nb b)) := by show _ = _; rw [← hD]; exact HRes.out
    clear hD hDb
    go_wp2_with fail
    refine HWo.out.mono ?_
    rintro e w6 ⟨rfl, hJ6, hT6⟩
    have hB6 : Below w.heap.size w w6 := hB5.trans ((hT6.mono (S' := fun i => w.heap.size ≤ i) (fun i hi => by rw [hi]; exact hwg2)).toBelow hs5)
    have hs6 := hB6.size
    have HS2 : Hid (Calls Tryd.prog 37 #[.pointer (some ⟨g2, 0, none⟩)] w6 fun e w' => e = .returned (.string (ofN (dig (Ko ++ D)))) ∧ HashJ g2 (Ko ++ D) w' ∧ Turn (fun i => i = g2) w6 w') := hsum_j g2 (Ko ++ D) w6 (HC.out.below hB6) hJ6 (by rw [List.length_append]; omega)
    go_wp2_with fail
    refine HS2.out.mono ?_
    rintro e w7 ⟨rfl, hJ7, hT7⟩
    have hB7 : Below w.heap.size w w7 := hB6.trans ((hT7.mono (S' := fun i => w.heap.size ≤ i) (fun i hi => by rw [hi]; exact hwg2)).toBelow hs6)
    go_wp2_with fail
    go_ret
    exact ⟨by rw [HRes2.out]; rfl, hB7⟩
  · have hgtI : ¬ (64 : Int) < (k.size : Int) := by omega
    have hk2 : k.size ≤ 64 := by omega
    have hnk2 : Hid (nb k = key0 (nb k)) := by show _ = _; unfold key0; rw [nb_length, if_neg hgt]
    have hb0 : Below w.heap.size w w := Below.refl _ _
    have HU1 : Hid (Calls Tryd.prog 44 #[.string k, .int .u8 54] w fun e w' => ∃ g, e = .returned (.pointer (some ⟨g, 0, none⟩)) ∧ HashJ g Ki w' ∧ w.heap.size ≤ g ∧ Below w.heap.size w w') := HKi.out ▸ HRest.out w k hb0 hk2 hnk2.out 54 (by decide)
    go_wp2_with fail
    refine HU1.out.mono ?_
    rintro e w2 ⟨g1, rfl, hJ1, hg1, hb2⟩
    have hs0 := hb0.size
    have hB2 : Below w.heap.size w w2 := hb0.trans (hb2.mono hs0)
    have hwg1 : w.heap.size ≤ g1 := Nat.le_trans hs0 hg1
    have HW1 : Hid (Calls Tryd.prog 36 #[.pointer (some ⟨g1, 0, none⟩), .string b] w2 fun e w' => e = .returned (.tuple #[]) ∧ HashJ g1 (Ki ++ nb b) w' ∧ Turn (fun i => i = g1) w2 w') := write_j g1 Ki b w2 (HC.out.below hB2) hJ1 (by omega)
    go_wp2_with fail
    refine HW1.out.mono ?_
    rintro e w3 ⟨rfl, hJ3, hT3⟩
    have hB3 : Below w.heap.size w w3 := hB2.trans ((hT3.mono (S' := fun i => w.heap.size ≤ i) (fun i hi => by rw [hi]; exact hwg1)).toBelow hB2.size)
    have hs3 := hB3.size
    have hl3 := hJ3.lt
    have HU2 : Hid (Calls Tryd.prog 44 #[.string k, .int .u8 92] w3 fun e w' => ∃ g, e = .returned (.pointer (some ⟨g, 0, none⟩)) ∧ HashJ g Ko w' ∧ w3.heap.size ≤ g ∧ Below w3.heap.size w3 w') := HKo.out ▸ HRest.out w3 k hB3 hk2 hnk2.out 92 (by decide)
    go_wp2_with fail
    refine HU2.out.mono ?_
    rintro e w4 ⟨g2, rfl, hJo, hg2, hb4⟩
    have hB4 : Below w.heap.size w w4 := hB3.trans (hb4.mono hs3)
    have hs4 := hB4.size
    have hne : ¬ g2 = g1 := by omega
    have hwg2 : w.heap.size ≤ g2 := by omega
    have HS1 : Hid (Calls Tryd.prog 37 #[.pointer (some ⟨g1, 0, none⟩)] w4 fun e w' => e = .returned (.string (ofN (dig (Ki ++ nb b)))) ∧ HashJ g1 (Ki ++ nb b) w' ∧ Turn (fun i => i = g1) w4 w') := hsum_j g1 (Ki ++ nb b) w4 (HC.out.below hB4) (hJ3.below hb4) (by rw [List.length_append, nb_length]; omega)
    go_wp2_with fail
    refine HS1.out.mono ?_
    rintro e w5 ⟨rfl, hJ5, hT5⟩
    have hJ5o := hJo.turn hT5 hne
    have hB5 : Below w.heap.size w w5 := hB4.trans ((hT5.mono (S' := fun i => w.heap.size ≤ i) (fun i hi => by rw [hi]; exact hwg1)).toBelow hs4)
    have hs5 := hB5.size
    obtain ⟨D, hD⟩ : ∃ D, dig (Ki ++ nb b) = D := ⟨_, rfl⟩
    have hDb : Bytes D := by rw [← hD]; exact dig_bytes _
    have hDl : D.length = 32 := by rw [← hD]; exact dig_length _
    have HWo : Hid (Calls Tryd.prog 36 #[.pointer (some ⟨g2, 0, none⟩), .string (ofN (dig (Ki ++ nb b)))] w5 fun e w' => e = .returned (.tuple #[]) ∧ HashJ g2 (Ko ++ D) w' ∧ Turn (fun i => i = g2) w5 w') := by
      rw [hD]
      have h := write_j g2 Ko (ofN D) w5 (HC.out.below hB5) hJ5o (by rw [ofN_size]; omega)
      rw [nb_ofN hDb] at h
      exact h
    have HRes2 : Hid (dig (Ko ++ D) = mac (nb k) (nb b)) := by show _ = _; rw [← hD]; exact HRes.out
    clear hD hDb
    go_wp2_with fail
    refine HWo.out.mono ?_
    rintro e w6 ⟨rfl, hJ6, hT6⟩
    have hB6 : Below w.heap.size w w6 := hB5.trans ((hT6.mono (S' := fun i => w.heap.size ≤ i) (fun i hi => by rw [hi]; exact hwg2)).toBelow hs5)
    have hs6 := hB6.size
    have HS2 : Hid (Calls Tryd.prog 37 #[.pointer (some ⟨g2, 0, none⟩)] w6 fun e w' => e = .returned (.string (ofN (dig (Ko ++ D)))) ∧ HashJ g2 (Ko ++ D) w' ∧ Turn (fun i => i = g2) w6 w') := hsum_j g2 (Ko ++ D) w6 (HC.out.below hB6) hJ6 (by rw [List.length_append]; omega)
    go_wp2_with fail
    refine HS2.out.mono ?_
    rintro e w7 ⟨rfl, hJ7, hT7⟩
    have hB7 : Below w.heap.size w w7 := hB6.trans ((hT7.mono (S' := fun i => w.heap.size ≤ i) (fun i hi => by rw [hi]; exact hwg2)).toBelow hs6)
    go_wp2_with fail
    go_ret
    exact ⟨by rw [HRes2.out]; rfl, hB7⟩
end Go.Proofs.YtibglhlhogfdnaaDoor
