import Derived.Test.YtigegdelhpdlhaaGreatDoorBase
import Derived.Test.YtigegdelhpdlhaaGreatDoorCopyJ
import Derived.Lib.ConvBytes
import Derived.Lib.BufferRead
import Derived.Deep.MidRow
/- Bytes as numbers (QSum's head by itself). Nothing here speaks of a program. -/
namespace Go.Proofs.YtigegdelhpdlhaaGreatDoor
namespace QP

/-! ### bytes as numbers -/
def nb (s : ByteArray) : List Nat := s.data.toList.map UInt8.toNat
def ofN (L : List Nat) : ByteArray := ⟨(L.map UInt8.ofNat).toArray⟩
def Bytes (L : List Nat) : Prop := ∀ x ∈ L, x < 256
theorem nb_length (s : ByteArray) : (nb s).length = s.size := by unfold nb; rw [List.length_map]; rfl
theorem nb_bytes (s : ByteArray) : Bytes (nb s) := fun x hx => by
  obtain ⟨b, _, rfl⟩ := List.mem_map.1 hx
  exact UInt8.toNat_lt b
theorem ofN_nb (s : ByteArray) : ofN (nb s) = s := by
  unfold ofN nb
  rw [List.map_map]
  have e : (UInt8.ofNat ∘ UInt8.toNat) = id := by funext b; simp
  rw [e, List.map_id]
theorem nb_ofN {L : List Nat} (h : Bytes L) : nb (ofN L) = L := by
  unfold ofN nb
  rw [List.toList_toArray, List.map_map]
  conv => rhs; rw [← List.map_id L]
  refine List.map_congr_left fun x hx => ?_
  have := h x hx
  simp
  omega
theorem nb_append (a b : ByteArray) : nb (a ++ b) = nb a ++ nb b := by simp [nb]
theorem ofN_append (a b : List Nat) : ofN a ++ ofN b = ofN (a ++ b) := by
  apply ByteArray.ext
  simp [ofN]
theorem ofN_size (L : List Nat) : (ofN L).size = L.length := by
  show (L.map UInt8.ofNat).toArray.size = _
  simp
theorem nb_inj {a b : ByteArray} (h : nb a = nb b) : a = b := by rw [← ofN_nb a, h, ofN_nb]
theorem Bytes.append {a b : List Nat} (ha : Bytes a) (hb : Bytes b) : Bytes (a ++ b) := fun x hx => by
  rcases List.mem_append.1 hx with h | h
  · exact ha x h
  · exact hb x h
theorem Bytes.one {x : Nat} (h : x < 256) : Bytes [x] := fun y hy => by rw [List.mem_singleton.1 hy]; exact h
end QP
end Go.Proofs.YtigegdelhpdlhaaGreatDoor

/- Layer 18: value.Encode of a row of one whole number. -/
namespace Go.Proofs.YtigegdelhpdlhaaGreatDoor
open Go.RowKit QP

theorem str_own {w : World} {base n c : Nat} {A : Option Addr} {L : List Nat} (h : w.ownsRow base 5 1 (.slice A n c) n (flat (enK .u8) L)) (hL : Bytes L) (hn : L.length = n) : (convert 54 9 (.slice A n c)).run Tryz.prog w = .ok (.string (ofN L)) w := by
  rcases h.2 with ⟨h1, hl⟩ | ⟨g, cap, cur, h1, -, -, -, -, -, -⟩
  · cases h1
    have e : L = [] := List.eq_nil_of_length_eq_zero hn
    subst e
    exact Lib.run_convert_nil_bytes w 54 9 5 0 Tryz.underlying54 Tryz.underlying5 Tryz.underlying9
  · cases h1
    subst hn
    have h2 := run_convert_bytes_back (P := Tryz.prog) w 54 9 5 ⟨g, 0, none⟩ c (L.map UInt8.ofNat) Tryz.underlying54 Tryz.underlying5 Tryz.underlying9 fun j hj => by
      have hj' : j < L.length := by simpa using hj
      have h3 := flat_get (en := enK .u8) (m := 1) (fun _ => rfl) L j hj' 0 (by omega)
      rw [Nat.one_mul, Nat.add_zero] at h3
      have h4 := World.ownsRow.cells h (g := g) rfl j (.int .u8 (L[j] : Int)) (by rw [h3]; rfl)
      rw [h4]
      have h5 := hL L[j] (List.getElem_mem hj')
      simp
      omega
    rw [List.length_map] at h2
    exact h2

theorem lo_bytes (n : Nat) : ∀ k, Bytes (lo n k)
  | 0 => fun x hx => by cases hx
  | k + 1 => (lo_bytes n k).append (Bytes.one (Nat.mod_lt _ (by decide)))
/-- the bytes of a row of one whole number -/
def rowB (n : Nat) : List Nat := [1] ++ [2] ++ lo n 8
theorem rowB_bytes (n : Nat) : Bytes (rowB n) := ((Bytes.one (by decide)).append (Bytes.one (by decide))).append (lo_bytes n 8)
theorem rowB_length (n : Nat) : (rowB n).length = 10 := by unfold rowB; rw [List.length_append, lo_length]; rfl

set_option maxRecDepth 100000 in
set_option maxHeartbeats 1000000 in
theorem vencode_one (b n : Nat) (w : World) (hv : OneAt w b 2 (n : Int) ByteArray.empty) (hn : n < 9223372036854775808) :
    Calls Tryz.prog 112 #[.slice (some ⟨b, 0, none⟩) 1 1] w fun e w' => e = .returned (.tuple #[.string (ofN (rowB n)), .int .i64 0]) ∧ Below w.heap.size w w' := by
  have HCk : Hid (Calls Tryz.prog 108 #[.slice (some ⟨b, 0, none⟩) 1 1] w fun e w' => e = .returned (.tuple #[.int .i64 0, .int .i64 0]) ∧ Below w.heap.size w w') := check_one b 2 (n : Int) ByteArray.empty w hv (fun u => mayBe_int (n : Int) u)
  have HV : Hid (OneAt w b 2 (n : Int) ByteArray.empty) := hv
  have HAp : Hid (∀ (base : Nat) (A : Option Addr) (c : Nat) (u : World), u.ownsRow base 5 1 (.slice A 1 c) 1 (flat (enK .u8) [1]) → base ≤ u.heap.size → Calls Tryz.prog 131 #[.slice A 1 c, .agg #[.int .i64 2, .int .i64 (n : Int), .complex .f64 0 0, .string ByteArray.empty]] u fun e w' => ∃ A' c', e = .returned (.slice A' 10 c') ∧ Hid (w'.ownsRow base 5 1 (.slice A' 10 c') 10 (flat (enK .u8) (rowB n))) ∧ Below base u w') := fun base A c u h1 h2 => vappVal_any base A 1 c [1] n u h1 (by omega) hn h2
  have hsl := @store_law
  clear hv
  go_enter Tryz.func112, Tryz.ntmps112
  go_wp2_with fail
  refine HCk.out.mono ?_
  rintro e w1 ⟨rfl, hb1⟩
  have hs1 := hb1.size
  have HV1 := HV.out.below hb1
  obtain ⟨hb0, v0, v1, v2, v3⟩ := HV1
  have HVx : Hid (OneAt w1 b 2 (n : Int) ByteArray.empty) := ⟨hb0, v0, v1, v2, v3⟩
  have HO1 : Hid (World.ownsRow (w1.alloc (.cells #[.int .u8 1] 5)) w1.heap.size 5 1 (.slice (some ⟨w1.heap.size, 0, none⟩) 1 1) 1 (flat (enK .u8) [1])) :=
    ⟨rfl, Or.inr ⟨w1.heap.size, 1, #[.int .u8 1], rfl, Nat.le_refl _, heap_new w1 _, Nat.le_refl _, by unfold maxLen; omega, rfl, rfl⟩⟩
  have HB1 : Hid (Below w1.heap.size w1 (w1.alloc (.cells #[.int .u8 1] 5))) := (Below.refl _ _).alloc (Nat.le_refl _) _
  have HBw : Hid (Below w.heap.size w w1) := hb1
  clear hb0 v0 v1 v2 v3 hb1 HV HCk
  go_wp2_with fail
  go_loopw [6, 23] (fun ov iv wx => ∃ (j l c : Nat) (A : Option Addr) (X : List Nat), iv = .int .i64 j ∧ ov = .slice A l c ∧ ((j = 0 ∧ l = 1 ∧ Hid (X = [1])) ∨ (j = 1 ∧ l = 10 ∧ Hid (X = rowB n))) ∧ Hid (wx.ownsRow w1.heap.size 5 1 (.slice A l c) l (flat (enK .u8) X)) ∧ Hid (Below w1.heap.size w1 wx)) (fun _ iv _ => 1 - (intOf iv).toNat)
  case atStart => exact ⟨0, 1, 1, some ⟨w1.heap.size, 0, none⟩, [1], rfl, rfl, Or.inl ⟨rfl, rfl, (rfl : _ = _)⟩, HO1, HB1⟩
  case round =>
    clear HO1 HB1
    obtain ⟨j, l, c, A, X, rfl, rfl, hj, HO, HB⟩ := hrel
    rcases hj with ⟨rfl, rfl, HX⟩ | ⟨rfl, rfl, HX⟩
    · have hO := HO.out
      rw [HX.out] at hO
      obtain ⟨hb0, v0, v1, v2, v3⟩ := HVx.out.below HB.out
      have hs2 := HB.out.size
      have HO2 : Hid (∀ o, (wr.alloc o).ownsRow w1.heap.size 5 1 (.slice A 1 c) 1 (flat (enK .u8) [1])) := fun o => hO.alloc o
      have HB2 : Hid (∀ o, Below w1.heap.size w1 (wr.alloc o)) := fun o => HB.out.alloc hs2 o
      rw [show ((0 : Nat) : Int) = 0 from rfl]
      clear hO HO HX
      go_wp2_with (go_at_call 131; go_must (refine (HAp.out w1.heap.size _ _ _ (HO2.out _) (by simp; omega)).mono ?_; rintro e w4 ⟨A4, c4, rfl, HO4, hb4⟩))
      have HB4 : Hid (Below w1.heap.size w1 w4) := (HB2.out _).trans hb4
      exact ⟨⟨1, 10, c4, A4, rowB n, rfl, rfl, Or.inr ⟨rfl, rfl, (rfl : _ = _)⟩, HO4, HB4⟩, by decide⟩
    · have hst := str_own (L := rowB n) (by have h := HO.out; rw [HX.out] at h; exact h) (rowB_bytes n) (rowB_length n)
      rw [show ((1 : Nat) : Int) = 1 from rfl]
      have HBe : Hid (Below w.heap.size w wr) := HBw.out.trans (HB.out.mono HBw.out.size)
      clear HO HX HB
      go_wp2_with fail
      go_ret2
      exact ⟨rfl, HBe.out⟩
end Go.Proofs.YtigegdelhpdlhaaGreatDoor

/- Layer 18: wal.numberBytes. -/
namespace Go.Proofs.YtigegdelhpdlhaaGreatDoor
open Go.RowKit QP

/-- the block g holds the array X, whole -/
def ArrG (k : IntKind) (t : TypeId) (w : World) (g : Nat) (X : List Nat) : Prop := w.heap[g]? = some (.cells (flat (enK k) X).toArray t (0, 0))
section
variable {k : IntKind} {t : TypeId} {w w' : World} {g : Nat} {X : List Nat}
theorem ArrG.row (h : ArrG k t w g X) : RowK k t w g X := ⟨_, h, by rw [List.toList_toArray, List.take_of_length_le (by rw [flatK_len]; exact Nat.le_refl _)]⟩
theorem ArrG.lt (h : ArrG k t w g X) : g < w.heap.size := lt_of h
theorem ArrG.same (h : ArrG k t w g X) (hb : w'.heap[g]? = w.heap[g]?) : ArrG k t w' g X := hb.trans h
theorem ArrG.below (h : ArrG k t w g X) (hb : Below w.heap.size w w') : ArrG k t w' g X := h.same (hb.block g h.lt)
theorem ArrG.set (h : ArrG k t w g X) {i : Nat} (hi : i < X.length) (y : Nat) : ArrG k t (w.setCell ⟨g, i, none⟩ (.int k (y : Int))) g (X.set i y) := by
  have h1 := heap_setCell_same h i (.int k (y : Int))
  have h3 := flat_set (en := enK k) (m := 1) (fun _ => rfl) X i hi 0 (.int k (y : Int)) y (by omega) rfl
  rw [Nat.one_mul, Nat.add_zero] at h3
  unfold ArrG
  rw [h1, ← h3, List.setIfInBounds_toArray]
theorem ArrG.new (w : World) (k : IntKind) (t : TypeId) (X : List Nat) : ArrG k t (w.alloc (.cells (flat (enK k) X).toArray t)) w.heap.size X := heap_new w _
end
theorem flatK_one (k : IntKind) : ∀ (Z : List Nat) (u : Value), u ∈ flat (enK k) Z → u.oneCell' = true
  | [], u, hu => by cases hu
  | z :: Z, u, hu => by
    rw [flat_cons] at hu
    rcases List.mem_append.1 hu with hu | hu
    · rw [List.mem_singleton.1 hu]; rfl
    · exact flatK_one k Z u hu
theorem str_arr {w : World} {x n c : Nat} {e : TypeId} {X : List Nat} (h : RowK .u8 e w x X) (hX : Bytes X) (hn : X.length = n) : (convert 54 9 (.slice (some ⟨x, 0, none⟩) n c)).run Tryz.prog w = .ok (.string (ofN X)) w := by
  subst hn
  have h2 := run_convert_bytes_back (P := Tryz.prog) w 54 9 5 ⟨x, 0, none⟩ c (X.map UInt8.ofNat) Tryz.underlying54 Tryz.underlying5 Tryz.underlying9 fun j hj => by
    have hj' : j < X.length := by simpa using hj
    have h4 := h.cell (List.getElem?_eq_getElem hj')
    rw [Addr.add_lit, Nat.zero_add, h4]
    have h5 := hX X[j] (List.getElem_mem hj')
    simp
    omega
  rw [List.length_map] at h2
  exact h2
theorem fits_set {R : List Nat} {h : Nat} (v : Nat) (hl : R.length < h) : (R ++ List.replicate (h - R.length) 0).set R.length v = (R ++ [v]) ++ List.replicate (h - (R.length + 1)) 0 := by
  have e : h - R.length = (h - (R.length + 1)) + 1 := by omega
  rw [List.set_append_right _ _ (Nat.le_refl _), Nat.sub_self, e, List.replicate_succ, List.set_cons_zero, List.append_assoc]
  rfl
theorem pow256 (j : Nat) : 256 ^ j = 2 ^ (8 * j) := by rw [Nat.pow_mul]
theorem jwrapI {x : Int} (h1 : -9223372036854775808 ≤ x) (h2 : x ≤ 9223372036854775807) : IntKind.i64.wrap x = x := by
  simp [IntKind.wrap, IntKind.bits, IntKind.signed]
  omega

set_option maxRecDepth 100000 in
set_option maxHeartbeats 1000000 in
theorem numB_any (n : Nat) (w : World) : Calls Tryz.prog 95 #[.int .u64 (n : Int)] w fun e w' => e = .returned (.string (ofN (lo n 8))) ∧ Below w.heap.size w w' := by
  obtain ⟨q, hq⟩ : ∃ q, w.heap.size = q := ⟨_, rfl⟩
  have HA0 : Hid (ArrG .u8 168 (w.alloc (.cells #[.int .u8 0, .int .u8 0, .int .u8 0, .int .u8 0, .int .u8 0, .int .u8 0, .int .u8 0, .int .u8 0] 168)) q (lo n 0 ++ List.replicate (8 - 0) 0)) := by
    show ArrG _ _ _ _ _
    rw [← hq]
    exact heap_new w _
  have HB0 : Hid (Below q w (w.alloc (.cells #[.int .u8 0, .int .u8 0, .int .u8 0, .int .u8 0, .int .u8 0, .int .u8 0, .int .u8 0, .int .u8 0] 168))) := by
    have h := (Below.refl w.heap.size w).alloc (Nat.le_refl _) (.cells #[.int .u8 0, .int .u8 0, .int .u8 0, .int .u8 0, .int .u8 0, .int .u8 0, .int .u8 0, .int .u8 0] 168)
    show Below _ _ _
    rw [hq] at h
    exact h
  have Hq : Hid (w.heap.size = q) := hq
  go_enter Tryz.func95, Tryz.ntmps95
  go_wp2_with fail
  clear hq
  go_loopw [5] (fun iv wx => ∃ j : Nat, j ≤ 8 ∧ iv = .int .i64 j ∧ Hid (ArrG .u8 168 wx q (lo n j ++ List.replicate (8 - j) 0)) ∧ Hid (Below q w wx)) (fun iv _ => 8 - (intOf iv).toNat)
  case atStart => exact ⟨0, by omega, rfl, HA0, HB0⟩
  case round =>
    clear HA0 HB0
    obtain ⟨j, hj, rfl, HA, HB⟩ := hrel
    by_cases hlt : j < 8
    · have hjI : (j : Int) < 8 := by omega
      have hj0 : (0 : Int) ≤ (j : Int) := by omega
      obtain ⟨a, ea⟩ : ∃ a, 8 * j = a := ⟨_, rfl⟩
      have aI : 8 * (j : Int) = (a : Int) := by omega
      have wa : IntKind.i64.wrap (a : Int) = (a : Int) := jwrapI (by omega) (by omega)
      have a0 : (0 : Int) ≤ (a : Int) := by omega
      obtain ⟨t, ht⟩ : ∃ t, 2 ^ a = t := ⟨_, rfl⟩
      have htI : (2 : Int) ^ a = (t : Int) := by rw [← ht]; simp
      obtain ⟨x, hx⟩ : ∃ x, n / t = x := ⟨_, rfl⟩
      have hxI : (n : Int) / (t : Int) = (x : Int) := by rw [← hx]; simp
      obtain ⟨y, hy⟩ : ∃ y, x % 256 = y := ⟨_, rfl⟩
      have hyI : (x : Int) % 256 = (y : Int) := by omega
      have hll := lo_length n j
      have hlo : lo n (j + 1) = lo n j ++ [y] := by
        show lo n j ++ [n / 256 ^ j % 256] = _
        rw [pow256, ea, ht, hx, hy]
      have hset := fits_set (R := lo n j) (h := 8) y (by omega)
      rw [hll] at hset
      have hz0 : j < (lo n j ++ List.replicate (8 - j) 0).length := by rw [List.length_append, List.length_replicate, hll]; omega
      have HN : Hid (ArrG .u8 168 (wr.setCell ⟨q, j, none⟩ (.int .u8 (y : Int))) q (lo n (j + 1) ++ List.replicate (8 - (j + 1)) 0)) := by
        have h1 := HA.out.set hz0 y
        rw [hset] at h1
        show ArrG _ _ _ _ _
        rw [hlo]
        exact h1
      have HB2 : Hid (Below q w (wr.setCell ⟨q, j, none⟩ (.int .u8 (y : Int)))) := HB.out.setCell (p := ⟨q, j, none⟩) (Nat.le_refl _) _
      have hfz := HA.out.row.frozen j
      have hce := HA.out.row.cell (List.getElem?_eq_getElem hz0)
      obtain ⟨z, hzz⟩ : ∃ z, (lo n j ++ List.replicate (8 - j) 0)[j] = z := ⟨_, rfl⟩
      rw [hzz] at hce
      clear hll hlo hset hz0 hzz hy hx ht ea HA HB
      go_wp2_with fail
      go_roundw
      case rel => exact ⟨j + 1, by omega, by go_num, HN, HB2⟩
      case measure => simp [intOf]; omega
    · obtain rfl : j = 8 := by omega
      have hjI : ¬ ((8 : Nat) : Int) < 8 := by omega
      have hA := HA.out
      rw [Nat.sub_self, List.replicate_zero, List.append_nil] at hA
      have hst := str_arr (c := 8) hA.row (lo_bytes n 8) (lo_length n 8)
      have HBe : Hid (Below w.heap.size w wr) := by show Below _ _ _; rw [Hq.out]; exact HB.out
      clear hA HA HB
      go_wp2_with fail
      go_ret
      exact ⟨rfl, HBe.out⟩
end Go.Proofs.YtigegdelhpdlhaaGreatDoor
