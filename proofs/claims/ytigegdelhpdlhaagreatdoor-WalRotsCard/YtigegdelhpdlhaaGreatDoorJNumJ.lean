import Derived.Test.YtigegdelhpdlhaaGreatDoorJByJ
import Derived.Deep.MidRow
/- Layer 18: wal.numberBytes. -/
namespace Go.Proofs.YtigegdelhpdlhaaGreatDoor
open Go.RowKit QP

/-- the block g holds the array X, whole -/
def ArrG (k : IntKind) (t : TypeId) (w : World) (g : Nat) (X : List Nat) : Prop := w.heap[g]? = some (.cells (flat (enK k) X).toArray t (0, 0))
section
variable {k : IntKind} {t : TypeId} {w w' : World} {g : Nat} {X : List Nat}
theorem ArrG.row (h : ArrG k t w g X) : RowK k t w g X := ⟨_, h, by rw [List.toList_toArray, List.take_of_length_le (by rw [flatK_len]; exact Nat.le_refl _)]⟩
theorem ArrG.lt (h : ArrG k t w g X) : g < w.heap.size := lt_of h
theorem ArrG.same (h : ArrG k t w g X) (hb : w'.heap[g]? = w.heap[g]?) : ArrG k t w' g X := hb.trans h
theorem ArrG.below (h : ArrG k t w g X) (hb : Below w.heap.size w w') : ArrG k t w' g X := h.same (hb.block g h.lt)
theorem ArrG.set (h : ArrG k t w g X) {i : Nat} (hi : i < X.length) (y : Nat) : ArrG k t (w.setCell ⟨g, i, none⟩ (.int k (y : Int))) g (X.set i y) := by
  have h1 := heap_setCell_same h i (.int k (y : Int))
  have h3 := flat_set (en := enK k) (m := 1) (fun _ => rfl) X i hi 0 (.int k (y : Int)) y (by omega) rfl
  rw [Nat.one_mul, Nat.add_zero] at h3
  unfold ArrG
  rw [h1, ← h3, List.setIfInBounds_toArray]
theorem ArrG.new (w : World) (k : IntKind) (t : TypeId) (X : List Nat) : ArrG k t (w.alloc (.cells (flat (enK k) X).toArray t)) w.heap.size X := heap_new w _
end
theorem flatK_one (k : IntKind) : ∀ (Z : List Nat) (u : Value), u ∈ flat (enK k) Z → u.oneCell' = true
  | [], u, hu => by cases hu
  | z :: Z, u, hu => by
    rw [flat_cons] at hu
    rcases List.mem_append.1 hu with hu | hu
    · rw [List.mem_singleton.1 hu]; rfl
    · exact flatK_one k Z u hu
theorem str_arr {w : World} {x n c : Nat} {e : TypeId} {X : List Nat} (h : RowK .u8 e w x X) (hX : Bytes X) (hn : X.length = n) : (convert 54 9 (.slice (some ⟨x, 0, none⟩) n c)).run Tryz.prog w = .ok (.string (ofN X)) w := by
  subst hn
  have h2 := run_convert_bytes_back (P := Tryz.prog) w 54 9 5 ⟨x, 0, none⟩ c (X.map UInt8.ofNat) Tryz.underlying54 Tryz.underlying5 Tryz.underlying9 fun j hj => by
    have hj' : j < X.length := by simpa using hj
    have h4 := h.cell (List.getElem?_eq_getElem hj')
    rw [Addr.add_lit, Nat.zero_add, h4]
    have h5 := hX X[j] (List.getElem_mem hj')
    simp
    omega
  rw [List.length_map] at h2
  exact h2
theorem fits_set {R : List Nat} {h : Nat} (v : Nat) (hl : R.length < h) : (R ++ List.replicate (h - R.length) 0).set R.length v = (R ++ [v]) ++ List.replicate (h - (R.length + 1)) 0 := by
  have e : h - R.length = (h - (R.length + 1)) + 1 := by omega
  rw [List.set_append_right _ _ (Nat.le_refl _), Nat.sub_self, e, List.replicate_succ, List.set_cons_zero, List.append_assoc]
  rfl
theorem pow256 (j : Nat) : 256 ^ j = 2 ^ (8 * j) := by rw [Nat.pow_mul]
theorem jwrapI {x : Int} (h1 : -9223372036854775808 ≤ x) (h2 : x ≤ 9223372036854775807) : IntKind.i64.wrap x = x := by
  simp [IntKind.wrap, IntKind.bits, IntKind.signed]
  omega

set_option maxRecDepth 100000 in
set_option maxHeartbeats 1000000 in
theorem numB_any (n : Nat) (w : World) : Calls Tryz.prog 95 #[.int .u64 (n : Int)] w fun e w' => e = .returned (.string (ofN (lo n 8))) ∧ Below w.heap.size w w' := by
  obtain ⟨q, hq⟩ : ∃ q, w.heap.size = q := ⟨_, rfl⟩
  have HA0 : Hid (ArrG .u8 168 (w.alloc (.cells #[.int .u8 0, .int .u8 0, .int .u8 0, .int .u8 0, .int .u8 0, .int .u8 0, .int .u8 0, .int .u8 0] 168)) q (lo n 0 ++ List.replicate (8 - 0) 0)) := by
    show ArrG _ _ _ _ _
    rw [← hq]
    exact heap_new w _
  have HB0 : Hid (Below q w (w.alloc (.cells #[.int .u8 0, .int .u8 0, .int .u8 0, .int .u8 0, .int .u8 0, .int .u8 0, .int .u8 0, .int .u8 0] 168))) := by
    have h := (Below.refl w.heap.size w).alloc (Nat.le_refl _) (.cells #[.int .u8 0, .int .u8 0, .int .u8 0, .int .u8 0, .int .u8 0, .int .u8 0, .int .u8 0, .int .u8 0] 168)
    show Below _ _ _
    rw [hq] at h
    exact h
  have Hq : Hid (w.heap.size = q) := hq
  go_enter Tryz.func95, Tryz.ntmps95
  go_wp2_with fail
  clear hq
  go_loopw [5] (fun iv wx => ∃ j : Nat, j ≤ 8 ∧ iv = .int .i64 j ∧ Hid (ArrG .u8 168 wx q (lo n j ++ List.replicate (8 - j) 0)) ∧ Hid (Below q w wx)) (fun iv _ => 8 - (intOf iv).toNat)
  case atStart => exact ⟨0, by omega, rfl, HA0, HB0⟩
  case round =>
    clear HA0 HB0
    obtain ⟨j, hj, rfl, HA, HB⟩ := hrel
    by_cases hlt : j < 8
    · have hjI : (j : Int) < 8 := by omega
      have hj0 : (0 : Int) ≤ (j : Int) := by omega
      obtain ⟨a, ea⟩ : ∃ a, 8 * j = a := ⟨_, rfl⟩
      have aI : 8 * (j : Int) = (a : Int) := by omega
      have wa : IntKind.i64.wrap (a : Int) = (a : Int) := jwrapI (by omega) (by omega)
      have a0 : (0 : Int) ≤ (a : Int) := by omega
      obtain ⟨t, ht⟩ : ∃ t, 2 ^ a = t := ⟨_, rfl⟩
      have htI : (2 : Int) ^ a = (t : Int) := by rw [← ht]; simp
      obtain ⟨x, hx⟩ : ∃ x, n / t = x := ⟨_, rfl⟩
      have hxI : (n : Int) / (t : Int) = (x : Int) := by rw [← hx]; simp
      obtain ⟨y, hy⟩ : ∃ y, x % 256 = y := ⟨_, rfl⟩
      have hyI : (x : Int) % 256 = (y : Int) := by omega
      have hll := lo_length n j
      have hlo : lo n (j + 1) = lo n j ++ [y] := by
        show lo n j ++ [n / 256 ^ j % 256] = _
        rw [pow256, ea, ht, hx, hy]
      have hset := fits_set (R := lo n j) (h := 8) y (by omega)
      rw [hll] at hset
      have hz0 : j < (lo n j ++ List.replicate (8 - j) 0).length := by rw [List.length_append, List.length_replicate, hll]; omega
      have HN : Hid (ArrG .u8 168 (wr.setCell ⟨q, j, none⟩ (.int .u8 (y : Int))) q (lo n (j + 1) ++ List.replicate (8 - (j + 1)) 0)) := by
        have h1 := HA.out.set hz0 y
        rw [hset] at h1
        show ArrG _ _ _ _ _
        rw [hlo]
        exact h1
      have HB2 : Hid (Below q w (wr.setCell ⟨q, j, none⟩ (.int .u8 (y : Int)))) := HB.out.setCell (p := ⟨q, j, none⟩) (Nat.le_refl _) _
      have hfz := HA.out.row.frozen j
      have hce := HA.out.row.cell (List.getElem?_eq_getElem hz0)
      obtain ⟨z, hzz⟩ : ∃ z, (lo n j ++ List.replicate (8 - j) 0)[j] = z := ⟨_, rfl⟩
      rw [hzz] at hce
      clear hll hlo hset hz0 hzz hy hx ht ea HA HB
      go_wp2_with fail
      go_roundw
      case rel => exact ⟨j + 1, by omega, by go_num, HN, HB2⟩
      case measure => simp [intOf]; omega
    · obtain rfl : j = 8 := by omega
      have hjI : ¬ ((8 : Nat) : Int) < 8 := by omega
      have hA := HA.out
      rw [Nat.sub_self, List.replicate_zero, List.append_nil] at hA
      have hst := str_arr (c := 8) hA.row (lo_bytes n 8) (lo_length n 8)
      have HBe : Hid (Below w.heap.size w wr) := by show Below _ _ _; rw [Hq.out]; exact HB.out
      clear hA HA HB
      go_wp2_with fail
      go_ret
      exact ⟨rfl, HBe.out⟩
end Go.Proofs.YtigegdelhpdlhaaGreatDoor

/- Layer 18: numbers read back from their bytes. Nothing here speaks of a program. -/
namespace Go.Proofs.YtigegdelhpdlhaaGreatDoor
open Go.RowKit QP

theorem lo_get (n : Nat) : ∀ k j, j < k → (lo n k)[j]? = some (n / 256 ^ j % 256)
  | 0, _, h => absurd h (Nat.not_lt_zero _)
  | k + 1, j, h => by
    show (lo n k ++ [n / 256 ^ k % 256])[j]? = _
    by_cases e : j < k
    · rw [List.getElem?_append_left (by rw [lo_length]; exact e), lo_get n k j e]
    · obtain rfl : j = k := by omega
      rw [List.getElem?_append_right (by rw [lo_length]; exact Nat.le_refl _), lo_length, Nat.sub_self]
      rfl
theorem or_addJ {a b k : Nat} (h : a < 2 ^ k) : a ||| b * 2 ^ k = a + b * 2 ^ k := by
  rw [Nat.or_comm, Nat.add_comm, ← Nat.shiftLeft_eq, Nat.shiftLeft_add_eq_or_of_lt h]
theorem lo_step (n j : Nat) : n % 256 ^ j ||| (n / 256 ^ j % 256) * 2 ^ (8 * j) = n % 256 ^ (j + 1) := by
  have h : n % 256 ^ j < 2 ^ (8 * j) := by rw [← pow256]; exact Nat.mod_lt _ (Nat.pow_pos (by decide))
  rw [or_addJ h, ← pow256, Nat.mod_pow_succ, Nat.mul_comm]
/-- one more byte of a number of 64 bits -/
theorem lo_or (n j : Nat) (hj : j < 8) : bits .or .u64 ((n % 256 ^ j : Nat) : Int) (((n / 256 ^ j % 256) * 2 ^ (8 * j) : Nat) : Int) = ((n % 256 ^ (j + 1) : Nat) : Int) := by
  have h1 : n % 256 ^ j < 256 ^ j := Nat.mod_lt _ (Nat.pow_pos (by decide))
  have h2 : 256 ^ j ≤ 256 ^ 7 := Nat.pow_le_pow_right (by decide) (by omega)
  have h3 : n / 256 ^ j % 256 < 256 := Nat.mod_lt _ (by decide)
  have h4 : (n / 256 ^ j % 256) * 2 ^ (8 * j) ≤ 255 * 256 ^ 7 := by
    rw [← pow256]
    exact Nat.mul_le_mul (by omega) h2
  have e7 : 256 ^ 7 = 72057594037927936 := by decide
  rw [e7] at h2 h4
  rw [u64_or_nat _ _ (by omega) (by omega), lo_step]
theorem ofN_left (A B : List Nat) : (ofN (A ++ B)).extract 0 A.length = ofN A := by
  apply ByteArray.ext
  simp [ofN]
theorem ofN_right (A B : List Nat) : (ofN (A ++ B)).extract A.length (ofN (A ++ B)).size = ofN B := by
  rw [ofN_size]
  apply ByteArray.ext
  simp [ofN]
  rw [List.take_of_length_le (by simp)]
end Go.Proofs.YtigegdelhpdlhaaGreatDoor
