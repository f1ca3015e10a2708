/- The program's appendNumber and padding. -/
import Derived.Test.YtibglhlhogfdnaaDoorQHashP
import Derived.Test.YtibglhlhogfdnaaDoorQConv
import Derived.Test.YtibglhlhogfdnaaDoorQRefC
namespace Go.Proofs.YtibglhlhogfdnaaDoor
open Go.RowKit QP

set_option maxRecDepth 100000 in
set_option maxHeartbeats 1000000 in
theorem appNum_any (base : Nat) (A : Option Addr) (n c : Nat) (L : List Nat) (N M : Nat) (w : World) (hown : w.ownsRow base 5 1 (.slice A n c) n (flat (enK .u8) L)) (hn : n ≤ 1000) (hM : M ≤ 8) (hbase : base ≤ w.heap.size) :
    Calls Tryd.prog 52 #[.slice A n c, .int .u64 (N : Int), .int .i64 (M : Int)] w fun e w' => ∃ A' c', e = .returned (.slice A' (n + M) c') ∧ Hid (w'.ownsRow base 5 1 (.slice A' (n + M) c') (n + M) (flat (enK .u8) (L ++ ap N M M))) ∧ Below base w w' := by
  have HO : Hid (w.ownsRow base 5 1 (.slice A n c) n (flat (enK .u8) (L ++ ap N M 0))) := by
    show World.ownsRow _ _ _ _ _ _ _
    rw [show ap N M 0 = [] from rfl, List.append_nil]
    exact hown
  clear hown
  have wm : IntKind.i64.wrap ((M : Int) - 1) = (M : Int) - 1 := wrapI (by omega) (by omega)
  go_enter Tryd.func52, Tryd.ntmps52
  go_wp2_with fail
  go_loopw [0, 7] (fun ov iv wx => ∃ (j c : Nat) (A : Option Addr) (i : Int), j ≤ M ∧ iv = .int .i64 i ∧ i = (M : Int) - 1 - j ∧ ov = .slice A (n + j) c ∧ Hid (wx.ownsRow base 5 1 (.slice A (n + j) c) (n + j) (flat (enK .u8) (L ++ ap N M j))) ∧ Hid (Below base w wx)) (fun _ iv _ => (intOf iv + 1).toNat)
  case atStart => exact ⟨0, c, A, (M : Int) - 1, by omega, rfl, by omega, rfl, HO, Below.refl _ _⟩
  case round =>
    clear HO
    obtain ⟨j, c1, A1, i, hj, rfl, hi, rfl, HO, HB⟩ := hrel
    have hbx : base ≤ wr.heap.size := Nat.le_trans hbase HB.out.size
    by_cases hlt : j < M
    · obtain ⟨k, hk⟩ : ∃ k, M - 1 - j = k := ⟨_, rfl⟩
      have hik : i = (k : Int) := by omega
      subst hik
      obtain ⟨a, ea⟩ : ∃ a, 8 * k = a := ⟨_, rfl⟩
      have ha : a < 64 := by omega
      have aI : 8 * (k : Int) = (a : Int) := by omega
      have aI2 : (8 : Int) * (k : Int) = (a : Int) := aI
      have wa : IntKind.i64.wrap (a : Int) = (a : Int) := wrapI (by omega) (by omega)
      have a0 : (0 : Int) ≤ (a : Int) := by omega
      obtain ⟨t, ht⟩ : ∃ t, 2 ^ a = t := ⟨_, rfl⟩
      have htI : (2 : Int) ^ a = (t : Int) := by rw [← ht]; simp
      obtain ⟨x, hx⟩ : ∃ x, N / t = x := ⟨_, rfl⟩
      have hxI : (N : Int) / (t : Int) = (x : Int) := by rw [← hx]; simp
      obtain ⟨y, hy⟩ : ∃ y, x % 256 = y := ⟨_, rfl⟩
      have hyI : (x : Int) % 256 = (y : Int) := by omega
      have HA1 : Hid (L ++ ap N M (j + 1) = (L ++ ap N M j) ++ [y]) := by
        show _ = _
        rw [show ap N M (j + 1) = ap N M j ++ [N / 2 ^ (8 * (M - 1 - j)) % 256] from rfl, hk, ea, ht, hx, hy, List.append_assoc]
      obtain ⟨m, hm⟩ : ∃ m, n + j = m := ⟨_, rfl⟩
      rw [hm] at HO
      rw [hm]
      have HM : Hid (m + 1 = n + (j + 1)) := by show _ = _; omega
      have hm2 : m ≤ 2000 := by omega
      have wk : IntKind.i64.wrap ((k : Int) - 1) = (k : Int) - 1 := wrapI (by omega) (by omega)
      have hkj : (k : Int) - 1 = (M : Int) - 1 - ((j + 1 : Nat) : Int) := by omega
      obtain ⟨Z, hZ⟩ : ∃ Z, L ++ ap N M j = Z := ⟨_, rfl⟩
      rw [hZ] at HO HA1
      have HKJ : Hid ((k : Int) - 1 = (M : Int) - 1 - ((j + 1 : Nat) : Int)) := hkj
      clear hZ hm hx hy ht ea hk hi hkj
      go_wp2_with (at_builtin; go_must (refine wpList_nums okU8 rfl _ _ rfl base Z [y] A1 m c1 rfl ?q1 (by omega) ?q2 wr.heap.size 1 rfl rfl (by omega) ?q3 ?_))
      case q1 => exact HO.out.alloc _
      case q2 => simp; omega
      case q3 => exact RowK.new wr .u8 _ [y] _ rfl
      intro A3 c3 w3 ho3 hb3 _ _
      have HO3 : Hid (w3.ownsRow base 5 1 (.slice A3 (m + 1) c3) (m + 1) (flat (enK .u8) (L ++ ap N M (j + 1)))) := by show World.ownsRow _ _ _ _ _ _ _; rw [HA1.out]; exact ho3
      have HB3 : Hid (Below base w w3) := (HB.out.alloc hbx _).trans hb3
      clear ho3 hb3 HO HB
      go_wp2_with fail
      go_roundw
      case rel => exact ⟨j + 1, c3, A3, (k : Int) - 1, by omega, rfl, HKJ.out, by rw [← HM.out], by rw [← HM.out]; exact HO3, HB3⟩
      case measure => simp [intOf]
    · obtain rfl : j = M := by omega
      have hi' : i = -1 := by omega
      subst hi'
      go_wp2_with fail
      go_ret
      exact ⟨A1, c1, rfl, HO, HB.out⟩

set_option maxRecDepth 100000 in
set_option maxHeartbeats 1000000 in
theorem padding_any (n : Nat) (w : World) (hn : n ≤ 1000000) : Calls Tryd.prog 51 #[.int .u64 (n : Int)] w fun e w' => e = .returned (.string (ofN (tail n))) ∧ Below w.heap.size w w' := by
  have HAp : Hid (∀ (A : Option Addr) (l c : Nat) (L : List Nat) (N : Nat) (u : World), u.ownsRow w.heap.size 5 1 (.slice A l c) l (flat (enK .u8) L) → l ≤ 1000 → w.heap.size ≤ u.heap.size → Calls Tryd.prog 52 #[.slice A l c, .int .u64 (N : Int), .int .i64 8] u fun e w' => ∃ A' c', e = .returned (.slice A' (l + 8) c') ∧ Hid (w'.ownsRow w.heap.size 5 1 (.slice A' (l + 8) c') (l + 8) (flat (enK .u8) (L ++ ap N 8 8))) ∧ Below w.heap.size u w') := fun A l c L N u h1 h2 h3 => appNum_any w.heap.size A l c L N 8 u h1 h2 (by omega) h3
  have HO0 : Hid (World.ownsRow (w.alloc (.cells #[.int .u8 128] 5)) w.heap.size 5 1 (.slice (some ⟨w.heap.size, 0, none⟩) 1 1) 1 (flat (enK .u8) ([128] ++ List.replicate 0 0))) := by
    refine ⟨rfl, Or.inr ⟨w.heap.size, 1, #[.int .u8 128], rfl, Nat.le_refl _, heap_new w _, Nat.le_refl _, by unfold maxLen; omega, rfl, rfl⟩⟩
  have HB0 : Hid (Below w.heap.size w (w.alloc (.cells #[.int .u8 128] 5))) := (Below.refl _ _).alloc (Nat.le_refl _) _
  go_enter Tryd.func51, Tryd.ntmps51
  go_wp2_with fail
  go_loopw [3] (fun ov wx => ∃ (z c : Nat) (A : Option Addr), z ≤ padZ n ∧ ov = .slice A (1 + z) c ∧ Hid (wx.ownsRow w.heap.size 5 1 (.slice A (1 + z) c) (1 + z) (flat (enK .u8) ([128] ++ List.replicate z 0))) ∧ Hid (Below w.heap.size w wx)) (fun ov _ => 100 - (match ov with | .slice _ l _ => l | _ => 0))
  case atStart => exact ⟨0, 1, some ⟨w.heap.size, 0, none⟩, Nat.zero_le _, rfl, HO0, HB0⟩
  case round =>
    clear HO0 HB0
    obtain ⟨z, c, A, hz, rfl, HO, HB⟩ := hrel
    have hbx : w.heap.size ≤ wr.heap.size := HB.out.size
    have hz64 : padZ n < 64 := by unfold padZ; omega
    obtain ⟨m, hm⟩ : ∃ m, 1 + z = m := ⟨_, rfl⟩
    rw [hm] at HO
    rw [hm]
    have hm2 : m ≤ 64 := by omega
    have w1 : IntKind.u64.wrap (m : Int) = (m : Int) := wrapU (by omega) (by omega)
    have w2 : IntKind.u64.wrap ((n : Int) + (m : Int)) = (n : Int) + (m : Int) := wrapU (by omega) (by omega)
    have w3 : IntKind.u64.wrap ((n : Int) + (m : Int) + 8) = (n : Int) + (m : Int) + 8 := wrapU (by omega) (by omega)
    obtain ⟨r, hr⟩ : ∃ r, (n + m + 8) % 64 = r := ⟨_, rfl⟩
    have hrE : ((n : Int) + (m : Int) + 8) % 64 = (r : Int) := by omega
    by_cases hlt : z < padZ n
    · have hr0 : r ≠ 0 := by unfold padZ at hlt; omega
      have hrI : ¬ (r : Int) = 0 := by omega
      have hrB : ((r : Int) == 0) = false := by rw [beq_eq_false_iff_ne]; omega
      have HR : Hid (List.replicate (z + 1) 0 = List.replicate z 0 ++ [0]) := by show _ = _; rw [List.replicate_succ']
      have HM : Hid (m + 1 = 1 + (z + 1)) := by show _ = _; omega
      have HL : Hid (100 - (m + 1) < 100 - m) := by show _ < _; omega
      have hzz : z + 1 ≤ padZ n := hlt
      clear hr hm hr0 hlt hz
      go_wp2_with (at_builtin; go_must (refine wpList_nums okU8 rfl _ _ rfl w.heap.size ([128] ++ List.replicate z 0) [0] A m c rfl ?q1 (by omega) ?q2 wr.heap.size 1 rfl rfl (by omega) ?q3 ?_))
      case q1 => exact HO.out.alloc _
      case q2 => simp; omega
      case q3 => exact RowK.new wr .u8 _ [0] _ rfl
      intro A3 c3 w3' ho3 hb3 _ _
      have HO3 : Hid (w3'.ownsRow w.heap.size 5 1 (.slice A3 (m + 1) c3) (m + 1) (flat (enK .u8) ([128] ++ List.replicate (z + 1) 0))) := by show World.ownsRow _ _ _ _ _ _ _; rw [HR.out, ← List.append_assoc]; exact ho3
      have HB3 : Hid (Below w.heap.size w w3') := (HB.out.alloc hbx _).trans hb3
      clear ho3 hb3 HO HB
      go_wp2_with fail
      go_roundw
      case rel => exact ⟨z + 1, c3, A3, hzz, by rw [← HM.out], by rw [← HM.out]; exact HO3, HB3⟩
      case measure => exact HL.out
    · obtain rfl : z = padZ n := by omega
      have hr0 : r = 0 := by unfold padZ at hm; omega
      subst hr0
      have hmz : Hid (m = 1 + padZ n) := hm.symm
      have w8 : (8 : Int) * (n : Int) = ((n * 8 : Nat) : Int) := by omega
      obtain ⟨N, hN⟩ : ∃ N, n * 8 = N := ⟨_, rfl⟩
      rw [hN] at w8
      have wN : IntKind.u64.wrap (N : Int) = (N : Int) := wrapU (by omega) (by omega)
      have HT : Hid ([128] ++ List.replicate (padZ n) 0 ++ ap N 8 8 = tail n) := by show _ = _; unfold tail; rw [ap_be, hN]
      have HTb : Hid (Bytes (tail n)) := tail_bytes n
      have HTl : Hid ((tail n).length = m + 8) := by show _ = _; rw [tail_length, hmz.out]; omega
      clear hm hr hN hz hlt
      go_wp2_with (go_at_call 52; go_must (refine (HAp.out _ _ _ _ _ _ HO.out (by omega) hbx).mono ?_; rintro e w4 ⟨A4, c4, rfl, HO4, hb4⟩; have hst := str_own (L := tail n) (by have h := HO4.out; rw [HT.out] at h; exact h) HTb.out HTl.out))
      have HB4 : Hid (Below w.heap.size w w4) := HB.out.trans hb4
      clear HO4 hb4 HO HB
      go_ret
      exact ⟨rfl, HB4.out⟩
end Go.Proofs.YtibglhlhogfdnaaDoor
