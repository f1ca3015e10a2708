/- Layer 25: the document's names, challenges and proofs. -/
import Derived.Test.YtibglhlhogfdnaaDoorUPure
import Derived.Test.YtibglhlhogfdnaaDoorQRefM
import Derived.WalkSpells
import Derived.WalkLawsBesides
namespace Go.Proofs.YtibglhlhogfdnaaDoor
open Go.RowKit QP AP

def okB (c : Int) : Bool := (decide (97 ≤ c) && decide (c ≤ 122)) || (decide (48 ≤ c) && decide (c ≤ 57)) || (c == 46)
theorem okB_eq (c : UInt8) : okB (c.toNat : Int) = nameB c := by
  unfold okB nameB
  rw [Bool.eq_iff_iff]
  simp
  omega
theorem ok_take (k : ByteArray) (j : Nat) (hj : j < k.size) (h : (k.data.toList.take j).all nameB = true) :
    (k.data.toList.take (j + 1)).all nameB = okB (k[j].toNat : Int) := by
  rw [List.take_succ_eq_append_getElem (by simpa using hj), List.all_append, h, okB_eq]
  simp
  rfl
theorem ok_no (k : ByteArray) (n : Nat) (h : (k.data.toList.take n).all nameB = false) : nameOk k = false := by
  unfold nameOk
  have e : k.data.toList.all nameB = false := by
    rw [← List.take_append_drop n k.data.toList, List.all_append, h]; rfl
  rw [e, Bool.and_false]
theorem ok_yes (k : ByteArray) (j : Nat) (hj : ¬ j < k.size) (h1 : ¬ (k.size : Int) < 1) (h2 : ¬ (32 : Int) < k.size) (h : (k.data.toList.take j).all nameB = true) : nameOk k = true := by
  have e0 : k.data.toList.length = k.size := rfl
  rw [List.take_of_length_le (by rw [e0]; omega)] at h
  unfold nameOk
  rw [h, decide_eq_true (by omega), decide_eq_true (by omega)]
  rfl

set_option maxRecDepth 100000 in
set_option maxHeartbeats 1000000 in
theorem rnamed_any (k : ByteArray) (w : World) (hk : k.size ≤ maxLen) :
    Calls Tryd.prog 28 #[.string k] w fun e w' => e = .returned (.bool (nameOk k)) ∧ w = w' := by
  unfold maxLen at hk
  have hemp : (k.toList == ([] : List UInt8)) = decide (k.size = 0) := by
    rw [Go.ByteArray.toList_eq, Bool.eq_iff_iff]
    simp only [beq_iff_eq, decide_eq_true_eq]
    constructor
    · intro e; have := congrArg List.length e; simpa using this
    · intro e; exact List.eq_nil_of_length_eq_zero e
  have HEmp : Hid ((k.toList == ([] : List UInt8)) = decide (k.size = 0)) := hemp
  clear hemp
  by_cases h1 : k.size < 1 ∨ 32 < k.size
  · have hf : nameOk k = false := by
      unfold nameOk
      rcases h1 with h | h
      · have : decide (1 ≤ k.size) = false := decide_eq_false (by omega)
        rw [this]; rfl
      · have : decide (k.size ≤ 32) = false := decide_eq_false (by omega)
        rw [this]; simp
    rw [hf]
    by_cases h2 : k.size = 0
    · have h2' : k.toList.isEmpty = true := by have := HEmp.out; rw [h2] at this; simpa using this
      go_enter Tryd.func28, Tryd.ntmps28
      go_wp2
      go_ret
      exact ⟨rfl, rfl⟩
    · have h3 : (32 : Int) < k.size := by omega
      have h2' : k.toList.isEmpty = false := by have := HEmp.out; rw [decide_eq_false h2] at this; simpa using this
      go_enter Tryd.func28, Tryd.ntmps28
      go_wp2
      go_ret
      exact ⟨rfl, rfl⟩
  · have h3 : ¬ (32 : Int) < k.size := by omega
    have h2' : k.toList.isEmpty = false := by have := HEmp.out; rw [decide_eq_false (by omega)] at this; simpa using this
    have h4 : 1 ≤ k.size := by omega
    go_enter Tryd.func28, Tryd.ntmps28
    go_wp2
    go_loop [3] (fun i => ∃ j : Nat, j ≤ k.size ∧ i = .int .i64 j ∧ (k.data.toList.take j).all nameB = true) (fun i => k.size - (intOf i).toNat)
    case atStart => exact ⟨0, Nat.zero_le _, rfl, rfl⟩
    case round =>
      obtain ⟨j, hj, rfl, hall⟩ := hrel
      by_cases hlt : j < k.size
      · have hst := ok_take k j hlt hall
        have HS : Hid ((k.data.toList.take (j + 1)).all nameB = okB (k[j].toNat : Int)) := hst
        clear hst hall
        have hcs : (k[j].toNat : Int) < 46 ∨ (k[j].toNat : Int) = 46 ∨ (k[j].toNat : Int) = 47 ∨ (48 ≤ (k[j].toNat : Int) ∧ (k[j].toNat : Int) ≤ 57) ∨ (58 ≤ (k[j].toNat : Int) ∧ (k[j].toNat : Int) < 97) ∨ (97 ≤ (k[j].toNat : Int) ∧ (k[j].toNat : Int) ≤ 122) ∨ 122 < (k[j].toNat : Int) := by omega
        rcases hcs with q | q | q | q | q | q | q
        · have g1 : ¬ 97 ≤ (k[j].toNat : Int) := by omega
          have g2 : ¬ 48 ≤ (k[j].toNat : Int) := by omega
          have g5 : ((k[j].toNat : Int) == 46) = false := by rw [beq_eq_false_iff_ne]; omega
          go_wp2
          go_ret
          exact ⟨ret_bool (ok_no k (j + 1) (HS.out.trans (by unfold okB; rw [Bool.eq_false_iff]; simp; omega))).symm, rfl⟩
        · have g1 : ¬ 97 ≤ (k[j].toNat : Int) := by omega
          have g2 : ¬ 48 ≤ (k[j].toNat : Int) := by omega
          have g5 : ((k[j].toNat : Int) == 46) = true := by rw [beq_iff_eq]; omega
          have g6 : 46 ≤ (k[j].toNat : Int) ∧ (k[j].toNat : Int) ≤ 46 := by omega
          clear q
          go_wp2
          go_round
          case rel => exact ⟨j + 1, by omega, by go_num, HS.out.trans (by unfold okB; simp; omega)⟩
          case measure => simp [intOf]; omega
        · have g1 : ¬ 97 ≤ (k[j].toNat : Int) := by omega
          have g2 : ¬ 48 ≤ (k[j].toNat : Int) := by omega
          have g5 : ((k[j].toNat : Int) == 46) = false := by rw [beq_eq_false_iff_ne]; omega
          have g6 : 47 ≤ (k[j].toNat : Int) ∧ (k[j].toNat : Int) ≤ 47 := by omega
          clear q
          go_wp2
          go_ret
          exact ⟨ret_bool (ok_no k (j + 1) (HS.out.trans (by unfold okB; rw [Bool.eq_false_iff]; simp; omega))).symm, rfl⟩
        · obtain ⟨q1, q2⟩ := q
          have g1 : ¬ 97 ≤ (k[j].toNat : Int) := by omega
          go_wp2
          go_round
          case rel => exact ⟨j + 1, by omega, by go_num, HS.out.trans (by unfold okB; simp; omega)⟩
          case measure => simp [intOf]; omega
        · obtain ⟨q1, q2⟩ := q
          have g1 : ¬ 97 ≤ (k[j].toNat : Int) := by omega
          have g2 : 48 ≤ (k[j].toNat : Int) := by omega
          have g3 : ¬ (k[j].toNat : Int) ≤ 57 := by omega
          have g5 : ((k[j].toNat : Int) == 46) = false := by rw [beq_eq_false_iff_ne]; omega
          go_wp2
          go_ret
          exact ⟨ret_bool (ok_no k (j + 1) (HS.out.trans (by unfold okB; rw [Bool.eq_false_iff]; simp; omega))).symm, rfl⟩
        · obtain ⟨q1, q2⟩ := q
          go_wp2
          go_round
          case rel => exact ⟨j + 1, by omega, by go_num, HS.out.trans (by unfold okB; simp; omega)⟩
          case measure => simp [intOf]; omega
        · have g1 : 97 ≤ (k[j].toNat : Int) := by omega
          have g4 : ¬ (k[j].toNat : Int) ≤ 122 := by omega
          have g2 : 48 ≤ (k[j].toNat : Int) := by omega
          have g3 : ¬ (k[j].toNat : Int) ≤ 57 := by omega
          have g5 : ((k[j].toNat : Int) == 46) = false := by rw [beq_eq_false_iff_ne]; omega
          go_wp2
          go_ret
          exact ⟨ret_bool (ok_no k (j + 1) (HS.out.trans (by unfold okB; rw [Bool.eq_false_iff]; simp; omega))).symm, rfl⟩
      · have HA : Hid ((k.data.toList.take j).all nameB = true) := hall
        clear hall
        go_wp2
        go_ret
        exact ⟨ret_bool (ok_yes k j hlt (by omega) (by omega) HA.out).symm, rfl⟩

/-- the first so many bytes of a number, the lowest first -/
def leN (n : Nat) : Nat → List Nat
  | 0 => []
  | k + 1 => leN n k ++ [n / 256 ^ k % 256]
theorem leN_length (n : Nat) : ∀ k, (leN n k).length = k
  | 0 => rfl
  | k + 1 => by simp [leN, leN_length n k]
theorem leN_bytes (n : Nat) : ∀ k, Bytes (leN n k)
  | 0 => fun x hx => by cases hx
  | k + 1 => (leN_bytes n k).append (Bytes.one (Nat.mod_lt _ (by decide)))
theorem leN_8 (n : Nat) : leN n 8 = le8 n := by
  simp [leN, le8]

set_option maxRecDepth 100000 in
set_option maxHeartbeats 2000000 in
theorem eight_any (n : Nat) (w : World) (hn : n < 18446744073709551616) : Calls Tryd.prog 25 #[.int .u64 n] w (SumR w (le8 n)) := by
  go_enter Tryd.func25, Tryd.ntmps25
  go_wp2_with fail
  go_loopw [0, 3, 4] (fun nv bv iv wr => ∃ (i m c : Nat) (A : Option Addr), i ≤ 8 ∧ iv = .int .i64 i ∧ nv = .int .u64 m ∧ bv = .slice A i c ∧ Hid (n / 256 ^ i = m) ∧ Hid (wr.ownsRow w.heap.size 5 1 (.slice A i c) i (flat (enK .u8) (leN n i))) ∧ Hid (Below w.heap.size w wr)) (fun _ _ iv _ => 8 - (intOf iv).toNat)
  case atStart => exact ⟨0, n, 0, none, by omega, rfl, rfl, rfl, (by show _ = _; simp), own_nil, Below.refl _ _⟩
  case round =>
    obtain ⟨i, m, c, A, hi, rfl, rfl, rfl, HM, HO, HB⟩ := hrel
    have hmn : m < 18446744073709551616 := by rw [← HM.out]; exact Nat.lt_of_le_of_lt (Nat.div_le_self _ _) hn
    by_cases hlt : i < 8
    · have hlI : (i : Int) < 8 := by omega
      obtain ⟨y, hy⟩ : ∃ y, m % 256 = y := ⟨_, rfl⟩
      obtain ⟨q, hq⟩ : ∃ y, m / 256 = y := ⟨_, rfl⟩
      have y1 : (m : Int) % 256 = (y : Int) := by omega
      have y2 : (m : Int).tmod 256 = (y : Int) := by rw [Int.tmod_eq_emod_of_nonneg (by omega)]; exact y1
      have y3 : (y : Int) % 256 = (y : Int) := by omega
      have y4 : IntKind.u64.wrap (y : Int) = (y : Int) := wrapU (by omega) (by omega)
      have y5 : IntKind.u8.wrap (y : Int) = (y : Int) := by simp [IntKind.wrap, IntKind.bits, IntKind.signed]; omega
      have q1 : (m : Int) / 256 = (q : Int) := by omega
      have q2 : (m : Int).tdiv 256 = (q : Int) := by rw [Int.tdiv_eq_ediv_of_nonneg (by omega)]; exact q1
      have q3 : IntKind.u64.wrap (q : Int) = (q : Int) := wrapU (by omega) (by omega)
      have HL : Hid (leN n (i + 1) = leN n i ++ [y]) := by
        show leN n i ++ [n / 256 ^ i % 256] = _
        rw [HM.out, hy]
      have HQ : Hid (n / 256 ^ (i + 1) = q) := by
        show _ = _
        rw [Nat.pow_succ, ← Nat.div_div_eq_div_mul, HM.out, hq]
      have hB1 : w.heap.size ≤ wr.heap.size := HB.out.size
      clear hy hq HM
      go_wp2_with (at_builtin; go_must (refine wpList_nums okU8 rfl _ _ rfl w.heap.size (leN n i) [y] A i c rfl ?q1 (by omega) ?q2 wr.heap.size 1 rfl rfl (by omega) ?q3 ?_))
      case q1 => exact HO.out.alloc _
      case q2 => first | omega | (simp; omega)
      case q3 => exact RowK.new wr .u8 _ [y] _ rfl
      intro A3 c3 w3 ho3 hb3 _ _
      have HO3 : Hid (w3.ownsRow w.heap.size 5 1 (.slice A3 (i + 1) c3) (i + 1) (flat (enK .u8) (leN n (i + 1)))) := by show World.ownsRow _ _ _ _ _ _ _; rw [HL.out]; exact ho3
      have HB3 : Hid (Below w.heap.size w w3) := (HB.out.alloc hB1 _).trans hb3
      clear ho3 hb3 HO HB
      go_wp2_with fail
      go_roundw
      case rel => exact ⟨i + 1, q, c3, A3, by omega, by go_num, rfl, rfl, HQ, HO3, HB3⟩
      case measure => simp [intOf]; omega
    · obtain rfl : i = 8 := by omega
      have hlI : ¬ ((8 : Nat) : Int) < 8 := by omega
      have hst := str_own HO.out (leN_bytes n 8) (leN_length n 8)
      rw [leN_8] at hst
      have HR : Hid (SumR w (le8 n) (.returned (.string (ofN (le8 n)))) wr) := ⟨rfl, HB.out⟩
      clear HO HB HM
      go_wp2_with fail
      go_ret
      exact HR.out

set_option maxRecDepth 100000 in
set_option maxHeartbeats 2000000 in
theorem rchal_any (d : Nat) (nn : Int) (w : World) (hd : d < 18446744073709551616) : Calls Tryd.prog 10 #[.int .u64 (d : Int), .int .i64 nn] w fun e w' => e = .returned (.string (chal d (IntKind.u64.wrap nn).toNat)) ∧ Below w.heap.size w w' := by
  obtain ⟨U, hU⟩ : ∃ U : Nat, IntKind.u64.wrap nn = (U : Int) := ⟨(IntKind.u64.wrap nn).toNat, by
    have : 0 ≤ IntKind.u64.wrap nn := by simp [IntKind.wrap, IntKind.bits, IntKind.signed]; omega
    omega⟩
  have hUb : U < 18446744073709551616 := by
    have : IntKind.u64.wrap nn < 18446744073709551616 := by simp [IntKind.wrap, IntKind.bits, IntKind.signed]; omega
    omega
  have hUt : (IntKind.u64.wrap nn).toNat = U := by rw [hU]; rfl
  rw [hUt]
  obtain ⟨s1, h1⟩ : ∃ s, ofN (le8 d) = s := ⟨_, rfl⟩
  obtain ⟨s2, h2⟩ : ∃ s, ofN (le8 U) = s := ⟨_, rfl⟩
  obtain ⟨wd, hwd⟩ : ∃ s : ByteArray, (⟨#[99, 104, 97, 108, 108, 101, 110, 103, 101]⟩ : ByteArray) = s := ⟨_, rfl⟩
  have z1 : s1.size = 8 := by rw [← h1, ofN_size]; rfl
  have z2 : s2.size = 8 := by rw [← h2, ofN_size]; rfl
  have b8 : ∀ n, Bytes (le8 n) := fun n => by rw [← leN_8]; exact leN_bytes n 8
  have e1 : nb s1 = le8 d := by rw [← h1, nb_ofN (b8 d)]
  have e2 : nb s2 = le8 U := by rw [← h2, nb_ofN (b8 U)]
  have hwn : nb (⟨#[99, 104, 97, 108, 108, 101, 110, 103, 101]⟩ : ByteArray) = word := rfl
  have zw : (⟨#[99, 104, 97, 108, 108, 101, 110, 103, 101]⟩ : ByteArray).size = 9 := rfl
  have H1 : Hid (∀ u, Calls Tryd.prog 25 #[.int .u64 (d : Int)] u fun e w' => e = .returned (.string s1) ∧ Below u.heap.size u w') := fun u => by
    have h := eight_any d u hd
    unfold SumR at h
    rw [h1] at h
    exact h
  have H2 : Hid (∀ u, Calls Tryd.prog 25 #[.int .u64 (U : Int)] u fun e w' => e = .returned (.string s2) ∧ Below u.heap.size u w') := fun u => by
    have h := eight_any U u hUb
    unfold SumR at h
    rw [h2] at h
    exact h
  have H3 : Hid (∀ u, Calls Tryd.prog 24 #[.string ((⟨#[99, 104, 97, 108, 108, 101, 110, 103, 101]⟩ : ByteArray) ++ s1 ++ s2)] u fun e w' => e = .returned (.string (chal d U)) ∧ Below u.heap.size u w') := fun u => by
    have h := rSum_any ((⟨#[99, 104, 97, 108, 108, 101, 110, 103, 101]⟩ : ByteArray) ++ s1 ++ s2) u (by rw [ByteArray.size_append, ByteArray.size_append, z1, z2, zw]; omega)
    unfold SumR at h
    rw [nb_append, nb_append, e1, e2, hwn] at h
    exact h
  clear h1 h2 e1 e2 hwn b8 hwd hUt
  go_enter Tryd.func10, Tryd.ntmps10
  go_wp2_with fail
  refine (H1.out _).mono ?_
  rintro y w1 ⟨rfl, hb1⟩
  go_wp2_with fail
  refine (H2.out _).mono ?_
  rintro y w2 ⟨rfl, hb2⟩
  go_wp2_with fail
  refine (H3.out _).mono ?_
  rintro y w3 ⟨rfl, hb3⟩
  go_wp2_with fail
  go_ret
  exact ⟨rfl, (hb1.trans (hb2.mono hb1.size)).trans (hb3.mono (Nat.le_trans hb1.size hb2.size))⟩

set_option maxRecDepth 100000 in
set_option maxHeartbeats 2000000 in
theorem rproof_any (k n c : ByteArray) (w : World) (hk : k.size ≤ 10000) (hn : n.size ≤ 10000) (hc : c.size ≤ 10000) : Calls Tryd.prog 17 #[.string k, .string n, .string c] w fun e w' => e = .returned (.string (proof k n c)) ∧ Below w.heap.size w w' := by
  have zw : (⟨#[0]⟩ : ByteArray).size = 1 := rfl
  have hz : nb (⟨#[0]⟩ : ByteArray) = [0] := rfl
  have H : Hid (∀ u, Calls Tryd.prog 31 #[.string k, .string (n ++ (⟨#[0]⟩ : ByteArray) ++ c)] u fun e w' => e = .returned (.string (proof k n c)) ∧ Below u.heap.size u w') := fun u => by
    have h := rMac_any k (n ++ (⟨#[0]⟩ : ByteArray) ++ c) u (by omega) (by rw [ByteArray.size_append, ByteArray.size_append, zw]; omega)
    unfold SumR at h
    rw [nb_append, nb_append, hz, List.append_assoc] at h
    exact h
  clear hz
  go_enter Tryd.func17, Tryd.ntmps17
  go_wp2_with fail
  refine (H.out _).mono ?_
  rintro y w1 ⟨rfl, hb1⟩
  go_wp2_with fail
  go_ret
  exact ⟨rfl, hb1⟩
end Go.Proofs.YtibglhlhogfdnaaDoor
