/- The document's look for a frame at a place. -/
import Derived.Test.YthiihilifckapaaFRefC
import Derived.Handy
import Derived.Deep.QuietTactic
namespace Go.Proofs.Ythiihilifckapaa
open Go.RowKit

/-- what stands at a place: the bytes, the place behind, the fault's place and number -/
structure Found where
  body : ByteArray
  stop : Int
  place : Int
  code : Int

def lenAt (b : ByteArray) (a : Nat) : Nat := un4 (b.extract a (a + 4)).data.toList
def sumAt (b : ByteArray) (a n : Nat) : Nat := crc (b.extract a (a + 4 + n)).data.toList
def wasAt (b : ByteArray) (a n : Nat) : Nat := un4 (b.extract (a + 4 + n) (a + 8 + n)).data.toList

def found (b : ByteArray) (x : Int) : Found :=
  if x < 0 ∨ (b.size : Int) < x then ⟨.empty, 0, 0, 1⟩
  else if b.size < x.toNat + 4 then ⟨.empty, 0, x, 61⟩
  else if 65536 < lenAt b x.toNat then ⟨.empty, 0, x, 2⟩
  else if b.size < x.toNat + 8 + lenAt b x.toNat then ⟨.empty, 0, x, 61⟩
  else if sumAt b x.toNat (lenAt b x.toNat) ≠ wasAt b x.toNat (lenAt b x.toNat) then ⟨.empty, 0, x, 60⟩
  else ⟨b.extract (x.toNat + 4) (x.toNat + 4 + lenAt b x.toNat), x + 8 + lenAt b x.toNat, 0, 0⟩

def Found.en (f : Found) : Value := .tuple #[.string f.body, .int .i64 f.stop, .agg #[.int .i64 f.place, .int .i64 f.code]]

theorem un4_lt : ∀ l, un4 l < 4294967296
  | [] => by decide
  | [_] => Nat.zero_lt_succ _
  | [_, _] => Nat.zero_lt_succ _
  | [_, _, _] => Nat.zero_lt_succ _
  | a :: b :: c :: d :: _ => by
    have h1 := a.toNat_lt
    have h2 := b.toNat_lt
    have h3 := c.toNat_lt
    have h4 := d.toNat_lt
    show a.toNat + b.toNat * 256 + c.toNat * 65536 + d.toNat * 16777216 < 4294967296
    omega

theorem below_draws {B : Nat} {a w : World} (h : Below B a w) (n : Nat) : Below B a (w.drewN n) := h.trans ⟨rfl, rfl, rfl, Nat.le_refl _, fun _ _ => rfl⟩

theorem quiet_more {P : Program} {f : FuncId} {args : Array Value} {w : World} {m x : Nat} {v : Value}
    (h : Calls P f args (w.drewN (m + x)) fun e w' => e = .returned v ∧ ∃ k, w' = (w.drewN (m + x)).drewN k) : Calls P f args (w.drewN (m + x)) fun e w'' => e = .returned v ∧ ∃ n, w'' = w.drewN (m + n) :=
  h.mono fun _ _ ⟨he, k, hk⟩ => ⟨he, x + k, by rw [hk, World.drewN_drewN, Nat.add_assoc]⟩

theorem quiet_more_same {P : Program} {f : FuncId} {args : Array Value} {w : World} {m x : Nat} {v : Value}
    (h : Calls P f args (w.drewN (m + x)) fun e w' => e = .returned v ∧ w' = w.drewN (m + x)) : Calls P f args (w.drewN (m + x)) fun e w'' => e = .returned v ∧ ∃ n, w'' = w.drewN (m + n) :=
  h.mono fun _ _ ⟨he, hk⟩ => ⟨he, x, hk⟩

set_option maxHeartbeats 800000 in
theorem rfUnframe_any (b : ByteArray) (x : Int) (w : World) (hb : b.size ≤ maxLen) :
    Calls Try.prog 12 #[.string b, .int .i64 x] w fun e w' => e = .returned (found b x).en ∧ Below w.heap.size w w' := by
  unfold maxLen at hb
  by_cases h0 : x < 0 ∨ (b.size : Int) < x
  · have HF : Hid (found b x = ⟨.empty, 0, 0, 1⟩) := (by unfold found; rw [if_pos h0] : _ = _)
    rw [HF.out]
    by_cases h1 : x < 0
    · go_enter Try.func12, Try.ntmps12
      go_wp2_with (go_at_call 21; refine (rffault_any _ _ _).mono ?_; rintro e w1 ⟨rfl, rfl⟩)
      refine bodyPost_ret (by simp [results, Try.results12, go_sem]; rfl) rfl ?_
      exact ⟨rfl, ((Below.refl _ _).alloc (Nat.le_refl _) _).alloc (by simp) _⟩
    · have h2 : (b.size : Int) < x := by omega
      go_enter Try.func12, Try.ntmps12
      go_wp2_with (go_at_call 21; refine (rffault_any _ _ _).mono ?_; rintro e w1 ⟨rfl, rfl⟩)
      refine bodyPost_ret (by simp [results, Try.results12, go_sem]; rfl) rfl ?_
      exact ⟨rfl, ((Below.refl _ _).alloc (Nat.le_refl _) _).alloc (by simp) _⟩
  obtain ⟨a, rfl⟩ : ∃ a : Nat, x = (a : Int) := ⟨x.toNat, by omega⟩
  have ha : a ≤ b.size := by omega
  have HT : Hid ((a : Int).toNat = a) := (by omega : _ = _)
  by_cases h4 : b.size < a + 4
  · have HF : Hid (found b a = ⟨.empty, 0, a, 61⟩) := (by unfold found; rw [if_neg h0, HT.out, if_pos h4] : _ = _)
    rw [HF.out]
    have h4' : (b.size : Int) - a < 4 := by omega
    clear h0
    go_enter Try.func12, Try.ntmps12
    go_wp2_with (go_at_call 21; refine (rffault_any _ _ _).mono ?_; rintro e w1 ⟨rfl, rfl⟩)
    refine bodyPost_ret (by simp [results, Try.results12, go_sem]; rfl) rfl ?_
    exact ⟨rfl, ((Below.refl _ _).alloc (Nat.le_refl _) _).alloc (by simp) _⟩
  have hx4 : (b.extract a (a + 4)).size = 4 := by rw [ByteArray.size_extract]; omega
  obtain ⟨n, hn⟩ : ∃ n, lenAt b a = n := ⟨_, rfl⟩
  have hn2 : n < 4294967296 := hn ▸ un4_lt _
  have HN : Hid (un4 (b.extract a (a + 4)).data.toList = n) := hn
  have HU : Hid (∀ w : World, Calls Try.prog 22 #[.string (b.extract a (a + 4))] w fun e w' => e = .returned (.int .u32 (n : Int)) ∧ ∃ m, w' = w.drewN m) := fun w => HN.out ▸ rfunfour_any _ w hx4
  have hb4 : (a : Int) + 4 ≤ b.size := by omega
  by_cases h5 : 65536 < n
  · have HF : Hid (found b a = ⟨.empty, 0, a, 2⟩) := (by unfold found; rw [if_neg h0, HT.out, if_neg h4, hn, if_pos h5] : _ = _)
    rw [HF.out]
    have h5' : (65536 : Int) < n := by omega
    clear h0 hn hx4
    go_enter Try.func12, Try.ntmps12
    go_wp2_with (first | (go_at_call 22; refine (HU.out _).mono ?_; rintro e w1 ⟨rfl, m, rfl⟩) | (go_at_call 21; refine (rffault_any _ _ _).mono ?_; rintro e w1 ⟨rfl, rfl⟩))
    refine bodyPost_ret (by simp [results, Try.results12, go_sem]; rfl) rfl ?_
    exact ⟨rfl, by go_grown; exact below_draws ((Below.refl _ _).alloc (Nat.le_refl _) _) _⟩
  have h5' : ¬ (65536 : Int) < n := by omega
  by_cases h6 : b.size < a + 8 + n
  · have HF : Hid (found b a = ⟨.empty, 0, a, 61⟩) := (by unfold found; rw [if_neg h0, HT.out, if_neg h4, hn, if_neg h5, if_pos h6] : _ = _)
    rw [HF.out]
    have h6' : (b.size : Int) - a < 8 + n := by omega
    clear h0 hn hx4
    go_enter Try.func12, Try.ntmps12
    go_wp2_with (first | (go_at_call 22; refine (HU.out _).mono ?_; rintro e w1 ⟨rfl, m, rfl⟩) | (go_at_call 21; refine (rffault_any _ _ _).mono ?_; rintro e w1 ⟨rfl, rfl⟩))
    refine bodyPost_ret (by simp [results, Try.results12, go_sem]; rfl) rfl ?_
    exact ⟨rfl, by go_grown; exact below_draws ((Below.refl _ _).alloc (Nat.le_refl _) _) _⟩
  have h6' : (a : Int) + 8 + n ≤ b.size := by omega
  have h6'' : ¬ ((b.size : Int) - a < 8 + n) := by omega
  have hz1 : (b.extract a (a + 4 + n)).size ≤ maxLen := by rw [ByteArray.size_extract]; unfold maxLen; omega
  have hz2 : (b.extract (a + 4 + n) (a + 8 + n)).size = 4 := by rw [ByteArray.size_extract]; omega
  obtain ⟨p, hp⟩ : ∃ p, sumAt b a n = p := ⟨_, rfl⟩
  obtain ⟨q, hq⟩ : ∃ q, wasAt b a n = q := ⟨_, rfl⟩
  have HS : Hid (∀ w : World, Calls Try.prog 10 #[.string (b.extract a (a + 4 + n))] w fun e w' => e = .returned (.int .u32 (p : Int)) ∧ w' = w) := fun w => hp ▸ rfSum_any _ w hz1
  have HW : Hid (∀ w : World, Calls Try.prog 22 #[.string (b.extract (a + 4 + n) (a + 8 + n))] w fun e w' => e = .returned (.int .u32 (q : Int)) ∧ ∃ m, w' = w.drewN m) := fun w => hq ▸ rfunfour_any _ w hz2
  have k1 : ∀ w : World, (Instr.slice 9 (.string b) (some (.int .i64 (a : Int))) (some (.int .i64 ((a : Int) + 4 + n))) none).run Try.prog w = .ok (.string (b.extract a (a + 4 + n))) w := fun w => by
    rw [run_slice_string w 9 b .i64 .i64 _ _ Try.underlying9 (by omega) (by omega) (by omega), show ((a : Int) + 4 + n).toNat = a + 4 + n by omega]
    rfl
  have k2 : ∀ w : World, (Instr.slice 9 (.string b) (some (.int .i64 ((a : Int) + 4 + n))) (some (.int .i64 ((a : Int) + 8 + n))) none).run Try.prog w = .ok (.string (b.extract (a + 4 + n) (a + 8 + n))) w := fun w => by
    rw [run_slice_string w 9 b .i64 .i64 _ _ Try.underlying9 (by omega) (by omega) (by omega), show ((a : Int) + 4 + n).toNat = a + 4 + n by omega, show ((a : Int) + 8 + n).toNat = a + 8 + n by omega]
  have w1 : IntKind.i64.wrap ((a : Int) + 4) = (a : Int) + 4 := wrap_small _ (by omega) (by omega)
  have w2 : IntKind.i64.wrap ((a : Int) + 4 + n) = (a : Int) + 4 + n := wrap_small _ (by omega) (by omega)
  have w3 : IntKind.i64.wrap ((a : Int) + 8) = (a : Int) + 8 := wrap_small _ (by omega) (by omega)
  have w4 : IntKind.i64.wrap ((a : Int) + 8 + n) = (a : Int) + 8 + n := wrap_small _ (by omega) (by omega)
  by_cases h7 : p = q
  · have HF : Hid (found b a = ⟨b.extract (a + 4) (a + 4 + n), (a : Int) + 8 + n, 0, 0⟩) := (by
      unfold found
      rw [if_neg h0, HT.out, if_neg h4, hn, if_neg h5, if_neg h6, hp, hq, if_neg (fun e => e h7)] : _ = _)
    rw [HF.out]
    subst h7
    clear h0 hn hx4 hp hq hz1 hz2
    go_enter Try.func12, Try.ntmps12
    go_wp2_with (first | (go_at_call 22; refine (HU.out _).mono ?_; rintro e w1 ⟨rfl, m, rfl⟩) | fail)
    go_quiet (first | (go_at_call 10; exact quiet_more_same (HS.out _)) | (go_at_call 22; exact quiet_more (HW.out _)))
    go_wp2
    refine bodyPost_ret (by simp [results, Try.results12, go_sem]; rfl) rfl ?_
    exact ⟨rfl, by go_grown; exact below_draws ((Below.refl _ _).alloc (Nat.le_refl _) _) _⟩
  · have HF : Hid (found b a = ⟨.empty, 0, a, 60⟩) := (by
      unfold found
      rw [if_neg h0, HT.out, if_neg h4, hn, if_neg h5, if_neg h6, hp, hq, if_pos h7] : _ = _)
    rw [HF.out]
    have h7' : ((p : Int) != q) = true := by simp; omega
    have H7 : Hid (¬ p = q) := h7
    clear h0 hn hx4 hp hq hz1 hz2 h7
    go_enter Try.func12, Try.ntmps12
    go_wp2_with (first | (go_at_call 22; refine (HU.out _).mono ?_; rintro e w1 ⟨rfl, m, rfl⟩) | fail)
    go_quiet (first | (go_at_call 10; exact quiet_more_same (HS.out _)) | (go_at_call 22; exact quiet_more (HW.out _)))
    go_wp2_with (go_at_call 21; refine (rffault_any _ _ _).mono ?_; rintro e w1 ⟨rfl, rfl⟩)
    refine bodyPost_ret (by simp [results, Try.results12, go_sem]; rfl) rfl ?_
    exact ⟨rfl, by go_grown; exact below_draws ((Below.refl _ _).alloc (Nat.le_refl _) _) _⟩

end Go.Proofs.Ythiihilifckapaa
