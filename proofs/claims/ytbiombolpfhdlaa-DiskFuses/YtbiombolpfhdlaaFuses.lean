/- DiskFuses: for every two numbers the call returns true, and each argument reads behind it as it read before. -/
import Derived.Test.YtbiombolpfhdlaaRows
import Derived.Test.YtbiombolpfhdlaaAmong
import Derived.ProofKit
import Derived.OpenShut
import Derived.ShutString
import Derived.ChangeOld
namespace Go.Proofs.Ytbiombolpfhdlaa.Fuses
open Go.ChangeShapes Go.WideShapes Go.ChangeAt Go.RowKit

theorem own : ownKnob Try.prog.godebug = none := by kernel_rfl

def fs (j : Nat) : List (List UInt8 × Dk.Fil) := if j = 0 then [] else [([97], ⟨List.replicate j 120, 0⟩)]
/-- with a fuse of n, behind j changes -/
def st (n j : Nat) (down : Bool) : Dk.Dsk := ⟨fs j, down, true, n - j⟩

theorem fs_pos (j : Nat) : fs (j + 1) = [([97], ⟨List.replicate (j + 1) 120, 0⟩)] := rfl
theorem get_a (j : Nat) : Dk.getL [97] (fs j) = if j = 0 then none else some ⟨List.replicate j 120, 0⟩ := by
  unfold fs
  split <;> rfl
theorem get_p (j : Nat) (h : 0 < j) : Dk.getL [97] (fs j) = some ⟨List.replicate j 120, 0⟩ := by rw [get_a, if_neg (by omega)]
theorem get_none (j : Nat) : Dk.getL [110, 111, 110, 101] (fs j) = none := by
  unfold fs
  split <;> rfl
theorem fs_len (j : Nat) : (fs j).length ≤ 1 := by
  unfold fs
  split <;> simp

theorem fuse0 (n : Nat) : Dk.fuseE (n : Int) = 0 ∧ Dk.fuseS Dk.blank (n : Int) = st n 0 false := by
  have h : ¬ (n : Int) < 0 := by omega
  unfold Dk.fuseE Dk.fuseS
  rw [if_neg h, if_neg h]
  exact ⟨rfl, rfl⟩

theorem sync_none (n j : Nat) (b : Bool) : Dk.syncE (st n j b) [110, 111, 110, 101] = 5 ∧ Dk.syncS (st n j b) [110, 111, 110, 101] = st n j b := by
  have ok : Dk.okName [110, 111, 110, 101] = true := by decide
  have e : Dk.findE (st n j b) [110, 111, 110, 101] = 5 := by
    unfold Dk.findE st
    rw [ok, get_none]
    rfl
  unfold Dk.syncE Dk.syncS
  rw [e]
  exact ⟨rfl, rfl⟩

theorem app_bad (s : Dk.Dsk) (d : List UInt8) : Dk.appendE s [] d = 10 ∧ Dk.appendS s [] d = s := ⟨rfl, rfl⟩

theorem long_no (n j : Nat) (b : Bool) (hj : j ≤ 100) : Dk.tooLong (st n j b) [97] [120] = false := by
  have h1 := fs_len j
  have h2 : decide (64 ≤ (fs j).length) = false := decide_eq_false (by omega)
  unfold Dk.tooLong st
  simp only [get_a, h2, Bool.and_false, Bool.or_false]
  split
  · rfl
  · simp [Dk.fileOr]
    omega

theorem app_a (n j : Nat) (hj : j < n) (hn : n ≤ 100) : Dk.appendE (st n j false) [97] [120] = 0 ∧ Dk.appendS (st n j false) [97] [120] = st n (j + 1) false := by
  have ok : Dk.okName [97] = true := by decide
  have hb : Dk.burnt (st n j false) = false := by
    unfold Dk.burnt st
    have : (n - j == 0) = false := by rw [beq_eq_false_iff_ne]; omega
    simp [this]
  have hl := long_no n j false (by omega)
  unfold Dk.appendE Dk.appendS
  rw [ok, hl, hb]
  refine ⟨changeE_not hb, ?_⟩
  have hc : Dk.changeS (st n j false) = ⟨fs j, false, true, n - j - 1⟩ := by
    unfold Dk.changeS
    rw [hb]
    rfl
  rw [hc]
  show Dk.Dsk.mk (Dk.putL [97] _ (st n j false).fs) false true (n - j - 1) = st n (j + 1) false
  unfold st
  rw [show n - j - 1 = n - (j + 1) from by omega]
  have : Dk.putL [97] ⟨(Dk.fileOr (Dk.getL [97] (fs j))).data ++ [120], (Dk.fileOr (Dk.getL [97] (fs j))).safe⟩ (fs j) = fs (j + 1) := by
    rw [get_a, fs_pos]
    unfold fs
    split
    · rename_i e
      subst e
      rfl
    · rw [List.replicate_succ']
      rfl
  rw [this]

theorem burnt_end (n : Nat) (b : Bool) : Dk.burnt (st n n b) = true := by unfold Dk.burnt st; simp

theorem app_down (n : Nat) (b : Bool) (hn : n ≤ 100) : Dk.appendE (st n n b) [97] [120] = 11 ∧ Dk.appendS (st n n b) [97] [120] = st n n true := by
  have ok : Dk.okName [97] = true := by decide
  have hb := burnt_end n b
  have hl := long_no n n b hn
  unfold Dk.appendE Dk.appendS
  rw [ok, hl, hb]
  refine ⟨changeE_burnt hb, ?_⟩
  simp only [Bool.false_eq_true, if_true, if_false]
  unfold Dk.changeS
  rw [hb]
  rfl

theorem sync_down (n : Nat) (b : Bool) (hn : 0 < n) : Dk.syncE (st n n b) [97] = 11 ∧ Dk.syncS (st n n b) [97] = st n n true := by
  have ok : Dk.okName [97] = true := by decide
  have hb := burnt_end n b
  have e : Dk.findE (st n n b) [97] = 0 := by
    unfold Dk.findE
    rw [ok, show (st n n b).fs = fs n from rfl, get_p n hn]
    rfl
  unfold Dk.syncE Dk.syncS
  rw [if_pos e, if_pos e, hb]
  refine ⟨changeE_burnt hb, ?_⟩
  simp only [if_true]
  unfold Dk.changeS
  rw [hb]
  rfl

theorem read_pos (n : Nat) (b : Bool) (hn : 0 < n) : Dk.findE (st n n b) [97] = 0 ∧ Dk.readV (st n n b) [97] = List.replicate n 120 := by
  have ok : Dk.okName [97] = true := by decide
  have e : Dk.findE (st n n b) [97] = 0 := by
    unfold Dk.findE
    rw [ok, show (st n n b).fs = fs n from rfl, get_p n hn]
    rfl
  refine ⟨e, ?_⟩
  unfold Dk.readV
  rw [if_pos e, show (st n n b).fs = fs n from rfl, get_p n hn]
  rfl

def end1 (n : Nat) : Dk.Dsk := ⟨if n = 0 then [] else [([97], ⟨[], 0⟩)], false, false, 0⟩
theorem crash_end (n : Nat) (b : Bool) : Dk.crashS (st n n b) [] = end1 n := by
  unfold Dk.crashS
  rw [if_neg (by simp)]
  show Dk.Dsk.mk (Dk.crashL (fs n) []) false false 0 = end1 n
  unfold end1 fs
  by_cases h : n = 0
  · subst h; rfl
  · simp only [h, if_false]
    have : (List.replicate n (120 : UInt8)).length ≠ 0 := by simp; exact h
    simp [Dk.crashL, h, Dk.tearF, Dk.keep]

def end2 (n : Nat) : Dk.Dsk := ⟨(if n = 0 then [] else [([97], ⟨[], 0⟩)]) ++ [([98], ⟨[120], 0⟩)], false, false, 0⟩
theorem app_b (n : Nat) : Dk.appendE (end1 n) [98] [120] = 0 ∧ Dk.appendS (end1 n) [98] [120] = end2 n := by
  unfold end1 end2
  split <;> exact ⟨rfl, rfl⟩
def end3 (n : Nat) : Dk.Dsk := Dk.syncS (end2 n) [98]
theorem sync_b (n : Nat) : Dk.syncE (end2 n) [98] = 0 := by
  unfold end2
  split <;> rfl

set_option maxRecDepth 100000 in
set_option maxHeartbeats 2000000 in
theorem walk (a0 a1 : Int) (w : World) :
    Calls Try.prog 8 #[.int .i64 a0, .int .i64 a1] w fun e w' => e = .returned (.bool true) ∧ Below w.heap.size w w' := by
  have p1 := Int.emod_nonneg a0 (show (50 : Int) ≠ 0 by omega)
  have p2 := Int.emod_lt_of_pos a0 (show (0 : Int) < 50 by omega)
  have p3 := Int.emod_nonneg a1 (show (3 : Int) ≠ 0 by omega)
  have p4 := Int.emod_lt_of_pos a1 (show (0 : Int) < 3 by omega)
  obtain ⟨n, hn⟩ := Int.eq_ofNat_of_zero_le p1
  obtain ⟨bd, hbd⟩ := Int.eq_ofNat_of_zero_le p3
  have A1 : Hid (∀ W, Calls Try.prog 15 #[.int .i64 a0, .int .i64 50] W fun e w' => e = .returned (.int .i64 (n : Int)) ∧ W = w') := fun W => by have := among_any a0 50 W (by omega) (by omega); rw [hn] at this; exact this
  have A2 : Hid (∀ W, Calls Try.prog 15 #[.int .i64 a1, .int .i64 3] W fun e w' => e = .returned (.int .i64 (bd : Int)) ∧ W = w') := fun W => by have := among_any a1 3 W (by omega) (by omega); rw [hbd] at this; exact this
  have hn50 : n < 50 := by omega
  have hb3 : bd < 3 := by omega
  clear p1 p2 p3 p4 hn hbd
  go_enter Try.func8, Try.ntmps8
  go_wp2_with fail
  refine (has_new _).mono ?_
  rintro e u1 ⟨rfl, H1⟩
  go_wp2_with fail
  refine (works_any _).mono ?_
  rintro e u2 ⟨rfl, H2⟩
  have H3 := H1.below H2
  clear H1 H2
  go_wp2_with fail
  refine (A1.out _).mono ?_
  rintro e u3 ⟨rfl, rfl⟩
  go_wp2_with fail
  refine (A2.out _).mono ?_
  rintro e u3 ⟨rfl, rfl⟩
  go_wp2_with fail
  refine (has_fuse (n : Int) _ H3 (by omega) (fuse0 n).1 (fuse0 n).2).mono ?_
  rintro e u4 ⟨rfl, H4⟩
  clear H3
  go_wp2_with fail
  go_loopw [24] (fun i wr => ∃ j : Nat, j ≤ n ∧ i = .int .i64 j ∧ Has w.heap.size w wr (w.heap.size + 1) (st n j false)) (fun i _ => n - (intOf i).toNat)
  case atStart => exact ⟨0, Nat.zero_le _, rfl, H4⟩
  case round =>
    obtain ⟨j, hj, rfl, HJ⟩ := hrel
    clear H4
    by_cases hlt : j < n
    · go_wp2_with fail
      go_loopw [27] (fun i wr => ∃ k : Nat, k ≤ bd ∧ i = .int .i64 k ∧ Has w.heap.size w wr (w.heap.size + 1) (st n j false)) (fun i _ => bd - (intOf i).toNat)
      case atStart => exact ⟨0, Nat.zero_le _, rfl, HJ⟩
      case round =>
        obtain ⟨k, hk, rfl, HK⟩ := hrel
        clear HJ
        by_cases hlk : k < bd
        · go_wp2_with fail
          refine (has_sync ⟨#[110, 111, 110, 101]⟩ _ HK (by decide) (sync_none n j false).1 (sync_none n j false).2).mono ?_
          rintro e u5 ⟨rfl, H5⟩
          go_wp2_with fail
          refine (has_append ⟨#[]⟩ ⟨#[120]⟩ _ H5 (by decide) (by decide) (app_bad _ _).1 (app_bad _ _).2).mono ?_
          rintro e u6 ⟨rfl, H6⟩
          go_wp2_with fail
          go_roundw
          case rel => exact ⟨k + 1, by omega, by go_num, H6⟩
          case measure => simp [intOf]; omega
        · go_wp2_with fail
          refine (has_append ⟨#[97]⟩ ⟨#[120]⟩ _ HK (by decide) (by decide) (app_a n j hlt (by omega)).1 (app_a n j hlt (by omega)).2).mono ?_
          rintro e u7 ⟨rfl, H7⟩
          go_wp2_with fail
          go_roundw
          case rel => exact ⟨j + 1, by omega, by go_num, H7⟩
          case measure => simp [intOf]; omega
    · obtain rfl : j = n := by omega
      go_wp2_with fail
      go_loopw [42] (fun i wr => ∃ k : Nat, k ≤ 3 ∧ i = .int .i64 k ∧ ∃ b, Has w.heap.size w wr (w.heap.size + 1) (st j j b)) (fun i _ => 3 - (intOf i).toNat)
      case atStart => exact ⟨0, Nat.zero_le _, rfl, _, HJ⟩
      case round =>
        obtain ⟨k, hk, rfl, b, HK⟩ := hrel
        clear HJ
        by_cases hlk : k < 3
        · have hlk' : (k : Int) < 3 := by omega
          by_cases hp : (0 : Int) < (j : Int)
          · go_wp2_with fail
            refine (has_append ⟨#[97]⟩ ⟨#[120]⟩ _ HK (by decide) (by decide) (app_down j b (by omega)).1 (app_down j b (by omega)).2).mono ?_
            rintro e u5 ⟨rfl, H5⟩
            go_wp2_with fail
            refine (has_sync ⟨#[97]⟩ _ H5 (by decide) (sync_down j true (by omega)).1 (sync_down j true (by omega)).2).mono ?_
            rintro e u6 ⟨rfl, H6⟩
            go_wp2_with fail
            go_roundw
            case rel => exact ⟨k + 1, by omega, by go_num, _, H6⟩
            case measure => simp [intOf]; omega
          · go_wp2_with fail
            refine (has_append ⟨#[97]⟩ ⟨#[120]⟩ _ HK (by decide) (by decide) (app_down j b (by omega)).1 (app_down j b (by omega)).2).mono ?_
            rintro e u5 ⟨rfl, H5⟩
            go_wp2_with fail
            go_roundw
            case rel => exact ⟨k + 1, by omega, by go_num, _, H5⟩
            case measure => simp [intOf]; omega
        · have hlk' : ¬ (k : Int) < 3 := by omega
          by_cases hp : (0 : Int) < (j : Int)
          · obtain ⟨sB, hsB⟩ : ∃ sB : ByteArray, sB = ⟨(List.replicate j (120 : UInt8)).toArray⟩ := ⟨_, rfl⟩
            have hsz : sB.size = j := by rw [hsB]; simp only [ByteArray.size, List.size_toArray, List.length_replicate]
            have HR := has_read ⟨#[97]⟩ _ HK (by decide) (read_pos j b (by omega)).1 (read_pos j b (by omega)).2
            rw [← hsB] at HR
            have hq : ((sB.size : Int) != (j : Int)) = false := by rw [hsz]; simp
            clear hsB hsz
            go_wp2_with fail
            refine HR.mono ?_
            rintro e u5 ⟨rfl, rfl⟩
            clear HR
            go_wp2_with fail
            refine (has_crash_nil _ HK (crash_end j b)).mono ?_
            rintro e u6 ⟨rfl, H6⟩
            go_wp2_with fail
            refine (has_append ⟨#[98]⟩ ⟨#[120]⟩ _ H6 (by decide) (by decide) (app_b j).1 (app_b j).2).mono ?_
            rintro e u7 ⟨rfl, H7⟩
            go_wp2_with fail
            refine (has_sync ⟨#[98]⟩ _ H7 (by decide) (sync_b j) rfl).mono ?_
            rintro e u8 ⟨rfl, H8⟩
            go_wp2_with fail
            go_ret
            exact ⟨rfl, H8.pull⟩
          · go_wp2_with fail
            refine (has_read ⟨#[97]⟩ _ HK (by decide) rfl rfl).mono ?_
            rintro e u5 ⟨rfl, rfl⟩
            go_wp2_with fail
            refine (has_crash_nil _ HK (crash_end j b)).mono ?_
            rintro e u6 ⟨rfl, H6⟩
            go_wp2_with fail
            refine (has_append ⟨#[98]⟩ ⟨#[120]⟩ _ H6 (by decide) (by decide) (app_b j).1 (app_b j).2).mono ?_
            rintro e u7 ⟨rfl, H7⟩
            go_wp2_with fail
            refine (has_sync ⟨#[98]⟩ _ H7 (by decide) (sync_b j) rfl).mono ?_
            rintro e u8 ⟨rfl, H8⟩
            go_wp2_with fail
            go_ret
            exact ⟨rfl, H8.pull⟩

set_option maxRecDepth 100000 in
theorem lifted (os : Os) (started : os.Started) (H : Type) (enc : TypeId × Value → H) :
    ReturnsInHanded {} Try.checked os 8 .any (Rows.diskFusesSpec.pre6 enc Try.prog Try.f8 Rows.diskFusesRow.domain false) (Rows.diskFusesSpec.post enc Try.prog Try.f8 false true false false) := by
  refine returnsInHanded_of_change (C := Try.checked) own started (by kernel_rfl) Try.func8
    (ChangeSpec.witness6 (enc := enc) (C := Try.checked) false ⟨#[], #[.int .i64 0, .int .i64 0], []⟩ 8 (by kernel_rfl) (by kernel_rfl) (by kernel_rfl) (by kernel_rfl)) ?_
  intro W base args ds gs before hval0 hW hcnd _
  have hval : ∀ (j : Nat) t v, Try.f8.params[j]? = some t → args[j]? = some v → Value.okWide Try.prog W .any base t v := hval0
  have hW' := hW
  obtain ⟨p, q, hA0, hV, rfl, hfz, hnd⟩ := hW
  have hA : DataW.TrodAll enc Try.prog W 0 (fun _ => true) true Try.f8.params.toList args.toList ds p := hA0
  rw [Try.params8] at hA hval
  obtain ⟨v0, vs0, d0, ds0, p0, q0, hargs, rfl, rfl, h0, r0⟩ := trodAll_cons hA
  obtain ⟨v1, vs1, d1, ds1, p1, q1, rfl, rfl, rfl, h1, r1⟩ := trodAll_cons r0
  obtain ⟨rfl, rfl, rfl⟩ := trodAll_nil r1
  obtain rfl : args = #[v0, v1] := by cases args; simp_all
  obtain ⟨rfl, rfl⟩ := trodVars_none hV
  obtain ⟨a0, rfl, rfl, rfl, w0⟩ := open_int Try.underlying3 (hval 0 3 v0 rfl rfl) h0
  obtain ⟨a1, rfl, rfl, rfl, w1⟩ := open_int Try.underlying3 (hval 1 3 v1 rfl rfl) h1
  clear hA0 hval0
  refine (walk a0 a1 W).mono fun e W' ⟨he, bel⟩ => ?_
  subst he
  exact ⟨_, rfl, _, _, _, [], _, [], hW', trodAll_mk1 (shut_bool Try.underlying4 _), (trodAll_cons_mk (shut_int Try.underlying3 w0) (trodAll_cons_mk (shut_int Try.underlying3 w1) trodAll_mk0)), rfl, bel.frame _, fun h => by cases h⟩

end Go.Proofs.Ytbiombolpfhdlaa.Fuses

namespace Go.Proofs.Ytbiombolpfhdlaa
theorem diskFuses_holds : Rows.DiskFusesSaid :=
  OpenClaim.holds_of_wide 8 Try.f8 rfl rfl rfl rfl rfl rfl rfl ⟨rfl, rfl, rfl, rfl, rfl⟩ rfl rfl rfl rfl rfl (by kernel_rfl) Try.func8 (by kernel_rfl)
    (of_decide_eq_true (by kernel_rfl)) (by unfold Func.isWrapper; first | (rw [if_pos (by decide +kernel)]; kernel_rfl) | (rw [if_neg (by decide +kernel)]; exact ⟨rfl, rfl⟩))
    (fun os started H enc _ => Fuses.lifted os started H enc)
end Go.Proofs.Ytbiombolpfhdlaa
