/- NodeUndone's walk. -/
import Derived.Test.YtnnkflghnapnpaaNWorks
namespace Go.Proofs.Ytnnkflghnapnpaa
open Go.RowKit

def wdv (u : Nat) (l : List Nat) : Int := ((val (u :: l) : Nat) : Int)
section
variable {W : Int} {u : Nat} {l : List Nat}

theorem Wd.is (h : Wd W u l) : W = wdv u l := h.eq

theorem insert_to (h : Wd W u l) (hm : May l) (hu : u < 15) {x : Int} {a : Nat} (hx : x = a) (ha : a ≤ u) (w : World) :
    Calls Try.prog 9 #[.int .u64 W, .int .i64 x] w fun e w' => e = .returned (.tuple #[.int .u64 (wdv (u + 1) (insW l u a)), .int .i64 ((l.getD u 0 : Nat) : Int), .int .i64 0]) ∧ w' = w :=
  (insert_ok h hm hu hx ha w).mono fun e w' ⟨W', h1, h2, h3⟩ => ⟨by rw [h2, h1.is]; rfl, h3⟩
theorem remove_to (h : Wd W u l) (hm : May l) {x : Int} {a : Nat} (hx : x = a) (ha : a < u) (w : World) :
    Calls Try.prog 11 #[.int .u64 W, .int .i64 x] w fun e w' => e = .returned (.tuple #[.int .u64 (wdv (u - 1) (remW l u a)), .int .i64 ((l.getD a 0 : Nat) : Int), .int .i64 0]) ∧ w' = w :=
  (remove_ok h hm hx ha w).mono fun e w' ⟨W', h1, h2, h3⟩ => ⟨by rw [h2, h1.is]; rfl, h3⟩
theorem Wd.insTo (h : Wd W u l) {a : Nat} (hu : u < 15) (ha : a ≤ u) : Wd (wdv (u + 1) (insW l u a)) (u + 1) (insW l u a) := by
  have := h.ins hu ha rfl
  rw [← this.is]
  exact this
theorem Wd.remTo (h : Wd W u l) {a : Nat} (ha : a < u) : Wd (wdv (u - 1) (remW l u a)) (u - 1) (remW l u a) := by
  have := h.rem ha rfl
  rw [← this.is]
  exact this

theorem insert_case (h : Wd W u l) (x : Int) : (∃ E : Int, E ≠ 0 ∧ ∀ v : World, Calls Try.prog 9 #[.int .u64 W, .int .i64 x] v fun e w' => e = .returned (.tuple #[.int .u64 0, .int .i64 0, .int .i64 E]) ∧ w' = v) ∨ (May l ∧ u < 15 ∧ ∃ a : Nat, x = a ∧ a ≤ u) := by
  by_cases hm : May l
  · by_cases hu : u = 15
    · exact Or.inl ⟨120, by decide, fun v => insert_full h hm hu x v⟩
    · have hu2 := h.u16
      by_cases hx : 0 ≤ x ∧ x ≤ u
      · exact Or.inr ⟨hm, by omega, x.toNat, by omega, by omega⟩
      · exact Or.inl ⟨1, by decide, fun v => insert_range h hm (by omega) hx v⟩
  · exact Or.inl ⟨4, by decide, fun v => insert_shape h hm x v⟩

theorem May.insW (h : May l) (hl : l.length = 15) {a : Nat} (hu : u < 15) (ha : a ≤ u) : May (insW l u a) := h.ins (by omega) a (by omega)
theorem May.remW (h : May l) (hl : l.length = 15) {a : Nat} (hu : u < 16) (ha : a < u) : May (remW l u a) := h.ins (by omega) (u - 1) (by omega)

theorem next_other (hm : May l) (hl : l.length = 15) {a : Nat} (hu : u + 1 < 15) (ha : a ≤ u) : (insW l u a).getD (u + 1) 0 ≠ l.getD u 0 := by
  have h1 := hm.insW hl (a := a) (by omega) ha
  have hlen : (insW l u a).length = 15 := ins_length hl (by omega) (by omega)
  rw [← (rem_ins hl (by omega) ha).2, getD_of (by omega), getD_of (by omega)]
  intro e
  have h2 := (List.getElem?_inj (i := u + 1) (j := a) (by omega) h1.1).1 (by
    rw [List.getElem?_eq_getElem (by omega), List.getElem?_eq_getElem (by omega), e])
  omega
end

namespace Undone
set_option maxRecDepth 100000 in
set_option maxHeartbeats 1000000 in
theorem walk (W x z : Int) (w : World) (h0 : 0 ≤ W) (h1 : W < 18446744073709551616) : Calls Try.prog 8 #[.int .u64 W, .int .i64 x, .int .i64 z] w fun e w' => e = .returned (.bool true) ∧ Below w.heap.size w w' := by
  obtain ⟨u, l, hW⟩ := wd_of h0 h1
  have HK : Hid (∀ v : World, Calls Try.prog 17 #[] v fun e w' => e = .returned (.bool true) ∧ w' = v) := works_any
  rcases insert_case hW x with ⟨E, hE, hI⟩ | ⟨hm, hu, a, hx, ha⟩
  · have HI : Hid (∀ v : World, Calls Try.prog 9 #[.int .u64 W, .int .i64 x] v fun e w' => e = .returned (.tuple #[.int .u64 0, .int .i64 0, .int .i64 E]) ∧ w' = v) := hI
    have hb : (E != 0) = true := bne_iff_ne.2 hE
    clear hI hW
    go_enter Try.func8, Try.ntmps8
    go_wp2_with (first | (go_at_call 17; go_must (refine (HK.out _).mono ?_; rintro e w1 ⟨rfl, rfl⟩)) | (go_at_call 9; go_must (refine (HI.out _).mono ?_; rintro e w1 ⟨rfl, rfl⟩)))
    go_ret
    exact ⟨rfl, Below.refl _ _⟩
  · have hl := hW.len
    have hA := hW.insTo hu ha
    have hmA := hm.insW hl hu ha
    have hlA := hA.len
    have hI := insert_to hW hm hu hx ha
    have hR := remove_to hA hmA hx (by omega)
    have hC := check_any hA
    rw [(rem_ins hl hu ha).1, (rem_ins hl hu ha).2, Nat.add_sub_cancel, ← hW.is] at hR
    rw [chk_yes hmA] at hC
    have hno := next_other hm hl (u := u) (a := a)
    obtain ⟨A, hAe⟩ : ∃ A : Int, wdv (u + 1) (insW l u a) = A := ⟨_, rfl⟩
    obtain ⟨s, hs⟩ : ∃ s : Int, ((l.getD u 0 : Nat) : Int) = s := ⟨_, rfl⟩
    rw [hAe] at hA hI hR hC
    rw [hs] at hI hR
    have HI : Hid (∀ v : World, Calls Try.prog 9 #[.int .u64 W, .int .i64 x] v fun e w' => e = .returned (.tuple #[.int .u64 A, .int .i64 s, .int .i64 0]) ∧ w' = v) := hI
    have HR : Hid (∀ v : World, Calls Try.prog 11 #[.int .u64 A, .int .i64 x] v fun e w' => e = .returned (.tuple #[.int .u64 W, .int .i64 s, .int .i64 0]) ∧ w' = v) := hR
    have HC : Hid (∀ v : World, Calls Try.prog 15 #[.int .u64 A] v fun e w' => e = .returned (.int .i64 0) ∧ w' = v) := hC
    rcases insert_case hA z with ⟨E, hE, hJ⟩ | ⟨_, hu2, b, hz, hb⟩
    · have HJ : Hid (∀ v : World, Calls Try.prog 9 #[.int .u64 A, .int .i64 z] v fun e w' => e = .returned (.tuple #[.int .u64 0, .int .i64 0, .int .i64 E]) ∧ w' = v) := hJ
      have hb : (E != 0) = true := bne_iff_ne.2 hE
      clear hI hR hC hJ hW hA hmA hAe hs hno hl hlA hm hx ha hu
      go_enter Try.func8, Try.ntmps8
      go_wp2_with fail
      refine (HK.out _).mono ?_
      rintro e w1 ⟨rfl, rfl⟩
      go_wp2_with fail
      refine (HI.out _).mono ?_
      rintro e w1 ⟨rfl, rfl⟩
      go_wp2_with fail
      refine (HR.out _).mono ?_
      rintro e w1 ⟨rfl, rfl⟩
      go_wp2_with fail
      refine (HC.out _).mono ?_
      rintro e w1 ⟨rfl, rfl⟩
      go_wp2_with fail
      refine (HJ.out _).mono ?_
      rintro e w1 ⟨rfl, rfl⟩
      go_wp2_with fail
      go_ret
      exact ⟨rfl, Below.refl _ _⟩
    · have hJ := insert_to hA hmA hu2 hz hb
      have hA2 := hA.insTo hu2 hb
      have hm2 := hmA.insW hlA hu2 hb
      have hS := remove_to hA2 hm2 hz (by omega)
      rw [(rem_ins hlA hu2 hb).1, (rem_ins hlA hu2 hb).2, Nat.add_sub_cancel, ← hA.is] at hS
      have hne := hno hu2 ha
      obtain ⟨B, hBe⟩ : ∃ B : Int, wdv (u + 1 + 1) (insW (insW l u a) (u + 1) b) = B := ⟨_, rfl⟩
      obtain ⟨t, ht⟩ : ∃ t : Int, (((insW l u a).getD (u + 1) 0 : Nat) : Int) = t := ⟨_, rfl⟩
      rw [hBe] at hJ hS
      rw [ht] at hJ hS
      have htne : (t != s) = true := bne_iff_ne.2 (by omega)
      have htn : ¬ t = s := by omega
      have HJ : Hid (∀ v : World, Calls Try.prog 9 #[.int .u64 A, .int .i64 z] v fun e w' => e = .returned (.tuple #[.int .u64 B, .int .i64 t, .int .i64 0]) ∧ w' = v) := hJ
      have HS : Hid (∀ v : World, Calls Try.prog 11 #[.int .u64 B, .int .i64 z] v fun e w' => e = .returned (.tuple #[.int .u64 A, .int .i64 t, .int .i64 0]) ∧ w' = v) := hS
      clear hI hR hC hJ hW hA hmA hAe hs hno hl hlA hm hx ha hu hS hA2 hm2 hne hBe ht hz hb hu2
      go_enter Try.func8, Try.ntmps8
      go_wp2_with fail
      refine (HK.out _).mono ?_
      rintro e w1 ⟨rfl, rfl⟩
      go_wp2_with fail
      refine (HI.out _).mono ?_
      rintro e w1 ⟨rfl, rfl⟩
      go_wp2_with fail
      refine (HR.out _).mono ?_
      rintro e w1 ⟨rfl, rfl⟩
      go_wp2_with fail
      refine (HC.out _).mono ?_
      rintro e w1 ⟨rfl, rfl⟩
      go_wp2_with fail
      refine (HJ.out _).mono ?_
      rintro e w1 ⟨rfl, rfl⟩
      go_wp2_with fail
      refine (HS.out _).mono ?_
      rintro e w1 ⟨rfl, rfl⟩
      go_wp2_with fail
      go_ret
      exact ⟨rfl, Below.refl _ _⟩
end Undone

end Go.Proofs.Ytnnkflghnapnpaa
