/- A net and the reference: each call answers the same of both, and leaves the same. -/
import Derived.Test.YthfmppghdlniiaaSBad
namespace Go.Proofs.Ythfmppghdlniiaa
open Go.RowKit

structure WF (R : List Wy) (B : Nat) : Prop where
  ok : ∀ y ∈ R, y.Ok
  bnd : ∀ y ∈ R, y.all.size ≤ B
  even : R.length % 2 = 0

theorem WF.more {R : List Wy} {B : Nat} (h : WF R B) : WF R (B + 262144) := ⟨h.ok, fun y hy => by have := h.bnd y hy; omega, h.even⟩
theorem WF.set {R : List Wy} {B : Nat} (h : WF R B) {d : Wy} (hd : d.Ok) (hs : d.all.size ≤ B + 262144) (i : Nat) : WF (R.set i d) (B + 262144) := by
  refine ⟨fun y hy => ?_, fun y hy => ?_, by rw [List.length_set]; exact h.even⟩
  · rcases List.mem_or_eq_of_mem_set hy with hy | rfl
    · exact h.ok y hy
    · exact hd
  · rcases List.mem_or_eq_of_mem_set hy with hy | rfl
    · have := h.bnd y hy; omega
    · exact hs

namespace Wy
theorem wrS_dr (d : Wy) (h : d.Ok) (x : ByteArray) : (d.wrS x).dr = d.dr.wrS x.data.toList := by
  have h1 := h.taken
  have h2 := h.came
  have hl : x.data.toList.length = x.size := rfl
  have e : d.dr.shut = d.shut := rfl
  unfold Wy.wrS Dr.wrS
  rw [e, Wy.dr_len, hl]
  split
  · rfl
  · split
    · rfl
    · unfold Wy.dr
      have : (d.all ++ x).data.toList.drop d.taken = d.all.data.toList.drop d.taken ++ x.data.toList := by
        rw [ByteArray.data_append, Array.toList_append, List.drop_append_of_le_length]
        show d.taken ≤ d.all.size
        omega
      rw [this]
theorem wrS_ok (d : Wy) (h : d.Ok) (x : ByteArray) : (d.wrS x).Ok := by
  unfold Wy.wrS
  split
  · exact h
  · split
    · exact h
    · exact ⟨h.taken, by show d.came ≤ (d.all ++ x).size; rw [ByteArray.size_append]; have := h.came; omega⟩
theorem wrS_size (d : Wy) (h : d.Ok) (x : ByteArray) {B : Nat} (hB : d.all.size ≤ B) : (d.wrS x).all.size ≤ B + 262144 := by
  have h1 := h.taken
  have h2 := h.came
  unfold Wy.wrS
  split
  · omega
  · split
    · omega
    · show (d.all ++ x).size ≤ _
      rw [ByteArray.size_append]
      omega
theorem arN_dr (d : Wy) (h : d.Ok) (m : Nat) : d.arN m = d.dr.arN m := by
  have h1 := h.taken
  have h2 := h.came
  unfold Wy.arN Dr.arN
  rw [Wy.dr_len]
  show _ = min m (d.all.size - d.taken - (d.came - d.taken))
  rw [show d.all.size - d.taken - (d.came - d.taken) = d.all.size - d.came from by omega]
theorem arS_dr (d : Wy) (h : d.Ok) (m : Nat) : (d.arS m).dr = d.dr.arS m := by
  have h1 := h.taken
  unfold Dr.arS
  rw [← arN_dr d h]
  show Dr.mk (d.all.data.toList.drop d.taken) (d.came + d.arN m - d.taken) d.shut = Dr.mk (d.all.data.toList.drop d.taken) (d.came - d.taken + d.arN m) d.shut
  rw [show d.came + d.arN m - d.taken = d.came - d.taken + d.arN m from by omega]
theorem arS_ok (d : Wy) (h : d.Ok) (m : Nat) : (d.arS m).Ok := by
  have h1 := h.taken
  have h2 := h.came
  have h3 : d.arN m ≤ d.all.size - d.came := Nat.min_le_right _ _
  exact ⟨by show d.taken ≤ d.came + d.arN m; omega, by show d.came + d.arN m ≤ d.all.size; omega⟩
theorem rdN_dr (d : Wy) (m : Nat) : d.rdN m = d.dr.rdN m := rfl
theorem rdS_dr (d : Wy) (m : Nat) : (d.rdS m).dr = d.dr.rdS m := by
  unfold Dr.rdS
  rw [← rdN_dr]
  show Dr.mk (d.all.data.toList.drop (d.taken + d.rdN m)) (d.came - (d.taken + d.rdN m)) d.shut = Dr.mk ((d.all.data.toList.drop d.taken).drop (d.rdN m)) (d.came - d.taken - d.rdN m) d.shut
  rw [List.drop_drop, Nat.sub_sub]
theorem rdS_ok (d : Wy) (h : d.Ok) (m : Nat) : (d.rdS m).Ok := by
  have h1 := h.taken
  have h3 : d.rdN m ≤ d.came - d.taken := Nat.min_le_right _ _
  exact ⟨by show d.taken + d.rdN m ≤ d.came; omega, h.came⟩
theorem rd_text (d : Wy) (m : Nat) : (⟨(d.dr.q.take (d.dr.rdN m)).toArray⟩ : ByteArray) = d.all.extract d.taken (d.taken + d.rdN m) := by
  apply ByteArray.ext
  apply Array.ext'
  rw [ByteArray.data_extract, Array.toList_extract, List.extract_eq_take_drop, ← rdN_dr, Nat.add_sub_cancel_left]
  rfl
theorem clS_dr (d : Wy) : d.clS.dr = d.dr.clS := rfl
theorem clE_dr (d : Wy) : (if d.shut then (20 : Int) else 0) = d.dr.clE := rfl
end Wy

theorem map_set_dr {R : List Wy} (i : Nat) (d : Wy) : (R.set i d).map Wy.dr = (R.map Wy.dr).set i d.dr := List.map_set
theorem map_get_dr {R : List Wy} {i : Nat} {d : Wy} (h : R[i]? = some d) : (R.map Wy.dr)[i]? = some d.dr := by rw [List.getElem?_map, h]; rfl

/-- good arguments -/
theorem good_args {R : List Wy} {B : Nat} (h : WF R B) {c d : Int} (h0 : rbadE R.length c d = 0) : ∃ j t : Nat, c = (j : Int) ∧ d = (t : Int) ∧ t < 2 ∧ 2 * j + 1 < R.length := by
  unfold rbadE at h0
  by_cases h1 : c < 0 ∨ (R.length : Int) ≤ 2 * c
  · rw [if_pos h1] at h0; omega
  · rw [if_neg h1] at h0
    by_cases h2 : d = 0 ∨ d = 1
    · have he := h.even
      exact ⟨c.toNat, d.toNat, by omega, by omega, by omega, by omega⟩
    · rw [if_neg h2] at h0; omega

section
variable {n r : Nat} {R : List Wy} {B : Nat}

theorem rclose_ok {F : Nat → Prop} (j t : Nat) (w : World) {d : Wy} (hI : RefI r R w F) (ht : t < 2) (hd : R[2 * j + (1 - t)]? = some d) :
    Calls Try.prog 24 #[.pointer (some ⟨r, 0, none⟩), .int .i64 (j : Int), .int .i64 (t : Int)] w fun e w' => e = .returned (.int .i64 d.dr.clE) ∧ Goes (RefI r (R.set (2 * j + (1 - t)) d.clS)) w w' F := by
  match t, ht with
  | 0, _ => exact rclose_0 _ j w hI rfl hd
  | 1, _ => exact rclose_1 _ j w hI rfl hd

theorem rended_ok {F : Nat → Prop} (j t : Nat) (w : World) {d : Wy} (hI : RefI r R w F) (ht : t < 2) (hd : R[2 * j + t]? = some d) :
    Calls Try.prog 25 #[.pointer (some ⟨r, 0, none⟩), .int .i64 (j : Int), .int .i64 (t : Int)] w fun e w' => e = .returned (.tuple #[.bool d.dr.enV, .int .i64 0]) ∧ Goes (RefI r R) w w' F := by
  match t, ht with
  | 0, _ => exact rended_0 _ j w hI rfl hd
  | 1, _ => exact rended_1 _ j w hI rfl hd

theorem rpending_ok {F : Nat → Prop} (j t : Nat) (w : World) {d : Wy} (hI : RefI r R w F) (ht : t < 2) (hd : R[2 * j + t]? = some d) (hB : d.all.size ≤ 1000000000) :
    Calls Try.prog 26 #[.pointer (some ⟨r, 0, none⟩), .int .i64 (j : Int), .int .i64 (t : Int)] w fun e w' => e = .returned (.tuple #[.int .i64 ((d.dr.q.length - d.dr.here : Nat) : Int), .int .i64 (d.dr.here : Int), .int .i64 0]) ∧ Goes (RefI r R) w w' F := by
  match t, ht with
  | 0, _ => exact rpending_0 _ j w hI rfl hd hB
  | 1, _ => exact rpending_1 _ j w hI rfl hd hB

theorem rarrive_ok {F : Nat → Prop} (j t : Nat) (m : Int) (w : World) {d : Wy} (hI : RefI r R w F) (ht : t < 2) (hd : R[2 * j + t]? = some d) (hm : 0 ≤ m) (hB : d.all.size ≤ 1000000000) :
    Calls Try.prog 22 #[.pointer (some ⟨r, 0, none⟩), .int .i64 (j : Int), .int .i64 (t : Int), .int .i64 m] w fun e w' => e = .returned (.tuple #[.int .i64 (d.arN m.toNat : Int), .int .i64 0]) ∧ Goes (RefI r (R.set (2 * j + t) (d.arS m.toNat))) w w' F := by
  match t, ht with
  | 0, _ => exact rarrive_0 _ j m w hI rfl hd hm hB
  | 1, _ => exact rarrive_1 _ j m w hI rfl hd hm hB

theorem rread_ok {F : Nat → Prop} (j t : Nat) (m : Int) (w : World) {d : Wy} (hI : RefI r R w F) (ht : t < 2) (hd : R[2 * j + t]? = some d) (hm : 0 ≤ m) (hB : d.all.size ≤ 1000000000) :
    Calls Try.prog 23 #[.pointer (some ⟨r, 0, none⟩), .int .i64 (j : Int), .int .i64 (t : Int), .int .i64 m] w fun e w' => e = .returned (.tuple #[.string (d.all.extract d.taken (d.taken + d.rdN m.toNat)), .int .i64 0]) ∧ Goes (RefI r (R.set (2 * j + t) (d.rdS m.toNat))) w w' F := by
  match t, ht with
  | 0, _ => exact rread_0 _ j m w hI rfl hd hm hB
  | 1, _ => exact rread_1 _ j m w hI rfl hd hm hB

theorem rwrite_ok {F : Nat → Prop} (j t : Nat) (x : ByteArray) (w : World) {d : Wy} (hI : RefI r R w F) (ht : t < 2) (hd : R[2 * j + (1 - t)]? = some d) (hB : d.all.size ≤ 1000000000) (hx : x.size ≤ reachBytes) :
    Calls Try.prog 21 #[.pointer (some ⟨r, 0, none⟩), .int .i64 (j : Int), .int .i64 (t : Int), .string x] w fun e w' => e = .returned (.int .i64 (d.dr.wrE x.size)) ∧ Goes (RefI r (R.set (2 * j + (1 - t)) (d.wrS x))) w w' F := by
  match t, ht with
  | 0, _ => exact rwrite_0 _ j x w hI rfl hd hB hx
  | 1, _ => exact rwrite_1 _ j x w hI rfl hd hB hx

theorem both_write (h : WF R B) (hB : B ≤ 1000000000) (c d : Int) (x : ByteArray) (hx : x.size ≤ reachBytes) :
    ∃ (E : Int) (R' : List Wy), WF R' (B + 262144) ∧
      (∀ w F, NetI n (R.map Wy.dr) w F → Calls Try.prog 14 #[.pointer (some ⟨n, 0, none⟩), .int .i64 c, .int .i64 d, .string x] w fun e w' => e = .returned (.int .i64 E) ∧ Goes (NetI n (R'.map Wy.dr)) w w' F) ∧
      (∀ w F, RefI r R w F → Calls Try.prog 21 #[.pointer (some ⟨r, 0, none⟩), .int .i64 c, .int .i64 d, .string x] w fun e w' => e = .returned (.int .i64 E) ∧ Goes (RefI r R') w w' F) := by
  by_cases h0 : rbadE R.length c d = 0
  rotate_left
  · refine ⟨rbadE R.length c d, R, h.more, fun w F hI => ?_, fun w F hI => ?_⟩
    · refine (write_bad c d (rbadE R.length c d) x w hI (badE_len c d) h0).mono ?_
      rintro e w' ⟨rfl, rfl⟩
      exact ⟨rfl, Goes.stay hI⟩
    · refine (rwrite_bad c d (rbadE R.length c d) x w hI rfl h0).mono ?_
      rintro e w' ⟨rfl, rfl⟩
      exact ⟨rfl, Goes.stay hI⟩
  obtain ⟨j, t, rfl, rfl, ht, hl⟩ := good_args h h0
  have _ := hB
  obtain ⟨y, hy⟩ : ∃ y, R[2 * j + (1 - t)]? = some y := ⟨_, List.getElem?_eq_getElem (by omega)⟩
  have hm' : y ∈ R := List.mem_of_getElem? hy
  have hok := h.ok y hm'
  have hbd := h.bnd y hm'
  refine ⟨y.dr.wrE x.size, R.set (2 * j + (1 - t)) (y.wrS x), h.set (y.wrS_ok hok x) (y.wrS_size hok x hbd) _, fun w F hI => ?_, fun w F hI => ?_⟩
  · rw [map_set_dr, y.wrS_dr hok x]
    exact write_ok j t x w hI ht (map_get_dr hy)
  · exact rwrite_ok j t x w hI ht hy (by omega) hx

theorem both_close (h : WF R B) (hB : B ≤ 1000000000) (c d : Int) :
    ∃ (E : Int) (R' : List Wy), WF R' (B + 262144) ∧
      (∀ w F, NetI n (R.map Wy.dr) w F → Calls Try.prog 17 #[.pointer (some ⟨n, 0, none⟩), .int .i64 c, .int .i64 d] w fun e w' => e = .returned (.int .i64 E) ∧ Goes (NetI n (R'.map Wy.dr)) w w' F) ∧
      (∀ w F, RefI r R w F → Calls Try.prog 24 #[.pointer (some ⟨r, 0, none⟩), .int .i64 c, .int .i64 d] w fun e w' => e = .returned (.int .i64 E) ∧ Goes (RefI r R') w w' F) := by
  by_cases h0 : rbadE R.length c d = 0
  rotate_left
  · refine ⟨rbadE R.length c d, R, h.more, fun w F hI => ?_, fun w F hI => ?_⟩
    · refine (close_bad c d (rbadE R.length c d) w hI (badE_len c d) h0).mono ?_
      rintro e w' ⟨rfl, rfl⟩
      exact ⟨rfl, Goes.stay hI⟩
    · refine (rclose_bad c d (rbadE R.length c d) w hI rfl h0).mono ?_
      rintro e w' ⟨rfl, rfl⟩
      exact ⟨rfl, Goes.stay hI⟩
  obtain ⟨j, t, rfl, rfl, ht, hl⟩ := good_args h h0
  have _ := hB
  obtain ⟨y, hy⟩ : ∃ y, R[2 * j + (1 - t)]? = some y := ⟨_, List.getElem?_eq_getElem (by omega)⟩
  have hm' : y ∈ R := List.mem_of_getElem? hy
  have hok := h.ok y hm'
  have hbd := h.bnd y hm'
  refine ⟨y.dr.clE, R.set (2 * j + (1 - t)) y.clS, h.set (d := y.clS) ⟨hok.taken, hok.came⟩ (by show y.all.size ≤ _; omega) _, fun w F hI => ?_, fun w F hI => ?_⟩
  · rw [map_set_dr, y.clS_dr]
    exact close_ok j t w hI ht (map_get_dr hy)
  · exact rclose_ok j t w hI ht hy

theorem both_ended (h : WF R B) (hB : B ≤ 1000000000) (c d : Int) :
    ∃ (b : Bool) (E : Int) (R' : List Wy), WF R' (B + 262144) ∧
      (∀ w F, NetI n (R.map Wy.dr) w F → Calls Try.prog 18 #[.pointer (some ⟨n, 0, none⟩), .int .i64 c, .int .i64 d] w fun e w' => e = .returned (.tuple #[.bool b, .int .i64 E]) ∧ Goes (NetI n (R'.map Wy.dr)) w w' F) ∧
      (∀ w F, RefI r R w F → Calls Try.prog 25 #[.pointer (some ⟨r, 0, none⟩), .int .i64 c, .int .i64 d] w fun e w' => e = .returned (.tuple #[.bool b, .int .i64 E]) ∧ Goes (RefI r R') w w' F) := by
  by_cases h0 : rbadE R.length c d = 0
  rotate_left
  · refine ⟨false, rbadE R.length c d, R, h.more, fun w F hI => ?_, fun w F hI => ?_⟩
    · refine (ended_bad c d (rbadE R.length c d) w hI (badE_len c d) h0).mono ?_
      rintro e w' ⟨rfl, rfl⟩
      exact ⟨rfl, Goes.stay hI⟩
    · refine (rended_bad c d (rbadE R.length c d) w hI rfl h0).mono ?_
      rintro e w' ⟨rfl, rfl⟩
      exact ⟨rfl, Goes.stay hI⟩
  obtain ⟨j, t, rfl, rfl, ht, hl⟩ := good_args h h0
  have _ := hB
  obtain ⟨y, hy⟩ : ∃ y, R[2 * j + t]? = some y := ⟨_, List.getElem?_eq_getElem (by omega)⟩
  have hm' : y ∈ R := List.mem_of_getElem? hy
  have hok := h.ok y hm'
  have hbd := h.bnd y hm'
  refine ⟨y.dr.enV, 0, R, h.more, fun w F hI => ?_, fun w F hI => ?_⟩
  · exact ended_ok j t w hI ht (map_get_dr hy)
  · exact rended_ok j t w hI ht hy

theorem both_pending (h : WF R B) (hB : B ≤ 1000000000) (c d : Int) :
    ∃ (a b E : Int) (R' : List Wy), WF R' (B + 262144) ∧
      (∀ w F, NetI n (R.map Wy.dr) w F → Calls Try.prog 19 #[.pointer (some ⟨n, 0, none⟩), .int .i64 c, .int .i64 d] w fun e w' => e = .returned (.tuple #[.int .i64 a, .int .i64 b, .int .i64 E]) ∧ Goes (NetI n (R'.map Wy.dr)) w w' F) ∧
      (∀ w F, RefI r R w F → Calls Try.prog 26 #[.pointer (some ⟨r, 0, none⟩), .int .i64 c, .int .i64 d] w fun e w' => e = .returned (.tuple #[.int .i64 a, .int .i64 b, .int .i64 E]) ∧ Goes (RefI r R') w w' F) := by
  by_cases h0 : rbadE R.length c d = 0
  rotate_left
  · refine ⟨0, 0, rbadE R.length c d, R, h.more, fun w F hI => ?_, fun w F hI => ?_⟩
    · refine (pending_bad c d (rbadE R.length c d) w hI (badE_len c d) h0).mono ?_
      rintro e w' ⟨rfl, rfl⟩
      exact ⟨rfl, Goes.stay hI⟩
    · refine (rpending_bad c d (rbadE R.length c d) w hI rfl h0).mono ?_
      rintro e w' ⟨rfl, rfl⟩
      exact ⟨rfl, Goes.stay hI⟩
  obtain ⟨j, t, rfl, rfl, ht, hl⟩ := good_args h h0
  have _ := hB
  obtain ⟨y, hy⟩ : ∃ y, R[2 * j + t]? = some y := ⟨_, List.getElem?_eq_getElem (by omega)⟩
  have hm' : y ∈ R := List.mem_of_getElem? hy
  have hok := h.ok y hm'
  have hbd := h.bnd y hm'
  refine ⟨((y.dr.q.length - y.dr.here : Nat) : Int), (y.dr.here : Int), 0, R, h.more, fun w F hI => ?_, fun w F hI => ?_⟩
  · exact pending_ok j t w hI ht (map_get_dr hy)
  · exact rpending_ok j t w hI ht hy (by omega)

theorem both_arrive (h : WF R B) (hB : B ≤ 1000000000) (c d m : Int) :
    ∃ (k E : Int) (R' : List Wy), WF R' (B + 262144) ∧
      (∀ w F, NetI n (R.map Wy.dr) w F → Calls Try.prog 15 #[.pointer (some ⟨n, 0, none⟩), .int .i64 c, .int .i64 d, .int .i64 m] w fun e w' => e = .returned (.tuple #[.int .i64 k, .int .i64 E]) ∧ Goes (NetI n (R'.map Wy.dr)) w w' F) ∧
      (∀ w F, RefI r R w F → Calls Try.prog 22 #[.pointer (some ⟨r, 0, none⟩), .int .i64 c, .int .i64 d, .int .i64 m] w fun e w' => e = .returned (.tuple #[.int .i64 k, .int .i64 E]) ∧ Goes (RefI r R') w w' F) := by
  by_cases h0 : rbadE R.length c d = 0
  rotate_left
  · refine ⟨0, rbadE R.length c d, R, h.more, fun w F hI => ?_, fun w F hI => ?_⟩
    · refine (arrive_bad c d (rbadE R.length c d) m w hI (badE_len c d) h0).mono ?_
      rintro e w' ⟨rfl, rfl⟩
      exact ⟨rfl, Goes.stay hI⟩
    · refine (rarrive_bad c d (rbadE R.length c d) m w hI rfl h0).mono ?_
      rintro e w' ⟨rfl, rfl⟩
      exact ⟨rfl, Goes.stay hI⟩
  obtain ⟨j, t, rfl, rfl, ht, hl⟩ := good_args h h0
  have _ := hB
  obtain ⟨y, hy⟩ : ∃ y, R[2 * j + t]? = some y := ⟨_, List.getElem?_eq_getElem (by omega)⟩
  have hm' : y ∈ R := List.mem_of_getElem? hy
  have hok := h.ok y hm'
  have hbd := h.bnd y hm'
  by_cases hneg : m < 0
  · have hyd := map_get_dr hy
    refine ⟨0, 1, R, h.more, fun w F hI => ?_, fun w F hI => ?_⟩
    · exact arrive_neg j t m w hI ht hyd hneg
    · refine (rarrive_neg (j : Int) (t : Int) m w hI h0 hneg).mono ?_
      rintro e w' ⟨rfl, rfl⟩
      exact ⟨rfl, Goes.stay hI⟩
  · refine ⟨(y.arN m.toNat : Int), 0, R.set (2 * j + t) (y.arS m.toNat), h.set (y.arS_ok hok _) (by show y.all.size ≤ _; omega) _, fun w F hI => ?_, fun w F hI => ?_⟩
    · rw [map_set_dr, y.arS_dr hok, y.arN_dr hok]
      exact arrive_ok j t m w hI ht (map_get_dr hy) (by omega)
    · exact rarrive_ok j t m w hI ht hy (by omega) (by omega)

theorem both_read (h : WF R B) (hB : B ≤ 1000000000) (c d m : Int) :
    ∃ (z : ByteArray) (E : Int) (R' : List Wy), WF R' (B + 262144) ∧
      (∀ w F, NetI n (R.map Wy.dr) w F → Calls Try.prog 16 #[.pointer (some ⟨n, 0, none⟩), .int .i64 c, .int .i64 d, .int .i64 m] w fun e w' => e = .returned (.tuple #[.string z, .int .i64 E]) ∧ Goes (NetI n (R'.map Wy.dr)) w w' F) ∧
      (∀ w F, RefI r R w F → Calls Try.prog 23 #[.pointer (some ⟨r, 0, none⟩), .int .i64 c, .int .i64 d, .int .i64 m] w fun e w' => e = .returned (.tuple #[.string z, .int .i64 E]) ∧ Goes (RefI r R') w w' F) := by
  by_cases h0 : rbadE R.length c d = 0
  rotate_left
  · refine ⟨⟨#[]⟩, rbadE R.length c d, R, h.more, fun w F hI => ?_, fun w F hI => ?_⟩
    · refine (read_bad c d (rbadE R.length c d) m w hI (badE_len c d) h0).mono ?_
      rintro e w' ⟨rfl, rfl⟩
      exact ⟨rfl, Goes.stay hI⟩
    · refine (rread_bad c d (rbadE R.length c d) m w hI rfl h0).mono ?_
      rintro e w' ⟨rfl, rfl⟩
      exact ⟨rfl, Goes.stay hI⟩
  obtain ⟨j, t, rfl, rfl, ht, hl⟩ := good_args h h0
  have _ := hB
  obtain ⟨y, hy⟩ : ∃ y, R[2 * j + t]? = some y := ⟨_, List.getElem?_eq_getElem (by omega)⟩
  have hm' : y ∈ R := List.mem_of_getElem? hy
  have hok := h.ok y hm'
  have hbd := h.bnd y hm'
  by_cases hneg : m < 0
  · have hyd := map_get_dr hy
    refine ⟨⟨#[]⟩, 1, R, h.more, fun w F hI => ?_, fun w F hI => ?_⟩
    · exact read_neg j t m w hI ht hyd hneg
    · refine (rread_neg (j : Int) (t : Int) m w hI h0 hneg).mono ?_
      rintro e w' ⟨rfl, rfl⟩
      exact ⟨rfl, Goes.stay hI⟩
  · refine ⟨y.all.extract y.taken (y.taken + y.rdN m.toNat), 0, R.set (2 * j + t) (y.rdS m.toNat), h.set (y.rdS_ok hok _) (by show y.all.size ≤ _; omega) _, fun w F hI => ?_, fun w F hI => ?_⟩
    · rw [map_set_dr, y.rdS_dr, ← y.rd_text]
      exact read_ok j t m w hI ht (map_get_dr hy) (by omega)
    · exact rread_ok j t m w hI ht hy (by omega) (by omega)

theorem both_dial (h : WF R B) (hB : B ≤ 1000000000) :
    ∃ (k E : Int) (R' : List Wy), WF R' (B + 262144) ∧
      (∀ w F, NetI n (R.map Wy.dr) w F → Calls Try.prog 12 #[.pointer (some ⟨n, 0, none⟩)] w fun e w' => e = .returned (.tuple #[.int .i64 k, .int .i64 E]) ∧ Goes (NetI n (R'.map Wy.dr)) w w' F) ∧
      (∀ w F, RefI r R w F → Calls Try.prog 20 #[.pointer (some ⟨r, 0, none⟩)] w fun e w' => e = .returned (.tuple #[.int .i64 k, .int .i64 E]) ∧ Goes (RefI r R') w w' F) := by
  have he := h.even
  have _ := hB
  by_cases hfull : 128 ≤ R.length
  · refine ⟨0, 2, R, h.more, fun w F hI => ?_, fun w F hI => ?_⟩
    · refine (dial_full w hI (by rw [List.length_map]; exact hfull)).mono ?_
      rintro e w' ⟨rfl, rfl⟩
      exact ⟨rfl, Goes.stay hI⟩
    · refine (rdial_full w hI hfull).mono ?_
      rintro e w' ⟨rfl, rfl⟩
      exact ⟨rfl, Goes.stay hI⟩
  · have hl : R.length = 2 * (R.length / 2) := by omega
    refine ⟨((R.length / 2 : Nat) : Int), 0, R ++ [Wy.fresh, Wy.fresh], ⟨fun y hy => ?_, fun y hy => ?_, by rw [List.length_append]; show (R.length + 2) % 2 = 0; omega⟩, fun w F hI => ?_, fun w F hI => ?_⟩
    · rcases List.mem_append.1 hy with hy | hy
      · exact h.ok y hy
      · have hy : y = Wy.fresh := by simpa using hy
        rw [hy]
        exact Wy.Ok.fresh
    · rcases List.mem_append.1 hy with hy | hy
      · have := h.bnd y hy; omega
      · have hy : y = Wy.fresh := by simpa using hy
        rw [hy]
        exact Nat.zero_le _
    · rw [List.map_append]
      exact dial_ok w hI (by rw [List.length_map]; exact hl) (by omega)
    · exact rdial_ok w hI hl (by omega)

end
end Go.Proofs.Ythfmppghdlniiaa
