/- The reference's calls, at a connection and a side that there are. -/
import Derived.Test.YthfmppghdlniiaaSRef
import Derived.BigRegion
namespace Go.Proofs.Ythfmppghdlniiaa
open Go.RowKit

section
variable {r : Nat} {R : List Wy} {F : Nat → Prop}

theorem RefI.at {w : World} (h : RefI r R w F) {i : Nat} {d : Wy} (hd : R[i]? = some d) : ∃ g cap K, ∃ hi : i < R.length, RefG w r (.slice (some ⟨g, 0, none⟩) K cap) K R ∧ (∀ j, F j ↔ rfoot r (.slice (some ⟨g, 0, none⟩) K cap) j) ∧ R[i] = d ∧ R.length = 2 * K := by
  obtain ⟨v, K, hG, hF⟩ := h
  obtain ⟨hi, rfl⟩ := List.getElem?_eq_some_iff.1 hd
  have h2 := hG.two
  obtain ⟨g, cap, cur, rfl, -⟩ := hG.rowAt (by omega)
  exact ⟨g, cap, K, hi, hG, hF, rfl, h2⟩

theorem rset_self {d : Wy} {i : Nat} (hd : R[i]? = some d) : R.set i d = R := by
  obtain ⟨hi, rfl⟩ := List.getElem?_eq_some_iff.1 hd
  exact List.set_getElem_self hi

/-- an element of the reference, as a call meets it: where its cells lie, what they hold, what becomes of the reference when they are written -/
structure WyC (w : World) (r : Nat) (F : Nat → Prop) (R : List Wy) (i : Nat) (d : Wy) (g K cap : Nat) : Prop where
  c0 : w.cell? ⟨r, 0, none⟩ = some (.slice (some ⟨g, 0, none⟩) K cap)
  c : ∀ f u, d.en[f]? = some u → w.cell? ⟨g, 4 * i + f, none⟩ = some u
  fz : ∀ f, w.frozen? ⟨g, f, none⟩ = false
  ok : d.Ok
  few : K ≤ 64
  lt : g < w.heap.size
  rlt : r < w.heap.size
  ne : r ≠ g
  stay : RefI r R w F
  set1 : ∀ (w1 w' : World) (o f : Nat) (u : Value) (d' : Wy), Below w.heap.size w w1 → f < 4 → o = 4 * i + f → d.en.set f u = d'.en → d'.Ok → Below (w1.setCell ⟨g, o, none⟩ u).heap.size (w1.setCell ⟨g, o, none⟩ u) w' → Goes (RefI r (R.set i d')) w w' F
  set4 : ∀ (w1 w' : World) (o : Nat) (d' : Wy), Below w.heap.size w w1 → o = 4 * i → d'.Ok →
    Below ((((w1.setCell ⟨g, o, none⟩ (.string d'.all)).setCell ⟨g, o + 1, none⟩ (.int .i64 (d'.came : Int))).setCell ⟨g, o + 2, none⟩ (.int .i64 (d'.taken : Int))).setCell ⟨g, o + 3, none⟩ (.bool d'.shut)).heap.size ((((w1.setCell ⟨g, o, none⟩ (.string d'.all)).setCell ⟨g, o + 1, none⟩ (.int .i64 (d'.came : Int))).setCell ⟨g, o + 2, none⟩ (.int .i64 (d'.taken : Int))).setCell ⟨g, o + 3, none⟩ (.bool d'.shut)) w' →
    Goes (RefI r (R.set i d')) w w' F

theorem RefI.wyC {w : World} (hI : RefI r R w F) {i : Nat} {d : Wy} (hd : R[i]? = some d) : ∃ g K cap, WyC w r F R i d g K cap ∧ R.length = 2 * K := by
  have hI' := hI
  obtain ⟨g, cap, K, hi, hG, hF, rfl, hlen⟩ := hI.at hd
  have h2 := hG.two
  obtain ⟨g', cap', cur, hv, hg, r3, r4, r5, r6⟩ := hG.rowAt (by omega)
  cases hv
  have key : ∀ f, f < 4 → w.cell? ⟨g, 4 * i + f, none⟩ = (Wy.en R[i])[f]? := fun f hf => by
    rw [cell_of hg, ← flat_get Wy.en_len R i hi f hf, ← r6, List.getElem?_take_of_lt (by omega)]
    simp
  refine ⟨g, K, cap, ⟨hG.c0, fun f u hu => ?_, fun f => frozen_of hg f, hG.ok _ (List.getElem_mem hi), hG.few, lt_of hg, lt_of hG.top, hG.r_row rfl, hI', fun w1 w' o f u d' h1 hf ho hs hok hb => ?_, fun w1 w' o d' h1 ho hok hb => ?_⟩, hlen⟩
  · have hf : f < 4 := (List.getElem?_eq_some_iff.1 hu).1
    rw [key f hf]
    exact hu
  · have hg1 := (h1.block g (lt_of hg)).trans hg
    obtain ⟨c1, s1, s2, s3⟩ := flat_row_set Wy.en_len (o := o) (d := d') (u := u) hg1 r5 r6 hi ho hf hs
    have ht : Turn (fun j => j = g) w (w1.setCell ⟨g, o, none⟩ u) := (Turn.ofBelow _ h1).trans (Turn.setCell w1 ⟨g, o, none⟩ u rfl)
    exact hG.goesSet hF hi (ht.trans (Turn.ofBelow _ hb)) ⟨c1, (hb.block g (lt_of s1)).trans s1, s2, s3⟩ hok
  · have hg1 := (h1.block g (lt_of hg)).trans hg
    have hil : ∀ x : Wy, i < (R.set i x).length := fun x => by simpa using hi
    obtain ⟨c1, s1, s2, s3⟩ := flat_row_set Wy.en_len (o := o) (f := 0) (d := ⟨d'.all, (R[i]).came, (R[i]).taken, (R[i]).shut⟩) (u := .string d'.all) hg1 r5 r6 hi (by omega) (by omega) rfl
    obtain ⟨c2, t1, t2, t3⟩ := flat_row_set Wy.en_len (o := o + 1) (f := 1) (d := ⟨d'.all, d'.came, (R[i]).taken, (R[i]).shut⟩) (u := .int .i64 (d'.came : Int)) s1 s2 s3 (hil _) (by omega) (by omega) (by simp [Wy.en])
    obtain ⟨c3, u1, u2, u3⟩ := flat_row_set Wy.en_len (o := o + 2) (f := 2) (d := ⟨d'.all, d'.came, d'.taken, (R[i]).shut⟩) (u := .int .i64 (d'.taken : Int)) t1 t2 t3 (by simpa using hi) (by omega) (by omega) (by simp [Wy.en])
    obtain ⟨c4, v1, v2, v3⟩ := flat_row_set Wy.en_len (o := o + 3) (f := 3) (d := d') (u := .bool d'.shut) u1 u2 u3 (by simpa using hi) (by omega) (by omega) (by simp [Wy.en])
    have ht : Turn (fun j => j = g) w ((((w1.setCell ⟨g, o, none⟩ (.string d'.all)).setCell ⟨g, o + 1, none⟩ (.int .i64 (d'.came : Int))).setCell ⟨g, o + 2, none⟩ (.int .i64 (d'.taken : Int))).setCell ⟨g, o + 3, none⟩ (.bool d'.shut)) :=
      (((Turn.ofBelow (fun j => j = g) h1).trans (Turn.setCell (S := fun j => j = g) w1 ⟨g, o, none⟩ _ rfl)).trans (Turn.setCell (S := fun j => j = g) _ ⟨g, o + 1, none⟩ _ rfl)).trans ((Turn.setCell (S := fun j => j = g) _ ⟨g, o + 2, none⟩ _ rfl).trans (Turn.setCell (S := fun j => j = g) _ ⟨g, o + 3, none⟩ _ rfl))
    refine hG.goesSet hF hi (ht.trans (Turn.ofBelow _ hb)) ⟨c4, (hb.block g (lt_of v1)).trans v1, v2, ?_⟩ hok
    rw [v3]
    simp

theorem wrong_ok {j t : Nat} {K : Nat} (w : World) (hI : RefI r R w F) (hlen : R.length = 2 * K) (hj : j < K) (ht : t < 2) :
    Calls Try.prog 30 #[.pointer (some ⟨r, 0, none⟩), .int .i64 (j : Int), .int .i64 (t : Int)] w fun e w' => e = .returned (.int .i64 0) ∧ w = w' := by
  have := wrong_any (j : Int) (t : Int) w hI
  have e : rbadE R.length (j : Int) (t : Int) = 0 := by
    unfold rbadE
    rw [if_neg (by omega), if_pos (by omega)]
  rw [e] at this
  exact this

theorem str_cut (s : ByteArray) (a b : Int) (h0 : 0 ≤ a) (h1 : a ≤ b) (h2 : b ≤ (s.size : Int)) (W : World) :
    (Instr.slice 9 (.string s) (some (.int .i64 a)) (some (.int .i64 b)) none).run Try.prog W = .ok (.string (s.extract a.toNat b.toNat)) W := by
  have h3 : (0 : Int) ≤ b := by omega
  have h4 : a ≤ max b 0 := by omega
  simp [Instr.slice, run_underlying Try.underlying9, Instr.sliceBounds, run_sliceBound, h0, h2, h3, h4, Result.andThen]

/-- in plain words -/
def Wy.wrS (d : Wy) (x : ByteArray) : Wy := if d.shut then d else if 262144 < d.all.size - d.taken + x.size then d else ⟨d.all ++ x, d.came, d.taken, d.shut⟩
def Wy.arN (d : Wy) (m : Nat) : Nat := min m (d.all.size - d.came)
def Wy.arS (d : Wy) (m : Nat) : Wy := ⟨d.all, d.came + d.arN m, d.taken, d.shut⟩
def Wy.rdN (d : Wy) (m : Nat) : Nat := min m (d.came - d.taken)
def Wy.rdS (d : Wy) (m : Nat) : Wy := ⟨d.all, d.came, d.taken + d.rdN m, d.shut⟩
def Wy.clS (d : Wy) : Wy := ⟨d.all, d.came, d.taken, true⟩

set_option maxRecDepth 100000 in
set_option maxHeartbeats 400000 in
theorem rclose_0 (i j : Nat) (w : World) {d : Wy} (hI : RefI r R w F) (hie : i = 2 * j + 1) (hd : R[i]? = some d) :
    Calls Try.prog 24 #[.pointer (some ⟨r, 0, none⟩), .int .i64 (j : Int), .int .i64 0] w fun e w' => e = .returned (.int .i64 (if d.shut then 20 else 0)) ∧ Goes (RefI r (R.set i d.clS)) w w' F := by
  obtain ⟨g, K, cap, hC, hlen⟩ := hI.wyC hd
  have hil : i < R.length := (List.getElem?_eq_some_iff.1 hd).1
  have hj : j < K := by omega
  have hjI : (j : Int) < (K : Int) := by omega
  have HW : Hid (Calls Try.prog 30 #[.pointer (some ⟨r, 0, none⟩), .int .i64 (j : Int), .int .i64 0] w fun e w' => e = .returned (.int .i64 0) ∧ w = w') := wrong_ok (t := 0) w hI hlen hj (by omega)
  have HC : Hid (WyC w r F R i d g K cap) := hC
  have HD : Hid (R.set i d = R) := rset_self hd
  have HIe : Hid (i = 2 * j + 1) := hie
  have c0 := hC.c0
  have c1 : w.cell? ⟨g, j * 8 + 4, none⟩ = some (.string d.all) := by have := hC.c 0 _ rfl; rwa [show 4 * i + 0 = j * 8 + 4 from by omega] at this
  have c2 : w.cell? ⟨g, j * 8 + 5, none⟩ = some (.int .i64 (d.came : Int)) := by have := hC.c 1 _ rfl; rwa [show 4 * i + 1 = j * 8 + 5 from by omega] at this
  have c3 : w.cell? ⟨g, j * 8 + 6, none⟩ = some (.int .i64 (d.taken : Int)) := by have := hC.c 2 _ rfl; rwa [show 4 * i + 2 = j * 8 + 6 from by omega] at this
  have c4 : w.cell? ⟨g, j * 8 + 7, none⟩ = some (.bool d.shut) := by have := hC.c 3 _ rfl; rwa [show 4 * i + 3 = j * 8 + 7 from by omega] at this
  have f1 := hC.fz (j * 8 + 4)
  have f2 := hC.fz (j * 8 + 5)
  have f3 := hC.fz (j * 8 + 6)
  have f4 := hC.fz (j * 8 + 7)
  have hfew := hC.few
  have htk := hC.ok.taken
  have hcm := hC.ok.came
  have hgl := hC.lt
  have hrl := hC.rlt
  clear hC hI hd hlen hil hie
  cases hsh : d.shut with
  | true =>
    rw [hsh] at c4
    have HS : Hid (d.clS = d) := by show _ = _; unfold Wy.clS; rw [← hsh]
    clear hsh
    go_enter Try.func24, Try.ntmps24
    go_wp2_with fail
    refine HW.out.mono ?_
    rintro e u ⟨rfl, rfl⟩
    go_wp2
    go_ret
    refine ⟨rfl, ?_⟩
    rw [HS.out, HD.out]
    exact Goes.stay HC.out.stay
  | false =>
    rw [hsh] at c4
    clear hsh
    go_enter Try.func24, Try.ntmps24
    go_wp2_with fail
    refine HW.out.mono ?_
    rintro e u ⟨rfl, rfl⟩
    go_wp2
    go_ret
    exact ⟨rfl, HC.out.set1 w _ (j * 8 + 7) 3 (.bool true) d.clS (Below.refl _ _) (by omega) (by have := HIe.out; omega) rfl ⟨HC.out.ok.taken, HC.out.ok.came⟩ (Below.refl _ _)⟩

set_option maxRecDepth 100000 in
set_option maxHeartbeats 400000 in
theorem rclose_1 (i j : Nat) (w : World) {d : Wy} (hI : RefI r R w F) (hie : i = 2 * j + 0) (hd : R[i]? = some d) :
    Calls Try.prog 24 #[.pointer (some ⟨r, 0, none⟩), .int .i64 (j : Int), .int .i64 1] w fun e w' => e = .returned (.int .i64 (if d.shut then 20 else 0)) ∧ Goes (RefI r (R.set i d.clS)) w w' F := by
  obtain ⟨g, K, cap, hC, hlen⟩ := hI.wyC hd
  have hil : i < R.length := (List.getElem?_eq_some_iff.1 hd).1
  have hj : j < K := by omega
  have hjI : (j : Int) < (K : Int) := by omega
  have HW : Hid (Calls Try.prog 30 #[.pointer (some ⟨r, 0, none⟩), .int .i64 (j : Int), .int .i64 1] w fun e w' => e = .returned (.int .i64 0) ∧ w = w') := wrong_ok (t := 1) w hI hlen hj (by omega)
  have HC : Hid (WyC w r F R i d g K cap) := hC
  have HD : Hid (R.set i d = R) := rset_self hd
  have HIe : Hid (i = 2 * j + 0) := hie
  have c0 := hC.c0
  have c1 : w.cell? ⟨g, j * 8, none⟩ = some (.string d.all) := by have := hC.c 0 _ rfl; rwa [show 4 * i + 0 = j * 8 from by omega] at this
  have c2 : w.cell? ⟨g, j * 8 + 1, none⟩ = some (.int .i64 (d.came : Int)) := by have := hC.c 1 _ rfl; rwa [show 4 * i + 1 = j * 8 + 1 from by omega] at this
  have c3 : w.cell? ⟨g, j * 8 + 2, none⟩ = some (.int .i64 (d.taken : Int)) := by have := hC.c 2 _ rfl; rwa [show 4 * i + 2 = j * 8 + 2 from by omega] at this
  have c4 : w.cell? ⟨g, j * 8 + 3, none⟩ = some (.bool d.shut) := by have := hC.c 3 _ rfl; rwa [show 4 * i + 3 = j * 8 + 3 from by omega] at this
  have f1 := hC.fz (j * 8)
  have f2 := hC.fz (j * 8 + 1)
  have f3 := hC.fz (j * 8 + 2)
  have f4 := hC.fz (j * 8 + 3)
  have hfew := hC.few
  have htk := hC.ok.taken
  have hcm := hC.ok.came
  have hgl := hC.lt
  have hrl := hC.rlt
  clear hC hI hd hlen hil hie
  cases hsh : d.shut with
  | true =>
    rw [hsh] at c4
    have HS : Hid (d.clS = d) := by show _ = _; unfold Wy.clS; rw [← hsh]
    clear hsh
    go_enter Try.func24, Try.ntmps24
    go_wp2_with fail
    refine HW.out.mono ?_
    rintro e u ⟨rfl, rfl⟩
    go_wp2
    go_ret
    refine ⟨rfl, ?_⟩
    rw [HS.out, HD.out]
    exact Goes.stay HC.out.stay
  | false =>
    rw [hsh] at c4
    clear hsh
    go_enter Try.func24, Try.ntmps24
    go_wp2_with fail
    refine HW.out.mono ?_
    rintro e u ⟨rfl, rfl⟩
    go_wp2
    go_ret
    exact ⟨rfl, HC.out.set1 w _ (j * 8 + 3) 3 (.bool true) d.clS (Below.refl _ _) (by omega) (by have := HIe.out; omega) rfl ⟨HC.out.ok.taken, HC.out.ok.came⟩ (Below.refl _ _)⟩

set_option maxRecDepth 100000 in
set_option maxHeartbeats 400000 in
theorem rended_0 (i j : Nat) (w : World) {d : Wy} (hI : RefI r R w F) (hie : i = 2 * j + 0) (hd : R[i]? = some d) :
    Calls Try.prog 25 #[.pointer (some ⟨r, 0, none⟩), .int .i64 (j : Int), .int .i64 0] w fun e w' => e = .returned (.tuple #[.bool d.dr.enV, .int .i64 0]) ∧ Goes (RefI r R) w w' F := by
  obtain ⟨g, K, cap, hC, hlen⟩ := hI.wyC hd
  have hil : i < R.length := (List.getElem?_eq_some_iff.1 hd).1
  have hj : j < K := by omega
  have hjI : (j : Int) < (K : Int) := by omega
  have HW : Hid (Calls Try.prog 30 #[.pointer (some ⟨r, 0, none⟩), .int .i64 (j : Int), .int .i64 0] w fun e w' => e = .returned (.int .i64 0) ∧ w = w') := wrong_ok (t := 0) w hI hlen hj (by omega)
  have HC : Hid (WyC w r F R i d g K cap) := hC
  have HD : Hid (R.set i d = R) := rset_self hd
  have HIe : Hid (i = 2 * j + 0) := hie
  have c0 := hC.c0
  have c1 : w.cell? ⟨g, j * 8, none⟩ = some (.string d.all) := by have := hC.c 0 _ rfl; rwa [show 4 * i + 0 = j * 8 from by omega] at this
  have c2 : w.cell? ⟨g, j * 8 + 1, none⟩ = some (.int .i64 (d.came : Int)) := by have := hC.c 1 _ rfl; rwa [show 4 * i + 1 = j * 8 + 1 from by omega] at this
  have c3 : w.cell? ⟨g, j * 8 + 2, none⟩ = some (.int .i64 (d.taken : Int)) := by have := hC.c 2 _ rfl; rwa [show 4 * i + 2 = j * 8 + 2 from by omega] at this
  have c4 : w.cell? ⟨g, j * 8 + 3, none⟩ = some (.bool d.shut) := by have := hC.c 3 _ rfl; rwa [show 4 * i + 3 = j * 8 + 3 from by omega] at this
  have f1 := hC.fz (j * 8)
  have f2 := hC.fz (j * 8 + 1)
  have f3 := hC.fz (j * 8 + 2)
  have f4 := hC.fz (j * 8 + 3)
  have hfew := hC.few
  have htk := hC.ok.taken
  have hcm := hC.ok.came
  have hgl := hC.lt
  have hrl := hC.rlt
  clear hC hI hd hlen hil hie
  obtain ⟨bb, hbb⟩ : ∃ bb, decide (d.taken = d.all.size) = bb := ⟨_, rfl⟩
  have HB : Hid (d.shut = true → d.dr.enV = bb) := fun hs => by
    unfold Dr.enV
    rw [show d.dr.shut = d.shut from rfl, hs, Wy.dr_len, ← hbb, Bool.true_and]
    exact decide_eq_decide.2 (by omega)
  have hb1 : ((d.taken : Int) == (d.all.size : Int)) = bb := by
    rw [← hbb, Bool.eq_iff_iff, beq_iff_eq, decide_eq_true_iff]
    omega
  have hb2 : (d.taken == d.all.size) = bb := by
    rw [← hbb, Bool.eq_iff_iff, beq_iff_eq, decide_eq_true_iff]
  clear hbb
  cases hsh : d.shut with
  | true =>
    rw [hsh] at c4
    have e1 : d.dr.enV = bb := HB.out hsh
    rw [e1]
    have HN : Hid (∀ o, Goes (RefI r R) w (w.alloc o) F) := fun o => (Goes.stay HC.out.stay).thenStay (refI_res _ _) ((Below.refl _ _).alloc (Nat.le_refl _) o)
    clear hsh e1
    go_enter Try.func25, Try.ntmps25
    go_wp2_with fail
    refine HW.out.mono ?_
    rintro e u ⟨rfl, rfl⟩
    go_wp2
    go_ret2
    exact ⟨rfl, HN.out _⟩
  | false =>
    rw [hsh] at c4
    have e1 : d.dr.enV = false := by unfold Dr.enV; rw [show d.dr.shut = d.shut from rfl, hsh]; rfl
    rw [e1]
    have HN : Hid (∀ o, Goes (RefI r R) w (w.alloc o) F) := fun o => (Goes.stay HC.out.stay).thenStay (refI_res _ _) ((Below.refl _ _).alloc (Nat.le_refl _) o)
    clear hsh e1
    go_enter Try.func25, Try.ntmps25
    go_wp2_with fail
    refine HW.out.mono ?_
    rintro e u ⟨rfl, rfl⟩
    go_wp2
    go_ret2
    exact ⟨rfl, HN.out _⟩

set_option maxRecDepth 100000 in
set_option maxHeartbeats 400000 in
theorem rended_1 (i j : Nat) (w : World) {d : Wy} (hI : RefI r R w F) (hie : i = 2 * j + 1) (hd : R[i]? = some d) :
    Calls Try.prog 25 #[.pointer (some ⟨r, 0, none⟩), .int .i64 (j : Int), .int .i64 1] w fun e w' => e = .returned (.tuple #[.bool d.dr.enV, .int .i64 0]) ∧ Goes (RefI r R) w w' F := by
  obtain ⟨g, K, cap, hC, hlen⟩ := hI.wyC hd
  have hil : i < R.length := (List.getElem?_eq_some_iff.1 hd).1
  have hj : j < K := by omega
  have hjI : (j : Int) < (K : Int) := by omega
  have HW : Hid (Calls Try.prog 30 #[.pointer (some ⟨r, 0, none⟩), .int .i64 (j : Int), .int .i64 1] w fun e w' => e = .returned (.int .i64 0) ∧ w = w') := wrong_ok (t := 1) w hI hlen hj (by omega)
  have HC : Hid (WyC w r F R i d g K cap) := hC
  have HD : Hid (R.set i d = R) := rset_self hd
  have HIe : Hid (i = 2 * j + 1) := hie
  have c0 := hC.c0
  have c1 : w.cell? ⟨g, j * 8 + 4, none⟩ = some (.string d.all) := by have := hC.c 0 _ rfl; rwa [show 4 * i + 0 = j * 8 + 4 from by omega] at this
  have c2 : w.cell? ⟨g, j * 8 + 5, none⟩ = some (.int .i64 (d.came : Int)) := by have := hC.c 1 _ rfl; rwa [show 4 * i + 1 = j * 8 + 5 from by omega] at this
  have c3 : w.cell? ⟨g, j * 8 + 6, none⟩ = some (.int .i64 (d.taken : Int)) := by have := hC.c 2 _ rfl; rwa [show 4 * i + 2 = j * 8 + 6 from by omega] at this
  have c4 : w.cell? ⟨g, j * 8 + 7, none⟩ = some (.bool d.shut) := by have := hC.c 3 _ rfl; rwa [show 4 * i + 3 = j * 8 + 7 from by omega] at this
  have f1 := hC.fz (j * 8 + 4)
  have f2 := hC.fz (j * 8 + 5)
  have f3 := hC.fz (j * 8 + 6)
  have f4 := hC.fz (j * 8 + 7)
  have hfew := hC.few
  have htk := hC.ok.taken
  have hcm := hC.ok.came
  have hgl := hC.lt
  have hrl := hC.rlt
  clear hC hI hd hlen hil hie
  obtain ⟨bb, hbb⟩ : ∃ bb, decide (d.taken = d.all.size) = bb := ⟨_, rfl⟩
  have HB : Hid (d.shut = true → d.dr.enV = bb) := fun hs => by
    unfold Dr.enV
    rw [show d.dr.shut = d.shut from rfl, hs, Wy.dr_len, ← hbb, Bool.true_and]
    exact decide_eq_decide.2 (by omega)
  have hb1 : ((d.taken : Int) == (d.all.size : Int)) = bb := by
    rw [← hbb, Bool.eq_iff_iff, beq_iff_eq, decide_eq_true_iff]
    omega
  have hb2 : (d.taken == d.all.size) = bb := by
    rw [← hbb, Bool.eq_iff_iff, beq_iff_eq, decide_eq_true_iff]
  clear hbb
  cases hsh : d.shut with
  | true =>
    rw [hsh] at c4
    have e1 : d.dr.enV = bb := HB.out hsh
    rw [e1]
    have HN : Hid (∀ o, Goes (RefI r R) w (w.alloc o) F) := fun o => (Goes.stay HC.out.stay).thenStay (refI_res _ _) ((Below.refl _ _).alloc (Nat.le_refl _) o)
    clear hsh e1
    go_enter Try.func25, Try.ntmps25
    go_wp2_with fail
    refine HW.out.mono ?_
    rintro e u ⟨rfl, rfl⟩
    go_wp2
    go_ret2
    exact ⟨rfl, HN.out _⟩
  | false =>
    rw [hsh] at c4
    have e1 : d.dr.enV = false := by unfold Dr.enV; rw [show d.dr.shut = d.shut from rfl, hsh]; rfl
    rw [e1]
    have HN : Hid (∀ o, Goes (RefI r R) w (w.alloc o) F) := fun o => (Goes.stay HC.out.stay).thenStay (refI_res _ _) ((Below.refl _ _).alloc (Nat.le_refl _) o)
    clear hsh e1
    go_enter Try.func25, Try.ntmps25
    go_wp2_with fail
    refine HW.out.mono ?_
    rintro e u ⟨rfl, rfl⟩
    go_wp2
    go_ret2
    exact ⟨rfl, HN.out _⟩

set_option maxRecDepth 100000 in
set_option maxHeartbeats 400000 in
theorem rpending_0 (i j : Nat) (w : World) {d : Wy} (hI : RefI r R w F) (hie : i = 2 * j + 0) (hd : R[i]? = some d) (hB : d.all.size ≤ 1000000000) :
    Calls Try.prog 26 #[.pointer (some ⟨r, 0, none⟩), .int .i64 (j : Int), .int .i64 0] w fun e w' => e = .returned (.tuple #[.int .i64 ((d.dr.q.length - d.dr.here : Nat) : Int), .int .i64 (d.dr.here : Int), .int .i64 0]) ∧ Goes (RefI r R) w w' F := by
  obtain ⟨g, K, cap, hC, hlen⟩ := hI.wyC hd
  have hil : i < R.length := (List.getElem?_eq_some_iff.1 hd).1
  have hj : j < K := by omega
  have hjI : (j : Int) < (K : Int) := by omega
  have HW : Hid (Calls Try.prog 30 #[.pointer (some ⟨r, 0, none⟩), .int .i64 (j : Int), .int .i64 0] w fun e w' => e = .returned (.int .i64 0) ∧ w = w') := wrong_ok (t := 0) w hI hlen hj (by omega)
  have HC : Hid (WyC w r F R i d g K cap) := hC
  have HD : Hid (R.set i d = R) := rset_self hd
  have HIe : Hid (i = 2 * j + 0) := hie
  have c0 := hC.c0
  have c1 : w.cell? ⟨g, j * 8, none⟩ = some (.string d.all) := by have := hC.c 0 _ rfl; rwa [show 4 * i + 0 = j * 8 from by omega] at this
  have c2 : w.cell? ⟨g, j * 8 + 1, none⟩ = some (.int .i64 (d.came : Int)) := by have := hC.c 1 _ rfl; rwa [show 4 * i + 1 = j * 8 + 1 from by omega] at this
  have c3 : w.cell? ⟨g, j * 8 + 2, none⟩ = some (.int .i64 (d.taken : Int)) := by have := hC.c 2 _ rfl; rwa [show 4 * i + 2 = j * 8 + 2 from by omega] at this
  have c4 : w.cell? ⟨g, j * 8 + 3, none⟩ = some (.bool d.shut) := by have := hC.c 3 _ rfl; rwa [show 4 * i + 3 = j * 8 + 3 from by omega] at this
  have f1 := hC.fz (j * 8)
  have f2 := hC.fz (j * 8 + 1)
  have f3 := hC.fz (j * 8 + 2)
  have f4 := hC.fz (j * 8 + 3)
  have hfew := hC.few
  have htk := hC.ok.taken
  have hcm := hC.ok.came
  have hgl := hC.lt
  have hrl := hC.rlt
  clear hC hI hd hlen hil hie
  have e1 : ((d.dr.q.length - d.dr.here : Nat) : Int) = (d.all.size : Int) - (d.came : Int) := by
    rw [Wy.dr_len]
    show ((d.all.size - d.taken - (d.came - d.taken) : Nat) : Int) = _
    omega
  have e2 : (d.dr.here : Int) = (d.came : Int) - (d.taken : Int) := by
    show ((d.came - d.taken : Nat) : Int) = _
    omega
  rw [e1, e2]
  have HN : Hid (∀ o m, Goes (RefI r R) w ((w.alloc o).drewN m) F) := fun o m => (Goes.stay HC.out.stay).thenStay (refI_res _ _) (((Below.refl _ _).alloc (Nat.le_refl _) o).trans ((below_drewN _ m).mono (by simp)))
  clear e1 e2
  go_enter Try.func26, Try.ntmps26
  go_wp2_with fail
  refine HW.out.mono ?_
  rintro e u ⟨rfl, rfl⟩
  go_wp2
  go_quiet (fail)
  go_wp2
  go_ret3
  exact ⟨rfl, HN.out _ _⟩

set_option maxRecDepth 100000 in
set_option maxHeartbeats 400000 in
theorem rpending_1 (i j : Nat) (w : World) {d : Wy} (hI : RefI r R w F) (hie : i = 2 * j + 1) (hd : R[i]? = some d) (hB : d.all.size ≤ 1000000000) :
    Calls Try.prog 26 #[.pointer (some ⟨r, 0, none⟩), .int .i64 (j : Int), .int .i64 1] w fun e w' => e = .returned (.tuple #[.int .i64 ((d.dr.q.length - d.dr.here : Nat) : Int), .int .i64 (d.dr.here : Int), .int .i64 0]) ∧ Goes (RefI r R) w w' F := by
  obtain ⟨g, K, cap, hC, hlen⟩ := hI.wyC hd
  have hil : i < R.length := (List.getElem?_eq_some_iff.1 hd).1
  have hj : j < K := by omega
  have hjI : (j : Int) < (K : Int) := by omega
  have HW : Hid (Calls Try.prog 30 #[.pointer (some ⟨r, 0, none⟩), .int .i64 (j : Int), .int .i64 1] w fun e w' => e = .returned (.int .i64 0) ∧ w = w') := wrong_ok (t := 1) w hI hlen hj (by omega)
  have HC : Hid (WyC w r F R i d g K cap) := hC
  have HD : Hid (R.set i d = R) := rset_self hd
  have HIe : Hid (i = 2 * j + 1) := hie
  have c0 := hC.c0
  have c1 : w.cell? ⟨g, j * 8 + 4, none⟩ = some (.string d.all) := by have := hC.c 0 _ rfl; rwa [show 4 * i + 0 = j * 8 + 4 from by omega] at this
  have c2 : w.cell? ⟨g, j * 8 + 5, none⟩ = some (.int .i64 (d.came : Int)) := by have := hC.c 1 _ rfl; rwa [show 4 * i + 1 = j * 8 + 5 from by omega] at this
  have c3 : w.cell? ⟨g, j * 8 + 6, none⟩ = some (.int .i64 (d.taken : Int)) := by have := hC.c 2 _ rfl; rwa [show 4 * i + 2 = j * 8 + 6 from by omega] at this
  have c4 : w.cell? ⟨g, j * 8 + 7, none⟩ = some (.bool d.shut) := by have := hC.c 3 _ rfl; rwa [show 4 * i + 3 = j * 8 + 7 from by omega] at this
  have f1 := hC.fz (j * 8 + 4)
  have f2 := hC.fz (j * 8 + 5)
  have f3 := hC.fz (j * 8 + 6)
  have f4 := hC.fz (j * 8 + 7)
  have hfew := hC.few
  have htk := hC.ok.taken
  have hcm := hC.ok.came
  have hgl := hC.lt
  have hrl := hC.rlt
  clear hC hI hd hlen hil hie
  have e1 : ((d.dr.q.length - d.dr.here : Nat) : Int) = (d.all.size : Int) - (d.came : Int) := by
    rw [Wy.dr_len]
    show ((d.all.size - d.taken - (d.came - d.taken) : Nat) : Int) = _
    omega
  have e2 : (d.dr.here : Int) = (d.came : Int) - (d.taken : Int) := by
    show ((d.came - d.taken : Nat) : Int) = _
    omega
  rw [e1, e2]
  have HN : Hid (∀ o m, Goes (RefI r R) w ((w.alloc o).drewN m) F) := fun o m => (Goes.stay HC.out.stay).thenStay (refI_res _ _) (((Below.refl _ _).alloc (Nat.le_refl _) o).trans ((below_drewN _ m).mono (by simp)))
  clear e1 e2
  go_enter Try.func26, Try.ntmps26
  go_wp2_with fail
  refine HW.out.mono ?_
  rintro e u ⟨rfl, rfl⟩
  go_wp2
  go_quiet (fail)
  go_wp2
  go_ret3
  exact ⟨rfl, HN.out _ _⟩

set_option maxRecDepth 100000 in
set_option maxHeartbeats 400000 in
theorem rarrive_0 (i j : Nat) (m : Int) (w : World) {d : Wy} (hI : RefI r R w F) (hie : i = 2 * j + 0) (hd : R[i]? = some d) (hm : 0 ≤ m) (hB : d.all.size ≤ 1000000000) :
    Calls Try.prog 22 #[.pointer (some ⟨r, 0, none⟩), .int .i64 (j : Int), .int .i64 0, .int .i64 m] w fun e w' => e = .returned (.tuple #[.int .i64 (d.arN m.toNat : Int), .int .i64 0]) ∧ Goes (RefI r (R.set i (d.arS m.toNat))) w w' F := by
  obtain ⟨g, K, cap, hC, hlen⟩ := hI.wyC hd
  have hil : i < R.length := (List.getElem?_eq_some_iff.1 hd).1
  have hj : j < K := by omega
  have hjI : (j : Int) < (K : Int) := by omega
  have HW : Hid (Calls Try.prog 30 #[.pointer (some ⟨r, 0, none⟩), .int .i64 (j : Int), .int .i64 0] w fun e w' => e = .returned (.int .i64 0) ∧ w = w') := wrong_ok (t := 0) w hI hlen hj (by omega)
  have HC : Hid (WyC w r F R i d g K cap) := hC
  have HD : Hid (R.set i d = R) := rset_self hd
  have HIe : Hid (i = 2 * j + 0) := hie
  have c0 := hC.c0
  have c1 : w.cell? ⟨g, j * 8, none⟩ = some (.string d.all) := by have := hC.c 0 _ rfl; rwa [show 4 * i + 0 = j * 8 from by omega] at this
  have c2 : w.cell? ⟨g, j * 8 + 1, none⟩ = some (.int .i64 (d.came : Int)) := by have := hC.c 1 _ rfl; rwa [show 4 * i + 1 = j * 8 + 1 from by omega] at this
  have c3 : w.cell? ⟨g, j * 8 + 2, none⟩ = some (.int .i64 (d.taken : Int)) := by have := hC.c 2 _ rfl; rwa [show 4 * i + 2 = j * 8 + 2 from by omega] at this
  have c4 : w.cell? ⟨g, j * 8 + 3, none⟩ = some (.bool d.shut) := by have := hC.c 3 _ rfl; rwa [show 4 * i + 3 = j * 8 + 3 from by omega] at this
  have f1 := hC.fz (j * 8)
  have f2 := hC.fz (j * 8 + 1)
  have f3 := hC.fz (j * 8 + 2)
  have f4 := hC.fz (j * 8 + 3)
  have hfew := hC.few
  have htk := hC.ok.taken
  have hcm := hC.ok.came
  have hgl := hC.lt
  have hrl := hC.rlt
  clear hC hI hd hlen hil hie
  obtain ⟨m, rfl⟩ := Int.eq_ofNat_of_zero_le hm
  obtain ⟨k, hk⟩ : ∃ k, d.arN m = k := ⟨_, rfl⟩
  have HM : Hid (k = min m (d.all.size - d.came)) := hk.symm
  have HK : Hid (d.arN m = k) := hk
  rw [Int.toNat_natCast, hk]
  clear hk
  by_cases hle : (m : Int) ≤ (d.all.size : Int) - (d.came : Int)
  · obtain rfl : k = m := by have := HM.out; omega
    have HU : Hid (((d.came + d.arN k : Nat) : Int) = (d.came : Int) + (k : Int)) := by
      have h1 := HK.out
      
      show _ = _
      omega
    go_enter Try.func22, Try.ntmps22
    go_wp2_with fail
    refine HW.out.mono ?_
    rintro e u ⟨rfl, rfl⟩
    go_wp2
    go_region
    go_wp2
    go_ret2
    exact ⟨rfl, HC.out.set1 w _ _ 1 _ (d.arS k) (Below.refl _ _) (by omega) (by have := HIe.out; omega) (by unfold Wy.en Wy.arS; rw [HU.out]; rfl) ⟨by show d.taken ≤ d.came + d.arN k; omega, by show d.came + d.arN k ≤ d.all.size; have : d.arN k ≤ d.all.size - d.came := Nat.min_le_right _ _; omega⟩ (((Below.refl _ _).alloc (Nat.le_refl _) _).drew)⟩
  · have hke : (k : Int) = (d.all.size : Int) - (d.came : Int) := by have := HM.out; omega
    have HKe : Hid ((k : Int) = (d.all.size : Int) - (d.came : Int)) := hke
    rw [hke]
    clear hke
    have HU : Hid (((d.came + d.arN m : Nat) : Int) = (d.came : Int) + ((d.all.size : Int) - (d.came : Int))) := by
      have h1 := HK.out
      have h2 := HKe.out
      show _ = _
      omega
    go_enter Try.func22, Try.ntmps22
    go_wp2_with fail
    refine HW.out.mono ?_
    rintro e u ⟨rfl, rfl⟩
    go_wp2
    go_region
    go_wp2
    go_ret2
    exact ⟨rfl, HC.out.set1 w _ _ 1 _ (d.arS m) (Below.refl _ _) (by omega) (by have := HIe.out; omega) (by unfold Wy.en Wy.arS; rw [HU.out]; rfl) ⟨by show d.taken ≤ d.came + d.arN m; omega, by show d.came + d.arN m ≤ d.all.size; have : d.arN m ≤ d.all.size - d.came := Nat.min_le_right _ _; omega⟩ (((Below.refl _ _).alloc (Nat.le_refl _) _).drew)⟩

set_option maxRecDepth 100000 in
set_option maxHeartbeats 400000 in
theorem rarrive_1 (i j : Nat) (m : Int) (w : World) {d : Wy} (hI : RefI r R w F) (hie : i = 2 * j + 1) (hd : R[i]? = some d) (hm : 0 ≤ m) (hB : d.all.size ≤ 1000000000) :
    Calls Try.prog 22 #[.pointer (some ⟨r, 0, none⟩), .int .i64 (j : Int), .int .i64 1, .int .i64 m] w fun e w' => e = .returned (.tuple #[.int .i64 (d.arN m.toNat : Int), .int .i64 0]) ∧ Goes (RefI r (R.set i (d.arS m.toNat))) w w' F := by
  obtain ⟨g, K, cap, hC, hlen⟩ := hI.wyC hd
  have hil : i < R.length := (List.getElem?_eq_some_iff.1 hd).1
  have hj : j < K := by omega
  have hjI : (j : Int) < (K : Int) := by omega
  have HW : Hid (Calls Try.prog 30 #[.pointer (some ⟨r, 0, none⟩), .int .i64 (j : Int), .int .i64 1] w fun e w' => e = .returned (.int .i64 0) ∧ w = w') := wrong_ok (t := 1) w hI hlen hj (by omega)
  have HC : Hid (WyC w r F R i d g K cap) := hC
  have HD : Hid (R.set i d = R) := rset_self hd
  have HIe : Hid (i = 2 * j + 1) := hie
  have c0 := hC.c0
  have c1 : w.cell? ⟨g, j * 8 + 4, none⟩ = some (.string d.all) := by have := hC.c 0 _ rfl; rwa [show 4 * i + 0 = j * 8 + 4 from by omega] at this
  have c2 : w.cell? ⟨g, j * 8 + 5, none⟩ = some (.int .i64 (d.came : Int)) := by have := hC.c 1 _ rfl; rwa [show 4 * i + 1 = j * 8 + 5 from by omega] at this
  have c3 : w.cell? ⟨g, j * 8 + 6, none⟩ = some (.int .i64 (d.taken : Int)) := by have := hC.c 2 _ rfl; rwa [show 4 * i + 2 = j * 8 + 6 from by omega] at this
  have c4 : w.cell? ⟨g, j * 8 + 7, none⟩ = some (.bool d.shut) := by have := hC.c 3 _ rfl; rwa [show 4 * i + 3 = j * 8 + 7 from by omega] at this
  have f1 := hC.fz (j * 8 + 4)
  have f2 := hC.fz (j * 8 + 5)
  have f3 := hC.fz (j * 8 + 6)
  have f4 := hC.fz (j * 8 + 7)
  have hfew := hC.few
  have htk := hC.ok.taken
  have hcm := hC.ok.came
  have hgl := hC.lt
  have hrl := hC.rlt
  clear hC hI hd hlen hil hie
  obtain ⟨m, rfl⟩ := Int.eq_ofNat_of_zero_le hm
  obtain ⟨k, hk⟩ : ∃ k, d.arN m = k := ⟨_, rfl⟩
  have HM : Hid (k = min m (d.all.size - d.came)) := hk.symm
  have HK : Hid (d.arN m = k) := hk
  rw [Int.toNat_natCast, hk]
  clear hk
  by_cases hle : (m : Int) ≤ (d.all.size : Int) - (d.came : Int)
  · obtain rfl : k = m := by have := HM.out; omega
    have HU : Hid (((d.came + d.arN k : Nat) : Int) = (d.came : Int) + (k : Int)) := by
      have h1 := HK.out
      
      show _ = _
      omega
    go_enter Try.func22, Try.ntmps22
    go_wp2_with fail
    refine HW.out.mono ?_
    rintro e u ⟨rfl, rfl⟩
    go_wp2
    go_region
    go_wp2
    go_ret2
    exact ⟨rfl, HC.out.set1 w _ _ 1 _ (d.arS k) (Below.refl _ _) (by omega) (by have := HIe.out; omega) (by unfold Wy.en Wy.arS; rw [HU.out]; rfl) ⟨by show d.taken ≤ d.came + d.arN k; omega, by show d.came + d.arN k ≤ d.all.size; have : d.arN k ≤ d.all.size - d.came := Nat.min_le_right _ _; omega⟩ (((Below.refl _ _).alloc (Nat.le_refl _) _).drew)⟩
  · have hke : (k : Int) = (d.all.size : Int) - (d.came : Int) := by have := HM.out; omega
    have HKe : Hid ((k : Int) = (d.all.size : Int) - (d.came : Int)) := hke
    rw [hke]
    clear hke
    have HU : Hid (((d.came + d.arN m : Nat) : Int) = (d.came : Int) + ((d.all.size : Int) - (d.came : Int))) := by
      have h1 := HK.out
      have h2 := HKe.out
      show _ = _
      omega
    go_enter Try.func22, Try.ntmps22
    go_wp2_with fail
    refine HW.out.mono ?_
    rintro e u ⟨rfl, rfl⟩
    go_wp2
    go_region
    go_wp2
    go_ret2
    exact ⟨rfl, HC.out.set1 w _ _ 1 _ (d.arS m) (Below.refl _ _) (by omega) (by have := HIe.out; omega) (by unfold Wy.en Wy.arS; rw [HU.out]; rfl) ⟨by show d.taken ≤ d.came + d.arN m; omega, by show d.came + d.arN m ≤ d.all.size; have : d.arN m ≤ d.all.size - d.came := Nat.min_le_right _ _; omega⟩ (((Below.refl _ _).alloc (Nat.le_refl _) _).drew)⟩

set_option maxRecDepth 100000 in
set_option maxHeartbeats 400000 in
theorem rread_0 (i j : Nat) (m : Int) (w : World) {d : Wy} (hI : RefI r R w F) (hie : i = 2 * j + 0) (hd : R[i]? = some d) (hm : 0 ≤ m) (hB : d.all.size ≤ 1000000000) :
    Calls Try.prog 23 #[.pointer (some ⟨r, 0, none⟩), .int .i64 (j : Int), .int .i64 0, .int .i64 m] w fun e w' => e = .returned (.tuple #[.string (d.all.extract d.taken (d.taken + d.rdN m.toNat)), .int .i64 0]) ∧ Goes (RefI r (R.set i (d.rdS m.toNat))) w w' F := by
  obtain ⟨g, K, cap, hC, hlen⟩ := hI.wyC hd
  have hil : i < R.length := (List.getElem?_eq_some_iff.1 hd).1
  have hj : j < K := by omega
  have hjI : (j : Int) < (K : Int) := by omega
  have HW : Hid (Calls Try.prog 30 #[.pointer (some ⟨r, 0, none⟩), .int .i64 (j : Int), .int .i64 0] w fun e w' => e = .returned (.int .i64 0) ∧ w = w') := wrong_ok (t := 0) w hI hlen hj (by omega)
  have HC : Hid (WyC w r F R i d g K cap) := hC
  have HD : Hid (R.set i d = R) := rset_self hd
  have HIe : Hid (i = 2 * j + 0) := hie
  have c0 := hC.c0
  have c1 : w.cell? ⟨g, j * 8, none⟩ = some (.string d.all) := by have := hC.c 0 _ rfl; rwa [show 4 * i + 0 = j * 8 from by omega] at this
  have c2 : w.cell? ⟨g, j * 8 + 1, none⟩ = some (.int .i64 (d.came : Int)) := by have := hC.c 1 _ rfl; rwa [show 4 * i + 1 = j * 8 + 1 from by omega] at this
  have c3 : w.cell? ⟨g, j * 8 + 2, none⟩ = some (.int .i64 (d.taken : Int)) := by have := hC.c 2 _ rfl; rwa [show 4 * i + 2 = j * 8 + 2 from by omega] at this
  have c4 : w.cell? ⟨g, j * 8 + 3, none⟩ = some (.bool d.shut) := by have := hC.c 3 _ rfl; rwa [show 4 * i + 3 = j * 8 + 3 from by omega] at this
  have f1 := hC.fz (j * 8)
  have f2 := hC.fz (j * 8 + 1)
  have f3 := hC.fz (j * 8 + 2)
  have f4 := hC.fz (j * 8 + 3)
  have hfew := hC.few
  have htk := hC.ok.taken
  have hcm := hC.ok.came
  have hgl := hC.lt
  have hrl := hC.rlt
  clear hC hI hd hlen hil hie
  obtain ⟨m, rfl⟩ := Int.eq_ofNat_of_zero_le hm
  obtain ⟨k, hk⟩ : ∃ k, d.rdN m = k := ⟨_, rfl⟩
  have HM : Hid (k = min m (d.came - d.taken)) := hk.symm
  have HK : Hid (d.rdN m = k) := hk
  rw [Int.toNat_natCast, hk]
  clear hk
  by_cases hle : (m : Int) ≤ (d.came : Int) - (d.taken : Int)
  · obtain rfl : k = m := by have := HM.out; omega
    have HU : Hid (((d.taken + d.rdN k : Nat) : Int) = (d.taken : Int) + (k : Int)) := by
      have h1 := HK.out
      
      show _ = _
      omega
    have hsl := fun W => str_cut d.all (d.taken : Int) ((d.taken : Int) + (k : Int)) (by omega) (by omega) (by have := HM.out; omega) W
    obtain ⟨y, hy⟩ : ∃ y, d.all.extract (d.taken : Int).toNat ((d.taken : Int) + (k : Int)).toNat = y := ⟨_, rfl⟩
    have HY : Hid (d.all.extract (d.taken : Int).toNat ((d.taken : Int) + (k : Int)).toNat = y) := hy
    simp only [hy] at hsl
    clear hy
    go_enter Try.func23, Try.ntmps23
    go_wp2_with fail
    refine HW.out.mono ?_
    rintro e u ⟨rfl, rfl⟩
    go_wp2
    go_region
    go_wp2
    go_ret2
    refine ⟨?_, HC.out.set1 w _ _ 2 _ (d.rdS k) (Below.refl _ _) (by omega) (by have := HIe.out; omega) (by unfold Wy.en Wy.rdS; rw [HU.out]; rfl) ⟨by show d.taken + d.rdN k ≤ d.came; have : d.rdN k ≤ d.came - d.taken := Nat.min_le_right _ _; omega, HC.out.ok.came⟩ (((Below.refl _ _).alloc (Nat.le_refl _) _).drew)⟩
    have e : d.all.extract d.taken (d.taken + k) = y := by
      rw [← HY.out]
      congr 1 <;> (have h1 := HM.out; omega)
    rw [e]
    rfl
  · have HKe : Hid ((k : Int) = (d.came : Int) - (d.taken : Int)) := by have := HM.out; show _ = _; omega
    have HU : Hid (((d.taken + d.rdN m : Nat) : Int) = (d.taken : Int) + ((d.came : Int) - (d.taken : Int))) := by
      have h1 := HK.out
      have h2 := HKe.out
      show _ = _
      omega
    have hsl := fun W => str_cut d.all (d.taken : Int) ((d.taken : Int) + ((d.came : Int) - (d.taken : Int))) (by omega) (by omega) (by have := HM.out; omega) W
    obtain ⟨y, hy⟩ : ∃ y, d.all.extract (d.taken : Int).toNat ((d.taken : Int) + ((d.came : Int) - (d.taken : Int))).toNat = y := ⟨_, rfl⟩
    have HY : Hid (d.all.extract (d.taken : Int).toNat ((d.taken : Int) + ((d.came : Int) - (d.taken : Int))).toNat = y) := hy
    simp only [hy] at hsl
    clear hy
    go_enter Try.func23, Try.ntmps23
    go_wp2_with fail
    refine HW.out.mono ?_
    rintro e u ⟨rfl, rfl⟩
    go_wp2
    go_region
    go_wp2
    go_ret2
    refine ⟨?_, HC.out.set1 w _ _ 2 _ (d.rdS m) (Below.refl _ _) (by omega) (by have := HIe.out; omega) (by unfold Wy.en Wy.rdS; rw [HU.out]; rfl) ⟨by show d.taken + d.rdN m ≤ d.came; have : d.rdN m ≤ d.came - d.taken := Nat.min_le_right _ _; omega, HC.out.ok.came⟩ (((Below.refl _ _).alloc (Nat.le_refl _) _).drew)⟩
    have e : d.all.extract d.taken (d.taken + k) = y := by
      rw [← HY.out]
      congr 1 <;> (have h1 := HM.out; omega)
    rw [e]
    rfl

set_option maxRecDepth 100000 in
set_option maxHeartbeats 400000 in
theorem rread_1 (i j : Nat) (m : Int) (w : World) {d : Wy} (hI : RefI r R w F) (hie : i = 2 * j + 1) (hd : R[i]? = some d) (hm : 0 ≤ m) (hB : d.all.size ≤ 1000000000) :
    Calls Try.prog 23 #[.pointer (some ⟨r, 0, none⟩), .int .i64 (j : Int), .int .i64 1, .int .i64 m] w fun e w' => e = .returned (.tuple #[.string (d.all.extract d.taken (d.taken + d.rdN m.toNat)), .int .i64 0]) ∧ Goes (RefI r (R.set i (d.rdS m.toNat))) w w' F := by
  obtain ⟨g, K, cap, hC, hlen⟩ := hI.wyC hd
  have hil : i < R.length := (List.getElem?_eq_some_iff.1 hd).1
  have hj : j < K := by omega
  have hjI : (j : Int) < (K : Int) := by omega
  have HW : Hid (Calls Try.prog 30 #[.pointer (some ⟨r, 0, none⟩), .int .i64 (j : Int), .int .i64 1] w fun e w' => e = .returned (.int .i64 0) ∧ w = w') := wrong_ok (t := 1) w hI hlen hj (by omega)
  have HC : Hid (WyC w r F R i d g K cap) := hC
  have HD : Hid (R.set i d = R) := rset_self hd
  have HIe : Hid (i = 2 * j + 1) := hie
  have c0 := hC.c0
  have c1 : w.cell? ⟨g, j * 8 + 4, none⟩ = some (.string d.all) := by have := hC.c 0 _ rfl; rwa [show 4 * i + 0 = j * 8 + 4 from by omega] at this
  have c2 : w.cell? ⟨g, j * 8 + 5, none⟩ = some (.int .i64 (d.came : Int)) := by have := hC.c 1 _ rfl; rwa [show 4 * i + 1 = j * 8 + 5 from by omega] at this
  have c3 : w.cell? ⟨g, j * 8 + 6, none⟩ = some (.int .i64 (d.taken : Int)) := by have := hC.c 2 _ rfl; rwa [show 4 * i + 2 = j * 8 + 6 from by omega] at this
  have c4 : w.cell? ⟨g, j * 8 + 7, none⟩ = some (.bool d.shut) := by have := hC.c 3 _ rfl; rwa [show 4 * i + 3 = j * 8 + 7 from by omega] at this
  have f1 := hC.fz (j * 8 + 4)
  have f2 := hC.fz (j * 8 + 5)
  have f3 := hC.fz (j * 8 + 6)
  have f4 := hC.fz (j * 8 + 7)
  have hfew := hC.few
  have htk := hC.ok.taken
  have hcm := hC.ok.came
  have hgl := hC.lt
  have hrl := hC.rlt
  clear hC hI hd hlen hil hie
  obtain ⟨m, rfl⟩ := Int.eq_ofNat_of_zero_le hm
  obtain ⟨k, hk⟩ : ∃ k, d.rdN m = k := ⟨_, rfl⟩
  have HM : Hid (k = min m (d.came - d.taken)) := hk.symm
  have HK : Hid (d.rdN m = k) := hk
  rw [Int.toNat_natCast, hk]
  clear hk
  by_cases hle : (m : Int) ≤ (d.came : Int) - (d.taken : Int)
  · obtain rfl : k = m := by have := HM.out; omega
    have HU : Hid (((d.taken + d.rdN k : Nat) : Int) = (d.taken : Int) + (k : Int)) := by
      have h1 := HK.out
      
      show _ = _
      omega
    have hsl := fun W => str_cut d.all (d.taken : Int) ((d.taken : Int) + (k : Int)) (by omega) (by omega) (by have := HM.out; omega) W
    obtain ⟨y, hy⟩ : ∃ y, d.all.extract (d.taken : Int).toNat ((d.taken : Int) + (k : Int)).toNat = y := ⟨_, rfl⟩
    have HY : Hid (d.all.extract (d.taken : Int).toNat ((d.taken : Int) + (k : Int)).toNat = y) := hy
    simp only [hy] at hsl
    clear hy
    go_enter Try.func23, Try.ntmps23
    go_wp2_with fail
    refine HW.out.mono ?_
    rintro e u ⟨rfl, rfl⟩
    go_wp2
    go_region
    go_wp2
    go_ret2
    refine ⟨?_, HC.out.set1 w _ _ 2 _ (d.rdS k) (Below.refl _ _) (by omega) (by have := HIe.out; omega) (by unfold Wy.en Wy.rdS; rw [HU.out]; rfl) ⟨by show d.taken + d.rdN k ≤ d.came; have : d.rdN k ≤ d.came - d.taken := Nat.min_le_right _ _; omega, HC.out.ok.came⟩ (((Below.refl _ _).alloc (Nat.le_refl _) _).drew)⟩
    have e : d.all.extract d.taken (d.taken + k) = y := by
      rw [← HY.out]
      congr 1 <;> (have h1 := HM.out; omega)
    rw [e]
    rfl
  · have HKe : Hid ((k : Int) = (d.came : Int) - (d.taken : Int)) := by have := HM.out; show _ = _; omega
    have HU : Hid (((d.taken + d.rdN m : Nat) : Int) = (d.taken : Int) + ((d.came : Int) - (d.taken : Int))) := by
      have h1 := HK.out
      have h2 := HKe.out
      show _ = _
      omega
    have hsl := fun W => str_cut d.all (d.taken : Int) ((d.taken : Int) + ((d.came : Int) - (d.taken : Int))) (by omega) (by omega) (by have := HM.out; omega) W
    obtain ⟨y, hy⟩ : ∃ y, d.all.extract (d.taken : Int).toNat ((d.taken : Int) + ((d.came : Int) - (d.taken : Int))).toNat = y := ⟨_, rfl⟩
    have HY : Hid (d.all.extract (d.taken : Int).toNat ((d.taken : Int) + ((d.came : Int) - (d.taken : Int))).toNat = y) := hy
    simp only [hy] at hsl
    clear hy
    go_enter Try.func23, Try.ntmps23
    go_wp2_with fail
    refine HW.out.mono ?_
    rintro e u ⟨rfl, rfl⟩
    go_wp2
    go_region
    go_wp2
    go_ret2
    refine ⟨?_, HC.out.set1 w _ _ 2 _ (d.rdS m) (Below.refl _ _) (by omega) (by have := HIe.out; omega) (by unfold Wy.en Wy.rdS; rw [HU.out]; rfl) ⟨by show d.taken + d.rdN m ≤ d.came; have : d.rdN m ≤ d.came - d.taken := Nat.min_le_right _ _; omega, HC.out.ok.came⟩ (((Below.refl _ _).alloc (Nat.le_refl _) _).drew)⟩
    have e : d.all.extract d.taken (d.taken + k) = y := by
      rw [← HY.out]
      congr 1 <;> (have h1 := HM.out; omega)
    rw [e]
    rfl

set_option maxRecDepth 100000 in
set_option maxHeartbeats 400000 in
theorem rwrite_0 (i j : Nat) (x : ByteArray) (w : World) {d : Wy} (hI : RefI r R w F) (hie : i = 2 * j + 1) (hd : R[i]? = some d) (hB : d.all.size ≤ 1000000000) (hx : x.size ≤ reachBytes) :
    Calls Try.prog 21 #[.pointer (some ⟨r, 0, none⟩), .int .i64 (j : Int), .int .i64 0, .string x] w fun e w' => e = .returned (.int .i64 (d.dr.wrE x.size)) ∧ Goes (RefI r (R.set i (d.wrS x))) w w' F := by
  obtain ⟨g, K, cap, hC, hlen⟩ := hI.wyC hd
  have hil : i < R.length := (List.getElem?_eq_some_iff.1 hd).1
  have hj : j < K := by omega
  have hjI : (j : Int) < (K : Int) := by omega
  have HW : Hid (Calls Try.prog 30 #[.pointer (some ⟨r, 0, none⟩), .int .i64 (j : Int), .int .i64 0] w fun e w' => e = .returned (.int .i64 0) ∧ w = w') := wrong_ok (t := 0) w hI hlen hj (by omega)
  have HC : Hid (WyC w r F R i d g K cap) := hC
  have HD : Hid (R.set i d = R) := rset_self hd
  have HIe : Hid (i = 2 * j + 1) := hie
  have c0 := hC.c0
  have c1 : w.cell? ⟨g, j * 8 + 4, none⟩ = some (.string d.all) := by have := hC.c 0 _ rfl; rwa [show 4 * i + 0 = j * 8 + 4 from by omega] at this
  have c2 : w.cell? ⟨g, j * 8 + 5, none⟩ = some (.int .i64 (d.came : Int)) := by have := hC.c 1 _ rfl; rwa [show 4 * i + 1 = j * 8 + 5 from by omega] at this
  have c3 : w.cell? ⟨g, j * 8 + 6, none⟩ = some (.int .i64 (d.taken : Int)) := by have := hC.c 2 _ rfl; rwa [show 4 * i + 2 = j * 8 + 6 from by omega] at this
  have c4 : w.cell? ⟨g, j * 8 + 7, none⟩ = some (.bool d.shut) := by have := hC.c 3 _ rfl; rwa [show 4 * i + 3 = j * 8 + 7 from by omega] at this
  have f1 := hC.fz (j * 8 + 4)
  have f2 := hC.fz (j * 8 + 5)
  have f3 := hC.fz (j * 8 + 6)
  have f4 := hC.fz (j * 8 + 7)
  have hfew := hC.few
  have htk := hC.ok.taken
  have hcm := hC.ok.came
  have hgl := hC.lt
  have hrl := hC.rlt
  clear hC hI hd hlen hil hie
  have hql : d.dr.q.length = d.all.size - d.taken := d.dr_len
  have HSh : Hid (d.dr.shut = d.shut) := rfl
  have HN : Hid (∀ o, Goes (RefI r R) w (w.alloc o) F) := fun o => (Goes.stay HC.out.stay).thenStay (refI_res _ _) ((Below.refl _ _).alloc (Nat.le_refl _) o)
  unfold reachBytes at hx
  cases hsh : d.shut with
  | true =>
    rw [hsh] at c4
    have e1 : d.dr.wrE x.size = 20 := by unfold Dr.wrE; rw [HSh.out, hsh]; rfl
    have e2 : d.wrS x = d := by unfold Wy.wrS; rw [hsh]; rfl
    rw [e1, e2, HD.out]
    clear hsh e1 e2 hql
    go_enter Try.func21, Try.ntmps21
    go_wp2_with fail
    refine HW.out.mono ?_
    rintro e u ⟨rfl, rfl⟩
    go_wp2
    go_ret
    exact ⟨rfl, HN.out _⟩
  | false =>
    rw [hsh] at c4
    by_cases hlong : (262144 : Int) < (d.all.size : Int) - (d.taken : Int) + (x.size : Int)
    · have e1 : d.dr.wrE x.size = 2 := by unfold Dr.wrE; rw [HSh.out, hsh, if_neg (by simp), if_pos (by omega)]
      have e2 : d.wrS x = d := by unfold Wy.wrS; rw [hsh, if_neg (by simp), if_pos (by omega)]
      rw [e1, e2, HD.out]
      clear hsh e1 e2 hql
      go_enter Try.func21, Try.ntmps21
      go_wp2_with fail
      refine HW.out.mono ?_
      rintro e u ⟨rfl, rfl⟩
      go_wp2
      go_ret
      exact ⟨rfl, HN.out _⟩
    · have e1 : d.dr.wrE x.size = 0 := by unfold Dr.wrE; rw [HSh.out, hsh, if_neg (by simp), if_neg (by omega)]
      have e2 : d.wrS x = ⟨d.all ++ x, d.came, d.taken, false⟩ := by unfold Wy.wrS; rw [hsh, if_neg (by simp), if_neg (by omega)]
      rw [e1, e2]
      have HOk : Hid (d.taken ≤ d.came ∧ d.came ≤ (d.all ++ x).size) := ⟨htk, by rw [ByteArray.size_append]; omega⟩
      clear hsh e1 e2 hql
      go_enter Try.func21, Try.ntmps21
      go_wp2_with fail
      refine HW.out.mono ?_
      rintro e u ⟨rfl, rfl⟩
      go_wp2
      go_region
      go_wp2
      go_ret
      exact ⟨rfl, HC.out.set4 w _ _ ⟨d.all ++ x, d.came, d.taken, false⟩ (Below.refl _ _) (by have := HIe.out; omega) ⟨HOk.out.1, HOk.out.2⟩ (((Below.refl _ _).alloc (Nat.le_refl _) _).drew)⟩

set_option maxRecDepth 100000 in
set_option maxHeartbeats 400000 in
theorem rwrite_1 (i j : Nat) (x : ByteArray) (w : World) {d : Wy} (hI : RefI r R w F) (hie : i = 2 * j + 0) (hd : R[i]? = some d) (hB : d.all.size ≤ 1000000000) (hx : x.size ≤ reachBytes) :
    Calls Try.prog 21 #[.pointer (some ⟨r, 0, none⟩), .int .i64 (j : Int), .int .i64 1, .string x] w fun e w' => e = .returned (.int .i64 (d.dr.wrE x.size)) ∧ Goes (RefI r (R.set i (d.wrS x))) w w' F := by
  obtain ⟨g, K, cap, hC, hlen⟩ := hI.wyC hd
  have hil : i < R.length := (List.getElem?_eq_some_iff.1 hd).1
  have hj : j < K := by omega
  have hjI : (j : Int) < (K : Int) := by omega
  have HW : Hid (Calls Try.prog 30 #[.pointer (some ⟨r, 0, none⟩), .int .i64 (j : Int), .int .i64 1] w fun e w' => e = .returned (.int .i64 0) ∧ w = w') := wrong_ok (t := 1) w hI hlen hj (by omega)
  have HC : Hid (WyC w r F R i d g K cap) := hC
  have HD : Hid (R.set i d = R) := rset_self hd
  have HIe : Hid (i = 2 * j + 0) := hie
  have c0 := hC.c0
  have c1 : w.cell? ⟨g, j * 8, none⟩ = some (.string d.all) := by have := hC.c 0 _ rfl; rwa [show 4 * i + 0 = j * 8 from by omega] at this
  have c2 : w.cell? ⟨g, j * 8 + 1, none⟩ = some (.int .i64 (d.came : Int)) := by have := hC.c 1 _ rfl; rwa [show 4 * i + 1 = j * 8 + 1 from by omega] at this
  have c3 : w.cell? ⟨g, j * 8 + 2, none⟩ = some (.int .i64 (d.taken : Int)) := by have := hC.c 2 _ rfl; rwa [show 4 * i + 2 = j * 8 + 2 from by omega] at this
  have c4 : w.cell? ⟨g, j * 8 + 3, none⟩ = some (.bool d.shut) := by have := hC.c 3 _ rfl; rwa [show 4 * i + 3 = j * 8 + 3 from by omega] at this
  have f1 := hC.fz (j * 8)
  have f2 := hC.fz (j * 8 + 1)
  have f3 := hC.fz (j * 8 + 2)
  have f4 := hC.fz (j * 8 + 3)
  have hfew := hC.few
  have htk := hC.ok.taken
  have hcm := hC.ok.came
  have hgl := hC.lt
  have hrl := hC.rlt
  clear hC hI hd hlen hil hie
  have hql : d.dr.q.length = d.all.size - d.taken := d.dr_len
  have HSh : Hid (d.dr.shut = d.shut) := rfl
  have HN : Hid (∀ o, Goes (RefI r R) w (w.alloc o) F) := fun o => (Goes.stay HC.out.stay).thenStay (refI_res _ _) ((Below.refl _ _).alloc (Nat.le_refl _) o)
  unfold reachBytes at hx
  cases hsh : d.shut with
  | true =>
    rw [hsh] at c4
    have e1 : d.dr.wrE x.size = 20 := by unfold Dr.wrE; rw [HSh.out, hsh]; rfl
    have e2 : d.wrS x = d := by unfold Wy.wrS; rw [hsh]; rfl
    rw [e1, e2, HD.out]
    clear hsh e1 e2 hql
    go_enter Try.func21, Try.ntmps21
    go_wp2_with fail
    refine HW.out.mono ?_
    rintro e u ⟨rfl, rfl⟩
    go_wp2
    go_ret
    exact ⟨rfl, HN.out _⟩
  | false =>
    rw [hsh] at c4
    by_cases hlong : (262144 : Int) < (d.all.size : Int) - (d.taken : Int) + (x.size : Int)
    · have e1 : d.dr.wrE x.size = 2 := by unfold Dr.wrE; rw [HSh.out, hsh, if_neg (by simp), if_pos (by omega)]
      have e2 : d.wrS x = d := by unfold Wy.wrS; rw [hsh, if_neg (by simp), if_pos (by omega)]
      rw [e1, e2, HD.out]
      clear hsh e1 e2 hql
      go_enter Try.func21, Try.ntmps21
      go_wp2_with fail
      refine HW.out.mono ?_
      rintro e u ⟨rfl, rfl⟩
      go_wp2
      go_ret
      exact ⟨rfl, HN.out _⟩
    · have e1 : d.dr.wrE x.size = 0 := by unfold Dr.wrE; rw [HSh.out, hsh, if_neg (by simp), if_neg (by omega)]
      have e2 : d.wrS x = ⟨d.all ++ x, d.came, d.taken, false⟩ := by unfold Wy.wrS; rw [hsh, if_neg (by simp), if_neg (by omega)]
      rw [e1, e2]
      have HOk : Hid (d.taken ≤ d.came ∧ d.came ≤ (d.all ++ x).size) := ⟨htk, by rw [ByteArray.size_append]; omega⟩
      clear hsh e1 e2 hql
      go_enter Try.func21, Try.ntmps21
      go_wp2_with fail
      refine HW.out.mono ?_
      rintro e u ⟨rfl, rfl⟩
      go_wp2
      go_region
      go_wp2
      go_ret
      exact ⟨rfl, HC.out.set4 w _ _ ⟨d.all ++ x, d.came, d.taken, false⟩ (Below.refl _ _) (by have := HIe.out; omega) ⟨HOk.out.1, HOk.out.2⟩ (((Below.refl _ _).alloc (Nat.le_refl _) _).drew)⟩

end
end Go.Proofs.Ythfmppghdlniiaa
