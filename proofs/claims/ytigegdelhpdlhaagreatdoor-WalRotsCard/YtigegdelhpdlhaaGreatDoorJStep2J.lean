import Derived.Test.YtigegdelhpdlhaaGreatDoorJMark2J
import Derived.Test.YtigegdelhpdlhaaGreatDoorJLoadJ
import Derived.Test.YtigegdelhpdlhaaGreatDoorJRotPJ
/- Layer 18: Load and Open over a disk of logs that rests. -/
namespace Go.Proofs.YtigegdelhpdlhaaGreatDoor
open Go.RowKit QP

section
variable {t k : ByteArray} {d : Nat} {s : Dk.Dsk} {w w' : World} {F : Nat → Prop} {LF : List UInt8 → List (Nat × Nat)} {Es : List Nat}
theorem DiskI.below (h : DiskI d s w F) (hb : Below w.heap.size w w') : DiskI d s w' F := (DiskI.res d s).kept (S := fun _ => False) h (Turn.ofBelow _ hb) (fun _ _ h => h)
/-- what load wants of the entries and the marks -/
structure Fine (LF : List UInt8 → List (Nat × Nat)) (Es : List Nat) : Prop where
  few : ∀ f, (LF f).length ≤ 1000 ∧ ∀ q ∈ LF f, TidOk q.1 ∧ q.2 < 9223372036854775808
  rise : RiseE Es
  low : ∀ e ∈ Es, e ≤ 2147483648
  short : Es.length ≤ 1000
theorem Fine.last (h : Fine LF Es) : lastE Es ≤ 2147483648 := by
  unfold lastE
  cases he : Es.getLast? with
  | none => simp
  | some x => exact h.low x (List.mem_of_getLast? he)
theorem cLoad (h : DiskI d s w F) (q : QDisk s t k LF Es) (f : Fine LF Es) (ht : t.size ≤ 100) (hk : k.size ≤ 100) (h20 : (allE (lastE Es) LF (Dk.keysL s.fs)).length ≤ 20) :
    Calls Tryz.prog 19 #[.pointer (some ⟨d, 0, none⟩)] w fun e w' => ∃ v, e = .returned (.tuple #[v, .int .i64 ((lastE Es : Nat) : Int), .int .i64 0]) ∧ ∃ R, Hid (EntsO w' w.heap.size t k v (sortE R)) ∧ Hid (R.map Er.tn = allE (lastE Es) LF (Dk.keysL s.fs)) ∧ Hid (Below w.heap.size w w') :=
  jLoad_calls (allE (lastE Es) LF (Dk.keysL s.fs)) w fun u hu => jload_any d s t k LF Es u F (h.below hu) (q.wal ht hk f.few f.rise f.low f.short) ht hk h20
theorem cload (h : DiskI d s w F) (q : QDisk s t k LF Es) (f : Fine LF Es) (ht : t.size ≤ 100) (hk : k.size ≤ 100) (h20 : (allE (lastE Es) LF (Dk.keysL s.fs)).length ≤ 20) :
    Calls Tryz.prog 46 #[.pointer (some ⟨d, 0, none⟩)] w fun e w' => ∃ v, e = .returned (.tuple #[v, .int .i64 ((lastE Es : Nat) : Int)]) ∧ Below w.heap.size w w' :=
  (jload_any d s t k LF Es w F h (q.wal ht hk f.few f.rise f.low f.short) ht hk h20).mono fun _ _ ⟨v, e1, _, _, _, h3⟩ => ⟨v, e1, h3⟩
/-- Open, with no marks -/
theorem cOpen0 (h : DiskI d s w F) (q : QDisk s t k LF []) (f : Fine LF []) (h0 : Dk.getL epochB.data.toList s.fs = none) (ht : t.size ≤ 100) (hk : k.size ≤ 100) (h20 : (allE 0 LF (Dk.keysL s.fs)).length ≤ 20) (n : Nat) (hn : n = 1 ∨ n = 2 ∨ n = 3) :
    Calls Tryz.prog 9 #[.pointer (some ⟨d, 0, none⟩), .int .i64 (n : Int)] w fun e w' => ∃ l, e = .returned (.tuple #[.pointer (some ⟨l, 0, none⟩), .int .i64 0]) ∧ Goes (LD t k l d s ⟨wsN n, 0, nextGn (Dk.keysL s.fs)⟩) w w' F := by
  obtain ⟨r1, r2⟩ := q.renew0 h0
  refine jOpen_any (I' := fun l => LD t k l d s ⟨wsN n, 0, nextGn (Dk.keysL s.fs)⟩) (fun l => LD.res t k l d s _) d n w (fun i hi => (DiskI.res d s).lt h i hi) fun u hu => ?_
  refine jopen_any t k n 0 (nextGn (Dk.keysL s.fs)) (h.below hu) hn (cload (h.below hu) q f ht hk h20) (fun u' F' h' => ?_) (fun u' F' h' => jnextG_any h' q.names)
  have := jrenew_none h' (Or.inr r1)
  rw [r2] at this
  exact this
/-- Open, with marks -/
theorem cOpenM (h : DiskI d s w F) (q : QDisk s t k LF Es) (f : Fine LF Es) (h0 : 0 < lastE Es) (ht : t.size ≤ 100) (hk : k.size ≤ 100) (h20 : (allE (lastE Es) LF (Dk.keysL s.fs)).length ≤ 20) (n : Nat) (hn : n = 1 ∨ n = 2 ∨ n = 3) (hfew : s.fs.length < 64) :
    Calls Tryz.prog 9 #[.pointer (some ⟨d, 0, none⟩), .int .i64 (n : Int)] w fun e w' => ∃ l, e = .returned (.tuple #[.pointer (some ⟨l, 0, none⟩), .int .i64 0]) ∧ Goes (LD t k l d (renS s (lastE Es)) ⟨wsN n, lastE Es, nextGn (Dk.keysL (renS s (lastE Es)).fs)⟩) w w' F := by
  obtain ⟨r1, r2, r3, r4, r5, r6, _, _, _⟩ := q.renew (lastE Es) hfew
  refine jOpen_any (I' := fun l => LD t k l d (renS s (lastE Es)) ⟨wsN n, lastE Es, nextGn (Dk.keysL (renS s (lastE Es)).fs)⟩) (fun l => LD.res t k l d _ _) d n w (fun i hi => (DiskI.res d s).lt h i hi) fun u hu => ?_
  exact jopen_any t k n (lastE Es) (nextGn (Dk.keysL (renS s (lastE Es)).fs)) (h.below hu) hn (cload (h.below hu) q f ht hk h20) (fun u' F' h' => jrenew_some (lastE Es) h' f.last h0 (Or.inr r1) r3 r4 r5) (fun u' F' h' => jnextG_any h' r6.names)
/-- Crash with no draws -/
theorem cCrash (h : DiskI d s w F) (q : QDisk s t k LF Es) :
    Calls Tryz.prog 18 #[.pointer (some ⟨d, 0, none⟩), .slice none 0 0] w fun e w' => e = .returned (.int .i64 0) ∧ QDisk (Dk.crashS s []) t k LF Es ∧ (Dk.crashS s []).fs = s.fs ∧ Goes (DiskI d (Dk.crashS s [])) w w' F := by
  obtain ⟨c1, c2⟩ := q.crash [] (by decide)
  obtain ⟨m, G, h1, h2⟩ := h
  refine (crash_any (.slice none 0 0) [] w h1 ⟨none, 0, rfl, Nat.le_refl _, by decide, fun e => absurd rfl e, fun x hx => by cases hx⟩).mono ?_
  rintro e w' ⟨e1, hg⟩
  exact ⟨e1, c2, by rw [c1], hg.to h2⟩
end
end Go.Proofs.YtigegdelhpdlhaaGreatDoor

/- Layer 18: wal.Load of a disk on which a byte of a log is another one. -/
namespace Go.Proofs.YtigegdelhpdlhaaGreatDoor
open Go.RowKit QP

set_option maxRecDepth 100000 in
set_option maxHeartbeats 1000000 in
theorem jframes_rot (d : Nat) (s : Dk.Dsk) (k : ByteArray) (w : World) (F : Nat → Prop) (h : DiskI d s w F) (hk : k.size ≤ maxLen) (D : List UInt8) (hr : RotL D) (hD : Dk.readV s k.data.toList = D) (hsz : D.length ≤ 1000000) :
    Calls Tryz.prog 99 #[.pointer (some ⟨d, 0, none⟩), .string k] w fun e w' => e = .panicked (mis 190) ∧ Below w.heap.size w w' := by
  have hR : Hid (Calls Tryz.prog 22 #[.pointer (some ⟨d, 0, none⟩), .string k] w fun e w' => e = .returned (.tuple #[.string ⟨D.toArray⟩, .int .i64 (Dk.findE s k.data.toList)]) ∧ w = w') := by
    have := dread_i k h hk
    rw [hD] at this
    exact this.mono fun _ _ h => ⟨h.1, h.2.symm⟩
  obtain ⟨x, hx⟩ : ∃ x : ByteArray, (⟨D.toArray⟩ : ByteArray) = x := ⟨_, rfl⟩
  have hxl : x.data.toList = D := by rw [← hx]
  have hxs : x.size ≤ 1000000 := by
    have : x.data.toList.length = x.size := rfl
    rw [← this, hxl]
    exact hsz
  obtain ⟨Bs, Z, r1, r2, r3⟩ := hr
  have f2 := r3 x hxl
  have f1 := frames_is2 x Bs Z r2 (hxl.trans r1) (by rw [f2]; decide)
  have hF : Hid (∀ u, Calls Tryz.prog 120 #[.string x] u fun e w' => ∃ v, e = .returned (.tuple #[v, .int .i64 ((flatF Bs).length : Int)]) ∧ Hid (Below u.heap.size u w')) := fun u => by
    have := fFrames_any x u (by omega)
    rw [f1] at this
    exact this.mono fun e w' ⟨v, e1, _, e3⟩ => ⟨v, e1, e3⟩
  have hU : Hid (∀ u, Calls Tryz.prog 121 #[.string x, .int .i64 ((flatF Bs).length : Int)] u fun e w' => ∃ a b c, e = .returned (.tuple #[.string a, .int .i64 b, .agg #[.int .i64 c, .int .i64 60]]) ∧ Hid (Below u.heap.size u w')) := fun u => by
    refine (fUnframe_any x _ u (by omega)).mono fun e w' ⟨e1, e2⟩ => ⟨(found x ((flatF Bs).length : Nat)).body, (found x ((flatF Bs).length : Nat)).stop, (found x ((flatF Bs).length : Nat)).place, ?_, e2⟩
    rw [e1]
    unfold Found.en
    rw [f2]
  have HRf : Hid (∀ u, Calls Tryz.prog 55 #[.bool true, .int .i64 190] u fun r w' => r = .panicked (mis 190) ∧ u = w') := fun u => (refuse_yes 190 u).mono fun _ _ h => ⟨h.1, h.2.symm⟩
  obtain ⟨q, hq⟩ : ∃ q, (flatF Bs).length = q := ⟨_, rfl⟩
  rw [hx] at hR
  rw [hq] at hF hU
  clear hx hxl hxs f1 f2 hD h hq r1 r2 r3 hsz
  go_enter Tryz.func99, Tryz.ntmps99
  go_wp2_with (first
    | (go_at_call 22; (with_reducible refine hR.out.mono ?_); rintro e w1 ⟨rfl, rfl⟩)
    | (go_at_call 120; (with_reducible refine (hF.out _).mono ?_); rintro e w2 ⟨v, rfl, HB⟩)
    | (go_at_call 121; (with_reducible refine (hU.out _).mono ?_); rintro e w3 ⟨a, b, c, rfl, HB3⟩))
  refine (HRf.out _).mono ?_
  rintro e w4 ⟨rfl, rfl⟩
  have hbA := (Below.refl w3.heap.size w3).alloc (Nat.le_refl _) (.cells #[.int .i64 c, .int .i64 60] 176)
  have hB3 := HB.out.trans (HB3.out.mono HB.out.size)
  exact ⟨rfl, rfl, hB3.trans (hbA.mono hB3.size)⟩

set_option maxRecDepth 100000 in
theorem jupTo_rot (d : Nat) (s : Dk.Dsk) (f : ByteArray) (w : World) (F : Nat → Prop) (h : DiskI d s w F) (hf : f.size ≤ maxLen) (D : List UInt8) (hr : RotL D) (hD : Dk.readV s f.data.toList = D) (hsz : D.length ≤ 1000000) (E : Nat) :
    Calls Tryz.prog 75 #[.int .i64 (E : Int), .pointer (some ⟨d, 0, none⟩), .string f] w fun e w' => e = .panicked (mis 190) ∧ Below w.heap.size w w' := by
  have HFr : Hid (Calls Tryz.prog 99 #[.pointer (some ⟨d, 0, none⟩), .string f] w fun e w' => e = .panicked (mis 190) ∧ Below w.heap.size w w') := jframes_rot d s f w F h hf D hr hD hsz
  clear h hr hD hsz
  go_enter Tryz.func75, Tryz.ntmps75
  go_wp2_with fail
  refine HFr.out.mono ?_
  rintro e w1 ⟨rfl, hb⟩
  exact ⟨rfl, rfl, hb⟩

/-- a disk with marks and one log, of which a byte is another one -/
structure RotD (s : Dk.Dsk) (v g E : Nat) : Prop where
  names : Dk.keysL s.fs = [epochB.data.toList, (logB v g).data.toList]
  small : v < 10 ∧ g < 100
  marks : Dk.readV s epochB.data.toList = flatF ([E].map markN)
  low : 0 < E ∧ E ≤ 2147483648
  rot : RotL (Dk.readV s (logB v g).data.toList)
  short : (Dk.readV s (logB v g).data.toList).length ≤ 1000000

set_option maxRecDepth 100000 in
set_option maxHeartbeats 2000000 in
theorem jload_rot (d v g E : Nat) (s : Dk.Dsk) (w : World) (F : Nat → Prop) (h : DiskI d s w F) (hw : RotD s v g E) :
    Calls Tryz.prog 46 #[.pointer (some ⟨d, 0, none⟩)] w fun e w' => e = .panicked (mis 190) ∧ Below w.heap.size w w' := by
  obtain ⟨hv, hg⟩ := hw.small
  have HDu : Hid (∀ u, Below w.heap.size w u → Calls Tryz.prog 74 #[.pointer (some ⟨d, 0, none⟩)] u fun e w' => e = .returned (.int .i64 (E : Int)) ∧ Below u.heap.size u w') := fun u hu =>
    jdurable_any d s u F (h.below hu) [E] [] torn_nil (by rw [List.append_nil]; exact hw.marks) (by
      rw [List.append_nil, markF_len]
      show 1 * 16 ≤ 1000000
      omega) (fun j hj => by
      match j, hj with
      | 0, _ => exact hw.low.1) (fun e he => by
      simp at he
      rw [he]
      exact hw.low.2)
  have HUp : Hid (∀ u, Below w.heap.size w u → Calls Tryz.prog 75 #[.int .i64 (E : Int), .pointer (some ⟨d, 0, none⟩), .string (logB v g)] u fun e w' => e = .panicked (mis 190) ∧ Below u.heap.size u w') := fun u hu => by
    have hok := (logK_at hv hg).2.2
    have hlen : (logB v g).data.toList.length ≤ 32 := by
      unfold Dk.okName at hok
      simp only [Bool.and_eq_true, decide_eq_true_eq] at hok
      exact hok.1.2
    exact jupTo_rot d s (logB v g) u F (h.below hu) (by show (logB v g).data.toList.length ≤ _; unfold maxLen; omega) _ hw.rot rfl hw.short E
  have HNm : Hid (∀ u, Below w.heap.size w u → Calls Tryz.prog 42 #[.pointer (some ⟨d, 0, none⟩)] u fun e w' => ∃ a c, e = .returned (.slice (some ⟨a, 0, none⟩) 2 c) ∧ c ≤ 9223372036854775807 ∧ 2 ≤ c ∧ Hid (∀ u', Below w'.heap.size w' u' → u'.cell? ⟨a, 0, none⟩ = some (.string epochB) ∧ u'.cell? ⟨a, 1, none⟩ = some (.string (logB v g))) ∧ Below u.heap.size u w') := fun u hu => by
    have hl : s.fs.length = 2 := by
      have := congrArg List.length hw.names
      rw [show (Dk.keysL s.fs).length = s.fs.length by simp [Dk.keysL]] at this
      exact this
    refine (dnames_i (h.below hu)).mono fun e w' ⟨x, e1, e2, e3⟩ => ?_
    rw [hl, hw.names] at e2
    obtain ⟨A, c, rfl⟩ := row_shapeJ e2
    obtain ⟨a, rfl, hc1, hc2⟩ := row_someJ e2 (by decide)
    refine ⟨a, c, e1, hc2, hc1, fun u' hu' => ⟨?_, ?_⟩, e3⟩
    · have h1 := World.ownsRow.cells (row_kept e2 hu') (g := a) rfl 0 (.string epochB) (by rfl)
      exact h1
    · have h1 := World.ownsRow.cells (row_kept e2 hu') (g := a) rfl 1 (.string (logB v g)) (by rfl)
      exact h1
  have HG0 : Hid (∀ u, Calls Tryz.prog 59 #[.string epochB] u fun e w' => e = .returned (.tuple #[.int .i64 ((0 : Nat) : Int), .bool false]) ∧ Below u.heap.size u w') := fun u => by
    have := jgen_any epochB.data.toList (Or.inl rfl) u
    rw [logK_epoch.1] at this
    exact this
  have HG1 : Hid (∀ u, Calls Tryz.prog 59 #[.string (logB v g)] u fun e w' => e = .returned (.tuple #[.int .i64 ((g : Nat) : Int), .bool true]) ∧ Below u.heap.size u w') := fun u => by
    have := jgen_any (logB v g).data.toList (Or.inr (Or.inr ⟨v, g, hv, hg, rfl⟩)) u
    rw [(logK_at hv hg).1, if_pos rfl, (logK_at hv hg).2.1] at this
    exact this
  have HRf : Hid (∀ u, Calls Tryz.prog 55 #[.bool false, .int .i64 5] u fun r w' => r = .returned (.tuple #[]) ∧ u = w') := fun u => (refuse_no 5 u).mono fun _ _ h => ⟨h.1, h.2.symm⟩
  obtain ⟨KE, hKE⟩ : ∃ b, epochB = b := ⟨_, rfl⟩
  obtain ⟨KL, hKL⟩ : ∃ b, logB v g = b := ⟨_, rfl⟩
  rw [hKE] at HG0 HNm
  rw [hKL] at HG1 HNm HUp
  clear h hw hv hg hKE hKL
  go_enter Tryz.func46, Tryz.ntmps46
  go_wp2_with (first
    | (go_at_call 55; (with_reducible refine (HRf.out _).mono ?_); rintro e w0 ⟨rfl, rfl⟩)
    | (go_at_call 74; (with_reducible refine (HDu.out _ (Below.refl _ _)).mono ?_); rintro e w1 ⟨rfl, hb1⟩)
    | (go_at_call 42; (with_reducible refine (HNm.out _ hb1).mono ?_); rintro e w2 ⟨a, c, rfl, hc2, hc1, HO, hb2⟩))
  have HB2 : Hid (Below w.heap.size w w2) := hb1.trans (hb2.mono hb1.size)
  clear hb1 hb2 HDu HNm
  go_loopw [5, 18] (fun v i wr => ∃ (j : Nat), j ≤ 1 ∧ i = .int .i64 j ∧ v = .slice none 0 0 ∧ Hid (Below w2.heap.size w2 wr)) (fun _ i _ => 2 - (intOf i).toNat)
  case atStart => exact ⟨0, Nat.zero_le _, rfl, rfl, Below.refl _ _⟩
  case round =>
    obtain ⟨j, hj, rfl, rfl, HBr⟩ := hrel
    obtain ⟨q0, q1⟩ := HO.out wr HBr.out
    rcases (show j = 0 ∨ j = 1 by omega) with rfl | rfl
    · go_wp2_with (go_at_call 59; (with_reducible refine (HG0.out _).mono ?_); rintro e w3 ⟨rfl, hb3⟩; have HB3 : Hid (Below w2.heap.size w2 w3) := HBr.out.trans (hb3.mono HBr.out.size); clear hb3)
      exact ⟨⟨1, by omega, by go_num, rfl, HB3⟩, by simp [intOf]⟩
    · go_wp2_with (go_at_call 59; (with_reducible refine (HG1.out _).mono ?_); rintro e w3 ⟨rfl, hb3⟩; have HB3 : Hid (Below w.heap.size w w3) := HB2.out.trans ((HBr.out.trans (hb3.mono HBr.out.size)).mono HB2.out.size); clear hb3)
      refine (HUp.out _ HB3.out).mono ?_
      rintro e w4 ⟨rfl, hb4⟩
      exact ⟨rfl, rfl, HB3.out.trans (hb4.mono HB3.out.size)⟩
end Go.Proofs.YtigegdelhpdlhaaGreatDoor
