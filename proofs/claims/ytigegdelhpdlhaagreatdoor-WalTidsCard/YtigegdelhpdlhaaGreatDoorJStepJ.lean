import Derived.Test.YtigegdelhpdlhaaGreatDoorJFlushJ
import Derived.Test.YtigegdelhpdlhaaGreatDoorJTidPJ
import Derived.Test.YtigegdelhpdlhaaGreatDoorJLdJ
/- Layer 18: a log and its disk under the calls. -/
namespace Go.Proofs.YtigegdelhpdlhaaGreatDoor
open Go.RowKit QP

section
variable {t k : ByteArray} {l d : Nat} {s : Dk.Dsk} {L L' : Lg} {w w' : World} {F : Nat → Prop}
theorem LD.onLog {f : FuncId} {args : Array Value} {E : Ending} (h : LD t k l d s L w F) (hk : ∀ B, LogI t k l d L w B → Calls Tryz.prog f args w fun e w' => e = E ∧ Goes (LogI t k l d L') w w' B) :
    Calls Tryz.prog f args w fun e w' => e = E ∧ Goes (LD t k l d s L') w w' F := by
  obtain ⟨A, B, hD, hL, hAB, hAF, hBF, _⟩ := h
  exact (hk B hL).mono fun e w' ⟨e1, h1⟩ => ⟨e1, (Sep.goL (DiskI.res d s) hD (fun j hb ha => hAB j ha hb) hBF hAF h1).swap⟩
theorem LD.below (h : LD t k l d s L w F) (hb : Below w.heap.size w w') : LD t k l d s L w' F := (LD.res t k l d s L).kept (S := fun _ => False) h (Turn.ofBelow _ hb) (fun _ _ h => h)
theorem LD.goBelow (h : LD t k l d s L w F) (hb : Below w.heap.size w w') : Goes (LD t k l d s L) w w' F := ⟨F, h.below hb, Turn.ofBelow _ hb, fun _ h => Or.inl h⟩
theorem LD.low (h : LD t k l d s L w F) : ∀ i, F i → i < w.heap.size := (LD.res t k l d s L).lt h

/-- Add -/
theorem cAdd_ok (h : LD t k l d s L w F) (i T n g x : Nat) (wk : Wk) (hwk : L.ws[i]? = some wk) (hwl : wk.1.length ≤ 900) (hT : TidOk T) (hg : w.heap[g]? = some (boxJ t k x)) (hx : OneAt w x 2 (n : Int) ByteArray.empty) (hn : n < 9223372036854775808) (ht : t.size ≤ 100) (hk : k.size ≤ 100) (hlast : wk.2 < T) (hdur : L.dur < T / 8388608) :
    Calls Tryz.prog 15 #[.pointer (some ⟨l, 0, none⟩), .int .i64 (i : Int), .agg #[.int .u64 (T : Int), .slice (some ⟨g, 0, none⟩) 1 1]] w fun e w' => e = .returned (.int .i64 0) ∧ Goes (LD t k l d s { L with ws := L.ws.set i (wk.1 ++ [(T, n)], T) }) w w' F :=
  jAdd_ok (LD.res t k l d s _) l i T g w h.low fun u hu => (h.below hu).onLog fun B hL => jadd_i t k l d i wk L u B T n g x hL hwk hwl hT ((hu.block _ (lt_of hg)).trans hg) (hx.below hu) hn ht hk hlast hdur
theorem cAdd_old (h : LD t k l d s L w F) (i T n g x : Nat) (wk : Wk) (hwk : L.ws[i]? = some wk) (hT : TidOk T) (hg : w.heap[g]? = some (boxJ t k x)) (hx : OneAt w x 2 (n : Int) ByteArray.empty) (hn : n < 9223372036854775808) (ht : t.size ≤ 100) (hk : k.size ≤ 100) (hlast : wk.2 < T) (hdur : T / 8388608 ≤ L.dur) :
    Calls Tryz.prog 15 #[.pointer (some ⟨l, 0, none⟩), .int .i64 (i : Int), .agg #[.int .u64 (T : Int), .slice (some ⟨g, 0, none⟩) 1 1]] w fun e w' => e = .returned (.int .i64 111) ∧ Goes (LD t k l d s L) w w' F :=
  jAdd_err 111 (LD.res t k l d s _) l i T g w h.low fun u hu => by
    have hu' := h.below hu
    obtain ⟨A, B, hD, ⟨b, vs, hG, hB⟩, hAB, hAF, hBF, _⟩ := id hu'
    have hwi : i < L.ws.length := (List.getElem?_eq_some_iff.1 hwk).1
    have hv : vs[i]? = some (vs[i]'(by rw [hG.len]; exact hwi)) := List.getElem?_eq_getElem _
    obtain ⟨c0, c1⟩ := hG.wk hv hwk
    obtain ⟨cur, hcur, _⟩ := hG.row
    exact (jaddOld_walk t k l d b i L.ws.length _ wk (L.dur : Int) (L.gen : Int) u T n g x hG.top hwi ⟨cur, hcur⟩ c0 c1 (hG.own i _ wk hv hwk) hT ((hu.block _ (lt_of hg)).trans hg) (hx.below hu) hn ht hk hlast (by omega)).mono fun e w' ⟨e1, e2⟩ => ⟨e1, hu'.goBelow e2⟩
/-- Flush -/
theorem cFlush (h : LD t k l d s L w F) {LF : List UInt8 → List (Nat × Nat)} {Es : List Nat} (q : QDisk s t k LF Es) (i : Nat) (wk : Wk) (hwk : L.ws[i]? = some wk) (hi : i < 10) (hg : L.gen < 100) (ht : t.size ≤ 100) (hk : k.size ≤ 100) (hl : (LF (logB i L.gen).data.toList).length + wk.1.length ≤ 1000) (hn : s.fs.length < 64) :
    Calls Tryz.prog 16 #[.pointer (some ⟨l, 0, none⟩), .int .i64 (i : Int)] w fun e w' => e = .returned (.int .i64 0) ∧ ∃ s2, QDisk s2 t k (updF LF (logB i L.gen).data.toList (LF (logB i L.gen).data.toList ++ wk.1)) Es ∧ s2.fs.length ≤ s.fs.length + 1 ∧ Dk.keysL s2.fs = (if wk.1 = [] then Dk.keysL s.fs else Dk.insN (logB i L.gen).data.toList (Dk.keysL s.fs)) ∧ Goes (LD t k l d s2 { L with ws := L.ws.set i ([], wk.2) }) w w' F := by
  by_cases h0 : wk.1 = []
  · have e1 : updF LF (logB i L.gen).data.toList (LF (logB i L.gen).data.toList ++ wk.1) = LF := by
      funext q
      unfold updF
      split
      · next e => rw [h0, List.append_nil, e]
      · rfl
    have e2 : L.ws.set i ([], wk.2) = L.ws := by
      obtain ⟨hi, hv⟩ := List.getElem?_eq_some_iff.1 hwk
      rw [show (([], wk.2) : Wk) = L.ws[i] by rw [hv, ← h0]]
      exact List.set_getElem_self _
    rw [e1, e2]
    refine (jFlush_ok (LD.res t k l d s L) l i w h.low fun u hu => ?_).mono fun e w' ⟨h1, h2⟩ => ⟨h1, s, q, by omega, by rw [if_pos h0], h2⟩
    have hwk' : L.ws[i]? = some ([], wk.2) := by rw [hwk, ← h0]
    exact (jflush_none t k l d i s L wk.2 u F (h.below hu) hwk').mono fun e w' ⟨h1, h2⟩ => ⟨h1, by rw [← h2]; exact Goes.stay (h.below hu)⟩
  · obtain ⟨a1, a2, a3, a4, a5⟩ := q.log hi hg wk.1 hl ht hk hn
    exact (jFlush_ok (LD.res t k l d _ _) l i w h.low fun u hu => jflush_some t k l d i s L wk u F (h.below hu) hwk h0 hi hg ht hk a1 a2).mono fun e w' ⟨h1, h2⟩ => ⟨h1, _, a3, a4, by rw [if_neg h0]; exact a5, h2⟩
/-- Mark -/
theorem cMark (h : LD t k l d s L w F) {LF : List UInt8 → List (Nat × Nat)} {Es : List Nat} (q : QDisk s t k LF Es) (ep : Nat) (he : L.dur < ep) (he2 : ep ≤ 2147483648) (hall : ∀ wk ∈ L.ws, wk.1 = []) (hl : Es.length ≤ 1000) (hn : s.fs.length < 64) :
    Calls Tryz.prog 17 #[.pointer (some ⟨l, 0, none⟩), .int .i64 (ep : Int)] w fun e w' => e = .returned (.int .i64 0) ∧ ∃ s2, QDisk s2 t k LF (Es ++ [ep]) ∧ s2.fs.length ≤ s.fs.length + 1 ∧ Dk.keysL s2.fs = Dk.insN epochB.data.toList (Dk.keysL s.fs) ∧ Goes (LD t k l d s2 { L with dur := ep }) w w' F := by
  obtain ⟨a1, a2, a3, a4, a5⟩ := q.mark ep hl hn
  exact (jMark_ok (LD.res t k l d _ _) l ep w h.low fun u hu => jmark_any t k l d ep s L u F (h.below hu) he he2 hall a1 a2).mono fun e w' ⟨h1, h2⟩ => ⟨h1, _, a3, a4, a5, h2⟩
theorem cMark_late (h : LD t k l d s L w F) (ep : Nat) (he : L.dur < ep) (he2 : ep ≤ 2147483648) (J : Nat) (hJ : J < L.ws.length) (hall : ∀ j, (hj : j < J) → (L.ws[j]'(by omega)).1 = []) (p : Nat × Nat) (r : List (Nat × Nat)) (hp : L.ws[J].1 = p :: r) (hpe : p.1 / 8388608 ≤ ep) :
    Calls Tryz.prog 17 #[.pointer (some ⟨l, 0, none⟩), .int .i64 (ep : Int)] w fun e w' => e = .returned (.int .i64 180) ∧ Goes (LD t k l d s L) w w' F :=
  jMark_err 180 (LD.res t k l d s _) l ep w h.low fun u hu => by
    have hu' := h.below hu
    obtain ⟨A, B, hD, hL, hAB, hAF, hBF, _⟩ := id hu'
    exact (jmark_late t k l d ep L u B hL he he2 J hJ hall p r hp hpe).mono fun e w' ⟨e1, e2⟩ => ⟨e1, hu'.goBelow e2⟩
end
end Go.Proofs.YtigegdelhpdlhaaGreatDoor

/- Layer 18: Load and Open over a disk of logs that rests. -/
namespace Go.Proofs.YtigegdelhpdlhaaGreatDoor
open Go.RowKit QP

section
variable {t k : ByteArray} {d : Nat} {s : Dk.Dsk} {w w' : World} {F : Nat → Prop} {LF : List UInt8 → List (Nat × Nat)} {Es : List Nat}
theorem DiskI.below (h : DiskI d s w F) (hb : Below w.heap.size w w') : DiskI d s w' F := (DiskI.res d s).kept (S := fun _ => False) h (Turn.ofBelow _ hb) (fun _ _ h => h)
/-- what load wants of the entries and the marks -/
structure Fine (LF : List UInt8 → List (Nat × Nat)) (Es : List Nat) : Prop where
  few : ∀ f, (LF f).length ≤ 1000 ∧ ∀ q ∈ LF f, TidOk q.1 ∧ q.2 < 9223372036854775808
  rise : RiseE Es
  low : ∀ e ∈ Es, e ≤ 2147483648
  short : Es.length ≤ 1000
theorem Fine.last (h : Fine LF Es) : lastE Es ≤ 2147483648 := by
  unfold lastE
  cases he : Es.getLast? with
  | none => simp
  | some x => exact h.low x (List.mem_of_getLast? he)
theorem cLoad (h : DiskI d s w F) (q : QDisk s t k LF Es) (f : Fine LF Es) (ht : t.size ≤ 100) (hk : k.size ≤ 100) (h20 : (allE (lastE Es) LF (Dk.keysL s.fs)).length ≤ 20) :
    Calls Tryz.prog 19 #[.pointer (some ⟨d, 0, none⟩)] w fun e w' => ∃ v, e = .returned (.tuple #[v, .int .i64 ((lastE Es : Nat) : Int), .int .i64 0]) ∧ ∃ R, Hid (EntsO w' w.heap.size t k v (sortE R)) ∧ Hid (R.map Er.tn = allE (lastE Es) LF (Dk.keysL s.fs)) ∧ Hid (Below w.heap.size w w') :=
  jLoad_calls (allE (lastE Es) LF (Dk.keysL s.fs)) w fun u hu => jload_any d s t k LF Es u F (h.below hu) (q.wal ht hk f.few f.rise f.low f.short) ht hk h20
theorem cload (h : DiskI d s w F) (q : QDisk s t k LF Es) (f : Fine LF Es) (ht : t.size ≤ 100) (hk : k.size ≤ 100) (h20 : (allE (lastE Es) LF (Dk.keysL s.fs)).length ≤ 20) :
    Calls Tryz.prog 46 #[.pointer (some ⟨d, 0, none⟩)] w fun e w' => ∃ v, e = .returned (.tuple #[v, .int .i64 ((lastE Es : Nat) : Int)]) ∧ Below w.heap.size w w' :=
  (jload_any d s t k LF Es w F h (q.wal ht hk f.few f.rise f.low f.short) ht hk h20).mono fun _ _ ⟨v, e1, _, _, _, h3⟩ => ⟨v, e1, h3⟩
/-- Open, with no marks -/
theorem cOpen0 (h : DiskI d s w F) (q : QDisk s t k LF []) (f : Fine LF []) (h0 : Dk.getL epochB.data.toList s.fs = none) (ht : t.size ≤ 100) (hk : k.size ≤ 100) (h20 : (allE 0 LF (Dk.keysL s.fs)).length ≤ 20) (n : Nat) (hn : n = 1 ∨ n = 2 ∨ n = 3 ∨ n = 4) :
    Calls Tryz.prog 9 #[.pointer (some ⟨d, 0, none⟩), .int .i64 (n : Int)] w fun e w' => ∃ l, e = .returned (.tuple #[.pointer (some ⟨l, 0, none⟩), .int .i64 0]) ∧ Goes (LD t k l d s ⟨wsN n, 0, nextGn (Dk.keysL s.fs)⟩) w w' F := by
  obtain ⟨r1, r2⟩ := q.renew0 h0
  refine jOpen_any (I' := fun l => LD t k l d s ⟨wsN n, 0, nextGn (Dk.keysL s.fs)⟩) (fun l => LD.res t k l d s _) d n w (fun i hi => (DiskI.res d s).lt h i hi) fun u hu => ?_
  refine jopen_any t k n 0 (nextGn (Dk.keysL s.fs)) (h.below hu) hn (cload (h.below hu) q f ht hk h20) (fun u' F' h' => ?_) (fun u' F' h' => jnextG_any h' q.names)
  have := jrenew_none h' (Or.inr r1)
  rw [r2] at this
  exact this
/-- Open, with marks -/
theorem cOpenM (h : DiskI d s w F) (q : QDisk s t k LF Es) (f : Fine LF Es) (h0 : 0 < lastE Es) (ht : t.size ≤ 100) (hk : k.size ≤ 100) (h20 : (allE (lastE Es) LF (Dk.keysL s.fs)).length ≤ 20) (n : Nat) (hn : n = 1 ∨ n = 2 ∨ n = 3 ∨ n = 4) (hfew : s.fs.length < 64) :
    Calls Tryz.prog 9 #[.pointer (some ⟨d, 0, none⟩), .int .i64 (n : Int)] w fun e w' => ∃ l, e = .returned (.tuple #[.pointer (some ⟨l, 0, none⟩), .int .i64 0]) ∧ Goes (LD t k l d (renS s (lastE Es)) ⟨wsN n, lastE Es, nextGn (Dk.keysL (renS s (lastE Es)).fs)⟩) w w' F := by
  obtain ⟨r1, r2, r3, r4, r5, r6, _, _, _⟩ := q.renew (lastE Es) hfew
  refine jOpen_any (I' := fun l => LD t k l d (renS s (lastE Es)) ⟨wsN n, lastE Es, nextGn (Dk.keysL (renS s (lastE Es)).fs)⟩) (fun l => LD.res t k l d _ _) d n w (fun i hi => (DiskI.res d s).lt h i hi) fun u hu => ?_
  exact jopen_any t k n (lastE Es) (nextGn (Dk.keysL (renS s (lastE Es)).fs)) (h.below hu) hn (cload (h.below hu) q f ht hk h20) (fun u' F' h' => jrenew_some (lastE Es) h' f.last h0 (Or.inr r1) r3 r4 r5) (fun u' F' h' => jnextG_any h' r6.names)
/-- Crash with no draws -/
theorem cCrash (h : DiskI d s w F) (q : QDisk s t k LF Es) :
    Calls Tryz.prog 18 #[.pointer (some ⟨d, 0, none⟩), .slice none 0 0] w fun e w' => e = .returned (.int .i64 0) ∧ QDisk (Dk.crashS s []) t k LF Es ∧ (Dk.crashS s []).fs = s.fs ∧ Goes (DiskI d (Dk.crashS s [])) w w' F := by
  obtain ⟨c1, c2⟩ := q.crash [] (by decide)
  obtain ⟨m, G, h1, h2⟩ := h
  refine (crash_any (.slice none 0 0) [] w h1 ⟨none, 0, rfl, Nat.le_refl _, by decide, fun e => absurd rfl e, fun x hx => by cases hx⟩).mono ?_
  rintro e w' ⟨e1, hg⟩
  exact ⟨e1, c2, by rw [c1], hg.to h2⟩
end
end Go.Proofs.YtigegdelhpdlhaaGreatDoor

/- Layer 18: the statements' entries (entry). -/
namespace Go.Proofs.YtigegdelhpdlhaaGreatDoor
open Go.RowKit QP

abbrev tB : ByteArray := ⟨#[116]⟩
abbrev kB : ByteArray := ⟨#[107]⟩
def tidN (ep sq : Nat) : Nat := ep * 8388608 + sq * 8
theorem tid_ok {ep sq : Nat} (h1 : ep ≤ 2147483648) (h2 : sq ≤ 1048575) : TidOk (tidN ep sq) ∧ tidN ep sq / 8388608 = ep := by
  unfold tidN
  refine ⟨⟨by omega, by omega, by omega⟩, by omega⟩
set_option maxRecDepth 100000 in
set_option maxHeartbeats 2000000 in
theorem centry (ep sq n : Nat) (w : World) (h1 : ep ≤ 2147483648) (h2 : sq ≤ 1048575) :
    Calls Tryz.prog 14 #[.int .i64 (ep : Int), .int .i64 (sq : Int), .int .i64 (n : Int)] w fun e w' => ∃ g x, e = .returned (.agg #[.int .u64 (tidN ep sq : Int), .slice (some ⟨g, 0, none⟩) 1 1]) ∧ Hid (w'.heap[g]? = some (boxJ tB kB x) ∧ OneAt w' x 2 (n : Int) ByteArray.empty ∧ w.heap.size ≤ g ∧ w.heap.size ≤ x) ∧ Below w.heap.size w w' := by
  have HP : Hid (∀ u, Calls Tryz.prog 34 #[.int .i64 (ep : Int), .int .i64 (sq : Int), .bool false, .bool false, .bool false] u fun x w' => x = .returned (.tuple #[.int .u64 (tidN ep sq : Int), .int .i64 0]) ∧ u = w') := fun u => by
    have hp : packs (ep : Int) (sq : Int) = true := by
      unfold packs within
      simp
      omega
    refine (pack_any (ep : Int) (sq : Int) false false false u).mono fun x w' ⟨e1, e2⟩ => ⟨?_, e2.symm⟩
    rw [e1]
    unfold packW packE wordOf tidN b1
    rw [hp]
    simp
  obtain ⟨T, hT⟩ : ∃ T, tidN ep sq = T := ⟨_, rfl⟩
  rw [hT] at HP ⊢
  clear hT h1 h2
  go_enter Tryz.func14, Tryz.ntmps14
  go_wp2_with (go_at_call 34; (with_reducible refine (HP.out _).mono ?_); rintro e w1 ⟨rfl, rfl⟩)
  have a0 := heap_new w (.cells #[.int .u64 (T : Int), .slice (some ⟨w.heap.size + 1 + 1, 0, none⟩) 1 1] 42)
  have b0 : Below w.heap.size w (w.alloc (.cells #[.int .u64 (T : Int), .slice (some ⟨w.heap.size + 1 + 1, 0, none⟩) 1 1] 42)) := (Below.refl _ _).alloc (Nat.le_refl _) _
  obtain ⟨w1, hw1⟩ : ∃ u, w.alloc (.cells #[.int .u64 (T : Int), .slice (some ⟨w.heap.size + 1 + 1, 0, none⟩) 1 1] 42) = u := ⟨_, rfl⟩
  have s1 : w1.heap.size = w.heap.size + 1 := by rw [← hw1, World.size_alloc]
  rw [hw1] at a0 b0 ⊢
  have a1 := heap_new w1 (.cells #[.int .i64 2, .int .i64 (n : Int), .complex .f64 0 0, .string ⟨#[]⟩] 60)
  have b1 := b0.alloc (by omega) (.cells #[.int .i64 2, .int .i64 (n : Int), .complex .f64 0 0, .string ⟨#[]⟩] 60)
  have k1 := Below.heap_alloc w1 (.cells #[.int .i64 2, .int .i64 (n : Int), .complex .f64 0 0, .string ⟨#[]⟩] 60)
  obtain ⟨w2, hw2⟩ : ∃ u, w1.alloc (.cells #[.int .i64 2, .int .i64 (n : Int), .complex .f64 0 0, .string ⟨#[]⟩] 60) = u := ⟨_, rfl⟩
  have s2 : w2.heap.size = w.heap.size + 2 := by rw [← hw2, World.size_alloc, s1]
  rw [hw2] at a1 b1 k1 ⊢
  have a2 := heap_new w2 (boxJ tB kB (w.heap.size + 1))
  have b2 := b1.alloc (by omega) (boxJ tB kB (w.heap.size + 1))
  have k2 := Below.heap_alloc w2 (boxJ tB kB (w.heap.size + 1))
  obtain ⟨w3, hw3⟩ : ∃ u, w2.alloc (boxJ tB kB (w.heap.size + 1)) = u := ⟨_, rfl⟩
  have s3 : w3.heap.size = w.heap.size + 3 := by rw [← hw3, World.size_alloc, s2]
  rw [hw3] at a2 b2 k2
  rw [s2] at a2
  rw [s1] at a1
  have hE := (k2 _ (by omega)).trans ((k1 w.heap.size (by omega)).trans a0)
  have hV := (k2 (w.heap.size + 1) (by omega)).trans a1
  show bodyPost _ _ _ _ _ (w2.alloc (boxJ tB kB (w.heap.size + 1)))
  rw [hw3]
  refine bodyPost_ret (results_cell_row rfl _ _ w.heap.size 42 #[.int .u64 (T : Int), .slice (some ⟨w.heap.size + 1 + 1, 0, none⟩) 1 1] (0, 0) _ rfl hE Tryz.underlying42 rfl (by kernel_rfl)) rfl ?_
  refine ⟨w.heap.size + 1 + 1, w.heap.size + 1, rfl, ⟨a2, ⟨by omega, ?_, ?_, ?_, ?_⟩, by omega, by omega⟩, b2⟩
  · rw [cell_of hV]; rfl
  · rw [cell_of hV]; rfl
  · rw [cell_of hV]; rfl
  · rw [cell_of hV]; rfl
end Go.Proofs.YtigegdelhpdlhaaGreatDoor
