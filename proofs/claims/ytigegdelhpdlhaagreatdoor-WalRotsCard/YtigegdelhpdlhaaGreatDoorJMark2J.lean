import Derived.Test.YtigegdelhpdlhaaGreatDoorJRotPJ
import Derived.Test.YtigegdelhpdlhaaGreatDoorJFlush2J
/- Layer 18: mark while an entry of the epoch waits. -/
namespace Go.Proofs.YtigegdelhpdlhaaGreatDoor
open Go.RowKit QP

set_option maxRecDepth 100000 in
set_option maxHeartbeats 4000000 in
theorem jmark_late (t k : ByteArray) (l d ep : Nat) (L : Lg) (w : World) (F : Nat → Prop) (h : LogI t k l d L w F) (he : L.dur < ep) (he2 : ep ≤ 2147483648) (J : Nat) (hJ : J < L.ws.length) (hall : ∀ j, (hj : j < J) → (L.ws[j]'(by omega)).1 = []) (p : Nat × Nat) (r : List (Nat × Nat)) (hp : L.ws[J].1 = p :: r) (hpe : p.1 / 8388608 ≤ ep) :
    Calls Tryz.prog 41 #[.pointer (some ⟨l, 0, none⟩), .int .i64 (ep : Int)] w fun e w' => e = .panicked (mis 180) ∧ Below w.heap.size w w' := by
  obtain ⟨b, vs, hG, hB⟩ := h
  have HC : Hid (∀ u : World, u.heap[l]? = w.heap[l]? → u.cell? ⟨l, 0, none⟩ = some (.pointer (some ⟨d, 0, none⟩)) ∧ u.cell? ⟨l, 1, none⟩ = some (.slice (some ⟨b, 0, none⟩) L.ws.length L.ws.length) ∧ u.cell? ⟨l, 2, none⟩ = some (.int .i64 (L.dur : Int)) ∧ u.frozen? ⟨l, 2, none⟩ = false) := fun u hu => by
    have hlu := hu.trans hG.top
    exact ⟨by rw [cell_of hlu]; rfl, by rw [cell_of hlu]; rfl, by rw [cell_of hlu]; rfl, frozen_of hlu _⟩
  have HV : Hid (∀ (u : World) (j : Nat), Below w.heap.size w u → j < J → ∃ a m, ∃ lst : Nat, u.cell? ⟨b, j * 2, none⟩ = some (.slice a 0 m) ∧ u.cell? ⟨b, j * 2 + 1, none⟩ = some (.int .u64 (lst : Int))) := fun u j hu hj => by
    have hv : vs[j]? = some (vs[j]'(by rw [hG.len]; omega)) := List.getElem?_eq_getElem _
    have hw : L.ws[j]? = some (L.ws[j]'(by omega)) := List.getElem?_eq_getElem _
    obtain ⟨c0, c1⟩ := hG.wk hv hw
    obtain ⟨a, m, e⟩ := row_shapeJ (hG.own j _ _ hv hw)
    have he0 := hall j hj
    rw [he0] at e
    obtain ⟨cur, hcur, _⟩ := hG.row
    refine ⟨a, m, (L.ws[j]'(by omega)).2, ?_, ?_⟩
    · rw [hu.cell (p := ⟨b, j * 2, none⟩) (lt_of hcur), c0, e]
      rfl
    · rw [hu.cell (p := ⟨b, j * 2 + 1, none⟩) (lt_of hcur), c1]
  have HJ : Hid (∃ g n m : Nat, ∃ lst : Nat, 0 < n ∧ n ≤ m ∧ m ≤ 9223372036854775807 ∧ ∀ u, Below w.heap.size w u → u.cell? ⟨b, J * 2, none⟩ = some (.slice (some ⟨g, 0, none⟩) n m) ∧ u.cell? ⟨b, J * 2 + 1, none⟩ = some (.int .u64 (lst : Int)) ∧ u.cell? ⟨g, 0, none⟩ = some (.int .i64 ((p.1 / 8388608 : Nat) : Int)) ∧ ∀ O, (u.alloc O).cell? ⟨g, 0, none⟩ = some (.int .i64 ((p.1 / 8388608 : Nat) : Int))) := by
    have hv : vs[J]? = some (vs[J]'(by rw [hG.len]; omega)) := List.getElem?_eq_getElem _
    have hw : L.ws[J]? = some L.ws[J] := List.getElem?_eq_getElem _
    obtain ⟨c0, c1⟩ := hG.wk hv hw
    have ho := hG.own J _ _ hv hw
    obtain ⟨a, m, e⟩ := row_shapeJ ho
    rw [e] at ho c0
    have hlen : 0 < L.ws[J].1.length := by rw [hp]; exact Nat.succ_pos _
    obtain ⟨g, hg, hm1, hm2⟩ := row_someJ ho hlen
    subst hg
    obtain ⟨cur, hcur, _⟩ := hG.row
    have hx : (flat (enLn t k) L.ws[J].1)[0]? = some (.int .i64 ((p.1 / 8388608 : Nat) : Int)) := by
      rw [hp, flat_cons]
      rfl
    have key : ∀ u, Below w.heap.size w u → u.cell? ⟨g, 0, none⟩ = some (.int .i64 ((p.1 / 8388608 : Nat) : Int)) := fun u hu => by
      have := World.ownsRow.cells (row_kept ho hu) (g := g) rfl 0 _ hx
      rw [Addr.add_lit] at this
      exact this
    exact ⟨g, _, m, L.ws[J].2, hlen, hm1, hm2, fun u hu => ⟨by rw [hu.cell (p := ⟨b, J * 2, none⟩) (lt_of hcur), c0], by rw [hu.cell (p := ⟨b, J * 2 + 1, none⟩) (lt_of hcur), c1], key u hu, fun O => key _ (hu.alloc hu.size O)⟩⟩
  obtain ⟨g, n, m, lst, hn0, hnm, hm, HJ2⟩ := HJ.out
  have HJ3 : Hid (∀ u, Below w.heap.size w u → u.cell? ⟨b, J * 2, none⟩ = some (.slice (some ⟨g, 0, none⟩) n m) ∧ u.cell? ⟨b, J * 2 + 1, none⟩ = some (.int .u64 (lst : Int)) ∧ u.cell? ⟨g, 0, none⟩ = some (.int .i64 ((p.1 / 8388608 : Nat) : Int)) ∧ ∀ O, (u.alloc O).cell? ⟨g, 0, none⟩ = some (.int .i64 ((p.1 / 8388608 : Nat) : Int))) := HJ2
  have HL : Hid (∀ u, Below w.heap.size w u → u.heap[l]? = w.heap[l]?) := fun u hu => hu.block l (lt_of hG.top)
  have HRf : Hid (∀ z u, Calls Tryz.prog 55 #[.bool false, .int .i64 z] u fun r w' => r = .returned (.tuple #[]) ∧ u = w') := fun z u => (refuse_no z u).mono fun _ _ h => ⟨h.1, h.2.symm⟩
  have HRy : Hid (∀ z u, Calls Tryz.prog 55 #[.bool true, .int .i64 z] u fun r w' => r = .panicked (mis z) ∧ u = w') := fun z u => (refuse_yes z u).mono fun _ _ h => ⟨h.1, h.2.symm⟩
  obtain ⟨N, hN⟩ : ∃ N, L.ws.length = N := ⟨_, rfl⟩
  have hN16 : N ≤ 16 := by rw [← hN]; exact hG.few.1
  obtain ⟨D, hDd⟩ : ∃ D, L.dur = D := ⟨_, rfl⟩
  obtain ⟨Ep, hEp⟩ : ∃ E, p.1 / 8388608 = E := ⟨_, rfl⟩
  rw [hEp] at HJ3 hpe
  rw [hN] at HC hJ
  rw [hDd] at HC he
  obtain ⟨q0, q1, q2, q3⟩ := HC.out w rfl
  have c1 : decide ((ep : Int) ≤ (D : Int)) = false := decide_eq_false (by omega)
  have c2 : ¬ (ep : Int) ≤ (D : Int) := by omega
  have c3 : decide ((2147483648 : Int) < (ep : Int)) = false := decide_eq_false (by omega)
  have c4 : decide (ep ≤ D) = false := decide_eq_false (by omega)
  have c5 : decide (2147483648 < ep) = false := decide_eq_false (by omega)
  have c6 : ¬ (2147483648 : Int) < (ep : Int) := by omega
  have e1 : (Ep : Int) ≤ (ep : Int) := by omega
  have e2 : (0 : Int) < (n : Int) := by omega
  clear hG hB hN hDd hall he he2 hp hEp HJ HJ2
  go_enter Tryz.func41, Tryz.ntmps41
  go_wp2_with (go_at_call 55; (with_reducible refine (HRf.out _ _).mono ?_); rintro e w4 ⟨rfl, rfl⟩)
  clear q0 q1 q2 q3
  go_loopw [22] (fun i wr => ∃ j : Nat, j ≤ J ∧ i = .int .i64 j ∧ Hid (Below w.heap.size w wr)) (fun i _ => N - (intOf i).toNat)
  case atStart => exact ⟨0, Nat.zero_le _, rfl, Below.refl _ _⟩
  case round =>
    obtain ⟨j, hj, rfl, HB⟩ := hrel
    have hlI : (j : Int) < (N : Int) := by omega
    by_cases hlt : j < J
    · obtain ⟨a, m, lst, c7, c8⟩ := HV.out wr j HB.out hlt
      go_wp2_with (go_at_call 55; (with_reducible refine (HRf.out _ _).mono ?_); rintro e w4 ⟨rfl, rfl⟩)
      exact ⟨⟨j + 1, by omega, by go_num, HB.out.alloc HB.out.size _⟩, by simp [intOf]; omega⟩
    · obtain rfl : j = J := by omega
      obtain ⟨c7, c8, c9, c10⟩ := HJ3.out wr HB.out
      clear HV HJ3
      go_wp2_with fail
      refine (HRy.out _ _).mono ?_
      rintro e w5 ⟨rfl, rfl⟩
      exact ⟨rfl, rfl, HB.out.alloc HB.out.size _⟩
end Go.Proofs.YtigegdelhpdlhaaGreatDoor

/- Layer 18: a log and its disk under the calls. -/
namespace Go.Proofs.YtigegdelhpdlhaaGreatDoor
open Go.RowKit QP

section
variable {t k : ByteArray} {l d : Nat} {s : Dk.Dsk} {L L' : Lg} {w w' : World} {F : Nat → Prop}
theorem LD.onLog {f : FuncId} {args : Array Value} {E : Ending} (h : LD t k l d s L w F) (hk : ∀ B, LogI t k l d L w B → Calls Tryz.prog f args w fun e w' => e = E ∧ Goes (LogI t k l d L') w w' B) :
    Calls Tryz.prog f args w fun e w' => e = E ∧ Goes (LD t k l d s L') w w' F := by
  obtain ⟨A, B, hD, hL, hAB, hAF, hBF, _⟩ := h
  exact (hk B hL).mono fun e w' ⟨e1, h1⟩ => ⟨e1, (Sep.goL (DiskI.res d s) hD (fun j hb ha => hAB j ha hb) hBF hAF h1).swap⟩
theorem LD.below (h : LD t k l d s L w F) (hb : Below w.heap.size w w') : LD t k l d s L w' F := (LD.res t k l d s L).kept (S := fun _ => False) h (Turn.ofBelow _ hb) (fun _ _ h => h)
theorem LD.goBelow (h : LD t k l d s L w F) (hb : Below w.heap.size w w') : Goes (LD t k l d s L) w w' F := ⟨F, h.below hb, Turn.ofBelow _ hb, fun _ h => Or.inl h⟩
theorem LD.low (h : LD t k l d s L w F) : ∀ i, F i → i < w.heap.size := (LD.res t k l d s L).lt h

/-- Add -/
theorem cAdd_ok (h : LD t k l d s L w F) (i T n g x : Nat) (wk : Wk) (hwk : L.ws[i]? = some wk) (hwl : wk.1.length ≤ 900) (hT : TidOk T) (hg : w.heap[g]? = some (boxJ t k x)) (hx : OneAt w x 2 (n : Int) ByteArray.empty) (hn : n < 9223372036854775808) (ht : t.size ≤ 100) (hk : k.size ≤ 100) (hlast : wk.2 < T) (hdur : L.dur < T / 8388608) :
    Calls Tryz.prog 15 #[.pointer (some ⟨l, 0, none⟩), .int .i64 (i : Int), .agg #[.int .u64 (T : Int), .slice (some ⟨g, 0, none⟩) 1 1]] w fun e w' => e = .returned (.int .i64 0) ∧ Goes (LD t k l d s { L with ws := L.ws.set i (wk.1 ++ [(T, n)], T) }) w w' F :=
  jAdd_ok (LD.res t k l d s _) l i T g w h.low fun u hu => (h.below hu).onLog fun B hL => jadd_i t k l d i wk L u B T n g x hL hwk hwl hT ((hu.block _ (lt_of hg)).trans hg) (hx.below hu) hn ht hk hlast hdur
theorem cAdd_old (h : LD t k l d s L w F) (i T n g x : Nat) (wk : Wk) (hwk : L.ws[i]? = some wk) (hT : TidOk T) (hg : w.heap[g]? = some (boxJ t k x)) (hx : OneAt w x 2 (n : Int) ByteArray.empty) (hn : n < 9223372036854775808) (ht : t.size ≤ 100) (hk : k.size ≤ 100) (hlast : wk.2 < T) (hdur : T / 8388608 ≤ L.dur) :
    Calls Tryz.prog 15 #[.pointer (some ⟨l, 0, none⟩), .int .i64 (i : Int), .agg #[.int .u64 (T : Int), .slice (some ⟨g, 0, none⟩) 1 1]] w fun e w' => e = .returned (.int .i64 111) ∧ Goes (LD t k l d s L) w w' F :=
  jAdd_err 111 (LD.res t k l d s _) l i T g w h.low fun u hu => by
    have hu' := h.below hu
    obtain ⟨A, B, hD, ⟨b, vs, hG, hB⟩, hAB, hAF, hBF, _⟩ := id hu'
    have hwi : i < L.ws.length := (List.getElem?_eq_some_iff.1 hwk).1
    have hv : vs[i]? = some (vs[i]'(by rw [hG.len]; exact hwi)) := List.getElem?_eq_getElem _
    obtain ⟨c0, c1⟩ := hG.wk hv hwk
    obtain ⟨cur, hcur, _⟩ := hG.row
    exact (jaddOld_walk t k l d b i L.ws.length _ wk (L.dur : Int) (L.gen : Int) u T n g x hG.top hwi ⟨cur, hcur⟩ c0 c1 (hG.own i _ wk hv hwk) hT ((hu.block _ (lt_of hg)).trans hg) (hx.below hu) hn ht hk hlast (by omega)).mono fun e w' ⟨e1, e2⟩ => ⟨e1, hu'.goBelow e2⟩
/-- Flush -/
theorem cFlush (h : LD t k l d s L w F) {LF : List UInt8 → List (Nat × Nat)} {Es : List Nat} (q : QDisk s t k LF Es) (i : Nat) (wk : Wk) (hwk : L.ws[i]? = some wk) (hi : i < 10) (hg : L.gen < 100) (ht : t.size ≤ 100) (hk : k.size ≤ 100) (hl : (LF (logB i L.gen).data.toList).length + wk.1.length ≤ 1000) (hn : s.fs.length < 64) :
    Calls Tryz.prog 16 #[.pointer (some ⟨l, 0, none⟩), .int .i64 (i : Int)] w fun e w' => e = .returned (.int .i64 0) ∧ ∃ s2, QDisk s2 t k (updF LF (logB i L.gen).data.toList (LF (logB i L.gen).data.toList ++ wk.1)) Es ∧ s2.fs.length ≤ s.fs.length + 1 ∧ Dk.keysL s2.fs = (if wk.1 = [] then Dk.keysL s.fs else Dk.insN (logB i L.gen).data.toList (Dk.keysL s.fs)) ∧ Goes (LD t k l d s2 { L with ws := L.ws.set i ([], wk.2) }) w w' F := by
  by_cases h0 : wk.1 = []
  · have e1 : updF LF (logB i L.gen).data.toList (LF (logB i L.gen).data.toList ++ wk.1) = LF := by
      funext q
      unfold updF
      split
      · next e => rw [h0, List.append_nil, e]
      · rfl
    have e2 : L.ws.set i ([], wk.2) = L.ws := by
      obtain ⟨hi, hv⟩ := List.getElem?_eq_some_iff.1 hwk
      rw [show (([], wk.2) : Wk) = L.ws[i] by rw [hv, ← h0]]
      exact List.set_getElem_self _
    rw [e1, e2]
    refine (jFlush_ok (LD.res t k l d s L) l i w h.low fun u hu => ?_).mono fun e w' ⟨h1, h2⟩ => ⟨h1, s, q, by omega, by rw [if_pos h0], h2⟩
    have hwk' : L.ws[i]? = some ([], wk.2) := by rw [hwk, ← h0]
    exact (jflush_none t k l d i s L wk.2 u F (h.below hu) hwk').mono fun e w' ⟨h1, h2⟩ => ⟨h1, by rw [← h2]; exact Goes.stay (h.below hu)⟩
  · obtain ⟨a1, a2, a3, a4, a5⟩ := q.log hi hg wk.1 hl ht hk hn
    exact (jFlush_ok (LD.res t k l d _ _) l i w h.low fun u hu => jflush_some t k l d i s L wk u F (h.below hu) hwk h0 hi hg ht hk a1 a2).mono fun e w' ⟨h1, h2⟩ => ⟨h1, _, a3, a4, by rw [if_neg h0]; exact a5, h2⟩
/-- Mark -/
theorem cMark (h : LD t k l d s L w F) {LF : List UInt8 → List (Nat × Nat)} {Es : List Nat} (q : QDisk s t k LF Es) (ep : Nat) (he : L.dur < ep) (he2 : ep ≤ 2147483648) (hall : ∀ wk ∈ L.ws, wk.1 = []) (hl : Es.length ≤ 1000) (hn : s.fs.length < 64) :
    Calls Tryz.prog 17 #[.pointer (some ⟨l, 0, none⟩), .int .i64 (ep : Int)] w fun e w' => e = .returned (.int .i64 0) ∧ ∃ s2, QDisk s2 t k LF (Es ++ [ep]) ∧ s2.fs.length ≤ s.fs.length + 1 ∧ Dk.keysL s2.fs = Dk.insN epochB.data.toList (Dk.keysL s.fs) ∧ Goes (LD t k l d s2 { L with dur := ep }) w w' F := by
  obtain ⟨a1, a2, a3, a4, a5⟩ := q.mark ep hl hn
  exact (jMark_ok (LD.res t k l d _ _) l ep w h.low fun u hu => jmark_any t k l d ep s L u F (h.below hu) he he2 hall a1 a2).mono fun e w' ⟨h1, h2⟩ => ⟨h1, _, a3, a4, a5, h2⟩
theorem cMark_late (h : LD t k l d s L w F) (ep : Nat) (he : L.dur < ep) (he2 : ep ≤ 2147483648) (J : Nat) (hJ : J < L.ws.length) (hall : ∀ j, (hj : j < J) → (L.ws[j]'(by omega)).1 = []) (p : Nat × Nat) (r : List (Nat × Nat)) (hp : L.ws[J].1 = p :: r) (hpe : p.1 / 8388608 ≤ ep) :
    Calls Tryz.prog 17 #[.pointer (some ⟨l, 0, none⟩), .int .i64 (ep : Int)] w fun e w' => e = .returned (.int .i64 180) ∧ Goes (LD t k l d s L) w w' F :=
  jMark_err 180 (LD.res t k l d s _) l ep w h.low fun u hu => by
    have hu' := h.below hu
    obtain ⟨A, B, hD, hL, hAB, hAF, hBF, _⟩ := id hu'
    exact (jmark_late t k l d ep L u B hL he he2 J hJ hall p r hp hpe).mono fun e w' ⟨e1, e2⟩ => ⟨e1, hu'.goBelow e2⟩
end
end Go.Proofs.YtigegdelhpdlhaaGreatDoor
