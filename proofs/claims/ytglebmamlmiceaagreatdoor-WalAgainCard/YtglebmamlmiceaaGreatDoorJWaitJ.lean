import Derived.Test.YtglebmamlmiceaaGreatDoorJEntryJ
import Derived.Deep.RegionHeld3
/- Layer 18: among; Waiting. -/
namespace Go.Proofs.YtglebmamlmiceaaGreatDoor
open Go.RowKit QP

theorem among_num (x n : Int) (_hn : 1 ≤ n) : (x.tmod n + n) % n = x % n := by
  have h3 : x.tmod n = x % n ∨ x.tmod n = x % n - n := by
    rw [Int.tmod_eq_emod]
    split
    · left; omega
    · right; omega
  rcases h3 with e | e
  · rw [e, Int.add_emod_right, Int.emod_emod]
  · rw [e, show x % n - n + n = x % n from by omega, Int.emod_emod]

set_option maxHeartbeats 400000 in
theorem among_any (x n : Int) (w : World) (hn : 1 ≤ n) (hn2 : n ≤ 1000) :
    Calls Tryz.prog 13 #[.int .i64 x, .int .i64 n] w fun e w' => e = .returned (.int .i64 (x % n)) ∧ w = w' := by
  have hl : -n < x.tmod n ∧ x.tmod n < n := ⟨Int.lt_tmod_of_pos x (by omega), Int.tmod_lt_of_pos x (by omega)⟩
  have h1 := hl.1
  have h2 := hl.2
  have HN : Hid ((x.tmod n + n) % n = x % n) := among_num x n hn
  have hz : (n == 0) = false := by rw [beq_eq_false_iff_ne]; omega
  clear hl
  go_enter Tryz.func13, Tryz.ntmps13
  go_wp2
  go_ret
  exact ⟨ret_int HN.out, rfl⟩

set_option maxRecDepth 100000 in
set_option maxHeartbeats 1000000 in
theorem cWaiting {t k : ByteArray} {l d : Nat} {s : Dk.Dsk} {L : Lg} {w : World} {F : Nat → Prop} (h : LD t k l d s L w F) (i : Nat) (wk : Wk) (hwk : L.ws[i]? = some wk) :
    Calls Tryz.prog 26 #[.pointer (some ⟨l, 0, none⟩), .int .i64 (i : Int)] w fun r w' => r = .returned (.tuple #[.int .i64 (wk.1.length : Int), .int .i64 0]) ∧ Goes (LD t k l d s L) w w' F := by
  have hmf : ∀ (fn : Fn) (first cap : Array Value) (w : World), (Instr.makeFunc fn first cap).run Tryz.prog w = .ok (.func fn first cap) w := fun _ _ _ _ => rfl
  obtain ⟨q, hq⟩ : ∃ q, w.heap.size = q := ⟨_, rfl⟩
  obtain ⟨wT, hwT⟩ : ∃ u, (w.alloc (logO l)).alloc (numO (i : Int)) = u := ⟨_, rfl⟩
  have b1 : Below w.heap.size w (w.alloc (logO l)) := (Below.refl _ _).alloc (Nat.le_refl _) _
  have b2 := b1.alloc b1.size (numO (i : Int))
  have hn0 := (Below.heap_alloc _ (numO (i : Int)) w.heap.size (by simp)).trans (heap_new w (logO l))
  have hn1 := heap_new (w.alloc (logO l)) (numO (i : Int))
  rw [World.size_alloc, hq] at hn1
  rw [hq] at hn0
  rw [hwT] at hn0 hn1 b2
  have hbT : Below w.heap.size w wT := b2
  obtain ⟨N, hN⟩ : ∃ N, wk.1.length = N := ⟨_, rfl⟩
  rw [hN]
  have HD : Hid (Calls Tryz.prog 30 #[.func (.func 52) #[] #[.pointer (some ⟨q, 0, none⟩), .pointer (some ⟨q + 1, 0, none⟩)]] wT fun r w' => r = .returned (.tuple #[.int .i64 (N : Int), .int .i64 0]) ∧ Goes (LD t k l d s L) wT w' F) := by
    refine toldIA_ok (LD.res t k l d s L) 52 _ _ (N : Int) wT (fun j hj => Nat.lt_of_lt_of_le (h.low j hj) hbT.size) (enters_of Tryz.func52 (by kernel_rfl) rfl _) fun u hu => ?_
    have hu' := h.below (hbT.trans (hu.mono hbT.size))
    have HG : Hid (Goes (LD t k l d s L) u u F) := Goes.stay hu'
    obtain ⟨A, B, _, ⟨b, vs, hG, _⟩, _, _, _, _⟩ := hu'
    have hi : i < L.ws.length := (List.getElem?_eq_some_iff.1 hwk).1
    have hv : vs[i]? = some (vs[i]'(by rw [hG.len]; exact hi)) := List.getElem?_eq_getElem _
    obtain ⟨c0, _⟩ := hG.wk hv hwk
    obtain ⟨a, m, e⟩ := row_shapeJ (hG.own i _ _ hv hwk)
    rw [e, hN] at c0
    have HWk : Hid (Calls Tryz.prog 53 #[.pointer (some ⟨l, 0, none⟩), .int .i64 (i : Int)] u fun e w' => e = .returned (.pointer (some ⟨b, i * 2, none⟩)) ∧ u = w') := jworker_any l d b L.ws.length i _ _ u hG.top hi
    have h0 := (hu.block _ (lt_of hn0)).trans hn0
    have h1 := (hu.block _ (lt_of hn1)).trans hn1
    have d0 : u.cell? ⟨q, 0, none⟩ = some (.pointer (some ⟨l, 0, none⟩)) := by rw [cell_of h0]; rfl
    have d1 : u.cell? ⟨q + 1, 0, none⟩ = some (.int .i64 (i : Int)) := by rw [cell_of h1]; rfl
    clear h hn0 hn1 h0 h1 hwT hbT b1 b2 hu hv e hwk hG
    go_enter Tryz.func52, Tryz.ntmps52
    go_wp2_with (go_at_call 53; (with_reducible refine HWk.out.mono ?_); rintro e w1 ⟨rfl, rfl⟩)
    go_ret
    exact ⟨rfl, HG.out⟩
  have HW : Hid ((w.alloc (logO l)).alloc (numO (i : Int)) = wT) := hwT
  have HB : Hid (Below w.heap.size w wT) := hbT
  clear h hn0 hn1 hbT hwT b1 b2 hwk hN
  go_enter Tryz.func26, Tryz.ntmps26
  go_wp2_with fail
  rw [HW.out]
  refine HD.out.mono ?_
  rintro r w2 ⟨rfl, hg⟩
  go_wp2_with fail
  go_returns
  exact ⟨rfl, hg.after HB.out⟩
end Go.Proofs.YtglebmamlmiceaaGreatDoor

/- Layer 18: are entries the same: the book's SameValue, SameRow, SameRows, where they are. -/
namespace Go.Proofs.YtglebmamlmiceaaGreatDoor
open Go.RowKit QP

abbrev vagg (k n : Int) (s : ByteArray) : Value := .agg #[.int .i64 k, .int .i64 n, .complex .f64 0 0, .string s]
abbrev vobj (k n : Int) (s : ByteArray) : Obj := .cells #[.int .i64 k, .int .i64 n, .complex .f64 0 0, .string s] 60 (0, 0)
theorem bl_alloc {w u : World} (h : Below w.heap.size w u) (o : Obj) : Below w.heap.size w (u.alloc o) := h.alloc h.size o
theorem bl_drew {w u : World} (h : Below w.heap.size w u) : Below w.heap.size w u.drew := h.trans ((below_drewN u 1).mono h.size)
theorem cell_drew {w : World} {a : Addr} {x : Value} (h : w.cell? a = some x) : w.drew.cell? a = some x := h

theorem box_val {u : World} {b : Nat} {k n : Int} {s : ByteArray} (h : u.heap[b]? = some (vobj k n s)) : u.cell? ⟨b, 0, none⟩ = some (.int .i64 k) ∧ u.cell? ⟨b, 1, none⟩ = some (.int .i64 n) ∧ u.cell? ⟨b, 2, none⟩ = some (.complex .f64 0 0) ∧ u.cell? ⟨b, 3, none⟩ = some (.string s) :=
  ⟨by rw [cell_of h]; rfl, by rw [cell_of h]; rfl, by rw [cell_of h]; rfl, by rw [cell_of h]; rfl⟩
set_option linter.unusedSimpArgs false in
set_option maxRecDepth 100000 in
set_option maxHeartbeats 2000000 in
theorem sameValue_same (k n : Int) (s : ByteArray) (w : World) : Calls Tryz.prog 104 #[vagg k n s, vagg k n s] w fun e w' => e = .returned (.bool true) ∧ Below w.heap.size w w' := by
  have hl := bits_law
  obtain ⟨b, hb⟩ : ∃ b, w.heap.size = b := ⟨_, rfl⟩
  obtain ⟨w1, hw1⟩ : ∃ u, w.alloc (vobj k n s) = u := ⟨_, rfl⟩
  obtain ⟨w2, hw2⟩ : ∃ u, w1.alloc (vobj k n s) = u := ⟨_, rfl⟩
  have z1 : w1.heap.size = b + 1 := by rw [← hw1, ← hb]; simp
  have x1 : w1.heap[b]? = some (vobj k n s) := by rw [← hw1, ← hb]; exact heap_new w _
  have x2 : w2.heap[b]? = some (vobj k n s) := by rw [← hw2, Below.heap_alloc _ _ _ (by omega)]; exact x1
  have x3 : w2.heap[b + 1]? = some (vobj k n s) := by rw [← hw2, ← z1]; exact heap_new w1 _
  have HB : Hid (Below w.heap.size w w2) := by show Below _ _ _; rw [← hw2, ← hw1]; exact bl_alloc (bl_alloc (Below.refl _ _) _) _
  obtain ⟨a0, a1, a2, a3⟩ := box_val x2
  obtain ⟨c0, c1, c2, c3⟩ := box_val x3
  clear x1 x2 x3
  go_enter Tryz.func104, Tryz.ntmps104
  go_wp2_with fail
  go_region_held3 (fun u => u.cell? ⟨b, 2, none⟩ = some (.complex .f64 0 0) ∧ u.cell? ⟨b + 1, 2, none⟩ = some (.complex .f64 0 0)) (first | (refine ⟨?_, ?_⟩ <;> (repeat (first | with_reducible assumption | with_reducible apply cell_drew)) <;> done) | go_keep) (fail)
  all_goals go_wp2_with fail
  all_goals go_ret
  all_goals exact ⟨by simp, by first | exact HB.out | exact bl_drew HB.out⟩

theorem OneAt.cells {w : World} {x : Nat} {k n : Int} {s : ByteArray} (h : OneAt w x k n s) : w.cell? ⟨x, 0, none⟩ = some (.int .i64 k) ∧ w.cell? ⟨x, 1, none⟩ = some (.int .i64 n) ∧ w.cell? ⟨x, 2, none⟩ = some (.complex .f64 0 0) ∧ w.cell? ⟨x, 3, none⟩ = some (.string s) := h.2
set_option maxRecDepth 100000 in
set_option maxHeartbeats 2000000 in
theorem sameRow_one (n : Nat) (x y : Nat) (w : World) (h1 : OneAt w x 2 (n : Int) ByteArray.empty) (h2 : OneAt w y 2 (n : Int) ByteArray.empty) : Calls Tryz.prog 79 #[.slice (some ⟨x, 0, none⟩) 1 1, .slice (some ⟨y, 0, none⟩) 1 1] w fun e w' => e = .returned (.bool true) ∧ Below w.heap.size w w' := by
  have H : Hid (∀ u, Below w.heap.size w u → (u.cell? ⟨x, 0, none⟩ = some (.int .i64 2) ∧ u.cell? ⟨x, 1, none⟩ = some (.int .i64 (n : Int)) ∧ u.cell? ⟨x, 2, none⟩ = some (.complex .f64 0 0) ∧ u.cell? ⟨x, 3, none⟩ = some (.string ByteArray.empty)) ∧ (u.cell? ⟨y, 0, none⟩ = some (.int .i64 2) ∧ u.cell? ⟨y, 1, none⟩ = some (.int .i64 (n : Int)) ∧ u.cell? ⟨y, 2, none⟩ = some (.complex .f64 0 0) ∧ u.cell? ⟨y, 3, none⟩ = some (.string ByteArray.empty))) := fun u hu => ⟨(h1.below hu).cells, (h2.below hu).cells⟩
  obtain ⟨z, hz⟩ : ∃ z, ByteArray.empty = z := ⟨_, rfl⟩
  rw [hz] at H
  have HV : Hid (∀ u, Below w.heap.size w u → Calls Tryz.prog 104 #[vagg 2 (n : Int) z, vagg 2 (n : Int) z] u fun e w' => e = .returned (.bool true) ∧ Hid (Below w.heap.size w w') ∧ ((w'.cell? ⟨x, 0, none⟩ = some (.int .i64 2) ∧ w'.cell? ⟨x, 1, none⟩ = some (.int .i64 (n : Int)) ∧ w'.cell? ⟨x, 2, none⟩ = some (.complex .f64 0 0) ∧ w'.cell? ⟨x, 3, none⟩ = some (.string z)) ∧ (w'.cell? ⟨y, 0, none⟩ = some (.int .i64 2) ∧ w'.cell? ⟨y, 1, none⟩ = some (.int .i64 (n : Int)) ∧ w'.cell? ⟨y, 2, none⟩ = some (.complex .f64 0 0) ∧ w'.cell? ⟨y, 3, none⟩ = some (.string z)))) := fun u hu => (sameValue_same 2 (n : Int) z u).mono fun e w' ⟨e1, e2⟩ => by
    have e3 := hu.trans (e2.mono hu.size)
    exact ⟨e1, e3, H.out w' e3⟩
  clear h1 h2 hz
  go_enter Tryz.func79, Tryz.ntmps79
  go_wp2_with fail
  go_loopw [5] (fun v wr => ∃ i : Nat, i ≤ 1 ∧ v = .int .i64 i ∧ Hid (Below w.heap.size w wr)) (fun v _ => 1 - (intOf v).toNat)
  case atStart => exact ⟨0, Nat.zero_le _, rfl, Below.refl _ _⟩
  case round =>
    obtain ⟨i, hi, rfl, HB⟩ := hrel
    by_cases hlt : i < 1
    · obtain rfl : i = 0 := by omega
      obtain ⟨⟨p0, p1, p2, p3⟩, ⟨q0, q1, q2, q3⟩⟩ := H.out wr HB.out
      have HS := HV.out wr.drew (bl_drew HB.out)
      have HS2 : Hid (Calls Tryz.prog 104 #[vagg 2 (n : Int) z, vagg 2 (n : Int) z] wr.drew fun e w' => e = .returned (.bool true) ∧ Hid (Below w.heap.size w w') ∧ ((w'.cell? ⟨x, 0, none⟩ = some (.int .i64 2) ∧ w'.cell? ⟨x, 1, none⟩ = some (.int .i64 (n : Int)) ∧ w'.cell? ⟨x, 2, none⟩ = some (.complex .f64 0 0) ∧ w'.cell? ⟨x, 3, none⟩ = some (.string z)) ∧ (w'.cell? ⟨y, 0, none⟩ = some (.int .i64 2) ∧ w'.cell? ⟨y, 1, none⟩ = some (.int .i64 (n : Int)) ∧ w'.cell? ⟨y, 2, none⟩ = some (.complex .f64 0 0) ∧ w'.cell? ⟨y, 3, none⟩ = some (.string z)))) := HS
      clear HS
      go_wp2_with fail
      go_region_held3 (fun u => (u.cell? ⟨x, 0, none⟩ = some (.int .i64 2) ∧ u.cell? ⟨x, 1, none⟩ = some (.int .i64 (n : Int)) ∧ u.cell? ⟨x, 2, none⟩ = some (.complex .f64 0 0) ∧ u.cell? ⟨x, 3, none⟩ = some (.string z)) ∧ (u.cell? ⟨y, 0, none⟩ = some (.int .i64 2) ∧ u.cell? ⟨y, 1, none⟩ = some (.int .i64 (n : Int)) ∧ u.cell? ⟨y, 2, none⟩ = some (.complex .f64 0 0) ∧ u.cell? ⟨y, 3, none⟩ = some (.string z))) (first | (refine ⟨⟨?_, ?_, ?_, ?_⟩, ⟨?_, ?_, ?_, ?_⟩⟩ <;> (repeat (first | with_reducible assumption | with_reducible apply cell_drew)) <;> done) | go_keep) ((go_at_call 104; refine HS2.out.mono ?_; rintro e w2 ⟨rfl, HB2, ⟨e0, e1, e2, e3⟩, ⟨e4, e5, e6, e7⟩⟩))
      all_goals go_wp2_with fail
      all_goals exact ⟨⟨0 + 1, by omega, by go_num, HB2⟩, by simp [intOf]⟩
    · obtain rfl : i = 1 := by omega
      go_wp2_with fail
      go_ret
      exact ⟨rfl, HB.out⟩

end Go.Proofs.YtglebmamlmiceaaGreatDoor
