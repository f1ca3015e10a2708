/- What is done with each worker: the two closures, and the loop that calls them. -/
import Derived.Test.YtonblbopfbjiaaaECalls
namespace Go.Proofs.Ytonblbopfbjiaaa
open Go.RowKit

abbrev boxB (x : Bool) : Obj := .cells #[.bool x] 4 (0, 0)
abbrev boxI (x : Int) : Obj := .cells #[.int .i64 x] 3 (0, 0)
abbrev boxC (g : Nat) : Obj := .cells #[.pointer (some ⟨g, 0, none⟩)] 25 (0, 0)

theorem adv1_any {p q g : Nat} {e now : Int} {x : Bool} {w : World} (h1 : w.cell? ⟨p, 0, none⟩ = some (.bool x)) (f1 : w.frozen? ⟨p, 0, none⟩ = false) (h2 : w.cell? ⟨q, 0, none⟩ = some (.pointer (some ⟨g, 0, none⟩))) (h3 : w.cell? ⟨g, 0, none⟩ = some (.int .i64 now)) :
    Calls Try.prog 31 #[.int .i64 e, .pointer (some ⟨p, 0, none⟩), .pointer (some ⟨q, 0, none⟩)] w fun r w' => r = .returned (.tuple #[]) ∧ w' = w.setCell ⟨p, 0, none⟩ (.bool (x || decide (e < now))) := by
  cases x with
  | true =>
    go_enter Try.func31, Try.ntmps31
    go_wp2
    go_end0
    exact ⟨rfl, rfl⟩
  | false =>
    obtain ⟨d, hd⟩ : ∃ d, decide (e < now) = d := ⟨_, rfl⟩
    rw [hd, Bool.false_or]
    go_enter Try.func31, Try.ntmps31
    go_wp2
    go_end0
    exact ⟨rfl, rfl⟩

theorem free1_any {p : Nat} {e last : Int} {w : World} (h1 : w.cell? ⟨p, 0, none⟩ = some (.int .i64 last)) (f1 : w.frozen? ⟨p, 0, none⟩ = false) (he : 1 ≤ e) (he2 : e ≤ 2147483648) (hl : last < e) :
    Calls Try.prog 29 #[.int .i64 e, .pointer (some ⟨p, 0, none⟩)] w fun r w' => r = .returned (.tuple #[]) ∧ w' = w.setCell ⟨p, 0, none⟩ (.int .i64 last) := by
  have x1 : IntKind.i64.wrap (e - 1) = e - 1 := wrap_small _ (by omega) (by omega)
  have x2 : ¬ (e - 1 < last) := by omega
  go_enter Try.func29, Try.ntmps29
  go_wp2
  go_end0
  exact ⟨rfl, rfl⟩

section
variable {g b m : Nat} {a : Option Addr} {c : Ck} {w : World} {p q : Nat}

set_option maxRecDepth 100000 in
set_option maxHeartbeats 1000000 in
theorem each_late (hG : ClockG w g b a m c) (hp : w.heap[p]? = some (boxB false)) (hq : w.heap[q]? = some (boxC g)) :
    Calls Try.prog 28 #[.pointer (some ⟨g, 0, none⟩), .func (.func 31) #[] #[.pointer (some ⟨p, 0, none⟩), .pointer (some ⟨q, 0, none⟩)]] w fun e w' => e = .returned (.tuple #[]) ∧ Turn (fun i => i = p) w w' ∧ w'.heap[p]? = some (boxB c.late) := by
  obtain ⟨-, -, -, c3, -, -, -, -⟩ := hG.cells
  have hn := hG.ok.few
  have HG : Hid (ClockG w g b a m c) := hG
  have HP : Hid (w.heap[p]? = some (boxB false)) := hp
  have HQ : Hid (w.heap[q]? = some (boxC g)) := hq
  obtain ⟨n, hnn⟩ : ∃ n, c.ws.length = n := ⟨_, rfl⟩
  have HN : Hid (c.ws.length = n) := hnn
  rw [hnn] at c3 hn
  clear hG hp hq hnn
  go_enter Try.func28, Try.ntmps28
  go_wp2_with fail
  go_loopw [11] (fun i wr => ∃ k : Nat, k ≤ n ∧ i = .int .i64 k ∧ Hid (Turn (fun i => i = p) w wr) ∧ Hid (wr.heap[p]? = some (boxB (lates c.now (c.ws.take k))))) (fun i _ => n - (intOf i).toNat)
  case atStart => exact ⟨0, Nat.zero_le _, rfl, Turn.refl _ _, HP.out⟩
  case round =>
    obtain ⟨k, hk, rfl, HT, HB⟩ := hrel
    by_cases hlt : k < n
    · have hl : k < c.ws.length := by rw [HN.out]; exact hlt
      have hlI : (k : Int) < (n : Int) := by omega
      obtain ⟨e, he⟩ : ∃ e, c.ws[k] = e := ⟨_, rfl⟩
      have hpb : b ≠ p := fun h => by have h1 := HG.out.wk; rw [h, HP.out] at h1; simp at h1
      have qb : wr.heap[b]? = w.heap[b]? := HT.out.block b (lt_of HG.out.wk) hpb
      have qc : wr.cell? ⟨b, k, none⟩ = some (.int .i64 e) := by
        rw [cell_of (qb.trans HG.out.wk), List.getElem?_toArray, icells_get hl, he]
      have HE : Hid (c.ws[k] = e) := he
      clear qb hpb he
      by_cases h0 : e = 0
      · subst h0
        have HN2 : Hid (lates c.now (c.ws.take (k + 1)) = lates c.now (c.ws.take k)) := (by
          rw [lates_take_next hl, HE.out]
          simp : _ = _)
        go_wp2_with fail
        go_roundw
        case rel => exact ⟨k + 1, by omega, by go_num, HT, by rw [HN2.out]; exact HB⟩
        case measure => simp [intOf]; omega
      · have hb : (e != 0) = true := bne_iff_ne.2 h0
        have HN2 : Hid (lates c.now (c.ws.take (k + 1)) = (lates c.now (c.ws.take k) || decide (e < c.now))) := (by
          rw [lates_take_next hl, HE.out, hb, Bool.true_and] : _ = _)
        have hpq : q ≠ p := fun h => by have h1 := HQ.out; rw [h, HP.out] at h1; simp at h1
        have hgp : g ≠ p := fun h => by have h1 := HG.out.st; rw [h, HP.out] at h1; simp at h1
        have q2 : wr.cell? ⟨q, 0, none⟩ = some (.pointer (some ⟨g, 0, none⟩)) := by
          rw [cell_of ((HT.out.block q (lt_of HQ.out) hpq).trans HQ.out)]; rfl
        have q3 : wr.cell? ⟨g, 0, none⟩ = some (.int .i64 c.now) := by
          rw [cell_of ((HT.out.block g (lt_of HG.out.st) hgp).trans HG.out.st)]; rfl
        have HC : Hid (Calls Try.prog 31 #[.int .i64 e, .pointer (some ⟨p, 0, none⟩), .pointer (some ⟨q, 0, none⟩)] wr fun r w' => r = .returned (.tuple #[]) ∧ w' = wr.setCell ⟨p, 0, none⟩ (.bool (lates c.now (c.ws.take k) || decide (e < c.now)))) :=
          adv1_any (by rw [cell_of HB.out]; rfl) (frozen_of HB.out _) q2 q3
        have HT2 : Hid (Turn (fun i => i = p) w (wr.setCell ⟨p, 0, none⟩ (.bool (lates c.now (c.ws.take k) || decide (e < c.now))))) := HT.out.trans (Turn.setCell wr ⟨p, 0, none⟩ _ rfl)
        have HB2 : Hid ((wr.setCell ⟨p, 0, none⟩ (.bool (lates c.now (c.ws.take k) || decide (e < c.now)))).heap[p]? = some (boxB (lates c.now (c.ws.take (k + 1))))) := by
          rw [heap_setCell_same HB.out, HN2.out]; rfl
        clear hpq hgp q2 q3 h0
        go_wp2_with (go_at_call 31; go_must (refine HC.out.mono ?_; rintro r w2 ⟨rfl, rfl⟩))
        go_roundw
        case rel => exact ⟨k + 1, by omega, by go_num, HT2, HB2⟩
        case measure => simp [intOf]; omega
    · have hg : ¬ (k : Int) < (n : Int) := by omega
      have hke : k = n := by omega
      subst hke
      have HL : Hid (wr.heap[p]? = some (boxB c.late)) := by
        have := HB.out
        rw [List.take_of_length_le (by rw [HN.out]; exact Nat.le_refl _)] at this
        exact this
      go_wp2_with fail
      go_end0
      exact ⟨rfl, HT.out, HL.out⟩

set_option maxRecDepth 100000 in
set_option maxHeartbeats 1000000 in
theorem each_last (hG : ClockG w g b a m c) (hp : w.heap[p]? = some (boxI c.snap)) (hpb : b ≠ p) :
    Calls Try.prog 28 #[.pointer (some ⟨g, 0, none⟩), .func (.func 29) #[] #[.pointer (some ⟨p, 0, none⟩)]] w fun e w' => e = .returned (.tuple #[]) ∧ Turn (fun i => i = p) w w' ∧ w'.heap[p]? = some (boxI c.snap) := by
  obtain ⟨-, -, -, c3, -, -, -, -⟩ := hG.cells
  have hn := hG.ok.few
  have HG : Hid (ClockG w g b a m c) := hG
  have HP : Hid (w.heap[p]? = some (boxI c.snap)) := hp
  obtain ⟨n, hnn⟩ : ∃ n, c.ws.length = n := ⟨_, rfl⟩
  have HN : Hid (c.ws.length = n) := hnn
  rw [hnn] at c3 hn
  clear hG hp hnn
  go_enter Try.func28, Try.ntmps28
  go_wp2_with fail
  go_loopw [11] (fun i wr => ∃ k : Nat, k ≤ n ∧ i = .int .i64 k ∧ Hid (Turn (fun i => i = p) w wr) ∧ Hid (wr.heap[p]? = some (boxI c.snap))) (fun i _ => n - (intOf i).toNat)
  case atStart => exact ⟨0, Nat.zero_le _, rfl, Turn.refl _ _, HP.out⟩
  case round =>
    obtain ⟨k, hk, rfl, HT, HB⟩ := hrel
    by_cases hlt : k < n
    · have hl : k < c.ws.length := by rw [HN.out]; exact hlt
      have hlI : (k : Int) < (n : Int) := by omega
      obtain ⟨e, he⟩ : ∃ e, c.ws[k] = e := ⟨_, rfl⟩
      have qb : wr.heap[b]? = w.heap[b]? := HT.out.block b (lt_of HG.out.wk) hpb
      have qc : wr.cell? ⟨b, k, none⟩ = some (.int .i64 e) := by
        rw [cell_of (qb.trans HG.out.wk), List.getElem?_toArray, icells_get hl, he]
      have HW : Hid (e = 0 ∨ (c.now - 1 ≤ e ∧ e ≤ c.now ∧ c.snap < e)) := HG.out.ok.work e (he ▸ List.getElem_mem hl)
      clear qb he
      by_cases h0 : e = 0
      · subst h0
        go_wp2_with fail
        go_roundw
        case rel => exact ⟨k + 1, by omega, by go_num, HT, HB⟩
        case measure => simp [intOf]; omega
      · have hb : (e != 0) = true := bne_iff_ne.2 h0
        have HC : Hid (Calls Try.prog 29 #[.int .i64 e, .pointer (some ⟨p, 0, none⟩)] wr fun r w' => r = .returned (.tuple #[]) ∧ w' = wr.setCell ⟨p, 0, none⟩ (.int .i64 c.snap)) := by
          have h1 := HG.out.ok.snap1
          have h2 := HG.out.ok.now2
          have h3 : c.now - 1 ≤ e ∧ e ≤ c.now ∧ c.snap < e := by
            rcases HW.out with h | h
            · exact absurd h h0
            · exact h
          exact free1_any (by rw [cell_of HB.out]; rfl) (frozen_of HB.out _) (by omega) (by omega) h3.2.2
        have HT2 : Hid (Turn (fun i => i = p) w (wr.setCell ⟨p, 0, none⟩ (.int .i64 c.snap))) := HT.out.trans (Turn.setCell wr ⟨p, 0, none⟩ _ rfl)
        have HB2 : Hid ((wr.setCell ⟨p, 0, none⟩ (.int .i64 c.snap)).heap[p]? = some (boxI c.snap)) := by
          rw [heap_setCell_same HB.out]; rfl
        clear h0
        go_wp2_with (go_at_call 29; go_must (refine HC.out.mono ?_; rintro r w2 ⟨rfl, rfl⟩))
        go_roundw
        case rel => exact ⟨k + 1, by omega, by go_num, HT2, HB2⟩
        case measure => simp [intOf]; omega
    · have hg : ¬ (k : Int) < (n : Int) := by omega
      go_wp2_with fail
      go_end0
      exact ⟨rfl, HT.out, HB.out⟩
end
end Go.Proofs.Ytonblbopfbjiaaa
