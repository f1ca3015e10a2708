/- Layer 25: the document's table: where a name stands; Check. -/
import Derived.Test.YtibglhlhogfdnaaDoorURefK
namespace Go.Proofs.YtibglhlhogfdnaaDoor
open Go.RowKit QP AP

section
variable {w : World} {r : Nat} {K : List Kv} {F : Nat → Prop}
def PlcR (w : World) (K : List Kv) (k : ByteArray) (e : Ending) (w' : World) : Prop := ∃ (i : Nat) (b : Bool), e = .returned (.tuple #[.int .i64 (i : Int), .bool b]) ∧ Hid (Plc K k i b) ∧ Hid (∃ n, w' = w.drewN n)

set_option maxRecDepth 100000 in
set_option maxHeartbeats 2000000 in
theorem rplace_any (h : RI r K w F) (k : ByteArray) : Calls Tryd.prog 29 #[.pointer (some ⟨r, 0, none⟩), .string k] w (PlcR w K k) := by
  have hr := h.rise
  have hfew := h.few
  obtain ⟨aK, cK, aV, cV, x1, x2, y1, y2, hc, hx, -⟩ := h.shape
  obtain ⟨N, hN⟩ : ∃ N, K.length = N := ⟨_, rfl⟩
  have HN : Hid (K.length = N) := hN
  have HR : Hid (Rise K) := hr
  rw [hN] at x1 y1 hfew hc
  have HC : Hid (∀ n, (w.drewN n).cell? ⟨r, 0, none⟩ = some (.slice aK N cK)) := fun n => (hc _ (below_drewN w n)).2.1
  have HX : Hid (∀ n (i : Nat) k v, K[i]? = some (k, v) → ∃ b, aK = some ⟨b, 0, none⟩ ∧ (w.drewN n).cell? ⟨b, i, none⟩ = some (.string k)) := fun n i k v hi => by
    obtain ⟨b, _, e, _, c, _⟩ := hx _ (below_drewN w n) i k v hi
    exact ⟨b, e, c⟩
  have c0 := HC.out 0
  rw [World.drewN_zero] at c0
  unfold maxLen at x2
  clear h hc hx hN hr y1 y2
  go_enter Tryd.func29, Tryd.ntmps29
  go_wp2_with fail
  go_loopw [6] (fun iv wr => ∃ (p n : Nat), p ≤ N ∧ iv = .int .i64 p ∧ Hid (∀ (j : Nat) (x : Kv), j < p → K[j]? = some x → bl x.1 k = true) ∧ Hid (wr = w.drewN n)) (fun iv _ => N - (intOf iv).toNat)
  case atStart => exact ⟨0, 0, Nat.zero_le _, rfl, fun j x hj => by omega, (World.drewN_zero w).symm⟩
  case round =>
    obtain ⟨p, n, hpN, rfl, H1, HW⟩ := hrel
    have d0 : wr.cell? ⟨r, 0, none⟩ = some (.slice aK N cK) := by rw [HW.out]; exact HC.out n
    by_cases hlt : p < N
    · have hlI : (p : Int) < (N : Int) := by omega
      have e1 : decide ((p : Int) < (N : Int)) = true := decide_eq_true hlI
      obtain ⟨⟨x, v⟩, hx⟩ : ∃ y, K[p]? = some y := ⟨_, List.getElem?_eq_getElem (by rw [HN.out]; exact hlt)⟩
      obtain ⟨b, rfl, e0⟩ := HX.out n p x v hx
      rw [← HW.out] at e0
      cases hb : bl x k with
      | true =>
        have hb2 : Op.bytesLess x.toList k.toList = true := hb
        have H1' : Hid (∀ (j : Nat) (y : Kv), j < p + 1 → K[j]? = some y → bl y.1 k = true) := fun j y hj hy => by
          rcases Nat.lt_or_ge j p with h | h
          · exact H1.out j y h hy
          · obtain rfl : j = p := by omega
            rw [hx] at hy
            cases hy
            exact hb
        clear hx hb H1
        go_wp2_with fail
        go_roundw
        case rel => exact ⟨p + 1, n, by omega, by go_num, H1', HW⟩
        case measure => simp [intOf]; omega
      | false =>
        have hb2 : Op.bytesLess x.toList k.toList = false := hb
        have HAt : Hid (At k K p) := ⟨by rw [HN.out]; exact hpN, fun j y hj hy => H1.out j y hj hy, fun y hy => by rw [hx] at hy; cases hy; exact hb⟩
        by_cases hxk : x = k
        · subst hxk
          have HP : Hid (Plc K x p true) := ⟨HAt.out, fun _ => ⟨v, hx⟩, fun h => by cases h⟩
          clear hx hb
          go_wp2_with fail
          go_quiet (fail)
          go_wp2_with fail
          go_ret2
          exact ⟨p, true, rfl, HP, _, by rw [HW.out, World.drewN_drewN]⟩
        · have hne1 : (x.toList == k.toList) = false := by rw [beq_eq_false_iff_ne]; exact fun e => hxk (toList_inj e)
          have hne2 : ¬ x.toList = k.toList := fun e => hxk (toList_inj e)
          have HP : Hid (Plc K k p false) := ⟨HAt.out, (fun h => by cases h), (fun _ v' h => by rw [hx] at h; cases h; exact hxk rfl)⟩
          clear hx hxk hb
          go_wp2_with fail
          go_quiet (fail)
          go_wp2_with fail
          go_ret2
          exact ⟨p, false, rfl, HP, _, by rw [HW.out, World.drewN_drewN]⟩
    · obtain rfl : p = N := by omega
      have hlI : ¬ (p : Int) < (p : Int) := by omega
      have HP : Hid (Plc K k p false) := ⟨⟨by rw [HN.out]; exact Nat.le_refl _, fun j y hj hy => H1.out j y hj hy, fun y hy => by
          have := (List.getElem?_eq_some_iff.1 hy).1
          have := HN.out
          omega⟩, (fun h => by cases h), (fun _ v' h => by
          have := (List.getElem?_eq_some_iff.1 h).1
          have := HN.out
          omega)⟩
      go_wp2_with fail
      go_quiet (fail)
      go_wp2_with fail
      go_ret2
      exact ⟨p, false, rfl, HP, _, by rw [HW.out, World.drewN_drewN]⟩
end
end Go.Proofs.YtibglhlhogfdnaaDoor
