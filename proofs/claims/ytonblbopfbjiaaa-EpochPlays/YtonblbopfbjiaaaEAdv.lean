/- Advance. -/
import Derived.Test.YtonblbopfbjiaaaEEach
namespace Go.Proofs.Ytonblbopfbjiaaa
open Go.RowKit

section
variable {g : Nat} {c : Ck} {w : World} {F : Nat → Prop}

set_option maxRecDepth 100000 in
theorem adv_last (h : ClockI g c w F) (hn : c.now = 2147483648) : Calls Try.prog 16 #[.pointer (some ⟨g, 0, none⟩)] w fun e w' => e = .returned (.tuple #[.bool false, .int .i64 1]) ∧ Goes (ClockI g c) w w' F := by
  have HS : Hid (Goes (ClockI g c) w (w.alloc (boxC g)) F) := (Goes.stay h).thenStay (clockI_res _ _) ((Below.refl _ _).alloc (Nat.le_refl _) _)
  obtain ⟨b, a, m, hG, hF⟩ := h
  obtain ⟨c0, -, -, -, -, -, -, -⟩ := hG.cells
  have hl : g < w.heap.size := lt_of hG.st
  have c0' : (w.alloc (boxC g)).cell? ⟨g, 0, none⟩ = some (.int .i64 2147483648) := by
    rw [World.cell?_alloc_past _ _ _ hl, c0, hn]
  clear hG hF c0 hn
  go_enter Try.func16, Try.ntmps16
  go_wp2_with fail
  go_ret2
  exact ⟨rfl, HS.out⟩

/-- Advance, behind the loop over the workers -/
structure AdvC (w w2 : World) (g b : Nat) (a : Option Addr) (m : Nat) (c : Ck) : Prop where
  below : Below w.heap.size w w2
  at_ : ClockG w2 g b a m c
  box : w2.cell? ⟨w.heap.size + 1, 0, none⟩ = some (.bool c.late)
  own : w2.cell? ⟨w.heap.size, 0, none⟩ = some (.pointer (some ⟨g, 0, none⟩))

theorem adv_each {b m : Nat} {a : Option Addr} (h : ClockG w g b a m c) : Calls Try.prog 28 #[.pointer (some ⟨g, 0, none⟩), .func (.func 31) #[] #[.pointer (some ⟨w.heap.size + 1, 0, none⟩), .pointer (some ⟨w.heap.size, 0, none⟩)]] ((w.alloc (boxC g)).alloc (boxB false)) fun e w' => e = .returned (.tuple #[]) ∧ AdvC w w' g b a m c := by
  obtain ⟨W, hW⟩ : ∃ W, (w.alloc (boxC g)).alloc (boxB false) = W := ⟨_, rfl⟩
  have hB : Below w.heap.size w W := hW ▸ (((Below.refl _ _).alloc (Nat.le_refl _) _).alloc (by simp) _)
  have hGW : ClockG W g b a m c := h.kept (hB.block g (lt_of h.st)) (hB.block b (lt_of h.wk)) (fun t e => by
    obtain ⟨cur, h2, _⟩ := ownsRow_own h.th e
    exact hB.block t (lt_of h2))
  have hp : W.heap[w.heap.size + 1]? = some (boxB false) := by
    rw [← hW]
    have := heap_new (w.alloc (boxC g)) (boxB false)
    simpa using this
  have hq : W.heap[w.heap.size]? = some (boxC g) := by
    rw [← hW, Below.heap_alloc _ _ _ (by simp)]
    exact heap_new w _
  rw [hW]
  refine (each_late hGW hp hq).mono ?_
  rintro e w2 ⟨rfl, ht, hb⟩
  have hB2 : Below w.heap.size w w2 := hB.trans ((ht.mono (fun i hi => (by omega : w.heap.size ≤ i))).toBelow hB.size)
  refine ⟨rfl, hB2, h.kept (hB2.block g (lt_of h.st)) (hB2.block b (lt_of h.wk)) (fun t e => by
    obtain ⟨cur, h2, _⟩ := ownsRow_own h.th e
    exact hB2.block t (lt_of h2)), by rw [cell_of hb]; rfl, ?_⟩
  rw [cell_of ((ht.block w.heap.size (lt_of hq) (by omega)).trans hq)]
  rfl

set_option maxRecDepth 100000 in
set_option maxHeartbeats 1000000 in
theorem adv_late (h : ClockI g c w F) (hn : c.now ≠ 2147483648) (hl : c.late = true) : Calls Try.prog 16 #[.pointer (some ⟨g, 0, none⟩)] w fun e w' => e = .returned (.tuple #[.bool false, .int .i64 0]) ∧ Goes (ClockI g c) w w' F := by
  have HI : Hid (ClockI g c w F) := h
  obtain ⟨b, a, m, hG, hF⟩ := h
  obtain ⟨c0, -, -, -, -, -, -, -⟩ := hG.cells
  have hlt : g < w.heap.size := lt_of hG.st
  have c0' : (w.alloc (boxC g)).cell? ⟨g, 0, none⟩ = some (.int .i64 c.now) := by
    rw [World.cell?_alloc_past _ _ _ hlt, c0]
  have hb : (c.now == 2147483648) = false := by simpa using hn
  have HE : Hid (Calls Try.prog 28 #[.pointer (some ⟨g, 0, none⟩), .func (.func 31) #[] #[.pointer (some ⟨w.heap.size + 1, 0, none⟩), .pointer (some ⟨w.heap.size, 0, none⟩)]] ((w.alloc (boxC g)).alloc (boxB false)) fun e w' => e = .returned (.tuple #[]) ∧ AdvC w w' g b a m c) := adv_each hG
  have HL : Hid (c.late = true) := hl
  clear hG hF c0 hn hl
  go_enter Try.func16, Try.ntmps16
  go_wp2_with fail
  refine HE.out.mono ?_
  rintro e w2 ⟨rfl, hA⟩
  have q1 := hA.box
  rw [HL.out] at q1
  have HB : Hid (Below w.heap.size w w2) := hA.below
  clear hA
  go_wp2_with fail
  go_ret2
  exact ⟨rfl, (Goes.stay HI.out).thenStay (clockI_res _ _) HB.out⟩

theorem Goes.ahead {I' : World → (Nat → Prop) → Prop} {w w1 w' : World} {F : Nat → Prop} (hb : Below w.heap.size w w1) (h : Goes I' w1 w' F) : Goes I' w w' F := by
  obtain ⟨F', h1, h2, h3⟩ := h
  refine ⟨F', h1, (Turn.ofBelow F hb).trans h2, fun i hi => ?_⟩
  rcases h3 i hi with h | h
  · exact Or.inl h
  · exact Or.inr (Nat.le_trans hb.size h)

theorem rise_one {b m n : Nat} {a : Option Addr} {w2 : World} (hA : AdvC w w2 g b a m c) (hF : ∀ i, F i ↔ (i = g ∨ i = b ∨ (Value.slice a c.th.length m).ownBlock = some i)) (hR : c.rise.Ok) (hr : ¬ (c.now + 1) % c.every = 0) :
    Goes (ClockI g c.rise) w ((w2.setCell ⟨g, 0, none⟩ (.int .i64 (c.now + 1))).drewN n) F := by
  have hs : c.rise.snap = c.snap := if_neg hr
  refine Goes.ahead hA.below (hA.at_.setE hF ⟨rfl, rfl, rfl⟩ hR ((Turn.setCell (S := fun i => i = g) w2 ⟨g, 0, none⟩ _ rfl).drewN n) ?_)
  show (w2.setCell ⟨g, 0, none⟩ (.int .i64 (c.now + 1))).heap[g]? = _
  rw [heap_setCell_same hA.at_.st, hs]
  rfl

theorem rise_two {b m n : Nat} {a : Option Addr} {w2 : World} {x : Int} (hA : AdvC w w2 g b a m c) (hF : ∀ i, F i ↔ (i = g ∨ i = b ∨ (Value.slice a c.th.length m).ownBlock = some i)) (hR : c.rise.Ok) (hr : (c.now + 1) % c.every = 0) (hx : x = max c.snap (c.now - 1)) :
    Goes (ClockI g c.rise) w (((w2.setCell ⟨g, 0, none⟩ (.int .i64 (c.now + 1))).drewN n).setCell ⟨g, 1, none⟩ (.int .i64 x)) F := by
  have hs : c.rise.snap = x := by rw [hx]; exact if_pos hr
  refine Goes.ahead hA.below (hA.at_.setE hF ⟨rfl, rfl, rfl⟩ hR (((Turn.setCell (S := fun i => i = g) w2 ⟨g, 0, none⟩ _ rfl).drewN n).trans (Turn.setCell (S := fun i => i = g) _ ⟨g, 1, none⟩ _ rfl)) ?_)
  have h1 : ((w2.setCell ⟨g, 0, none⟩ (.int .i64 (c.now + 1))).drewN n).heap[g]? = _ := heap_setCell_same hA.at_.st 0 (.int .i64 (c.now + 1))
  rw [heap_setCell_same h1, hs]
  rfl

set_option maxRecDepth 100000 in
set_option maxHeartbeats 1000000 in
theorem adv_rise (h : ClockI g c w F) (hn : c.now ≠ 2147483648) (hl : c.late = false) : Calls Try.prog 16 #[.pointer (some ⟨g, 0, none⟩)] w fun e w' => e = .returned (.tuple #[.bool true, .int .i64 0]) ∧ Goes (ClockI g c.rise) w w' F := by
  obtain ⟨b, a, m, hG, hF⟩ := h
  obtain ⟨c0, -, -, -, -, -, -, -⟩ := hG.cells
  have hlt : g < w.heap.size := lt_of hG.st
  have c0' : (w.alloc (boxC g)).cell? ⟨g, 0, none⟩ = some (.int .i64 c.now) := by
    rw [World.cell?_alloc_past _ _ _ hlt, c0]
  have hb : (c.now == 2147483648) = false := by simpa using hn
  have HE : Hid (Calls Try.prog 28 #[.pointer (some ⟨g, 0, none⟩), .func (.func 31) #[] #[.pointer (some ⟨w.heap.size + 1, 0, none⟩), .pointer (some ⟨w.heap.size, 0, none⟩)]] ((w.alloc (boxC g)).alloc (boxB false)) fun e w' => e = .returned (.tuple #[]) ∧ AdvC w w' g b a m c) := adv_each hG
  have HL : Hid (c.late = false) := hl
  have HR : Hid (c.rise.Ok) := Ck.rise_ok hG.ok hn hl
  have HK : Hid (c.Ok) := hG.ok
  have HF : Hid (∀ i, F i ↔ (i = g ∨ i = b ∨ (Value.slice a c.th.length m).ownBlock = some i)) := hF
  have n1 := hG.ok.now1
  have n2 : c.now < 2147483648 := by have := hG.ok.now2; omega
  have e1 := hG.ok.every1
  have e2 := hG.ok.every2
  clear hG hF c0 hn hl
  go_enter Try.func16, Try.ntmps16
  go_wp2_with fail
  refine HE.out.mono ?_
  rintro e w2 ⟨rfl, hA⟩
  have q1 := hA.box
  rw [HL.out] at q1
  have q2 := hA.own
  obtain ⟨d0, d1, d2, d3, d4, f0, f1, f4⟩ := hA.at_.cells
  have HA : Hid (AdvC w w2 g b a m c) := hA
  have hqg : ¬ w.heap.size = g := by omega
  have hgq : ¬ g = w.heap.size := by omega
  have x1 : IntKind.i64.wrap (c.now + 1) = c.now + 1 := wrap_small _ (by omega) (by omega)
  have x2 : ¬ c.every = 0 := by omega
  obtain ⟨r, hr⟩ : ∃ r, (c.now + 1).tmod c.every = r := ⟨_, rfl⟩
  have HRR : Hid ((c.now + 1) % c.every = r) := (by rw [← hr, Int.tmod_eq_emod_of_nonneg (by omega)] : _ = _)
  have hr0 : 0 ≤ r := by rw [← hr]; exact Int.tmod_nonneg _ (by omega)
  have hr1 : r < c.every := by rw [← hr]; exact Int.tmod_lt_of_pos _ (by omega)
  clear hA
  by_cases h0 : r = 0
  · subst h0
    have x3 : IntKind.i64.wrap (c.now + 1 - 2) = c.now - 1 := by rw [wrap_small _ (by omega) (by omega)]; omega
    by_cases hs : c.snap < c.now - 1
    · go_wp2_with fail
      go_quiet (fail)
      go_wp2_with fail
      go_region
      all_goals go_wp2_with fail
      all_goals go_ret2
      exact ⟨rfl, rise_two HA.out HF.out HR.out HRR.out (by have := HK.out.snap2; omega)⟩
    · go_wp2_with fail
      go_quiet (fail)
      go_wp2_with fail
      go_region
      all_goals go_wp2_with fail
      all_goals go_ret2
      exact ⟨rfl, rise_two HA.out HF.out HR.out HRR.out (by have := HK.out.snap2; omega)⟩
  · have hr2 : (r == 0) = false := by simpa using h0
    go_wp2_with fail
    go_quiet (fail)
    go_wp2_with fail
    go_ret2
    exact ⟨rfl, rise_one HA.out HF.out HR.out (by rw [HRR.out]; exact h0)⟩

end
end Go.Proofs.Ytonblbopfbjiaaa
