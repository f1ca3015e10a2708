/- The program's Check. -/
import Derived.Test.YtibglhlhogfdnaaDoorUPut
import Derived.Test.YtibglhlhogfdnaaDoorUChal
import Derived.Test.YtibglhlhogfdnaaDoorUEq
namespace Go.Proofs.YtibglhlhogfdnaaDoor
open Go.RowKit Go.Maps QP AP

set_option maxRecDepth 100000 in
set_option maxHeartbeats 1000000 in
theorem check_auth (g : Nat) (K : List Kv) (n c p : ByteArray) (w : World) (F : Nat → Prop) (hcon : Con w) (h : KeyI g K w F) (hn : n.size ≤ 10000) (hc : c.size ≤ 10000) (hp : p.size ≤ 140737488355328) :
    Calls Tryd.prog 18 #[.pointer (some ⟨g, 0, none⟩), .string n, .string c, .string p] w fun e w' => e = .returned (.int .i64 (checkE K n c p)) ∧ Goes (KeyI g K) w w' F := by
  obtain ⟨m, hG, hF⟩ := h
  have c0 : w.cell? ⟨g, 0, none⟩ = some (.map (some m)) := by rw [cell_of hG.top]; rfl
  have HGo : Hid (∀ u, Below w.heap.size w u → Goes (KeyI g K) w u F) := fun u hu => keyGoes hG hF hu
  have hl := hG.look n (by unfold maxLen; omega)
  cases hg : getK n K with
  | none =>
    rw [hg] at hl
    have hl' : (Instr.lookup 52 (.map (some m)) (.string n) true).run Tryd.prog w = .ok (.tuple #[.agg #[.string ⟨#[]⟩], .bool false]) w := hl
    have HE : Hid (checkE K n c p = 250) := checkE_none hg c p
    clear hG hF hg hl hcon
    go_enter Tryd.func18, Tryd.ntmps18
    go_wp2
    go_ret
    exact ⟨by rw [HE.out]; rfl, HGo.out _ (bAl _)⟩
  | some x =>
    rw [hg] at hl
    have hl' : (Instr.lookup 52 (.map (some m)) (.string n) true).run Tryd.prog w = .ok (.tuple #[.agg #[.string x], .bool true]) w := hl
    have hx : x.size ≤ 64 := (hG.short _ ((getK_some hG.rise).1 hg)).2
    have HPr : Hid (∀ u, Below w.heap.size w u → Calls Tryd.prog 16 #[.string x, .string n, .string c] u fun e w' => e = .returned (.string (proof x n c)) ∧ Below u.heap.size u w') := fun u hu => proof_auth x n c u (hcon.below hu) (by omega) hn hc
    obtain ⟨b, hb⟩ : ∃ b, decide (p = proof x n c) = b := ⟨_, rfl⟩
    have HE : Hid (checkE K n c p = if b then 0 else 250) := by
      show _ = _
      by_cases e : p = proof x n c
      · rw [e, checkE_yes hg c, ← hb, decide_eq_true e]; rfl
      · rw [checkE_no hg e, ← hb, decide_eq_false e]; rfl
    have HQ : Hid (∀ u, Calls Tryd.prog 32 #[.string p, .string (proof x n c)] u fun e w' => e = .returned (.bool b) ∧ Below u.heap.size u w') := fun u => by
      rw [← hb]
      exact equal_any p (proof x n c) u hp
    obtain ⟨q, hq⟩ : ∃ q, proof x n c = q := ⟨_, rfl⟩
    rw [hq] at HPr HQ
    have HB1 : Hid (Below w.heap.size w (w.alloc (.cells #[.string x] 60))) := bAl _
    clear hG hF hg hl hcon hq hb hx
    cases b
    all_goals (
      go_enter Tryd.func18, Tryd.ntmps18
      go_wp2_with (first
        | (go_at_call 16; go_must ((with_reducible refine (HPr.out _ HB1.out).mono ?_); rintro e w1 ⟨rfl, hb1⟩; have HB2 : Hid (Below w.heap.size w w1) := HB1.out.trans (hb1.mono HB1.out.size); clear hb1))
        | (go_at_call 32; go_must ((with_reducible refine (HQ.out _).mono ?_); rintro e w2 ⟨rfl, hb2⟩; have HB3 : Hid (Below w.heap.size w w2) := HB2.out.trans (hb2.mono HB2.out.size); clear hb2)))
      go_ret
      exact ⟨by rw [HE.out]; rfl, HGo.out _ HB3.out⟩)
end Go.Proofs.YtibglhlhogfdnaaDoor
