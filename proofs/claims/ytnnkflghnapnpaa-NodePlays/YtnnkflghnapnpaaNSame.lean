/- The law's own 'same': the program's node and the document's. -/
import Derived.Test.YtnnkflghnapnpaaNRefS
namespace Go.Proofs.Ytnnkflghnapnpaa
open Go.RowKit

section
variable {u : World} {g r : Nat} {n : Nd} {A B : Nat → Prop}

/-- r's cells that 'same' reads -/
def RC (w' : World) (r : Nat) (V I S : Int) : Prop := w'.cell? ⟨r, 0, none⟩ = some (.int .u64 V) ∧ w'.cell? ⟨r, 3, none⟩ = some (.int .i64 I) ∧ w'.cell? ⟨r, 4, none⟩ = some (.int .i64 S)

set_option maxRecDepth 100000 in
set_option maxHeartbeats 2000000 in
theorem same_any (h1 : NodeI g n u A) (h2 : RefI r n u B) : Calls Try.prog 29 #[.pointer (some ⟨g, 0, none⟩), .pointer (some ⟨r, 0, none⟩)] u fun e w' => e = .returned (.bool true) ∧ Below u.heap.size u w' := by
  have ho := h1.ok
  have hfew := ho.few
  obtain ⟨V, hV⟩ : ∃ V, n.word = V := ⟨_, rfl⟩
  obtain ⟨I, hI⟩ : ∃ I, n.ins = I := ⟨_, rfl⟩
  obtain ⟨S, hS⟩ : ∃ S, n.spl = S := ⟨_, rfl⟩
  obtain ⟨N, hN⟩ : ∃ N, n.ks.length = N := ⟨_, rfl⟩
  have hkl : n.keys.length = N := by unfold Nd.keys; rw [List.length_map, hN]
  have HN1 : Hid (∀ W, Below u.heap.size u W → NodeI g n W A) := fun W hb => (nodeI_res g n).kept (S := fun _ => False) h1 (Turn.ofBelow _ hb) (fun _ _ h => h)
  have HN2 : Hid (∀ W, Below u.heap.size u W → RefI r n W B) := fun W hb => (refI_res r n).kept (S := fun _ => False) h2 (Turn.ofBelow _ hb) (fun _ _ h => h)
  have HCell : Hid (∀ W, Below u.heap.size u W → W.cell? ⟨r, 0, none⟩ = some (.int .u64 V) ∧ W.cell? ⟨r, 3, none⟩ = some (.int .i64 I) ∧ W.cell? ⟨r, 4, none⟩ = some (.int .i64 S)) := fun W hb => by
    obtain ⟨kb, vb, KS, VS, hG, -⟩ := HN2.out W hb
    have hc := hG.cells
    exact ⟨hV ▸ hc.c0, hI ▸ hc.c3, hS ▸ hc.c4⟩
  have HCnt : Hid (Calls Try.prog 32 #[.pointer (some ⟨g, 0, none⟩)] u fun e w' => e = .returned (.tuple #[.int .i64 I, .int .i64 S]) ∧ ∃ m, w' = u.drewN m) := by rw [← hI, ← hS]; exact counts_any h1
  have HK : Hid (∀ W, Below u.heap.size u W → Calls Try.prog 30 #[.pointer (some ⟨g, 0, none⟩)] W fun e w' => ∃ b, e = .returned (.slice (some ⟨b, 0, none⟩) N N) ∧ Hid (Below u.heap.size u w' ∧ TextsAt w' b n.keys) ∧ w'.cell? ⟨r, 0, none⟩ = some (.int .u64 V) ∧ w'.cell? ⟨r, 3, none⟩ = some (.int .i64 I) ∧ w'.cell? ⟨r, 4, none⟩ = some (.int .i64 S)) := fun W hb =>
    (keys_any (HN1.out W hb)).mono fun e w' ⟨b, e1, e2, e3, e4⟩ => ⟨b, by rw [e1, hkl], ⟨hb.trans (e4.mono hb.size), e3⟩, HCell.out w' (hb.trans (e4.mono hb.size))⟩
  have HA : Hid (∀ W b, (Below u.heap.size u W ∧ TextsAt W b n.keys) → Calls Try.prog 45 #[.pointer (some ⟨r, 0, none⟩)] W fun e w' => ∃ X c, e = .returned (.slice X N c) ∧ Hid (Below u.heap.size u w' ∧ TextsAt w' b n.keys ∧ SliceAt w' (.slice X N c) 1 enS n.keys) ∧ w'.cell? ⟨r, 0, none⟩ = some (.int .u64 V) ∧ w'.cell? ⟨r, 3, none⟩ = some (.int .i64 I) ∧ w'.cell? ⟨r, 4, none⟩ = some (.int .i64 S)) := fun W b ⟨hb, ht⟩ =>
    (oall_any (HN2.out W hb)).mono fun e w' ⟨X, c, e1, e2, e3⟩ => by
      have hb2 := hb.trans (e3.mono hb.size)
      refine ⟨X, c, by rw [e1, hN], ⟨hb2, (e3.block b (lt_of ht)).trans ht, ?_⟩, HCell.out w' hb2⟩
      have := row_texts (K := n.keys) (by rw [hkl, ← hN]; exact e2)
      rw [hN] at this
      exact this
  have HSm : Hid (∀ W b X c, (Below u.heap.size u W ∧ TextsAt W b n.keys ∧ SliceAt W (.slice X N c) 1 enS n.keys) → Calls Try.prog 33 #[.slice (some ⟨b, 0, none⟩) N N, .slice X N c] W fun e w' => e = .returned (.bool true) ∧ Hid (Below u.heap.size u w') ∧ w'.cell? ⟨r, 0, none⟩ = some (.int .u64 V) ∧ w'.cell? ⟨r, 3, none⟩ = some (.int .i64 I) ∧ w'.cell? ⟨r, 4, none⟩ = some (.int .i64 S)) := fun W b X c ⟨hb, ht, hs⟩ => by
    have t1 : SliceAt W (.slice (some ⟨b, 0, none⟩) N N) 1 enS n.keys := by
      refine ⟨some ⟨b, 0, none⟩, N, by rw [hkl], by omega, by unfold maxLen; omega, fun _ => ⟨b, 0, rfl, lt_of ht, fun i hi j v hv => ?_⟩⟩
      cases j with
      | zero =>
        simp [enS] at hv
        rw [cell_of ht, List.getElem?_toArray, ← hv, Nat.zero_add, Nat.mul_one, Nat.add_zero]
        exact scells_get (List.getElem?_eq_getElem hi)
      | succ j => simp [enS] at hv
    refine (sameTexts_any _ _ _ _ _ t1 hs).mono fun e w' ⟨he, m, hw⟩ => ⟨by rw [he, decide_eq_true rfl], ?_, ?_⟩
    · rw [hw]; exact below_dr hb m
    · rw [hw]; exact HCell.out _ (below_dr hb m)
  have HO : Hid (∀ W, Below u.heap.size u W → Calls Try.prog 31 #[.pointer (some ⟨g, 0, none⟩)] W fun e w' => e = .returned (.int .u64 V) ∧ w' = W) := fun W hb => by rw [← hV]; exact order_any (HN1.out W hb)
  clear h1 h2 ho hfew hV hI hS hN hkl
  go_enter Try.func29, Try.ntmps29
  go_wp2_with fail
  refine HCnt.out.mono ?_
  rintro e u1 ⟨rfl, m1, hu1⟩
  have HB1 : Hid (Below u.heap.size u u1) := by rw [hu1]; exact below_drewN u m1
  obtain ⟨c0, c3, c4⟩ := HCell.out u1 HB1.out
  clear hu1
  go_wp2_with fail
  go_region_held3 (fun w' => w'.cell? ⟨r, 0, none⟩ = some (.int .u64 V) ∧ w'.cell? ⟨r, 3, none⟩ = some (.int .i64 I) ∧ w'.cell? ⟨r, 4, none⟩ = some (.int .i64 S)) (go_keep)
    (first
      | (go_at_call 30; refine (HK.out _ (below_dr HB1.out 1)).mono ?_; rintro e w2 ⟨b, rfl, H2, a0, a3, a4⟩)
      | (go_at_call 45; refine (HA.out _ b H2.out).mono ?_; rintro e w3 ⟨X, c, rfl, H3, b0, b3, b4⟩)
      | (go_at_call 33; refine (HSm.out _ b X c H3.out).mono ?_; rintro e w4 ⟨rfl, H4, d0, d3, d4⟩)
      | (go_at_call 31; refine (HO.out _ H4.out).mono ?_; rintro e w5 ⟨rfl, rfl⟩))
  all_goals go_wp2_with fail
  all_goals go_ret
  all_goals exact ⟨rfl, H4.out⟩
end

end Go.Proofs.Ytnnkflghnapnpaa
