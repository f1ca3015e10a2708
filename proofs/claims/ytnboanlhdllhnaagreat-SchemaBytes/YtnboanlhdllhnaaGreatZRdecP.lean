/- The document's Decode, plainly. -/
import Derived.Test.YtnboanlhdllhnaaGreatZDecP
namespace Go.Proofs.YtnboanlhdllhnaaGreat

section
variable {b0 : List UInt8} {L : Cat} {last q r : List UInt8} {T : Tab}
theorem DecInv.next (h : DecInv b0 L last q) (hq : q ≠ []) (hr : rdTab q = some (T, r)) (hm : T.may = true) (hb : bytesBefore last (kb T.nm) = true) (hl : L.length < 4096) : DecInv b0 (L ++ [(kb T.nm, T)]) (kb T.nm) r ∧ r.length < q.length := by
  have hbk := two_tab.back _ _ _ hr
  obtain ⟨f1, f2, f3⟩ := first_of (may_parts hm) r
  rw [← hbk.2] at f1 f2
  have hbef : ∀ p ∈ L, bytesBefore p.1 (kb T.nm) = true := fun p hp => by
    rcases h.last1 p hp with e | e
    · rw [e]; exact hb
    · exact before_tr e hb
  have hz : crE L T = 0 := by
    refine crE_zero.2 ⟨hm, ?_, hl⟩
    cases hg' : Dk.getL (kb T.nm) L with
    | none => rfl
    | some a =>
      have := hbef _ (Dk.getL_mem hg')
      simp only at this
      rw [before_irr] at this; cases this
  have := h.yes hq (by rw [f2]; exact f3) hb hz
  rw [crL_snoc hbef hz, f1] at this
  exact this
theorem DecInv.back (h : rdAll (firstB q) = some T) : rdTab q = some (T, tabW q) := by
  have hb := two_tab.back _ _ _ (rdAll_some h)
  rw [List.append_nil] at hb
  have := two_tab.there T (tabW q) hb.1
  rw [← hb.2, first_rest] at this
  exact this
theorem DecInv.stop1 (h : DecInv b0 L last q) (hq : q ≠ []) (hr : rdTab q = none) : ∀ L', ¬ Good b0 L' :=
  h.no hq fun T h1 _ _ => by
    rw [DecInv.back h1] at hr
    cases hr
theorem DecInv.stop2 (h : DecInv b0 L last q) (hq : q ≠ []) (hr : rdTab q = some (T, r)) (hn : T.may = false ∨ bytesBefore last (kb T.nm) = false ∨ 4096 ≤ L.length) : ∀ L', ¬ Good b0 L' :=
  h.no hq fun T' h1 h2 h3 => by
    rw [DecInv.back h1] at hr
    simp only [Option.some.injEq, Prod.mk.injEq] at hr
    obtain ⟨k1, k2, k3⟩ := crE_zero.1 h3
    rw [hr.1] at k1 h2
    rcases hn with e | e | e
    · rw [e] at k1; cases k1
    · rw [e] at h2; cases h2
    · omega
end

end Go.Proofs.YtnboanlhdllhnaaGreat
