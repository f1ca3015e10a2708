/- The program's split and drop. -/
import Derived.Test.YtoknebbkpkcomaaTAddJ
namespace Go.Proofs.Ytoknebbkpkcomaa
open Go.RowKit Go.Lib

section
variable {w : World} {t b m c : Nat} {A B : List Lf} {l : Lf} {made keys : Int}

def Splat (w : World) (t b m : Nat) (A : List Lf) (l : Lf) (B : List Lf) (made keys : Int) (w' : World) : Prop :=
  ∃ b' c' q g p, Half l p ∧ TreeG w' t b' m c' (A ++ l.with l.n.left :: l.spl q g (made + 1) p.1 :: B) (made + 1) keys ∧ Turn (fun i => i = t ∨ i = b ∨ i = m ∨ i = l.g) w w' ∧ w.heap.size ≤ q ∧ w.heap.size ≤ g ∧ (b' = b ∨ w.heap.size ≤ b')

set_option maxRecDepth 100000 in
theorem tsplit_any (h : TreeG w t b m c (A ++ l :: B) made keys) (hk : Lok (A ++ l :: B) made) (h2 : 2 ≤ l.n.ks.length) (hI : 0 ≤ l.n.ins ∧ l.n.ins < 900000) (hS : 0 ≤ l.n.spl ∧ l.n.spl < 900000) (hm0 : 0 ≤ made ∧ made < 900000) (hl : (A ++ l :: B).length < 5000) {x0 : Int} (hx : x0 = A.length) :
    Calls Try.prog 36 #[.pointer (some ⟨t, 0, none⟩), .int .i64 x0] w fun e w' => e = .returned (.tuple #[]) ∧ Splat w t b m A l B made keys w' := by
  have hc0 := h.cells.c0
  have hr := h.rowCell (j := A.length) (l := l) (by simp)
  obtain ⟨l0, -, -, -⟩ := h.leafCells (l := l) (by simp)
  have hbg := h.big
  have hl' : l ∈ A ++ l :: B := by simp
  have HSp : Hid (Calls Try.prog 53 #[.pointer (some ⟨l.g, 0, none⟩)] w fun x w' => ∃ q least, x = .returned (.tuple #[.pointer (some ⟨q, 0, none⟩), .string least, .int .i64 0]) ∧ Hid (Calls Try.prog 23 #[.pointer (some ⟨t, 0, none⟩), .int .i64 (x0 + 1), .pointer (some ⟨q, 0, none⟩), .string least] w' fun e w'' => e = .returned (.tuple #[]) ∧ Splat w t b m A l B made keys w'')) := by
    refine (split_ok (h.nodeI hl') h2 hI hS).mono fun x w' ⟨q, p, e1, e2, e3, e4⟩ => ⟨q, p.1, e2, ?_⟩
    obtain ⟨F', ⟨A1, B1, k1, k2, k3, k4, k5, k6⟩, k7, k8⟩ := e4
    obtain ⟨⟨C1, hC1⟩, hF1⟩ := k1
    obtain ⟨⟨C2, hC2⟩, hF2⟩ := k2
    have hqn : w.heap.size ≤ q := by
      rcases k8 q (k5 q ((hF2 q).2 rfl)) with e | e
      · exact absurd ((hF2 q).2 rfl) (k3 q ((hF1 q).2 e))
      · exact e
    have hG1 := h.withNode k7 hC1
    have hHalf : Half l p := ⟨e1, h2⟩
    have hlen : (A ++ [l.with l.n.left] ++ B).length = (A ++ l :: B).length := by simp
    have hG2 : TreeG w' t b m c (A ++ [l.with l.n.left] ++ B) made keys := by simpa using hG1
    have hnq : q ∉ foot t b m (A ++ [l.with l.n.left] ++ B) := by
      intro hi
      have e : foot t b m (A ++ [l.with l.n.left] ++ B) = foot t b m (A ++ l :: B) := by rw [← foot_with l.n.left]; simp
      rw [e] at hi
      have := h.lt hi
      omega
    refine (tadd_any (A := A ++ [l.with l.n.left]) (B := B) hG2 hnq hC2 hm0 (by rw [hlen]; exact hl) (fun y hy => ?_) (x := x0 + 1) (by simp [hx])).mono fun e w'' ⟨he, b', c', q', j1, j2, j3, j4⟩ => ⟨he, b', c', q', q, p, hHalf, by simpa [Lf.spl, newLf] using j1, ?_, ?_, hqn, ?_⟩
    · have hy' : y ∈ A ++ l.with l.n.left :: B := by simpa using hy
      rcases mem_with hy' with rfl | ⟨hy, _⟩
      · exact (hk.made l hl').2
      · exact (hk.made y hy).2
    · refine (k7.mono (S' := fun i => i = t ∨ i = b ∨ i = m ∨ i = l.g) (fun i hi => Or.inr (Or.inr (Or.inr hi)))).trans (j2.mono fun i hi => ?_)
      rcases hi with e | e | e
      · exact Or.inl e
      · exact Or.inr (Or.inl e)
      · exact Or.inr (Or.inr (Or.inl e))
    · have := k7.size; omega
    · rcases j4 with e | e
      · exact Or.inl e
      · right; have := k7.size; omega
  obtain ⟨N, hN⟩ : ∃ N, (A ++ l :: B).length = N := ⟨_, rfl⟩
  obtain ⟨a, ha⟩ : ∃ a, A.length = a := ⟨_, rfl⟩
  have haN : a < N := by rw [← hN, ← ha]; simp
  obtain ⟨lq, hlq⟩ : ∃ lq, l.q = lq := ⟨_, rfl⟩
  obtain ⟨lg, hlg⟩ : ∃ lg, l.g = lg := ⟨_, rfl⟩
  rw [hN] at hc0 hbg
  rw [ha] at hr hx
  rw [hlq] at hr l0
  rw [hlg] at l0 HSp
  obtain ⟨g1, g2, g3⟩ := hbg
  subst hx
  clear h hk h2 hI hS hm0 hl hl' hN ha hlq hlg
  go_enter Try.func36, Try.ntmps36
  go_wp2_with (first | (go_at_call 53; go_must (refine HSp.out.mono ?_; rintro e w1 ⟨q1, least1, rfl, HA1⟩)) | (go_at_call 23; go_must (refine HA1.out.mono ?_; rintro e w2 ⟨rfl, h2⟩; have H2 : Hid (Splat w t b m A l B made keys w2) := h2; clear h2)))
  all_goals go_returns
  all_goals exact ⟨rfl, H2.out⟩
end

end Go.Proofs.Ytoknebbkpkcomaa
