/- The chapter's example holds, for readers that keep their contracts. -/
import Derived.Test.YtddbacphlbaohaaVKit
namespace Go.Proofs.Ytddbacphlbaohaa
open Go.RowKit

theorem ex1 : feedB ⟨[], false⟩ [0, 0] = [] ∧ feedE ⟨[], false⟩ [0, 0] = 0 ∧ feedR ⟨[], false⟩ [0, 0] = ⟨[0, 0], false⟩ := ⟨by kernel_rfl, by kernel_rfl, by kernel_rfl⟩
theorem ex2 : feedB ⟨[0, 0], false⟩ [0, 3, 97, 98, 99, 0] = [[97, 98, 99]] ∧ feedE ⟨[0, 0], false⟩ [0, 3, 97, 98, 99, 0] = 0 ∧ feedR ⟨[0, 0], false⟩ [0, 3, 97, 98, 99, 0] = ⟨[0], false⟩ := ⟨by kernel_rfl, by kernel_rfl, by kernel_rfl⟩

set_option maxHeartbeats 400000 in
theorem works7_any (K : Kit) (w : World) : Calls Try.prog 16 #[] w fun e w' => e = .returned (.bool true) ∧ Below w.heap.size w w' := by
  have HN : Hid (Calls Try.prog 7 #[] w fun e w' => ∃ g F, e = .returned (.pointer (some ⟨g, 0, none⟩)) ∧ On K g ⟨[], false⟩ w w' F ∧ (∀ i, F i → w.heap.size ≤ i) ∧ Below w.heap.size w w') := kit_new K w w (Below.refl _ _)
  go_enter Try.func16, Try.ntmps16
  go_wp2_with (go_at_call 7; go_must (refine HN.out.mono ?_))
  rintro e w1 ⟨g, F, rfl, hO, -, -⟩
  have HF1 : Hid (Calls Try.prog 9 #[.pointer (some ⟨g, 0, none⟩), .string { data := #[0, 0] }] w1 fun e w' => ∃ v F', e = .returned (.tuple #[v, .int .i64 0]) ∧ RowS w' w1.heap.size v [] ∧ On K g ⟨[0, 0], false⟩ w w' F') := (hO.feed { data := #[0, 0] }).mono fun e w' ⟨v, F', h1, h2, h3, _⟩ => by
    rw [show ({ data := #[0, 0] } : ByteArray).data.toList = [0, 0] from rfl, ex1.1] at h2
    rw [show ({ data := #[0, 0] } : ByteArray).data.toList = [0, 0] from rfl, ex1.2.1] at h1
    rw [show ({ data := #[0, 0] } : ByteArray).data.toList = [0, 0] from rfl, ex1.2.2] at h3
    exact ⟨v, F', h1, h2, h3⟩
  clear hO
  go_wp2_with (go_at_call 9; go_must (refine HF1.out.mono ?_))
  rintro e w2 ⟨v2, F2, rfl, ⟨a2, c2, rfl, -, -, -, -⟩, hO2⟩
  have HF2 : Hid (Calls Try.prog 9 #[.pointer (some ⟨g, 0, none⟩), .string { data := #[0, 3, 97, 98, 99, 0] }] w2 fun e w' => ∃ v F', e = .returned (.tuple #[v, .int .i64 0]) ∧ RowS w' w2.heap.size v [[97, 98, 99]] ∧ On K g ⟨[0], false⟩ w w' F') := (hO2.feed { data := #[0, 3, 97, 98, 99, 0] }).mono fun e w' ⟨v, F', h1, h2, h3, _⟩ => by
    rw [show ({ data := #[0, 3, 97, 98, 99, 0] } : ByteArray).data.toList = [0, 3, 97, 98, 99, 0] from rfl, ex2.1] at h2
    rw [show ({ data := #[0, 3, 97, 98, 99, 0] } : ByteArray).data.toList = [0, 3, 97, 98, 99, 0] from rfl, ex2.2.1] at h1
    rw [show ({ data := #[0, 3, 97, 98, 99, 0] } : ByteArray).data.toList = [0, 3, 97, 98, 99, 0] from rfl, ex2.2.2] at h3
    exact ⟨v, F', h1, h2, h3⟩
  clear hO2
  go_wp2_with (go_at_call 9; go_must (refine HF2.out.mono ?_))
  rintro e w3 ⟨v3, F3, rfl, hv3, hO3⟩
  obtain ⟨a3, c3, rfl, -, -, hx⟩ := hv3.strs
  obtain ⟨b, off, rfl, -, hc⟩ := hx (by simp)
  have q : w3.cell? ⟨b, off, none⟩ = some (.string { data := #[97, 98, 99] }) := hc 0 (by decide)
  have HL : Hid (Calls Try.prog 12 #[.pointer (some ⟨g, 0, none⟩)] w3 fun e w' => e = .returned (.int .i64 1) ∧ ∃ n, w' = w3.drewN n) := hO3.left
  have HB : Hid (Below w.heap.size w w3) := hO3.below
  clear hc hx hv3 hO3
  go_wp2_with (go_at_call 12; go_must (refine HL.out.mono ?_; rintro e w4 ⟨rfl, m, rfl⟩))
  go_ret
  exact ⟨rfl, below_draws HB.out m⟩

end Go.Proofs.Ytddbacphlbaohaa
