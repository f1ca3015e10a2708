/- Lists of texts: SameTexts. -/
import Derived.Test.YtddbacphlbaohaaVBase
namespace Go.Proofs.Ytddbacphlbaohaa
open Go.RowKit

def StrsAt (w : World) (v : Value) (L : List (List UInt8)) : Prop :=
  ∃ a c, v = .slice a L.length c ∧ L.length ≤ c ∧ c ≤ maxLen ∧ (L ≠ [] → ∃ b off, a = some ⟨b, off, none⟩ ∧ b < w.heap.size ∧ ∀ i, (h : i < L.length) → w.cell? ⟨b, off + i, none⟩ = some (Go.Proofs.encStr L[i]))

theorem strs_of_row {w : World} {base : Nat} {v : Value} {n : Nat} {L : List (List UInt8)} (h : w.ownsRow base 9 1 v n (L.map Go.Proofs.encStr)) : StrsAt w v L ∧ n = L.length := by
  have hl : L.length = n := by simpa using h.1
  subst hl
  refine ⟨?_, rfl⟩
  rcases h.2 with ⟨rfl, hn⟩ | ⟨g, cap, cur, rfl, _, hg, hnc, hcm, _⟩
  · have : L = [] := List.eq_nil_of_length_eq_zero hn
    subst this
    exact ⟨none, 0, rfl, Nat.le_refl _, Nat.zero_le _, fun h => absurd rfl h⟩
  · refine ⟨_, cap, rfl, hnc, hcm, fun _ => ⟨g, 0, rfl, lt_of hg, fun i hi => ?_⟩⟩
    have := h.cells (g := g) rfl i (Go.Proofs.encStr L[i]) (by simp [hi])
    rw [Addr.add_lit] at this
    exact this

theorem StrsAt.below {w w' : World} {v : Value} {L : List (List UInt8)} (h : StrsAt w v L) (hb : Below w.heap.size w w') : StrsAt w' v L := by
  obtain ⟨a, c, e1, e2, e3, e4⟩ := h
  refine ⟨a, c, e1, e2, e3, fun hr => ?_⟩
  obtain ⟨b, off, e, hlt, hc⟩ := e4 hr
  exact ⟨b, off, e, Nat.lt_of_lt_of_le hlt hb.size, fun i hi => (hb.cell (p := ⟨b, off + i, none⟩) hlt).trans (hc i hi)⟩

set_option maxHeartbeats 1000000 in
theorem sameTexts_true (v v' : Value) (L : List (List UInt8)) (w : World) (h : StrsAt w v L) (h' : StrsAt w v' L) :
    Calls Try.prog 11 #[v, v'] w fun e w' => e = .returned (.bool true) ∧ ∃ n, w' = w.drewN n := by
  obtain ⟨a, c, rfl, hl, hc, hx⟩ := h
  obtain ⟨a', c', rfl, hl', hc', hx'⟩ := h'
  unfold maxLen at hc hc'
  have HX : Hid (L ≠ [] → ∃ b off, a = some ⟨b, off, none⟩ ∧ b < w.heap.size ∧ ∀ i, (h : i < L.length) → w.cell? ⟨b, off + i, none⟩ = some (Go.Proofs.encStr L[i])) := hx
  have HX' : Hid (L ≠ [] → ∃ b off, a' = some ⟨b, off, none⟩ ∧ b < w.heap.size ∧ ∀ i, (h : i < L.length) → w.cell? ⟨b, off + i, none⟩ = some (Go.Proofs.encStr L[i])) := hx'
  clear hx hx'
  by_cases hL : L = []
  · subst hL
    go_enter Try.func11, Try.ntmps11
    go_wp2
    go_loopw [5] (fun i wr => i = .int .i64 0 ∧ wr = w) (fun _ _ => 0)
    case atStart => exact ⟨rfl, rfl⟩
    case round =>
      obtain ⟨rfl, rfl⟩ := hrel
      go_wp2
      go_ret
      exact ⟨rfl, 0, rfl⟩
  · obtain ⟨b, off, rfl, -, hb⟩ := HX.out hL
    obtain ⟨b', off', rfl, -, hb'⟩ := HX'.out hL
    have HB : Hid (∀ i, (h : i < L.length) → w.cell? ⟨b, off + i, none⟩ = some (Go.Proofs.encStr L[i])) := hb
    have HB' : Hid (∀ i, (h : i < L.length) → w.cell? ⟨b', off' + i, none⟩ = some (Go.Proofs.encStr L[i])) := hb'
    clear hb hb' HX HX' hL
    go_enter Try.func11, Try.ntmps11
    go_wp2
    go_loopw [5] (fun i wr => ∃ j : Nat, j ≤ L.length ∧ i = .int .i64 j ∧ ∃ n, wr = w.drewN n) (fun i _ => L.length - (intOf i).toNat)
    case atStart => exact ⟨0, Nat.zero_le _, rfl, 0, rfl⟩
    case round =>
      obtain ⟨j, hj, rfl, nn, rfl⟩ := hrel
      by_cases hlt : j < L.length
      · have q1 := HB.out j hlt
        have q2 := HB'.out j hlt
        obtain ⟨k, hk⟩ : ∃ k : ByteArray, Go.Proofs.encStr L[j] = .string k := ⟨_, rfl⟩
        rw [hk] at q1 q2
        clear hk
        have hlI : (j : Int) < (L.length : Int) := by omega
        go_wp2
        go_quiet (fail)
        go_wp2
        go_roundw
        case rel => exact ⟨j + 1, by omega, by go_num, _, rfl⟩
        case measure => simp [intOf]; omega
      · go_wp2
        go_ret
        exact ⟨rfl, nn, rfl⟩

end Go.Proofs.Ytddbacphlbaohaa
