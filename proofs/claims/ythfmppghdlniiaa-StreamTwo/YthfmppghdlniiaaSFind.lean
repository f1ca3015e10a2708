/- find, way, take: the inner calls of a net. -/
import Derived.Test.YthfmppghdlniiaaSHeap
import Derived.OwnWalk
namespace Go.Proofs.Ythfmppghdlniiaa
open Go.RowKit

section
variable {n : Nat} {v : Value} {K : Nat} {G : List Gd}

theorem NetG.c0 {w : World} (h : NetG w n v K G) : w.cell? ⟨n, 0, none⟩ = some v := by rw [cell_of h.top]; rfl

set_option maxHeartbeats 400000 in
theorem find_conn (c d : Int) (w : World) (h : NetG w n v K G) (hc : c < 0 ∨ (K : Int) ≤ c) :
    Calls Try.prog 27 #[.pointer (some ⟨n, 0, none⟩), .int .i64 c, .int .i64 d] w fun e w' => e = .returned (.tuple #[.pointer none, .pointer none, .int .i64 5]) ∧ w' = w := by
  have c0 := h.c0
  obtain ⟨a, cap, rfl⟩ := h.shape
  have hf := h.few
  clear h
  rcases hc with hc | hc
  · go_enter Try.func27, Try.ntmps27
    go_wp2
    go_ret3
    exact ⟨rfl, rfl⟩
  · have hc0 : ¬ c < 0 := by omega
    go_enter Try.func27, Try.ntmps27
    go_wp2
    go_ret3
    exact ⟨rfl, rfl⟩

set_option maxHeartbeats 400000 in
theorem find_side (c d : Int) (w : World) (h : NetG w n v K G) (hc0 : 0 ≤ c) (hc : c < (K : Int)) (hd0 : d ≠ 0) (hd1 : d ≠ 1) :
    Calls Try.prog 27 #[.pointer (some ⟨n, 0, none⟩), .int .i64 c, .int .i64 d] w fun e w' => e = .returned (.tuple #[.pointer none, .pointer none, .int .i64 1]) ∧ w' = w := by
  have c0 := h.c0
  obtain ⟨a, cap, rfl⟩ := h.shape
  have hf := h.few
  have hz : (d != 0) = true := by rw [bne_iff_ne]; exact hd0
  have hz1 : (d != 1) = true := by rw [bne_iff_ne]; exact hd1
  clear h
  go_enter Try.func27, Try.ntmps27
  go_wp2
  go_ret3
  exact ⟨rfl, rfl⟩

set_option maxHeartbeats 400000 in
theorem find_0 {g cap : Nat} (j : Nat) (w : World) (h : NetG w n (.slice (some ⟨g, 0, none⟩) K cap) K G) (hj : j < K) :
    Calls Try.prog 27 #[.pointer (some ⟨n, 0, none⟩), .int .i64 (j : Int), .int .i64 0] w fun e w' => e = .returned (.tuple #[.pointer (some ⟨g, j * 6, none⟩), .pointer (some ⟨g, j * 6 + 3, none⟩), .int .i64 0]) ∧ ∃ m, w' = w.drewN m := by
  have c0 := h.c0
  have hf := h.few
  clear h
  have h1 : (j : Int) < (K : Int) := by omega
  go_enter Try.func27, Try.ntmps27
  go_wp2
  go_quiet (fail)
  go_wp2
  go_ret3
  exact ⟨rfl, _, rfl⟩

set_option maxHeartbeats 400000 in
theorem find_1 {g cap : Nat} (j : Nat) (w : World) (h : NetG w n (.slice (some ⟨g, 0, none⟩) K cap) K G) (hj : j < K) :
    Calls Try.prog 27 #[.pointer (some ⟨n, 0, none⟩), .int .i64 (j : Int), .int .i64 1] w fun e w' => e = .returned (.tuple #[.pointer (some ⟨g, j * 6 + 3, none⟩), .pointer (some ⟨g, j * 6, none⟩), .int .i64 0]) ∧ ∃ m, w' = w.drewN m := by
  have c0 := h.c0
  have hf := h.few
  clear h
  have h1 : (j : Int) < (K : Int) := by omega
  go_enter Try.func27, Try.ntmps27
  go_wp2
  go_quiet (fail)
  go_wp2
  go_ret3
  exact ⟨rfl, _, rfl⟩
end

theorem find_ok {n g cap K : Nat} {G : List Gd} (j t : Nat) (w : World) (h : NetG w n (.slice (some ⟨g, 0, none⟩) K cap) K G) (hj : j < K) (ht : t < 2) :
    Calls Try.prog 27 #[.pointer (some ⟨n, 0, none⟩), .int .i64 (j : Int), .int .i64 (t : Int)] w fun e w' => e = .returned (.tuple #[.pointer (some ⟨g, 3 * (2 * j + t), none⟩), .pointer (some ⟨g, 3 * (2 * j + (1 - t)), none⟩), .int .i64 0]) ∧ ∃ m, w' = w.drewN m := by
  have e1 : j * 6 = 3 * (2 * j + 0) := by omega
  have e2 : j * 6 + 3 = 3 * (2 * j + 1) := by omega
  match t, ht with
  | 0, _ =>
    have := find_0 j w h hj
    rw [e2, e1] at this
    exact this
  | 1, _ =>
    have := find_1 j w h hj
    rw [e2, e1] at this
    exact this

set_option maxHeartbeats 400000 in
theorem way_any (g o l c x : Nat) (a : Option Addr) (w : World) (c0 : w.cell? ⟨g, o, none⟩ = some (.slice a l c)) (c1 : w.cell? ⟨g, o + 1, none⟩ = some (.int .i64 (x : Int))) (hl : l ≤ 262144) (hx : x ≤ l) :
    Calls Try.prog 28 #[.pointer (some ⟨g, o, none⟩)] w fun e w' => e = .returned (.int .i64 ((l - x : Nat) : Int)) ∧ ∃ m, w' = w.drewN m := by
  have e1 : ((l - x : Nat) : Int) = (l : Int) - x := by omega
  rw [e1]
  clear e1
  go_enter Try.func28, Try.ntmps28
  go_wp2
  go_quiet (fail)
  go_wp2
  go_ret
  exact ⟨rfl, _, rfl⟩

set_option maxHeartbeats 1000000 in
theorem take_any (g o l c x k : Nat) (a : Option Addr) (w : World) (y : ByteArray) (c0 : w.cell? ⟨g, o, none⟩ = some (.slice a l c)) (c1 : w.cell? ⟨g, o + 1, none⟩ = some (.int .i64 (x : Int))) (f0 : w.frozen? ⟨g, o, none⟩ = false) (f1 : w.frozen? ⟨g, o + 1, none⟩ = false)
    (hl : l ≤ 262144) (hx : x ≤ l) (hk : k ≤ x) (hc : l ≤ c) (ht : (convert 57 9 (.slice a k c)).run Try.prog w = .ok (.string y) w) :
    Calls Try.prog 29 #[.pointer (some ⟨g, o, none⟩), .int .i64 (k : Int)] w fun e w' => e = .returned (.string y) ∧ w' = (w.setCell ⟨g, o, none⟩ (.slice (if c = k then a else a.map (·.add k)) (l - k) (c - k))).setCell ⟨g, o + 1, none⟩ (.int .i64 ((x - k : Nat) : Int)) := by
  have s1 := fun W => cut_front a l c k (by omega) W
  have s2 := fun W => cut_back a l c k (by omega) W
  obtain ⟨a2, ha2⟩ : ∃ a2, (if c = k then a else a.map (·.add k)) = a2 := ⟨_, rfl⟩
  obtain ⟨l2, hl2⟩ : ∃ l2, l - k = l2 := ⟨_, rfl⟩
  obtain ⟨c2, hc2⟩ : ∃ c2, c - k = c2 := ⟨_, rfl⟩
  rw [ha2, hl2, hc2]
  simp only [ha2, hl2, hc2] at s2
  clear ha2 hl2 hc2
  have e1 : ((x - k : Nat) : Int) = (x : Int) - k := by omega
  rw [e1]
  clear e1
  go_enter Try.func29, Try.ntmps29
  go_wp2
  go_ret
  exact ⟨rfl, rfl⟩

end Go.Proofs.Ythfmppghdlniiaa
