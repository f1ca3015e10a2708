/- A net of a call's own: the calls, packed; among, works. -/
import Derived.Test.YthfmppghdlniiaaSDial
namespace Go.Proofs.Ythfmppghdlniiaa
open Go.RowKit

theorem among_num (x n : Int) (_hn : 1 ≤ n) : (x.tmod n + n) % n = x % n := by
  have h3 : x.tmod n = x % n ∨ x.tmod n = x % n - n := by
    rw [Int.tmod_eq_emod]
    split
    · left; omega
    · right; omega
  rcases h3 with e | e
  · rw [e, Int.add_emod_right, Int.emod_emod]
  · rw [e, show x % n - n + n = x % n from by omega, Int.emod_emod]

set_option maxHeartbeats 400000 in
theorem among_any (x n : Int) (w : World) (hn : 1 ≤ n) (hn2 : n ≤ 1000) :
    Calls Try.prog 13 #[.int .i64 x, .int .i64 n] w fun e w' => e = .returned (.int .i64 (x % n)) ∧ w = w' := by
  have hl : -n < x.tmod n ∧ x.tmod n < n := ⟨Int.lt_tmod_of_pos x (by omega), Int.tmod_lt_of_pos x (by omega)⟩
  have h1 := hl.1
  have h2 := hl.2
  have HN : Hid ((x.tmod n + n) % n = x % n) := among_num x n hn
  have hz : (n == 0) = false := by rw [beq_eq_false_iff_ne]; omega
  clear hl
  go_enter Try.func13, Try.ntmps13
  go_wp2
  go_ret
  exact ⟨ret_int HN.out, rfl⟩

/-- a number below 50, or below 2 -/
theorem among_nat (x : Int) (k : Nat) (hk : 1 ≤ k) (hk2 : k ≤ 1000) : ∃ m : Nat, m < k ∧ ∀ w, Calls Try.prog 13 #[.int .i64 x, .int .i64 (k : Int)] w fun e w' => e = .returned (.int .i64 (m : Int)) ∧ w = w' := by
  have p1 := Int.emod_nonneg x (show (k : Int) ≠ 0 by omega)
  have p2 := Int.emod_lt_of_pos x (show (0 : Int) < k by omega)
  obtain ⟨m, hm⟩ := Int.eq_ofNat_of_zero_le p1
  refine ⟨m, by omega, fun w => ?_⟩
  have := among_any x k w (by omega) (by omega)
  rw [hm] at this
  exact this

section
variable {n : Nat} {s s' : List Dr} {w wr : World} {L : List (Nat × Obj)}

theorem st_new (w : World) : Calls Try.prog 8 #[] w fun e w' => e = .returned (.pointer (some ⟨w.heap.size, 0, none⟩)) ∧ Stand (NetI w.heap.size []) w w' [] := by
  refine (new_any w).mono ?_
  rintro e w' ⟨rfl, h1, h2⟩
  exact ⟨rfl, Stand.start h1 (fun i hi => by rw [hi]; exact Nat.le_refl _) h2⟩

theorem st_dial (h : Stand (NetI n s) w wr L) {K : Nat} (hs : s.length = 2 * K) (hK : K < 64) :
    Calls Try.prog 12 #[.pointer (some ⟨n, 0, none⟩)] wr fun e w' => e = .returned (.tuple #[.int .i64 (K : Int), .int .i64 0]) ∧ Stand (NetI n (s ++ [Dr.fresh, Dr.fresh])) w w' L := by
  obtain ⟨F, hI, hgo⟩ := h.call (I' := NetI n (s ++ [Dr.fresh, Dr.fresh]))
  refine (dial_ok wr hI hs hK).mono ?_
  rintro e w' ⟨rfl, hg⟩
  exact ⟨rfl, hgo w' hg⟩

theorem st_write (h : Stand (NetI n s) w wr L) (j t : Nat) (x : ByteArray) {d : Dr} (ht : t < 2) (hd : s[2 * j + (1 - t)]? = some d) {E : Int} (hE : d.wrE x.size = E) (hs : s.set (2 * j + (1 - t)) (d.wrS x.data.toList) = s') :
    Calls Try.prog 14 #[.pointer (some ⟨n, 0, none⟩), .int .i64 (j : Int), .int .i64 (t : Int), .string x] wr fun e w' => e = .returned (.int .i64 E) ∧ Stand (NetI n s') w w' L := by
  obtain ⟨F, hI, hgo⟩ := h.call (I' := NetI n s')
  refine (write_ok j t x wr hI ht hd).mono ?_
  rintro e w' ⟨rfl, hg⟩
  exact ⟨by rw [hE], hgo w' (hs ▸ hg)⟩

theorem st_arrive (h : Stand (NetI n s) w wr L) (j t : Nat) (m : Int) {d : Dr} (ht : t < 2) (hd : s[2 * j + t]? = some d) (hm : 0 ≤ m) {k : Nat} (hk : d.arN m.toNat = k) (hs : s.set (2 * j + t) (d.arS m.toNat) = s') :
    Calls Try.prog 15 #[.pointer (some ⟨n, 0, none⟩), .int .i64 (j : Int), .int .i64 (t : Int), .int .i64 m] wr fun e w' => e = .returned (.tuple #[.int .i64 (k : Int), .int .i64 0]) ∧ Stand (NetI n s') w w' L := by
  obtain ⟨F, hI, hgo⟩ := h.call (I' := NetI n s')
  refine (arrive_ok j t m wr hI ht hd hm).mono ?_
  rintro e w' ⟨rfl, hg⟩
  exact ⟨by rw [hk], hgo w' (hs ▸ hg)⟩

theorem st_read (h : Stand (NetI n s) w wr L) (j t : Nat) (m : Int) {d : Dr} (ht : t < 2) (hd : s[2 * j + t]? = some d) (hm : 0 ≤ m) {y : ByteArray} (hy : (⟨(d.q.take (d.rdN m.toNat)).toArray⟩ : ByteArray) = y) (hs : s.set (2 * j + t) (d.rdS m.toNat) = s') :
    Calls Try.prog 16 #[.pointer (some ⟨n, 0, none⟩), .int .i64 (j : Int), .int .i64 (t : Int), .int .i64 m] wr fun e w' => e = .returned (.tuple #[.string y, .int .i64 0]) ∧ Stand (NetI n s') w w' L := by
  obtain ⟨F, hI, hgo⟩ := h.call (I' := NetI n s')
  refine (read_ok j t m wr hI ht hd hm).mono ?_
  rintro e w' ⟨rfl, hg⟩
  exact ⟨by rw [hy], hgo w' (hs ▸ hg)⟩

theorem st_close (h : Stand (NetI n s) w wr L) (j t : Nat) {d : Dr} (ht : t < 2) (hd : s[2 * j + (1 - t)]? = some d) {E : Int} (hE : d.clE = E) (hs : s.set (2 * j + (1 - t)) d.clS = s') :
    Calls Try.prog 17 #[.pointer (some ⟨n, 0, none⟩), .int .i64 (j : Int), .int .i64 (t : Int)] wr fun e w' => e = .returned (.int .i64 E) ∧ Stand (NetI n s') w w' L := by
  obtain ⟨F, hI, hgo⟩ := h.call (I' := NetI n s')
  refine (close_ok j t wr hI ht hd).mono ?_
  rintro e w' ⟨rfl, hg⟩
  exact ⟨by rw [hE], hgo w' (hs ▸ hg)⟩

theorem st_ended (h : Stand (NetI n s) w wr L) (j t : Nat) {d : Dr} (ht : t < 2) (hd : s[2 * j + t]? = some d) {b : Bool} (hb : d.enV = b) :
    Calls Try.prog 18 #[.pointer (some ⟨n, 0, none⟩), .int .i64 (j : Int), .int .i64 (t : Int)] wr fun e w' => e = .returned (.tuple #[.bool b, .int .i64 0]) ∧ Stand (NetI n s) w w' L := by
  obtain ⟨F, hI, hgo⟩ := h.call (I' := NetI n s)
  refine (ended_ok j t wr hI ht hd).mono ?_
  rintro e w' ⟨rfl, hg⟩
  exact ⟨by rw [hb], hgo w' hg⟩

theorem st_pending (h : Stand (NetI n s) w wr L) (j t : Nat) {d : Dr} (ht : t < 2) (hd : s[2 * j + t]? = some d) :
    Calls Try.prog 19 #[.pointer (some ⟨n, 0, none⟩), .int .i64 (j : Int), .int .i64 (t : Int)] wr fun e w' => e = .returned (.tuple #[.int .i64 ((d.q.length - d.here : Nat) : Int), .int .i64 (d.here : Int), .int .i64 0]) ∧ Stand (NetI n s) w w' L := by
  obtain ⟨F, hI, hgo⟩ := h.call (I' := NetI n s)
  refine (pending_ok j t wr hI ht hd).mono ?_
  rintro e w' ⟨rfl, hg⟩
  exact ⟨rfl, hgo w' hg⟩

/-- what is known of each direction of a net -/
theorem stand_ok (h : Stand (NetI n s) w wr L) {d : Dr} (hd : d ∈ s) : d.Ok := by
  obtain ⟨F, ⟨v, K, G, hG, rfl, hF⟩, -⟩ := h
  obtain ⟨g, hg, rfl⟩ := List.mem_map.1 hd
  exact hG.ok g hg

end

set_option maxRecDepth 100000 in
set_option maxHeartbeats 400000 in
theorem works_any (w : World) : Calls Try.prog 11 #[] w fun e w' => e = .returned (.bool true) ∧ Below w.heap.size w w' := by
  go_enter Try.func11, Try.ntmps11
  go_wp2_with fail
  refine (st_new _).mono ?_
  rintro e w1 ⟨rfl, h1⟩
  go_wp2_with fail
  refine (st_dial h1 (K := 0) rfl (by omega)).mono ?_
  rintro e w2 ⟨rfl, h2⟩
  go_wp2_with fail
  refine (st_write h2 0 0 ⟨#[97, 98, 99]⟩ (by omega) rfl (E := 0) rfl (s' := [Dr.fresh, ⟨[97, 98, 99], 0, false⟩]) rfl).mono ?_
  rintro e w3 ⟨rfl, h3⟩
  go_wp2_with fail
  refine (st_arrive h3 0 1 2 (by omega) rfl (by omega) (k := 2) rfl (s' := [Dr.fresh, ⟨[97, 98, 99], 2, false⟩]) rfl).mono ?_
  rintro e w4 ⟨rfl, h4⟩
  go_wp2_with fail
  refine (st_read h4 0 1 1 (by omega) rfl (by omega) (y := ⟨#[97]⟩) rfl (s' := [Dr.fresh, ⟨[98, 99], 1, false⟩]) rfl).mono ?_
  rintro e w5 ⟨rfl, h5⟩
  go_wp2_with fail
  go_ret
  exact ⟨rfl, h5.base⟩

end Go.Proofs.Ythfmppghdlniiaa
