/- Arrive, Read, Ended, Pending at a connection and a side that there are. -/
import Derived.Test.YthfmppghdlniiaaSMeth
namespace Go.Proofs.Ythfmppghdlniiaa
open Go.RowKit

section
variable {n : Nat} {s : List Dr} {F : Nat → Prop}

set_option maxRecDepth 100000 in
set_option maxHeartbeats 400000 in
theorem ended_ok (j t : Nat) (w : World) {d : Dr} (hI : NetI n s w F) (ht : t < 2) (hd : s[2 * j + t]? = some d) :
    Calls Try.prog 18 #[.pointer (some ⟨n, 0, none⟩), .int .i64 (j : Int), .int .i64 (t : Int)] w fun e w' => e = .returned (.tuple #[.bool d.enV, .int .i64 0]) ∧ Goes (NetI n s) w w' F := by
  obtain ⟨g, o1, o2, a, c, hf⟩ := hI.to ht hd
  have HF : Hid (Calls Try.prog 27 #[.pointer (some ⟨n, 0, none⟩), .int .i64 (j : Int), .int .i64 (t : Int)] w (fun e w' => e = .returned (.tuple #[.pointer (some ⟨g, o1, none⟩), .pointer (some ⟨g, o2, none⟩), .int .i64 0]) ∧ w'.cell? ⟨g, o1 + 2, none⟩ = some (.bool d.shut) ∧ w'.cell? ⟨g, o1, none⟩ = some (.slice a d.q.length c) ∧ Below w.heap.size w w' ∧ w'.heap.size = w.heap.size ∧ NetI n s w' F)) := hf.mono (by
      rintro e w' ⟨rfl, hc, h1, h2⟩
      exact ⟨rfl, hc.c2, hc.c0, h1, h2, hc.stay⟩)
  clear hf hd hI
  cases hsh : d.shut with
  | false =>
    have e1 : d.enV = false := by unfold Dr.enV; rw [hsh]; rfl
    rw [e1]
    rw [hsh] at HF
    clear e1 hsh
    go_enter Try.func18, Try.ntmps18
    go_wp2_with fail
    refine HF.out.mono ?_
    rintro e w1 ⟨rfl, c2, c0, h1, h2, h3⟩
    have HE : Hid (Goes (NetI n s) w w1 F) := Goes.behind h1 h2 (Goes.stay h3)
    clear h1 h2 h3
    go_wp2
    go_ret2
    exact ⟨rfl, HE.out⟩
  | true =>
    have e1 : d.enV = decide (d.q.length = 0) := by unfold Dr.enV; rw [hsh]; rfl
    rw [e1]
    rw [hsh] at HF
    clear e1 hsh
    have e2 : decide (d.q.length = 0) = ((d.q.length : Int) == 0) := by
      rw [Bool.eq_iff_iff]
      simp
    rw [e2]
    clear e2
    go_enter Try.func18, Try.ntmps18
    go_wp2_with fail
    refine HF.out.mono ?_
    rintro e w1 ⟨rfl, c2, c0, h1, h2, h3⟩
    have HE : Hid (Goes (NetI n s) w w1 F) := Goes.behind h1 h2 (Goes.stay h3)
    clear h1 h2 h3
    go_wp2
    go_ret2
    exact ⟨rfl, HE.out⟩

set_option maxRecDepth 100000 in
set_option maxHeartbeats 400000 in
theorem pending_ok (j t : Nat) (w : World) {d : Dr} (hI : NetI n s w F) (ht : t < 2) (hd : s[2 * j + t]? = some d) :
    Calls Try.prog 19 #[.pointer (some ⟨n, 0, none⟩), .int .i64 (j : Int), .int .i64 (t : Int)] w fun e w' => e = .returned (.tuple #[.int .i64 ((d.q.length - d.here : Nat) : Int), .int .i64 (d.here : Int), .int .i64 0]) ∧ Goes (NetI n s) w w' F := by
  obtain ⟨g, o1, o2, a, c, hf⟩ := hI.to ht hd
  have HF : Hid (Calls Try.prog 27 #[.pointer (some ⟨n, 0, none⟩), .int .i64 (j : Int), .int .i64 (t : Int)] w (fun e w' => e = .returned (.tuple #[.pointer (some ⟨g, o1, none⟩), .pointer (some ⟨g, o2, none⟩), .int .i64 0]) ∧ w'.cell? ⟨g, o1 + 1, none⟩ = some (.int .i64 (d.here : Int)) ∧ w'.cell? ⟨g, o1, none⟩ = some (.slice a d.q.length c) ∧ d.here ≤ d.q.length ∧ d.q.length ≤ 262144 ∧ Below w.heap.size w w' ∧ w'.heap.size = w.heap.size ∧ NetI n s w' F)) := hf.mono (by
      rintro e w' ⟨rfl, hc, h1, h2⟩
      exact ⟨rfl, hc.c1, hc.c0, hc.ok.here, hc.ok.len, h1, h2, hc.stay⟩)
  clear hf hd hI
  go_enter Try.func19, Try.ntmps19
  go_wp2_with fail
  refine HF.out.mono ?_
  rintro e w1 ⟨rfl, c1, c0, hh, hl, h1, h2, h3⟩
  have HE : Hid (Goes (NetI n s) w w1 F) := Goes.behind h1 h2 (Goes.stay h3)
  have HN : Hid (∀ m, Goes (NetI n s) w (w1.drewN m) F) := fun m => HE.out.thenStay (netI_res n s) (below_drewN w1 m)
  clear h1 h2 h3
  go_wp2_with fail
  go_quiet ((go_at_call 28; exact Calls.quiet_of (way_any _ _ _ _ _ _ _ c0 c1 hl hh)))
  go_wp2
  go_ret3
  exact ⟨rfl, HN.out _⟩

set_option maxRecDepth 100000 in
set_option maxHeartbeats 400000 in
theorem arrive_ok (j t : Nat) (m : Int) (w : World) {d : Dr} (hI : NetI n s w F) (ht : t < 2) (hd : s[2 * j + t]? = some d) (hm : 0 ≤ m) :
    Calls Try.prog 15 #[.pointer (some ⟨n, 0, none⟩), .int .i64 (j : Int), .int .i64 (t : Int), .int .i64 m] w fun e w' => e = .returned (.tuple #[.int .i64 (d.arN m.toNat : Int), .int .i64 0]) ∧ Goes (NetI n (s.set (2 * j + t) (d.arS m.toNat))) w w' F := by
  obtain ⟨g, o1, o2, a, c, hf⟩ := hI.to ht hd
  obtain ⟨m, rfl⟩ := Int.eq_ofNat_of_zero_le hm
  obtain ⟨k, hk⟩ : ∃ k, d.arN m = k := ⟨_, rfl⟩
  have hk1 : k ≤ m := by rw [← hk]; exact Nat.min_le_left _ _
  have hk2 : k ≤ d.q.length - d.here := by rw [← hk]; exact Nat.min_le_right _ _
  have HM : Hid (k = min m (d.q.length - d.here)) := hk.symm
  rw [Int.toNat_natCast, hk]
  have HF : Hid (Calls Try.prog 27 #[.pointer (some ⟨n, 0, none⟩), .int .i64 (j : Int), .int .i64 (t : Int)] w (fun e w' => e = .returned (.tuple #[.pointer (some ⟨g, o1, none⟩), .pointer (some ⟨g, o2, none⟩), .int .i64 0]) ∧ w'.cell? ⟨g, o1 + 1, none⟩ = some (.int .i64 (d.here : Int)) ∧ w'.cell? ⟨g, o1, none⟩ = some (.slice a d.q.length c) ∧ w'.frozen? ⟨g, o1 + 1, none⟩ = false ∧ d.here ≤ d.q.length ∧ d.q.length ≤ 262144 ∧
      ∀ m', Goes (NetI n (s.set (2 * j + t) (d.arS m))) w ((w'.drewN m').setCell ⟨g, o1 + 1, none⟩ (.int .i64 ((d.here : Int) + (k : Int)))) F)) := hf.mono (by
      rintro e w' ⟨rfl, hc, h1, h2⟩
      refine ⟨rfl, hc.c1, hc.c0, hc.f1, hc.ok.here, hc.ok.len, fun m' => ?_⟩
      have hg := hc.setHere (d.here + k) (by have := hc.ok.here; omega)
      rw [show ((d.here + k : Nat) : Int) = (d.here : Int) + (k : Int) from by omega] at hg
      have e1 : d.arS m = ⟨d.q, d.here + k, d.shut⟩ := by unfold Dr.arS; rw [hk]
      rw [e1]
      obtain ⟨F', g1, g2, g3⟩ := Goes.behind h1 h2 hg
      exact ⟨F', (netI_res n _).kept (S := fun _ => False) g1 ⟨rfl, rfl, rfl, Nat.le_refl _, fun _ _ _ => rfl⟩ (fun _ _ h => h), ⟨g2.os, g2.tape, g2.output, g2.size, g2.block⟩, g3⟩)
  clear hf hd hI hk
  by_cases hle : m ≤ d.q.length - d.here
  · obtain rfl : k = m := by have := HM.out; omega
    have hle' : (k : Int) ≤ ((d.q.length - d.here : Nat) : Int) := by omega
    go_enter Try.func15, Try.ntmps15
    go_wp2_with fail
    refine HF.out.mono ?_
    rintro e w1 ⟨rfl, c1, c0, f1, hh, hl, hg⟩
    have HG : Hid (∀ m', Goes (NetI n (s.set (2 * j + t) (d.arS k))) w ((w1.drewN m').setCell ⟨g, o1 + 1, none⟩ (.int .i64 ((d.here : Int) + (k : Int)))) F) := hg
    clear hg
    go_wp2_with fail
    refine (way_any _ _ _ _ _ _ _ c0 c1 hl hh).mono ?_
    rintro e w2 ⟨rfl, m', rfl⟩
    go_wp2
    go_ret2
    exact ⟨rfl, HG.out m'⟩
  · have HK : Hid (d.q.length - d.here = k) := by have := HM.out; show _ = _; omega
    have hle' : ¬ (m : Int) ≤ (k : Int) := by omega
    clear hle HM
    go_enter Try.func15, Try.ntmps15
    go_wp2_with fail
    refine HF.out.mono ?_
    rintro e w1 ⟨rfl, c1, c0, f1, hh, hl, hg⟩
    have HG : Hid (∀ m', Goes (NetI n (s.set (2 * j + t) (d.arS m))) w ((w1.drewN m').setCell ⟨g, o1 + 1, none⟩ (.int .i64 ((d.here : Int) + (k : Int)))) F) := hg
    clear hg
    go_wp2_with fail
    refine (way_any _ _ _ _ _ _ _ c0 c1 hl hh).mono ?_
    rintro e w2 ⟨he, m', rfl⟩
    rw [HK.out] at he
    subst he
    go_wp2
    go_ret2
    exact ⟨rfl, HG.out m'⟩

set_option maxRecDepth 100000 in
set_option maxHeartbeats 400000 in
theorem read_ok (j t : Nat) (m : Int) (w : World) {d : Dr} (hI : NetI n s w F) (ht : t < 2) (hd : s[2 * j + t]? = some d) (hm : 0 ≤ m) :
    Calls Try.prog 16 #[.pointer (some ⟨n, 0, none⟩), .int .i64 (j : Int), .int .i64 (t : Int), .int .i64 m] w fun e w' => e = .returned (.tuple #[.string ⟨(d.q.take (d.rdN m.toNat)).toArray⟩, .int .i64 0]) ∧ Goes (NetI n (s.set (2 * j + t) (d.rdS m.toNat))) w w' F := by
  obtain ⟨g, o1, o2, a, c, hf⟩ := hI.to ht hd
  obtain ⟨m, rfl⟩ := Int.eq_ofNat_of_zero_le hm
  obtain ⟨k, hk⟩ : ∃ k, d.rdN m = k := ⟨_, rfl⟩
  have hk1 : k ≤ m := by rw [← hk]; exact Nat.min_le_left _ _
  have hk2 : k ≤ d.here := by rw [← hk]; exact Nat.min_le_right _ _
  have HM : Hid (k = min m d.here) := hk.symm
  rw [Int.toNat_natCast, hk]
  obtain ⟨y, hy⟩ : ∃ y : ByteArray, (⟨(d.q.take k).toArray⟩ : ByteArray) = y := ⟨_, rfl⟩
  have HF : Hid (Calls Try.prog 27 #[.pointer (some ⟨n, 0, none⟩), .int .i64 (j : Int), .int .i64 (t : Int)] w (fun e w' => e = .returned (.tuple #[.pointer (some ⟨g, o1, none⟩), .pointer (some ⟨g, o2, none⟩), .int .i64 0]) ∧ w'.cell? ⟨g, o1 + 1, none⟩ = some (.int .i64 (d.here : Int)) ∧
      Calls Try.prog 29 #[.pointer (some ⟨g, o1, none⟩), .int .i64 (k : Int)] w' (fun e w2 => e = .returned (.string y) ∧ Goes (NetI n (s.set (2 * j + t) (d.rdS m))) w w2 F))) := hf.mono (by
      rintro e w' ⟨rfl, hc, h1, h2⟩
      have hh := hc.ok.here
      refine ⟨rfl, hc.c1, (take_any g o1 d.q.length c d.here k a w' y hc.c0 hc.c1 hc.f0 hc.f1 hc.ok.len hc.ok.here hk2 hc.cap (by rw [← hy]; exact hc.q.text k (by omega))).mono ?_⟩
      rintro e w2 ⟨rfl, rfl⟩
      have e1 : d.rdS m = ⟨d.q.drop k, d.here - k, d.shut⟩ := by unfold Dr.rdS; rw [hk]
      rw [e1]
      exact ⟨rfl, Goes.behind h1 h2 (hc.setTake k hk2)⟩)
  rw [hy]
  clear hf hd hI hk hy
  by_cases hle : m ≤ d.here
  · obtain rfl : k = m := by have := HM.out; omega
    have hle' : (k : Int) ≤ (d.here : Int) := by omega
    clear HM
    go_enter Try.func16, Try.ntmps16
    go_wp2_with fail
    refine HF.out.mono ?_
    rintro e w1 ⟨rfl, c1, ht⟩
    have HT : Hid (Calls Try.prog 29 #[.pointer (some ⟨g, o1, none⟩), .int .i64 (k : Int)] w1 (fun e w2 => e = .returned (.string y) ∧ Goes (NetI n (s.set (2 * j + t) (d.rdS k))) w w2 F)) := ht
    clear ht
    go_wp2_with fail
    refine HT.out.mono ?_
    rintro e w2 ⟨rfl, hg⟩
    have HG : Hid (Goes (NetI n (s.set (2 * j + t) (d.rdS k))) w w2 F) := hg
    clear hg
    go_wp2
    go_ret2
    exact ⟨rfl, HG.out⟩
  · obtain rfl : k = d.here := by have := HM.out; omega
    have hle' : ¬ (m : Int) ≤ (d.here : Int) := by omega
    clear HM
    go_enter Try.func16, Try.ntmps16
    go_wp2_with fail
    refine HF.out.mono ?_
    rintro e w1 ⟨rfl, c1, ht⟩
    have HT : Hid (Calls Try.prog 29 #[.pointer (some ⟨g, o1, none⟩), .int .i64 (d.here : Int)] w1 (fun e w2 => e = .returned (.string y) ∧ Goes (NetI n (s.set (2 * j + t) (d.rdS m))) w w2 F)) := ht
    clear ht
    go_wp2_with fail
    refine HT.out.mono ?_
    rintro e w2 ⟨rfl, hg⟩
    have HG : Hid (Goes (NetI n (s.set (2 * j + t) (d.rdS m))) w w2 F) := hg
    clear hg
    go_wp2
    go_ret2
    exact ⟨rfl, HG.out⟩

end
end Go.Proofs.Ythfmppghdlniiaa
