/- The calls of a net, at a connection and a side that there are: Write, Arrive, Read, Close, Ended, Pending. -/
import Derived.Test.YthfmppghdlniiaaSCalls
import Derived.Deep.DeepMust
namespace Go.Proofs.Ythfmppghdlniiaa
open Go.RowKit

section
variable {n : Nat} {s : List Dr} {F : Nat → Prop}

theorem NetI.to {w : World} (hI : NetI n s w F) {j t : Nat} {d : Dr} (ht : t < 2) (hd : s[2 * j + t]? = some d) :
    ∃ g o1 o2 a c, Calls Try.prog 27 #[.pointer (some ⟨n, 0, none⟩), .int .i64 (j : Int), .int .i64 (t : Int)] w (fun e w' => e = .returned (.tuple #[.pointer (some ⟨g, o1, none⟩), .pointer (some ⟨g, o2, none⟩), .int .i64 0]) ∧ DirC w' n F s (2 * j + t) d g o1 a c ∧ Below w.heap.size w w' ∧ w'.heap.size = w.heap.size) := by
  obtain ⟨g, o1, o2, a, c, h⟩ := hI.dir (j := j) (t := t) ht (Or.inl rfl) hd
  rw [if_pos rfl] at h
  exact ⟨g, o1, o2, a, c, h⟩
theorem NetI.from {w : World} (hI : NetI n s w F) {j t : Nat} {d : Dr} (ht : t < 2) (hd : s[2 * j + (1 - t)]? = some d) :
    ∃ g o1 o2 a c, Calls Try.prog 27 #[.pointer (some ⟨n, 0, none⟩), .int .i64 (j : Int), .int .i64 (t : Int)] w (fun e w' => e = .returned (.tuple #[.pointer (some ⟨g, o1, none⟩), .pointer (some ⟨g, o2, none⟩), .int .i64 0]) ∧ DirC w' n F s (2 * j + (1 - t)) d g o2 a c ∧ Below w.heap.size w w' ∧ w'.heap.size = w.heap.size) := by
  obtain ⟨g, o1, o2, a, c, h⟩ := hI.dir (j := j) (t := t) ht (Or.inr rfl) hd
  rw [if_neg (by omega)] at h
  exact ⟨g, o1, o2, a, c, h⟩

set_option maxRecDepth 100000 in
set_option maxHeartbeats 400000 in
theorem close_ok (j t : Nat) (w : World) {d : Dr} (hI : NetI n s w F) (ht : t < 2) (hd : s[2 * j + (1 - t)]? = some d) :
    Calls Try.prog 17 #[.pointer (some ⟨n, 0, none⟩), .int .i64 (j : Int), .int .i64 (t : Int)] w fun e w' => e = .returned (.int .i64 d.clE) ∧ Goes (NetI n (s.set (2 * j + (1 - t)) d.clS)) w w' F := by
  obtain ⟨g, o1, o2, a, c, hf⟩ := hI.from ht hd
  have HD : Hid (s.set (2 * j + (1 - t)) d = s) := set_self hd
  cases hsh : d.shut with
  | true =>
    have e1 : d.clE = 20 := by unfold Dr.clE; rw [hsh]; rfl
    have e2 : d.clS = d := by unfold Dr.clS; rw [← hsh]
    rw [e1, e2, HD.out]
    have HF : Hid (Calls Try.prog 27 #[.pointer (some ⟨n, 0, none⟩), .int .i64 (j : Int), .int .i64 (t : Int)] w (fun e w' => e = .returned (.tuple #[.pointer (some ⟨g, o1, none⟩), .pointer (some ⟨g, o2, none⟩), .int .i64 0]) ∧ w'.cell? ⟨g, o2 + 2, none⟩ = some (.bool true) ∧ Goes (NetI n s) w w' F)) := hf.mono (by
      rintro e w' ⟨rfl, hc, h1, h2⟩
      exact ⟨rfl, by rw [hc.c2, hsh], Goes.behind h1 h2 (Goes.stay hc.stay)⟩)
    clear hf HD hd hI e1 e2 hsh
    go_enter Try.func17, Try.ntmps17
    go_wp2_with fail
    refine HF.out.mono ?_
    rintro e w1 ⟨rfl, c2, hg⟩
    have HG : Hid (Goes (NetI n s) w w1 F) := hg
    clear hg
    go_wp2
    go_ret
    exact ⟨rfl, HG.out⟩
  | false =>
    have e1 : d.clE = 0 := by unfold Dr.clE; rw [hsh]; rfl
    rw [e1]
    have HF : Hid (Calls Try.prog 27 #[.pointer (some ⟨n, 0, none⟩), .int .i64 (j : Int), .int .i64 (t : Int)] w (fun e w' => e = .returned (.tuple #[.pointer (some ⟨g, o1, none⟩), .pointer (some ⟨g, o2, none⟩), .int .i64 0]) ∧ w'.cell? ⟨g, o2 + 2, none⟩ = some (.bool false) ∧ w'.frozen? ⟨g, o2 + 2, none⟩ = false ∧ Goes (NetI n (s.set (2 * j + (1 - t)) d.clS)) w (w'.setCell ⟨g, o2 + 2, none⟩ (.bool true)) F)) := hf.mono (by
      rintro e w' ⟨rfl, hc, h1, h2⟩
      exact ⟨rfl, by rw [hc.c2, hsh], hc.f2, Goes.behind h1 h2 hc.setShut⟩)
    clear hf HD hd hI e1 hsh
    go_enter Try.func17, Try.ntmps17
    go_wp2_with fail
    refine HF.out.mono ?_
    rintro e w1 ⟨rfl, c2, f2, hg⟩
    have HG : Hid (Goes (NetI n (s.set (2 * j + (1 - t)) d.clS)) w (w1.setCell ⟨g, o2 + 2, none⟩ (.bool true)) F) := hg
    clear hg
    go_wp2
    go_ret
    exact ⟨rfl, HG.out⟩

set_option maxRecDepth 100000 in
set_option maxHeartbeats 400000 in
theorem write_ok (j t : Nat) (x : ByteArray) (w : World) {d : Dr} (hI : NetI n s w F) (ht : t < 2) (hd : s[2 * j + (1 - t)]? = some d) :
    Calls Try.prog 14 #[.pointer (some ⟨n, 0, none⟩), .int .i64 (j : Int), .int .i64 (t : Int), .string x] w fun e w' => e = .returned (.int .i64 (d.wrE x.size)) ∧ Goes (NetI n (s.set (2 * j + (1 - t)) (d.wrS x.data.toList))) w w' F := by
  obtain ⟨g, o1, o2, a, c, hf⟩ := hI.from ht hd
  have HD : Hid (s.set (2 * j + (1 - t)) d = s) := set_self hd
  have hxl : x.data.toList.length = x.size := rfl
  cases hsh : d.shut with
  | true =>
    have e1 : d.wrE x.size = 20 := by unfold Dr.wrE; rw [hsh]; rfl
    have e2 : d.wrS x.data.toList = d := by unfold Dr.wrS; rw [hsh]; rfl
    rw [e1, e2, HD.out]
    have HF : Hid (Calls Try.prog 27 #[.pointer (some ⟨n, 0, none⟩), .int .i64 (j : Int), .int .i64 (t : Int)] w (fun e w' => e = .returned (.tuple #[.pointer (some ⟨g, o1, none⟩), .pointer (some ⟨g, o2, none⟩), .int .i64 0]) ∧ w'.cell? ⟨g, o2 + 2, none⟩ = some (.bool true) ∧ Goes (NetI n s) w w' F)) := hf.mono (by
      rintro e w' ⟨rfl, hc, h1, h2⟩
      exact ⟨rfl, by rw [hc.c2, hsh], Goes.behind h1 h2 (Goes.stay hc.stay)⟩)
    clear hf HD hd hI e1 e2 hsh
    go_enter Try.func14, Try.ntmps14
    go_wp2_with fail
    refine HF.out.mono ?_
    rintro e w1 ⟨rfl, c2, hg⟩
    have HG : Hid (Goes (NetI n s) w w1 F) := hg
    clear hg
    go_wp2
    go_ret
    exact ⟨rfl, HG.out⟩
  | false =>
    by_cases hlong : (262144 : Int) - (d.q.length : Int) < (x.size : Int)
    · have e1 : d.wrE x.size = 2 := by unfold Dr.wrE; rw [hsh, if_neg (by simp), if_pos (by omega)]
      have e2 : d.wrS x.data.toList = d := by unfold Dr.wrS; rw [hsh, if_neg (by simp), if_pos (by omega)]
      rw [e1, e2, HD.out]
      have HF : Hid (Calls Try.prog 27 #[.pointer (some ⟨n, 0, none⟩), .int .i64 (j : Int), .int .i64 (t : Int)] w (fun e w' => e = .returned (.tuple #[.pointer (some ⟨g, o1, none⟩), .pointer (some ⟨g, o2, none⟩), .int .i64 0]) ∧ w'.cell? ⟨g, o2 + 2, none⟩ = some (.bool false) ∧ w'.cell? ⟨g, o2, none⟩ = some (.slice a d.q.length c) ∧ d.q.length ≤ 262144 ∧ Goes (NetI n s) w w' F)) := hf.mono (by
        rintro e w' ⟨rfl, hc, h1, h2⟩
        exact ⟨rfl, by rw [hc.c2, hsh], hc.c0, hc.ok.len, Goes.behind h1 h2 (Goes.stay hc.stay)⟩)
      clear hf HD hd hI e1 e2 hsh hxl
      go_enter Try.func14, Try.ntmps14
      go_wp2_with fail
      refine HF.out.mono ?_
      rintro e w1 ⟨rfl, c2, c0, hl, hg⟩
      have HG : Hid (Goes (NetI n s) w w1 F) := hg
      clear hg
      go_wp2
      go_ret
      exact ⟨rfl, HG.out⟩
    · have e1 : d.wrE x.size = 0 := by unfold Dr.wrE; rw [hsh, if_neg (by simp), if_neg (by omega)]
      have e2 : d.wrS x.data.toList = ⟨d.q ++ x.data.toList, d.here, d.shut⟩ := by unfold Dr.wrS; rw [if_neg (by rw [hsh]; simp), if_neg (by omega)]
      rw [e1, e2]
      have HF : Hid (Calls Try.prog 27 #[.pointer (some ⟨n, 0, none⟩), .int .i64 (j : Int), .int .i64 (t : Int)] w (fun e w' => e = .returned (.tuple #[.pointer (some ⟨g, o1, none⟩), .pointer (some ⟨g, o2, none⟩), .int .i64 0]) ∧ w'.cell? ⟨g, o2 + 2, none⟩ = some (.bool false) ∧ w'.cell? ⟨g, o2, none⟩ = some (.slice a d.q.length c) ∧ d.q.length ≤ 262144 ∧ QAt w' (.slice a d.q.length c) d.q ∧
          (∀ w2, w'.grownBy w2 (Value.slice a d.q.length c).ownBlock → w2.cell? ⟨g, o2, none⟩ = some (.slice a d.q.length c) ∧ w2.frozen? ⟨g, o2, none⟩ = false) ∧
          (∀ (w2 : World) (a' : Option Addr) (c' : Nat), d.q.length + x.size ≤ 262144 → QAt w2 (.slice a' (d.q.length + x.size) c') (d.q ++ x.data.toList) → w'.grownBy w2 (Value.slice a d.q.length c).ownBlock →
            (∀ b, (Value.slice a' (d.q.length + x.size) c').ownBlock = some b → (Value.slice a d.q.length c).ownBlock = some b ∨ w'.heap.size ≤ b) →
            Goes (NetI n (s.set (2 * j + (1 - t)) ⟨d.q ++ x.data.toList, d.here, d.shut⟩)) w (w2.setCell ⟨g, o2, none⟩ (.slice a' (d.q.length + x.size) c')) F))) := hf.mono (by
        rintro e w' ⟨rfl, hc, h1, h2⟩
        exact ⟨rfl, by rw [hc.c2, hsh], hc.c0, hc.ok.len, hc.q, hc.keepC, fun w2 a' c' k1 k2 k3 k4 => Goes.behind h1 h2 (hc.setQueue x w2 a' c' k1 k2 k3 k4)⟩)
      clear hf HD hd hI e1 e2 hsh hxl
      go_enter Try.func14, Try.ntmps14
      go_wp2_with fail
      refine HF.out.mono ?_
      rintro e w1 ⟨rfl, c2, c0, hl, hq, hk, hg⟩
      have HK : Hid (∀ w2, w1.grownBy w2 (Value.slice a d.q.length c).ownBlock → w2.cell? ⟨g, o2, none⟩ = some (.slice a d.q.length c) ∧ w2.frozen? ⟨g, o2, none⟩ = false) := hk
      have HG : Hid (∀ (w2 : World) (a' : Option Addr) (c' : Nat), d.q.length + x.size ≤ 262144 → QAt w2 (.slice a' (d.q.length + x.size) c') (d.q ++ x.data.toList) → w1.grownBy w2 (Value.slice a d.q.length c).ownBlock →
            (∀ b, (Value.slice a' (d.q.length + x.size) c').ownBlock = some b → (Value.slice a d.q.length c).ownBlock = some b ∨ w1.heap.size ≤ b) →
            Goes (NetI n (s.set (2 * j + (1 - t)) ⟨d.q ++ x.data.toList, d.here, d.shut⟩)) w (w2.setCell ⟨g, o2, none⟩ (.slice a' (d.q.length + x.size) c')) F) := hg
      have HQ : Hid (QAt w1 (.slice a d.q.length c) d.q) := hq
      clear hg hk hq
      go_wp2_with (at_builtin; go_must (refine wpList_append_q _ rfl _ _ rfl _ d.q rfl HQ.out x rfl ?q1 ?_))
      case q1 => omega
      intro a' c' w2 r1 r2 r3
      obtain ⟨c3, f3⟩ := HK.out w2 r2
      have HG2 : Hid (Goes (NetI n (s.set (2 * j + (1 - t)) ⟨d.q ++ x.data.toList, d.here, d.shut⟩)) w (w2.setCell ⟨g, o2, none⟩ (.slice a' (d.q.length + x.size) c')) F) := HG.out w2 a' c' (by omega) r1 r2 r3
      clear r1 r2 r3 HG HK HQ HF
      go_wp2
      go_ret
      exact ⟨rfl, HG2.out⟩

end
end Go.Proofs.Ythfmppghdlniiaa
