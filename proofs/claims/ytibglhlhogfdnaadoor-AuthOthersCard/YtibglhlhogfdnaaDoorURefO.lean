/- Layer 25: the document's Put, whatever comes. -/
import Derived.Test.YtibglhlhogfdnaaDoorURefN
namespace Go.Proofs.YtibglhlhogfdnaaDoor
open Go.RowKit QP AP

section
variable {w : World} {r : Nat} {K : List Kv} {F : Nat → Prop} {k : ByteArray}

set_option maxRecDepth 100000 in
set_option maxHeartbeats 1000000 in
theorem rput_bad (h : RI r K w F) (hs : k.size ≤ maxLen) (hk : nameOk k = false) (v : ByteArray) : Calls Tryd.prog 13 #[.pointer (some ⟨r, 0, none⟩), .string k, .string v] w (OutR r K w F 10) := by
  have HNm : Hid (Calls Tryd.prog 28 #[.string k] w fun e w' => e = .returned (.bool false) ∧ w = w') := by
    have := rnamed_any k w hs
    rw [hk] at this
    exact this
  have HI : Hid (RI r K w F) := h
  clear h
  go_enter Tryd.func13, Tryd.ntmps13
  go_wp2_with fail
  refine HNm.out.mono ?_
  rintro e w0 ⟨rfl, rfl⟩
  clear HNm
  go_wp2_with fail
  go_ret
  exact ⟨rfl, Goes.stay HI.out⟩

set_option maxRecDepth 100000 in
set_option maxHeartbeats 1000000 in
theorem rput_long (h : RI r K w F) (hk : nameOk k = true) {v : ByteArray} (hv : v.size < 1 ∨ 64 < v.size) : Calls Tryd.prog 13 #[.pointer (some ⟨r, 0, none⟩), .string k, .string v] w (OutR r K w F 2) := by
  have HNm : Hid (Calls Tryd.prog 28 #[.string k] w fun e w' => e = .returned (.bool true) ∧ w = w') := by
    have := rnamed_any k w (by have := (nameOk_size hk).2; unfold maxLen; omega)
    rw [hk] at this
    exact this
  have HPl : Hid (Calls Tryd.prog 29 #[.pointer (some ⟨r, 0, none⟩), .string k] w (PlcR w K k)) := rplace_any h k
  have HI : Hid (RI r K w F) := h
  clear h
  by_cases h1 : v.size < 1
  · have e1 : decide ((v.size : Int) < 1) = true := decide_eq_true (by omega)
    go_enter Tryd.func13, Tryd.ntmps13
    go_wp2_with fail
    refine HNm.out.mono ?_
    rintro e w0 ⟨rfl, rfl⟩
    go_wp2_with fail
    refine HPl.out.mono ?_
    rintro e w1 ⟨i, bb, rfl, HPc, HW⟩
    have HGo : Hid (Goes (RI r K) w w1 F) := by
      obtain ⟨n, e⟩ := HW.out
      rw [e]
      exact Goes.drew (ri_res r K) HI.out n
    clear HPl HPc HW HI HNm
    go_wp2_with fail
    go_ret
    exact ⟨rfl, HGo.out⟩
  · have e1 : decide ((v.size : Int) < 1) = false := decide_eq_false (by omega)
    have e2 : decide ((64 : Int) < (v.size : Int)) = true := decide_eq_true (by omega)
    go_enter Tryd.func13, Tryd.ntmps13
    go_wp2_with fail
    refine HNm.out.mono ?_
    rintro e w0 ⟨rfl, rfl⟩
    go_wp2_with fail
    refine HPl.out.mono ?_
    rintro e w1 ⟨i, bb, rfl, HPc, HW⟩
    have HGo : Hid (Goes (RI r K) w w1 F) := by
      obtain ⟨n, e⟩ := HW.out
      rw [e]
      exact Goes.drew (ri_res r K) HI.out n
    clear HPl HPc HW HI HNm
    go_wp2_with fail
    go_ret
    exact ⟨rfl, HGo.out⟩

set_option maxRecDepth 100000 in
set_option maxHeartbeats 1000000 in
theorem rput_full (h : RI r K w F) (hk : nameOk k = true) (hg : getK k K = none) (hl : K.length = 4096) {v : ByteArray} (hv1 : 1 ≤ v.size) (hv2 : v.size ≤ 64) : Calls Tryd.prog 13 #[.pointer (some ⟨r, 0, none⟩), .string k, .string v] w (OutR r K w F 2) := by
  have HNm : Hid (Calls Tryd.prog 28 #[.string k] w fun e w' => e = .returned (.bool true) ∧ w = w') := by
    have := rnamed_any k w (by have := (nameOk_size hk).2; unfold maxLen; omega)
    rw [hk] at this
    exact this
  have HPl : Hid (Calls Tryd.prog 29 #[.pointer (some ⟨r, 0, none⟩), .string k] w (PlcR w K k)) := rplace_any h k
  have HI : Hid (RI r K w F) := h
  have HG : Hid (getK k K = none) := hg
  have e1 : decide ((v.size : Int) < 1) = false := decide_eq_false (by omega)
  have e2 : decide ((64 : Int) < (v.size : Int)) = false := decide_eq_false (by omega)
  obtain ⟨aK, cK, aV, cV, x1, x2, y1, y2, hc, hx, -⟩ := h.shape
  rw [hl] at hc x1
  have HC : Hid (∀ u, Below w.heap.size w u → u.cell? ⟨r, 0, none⟩ = some (.slice aK 4096 cK)) := fun u hu => (hc u hu).2.1
  unfold maxLen at x2
  clear h hg hc hx hl y1 y2
  go_enter Tryd.func13, Tryd.ntmps13
  go_wp2_with fail
  refine HNm.out.mono ?_
  rintro e w0 ⟨rfl, rfl⟩
  go_wp2_with fail
  refine HPl.out.mono ?_
  rintro e w1 ⟨i, bb, rfl, HPc, HW⟩
  have HB : Hid (Below w.heap.size w w1) := by
    obtain ⟨n, e⟩ := HW.out
    rw [e]
    exact below_drewN w n
  obtain rfl : bb = false := by
    cases bb with
    | false => rfl
    | true =>
      obtain ⟨v1, hv1⟩ := HPc.out.2.1 rfl
      have := plc_there HI.out.rise hv1
      rw [HG.out] at this
      cases this
  have c0 := HC.out w1 HB.out
  have HGo : Hid (Goes (RI r K) w w1 F) := by
    obtain ⟨n, e⟩ := HW.out
    rw [e]
    exact Goes.drew (ri_res r K) HI.out n
  clear HPl HPc HW HI HG HNm
  go_wp2_with fail
  go_ret
  exact ⟨rfl, HGo.out⟩

theorem rput_any (h : RI r K w F) (hs : k.size ≤ maxLen) (v : ByteArray) : Calls Tryd.prog 13 #[.pointer (some ⟨r, 0, none⟩), .string k, .string v] w (OutR r (putK K k v) w F (putE K k v)) := by
  cases hk : nameOk k with
  | false =>
    have hE : putE K k v = 10 := by unfold putE; rw [hk, if_pos rfl]
    rw [putK_no (by rw [hE]; decide), hE]
    exact rput_bad h hs hk v
  | true =>
    by_cases hv : v.size < 1 ∨ 64 < v.size
    · have hE : putE K k v = 2 := by unfold putE; rw [hk, if_neg (by simp), if_pos (by omega)]
      rw [putK_no (by rw [hE]; decide), hE]
      exact rput_long h hk hv
    · cases hg : getK k K with
      | none =>
        rcases Nat.lt_or_ge K.length 4096 with hl | hl
        · have hE : putE K k v = 0 := by unfold putE; rw [hk, if_neg (by simp), if_neg (by omega)]
          rw [putK_ok hE, hE]
          exact rput_new h hk hg hl (by omega) (by omega)
        · have hl' : K.length = 4096 := by have := h.few; omega
          have hE : putE K k v = 2 := by unfold putE; rw [hk, if_neg (by simp), if_pos (Or.inr (Or.inr ⟨hg, by omega⟩))]
          rw [putK_no (by rw [hE]; decide), hE]
          exact rput_full h hk hg hl' (by omega) (by omega)
      | some v0 =>
        have hE : putE K k v = 0 := by
          unfold putE
          rw [hk, if_neg (by simp), if_neg (fun h => by
            rcases h with h | h | h
            · omega
            · omega
            · rw [hg] at h; cases h.1)]
        rw [putK_ok hE, hE]
        exact rput_there h hk hg (by omega) (by omega)
theorem rtake_any (h : RI r K w F) (k : ByteArray) : Calls Tryd.prog 15 #[.pointer (some ⟨r, 0, none⟩), .string k] w (OutR r (delK k K) w F (takeE K k)) := by
  cases hg : getK k K with
  | none =>
    have hE : takeE K k = 5 := by unfold takeE; rw [if_pos hg]
    have hd : delK k K = K := by
      unfold delK
      exact List.filter_eq_self.2 fun q hq => by simpa using getK_none.1 hg q hq
    rw [hE, hd]
    exact rtake_none h hg
  | some v0 =>
    have hE : takeE K k = 0 := by unfold takeE; rw [if_neg (by rw [hg]; simp)]
    rw [hE]
    exact rtake_some h hg
end
end Go.Proofs.YtibglhlhogfdnaaDoor
