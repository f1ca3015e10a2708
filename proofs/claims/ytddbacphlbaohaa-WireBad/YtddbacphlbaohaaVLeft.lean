/- The law WireLeft: its walk, for readers that keep their contracts. -/
import Derived.Test.YtddbacphlbaohaaVWorks
import Derived.Test.YtddbacphlbaohaaOpen
namespace Go.Proofs.Ytddbacphlbaohaa

def strOne (s : ByteArray) : List Value := [.string s]

theorem given_take {Bs : List (List UInt8)} {k : Nat} (h : k < Bs.length) : given (Bs.take (k + 1)) = given (Bs.take k) + (4 + Bs[k].length) := by
  rw [List.take_succ_eq_append_getElem h, given_append]
  simp [given]

theorem given_take_le (Bs : List (List UInt8)) (k : Nat) : given (Bs.take k) ≤ given Bs := by
  have h := given_append (Bs.take k) (Bs.drop k)
  rw [List.take_append_drop] at h
  omega

theorem given_len : ∀ Bs : List (List UInt8), 4 * Bs.length ≤ given Bs
  | [] => Nat.le_refl _
  | s :: Bs => by
    have := given_len Bs
    rw [given_cons, List.length_cons]
    omega

/-- a slice that came in, as the walks take it -/
theorem slice_open {w : World} {v0 : Value} {L : List ByteArray} (hL : SliceAt w v0 1 strOne L) : ∃ a c, v0 = .slice a L.length c ∧ (L ≠ [] → ∃ b off, a = some ⟨b, off, none⟩ ∧ b < w.heap.size ∧ ∀ i, (h : i < L.length) → w.cell? ⟨b, off + i, none⟩ = some (.string L[i])) := by
  obtain ⟨a, c, rfl, -, -, hx⟩ := hL
  refine ⟨a, c, rfl, fun hne => ?_⟩
  obtain ⟨b, off, h1, h2, h3⟩ := hx hne
  refine ⟨b, off, h1, h2, fun i hi => ?_⟩
  have := h3 i hi 0 (.string L[i]) rfl
  simpa using this

theorem feed_long {k b : List UInt8} (h : 262144 < b.length) : feedE ⟨k, false⟩ b = 2 ∧ feedB ⟨k, false⟩ b = [] ∧ feedR ⟨k, false⟩ b = ⟨k, false⟩ := by
  simp [feedE, feedB, feedR, h]

theorem feed_bad {k b : List UInt8} (h : ¬ 262144 < b.length) (hb : (cut (k ++ b)).bad = true) : feedE ⟨k, false⟩ b = 70 ∧ feedB ⟨k, false⟩ b = (cut (k ++ b)).bodies ∧ feedR ⟨k, false⟩ b = ⟨[], true⟩ := by
  have hr := (cut_left _ (k ++ b) (Nat.le_refl _)).2.1 hb
  simp [feedE, feedB, feedR, h, hb, hr]

theorem feed_good {k b : List UInt8} (h : ¬ 262144 < b.length) (hb : (cut (k ++ b)).bad = false) : feedE ⟨k, false⟩ b = 0 ∧ feedB ⟨k, false⟩ b = (cut (k ++ b)).bodies ∧ feedR ⟨k, false⟩ b = ⟨(cut (k ++ b)).rest, false⟩ := by
  simp [feedE, feedB, feedR, h, hb]

namespace LeftL
open Go.RowKit

set_option maxRecDepth 100000 in
set_option maxHeartbeats 1000000 in
theorem walk (K : Kit) (v0 : Value) (L : List ByteArray) (w : World) (hL : SliceAt w v0 1 strOne L) :
    Calls Try.prog 6 #[v0] w fun e w' => e = .returned (.bool true) ∧ Below w.heap.size w w' := by
  obtain ⟨a, c, rfl, hx⟩ := slice_open hL
  have HX : Hid (L ≠ [] → ∃ b off, a = some ⟨b, off, none⟩ ∧ b < w.heap.size ∧ ∀ i, (h : i < L.length) → w.cell? ⟨b, off + i, none⟩ = some (.string L[i])) := hx
  obtain ⟨m, hm⟩ : ∃ m, L.length = m := ⟨_, rfl⟩
  have HM : Hid (L.length = m) := hm
  rw [hm]
  have HN : Hid (Calls Try.prog 7 #[] w fun e w' => ∃ g F, e = .returned (.pointer (some ⟨g, 0, none⟩)) ∧ On K g ⟨[], false⟩ w w' F ∧ (∀ i, F i → w.heap.size ≤ i) ∧ Below w.heap.size w w') := kit_new K w w (Below.refl _ _)
  clear hm hx hL
  go_enter Try.func6, Try.ntmps6
  go_wp2_with (go_at_call 7; go_must (refine HN.out.mono ?_))
  rintro e w1 ⟨g, F, rfl, hO, -, -⟩
  have HO : Hid (On K g ⟨[], false⟩ w w1 F) := hO
  clear hO
  go_wp2_with (go_at_call 16; go_must (refine (works7_any K _).mono ?_; rintro e w2 ⟨rfl, hw2⟩))
  go_loopw [4, 5, 6] (fun fd gv i wr => ∃ (j f q : Nat) (r : Rd) (F : Nat → Prop), j ≤ 60 ∧ i = .int .i64 j ∧ fd = .int .i64 f ∧ gv = .int .i64 q ∧ r.ill = false ∧ f = q + r.kept.length ∧ Hid (f ≤ j * 262144) ∧ On K g r w wr F) (fun _ _ i _ => 60 - (intOf i).toNat)
  case atStart => exact ⟨0, 0, 0, ⟨[], false⟩, F, by omega, rfl, rfl, rfl, rfl, rfl, (Nat.zero_le _ : 0 ≤ 0 * 262144), HO.out.stays hw2⟩
  case round =>
    obtain ⟨j, f, q, ⟨k, ill⟩, F, hj, rfl, rfl, rfl, hil, hf, HFB, hO⟩ := hrel
    have hf2 : f ≤ 15728640 := Nat.le_trans HFB.out (Nat.mul_le_mul_right 262144 hj)
    cases hil
    have HO : Hid (On K g ⟨k, false⟩ w wr F) := hO
    have hk : k.length < 65540 := hO.few
    have HF : Hid (f = q + k.length) := hf
    have hqf : q ≤ f := by omega
    clear hO hf
    by_cases hlt : j < m ∧ j < 60
    · obtain ⟨hlt, h60⟩ := hlt
      have hlL : j < L.length := by rw [HM.out]; exact hlt
      obtain ⟨b, off, rfl, hbl, hcells⟩ := HX.out (fun e => by rw [e] at hlL; simp at hlL)
      obtain ⟨s, hs⟩ : ∃ s, L[j] = s := ⟨_, rfl⟩
      have HQ : Hid (∀ u : World, Below w.heap.size w u → u.cell? ⟨b, off + j, none⟩ = some (.string s)) := fun u hu => by
        rw [hu.cell (p := ⟨b, off + j, none⟩) hbl, hcells j hlL, hs]
      have qc := HQ.out wr HO.out.below
      have hlI : (j : Int) < (m : Int) := by omega
      have h60I : (j : Int) < 60 := by omega
      clear hcells hs hlL hbl
      by_cases hl : 262144 < s.size
      · have HD : Hid (Calls Try.prog 9 #[.pointer (some ⟨g, 0, none⟩), .string s] wr fun e w' => ∃ v F', e = .returned (.tuple #[v, .int .i64 2]) ∧ On K g ⟨k, false⟩ w w' F') := (HO.out.feed s).mono fun e w' ⟨v, F', h1, _, h3, _⟩ => by
          rw [(feed_long (k := k) hl).1] at h1
          rw [(feed_long (k := k) hl).2.2] at h3
          exact ⟨v, F', h1, h3⟩
        go_wp2_with (go_at_call 9; go_must (refine HD.out.mono ?_; rintro e w3 ⟨v3, F3, rfl, hO3⟩))
        go_roundw
        case rel => exact ⟨j + 1, f, q, ⟨k, false⟩, F3, by omega, by go_num, rfl, rfl, rfl, HF.out, (Nat.le_trans HFB.out (Nat.mul_le_mul_right _ (Nat.le_succ j)) : f ≤ (j + 1) * 262144), hO3⟩
        case measure => simp [intOf]; omega
      · have hl' : ¬ (262144 < s.data.toList.length) := hl
        cases hbad : (cut (k ++ s.data.toList)).bad with
        | true =>
          have HD : Hid (Calls Try.prog 9 #[.pointer (some ⟨g, 0, none⟩), .string s] wr fun e w' => ∃ v F', e = .returned (.tuple #[v, .int .i64 70]) ∧ On K g ⟨[], true⟩ w w' F') := (HO.out.feed s).mono fun e w' ⟨v, F', h1, _, h3, _⟩ => by
            rw [(feed_bad hl' hbad).1] at h1
            rw [(feed_bad hl' hbad).2.2] at h3
            exact ⟨v, F', h1, h3⟩
          clear hbad hl'
          go_wp2_with (go_at_call 9; go_must (refine HD.out.mono ?_))
          rintro e w3 ⟨v3, F3, rfl, hO3⟩
          have HB3 : Hid (Calls Try.prog 13 #[.pointer (some ⟨g, 0, none⟩)] w3 fun e w' => e = .returned (.bool true) ∧ ∃ n, w' = w3.drewN n) := hO3.bad
          have HL3 : Hid (∀ n, Calls Try.prog 12 #[.pointer (some ⟨g, 0, none⟩)] (w3.drewN n) fun e w' => e = .returned (.int .i64 0) ∧ ∃ k, w' = (w3.drewN n).drewN k) := fun n => (hO3.draws n).left
          have HB : Hid (Below w.heap.size w w3) := hO3.below
          clear hO3
          go_wp2_with (go_at_call 13; go_must (refine HB3.out.mono ?_))
          rintro e w4 ⟨rfl, n4, rfl⟩
          go_wp2_with (go_at_call 12; go_must (refine (HL3.out n4).mono ?_))
          rintro e w5 ⟨rfl, n5, rfl⟩
          go_wp2
          go_ret
          exact ⟨rfl, below_draws HB.out _⟩
        | false =>
          obtain ⟨Bs, hBs⟩ : ∃ Bs, (cut (k ++ s.data.toList)).bodies = Bs := ⟨_, rfl⟩
          obtain ⟨R, hR⟩ : ∃ R, (cut (k ++ s.data.toList)).rest = R := ⟨_, rfl⟩
          have hcl := (cut_left _ (k ++ s.data.toList) (Nat.le_refl _)).1 hbad
          rw [hBs, hR, List.length_append] at hcl
          have hsl : s.data.toList.length = s.size := rfl
          obtain ⟨hcl1, hcl2⟩ := hcl
          have HD : Hid (Calls Try.prog 9 #[.pointer (some ⟨g, 0, none⟩), .string s] wr fun e w' => ∃ v F', e = .returned (.tuple #[v, .int .i64 0]) ∧ RowS w' wr.heap.size v Bs ∧ On K g ⟨R, false⟩ w w' F') := (HO.out.feed s).mono fun e w' ⟨v, F', h1, h2, h3, _⟩ => by
            rw [(feed_good hl' hbad).1] at h1
            rw [(feed_good hl' hbad).2.1, hBs] at h2
            rw [(feed_good hl' hbad).2.2, hR] at h3
            exact ⟨v, F', h1, h2, h3⟩
          clear hbad hl' hBs hR
          go_wp2_with (go_at_call 9; go_must (refine HD.out.mono ?_))
          rintro e w3 ⟨v3, F3, rfl, hv3, hO3⟩
          obtain ⟨a3, c3, rfl, -, -, hx3⟩ := hv3.strs
          have HX3 : Hid (Bs ≠ [] → ∃ b off, a3 = some ⟨b, off, none⟩ ∧ b < w3.heap.size ∧ ∀ i, (h : i < Bs.length) → w3.cell? ⟨b, off + i, none⟩ = some (Go.Proofs.encStr Bs[i])) := hx3
          have HO3 : Hid (On K g ⟨R, false⟩ w w3 F3) := hO3
          have qc3 := HQ.out w3 hO3.below
          obtain ⟨nb, hnb⟩ : ∃ nb, Bs.length = nb := ⟨_, rfl⟩
          have HNB : Hid (Bs.length = nb) := hnb
          have HCL : Hid (k.length + s.size = given Bs + R.length) := (by omega : _ = _)
          rw [hnb]
          have hR2 : R.length < 65540 := hcl2
          obtain ⟨f2, hf2'⟩ : ∃ f2, f + s.size = f2 := ⟨_, rfl⟩
          have x1 : IntKind.i64.wrap ((f : Int) + (s.size : Int)) = (f2 : Int) := by rw [wrap_small _ (by omega) (by omega)]; omega
          have HF3 : Hid (f2 ≤ (j + 1) * 262144) := (by rw [← hf2', Nat.add_mul, Nat.one_mul]; exact Nat.add_le_add HFB.out (Nat.le_of_not_lt hl) : f2 ≤ (j + 1) * 262144)
          have hf4 : f2 ≤ 16000000 := by omega
          have HF2 : Hid (f2 = q + given Bs + R.length) := (by have := HF.out; omega : _ = _)
          have hgl : given Bs ≤ 20000000 := by omega
          have hnb2 : nb ≤ 20000000 := by have := given_len Bs; omega
          clear hv3 hx3 hO3 hcl1 hcl2 hnb hf2' hsl
          go_wp2_with fail
          go_loopw [5, 61] (fun gv i wq => ∃ x : Nat, x ≤ nb ∧ i = .int .i64 x ∧ gv = .int .i64 ((q + given (Bs.take x) : Nat) : Int) ∧ wq = w3) (fun _ i _ => nb - (intOf i).toNat)
          case atStart => exact ⟨0, Nat.zero_le _, rfl, rfl, rfl⟩
          case round =>
            obtain ⟨x, hx, rfl, rfl, hwq⟩ := hrel
            have hwq' := hwq.symm
            clear hwq
            subst hwq'
            obtain ⟨gx, hgx⟩ : ∃ gx, q + given (Bs.take x) = gx := ⟨_, rfl⟩
            rw [hgx]
            have hgx2 : gx ≤ 40000000 := by have := given_take_le Bs x; omega
            by_cases hxl : x < nb
            · have hxB : x < Bs.length := by rw [HNB.out]; exact hxl
              obtain ⟨b3, off3, rfl, -, hc3⟩ := HX3.out (fun e => by rw [e] at hxB; simp at hxB)
              obtain ⟨t, ht⟩ : ∃ t : ByteArray, Go.Proofs.encStr Bs[x] = .string t := ⟨_, rfl⟩
              have q3 : w3.cell? ⟨b3, off3 + x, none⟩ = some (.string t) := (hc3 x hxB).trans (by rw [ht])
              have hts : t.size = Bs[x].length := by
                have e : Go.Proofs.encStr Bs[x] = .string (bytesOf Bs[x]) := rfl
                rw [e] at ht
                injection ht with ht
                rw [← ht]
                rfl
              have hxI : (x : Int) < (nb : Int) := by omega
              have HGX : Hid (q + given (Bs.take (x + 1)) = gx + (4 + t.size)) := (by rw [given_take hxB, ← hgx, hts]; omega : _ = _)
              have htl : gx + (4 + t.size) ≤ 40000000 := by have := given_take_le Bs (x + 1); have h2 := HGX.out; omega
              clear hc3 ht hts hgx hxB
              go_wp2_with fail
              go_roundw
              case rel => exact ⟨x + 1, by omega, by go_num, by rw [HGX.out]; go_num, trivial⟩
              case measure => simp [intOf]; omega
            · have hxe : x = nb := by omega
              subst hxe
              have HGE : Hid (q + given Bs = gx) := (by
                rw [← hgx, List.take_of_length_le (by rw [HNB.out]; exact Nat.le_refl _)] : _ = _)
              have x2 : IntKind.i64.wrap ((f2 : Int) - (gx : Int)) = (R.length : Int) := by
                have h1 := HF2.out
                have h2 := HGE.out
                rw [wrap_small _ (by omega) (by omega)]
                omega
              have hR3 : ¬ ((65540 : Int) ≤ (R.length : Int)) := by omega
              obtain ⟨rl, hrl⟩ : ∃ rl, R.length = rl := ⟨_, rfl⟩
              have HL0 : Hid (Calls Try.prog 12 #[.pointer (some ⟨g, 0, none⟩)] w3 fun e w' => e = .returned (.int .i64 (rl : Int)) ∧ ∃ k, w' = w3.drewN k) := hrl ▸ HO3.out.left
              have HLf : Hid (∀ n, Calls Try.prog 12 #[.pointer (some ⟨g, 0, none⟩)] (w3.drewN n) fun e w' => e = .returned (.int .i64 (rl : Int)) ∧ ∃ k, w' = (w3.drewN n).drewN k) := fun n => hrl ▸ (HO3.out.draws n).left
              have HBd : Hid (∀ n, Calls Try.prog 13 #[.pointer (some ⟨g, 0, none⟩)] (w3.drewN n) fun e w' => e = .returned (.bool false) ∧ ∃ k, w' = (w3.drewN n).drewN k) := fun n => (HO3.out.draws n).bad
              rw [hrl] at x2 hR3
              have HRL : Hid (R.length = rl) := hrl
              have hR4 : decide ((65540 : Int) ≤ (rl : Int)) = false := by simpa using hR3
              clear hgx hrl
              go_wp2_with (go_at_call 12; go_must (refine HL0.out.mono ?_))
              rintro e w4 rfl n4 rfl
              go_wp2_with (go_at_call 12; go_must (refine (HLf.out n4).mono ?_))
              first | rintro e w5 rfl n5 rfl | rintro e w5 ⟨rfl, n5, rfl⟩
              obtain ⟨n6, h6⟩ : ∃ n6, (w3.drewN n4).drewN n5 = w3.drewN n6 := ⟨_, World.drewN_drewN ..⟩
              rw [h6]
              clear h6
              go_wp2_with (go_at_call 13; go_must (refine (HBd.out _).mono ?_))
              first | rintro e w6 rfl n7 rfl | rintro e w6 ⟨rfl, n7, rfl⟩
              obtain ⟨n8, h8⟩ : ∃ n8, (w3.drewN n6).drewN n7 = w3.drewN n8 := ⟨_, World.drewN_drewN ..⟩
              rw [h8]
              clear h8
              go_wp2_with fail
              go_roundw
              case rel => exact ⟨j + 1, f2, gx, ⟨R, false⟩, F3, by omega, by go_num, rfl, rfl, rfl, by have h1 := HF2.out; have h2 := HGE.out; show f2 = gx + R.length; omega, HF3, HO3.out.draws _⟩
              case measure => simp [intOf]; omega
    · by_cases h1 : j < m
      · have h60 : ¬ ((j : Int) < 60) := by omega
        have h1I : (j : Int) < (m : Int) := by omega
        go_wp2_with fail
        go_ret
        exact ⟨rfl, HO.out.below⟩
      · have h1I : ¬ ((j : Int) < (m : Int)) := by omega
        go_wp2_with fail
        go_ret
        exact ⟨rfl, HO.out.below⟩

end LeftL
end Go.Proofs.Ytddbacphlbaohaa
