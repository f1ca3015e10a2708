/- The law WireFeeds: its walk, for readers that keep their contracts (written by vfeeds.py). -/
import Derived.Test.YtddbacphlbaohaaVCuts
namespace Go.Proofs.Ytddbacphlbaohaa
open Go.RowKit

theorem RowS.turn {S : Nat → Prop} {w w' : World} {base : Nat} {v : Value} {L : List (List UInt8)} (h : RowS w base v L) (ht : Turn S w w') (hS : ∀ i, base ≤ i → ¬ S i) : RowS w' base v L := by
  obtain ⟨a, c, e1, e2, e3, e4, e5⟩ := h
  refine ⟨a, c, e1, e2, e3, e4, fun hne => ?_⟩
  obtain ⟨b, off, C, h1, h2, h3, h4⟩ := e5 hne
  exact ⟨b, off, C, h1, h2, (ht.block b (lt_of h3) (hS b h2)).trans h3, h4⟩

theorem RvAt.turn {S : Nat → Prop} {w w' : World} {g : Nat} {r : Rd} (h : RvAt w g r) (ht : Turn S w w') (hS : ¬ S g) : RvAt w' g r := (ht.block g (lt_of h) hS).trans h

theorem feedB_len (r : Rd) (b : List UInt8) (h : r.kept.length < 65540) : (feedB r b).length ≤ 100000 := by
  unfold feedB
  by_cases h1 : r.ill = true
  · rw [if_pos h1]; decide
  rw [if_neg h1]
  by_cases h2 : 262144 < b.length
  · rw [if_pos h2]; decide
  rw [if_neg h2]
  have h3 := (cut_left _ (r.kept ++ b) (Nat.le_refl _)).2.2.1
  have h4 := given_len (cut (r.kept ++ b)).bodies
  rw [List.length_append] at h3
  omega

namespace FeedsL

set_option maxRecDepth 100000 in
set_option maxHeartbeats 2000000 in
theorem walkA (K : Kit) (v0 : Value) (L : List ByteArray) (w : World) (hL : SliceAt w v0 1 strOne L) (hA : L.length ≤ 60) :
    Calls Try.prog 3 #[v0] w fun e w' => e = .returned (.bool true) ∧ Below w.heap.size w w' := by
  obtain ⟨a, c, rfl, hx⟩ := slice_open hL
  have HX : Hid (L ≠ [] → ∃ b off, a = some ⟨b, off, none⟩ ∧ b < w.heap.size ∧ ∀ i, (h : i < L.length) → w.cell? ⟨b, off + i, none⟩ = some (.string L[i])) := hx
  obtain ⟨m, hm⟩ : ∃ m, L.length = m := ⟨_, rfl⟩
  have HM : Hid (L.length = m) := hm
  rw [hm] at hA
  rw [hm]
  have HN : Hid (Calls Try.prog 7 #[] w fun e w' => ∃ g F, e = .returned (.pointer (some ⟨g, 0, none⟩)) ∧ On K g ⟨[], false⟩ w w' F ∧ (∀ i, F i → w.heap.size ≤ i) ∧ Below w.heap.size w w') := kit_new K w w (Below.refl _ _)
  clear hm hx hL
  go_enter Try.func3, Try.ntmps3
  go_wp2_with (first
    | (go_at_call 7; go_must (refine HN.out.mono ?_; rintro e w1 ⟨g, F, rfl, hO, -, -⟩; have HO : Hid (On K g ⟨[], false⟩ w w1 F) := hO; clear hO))
    | (go_at_call 8; go_must (refine (rvNew_any _).mono ?_; rintro e w2 ⟨rfl, hrv, hb2⟩; have HRV : Hid (RvAt w2 w1.heap.size ⟨[], false⟩ ∧ Below w1.heap.size w1 w2) := ⟨hrv, hb2⟩; clear hrv hb2)))
  obtain ⟨g2, hg2⟩ : ∃ g2, w1.heap.size = g2 := ⟨_, rfl⟩
  rw [hg2] at HRV
  rw [hg2]
  have HG2 : Hid (w.heap.size ≤ g2 ∧ ¬ F g2) := ⟨hg2 ▸ HO.out.below.size, fun h => by
    have := (K.res g _).lt HO.out.at_ g2 h
    omega⟩
  have hwg : w.heap.size ≤ g2 := HG2.out.1
  have HO2 : Hid (On K g ⟨[], false⟩ w w2 F) := HO.out.stays (hg2 ▸ HRV.out.2)
  clear hg2
  go_loopw [5] (fun i wr => ∃ (j : Nat) (r : Rd) (F : Nat → Prop), j ≤ m ∧ i = .int .i64 j ∧ On K g r w wr F ∧ RvAt wr g2 r ∧ ¬ F g2) (fun i _ => m - (intOf i).toNat)
  case atStart => exact ⟨0, ⟨[], false⟩, F, Nat.zero_le _, rfl, HO2.out, HRV.out.1, HG2.out.2⟩
  case round =>
    obtain ⟨j, r, F, hj, rfl, hO, hV, hF⟩ := hrel
    have HO1 : Hid (On K g r w wr F ∧ RvAt wr g2 r ∧ ¬ F g2) := ⟨hO, hV, hF⟩
    have hg2l : g2 < wr.heap.size := lt_of hV
    clear hO hV hF HO HO2 HRV HG2
    by_cases hlt : j < m
    · have hlm : j < m := by omega
      have hlL : j < L.length := by rw [HM.out]; exact hlm
      obtain ⟨b, off, rfl, hbl, hcells⟩ := HX.out (fun e => by rw [e] at hlL; simp at hlL)
      obtain ⟨s, hs⟩ : ∃ s, L[j] = s := ⟨_, rfl⟩
      have HQ : Hid (∀ u : World, Below w.heap.size w u → u.cell? ⟨b, off + j, none⟩ = some (.string s)) := fun u hu => by
        rw [hu.cell (p := ⟨b, off + j, none⟩) hbl, hcells j hlL, hs]
      have qc := HQ.out wr HO1.out.1.below
      have hlI : (j : Int) < (m : Int) := by omega
      have h60I : (j : Int) < 60 := by omega
      clear hcells hs hlL hbl
      obtain ⟨Bs, hBs⟩ : ∃ Bs, feedB r s.data.toList = Bs := ⟨_, rfl⟩
      have hBl : Bs.length ≤ 100000 := hBs ▸ feedB_len r _ HO1.out.1.few
      have HBl : Hid (Bs.length ≤ 100000) := hBl
      clear hBl
      obtain ⟨E, hE⟩ : ∃ E, feedE r s.data.toList = E := ⟨_, rfl⟩
      obtain ⟨⟨k2, il⟩, hr2⟩ : ∃ r2, feedR r s.data.toList = r2 := ⟨_, rfl⟩
      have HD1 : Hid (Calls Try.prog 9 #[.pointer (some ⟨g, 0, none⟩), .string s] wr fun e w' => ∃ v F', e = .returned (.tuple #[v, .int .i64 E]) ∧ RowS w' wr.heap.size v Bs ∧ On K g ⟨k2, il⟩ w w' F' ∧ RvAt w' g2 r ∧ ¬ F' g2 ∧ wr.heap.size ≤ w'.heap.size ∧ ∀ i, v.ownBlock = some i → ¬ F' i) := (HO1.out.1.feed s).mono fun e w' ⟨v, F', h1, h2, h3, h4, h5, h6⟩ => by
        rw [hE] at h1
        rw [hBs] at h2
        rw [hr2] at h3
        refine ⟨v, F', h1, h2, h3, HO1.out.2.1.turn h4 HO1.out.2.2, fun h => ?_, h4.size, h6⟩
        rcases h5 g2 h with h7 | h7
        · exact HO1.out.2.2 h7
        · omega
      have HD2 : Hid (∀ u : World, RvAt u g2 r → Calls Try.prog 10 #[.pointer (some ⟨g2, 0, none⟩), .string s] u fun e w' => ∃ v, e = .returned (.tuple #[v, .int .i64 E]) ∧ StrsAt w' v Bs ∧ RvAt w' g2 ⟨k2, il⟩ ∧ Turn (fun i => i = g2) u w') := fun u hu => (rvFeed_any g2 r s u hu HO1.out.1.few).mono fun e w' ⟨v, h1, h2, h3, h4⟩ => by
        rw [hE] at h1
        rw [hBs] at h2
        rw [hr2] at h3
        exact ⟨v, h1, (strs_of_row h2).1, h3, h4⟩
      have HPk : Hid (∃ P e, (∀ u : World, Calls Try.prog 14 #[.string s] u fun x w' => x = .returned (.tuple #[.string P, .int .i64 e]) ∧ Below u.heap.size u w') ∧ ∀ u : World, Calls Try.prog 15 #[.string s] u fun x w' => x = .returned (.tuple #[.string P, .int .i64 e]) ∧ Below u.heap.size u w') := ⟨packS s, packE s, fun u => K.packet s u, fun u => rvPacket_any s u⟩
      obtain ⟨P, pe, hp1, hp2⟩ := HPk.out
      have HP1 : Hid (∀ u : World, Calls Try.prog 14 #[.string s] u fun x w' => x = .returned (.tuple #[.string P, .int .i64 pe]) ∧ Below u.heap.size u w') := hp1
      have HP2 : Hid (∀ u : World, Calls Try.prog 15 #[.string s] u fun x w' => x = .returned (.tuple #[.string P, .int .i64 pe]) ∧ Below u.heap.size u w') := hp2
      clear hBs hE hr2 HPk hp1 hp2
      go_wp2_with (first
        | (go_at_call 9; go_must (refine HD1.out.mono ?_; rintro e w3 ⟨v3, F3, rfl, h31, h32, h33, h34, h35, h36⟩; have H3 : Hid (RowS w3 wr.heap.size v3 Bs ∧ On K g ⟨k2, il⟩ w w3 F3 ∧ RvAt w3 g2 r ∧ ¬ F3 g2 ∧ ∀ i, v3.ownBlock = some i → ¬ F3 i) := ⟨h31, h32, h33, h34, h36⟩; have qc3 := HQ.out w3 h32.below; clear h31 h32 h33 h34 h36))
        | (go_at_call 10; go_must (refine (HD2.out _ H3.out.2.2.1).mono ?_)))
      rintro e w4 ⟨v4, rfl, h41, h42, h43⟩
      have hRow := H3.out.1.turn h43 (fun i hi e => by omega)
      have hOn : On K g ⟨k2, il⟩ w w4 F3 := H3.out.2.1.turns h43 (fun i hi e => H3.out.2.2.2.1 (e ▸ hi)) (fun i e => by omega)
      obtain ⟨Kb, hKb⟩ : ∃ Kb, bytesOf k2 = Kb := ⟨_, rfl⟩
      have hKs : k2.length = Kb.size := by rw [← hKb]; rfl
      have q0 : w4.cell? ⟨g2, 0, none⟩ = some (.string Kb) := hKb ▸ cell_of h42 0
      have q1 : w4.cell? ⟨g2, 1, none⟩ = some (.bool il) := cell_of h42 1
      have HSm : Hid (∀ n, Calls Try.prog 11 #[v3, v4] (w4.drewN n) fun e w' => e = .returned (.bool true) ∧ ∃ k, w' = (w4.drewN n).drewN k) := fun n => sameTexts_true v3 v4 Bs (w4.drewN n) (hRow.strs.below (below_drewN w4 n)) (h41.below (below_drewN w4 n))
      have HLf : Hid (∀ n, Calls Try.prog 12 #[.pointer (some ⟨g, 0, none⟩)] (w4.drewN n) fun e w' => e = .returned (.int .i64 (Kb.size : Int)) ∧ ∃ k, w' = (w4.drewN n).drewN k) := fun n => hKs ▸ (hOn.draws n).left
      have HBd : Hid (∀ n, Calls Try.prog 13 #[.pointer (some ⟨g, 0, none⟩)] (w4.drewN n) fun e w' => e = .returned (.bool il) ∧ ∃ k, w' = (w4.drewN n).drewN k) := fun n => (hOn.draws n).bad
      have HN4 : Hid (On K g ⟨k2, il⟩ w w4 F3 ∧ RvAt w4 g2 ⟨k2, il⟩) := ⟨hOn, h42⟩
      obtain ⟨nb, hnb⟩ : ∃ nb, Bs.length = nb := ⟨_, rfl⟩
      obtain ⟨N0, hN0⟩ : ∃ N0, wr.heap.size = N0 := ⟨_, rfl⟩
      have hg0 : g2 < N0 := by omega
      have HRow : Hid (∃ a3 c3, v3 = .slice a3 nb c3 ∧ nb ≤ 100000000 ∧ (0 < nb → ∃ b off C, a3 = some ⟨b, off, none⟩ ∧ N0 ≤ b ∧ w4.heap[b]? = some (.cells C 9 (0, 0)) ∧ off + nb ≤ C.size ∧ ¬ F3 b)) := (by
        obtain ⟨a3, c3, e3, -, -, -, h5⟩ := hRow
        refine ⟨a3, c3, by rw [e3, hnb], ?_, fun hpos => ?_⟩
        · have h1 := HBl.out; omega
        · obtain ⟨b, off, C, h6, h7, h8, h9⟩ := h5 (fun e => by rw [e] at hnb; simp at hnb; omega)
          refine ⟨b, off, C, h6, hN0 ▸ h7, h8, ?_, H3.out.2.2.2.2 b (by rw [e3, h6]; rfl)⟩
          have h10 := h9 (nb - 1) (by omega)
          have h11 := (Array.getElem?_eq_some_iff.1 h10).1
          omega : ∃ a3 c3, v3 = .slice a3 nb c3 ∧ nb ≤ 100000000 ∧ (0 < nb → ∃ b off C, a3 = some ⟨b, off, none⟩ ∧ N0 ≤ b ∧ w4.heap[b]? = some (.cells C 9 (0, 0)) ∧ off + nb ≤ C.size ∧ ¬ F3 b))
      have HF3 : Hid (¬ F3 g2) := H3.out.2.2.2.1
      clear hRow hOn hKb hKs h41 h42 h43 hnb H3 hN0
      obtain ⟨a3, c3, rfl, hnb2, hx3⟩ := HRow.out
      have HX3 : Hid (0 < nb → ∃ b off C, a3 = some ⟨b, off, none⟩ ∧ N0 ≤ b ∧ w4.heap[b]? = some (.cells C 9 (0, 0)) ∧ off + nb ≤ C.size ∧ ¬ F3 b) := hx3
      clear hx3 HRow
      go_wp2_with fail
      go_quiet (first | (go_at_call 11; exact Calls.quiet_of (HSm.out _)) | (go_at_call 12; exact Calls.quiet_of (HLf.out _)) | (go_at_call 13; exact Calls.quiet_of (HBd.out _)))
      go_wp2_with fail
      go_loopw [10] (fun i wq => ∃ x : Nat, x ≤ nb ∧ i = .int .i64 x ∧ On K g ⟨k2, il⟩ w wq F3 ∧ RvAt wq g2 ⟨k2, il⟩ ∧ (0 < nb → ∃ b off C, a3 = some ⟨b, off, none⟩ ∧ N0 ≤ b ∧ wq.heap[b]? = some (.cells C 9 (0, 0)) ∧ off + nb ≤ C.size ∧ ¬ F3 b)) (fun i _ => nb - (intOf i).toNat)
      case atStart => exact ⟨0, Nat.zero_le _, rfl, HN4.out.1.draws _, HN4.out.2, HX3.out⟩
      case round =>
        obtain ⟨x, hx, rfl, hOq, hVq, hxq⟩ := hrel
        have HOq : Hid (On K g ⟨k2, il⟩ w wr F3 ∧ RvAt wr g2 ⟨k2, il⟩) := ⟨hOq, hVq⟩
        have HXq : Hid (0 < nb → ∃ b off C, a3 = some ⟨b, off, none⟩ ∧ N0 ≤ b ∧ wr.heap[b]? = some (.cells C 9 (0, 0)) ∧ off + nb ≤ C.size ∧ ¬ F3 b) := hxq
        clear hOq hVq hxq HX3 HN4 HSm HLf HBd HD1 HD2
        by_cases hxl : x < nb
        · obtain ⟨b3, off3, C, rfl, hb3, hC, hCs, hF3⟩ := HXq.out (by omega)
          have hxI : (x : Int) < (nb : Int) := by omega
          have hcx : off3 + x < C.size := by omega
          obtain ⟨y, hy⟩ : ∃ y, C[off3 + x]? = some y := ⟨_, Array.getElem?_eq_getElem hcx⟩
          have c1 : wr.cell? ⟨b3, off3 + x, none⟩ = some y := (cell_of hC _).trans hy
          have c2 : wr.frozen? ⟨b3, off3 + x, none⟩ = false := frozen_of hC _
          have HC3 : Hid (wr.heap[b3]? = some (.cells C 9 (0, 0)) ∧ off3 + nb ≤ C.size ∧ ¬ F3 b3) := ⟨hC, hCs, hF3⟩
          clear hC hCs hF3 hy hcx
          go_wp2_with fail
          go_roundw
          case rel =>
            have t1 := Turn.setCell (S := fun k => k = b3) wr ⟨b3, off3 + x, none⟩ (.string { data := #[115, 112, 111, 105, 108, 116] }) rfl
            refine ⟨x + 1, by omega, by go_num, HOq.out.1.turns t1 (fun i hi e => HC3.out.2.2 (e ▸ hi)) (fun i e => by omega), HOq.out.2.turn t1 (by omega), fun _ => ⟨b3, off3, _, rfl, hb3, heap_setCell_same HC3.out.1 _ _, by rw [Array.size_setIfInBounds]; exact HC3.out.2.1, HC3.out.2.2⟩⟩
          case measure => simp [intOf]; omega
        · have hxI : ¬ ((x : Int) < (nb : Int)) := by omega
          have qcq := HQ.out wr HOq.out.1.below
          go_wp2_with (first
            | (go_at_call 14; go_must (refine (HP1.out _).mono ?_; rintro e w6 ⟨rfl, hw6⟩; have HO6 : Hid (On K g ⟨k2, il⟩ w w6 F3 ∧ RvAt w6 g2 ⟨k2, il⟩) := ⟨HOq.out.1.stays hw6, keep HOq.out.2 hw6⟩; have qc6 := HQ.out w6 HO6.out.1.below; clear hw6))
            | (go_at_call 15; go_must (refine (HP2.out _).mono ?_; rintro e w7 ⟨rfl, hw7⟩; have HO7 : Hid (On K g ⟨k2, il⟩ w w7 F3 ∧ RvAt w7 g2 ⟨k2, il⟩) := ⟨HO6.out.1.stays hw7, keep HO6.out.2 hw7⟩; clear hw7)))
          go_roundw
          case rel => exact ⟨j + 1, ⟨k2, il⟩, F3, by omega, by go_num, HO7.out.1, HO7.out.2, HF3.out⟩
          case measure => simp [intOf]; omega
    · have h1I : ¬ ((j : Int) < (m : Int)) := by omega
      go_wp2_with (go_at_call 16; go_must (refine (works7_any K _).mono ?_; rintro e w9 ⟨rfl, hw9⟩))
      go_ret
      exact ⟨rfl, (HO1.out.1.stays hw9).below⟩

set_option maxRecDepth 100000 in
set_option maxHeartbeats 2000000 in
theorem walkB (K : Kit) (v0 : Value) (L : List ByteArray) (w : World) (hL : SliceAt w v0 1 strOne L) (hA : 60 < L.length) :
    Calls Try.prog 3 #[v0] w fun e w' => e = .returned (.bool true) ∧ Below w.heap.size w w' := by
  obtain ⟨a, c, rfl, hx⟩ := slice_open hL
  have HX : Hid (L ≠ [] → ∃ b off, a = some ⟨b, off, none⟩ ∧ b < w.heap.size ∧ ∀ i, (h : i < L.length) → w.cell? ⟨b, off + i, none⟩ = some (.string L[i])) := hx
  obtain ⟨m, hm⟩ : ∃ m, L.length = m := ⟨_, rfl⟩
  have HM : Hid (L.length = m) := hm
  rw [hm] at hA
  rw [hm]
  have HN : Hid (Calls Try.prog 7 #[] w fun e w' => ∃ g F, e = .returned (.pointer (some ⟨g, 0, none⟩)) ∧ On K g ⟨[], false⟩ w w' F ∧ (∀ i, F i → w.heap.size ≤ i) ∧ Below w.heap.size w w') := kit_new K w w (Below.refl _ _)
  clear hm hx hL
  go_enter Try.func3, Try.ntmps3
  go_wp2_with (first
    | (go_at_call 7; go_must (refine HN.out.mono ?_; rintro e w1 ⟨g, F, rfl, hO, -, -⟩; have HO : Hid (On K g ⟨[], false⟩ w w1 F) := hO; clear hO))
    | (go_at_call 8; go_must (refine (rvNew_any _).mono ?_; rintro e w2 ⟨rfl, hrv, hb2⟩; have HRV : Hid (RvAt w2 w1.heap.size ⟨[], false⟩ ∧ Below w1.heap.size w1 w2) := ⟨hrv, hb2⟩; clear hrv hb2)))
  obtain ⟨g2, hg2⟩ : ∃ g2, w1.heap.size = g2 := ⟨_, rfl⟩
  rw [hg2] at HRV
  rw [hg2]
  have HG2 : Hid (w.heap.size ≤ g2 ∧ ¬ F g2) := ⟨hg2 ▸ HO.out.below.size, fun h => by
    have := (K.res g _).lt HO.out.at_ g2 h
    omega⟩
  have hwg : w.heap.size ≤ g2 := HG2.out.1
  have HO2 : Hid (On K g ⟨[], false⟩ w w2 F) := HO.out.stays (hg2 ▸ HRV.out.2)
  clear hg2
  go_loopw [5] (fun i wr => ∃ (j : Nat) (r : Rd) (F : Nat → Prop), j ≤ 60 ∧ i = .int .i64 j ∧ On K g r w wr F ∧ RvAt wr g2 r ∧ ¬ F g2) (fun i _ => 60 - (intOf i).toNat)
  case atStart => exact ⟨0, ⟨[], false⟩, F, Nat.zero_le _, rfl, HO2.out, HRV.out.1, HG2.out.2⟩
  case round =>
    obtain ⟨j, r, F, hj, rfl, hO, hV, hF⟩ := hrel
    have HO1 : Hid (On K g r w wr F ∧ RvAt wr g2 r ∧ ¬ F g2) := ⟨hO, hV, hF⟩
    have hg2l : g2 < wr.heap.size := lt_of hV
    clear hO hV hF HO HO2 HRV HG2
    by_cases hlt : j < 60
    · have hlm : j < m := by omega
      have hlL : j < L.length := by rw [HM.out]; exact hlm
      obtain ⟨b, off, rfl, hbl, hcells⟩ := HX.out (fun e => by rw [e] at hlL; simp at hlL)
      obtain ⟨s, hs⟩ : ∃ s, L[j] = s := ⟨_, rfl⟩
      have HQ : Hid (∀ u : World, Below w.heap.size w u → u.cell? ⟨b, off + j, none⟩ = some (.string s)) := fun u hu => by
        rw [hu.cell (p := ⟨b, off + j, none⟩) hbl, hcells j hlL, hs]
      have qc := HQ.out wr HO1.out.1.below
      have hlI : (j : Int) < (m : Int) := by omega
      have h60I : (j : Int) < 60 := by omega
      clear hcells hs hlL hbl
      obtain ⟨Bs, hBs⟩ : ∃ Bs, feedB r s.data.toList = Bs := ⟨_, rfl⟩
      have hBl : Bs.length ≤ 100000 := hBs ▸ feedB_len r _ HO1.out.1.few
      have HBl : Hid (Bs.length ≤ 100000) := hBl
      clear hBl
      obtain ⟨E, hE⟩ : ∃ E, feedE r s.data.toList = E := ⟨_, rfl⟩
      obtain ⟨⟨k2, il⟩, hr2⟩ : ∃ r2, feedR r s.data.toList = r2 := ⟨_, rfl⟩
      have HD1 : Hid (Calls Try.prog 9 #[.pointer (some ⟨g, 0, none⟩), .string s] wr fun e w' => ∃ v F', e = .returned (.tuple #[v, .int .i64 E]) ∧ RowS w' wr.heap.size v Bs ∧ On K g ⟨k2, il⟩ w w' F' ∧ RvAt w' g2 r ∧ ¬ F' g2 ∧ wr.heap.size ≤ w'.heap.size ∧ ∀ i, v.ownBlock = some i → ¬ F' i) := (HO1.out.1.feed s).mono fun e w' ⟨v, F', h1, h2, h3, h4, h5, h6⟩ => by
        rw [hE] at h1
        rw [hBs] at h2
        rw [hr2] at h3
        refine ⟨v, F', h1, h2, h3, HO1.out.2.1.turn h4 HO1.out.2.2, fun h => ?_, h4.size, h6⟩
        rcases h5 g2 h with h7 | h7
        · exact HO1.out.2.2 h7
        · omega
      have HD2 : Hid (∀ u : World, RvAt u g2 r → Calls Try.prog 10 #[.pointer (some ⟨g2, 0, none⟩), .string s] u fun e w' => ∃ v, e = .returned (.tuple #[v, .int .i64 E]) ∧ StrsAt w' v Bs ∧ RvAt w' g2 ⟨k2, il⟩ ∧ Turn (fun i => i = g2) u w') := fun u hu => (rvFeed_any g2 r s u hu HO1.out.1.few).mono fun e w' ⟨v, h1, h2, h3, h4⟩ => by
        rw [hE] at h1
        rw [hBs] at h2
        rw [hr2] at h3
        exact ⟨v, h1, (strs_of_row h2).1, h3, h4⟩
      have HPk : Hid (∃ P e, (∀ u : World, Calls Try.prog 14 #[.string s] u fun x w' => x = .returned (.tuple #[.string P, .int .i64 e]) ∧ Below u.heap.size u w') ∧ ∀ u : World, Calls Try.prog 15 #[.string s] u fun x w' => x = .returned (.tuple #[.string P, .int .i64 e]) ∧ Below u.heap.size u w') := ⟨packS s, packE s, fun u => K.packet s u, fun u => rvPacket_any s u⟩
      obtain ⟨P, pe, hp1, hp2⟩ := HPk.out
      have HP1 : Hid (∀ u : World, Calls Try.prog 14 #[.string s] u fun x w' => x = .returned (.tuple #[.string P, .int .i64 pe]) ∧ Below u.heap.size u w') := hp1
      have HP2 : Hid (∀ u : World, Calls Try.prog 15 #[.string s] u fun x w' => x = .returned (.tuple #[.string P, .int .i64 pe]) ∧ Below u.heap.size u w') := hp2
      clear hBs hE hr2 HPk hp1 hp2
      go_wp2_with (first
        | (go_at_call 9; go_must (refine HD1.out.mono ?_; rintro e w3 ⟨v3, F3, rfl, h31, h32, h33, h34, h35, h36⟩; have H3 : Hid (RowS w3 wr.heap.size v3 Bs ∧ On K g ⟨k2, il⟩ w w3 F3 ∧ RvAt w3 g2 r ∧ ¬ F3 g2 ∧ ∀ i, v3.ownBlock = some i → ¬ F3 i) := ⟨h31, h32, h33, h34, h36⟩; have qc3 := HQ.out w3 h32.below; clear h31 h32 h33 h34 h36))
        | (go_at_call 10; go_must (refine (HD2.out _ H3.out.2.2.1).mono ?_)))
      rintro e w4 ⟨v4, rfl, h41, h42, h43⟩
      have hRow := H3.out.1.turn h43 (fun i hi e => by omega)
      have hOn : On K g ⟨k2, il⟩ w w4 F3 := H3.out.2.1.turns h43 (fun i hi e => H3.out.2.2.2.1 (e ▸ hi)) (fun i e => by omega)
      obtain ⟨Kb, hKb⟩ : ∃ Kb, bytesOf k2 = Kb := ⟨_, rfl⟩
      have hKs : k2.length = Kb.size := by rw [← hKb]; rfl
      have q0 : w4.cell? ⟨g2, 0, none⟩ = some (.string Kb) := hKb ▸ cell_of h42 0
      have q1 : w4.cell? ⟨g2, 1, none⟩ = some (.bool il) := cell_of h42 1
      have HSm : Hid (∀ n, Calls Try.prog 11 #[v3, v4] (w4.drewN n) fun e w' => e = .returned (.bool true) ∧ ∃ k, w' = (w4.drewN n).drewN k) := fun n => sameTexts_true v3 v4 Bs (w4.drewN n) (hRow.strs.below (below_drewN w4 n)) (h41.below (below_drewN w4 n))
      have HLf : Hid (∀ n, Calls Try.prog 12 #[.pointer (some ⟨g, 0, none⟩)] (w4.drewN n) fun e w' => e = .returned (.int .i64 (Kb.size : Int)) ∧ ∃ k, w' = (w4.drewN n).drewN k) := fun n => hKs ▸ (hOn.draws n).left
      have HBd : Hid (∀ n, Calls Try.prog 13 #[.pointer (some ⟨g, 0, none⟩)] (w4.drewN n) fun e w' => e = .returned (.bool il) ∧ ∃ k, w' = (w4.drewN n).drewN k) := fun n => (hOn.draws n).bad
      have HN4 : Hid (On K g ⟨k2, il⟩ w w4 F3 ∧ RvAt w4 g2 ⟨k2, il⟩) := ⟨hOn, h42⟩
      obtain ⟨nb, hnb⟩ : ∃ nb, Bs.length = nb := ⟨_, rfl⟩
      obtain ⟨N0, hN0⟩ : ∃ N0, wr.heap.size = N0 := ⟨_, rfl⟩
      have hg0 : g2 < N0 := by omega
      have HRow : Hid (∃ a3 c3, v3 = .slice a3 nb c3 ∧ nb ≤ 100000000 ∧ (0 < nb → ∃ b off C, a3 = some ⟨b, off, none⟩ ∧ N0 ≤ b ∧ w4.heap[b]? = some (.cells C 9 (0, 0)) ∧ off + nb ≤ C.size ∧ ¬ F3 b)) := (by
        obtain ⟨a3, c3, e3, -, -, -, h5⟩ := hRow
        refine ⟨a3, c3, by rw [e3, hnb], ?_, fun hpos => ?_⟩
        · have h1 := HBl.out; omega
        · obtain ⟨b, off, C, h6, h7, h8, h9⟩ := h5 (fun e => by rw [e] at hnb; simp at hnb; omega)
          refine ⟨b, off, C, h6, hN0 ▸ h7, h8, ?_, H3.out.2.2.2.2 b (by rw [e3, h6]; rfl)⟩
          have h10 := h9 (nb - 1) (by omega)
          have h11 := (Array.getElem?_eq_some_iff.1 h10).1
          omega : ∃ a3 c3, v3 = .slice a3 nb c3 ∧ nb ≤ 100000000 ∧ (0 < nb → ∃ b off C, a3 = some ⟨b, off, none⟩ ∧ N0 ≤ b ∧ w4.heap[b]? = some (.cells C 9 (0, 0)) ∧ off + nb ≤ C.size ∧ ¬ F3 b))
      have HF3 : Hid (¬ F3 g2) := H3.out.2.2.2.1
      clear hRow hOn hKb hKs h41 h42 h43 hnb H3 hN0
      obtain ⟨a3, c3, rfl, hnb2, hx3⟩ := HRow.out
      have HX3 : Hid (0 < nb → ∃ b off C, a3 = some ⟨b, off, none⟩ ∧ N0 ≤ b ∧ w4.heap[b]? = some (.cells C 9 (0, 0)) ∧ off + nb ≤ C.size ∧ ¬ F3 b) := hx3
      clear hx3 HRow
      go_wp2_with fail
      go_quiet (first | (go_at_call 11; exact Calls.quiet_of (HSm.out _)) | (go_at_call 12; exact Calls.quiet_of (HLf.out _)) | (go_at_call 13; exact Calls.quiet_of (HBd.out _)))
      go_wp2_with fail
      go_loopw [10] (fun i wq => ∃ x : Nat, x ≤ nb ∧ i = .int .i64 x ∧ On K g ⟨k2, il⟩ w wq F3 ∧ RvAt wq g2 ⟨k2, il⟩ ∧ (0 < nb → ∃ b off C, a3 = some ⟨b, off, none⟩ ∧ N0 ≤ b ∧ wq.heap[b]? = some (.cells C 9 (0, 0)) ∧ off + nb ≤ C.size ∧ ¬ F3 b)) (fun i _ => nb - (intOf i).toNat)
      case atStart => exact ⟨0, Nat.zero_le _, rfl, HN4.out.1.draws _, HN4.out.2, HX3.out⟩
      case round =>
        obtain ⟨x, hx, rfl, hOq, hVq, hxq⟩ := hrel
        have HOq : Hid (On K g ⟨k2, il⟩ w wr F3 ∧ RvAt wr g2 ⟨k2, il⟩) := ⟨hOq, hVq⟩
        have HXq : Hid (0 < nb → ∃ b off C, a3 = some ⟨b, off, none⟩ ∧ N0 ≤ b ∧ wr.heap[b]? = some (.cells C 9 (0, 0)) ∧ off + nb ≤ C.size ∧ ¬ F3 b) := hxq
        clear hOq hVq hxq HX3 HN4 HSm HLf HBd HD1 HD2
        by_cases hxl : x < nb
        · obtain ⟨b3, off3, C, rfl, hb3, hC, hCs, hF3⟩ := HXq.out (by omega)
          have hxI : (x : Int) < (nb : Int) := by omega
          have hcx : off3 + x < C.size := by omega
          obtain ⟨y, hy⟩ : ∃ y, C[off3 + x]? = some y := ⟨_, Array.getElem?_eq_getElem hcx⟩
          have c1 : wr.cell? ⟨b3, off3 + x, none⟩ = some y := (cell_of hC _).trans hy
          have c2 : wr.frozen? ⟨b3, off3 + x, none⟩ = false := frozen_of hC _
          have HC3 : Hid (wr.heap[b3]? = some (.cells C 9 (0, 0)) ∧ off3 + nb ≤ C.size ∧ ¬ F3 b3) := ⟨hC, hCs, hF3⟩
          clear hC hCs hF3 hy hcx
          go_wp2_with fail
          go_roundw
          case rel =>
            have t1 := Turn.setCell (S := fun k => k = b3) wr ⟨b3, off3 + x, none⟩ (.string { data := #[115, 112, 111, 105, 108, 116] }) rfl
            refine ⟨x + 1, by omega, by go_num, HOq.out.1.turns t1 (fun i hi e => HC3.out.2.2 (e ▸ hi)) (fun i e => by omega), HOq.out.2.turn t1 (by omega), fun _ => ⟨b3, off3, _, rfl, hb3, heap_setCell_same HC3.out.1 _ _, by rw [Array.size_setIfInBounds]; exact HC3.out.2.1, HC3.out.2.2⟩⟩
          case measure => simp [intOf]; omega
        · have hxI : ¬ ((x : Int) < (nb : Int)) := by omega
          have qcq := HQ.out wr HOq.out.1.below
          go_wp2_with (first
            | (go_at_call 14; go_must (refine (HP1.out _).mono ?_; rintro e w6 ⟨rfl, hw6⟩; have HO6 : Hid (On K g ⟨k2, il⟩ w w6 F3 ∧ RvAt w6 g2 ⟨k2, il⟩) := ⟨HOq.out.1.stays hw6, keep HOq.out.2 hw6⟩; have qc6 := HQ.out w6 HO6.out.1.below; clear hw6))
            | (go_at_call 15; go_must (refine (HP2.out _).mono ?_; rintro e w7 ⟨rfl, hw7⟩; have HO7 : Hid (On K g ⟨k2, il⟩ w w7 F3 ∧ RvAt w7 g2 ⟨k2, il⟩) := ⟨HO6.out.1.stays hw7, keep HO6.out.2 hw7⟩; clear hw7)))
          go_roundw
          case rel => exact ⟨j + 1, ⟨k2, il⟩, F3, by omega, by go_num, HO7.out.1, HO7.out.2, HF3.out⟩
          case measure => simp [intOf]; omega
    · have h1I : (j : Int) < (m : Int) := by omega
      have h2I : ¬ ((j : Int) < 60) := by omega
      go_wp2_with (go_at_call 16; go_must (refine (works7_any K _).mono ?_; rintro e w9 ⟨rfl, hw9⟩))
      go_ret
      exact ⟨rfl, (HO1.out.1.stays hw9).below⟩

theorem walk (K : Kit) (v0 : Value) (L : List ByteArray) (w : World) (hL : SliceAt w v0 1 strOne L) :
    Calls Try.prog 3 #[v0] w fun e w' => e = .returned (.bool true) ∧ Below w.heap.size w w' := by
  by_cases h : L.length ≤ 60
  · exact walkA K v0 L w hL h
  · exact walkB K v0 L w hL (by omega)

end FeedsL
end Go.Proofs.Ytddbacphlbaohaa
