import Derived.Test.YtnboanlhdllhnaaGreatZRdP
import Derived.Test.YtnboanlhdllhnaaGreatZWrite
import Derived.Lib.ConvBytes
import Derived.BigQuiet
/- The program's walker: it goes over the bytes of a schema. -/
namespace Go.Proofs.YtnboanlhdllhnaaGreat
open Go.RowKit

theorem take_ext (r : List UInt8) (n : Nat) : (bytesOf r).extract 0 n = bytesOf (r.take n) := by rw [ext_list, List.drop_zero, Nat.sub_zero]
theorem drop_ext (r : List UInt8) (n : Nat) : (bytesOf r).extract n (bytesOf r).size = bytesOf (r.drop n) := by
  rw [ext_list, bytesOf_size, List.take_of_length_le (by rw [List.length_drop]; omega)]

/-- a walker in block b: what is left -/
def WkI (b : Nat) (r : List UInt8) (w : World) : Prop := w.heap[b]? = some (.cells #[.string (bytesOf r)] 108 (0, 0))
abbrev At1 (b : Nat) (w w' : World) : Prop := Turn (fun i => i = b) w w'

section
variable {b : Nat} {r : List UInt8} {w : World}
set_option maxRecDepth 100000 in
set_option maxHeartbeats 1000000 in
theorem ktake_any (n : Int) (h : WkI b r w) (hr : r.length ≤ 1000000) :
    Calls Tryz.prog 98 #[.pointer (some ⟨b, 0, none⟩), .int .i64 n] w fun e w' => e = .returned (.string (bytesOf (if 0 ≤ n ∧ n ≤ (r.length : Int) then r.take n.toNat else []))) ∧ WkI b (dropW n r) w' ∧ At1 b w w' := by
  have q0 : w.cell? ⟨b, 0, none⟩ = some (.string (bytesOf r)) := by rw [cell_of h]; rfl
  have f0 := frozen_of h 0
  have HB : Hid (w.heap[b]? = some (.cells #[.string (bytesOf r)] 108 (0, 0))) := h
  have HS : Hid ((bytesOf r).size = r.length) := bytesOf_size r
  have hsz : (bytesOf r).size ≤ 1000000 := by rw [bytesOf_size]; exact hr
  have hlen : (r.length : Int) = ((bytesOf r).size : Int) := by rw [bytesOf_size]
  have HTk := take_ext r
  have HDr := drop_ext r
  obtain ⟨s, hs⟩ : ∃ s, bytesOf r = s := ⟨_, rfl⟩
  have HTk : Hid (∀ n : Nat, s.extract 0 n = bytesOf (r.take n)) := fun n => by rw [← hs]; exact take_ext r n
  have HDr : Hid (∀ n : Nat, s.extract n s.size = bytesOf (r.drop n)) := fun n => by rw [← hs]; exact drop_ext r n
  rw [hs] at q0 HB HS hsz hlen
  rw [hlen]
  unfold dropW
  rw [hlen]
  clear h hs hlen
  by_cases h0 : 0 ≤ n
  · by_cases h1 : n ≤ (s.size : Int)
    · rw [if_pos ⟨h0, h1⟩, if_pos ⟨h0, h1⟩]
      obtain ⟨k, rfl⟩ := Int.eq_ofNat_of_zero_le h0
      have k1 : ¬ ((k : Int) < 0) := by omega
      have k2 : ¬ ((s.size : Int) < (k : Int)) := by omega
      have k3 : k ≤ s.size := by omega
      go_enter Tryz.func98, Tryz.ntmps98
      go_wp2
      go_ret
      refine ⟨by rw [HTk.out]; rfl, ?_, Turn.setCell w ⟨b, 0, none⟩ _ rfl⟩
      show _ = _
      rw [← HDr.out]
      exact heap_setCell_same HB.out 0 _
    · rw [if_neg (by omega), if_neg (by omega)]
      have k1 : ¬ (n < 0) := by omega
      have k2 : (s.size : Int) < n := by omega
      go_enter Tryz.func98, Tryz.ntmps98
      go_wp2
      go_ret
      exact ⟨rfl, heap_setCell_same HB.out 0 _, Turn.setCell w ⟨b, 0, none⟩ _ rfl⟩
  · rw [if_neg (by omega), if_neg (by omega)]
    have k1 : n < 0 := by omega
    go_enter Tryz.func98, Tryz.ntmps98
    go_wp2
    go_ret
    exact ⟨rfl, heap_setCell_same HB.out 0 _, Turn.setCell w ⟨b, 0, none⟩ _ rfl⟩

/-- a text's bytes as a slice of one's own -/
theorem conv_at (s : ByteArray) (W : World) : ∃ u c, (convert 9 73 (.string s)).run Tryz.prog W = .ok (.slice (some ⟨W.heap.size, 0, none⟩) s.size c) u ∧ Below W.heap.size W u ∧ ∀ (j : Nat) (x : UInt8), s.data.toList[j]? = some x → u.cell? ⟨W.heap.size, j, none⟩ = some (.int .u8 (x.toNat : Int)) := by
  refine ⟨_, _, Lib.run_convert_string_bytes W 9 73 5 s Tryz.underlying9 Tryz.underlying73 Tryz.underlying5, ?_, fun j x hx => ?_⟩
  · exact ⟨rfl, rfl, rfl, by rw [Lib.bytesWorld_size]; omega, fun j hj => Lib.bytesWorld_at_old W _ s j hj⟩
  · obtain ⟨hj, rfl⟩ := List.getElem?_eq_some_iff.1 hx
    have hj' : j < s.size := by rw [← size_list]; exact hj
    have h := Lib.bytesWorld_cell W 5 s j hj'
    rw [h, List.getD, List.getElem?_eq_getElem hj]
    rfl

set_option maxRecDepth 100000 in
set_option maxHeartbeats 1000000 in
theorem knumber_any (h : WkI b r w) (hr : r.length ≤ 1000000) :
    Calls Tryz.prog 76 #[.pointer (some ⟨b, 0, none⟩)] w fun e w' => e = .returned (.int .i64 (nv r)) ∧ WkI b (numW r) w' ∧ At1 b w w' := by
  have hbl := lt_of h
  obtain ⟨l, hl⟩ : ∃ l, (if (0 : Int) ≤ 8 ∧ (8 : Int) ≤ (r.length : Int) then r.take (8 : Int).toNat else []) = l := ⟨_, rfl⟩
  have HT : Hid (Calls Tryz.prog 98 #[.pointer (some ⟨b, 0, none⟩), .int .i64 8] w fun e w' => e = .returned (.string (bytesOf l)) ∧ Hid (WkI b (numW r) w' ∧ At1 b w w')) := by
    have := ktake_any 8 h hr
    rw [hl, dropW_8] at this
    exact this
  have HE : Hid (upto l l.length = nv r) := by
    show _ = _
    unfold nv
    rw [← hl]
    by_cases h8 : 8 ≤ r.length
    · rw [if_pos ⟨by decide, by omega⟩, if_pos h8]
      have : (r.take 8).length = 8 := by rw [List.length_take]; omega
      show upto (r.take 8) (r.take 8).length = _
      rw [this, upto_all this]
    · rw [if_neg (by omega), if_neg h8]
      exact upto_zero _
  have hN8 : l.length ≤ 8 := by
    rw [← hl]
    split
    · show (r.take 8).length ≤ 8
      rw [List.length_take]; omega
    · exact Nat.zero_le _
  obtain ⟨N, hN⟩ : ∃ N, l.length = N := ⟨_, rfl⟩
  have HN : Hid (l.length = N) := hN
  rw [hN] at HE hN8
  have HV : Hid (∀ w1, ∃ u c, (convert 9 73 (.string (bytesOf l))).run Tryz.prog w1 = .ok (.slice (some ⟨w1.heap.size, 0, none⟩) N c) u ∧ Hid (Below w1.heap.size w1 u) ∧ Hid (∀ (j : Nat) (x : UInt8), l[j]? = some x → u.cell? ⟨w1.heap.size, j, none⟩ = some (.int .u8 (x.toNat : Int)))) := fun w1 => by
    obtain ⟨u, c, h1, h3, h4⟩ := conv_at (bytesOf l) w1
    rw [bytesOf_size, hN] at h1
    rw [bytesOf_list] at h4
    exact ⟨u, c, h1, h3, h4⟩
  have HST : Hid (∀ (j : Nat) (x : UInt8), l[j]? = some x → j < 8 → bits .or .i64 (upto l j) (IntKind.i64.wrap ((x.toNat : Int) * 2 ^ (8 * j))) = upto l (j + 1)) := fun j x hx hj => upto_next hx hj
  have hz := upto_zero l
  have HZ : Hid (upto l 0 = 0) := hz
  clear h hl hN hz
  go_enter Tryz.func76, Tryz.ntmps76
  go_wp2_with (go_at_call 98; go_must (refine HT.out.mono ?_; rintro e w1 ⟨rfl, K1⟩; obtain ⟨u, cp, hconv, HB1, HC⟩ := HV.out w1))
  obtain ⟨g, hg⟩ : ∃ g, w1.heap.size = g := ⟨_, rfl⟩
  have HG : Hid (w1.heap.size = g) := hg
  rw [hg] at HC ⊢
  clear hconv hg
  go_loopw [3, 10] (fun v i wr => ∃ (j : Nat) (n : Int), j ≤ N ∧ i = .int .i64 j ∧ v = .int .i64 n ∧ Hid (n = upto l j) ∧ wr = u) (fun _ i _ => N - (intOf i).toNat)
  case atStart => exact ⟨0, 0, Nat.zero_le _, rfl, rfl, (by show _ = _; exact HZ.out.symm), rfl⟩
  case round =>
    obtain ⟨j, n, hj, rfl, rfl, Hn, rfl⟩ := hrel
    by_cases hlt : j < N
    · obtain ⟨x, hx⟩ : ∃ x, l[j]? = some x := ⟨_, List.getElem?_eq_getElem (by rw [HN.out]; exact hlt)⟩
      have q1 := HC.out j x hx
      have HX := HST.out j x hx (by omega)
      have hx2 : x.toNat < 256 := x.toNat_lt
      obtain ⟨c, hc⟩ : ∃ c, x.toNat = c := ⟨_, rfl⟩
      rw [hc] at q1 HX hx2
      have HX' : Hid (bits .or .i64 (upto l j) (IntKind.i64.wrap ((c : Int) * 2 ^ (8 * j))) = upto l (j + 1)) := HX
      have hlI : (j : Int) < (N : Int) := by omega
      have k1 : IntKind.i64.wrap (c : Int) = (c : Int) := wrap_small _ (by omega) (by omega)
      have k2 : IntKind.i64.wrap (8 * (j : Int)) = 8 * (j : Int) := wrap_small _ (by omega) (by omega)
      have k3 : 0 ≤ 8 * (j : Int) := by omega
      have k4 : 8 * (j : Int) ≤ 64 := by omega
      have k5 : (8 * (j : Int)).toNat = 8 * j := by omega
      clear hx hc HX
      go_wp2
      go_roundw
      case rel =>
        refine ⟨j + 1, _, by omega, by go_num, rfl, ?_, trivial⟩
        show _ = _
        rw [← HX'.out, ← Hn.out, IntWalk.i64_left]
      case measure => simp [intOf]; omega
    · have hlI : ¬ (j : Int) < (N : Int) := by omega
      go_wp2
      go_ret
      refine ⟨by rw [← HE.out, Hn.out, show j = N by omega]; rfl, ?_, K1.out.2.trans (Turn.ofBelow _ HB1.out)⟩
      exact (HB1.out.block b (lt_of K1.out.1)).trans K1.out.1

set_option maxHeartbeats 400000 in
theorem ktext_any (h : WkI b r w) (hr : r.length ≤ 1000000) :
    Calls Tryz.prog 73 #[.pointer (some ⟨b, 0, none⟩)] w fun e w' => e = .returned (.tuple #[]) ∧ WkI b (textW r) w' ∧ At1 b w w' := by
  have H1 : Hid (Calls Tryz.prog 76 #[.pointer (some ⟨b, 0, none⟩)] w fun e w' => e = .returned (.int .i64 (nv r)) ∧ Hid (WkI b (numW r) w' ∧ At1 b w w')) := knumber_any h hr
  have H2 : Hid (∀ w1, WkI b (numW r) w1 ∧ At1 b w w1 → Calls Tryz.prog 98 #[.pointer (some ⟨b, 0, none⟩), .int .i64 (nv r)] w1 fun e w' => ∃ s, e = .returned (.string s) ∧ Hid (WkI b (textW r) w' ∧ At1 b w w')) := fun w1 hu =>
    (ktake_any (nv r) hu.1 (by unfold numW; rw [List.length_drop]; omega)).mono fun e w' ⟨e1, e2, e3⟩ => ⟨_, e1, e2, hu.2.trans e3⟩
  clear h
  go_enter Tryz.func73, Tryz.ntmps73
  go_wp2_with (first
    | (go_at_call 76; go_must (refine H1.out.mono ?_; rintro e w1 ⟨rfl, K1⟩))
    | (go_at_call 98; go_must (refine (H2.out _ K1.out).mono ?_; rintro e w2 ⟨s, rfl, K2⟩)))
  go_end0
  exact ⟨rfl, K2.out⟩

set_option maxHeartbeats 400000 in
theorem kcolumn_any (h : WkI b r w) (hr : r.length ≤ 1000000) :
    Calls Tryz.prog 75 #[.pointer (some ⟨b, 0, none⟩)] w fun e w' => e = .returned (.tuple #[]) ∧ WkI b (colW r) w' ∧ At1 b w w' := by
  have H1 : Hid (Calls Tryz.prog 73 #[.pointer (some ⟨b, 0, none⟩)] w fun e w' => e = .returned (.tuple #[]) ∧ Hid (WkI b (textW r) w' ∧ At1 b w w')) := ktext_any h hr
  have H2 : Hid (∀ w1, WkI b (textW r) w1 ∧ At1 b w w1 → Calls Tryz.prog 76 #[.pointer (some ⟨b, 0, none⟩)] w1 fun e w' => ∃ n, e = .returned (.int .i64 n) ∧ Hid (WkI b (colW r) w' ∧ At1 b w w')) := fun w1 hu =>
    (knumber_any hu.1 (Nat.le_trans (ends_text r).length_le hr)).mono fun e w' ⟨e1, e2, e3⟩ => ⟨_, e1, e2, hu.2.trans e3⟩
  clear h
  go_enter Tryz.func75, Tryz.ntmps75
  go_wp2_with (first
    | (go_at_call 73; go_must (refine H1.out.mono ?_; rintro e w1 ⟨rfl, K1⟩))
    | (go_at_call 76; go_must (refine (H2.out _ K1.out).mono ?_; rintro e w2 ⟨n, rfl, K2⟩)))
  go_end0
  exact ⟨rfl, K2.out⟩

end

end Go.Proofs.YtnboanlhdllhnaaGreat

/- The program's walker: lists (the first, klistC_any, is the pattern of the others). -/
namespace Go.Proofs.YtnboanlhdllhnaaGreat
open Go.RowKit
section
variable {b : Nat} {r : List UInt8} {w : World}
set_option maxRecDepth 100000 in
set_option maxHeartbeats 1000000 in
theorem klistC_any (h : WkI b r w) (hr : r.length ≤ 1000000) :
    Calls Tryz.prog 74 #[.pointer (some ⟨b, 0, none⟩), .func (.func 75) #[.pointer (some ⟨b, 0, none⟩)] #[]] w fun e w' => e = .returned (.tuple #[]) ∧ WkI b (listW colW r) w' ∧ At1 b w w' := by
  have H1 : Hid (Calls Tryz.prog 76 #[.pointer (some ⟨b, 0, none⟩)] w fun e w' => e = .returned (.int .i64 (nv r)) ∧ Hid (WkI b (numW r) w' ∧ At1 b w w')) := knumber_any h hr
  have H2 : Hid (∀ (q : List UInt8) (u : World), q <:+ r → WkI b q u → At1 b w u → Calls Tryz.prog 75 #[.pointer (some ⟨b, 0, none⟩)] u fun e w' => e = .returned (.tuple #[]) ∧ Hid (WkI b (colW q) w' ∧ At1 b w w')) := fun q u hq hu ht =>
    (kcolumn_any hu (Nat.le_trans hq.length_le hr)).mono fun e w' ⟨e1, e2, e3⟩ => ⟨e1, e2, ht.trans e3⟩
  have HE : Hid (∀ q, colW q <:+ q) := ends_col
  obtain ⟨n, hn⟩ : ∃ n, nv r = n := ⟨_, rfl⟩
  have HN : Hid (nv r = n) := hn
  have hni := nv_i64 r
  rw [hn] at H1 hni
  obtain ⟨hn1, hn2⟩ := hni
  clear h hn
  go_enter Tryz.func74, Tryz.ntmps74
  go_wp2_with (go_at_call 76; go_must (refine H1.out.mono ?_; rintro e w1 ⟨rfl, K1⟩))
  go_loopw [4] (fun v wr => ∃ (k : Int) (q : List UInt8), v = .int .i64 k ∧ -9223372036854775808 ≤ k ∧ k ≤ 9223372036854775807 ∧ Hid (repW colW k.toNat q = listW colW r ∧ q <:+ r ∧ WkI b q wr ∧ At1 b w wr)) (fun v _ => (intOf v).toNat)
  case atStart => exact ⟨n, numW r, rfl, hn1, hn2, (by rw [← HN.out]; exact ⟨rfl, ends_num r, K1.out⟩)⟩
  case round =>
    clear K1
    obtain ⟨k, q, rfl, k1, k2, HQ⟩ := hrel
    have q0 : wr.cell? ⟨b, 0, none⟩ = some (.string (bytesOf q)) := by rw [cell_of HQ.out.2.2.1]; rfl
    by_cases hk : 0 < k
    · by_cases hq : q = []
      · have e1 : (bytesOf q) = ⟨#[]⟩ := by rw [hq]; rfl
        rw [e1] at q0
        go_wp2
        go_end0
        refine ⟨rfl, ?_⟩
        obtain ⟨g1, g2, g3, g4⟩ := HQ.out
        have : repW colW k.toNat q = q := by
          rw [show k.toNat = (k.toNat - 1) + 1 by omega, repW, if_pos hq, hq]
        rw [this] at g1
        rw [← g1]
        exact ⟨g3, g4⟩
      · have e1 : ¬ (bytesOf q = ⟨#[]⟩) := fun e => hq (by have := congrArg (fun s => s.data.toList) e; rw [bytesOf_list] at this; exact this)
        have H3 : Hid (Calls Tryz.prog 75 #[.pointer (some ⟨b, 0, none⟩)] wr fun e w' => e = .returned (.tuple #[]) ∧ Hid (WkI b (colW q) w' ∧ At1 b w w')) := H2.out q wr HQ.out.2.1 HQ.out.2.2.1 HQ.out.2.2.2
        obtain ⟨s, hs⟩ : ∃ s, bytesOf q = s := ⟨_, rfl⟩
        rw [hs] at q0 e1
        have e2 : ¬ s.toList = [] := fun e => e1 (by rw [Go.ByteArray.toList_eq] at e; cases s; simp at e; rw [e])
        have e3 : s.toList.isEmpty = false := by cases hq : s.toList with | nil => exact absurd hq e2 | cons _ _ => rfl
        clear hs
        go_wp2_with (go_at_call 75; go_must (refine H3.out.mono ?_; rintro e w2 ⟨rfl, K2⟩))
        go_roundw
        case rel =>
          refine ⟨k - 1, colW q, by go_num, by omega, by omega, ?_⟩
          obtain ⟨g1, g2, g3, g4⟩ := HQ.out
          refine ⟨?_, (HE.out q).trans g2, K2.out⟩
          rw [← g1, show k.toNat = (k - 1).toNat + 1 by omega]
          conv => rhs; rw [repW, if_neg hq]
        case measure => simp [intOf]; omega
    · go_wp2
      go_end0
      refine ⟨rfl, ?_⟩
      obtain ⟨g1, g2, g3, g4⟩ := HQ.out
      rw [show k.toNat = 0 by omega] at g1
      rw [← g1]
      exact ⟨g3, g4⟩

set_option maxHeartbeats 400000 in
theorem kindex1_any (bx : Nat) (hx : w.heap[bx]? = some (.cells #[.pointer (some ⟨b, 0, none⟩)] 106 (0, 0))) (h : WkI b r w) (hr : r.length ≤ 1000000) :
    Calls Tryz.prog 99 #[.pointer (some ⟨bx, 0, none⟩)] w fun e w' => e = .returned (.tuple #[]) ∧ WkI b (numW r) w' ∧ At1 b w w' := by
  have H1 : Hid (Calls Tryz.prog 76 #[.pointer (some ⟨b, 0, none⟩)] w fun e w' => e = .returned (.int .i64 (nv r)) ∧ Hid (WkI b (numW r) w' ∧ At1 b w w')) := knumber_any h hr
  have q0 : w.cell? ⟨bx, 0, none⟩ = some (.pointer (some ⟨b, 0, none⟩)) := by rw [cell_of hx]; rfl
  clear h hx
  go_enter Tryz.func99, Tryz.ntmps99
  go_wp2_with (go_at_call 76; go_must (refine H1.out.mono ?_; rintro e w1 ⟨rfl, K1⟩))
  go_end0
  exact ⟨rfl, K1.out⟩

set_option maxRecDepth 100000 in
set_option maxHeartbeats 1000000 in
theorem klistN_any (bx : Nat) (hne : bx ≠ b) (hx : w.heap[bx]? = some (.cells #[.pointer (some ⟨b, 0, none⟩)] 106 (0, 0))) (h : WkI b r w) (hr : r.length ≤ 1000000) :
    Calls Tryz.prog 74 #[.pointer (some ⟨b, 0, none⟩), .func (.func 99) #[] #[.pointer (some ⟨bx, 0, none⟩)]] w fun e w' => e = .returned (.tuple #[]) ∧ WkI b (listW numW r) w' ∧ At1 b w w' := by
  have H1 : Hid (Calls Tryz.prog 76 #[.pointer (some ⟨b, 0, none⟩)] w fun e w' => e = .returned (.int .i64 (nv r)) ∧ Hid (WkI b (numW r) w' ∧ At1 b w w')) := knumber_any h hr
  have H2 : Hid (∀ (q : List UInt8) (u : World), q <:+ r → WkI b q u → At1 b w u → Calls Tryz.prog 99 #[.pointer (some ⟨bx, 0, none⟩)] u fun e w' => e = .returned (.tuple #[]) ∧ Hid (WkI b (numW q) w' ∧ At1 b w w')) := fun q u hq hu ht =>
    (kindex1_any bx ((ht.block bx (lt_of hx) hne).trans hx) hu (Nat.le_trans hq.length_le hr)).mono fun e w' ⟨e1, e2, e3⟩ => ⟨e1, e2, ht.trans e3⟩
  have HE : Hid (∀ q, numW q <:+ q) := ends_num
  obtain ⟨n, hn⟩ : ∃ n, nv r = n := ⟨_, rfl⟩
  have HN : Hid (nv r = n) := hn
  have hni := nv_i64 r
  rw [hn] at H1 hni
  obtain ⟨hn1, hn2⟩ := hni
  clear h hn hx
  go_enter Tryz.func74, Tryz.ntmps74
  go_wp2_with (go_at_call 76; go_must (refine H1.out.mono ?_; rintro e w1 ⟨rfl, K1⟩))
  go_loopw [4] (fun v wr => ∃ (k : Int) (q : List UInt8), v = .int .i64 k ∧ -9223372036854775808 ≤ k ∧ k ≤ 9223372036854775807 ∧ Hid (repW numW k.toNat q = listW numW r ∧ q <:+ r ∧ WkI b q wr ∧ At1 b w wr)) (fun v _ => (intOf v).toNat)
  case atStart => exact ⟨n, numW r, rfl, hn1, hn2, (by rw [← HN.out]; exact ⟨rfl, ends_num r, K1.out⟩)⟩
  case round =>
    clear K1
    obtain ⟨k, q, rfl, k1, k2, HQ⟩ := hrel
    have q0 : wr.cell? ⟨b, 0, none⟩ = some (.string (bytesOf q)) := by rw [cell_of HQ.out.2.2.1]; rfl
    by_cases hk : 0 < k
    · by_cases hq : q = []
      · have e1 : (bytesOf q) = ⟨#[]⟩ := by rw [hq]; rfl
        rw [e1] at q0
        go_wp2
        go_end0
        refine ⟨rfl, ?_⟩
        obtain ⟨g1, g2, g3, g4⟩ := HQ.out
        have : repW numW k.toNat q = q := by
          rw [show k.toNat = (k.toNat - 1) + 1 by omega, repW, if_pos hq, hq]
        rw [this] at g1
        rw [← g1]
        exact ⟨g3, g4⟩
      · have e1 : ¬ (bytesOf q = ⟨#[]⟩) := fun e => hq (by have := congrArg (fun s => s.data.toList) e; rw [bytesOf_list] at this; exact this)
        have H3 : Hid (Calls Tryz.prog 99 #[.pointer (some ⟨bx, 0, none⟩)] wr fun e w' => e = .returned (.tuple #[]) ∧ Hid (WkI b (numW q) w' ∧ At1 b w w')) := H2.out q wr HQ.out.2.1 HQ.out.2.2.1 HQ.out.2.2.2
        obtain ⟨s, hs⟩ : ∃ s, bytesOf q = s := ⟨_, rfl⟩
        rw [hs] at q0 e1
        have e2 : ¬ s.toList = [] := fun e => e1 (by rw [Go.ByteArray.toList_eq] at e; cases s; simp at e; rw [e])
        have e3 : s.toList.isEmpty = false := by cases hq : s.toList with | nil => exact absurd hq e2 | cons _ _ => rfl
        clear hs
        go_wp2_with (go_at_call 99; go_must (refine H3.out.mono ?_; rintro e w2 ⟨rfl, K2⟩))
        go_roundw
        case rel =>
          refine ⟨k - 1, numW q, by go_num, by omega, by omega, ?_⟩
          obtain ⟨g1, g2, g3, g4⟩ := HQ.out
          refine ⟨?_, (HE.out q).trans g2, K2.out⟩
          rw [← g1, show k.toNat = (k - 1).toNat + 1 by omega]
          conv => rhs; rw [repW, if_neg hq]
        case measure => simp [intOf]; omega
    · go_wp2
      go_end0
      refine ⟨rfl, ?_⟩
      obtain ⟨g1, g2, g3, g4⟩ := HQ.out
      rw [show k.toNat = 0 by omega] at g1
      rw [← g1]
      exact ⟨g3, g4⟩

abbrev wkBox (b : Nat) : Obj := .cells #[.pointer (some ⟨b, 0, none⟩)] 106
set_option maxRecDepth 100000 in
set_option maxHeartbeats 1000000 in
theorem kindex_any (h : WkI b r w) (hr : r.length ≤ 1000000) :
    Calls Tryz.prog 77 #[.pointer (some ⟨b, 0, none⟩)] w fun e w' => e = .returned (.tuple #[]) ∧ WkI b (ixW r) w' ∧ At1 b w w' := by
  have hb := lt_of h
  have ht0 : At1 b w (w.alloc (wkBox b)) := Turn.alloc w _
  have h0 : WkI b r (w.alloc (wkBox b)) := (Below.heap_alloc w _ b hb).trans h
  have hne : w.heap.size ≠ b := by omega
  have HX : Hid (∀ u, At1 b (w.alloc (wkBox b)) u → u.heap[w.heap.size]? = some (wkBox b)) := fun u hu => (hu.block _ (by simp) hne).trans (heap_new w _)
  have HXc : Hid (∀ u, At1 b (w.alloc (wkBox b)) u → u.cell? ⟨w.heap.size, 0, none⟩ = some (.pointer (some ⟨b, 0, none⟩))) := fun u hu => by rw [cell_of (HX.out u hu)]; rfl
  have q1 : (textW r).length ≤ 1000000 := Nat.le_trans (ends_text r).length_le hr
  have q2 : (listW numW (textW r)).length ≤ 1000000 := Nat.le_trans (ends_list ends_num _).length_le q1
  have H1 : Hid (Calls Tryz.prog 73 #[.pointer (some ⟨b, 0, none⟩)] (w.alloc (wkBox b)) fun e w' => e = .returned (.tuple #[]) ∧ Hid (WkI b (textW r) w' ∧ At1 b (w.alloc (wkBox b)) w')) := ktext_any h0 hr
  have H2 : Hid (∀ u, WkI b (textW r) u ∧ At1 b (w.alloc (wkBox b)) u → Calls Tryz.prog 74 #[.pointer (some ⟨b, 0, none⟩), .func (.func 99) #[] #[.pointer (some ⟨w.heap.size, 0, none⟩)]] u fun e w' => e = .returned (.tuple #[]) ∧ Hid (WkI b (listW numW (textW r)) w' ∧ At1 b (w.alloc (wkBox b)) w')) := fun u hu =>
    (klistN_any w.heap.size hne (HX.out u hu.2) hu.1 q1).mono fun e w' ⟨e1, e2, e3⟩ => ⟨e1, e2, hu.2.trans e3⟩
  have H3 : Hid (∀ u, WkI b (listW numW (textW r)) u ∧ At1 b (w.alloc (wkBox b)) u → Calls Tryz.prog 98 #[.pointer (some ⟨b, 0, none⟩), .int .i64 1] u fun e w' => ∃ s, e = .returned (.string s) ∧ Hid (WkI b (ixW r) w' ∧ At1 b w w')) := fun u hu =>
    (ktake_any 1 hu.1 q2).mono fun e w' ⟨e1, e2, e3⟩ => ⟨_, e1, e2, ht0.trans (hu.2.trans e3)⟩
  clear h h0 ht0
  go_enter Tryz.func77, Tryz.ntmps77
  go_wp2_with (first
    | (go_at_call 73; go_must (refine H1.out.mono ?_; rintro e w1 ⟨rfl, K1⟩; have c1 := HXc.out _ K1.out.2))
    | (go_at_call 74; go_must (refine (H2.out _ K1.out).mono ?_; rintro e w2 ⟨rfl, K2⟩; have c2 := HXc.out _ K2.out.2))
    | (go_at_call 98; go_must (refine (H3.out _ K2.out).mono ?_; rintro e w3 ⟨s, rfl, K3⟩)))
  go_end0
  exact ⟨rfl, K3.out⟩

set_option maxRecDepth 100000 in
set_option maxHeartbeats 1000000 in
theorem klistX_any (h : WkI b r w) (hr : r.length ≤ 1000000) :
    Calls Tryz.prog 74 #[.pointer (some ⟨b, 0, none⟩), .func (.func 77) #[.pointer (some ⟨b, 0, none⟩)] #[]] w fun e w' => e = .returned (.tuple #[]) ∧ WkI b (listW ixW r) w' ∧ At1 b w w' := by
  have H1 : Hid (Calls Tryz.prog 76 #[.pointer (some ⟨b, 0, none⟩)] w fun e w' => e = .returned (.int .i64 (nv r)) ∧ Hid (WkI b (numW r) w' ∧ At1 b w w')) := knumber_any h hr
  have H2 : Hid (∀ (q : List UInt8) (u : World), q <:+ r → WkI b q u → At1 b w u → Calls Tryz.prog 77 #[.pointer (some ⟨b, 0, none⟩)] u fun e w' => e = .returned (.tuple #[]) ∧ Hid (WkI b (ixW q) w' ∧ At1 b w w')) := fun q u hq hu ht =>
    (kindex_any hu (Nat.le_trans hq.length_le hr)).mono fun e w' ⟨e1, e2, e3⟩ => ⟨e1, e2, ht.trans e3⟩
  have HE : Hid (∀ q, ixW q <:+ q) := ends_ix
  obtain ⟨n, hn⟩ : ∃ n, nv r = n := ⟨_, rfl⟩
  have HN : Hid (nv r = n) := hn
  have hni := nv_i64 r
  rw [hn] at H1 hni
  obtain ⟨hn1, hn2⟩ := hni
  clear h hn
  go_enter Tryz.func74, Tryz.ntmps74
  go_wp2_with (go_at_call 76; go_must (refine H1.out.mono ?_; rintro e w1 ⟨rfl, K1⟩))
  go_loopw [4] (fun v wr => ∃ (k : Int) (q : List UInt8), v = .int .i64 k ∧ -9223372036854775808 ≤ k ∧ k ≤ 9223372036854775807 ∧ Hid (repW ixW k.toNat q = listW ixW r ∧ q <:+ r ∧ WkI b q wr ∧ At1 b w wr)) (fun v _ => (intOf v).toNat)
  case atStart => exact ⟨n, numW r, rfl, hn1, hn2, (by rw [← HN.out]; exact ⟨rfl, ends_num r, K1.out⟩)⟩
  case round =>
    clear K1
    obtain ⟨k, q, rfl, k1, k2, HQ⟩ := hrel
    have q0 : wr.cell? ⟨b, 0, none⟩ = some (.string (bytesOf q)) := by rw [cell_of HQ.out.2.2.1]; rfl
    by_cases hk : 0 < k
    · by_cases hq : q = []
      · have e1 : (bytesOf q) = ⟨#[]⟩ := by rw [hq]; rfl
        rw [e1] at q0
        go_wp2
        go_end0
        refine ⟨rfl, ?_⟩
        obtain ⟨g1, g2, g3, g4⟩ := HQ.out
        have : repW ixW k.toNat q = q := by
          rw [show k.toNat = (k.toNat - 1) + 1 by omega, repW, if_pos hq, hq]
        rw [this] at g1
        rw [← g1]
        exact ⟨g3, g4⟩
      · have e1 : ¬ (bytesOf q = ⟨#[]⟩) := fun e => hq (by have := congrArg (fun s => s.data.toList) e; rw [bytesOf_list] at this; exact this)
        have H3 : Hid (Calls Tryz.prog 77 #[.pointer (some ⟨b, 0, none⟩)] wr fun e w' => e = .returned (.tuple #[]) ∧ Hid (WkI b (ixW q) w' ∧ At1 b w w')) := H2.out q wr HQ.out.2.1 HQ.out.2.2.1 HQ.out.2.2.2
        obtain ⟨s, hs⟩ : ∃ s, bytesOf q = s := ⟨_, rfl⟩
        rw [hs] at q0 e1
        have e2 : ¬ s.toList = [] := fun e => e1 (by rw [Go.ByteArray.toList_eq] at e; cases s; simp at e; rw [e])
        have e3 : s.toList.isEmpty = false := by cases hq : s.toList with | nil => exact absurd hq e2 | cons _ _ => rfl
        clear hs
        go_wp2_with (go_at_call 77; go_must (refine H3.out.mono ?_; rintro e w2 ⟨rfl, K2⟩))
        go_roundw
        case rel =>
          refine ⟨k - 1, ixW q, by go_num, by omega, by omega, ?_⟩
          obtain ⟨g1, g2, g3, g4⟩ := HQ.out
          refine ⟨?_, (HE.out q).trans g2, K2.out⟩
          rw [← g1, show k.toNat = (k - 1).toNat + 1 by omega]
          conv => rhs; rw [repW, if_neg hq]
        case measure => simp [intOf]; omega
    · go_wp2
      go_end0
      refine ⟨rfl, ?_⟩
      obtain ⟨g1, g2, g3, g4⟩ := HQ.out
      rw [show k.toNat = 0 by omega] at g1
      rw [← g1]
      exact ⟨g3, g4⟩

set_option maxRecDepth 100000 in
set_option maxHeartbeats 1000000 in
theorem ktable_any (h : WkI b r w) (hr : r.length ≤ 1000000) :
    Calls Tryz.prog 52 #[.pointer (some ⟨b, 0, none⟩)] w fun e w' => e = .returned (.tuple #[]) ∧ WkI b (tabW r) w' ∧ At1 b w w' := by
  have q1 : (textW r).length ≤ 1000000 := Nat.le_trans (ends_text r).length_le hr
  have q2 : (listW colW (textW r)).length ≤ 1000000 := Nat.le_trans (ends_list ends_col _).length_le q1
  have q3 : (numW (listW colW (textW r))).length ≤ 1000000 := Nat.le_trans (ends_num _).length_le q2
  have H1 : Hid (Calls Tryz.prog 73 #[.pointer (some ⟨b, 0, none⟩)] w fun e w' => e = .returned (.tuple #[]) ∧ Hid (WkI b (textW r) w' ∧ At1 b w w')) := ktext_any h hr
  have H2 : Hid (∀ u, WkI b (textW r) u ∧ At1 b w u → Calls Tryz.prog 74 #[.pointer (some ⟨b, 0, none⟩), .func (.func 75) #[.pointer (some ⟨b, 0, none⟩)] #[]] u fun e w' => e = .returned (.tuple #[]) ∧ Hid (WkI b (listW colW (textW r)) w' ∧ At1 b w w')) := fun u hu =>
    (klistC_any hu.1 q1).mono fun e w' ⟨e1, e2, e3⟩ => ⟨e1, e2, hu.2.trans e3⟩
  have H3 : Hid (∀ u, WkI b (listW colW (textW r)) u ∧ At1 b w u → Calls Tryz.prog 76 #[.pointer (some ⟨b, 0, none⟩)] u fun e w' => ∃ n, e = .returned (.int .i64 n) ∧ Hid (WkI b (numW (listW colW (textW r))) w' ∧ At1 b w w')) := fun u hu =>
    (knumber_any hu.1 q2).mono fun e w' ⟨e1, e2, e3⟩ => ⟨_, e1, e2, hu.2.trans e3⟩
  have H4 : Hid (∀ u, WkI b (numW (listW colW (textW r))) u ∧ At1 b w u → Calls Tryz.prog 74 #[.pointer (some ⟨b, 0, none⟩), .func (.func 77) #[.pointer (some ⟨b, 0, none⟩)] #[]] u fun e w' => e = .returned (.tuple #[]) ∧ Hid (WkI b (tabW r) w' ∧ At1 b w w')) := fun u hu =>
    (klistX_any hu.1 q3).mono fun e w' ⟨e1, e2, e3⟩ => ⟨e1, e2, hu.2.trans e3⟩
  clear h
  go_enter Tryz.func52, Tryz.ntmps52
  go_wp2_with (first
    | (go_at_call 73; go_must (refine H1.out.mono ?_; rintro e w1 ⟨rfl, K1⟩))
    | (go_at_call 74; refine (H4.out _ K3.out).mono ?_; rintro e w4 ⟨rfl, K4⟩)
    | (go_at_call 74; go_must (refine (H2.out _ K1.out).mono ?_; rintro e w2 ⟨rfl, K2⟩))
    | (go_at_call 76; go_must (refine (H3.out _ K2.out).mono ?_; rintro e w3 ⟨n, rfl, K3⟩)))
  go_end0
  exact ⟨rfl, K4.out⟩
end

set_option maxRecDepth 100000 in
set_option maxHeartbeats 1000000 in
theorem split_any (r : List UInt8) (w : World) (hr : r.length ≤ 1000000) :
    Calls Tryz.prog 34 #[.string (bytesOf r)] w fun e w' => e = .returned (.tuple #[.string (bytesOf (r.take (r.length - (tabW r).length))), .string (bytesOf (tabW r))]) ∧ Below w.heap.size w w' := by
  have H1 : Hid (Calls Tryz.prog 52 #[.pointer (some ⟨w.heap.size, 0, none⟩)] (w.alloc (.cells #[.string (bytesOf r)] 108)) fun e w' => e = .returned (.tuple #[]) ∧ Hid (WkI w.heap.size (tabW r) w' ∧ Below w.heap.size w w')) :=
    (ktable_any (heap_new w _) hr).mono fun e w' ⟨e1, e2, e3⟩ => ⟨e1, e2, ((Below.refl _ w).alloc (Nat.le_refl _) _).trans ((e3.mono (S' := fun i => w.heap.size ≤ i) (fun i hi => by omega)).toBelow (by simp))⟩
  have hle := (ends_tab r).length_le
  have s1 : (bytesOf r).size = r.length := bytesOf_size _
  have s2 : (bytesOf (tabW r)).size = (tabW r).length := bytesOf_size _
  have HT : Hid (∀ n : Nat, (bytesOf r).extract 0 n = bytesOf (r.take n)) := take_ext r
  obtain ⟨n, hn⟩ : ∃ n, r.length = n := ⟨_, rfl⟩
  obtain ⟨m, hm⟩ : ∃ m, (tabW r).length = m := ⟨_, rfl⟩
  obtain ⟨s, hs⟩ : ∃ s, bytesOf r = s := ⟨_, rfl⟩
  obtain ⟨t, ht⟩ : ∃ t, bytesOf (tabW r) = t := ⟨_, rfl⟩
  have HC : Hid (∀ u, WkI w.heap.size (tabW r) u → u.cell? ⟨w.heap.size, 0, none⟩ = some (.string t)) := fun u hu => by rw [cell_of hu, ← ht]; rfl
  have HM : Hid (((n : Int) - (m : Int)) = ((n - m : Nat) : Int)) := by show _ = _; omega
  rw [hn, hs] at s1
  rw [hm, ht] at s2
  rw [hs] at HT H1
  rw [hn, hm] at hle
  rw [hn] at hr
  rw [hn, hm, hs, ht]
  clear hn hm hs ht
  go_enter Tryz.func34, Tryz.ntmps34
  go_wp2_with (go_at_call 52; go_must (refine H1.out.mono ?_; rintro e w1 ⟨rfl, K1⟩; have c1 := HC.out _ K1.out.1))
  go_quiet (fail)
  go_wp2_with fail
  go_ret2
  exact ⟨by rw [← HT.out]; rfl, K1.out.2.trans ((below_drewN w1 _).mono K1.out.2.size)⟩

end Go.Proofs.YtnboanlhdllhnaaGreat
