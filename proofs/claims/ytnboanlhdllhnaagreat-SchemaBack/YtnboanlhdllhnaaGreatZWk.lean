/- The program's walker: it goes over the bytes of a schema. -/
import Derived.Test.YtnboanlhdllhnaaGreatZRdP
import Derived.Test.YtnboanlhdllhnaaGreatZWrite
import Derived.Lib.ConvBytes
import Derived.BigQuiet
namespace Go.Proofs.YtnboanlhdllhnaaGreat
open Go.RowKit

theorem take_ext (r : List UInt8) (n : Nat) : (bytesOf r).extract 0 n = bytesOf (r.take n) := by rw [ext_list, List.drop_zero, Nat.sub_zero]
theorem drop_ext (r : List UInt8) (n : Nat) : (bytesOf r).extract n (bytesOf r).size = bytesOf (r.drop n) := by
  rw [ext_list, bytesOf_size, List.take_of_length_le (by rw [List.length_drop]; omega)]

/-- a walker in block b: what is left -/
def WkI (b : Nat) (r : List UInt8) (w : World) : Prop := w.heap[b]? = some (.cells #[.string (bytesOf r)] 108 (0, 0))
abbrev At1 (b : Nat) (w w' : World) : Prop := Turn (fun i => i = b) w w'

section
variable {b : Nat} {r : List UInt8} {w : World}
set_option maxRecDepth 100000 in
set_option maxHeartbeats 1000000 in
theorem ktake_any (n : Int) (h : WkI b r w) (hr : r.length ≤ 1000000) :
    Calls Tryz.prog 98 #[.pointer (some ⟨b, 0, none⟩), .int .i64 n] w fun e w' => e = .returned (.string (bytesOf (if 0 ≤ n ∧ n ≤ (r.length : Int) then r.take n.toNat else []))) ∧ WkI b (dropW n r) w' ∧ At1 b w w' := by
  have q0 : w.cell? ⟨b, 0, none⟩ = some (.string (bytesOf r)) := by rw [cell_of h]; rfl
  have f0 := frozen_of h 0
  have HB : Hid (w.heap[b]? = some (.cells #[.string (bytesOf r)] 108 (0, 0))) := h
  have HS : Hid ((bytesOf r).size = r.length) := bytesOf_size r
  have hsz : (bytesOf r).size ≤ 1000000 := by rw [bytesOf_size]; exact hr
  have hlen : (r.length : Int) = ((bytesOf r).size : Int) := by rw [bytesOf_size]
  have HTk := take_ext r
  have HDr := drop_ext r
  obtain ⟨s, hs⟩ : ∃ s, bytesOf r = s := ⟨_, rfl⟩
  have HTk : Hid (∀ n : Nat, s.extract 0 n = bytesOf (r.take n)) := fun n => by rw [← hs]; exact take_ext r n
  have HDr : Hid (∀ n : Nat, s.extract n s.size = bytesOf (r.drop n)) := fun n => by rw [← hs]; exact drop_ext r n
  rw [hs] at q0 HB HS hsz hlen
  rw [hlen]
  unfold dropW
  rw [hlen]
  clear h hs hlen
  by_cases h0 : 0 ≤ n
  · by_cases h1 : n ≤ (s.size : Int)
    · rw [if_pos ⟨h0, h1⟩, if_pos ⟨h0, h1⟩]
      obtain ⟨k, rfl⟩ := Int.eq_ofNat_of_zero_le h0
      have k1 : ¬ ((k : Int) < 0) := by omega
      have k2 : ¬ ((s.size : Int) < (k : Int)) := by omega
      have k3 : k ≤ s.size := by omega
      go_enter Tryz.func98, Tryz.ntmps98
      go_wp2
      go_ret
      refine ⟨by rw [HTk.out]; rfl, ?_, Turn.setCell w ⟨b, 0, none⟩ _ rfl⟩
      show _ = _
      rw [← HDr.out]
      exact heap_setCell_same HB.out 0 _
    · rw [if_neg (by omega), if_neg (by omega)]
      have k1 : ¬ (n < 0) := by omega
      have k2 : (s.size : Int) < n := by omega
      go_enter Tryz.func98, Tryz.ntmps98
      go_wp2
      go_ret
      exact ⟨rfl, heap_setCell_same HB.out 0 _, Turn.setCell w ⟨b, 0, none⟩ _ rfl⟩
  · rw [if_neg (by omega), if_neg (by omega)]
    have k1 : n < 0 := by omega
    go_enter Tryz.func98, Tryz.ntmps98
    go_wp2
    go_ret
    exact ⟨rfl, heap_setCell_same HB.out 0 _, Turn.setCell w ⟨b, 0, none⟩ _ rfl⟩

/-- a text's bytes as a slice of one's own -/
theorem conv_at (s : ByteArray) (W : World) : ∃ u c, (convert 9 73 (.string s)).run Tryz.prog W = .ok (.slice (some ⟨W.heap.size, 0, none⟩) s.size c) u ∧ Below W.heap.size W u ∧ ∀ (j : Nat) (x : UInt8), s.data.toList[j]? = some x → u.cell? ⟨W.heap.size, j, none⟩ = some (.int .u8 (x.toNat : Int)) := by
  refine ⟨_, _, Lib.run_convert_string_bytes W 9 73 5 s Tryz.underlying9 Tryz.underlying73 Tryz.underlying5, ?_, fun j x hx => ?_⟩
  · exact ⟨rfl, rfl, rfl, by rw [Lib.bytesWorld_size]; omega, fun j hj => Lib.bytesWorld_at_old W _ s j hj⟩
  · obtain ⟨hj, rfl⟩ := List.getElem?_eq_some_iff.1 hx
    have hj' : j < s.size := by rw [← size_list]; exact hj
    have h := Lib.bytesWorld_cell W 5 s j hj'
    rw [h, List.getD, List.getElem?_eq_getElem hj]
    rfl

set_option maxRecDepth 100000 in
set_option maxHeartbeats 1000000 in
theorem knumber_any (h : WkI b r w) (hr : r.length ≤ 1000000) :
    Calls Tryz.prog 76 #[.pointer (some ⟨b, 0, none⟩)] w fun e w' => e = .returned (.int .i64 (nv r)) ∧ WkI b (numW r) w' ∧ At1 b w w' := by
  have hbl := lt_of h
  obtain ⟨l, hl⟩ : ∃ l, (if (0 : Int) ≤ 8 ∧ (8 : Int) ≤ (r.length : Int) then r.take (8 : Int).toNat else []) = l := ⟨_, rfl⟩
  have HT : Hid (Calls Tryz.prog 98 #[.pointer (some ⟨b, 0, none⟩), .int .i64 8] w fun e w' => e = .returned (.string (bytesOf l)) ∧ Hid (WkI b (numW r) w' ∧ At1 b w w')) := by
    have := ktake_any 8 h hr
    rw [hl, dropW_8] at this
    exact this
  have HE : Hid (upto l l.length = nv r) := by
    show _ = _
    unfold nv
    rw [← hl]
    by_cases h8 : 8 ≤ r.length
    · rw [if_pos ⟨by decide, by omega⟩, if_pos h8]
      have : (r.take 8).length = 8 := by rw [List.length_take]; omega
      show upto (r.take 8) (r.take 8).length = _
      rw [this, upto_all this]
    · rw [if_neg (by omega), if_neg h8]
      exact upto_zero _
  have hN8 : l.length ≤ 8 := by
    rw [← hl]
    split
    · show (r.take 8).length ≤ 8
      rw [List.length_take]; omega
    · exact Nat.zero_le _
  obtain ⟨N, hN⟩ : ∃ N, l.length = N := ⟨_, rfl⟩
  have HN : Hid (l.length = N) := hN
  rw [hN] at HE hN8
  have HV : Hid (∀ w1, ∃ u c, (convert 9 73 (.string (bytesOf l))).run Tryz.prog w1 = .ok (.slice (some ⟨w1.heap.size, 0, none⟩) N c) u ∧ Hid (Below w1.heap.size w1 u) ∧ Hid (∀ (j : Nat) (x : UInt8), l[j]? = some x → u.cell? ⟨w1.heap.size, j, none⟩ = some (.int .u8 (x.toNat : Int)))) := fun w1 => by
    obtain ⟨u, c, h1, h3, h4⟩ := conv_at (bytesOf l) w1
    rw [bytesOf_size, hN] at h1
    rw [bytesOf_list] at h4
    exact ⟨u, c, h1, h3, h4⟩
  have HST : Hid (∀ (j : Nat) (x : UInt8), l[j]? = some x → j < 8 → bits .or .i64 (upto l j) (IntKind.i64.wrap ((x.toNat : Int) * 2 ^ (8 * j))) = upto l (j + 1)) := fun j x hx hj => upto_next hx hj
  have hz := upto_zero l
  have HZ : Hid (upto l 0 = 0) := hz
  clear h hl hN hz
  go_enter Tryz.func76, Tryz.ntmps76
  go_wp2_with (go_at_call 98; go_must (refine HT.out.mono ?_; rintro e w1 ⟨rfl, K1⟩; obtain ⟨u, cp, hconv, HB1, HC⟩ := HV.out w1))
  obtain ⟨g, hg⟩ : ∃ g, w1.heap.size = g := ⟨_, rfl⟩
  have HG : Hid (w1.heap.size = g) := hg
  rw [hg] at HC ⊢
  clear hconv hg
  go_loopw [3, 10] (fun v i wr => ∃ (j : Nat) (n : Int), j ≤ N ∧ i = .int .i64 j ∧ v = .int .i64 n ∧ Hid (n = upto l j) ∧ wr = u) (fun _ i _ => N - (intOf i).toNat)
  case atStart => exact ⟨0, 0, Nat.zero_le _, rfl, rfl, (by show _ = _; exact HZ.out.symm), rfl⟩
  case round =>
    obtain ⟨j, n, hj, rfl, rfl, Hn, rfl⟩ := hrel
    by_cases hlt : j < N
    · obtain ⟨x, hx⟩ : ∃ x, l[j]? = some x := ⟨_, List.getElem?_eq_getElem (by rw [HN.out]; exact hlt)⟩
      have q1 := HC.out j x hx
      have HX := HST.out j x hx (by omega)
      have hx2 : x.toNat < 256 := x.toNat_lt
      obtain ⟨c, hc⟩ : ∃ c, x.toNat = c := ⟨_, rfl⟩
      rw [hc] at q1 HX hx2
      have HX' : Hid (bits .or .i64 (upto l j) (IntKind.i64.wrap ((c : Int) * 2 ^ (8 * j))) = upto l (j + 1)) := HX
      have hlI : (j : Int) < (N : Int) := by omega
      have k1 : IntKind.i64.wrap (c : Int) = (c : Int) := wrap_small _ (by omega) (by omega)
      have k2 : IntKind.i64.wrap (8 * (j : Int)) = 8 * (j : Int) := wrap_small _ (by omega) (by omega)
      have k3 : 0 ≤ 8 * (j : Int) := by omega
      have k4 : 8 * (j : Int) ≤ 64 := by omega
      have k5 : (8 * (j : Int)).toNat = 8 * j := by omega
      clear hx hc HX
      go_wp2
      go_roundw
      case rel =>
        refine ⟨j + 1, _, by omega, by go_num, rfl, ?_, trivial⟩
        show _ = _
        rw [← HX'.out, ← Hn.out, IntWalk.i64_left]
      case measure => simp [intOf]; omega
    · have hlI : ¬ (j : Int) < (N : Int) := by omega
      go_wp2
      go_ret
      refine ⟨by rw [← HE.out, Hn.out, show j = N by omega]; rfl, ?_, K1.out.2.trans (Turn.ofBelow _ HB1.out)⟩
      exact (HB1.out.block b (lt_of K1.out.1)).trans K1.out.1

set_option maxHeartbeats 400000 in
theorem ktext_any (h : WkI b r w) (hr : r.length ≤ 1000000) :
    Calls Tryz.prog 73 #[.pointer (some ⟨b, 0, none⟩)] w fun e w' => e = .returned (.tuple #[]) ∧ WkI b (textW r) w' ∧ At1 b w w' := by
  have H1 : Hid (Calls Tryz.prog 76 #[.pointer (some ⟨b, 0, none⟩)] w fun e w' => e = .returned (.int .i64 (nv r)) ∧ Hid (WkI b (numW r) w' ∧ At1 b w w')) := knumber_any h hr
  have H2 : Hid (∀ w1, WkI b (numW r) w1 ∧ At1 b w w1 → Calls Tryz.prog 98 #[.pointer (some ⟨b, 0, none⟩), .int .i64 (nv r)] w1 fun e w' => ∃ s, e = .returned (.string s) ∧ Hid (WkI b (textW r) w' ∧ At1 b w w')) := fun w1 hu =>
    (ktake_any (nv r) hu.1 (by unfold numW; rw [List.length_drop]; omega)).mono fun e w' ⟨e1, e2, e3⟩ => ⟨_, e1, e2, hu.2.trans e3⟩
  clear h
  go_enter Tryz.func73, Tryz.ntmps73
  go_wp2_with (first
    | (go_at_call 76; go_must (refine H1.out.mono ?_; rintro e w1 ⟨rfl, K1⟩))
    | (go_at_call 98; go_must (refine (H2.out _ K1.out).mono ?_; rintro e w2 ⟨s, rfl, K2⟩)))
  go_end0
  exact ⟨rfl, K2.out⟩

set_option maxHeartbeats 400000 in
theorem kcolumn_any (h : WkI b r w) (hr : r.length ≤ 1000000) :
    Calls Tryz.prog 75 #[.pointer (some ⟨b, 0, none⟩)] w fun e w' => e = .returned (.tuple #[]) ∧ WkI b (colW r) w' ∧ At1 b w w' := by
  have H1 : Hid (Calls Tryz.prog 73 #[.pointer (some ⟨b, 0, none⟩)] w fun e w' => e = .returned (.tuple #[]) ∧ Hid (WkI b (textW r) w' ∧ At1 b w w')) := ktext_any h hr
  have H2 : Hid (∀ w1, WkI b (textW r) w1 ∧ At1 b w w1 → Calls Tryz.prog 76 #[.pointer (some ⟨b, 0, none⟩)] w1 fun e w' => ∃ n, e = .returned (.int .i64 n) ∧ Hid (WkI b (colW r) w' ∧ At1 b w w')) := fun w1 hu =>
    (knumber_any hu.1 (Nat.le_trans (ends_text r).length_le hr)).mono fun e w' ⟨e1, e2, e3⟩ => ⟨_, e1, e2, hu.2.trans e3⟩
  clear h
  go_enter Tryz.func75, Tryz.ntmps75
  go_wp2_with (first
    | (go_at_call 73; go_must (refine H1.out.mono ?_; rintro e w1 ⟨rfl, K1⟩))
    | (go_at_call 76; go_must (refine (H2.out _ K1.out).mono ?_; rintro e w2 ⟨n, rfl, K2⟩)))
  go_end0
  exact ⟨rfl, K2.out⟩

end

end Go.Proofs.YtnboanlhdllhnaaGreat
