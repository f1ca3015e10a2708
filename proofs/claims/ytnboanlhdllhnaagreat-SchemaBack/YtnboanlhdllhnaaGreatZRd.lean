/- mess: the reader's take, numbers, texts, flags and columns. -/
import Derived.Test.YtnboanlhdllhnaaGreatZWk
import Derived.Test.YtnboanlhdllhnaaGreatZCopyT
namespace Go.Proofs.YtnboanlhdllhnaaGreat
open Go.RowKit

/-- a reader in block b: what is left, and whether something was wrong -/
def RdI (b : Nat) (s : St) (w : World) : Prop := w.heap[b]? = some (.cells #[.string (bytesOf s.1), .bool s.2] 136 (0, 0))

abbrev Less {α : Type} (f : St → α × St) : Prop := ∀ s, (f s).2.1.length ≤ s.1.length
theorem tk_less (n : Int) : Less (rTk n) := fun s => by
  unfold rTk
  split
  · show (s.1.drop _).length ≤ _; rw [List.length_drop]; omega
  · exact Nat.zero_le _
theorem tk_less1 (n : Int) (s : St) : (rTk n s).1.length ≤ s.1.length := by
  unfold rTk
  split
  · show (s.1.take _).length ≤ _; rw [List.length_take]; omega
  · exact Nat.zero_le _
theorem less_num : Less rN := fun s => tk_less 8 s
theorem less_text : Less rT := fun s => Nat.le_trans (tk_less _ _) (less_num s)
theorem less_flag : Less rF := fun s => by
  unfold rF
  show (ite _ _ _ : St).1.length ≤ _
  split
  · exact tk_less 1 s
  · exact Nat.zero_le _
theorem less_rep {α : Type} {f : St → α × St} (h : Less f) : ∀ k, Less (rRep f k)
  | 0, _ => Nat.le_refl _
  | k + 1, s => Nat.le_trans (less_rep h k (f s).2) (h s)
theorem less_list {α : Type} {f : St → α × St} (h : Less f) : Less (rL f) := fun s => by
  unfold rL
  split
  · exact Nat.le_trans (less_rep h _ _) (less_num s)
  · exact Nat.zero_le _
theorem less_col : Less rC := fun s => Nat.le_trans (less_num _) (less_text s)
theorem less_ix : Less rX := fun s => Nat.le_trans (less_flag _) (Nat.le_trans (less_list less_num _) (less_text s))

section
variable {b : Nat} {s : St} {w : World}
set_option maxHeartbeats 400000 in
theorem rfail_any (h : RdI b s w) : Calls Tryz.prog 130 #[.pointer (some ⟨b, 0, none⟩)] w fun e w' => e = .returned (.tuple #[]) ∧ RdI b ([], true) w' ∧ At1 b w w' := by
  have q0 : w.cell? ⟨b, 0, none⟩ = some (.string (bytesOf s.1)) := by rw [cell_of h]; rfl
  have q1 : w.cell? ⟨b, 1, none⟩ = some (.bool s.2) := by rw [cell_of h]; rfl
  have f0 := frozen_of h 0
  have f1 := frozen_of h 1
  have HB : Hid (RdI b s w) := h
  clear h
  go_enter Tryz.func130, Tryz.ntmps130
  go_wp2
  go_end0
  exact ⟨rfl, heap_setCell_same (heap_setCell_same HB.out 0 _) 1 _, (Turn.setCell (S := fun i => i = b) w ⟨b, 0, none⟩ _ rfl).trans (Turn.setCell _ ⟨b, 1, none⟩ _ rfl)⟩

set_option maxRecDepth 100000 in
set_option maxHeartbeats 1000000 in
theorem rtake_any (n : Int) (h : RdI b s w) (hr : s.1.length ≤ 1000000) :
    Calls Tryz.prog 100 #[.pointer (some ⟨b, 0, none⟩), .int .i64 n] w fun e w' => e = .returned (.string (bytesOf (rTk n s).1)) ∧ RdI b (rTk n s).2 w' ∧ At1 b w w' := by
  have HFl : Hid (Calls Tryz.prog 130 #[.pointer (some ⟨b, 0, none⟩)] w fun e w' => e = .returned (.tuple #[]) ∧ Hid (RdI b ([], true) w' ∧ At1 b w w')) := rfail_any h
  obtain ⟨r, z⟩ := s
  have q0 : w.cell? ⟨b, 0, none⟩ = some (.string (bytesOf r)) := by rw [cell_of h]; rfl
  have f0 := frozen_of h 0
  have HB : Hid (w.heap[b]? = some (.cells #[.string (bytesOf r), .bool z] 136 (0, 0))) := h
  have hsz : (bytesOf r).size ≤ 1000000 := by rw [bytesOf_size]; exact hr
  have hlen : (r.length : Int) = ((bytesOf r).size : Int) := by rw [bytesOf_size]
  obtain ⟨t, ht⟩ : ∃ t, bytesOf r = t := ⟨_, rfl⟩
  have HTk : Hid (∀ n : Nat, t.extract 0 n = bytesOf (r.take n)) := fun n => by rw [← ht]; exact take_ext r n
  have HDr : Hid (∀ n : Nat, t.extract n t.size = bytesOf (r.drop n)) := fun n => by rw [← ht]; exact drop_ext r n
  rw [ht] at q0 HB hsz hlen
  unfold rTk
  dsimp only
  rw [hlen]
  clear h ht hlen hr
  by_cases h0 : 0 ≤ n
  · by_cases h1 : n ≤ (t.size : Int)
    · rw [if_pos ⟨h0, h1⟩]
      obtain ⟨k, rfl⟩ := Int.eq_ofNat_of_zero_le h0
      have k1 : ¬ ((k : Int) < 0) := by omega
      have k2 : ¬ ((t.size : Int) < (k : Int)) := by omega
      have k3 : k ≤ t.size := by omega
      go_enter Tryz.func100, Tryz.ntmps100
      go_wp2
      go_ret
      refine ⟨by rw [HTk.out]; rfl, ?_, Turn.setCell w ⟨b, 0, none⟩ _ rfl⟩
      show _ = some (Obj.cells #[.string (bytesOf (r.drop k)), .bool z] _ _)
      rw [← HDr.out]
      exact heap_setCell_same HB.out 0 _
    · rw [if_neg (by omega)]
      have k1 : ¬ (n < 0) := by omega
      have k2 : (t.size : Int) < n := by omega
      go_enter Tryz.func100, Tryz.ntmps100
      go_wp2_with (go_at_call 130; go_must (refine HFl.out.mono ?_; rintro e w1 ⟨rfl, K1⟩))
      go_ret
      exact ⟨rfl, K1.out⟩
  · rw [if_neg (by omega)]
    have k1 : n < 0 := by omega
    go_enter Tryz.func100, Tryz.ntmps100
    go_wp2_with (go_at_call 130; go_must (refine HFl.out.mono ?_; rintro e w1 ⟨rfl, K1⟩))
    go_ret
    exact ⟨rfl, K1.out⟩

set_option maxRecDepth 100000 in
set_option maxHeartbeats 1000000 in
theorem rnumber_any (h : RdI b s w) (hr : s.1.length ≤ 1000000) :
    Calls Tryz.prog 78 #[.pointer (some ⟨b, 0, none⟩)] w fun e w' => e = .returned (.int .i64 (rN s).1) ∧ RdI b (rN s).2 w' ∧ At1 b w w' := by
  obtain ⟨l, hl⟩ : ∃ l, (rTk 8 s).1 = l := ⟨_, rfl⟩
  have HT : Hid (Calls Tryz.prog 100 #[.pointer (some ⟨b, 0, none⟩), .int .i64 8] w fun e w' => e = .returned (.string (bytesOf l)) ∧ Hid (RdI b (rN s).2 w' ∧ At1 b w w')) := by
    have := rtake_any 8 h hr
    rw [hl] at this
    exact this
  have HE : Hid (upto l l.length = (rN s).1) := by
    show _ = nv s.1
    unfold nv
    rw [← hl]
    unfold rTk
    by_cases h8 : 8 ≤ s.1.length
    · rw [if_pos ⟨by decide, by omega⟩, if_pos h8]
      have : (s.1.take 8).length = 8 := by rw [List.length_take]; omega
      show upto (s.1.take 8) (s.1.take 8).length = _
      rw [this, upto_all this]
    · rw [if_neg (by omega), if_neg h8]
      exact upto_zero _
  have hN8 : l.length ≤ 8 := by
    rw [← hl]
    unfold rTk
    split
    · show (s.1.take 8).length ≤ 8
      rw [List.length_take]; omega
    · exact Nat.zero_le _
  obtain ⟨N, hN⟩ : ∃ N, l.length = N := ⟨_, rfl⟩
  have HN : Hid (l.length = N) := hN
  rw [hN] at HE hN8
  have HV : Hid (∀ w1, ∃ u c, (convert 9 73 (.string (bytesOf l))).run Tryz.prog w1 = .ok (.slice (some ⟨w1.heap.size, 0, none⟩) N c) u ∧ Hid (Below w1.heap.size w1 u) ∧ Hid (∀ (j : Nat) (x : UInt8), l[j]? = some x → u.cell? ⟨w1.heap.size, j, none⟩ = some (.int .u8 (x.toNat : Int)))) := fun w1 => by
    obtain ⟨u, c, h1, h3, h4⟩ := conv_at (bytesOf l) w1
    rw [bytesOf_size, hN] at h1
    rw [bytesOf_list] at h4
    exact ⟨u, c, h1, h3, h4⟩
  have HST : Hid (∀ (j : Nat) (x : UInt8), l[j]? = some x → j < 8 → bits .or .i64 (upto l j) (IntKind.i64.wrap ((x.toNat : Int) * 2 ^ (8 * j))) = upto l (j + 1)) := fun j x hx hj => upto_next hx hj
  have HZ : Hid (upto l 0 = 0) := upto_zero l
  clear h hl hN
  go_enter Tryz.func78, Tryz.ntmps78
  go_wp2_with (go_at_call 100; go_must (refine HT.out.mono ?_; rintro e w1 ⟨rfl, K1⟩; obtain ⟨u, cp, hconv, HB1, HC⟩ := HV.out w1))
  obtain ⟨g, hg⟩ : ∃ g, w1.heap.size = g := ⟨_, rfl⟩
  have HG : Hid (w1.heap.size = g) := hg
  rw [hg] at HC ⊢
  clear hconv hg
  go_loopw [3, 10] (fun v i wr => ∃ (j : Nat) (n : Int), j ≤ N ∧ i = .int .i64 j ∧ v = .int .i64 n ∧ Hid (n = upto l j) ∧ wr = u) (fun _ i _ => N - (intOf i).toNat)
  case atStart => exact ⟨0, 0, Nat.zero_le _, rfl, rfl, (by show _ = _; exact HZ.out.symm), rfl⟩
  case round =>
    obtain ⟨j, n, hj, rfl, rfl, Hn, rfl⟩ := hrel
    by_cases hlt : j < N
    · obtain ⟨x, hx⟩ : ∃ x, l[j]? = some x := ⟨_, List.getElem?_eq_getElem (by rw [HN.out]; exact hlt)⟩
      have q1 := HC.out j x hx
      have HX := HST.out j x hx (by omega)
      have hx2 : x.toNat < 256 := x.toNat_lt
      obtain ⟨c, hc⟩ : ∃ c, x.toNat = c := ⟨_, rfl⟩
      rw [hc] at q1 HX hx2
      have HX' : Hid (bits .or .i64 (upto l j) (IntKind.i64.wrap ((c : Int) * 2 ^ (8 * j))) = upto l (j + 1)) := HX
      have hlI : (j : Int) < (N : Int) := by omega
      have k1 : IntKind.i64.wrap (c : Int) = (c : Int) := wrap_small _ (by omega) (by omega)
      have k2 : IntKind.i64.wrap (8 * (j : Int)) = 8 * (j : Int) := wrap_small _ (by omega) (by omega)
      have k3 : 0 ≤ 8 * (j : Int) := by omega
      have k4 : 8 * (j : Int) ≤ 64 := by omega
      have k5 : (8 * (j : Int)).toNat = 8 * j := by omega
      clear hx hc HX
      go_wp2
      go_roundw
      case rel =>
        refine ⟨j + 1, _, by omega, by go_num, rfl, ?_, trivial⟩
        show _ = _
        rw [← HX'.out, ← Hn.out, IntWalk.i64_left]
      case measure => simp [intOf]; omega
    · have hlI : ¬ (j : Int) < (N : Int) := by omega
      go_wp2
      go_ret
      refine ⟨by rw [← HE.out, Hn.out, show j = N by omega]; rfl, ?_, K1.out.2.trans (Turn.ofBelow _ HB1.out)⟩
      exact (HB1.out.block b (lt_of K1.out.1)).trans K1.out.1

theorem RdI.below {u u' : World} (h : RdI b s u) (hb : Below u.heap.size u u') : RdI b s u' := (hb.block b (lt_of h)).trans h

set_option maxHeartbeats 400000 in
theorem rtext_any (h : RdI b s w) (hr : s.1.length ≤ 1000000) :
    Calls Tryz.prog 131 #[.pointer (some ⟨b, 0, none⟩)] w fun e w' => e = .returned (.string (rT s).1) ∧ RdI b (rT s).2 w' ∧ At1 b w w' := by
  have H1 : Hid (Calls Tryz.prog 78 #[.pointer (some ⟨b, 0, none⟩)] w fun e w' => e = .returned (.int .i64 (rN s).1) ∧ Hid (RdI b (rN s).2 w' ∧ At1 b w w')) := rnumber_any h hr
  have hl := Nat.le_trans (less_num s) hr
  have H2 : Hid (∀ w1, RdI b (rN s).2 w1 ∧ At1 b w w1 → Calls Tryz.prog 100 #[.pointer (some ⟨b, 0, none⟩), .int .i64 (rN s).1] w1 fun e w' => e = .returned (.string (rT s).1) ∧ Hid (RdI b (rT s).2 w' ∧ At1 b w w')) := fun w1 hu =>
    (rtake_any _ hu.1 hl).mono fun e w' ⟨e1, e2, e3⟩ => ⟨e1, e2, hu.2.trans e3⟩
  have H3 : Hid (∀ w1, RdI b (rT s).2 w1 ∧ At1 b w w1 → Calls Tryz.prog 38 #[.string (rT s).1] w1 fun e w' => e = .returned (.string (rT s).1) ∧ Hid (RdI b (rT s).2 w' ∧ At1 b w w')) := fun w1 hu =>
    (sClone_any (rT s).1 w1 (by
      have h1 : (rT s).1.size = (rTk (rN s).1 (rN s).2).1.length := bytesOf_size _
      have h2 := tk_less1 (rN s).1 (rN s).2
      omega)).mono fun e w' ⟨e1, e2⟩ => ⟨e1, hu.1.below e2, hu.2.trans (Turn.ofBelow _ e2)⟩
  clear h
  go_enter Tryz.func131, Tryz.ntmps131
  go_wp2_with (first
    | (go_at_call 78; go_must (refine H1.out.mono ?_; rintro e w1 ⟨rfl, K1⟩))
    | (go_at_call 100; go_must (refine (H2.out _ K1.out).mono ?_; rintro e w2 ⟨rfl, K2⟩))
    | (go_at_call 38; go_must (refine (H3.out _ K2.out).mono ?_; rintro e w3 ⟨rfl, K3⟩)))
  go_ret
  exact ⟨rfl, K3.out⟩

set_option maxRecDepth 100000 in
set_option maxHeartbeats 1000000 in
theorem rflag_any (h : RdI b s w) (hr : s.1.length ≤ 1000000) :
    Calls Tryz.prog 157 #[.pointer (some ⟨b, 0, none⟩)] w fun e w' => e = .returned (.bool (rF s).1) ∧ RdI b (rF s).2 w' ∧ At1 b w w' := by
  have H1 : Hid (Calls Tryz.prog 100 #[.pointer (some ⟨b, 0, none⟩), .int .i64 1] w fun e w' => e = .returned (.string (bytesOf (rTk 1 s).1)) ∧ Hid (RdI b (rTk 1 s).2 w' ∧ At1 b w w')) := rtake_any 1 h hr
  have H2 : Hid (∀ w1, RdI b (rTk 1 s).2 w1 ∧ At1 b w w1 → Calls Tryz.prog 130 #[.pointer (some ⟨b, 0, none⟩)] w1 fun e w' => e = .returned (.tuple #[]) ∧ Hid (RdI b ([], true) w' ∧ At1 b w w')) := fun w1 hu =>
    (rfail_any hu.1).mono fun e w' ⟨e1, e2, e3⟩ => ⟨e1, e2, hu.2.trans e3⟩
  unfold rF
  clear h
  obtain ⟨t, ht⟩ : ∃ t, (rTk 1 s).1 = t := ⟨_, rfl⟩
  rw [ht] at H1 ⊢
  clear ht
  by_cases h1 : t = [1]
  · subst h1
    have H1' : Hid (Calls Tryz.prog 100 #[.pointer (some ⟨b, 0, none⟩), .int .i64 1] w fun e w' => e = .returned (.string ⟨#[1]⟩) ∧ Hid (RdI b (rTk 1 s).2 w' ∧ At1 b w w')) := H1.out
    clear H1
    rw [if_pos (Or.inr rfl)]
    go_enter Tryz.func157, Tryz.ntmps157
    go_wp2_with (go_at_call 100; go_must (refine H1'.out.mono ?_; rintro e w1 ⟨rfl, K1⟩))
    go_ret
    exact ⟨rfl, K1.out⟩
  · by_cases h0 : t = [0]
    · subst h0
      have H1' : Hid (Calls Tryz.prog 100 #[.pointer (some ⟨b, 0, none⟩), .int .i64 1] w fun e w' => e = .returned (.string ⟨#[0]⟩) ∧ Hid (RdI b (rTk 1 s).2 w' ∧ At1 b w w')) := H1.out
      clear H1
      rw [if_pos (Or.inl rfl)]
      go_enter Tryz.func157, Tryz.ntmps157
      go_wp2_with (go_at_call 100; go_must (refine H1'.out.mono ?_; rintro e w1 ⟨rfl, K1⟩))
      go_ret
      exact ⟨rfl, K1.out⟩
    · rw [if_neg (by rintro (h | h); exact h0 h; exact h1 h)]
      have hf : decide (t = [1]) = false := decide_eq_false h1
      rw [hf]
      have hb : ∀ l : List UInt8, t ≠ l → ¬ bytesOf t = bytesOf l := fun l hl e => hl (by have := congrArg (fun s => s.data.toList) e; simpa [bytesOf_list] using this)
      have e0 : ¬ bytesOf t = ⟨#[0]⟩ := hb [0] h0
      have e1 : ¬ bytesOf t = ⟨#[1]⟩ := hb [1] h1
      obtain ⟨x, hx⟩ : ∃ x, bytesOf t = x := ⟨_, rfl⟩
      rw [hx] at H1 e0 e1
      clear hb hf hx
      have e2 : ¬ x.toList = [0] := fun e => e0 (by rw [Go.ByteArray.toList_eq] at e; rw [← list_ba x, e])
      have e3 : ¬ x.toList = [1] := fun e => e1 (by rw [Go.ByteArray.toList_eq] at e; rw [← list_ba x, e])
      have e4 : (x.toList == [1]) = false := beq_false_of_ne e3
      have e5 : (x.toList == [0]) = false := beq_false_of_ne e2
      go_enter Tryz.func157, Tryz.ntmps157
      go_wp2_with (first
        | (go_at_call 100; go_must (refine H1.out.mono ?_; rintro e w1 ⟨rfl, K1⟩))
        | (go_at_call 130; go_must (refine (H2.out _ K1.out).mono ?_; rintro e w2 ⟨rfl, K2⟩)))
      go_ret
      exact ⟨rfl, K2.out⟩

set_option maxRecDepth 100000 in
set_option maxHeartbeats 1000000 in
theorem rcolumn_any (h : RdI b s w) (hr : s.1.length ≤ 1000000) :
    Calls Tryz.prog 148 #[.pointer (some ⟨b, 0, none⟩)] w fun e w' => e = .returned (.agg #[.string (rC s).1.1, .int .i64 (rC s).1.2]) ∧ RdI b (rC s).2 w' ∧ At1 b w w' := by
  have hbl := lt_of h
  obtain ⟨o, ho⟩ : ∃ o : Obj, .cells #[.string ⟨#[]⟩, .int .i64 0] 70 = o := ⟨_, rfl⟩
  have h0 : RdI b s (w.alloc o) := h.below ((Below.refl _ w).alloc (Nat.le_refl _) _)
  have HX : Hid (∀ u, At1 b (w.alloc o) u → u.heap[w.heap.size]? = some o) := fun u hu => (hu.block _ (by simp) (by omega)).trans (heap_new w _)
  have q1 := Nat.le_trans (less_text s) hr
  have H1 : Hid (Calls Tryz.prog 131 #[.pointer (some ⟨b, 0, none⟩)] (w.alloc o) fun e w' => e = .returned (.string (rC s).1.1) ∧ Hid (RdI b (rT s).2 w' ∧ At1 b (w.alloc o) w')) := rtext_any h0 hr
  have H2 : Hid (∀ u, RdI b (rT s).2 u ∧ At1 b (w.alloc o) u → Calls Tryz.prog 78 #[.pointer (some ⟨b, 0, none⟩)] u fun e w' => e = .returned (.int .i64 (rC s).1.2) ∧ Hid (RdI b (rC s).2 w' ∧ At1 b (w.alloc o) w')) := fun u hu =>
    (rnumber_any hu.1 q1).mono fun e w' ⟨e1, e2, e3⟩ => ⟨e1, e2, hu.2.trans e3⟩
  obtain ⟨nm, hnm⟩ : ∃ nm, (rC s).1.1 = nm := ⟨_, rfl⟩
  obtain ⟨k, hk⟩ : ∃ k, (rC s).1.2 = k := ⟨_, rfl⟩
  rw [hnm] at H1 ⊢
  rw [hk] at H2 ⊢
  subst ho
  have HC : Hid (∀ u, At1 b (w.alloc (.cells #[.string ⟨#[]⟩, .int .i64 0] 70)) u → u.cell? ⟨w.heap.size, 0, none⟩ = some (.string ⟨#[]⟩) ∧ u.cell? ⟨w.heap.size, 1, none⟩ = some (.int .i64 0) ∧ u.frozen? ⟨w.heap.size, 0, none⟩ = false ∧ u.frozen? ⟨w.heap.size, 1, none⟩ = false) := fun u hu => by
    have k := HX.out u hu
    exact ⟨by rw [cell_of k]; rfl, by rw [cell_of k]; rfl, frozen_of k 0, frozen_of k 1⟩
  clear h h0 hnm hk
  go_enter Tryz.func148, Tryz.ntmps148
  go_wp2_with (first
    | (go_at_call 131; go_must (refine H1.out.mono ?_; rintro e w1 ⟨rfl, K1⟩))
    | (go_at_call 78; go_must (refine (H2.out _ K1.out).mono ?_; rintro e w2 ⟨rfl, K2⟩; obtain ⟨c0, c1, c2, c3⟩ := HC.out _ K2.out.2)))
  have hk := HX.out w2 K2.out.2
  have i0 : (w2.setCell ⟨w.heap.size, 0, none⟩ (.string nm)).cell? ⟨w.heap.size, 0, none⟩ = some (.string nm) := by rw [cell_of (heap_setCell_same hk 0 _)]; rfl
  have i1 : ∀ a, ((w2.setCell ⟨w.heap.size, 0, none⟩ a).setCell ⟨w.heap.size, 1, none⟩ (.int .i64 k)).cell? ⟨w.heap.size, 1, none⟩ = some (.int .i64 k) := fun a => by rw [cell_of (heap_setCell_same (heap_setCell_same hk 0 _) 1 _)]; rfl
  refine bodyPost_ret (by simp [results, Tryz.results148, go_sem, i0, i1]; rfl) rfl ?_
  have ht : Turn (fun i => i = w.heap.size) w2 ((w2.setCell ⟨w.heap.size, 0, none⟩ (.string nm)).setCell ⟨w.heap.size, 1, none⟩ (.int .i64 k)) := (Turn.setCell (S := fun i => i = w.heap.size) w2 ⟨w.heap.size, 0, none⟩ _ rfl).trans (Turn.setCell _ ⟨w.heap.size, 1, none⟩ _ rfl)
  exact ⟨rfl, (ht.block b (lt_of K2.out.1) (by omega)).trans K2.out.1, ((Turn.alloc w _).trans K2.out.2).transNew ht (fun i hi => Or.inr (by omega))⟩
end

end Go.Proofs.YtnboanlhdllhnaaGreat
