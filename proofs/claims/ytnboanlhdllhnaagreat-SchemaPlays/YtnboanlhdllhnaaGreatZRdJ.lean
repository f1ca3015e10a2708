import Derived.Test.YtnboanlhdllhnaaGreatZWkJ
import Derived.Test.YtnboanlhdllhnaaGreatZCopyT
import Derived.Test.YtnboanlhdllhnaaGreatZCat
/- mess: the reader's take, numbers, texts, flags and columns. -/
namespace Go.Proofs.YtnboanlhdllhnaaGreat
open Go.RowKit

/-- a reader in block b: what is left, and whether something was wrong -/
def RdI (b : Nat) (s : St) (w : World) : Prop := w.heap[b]? = some (.cells #[.string (bytesOf s.1), .bool s.2] 136 (0, 0))

abbrev Less {α : Type} (f : St → α × St) : Prop := ∀ s, (f s).2.1.length ≤ s.1.length
theorem tk_less (n : Int) : Less (rTk n) := fun s => by
  unfold rTk
  split
  · show (s.1.drop _).length ≤ _; rw [List.length_drop]; omega
  · exact Nat.zero_le _
theorem tk_less1 (n : Int) (s : St) : (rTk n s).1.length ≤ s.1.length := by
  unfold rTk
  split
  · show (s.1.take _).length ≤ _; rw [List.length_take]; omega
  · exact Nat.zero_le _
theorem less_num : Less rN := fun s => tk_less 8 s
theorem less_text : Less rT := fun s => Nat.le_trans (tk_less _ _) (less_num s)
theorem less_flag : Less rF := fun s => by
  unfold rF
  show (ite _ _ _ : St).1.length ≤ _
  split
  · exact tk_less 1 s
  · exact Nat.zero_le _
theorem less_rep {α : Type} {f : St → α × St} (h : Less f) : ∀ k, Less (rRep f k)
  | 0, _ => Nat.le_refl _
  | k + 1, s => Nat.le_trans (less_rep h k (f s).2) (h s)
theorem less_list {α : Type} {f : St → α × St} (h : Less f) : Less (rL f) := fun s => by
  unfold rL
  split
  · exact Nat.le_trans (less_rep h _ _) (less_num s)
  · exact Nat.zero_le _
theorem less_col : Less rC := fun s => Nat.le_trans (less_num _) (less_text s)
theorem less_ix : Less rX := fun s => Nat.le_trans (less_flag _) (Nat.le_trans (less_list less_num _) (less_text s))

section
variable {b : Nat} {s : St} {w : World}
set_option maxHeartbeats 400000 in
theorem rfail_any (h : RdI b s w) : Calls Tryz.prog 130 #[.pointer (some ⟨b, 0, none⟩)] w fun e w' => e = .returned (.tuple #[]) ∧ RdI b ([], true) w' ∧ At1 b w w' := by
  have q0 : w.cell? ⟨b, 0, none⟩ = some (.string (bytesOf s.1)) := by rw [cell_of h]; rfl
  have q1 : w.cell? ⟨b, 1, none⟩ = some (.bool s.2) := by rw [cell_of h]; rfl
  have f0 := frozen_of h 0
  have f1 := frozen_of h 1
  have HB : Hid (RdI b s w) := h
  clear h
  go_enter Tryz.func130, Tryz.ntmps130
  go_wp2
  go_end0
  exact ⟨rfl, heap_setCell_same (heap_setCell_same HB.out 0 _) 1 _, (Turn.setCell (S := fun i => i = b) w ⟨b, 0, none⟩ _ rfl).trans (Turn.setCell _ ⟨b, 1, none⟩ _ rfl)⟩

set_option maxRecDepth 100000 in
set_option maxHeartbeats 1000000 in
theorem rtake_any (n : Int) (h : RdI b s w) (hr : s.1.length ≤ 1000000) :
    Calls Tryz.prog 100 #[.pointer (some ⟨b, 0, none⟩), .int .i64 n] w fun e w' => e = .returned (.string (bytesOf (rTk n s).1)) ∧ RdI b (rTk n s).2 w' ∧ At1 b w w' := by
  have HFl : Hid (Calls Tryz.prog 130 #[.pointer (some ⟨b, 0, none⟩)] w fun e w' => e = .returned (.tuple #[]) ∧ Hid (RdI b ([], true) w' ∧ At1 b w w')) := rfail_any h
  obtain ⟨r, z⟩ := s
  have q0 : w.cell? ⟨b, 0, none⟩ = some (.string (bytesOf r)) := by rw [cell_of h]; rfl
  have f0 := frozen_of h 0
  have HB : Hid (w.heap[b]? = some (.cells #[.string (bytesOf r), .bool z] 136 (0, 0))) := h
  have hsz : (bytesOf r).size ≤ 1000000 := by rw [bytesOf_size]; exact hr
  have hlen : (r.length : Int) = ((bytesOf r).size : Int) := by rw [bytesOf_size]
  obtain ⟨t, ht⟩ : ∃ t, bytesOf r = t := ⟨_, rfl⟩
  have HTk : Hid (∀ n : Nat, t.extract 0 n = bytesOf (r.take n)) := fun n => by rw [← ht]; exact take_ext r n
  have HDr : Hid (∀ n : Nat, t.extract n t.size = bytesOf (r.drop n)) := fun n => by rw [← ht]; exact drop_ext r n
  rw [ht] at q0 HB hsz hlen
  unfold rTk
  dsimp only
  rw [hlen]
  clear h ht hlen hr
  by_cases h0 : 0 ≤ n
  · by_cases h1 : n ≤ (t.size : Int)
    · rw [if_pos ⟨h0, h1⟩]
      obtain ⟨k, rfl⟩ := Int.eq_ofNat_of_zero_le h0
      have k1 : ¬ ((k : Int) < 0) := by omega
      have k2 : ¬ ((t.size : Int) < (k : Int)) := by omega
      have k3 : k ≤ t.size := by omega
      go_enter Tryz.func100, Tryz.ntmps100
      go_wp2
      go_ret
      refine ⟨by rw [HTk.out]; rfl, ?_, Turn.setCell w ⟨b, 0, none⟩ _ rfl⟩
      show _ = some (Obj.cells #[.string (bytesOf (r.drop k)), .bool z] _ _)
      rw [← HDr.out]
      exact heap_setCell_same HB.out 0 _
    · rw [if_neg (by omega)]
      have k1 : ¬ (n < 0) := by omega
      have k2 : (t.size : Int) < n := by omega
      go_enter Tryz.func100, Tryz.ntmps100
      go_wp2_with (go_at_call 130; go_must (refine HFl.out.mono ?_; rintro e w1 ⟨rfl, K1⟩))
      go_ret
      exact ⟨rfl, K1.out⟩
  · rw [if_neg (by omega)]
    have k1 : n < 0 := by omega
    go_enter Tryz.func100, Tryz.ntmps100
    go_wp2_with (go_at_call 130; go_must (refine HFl.out.mono ?_; rintro e w1 ⟨rfl, K1⟩))
    go_ret
    exact ⟨rfl, K1.out⟩

set_option maxRecDepth 100000 in
set_option maxHeartbeats 1000000 in
theorem rnumber_any (h : RdI b s w) (hr : s.1.length ≤ 1000000) :
    Calls Tryz.prog 78 #[.pointer (some ⟨b, 0, none⟩)] w fun e w' => e = .returned (.int .i64 (rN s).1) ∧ RdI b (rN s).2 w' ∧ At1 b w w' := by
  obtain ⟨l, hl⟩ : ∃ l, (rTk 8 s).1 = l := ⟨_, rfl⟩
  have HT : Hid (Calls Tryz.prog 100 #[.pointer (some ⟨b, 0, none⟩), .int .i64 8] w fun e w' => e = .returned (.string (bytesOf l)) ∧ Hid (RdI b (rN s).2 w' ∧ At1 b w w')) := by
    have := rtake_any 8 h hr
    rw [hl] at this
    exact this
  have HE : Hid (upto l l.length = (rN s).1) := by
    show _ = nv s.1
    unfold nv
    rw [← hl]
    unfold rTk
    by_cases h8 : 8 ≤ s.1.length
    · rw [if_pos ⟨by decide, by omega⟩, if_pos h8]
      have : (s.1.take 8).length = 8 := by rw [List.length_take]; omega
      show upto (s.1.take 8) (s.1.take 8).length = _
      rw [this, upto_all this]
    · rw [if_neg (by omega), if_neg h8]
      exact upto_zero _
  have hN8 : l.length ≤ 8 := by
    rw [← hl]
    unfold rTk
    split
    · show (s.1.take 8).length ≤ 8
      rw [List.length_take]; omega
    · exact Nat.zero_le _
  obtain ⟨N, hN⟩ : ∃ N, l.length = N := ⟨_, rfl⟩
  have HN : Hid (l.length = N) := hN
  rw [hN] at HE hN8
  have HV : Hid (∀ w1, ∃ u c, (convert 9 73 (.string (bytesOf l))).run Tryz.prog w1 = .ok (.slice (some ⟨w1.heap.size, 0, none⟩) N c) u ∧ Hid (Below w1.heap.size w1 u) ∧ Hid (∀ (j : Nat) (x : UInt8), l[j]? = some x → u.cell? ⟨w1.heap.size, j, none⟩ = some (.int .u8 (x.toNat : Int)))) := fun w1 => by
    obtain ⟨u, c, h1, h3, h4⟩ := conv_at (bytesOf l) w1
    rw [bytesOf_size, hN] at h1
    rw [bytesOf_list] at h4
    exact ⟨u, c, h1, h3, h4⟩
  have HST : Hid (∀ (j : Nat) (x : UInt8), l[j]? = some x → j < 8 → bits .or .i64 (upto l j) (IntKind.i64.wrap ((x.toNat : Int) * 2 ^ (8 * j))) = upto l (j + 1)) := fun j x hx hj => upto_next hx hj
  have HZ : Hid (upto l 0 = 0) := upto_zero l
  clear h hl hN
  go_enter Tryz.func78, Tryz.ntmps78
  go_wp2_with (go_at_call 100; go_must (refine HT.out.mono ?_; rintro e w1 ⟨rfl, K1⟩; obtain ⟨u, cp, hconv, HB1, HC⟩ := HV.out w1))
  obtain ⟨g, hg⟩ : ∃ g, w1.heap.size = g := ⟨_, rfl⟩
  have HG : Hid (w1.heap.size = g) := hg
  rw [hg] at HC ⊢
  clear hconv hg
  go_loopw [3, 10] (fun v i wr => ∃ (j : Nat) (n : Int), j ≤ N ∧ i = .int .i64 j ∧ v = .int .i64 n ∧ Hid (n = upto l j) ∧ wr = u) (fun _ i _ => N - (intOf i).toNat)
  case atStart => exact ⟨0, 0, Nat.zero_le _, rfl, rfl, (by show _ = _; exact HZ.out.symm), rfl⟩
  case round =>
    obtain ⟨j, n, hj, rfl, rfl, Hn, rfl⟩ := hrel
    by_cases hlt : j < N
    · obtain ⟨x, hx⟩ : ∃ x, l[j]? = some x := ⟨_, List.getElem?_eq_getElem (by rw [HN.out]; exact hlt)⟩
      have q1 := HC.out j x hx
      have HX := HST.out j x hx (by omega)
      have hx2 : x.toNat < 256 := x.toNat_lt
      obtain ⟨c, hc⟩ : ∃ c, x.toNat = c := ⟨_, rfl⟩
      rw [hc] at q1 HX hx2
      have HX' : Hid (bits .or .i64 (upto l j) (IntKind.i64.wrap ((c : Int) * 2 ^ (8 * j))) = upto l (j + 1)) := HX
      have hlI : (j : Int) < (N : Int) := by omega
      have k1 : IntKind.i64.wrap (c : Int) = (c : Int) := wrap_small _ (by omega) (by omega)
      have k2 : IntKind.i64.wrap (8 * (j : Int)) = 8 * (j : Int) := wrap_small _ (by omega) (by omega)
      have k3 : 0 ≤ 8 * (j : Int) := by omega
      have k4 : 8 * (j : Int) ≤ 64 := by omega
      have k5 : (8 * (j : Int)).toNat = 8 * j := by omega
      clear hx hc HX
      go_wp2
      go_roundw
      case rel =>
        refine ⟨j + 1, _, by omega, by go_num, rfl, ?_, trivial⟩
        show _ = _
        rw [← HX'.out, ← Hn.out, IntWalk.i64_left]
      case measure => simp [intOf]; omega
    · have hlI : ¬ (j : Int) < (N : Int) := by omega
      go_wp2
      go_ret
      refine ⟨by rw [← HE.out, Hn.out, show j = N by omega]; rfl, ?_, K1.out.2.trans (Turn.ofBelow _ HB1.out)⟩
      exact (HB1.out.block b (lt_of K1.out.1)).trans K1.out.1

theorem RdI.below {u u' : World} (h : RdI b s u) (hb : Below u.heap.size u u') : RdI b s u' := (hb.block b (lt_of h)).trans h

set_option maxHeartbeats 400000 in
theorem rtext_any (h : RdI b s w) (hr : s.1.length ≤ 1000000) :
    Calls Tryz.prog 131 #[.pointer (some ⟨b, 0, none⟩)] w fun e w' => e = .returned (.string (rT s).1) ∧ RdI b (rT s).2 w' ∧ At1 b w w' := by
  have H1 : Hid (Calls Tryz.prog 78 #[.pointer (some ⟨b, 0, none⟩)] w fun e w' => e = .returned (.int .i64 (rN s).1) ∧ Hid (RdI b (rN s).2 w' ∧ At1 b w w')) := rnumber_any h hr
  have hl := Nat.le_trans (less_num s) hr
  have H2 : Hid (∀ w1, RdI b (rN s).2 w1 ∧ At1 b w w1 → Calls Tryz.prog 100 #[.pointer (some ⟨b, 0, none⟩), .int .i64 (rN s).1] w1 fun e w' => e = .returned (.string (rT s).1) ∧ Hid (RdI b (rT s).2 w' ∧ At1 b w w')) := fun w1 hu =>
    (rtake_any _ hu.1 hl).mono fun e w' ⟨e1, e2, e3⟩ => ⟨e1, e2, hu.2.trans e3⟩
  have H3 : Hid (∀ w1, RdI b (rT s).2 w1 ∧ At1 b w w1 → Calls Tryz.prog 38 #[.string (rT s).1] w1 fun e w' => e = .returned (.string (rT s).1) ∧ Hid (RdI b (rT s).2 w' ∧ At1 b w w')) := fun w1 hu =>
    (sClone_any (rT s).1 w1 (by
      have h1 : (rT s).1.size = (rTk (rN s).1 (rN s).2).1.length := bytesOf_size _
      have h2 := tk_less1 (rN s).1 (rN s).2
      omega)).mono fun e w' ⟨e1, e2⟩ => ⟨e1, hu.1.below e2, hu.2.trans (Turn.ofBelow _ e2)⟩
  clear h
  go_enter Tryz.func131, Tryz.ntmps131
  go_wp2_with (first
    | (go_at_call 78; go_must (refine H1.out.mono ?_; rintro e w1 ⟨rfl, K1⟩))
    | (go_at_call 100; go_must (refine (H2.out _ K1.out).mono ?_; rintro e w2 ⟨rfl, K2⟩))
    | (go_at_call 38; go_must (refine (H3.out _ K2.out).mono ?_; rintro e w3 ⟨rfl, K3⟩)))
  go_ret
  exact ⟨rfl, K3.out⟩

set_option maxRecDepth 100000 in
set_option maxHeartbeats 1000000 in
theorem rflag_any (h : RdI b s w) (hr : s.1.length ≤ 1000000) :
    Calls Tryz.prog 157 #[.pointer (some ⟨b, 0, none⟩)] w fun e w' => e = .returned (.bool (rF s).1) ∧ RdI b (rF s).2 w' ∧ At1 b w w' := by
  have H1 : Hid (Calls Tryz.prog 100 #[.pointer (some ⟨b, 0, none⟩), .int .i64 1] w fun e w' => e = .returned (.string (bytesOf (rTk 1 s).1)) ∧ Hid (RdI b (rTk 1 s).2 w' ∧ At1 b w w')) := rtake_any 1 h hr
  have H2 : Hid (∀ w1, RdI b (rTk 1 s).2 w1 ∧ At1 b w w1 → Calls Tryz.prog 130 #[.pointer (some ⟨b, 0, none⟩)] w1 fun e w' => e = .returned (.tuple #[]) ∧ Hid (RdI b ([], true) w' ∧ At1 b w w')) := fun w1 hu =>
    (rfail_any hu.1).mono fun e w' ⟨e1, e2, e3⟩ => ⟨e1, e2, hu.2.trans e3⟩
  unfold rF
  clear h
  obtain ⟨t, ht⟩ : ∃ t, (rTk 1 s).1 = t := ⟨_, rfl⟩
  rw [ht] at H1 ⊢
  clear ht
  by_cases h1 : t = [1]
  · subst h1
    have H1' : Hid (Calls Tryz.prog 100 #[.pointer (some ⟨b, 0, none⟩), .int .i64 1] w fun e w' => e = .returned (.string ⟨#[1]⟩) ∧ Hid (RdI b (rTk 1 s).2 w' ∧ At1 b w w')) := H1.out
    clear H1
    rw [if_pos (Or.inr rfl)]
    go_enter Tryz.func157, Tryz.ntmps157
    go_wp2_with (go_at_call 100; go_must (refine H1'.out.mono ?_; rintro e w1 ⟨rfl, K1⟩))
    go_ret
    exact ⟨rfl, K1.out⟩
  · by_cases h0 : t = [0]
    · subst h0
      have H1' : Hid (Calls Tryz.prog 100 #[.pointer (some ⟨b, 0, none⟩), .int .i64 1] w fun e w' => e = .returned (.string ⟨#[0]⟩) ∧ Hid (RdI b (rTk 1 s).2 w' ∧ At1 b w w')) := H1.out
      clear H1
      rw [if_pos (Or.inl rfl)]
      go_enter Tryz.func157, Tryz.ntmps157
      go_wp2_with (go_at_call 100; go_must (refine H1'.out.mono ?_; rintro e w1 ⟨rfl, K1⟩))
      go_ret
      exact ⟨rfl, K1.out⟩
    · rw [if_neg (by rintro (h | h); exact h0 h; exact h1 h)]
      have hf : decide (t = [1]) = false := decide_eq_false h1
      rw [hf]
      have hb : ∀ l : List UInt8, t ≠ l → ¬ bytesOf t = bytesOf l := fun l hl e => hl (by have := congrArg (fun s => s.data.toList) e; simpa [bytesOf_list] using this)
      have e0 : ¬ bytesOf t = ⟨#[0]⟩ := hb [0] h0
      have e1 : ¬ bytesOf t = ⟨#[1]⟩ := hb [1] h1
      obtain ⟨x, hx⟩ : ∃ x, bytesOf t = x := ⟨_, rfl⟩
      rw [hx] at H1 e0 e1
      clear hb hf hx
      have e2 : ¬ x.toList = [0] := fun e => e0 (by rw [Go.ByteArray.toList_eq] at e; rw [← list_ba x, e])
      have e3 : ¬ x.toList = [1] := fun e => e1 (by rw [Go.ByteArray.toList_eq] at e; rw [← list_ba x, e])
      have e4 : (x.toList == [1]) = false := beq_false_of_ne e3
      have e5 : (x.toList == [0]) = false := beq_false_of_ne e2
      go_enter Tryz.func157, Tryz.ntmps157
      go_wp2_with (first
        | (go_at_call 100; go_must (refine H1.out.mono ?_; rintro e w1 ⟨rfl, K1⟩))
        | (go_at_call 130; go_must (refine (H2.out _ K1.out).mono ?_; rintro e w2 ⟨rfl, K2⟩)))
      go_ret
      exact ⟨rfl, K2.out⟩

set_option maxRecDepth 100000 in
set_option maxHeartbeats 1000000 in
theorem rcolumn_any (h : RdI b s w) (hr : s.1.length ≤ 1000000) :
    Calls Tryz.prog 148 #[.pointer (some ⟨b, 0, none⟩)] w fun e w' => e = .returned (.agg #[.string (rC s).1.1, .int .i64 (rC s).1.2]) ∧ RdI b (rC s).2 w' ∧ At1 b w w' := by
  have hbl := lt_of h
  obtain ⟨o, ho⟩ : ∃ o : Obj, .cells #[.string ⟨#[]⟩, .int .i64 0] 70 = o := ⟨_, rfl⟩
  have h0 : RdI b s (w.alloc o) := h.below ((Below.refl _ w).alloc (Nat.le_refl _) _)
  have HX : Hid (∀ u, At1 b (w.alloc o) u → u.heap[w.heap.size]? = some o) := fun u hu => (hu.block _ (by simp) (by omega)).trans (heap_new w _)
  have q1 := Nat.le_trans (less_text s) hr
  have H1 : Hid (Calls Tryz.prog 131 #[.pointer (some ⟨b, 0, none⟩)] (w.alloc o) fun e w' => e = .returned (.string (rC s).1.1) ∧ Hid (RdI b (rT s).2 w' ∧ At1 b (w.alloc o) w')) := rtext_any h0 hr
  have H2 : Hid (∀ u, RdI b (rT s).2 u ∧ At1 b (w.alloc o) u → Calls Tryz.prog 78 #[.pointer (some ⟨b, 0, none⟩)] u fun e w' => e = .returned (.int .i64 (rC s).1.2) ∧ Hid (RdI b (rC s).2 w' ∧ At1 b (w.alloc o) w')) := fun u hu =>
    (rnumber_any hu.1 q1).mono fun e w' ⟨e1, e2, e3⟩ => ⟨e1, e2, hu.2.trans e3⟩
  obtain ⟨nm, hnm⟩ : ∃ nm, (rC s).1.1 = nm := ⟨_, rfl⟩
  obtain ⟨k, hk⟩ : ∃ k, (rC s).1.2 = k := ⟨_, rfl⟩
  rw [hnm] at H1 ⊢
  rw [hk] at H2 ⊢
  subst ho
  have HC : Hid (∀ u, At1 b (w.alloc (.cells #[.string ⟨#[]⟩, .int .i64 0] 70)) u → u.cell? ⟨w.heap.size, 0, none⟩ = some (.string ⟨#[]⟩) ∧ u.cell? ⟨w.heap.size, 1, none⟩ = some (.int .i64 0) ∧ u.frozen? ⟨w.heap.size, 0, none⟩ = false ∧ u.frozen? ⟨w.heap.size, 1, none⟩ = false) := fun u hu => by
    have k := HX.out u hu
    exact ⟨by rw [cell_of k]; rfl, by rw [cell_of k]; rfl, frozen_of k 0, frozen_of k 1⟩
  clear h h0 hnm hk
  go_enter Tryz.func148, Tryz.ntmps148
  go_wp2_with (first
    | (go_at_call 131; go_must (refine H1.out.mono ?_; rintro e w1 ⟨rfl, K1⟩))
    | (go_at_call 78; go_must (refine (H2.out _ K1.out).mono ?_; rintro e w2 ⟨rfl, K2⟩; obtain ⟨c0, c1, c2, c3⟩ := HC.out _ K2.out.2)))
  have hk := HX.out w2 K2.out.2
  have i0 : (w2.setCell ⟨w.heap.size, 0, none⟩ (.string nm)).cell? ⟨w.heap.size, 0, none⟩ = some (.string nm) := by rw [cell_of (heap_setCell_same hk 0 _)]; rfl
  have i1 : ∀ a, ((w2.setCell ⟨w.heap.size, 0, none⟩ a).setCell ⟨w.heap.size, 1, none⟩ (.int .i64 k)).cell? ⟨w.heap.size, 1, none⟩ = some (.int .i64 k) := fun a => by rw [cell_of (heap_setCell_same (heap_setCell_same hk 0 _) 1 _)]; rfl
  refine bodyPost_ret (by simp [results, Tryz.results148, go_sem, i0, i1]; rfl) rfl ?_
  have ht : Turn (fun i => i = w.heap.size) w2 ((w2.setCell ⟨w.heap.size, 0, none⟩ (.string nm)).setCell ⟨w.heap.size, 1, none⟩ (.int .i64 k)) := (Turn.setCell (S := fun i => i = w.heap.size) w2 ⟨w.heap.size, 0, none⟩ _ rfl).trans (Turn.setCell _ ⟨w.heap.size, 1, none⟩ _ rfl)
  exact ⟨rfl, (ht.block b (lt_of K2.out.1) (by omega)).trans K2.out.1, ((Turn.alloc w _).trans K2.out.2).transNew ht (fun i hi => Or.inr (by omega))⟩
end

end Go.Proofs.YtnboanlhdllhnaaGreat

/- mess: the reader's lists, indexes and whole schemas. -/
namespace Go.Proofs.YtnboanlhdllhnaaGreat
open Go.RowKit

/-- what a reader of lists answers: a slice of its own -/
def ListR {α : Type} (en : α → List Value) (m : Nat) (T : TypeId) (b : Nat) (w : World) (p : List α × St) (e : Ending) (w' : World) : Prop :=
  ∃ a n c, e = .returned (.slice a n c) ∧ Hid (n = p.1.length ∧ RdI b p.2 w' ∧ At1 b w w' ∧ w'.ownsRow w.heap.size T m (.slice a n c) n (flat en p.1))

theorem make_ints (n : Nat) (hn : n ≤ 100000) (w : World) : (Instr.makeSlice 62 (.int .i64 (n : Int)) (.int .i64 (n : Int))).run Tryz.prog w = .ok (.slice (some ⟨w.heap.size, 0, none⟩) n n) (w.alloc (.cells (flat enI (List.replicate n 0)).toArray 3)) :=
  make_rows (en := enI) (m := 1) (fun _ => rfl) (by decide) 0 62 3 8 (.int .i64 0) rfl Tryz.underlying62 infoInt_parts n hn (by decide) w

theorem setI_heap {U : World} {p j : Nat} {K : List Int} (h : U.heap[p]? = some (.cells (flat enI K).toArray 3 (0, 0))) (hj : j < K.length) (k : Int) :
    (U.setCell ⟨p, j, none⟩ (.int .i64 k)).heap[p]? = some (.cells (flat enI (K.set j k)).toArray 3 (0, 0)) := by
  have h1 := heap_setCell_same h j (.int .i64 k)
  rw [h1]
  have e1 := flat_set (en := enI) (m := 1) (fun _ => rfl) K j hj 0 (.int .i64 k) k (by omega) rfl
  simp only [List.setIfInBounds_toArray]
  rw [show 1 * j + 0 = j by omega] at e1
  rw [e1]

section
variable {b : Nat} {s : St} {w : World}

set_option maxRecDepth 100000 in
set_option maxHeartbeats 1000000 in
theorem rlistN_any (h : RdI b s w) (hr : s.1.length ≤ 1000000) :
    Calls Tryz.prog 156 #[.pointer (some ⟨b, 0, none⟩), .func (.func 78) #[.pointer (some ⟨b, 0, none⟩)] #[]] w (ListR enI 1 3 b w (rL rN s)) := by
  have hbl := lt_of h
  have H1 : Hid (Calls Tryz.prog 78 #[.pointer (some ⟨b, 0, none⟩)] w fun e w' => e = .returned (.int .i64 (rN s).1) ∧ Hid (RdI b (rN s).2 w' ∧ At1 b w w')) := rnumber_any h hr
  have H2 : Hid (∀ w1, RdI b (rN s).2 w1 ∧ At1 b w w1 → Calls Tryz.prog 130 #[.pointer (some ⟨b, 0, none⟩)] w1 fun e w' => e = .returned (.tuple #[]) ∧ Hid (RdI b ([], true) w' ∧ At1 b w w')) := fun w1 hu =>
    (rfail_any hu.1).mono fun e w' ⟨e1, e2, e3⟩ => ⟨e1, e2, hu.2.trans e3⟩
  have q1 := Nat.le_trans (less_num s) hr
  have H3 : Hid (∀ u j, RdI b (rRep rN j (rN s).2).2 u → Calls Tryz.prog 78 #[.pointer (some ⟨b, 0, none⟩)] u fun e w' => e = .returned (.int .i64 (rN (rRep rN j (rN s).2).2).1) ∧ Hid (RdI b (rRep rN (j + 1) (rN s).2).2 w' ∧ At1 b u w')) := fun u j hu => by
    have := rnumber_any hu (Nat.le_trans (less_rep less_num j _) q1)
    rw [rRep_next]
    exact this
  obtain ⟨n, hn⟩ : ∃ n, (rN s).1 = n := ⟨_, rfl⟩
  have HN : Hid ((rN s).1 = n) := hn
  rw [hn] at H1
  clear h hn
  by_cases hc : 0 ≤ n ∧ n ≤ 4096
  · obtain ⟨c1, c2⟩ := hc
    obtain ⟨N, rfl⟩ := Int.eq_ofNat_of_zero_le c1
    have hm := fun u => make_ints N (by omega) u
    obtain ⟨K, hK⟩ : ∃ K, (rRep rN N (rN s).2).1 = K := ⟨_, rfl⟩
    have HK : Hid (rL rN s = (K, (rRep rN N (rN s).2).2)) := by
      show _ = _
      unfold rL
      rw [HN.out, if_pos ⟨c1, c2⟩, show ((N : Int)).toNat = N from rfl, ← hK]
    have HKl : Hid (K.length = N) := by show _ = _; rw [← hK]; exact rRep_length _ _ _
    have HKa : Hid (∀ j, j < N → K[j]? = some (rN (rRep rN j (rN s).2).2).1) := fun j hj => by rw [← hK]; exact rRep_at _ _ _ _ hj
    have k1 : ¬ ((N : Int) < 0) := by omega
    have k2 : ¬ ((4096 : Int) < (N : Int)) := by omega
    clear hK
    go_enter Tryz.func156, Tryz.ntmps156
    go_wp2_with (go_at_call 78; go_must (refine H1.out.mono ?_; rintro e w1 ⟨rfl, K1⟩))
    obtain ⟨g, hg⟩ : ∃ g, w1.heap.size = g := ⟨_, rfl⟩
    obtain ⟨wA, hwA⟩ : ∃ wA, w1.alloc (.cells (flat enI (List.replicate N 0)).toArray 3) = wA := ⟨_, rfl⟩
    have HA : Hid (RdI b (rN s).2 wA ∧ At1 b w wA ∧ wA.heap[g]? = some (.cells (flat enI (List.replicate N 0)).toArray 3 (0, 0)) ∧ w.heap.size ≤ g) := by
      rw [← hwA, ← hg]
      exact ⟨K1.out.1.below ((Below.refl _ w1).alloc (Nat.le_refl _) _), K1.out.2.trans (Turn.alloc w1 _), heap_new w1 _, K1.out.2.size⟩
    rw [hg, hwA]
    clear hm hg hwA K1
    go_loopw [22] (fun v wr => ∃ j : Nat, j ≤ N ∧ v = .int .i64 j ∧ Hid (RdI b (rRep rN j (rN s).2).2 wr ∧ At1 b w wr ∧ wr.heap[g]? = some (.cells (flat enI (partG 0 K j)).toArray 3 (0, 0)) ∧ w.heap.size ≤ g)) (fun v _ => N - (intOf v).toNat)
    case atStart => exact ⟨0, Nat.zero_le _, rfl, (by rw [partG_zero, HKl.out]; exact HA.out)⟩
    case round =>
      clear HA
      obtain ⟨j, hj, rfl, HQ⟩ := hrel
      by_cases hlt : j < N
      · have hlI : (j : Int) < (N : Int) := by omega
        have hjl : j < K.length := by rw [HKl.out]; exact hlt
        have H4 : Hid (Calls Tryz.prog 78 #[.pointer (some ⟨b, 0, none⟩)] wr fun e w' => e = .returned (.int .i64 (rN (rRep rN j (rN s).2).2).1) ∧ Hid (RdI b (rRep rN (j + 1) (rN s).2).2 w' ∧ At1 b wr w')) := H3.out wr j HQ.out.1
        have HKj := HKa.out j hlt
        obtain ⟨x, hx⟩ : ∃ x, (rN (rRep rN j (rN s).2).2).1 = x := ⟨_, rfl⟩
        rw [hx] at H4 HKj
        have HKx : Hid (K[j]? = some x) := HKj
        have HF : Hid (∀ u, At1 b wr u → u.heap[g]? = some (.cells (flat enI (partG 0 K j)).toArray 3 (0, 0))) := fun u hu => (hu.block g (lt_of HQ.out.2.2.1) (by have := HQ.out.2.2.2; omega)).trans HQ.out.2.2.1
        have HF2 : Hid (∀ u, At1 b wr u → u.cell? ⟨g, j, none⟩ = some (.int .i64 0) ∧ u.frozen? ⟨g, j, none⟩ = false) := fun u hu => by
          have c := HF.out u hu
          have c2 := rows_at (en := enI) (m := 1) (fun _ => rfl) c (partG_at hjl) (i := 0) rfl
          rw [show j * 1 + 0 = j by omega] at c2
          exact ⟨c2, frozen_of c _⟩
        clear HKj hx hjl
        go_wp2_with (go_at_call 78; go_must (refine H4.out.mono ?_; rintro e w2 ⟨rfl, K2⟩; obtain ⟨v1, v2⟩ := HF2.out _ K2.out.2))
        go_roundw
        case rel =>
          refine ⟨j + 1, by omega, by go_num, ?_⟩
          have hjl : j < K.length := by rw [HKl.out]; exact hlt
          have ht : Turn (fun i => i = g) w2 (w2.setCell ⟨g, j, none⟩ (.int .i64 x)) := Turn.setCell (S := fun i => i = g) w2 ⟨g, j, none⟩ _ rfl
          have hgb : g ≠ b := by have := HQ.out.2.2.2; omega
          refine ⟨(ht.block b (lt_of K2.out.1) (Ne.symm hgb)).trans K2.out.1, (HQ.out.2.1.trans K2.out.2).transNew ht (fun i hi => Or.inr (by have := HQ.out.2.2.2; omega)), ?_, HQ.out.2.2.2⟩
          have hs := setI_heap (HF.out _ K2.out.2) (j := j) (by rw [partG_length (by omega)]; exact hjl) x
          have hxk : x = K[j] := by have := HKx.out; rw [List.getElem?_eq_getElem hjl] at this; exact (Option.some.inj this).symm
          rw [hxk, partG_next hjl] at hs
          rw [hxk]
          exact hs
        case measure => simp [intOf]; omega
      · have hlI : ¬ (j : Int) < (N : Int) := by omega
        go_wp2
        go_ret
        show ListR _ _ _ _ _ _ _ _
        rw [HK.out]
        obtain ⟨g1, g2, g3, g4⟩ := HQ.out
        have hjN : j = N := by omega
        rw [hjN] at g1
        have e := HKl.out
        rw [hjN, ← e, partG_all] at g3
        refine ⟨_, _, _, rfl, e.symm, g1, g2, ?_⟩
        exact row_made (en := enI) (m := 1) (fun _ => rfl) e (by omega) g3 g4
  · have HK : Hid (rL rN s = ([], ([], true))) := by
      show _ = _
      unfold rL
      rw [HN.out, if_neg hc]
    by_cases h0 : n < 0
    · go_enter Tryz.func156, Tryz.ntmps156
      go_wp2_with (first
        | (go_at_call 78; go_must (refine H1.out.mono ?_; rintro e w1 ⟨rfl, K1⟩))
        | (go_at_call 130; go_must (refine (H2.out _ K1.out).mono ?_; rintro e w2 ⟨rfl, K2⟩)))
      go_ret
      show ListR _ _ _ _ _ _ _ _
      rw [HK.out]
      exact ⟨none, 0, 0, rfl, rfl, K2.out.1, K2.out.2, World.ownsRow_nil _ _ _ _⟩
    · have h1 : (4096 : Int) < n := by omega
      go_enter Tryz.func156, Tryz.ntmps156
      go_wp2_with (first
        | (go_at_call 78; go_must (refine H1.out.mono ?_; rintro e w1 ⟨rfl, K1⟩))
        | (go_at_call 130; go_must (refine (H2.out _ K1.out).mono ?_; rintro e w2 ⟨rfl, K2⟩)))
      go_ret
      show ListR _ _ _ _ _ _ _ _
      rw [HK.out]
      exact ⟨none, 0, 0, rfl, rfl, K2.out.1, K2.out.2, World.ownsRow_nil _ _ _ _⟩

set_option maxRecDepth 100000 in
set_option maxHeartbeats 1000000 in
theorem rlistC_any (h : RdI b s w) (hr : s.1.length ≤ 1000000) :
    Calls Tryz.prog 147 #[.pointer (some ⟨b, 0, none⟩), .func (.func 148) #[.pointer (some ⟨b, 0, none⟩)] #[]] w (ListR enC 2 70 b w (rL rC s)) := by
  have hbl := lt_of h
  have H1 : Hid (Calls Tryz.prog 78 #[.pointer (some ⟨b, 0, none⟩)] w fun e w' => e = .returned (.int .i64 (rN s).1) ∧ Hid (RdI b (rN s).2 w' ∧ At1 b w w')) := rnumber_any h hr
  have H2 : Hid (∀ w1, RdI b (rN s).2 w1 ∧ At1 b w w1 → Calls Tryz.prog 130 #[.pointer (some ⟨b, 0, none⟩)] w1 fun e w' => e = .returned (.tuple #[]) ∧ Hid (RdI b ([], true) w' ∧ At1 b w w')) := fun w1 hu =>
    (rfail_any hu.1).mono fun e w' ⟨e1, e2, e3⟩ => ⟨e1, e2, hu.2.trans e3⟩
  have q1 := Nat.le_trans (less_num s) hr
  have H3 : Hid (∀ u j, RdI b (rRep rC j (rN s).2).2 u → Calls Tryz.prog 148 #[.pointer (some ⟨b, 0, none⟩)] u fun e w' => e = .returned (.agg #[.string (rC (rRep rC j (rN s).2).2).1.1, .int .i64 (rC (rRep rC j (rN s).2).2).1.2]) ∧ Hid (RdI b (rRep rC (j + 1) (rN s).2).2 w' ∧ At1 b u w')) := fun u j hu => by
    have := rcolumn_any hu (Nat.le_trans (less_rep less_col j _) q1)
    rw [rRep_next]
    exact this
  obtain ⟨n, hn⟩ : ∃ n, (rN s).1 = n := ⟨_, rfl⟩
  have HN : Hid ((rN s).1 = n) := hn
  rw [hn] at H1
  clear h hn
  by_cases hc : 0 ≤ n ∧ n ≤ 4096
  · obtain ⟨c1, c2⟩ := hc
    obtain ⟨N, rfl⟩ := Int.eq_ofNat_of_zero_le c1
    have hm := fun u => make_cols N (by omega) u
    obtain ⟨K, hK⟩ : ∃ K, (rRep rC N (rN s).2).1 = K := ⟨_, rfl⟩
    have HK : Hid (rL rC s = (K, (rRep rC N (rN s).2).2)) := by
      show _ = _
      unfold rL
      rw [HN.out, if_pos ⟨c1, c2⟩, show ((N : Int)).toNat = N from rfl, ← hK]
    have HKl : Hid (K.length = N) := by show _ = _; rw [← hK]; exact rRep_length _ _ _
    have HKa : Hid (∀ j, j < N → K[j]? = some (rC (rRep rC j (rN s).2).2).1) := fun j hj => by rw [← hK]; exact rRep_at _ _ _ _ hj
    have k1 : ¬ ((N : Int) < 0) := by omega
    have k2 : ¬ ((4096 : Int) < (N : Int)) := by omega
    clear hK
    go_enter Tryz.func147, Tryz.ntmps147
    go_wp2_with (go_at_call 78; go_must (refine H1.out.mono ?_; rintro e w1 ⟨rfl, K1⟩))
    obtain ⟨g, hg⟩ : ∃ g, w1.heap.size = g := ⟨_, rfl⟩
    obtain ⟨wA, hwA⟩ : ∃ wA, w1.alloc (.cells (flat enC (List.replicate N noCol)).toArray 70) = wA := ⟨_, rfl⟩
    have HA : Hid (RdI b (rN s).2 wA ∧ At1 b w wA ∧ wA.heap[g]? = some (.cells (flat enC (List.replicate N noCol)).toArray 70 (0, 0)) ∧ w.heap.size ≤ g) := by
      rw [← hwA, ← hg]
      exact ⟨K1.out.1.below ((Below.refl _ w1).alloc (Nat.le_refl _) _), K1.out.2.trans (Turn.alloc w1 _), heap_new w1 _, K1.out.2.size⟩
    rw [hg, hwA]
    clear hm hg hwA K1
    go_loopw [22] (fun v wr => ∃ j : Nat, j ≤ N ∧ v = .int .i64 j ∧ Hid (RdI b (rRep rC j (rN s).2).2 wr ∧ At1 b w wr ∧ wr.heap[g]? = some (.cells (flat enC (partG noCol K j)).toArray 70 (0, 0)) ∧ w.heap.size ≤ g)) (fun v _ => N - (intOf v).toNat)
    case atStart => exact ⟨0, Nat.zero_le _, rfl, (by rw [partG_zero, HKl.out]; exact HA.out)⟩
    case round =>
      clear HA
      obtain ⟨j, hj, rfl, HQ⟩ := hrel
      by_cases hlt : j < N
      · have hlI : (j : Int) < (N : Int) := by omega
        have hjl : j < K.length := by rw [HKl.out]; exact hlt
        have H4 : Hid (Calls Tryz.prog 148 #[.pointer (some ⟨b, 0, none⟩)] wr fun e w' => e = .returned (.agg #[.string (rC (rRep rC j (rN s).2).2).1.1, .int .i64 (rC (rRep rC j (rN s).2).2).1.2]) ∧ Hid (RdI b (rRep rC (j + 1) (rN s).2).2 w' ∧ At1 b wr w')) := H3.out wr j HQ.out.1
        have HKj := HKa.out j hlt
        obtain ⟨⟨x, k⟩, hx⟩ : ∃ x, (rC (rRep rC j (rN s).2).2).1 = x := ⟨_, rfl⟩
        rw [hx] at H4 HKj
        dsimp only at H4
        have HKx : Hid (K[j]? = some (x, k)) := HKj
        have HF : Hid (∀ u, At1 b wr u → u.heap[g]? = some (.cells (flat enC (partG noCol K j)).toArray 70 (0, 0))) := fun u hu => (hu.block g (lt_of HQ.out.2.2.1) (by have := HQ.out.2.2.2; omega)).trans HQ.out.2.2.1
        have HF2 : Hid (∀ u, At1 b wr u → u.cell? ⟨g, j * 2, none⟩ = some (.string ⟨#[]⟩) ∧ u.cell? ⟨g, j * 2 + 1, none⟩ = some (.int .i64 0) ∧ u.frozen? ⟨g, j * 2, none⟩ = false ∧ u.frozen? ⟨g, j * 2 + 1, none⟩ = false) := fun u hu => by
          have c := HF.out u hu
          exact ⟨rows_at (en := enC) (m := 2) (fun _ => rfl) c (partG_at hjl) (i := 0) rfl, rows_at (en := enC) (m := 2) (fun _ => rfl) c (partG_at hjl) (i := 1) rfl, frozen_of c _, frozen_of c _⟩
        have hjN2 : j * 2 + 1 < N * 2 := by omega
        clear HKj hx hjl
        go_wp2_with (go_at_call 148; go_must (refine H4.out.mono ?_; rintro e w2 ⟨rfl, K2⟩; obtain ⟨v1, v2, v3, v4⟩ := HF2.out _ K2.out.2))
        go_roundw
        case rel =>
          refine ⟨j + 1, by omega, by go_num, ?_⟩
          have hjl : j < K.length := by rw [HKl.out]; exact hlt
          have ht : Turn (fun i => i = g) w2 ((w2.setCell ⟨g, j * 2, none⟩ (.string x)).setCell ⟨g, j * 2 + 1, none⟩ (.int .i64 k)) := (Turn.setCell (S := fun i => i = g) w2 ⟨g, j * 2, none⟩ _ rfl).trans (Turn.setCell _ ⟨g, j * 2 + 1, none⟩ _ rfl)
          have hgb : g ≠ b := by have := HQ.out.2.2.2; omega
          refine ⟨(ht.block b (lt_of K2.out.1) (Ne.symm hgb)).trans K2.out.1, (HQ.out.2.1.trans K2.out.2).transNew ht (fun i hi => Or.inr (by have := HQ.out.2.2.2; omega)), ?_, HQ.out.2.2.2⟩
          have hs := setC_heap (HF.out _ K2.out.2) (j := j) (by rw [partG_length (by omega)]; exact hjl) x k
          have hxk : (x, k) = K[j] := by have := HKx.out; rw [List.getElem?_eq_getElem hjl] at this; exact (Option.some.inj this).symm
          rw [hxk, partG_next hjl] at hs
          exact hs
        case measure => simp [intOf]; omega
      · have hlI : ¬ (j : Int) < (N : Int) := by omega
        go_wp2
        go_ret
        show ListR _ _ _ _ _ _ _ _
        rw [HK.out]
        obtain ⟨g1, g2, g3, g4⟩ := HQ.out
        have hjN : j = N := by omega
        rw [hjN] at g1
        have e := HKl.out
        rw [hjN, ← e, partG_all] at g3
        refine ⟨_, _, _, rfl, e.symm, g1, g2, ?_⟩
        exact row_made (en := enC) (m := 2) (fun _ => rfl) e (by omega) g3 g4
  · have HK : Hid (rL rC s = ([], ([], true))) := by
      show _ = _
      unfold rL
      rw [HN.out, if_neg hc]
    by_cases h0 : n < 0
    · go_enter Tryz.func147, Tryz.ntmps147
      go_wp2_with (first
        | (go_at_call 78; go_must (refine H1.out.mono ?_; rintro e w1 ⟨rfl, K1⟩))
        | (go_at_call 130; go_must (refine (H2.out _ K1.out).mono ?_; rintro e w2 ⟨rfl, K2⟩)))
      go_ret
      show ListR _ _ _ _ _ _ _ _
      rw [HK.out]
      exact ⟨none, 0, 0, rfl, rfl, K2.out.1, K2.out.2, World.ownsRow_nil _ _ _ _⟩
    · have h1 : (4096 : Int) < n := by omega
      go_enter Tryz.func147, Tryz.ntmps147
      go_wp2_with (first
        | (go_at_call 78; go_must (refine H1.out.mono ?_; rintro e w1 ⟨rfl, K1⟩))
        | (go_at_call 130; go_must (refine (H2.out _ K1.out).mono ?_; rintro e w2 ⟨rfl, K2⟩)))
      go_ret
      show ListR _ _ _ _ _ _ _ _
      rw [HK.out]
      exact ⟨none, 0, 0, rfl, rfl, K2.out.1, K2.out.2, World.ownsRow_nil _ _ _ _⟩

/-- what a reader of indexes answers -/
def IxR (b : Nat) (w : World) (p : Ix × St) (e : Ending) (w' : World) : Prop :=
  ∃ a n c, e = .returned (.agg #[.string p.1.nm, .slice a n c, .bool p.1.un]) ∧ Hid (n = p.1.cs.length ∧ RdI b p.2 w' ∧ At1 b w w' ∧ w'.ownsRow w.heap.size 3 1 (.slice a n c) n (flat enI p.1.cs))

theorem own_at1 {w w' : World} {base b n m : Nat} {T : TypeId} {v : Value} {xs : List Value} (h : w.ownsRow base T m v n xs) (ht : At1 b w w') (hb : b < base) : w'.ownsRow base T m v n xs :=
  ownsRow_block h fun g hg => ht.block g (World.ownsRow.lt h g hg).2 (by have := (World.ownsRow.lt h g hg).1; omega)

abbrev ixZ : Obj := .cells #[.string ⟨#[]⟩, .slice none 0 0, .bool false] 64

set_option maxRecDepth 100000 in
set_option maxHeartbeats 1000000 in
theorem rindex_any (h : RdI b s w) (hr : s.1.length ≤ 1000000) :
    Calls Tryz.prog 150 #[.pointer (some ⟨b, 0, none⟩)] w (IxR b w (rX s)) := by
  have hbl := lt_of h
  have h0 : RdI b s (w.alloc ixZ) := h.below ((Below.refl _ w).alloc (Nat.le_refl _) _)
  have HX : Hid (∀ u, At1 b (w.alloc ixZ) u → u.heap[w.heap.size]? = some ixZ) := fun u hu => (hu.block _ (by simp) (by omega)).trans (heap_new w _)
  have q1 := Nat.le_trans (less_text s) hr
  have q2 := Nat.le_trans (less_list less_num (rT s).2) q1
  have H1 : Hid (Calls Tryz.prog 131 #[.pointer (some ⟨b, 0, none⟩)] (w.alloc ixZ) fun e w' => e = .returned (.string (rT s).1) ∧ Hid (RdI b (rT s).2 w' ∧ At1 b (w.alloc ixZ) w')) := rtext_any h0 hr
  have H2 : Hid (∀ u, RdI b (rT s).2 u ∧ At1 b (w.alloc ixZ) u → Calls Tryz.prog 156 #[.pointer (some ⟨b, 0, none⟩), .func (.func 78) #[.pointer (some ⟨b, 0, none⟩)] #[]] u fun e w' => ∃ a n c, e = .returned (.slice a n c) ∧ Hid (n = (rL rN (rT s).2).1.length ∧ RdI b (rL rN (rT s).2).2 w' ∧ At1 b (w.alloc ixZ) w' ∧ w'.ownsRow (w.heap.size + 1) 3 1 (.slice a n c) n (flat enI (rL rN (rT s).2).1))) := fun u hu =>
    (rlistN_any hu.1 q1).mono fun e w' ⟨a, n, c, e1, e2⟩ => ⟨a, n, c, e1, e2.out.1, e2.out.2.1, hu.2.trans e2.out.2.2.1, ownsRow_low e2.out.2.2.2 (by have := hu.2.size; simpa using this)⟩
  have H3 : Hid (∀ u, RdI b (rL rN (rT s).2).2 u ∧ At1 b (w.alloc ixZ) u → Calls Tryz.prog 157 #[.pointer (some ⟨b, 0, none⟩)] u fun e w' => e = .returned (.bool (rF (rL rN (rT s).2).2).1) ∧ Hid (RdI b (rX s).2 w' ∧ At1 b u w')) := fun u hu => rflag_any hu.1 q2
  obtain ⟨nm, hnm⟩ : ∃ nm, (rT s).1 = nm := ⟨_, rfl⟩
  obtain ⟨un, hun⟩ : ∃ un, (rF (rL rN (rT s).2).2).1 = un := ⟨_, rfl⟩
  obtain ⟨K, hK⟩ : ∃ K, (rL rN (rT s).2).1 = K := ⟨_, rfl⟩
  have HE : Hid ((rX s).1 = ⟨nm, K, un⟩) := by show _ = _; unfold rX; rw [hnm, hun, hK]
  rw [hnm] at H1
  rw [hun] at H3
  rw [hK] at H2
  have HC : Hid (∀ u, At1 b (w.alloc ixZ) u → u.cell? ⟨w.heap.size, 0, none⟩ = some (.string ⟨#[]⟩) ∧ u.cell? ⟨w.heap.size, 1, none⟩ = some (.slice none 0 0) ∧ u.cell? ⟨w.heap.size, 2, none⟩ = some (.bool false) ∧ u.frozen? ⟨w.heap.size, 0, none⟩ = false ∧ u.frozen? ⟨w.heap.size, 1, none⟩ = false ∧ u.frozen? ⟨w.heap.size, 2, none⟩ = false) := fun u hu => by
    have k := HX.out u hu
    exact ⟨by rw [cell_of k]; rfl, by rw [cell_of k]; rfl, by rw [cell_of k]; rfl, frozen_of k 0, frozen_of k 1, frozen_of k 2⟩
  clear h h0 hnm hun hK
  go_enter Tryz.func150, Tryz.ntmps150
  go_wp2_with (first
    | (go_at_call 131; go_must (refine H1.out.mono ?_; rintro e w1 ⟨rfl, K1⟩))
    | (go_at_call 156; go_must (refine (H2.out _ K1.out).mono ?_; rintro e w2 ⟨a, n, c, rfl, K2⟩))
    | (go_at_call 157; go_must (refine (H3.out _ ⟨K2.out.2.1, K2.out.2.2.1⟩).mono ?_; rintro e w3 ⟨rfl, K3⟩; obtain ⟨c0, c1, c2, c3, c4, c5⟩ := HC.out _ (K2.out.2.2.1.trans K3.out.2))))
  have ha3 : At1 b (w.alloc ixZ) w3 := K2.out.2.2.1.trans K3.out.2
  have hk := HX.out w3 ha3
  have i0 : (w3.setCell ⟨w.heap.size, 0, none⟩ (.string nm)).cell? ⟨w.heap.size, 0, none⟩ = some (.string nm) := by rw [cell_of (heap_setCell_same hk 0 _)]; rfl
  have i1 : ∀ x, ((w3.setCell ⟨w.heap.size, 0, none⟩ x).setCell ⟨w.heap.size, 1, none⟩ (.slice a n c)).cell? ⟨w.heap.size, 1, none⟩ = some (.slice a n c) := fun x => by rw [cell_of (heap_setCell_same (heap_setCell_same hk 0 _) 1 _)]; rfl
  have i2 : ∀ x y, (((w3.setCell ⟨w.heap.size, 0, none⟩ x).setCell ⟨w.heap.size, 1, none⟩ y).setCell ⟨w.heap.size, 2, none⟩ (.bool un)).cell? ⟨w.heap.size, 2, none⟩ = some (.bool un) := fun x y => by rw [cell_of (heap_setCell_same (heap_setCell_same (heap_setCell_same hk 0 _) 1 _) 2 _)]; rfl
  refine bodyPost_ret (by simp [results, Tryz.results150, go_sem, i0, i1, i2]; rfl) rfl ?_
  have ht : Turn (fun i => i = w.heap.size) w3 (((w3.setCell ⟨w.heap.size, 0, none⟩ (.string nm)).setCell ⟨w.heap.size, 1, none⟩ (.slice a n c)).setCell ⟨w.heap.size, 2, none⟩ (.bool un)) := ((Turn.setCell (S := fun i => i = w.heap.size) w3 ⟨w.heap.size, 0, none⟩ _ rfl).trans (Turn.setCell _ ⟨w.heap.size, 1, none⟩ _ rfl)).trans (Turn.setCell _ ⟨w.heap.size, 2, none⟩ _ rfl)
  show IxR _ _ _ _ _
  unfold IxR
  rw [HE.out]
  have hrow := own_at1 K2.out.2.2.2 K3.out.2 (by omega)
  refine ⟨a, n, c, rfl, K2.out.1, (ht.block b (lt_of K3.out.1) (by omega)).trans K3.out.1, ((Turn.alloc w _).trans ha3).transNew ht (fun i hi => Or.inr (by omega)), ?_⟩
  exact ownsRow_low (ownsRow_block hrow fun g hg => ht.block g (World.ownsRow.lt hrow g hg).2 (by have := (World.ownsRow.lt hrow g hg).1; omega)) (by omega)

end

end Go.Proofs.YtnboanlhdllhnaaGreat

/- mess: the reader's lists of indexes, and whole schemas. -/
namespace Go.Proofs.YtnboanlhdllhnaaGreat
open Go.RowKit

abbrev NumsO (w : World) (base : Nat) (x : Iv) : Prop := w.ownsRow base 3 1 x.v x.ix.cs.length (flat enI x.ix.cs)
def ListX (b : Nat) (w : World) (p : List Ix × St) (e : Ending) (w' : World) : Prop :=
  ∃ a n c X, e = .returned (.slice a n c) ∧ Hid (n = X.length ∧ X.map Iv.ix = p.1 ∧ RdI b p.2 w' ∧ At1 b w w' ∧ w'.ownsRow w.heap.size 64 3 (.slice a n c) n (flat enX X) ∧ ∀ x ∈ X, NumsO w' w.heap.size x)

/-- the list of indexes, as far as it has come -/
structure XL (b : Nat) (w wr : World) (g N : Nat) (K : List Ix) (s : St) (X : List Iv) (j : Nat) : Prop where
  len : X.length = N
  eq : X.map Iv.ix = K
  rd : RdI b s wr
  at1 : At1 b w wr
  row : wr.heap[g]? = some (.cells (flat enX (partG noIv X j)).toArray 64 (0, 0))
  new : w.heap.size ≤ g
  nums : ∀ x ∈ partG noIv X j, NumsO wr w.heap.size x

section
variable {b : Nat} {s : St} {w : World}

set_option maxRecDepth 100000 in
set_option maxHeartbeats 1000000 in
theorem rlistX_any (h : RdI b s w) (hr : s.1.length ≤ 1000000) :
    Calls Tryz.prog 149 #[.pointer (some ⟨b, 0, none⟩), .func (.func 150) #[.pointer (some ⟨b, 0, none⟩)] #[]] w (ListX b w (rL rX s)) := by
  have hbl := lt_of h
  have H1 : Hid (Calls Tryz.prog 78 #[.pointer (some ⟨b, 0, none⟩)] w fun e w' => e = .returned (.int .i64 (rN s).1) ∧ Hid (RdI b (rN s).2 w' ∧ At1 b w w')) := rnumber_any h hr
  have H2 : Hid (∀ w1, RdI b (rN s).2 w1 ∧ At1 b w w1 → Calls Tryz.prog 130 #[.pointer (some ⟨b, 0, none⟩)] w1 fun e w' => e = .returned (.tuple #[]) ∧ Hid (RdI b ([], true) w' ∧ At1 b w w')) := fun w1 hu =>
    (rfail_any hu.1).mono fun e w' ⟨e1, e2, e3⟩ => ⟨e1, e2, hu.2.trans e3⟩
  have q1 := Nat.le_trans (less_num s) hr
  have H3 : Hid (∀ u j, RdI b (rRep rX j (rN s).2).2 u → Calls Tryz.prog 150 #[.pointer (some ⟨b, 0, none⟩)] u (IxR b u (rX (rRep rX j (rN s).2).2))) := fun u j hu => rindex_any hu (Nat.le_trans (less_rep less_ix j _) q1)
  obtain ⟨n, hn⟩ : ∃ n, (rN s).1 = n := ⟨_, rfl⟩
  have HN : Hid ((rN s).1 = n) := hn
  rw [hn] at H1
  clear h hn
  by_cases hc : 0 ≤ n ∧ n ≤ 4096
  · obtain ⟨c1, c2⟩ := hc
    obtain ⟨N, rfl⟩ := Int.eq_ofNat_of_zero_le c1
    have hm := fun u => make_ixs N (by omega) u
    obtain ⟨K, hK⟩ : ∃ K, (rRep rX N (rN s).2).1 = K := ⟨_, rfl⟩
    have HK : Hid (rL rX s = (K, (rRep rX N (rN s).2).2)) := by
      show _ = _
      unfold rL
      rw [HN.out, if_pos ⟨c1, c2⟩, show ((N : Int)).toNat = N from rfl, ← hK]
    have HKl : Hid (K.length = N) := by show _ = _; rw [← hK]; exact rRep_length _ _ _
    have HKa : Hid (∀ j, j < N → K[j]? = some (rX (rRep rX j (rN s).2).2).1) := fun j hj => by rw [← hK]; exact rRep_at _ _ _ _ hj
    have k1 : ¬ ((N : Int) < 0) := by omega
    have k2 : ¬ ((4096 : Int) < (N : Int)) := by omega
    clear hK
    go_enter Tryz.func149, Tryz.ntmps149
    go_wp2_with (go_at_call 78; go_must (refine H1.out.mono ?_; rintro e w1 ⟨rfl, K1⟩))
    obtain ⟨g, hg⟩ : ∃ g, w1.heap.size = g := ⟨_, rfl⟩
    obtain ⟨wA, hwA⟩ : ∃ wA, w1.alloc (.cells (flat enX (List.replicate N noIv)).toArray 64) = wA := ⟨_, rfl⟩
    have HA : Hid (XL b w wA g N K (rN s).2 (K.map fun k => ⟨k, .slice none 0 0⟩) 0) := by
      rw [← hwA, ← hg]
      refine ⟨by rw [List.length_map]; exact HKl.out, by rw [List.map_map]; exact List.map_id' _, K1.out.1.below ((Below.refl _ w1).alloc (Nat.le_refl _) _), K1.out.2.trans (Turn.alloc w1 _), ?_, K1.out.2.size, fun x hx => ?_⟩
      · rw [partG_zero, List.length_map, HKl.out]; exact heap_new w1 _
      · rw [partG_zero] at hx
        rw [List.eq_of_mem_replicate hx]; exact World.ownsRow_nil _ _ _ _
    rw [hg, hwA]
    clear hm hg hwA K1
    go_loopw [22] (fun v wr => ∃ (j : Nat) (X : List Iv), j ≤ N ∧ v = .int .i64 j ∧ Hid (XL b w wr g N K (rRep rX j (rN s).2).2 X j)) (fun v _ => N - (intOf v).toNat)
    case atStart => exact ⟨0, _, Nat.zero_le _, rfl, HA⟩
    case round =>
      clear HA
      obtain ⟨j, X, hj, rfl, HQ⟩ := hrel
      by_cases hlt : j < N
      · have hlI : (j : Int) < (N : Int) := by omega
        have hjl : j < X.length := by rw [HQ.out.len]; exact hlt
        have hgb : g ≠ b := by have := HQ.out.new; omega
        have hgl := lt_of HQ.out.row
        have HKj := HKa.out j hlt
        obtain ⟨⟨nm, cs, un⟩, hx⟩ : ∃ x, (rX (rRep rX j (rN s).2).2).1 = x := ⟨_, rfl⟩
        have H4 : Hid (Calls Tryz.prog 150 #[.pointer (some ⟨b, 0, none⟩)] wr fun e w' => ∃ a n c, e = .returned (.agg #[.string nm, .slice a n c, .bool un]) ∧ Hid (n = cs.length ∧ RdI b (rRep rX (j + 1) (rN s).2).2 w' ∧ At1 b wr w' ∧ w'.ownsRow wr.heap.size 3 1 (.slice a n c) n (flat enI cs))) := (H3.out wr j HQ.out.rd).mono fun e w' he => by
          unfold IxR at he
          rw [hx] at he
          rw [rRep_next]
          exact he
        rw [hx] at HKj
        have HKx : Hid (K[j]? = some ⟨nm, cs, un⟩) := HKj
        have HF : Hid (∀ u, At1 b wr u → u.heap[g]? = some (.cells (flat enX (partG noIv X j)).toArray 64 (0, 0))) := fun u hu => (hu.block g (lt_of HQ.out.row) hgb).trans HQ.out.row
        have HF2 : Hid (∀ u, At1 b wr u → u.cell? ⟨g, j * 3, none⟩ = some (.string ⟨#[]⟩) ∧ u.cell? ⟨g, j * 3 + 1, none⟩ = some (.slice none 0 0) ∧ u.cell? ⟨g, j * 3 + 2, none⟩ = some (.bool false) ∧ u.frozen? ⟨g, j * 3, none⟩ = false ∧ u.frozen? ⟨g, j * 3 + 1, none⟩ = false ∧ u.frozen? ⟨g, j * 3 + 2, none⟩ = false) := fun u hu => by
          have c := HF.out u hu
          exact ⟨rows_at (en := enX) (m := 3) (fun _ => rfl) c (partG_at hjl) (i := 0) rfl, rows_at (en := enX) (m := 3) (fun _ => rfl) c (partG_at hjl) (i := 1) rfl, rows_at (en := enX) (m := 3) (fun _ => rfl) c (partG_at hjl) (i := 2) rfl, frozen_of c _, frozen_of c _, frozen_of c _⟩
        have hjN2 : j * 3 + 2 < N * 3 := by omega
        clear HKj hx hjl hgl
        go_wp2_with (go_at_call 150; go_must (refine H4.out.mono ?_; rintro e w2 ⟨a, n, c, rfl, K2⟩; obtain ⟨v1, v2, v3, v4, v5, v6⟩ := HF2.out _ K2.out.2.2.1))
        go_roundw
        case rel =>
          refine ⟨j + 1, X.set j ⟨⟨nm, cs, un⟩, .slice a n c⟩, by omega, by go_num, ?_⟩
          have hjl : j < X.length := by rw [HQ.out.len]; exact hlt
          have hjk : j < K.length := by rw [HKl.out]; exact hlt
          have hgl := lt_of HQ.out.row
          have ht : Turn (fun i => i = g) w2 (((w2.setCell ⟨g, j * 3, none⟩ (.string nm)).setCell ⟨g, j * 3 + 1, none⟩ (.slice a n c)).setCell ⟨g, j * 3 + 2, none⟩ (.bool un)) := ((Turn.setCell (S := fun i => i = g) w2 ⟨g, j * 3, none⟩ _ rfl).trans (Turn.setCell _ ⟨g, j * 3 + 1, none⟩ _ rfl)).trans (Turn.setCell _ ⟨g, j * 3 + 2, none⟩ _ rfl)
          have hs := setX_heap (HF.out _ K2.out.2.2.1) (j := j) (by rw [partG_length (by omega)]; exact hjl) ⟨⟨nm, cs, un⟩, .slice a n c⟩
          have hpn : (partG noIv X j).set j ⟨⟨nm, cs, un⟩, .slice a n c⟩ = partG noIv (X.set j ⟨⟨nm, cs, un⟩, .slice a n c⟩) (j + 1) := by
            have := partG_next (z := noIv) (K := X.set j ⟨⟨nm, cs, un⟩, .slice a n c⟩) (j := j) (by rw [List.length_set]; exact hjl)
            rw [List.getElem_set_self] at this
            rw [← this]
            unfold partG
            rw [List.length_set, List.take_set_of_le (Nat.le_refl j)]
          refine ⟨by rw [List.length_set]; exact HQ.out.len, ?_, (ht.block b (lt_of K2.out.2.1) (Ne.symm hgb)).trans K2.out.2.1, (HQ.out.at1.trans K2.out.2.2.1).transNew ht (fun i hi => Or.inr (by have := HQ.out.new; omega)), by rw [← hpn]; exact hs, HQ.out.new, fun x hx => ?_⟩
          · rw [List.map_set, HQ.out.eq]
            have hkj : K[j] = ⟨nm, cs, un⟩ := by have := HKx.out; rw [List.getElem?_eq_getElem hjk] at this; exact Option.some.inj this
            show K.set j ⟨nm, cs, un⟩ = K
            rw [← hkj, List.set_getElem_self]
          · rw [← hpn] at hx
            have hrow : NumsO w2 w.heap.size x ∧ ∀ g', x.v.ownBlock = some g' → g' ≠ g := by
              rcases List.mem_or_eq_of_mem_set hx with h | h
              · have h1 := own_at1 (HQ.out.nums x h) K2.out.2.2.1 (by omega)
                refine ⟨h1, fun g' hg' e => ?_⟩
                obtain ⟨cur, hc, _⟩ := ownsRow_own h1 hg'
                rw [e, HF.out _ K2.out.2.2.1] at hc
                simp at hc
              · rw [h]
                have h1 := K2.out.2.2.2
                rw [K2.out.1] at h1
                have h2 : NumsO w2 wr.heap.size ⟨⟨nm, cs, un⟩, .slice a n c⟩ := by
                  show World.ownsRow _ _ _ _ _ cs.length _
                  rw [K2.out.1]
                  exact h1
                exact ⟨ownsRow_low h2 HQ.out.at1.size, fun g' hg' e => by have := (World.ownsRow.lt h2 g' hg').1; omega⟩
            exact ownsRow_block hrow.1 fun g' hg' => ht.block g' (World.ownsRow.lt hrow.1 g' hg').2 (hrow.2 g' hg')
        case measure => simp [intOf]; omega
      · have hlI : ¬ (j : Int) < (N : Int) := by omega
        go_wp2
        go_ret
        show ListX _ _ _ _ _
        rw [HK.out]
        have hq := HQ.out
        rw [show j = N by omega] at hq
        have e := hq.len
        have g3 := hq.row
        have g5 := hq.nums
        have hpa : partG noIv X N = X := by rw [← e]; exact partG_all
        rw [hpa] at g3 g5
        refine ⟨_, _, _, X, rfl, e.symm, hq.eq, hq.rd, hq.at1, ?_, g5⟩
        exact row_made (en := enX) (m := 3) (fun _ => rfl) e (by omega) g3 hq.new
  · have HK : Hid (rL rX s = ([], ([], true))) := by
      show _ = _
      unfold rL
      rw [HN.out, if_neg hc]
    by_cases h0 : n < 0
    · go_enter Tryz.func149, Tryz.ntmps149
      go_wp2_with (first
        | (go_at_call 78; go_must (refine H1.out.mono ?_; rintro e w1 ⟨rfl, K1⟩))
        | (go_at_call 130; go_must (refine (H2.out _ K1.out).mono ?_; rintro e w2 ⟨rfl, K2⟩)))
      go_ret
      show ListX _ _ _ _ _
      rw [HK.out]
      exact ⟨none, 0, 0, [], rfl, rfl, rfl, K2.out.1, K2.out.2, World.ownsRow_nil _ _ _ _, (fun _ h => by cases h)⟩
    · have h1 : (4096 : Int) < n := by omega
      go_enter Tryz.func149, Tryz.ntmps149
      go_wp2_with (first
        | (go_at_call 78; go_must (refine H1.out.mono ?_; rintro e w1 ⟨rfl, K1⟩))
        | (go_at_call 130; go_must (refine (H2.out _ K1.out).mono ?_; rintro e w2 ⟨rfl, K2⟩)))
      go_ret
      show ListX _ _ _ _ _
      rw [HK.out]
      exact ⟨none, 0, 0, [], rfl, rfl, rfl, K2.out.1, K2.out.2, World.ownsRow_nil _ _ _ _, (fun _ h => by cases h)⟩

/-- what a reader of schemas answers -/
def TabR (b : Nat) (w : World) (p : Tab × St) (e : Ending) (w' : World) : Prop :=
  ∃ ca cn cc ia n ic X, e = .returned (.agg #[.string p.1.nm, .slice ca cn cc, .int .i64 p.1.key, .slice ia n ic]) ∧ Hid (RdI b p.2 w' ∧ At1 b w w' ∧ TabO w' w.heap.size (.slice ca cn cc) (.slice ia n ic) X p.1)

theorem TabO.at1 {w w' : World} {base b : Nat} {cv iv : Value} {X : List Iv} {T : Tab} (h : TabO w base cv iv X T) (ht : At1 b w w') (hb : b < base) : TabO w' base cv iv X T :=
  ⟨own_at1 h.co ht hb, own_at1 h.ix ht hb, h.eq, fun x hx => own_at1 (h.nums x hx) ht hb⟩

set_option maxRecDepth 100000 in
set_option maxHeartbeats 2000000 in
theorem rtable_any (h : RdI b s w) (hr : s.1.length ≤ 1000000) :
    Calls Tryz.prog 132 #[.pointer (some ⟨b, 0, none⟩)] w (TabR b w (rTb s)) := by
  have hbl := lt_of h
  have h0 : RdI b s (w.alloc tabZ) := h.below ((Below.refl _ w).alloc (Nat.le_refl _) _)
  have HX : Hid (∀ u, At1 b (w.alloc tabZ) u → u.heap[w.heap.size]? = some tabZ) := fun u hu => (hu.block _ (by simp) (by omega)).trans (heap_new w _)
  have hsz : (w.alloc tabZ).heap.size = w.heap.size + 1 := by simp
  have q1 := Nat.le_trans (less_text s) hr
  have q2 := Nat.le_trans (less_list less_col (rT s).2) q1
  have q3 := Nat.le_trans (less_num (rL rC (rT s).2).2) q2
  obtain ⟨s1, hs1⟩ : ∃ s1, (rT s).2 = s1 := ⟨_, rfl⟩
  obtain ⟨s2, hs2⟩ : ∃ s2, (rL rC s1).2 = s2 := ⟨_, rfl⟩
  obtain ⟨s3, hs3⟩ : ∃ s3, (rN s2).2 = s3 := ⟨_, rfl⟩
  obtain ⟨s4, hs4⟩ : ∃ s4, (rL rX s3).2 = s4 := ⟨_, rfl⟩
  rw [hs1] at q1 q2 q3
  rw [hs2] at q2 q3
  rw [hs3] at q3
  have H1 : Hid (Calls Tryz.prog 131 #[.pointer (some ⟨b, 0, none⟩)] (w.alloc tabZ) fun e w' => e = .returned (.string (rT s).1) ∧ Hid (RdI b s1 w' ∧ At1 b (w.alloc tabZ) w')) := by rw [← hs1]; exact rtext_any h0 hr
  have H2 : Hid (∀ u, RdI b s1 u ∧ At1 b (w.alloc tabZ) u → Calls Tryz.prog 147 #[.pointer (some ⟨b, 0, none⟩), .func (.func 148) #[.pointer (some ⟨b, 0, none⟩)] #[]] u fun e w' => ∃ a n c, e = .returned (.slice a n c) ∧ Hid (n = (rL rC s1).1.length ∧ RdI b s2 w' ∧ At1 b (w.alloc tabZ) w' ∧ w'.ownsRow (w.heap.size + 1) 70 2 (.slice a n c) n (flat enC (rL rC s1).1))) := fun u hu =>
    (rlistC_any hu.1 q1).mono fun e w' ⟨a, n, c, e1, e2⟩ => ⟨a, n, c, e1, e2.out.1, by rw [← hs2]; exact e2.out.2.1, hu.2.trans e2.out.2.2.1, ownsRow_low e2.out.2.2.2 (by have := hu.2.size; omega)⟩
  have H3 : Hid (∀ u, RdI b s2 u → Calls Tryz.prog 78 #[.pointer (some ⟨b, 0, none⟩)] u fun e w' => e = .returned (.int .i64 (rN s2).1) ∧ Hid (RdI b s3 w' ∧ At1 b u w')) := fun u hu => by rw [← hs3]; exact rnumber_any hu q2
  have H4 : Hid (∀ u, RdI b s3 u ∧ At1 b (w.alloc tabZ) u → Calls Tryz.prog 149 #[.pointer (some ⟨b, 0, none⟩), .func (.func 150) #[.pointer (some ⟨b, 0, none⟩)] #[]] u fun e w' => ∃ a n c, e = .returned (.slice a n c) ∧ Hid (∃ X, n = X.length ∧ X.map Iv.ix = (rL rX s3).1 ∧ RdI b s4 w' ∧ At1 b u w' ∧ w'.ownsRow (w.heap.size + 1) 64 3 (.slice a n c) n (flat enX X) ∧ ∀ x ∈ X, NumsO w' (w.heap.size + 1) x)) := fun u hu =>
    (rlistX_any hu.1 q3).mono fun e w' ⟨a, n, c, X, e1, e2⟩ => ⟨a, n, c, e1, X, e2.out.1, e2.out.2.1, by rw [← hs4]; exact e2.out.2.2.1, e2.out.2.2.2.1, ownsRow_low e2.out.2.2.2.2.1 (by have := hu.2.size; omega), fun x hx => ownsRow_low (e2.out.2.2.2.2.2 x hx) (by have := hu.2.size; omega)⟩
  obtain ⟨nm, hnm⟩ : ∃ nm, (rT s).1 = nm := ⟨_, rfl⟩
  obtain ⟨key, hkey⟩ : ∃ key, (rN s2).1 = key := ⟨_, rfl⟩
  obtain ⟨C, hC⟩ : ∃ C, (rL rC s1).1 = C := ⟨_, rfl⟩
  obtain ⟨I, hI⟩ : ∃ I, (rL rX s3).1 = I := ⟨_, rfl⟩
  have HE : Hid (rTb s = (⟨nm, C, key, I⟩, s4)) := by show _ = _; unfold rTb; rw [hs1, hs2, hs3, hs4, hnm, hkey, hC, hI]
  rw [hnm] at H1
  rw [hkey] at H3
  rw [hC] at H2
  rw [hI] at H4
  have HC : Hid (∀ u, At1 b (w.alloc tabZ) u → u.cell? ⟨w.heap.size, 0, none⟩ = some (.string ⟨#[]⟩) ∧ u.cell? ⟨w.heap.size, 1, none⟩ = some (.slice none 0 0) ∧ u.cell? ⟨w.heap.size, 2, none⟩ = some (.int .i64 0) ∧ u.cell? ⟨w.heap.size, 3, none⟩ = some (.slice none 0 0) ∧ u.frozen? ⟨w.heap.size, 0, none⟩ = false ∧ u.frozen? ⟨w.heap.size, 1, none⟩ = false ∧ u.frozen? ⟨w.heap.size, 2, none⟩ = false ∧ u.frozen? ⟨w.heap.size, 3, none⟩ = false) := fun u hu => by
    have k := HX.out u hu
    exact ⟨by rw [cell_of k]; rfl, by rw [cell_of k]; rfl, by rw [cell_of k]; rfl, by rw [cell_of k]; rfl, frozen_of k 0, frozen_of k 1, frozen_of k 2, frozen_of k 3⟩
  clear h h0 hnm hkey hC hI hs1 hs2 hs3 hs4 q1 q2 q3
  go_enter Tryz.func132, Tryz.ntmps132
  go_wp2_with (first
    | (go_at_call 131; go_must (refine H1.out.mono ?_; rintro e w1 ⟨rfl, K1⟩))
    | (go_at_call 147; go_must (refine (H2.out _ K1.out).mono ?_; rintro e w2 ⟨ca, cn, cc, rfl, K2⟩))
    | (go_at_call 78; go_must (refine (H3.out _ K2.out.2.1).mono ?_; rintro e w3 ⟨rfl, K3⟩; have A3 : Hid (At1 b (w.alloc tabZ) w3) := K2.out.2.2.1.trans K3.out.2))
    | (go_at_call 149; go_must (refine (H4.out _ ⟨K3.out.1, A3.out⟩).mono ?_; rintro e w4 ⟨ia, n, ic, rfl, K4⟩; have A4 : Hid (At1 b (w.alloc tabZ) w4 ∧ At1 b w2 w4) := (by obtain ⟨X, _, _, _, h, _⟩ := K4.out; exact ⟨A3.out.trans h, K3.out.2.trans h⟩); obtain ⟨c0, c1, c2, c3, c4, c5, c6, c7⟩ := HC.out _ A4.out.1)))
  have hk := HX.out w4 A4.out.1
  have i0 : (w4.setCell ⟨w.heap.size, 0, none⟩ (.string nm)).cell? ⟨w.heap.size, 0, none⟩ = some (.string nm) := by rw [cell_of (heap_setCell_same hk 0 _)]; rfl
  have i1 : ∀ x, ((w4.setCell ⟨w.heap.size, 0, none⟩ x).setCell ⟨w.heap.size, 1, none⟩ (.slice ca cn cc)).cell? ⟨w.heap.size, 1, none⟩ = some (.slice ca cn cc) := fun x => by rw [cell_of (heap_setCell_same (heap_setCell_same hk 0 _) 1 _)]; rfl
  have i2 : ∀ x y, (((w4.setCell ⟨w.heap.size, 0, none⟩ x).setCell ⟨w.heap.size, 1, none⟩ y).setCell ⟨w.heap.size, 2, none⟩ (.int .i64 key)).cell? ⟨w.heap.size, 2, none⟩ = some (.int .i64 key) := fun x y => by rw [cell_of (heap_setCell_same (heap_setCell_same (heap_setCell_same hk 0 _) 1 _) 2 _)]; rfl
  have i3 : ∀ x y z, ((((w4.setCell ⟨w.heap.size, 0, none⟩ x).setCell ⟨w.heap.size, 1, none⟩ y).setCell ⟨w.heap.size, 2, none⟩ z).setCell ⟨w.heap.size, 3, none⟩ (.slice ia n ic)).cell? ⟨w.heap.size, 3, none⟩ = some (.slice ia n ic) := fun x y z => by rw [cell_of (heap_setCell_same (heap_setCell_same (heap_setCell_same (heap_setCell_same hk 0 _) 1 _) 2 _) 3 _)]; rfl
  refine bodyPost_ret (by simp [results, Tryz.results132, go_sem, i0, i1, i2, i3]; rfl) rfl ?_
  have ht := set4_turn w4 w.heap.size (.string nm) (.slice ca cn cc) (.int .i64 key) (.slice ia n ic)
  show TabR _ _ _ _ _
  rw [HE.out]
  obtain ⟨X, x1, x2, x3, x4, x5, x6⟩ := K4.out
  have hco := own_at1 K2.out.2.2.2 A4.out.2 (by omega)
  refine ⟨ca, cn, cc, ia, n, ic, X, rfl, (ht.block b (lt_of x3) (by omega)).trans x3, ((Turn.alloc w _).trans A4.out.1).transNew ht (fun i hi => Or.inr (by omega)), ?_⟩
  have e1 := K2.out.1
  have fr : ∀ {T : TypeId} {m k : Nat} {v : Value} {xs : List Value}, w4.ownsRow (w.heap.size + 1) T m v k xs → (set4 w4 w.heap.size (.string nm) (.slice ca cn cc) (.int .i64 key) (.slice ia n ic)).ownsRow w.heap.size T m v k xs := fun hrow =>
    ownsRow_low (ownsRow_block hrow fun g hg => ht.block g (World.ownsRow.lt hrow g hg).2 (by have := (World.ownsRow.lt hrow g hg).1; omega)) (by omega)
  refine ⟨?_, ?_, x2, fun x hx => fr (x6 x hx)⟩
  · have := fr hco
    rw [e1] at this
    rw [e1]
    exact this
  · have := fr x5
    rw [x1] at this
    rw [x1]
    exact this
end

end Go.Proofs.YtnboanlhdllhnaaGreat
