/- The program's walker: lists (the first, klistC_any, is the pattern of the others). -/
import Derived.Test.YtnboanlhdllhnaaGreatZWk
namespace Go.Proofs.YtnboanlhdllhnaaGreat
open Go.RowKit
section
variable {b : Nat} {r : List UInt8} {w : World}
set_option maxRecDepth 100000 in
set_option maxHeartbeats 1000000 in
theorem klistC_any (h : WkI b r w) (hr : r.length ≤ 1000000) :
    Calls Tryz.prog 74 #[.pointer (some ⟨b, 0, none⟩), .func (.func 75) #[.pointer (some ⟨b, 0, none⟩)] #[]] w fun e w' => e = .returned (.tuple #[]) ∧ WkI b (listW colW r) w' ∧ At1 b w w' := by
  have H1 : Hid (Calls Tryz.prog 76 #[.pointer (some ⟨b, 0, none⟩)] w fun e w' => e = .returned (.int .i64 (nv r)) ∧ Hid (WkI b (numW r) w' ∧ At1 b w w')) := knumber_any h hr
  have H2 : Hid (∀ (q : List UInt8) (u : World), q <:+ r → WkI b q u → At1 b w u → Calls Tryz.prog 75 #[.pointer (some ⟨b, 0, none⟩)] u fun e w' => e = .returned (.tuple #[]) ∧ Hid (WkI b (colW q) w' ∧ At1 b w w')) := fun q u hq hu ht =>
    (kcolumn_any hu (Nat.le_trans hq.length_le hr)).mono fun e w' ⟨e1, e2, e3⟩ => ⟨e1, e2, ht.trans e3⟩
  have HE : Hid (∀ q, colW q <:+ q) := ends_col
  obtain ⟨n, hn⟩ : ∃ n, nv r = n := ⟨_, rfl⟩
  have HN : Hid (nv r = n) := hn
  have hni := nv_i64 r
  rw [hn] at H1 hni
  obtain ⟨hn1, hn2⟩ := hni
  clear h hn
  go_enter Tryz.func74, Tryz.ntmps74
  go_wp2_with (go_at_call 76; go_must (refine H1.out.mono ?_; rintro e w1 ⟨rfl, K1⟩))
  go_loopw [4] (fun v wr => ∃ (k : Int) (q : List UInt8), v = .int .i64 k ∧ -9223372036854775808 ≤ k ∧ k ≤ 9223372036854775807 ∧ Hid (repW colW k.toNat q = listW colW r ∧ q <:+ r ∧ WkI b q wr ∧ At1 b w wr)) (fun v _ => (intOf v).toNat)
  case atStart => exact ⟨n, numW r, rfl, hn1, hn2, (by rw [← HN.out]; exact ⟨rfl, ends_num r, K1.out⟩)⟩
  case round =>
    clear K1
    obtain ⟨k, q, rfl, k1, k2, HQ⟩ := hrel
    have q0 : wr.cell? ⟨b, 0, none⟩ = some (.string (bytesOf q)) := by rw [cell_of HQ.out.2.2.1]; rfl
    by_cases hk : 0 < k
    · by_cases hq : q = []
      · have e1 : (bytesOf q) = ⟨#[]⟩ := by rw [hq]; rfl
        rw [e1] at q0
        go_wp2
        go_end0
        refine ⟨rfl, ?_⟩
        obtain ⟨g1, g2, g3, g4⟩ := HQ.out
        have : repW colW k.toNat q = q := by
          rw [show k.toNat = (k.toNat - 1) + 1 by omega, repW, if_pos hq, hq]
        rw [this] at g1
        rw [← g1]
        exact ⟨g3, g4⟩
      · have e1 : ¬ (bytesOf q = ⟨#[]⟩) := fun e => hq (by have := congrArg (fun s => s.data.toList) e; rw [bytesOf_list] at this; exact this)
        have H3 : Hid (Calls Tryz.prog 75 #[.pointer (some ⟨b, 0, none⟩)] wr fun e w' => e = .returned (.tuple #[]) ∧ Hid (WkI b (colW q) w' ∧ At1 b w w')) := H2.out q wr HQ.out.2.1 HQ.out.2.2.1 HQ.out.2.2.2
        obtain ⟨s, hs⟩ : ∃ s, bytesOf q = s := ⟨_, rfl⟩
        rw [hs] at q0 e1
        have e2 : ¬ s.toList = [] := fun e => e1 (by rw [Go.ByteArray.toList_eq] at e; cases s; simp at e; rw [e])
        have e3 : s.toList.isEmpty = false := by cases hq : s.toList with | nil => exact absurd hq e2 | cons _ _ => rfl
        clear hs
        go_wp2_with (go_at_call 75; go_must (refine H3.out.mono ?_; rintro e w2 ⟨rfl, K2⟩))
        go_roundw
        case rel =>
          refine ⟨k - 1, colW q, by go_num, by omega, by omega, ?_⟩
          obtain ⟨g1, g2, g3, g4⟩ := HQ.out
          refine ⟨?_, (HE.out q).trans g2, K2.out⟩
          rw [← g1, show k.toNat = (k - 1).toNat + 1 by omega]
          conv => rhs; rw [repW, if_neg hq]
        case measure => simp [intOf]; omega
    · go_wp2
      go_end0
      refine ⟨rfl, ?_⟩
      obtain ⟨g1, g2, g3, g4⟩ := HQ.out
      rw [show k.toNat = 0 by omega] at g1
      rw [← g1]
      exact ⟨g3, g4⟩

set_option maxHeartbeats 400000 in
theorem kindex1_any (bx : Nat) (hx : w.heap[bx]? = some (.cells #[.pointer (some ⟨b, 0, none⟩)] 106 (0, 0))) (h : WkI b r w) (hr : r.length ≤ 1000000) :
    Calls Tryz.prog 99 #[.pointer (some ⟨bx, 0, none⟩)] w fun e w' => e = .returned (.tuple #[]) ∧ WkI b (numW r) w' ∧ At1 b w w' := by
  have H1 : Hid (Calls Tryz.prog 76 #[.pointer (some ⟨b, 0, none⟩)] w fun e w' => e = .returned (.int .i64 (nv r)) ∧ Hid (WkI b (numW r) w' ∧ At1 b w w')) := knumber_any h hr
  have q0 : w.cell? ⟨bx, 0, none⟩ = some (.pointer (some ⟨b, 0, none⟩)) := by rw [cell_of hx]; rfl
  clear h hx
  go_enter Tryz.func99, Tryz.ntmps99
  go_wp2_with (go_at_call 76; go_must (refine H1.out.mono ?_; rintro e w1 ⟨rfl, K1⟩))
  go_end0
  exact ⟨rfl, K1.out⟩

set_option maxRecDepth 100000 in
set_option maxHeartbeats 1000000 in
theorem klistN_any (bx : Nat) (hne : bx ≠ b) (hx : w.heap[bx]? = some (.cells #[.pointer (some ⟨b, 0, none⟩)] 106 (0, 0))) (h : WkI b r w) (hr : r.length ≤ 1000000) :
    Calls Tryz.prog 74 #[.pointer (some ⟨b, 0, none⟩), .func (.func 99) #[] #[.pointer (some ⟨bx, 0, none⟩)]] w fun e w' => e = .returned (.tuple #[]) ∧ WkI b (listW numW r) w' ∧ At1 b w w' := by
  have H1 : Hid (Calls Tryz.prog 76 #[.pointer (some ⟨b, 0, none⟩)] w fun e w' => e = .returned (.int .i64 (nv r)) ∧ Hid (WkI b (numW r) w' ∧ At1 b w w')) := knumber_any h hr
  have H2 : Hid (∀ (q : List UInt8) (u : World), q <:+ r → WkI b q u → At1 b w u → Calls Tryz.prog 99 #[.pointer (some ⟨bx, 0, none⟩)] u fun e w' => e = .returned (.tuple #[]) ∧ Hid (WkI b (numW q) w' ∧ At1 b w w')) := fun q u hq hu ht =>
    (kindex1_any bx ((ht.block bx (lt_of hx) hne).trans hx) hu (Nat.le_trans hq.length_le hr)).mono fun e w' ⟨e1, e2, e3⟩ => ⟨e1, e2, ht.trans e3⟩
  have HE : Hid (∀ q, numW q <:+ q) := ends_num
  obtain ⟨n, hn⟩ : ∃ n, nv r = n := ⟨_, rfl⟩
  have HN : Hid (nv r = n) := hn
  have hni := nv_i64 r
  rw [hn] at H1 hni
  obtain ⟨hn1, hn2⟩ := hni
  clear h hn hx
  go_enter Tryz.func74, Tryz.ntmps74
  go_wp2_with (go_at_call 76; go_must (refine H1.out.mono ?_; rintro e w1 ⟨rfl, K1⟩))
  go_loopw [4] (fun v wr => ∃ (k : Int) (q : List UInt8), v = .int .i64 k ∧ -9223372036854775808 ≤ k ∧ k ≤ 9223372036854775807 ∧ Hid (repW numW k.toNat q = listW numW r ∧ q <:+ r ∧ WkI b q wr ∧ At1 b w wr)) (fun v _ => (intOf v).toNat)
  case atStart => exact ⟨n, numW r, rfl, hn1, hn2, (by rw [← HN.out]; exact ⟨rfl, ends_num r, K1.out⟩)⟩
  case round =>
    clear K1
    obtain ⟨k, q, rfl, k1, k2, HQ⟩ := hrel
    have q0 : wr.cell? ⟨b, 0, none⟩ = some (.string (bytesOf q)) := by rw [cell_of HQ.out.2.2.1]; rfl
    by_cases hk : 0 < k
    · by_cases hq : q = []
      · have e1 : (bytesOf q) = ⟨#[]⟩ := by rw [hq]; rfl
        rw [e1] at q0
        go_wp2
        go_end0
        refine ⟨rfl, ?_⟩
        obtain ⟨g1, g2, g3, g4⟩ := HQ.out
        have : repW numW k.toNat q = q := by
          rw [show k.toNat = (k.toNat - 1) + 1 by omega, repW, if_pos hq, hq]
        rw [this] at g1
        rw [← g1]
        exact ⟨g3, g4⟩
      · have e1 : ¬ (bytesOf q = ⟨#[]⟩) := fun e => hq (by have := congrArg (fun s => s.data.toList) e; rw [bytesOf_list] at this; exact this)
        have H3 : Hid (Calls Tryz.prog 99 #[.pointer (some ⟨bx, 0, none⟩)] wr fun e w' => e = .returned (.tuple #[]) ∧ Hid (WkI b (numW q) w' ∧ At1 b w w')) := H2.out q wr HQ.out.2.1 HQ.out.2.2.1 HQ.out.2.2.2
        obtain ⟨s, hs⟩ : ∃ s, bytesOf q = s := ⟨_, rfl⟩
        rw [hs] at q0 e1
        have e2 : ¬ s.toList = [] := fun e => e1 (by rw [Go.ByteArray.toList_eq] at e; cases s; simp at e; rw [e])
        have e3 : s.toList.isEmpty = false := by cases hq : s.toList with | nil => exact absurd hq e2 | cons _ _ => rfl
        clear hs
        go_wp2_with (go_at_call 99; go_must (refine H3.out.mono ?_; rintro e w2 ⟨rfl, K2⟩))
        go_roundw
        case rel =>
          refine ⟨k - 1, numW q, by go_num, by omega, by omega, ?_⟩
          obtain ⟨g1, g2, g3, g4⟩ := HQ.out
          refine ⟨?_, (HE.out q).trans g2, K2.out⟩
          rw [← g1, show k.toNat = (k - 1).toNat + 1 by omega]
          conv => rhs; rw [repW, if_neg hq]
        case measure => simp [intOf]; omega
    · go_wp2
      go_end0
      refine ⟨rfl, ?_⟩
      obtain ⟨g1, g2, g3, g4⟩ := HQ.out
      rw [show k.toNat = 0 by omega] at g1
      rw [← g1]
      exact ⟨g3, g4⟩

abbrev wkBox (b : Nat) : Obj := .cells #[.pointer (some ⟨b, 0, none⟩)] 106
set_option maxRecDepth 100000 in
set_option maxHeartbeats 1000000 in
theorem kindex_any (h : WkI b r w) (hr : r.length ≤ 1000000) :
    Calls Tryz.prog 77 #[.pointer (some ⟨b, 0, none⟩)] w fun e w' => e = .returned (.tuple #[]) ∧ WkI b (ixW r) w' ∧ At1 b w w' := by
  have hb := lt_of h
  have ht0 : At1 b w (w.alloc (wkBox b)) := Turn.alloc w _
  have h0 : WkI b r (w.alloc (wkBox b)) := (Below.heap_alloc w _ b hb).trans h
  have hne : w.heap.size ≠ b := by omega
  have HX : Hid (∀ u, At1 b (w.alloc (wkBox b)) u → u.heap[w.heap.size]? = some (wkBox b)) := fun u hu => (hu.block _ (by simp) hne).trans (heap_new w _)
  have HXc : Hid (∀ u, At1 b (w.alloc (wkBox b)) u → u.cell? ⟨w.heap.size, 0, none⟩ = some (.pointer (some ⟨b, 0, none⟩))) := fun u hu => by rw [cell_of (HX.out u hu)]; rfl
  have q1 : (textW r).length ≤ 1000000 := Nat.le_trans (ends_text r).length_le hr
  have q2 : (listW numW (textW r)).length ≤ 1000000 := Nat.le_trans (ends_list ends_num _).length_le q1
  have H1 : Hid (Calls Tryz.prog 73 #[.pointer (some ⟨b, 0, none⟩)] (w.alloc (wkBox b)) fun e w' => e = .returned (.tuple #[]) ∧ Hid (WkI b (textW r) w' ∧ At1 b (w.alloc (wkBox b)) w')) := ktext_any h0 hr
  have H2 : Hid (∀ u, WkI b (textW r) u ∧ At1 b (w.alloc (wkBox b)) u → Calls Tryz.prog 74 #[.pointer (some ⟨b, 0, none⟩), .func (.func 99) #[] #[.pointer (some ⟨w.heap.size, 0, none⟩)]] u fun e w' => e = .returned (.tuple #[]) ∧ Hid (WkI b (listW numW (textW r)) w' ∧ At1 b (w.alloc (wkBox b)) w')) := fun u hu =>
    (klistN_any w.heap.size hne (HX.out u hu.2) hu.1 q1).mono fun e w' ⟨e1, e2, e3⟩ => ⟨e1, e2, hu.2.trans e3⟩
  have H3 : Hid (∀ u, WkI b (listW numW (textW r)) u ∧ At1 b (w.alloc (wkBox b)) u → Calls Tryz.prog 98 #[.pointer (some ⟨b, 0, none⟩), .int .i64 1] u fun e w' => ∃ s, e = .returned (.string s) ∧ Hid (WkI b (ixW r) w' ∧ At1 b w w')) := fun u hu =>
    (ktake_any 1 hu.1 q2).mono fun e w' ⟨e1, e2, e3⟩ => ⟨_, e1, e2, ht0.trans (hu.2.trans e3)⟩
  clear h h0 ht0
  go_enter Tryz.func77, Tryz.ntmps77
  go_wp2_with (first
    | (go_at_call 73; go_must (refine H1.out.mono ?_; rintro e w1 ⟨rfl, K1⟩; have c1 := HXc.out _ K1.out.2))
    | (go_at_call 74; go_must (refine (H2.out _ K1.out).mono ?_; rintro e w2 ⟨rfl, K2⟩; have c2 := HXc.out _ K2.out.2))
    | (go_at_call 98; go_must (refine (H3.out _ K2.out).mono ?_; rintro e w3 ⟨s, rfl, K3⟩)))
  go_end0
  exact ⟨rfl, K3.out⟩

set_option maxRecDepth 100000 in
set_option maxHeartbeats 1000000 in
theorem klistX_any (h : WkI b r w) (hr : r.length ≤ 1000000) :
    Calls Tryz.prog 74 #[.pointer (some ⟨b, 0, none⟩), .func (.func 77) #[.pointer (some ⟨b, 0, none⟩)] #[]] w fun e w' => e = .returned (.tuple #[]) ∧ WkI b (listW ixW r) w' ∧ At1 b w w' := by
  have H1 : Hid (Calls Tryz.prog 76 #[.pointer (some ⟨b, 0, none⟩)] w fun e w' => e = .returned (.int .i64 (nv r)) ∧ Hid (WkI b (numW r) w' ∧ At1 b w w')) := knumber_any h hr
  have H2 : Hid (∀ (q : List UInt8) (u : World), q <:+ r → WkI b q u → At1 b w u → Calls Tryz.prog 77 #[.pointer (some ⟨b, 0, none⟩)] u fun e w' => e = .returned (.tuple #[]) ∧ Hid (WkI b (ixW q) w' ∧ At1 b w w')) := fun q u hq hu ht =>
    (kindex_any hu (Nat.le_trans hq.length_le hr)).mono fun e w' ⟨e1, e2, e3⟩ => ⟨e1, e2, ht.trans e3⟩
  have HE : Hid (∀ q, ixW q <:+ q) := ends_ix
  obtain ⟨n, hn⟩ : ∃ n, nv r = n := ⟨_, rfl⟩
  have HN : Hid (nv r = n) := hn
  have hni := nv_i64 r
  rw [hn] at H1 hni
  obtain ⟨hn1, hn2⟩ := hni
  clear h hn
  go_enter Tryz.func74, Tryz.ntmps74
  go_wp2_with (go_at_call 76; go_must (refine H1.out.mono ?_; rintro e w1 ⟨rfl, K1⟩))
  go_loopw [4] (fun v wr => ∃ (k : Int) (q : List UInt8), v = .int .i64 k ∧ -9223372036854775808 ≤ k ∧ k ≤ 9223372036854775807 ∧ Hid (repW ixW k.toNat q = listW ixW r ∧ q <:+ r ∧ WkI b q wr ∧ At1 b w wr)) (fun v _ => (intOf v).toNat)
  case atStart => exact ⟨n, numW r, rfl, hn1, hn2, (by rw [← HN.out]; exact ⟨rfl, ends_num r, K1.out⟩)⟩
  case round =>
    clear K1
    obtain ⟨k, q, rfl, k1, k2, HQ⟩ := hrel
    have q0 : wr.cell? ⟨b, 0, none⟩ = some (.string (bytesOf q)) := by rw [cell_of HQ.out.2.2.1]; rfl
    by_cases hk : 0 < k
    · by_cases hq : q = []
      · have e1 : (bytesOf q) = ⟨#[]⟩ := by rw [hq]; rfl
        rw [e1] at q0
        go_wp2
        go_end0
        refine ⟨rfl, ?_⟩
        obtain ⟨g1, g2, g3, g4⟩ := HQ.out
        have : repW ixW k.toNat q = q := by
          rw [show k.toNat = (k.toNat - 1) + 1 by omega, repW, if_pos hq, hq]
        rw [this] at g1
        rw [← g1]
        exact ⟨g3, g4⟩
      · have e1 : ¬ (bytesOf q = ⟨#[]⟩) := fun e => hq (by have := congrArg (fun s => s.data.toList) e; rw [bytesOf_list] at this; exact this)
        have H3 : Hid (Calls Tryz.prog 77 #[.pointer (some ⟨b, 0, none⟩)] wr fun e w' => e = .returned (.tuple #[]) ∧ Hid (WkI b (ixW q) w' ∧ At1 b w w')) := H2.out q wr HQ.out.2.1 HQ.out.2.2.1 HQ.out.2.2.2
        obtain ⟨s, hs⟩ : ∃ s, bytesOf q = s := ⟨_, rfl⟩
        rw [hs] at q0 e1
        have e2 : ¬ s.toList = [] := fun e => e1 (by rw [Go.ByteArray.toList_eq] at e; cases s; simp at e; rw [e])
        have e3 : s.toList.isEmpty = false := by cases hq : s.toList with | nil => exact absurd hq e2 | cons _ _ => rfl
        clear hs
        go_wp2_with (go_at_call 77; go_must (refine H3.out.mono ?_; rintro e w2 ⟨rfl, K2⟩))
        go_roundw
        case rel =>
          refine ⟨k - 1, ixW q, by go_num, by omega, by omega, ?_⟩
          obtain ⟨g1, g2, g3, g4⟩ := HQ.out
          refine ⟨?_, (HE.out q).trans g2, K2.out⟩
          rw [← g1, show k.toNat = (k - 1).toNat + 1 by omega]
          conv => rhs; rw [repW, if_neg hq]
        case measure => simp [intOf]; omega
    · go_wp2
      go_end0
      refine ⟨rfl, ?_⟩
      obtain ⟨g1, g2, g3, g4⟩ := HQ.out
      rw [show k.toNat = 0 by omega] at g1
      rw [← g1]
      exact ⟨g3, g4⟩

set_option maxRecDepth 100000 in
set_option maxHeartbeats 1000000 in
theorem ktable_any (h : WkI b r w) (hr : r.length ≤ 1000000) :
    Calls Tryz.prog 52 #[.pointer (some ⟨b, 0, none⟩)] w fun e w' => e = .returned (.tuple #[]) ∧ WkI b (tabW r) w' ∧ At1 b w w' := by
  have q1 : (textW r).length ≤ 1000000 := Nat.le_trans (ends_text r).length_le hr
  have q2 : (listW colW (textW r)).length ≤ 1000000 := Nat.le_trans (ends_list ends_col _).length_le q1
  have q3 : (numW (listW colW (textW r))).length ≤ 1000000 := Nat.le_trans (ends_num _).length_le q2
  have H1 : Hid (Calls Tryz.prog 73 #[.pointer (some ⟨b, 0, none⟩)] w fun e w' => e = .returned (.tuple #[]) ∧ Hid (WkI b (textW r) w' ∧ At1 b w w')) := ktext_any h hr
  have H2 : Hid (∀ u, WkI b (textW r) u ∧ At1 b w u → Calls Tryz.prog 74 #[.pointer (some ⟨b, 0, none⟩), .func (.func 75) #[.pointer (some ⟨b, 0, none⟩)] #[]] u fun e w' => e = .returned (.tuple #[]) ∧ Hid (WkI b (listW colW (textW r)) w' ∧ At1 b w w')) := fun u hu =>
    (klistC_any hu.1 q1).mono fun e w' ⟨e1, e2, e3⟩ => ⟨e1, e2, hu.2.trans e3⟩
  have H3 : Hid (∀ u, WkI b (listW colW (textW r)) u ∧ At1 b w u → Calls Tryz.prog 76 #[.pointer (some ⟨b, 0, none⟩)] u fun e w' => ∃ n, e = .returned (.int .i64 n) ∧ Hid (WkI b (numW (listW colW (textW r))) w' ∧ At1 b w w')) := fun u hu =>
    (knumber_any hu.1 q2).mono fun e w' ⟨e1, e2, e3⟩ => ⟨_, e1, e2, hu.2.trans e3⟩
  have H4 : Hid (∀ u, WkI b (numW (listW colW (textW r))) u ∧ At1 b w u → Calls Tryz.prog 74 #[.pointer (some ⟨b, 0, none⟩), .func (.func 77) #[.pointer (some ⟨b, 0, none⟩)] #[]] u fun e w' => e = .returned (.tuple #[]) ∧ Hid (WkI b (tabW r) w' ∧ At1 b w w')) := fun u hu =>
    (klistX_any hu.1 q3).mono fun e w' ⟨e1, e2, e3⟩ => ⟨e1, e2, hu.2.trans e3⟩
  clear h
  go_enter Tryz.func52, Tryz.ntmps52
  go_wp2_with (first
    | (go_at_call 73; go_must (refine H1.out.mono ?_; rintro e w1 ⟨rfl, K1⟩))
    | (go_at_call 74; refine (H4.out _ K3.out).mono ?_; rintro e w4 ⟨rfl, K4⟩)
    | (go_at_call 74; go_must (refine (H2.out _ K1.out).mono ?_; rintro e w2 ⟨rfl, K2⟩))
    | (go_at_call 76; go_must (refine (H3.out _ K2.out).mono ?_; rintro e w3 ⟨n, rfl, K3⟩)))
  go_end0
  exact ⟨rfl, K4.out⟩
end

set_option maxRecDepth 100000 in
set_option maxHeartbeats 1000000 in
theorem split_any (r : List UInt8) (w : World) (hr : r.length ≤ 1000000) :
    Calls Tryz.prog 34 #[.string (bytesOf r)] w fun e w' => e = .returned (.tuple #[.string (bytesOf (r.take (r.length - (tabW r).length))), .string (bytesOf (tabW r))]) ∧ Below w.heap.size w w' := by
  have H1 : Hid (Calls Tryz.prog 52 #[.pointer (some ⟨w.heap.size, 0, none⟩)] (w.alloc (.cells #[.string (bytesOf r)] 108)) fun e w' => e = .returned (.tuple #[]) ∧ Hid (WkI w.heap.size (tabW r) w' ∧ Below w.heap.size w w')) :=
    (ktable_any (heap_new w _) hr).mono fun e w' ⟨e1, e2, e3⟩ => ⟨e1, e2, ((Below.refl _ w).alloc (Nat.le_refl _) _).trans ((e3.mono (S' := fun i => w.heap.size ≤ i) (fun i hi => by omega)).toBelow (by simp))⟩
  have hle := (ends_tab r).length_le
  have s1 : (bytesOf r).size = r.length := bytesOf_size _
  have s2 : (bytesOf (tabW r)).size = (tabW r).length := bytesOf_size _
  have HT : Hid (∀ n : Nat, (bytesOf r).extract 0 n = bytesOf (r.take n)) := take_ext r
  obtain ⟨n, hn⟩ : ∃ n, r.length = n := ⟨_, rfl⟩
  obtain ⟨m, hm⟩ : ∃ m, (tabW r).length = m := ⟨_, rfl⟩
  obtain ⟨s, hs⟩ : ∃ s, bytesOf r = s := ⟨_, rfl⟩
  obtain ⟨t, ht⟩ : ∃ t, bytesOf (tabW r) = t := ⟨_, rfl⟩
  have HC : Hid (∀ u, WkI w.heap.size (tabW r) u → u.cell? ⟨w.heap.size, 0, none⟩ = some (.string t)) := fun u hu => by rw [cell_of hu, ← ht]; rfl
  have HM : Hid (((n : Int) - (m : Int)) = ((n - m : Nat) : Int)) := by show _ = _; omega
  rw [hn, hs] at s1
  rw [hm, ht] at s2
  rw [hs] at HT H1
  rw [hn, hm] at hle
  rw [hn] at hr
  rw [hn, hm, hs, ht]
  clear hn hm hs ht
  go_enter Tryz.func34, Tryz.ntmps34
  go_wp2_with (go_at_call 52; go_must (refine H1.out.mono ?_; rintro e w1 ⟨rfl, K1⟩; have c1 := HC.out _ K1.out.1))
  go_quiet (fail)
  go_wp2_with fail
  go_ret2
  exact ⟨by rw [← HT.out]; rfl, K1.out.2.trans ((below_drewN w1 _).mono K1.out.2.size)⟩

end Go.Proofs.YtnboanlhdllhnaaGreat
