/- The program's calls of a tree that only look: isAhead, seen, isEmpty, Len, find. -/
import Derived.Test.YtoknebbkpkcomaaTHeap
import Derived.WalkMore
namespace Go.Proofs.Ytoknebbkpkcomaa
open Go.RowKit

def ahead (a to : ByteArray) : Bool := decide (to = ⟨#[]⟩) || bl a to
theorem empty_toList : (ByteArray.mk #[]).toList = [] := by rw [Go.ByteArray.toList_eq]
theorem toList_nil {a : ByteArray} (h : a.toList = []) : a = ⟨#[]⟩ := toList_inj (h.trans empty_toList.symm)

theorem isAhead_any (a to : ByteArray) (w : World) : Calls Try.prog 45 #[.string a, .string to] w fun e w' => e = .returned (.bool (ahead a to)) ∧ w' = w := by
  by_cases h : to = ⟨#[]⟩
  · subst h
    have hE : ahead a ⟨#[]⟩ = true := by simp [ahead]
    have HE : Hid (ahead a ⟨#[]⟩ = true) := hE
    clear hE
    go_enter Try.func45, Try.ntmps45
    go_wp2
    go_ret
    exact ⟨by rw [HE.out]; rfl, rfl⟩
  · have h1 : (to.toList == ([] : List UInt8)) = false := by
      rw [beq_eq_false_iff_ne]
      exact fun q => h (toList_nil q)
    have HE : Hid (ahead a to = Op.bytesLess a.toList to.toList) := by show _ = _; simp [ahead, h, bl]
    have h2 : (to.toList == (ByteArray.mk #[]).toList) = false := by rw [empty_toList]; exact h1
    clear h
    go_enter Try.func45, Try.ntmps45
    go_wp2
    all_goals go_ret
    all_goals exact ⟨by rw [HE.out]; rfl, rfl⟩

theorem gt_eq (s k : ByteArray) : (!Op.bytesLess s.toList k.toList && !(s.toList == k.toList)) = bl k s := by
  rcases bl_tot k s with h | h | h
  · have h1 := bl_asym h
    have h2 : (s.toList == k.toList) = false := by rw [beq_eq_false_iff_ne]; exact fun q => bl_ne h (toList_inj q.symm)
    unfold bl at h1
    rw [h, h1, h2]
    rfl
  · subst h
    rw [bl_self]
    simp
  · rw [bl_asym h]
    unfold bl at h
    rw [h]
    rfl
section
variable {w : World} {t b m c : Nat} {ls : List Lf} {made keys : Int} {l : Lf}

abbrev snV (s : Sn) : Value := .agg #[.int .i64 s.1, .int .i64 s.2.1, .int .i64 s.2.2]

set_option maxRecDepth 100000 in
theorem seen_any (h : TreeG w t b m c ls made keys) (hl : l ∈ ls) : Calls Try.prog 31 #[.pointer (some ⟨l.q, 0, none⟩)] w fun e w' => e = .returned (snV (sn l)) ∧ Below w.heap.size w w' := by
  obtain ⟨c0, c1, c2, -⟩ := h.leafCells hl
  have hql : l.q < w.heap.size := lt_of (h.leaf l hl)
  have HC : Hid (∀ u, Below w.heap.size w u → Calls Try.prog 43 #[.pointer (some ⟨l.g, 0, none⟩)] u fun e w' => e = .returned (.tuple #[.int .i64 l.n.ins, .int .i64 l.n.spl]) ∧ ∃ m, w' = u.drewN m) := fun u hb =>
    counts_any ((nodeI_res _ _).kept (S := fun _ => False) (h.nodeI hl) (Turn.ofBelow _ hb) (fun _ _ h => h))
  have HB : Hid (Below w.heap.size w (w.alloc (.cells #[.int .i64 0, .int .i64 0, .int .i64 0] 73))) := (Below.refl _ _).alloc (Nat.le_refl _) _
  have HS : Hid (sn l = (l.num, l.n.ins, l.n.spl)) := rfl
  obtain ⟨q, hq⟩ : ∃ q, l.q = q := ⟨_, rfl⟩
  obtain ⟨g, hg⟩ : ∃ g, l.g = g := ⟨_, rfl⟩
  obtain ⟨x, hx⟩ : ∃ x, l.num = x := ⟨_, rfl⟩
  obtain ⟨y, hy⟩ : ∃ y, l.n.ins = y := ⟨_, rfl⟩
  obtain ⟨z, hz⟩ : ∃ z, l.n.spl = z := ⟨_, rfl⟩
  rw [hq] at c0 c1 c2 hql ⊢
  rw [hg] at c0 HC
  rw [hx] at c1 HS
  rw [hy, hz] at HC HS
  clear h hl hq hg hx hy hz c2
  go_enter Try.func31, Try.ntmps31
  go_wp2_with (go_at_call 43; go_must (refine (HC.out _ HB.out).mono ?_; rintro e w2 ⟨rfl, m2, rfl⟩))
  refine bodyPost_ret (by simp [results, Try.results31, go_sem]; rfl) rfl ?_
  refine ⟨by rw [HS.out], ?_⟩
  exact (HB.out.trans ((below_drewN _ m2).mono HB.out.size)).trans (((((Turn.setCell (S := fun i => w.heap.size ≤ i) _ ⟨w.heap.size, 0, none⟩ _ (Nat.le_refl _)).trans (Turn.setCell _ ⟨w.heap.size, 1, none⟩ _ (Nat.le_refl _))).trans (Turn.setCell _ ⟨w.heap.size, 2, none⟩ _ (Nat.le_refl _)))).toBelow (by simp))

theorem len_any (h : TreeG w t b m c ls made keys) : Calls Try.prog 11 #[.pointer (some ⟨t, 0, none⟩)] w fun e w' => e = .returned (.int .i64 keys) ∧ w' = w := by
  have c3 := h.cells.c3
  clear h
  go_enter Try.func11, Try.ntmps11
  go_wp2
  go_ret
  exact ⟨rfl, rfl⟩

theorem find1_any (h : TreeG w t b m c ls made keys) {j : Nat} (hj : ls[j]? = some l) {k : ByteArray} {pt pk : Nat} (ht : w.cell? ⟨pt, 0, none⟩ = some (.pointer (some ⟨t, 0, none⟩))) (hk : w.cell? ⟨pk, 0, none⟩ = some (.string k)) :
    Calls Try.prog 48 #[.int .i64 (j : Int), .pointer (some ⟨pt, 0, none⟩), .pointer (some ⟨pk, 0, none⟩)] w fun e w' => e = .returned (.bool (bl k l.least)) ∧ ∃ m, w' = w.drewN m := by
  have c0 := h.cells.c0
  have hr := h.rowCell hj
  obtain ⟨-, -, c2, -⟩ := h.leafCells (List.mem_of_getElem? hj)
  have hlt := (List.getElem?_eq_some_iff.1 hj).1
  obtain ⟨hb1, hb2, hb3⟩ := h.big
  obtain ⟨N, hN⟩ : ∃ N, ls.length = N := ⟨_, rfl⟩
  obtain ⟨q, hq⟩ : ∃ q, l.q = q := ⟨_, rfl⟩
  obtain ⟨s, hs⟩ : ∃ s, l.least = s := ⟨_, rfl⟩
  rw [hN] at c0 hlt hb1 hb2
  rw [hq] at hr c2
  rw [hs] at c2 ⊢
  have HB : Hid (bl k s = (!Op.bytesLess s.toList k.toList && !(s.toList == k.toList))) := (gt_eq s k).symm
  clear h hj hN hq hs
  go_enter Try.func48, Try.ntmps48
  go_wp2
  go_quiet (fail)
  go_wp2
  go_ret
  exact ⟨by rw [HB.out]; rfl, _, rfl⟩

set_option maxRecDepth 100000 in
set_option maxHeartbeats 1000000 in
theorem search_any (h : TreeG w t b m c ls made keys) {k : ByteArray} {A B : List Lf} (hc : Cut ls k A l B) {pt pk : Nat} (ht : w.cell? ⟨pt, 0, none⟩ = some (.pointer (some ⟨t, 0, none⟩))) (hk : w.cell? ⟨pk, 0, none⟩ = some (.string k)) :
    Calls Try.prog 47 #[.int .i64 (ls.length : Int), .func (.func 48) #[] #[.pointer (some ⟨pt, 0, none⟩), .pointer (some ⟨pk, 0, none⟩)]] w fun e w' => e = .returned (.int .i64 ((A.length + 1 : Nat) : Int)) ∧ ∃ m, w' = w.drewN m := by
  have hb := h.big
  have HF : Hid (∀ (j m : Nat), j < ls.length → Calls Try.prog 48 #[.int .i64 (j : Int), .pointer (some ⟨pt, 0, none⟩), .pointer (some ⟨pk, 0, none⟩)] (w.drewN m) fun e w' => e = .returned (.bool (decide (A.length < j))) ∧ ∃ m', w' = w.drewN m') := fun j m hj => by
    have hj' : ls[j]? = some ls[j] := List.getElem?_eq_getElem hj
    have h2 := find1_any (h.turn (Turn.ofBelow (fun _ => False) (below_drewN w m)) (fun _ _ h => h)) hj' (k := k) (pt := pt) (pk := pk) ht hk
    rw [hc.at hj'] at h2
    exact h2.mono fun e w' ⟨h1, m', h2⟩ => ⟨h1, m + m', by rw [h2]; exact drewN_two w m m'⟩
  have hA := hc.lt
  obtain ⟨N, hN⟩ : ∃ N, ls.length = N := ⟨_, rfl⟩
  obtain ⟨a, ha⟩ : ∃ a, A.length = a := ⟨_, rfl⟩
  rw [hN] at HF hb hA ⊢
  rw [ha] at HF hA ⊢
  have hN2 : N ≤ 1000000 := by omega
  clear h hc ht hk hN ha hb
  go_enter Try.func47, Try.ntmps47
  go_wp2_with fail
  go_loopw [5, 6] (fun v u wr => ∃ i j : Nat, i ≤ a + 1 ∧ a + 1 ≤ j ∧ j ≤ N ∧ v = .int .i64 i ∧ u = .int .i64 j ∧ ∃ m, wr = w.drewN m) (fun v u _ => (intOf u).toNat - (intOf v).toNat)
  case atStart => exact ⟨0, N, by omega, by omega, Nat.le_refl _, rfl, rfl, 0, rfl⟩
  case round =>
    obtain ⟨i, j, h1, h2, h3, rfl, rfl, m, rfl⟩ := hrel
    by_cases hlt : i < j
    · have hI : (i : Int) < (j : Int) := by omega
      obtain ⟨x, hx⟩ : ∃ x : Nat, (i + j) / 2 = x := ⟨_, rfl⟩
      have hx1 : i ≤ x := by omega
      have hx2 : x < j := by omega
      have HC : Hid (∀ v : Bool, decide (a < x) = v → Calls Try.prog 48 #[.int .i64 (x : Int), .pointer (some ⟨pt, 0, none⟩), .pointer (some ⟨pk, 0, none⟩)] (w.drewN m) fun e w' => e = .returned (.bool v) ∧ ∃ m', w' = w.drewN m') := fun v hv => hv ▸ HF.out x m (by omega)
      have e1 : IntKind.i64.wrap ((i : Int) + (j : Int)) = (i : Int) + (j : Int) := by rw [IntKind.wrap_i64]; omega
      have e2 : ((i : Int) + (j : Int)) / 2 = (x : Int) := by omega
      by_cases hax : a < x
      · go_wp2_with (go_at_call 48; go_must (refine (HC.out true (decide_eq_true hax)).mono ?_; rintro e w1 ⟨rfl, m1, rfl⟩))
        go_roundw
        case rel => exact ⟨i, x, h1, by omega, by omega, rfl, rfl, _, rfl⟩
        case measure => simp [intOf]; omega
      · go_wp2_with (go_at_call 48; go_must (refine (HC.out false (decide_eq_false hax)).mono ?_; rintro e w1 ⟨rfl, m1, rfl⟩))
        go_roundw
        case rel => exact ⟨x + 1, j, by omega, h2, h3, by go_num, rfl, _, rfl⟩
        case measure => simp [intOf]; omega
    · have hI : ¬ (i : Int) < (j : Int) := by omega
      obtain rfl : i = a + 1 := by omega
      go_wp2_with fail
      go_ret
      exact ⟨rfl, _, rfl⟩

set_option maxRecDepth 100000 in
theorem tfind_any (h : TreeG w t b m c ls made keys) {k : ByteArray} {A B : List Lf} (hc : Cut ls k A l B) :
    Calls Try.prog 33 #[.pointer (some ⟨t, 0, none⟩), .string k] w fun e w' => e = .returned (.int .i64 (A.length : Int)) ∧ Below w.heap.size w w' := by
  have c0 := h.cells.c0
  have htl := lt_of h.st
  have hl := hc.lt
  have hbg := h.big
  have HB : Hid (Below w.heap.size w ((w.alloc (.cells #[.pointer (some ⟨t, 0, none⟩)] 23)).alloc (.cells #[.string k] 9))) := ((Below.refl _ _).alloc (Nat.le_refl _) _).alloc (by simp) _
  have HS : Hid (∀ u, Below w.heap.size w u → u.cell? ⟨w.heap.size, 0, none⟩ = some (.pointer (some ⟨t, 0, none⟩)) → u.cell? ⟨w.heap.size + 1, 0, none⟩ = some (.string k) → Calls Try.prog 47 #[.int .i64 (ls.length : Int), .func (.func 48) #[] #[.pointer (some ⟨w.heap.size, 0, none⟩), .pointer (some ⟨w.heap.size + 1, 0, none⟩)]] u fun e w' => e = .returned (.int .i64 ((A.length + 1 : Nat) : Int)) ∧ ∃ m, w' = u.drewN m) := fun u hb h1 h2 =>
    search_any (h.turn (Turn.ofBelow (fun _ => False) hb) (fun _ _ h => h)) hc h1 h2
  obtain ⟨N, hN⟩ : ∃ N, ls.length = N := ⟨_, rfl⟩
  obtain ⟨a, ha⟩ : ∃ a, A.length = a := ⟨_, rfl⟩
  rw [hN] at HS c0 hbg hl
  rw [ha] at HS hl ⊢
  have hN2 : a < 1000000 := by omega
  have q1 : ((w.alloc (.cells #[.pointer (some ⟨t, 0, none⟩)] 23)).alloc (.cells #[.string k] 9)).cell? ⟨w.heap.size, 0, none⟩ = some (.pointer (some ⟨t, 0, none⟩)) := by
    have e : ((w.alloc (.cells #[.pointer (some ⟨t, 0, none⟩)] 23)).alloc (.cells #[.string k] 9)).heap[w.heap.size]? = some (.cells #[.pointer (some ⟨t, 0, none⟩)] 23) := by
      rw [Below.heap_alloc _ _ _ (by simp)]
      exact heap_new _ _
    rw [cell_of e]; rfl
  have q2 : ((w.alloc (.cells #[.pointer (some ⟨t, 0, none⟩)] 23)).alloc (.cells #[.string k] 9)).cell? ⟨w.heap.size + 1, 0, none⟩ = some (.string k) := by
    have e := heap_new (w.alloc (.cells #[.pointer (some ⟨t, 0, none⟩)] 23)) (.cells #[.string k] 9)
    rw [World.size_alloc] at e
    rw [cell_of e]; rfl
  have HQ : Hid (_ ∧ _) := ⟨q1, q2⟩
  clear h hc hN ha hbg hl q1 q2
  go_enter Try.func33, Try.ntmps33
  go_wp2_with (go_at_call 47; go_must (refine (HS.out _ HB.out HQ.out.1 HQ.out.2).mono ?_; rintro e w2 ⟨rfl, m2, rfl⟩))
  go_ret
  exact ⟨ret_int (by omega), HB.out.trans ((below_drewN _ m2).mono HB.out.size)⟩

theorem isEmpty_any (h : TreeG w t b m c ls made keys) (hl : l ∈ ls) : Calls Try.prog 38 #[.pointer (some ⟨l.q, 0, none⟩)] w fun e w' => e = .returned (.bool (decide (l.n.ks.length = 0))) ∧ w' = w := by
  obtain ⟨c0, -, -, -⟩ := h.leafCells hl
  have HO : Hid (Calls Try.prog 55 #[.pointer (some ⟨l.g, 0, none⟩)] w fun e w' => e = .returned (.int .u64 l.n.word) ∧ w' = w) := order_any (h.nodeI hl)
  have hwd := (h.nodeI hl).ok.wd
  obtain ⟨h0, h1⟩ := hwd.range
  have hk := and_15 h0 h1
  have hu := hwd.used
  obtain ⟨V, hV⟩ : ∃ V, l.n.word = V := ⟨_, rfl⟩
  obtain ⟨u, hu'⟩ : ∃ u, l.n.ks.length = u := ⟨_, rfl⟩
  rw [hV] at HO h0 h1 hk hu
  rw [hu'] at hu ⊢
  clear h hl hwd hV hu'
  by_cases e : u = 0
  · have HE : Hid (decide (u = 0) = true) := decide_eq_true e
    have hz : V % 16 = 0 := by omega
    clear hu e
    go_enter Try.func38, Try.ntmps38
    go_wp2_with (go_at_call 55; go_must (refine HO.out.mono ?_; rintro e w2 ⟨rfl, rfl⟩))
    go_ret
    exact ⟨by rw [HE.out]; rfl, rfl⟩
  · have HE : Hid (decide (u = 0) = false) := decide_eq_false e
    have hz : (V % 16 == 0) = false := by rw [beq_eq_false_iff_ne]; omega
    have hz2 : ¬ V % 16 = 0 := by omega
    clear hu e
    go_enter Try.func38, Try.ntmps38
    go_wp2_with (go_at_call 55; go_must (refine HO.out.mono ?_; rintro e w2 ⟨rfl, rfl⟩))
    go_ret
    exact ⟨by rw [HE.out]; first | rfl | simp [hz2, hz], rfl⟩
end

end Go.Proofs.Ytoknebbkpkcomaa
