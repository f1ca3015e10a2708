/- The program's calls that change a node: takeAt, Take, Put. -/
import Derived.Test.YtoknebbkpkcomaaNMeth
import Derived.Test.YtoknebbkpkcomaaFClone
namespace Go.Proofs.Ytoknebbkpkcomaa
open Go.RowKit

theorem addC_eq (C : Array Value) {s : Nat} (hs : s < 15) (k : ByteArray) (v W I : Int) :
    (((C.setIfInBounds 0 (.int .u64 W)).setIfInBounds (1 + s) (.string k)).setIfInBounds (16 + s) (.int .i64 v)).setIfInBounds 31 (.int .i64 I) = addC C s k v W I := by
  unfold addC
  rw [Array.setIfInBounds_comm (xs := C) _ _ (show 0 ≠ 1 + s by omega), Array.setIfInBounds_comm _ _ (show 0 ≠ 16 + s by omega)]

section
variable {g : Nat} {n : Nd} {w : World} {F : Nat → Prop}

/-- the node's block is written cell by cell -/
theorem write_add {W0 : World} {C : Array Value} (h : W0.heap[g]? = some (.cells C 91 (0, 0))) (s : Nat) (k : ByteArray) (v V I : Int) :
    ((((W0.setCell ⟨g, 1 + s, none⟩ (.string k)).setCell ⟨g, 16 + s, none⟩ (.int .i64 v)).setCell ⟨g, 0, none⟩ (.int .u64 V)).setCell ⟨g, 31, none⟩ (.int .i64 I)).heap[g]? = some (.cells (addC C s k v V I) 91 (0, 0)) :=
  heap_setCell_same (heap_setCell_same (heap_setCell_same (heap_setCell_same h _ _) _ _) _ _) _ _
theorem turn_add (W0 : World) (s : Nat) (k : ByteArray) (v V I : Int) :
    Turn (fun i => i = g) W0 ((((W0.setCell ⟨g, 1 + s, none⟩ (.string k)).setCell ⟨g, 16 + s, none⟩ (.int .i64 v)).setCell ⟨g, 0, none⟩ (.int .u64 V)).setCell ⟨g, 31, none⟩ (.int .i64 I)) :=
  (((Turn.setCell (S := fun i => i = g) W0 ⟨g, 1 + s, none⟩ _ rfl).trans (Turn.setCell _ ⟨g, 16 + s, none⟩ _ rfl)).trans (Turn.setCell _ ⟨g, 0, none⟩ _ rfl)).trans (Turn.setCell _ ⟨g, 31, none⟩ _ rfl)

theorem write_del {W0 : World} {C : Array Value} (h : W0.heap[g]? = some (.cells C 91 (0, 0))) {s : Nat} (hs : s < 15) (k : ByteArray) (v V I : Int) :
    ((((W0.setCell ⟨g, 0, none⟩ (.int .u64 V)).setCell ⟨g, 1 + s, none⟩ (.string k)).setCell ⟨g, 16 + s, none⟩ (.int .i64 v)).setCell ⟨g, 31, none⟩ (.int .i64 I)).heap[g]? = some (.cells (addC C s k v V I) 91 (0, 0)) := by
  rw [← addC_eq C hs]
  exact heap_setCell_same (heap_setCell_same (heap_setCell_same (heap_setCell_same h _ _) _ _) _ _) _ _
theorem turn_del (W0 : World) (s : Nat) (k : ByteArray) (v V I : Int) :
    Turn (fun i => i = g) W0 ((((W0.setCell ⟨g, 0, none⟩ (.int .u64 V)).setCell ⟨g, 1 + s, none⟩ (.string k)).setCell ⟨g, 16 + s, none⟩ (.int .i64 v)).setCell ⟨g, 31, none⟩ (.int .i64 I)) :=
  (((Turn.setCell (S := fun i => i = g) W0 ⟨g, 0, none⟩ _ rfl).trans (Turn.setCell _ ⟨g, 1 + s, none⟩ _ rfl)).trans (Turn.setCell _ ⟨g, 16 + s, none⟩ _ rfl)).trans (Turn.setCell _ ⟨g, 31, none⟩ _ rfl)

set_option maxRecDepth 100000 in
set_option maxHeartbeats 1000000 in
theorem takeAt_any (h : NodeI g n w F) {x : Int} {i : Nat} {p : Kv} (hx : x = i) (hp : n.ks[i]? = some p) (hI : 0 ≤ n.ins ∧ n.ins < 1000000) : Calls Try.prog 54 #[.pointer (some ⟨g, 0, none⟩), .int .i64 x] w fun e w' => e = .returned (.int .i64 p.2) ∧ Goes (NodeI g (n.del i)) w w' F := by
  obtain ⟨⟨C, hG⟩, hF⟩ := h
  have ho := hG.ok
  have hc := hG.cells
  have hf := ho.few
  have hi := (List.getElem?_eq_some_iff.1 hp).1
  obtain ⟨s, e1, e2, e3⟩ := slot_of ho (j := i) (by omega)
  have c0 := hc.c0
  have c31 := hc.c31
  have cv := hc.cv i p hp
  have ck := hc.ck i p hp
  have f0 := hc.fz 0
  have f1 := hc.fz (1 + s)
  have f16 := hc.fz (16 + s)
  have f31 := hc.fz 31
  rw [e3] at cv ck
  obtain ⟨I, hIe⟩ : ∃ I, n.ins = I := ⟨_, rfl⟩
  obtain ⟨V, hV⟩ : ∃ V, n.word = V := ⟨_, rfl⟩
  obtain ⟨V', hV'⟩ : ∃ V', V' = wdv (n.ks.length - 1) (remW n.l n.ks.length i) := ⟨_, rfl⟩
  obtain ⟨y, hy⟩ : ∃ y, p.2 = y := ⟨_, rfl⟩
  have HR : Hid (∀ u : World, Calls Try.prog 66 #[.int .u64 V, .int .i64 x] u fun e w' => e = .returned (.tuple #[.int .u64 V', .int .i64 (s : Int), .int .i64 0]) ∧ w' = u) := fun u => by
    have := remove_to ho.wd ho.may hx hi u
    rw [e3, hV, ← hV'] at this
    exact this
  have HG : Hid (∀ u : World, (∀ j : Nat, u.heap[j]? = w.heap[j]?) → u.heap.size = w.heap.size → Below w.heap.size w u → ∀ m, Goes (NodeI g (n.del i)) w ((((((u.setCell ⟨g, 0, none⟩ (.int .u64 V')).setCell ⟨g, 1 + s, none⟩ (.string ⟨#[]⟩)).setCell ⟨g, 16 + s, none⟩ (.int .i64 0)))).setCell ⟨g, 31, none⟩ (.int .i64 (I + 1)) |>.drewN m) F) := by
    intro u hu hus hb m
    have hst := (hu g).trans hG.st
    refine NodeG.goes hF ?_ (hG.delK (k := ⟨#[]⟩) (v := 0) hi e1 hV' (by rw [hIe] : I + 1 = n.ins + 1) (W := _) (write_del hst e2 _ _ _ _))
    exact (Turn.ofBelow _ hb).trans ((turn_del u s _ _ _ _).drewN m)
  rw [hIe] at c31 hI
  rw [hV] at c0
  rw [hy] at cv ⊢
  obtain ⟨i0, i1⟩ := hI
  have n1 : ¬ 31 = 1 + s := by omega
  have n2 : ¬ 31 = 16 + s := by omega
  clear hG hc ho hF hp hi hx e1 e3 hV hV' hy hIe hf
  go_enter Try.func54, Try.ntmps54
  go_wp2_with (go_at_call 66; go_must (refine (HR.out _).mono ?_; rintro e w ⟨rfl, rfl⟩))
  go_region
  all_goals go_wp2
  all_goals go_ret
  all_goals exact ⟨rfl, HG.out _ (fun _ => rfl) rfl (Below.refl _ _) 1⟩

theorem take_yes (h : NodeI g n w F) {i : Nat} {k : ByteArray} {v : Int} (hi : n.ks[i]? = some (k, v)) (hI : 0 ≤ n.ins ∧ n.ins < 1000000) : Calls Try.prog 37 #[.pointer (some ⟨g, 0, none⟩), .string k] w fun e w' => e = .returned (.tuple #[.int .i64 v, .int .i64 0]) ∧ Goes (NodeI g (n.del i)) w w' F := by
  have HF : Hid (Calls Try.prog 49 #[.pointer (some ⟨g, 0, none⟩), .string k] w fun e w' => e = .returned (.tuple #[.int .i64 (i : Int), .bool true]) ∧ ∃ m, w' = w.drewN m) := by
    have := find_any h.cells h.ok (h.ok.at hi)
    rw [isAt_yes hi] at this
    exact this
  have HT : Hid (∀ m, Calls Try.prog 54 #[.pointer (some ⟨g, 0, none⟩), .int .i64 (i : Int)] (w.drewN m) fun e w' => e = .returned (.int .i64 v) ∧ Goes (NodeI g (n.del i)) w w' F) := fun m =>
    (takeAt_any ((nodeI_res g n).kept (S := fun _ => False) h (Turn.ofBelow _ (below_drewN w m)) (fun _ _ h => h)) rfl hi hI).mono fun e w' ⟨h1, h2⟩ => ⟨h1, h2.behind (below_drewN w m) rfl⟩
  clear h hi hI
  go_enter Try.func37, Try.ntmps37
  go_wp2_with (first | (go_at_call 49; go_must (refine HF.out.mono ?_; rintro e w1 ⟨rfl, m1, rfl⟩)) | (go_at_call 54; go_must (refine (HT.out _).mono ?_; rintro e w2 ⟨rfl, hg⟩)))
  go_ret2
  exact ⟨rfl, hg⟩

theorem take_no (h : NodeI g n w F) {k : ByteArray} (hk : k ∉ n.keys) : Calls Try.prog 37 #[.pointer (some ⟨g, 0, none⟩), .string k] w fun e w' => e = .returned (.tuple #[.int .i64 0, .int .i64 5]) ∧ ∃ m, w' = w.drewN m := by
  obtain ⟨i, ha⟩ := at_ex k n.ks
  have HF : Hid (Calls Try.prog 49 #[.pointer (some ⟨g, 0, none⟩), .string k] w fun e w' => e = .returned (.tuple #[.int .i64 (i : Int), .bool false]) ∧ ∃ m, w' = w.drewN m) := by
    have := find_any h.cells h.ok ha
    rw [isAt_no (fun v hv => hk (List.mem_map.2 ⟨_, List.mem_of_getElem? hv, rfl⟩))] at this
    exact this
  clear ha h
  go_enter Try.func37, Try.ntmps37
  go_wp2_with (go_at_call 49; go_must (refine HF.out.mono ?_; rintro e w1 ⟨rfl, m1, rfl⟩))
  go_ret2
  exact ⟨rfl, _, rfl⟩

theorem put_long {k : ByteArray} (hk : 4096 < k.size) (v : Int) (g : Nat) (w : World) : Calls Try.prog 35 #[.pointer (some ⟨g, 0, none⟩), .string k, .int .i64 v] w fun e w' => e = .returned (.tuple #[.int .i64 0, .bool false, .int .i64 2]) ∧ w' = w := by
  have h1 : 4096 < (k.size : Int) := by omega
  clear hk
  go_enter Try.func35, Try.ntmps35
  go_wp2
  go_ret3
  exact ⟨rfl, rfl⟩

set_option maxRecDepth 100000 in
set_option maxHeartbeats 1000000 in
theorem put_there (h : NodeI g n w F) {i : Nat} {k : ByteArray} {v v' : Int} (hi : n.ks[i]? = some (k, v)) (hv : -9223372036854775808 ≤ v' ∧ v' ≤ 9223372036854775807) :
    Calls Try.prog 35 #[.pointer (some ⟨g, 0, none⟩), .string k, .int .i64 v'] w fun e w' => e = .returned (.tuple #[.int .i64 v, .bool true, .int .i64 0]) ∧ Goes (NodeI g (n.set i k v')) w w' F := by
  obtain ⟨⟨C, hG⟩, hF⟩ := h
  have ho := hG.ok
  have hc := hG.cells
  have hf := ho.few
  have hk : k.size ≤ 4096 := ho.short _ (List.mem_of_getElem? hi)
  have hkI : ¬ 4096 < (k.size : Int) := by omega
  have hil := (List.getElem?_eq_some_iff.1 hi).1
  obtain ⟨s, e1, e2, e3⟩ := slot_of ho (j := i) (by omega)
  have c0 := hc.c0
  have cv := hc.cv i _ hi
  have f16 := hc.fz (16 + s)
  rw [e3] at cv
  dsimp only at cv
  have HFd : Hid (Calls Try.prog 49 #[.pointer (some ⟨g, 0, none⟩), .string k] w fun e w' => e = .returned (.tuple #[.int .i64 (i : Int), .bool true]) ∧ ∃ m, w' = w.drewN m) := by
    have := find_any hc ho (ho.at hi)
    rw [isAt_yes hi] at this
    exact this
  obtain ⟨V, hV⟩ : ∃ V, n.word = V := ⟨_, rfl⟩
  rw [hV] at c0
  have HS : Hid (∀ u : World, Calls Try.prog 50 #[.int .u64 V, .int .i64 (i : Int)] u fun e w' => e = .returned (.int .i64 (s : Int)) ∧ w' = u) := fun u => by
    have := slotAt_any ho.wd (rfl : (i : Int) = (i : Nat)) (by omega) u
    rw [e3, hV] at this
    exact this
  have HG : Hid (∀ m : Nat, Goes (NodeI g (n.set i k v')) w ((w.drewN m).setCell ⟨g, 16 + s, none⟩ (.int .i64 v')) F) := fun m =>
    NodeG.goes hF ((Turn.ofBelow _ (below_drewN w m)).trans (Turn.setCell _ ⟨g, 16 + s, none⟩ _ rfl)) (hG.setV hi e1 hv (heap_setCell_same (w := w.drewN m) hG.st _ _))
  clear hG hc ho hF hi hk hil e1 e3 hV hf hv
  go_enter Try.func35, Try.ntmps35
  go_wp2_with (first | (go_at_call 49; go_must (refine HFd.out.mono ?_; rintro e w1 ⟨rfl, m1, rfl⟩)) | (go_at_call 50; go_must (refine (HS.out _).mono ?_; rintro e w2 ⟨rfl, rfl⟩)))
  go_ret3
  exact ⟨rfl, HG.out _⟩

theorem put_full (h : NodeI g n w F) {k : ByteArray} (hk : k ∉ n.keys) (hs : k.size ≤ 4096) (hf : n.ks.length = 15) (v : Int) : Calls Try.prog 35 #[.pointer (some ⟨g, 0, none⟩), .string k, .int .i64 v] w fun e w' => e = .returned (.tuple #[.int .i64 0, .bool false, .int .i64 120]) ∧ ∃ m, w' = w.drewN m := by
  obtain ⟨i, ha⟩ := at_ex k n.ks
  have hkI : ¬ 4096 < (k.size : Int) := by omega
  have HF : Hid (Calls Try.prog 49 #[.pointer (some ⟨g, 0, none⟩), .string k] w fun e w' => e = .returned (.tuple #[.int .i64 (i : Int), .bool false]) ∧ ∃ m, w' = w.drewN m) := by
    have := find_any h.cells h.ok ha
    rw [isAt_no (fun v hv => hk (List.mem_map.2 ⟨_, List.mem_of_getElem? hv, rfl⟩))] at this
    exact this
  have c0 := h.cells.c0
  have HI : Hid (∀ (x : Int) (u : World), Calls Try.prog 51 #[.int .u64 n.word, .int .i64 x] u fun e w' => e = .returned (.tuple #[.int .u64 0, .int .i64 0, .int .i64 120]) ∧ w' = u) := fun x u => insert_full h.ok.wd h.ok.may hf x u
  obtain ⟨V, hV⟩ : ∃ V, n.word = V := ⟨_, rfl⟩
  rw [hV] at c0 HI
  clear ha h hk hs hf hV
  go_enter Try.func35, Try.ntmps35
  go_wp2_with (first | (go_at_call 49; go_must (refine HF.out.mono ?_; rintro e w1 ⟨rfl, m1, rfl⟩)) | (go_at_call 51; go_must (refine (HI.out _ _).mono ?_; rintro e w2 ⟨rfl, rfl⟩)))
  go_ret3
  exact ⟨rfl, _, rfl⟩

set_option maxRecDepth 100000 in
set_option maxHeartbeats 1000000 in
theorem put_new (h : NodeI g n w F) {k : ByteArray} {i : Nat} (ha : At k n.ks i) (hno : ∀ v, n.ks[i]? ≠ some (k, v)) (hk : k.size ≤ 4096) (hf : n.ks.length < 15) {v : Int} (hv : -9223372036854775808 ≤ v ∧ v ≤ 9223372036854775807) (hI : 0 ≤ n.ins ∧ n.ins < 1000000) :
    Calls Try.prog 35 #[.pointer (some ⟨g, 0, none⟩), .string k, .int .i64 v] w fun e w' => e = .returned (.tuple #[.int .i64 0, .bool false, .int .i64 0]) ∧ Goes (NodeI g (n.add i k v)) w w' F := by
  obtain ⟨⟨C, hG⟩, hF⟩ := h
  have ho := hG.ok
  have hc := hG.cells
  have hkI : ¬ 4096 < (k.size : Int) := by omega
  obtain ⟨s, e1, e2, e3⟩ := slot_of ho (j := n.ks.length) (by omega)
  have hsz := hG.size
  have c0 := hc.c0
  have HFd : Hid (Calls Try.prog 49 #[.pointer (some ⟨g, 0, none⟩), .string k] w fun e w' => e = .returned (.tuple #[.int .i64 (i : Int), .bool false]) ∧ ∃ m, w' = w.drewN m) := by
    have := find_any hc ho ha
    rw [isAt_no hno] at this
    exact this
  obtain ⟨I, hIe⟩ : ∃ I, n.ins = I := ⟨_, rfl⟩
  obtain ⟨V, hV⟩ : ∃ V, n.word = V := ⟨_, rfl⟩
  obtain ⟨V', hV'⟩ : ∃ V', V' = wdv (n.ks.length + 1) (insW n.l n.ks.length i) := ⟨_, rfl⟩
  have HIn : Hid (∀ u : World, Calls Try.prog 51 #[.int .u64 V, .int .i64 (i : Int)] u fun e w' => e = .returned (.tuple #[.int .u64 V', .int .i64 (s : Int), .int .i64 0]) ∧ w' = u) := fun u => by
    have := insert_to ho.wd ho.may hf (rfl : (i : Int) = (i : Nat)) ha.le u
    rw [e3, hV, ← hV'] at this
    exact this
  have HC : Hid (∀ u : World, Calls Try.prog 52 #[.string k] u fun e w' => e = .returned (.string k) ∧ Below u.heap.size u w') := fun u => sClone_any k u (by omega)
  have HB : Hid (∀ u : World, Below w.heap.size w u → NodeC u g n ∧ (∃ x, u.cell? ⟨g, 1 + s, none⟩ = some x) ∧ ∃ x, u.cell? ⟨g, 16 + s, none⟩ = some x) := fun u hb => by
    have hst := (hb.block g (lt_of hG.st)).trans hG.st
    refine ⟨(hG.kept (hb.block g (lt_of hG.st))).cells, ⟨C[1 + s], ?_⟩, ⟨C[16 + s], ?_⟩⟩
    · rw [cell_of hst, Array.getElem?_eq_getElem (by omega)]
    · rw [cell_of hst, Array.getElem?_eq_getElem (by omega)]
  have HG : Hid (∀ (u : World), Below w.heap.size w u → Goes (NodeI g (n.add i k v)) w ((((u.setCell ⟨g, 1 + s, none⟩ (.string k)).setCell ⟨g, 16 + s, none⟩ (.int .i64 v)).setCell ⟨g, 0, none⟩ (.int .u64 V')).setCell ⟨g, 31, none⟩ (.int .i64 (I + 1))) F) := by
    intro u hb
    have hst := (hb.block g (lt_of hG.st)).trans hG.st
    exact NodeG.goes hF ((Turn.ofBelow _ hb).trans (turn_add u s _ _ _ _)) (hG.addK ha hno hf hk hv e1 hV' (by rw [hIe] : I + 1 = n.ins + 1) (write_add hst _ _ _ _ _))
  have HI : Hid (n.ins = I) := hIe
  rw [hIe] at hI
  rw [hV] at c0
  obtain ⟨i0, i1⟩ := hI
  have n1 : ¬ 31 = 1 + s := by omega
  have n2 : ¬ 31 = 16 + s := by omega
  clear hG hc ho hF ha hno hk hf hv e1 e3 hV hV' hIe hsz
  go_enter Try.func35, Try.ntmps35
  go_wp2_with (first | (go_at_call 49; go_must (refine HFd.out.mono ?_; rintro e w1 ⟨rfl, m1, rfl⟩)) | (go_at_call 51; go_must (refine (HIn.out _).mono ?_; rintro e w2 ⟨rfl, rfl⟩)))
  go_region_with (go_at_call 52; go_must (refine (HC.out _).mono ?_; rintro e w3 ⟨rfl, hb3⟩; obtain ⟨hc3, ⟨y1, q1⟩, ⟨y2, q2⟩⟩ := HB.out w3 ((below_drewN w _).trans hb3); have f0 := hc3.fz 0; have f1 := hc3.fz (1 + s); have f16 := hc3.fz (16 + s); have f31 := hc3.fz 31; have c03 := hc3.c0; have c31 := hc3.c31; rw [HI.out] at c31; clear hc3))
  all_goals go_wp2
  all_goals go_ret3
  all_goals exact ⟨rfl, HG.out _ ((below_drewN w _).trans hb3)⟩
end

end Go.Proofs.Ytoknebbkpkcomaa
