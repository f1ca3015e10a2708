import Derived.Test.YtigegdelhpdlhaaGreatDoorIPackJ
import Derived.Test.YtigegdelhpdlhaaGreatDoorJDec2J
/- Layer 18: wal's reader: the writes, the entry (entryOf). -/
namespace Go.Proofs.YtigegdelhpdlhaaGreatDoor
open Go.RowKit QP

/-- the bytes of a write, as numbers -/
def writeN (t k : ByteArray) (n : Nat) : List Nat := lo t.size 8 ++ (nb t ++ (lo k.size 8 ++ (nb k ++ ([0] ++ (lo 10 8 ++ (rowB n ++ []))))))
/-- the bytes of an entry of one write -/
def entN (T : Nat) (t k : ByteArray) (n : Nat) : List Nat := lo T 8 ++ (lo 1 8 ++ writeN t k n)
theorem writeN_length (t k : ByteArray) (n : Nat) : (writeN t k n).length = t.size + k.size + 35 := by
  unfold writeN
  simp only [List.length_append, lo_length, nb_length, rowB_length, List.length_nil, List.length_singleton]
  omega
theorem infoW : (Tryz.prog.info? 63).map (fun i => (i.zero, i.size, i.bytes)) = some (some (.agg #[.string ⟨#[]⟩, .string ⟨#[]⟩, .bool false, .slice none 0 0]), 4, 64) := by kernel_rfl
theorem make_w1 (u : World) : (Instr.makeSlice 40 (.int .i64 1) (.int .i64 1)).run Tryz.prog u = .ok (.slice (some ⟨u.heap.size, 0, none⟩) 1 1) (u.alloc (.cells #[.string ⟨#[]⟩, .string ⟨#[]⟩, .bool false, .slice none 0 0] 63)) := by
  have h := make_anyJ Tryz.underlying40 infoW u 1 (by decide) (by decide)
  have e : madeCells (Value.agg #[.string ⟨#[]⟩, .string ⟨#[]⟩, .bool false, .slice none 0 0]).cells (1 * 4) = #[.string ⟨#[]⟩, .string ⟨#[]⟩, .bool false, .slice none 0 0] := by kernel_rfl
  rw [e] at h
  exact h

set_option maxRecDepth 100000 in
set_option maxHeartbeats 2000000 in
theorem jrwrites_any (b n : Nat) (t k : ByteArray) (w : World) (h : JrI b (lo 1 8 ++ writeN t k n) w) (hn : n < 9223372036854775808) (ht : t.size ≤ 100) (hk : k.size ≤ 100) :
    Calls Tryz.prog 149 #[.pointer (some ⟨b, 0, none⟩)] w fun e w' => ∃ g x, e = .returned (.slice (some ⟨g, 0, none⟩) 1 1) ∧ Hid (w'.heap[g]? = some (boxJ t k x) ∧ OneAt w' x 2 (n : Int) ByteArray.empty ∧ w.heap.size ≤ g ∧ g < x) ∧ Hid (JrI b [] w' ∧ AtJ b w w') := by
  have hbl := lt_of h
  have H1 : Hid (Calls Tryz.prog 172 #[.pointer (some ⟨b, 0, none⟩), .int .i64 4096] w fun e w' => e = .returned (.int .i64 1) ∧ Hid (JrI b (writeN t k n) w' ∧ AtJ b w w')) := jrsize_any 1 4096 h (by decide) (by decide) (by rw [writeN_length]; omega)
  have H2 : Hid (∀ u, JrI b (lo t.size 8 ++ (nb t ++ (lo k.size 8 ++ (nb k ++ ([0] ++ (lo 10 8 ++ (rowB n ++ []))))))) u → Calls Tryz.prog 173 #[.pointer (some ⟨b, 0, none⟩)] u fun e w' => e = .returned (.string t) ∧ Hid (JrI b (lo k.size 8 ++ (nb k ++ ([0] ++ (lo 10 8 ++ (rowB n ++ []))))) w' ∧ AtJ b u w')) := fun u hu => jrtext_any t hu (by omega) (by simp only [List.length_append, lo_length, nb_length, rowB_length, List.length_nil, List.length_singleton]; omega)
  have H3 : Hid (∀ u, JrI b (lo k.size 8 ++ (nb k ++ ([0] ++ (lo 10 8 ++ (rowB n ++ []))))) u → Calls Tryz.prog 173 #[.pointer (some ⟨b, 0, none⟩)] u fun e w' => e = .returned (.string k) ∧ Hid (JrI b ([0] ++ (lo 10 8 ++ (rowB n ++ []))) w' ∧ AtJ b u w')) := fun u hu => jrtext_any k hu (by omega) (by simp only [List.length_append, lo_length, rowB_length, List.length_nil, List.length_singleton]; omega)
  have H4 : Hid (∀ u, JrI b ([0] ++ (lo 10 8 ++ (rowB n ++ []))) u → Calls Tryz.prog 174 #[.pointer (some ⟨b, 0, none⟩)] u fun e w' => e = .returned (.bool false) ∧ Hid (JrI b (lo 10 8 ++ (rowB n ++ [])) w' ∧ AtJ b u w')) := fun u hu => jrflag_any hu (by simp only [List.length_append, lo_length, rowB_length, List.length_nil]; omega)
  have H5 : Hid (∀ u, JrI b (lo 10 8 ++ (rowB n ++ [])) u → Calls Tryz.prog 175 #[.pointer (some ⟨b, 0, none⟩)] u fun e w' => ∃ x, e = .returned (.slice (some ⟨x, 0, none⟩) 1 1) ∧ Hid (OneAt w' x 2 (n : Int) ByteArray.empty ∧ u.heap.size ≤ x) ∧ Hid (JrI b [] w' ∧ AtJ b u w')) := fun u hu => jrrow_any n hu hn (by simp)
  have hmk := make_w1
  have Hbl : Hid (b < w.heap.size) := hbl
  clear h
  go_enter Tryz.func149, Tryz.ntmps149
  go_wp2_with (first
    | (go_at_call 172; (with_reducible refine H1.out.mono ?_); rintro e w1 ⟨rfl, K1⟩))
  obtain ⟨g, hg⟩ : ∃ g, w1.heap.size = g := ⟨_, rfl⟩
  have hb1 : Below w1.heap.size w1 (w1.alloc (.cells #[.string ⟨#[]⟩, .string ⟨#[]⟩, .bool false, .slice none 0 0] 63)) := (Below.refl _ _).alloc (Nat.le_refl _) _
  have hX1 := heap_new w1 (.cells #[.string ⟨#[]⟩, .string ⟨#[]⟩, .bool false, .slice none 0 0] 63)
  have hs1 := K1.out.2.size
  obtain ⟨u, hu⟩ : ∃ u, w1.alloc (.cells #[.string ⟨#[]⟩, .string ⟨#[]⟩, .bool false, .slice none 0 0] 63) = u := ⟨_, rfl⟩
  have husz : u.heap.size = g + 1 := by rw [← hu, ← hg]; simp
  rw [hg, hu] at hX1 hb1
  have HK : Hid (JrI b (writeN t k n) u ∧ AtJ b w u ∧ w.heap.size ≤ g ∧ b < g) := ⟨(hb1.block b (by omega)).trans K1.out.1, K1.out.2.trans (Turn.ofBelow (fun i => i = b) (by rw [← hg] at hb1; exact hb1)), by omega, by omega⟩
  have HX1 : Hid (u.heap[g]? = some (.cells #[.string ⟨#[]⟩, .string ⟨#[]⟩, .bool false, .slice none 0 0] 63 (0, 0))) := hX1
  have Husz : Hid (u.heap.size = g + 1) := husz
  rw [hg, hu]
  have H2' := H2.out u HK.out.1
  clear hg hb1 hX1 hs1 hu K1 H1 husz
  refine wp_loop_rounds 2 ?_
  rw [rounds_succ]
  go_wp2_with fail
  refine H2'.mono ?_
  rintro e w2 ⟨rfl, K2⟩
  have H3' := H3.out w2 K2.out.1
  clear H2'
  go_wp2_with fail
  refine H3'.mono ?_
  rintro e w3 ⟨rfl, K3⟩
  have H4' := H4.out w3 K3.out.1
  clear H3'
  go_wp2_with fail
  refine H4'.mono ?_
  rintro e w4 ⟨rfl, K4⟩
  have H5' := H5.out w4 K4.out.1
  clear H4'
  go_wp2_with fail
  refine H5'.mono ?_
  rintro e w5 ⟨x, rfl, KO, K5⟩
  have hA : AtJ b u w5 := ((K2.out.2.trans K3.out.2).trans K4.out.2).trans K5.out.2
  have hX5 := (hA.block g (by rw [Husz.out]; omega) (by have := HK.out.2.2.2; omega)).trans HX1.out
  have hxg : g < x := by
    have h1 := KO.out.2
    have h2 := ((K2.out.2.trans K3.out.2).trans K4.out.2).size
    rw [Husz.out] at h2
    omega
  have Hxg : Hid (g < x) := hxg
  have HA5 : Hid (AtJ b w w5 ∧ AtJ b u w5) := ⟨HK.out.2.1.trans hA, hA⟩
  have HX5 : Hid (w5.heap[g]? = some (.cells #[.string ⟨#[]⟩, .string ⟨#[]⟩, .bool false, .slice none 0 0] 63 (0, 0))) := hX5
  have a0 : w5.cell? ⟨g, 0, none⟩ = some (.string ⟨#[]⟩) := by rw [cell_of hX5]; rfl
  have a1 : w5.cell? ⟨g, 1, none⟩ = some (.string ⟨#[]⟩) := by rw [cell_of hX5]; rfl
  have a2 : w5.cell? ⟨g, 2, none⟩ = some (.bool false) := by rw [cell_of hX5]; rfl
  have a3 : w5.cell? ⟨g, 3, none⟩ = some (.slice none 0 0) := by rw [cell_of hX5]; rfl
  have f0 := frozen_of hX5 0
  have f1 := frozen_of hX5 1
  have f2 := frozen_of hX5 2
  have f3 := frozen_of hX5 3
  clear hX5 hA hxg H5' K2 K3 K4 H2 H3 H4 H5
  go_wp2_with fail
  rw [rounds_succ]
  go_wp2_with fail
  have hg := heap_setCell_same (heap_setCell_same (heap_setCell_same (heap_setCell_same HX5.out 0 (.string t)) 1 (.string k)) 2 (.bool false)) 3 (.slice (some ⟨x, 0, none⟩) 1 1)
  have hT : Turn (fun i => i = g) w5 ((((w5.setCell ⟨g, 0, none⟩ (.string t)).setCell ⟨g, 1, none⟩ (.string k)).setCell ⟨g, 2, none⟩ (.bool false)).setCell ⟨g, 3, none⟩ (.slice (some ⟨x, 0, none⟩) 1 1)) :=
    (((Turn.setCell (S := fun i => i = g) w5 ⟨g, 0, none⟩ _ rfl).trans (Turn.setCell _ ⟨g, 1, none⟩ _ rfl)).trans (Turn.setCell _ ⟨g, 2, none⟩ _ rfl)).trans (Turn.setCell _ ⟨g, 3, none⟩ _ rfl)
  clear a0 a1 a2 a3 f0 f1 f2 f3
  go_ret
  refine ⟨g, x, rfl, ⟨hg, oneAt_turn KO.out.1 hT (by have := Hxg.out; omega), HK.out.2.2.1, Hxg.out⟩, ?_, ?_⟩
  · exact (hT.block b (lt_of K5.out.1) (by have := HK.out.2.2.2; omega)).trans K5.out.1
  · exact HA5.out.1.transNew hT (fun i hi => Or.inr (by have := HK.out.2.2.1; omega))

set_option maxRecDepth 100000 in
set_option maxHeartbeats 2000000 in
theorem jentryOf_any (T n : Nat) (t k : ByteArray) (w : World) (hT : TidOk T) (hn : n < 9223372036854775808) (ht : t.size ≤ 100) (hk : k.size ≤ 100) :
    Calls Tryz.prog 124 #[.string (ofN (entN T t k n))] w fun e w' => ∃ g x, e = .returned (.agg #[.int .u64 (T : Int), .slice (some ⟨g, 0, none⟩) 1 1]) ∧ Hid (w'.heap[g]? = some (boxJ t k x) ∧ OneAt w' x 2 (n : Int) ByteArray.empty ∧ w.heap.size ≤ g ∧ w.heap.size ≤ x ∧ Below w.heap.size w w') := by
  have hsz : (ofN (entN T t k n)).size = t.size + k.size + 51 := by
    rw [ofN_size]
    unfold entN
    simp only [List.length_append, lo_length, writeN_length]
    omega
  have HN : Hid (∀ u b, JrI b (lo T 8 ++ (lo 1 8 ++ writeN t k n)) u → Calls Tryz.prog 148 #[.pointer (some ⟨b, 0, none⟩)] u fun e w' => e = .returned (.int .u64 (T : Int)) ∧ Hid (JrI b (lo 1 8 ++ writeN t k n) w' ∧ AtJ b u w')) := fun u b hu => jrnumber_any T hu hT.lt (by rw [List.length_append, lo_length, writeN_length]; omega)
  have HW : Hid (∀ u b, JrI b (lo 1 8 ++ writeN t k n) u → Calls Tryz.prog 149 #[.pointer (some ⟨b, 0, none⟩)] u fun e w' => ∃ g x, e = .returned (.slice (some ⟨g, 0, none⟩) 1 1) ∧ Hid (w'.heap[g]? = some (boxJ t k x) ∧ OneAt w' x 2 (n : Int) ByteArray.empty ∧ u.heap.size ≤ g ∧ g < x) ∧ Hid (JrI b [] w' ∧ AtJ b u w')) := fun u b hu => jrwrites_any b n t k u hu hn ht hk
  have HC : Hid (∀ u g x, u.heap[g]? = some (boxJ t k x) → OneAt u x 2 (n : Int) ByteArray.empty → Calls Tryz.prog 87 #[.agg #[.int .u64 (T : Int), .slice (some ⟨g, 0, none⟩) 1 1]] u fun e w' => e = .returned (.tuple #[]) ∧ Below u.heap.size u w') := fun u g x h1 h2 => jcheck_any T n t k g x u hT h1 h2 ht hk
  have HRf : Hid (∀ u, Calls Tryz.prog 55 #[.bool false, .int .i64 180] u fun r w' => r = .returned (.tuple #[]) ∧ u = w') := fun u => (refuse_no 180 u).mono fun _ _ h => ⟨h.1, h.2.symm⟩
  have HRf2 : Hid (∀ u, Calls Tryz.prog 55 #[.bool false, .int .i64 2] u fun r w' => r = .returned (.tuple #[]) ∧ u = w') := fun u => (refuse_no 2 u).mono fun _ _ h => ⟨h.1, h.2.symm⟩
  obtain ⟨s, hs⟩ : ∃ s, ofN (entN T t k n) = s := ⟨_, rfl⟩
  have HV : Hid (∀ u b, u.heap[b]? = some (.cells #[.string s] 205 (0, 0)) → JrI b (lo T 8 ++ (lo 1 8 ++ writeN t k n)) u) := fun u b h => by
    unfold JrI
    rw [show lo T 8 ++ (lo 1 8 ++ writeN t k n) = entN T t k n from rfl, hs]
    exact h
  rw [hs] at hsz ⊢
  have k1 : decide (65536 < s.size) = false := decide_eq_false (by omega)
  have k2 : decide ((65536 : Int) < (s.size : Int)) = false := decide_eq_false (by omega)
  clear hs hsz hT
  go_enter Tryz.func124, Tryz.ntmps124
  go_wp2_with (first
    | (go_at_call 55; (with_reducible refine (HRf2.out _).mono ?_); rintro e w1 ⟨rfl, rfl⟩))
  obtain ⟨u, hu⟩ : ∃ u, (w.alloc (.cells #[.int .u64 0, .slice none 0 0] 42)).alloc (.cells #[.string s] 205) = u := ⟨_, rfl⟩
  have h1 := heap_new (w.alloc (.cells #[.int .u64 0, .slice none 0 0] 42)) (.cells #[.string s] 205)
  have h2 := (Below.heap_alloc (w.alloc (.cells #[.int .u64 0, .slice none 0 0] 42)) (.cells #[.string s] 205) w.heap.size (by simp)).trans (heap_new w (.cells #[.int .u64 0, .slice none 0 0] 42))
  have hb0 : Below w.heap.size w u := by rw [← hu]; exact ((Below.refl _ _).alloc (Nat.le_refl _) _).alloc (by simp) _
  rw [hu] at h1 h2 ⊢
  obtain ⟨f, hf⟩ : ∃ f, w.heap.size = f := ⟨_, rfl⟩
  have hsu : u.heap.size = f + 2 := by rw [← hu]; simp [hf]
  rw [World.size_alloc, hf] at h1
  rw [hf] at h2 ⊢
  have HU : Hid (u.heap.size = f + 2 ∧ u.heap[f]? = some (.cells #[.int .u64 0, .slice none 0 0] 42 (0, 0)) ∧ Below w.heap.size w u ∧ w.heap.size = f) := ⟨hsu, h2, hb0, hf⟩
  have HN1 := HN.out u (f + 1) (HV.out _ _ h1)
  clear hu h1 h2 hb0 hf hsu HV HN
  refine HN1.mono ?_
  rintro e w1 ⟨rfl, K1⟩
  have HW1 := HW.out w1 (f + 1) K1.out.1
  clear HN1 HW
  go_wp2_with fail
  refine HW1.mono ?_
  rintro e w2 ⟨g, x, rfl, KE, K2⟩
  have hA : AtJ (f + 1) u w2 := K1.out.2.trans K2.out.2
  have hF2 := (hA.block f (by rw [HU.out.1]; omega) (by omega)).trans HU.out.2.1
  have hB2 : Below w.heap.size w w2 := HU.out.2.2.1.trans ((hA.mono (S' := fun i => w.heap.size ≤ i) (fun i hi => by have := HU.out.2.2.2; omega)).toBelow HU.out.2.2.1.size)
  have hr2 := K2.out.1
  unfold JrI at hr2
  rw [ofN_nil] at hr2
  have c0 : w2.cell? ⟨f + 1, 0, none⟩ = some (.string ⟨#[]⟩) := by rw [cell_of hr2]; rfl
  have hfl2 : f + 1 < w2.heap.size := lt_of hr2
  have HC1 : Hid (Calls Tryz.prog 87 #[.agg #[.int .u64 (T : Int), .slice (some ⟨g, 0, none⟩) 1 1]] (w2.alloc (.cells #[.int .u64 (T : Int), .slice (some ⟨g, 0, none⟩) 1 1] 42)) fun e w' => e = .returned (.tuple #[]) ∧ w'.cell? ⟨w2.heap.size, 0, none⟩ = some (.int .u64 (T : Int)) ∧ w'.cell? ⟨w2.heap.size, 1, none⟩ = some (.slice (some ⟨g, 0, none⟩) 1 1) ∧ w'.cell? ⟨f, 0, none⟩ = some (.int .u64 0) ∧ w'.cell? ⟨f, 1, none⟩ = some (.slice none 0 0) ∧ w'.frozen? ⟨f, 0, none⟩ = false ∧ w'.frozen? ⟨f, 1, none⟩ = false ∧ Hid (Below w.heap.size w w' ∧ w'.heap[f]? = some (.cells #[.int .u64 0, .slice none 0 0] 42 (0, 0)) ∧ w'.heap[g]? = some (boxJ t k x) ∧ OneAt w' x 2 (n : Int) ByteArray.empty ∧ f < g ∧ f < x)) := by
    have hba : Below w2.heap.size w2 (w2.alloc (.cells #[.int .u64 (T : Int), .slice (some ⟨g, 0, none⟩) 1 1] 42)) := (Below.refl _ _).alloc (Nat.le_refl _) _
    have hE := heap_new w2 (.cells #[.int .u64 (T : Int), .slice (some ⟨g, 0, none⟩) 1 1] 42)
    have hg3 := (hba.block g (lt_of KE.out.1)).trans KE.out.1
    refine (HC.out _ g x hg3 (KE.out.2.1.below hba)).mono fun e w' ⟨e1, e2⟩ => ?_
    have hm' : w'.heap[w2.heap.size]? = some (.cells #[.int .u64 (T : Int), .slice (some ⟨g, 0, none⟩) 1 1] 42 (0, 0)) := by
      exact (e2.block _ (lt_of hE)).trans hE
    have hf' : w'.heap[f]? = some (.cells #[.int .u64 0, .slice none 0 0] 42 (0, 0)) := by
      have h3 := (hba.block f (by omega)).trans hF2
      exact (e2.block _ (lt_of h3)).trans h3
    have hg' := (e2.block _ (lt_of hg3)).trans hg3
    have hBb := hB2.trans (hba.mono hB2.size)
    have hfg : f < g ∧ f < x := by
      have h5 := KE.out.2.2.1
      have h6 := K1.out.2.size
      rw [HU.out.1] at h6
      have h7 := KE.out.2.2.2
      omega
    exact ⟨e1, by rw [cell_of hm']; rfl, by rw [cell_of hm']; rfl, by rw [cell_of hf']; rfl, by rw [cell_of hf']; rfl, frozen_of hf' 0, frozen_of hf' 1, hBb.trans (e2.mono hBb.size), hf', hg', (KE.out.2.1.below hba).below e2, hfg⟩
  clear hA hF2 hr2 HC HW1
  go_wp2_with (first
    | (go_at_call 55; (with_reducible refine (HRf.out _).mono ?_); rintro e w3 ⟨rfl, rfl⟩)
    | (go_at_call 87; (with_reducible refine HC1.out.mono ?_); rintro e w4 ⟨rfl, m0, m1, f0, f1, g0, g1, K4⟩))
  have hFe := heap_setCell_same (heap_setCell_same K4.out.2.1 0 (.int .u64 (T : Int))) 1 (.slice (some ⟨g, 0, none⟩) 1 1)
  refine bodyPost_ret (results_cell_row rfl _ _ f 42 #[.int .u64 (T : Int), .slice (some ⟨g, 0, none⟩) 1 1] (0, 0) _ rfl hFe Tryz.underlying42 rfl (by kernel_rfl)) rfl ?_
  have hT4 : Turn (fun i => i = f) w4 ((w4.setCell ⟨f, 0, none⟩ (.int .u64 (T : Int))).setCell ⟨f, 1, none⟩ (.slice (some ⟨g, 0, none⟩) 1 1)) :=
    (Turn.setCell (S := fun i => i = f) w4 ⟨f, 0, none⟩ _ rfl).trans (Turn.setCell _ ⟨f, 1, none⟩ _ rfl)
  obtain ⟨p1, p2, p3, p4, p5, p6⟩ := K4.out
  have e4 := HU.out.2.2.2
  refine ⟨g, x, rfl, ?_, oneAt_turn p4 hT4 (by omega), by omega, by omega, ?_⟩
  · exact (hT4.block g (lt_of p3) (by omega)).trans p3
  · exact p1.trans ((hT4.mono (S' := fun i => w.heap.size ≤ i) (fun i hi => by omega)).toBelow p1.size)
end Go.Proofs.YtigegdelhpdlhaaGreatDoor

/- Layer 18's face: done, over a closure that captures two or three values. -/
namespace Go.Proofs.YtigegdelhpdlhaaGreatDoor
open Go.RowKit

/-- the variable of the named result -/
abbrev errO (n : Int) : Obj := .cells #[.int .i64 n] 30 (0, 0)

set_option maxRecDepth 100000 in
set_option maxHeartbeats 1000000 in
theorem done2_ok (K : FuncId) (a0 a1 : Value) (w : World) (Q : World → Prop) (hE : ∀ u, (callFunc K #[a0, a1]).run Tryz.prog u = .ok (.enter K #[a0, a1]) u) (h : Calls Tryz.prog K #[a0, a1] (w.alloc (errO 0)) fun r w' => r = .returned (.tuple #[]) ∧ Q w')
    (hQ : ∀ w', Q w' → w'.heap[w.heap.size]? = some (errO 0)) : Calls Tryz.prog 35 #[.func (.func K) #[] #[a0, a1]] w fun r w' => r = .returned (.int .i64 0) ∧ ∃ w1, Q w1 ∧ w' = w1.setCell ⟨w.heap.size, 0, none⟩ (.int .i64 0) := by
  have hmf : ∀ (fn : Fn) (first cap : Array Value) (w : World), (Instr.makeFunc fn first cap).run Tryz.prog w = .ok (.func fn first cap) w := fun _ _ _ _ => rfl
  have HC : Hid (Calls Tryz.prog K #[a0, a1] (w.alloc (errO 0)) fun r w' => r = .returned (.tuple #[]) ∧ Q w') := h
  have HQ : Hid (∀ w', Q w' → w'.heap[w.heap.size]? = some (errO 0)) := hQ
  clear h hQ
  go_enter_defers Tryz.func35, Tryz.ntmps35
  go_wp2_with fail
  refine HC.out.mono ?_
  rintro r w1 ⟨rfl, hq⟩
  have h1 := HQ.out w1 hq
  have d0 : w1.cell? ⟨w.heap.size, 0, none⟩ = some (.int .i64 0) := by rw [cell_of h1]; rfl
  have z0 : w1.frozen? ⟨w.heap.size, 0, none⟩ = false := frozen_of h1 0
  clear h1
  go_wp2_with fail
  refine leaves_cons (f := 62) (args := #[.pointer (some ⟨w.heap.size, 0, none⟩)]) (by simp) (by simp [go_sem]) ?_
  refine (catch_idle ⟨w.heap.size, 0, none⟩ _).mono ?_
  rintro e u' w'' ⟨rfl, rfl, rfl⟩
  have e0 : (w1.setCell ⟨w.heap.size, 0, none⟩ (.int .i64 0)).cell? ⟨w.heap.size, 0, none⟩ = some (.int .i64 0) := World.cell?_setCell_same _ _ _ d0
  simp [Leaves, settle, results, Tryz.results35, go_sem, e0]
  exact ⟨w1, hq, rfl⟩

set_option maxRecDepth 100000 in
set_option maxHeartbeats 1000000 in
theorem done2_err (K : FuncId) (a0 a1 : Value) (n : Int) (w : World) (Q : World → Prop) (hE : ∀ u, (callFunc K #[a0, a1]).run Tryz.prog u = .ok (.enter K #[a0, a1]) u) (h : Calls Tryz.prog K #[a0, a1] (w.alloc (errO 0)) fun r w' => r = .panicked (mis n) ∧ Q w')
    (hQ : ∀ w', Q w' → w'.heap[w.heap.size]? = some (errO 0)) : Calls Tryz.prog 35 #[.func (.func K) #[] #[a0, a1]] w fun r w' => r = .returned (.int .i64 n) ∧ ∃ w1, Q w1 ∧ w' = w1.setCell ⟨w.heap.size, 0, none⟩ (.int .i64 n) := by
  have hmf : ∀ (fn : Fn) (first cap : Array Value) (w : World), (Instr.makeFunc fn first cap).run Tryz.prog w = .ok (.func fn first cap) w := fun _ _ _ _ => rfl
  have HC : Hid (Calls Tryz.prog K #[a0, a1] (w.alloc (errO 0)) fun r w' => r = .panicked (mis n) ∧ Q w') := h
  have HQ : Hid (∀ w', Q w' → w'.heap[w.heap.size]? = some (errO 0)) := hQ
  clear h hQ
  go_enter_defers Tryz.func35, Tryz.ntmps35
  go_wp2_with fail
  refine HC.out.mono ?_
  rintro r w1 ⟨rfl, hq⟩
  have h1 := HQ.out w1 hq
  have d0 : w1.cell? ⟨w.heap.size, 0, none⟩ = some (.int .i64 0) := by rw [cell_of h1]; rfl
  have z0 : w1.frozen? ⟨w.heap.size, 0, none⟩ = false := frozen_of h1 0
  clear h1
  refine leaves_cons (f := 62) (args := #[.pointer (some ⟨w.heap.size, 0, none⟩)]) (by simp) (by simp [go_sem]) ?_
  refine (catch_panic ⟨w.heap.size, 0, none⟩ 0 n [] _ d0 z0).mono ?_
  rintro e u' w'' ⟨rfl, rfl, rfl⟩
  have e0 : (w1.setCell ⟨w.heap.size, 0, none⟩ (.int .i64 n)).cell? ⟨w.heap.size, 0, none⟩ = some (.int .i64 n) := World.cell?_setCell_same _ _ _ d0
  simp [Leaves, settle, results, Tryz.results35, go_sem, e0]
  exact ⟨w1, hq, rfl⟩

set_option maxRecDepth 100000 in
set_option maxHeartbeats 1000000 in
theorem done3_ok (K : FuncId) (a0 a1 a2 : Value) (w : World) (Q : World → Prop) (hE : ∀ u, (callFunc K #[a0, a1, a2]).run Tryz.prog u = .ok (.enter K #[a0, a1, a2]) u) (h : Calls Tryz.prog K #[a0, a1, a2] (w.alloc (errO 0)) fun r w' => r = .returned (.tuple #[]) ∧ Q w')
    (hQ : ∀ w', Q w' → w'.heap[w.heap.size]? = some (errO 0)) : Calls Tryz.prog 35 #[.func (.func K) #[] #[a0, a1, a2]] w fun r w' => r = .returned (.int .i64 0) ∧ ∃ w1, Q w1 ∧ w' = w1.setCell ⟨w.heap.size, 0, none⟩ (.int .i64 0) := by
  have hmf : ∀ (fn : Fn) (first cap : Array Value) (w : World), (Instr.makeFunc fn first cap).run Tryz.prog w = .ok (.func fn first cap) w := fun _ _ _ _ => rfl
  have HC : Hid (Calls Tryz.prog K #[a0, a1, a2] (w.alloc (errO 0)) fun r w' => r = .returned (.tuple #[]) ∧ Q w') := h
  have HQ : Hid (∀ w', Q w' → w'.heap[w.heap.size]? = some (errO 0)) := hQ
  clear h hQ
  go_enter_defers Tryz.func35, Tryz.ntmps35
  go_wp2_with fail
  refine HC.out.mono ?_
  rintro r w1 ⟨rfl, hq⟩
  have h1 := HQ.out w1 hq
  have d0 : w1.cell? ⟨w.heap.size, 0, none⟩ = some (.int .i64 0) := by rw [cell_of h1]; rfl
  have z0 : w1.frozen? ⟨w.heap.size, 0, none⟩ = false := frozen_of h1 0
  clear h1
  go_wp2_with fail
  refine leaves_cons (f := 62) (args := #[.pointer (some ⟨w.heap.size, 0, none⟩)]) (by simp) (by simp [go_sem]) ?_
  refine (catch_idle ⟨w.heap.size, 0, none⟩ _).mono ?_
  rintro e u' w'' ⟨rfl, rfl, rfl⟩
  have e0 : (w1.setCell ⟨w.heap.size, 0, none⟩ (.int .i64 0)).cell? ⟨w.heap.size, 0, none⟩ = some (.int .i64 0) := World.cell?_setCell_same _ _ _ d0
  simp [Leaves, settle, results, Tryz.results35, go_sem, e0]
  exact ⟨w1, hq, rfl⟩

set_option maxRecDepth 100000 in
set_option maxHeartbeats 1000000 in
theorem done3_err (K : FuncId) (a0 a1 a2 : Value) (n : Int) (w : World) (Q : World → Prop) (hE : ∀ u, (callFunc K #[a0, a1, a2]).run Tryz.prog u = .ok (.enter K #[a0, a1, a2]) u) (h : Calls Tryz.prog K #[a0, a1, a2] (w.alloc (errO 0)) fun r w' => r = .panicked (mis n) ∧ Q w')
    (hQ : ∀ w', Q w' → w'.heap[w.heap.size]? = some (errO 0)) : Calls Tryz.prog 35 #[.func (.func K) #[] #[a0, a1, a2]] w fun r w' => r = .returned (.int .i64 n) ∧ ∃ w1, Q w1 ∧ w' = w1.setCell ⟨w.heap.size, 0, none⟩ (.int .i64 n) := by
  have hmf : ∀ (fn : Fn) (first cap : Array Value) (w : World), (Instr.makeFunc fn first cap).run Tryz.prog w = .ok (.func fn first cap) w := fun _ _ _ _ => rfl
  have HC : Hid (Calls Tryz.prog K #[a0, a1, a2] (w.alloc (errO 0)) fun r w' => r = .panicked (mis n) ∧ Q w') := h
  have HQ : Hid (∀ w', Q w' → w'.heap[w.heap.size]? = some (errO 0)) := hQ
  clear h hQ
  go_enter_defers Tryz.func35, Tryz.ntmps35
  go_wp2_with fail
  refine HC.out.mono ?_
  rintro r w1 ⟨rfl, hq⟩
  have h1 := HQ.out w1 hq
  have d0 : w1.cell? ⟨w.heap.size, 0, none⟩ = some (.int .i64 0) := by rw [cell_of h1]; rfl
  have z0 : w1.frozen? ⟨w.heap.size, 0, none⟩ = false := frozen_of h1 0
  clear h1
  refine leaves_cons (f := 62) (args := #[.pointer (some ⟨w.heap.size, 0, none⟩)]) (by simp) (by simp [go_sem]) ?_
  refine (catch_panic ⟨w.heap.size, 0, none⟩ 0 n [] _ d0 z0).mono ?_
  rintro e u' w'' ⟨rfl, rfl, rfl⟩
  have e0 : (w1.setCell ⟨w.heap.size, 0, none⟩ (.int .i64 n)).cell? ⟨w.heap.size, 0, none⟩ = some (.int .i64 n) := World.cell?_setCell_same _ _ _ d0
  simp [Leaves, settle, results, Tryz.results35, go_sem, e0]
  exact ⟨w1, hq, rfl⟩
end Go.Proofs.YtigegdelhpdlhaaGreatDoor

/- Layer 18's face: done, as what becomes of an object. -/
namespace Go.Proofs.YtigegdelhpdlhaaGreatDoor
open Go.RowKit

/-- what a call makes of an object, with a cell of a new block written behind it -/
theorem Goes.wrap {I' : World → (Nat → Prop) → Prop} (R : Res I') {w w1 : World} {F : Nat → Prop} (hF : ∀ i, F i → i < w.heap.size) (o : Obj) (h : Goes I' (w.alloc o) w1 F) (v : Value) : Goes I' w (w1.setCell ⟨w.heap.size, 0, none⟩ v) F := by
  obtain ⟨F', h1, h2, h3⟩ := h
  have hs : (w.alloc o).heap.size = w.heap.size + 1 := World.size_alloc w o
  have ht : Turn (fun i => i = w.heap.size) w1 (w1.setCell ⟨w.heap.size, 0, none⟩ v) := Turn.setCell w1 ⟨w.heap.size, 0, none⟩ v rfl
  have hn : ¬ F' w.heap.size := fun hf => by
    rcases h3 _ hf with h | h
    · exact Nat.lt_irrefl _ (hF _ h)
    · omega
  refine ⟨F', R.kept h1 ht (fun i hi e => hn (e ▸ hi)), ?_, fun i hi => ?_⟩
  · have ha : Turn F w (w.alloc o) := Turn.alloc w o
    exact (ha.trans h2).transNew ht (fun i e => Or.inr (Nat.le_of_eq e.symm))
  · rcases h3 i hi with h | h
    · exact Or.inl h
    · exact Or.inr (by omega)
theorem goes_keeps {I' : World → (Nat → Prop) → Prop} {w w1 : World} {F : Nat → Prop} (hF : ∀ i, F i → i < w.heap.size) (o : Obj) (h : Goes I' (w.alloc o) w1 F) : w1.heap[w.heap.size]? = some o := by
  obtain ⟨F', h1, h2, h3⟩ := h
  exact (h2.block w.heap.size (by simp) (fun hf => Nat.lt_irrefl _ (hF _ hf))).trans (heap_new w o)

theorem done2_goes_ok {I' : World → (Nat → Prop) → Prop} {F : Nat → Prop} (R : Res I') (K : FuncId) (a0 a1 : Value) (w : World) (hF : ∀ i, F i → i < w.heap.size) (hE : ∀ u, (callFunc K #[a0, a1]).run Tryz.prog u = .ok (.enter K #[a0, a1]) u)
    (h : ∀ u, Below w.heap.size w u → Calls Tryz.prog K #[a0, a1] u fun r w' => r = .returned (.tuple #[]) ∧ Goes I' u w' F) : Calls Tryz.prog 35 #[.func (.func K) #[] #[a0, a1]] w fun r w' => r = .returned (.int .i64 0) ∧ Goes I' w w' F :=
  (done2_ok K a0 a1 w (fun w' => Goes I' (w.alloc (errO 0)) w' F) hE (h _ ((Below.refl _ _).alloc (Nat.le_refl _) _)) (fun w' hg => goes_keeps hF _ hg)).mono fun r w' ⟨e1, w1, hg, e2⟩ => ⟨e1, by rw [e2]; exact hg.wrap R hF _ _⟩

theorem done2_goes_err {I' : World → (Nat → Prop) → Prop} {F : Nat → Prop} (R : Res I') (K : FuncId) (a0 a1 : Value) (n : Int) (w : World) (hF : ∀ i, F i → i < w.heap.size) (hE : ∀ u, (callFunc K #[a0, a1]).run Tryz.prog u = .ok (.enter K #[a0, a1]) u)
    (h : ∀ u, Below w.heap.size w u → Calls Tryz.prog K #[a0, a1] u fun r w' => r = .panicked (mis n) ∧ Goes I' u w' F) : Calls Tryz.prog 35 #[.func (.func K) #[] #[a0, a1]] w fun r w' => r = .returned (.int .i64 n) ∧ Goes I' w w' F :=
  (done2_err K a0 a1 n w (fun w' => Goes I' (w.alloc (errO 0)) w' F) hE (h _ ((Below.refl _ _).alloc (Nat.le_refl _) _)) (fun w' hg => goes_keeps hF _ hg)).mono fun r w' ⟨e1, w1, hg, e2⟩ => ⟨e1, by rw [e2]; exact hg.wrap R hF _ _⟩

theorem done3_goes_ok {I' : World → (Nat → Prop) → Prop} {F : Nat → Prop} (R : Res I') (K : FuncId) (a0 a1 a2 : Value) (w : World) (hF : ∀ i, F i → i < w.heap.size) (hE : ∀ u, (callFunc K #[a0, a1, a2]).run Tryz.prog u = .ok (.enter K #[a0, a1, a2]) u)
    (h : ∀ u, Below w.heap.size w u → Calls Tryz.prog K #[a0, a1, a2] u fun r w' => r = .returned (.tuple #[]) ∧ Goes I' u w' F) : Calls Tryz.prog 35 #[.func (.func K) #[] #[a0, a1, a2]] w fun r w' => r = .returned (.int .i64 0) ∧ Goes I' w w' F :=
  (done3_ok K a0 a1 a2 w (fun w' => Goes I' (w.alloc (errO 0)) w' F) hE (h _ ((Below.refl _ _).alloc (Nat.le_refl _) _)) (fun w' hg => goes_keeps hF _ hg)).mono fun r w' ⟨e1, w1, hg, e2⟩ => ⟨e1, by rw [e2]; exact hg.wrap R hF _ _⟩

theorem done3_goes_err {I' : World → (Nat → Prop) → Prop} {F : Nat → Prop} (R : Res I') (K : FuncId) (a0 a1 a2 : Value) (n : Int) (w : World) (hF : ∀ i, F i → i < w.heap.size) (hE : ∀ u, (callFunc K #[a0, a1, a2]).run Tryz.prog u = .ok (.enter K #[a0, a1, a2]) u)
    (h : ∀ u, Below w.heap.size w u → Calls Tryz.prog K #[a0, a1, a2] u fun r w' => r = .panicked (mis n) ∧ Goes I' u w' F) : Calls Tryz.prog 35 #[.func (.func K) #[] #[a0, a1, a2]] w fun r w' => r = .returned (.int .i64 n) ∧ Goes I' w w' F :=
  (done3_err K a0 a1 a2 n w (fun w' => Goes I' (w.alloc (errO 0)) w' F) hE (h _ ((Below.refl _ _).alloc (Nat.le_refl _) _)) (fun w' hg => goes_keeps hF _ hg)).mono fun r w' ⟨e1, w1, hg, e2⟩ => ⟨e1, by rw [e2]; exact hg.wrap R hF _ _⟩
end Go.Proofs.YtigegdelhpdlhaaGreatDoor
