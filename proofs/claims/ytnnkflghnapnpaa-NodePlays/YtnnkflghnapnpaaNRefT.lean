/- The document's node: Take, All, New. -/
import Derived.Test.YtnnkflghnapnpaaNRefM
import Derived.Test.YtnnkflghnapnpaaNTexts
namespace Go.Proofs.Ytnnkflghnapnpaa
open Go.RowKit

section
variable {w : World} {r : Nat} {n n' : Nd} {F : Nat → Prop} {k : ByteArray}

set_option maxRecDepth 100000 in
set_option maxHeartbeats 1000000 in
theorem otake_yes (h : RefI r n w F) {i : Nat} {v : Int} (hi : n.ks[i]? = some (k, v)) (hI : 0 ≤ n.ins ∧ n.ins < 1000000) : Calls Try.prog 26 #[.pointer (some ⟨r, 0, none⟩), .string k] w fun e w' => e = .returned (.tuple #[.int .i64 v, .int .i64 0]) ∧ Goes (RefI r (n.del i)) w w' F := by
  obtain ⟨kb, vb, KS, VS, hG, hF⟩ := h
  have ho := hG.ok
  have hil := (List.getElem?_eq_some_iff.1 hi).1
  have hf := ho.few
  obtain ⟨s, e1, e2, e3⟩ := slot_of ho (j := i) (by omega)
  have HPl : Hid (Calls Try.prog 42 #[.pointer (some ⟨r, 0, none⟩), .string k] w fun e w' => e = .returned (.tuple #[.int .i64 (i : Int), .int .i64 (s : Int), .bool true]) ∧ Below w.heap.size w w') := by
    have := place_any hG (ho.at hi)
    rw [isAt_yes hi, show slotOf n i = (s : Int) by unfold slotOf; rw [if_pos hil, e3]] at this
    exact this
  obtain ⟨I, hIe⟩ : ∃ I, n.ins = I := ⟨_, rfl⟩
  obtain ⟨V, hV⟩ : ∃ V, n.word = V := ⟨_, rfl⟩
  obtain ⟨V', hV'⟩ : ∃ V', V' = wdv (n.ks.length - 1) (remW n.l n.ks.length i) := ⟨_, rfl⟩
  have HR : Hid (∀ u : World, Calls Try.prog 12 #[.int .u64 V, .int .i64 (i : Int)] u fun e w' => e = .returned (.tuple #[.int .u64 V', .int .i64 (s : Int), .int .i64 0]) ∧ Below u.heap.size u w') := fun u => by
    have := oremove_ok ho.wd ho.may (rfl : (i : Int) = (i : Nat)) hil u
    rw [e3, hV, ← hV'] at this
    exact this
  have HC : Hid (∀ u : World, Below w.heap.size w u → u.cell? ⟨r, 0, none⟩ = some (.int .u64 V) ∧ u.cell? ⟨r, 2, none⟩ = some (.slice (some ⟨vb, 0, none⟩) 15 15) ∧ u.cell? ⟨r, 3, none⟩ = some (.int .i64 I) ∧ u.cell? ⟨vb, s, none⟩ = some (.int .i64 v) ∧ u.frozen? ⟨r, 0, none⟩ = false ∧ u.frozen? ⟨r, 3, none⟩ = false) := fun u hb => by
    have hc := (hG.below hb).cells
    have cv := hc.cv i _ hi
    rw [e3] at cv
    exact ⟨hV ▸ hc.c0, hc.c2, hIe ▸ hc.c3, cv, hc.fr 0, hc.fr 3⟩
  have HG : Hid (∀ u : World, Below w.heap.size w u → Goes (RefI r (n.del i)) w ((u.setCell ⟨r, 0, none⟩ (.int .u64 V')).setCell ⟨r, 3, none⟩ (.int .i64 (I + 1))) F) := fun u hb => by
    have hu := hG.below hb
    have t1 : Turn (fun j => j = r) u ((u.setCell ⟨r, 0, none⟩ (.int .u64 V')).setCell ⟨r, 3, none⟩ (.int .i64 (I + 1))) := (Turn.setCell (S := fun j => j = r) u ⟨r, 0, none⟩ _ rfl).trans (Turn.setCell _ ⟨r, 3, none⟩ _ rfl)
    have hlen : (n.ks.eraseIdx i).length = n.ks.length - 1 := List.length_eraseIdx_of_lt hil
    refine RefG.goesTo hF hb (t1.mono fun _ h => Or.inl h) (KS' := KS) (VS' := VS) ⟨?_, (t1.block kb (lt_of hu.ks) (Ne.symm hu.ne1)).trans hu.ks, (t1.block vb (lt_of hu.vs) (Ne.symm hu.ne2)).trans hu.vs, hu.kl, hu.vl, fun j p hp => ?_, ho.del hil⟩
    · rw [refO_set0 hu.st, hV', ← hIe]
      unfold refO
      have e1 : (n.del i).word = wdv (n.ks.length - 1) (remW n.l n.ks.length i) := by
        show wdv (n.ks.eraseIdx i).length (remW n.l n.ks.length i) = _
        rw [hlen]
      rw [e1]
      rfl
    · have hp' : (n.ks.eraseIdx i)[j]? = some p := hp
      have hjl := (List.getElem?_eq_some_iff.1 hp').1
      have hel : (n.l.eraseIdx i).length = 14 := by rw [List.length_eraseIdx_of_lt (by have := ho.len; omega)]; have := ho.len; omega
      show ∃ s', ((n.l.eraseIdx i).insertIdx (n.ks.length - 1) (n.l.getD i 0))[j]? = some s' ∧ _ ∧ _
      rw [List.getElem?_insertIdx, if_pos (by omega), List.getElem?_eraseIdx]
      rcases del_get hp' with ⟨h1, h2⟩ | ⟨h1, h2⟩
      · obtain ⟨t, x1, x2, x3⟩ := hu.hold j p h2
        exact ⟨t, by rw [if_pos h1]; exact x1, x2, x3⟩
      · obtain ⟨t, x1, x2, x3⟩ := hu.hold (j + 1) p h2
        exact ⟨t, by rw [if_neg (by omega)]; exact x1, x2, x3⟩
  have m2 := hG.ne2
  have m2' := Ne.symm m2
  rw [hIe] at hI
  obtain ⟨i0, i1⟩ := hI
  have hsI : (s : Int) < 15 := by omega
  clear hG hF hi hil hf e1 e3 hV hV' hIe ho
  go_enter Try.func26, Try.ntmps26
  go_wp2_with (first | (go_at_call 42; go_must (refine HPl.out.mono ?_; rintro e w1 ⟨rfl, hb1⟩; obtain ⟨q1, -⟩ := HC.out w1 hb1)) | (go_at_call 12; go_must (refine (HR.out _).mono ?_; rintro e w2 ⟨rfl, hb2⟩; have hb12 := hb1.trans (hb2.mono hb1.size); obtain ⟨p0, p2, p3, p4, p5, p6⟩ := HC.out w2 hb12)))
  go_ret2
  exact ⟨rfl, HG.out w2 hb12⟩
theorem otake_no (h : RefI r n w F) (hk : k ∉ n.keys) : Calls Try.prog 26 #[.pointer (some ⟨r, 0, none⟩), .string k] w fun e w' => e = .returned (.tuple #[.int .i64 0, .int .i64 5]) ∧ Below w.heap.size w w' := by
  obtain ⟨kb, vb, KS, VS, hG, hF⟩ := h
  obtain ⟨i, ha⟩ := at_ex k n.ks
  obtain ⟨S, hS⟩ : ∃ S, slotOf n i = S := ⟨_, rfl⟩
  have HPl : Hid (Calls Try.prog 42 #[.pointer (some ⟨r, 0, none⟩), .string k] w fun e w' => e = .returned (.tuple #[.int .i64 (i : Int), .int .i64 S, .bool false]) ∧ Below w.heap.size w w') := by
    have := place_any hG ha
    rw [isAt_no (fun v hv => hk (List.mem_map.2 ⟨_, List.mem_of_getElem? hv, rfl⟩)), hS] at this
    exact this
  clear hG hF ha hS
  go_enter Try.func26, Try.ntmps26
  go_wp2_with (go_at_call 42; go_must (refine HPl.out.mono ?_; rintro e w1 ⟨rfl, hb1⟩))
  go_ret2
  exact ⟨rfl, hb1⟩
theorem otake_to {was e : Int} (hp : TakesTo n k n' was e) (h : RefI r n w F) (hI : 0 ≤ n.ins ∧ n.ins < 900000) :
    Calls Try.prog 26 #[.pointer (some ⟨r, 0, none⟩), .string k] w fun x w' => x = .returned (.tuple #[.int .i64 was, .int .i64 e]) ∧ Goes (RefI r n') w w' F := by
  rcases hp with ⟨hk, rfl, rfl, rfl⟩ | ⟨i, hi, rfl, rfl⟩
  · exact (otake_no h hk).mono fun x w' ⟨h1, h2⟩ => ⟨h1, Goes.thenStay (refI_res r _) (Goes.stay h) h2⟩
  · exact otake_yes h hi (by omega)

/-! ### New -/
theorem make_numsN (w : World) (n : Nat) (hn : n ≤ 100000) :
    (Instr.makeSlice 62 (.int .i64 (n : Int)) (.int .i64 (n : Int))).run Try.prog w = .ok (.slice (some ⟨w.heap.size, 0, none⟩) n n) (w.alloc (.cells (icells (List.replicate n 0)).toArray 3)) := by
  obtain ⟨i, hi, h1, h2, h3⟩ := info_parts infoN
  have h4 : ((8 * n : Nat) : Int) ≤ 281474976710656 := by omega
  rw [Int.natCast_mul] at h4
  have := run_make (P := Try.prog) w 62 3 i (.int .i64 0) Try.underlying62 hi h1 .i64 .i64 (n : Int) (n : Int) (by omega) (Int.le_refl _) (by rw [h3]; exact h4) (by omega)
  rw [h2] at this
  rw [Nat.mul_one] at this
  have e : madeCells (Value.int .i64 0).cells n = (icells (List.replicate n 0)).toArray := by
    apply Array.ext'
    apply List.ext_getElem?
    intro i
    by_cases hi : i < n
    · simp [madeCells, icells, Value.cells, hi, Nat.mod_one]
    · simp [madeCells, icells, Value.cells, hi]
  rw [Int.toNat_natCast, e] at this
  exact this
theorem make_nums15 (w : World) :
    (Instr.makeSlice 62 (.int .i64 15) (.int .i64 15)).run Try.prog w = .ok (.slice (some ⟨w.heap.size, 0, none⟩) 15 15) (w.alloc (.cells (icells (List.replicate 15 0)).toArray 3)) := make_numsN w 15 (by omega)
theorem make_strs15 (w : World) :
    (Instr.makeSlice 51 (.int .i64 15) (.int .i64 15)).run Try.prog w = .ok (.slice (some ⟨w.heap.size, 0, none⟩) 15 15) (w.alloc (.cells (scells (List.replicate 15 ⟨#[]⟩)).toArray 9)) := make_strs w 15 (by omega)

/-- a node of the document is made -/
def NewR (w : World) (e : Ending) (w' : World) : Prop := ∃ q F, e = .returned (.pointer (some ⟨q, 0, none⟩)) ∧ RefI q Nd.new w' F ∧ (∀ i, F i → w.heap.size ≤ i) ∧ Below w.heap.size w w'

theorem new_ref {w u : World} {kb vb : Nat} (hb : Below w.heap.size w u) (h1 : u.heap[kb]? = some (.cells (scells (List.replicate 15 ⟨#[]⟩)).toArray 9 (0, 0))) (h2 : u.heap[vb]? = some (.cells (icells (List.replicate 15 0)).toArray 3 (0, 0))) (hk : w.heap.size ≤ kb) (hv : w.heap.size ≤ vb) :
    RefI u.heap.size Nd.new (u.alloc (refO Nd.new kb vb)) (fun i => i = u.heap.size ∨ i = kb ∨ i = vb) ∧ (∀ i, (i = u.heap.size ∨ i = kb ∨ i = vb) → w.heap.size ≤ i) ∧ Below w.heap.size w (u.alloc (refO Nd.new kb vb)) := by
  refine ⟨⟨kb, vb, List.replicate 15 ⟨#[]⟩, List.replicate 15 0, ⟨heap_new u _, (Below.heap_alloc u _ _ (lt_of h1)).trans h1, (Below.heap_alloc u _ _ (lt_of h2)).trans h2, by simp, by simp, fun j p hp => by simp [Nd.new] at hp, Nd.new_ok⟩, fun i => Iff.rfl⟩, fun i hi => ?_, hb.trans ((below_alloc u _).mono hb.size)⟩
  rcases hi with rfl | rfl | rfl
  · exact hb.size
  · exact hk
  · exact hv

abbrev kO : Obj := .cells (scells (List.replicate 15 ⟨#[]⟩)).toArray 9 (0, 0)
abbrev vO : Obj := .cells (icells (List.replicate 15 0)).toArray 3 (0, 0)
abbrev rO (V : Int) (kb vb : Nat) : Obj := .cells #[.int .u64 V, .slice (some ⟨kb, 0, none⟩) 15 15, .slice (some ⟨vb, 0, none⟩) 15 15, .int .i64 0, .int .i64 0] 72 (0, 0)
theorem new_done {w u : World} {kb vb q : Nat} {V : Int} (hV : emptyW = V) (hq : q = u.heap.size) (hb : Below w.heap.size w u) (h1 : u.heap[kb]? = some kO) (h2 : u.heap[vb]? = some vO) (hk : w.heap.size ≤ kb) (hv : w.heap.size ≤ vb) : NewR w (.returned (.pointer (some ⟨q, 0, none⟩))) (u.alloc (rO V kb vb)) := by
  subst hV hq
  obtain ⟨a, b, c⟩ := new_ref hb h1 h2 hk hv
  exact ⟨_, _, rfl, a, b, c⟩
theorem alloc_two (u : World) (a b : Obj) : ((u.alloc a).alloc b).heap[u.heap.size]? = some a ∧ ((u.alloc a).alloc b).heap[u.heap.size + 1]? = some b := by
  refine ⟨(Below.heap_alloc _ _ _ (by simp)).trans (heap_new u a), ?_⟩
  have := heap_new (u.alloc a) b
  rw [World.size_alloc] at this
  exact this
theorem below_two {w u : World} (hb : Below w.heap.size w u) (a b : Obj) : Below w.heap.size w ((u.alloc a).alloc b) := (hb.trans ((below_alloc u a).mono hb.size)).trans ((below_alloc (u.alloc a) b).mono (by have := hb.size; simp; omega))
section
variable {w w0 w1 : World} {V : Int}
theorem newA1 (hV : emptyW = V) (hb : Below w.heap.size w w1) : NewR w (.returned (.pointer (some ⟨w1.heap.size + 1 + 1, 0, none⟩))) (((w1.alloc kO).alloc vO).alloc (rO V w1.heap.size (w1.heap.size + 1))) :=
  new_done hV (by simp) (below_two hb _ _) (alloc_two w1 kO vO).1 (alloc_two w1 kO vO).2 hb.size (by have := hb.size; omega)
theorem newA2 (hV : emptyW = V) (hb : Below w.heap.size w w1) : NewR w (.returned (.pointer (some ⟨w1.heap.size + 1 + 1, 0, none⟩))) (((w1.alloc vO).alloc kO).alloc (rO V (w1.heap.size + 1) w1.heap.size)) :=
  new_done hV (by simp) (below_two hb _ _) (alloc_two w1 vO kO).2 (alloc_two w1 vO kO).1 (by have := hb.size; omega) hb.size
theorem newB1 (hV : emptyW = V) (h0 : Below w.heap.size w w0) (hb : Below (w0.alloc kO).heap.size (w0.alloc kO) w1) : NewR w (.returned (.pointer (some ⟨w1.heap.size + 1, 0, none⟩))) ((w1.alloc vO).alloc (rO V w0.heap.size w1.heap.size)) := by
  have s1 := hb.size
  have s0 := h0.size
  simp at s1
  have h2 : Below w.heap.size w w1 := (h0.trans ((below_alloc w0 kO).mono s0)).trans (hb.mono (by simp; omega))
  exact new_done hV (by simp) (h2.trans ((below_alloc w1 vO).mono h2.size)) ((Below.heap_alloc w1 vO _ (by omega)).trans ((hb.block _ (by simp)).trans (heap_new w0 kO))) (heap_new w1 vO) s0 h2.size
theorem newB2 (hV : emptyW = V) (h0 : Below w.heap.size w w0) (hb : Below (w0.alloc vO).heap.size (w0.alloc vO) w1) : NewR w (.returned (.pointer (some ⟨w1.heap.size + 1, 0, none⟩))) ((w1.alloc kO).alloc (rO V w1.heap.size w0.heap.size)) := by
  have s1 := hb.size
  have s0 := h0.size
  simp at s1
  have h2 : Below w.heap.size w w1 := (h0.trans ((below_alloc w0 vO).mono s0)).trans (hb.mono (by simp; omega))
  exact new_done hV (by simp) (h2.trans ((below_alloc w1 kO).mono h2.size)) (heap_new w1 kO) ((Below.heap_alloc w1 kO _ (by omega)).trans ((hb.block _ (by simp)).trans (heap_new w0 vO))) h2.size s0
theorem newC1 (hV : emptyW = V) (h0 : Below w.heap.size w w0) (hb : Below ((w0.alloc kO).alloc vO).heap.size ((w0.alloc kO).alloc vO) w1) : NewR w (.returned (.pointer (some ⟨w1.heap.size, 0, none⟩))) (w1.alloc (rO V w0.heap.size (w0.heap.size + 1))) := by
  have s0 := h0.size
  exact new_done hV rfl ((below_two h0 _ _).trans (hb.mono (by simp; omega))) ((hb.block _ (by simp; omega)).trans (alloc_two w0 kO vO).1) ((hb.block _ (by simp)).trans (alloc_two w0 kO vO).2) s0 (by omega)
theorem newC2 (hV : emptyW = V) (h0 : Below w.heap.size w w0) (hb : Below ((w0.alloc vO).alloc kO).heap.size ((w0.alloc vO).alloc kO) w1) : NewR w (.returned (.pointer (some ⟨w1.heap.size, 0, none⟩))) (w1.alloc (rO V (w0.heap.size + 1) w0.heap.size)) := by
  have s0 := h0.size
  exact new_done hV rfl ((below_two h0 _ _).trans (hb.mono (by simp; omega))) ((hb.block _ (by simp)).trans (alloc_two w0 vO kO).2) ((hb.block _ (by simp; omega)).trans (alloc_two w0 vO kO).1) (by omega) s0
end

set_option maxRecDepth 100000 in
set_option maxHeartbeats 1000000 in
theorem onew_any (w : World) : Calls Try.prog 19 #[] w (NewR w) := by
  have HE : Hid (∀ v : World, Calls Try.prog 14 #[] v fun e w' => e = .returned (.int .u64 emptyW) ∧ Below v.heap.size v w') := fun v => oempty_any v
  obtain ⟨V, hV⟩ : ∃ V, emptyW = V := ⟨_, rfl⟩
  rw [hV] at HE
  have HV : Hid (emptyW = V) := hV
  have hk1 := make_strs15
  have hk2 := make_nums15
  clear hV
  go_enter Try.func19, Try.ntmps19
  go_wp2_with fail
  go_region_with (go_at_call 14; go_must (refine (HE.out _).mono ?_; rintro e w1 ⟨rfl, hb1⟩))
  all_goals go_wp2_with fail
  all_goals go_ret
  all_goals first | exact newA1 HV.out ((below_drewN w 1).trans hb1) | exact newA2 HV.out ((below_drewN w 1).trans hb1) | exact newB1 HV.out (Below.refl _ w) ((below_drewN (w.alloc kO) 1).trans hb1) | exact newB2 HV.out (Below.refl _ w) ((below_drewN (w.alloc vO) 1).trans hb1) | exact newC1 HV.out (Below.refl _ w) ((below_drewN ((w.alloc kO).alloc vO) 1).trans hb1) | exact newC2 HV.out (Below.refl _ w) ((below_drewN ((w.alloc vO).alloc kO) 1).trans hb1)
end

end Go.Proofs.Ytnnkflghnapnpaa
