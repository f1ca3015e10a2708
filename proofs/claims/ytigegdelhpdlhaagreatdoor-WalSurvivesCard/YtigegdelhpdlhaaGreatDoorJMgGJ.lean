import Derived.Test.YtigegdelhpdlhaaGreatDoorJMgDJ
import Derived.Test.YtigegdelhpdlhaaGreatDoorJSurPJ
/- Layer 18: entries sorted by their words, at most forty of them, no two of one word. -/
namespace Go.Proofs.YtigegdelhpdlhaaGreatDoor
open Go.RowKit QP Go.Sort Go.Shelf Go.Lib

/-- no two of one word -/
def OneT (L : List Er) : Prop := (L.map Er.T).Nodup
theorem OneT.perm {L L' : List Er} (h : OneT L) (hp : L'.Perm L) : OneT L' := (hp.map Er.T).nodup_iff.2 h
theorem OneT.inj {L : List Er} (h : OneT L) : ∀ a ∈ L, ∀ b ∈ L, a.T = b.T → a = b := fun a ha b hb e => by
  obtain ⟨i, hi, rfl⟩ := List.getElem_of_mem ha
  obtain ⟨j, hj, rfl⟩ := List.getElem_of_mem hb
  have h2 := (List.getElem_inj (h₀ := by rw [List.length_map]; exact hi) (h₁ := by rw [List.length_map]; exact hj) h).1 (by rw [List.getElem_map, List.getElem_map]; exact e)
  subst h2
  rfl
theorem sorted_er {l1 l2 : List Er} (hp : l1.Perm l2) (h1 : l1.Pairwise (fun a b => a.T ≤ b.T)) (h2 : l2.Pairwise (fun a b => a.T ≤ b.T)) (hi : ∀ a ∈ l1, ∀ b ∈ l1, a.T = b.T → a = b) : l1 = l2 := by
  induction l1 generalizing l2 with
  | nil => exact (List.nil_perm.1 hp).symm
  | cons a r ih =>
    cases l2 with
    | nil => exact absurd (List.perm_nil.1 hp) (by simp)
    | cons b q =>
      obtain ⟨a1, a2⟩ := List.pairwise_cons.1 h1
      obtain ⟨b1, b2⟩ := List.pairwise_cons.1 h2
      have hab : a = b := by
        have ha : a ∈ b :: q := hp.mem_iff.1 (List.mem_cons_self ..)
        have hb : b ∈ a :: r := hp.mem_iff.2 (List.mem_cons_self ..)
        rcases List.mem_cons.1 ha with h | h
        · exact h
        · rcases List.mem_cons.1 hb with h' | h'
          · exact h'.symm
          · have e1 := a1 b h'
            have e2 := b1 a h
            exact hi a (List.mem_cons_self ..) b hb (by omega)
      subst hab
      rw [ih ((List.perm_cons a).1 hp) a2 b2 fun x hx y hy => hi x (List.mem_cons_of_mem _ hx) y (List.mem_cons_of_mem _ hy)]
theorem sortR_pairwise {L : List Er} (h : SortR L 0 L.length) : L.Pairwise (fun a b => a.T ≤ b.T) := by
  rw [List.pairwise_iff_getElem]
  intro i j hi hj hij
  have := h i j (Nat.zero_le _) (by omega) hj
  rw [gE_eq hi, gE_eq hj] at this
  exact this
theorem sortR_is {L L' : List Er} (ha : OneT L) (hp : L'.Perm L) (h : SortR L' 0 L'.length) : L' = sortE L := by
  obtain ⟨_, p2, q2⟩ := sortE_facts L
  exact sorted_er (hp.trans p2.symm) (sortR_pairwise h) q2 (ha.perm hp).inj

/-- the row of a slice, read off a world of a sort -/
theorem SWK.rowE {w0 w' : World} {blk cap : Nat} {L0 L : List Er} (h : SWJ w0 blk L w') (h0 : RowE w0 blk cap L0) (hs : L.length = L0.length) : RowE w' blk cap L ∧ Turn (fun i => i = blk) w0 w' := by
  obtain ⟨n, os, rfl⟩ := h
  exact ⟨h0.sort hs, turn_sortK _⟩
/-- an insertion sort of a stretch -/
theorem ins_stretch {L : List Er} {a b : Nat} (hab : a ≤ b) (hb : b ≤ L.length) : ∃ M : List Er, M.toArray = Sort.insertionSort (ltOf cfE) L.toArray a b ∧ Mv a b L M ∧ SortR M a b := by
  have h := insertionSort_holds (lt := ltOf cfE) cfE_swo L.toArray a b hab (by simpa using hb)
  obtain ⟨⟨h1, h2, h3⟩, h4⟩ := h
  obtain ⟨M, hM⟩ : ∃ M : List Er, M.toArray = Sort.insertionSort (ltOf cfE) L.toArray a b := ⟨(Sort.insertionSort (ltOf cfE) L.toArray a b).toList, by simp⟩
  rw [← hM] at h1 h2 h3 h4
  have hl : M.length = L.length := by simpa using h1
  have hP : PermIn a b L.toArray M.toArray := ⟨h1, h2, h3⟩
  refine ⟨M, hM, ⟨hl, ?_, fun i hi => ?_, fun i q1 q2 => ?_⟩, fun i j q1 q2 q3 => ?_⟩
  · have h5 := (permIn_mono L.toArray M.toArray a b 0 L.length (Nat.zero_le _) hb (by simp) hP).2.2
    have e1 : (L.toArray.extract 0 L.length).toList = L := by simp
    have e2 : (M.toArray.extract 0 L.length).toList = M := by rw [← hl]; simp
    rw [e1, e2] at h5
    exact h5
  · have := h2 i hi
    rw [getJ, getJ] at this
    exact this
  · have := permIn_all L.toArray M.toArray a b (fun y => ∃ j, a ≤ j ∧ j < b ∧ y = gE L j) (by simpa using hb) hP (fun i r1 r2 => ⟨i, r1, r2, getJ L i⟩) i q1 q2
    rw [getJ] at this
    exact this
  · rcases Nat.lt_or_ge i j with hij | hij
    · have h5 := h4 i j q1 hij q3
      rw [ltE, getJ, getJ] at h5
      have := of_decide_eq_false h5
      omega
    · obtain rfl : i = j := by omega
      exact Nat.le_refl _
end Go.Proofs.YtigegdelhpdlhaaGreatDoor

/- Layer 18: the library's stable sort of twenty-one to forty entries, no two of one word. -/
namespace Go.Proofs.YtigegdelhpdlhaaGreatDoor
open Go.RowKit QP Go.Sort Go.Shelf Go.Lib

theorem cmp_lays (w : World) (blk n : Nat) : CmpLays Tryz.prog 77 #[] enE 2 cfE blk 0 n w := fun _ _ _ _ x y => jload1_any x y _
theorem jins_row (blk cap a b : Nat) (M : List Er) (u : World) (h : RowE u blk cap M) (hab : a ≤ b) (hb : b ≤ M.length) (hL : M.length ≤ 1000) :
    Calls Tryz.prog 125 #[.slice (some ⟨blk, 0, none⟩) M.length cap, .int .i64 (a : Int), .int .i64 (b : Int), .func (.func 77) #[] #[]] u fun e w' => e = .returned (.tuple #[]) ∧ ∃ M' : List Er, Hid (Mv a b M M' ∧ SortR M' a b) ∧ Hid (RowE w' blk cap M') ∧ Hid (Turn (fun i => i = blk) u w') := by
  obtain ⟨M', e1, m1, s1⟩ := ins_stretch (L := M) hab hb
  refine (jins_any blk cap a b M u h hab hb hL).mono ?_
  rintro e w' ⟨rfl, n, os, rfl⟩
  rw [← e1]
  exact ⟨rfl, M', ⟨m1, s1⟩, h.sort m1.len, turn_sortK _⟩
theorem jsym_row (blk cap a m b : Nat) (M : List Er) (u : World) (h : RowE u blk cap M) (hab : a < m ∧ m < b) (hb : b ≤ M.length) (hL : M.length ≤ 1000) (s1 : SortR M a m) (s2 : SortR M m b) :
    Calls Tryz.prog 126 #[.slice (some ⟨blk, 0, none⟩) M.length cap, .int .i64 (a : Int), .int .i64 (m : Int), .int .i64 (b : Int), .func (.func 77) #[] #[]] u fun e w' => e = .returned (.tuple #[]) ∧ ∃ M' : List Er, Hid (Mv a b M M' ∧ SortR M' a b) ∧ Hid (RowE w' blk cap M') ∧ Hid (Turn (fun i => i = blk) u w') := by
  refine (jsym_gen pj pu Tryz.func126 enE 77 (enters_of Tryz.func77 (by kernel_rfl) rfl) u blk cap M h.row (cmp_lays u blk M.length) Tryz.func150 Tryz.func176 hL (b - a) a m b M u (Nat.le_refl _) rfl hab hb s1 s2 (SWK.start h.holds)).mono ?_
  rintro e w' ⟨rfl, M', m1, o1, k1⟩
  obtain ⟨r1, r2⟩ := SWK.rowE k1 h m1.len
  exact ⟨rfl, M', ⟨m1, o1⟩, r1, r2⟩
theorem sortR_mv {a b x y : Nat} {L L' : List Er} (m : Mv a b L L') (h : SortR L x y) (hd : y ≤ a ∨ b ≤ x) : SortR L' x y := fun i j q1 q2 q3 => by
  rw [m.out i (by omega), m.out j (by omega)]
  exact h i j q1 q2 q3

set_option maxRecDepth 100000 in
set_option maxHeartbeats 2000000 in
theorem jstable40_any (blk cap : Nat) (L : List Er) (w : World) (h : RowE w blk cap L) (hL : 20 < L.length ∧ L.length ≤ 40) (ha : OneT L) :
    Calls Tryz.prog 76 #[.slice (some ⟨blk, 0, none⟩) L.length cap, .func (.func 77) #[] #[]] w fun e w' => e = .returned (.tuple #[]) ∧ Hid (RowE w' blk cap (sortE L)) ∧ Hid (Turn (fun i => i = blk) w w') := by
  obtain ⟨n, hn⟩ : ∃ n, L.length = n := ⟨_, rfl⟩
  have HEnd : Hid (∀ M : List Er, M.Perm L → SortR M 0 n → M = sortE L) := fun M hp hs => sortR_is ha hp (by rw [hp.length_eq, hn]; exact hs)
  have HIns : Hid (∀ (a b : Nat) (M : List Er) u, M.length = n → RowE u blk cap M → a ≤ b → b ≤ n → Calls Tryz.prog 125 #[.slice (some ⟨blk, 0, none⟩) n cap, .int .i64 (a : Int), .int .i64 (b : Int), .func (.func 77) #[] #[]] u fun e w' => e = .returned (.tuple #[]) ∧ ∃ M' : List Er, Hid (Mv a b M M' ∧ SortR M' a b) ∧ Hid (RowE w' blk cap M') ∧ Hid (Turn (fun i => i = blk) u w')) := fun a b M u q1 q2 q3 q4 => by
    have := jins_row blk cap a b M u q2 q3 (by omega) (by omega)
    rw [q1] at this
    exact this
  have HSym : Hid (∀ (a m b : Nat) (M : List Er) u, M.length = n → RowE u blk cap M → (a < m ∧ m < b) → b ≤ n → SortR M a m → SortR M m b → Calls Tryz.prog 126 #[.slice (some ⟨blk, 0, none⟩) n cap, .int .i64 (a : Int), .int .i64 (m : Int), .int .i64 (b : Int), .func (.func 77) #[] #[]] u fun e w' => e = .returned (.tuple #[]) ∧ ∃ M' : List Er, Hid (Mv a b M M' ∧ SortR M' a b) ∧ Hid (RowE w' blk cap M') ∧ Hid (Turn (fun i => i = blk) u w')) := fun a m b M u q1 q2 q3 q4 q5 q6 => by
    have := jsym_row blk cap a m b M u q2 q3 (by omega) (by omega) q5 q6
    rw [q1] at this
    exact this
  have HRow : Hid (RowE w blk cap L) := h
  have HLn : Hid (L.length = n) := hn
  rw [hn] at hL ⊢
  clear h hn ha
  have HS : Hid (Calls Tryz.prog 102 #[.slice (some ⟨blk, 0, none⟩) n cap, .int .i64 (n : Int), .func (.func 77) #[] #[]] w fun e w' => e = .returned (.tuple #[]) ∧ Hid (RowE w' blk cap (sortE L)) ∧ Hid (Turn (fun i => i = blk) w w')) := by
    have H1 := HIns.out 0 20 L w HLn.out HRow.out (by decide) (by omega)
    rw [show ((0 : Nat) : Int) = 0 from rfl, show ((20 : Nat) : Int) = 20 from rfl] at H1
    have H2 : Hid (∀ (M : List Er) u, Mv 0 20 L M ∧ SortR M 0 20 → RowE u blk cap M → Calls Tryz.prog 125 #[.slice (some ⟨blk, 0, none⟩) n cap, .int .i64 20, .int .i64 (n : Int), .func (.func 77) #[] #[]] u fun e w' => e = .returned (.tuple #[]) ∧ ∃ M' : List Er, Hid (M'.Perm L ∧ SortR M' 0 20 ∧ SortR M' 20 n) ∧ Hid (RowE w' blk cap M') ∧ Hid (Turn (fun i => i = blk) u w')) := fun M u hM hu => by
      refine (HIns.out 20 n M u (hM.1.len.trans HLn.out) hu (by omega) (Nat.le_refl _)).mono ?_
      rintro e w' ⟨rfl, M', m1, r1, t1⟩
      exact ⟨rfl, M', ⟨m1.out.1.perm.trans hM.1.perm, sortR_mv m1.out.1 hM.2 (Or.inl (Nat.le_refl _)), m1.out.2⟩, r1, t1⟩
    have H3 : Hid (∀ (M : List Er) u, M.Perm L ∧ SortR M 0 20 ∧ SortR M 20 n → RowE u blk cap M → Calls Tryz.prog 126 #[.slice (some ⟨blk, 0, none⟩) n cap, .int .i64 0, .int .i64 20, .int .i64 (n : Int), .func (.func 77) #[] #[]] u fun e w' => e = .returned (.tuple #[]) ∧ Hid (RowE w' blk cap (sortE L)) ∧ Hid (Turn (fun i => i = blk) u w')) := fun M u hM hu => by
      refine (HSym.out 0 20 n M u (hM.1.length_eq.trans HLn.out) hu ⟨by decide, by omega⟩ (Nat.le_refl _) hM.2.1 hM.2.2).mono ?_
      rintro e w' ⟨rfl, M', m1, r1, t1⟩
      rw [← HEnd.out M' (m1.out.1.perm.trans hM.1) m1.out.2]
      exact ⟨rfl, r1, t1⟩
    by_cases h40 : n = 40
    · subst h40
      have H4 : Hid (∀ (M : List Er) u, M.Perm L ∧ SortR M 0 20 ∧ SortR M 20 40 → RowE u blk cap M → Calls Tryz.prog 125 #[.slice (some ⟨blk, 0, none⟩) 40 cap, .int .i64 40, .int .i64 40, .func (.func 77) #[] #[]] u fun e w' => e = .returned (.tuple #[]) ∧ ∃ M' : List Er, Hid (M'.Perm L ∧ SortR M' 0 20 ∧ SortR M' 20 40) ∧ Hid (RowE w' blk cap M') ∧ Hid (Turn (fun i => i = blk) u w')) := fun M u hM hu => by
        refine (HIns.out 40 40 M u (hM.1.length_eq.trans HLn.out) hu (by decide) (by decide)).mono ?_
        rintro e w' ⟨rfl, M', m1, r1, t1⟩
        exact ⟨rfl, M', ⟨m1.out.1.perm.trans hM.1, sortR_mv m1.out.1 hM.2.1 (Or.inl (by decide)), sortR_mv m1.out.1 hM.2.2 (Or.inl (by decide))⟩, r1, t1⟩
      rw [show ((40 : Nat) : Int) = 40 from rfl] at H2 H3 ⊢
      clear HIns HSym HEnd HRow
      go_enter Tryz.func102, Tryz.ntmps102
      go_wp2_with fail
      refine wp_loop_rounds 3 ?_
      rw [rounds_succ]
      go_wp2_with (go_at_call 125; (with_reducible refine H1.mono ?_); rintro e w1 ⟨rfl, M1, K1, K2, K3⟩; have G2 := H2.out M1 w1 K1.out K2.out; clear H1)
      rw [rounds_succ]
      go_wp2_with (go_at_call 125; (with_reducible refine G2.mono ?_); rintro e w2 ⟨rfl, M2, K4, K5, K6⟩; have G4 := H4.out M2 w2 K4.out K5.out; clear G2)
      rw [rounds_succ]
      go_wp2_with (go_at_call 125; (with_reducible refine G4.mono ?_); rintro e w3 ⟨rfl, M3, K7, K8, K9⟩; have G3 := H3.out M3 w3 K7.out K8.out; clear G4)
      refine wp_loop_rounds 2 ?_
      rw [rounds_succ]
      go_wp2_with fail
      refine wp_loop_rounds 2 ?_
      rw [rounds_succ]
      go_wp2_with (go_at_call 126; (with_reducible refine G3.mono ?_); rintro e w4 ⟨rfl, K10, K11⟩; clear G3)
      rw [rounds_succ]
      go_wp2_with fail
      rw [rounds_succ]
      go_wp2_with fail
      go_end0
      exact ⟨rfl, K10, ((K3.out.trans K6.out).trans K9.out).trans K11.out⟩
    · have i1 : (20 : Int) ≤ (n : Int) := by omega
      have i2 : ¬ (40 : Int) ≤ (n : Int) := by omega
      have i3 : (20 : Int) < (n : Int) := by omega
      have i4 : ¬ (40 : Int) < (n : Int) := by omega
      clear HIns HSym HEnd HRow
      go_enter Tryz.func102, Tryz.ntmps102
      go_wp2_with fail
      refine wp_loop_rounds 2 ?_
      rw [rounds_succ]
      go_wp2_with (go_at_call 125; (with_reducible refine H1.mono ?_); rintro e w1 ⟨rfl, M1, K1, K2, K3⟩; have G2 := H2.out M1 w1 K1.out K2.out; clear H1)
      rw [rounds_succ]
      go_wp2_with (go_at_call 125; (with_reducible refine G2.mono ?_); rintro e w2 ⟨rfl, M2, K4, K5, K6⟩; have G3 := H3.out M2 w2 K4.out K5.out; clear G2)
      refine wp_loop_rounds 2 ?_
      rw [rounds_succ]
      go_wp2_with fail
      refine wp_loop_rounds 1 ?_
      rw [rounds_succ]
      go_wp2_with (go_at_call 126; (with_reducible refine G3.mono ?_); rintro e w4 ⟨rfl, K10, K11⟩; clear G3)
      rw [rounds_succ]
      go_wp2_with fail
      go_end0
      exact ⟨rfl, K10, (K3.out.trans K6.out).trans K11.out⟩
  clear HIns HSym HEnd HRow
  go_enter Tryz.func76, Tryz.ntmps76
  go_wp2_with (go_at_call 102; (with_reducible refine HS.out.mono ?_); rintro e w1 ⟨rfl, K1, K2⟩)
  go_end0
  exact ⟨rfl, K1, K2⟩
end Go.Proofs.YtigegdelhpdlhaaGreatDoor

/- Layer 18: wal.load of a disk of logs, at most forty entries. (By jload40.py.) -/
namespace Go.Proofs.YtigegdelhpdlhaaGreatDoor
open Go.RowKit QP

/-- at most twenty, or at most forty, no two of one word -/
def ManyOk (P : List (Nat × Nat)) : Prop := P.length ≤ 20 ∨ (P.length ≤ 40 ∧ (P.map (·.1)).Nodup)
theorem ManyOk.le {P : List (Nat × Nat)} (h : ManyOk P) : P.length ≤ 40 := by
  rcases h with h | h
  · omega
  · exact h.1
/-- sorted: a slice of entries of its own -/
theorem jsort40_any (base : Nat) (t k : ByteArray) (v : Value) (R : List Er) (w : World) (h : EntsO w base t k v R) (hR : ManyOk (R.map Er.tn)) :
    Calls Tryz.prog 76 #[v, .func (.func 77) #[] #[]] w fun e w' => e = .returned (.tuple #[]) ∧ Hid (EntsO w' base t k v (sortE R)) ∧ Hid (Turn (fun i => base ≤ i) w w') := by
  by_cases h20 : R.length ≤ 20
  · exact jsort_any base t k v R w h h20
  · have hR2 : R.length ≤ 40 ∧ OneT R := by
      rcases hR with hR | hR
      · rw [List.length_map] at hR; omega
      · rw [List.length_map, List.map_map] at hR
        exact ⟨hR.1, hR.2⟩
    have hl := (sortE_facts R).1
    have hp := (sortE_facts R).2.1
    rcases h.row.2 with ⟨e2, hl0⟩ | ⟨g, cap, cur, e2, hg, hh, r1, r2, r3, r4⟩
    · omega
    · subst e2
      refine (jstable40_any g cap R w ⟨cur, hh, r3, r1, r4⟩ ⟨by omega, hR2.1⟩ hR2.2).mono fun e w' ⟨e1, e3, e4⟩ => ⟨e1, ⟨⟨?_, Or.inr ?_⟩, fun f hf => ?_⟩, e4.out.mono fun i hi => by omega⟩
      · rw [flat_length enE_len, Nat.mul_comm]
      · obtain ⟨cur', q1, q2, q3, q4⟩ := e3.out
        exact ⟨g, cap, cur', by rw [hl], hg, q1, by omega, r2, q2, q4⟩
      · obtain ⟨q1, q2, q3, q4, q5, q6⟩ := h.ent f (hp.mem_iff.1 hf)
        have n1 : f.g ≠ g := fun e => q5 (by rw [e]; rfl)
        have n2 : f.x ≠ g := fun e => q6 (by rw [e]; rfl)
        exact ⟨(e4.out.block _ (lt_of q1) n1).trans q1, oneAt_turn q2 e4.out n2, q3, q4, q5, q6⟩

set_option maxRecDepth 100000 in
set_option maxHeartbeats 2000000 in
theorem jload40_any (d : Nat) (s : Dk.Dsk) (t k : ByteArray) (LF : List UInt8 → List (Nat × Nat)) (Es : List Nat) (w : World) (F : Nat → Prop) (h : DiskI d s w F) (hw : WalD s t k LF Es) (ht : t.size ≤ 100) (hk : k.size ≤ 100) (h20 : ManyOk (allE (lastE Es) LF (Dk.keysL s.fs))) :
    Calls Tryz.prog 46 #[.pointer (some ⟨d, 0, none⟩)] w fun e w' => ∃ v, e = .returned (.tuple #[v, .int .i64 ((lastE Es : Nat) : Int)]) ∧ ∃ R, Hid (EntsO w' w.heap.size t k v (sortE R)) ∧ Hid (R.map Er.tn = allE (lastE Es) LF (Dk.keysL s.fs)) ∧ Hid (Below w.heap.size w w') := by
  obtain ⟨T, m1, m2, m3, m4, m5⟩ := hw.marks
  have HDu : Hid (∀ u, Below w.heap.size w u → Calls Tryz.prog 74 #[.pointer (some ⟨d, 0, none⟩)] u fun e w' => e = .returned (.int .i64 ((lastE Es : Nat) : Int)) ∧ Below u.heap.size u w') := fun u hu =>
    jdurable_any d s u F ((DiskI.res d s).kept (S := fun _ => False) h (Turn.ofBelow _ hu) (fun _ _ h => h)) Es T m1 m2 m3 m4 m5
  obtain ⟨D, hD⟩ : ∃ D, lastE Es = D := ⟨_, rfl⟩
  obtain ⟨KS, hKS⟩ : ∃ KS, Dk.keysL s.fs = KS := ⟨_, rfl⟩
  obtain ⟨N, hN⟩ : ∃ N, s.fs.length = N := ⟨_, rfl⟩
  have HKl : Hid (KS.length = N) := by show _ = _; rw [← hKS, ← hN]; simp [Dk.keysL]
  have HKn : Hid (∀ q ∈ KS, NameOkW q) := fun q hq => by
    rw [← hKS] at hq
    obtain ⟨p, hp, rfl⟩ := List.mem_map.1 hq
    exact hw.names p hp
  rw [hD] at HDu h20
  have HUp : Hid (∀ (q : List UInt8) u, q ∈ KS → isLogK q = true → Below w.heap.size w u → Calls Tryz.prog 75 #[.int .i64 (D : Int), .pointer (some ⟨d, 0, none⟩), .string ⟨q.toArray⟩] u fun e w' => ∃ v, e = .returned v ∧ ∃ R, Hid (EntsO w' u.heap.size t k v R) ∧ Hid (R.map Er.tn = upTo D (LF q)) ∧ Hid (Below u.heap.size u w')) := fun q u hq hlog hu => by
    rw [← hKS] at hq
    obtain ⟨p, hp, rfl⟩ := List.mem_map.1 hq
    obtain ⟨T2, l1, l2, l3, l4, l5⟩ := hw.logs p hp hlog
    have hok := (hw.names p hp).ok
    have hlen : p.1.length ≤ 32 := by
      unfold Dk.okName at hok
      simp only [Bool.and_eq_true, decide_eq_true_eq] at hok
      exact hok.1.2
    have hrv : Dk.readV s (⟨p.1.toArray⟩ : ByteArray).data.toList = flatF ((LF p.1).map (bodyN t k)) ++ T2 := by
      show Dk.readV s p.1 = _
      rw [readV_mem hw.rise hp hok, l2]
    exact jupTo_any d s ⟨p.1.toArray⟩ u F ((DiskI.res d s).kept (S := fun _ => False) h (Turn.ofBelow _ hu) (fun _ _ h => h)) (by show p.1.toArray.size ≤ _; simp; unfold maxLen; omega) t k ht hk (LF p.1) T2 l1 hrv (by rw [← l2]; omega) l4 l5 D
  have HNm : Hid (∀ u, Below w.heap.size w u → Calls Tryz.prog 42 #[.pointer (some ⟨d, 0, none⟩)] u fun e w' => ∃ A c, e = .returned (.slice A N c) ∧ Hid (w'.ownsRow u.heap.size 9 1 (.slice A N c) N (KS.map encStr)) ∧ Below u.heap.size u w') := fun u hu => by
    refine (dnames_i ((DiskI.res d s).kept (S := fun _ => False) h (Turn.ofBelow _ hu) (fun _ _ h => h))).mono fun e w' ⟨v, e1, e2, e3⟩ => ?_
    rw [hN, hKS] at e2
    obtain ⟨A, c, rfl⟩ := row_shapeJ e2
    exact ⟨A, c, e1, e2, e3⟩
  have HN64 : Hid (N ≤ 64) := by
    obtain ⟨m, G, h1, _⟩ := h
    show _ ≤ _
    rw [← hN, h1.len_fs]
    exact h1.few
  rw [hKS] at h20
  have H40 : Hid (ManyOk (allE D LF KS)) := h20
  have H20 : Hid ((allE D LF KS).length ≤ 40) := h20.le
  have HRf : Hid (∀ u, Calls Tryz.prog 55 #[.bool false, .int .i64 5] u fun r w' => r = .returned (.tuple #[]) ∧ u = w') := fun u => (refuse_no 5 u).mono fun _ _ h => ⟨h.1, h.2.symm⟩
  rw [hD, hKS]
  clear h hw m1 m2 m3 m4 m5 hD hKS hN h20
  go_enter Tryz.func46, Tryz.ntmps46
  go_wp2_with (first
    | (go_at_call 55; (with_reducible refine (HRf.out _).mono ?_); rintro e w0 ⟨rfl, rfl⟩)
    | (go_at_call 74; (with_reducible refine (HDu.out _ (Below.refl _ _)).mono ?_); rintro e w1 ⟨rfl, hb1⟩)
    | (go_at_call 42; (with_reducible refine (HNm.out _ hb1).mono ?_); rintro e w2 ⟨A, c, rfl, HO, hb2⟩))
  have HB2 : Hid (Below w.heap.size w w2) := hb1.trans (hb2.mono hb1.size)
  clear hb1 hb2 HDu HNm
  go_loopw [5, 18] (fun v i wr => ∃ (j : Nat) (R : List Er), j ≤ N ∧ i = .int .i64 j ∧ Hid (EntsO wr w2.heap.size t k v R) ∧ Hid (R.map Er.tn = allE D LF (KS.take j)) ∧ Hid (Below w2.heap.size w2 wr)) (fun _ i _ => N - (intOf i).toNat)
  case atStart => exact ⟨0, [], Nat.zero_le _, rfl, ents_nil, (rfl : _ = _), Below.refl _ _⟩
  case round =>
    obtain ⟨j, R, hj, rfl, HR, HRt, HBr⟩ := hrel
    by_cases hlt : j < N
    · obtain ⟨g, rfl, hc1, hc2⟩ := row_someJ HO.out (by omega)
      have hje : j < KS.length := by rw [HKl.out]; exact hlt
      obtain ⟨q, hq⟩ : ∃ q, KS[j] = q := ⟨_, rfl⟩
      have hqm : q ∈ KS := by rw [← hq]; exact List.getElem_mem hje
      have hx : (KS.map encStr)[j]? = some (.string ⟨q.toArray⟩) := by
        rw [List.getElem?_map, List.getElem?_eq_getElem hje, hq]
        rfl
      have q0 : wr.cell? ⟨g, j, none⟩ = some (.string ⟨q.toArray⟩) := by
        have h1 := World.ownsRow.cells (row_kept HO.out HBr.out) (g := g) rfl j _ hx
        rw [Addr.add_lit, Nat.zero_add] at h1
        exact h1
      have hun := allE_next (D := D) (LF := LF) hje
      rw [hq, ← HRt.out] at hun
      have HG := jgen_any q (HKn.out q hqm) wr
      have hlI : (j : Int) < (N : Int) := by omega
      cases hlog : isLogK q with
      | true =>
        rw [hlog, if_pos rfl] at hun
        rw [hlog] at HG
        obtain ⟨G, hGG⟩ : ∃ G, (if true = true then genK q else 0) = G := ⟨_, rfl⟩
        rw [hGG] at HG
        have HU := fun u hu => HUp.out q u hqm hlog hu
        obtain ⟨S, hS⟩ : ∃ S : ByteArray, (⟨q.toArray⟩ : ByteArray) = S := ⟨_, rfl⟩
        rw [hS] at q0 HG HU
        have HU' : Hid (∀ u, Below w.heap.size w u → Calls Tryz.prog 75 #[.int .i64 (D : Int), .pointer (some ⟨d, 0, none⟩), .string S] u fun e w' => ∃ v, e = .returned v ∧ ∃ R, Hid (EntsO w' u.heap.size t k v R) ∧ Hid (R.map Er.tn = upTo D (LF q)) ∧ Hid (Below u.heap.size u w')) := HU
        have HG' : Hid (Calls Tryz.prog 59 #[.string S] wr fun e w' => e = .returned (.tuple #[.int .i64 (G : Int), .bool true]) ∧ Below wr.heap.size wr w') := HG
        clear HG HU hx hS hGG hlog
        go_wp2_with (first
          | (go_at_call 59; (with_reducible refine HG'.out.mono ?_); rintro e w3 ⟨rfl, hb3⟩; have HB3 : Hid (Below w.heap.size w w3 ∧ Below w2.heap.size w2 w3 ∧ Below wr.heap.size wr w3) := ⟨HB2.out.trans ((HBr.out.trans (hb3.mono HBr.out.size)).mono HB2.out.size), HBr.out.trans (hb3.mono HBr.out.size), hb3⟩; clear hb3)
          | (go_at_call 75; (with_reducible refine (HU'.out _ HB3.out.1).mono ?_); rintro e w4 ⟨v2, rfl, R2, HE2, HR2, HB4⟩)
          | (at_builtin; go_must (refine wpList_ents rfl _ _ rfl w2.heap.size t k u5 v2 R R2 rfl ?q1 rfl ?q2 ?q3 ?q4 ?q5 ?_)))
        case q1 => exact (HR.out.below HB3.out.2.2).below HB4.out
        case q2 => exact HE2.out.low HB3.out.2.1.size
        case q3 =>
          intro e he
          obtain ⟨p1, p2, p3, p4, p5, p6⟩ := HE2.out.ent e he
          have hs3 := HB3.out.2.2.size
          refine ⟨fun e1 => ?_, fun e1 => ?_⟩
          · have := (World.ownsRow.lt HR.out.row _ e1).2; omega
          · have := (World.ownsRow.lt HR.out.row _ e1).2; omega
        case q4 =>
          have h1 := congrArg List.length hun
          rw [List.length_append, List.length_map, ← HR2.out, List.length_map] at h1
          have h2 : (allE D LF (KS.take (j + 1))).length ≤ (allE D LF KS).length := by
            have e : KS = KS.take (j + 1) ++ KS.drop (j + 1) := (List.take_append_drop _ _).symm
            conv => rhs; rw [e]
            unfold allE
            rw [List.flatMap_append, List.length_append]
            omega
          have h3 := H20.out
          omega
        case q5 =>
          have h1 := HB3.out.2.1.size
          have h2 := HB4.out.size
          omega
        intro v' w5 HR5 HT5
        have HRt2 : Hid ((R ++ R2).map Er.tn = allE D LF (KS.take (j + 1))) := by
          show _ = _
          rw [hun, List.map_append, HR2.out]
        have HB5 : Hid (Below w2.heap.size w2 w5) := by
          have h1 := HB3.out.2.1
          have h2 := h1.trans (HB4.out.mono h1.size)
          refine h2.trans ((HT5.out.mono (S' := fun i => w2.heap.size ≤ i) (fun i hi => ?_)).toBelow h2.size)
          exact (World.ownsRow.lt HR.out.row _ hi).1
        clear hun
        go_wp2_with fail
        exact ⟨⟨j + 1, R ++ R2, by omega, by go_num, HR5, HRt2, HB5⟩, by simp [intOf]; omega⟩
      | false =>
        rw [hlog, if_neg (by decide), List.append_nil] at hun
        rw [hlog] at HG
        have HRt2 : Hid (R.map Er.tn = allE D LF (KS.take (j + 1))) := hun.symm
        obtain ⟨G, hGG⟩ : ∃ G, (if false = true then genK q else 0) = G := ⟨_, rfl⟩
        rw [hGG] at HG
        obtain ⟨S, hS⟩ : ∃ S : ByteArray, (⟨q.toArray⟩ : ByteArray) = S := ⟨_, rfl⟩
        rw [hS] at q0 HG
        have HG' : Hid (Calls Tryz.prog 59 #[.string S] wr fun e w' => e = .returned (.tuple #[.int .i64 (G : Int), .bool false]) ∧ Below wr.heap.size wr w') := HG
        clear HG hx hS hun hGG hlog
        go_wp2_with (go_at_call 59; (with_reducible refine HG'.out.mono ?_); rintro e w3 ⟨rfl, hb3⟩; have HB3 : Hid (Below w2.heap.size w2 w3 ∧ Below wr.heap.size wr w3) := ⟨HBr.out.trans (hb3.mono HBr.out.size), hb3⟩; clear hb3)
        exact ⟨⟨j + 1, R, by omega, by go_num, HR.out.below HB3.out.2, HRt2, HB3.out.1⟩, by simp [intOf]; omega⟩
    · obtain rfl : j = N := by omega
      have hlI : ¬ (j : Int) < (j : Int) := by omega
      have HE2 : Hid (R.map Er.tn = allE D LF KS) := by
        show _ = _
        rw [HRt.out, List.take_of_length_le (by rw [HKl.out]; exact Nat.le_refl _)]
      have hRl : ManyOk (R.map Er.tn) := by
        rw [HE2.out]
        exact H40.out
      have HS : Hid (Calls Tryz.prog 76 #[u5, .func (.func 77) #[] #[]] wr fun e w' => e = .returned (.tuple #[]) ∧ Hid (EntsO w' w2.heap.size t k u5 (sortE R)) ∧ Hid (Turn (fun i => w2.heap.size ≤ i) wr w')) := jsort40_any w2.heap.size t k u5 R wr HR.out hRl
      clear HRt hRl
      go_wp2_with (go_at_call 76; (with_reducible refine HS.out.mono ?_); rintro e w3 ⟨rfl, K1, K2⟩)
      go_returns
      have hB := HBr.out.trans (K2.out.toBelow HBr.out.size)
      exact ⟨u5, rfl, R, K1.out.low HB2.out.size, HE2, HB2.out.trans (hB.mono HB2.out.size)⟩

section
variable {t k : ByteArray} {d : Nat} {s : Dk.Dsk} {w w' : World} {F : Nat → Prop} {LF : List UInt8 → List (Nat × Nat)} {Es : List Nat}
theorem cLoad40 (h : DiskI d s w F) (q : QDisk s t k LF Es) (f : Fine LF Es) (ht : t.size ≤ 100) (hk : k.size ≤ 100) (h20 : ManyOk (allE (lastE Es) LF (Dk.keysL s.fs))) :
    Calls Tryz.prog 19 #[.pointer (some ⟨d, 0, none⟩)] w fun e w' => ∃ v, e = .returned (.tuple #[v, .int .i64 ((lastE Es : Nat) : Int), .int .i64 0]) ∧ ∃ R, Hid (EntsO w' w.heap.size t k v (sortE R)) ∧ Hid (R.map Er.tn = allE (lastE Es) LF (Dk.keysL s.fs)) ∧ Hid (Below w.heap.size w w') :=
  jLoad_calls (allE (lastE Es) LF (Dk.keysL s.fs)) w fun u hu => jload40_any d s t k LF Es u F (h.below hu) (q.wal ht hk f.few f.rise f.low f.short) ht hk h20
end
end Go.Proofs.YtigegdelhpdlhaaGreatDoor
