import Derived.Test.YtigegdelhpdlhaaGreatDoorJSortJ
/- Layer 18: wal.load of a disk of logs (at most twenty entries). -/
namespace Go.Proofs.YtigegdelhpdlhaaGreatDoor
open Go.RowKit QP

set_option maxHeartbeats 1000000 in
theorem jstable_nil (w : World) : Calls Tryz.prog 76 #[.slice none 0 0, .func (.func 77) #[] #[]] w fun e w' => e = .returned (.tuple #[]) ∧ w = w' := by
  have HI : Hid (∀ u, Calls Tryz.prog 125 #[.slice none 0 0, .int .i64 0, .int .i64 0, .func (.func 77) #[] #[]] u fun e w' => e = .returned (.tuple #[]) ∧ u = w') := fun u => by
    go_enter Tryz.func125, Tryz.ntmps125
    go_wp2_with fail
    refine wp_loop_rounds 1 ?_
    rw [rounds_succ]
    go_wp2_with fail
    go_end0
    exact ⟨rfl, rfl⟩
  have HS : Hid (∀ u, Calls Tryz.prog 102 #[.slice none 0 0, .int .i64 0, .func (.func 77) #[] #[]] u fun e w' => e = .returned (.tuple #[]) ∧ u = w') := fun u => by
    go_enter Tryz.func102, Tryz.ntmps102
    go_wp2_with fail
    refine wp_loop_rounds 1 ?_
    rw [rounds_succ]
    go_wp2_with (go_at_call 125; (with_reducible refine (HI.out _).mono ?_); rintro e w1 ⟨rfl, rfl⟩)
    refine wp_loop_rounds 1 ?_
    rw [rounds_succ]
    go_wp2_with fail
    go_end0
    exact ⟨rfl, rfl⟩
  go_enter Tryz.func76, Tryz.ntmps76
  go_wp2_with (go_at_call 102; (with_reducible refine (HS.out _).mono ?_); rintro e w1 ⟨rfl, rfl⟩)
  go_end0
  exact ⟨rfl, rfl⟩

/-- sorted: a slice of entries of its own -/
theorem jsort_any (base : Nat) (t k : ByteArray) (v : Value) (R : List Er) (w : World) (h : EntsO w base t k v R) (hR : R.length ≤ 20) :
    Calls Tryz.prog 76 #[v, .func (.func 77) #[] #[]] w fun e w' => e = .returned (.tuple #[]) ∧ Hid (EntsO w' base t k v (sortE R)) ∧ Hid (Turn (fun i => base ≤ i) w w') := by
  have hl := (sortE_facts R).1
  have hp := (sortE_facts R).2.1
  rcases h.row.2 with ⟨e2, hl0⟩ | ⟨g, cap, cur, e2, hg, hh, r1, r2, r3, r4⟩
  · subst e2
    have hR0 : R = [] := List.eq_nil_of_length_eq_zero hl0
    subst hR0
    have hs : sortE [] = [] := List.eq_nil_of_length_eq_zero hl
    rw [hs]
    refine (jstable_nil w).mono fun e w' ⟨e1, e2⟩ => ?_
    subst e2
    exact ⟨e1, h, Turn.refl _ _⟩
  · subst e2
    refine (jstable_any g cap R w ⟨cur, hh, r3, r1, r4⟩ hR).mono fun e w' ⟨e1, e3, e4⟩ => ⟨e1, ⟨⟨?_, Or.inr ?_⟩, fun f hf => ?_⟩, e4.out.mono fun i hi => by omega⟩
    · rw [flat_length enE_len, Nat.mul_comm]
    · obtain ⟨cur', q1, q2, q3, q4⟩ := e3.out
      exact ⟨g, cap, cur', by rw [hl], hg, q1, by omega, r2, q2, q4⟩
    · obtain ⟨q1, q2, q3, q4, q5, q6⟩ := h.ent f (hp.mem_iff.1 hf)
      have n1 : f.g ≠ g := fun e => q5 (by rw [e]; rfl)
      have n2 : f.x ≠ g := fun e => q6 (by rw [e]; rfl)
      exact ⟨(e4.out.block _ (lt_of q1) n1).trans q1, oneAt_turn q2 e4.out n2, q3, q4, q5, q6⟩

set_option maxRecDepth 100000 in
set_option maxHeartbeats 2000000 in
theorem jload_any (d : Nat) (s : Dk.Dsk) (t k : ByteArray) (LF : List UInt8 → List (Nat × Nat)) (Es : List Nat) (w : World) (F : Nat → Prop) (h : DiskI d s w F) (hw : WalD s t k LF Es) (ht : t.size ≤ 100) (hk : k.size ≤ 100) (h20 : (allE (lastE Es) LF (Dk.keysL s.fs)).length ≤ 20) :
    Calls Tryz.prog 46 #[.pointer (some ⟨d, 0, none⟩)] w fun e w' => ∃ v, e = .returned (.tuple #[v, .int .i64 ((lastE Es : Nat) : Int)]) ∧ ∃ R, Hid (EntsO w' w.heap.size t k v (sortE R)) ∧ Hid (R.map Er.tn = allE (lastE Es) LF (Dk.keysL s.fs)) ∧ Hid (Below w.heap.size w w') := by
  obtain ⟨T, m1, m2, m3, m4, m5⟩ := hw.marks
  have HDu : Hid (∀ u, Below w.heap.size w u → Calls Tryz.prog 74 #[.pointer (some ⟨d, 0, none⟩)] u fun e w' => e = .returned (.int .i64 ((lastE Es : Nat) : Int)) ∧ Below u.heap.size u w') := fun u hu =>
    jdurable_any d s u F ((DiskI.res d s).kept (S := fun _ => False) h (Turn.ofBelow _ hu) (fun _ _ h => h)) Es T m1 m2 m3 m4 m5
  obtain ⟨D, hD⟩ : ∃ D, lastE Es = D := ⟨_, rfl⟩
  obtain ⟨KS, hKS⟩ : ∃ KS, Dk.keysL s.fs = KS := ⟨_, rfl⟩
  obtain ⟨N, hN⟩ : ∃ N, s.fs.length = N := ⟨_, rfl⟩
  have HKl : Hid (KS.length = N) := by show _ = _; rw [← hKS, ← hN]; simp [Dk.keysL]
  have HKn : Hid (∀ q ∈ KS, NameOkW q) := fun q hq => by
    rw [← hKS] at hq
    obtain ⟨p, hp, rfl⟩ := List.mem_map.1 hq
    exact hw.names p hp
  rw [hD] at HDu h20
  have HUp : Hid (∀ (q : List UInt8) u, q ∈ KS → isLogK q = true → Below w.heap.size w u → Calls Tryz.prog 75 #[.int .i64 (D : Int), .pointer (some ⟨d, 0, none⟩), .string ⟨q.toArray⟩] u fun e w' => ∃ v, e = .returned v ∧ ∃ R, Hid (EntsO w' u.heap.size t k v R) ∧ Hid (R.map Er.tn = upTo D (LF q)) ∧ Hid (Below u.heap.size u w')) := fun q u hq hlog hu => by
    rw [← hKS] at hq
    obtain ⟨p, hp, rfl⟩ := List.mem_map.1 hq
    obtain ⟨T2, l1, l2, l3, l4, l5⟩ := hw.logs p hp hlog
    have hok := (hw.names p hp).ok
    have hlen : p.1.length ≤ 32 := by
      unfold Dk.okName at hok
      simp only [Bool.and_eq_true, decide_eq_true_eq] at hok
      exact hok.1.2
    have hrv : Dk.readV s (⟨p.1.toArray⟩ : ByteArray).data.toList = flatF ((LF p.1).map (bodyN t k)) ++ T2 := by
      show Dk.readV s p.1 = _
      rw [readV_mem hw.rise hp hok, l2]
    exact jupTo_any d s ⟨p.1.toArray⟩ u F ((DiskI.res d s).kept (S := fun _ => False) h (Turn.ofBelow _ hu) (fun _ _ h => h)) (by show p.1.toArray.size ≤ _; simp; unfold maxLen; omega) t k ht hk (LF p.1) T2 l1 hrv (by rw [← l2]; omega) l4 l5 D
  have HNm : Hid (∀ u, Below w.heap.size w u → Calls Tryz.prog 42 #[.pointer (some ⟨d, 0, none⟩)] u fun e w' => ∃ A c, e = .returned (.slice A N c) ∧ Hid (w'.ownsRow u.heap.size 9 1 (.slice A N c) N (KS.map encStr)) ∧ Below u.heap.size u w') := fun u hu => by
    refine (dnames_i ((DiskI.res d s).kept (S := fun _ => False) h (Turn.ofBelow _ hu) (fun _ _ h => h))).mono fun e w' ⟨v, e1, e2, e3⟩ => ?_
    rw [hN, hKS] at e2
    obtain ⟨A, c, rfl⟩ := row_shapeJ e2
    exact ⟨A, c, e1, e2, e3⟩
  have HN64 : Hid (N ≤ 64) := by
    obtain ⟨m, G, h1, _⟩ := h
    show _ ≤ _
    rw [← hN, h1.len_fs]
    exact h1.few
  rw [hKS] at h20
  have H20 : Hid ((allE D LF KS).length ≤ 20) := h20
  have HRf : Hid (∀ u, Calls Tryz.prog 55 #[.bool false, .int .i64 5] u fun r w' => r = .returned (.tuple #[]) ∧ u = w') := fun u => (refuse_no 5 u).mono fun _ _ h => ⟨h.1, h.2.symm⟩
  rw [hD, hKS]
  clear h hw m1 m2 m3 m4 m5 hD hKS hN h20
  go_enter Tryz.func46, Tryz.ntmps46
  go_wp2_with (first
    | (go_at_call 55; (with_reducible refine (HRf.out _).mono ?_); rintro e w0 ⟨rfl, rfl⟩)
    | (go_at_call 74; (with_reducible refine (HDu.out _ (Below.refl _ _)).mono ?_); rintro e w1 ⟨rfl, hb1⟩)
    | (go_at_call 42; (with_reducible refine (HNm.out _ hb1).mono ?_); rintro e w2 ⟨A, c, rfl, HO, hb2⟩))
  have HB2 : Hid (Below w.heap.size w w2) := hb1.trans (hb2.mono hb1.size)
  clear hb1 hb2 HDu HNm
  go_loopw [5, 18] (fun v i wr => ∃ (j : Nat) (R : List Er), j ≤ N ∧ i = .int .i64 j ∧ Hid (EntsO wr w2.heap.size t k v R) ∧ Hid (R.map Er.tn = allE D LF (KS.take j)) ∧ Hid (Below w2.heap.size w2 wr)) (fun _ i _ => N - (intOf i).toNat)
  case atStart => exact ⟨0, [], Nat.zero_le _, rfl, ents_nil, (rfl : _ = _), Below.refl _ _⟩
  case round =>
    obtain ⟨j, R, hj, rfl, HR, HRt, HBr⟩ := hrel
    by_cases hlt : j < N
    · obtain ⟨g, rfl, hc1, hc2⟩ := row_someJ HO.out (by omega)
      have hje : j < KS.length := by rw [HKl.out]; exact hlt
      obtain ⟨q, hq⟩ : ∃ q, KS[j] = q := ⟨_, rfl⟩
      have hqm : q ∈ KS := by rw [← hq]; exact List.getElem_mem hje
      have hx : (KS.map encStr)[j]? = some (.string ⟨q.toArray⟩) := by
        rw [List.getElem?_map, List.getElem?_eq_getElem hje, hq]
        rfl
      have q0 : wr.cell? ⟨g, j, none⟩ = some (.string ⟨q.toArray⟩) := by
        have h1 := World.ownsRow.cells (row_kept HO.out HBr.out) (g := g) rfl j _ hx
        rw [Addr.add_lit, Nat.zero_add] at h1
        exact h1
      have hun := allE_next (D := D) (LF := LF) hje
      rw [hq, ← HRt.out] at hun
      have HG := jgen_any q (HKn.out q hqm) wr
      have hlI : (j : Int) < (N : Int) := by omega
      cases hlog : isLogK q with
      | true =>
        rw [hlog, if_pos rfl] at hun
        rw [hlog] at HG
        obtain ⟨G, hGG⟩ : ∃ G, (if true = true then genK q else 0) = G := ⟨_, rfl⟩
        rw [hGG] at HG
        have HU := fun u hu => HUp.out q u hqm hlog hu
        obtain ⟨S, hS⟩ : ∃ S : ByteArray, (⟨q.toArray⟩ : ByteArray) = S := ⟨_, rfl⟩
        rw [hS] at q0 HG HU
        have HU' : Hid (∀ u, Below w.heap.size w u → Calls Tryz.prog 75 #[.int .i64 (D : Int), .pointer (some ⟨d, 0, none⟩), .string S] u fun e w' => ∃ v, e = .returned v ∧ ∃ R, Hid (EntsO w' u.heap.size t k v R) ∧ Hid (R.map Er.tn = upTo D (LF q)) ∧ Hid (Below u.heap.size u w')) := HU
        have HG' : Hid (Calls Tryz.prog 59 #[.string S] wr fun e w' => e = .returned (.tuple #[.int .i64 (G : Int), .bool true]) ∧ Below wr.heap.size wr w') := HG
        clear HG HU hx hS hGG hlog
        go_wp2_with (first
          | (go_at_call 59; (with_reducible refine HG'.out.mono ?_); rintro e w3 ⟨rfl, hb3⟩; have HB3 : Hid (Below w.heap.size w w3 ∧ Below w2.heap.size w2 w3 ∧ Below wr.heap.size wr w3) := ⟨HB2.out.trans ((HBr.out.trans (hb3.mono HBr.out.size)).mono HB2.out.size), HBr.out.trans (hb3.mono HBr.out.size), hb3⟩; clear hb3)
          | (go_at_call 75; (with_reducible refine (HU'.out _ HB3.out.1).mono ?_); rintro e w4 ⟨v2, rfl, R2, HE2, HR2, HB4⟩)
          | (at_builtin; go_must (refine wpList_ents rfl _ _ rfl w2.heap.size t k u5 v2 R R2 rfl ?q1 rfl ?q2 ?q3 ?q4 ?q5 ?_)))
        case q1 => exact (HR.out.below HB3.out.2.2).below HB4.out
        case q2 => exact HE2.out.low HB3.out.2.1.size
        case q3 =>
          intro e he
          obtain ⟨p1, p2, p3, p4, p5, p6⟩ := HE2.out.ent e he
          have hs3 := HB3.out.2.2.size
          refine ⟨fun e1 => ?_, fun e1 => ?_⟩
          · have := (World.ownsRow.lt HR.out.row _ e1).2; omega
          · have := (World.ownsRow.lt HR.out.row _ e1).2; omega
        case q4 =>
          have h1 := congrArg List.length hun
          rw [List.length_append, List.length_map, ← HR2.out, List.length_map] at h1
          have h2 : (allE D LF (KS.take (j + 1))).length ≤ (allE D LF KS).length := by
            have e : KS = KS.take (j + 1) ++ KS.drop (j + 1) := (List.take_append_drop _ _).symm
            conv => rhs; rw [e]
            unfold allE
            rw [List.flatMap_append, List.length_append]
            omega
          have h3 := H20.out
          omega
        case q5 =>
          have h1 := HB3.out.2.1.size
          have h2 := HB4.out.size
          omega
        intro v' w5 HR5 HT5
        have HRt2 : Hid ((R ++ R2).map Er.tn = allE D LF (KS.take (j + 1))) := by
          show _ = _
          rw [hun, List.map_append, HR2.out]
        have HB5 : Hid (Below w2.heap.size w2 w5) := by
          have h1 := HB3.out.2.1
          have h2 := h1.trans (HB4.out.mono h1.size)
          refine h2.trans ((HT5.out.mono (S' := fun i => w2.heap.size ≤ i) (fun i hi => ?_)).toBelow h2.size)
          exact (World.ownsRow.lt HR.out.row _ hi).1
        clear hun
        go_wp2_with fail
        exact ⟨⟨j + 1, R ++ R2, by omega, by go_num, HR5, HRt2, HB5⟩, by simp [intOf]; omega⟩
      | false =>
        rw [hlog, if_neg (by decide), List.append_nil] at hun
        rw [hlog] at HG
        have HRt2 : Hid (R.map Er.tn = allE D LF (KS.take (j + 1))) := hun.symm
        obtain ⟨G, hGG⟩ : ∃ G, (if false = true then genK q else 0) = G := ⟨_, rfl⟩
        rw [hGG] at HG
        obtain ⟨S, hS⟩ : ∃ S : ByteArray, (⟨q.toArray⟩ : ByteArray) = S := ⟨_, rfl⟩
        rw [hS] at q0 HG
        have HG' : Hid (Calls Tryz.prog 59 #[.string S] wr fun e w' => e = .returned (.tuple #[.int .i64 (G : Int), .bool false]) ∧ Below wr.heap.size wr w') := HG
        clear HG hx hS hun hGG hlog
        go_wp2_with (go_at_call 59; (with_reducible refine HG'.out.mono ?_); rintro e w3 ⟨rfl, hb3⟩; have HB3 : Hid (Below w2.heap.size w2 w3 ∧ Below wr.heap.size wr w3) := ⟨HBr.out.trans (hb3.mono HBr.out.size), hb3⟩; clear hb3)
        exact ⟨⟨j + 1, R, by omega, by go_num, HR.out.below HB3.out.2, HRt2, HB3.out.1⟩, by simp [intOf]; omega⟩
    · obtain rfl : j = N := by omega
      have hlI : ¬ (j : Int) < (j : Int) := by omega
      have HE2 : Hid (R.map Er.tn = allE D LF KS) := by
        show _ = _
        rw [HRt.out, List.take_of_length_le (by rw [HKl.out]; exact Nat.le_refl _)]
      have hRl : R.length ≤ 20 := by
        have h1 := congrArg List.length HE2.out
        rw [List.length_map] at h1
        have := H20.out
        omega
      have HS : Hid (Calls Tryz.prog 76 #[u5, .func (.func 77) #[] #[]] wr fun e w' => e = .returned (.tuple #[]) ∧ Hid (EntsO w' w2.heap.size t k u5 (sortE R)) ∧ Hid (Turn (fun i => w2.heap.size ≤ i) wr w')) := jsort_any w2.heap.size t k u5 R wr HR.out hRl
      clear HRt hRl
      go_wp2_with (go_at_call 76; (with_reducible refine HS.out.mono ?_); rintro e w3 ⟨rfl, K1, K2⟩)
      go_returns
      have hB := HBr.out.trans (K2.out.toBelow HBr.out.size)
      exact ⟨u5, rfl, R, K1.out.low HB2.out.size, HE2, HB2.out.trans (hB.mono HB2.out.size)⟩
end Go.Proofs.YtigegdelhpdlhaaGreatDoor

/- Layer 18: wal.Load of a disk of logs (at most twenty entries). -/
namespace Go.Proofs.YtigegdelhpdlhaaGreatDoor
open Go.RowKit QP

abbrev lisO (v : Value) : Obj := .cells #[v] 38 (0, 0)
abbrev numO (z : Int) : Obj := .cells #[.int .i64 z] 3 (0, 0)
theorem EntsO.turn {S : Nat → Prop} {w w' : World} {base : Nat} {t k : ByteArray} {v : Value} {L : List Er} (h : EntsO w base t k v L) (ht : Turn S w w') (h1 : ∀ g, v.ownBlock = some g → ¬ S g) (h2 : ∀ e ∈ L, ¬ S e.g ∧ ¬ S e.x) : EntsO w' base t k v L := by
  refine ⟨⟨h.row.1, ?_⟩, fun e he => ?_⟩
  · rcases h.row.2 with q | ⟨g, cap, cur, rfl, hg, hh, r⟩
    · exact Or.inl q
    · exact Or.inr ⟨g, cap, cur, rfl, hg, (ht.block g (lt_of hh) (h1 g rfl)).trans hh, r⟩
  · obtain ⟨q1, q2, q3⟩ := h.ent e he
    exact ⟨(ht.block _ (lt_of q1) (h2 e he).1).trans q1, oneAt_turn q2 ht (h2 e he).2, q3⟩
/-- blocks of the caller's own, below the slice's, are written -/
theorem EntsO.set {w : World} {base : Nat} {t k : ByteArray} {v : Value} {L : List Er} (h : EntsO w base t k v L) (y i : Nat) (z : Value) (hy : y < base) : EntsO (w.setCell ⟨y, i, none⟩ z) base t k v L :=
  h.turn (S := fun j => j = y) (Turn.setCell (S := fun j => j = y) w ⟨y, i, none⟩ z rfl) (fun g hg e => by have := (World.ownsRow.lt h.row g hg).1; omega) (fun e he => by
    obtain ⟨_, _, q3, q4, _⟩ := h.ent e he
    exact ⟨fun h => by omega, fun h => by omega⟩)

section
variable {d D : Nat} {t k : ByteArray} {R : List Er}
set_option maxRecDepth 100000 in
set_option maxHeartbeats 1000000 in
theorem jLoad1_any (P : List (Nat × Nat)) (p y z : Nat) (u : World) (hp : u.heap[p]? = some (.cells #[.pointer (some ⟨d, 0, none⟩)] 23 (0, 0))) (hy : u.heap[y]? = some (lisO (.slice none 0 0))) (hz : u.heap[z]? = some (numO 0)) (hyz : y ≠ z)
    (h : Calls Tryz.prog 46 #[.pointer (some ⟨d, 0, none⟩)] u fun e w' => ∃ v, e = .returned (.tuple #[v, .int .i64 (D : Int)]) ∧ ∃ R, Hid (EntsO w' u.heap.size t k v (sortE R)) ∧ Hid (R.map Er.tn = P) ∧ Hid (Below u.heap.size u w')) :
    Calls Tryz.prog 45 #[.pointer (some ⟨p, 0, none⟩), .pointer (some ⟨y, 0, none⟩), .pointer (some ⟨z, 0, none⟩)] u fun r w' => r = .returned (.tuple #[]) ∧ ∃ v R w1, EntsO w1 u.heap.size t k v (sortE R) ∧ R.map Er.tn = P ∧ Below u.heap.size u w1 ∧ w' = (w1.setCell ⟨y, 0, none⟩ v).setCell ⟨z, 0, none⟩ (.int .i64 (D : Int)) := by
  have HC : Hid (Calls Tryz.prog 46 #[.pointer (some ⟨d, 0, none⟩)] u fun e w' => ∃ v, e = .returned (.tuple #[v, .int .i64 (D : Int)]) ∧ ∃ R, Hid (EntsO w' u.heap.size t k v (sortE R)) ∧ Hid (R.map Er.tn = P) ∧ Hid (Below u.heap.size u w')) := h
  have HY : Hid (u.heap[y]? = some (lisO (.slice none 0 0)) ∧ u.heap[z]? = some (numO 0)) := ⟨hy, hz⟩
  have dp : u.cell? ⟨p, 0, none⟩ = some (.pointer (some ⟨d, 0, none⟩)) := by rw [cell_of hp]; rfl
  clear h hp hy hz
  go_enter Tryz.func45, Tryz.ntmps45
  go_wp2_with fail
  refine HC.out.mono ?_
  rintro e w1 ⟨v, rfl, R, HE, HR, HB⟩
  have hy1 := (HB.out.block y (lt_of HY.out.1)).trans HY.out.1
  have hz1 := (HB.out.block z (lt_of HY.out.2)).trans HY.out.2
  have y0 : w1.cell? ⟨y, 0, none⟩ = some (.slice none 0 0) := by rw [cell_of hy1]; rfl
  have z0 : w1.cell? ⟨z, 0, none⟩ = some (.int .i64 0) := by rw [cell_of hz1]; rfl
  have fy := frozen_of hy1 0
  have fz := frozen_of hz1 0
  obtain ⟨A, c, hv⟩ := row_shapeJ HE.out.row
  have hv1 : v.oneCell' = true := by rw [hv]; rfl
  clear hy1 hz1
  go_wp2_with fail
  go_end0
  exact ⟨rfl, v, R, w1, HE.out, HR.out, HB.out, by rw [hv]⟩

set_option maxRecDepth 100000 in
set_option maxHeartbeats 2000000 in
theorem jLoad_calls (P : List (Nat × Nat)) (w : World) (h : ∀ u, Below w.heap.size w u → Calls Tryz.prog 46 #[.pointer (some ⟨d, 0, none⟩)] u fun e w' => ∃ v, e = .returned (.tuple #[v, .int .i64 (D : Int)]) ∧ ∃ R, Hid (EntsO w' u.heap.size t k v (sortE R)) ∧ Hid (R.map Er.tn = P) ∧ Hid (Below u.heap.size u w')) :
    Calls Tryz.prog 19 #[.pointer (some ⟨d, 0, none⟩)] w fun e w' => ∃ v, e = .returned (.tuple #[v, .int .i64 (D : Int), .int .i64 0]) ∧ ∃ R, Hid (EntsO w' w.heap.size t k v (sortE R)) ∧ Hid (R.map Er.tn = P) ∧ Hid (Below w.heap.size w w') := by
  have hmf : ∀ (fn : Fn) (first cap : Array Value) (w : World), (Instr.makeFunc fn first cap).run Tryz.prog w = .ok (.func fn first cap) w := fun _ _ _ _ => rfl
  obtain ⟨q, hq⟩ : ∃ q, w.heap.size = q := ⟨_, rfl⟩
  obtain ⟨wT, hwT⟩ : ∃ u, ((w.alloc (.cells #[.pointer (some ⟨d, 0, none⟩)] 23)).alloc (lisO (.slice none 0 0))).alloc (numO 0) = u := ⟨_, rfl⟩
  have b1 : Below w.heap.size w (w.alloc (.cells #[.pointer (some ⟨d, 0, none⟩)] 23)) := (Below.refl _ _).alloc (Nat.le_refl _) _
  have b2 := b1.alloc b1.size (lisO (.slice none 0 0))
  have b3 := b2.alloc b2.size (numO 0)
  have hn0 := (Below.heap_alloc _ (numO 0) w.heap.size (by simp; omega)).trans ((Below.heap_alloc _ (lisO (.slice none 0 0)) w.heap.size (by simp)).trans (heap_new w (.cells #[.pointer (some ⟨d, 0, none⟩)] 23)))
  have hn1 := (Below.heap_alloc _ (numO 0) (w.alloc (.cells #[.pointer (some ⟨d, 0, none⟩)] 23)).heap.size (by simp)).trans (heap_new (w.alloc (.cells #[.pointer (some ⟨d, 0, none⟩)] 23)) (lisO (.slice none 0 0)))
  have hn2 := heap_new ((w.alloc (.cells #[.pointer (some ⟨d, 0, none⟩)] 23)).alloc (lisO (.slice none 0 0))) (numO 0)
  have hsz : wT.heap.size = q + 3 := by rw [← hwT]; simp [hq]
  rw [World.size_alloc, hq] at hn1
  rw [World.size_alloc, World.size_alloc, hq] at hn2
  rw [hq] at hn0
  rw [hwT] at hn0 hn1 hn2 b3
  have hbT : Below w.heap.size w wT := b3
  have HD : Hid (Calls Tryz.prog 35 #[.func (.func 45) #[] #[.pointer (some ⟨q, 0, none⟩), .pointer (some ⟨q + 1, 0, none⟩), .pointer (some ⟨q + 2, 0, none⟩)]] wT fun r w' => r = .returned (.int .i64 0) ∧ ∃ v R, w'.heap[q + 1]? = some (lisO v) ∧ w'.heap[q + 2]? = some (numO (D : Int)) ∧ EntsO w' (q + 3) t k v (sortE R) ∧ R.map Er.tn = P ∧ Below w.heap.size w w') := by
    have hbe : Below wT.heap.size wT (wT.alloc (errO 0)) := (Below.refl _ _).alloc (Nat.le_refl _) _
    refine (done3_ok 45 _ _ _ wT (fun w' => ∃ v R w1, EntsO w1 (wT.alloc (errO 0)).heap.size t k v (sortE R) ∧ R.map Er.tn = P ∧ Below (wT.alloc (errO 0)).heap.size (wT.alloc (errO 0)) w1 ∧ w' = (w1.setCell ⟨q + 1, 0, none⟩ v).setCell ⟨q + 2, 0, none⟩ (.int .i64 (D : Int))) (enters_of Tryz.func45 (by kernel_rfl) rfl _) ?_ ?_).mono ?_
    · exact jLoad1_any P q (q + 1) (q + 2) (wT.alloc (errO 0)) ((hbe.block _ (by omega)).trans hn0) ((hbe.block _ (by omega)).trans hn1) ((hbe.block _ (by omega)).trans hn2) (by omega) (h _ (hbT.trans (hbe.mono (by omega))))
    · rintro w' ⟨v, R, w1, hE, hR, hB, rfl⟩
      have e1 := (hB.block wT.heap.size (by simp)).trans (heap_new wT (errO 0))
      exact (Below.heap_setCell _ ⟨q + 2, 0, none⟩ _ _ (by show wT.heap.size ≠ q + 2; omega)).trans ((Below.heap_setCell _ ⟨q + 1, 0, none⟩ _ _ (by show wT.heap.size ≠ q + 1; omega)).trans e1)
    · rintro r w' ⟨e1, w2, ⟨v, R, w1, hE, hR, hB, rfl⟩, rfl⟩
      have hsE : (wT.alloc (errO 0)).heap.size = q + 4 := by rw [World.size_alloc]; omega
      rw [hsE] at hE
      have hy1 := (hB.block (q + 1) (by omega)).trans ((hbe.block (q + 1) (by omega)).trans hn1)
      have hz1 := (hB.block (q + 2) (by omega)).trans ((hbe.block (q + 2) (by omega)).trans hn2)
      have hy2 := heap_setCell_same hy1 0 v
      have hz2 := (Below.heap_setCell w1 ⟨q + 1, 0, none⟩ v (q + 2) (by show q + 2 ≠ q + 1; omega)).trans hz1
      have hz3 := heap_setCell_same hz2 0 (.int .i64 (D : Int))
      have hy3 := (Below.heap_setCell _ ⟨q + 2, 0, none⟩ (.int .i64 (D : Int)) (q + 1) (by show q + 1 ≠ q + 2; omega)).trans hy2
      have hE3 := ((hE.set (q + 1) 0 v (by omega)).set (q + 2) 0 (.int .i64 (D : Int)) (by omega)).set wT.heap.size 0 (.int .i64 0) (by omega)
      have hb4 : Below w.heap.size w w1 := (hbT.trans (hbe.mono (by omega))).trans (hB.mono (by rw [hsE]; omega))
      have hT : Turn (fun i => w.heap.size ≤ i) w1 (((w1.setCell ⟨q + 1, 0, none⟩ v).setCell ⟨q + 2, 0, none⟩ (.int .i64 (D : Int))).setCell ⟨wT.heap.size, 0, none⟩ (.int .i64 0)) :=
        ((Turn.setCell (S := fun i => w.heap.size ≤ i) w1 ⟨q + 1, 0, none⟩ _ (by show _ ≤ q + 1; omega)).trans (Turn.setCell _ ⟨q + 2, 0, none⟩ _ (by show _ ≤ q + 2; omega))).trans (Turn.setCell _ ⟨wT.heap.size, 0, none⟩ _ (by show _ ≤ wT.heap.size; omega))
      exact ⟨e1, v, R, (Below.heap_setCell _ ⟨wT.heap.size, 0, none⟩ _ _ (by show q + 1 ≠ wT.heap.size; omega)).trans hy3, (Below.heap_setCell _ ⟨wT.heap.size, 0, none⟩ _ _ (by show q + 2 ≠ wT.heap.size; omega)).trans hz3, hE3.low (by omega), hR, hb4.trans (hT.toBelow hb4.size)⟩
  have HW : Hid (((w.alloc (.cells #[.pointer (some ⟨d, 0, none⟩)] 23)).alloc (lisO (.slice none 0 0))).alloc (numO 0) = wT) := hwT
  clear h hn0 hn1 hn2 hsz hbT hwT b1 b2 b3
  go_enter Tryz.func19, Tryz.ntmps19
  go_wp2_with fail
  rw [HW.out]
  refine HD.out.mono ?_
  rintro r w2 ⟨rfl, v, R, hy2, hz2, hE2, hR, hB2⟩
  have y0 : w2.cell? ⟨q + 1, 0, none⟩ = some v := by rw [cell_of hy2]; rfl
  have z0 : w2.cell? ⟨q + 2, 0, none⟩ = some (.int .i64 (D : Int)) := by rw [cell_of hz2]; rfl
  have fy := frozen_of hy2 0
  have fz := frozen_of hz2 0
  obtain ⟨A, c, hv⟩ := row_shapeJ hE2.row
  obtain ⟨n, hn⟩ : ∃ n, (sortE R).length = n := ⟨_, rfl⟩
  rw [hn] at hv
  have HH : Hid (w2.heap[q + 1]? = some (lisO v) ∧ w2.heap[q + 2]? = some (numO (D : Int)) ∧ EntsO w2 (q + 3) t k v (sortE R) ∧ R.map Er.tn = P ∧ Below w.heap.size w w2) := ⟨hy2, hz2, hE2, hR, hB2⟩
  have hv1 : v.oneCell' = true := by rw [hv]; rfl
  clear hy2 hz2 hE2 hR hB2 hn
  subst hv
  go_wp2_with fail
  go_region
  have hTy := heap_setCell_same HH.out.1 0 (.slice A n c)
  have hTz := (Below.heap_setCell w2 ⟨q + 1, 0, none⟩ (.slice A n c) (q + 2) (by show q + 2 ≠ q + 1; omega)).trans HH.out.2.1
  have hTz2 := heap_setCell_same hTz 0 (.int .i64 (D : Int))
  have hTy2 := (Below.heap_setCell (w2.setCell ⟨q + 1, 0, none⟩ (.slice A n c)) ⟨q + 2, 0, none⟩ (.int .i64 (D : Int)) (q + 1) (by show q + 1 ≠ q + 2; omega)).trans hTy
  have HF : Hid (EntsO ((w2.setCell ⟨q + 1, 0, none⟩ (.slice A n c)).setCell ⟨q + 2, 0, none⟩ (.int .i64 (D : Int))).drew w.heap.size t k (.slice A n c) (sortE R) ∧ R.map Er.tn = P ∧ Below w.heap.size w ((w2.setCell ⟨q + 1, 0, none⟩ (.slice A n c)).setCell ⟨q + 2, 0, none⟩ (.int .i64 (D : Int))).drew) := by
    obtain ⟨_, _, p3, p4, p5⟩ := HH.out
    have hT : Turn (fun i => w.heap.size ≤ i) w2 ((w2.setCell ⟨q + 1, 0, none⟩ (.slice A n c)).setCell ⟨q + 2, 0, none⟩ (.int .i64 (D : Int))) :=
      (Turn.setCell (S := fun i => w.heap.size ≤ i) w2 ⟨q + 1, 0, none⟩ _ (by show _ ≤ q + 1; omega)).trans (Turn.setCell _ ⟨q + 2, 0, none⟩ _ (by show _ ≤ q + 2; omega))
    have hE := ((p3.set (q + 1) 0 (.slice A n c) (by omega)).set (q + 2) 0 (.int .i64 (D : Int)) (by omega)).low (base' := w.heap.size) (by omega)
    exact ⟨hE.below (below_drewN _ 1), p4, (p5.trans (hT.toBelow p5.size)).trans ((below_drewN _ 1).mono (Nat.le_trans p5.size hT.size))⟩
  rw [show q + 1 + 1 = q + 2 from rfl]
  obtain ⟨we, hwe⟩ : ∃ we, ((w2.setCell ⟨q + 1, 0, none⟩ (.slice A n c)).setCell ⟨q + 2, 0, none⟩ (.int .i64 (D : Int))).drew = we := ⟨_, rfl⟩
  have r0 : we.cell? ⟨q + 1, 0, none⟩ = some (.slice A n c) := by
    rw [← hwe]
    show ((w2.setCell ⟨q + 1, 0, none⟩ (.slice A n c)).setCell ⟨q + 2, 0, none⟩ (.int .i64 (D : Int))).cell? _ = _
    rw [cell_of hTy2]; rfl
  have r1 : we.cell? ⟨q + 2, 0, none⟩ = some (.int .i64 (D : Int)) := by
    rw [← hwe]
    show ((w2.setCell ⟨q + 1, 0, none⟩ (.slice A n c)).setCell ⟨q + 2, 0, none⟩ (.int .i64 (D : Int))).cell? _ = _
    rw [cell_of hTz2]; rfl
  rw [hwe] at HF ⊢
  clear hTy hTz hTy2 hTz2 HH y0 z0 fy fz hwe
  go_wp2_with fail
  refine bodyPost_ret (v := .tuple #[.slice A n c, .int .i64 (D : Int), .int .i64 0]) (by simp [results, Tryz.results19, go_sem, r0, r1]) rfl ?_
  exact ⟨_, rfl, R, HF.out⟩
end
end Go.Proofs.YtigegdelhpdlhaaGreatDoor
