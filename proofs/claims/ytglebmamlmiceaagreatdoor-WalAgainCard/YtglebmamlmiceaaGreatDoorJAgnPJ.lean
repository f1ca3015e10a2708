import Derived.Test.YtglebmamlmiceaaGreatDoorJSame2J
/- Layer 18: what WalAgain's entries are, in plain words. -/
namespace Go.Proofs.YtglebmamlmiceaaGreatDoor
open Go.RowKit QP

/-- two sorted lists of the same things are the same -/
theorem sorted_same {l1 l2 : List (Nat × Nat)} (hp : l1.Perm l2) (h1 : l1.Pairwise (fun a b => a.1 ≤ b.1)) (h2 : l2.Pairwise (fun a b => a.1 ≤ b.1)) (hi : ∀ a ∈ l1, ∀ b ∈ l1, a.1 = b.1 → a = b) : l1 = l2 := by
  induction l1 generalizing l2 with
  | nil => exact (List.nil_perm.1 hp).symm
  | cons a r ih =>
    cases l2 with
    | nil => exact absurd (List.perm_nil.1 hp) (by simp)
    | cons b q =>
      obtain ⟨a1, a2⟩ := List.pairwise_cons.1 h1
      obtain ⟨b1, b2⟩ := List.pairwise_cons.1 h2
      have hab : a = b := by
        have ha : a ∈ b :: q := hp.mem_iff.1 (List.mem_cons_self ..)
        have hb : b ∈ a :: r := hp.mem_iff.2 (List.mem_cons_self ..)
        rcases List.mem_cons.1 ha with h | h
        · exact h
        · rcases List.mem_cons.1 hb with h' | h'
          · exact h'.symm
          · have e1 := a1 b h'
            have e2 := b1 a h
            exact hi a (List.mem_cons_self ..) b hb (by omega)
      subst hab
      rw [ih ((List.perm_cons a).1 hp) a2 b2 fun x hx y hy => hi x (List.mem_cons_of_mem _ hx) y (List.mem_cons_of_mem _ hy)]
theorem sortE_same {R1 R2 : List Er} (h : R1.map Er.tn = R2.map Er.tn) (hi : ∀ a ∈ R1.map Er.tn, ∀ b ∈ R1.map Er.tn, a.1 = b.1 → a = b) : (sortE R1).map Er.tn = (sortE R2).map Er.tn := by
  obtain ⟨_, p1, q1⟩ := sortE_facts R1
  obtain ⟨_, p2, q2⟩ := sortE_facts R2
  have m1 : ((sortE R1).map Er.tn).Perm (R1.map Er.tn) := p1.map _
  have m2 : ((sortE R2).map Er.tn).Perm (R2.map Er.tn) := p2.map _
  refine sorted_same (m1.trans (h ▸ m2.symm)) ?_ ?_ fun a ha b hb => hi a (m1.mem_iff.1 ha) b (m1.mem_iff.1 hb)
  · rw [List.pairwise_map]
    exact q1
  · rw [List.pairwise_map]
    exact q2

/-- the entries that were added: their word tells their number -/
structure AgnE (ep i : Nat) (W : List (Nat × Nat)) : Prop where
  all : ∀ q ∈ W, TidOk q.1 ∧ q.1 / 8388608 ≤ ep ∧ q.1 % 8388608 = q.2 * 8 ∧ q.2 < i
theorem AgnE.inj {ep i : Nat} {W : List (Nat × Nat)} (h : AgnE ep i W) : ∀ a ∈ W, ∀ b ∈ W, a.1 = b.1 → a = b := fun a ha b hb e => by
  obtain ⟨_, _, h1, h2⟩ := h.all a ha
  obtain ⟨_, _, h3, h4⟩ := h.all b hb
  exact Prod.ext e (by rw [e] at h1; omega)
theorem AgnE.upTo {ep i : Nat} {W : List (Nat × Nat)} (h : AgnE ep i W) : upTo ep W = W := List.filter_eq_self.2 fun q hq => decide_eq_true (h.all q hq).2.1
theorem AgnE.add {ep ep' i : Nat} {W : List (Nat × Nat)} (h : AgnE ep i W) (he : ep ≤ ep') (he2 : ep' ≤ 2147483648) (hi : i ≤ 100) : AgnE ep' (i + 1) (W ++ [(tidN ep' i, i)]) := by
  refine ⟨fun q hq => ?_⟩
  rcases List.mem_append.1 hq with hq | hq
  · obtain ⟨h1, h2, h3, h4⟩ := h.all q hq
    exact ⟨h1, by omega, h3, by omega⟩
  · simp only [List.mem_singleton] at hq
    subst hq
    obtain ⟨k1, k2⟩ := tid_ok he2 (show i ≤ 1048575 by omega)
    refine ⟨k1, by rw [k2]; exact Nat.le_refl _, ?_, Nat.lt_succ_self _⟩
    show tidN ep' i % 8388608 = i * 8
    unfold tidN
    omega
theorem AgnE.up {ep ep' i i' : Nat} {W : List (Nat × Nat)} (h : AgnE ep i W) (he : ep ≤ ep') (hi : i ≤ i') : AgnE ep' i' W := ⟨fun q hq => by
  obtain ⟨h1, h2, h3, h4⟩ := h.all q hq
  exact ⟨h1, by omega, h3, by omega⟩⟩
/-- the files and their names -/
def agF (W0 W1 : List (Nat × Nat)) : List UInt8 → List (Nat × Nat) := updF (updF wkF0 (logB 0 0).data.toList (wkF0 (logB 0 0).data.toList ++ W0)) (logB 1 0).data.toList (updF wkF0 (logB 0 0).data.toList (wkF0 (logB 0 0).data.toList ++ W0) (logB 1 0).data.toList ++ W1)
theorem agF_at (W0 W1 : List (Nat × Nat)) : agF W0 W1 (logB 0 0).data.toList = W0 ∧ agF W0 W1 (logB 1 0).data.toList = W1 ∧ ∀ f, f ≠ (logB 0 0).data.toList → f ≠ (logB 1 0).data.toList → agF W0 W1 f = [] := by
  have h10 : updF wkF0 (logB 0 0).data.toList (wkF0 (logB 0 0).data.toList ++ W0) (logB 1 0).data.toList = [] := by
    unfold updF
    rw [if_neg log_ne]
  refine ⟨?_, ?_, fun f h1 h2 => ?_⟩
  · unfold agF updF
    rw [if_neg log_ne.symm, if_pos rfl]
    rfl
  · unfold agF
    rw [h10]
    unfold updF
    rw [if_pos rfl]
    rfl
  · unfold agF updF
    rw [if_neg h2, if_neg h1]
def agK (e0 e1 : Bool) : List (List UInt8) := [epochB.data.toList] ++ (if e0 then [] else [(logB 0 0).data.toList]) ++ (if e1 then [] else [(logB 1 0).data.toList])
theorem agK_is : ∀ e0 e1 : Bool, Dk.insN epochB.data.toList (if e1 then (if e0 then [] else Dk.insN (logB 0 0).data.toList []) else Dk.insN (logB 1 0).data.toList (if e0 then [] else Dk.insN (logB 0 0).data.toList [])) = agK e0 e1 ∧ Dk.insN epochB.data.toList (agK e0 e1) = agK e0 e1 := by decide +kernel
theorem agK_all (W0 W1 : List (Nat × Nat)) (ep i : Nat) (h0 : AgnE ep i W0) (h1 : AgnE ep i W1) : allE ep (agF W0 W1) (agK (decide (W0 = [])) (decide (W1 = []))) = W0 ++ W1 := by
  obtain ⟨a0, a1, _⟩ := agF_at W0 W1
  have l0 := (logK_at (v := 0) (g := 0) (by decide) (by decide)).1
  have l1 := (logK_at (v := 1) (g := 0) (by decide) (by decide)).1
  have e0 : (if decide (W0 = []) = true then ([] : List (List UInt8)) else [(logB 0 0).data.toList]).flatMap (fun k => if isLogK k then upTo ep (agF W0 W1 k) else []) = W0 := by
    by_cases h : W0 = []
    · rw [if_pos (decide_eq_true h), h]; rfl
    · rw [if_neg (by simpa using h)]
      simp [l0, a0, h0.upTo]
  have e1 : (if decide (W1 = []) = true then ([] : List (List UInt8)) else [(logB 1 0).data.toList]).flatMap (fun k => if isLogK k then upTo ep (agF W0 W1 k) else []) = W1 := by
    by_cases h : W1 = []
    · rw [if_pos (decide_eq_true h), h]; rfl
    · rw [if_neg (by simpa using h)]
      simp [l1, a1, h1.upTo]
  unfold allE agK
  rw [List.flatMap_append, List.flatMap_append, e0, e1]
  simp [logK_epoch.1]
end Go.Proofs.YtglebmamlmiceaaGreatDoor

/- Layer 18: WalAgain, its first half: entries are added. (By jagain.py.) -/
namespace Go.Proofs.YtglebmamlmiceaaGreatDoor
open Go.RowKit QP

/-- a slice of entries as an object -/
def EI (base : Nat) (t k : ByteArray) (v : Value) (L : List Er) (w : World) (F : Nat → Prop) : Prop := EntsO w base t k v L ∧ ∀ j, F j ↔ (v.ownBlock = some j ∨ ∃ e ∈ L, j = e.g ∨ j = e.x)
theorem EI.res (base : Nat) (t k : ByteArray) (v : Value) (L : List Er) : Res (EI base t k v L) := by
  refine ⟨fun {w F} h i hi => ?_, fun {w w' F S} h ht hS => ?_⟩
  · obtain ⟨h1, h2⟩ := h
    rcases (h2 i).1 hi with e | ⟨e, he, rfl | rfl⟩
    · exact (World.ownsRow.lt h1.row i e).2
    · exact lt_of (h1.ent e he).1
    · exact (h1.ent e he).2.1.1
  · obtain ⟨h1, h2⟩ := h
    exact ⟨h1.turn ht (fun g hg => hS g ((h2 g).2 (Or.inl hg))) (fun e he => ⟨hS _ ((h2 _).2 (Or.inr ⟨e, he, Or.inl rfl⟩)), hS _ ((h2 _).2 (Or.inr ⟨e, he, Or.inr rfl⟩))⟩), h2⟩
theorem EI.low {base : Nat} {t k : ByteArray} {v : Value} {L : List Er} {w : World} {F : Nat → Prop} (h : EI base t k v L w F) : ∀ j, F j → base ≤ j := fun j hj => by
  obtain ⟨h1, h2⟩ := h
  rcases (h2 j).1 hj with e | ⟨e, he, rfl | rfl⟩
  · exact (World.ownsRow.lt h1.row j e).1
  · exact (h1.ent e he).2.2.1
  · exact (h1.ent e he).2.2.2.1
theorem agK_len : ∀ e0 e1 : Bool, (agK e0 e1).length ≤ 3 := by decide +kernel
theorem Stand.forget {t k : ByteArray} {l d : Nat} {s : Dk.Dsk} {L : Lg} {J : World → (Nat → Prop) → Prop} {w wr : World} (h : Stand (Sep (LD t k l d s L) J) w wr []) : Stand (Sep (DiskI d s) J) w wr [] := by
  obtain ⟨F, ⟨A1, B1, ⟨A, B, hD, _, _, hAF', _, _⟩, hE, hAB, hAF, hBF, _⟩, h2, _, _, h5⟩ := h
  exact Stand.start (Sep.mk hD hE (fun j hj hk => hAB j (hAF' j hj) hk)) (fun j hj => hj.elim (fun h => h2 j (hAF j (hAF' j h))) (fun h => h2 j (hBF j h))) h5
theorem AgnE.both {ep i : Nat} {W0 W1 : List (Nat × Nat)} (h0 : AgnE ep i W0) (h1 : AgnE ep i W1) : AgnE ep i (W0 ++ W1) := ⟨fun q hq => (List.mem_append.1 hq).elim (h0.all q) (h1.all q)⟩
theorem agK_of (W0 W1 : List (Nat × Nat)) : Dk.insN epochB.data.toList (if W1 = [] then (if W0 = [] then [] else Dk.insN (logB 0 0).data.toList []) else Dk.insN (logB 1 0).data.toList (if W0 = [] then [] else Dk.insN (logB 0 0).data.toList [])) = agK (decide (W0 = [])) (decide (W1 = [])) := by
  have h := (agK_is (decide (W0 = [])) (decide (W1 = []))).1
  simp only [decide_eq_true_eq] at h
  exact h
theorem agF_fine {W0 W1 : List (Nat × Nat)} {ep i : Nat} (h0 : AgnE ep i W0) (h1 : AgnE ep i W1) (hl : W0.length + W1.length = i) (hi : i ≤ 20) (he : 1 ≤ ep) (he2 : ep ≤ 2147483648) : Fine (agF W0 W1) [ep] := by
  obtain ⟨e1, e2, e3⟩ := agF_at W0 W1
  refine ⟨fun f => ?_, fun j h => ?_, fun e he => ?_, by simp⟩
  · by_cases a : f = (logB 0 0).data.toList
    · rw [a, e1]
      exact ⟨by omega, fun q hq => ⟨(h0.all q hq).1, by have := (h0.all q hq).2.2.2; omega⟩⟩
    · by_cases b : f = (logB 1 0).data.toList
      · rw [b, e2]
        exact ⟨by omega, fun q hq => ⟨(h1.all q hq).1, by have := (h1.all q hq).2.2.2; omega⟩⟩
      · rw [e3 f a b]
        exact ⟨Nat.zero_le _, (fun _ hq => by cases hq)⟩
  · match j, h with
    | 0, _ => exact (show 0 < ep by omega)
  · simp at he
    omega
theorem tid_up {ep ep' i l : Nat} (h : l < tidN ep i) (he : ep ≤ ep') : l < tidN ep' i := by
  exact Nat.lt_of_lt_of_le h (Nat.add_le_add_right (Nat.mul_le_mul_right _ he) _)
theorem tid_next (ep i : Nat) : tidN ep i < tidN ep (i + 1) := by
  unfold tidN
  omega

set_option maxRecDepth 100000 in
set_option maxHeartbeats 16000000 in
theorem again_walk (v : Value) (L : List Int) (w : World) (hv : SliceAt w v 1 (fun x : Int => [Value.int .i64 x]) L) : Calls Tryz.prog 6 #[v] w fun e w' => e = .returned (.bool true) ∧ Below w.heap.size w w' := by
  obtain ⟨a, c, rfl, h1, h2, h3⟩ := hv
  obtain ⟨n, hn⟩ : ∃ n, L.length = n := ⟨_, rfl⟩
  have HC : Hid (∀ u, Below w.heap.size w u → ∀ i, i < n → ∃ b off x, a = some ⟨b, off, none⟩ ∧ u.cell? ⟨b, off + i, none⟩ = some (.int .i64 x)) := fun u hu i hi => by
    have hi' : i < L.length := by omega
    obtain ⟨b, off, e1, e2, e3⟩ := h3 (fun e => by rw [e] at hi'; cases hi')
    have := e3 i hi' 0 _ rfl
    rw [Nat.mul_one, Nat.add_zero] at this
    exact ⟨b, off, L[i], e1, (hu.cell (p := ⟨b, off + i, none⟩) e2).trans this⟩
  unfold maxLen at h2
  rw [hn] at h1
  rw [hn]
  have HF0 : Hid (Fine wkF0 []) := ⟨fun _ => ⟨Nat.zero_le _, (fun _ hq => by cases hq)⟩, (fun _ h => by cases h), (fun _ he => by cases he), Nat.zero_le _⟩
  have HWk : Hid (∀ u, Calls Tryz.prog 8 #[] u fun e w' => e = .returned (.bool true) ∧ Below u.heap.size u w') := fun u => works_any u
  clear h3 hn
  go_enter Tryz.func6, Tryz.ntmps6
  go_wp2_with fail
  refine (dnew_i w).mono ?_
  rintro e w1 ⟨d, F1, rfl, hD1, hF1, hb1⟩
  have S1 : Hid (Stand (DiskI d Dk.blank) w w1 []) := Stand.start hD1 hF1 hb1
  clear hD1 hF1 hb1
  go_wp2_with fail
  refine (HWk.out _).mono ?_
  rintro e w2 ⟨rfl, hb2⟩
  have S2 : Hid (Stand (DiskI d Dk.blank) w w2 []) := S1.out.below (DiskI.res _ _) hb2
  clear S1 hb2 HWk
  have HO : Hid (Calls Tryz.prog 9 #[.pointer (some ⟨d, 0, none⟩), .int .i64 2] w2 fun e w' => ∃ l, e = .returned (.tuple #[.pointer (some ⟨l, 0, none⟩), .int .i64 0]) ∧ Hid (Stand (LD tB kB l d Dk.blank ⟨[([], 0), ([], 0)], 0, 0⟩) w w' [])) := by
    obtain ⟨F, hF, kF⟩ := S2.out.any
    refine (cOpen0 hF (qdisk_blank tB kB) HF0.out rfl (by decide) (by decide) (by decide) 2 (Or.inr (Or.inl rfl))).mono ?_
    rintro e w' ⟨l, e1, hg⟩
    exact ⟨l, e1, kF _ _ hg⟩
  go_wp2_with fail
  refine HO.out.mono ?_
  rintro e w3 ⟨l, rfl, S3⟩
  clear S2 HO
  go_wp2_with fail
  go_loopw [6, 7] (fun ve vi wr => ∃ (ep i : Nat) (W0 W1 : List (Nat × Nat)) (l0 l1 : Nat), ve = .int .i64 ep ∧ vi = .int .i64 i ∧ i ≤ n ∧ i ≤ 20 ∧ 1 ≤ ep ∧ ep ≤ i + 1 ∧ Hid (AgnE ep i W0 ∧ AgnE ep i W1 ∧ W0.length + W1.length = i ∧ l0 < tidN ep i ∧ l1 < tidN ep i) ∧ Hid (Stand (LD tB kB l d Dk.blank ⟨[(W0, l0), (W1, l1)], 0, 0⟩) w wr [])) (fun _ vi _ => 20 - (intOf vi).toNat)
  case atStart => exact ⟨1, 0, [], [], 0, 0, rfl, rfl, Nat.zero_le _, by decide, by decide, by decide, ⟨⟨fun _ hq => by cases hq⟩, ⟨fun _ hq => by cases hq⟩, rfl, by decide, by decide⟩, S3⟩
  case round =>
    obtain ⟨ep, i, W0, W1, l0, l1, rfl, rfl, hin, hi20, he1, he2, HP, HS⟩ := hrel
    by_cases hlt : i < n ∧ i < 20
    · obtain ⟨q1, q2⟩ := hlt
      have q3 : (i : Int) < (n : Int) := by omega
      have q4 : (i : Int) < 20 := by omega
      obtain ⟨b, off, x, rfl, cx⟩ := HC.out wr HS.out.base i q1
      obtain ⟨r3, hr3⟩ : ∃ r, x % 3 = r := ⟨_, rfl⟩
      by_cases hz : r3 = 0
      · have HAm3 : Hid (∀ u, Calls Tryz.prog 13 #[.int .i64 x, .int .i64 3] u fun e w' => e = .returned (.int .i64 r3) ∧ u = w') := fun u => by
          have := among_any x 3 u (by decide) (by decide)
          rw [hr3] at this
          exact this
        obtain rfl : r3 = 0 := hz
        clear hr3
        rcases (show x % 2 = 0 ∨ x % 2 = 1 by omega) with hr | hr
        · have HAm2 : Hid (∀ u, Calls Tryz.prog 13 #[.int .i64 x, .int .i64 2] u fun e w' => e = .returned (.int .i64 0) ∧ u = w') := fun u => by
            have := among_any x 2 u (by decide) (by decide)
            rw [hr] at this
            exact this
          have HEn : Hid (∀ u, Calls Tryz.prog 14 #[.int .i64 ((ep : Int) + 1), .int .i64 (i : Int), .int .i64 (i : Int)] u fun e w' => ∃ g x, e = .returned (.agg #[.int .u64 (tidN (ep + 1) i : Int), .slice (some ⟨g, 0, none⟩) 1 1]) ∧ Hid (w'.heap[g]? = some (boxJ tB kB x) ∧ OneAt w' x 2 (i : Int) ByteArray.empty ∧ u.heap.size ≤ g ∧ u.heap.size ≤ x) ∧ Below u.heap.size u w') := fun u => centry (ep + 1) i i u (by omega) (by omega)
          obtain ⟨T, hT⟩ : ∃ T, tidN (ep + 1) i = T := ⟨_, rfl⟩
          rw [hT] at HEn
          have HPn : Hid (AgnE (ep + 1) (i + 1) (W0 ++ [(T, i)]) ∧ TidOk T ∧ T / 8388608 = (ep + 1) ∧ l0 < T ∧ l1 < T ∧ T < tidN (ep + 1) (i + 1)) := by
            obtain ⟨p0, p1, p2, p3, p4⟩ := HP.out
            obtain ⟨k1, k2⟩ := tid_ok (ep := (ep + 1)) (sq := i) (by omega) (by omega)
            rw [hT] at k1 k2
            refine ⟨by rw [← hT]; exact p0.add (by omega) (by omega) (by omega), k1, k2, ?_, ?_, ?_⟩
            · rw [← hT]; exact tid_up p3 (by omega)
            · rw [← hT]; exact tid_up p4 (by omega)
            · rw [← hT]; exact tid_next _ _
          have HAdd : Hid (∀ g y u, Stand (LD tB kB l d Dk.blank ⟨[(W0, l0), (W1, l1)], 0, 0⟩) w u [] → u.heap[g]? = some (boxJ tB kB y) → OneAt u y 2 (i : Int) ByteArray.empty → Calls Tryz.prog 15 #[.pointer (some ⟨l, 0, none⟩), .int .i64 0, .agg #[.int .u64 (T : Int), .slice (some ⟨g, 0, none⟩) 1 1]] u fun e w' => e = .returned (.int .i64 0) ∧ Hid (Stand (LD tB kB l d Dk.blank ⟨[(W0 ++ [(T, i)], T), (W1, l1)], 0, 0⟩) w w' [])) := fun g y u hS hg hy => by
            obtain ⟨F, hF, kF⟩ := hS.any
            obtain ⟨_, t1, t2, t3, t4, _⟩ := HPn.out
            obtain ⟨_, _, p2, _, _⟩ := HP.out
            exact (cAdd_ok hF 0 T i g y (W0, l0) rfl (show W0.length ≤ 900 by omega) t1 hg hy (by omega) (by decide) (by decide) t3 (show 0 < T / 8388608 by omega)).mono fun e w' ⟨e1, hg⟩ => ⟨e1, kF _ _ hg⟩
          clear hr
          go_wp2_with (first
            | (go_at_call 13; first | ((with_reducible refine (HAm3.out _).mono ?_); rintro e w4 ⟨rfl, rfl⟩) | ((with_reducible refine (HAm2.out _).mono ?_); rintro e w4 ⟨rfl, rfl⟩))
            | (go_at_call 14; (with_reducible refine (HEn.out _).mono ?_); rintro e w5 ⟨g, y, rfl, E5, hb5⟩; have HA5 := HAdd.out g y w5 (HS.out.below (LD.res _ _ _ _ _ _) hb5) E5.out.1 E5.out.2.1; clear hb5)
            | (go_at_call 15; (with_reducible refine HA5.mono ?_); rintro e w6 ⟨rfl, S6⟩; clear HA5))
          refine ⟨⟨(ep + 1), i + 1, W0 ++ [(T, i)], W1, T, l1, by go_num, by go_num, by omega, by omega, by omega, by omega, ?_, S6⟩, by simp [intOf]; omega⟩
          obtain ⟨p0, p1, p2, p3, p4⟩ := HP.out
          obtain ⟨n1, _, _, n2, n3, n4⟩ := HPn.out
          exact ⟨n1, p1.up (by omega) (by omega), by rw [List.length_append]; show W0.length + 1 + W1.length = i + 1; omega, n4, by omega⟩
        · have HAm2 : Hid (∀ u, Calls Tryz.prog 13 #[.int .i64 x, .int .i64 2] u fun e w' => e = .returned (.int .i64 1) ∧ u = w') := fun u => by
            have := among_any x 2 u (by decide) (by decide)
            rw [hr] at this
            exact this
          have HEn : Hid (∀ u, Calls Tryz.prog 14 #[.int .i64 ((ep : Int) + 1), .int .i64 (i : Int), .int .i64 (i : Int)] u fun e w' => ∃ g x, e = .returned (.agg #[.int .u64 (tidN (ep + 1) i : Int), .slice (some ⟨g, 0, none⟩) 1 1]) ∧ Hid (w'.heap[g]? = some (boxJ tB kB x) ∧ OneAt w' x 2 (i : Int) ByteArray.empty ∧ u.heap.size ≤ g ∧ u.heap.size ≤ x) ∧ Below u.heap.size u w') := fun u => centry (ep + 1) i i u (by omega) (by omega)
          obtain ⟨T, hT⟩ : ∃ T, tidN (ep + 1) i = T := ⟨_, rfl⟩
          rw [hT] at HEn
          have HPn : Hid (AgnE (ep + 1) (i + 1) (W1 ++ [(T, i)]) ∧ TidOk T ∧ T / 8388608 = (ep + 1) ∧ l0 < T ∧ l1 < T ∧ T < tidN (ep + 1) (i + 1)) := by
            obtain ⟨p0, p1, p2, p3, p4⟩ := HP.out
            obtain ⟨k1, k2⟩ := tid_ok (ep := (ep + 1)) (sq := i) (by omega) (by omega)
            rw [hT] at k1 k2
            refine ⟨by rw [← hT]; exact p1.add (by omega) (by omega) (by omega), k1, k2, ?_, ?_, ?_⟩
            · rw [← hT]; exact tid_up p3 (by omega)
            · rw [← hT]; exact tid_up p4 (by omega)
            · rw [← hT]; exact tid_next _ _
          have HAdd : Hid (∀ g y u, Stand (LD tB kB l d Dk.blank ⟨[(W0, l0), (W1, l1)], 0, 0⟩) w u [] → u.heap[g]? = some (boxJ tB kB y) → OneAt u y 2 (i : Int) ByteArray.empty → Calls Tryz.prog 15 #[.pointer (some ⟨l, 0, none⟩), .int .i64 1, .agg #[.int .u64 (T : Int), .slice (some ⟨g, 0, none⟩) 1 1]] u fun e w' => e = .returned (.int .i64 0) ∧ Hid (Stand (LD tB kB l d Dk.blank ⟨[(W0, l0), (W1 ++ [(T, i)], T)], 0, 0⟩) w w' [])) := fun g y u hS hg hy => by
            obtain ⟨F, hF, kF⟩ := hS.any
            obtain ⟨_, t1, t2, t3, t4, _⟩ := HPn.out
            obtain ⟨_, _, p2, _, _⟩ := HP.out
            exact (cAdd_ok hF 1 T i g y (W1, l1) rfl (show W1.length ≤ 900 by omega) t1 hg hy (by omega) (by decide) (by decide) t4 (show 0 < T / 8388608 by omega)).mono fun e w' ⟨e1, hg⟩ => ⟨e1, kF _ _ hg⟩
          clear hr
          go_wp2_with (first
            | (go_at_call 13; first | ((with_reducible refine (HAm3.out _).mono ?_); rintro e w4 ⟨rfl, rfl⟩) | ((with_reducible refine (HAm2.out _).mono ?_); rintro e w4 ⟨rfl, rfl⟩))
            | (go_at_call 14; (with_reducible refine (HEn.out _).mono ?_); rintro e w5 ⟨g, y, rfl, E5, hb5⟩; have HA5 := HAdd.out g y w5 (HS.out.below (LD.res _ _ _ _ _ _) hb5) E5.out.1 E5.out.2.1; clear hb5)
            | (go_at_call 15; (with_reducible refine HA5.mono ?_); rintro e w6 ⟨rfl, S6⟩; clear HA5))
          refine ⟨⟨(ep + 1), i + 1, W0, W1 ++ [(T, i)], l0, T, by go_num, by go_num, by omega, by omega, by omega, by omega, ?_, S6⟩, by simp [intOf]; omega⟩
          obtain ⟨p0, p1, p2, p3, p4⟩ := HP.out
          obtain ⟨n1, _, _, n2, n3, n4⟩ := HPn.out
          exact ⟨p0.up (by omega) (by omega), n1, by rw [List.length_append]; show W0.length + (W1.length + 1) = i + 1; omega, by omega, n4⟩
      · have HAm3 : Hid (∀ u, Calls Tryz.prog 13 #[.int .i64 x, .int .i64 3] u fun e w' => e = .returned (.int .i64 r3) ∧ u = w') := fun u => by
          have := among_any x 3 u (by decide) (by decide)
          rw [hr3] at this
          exact this
        have z1 : (r3 == 0) = false := by rw [beq_eq_false_iff_ne]; exact hz
        have z2 : decide (r3 = 0) = false := decide_eq_false hz
        clear hr3
        rcases (show x % 2 = 0 ∨ x % 2 = 1 by omega) with hr | hr
        · have HAm2 : Hid (∀ u, Calls Tryz.prog 13 #[.int .i64 x, .int .i64 2] u fun e w' => e = .returned (.int .i64 0) ∧ u = w') := fun u => by
            have := among_any x 2 u (by decide) (by decide)
            rw [hr] at this
            exact this
          have HEn : Hid (∀ u, Calls Tryz.prog 14 #[.int .i64 (ep : Int), .int .i64 (i : Int), .int .i64 (i : Int)] u fun e w' => ∃ g x, e = .returned (.agg #[.int .u64 (tidN ep i : Int), .slice (some ⟨g, 0, none⟩) 1 1]) ∧ Hid (w'.heap[g]? = some (boxJ tB kB x) ∧ OneAt w' x 2 (i : Int) ByteArray.empty ∧ u.heap.size ≤ g ∧ u.heap.size ≤ x) ∧ Below u.heap.size u w') := fun u => centry ep i i u (by omega) (by omega)
          obtain ⟨T, hT⟩ : ∃ T, tidN ep i = T := ⟨_, rfl⟩
          rw [hT] at HEn
          have HPn : Hid (AgnE ep (i + 1) (W0 ++ [(T, i)]) ∧ TidOk T ∧ T / 8388608 = ep ∧ l0 < T ∧ l1 < T ∧ T < tidN ep (i + 1)) := by
            obtain ⟨p0, p1, p2, p3, p4⟩ := HP.out
            obtain ⟨k1, k2⟩ := tid_ok (ep := ep) (sq := i) (by omega) (by omega)
            rw [hT] at k1 k2
            refine ⟨by rw [← hT]; exact p0.add (by omega) (by omega) (by omega), k1, k2, ?_, ?_, ?_⟩
            · rw [← hT]; exact tid_up p3 (by omega)
            · rw [← hT]; exact tid_up p4 (by omega)
            · rw [← hT]; exact tid_next _ _
          have HAdd : Hid (∀ g y u, Stand (LD tB kB l d Dk.blank ⟨[(W0, l0), (W1, l1)], 0, 0⟩) w u [] → u.heap[g]? = some (boxJ tB kB y) → OneAt u y 2 (i : Int) ByteArray.empty → Calls Tryz.prog 15 #[.pointer (some ⟨l, 0, none⟩), .int .i64 0, .agg #[.int .u64 (T : Int), .slice (some ⟨g, 0, none⟩) 1 1]] u fun e w' => e = .returned (.int .i64 0) ∧ Hid (Stand (LD tB kB l d Dk.blank ⟨[(W0 ++ [(T, i)], T), (W1, l1)], 0, 0⟩) w w' [])) := fun g y u hS hg hy => by
            obtain ⟨F, hF, kF⟩ := hS.any
            obtain ⟨_, t1, t2, t3, t4, _⟩ := HPn.out
            obtain ⟨_, _, p2, _, _⟩ := HP.out
            exact (cAdd_ok hF 0 T i g y (W0, l0) rfl (show W0.length ≤ 900 by omega) t1 hg hy (by omega) (by decide) (by decide) t3 (show 0 < T / 8388608 by omega)).mono fun e w' ⟨e1, hg⟩ => ⟨e1, kF _ _ hg⟩
          clear hr
          go_wp2_with (first
            | (go_at_call 13; first | ((with_reducible refine (HAm3.out _).mono ?_); rintro e w4 ⟨rfl, rfl⟩) | ((with_reducible refine (HAm2.out _).mono ?_); rintro e w4 ⟨rfl, rfl⟩))
            | (go_at_call 14; (with_reducible refine (HEn.out _).mono ?_); rintro e w5 ⟨g, y, rfl, E5, hb5⟩; have HA5 := HAdd.out g y w5 (HS.out.below (LD.res _ _ _ _ _ _) hb5) E5.out.1 E5.out.2.1; clear hb5)
            | (go_at_call 15; (with_reducible refine HA5.mono ?_); rintro e w6 ⟨rfl, S6⟩; clear HA5))
          refine ⟨⟨ep, i + 1, W0 ++ [(T, i)], W1, T, l1, by go_num, by go_num, by omega, by omega, by omega, by omega, ?_, S6⟩, by simp [intOf]; omega⟩
          obtain ⟨p0, p1, p2, p3, p4⟩ := HP.out
          obtain ⟨n1, _, _, n2, n3, n4⟩ := HPn.out
          exact ⟨n1, p1.up (by omega) (by omega), by rw [List.length_append]; show W0.length + 1 + W1.length = i + 1; omega, n4, by omega⟩
        · have HAm2 : Hid (∀ u, Calls Tryz.prog 13 #[.int .i64 x, .int .i64 2] u fun e w' => e = .returned (.int .i64 1) ∧ u = w') := fun u => by
            have := among_any x 2 u (by decide) (by decide)
            rw [hr] at this
            exact this
          have HEn : Hid (∀ u, Calls Tryz.prog 14 #[.int .i64 (ep : Int), .int .i64 (i : Int), .int .i64 (i : Int)] u fun e w' => ∃ g x, e = .returned (.agg #[.int .u64 (tidN ep i : Int), .slice (some ⟨g, 0, none⟩) 1 1]) ∧ Hid (w'.heap[g]? = some (boxJ tB kB x) ∧ OneAt w' x 2 (i : Int) ByteArray.empty ∧ u.heap.size ≤ g ∧ u.heap.size ≤ x) ∧ Below u.heap.size u w') := fun u => centry ep i i u (by omega) (by omega)
          obtain ⟨T, hT⟩ : ∃ T, tidN ep i = T := ⟨_, rfl⟩
          rw [hT] at HEn
          have HPn : Hid (AgnE ep (i + 1) (W1 ++ [(T, i)]) ∧ TidOk T ∧ T / 8388608 = ep ∧ l0 < T ∧ l1 < T ∧ T < tidN ep (i + 1)) := by
            obtain ⟨p0, p1, p2, p3, p4⟩ := HP.out
            obtain ⟨k1, k2⟩ := tid_ok (ep := ep) (sq := i) (by omega) (by omega)
            rw [hT] at k1 k2
            refine ⟨by rw [← hT]; exact p1.add (by omega) (by omega) (by omega), k1, k2, ?_, ?_, ?_⟩
            · rw [← hT]; exact tid_up p3 (by omega)
            · rw [← hT]; exact tid_up p4 (by omega)
            · rw [← hT]; exact tid_next _ _
          have HAdd : Hid (∀ g y u, Stand (LD tB kB l d Dk.blank ⟨[(W0, l0), (W1, l1)], 0, 0⟩) w u [] → u.heap[g]? = some (boxJ tB kB y) → OneAt u y 2 (i : Int) ByteArray.empty → Calls Tryz.prog 15 #[.pointer (some ⟨l, 0, none⟩), .int .i64 1, .agg #[.int .u64 (T : Int), .slice (some ⟨g, 0, none⟩) 1 1]] u fun e w' => e = .returned (.int .i64 0) ∧ Hid (Stand (LD tB kB l d Dk.blank ⟨[(W0, l0), (W1 ++ [(T, i)], T)], 0, 0⟩) w w' [])) := fun g y u hS hg hy => by
            obtain ⟨F, hF, kF⟩ := hS.any
            obtain ⟨_, t1, t2, t3, t4, _⟩ := HPn.out
            obtain ⟨_, _, p2, _, _⟩ := HP.out
            exact (cAdd_ok hF 1 T i g y (W1, l1) rfl (show W1.length ≤ 900 by omega) t1 hg hy (by omega) (by decide) (by decide) t4 (show 0 < T / 8388608 by omega)).mono fun e w' ⟨e1, hg⟩ => ⟨e1, kF _ _ hg⟩
          clear hr
          go_wp2_with (first
            | (go_at_call 13; first | ((with_reducible refine (HAm3.out _).mono ?_); rintro e w4 ⟨rfl, rfl⟩) | ((with_reducible refine (HAm2.out _).mono ?_); rintro e w4 ⟨rfl, rfl⟩))
            | (go_at_call 14; (with_reducible refine (HEn.out _).mono ?_); rintro e w5 ⟨g, y, rfl, E5, hb5⟩; have HA5 := HAdd.out g y w5 (HS.out.below (LD.res _ _ _ _ _ _) hb5) E5.out.1 E5.out.2.1; clear hb5)
            | (go_at_call 15; (with_reducible refine HA5.mono ?_); rintro e w6 ⟨rfl, S6⟩; clear HA5))
          refine ⟨⟨ep, i + 1, W0, W1 ++ [(T, i)], l0, T, by go_num, by go_num, by omega, by omega, by omega, by omega, ?_, S6⟩, by simp [intOf]; omega⟩
          obtain ⟨p0, p1, p2, p3, p4⟩ := HP.out
          obtain ⟨n1, _, _, n2, n3, n4⟩ := HPn.out
          exact ⟨p0.up (by omega) (by omega), n1, by rw [List.length_append]; show W0.length + (W1.length + 1) = i + 1; omega, by omega, n4⟩
    · have hx : (n : Int) = (i : Int) ∨ ((i : Int) < (n : Int) ∧ i = 20) := by omega
      have hmin : min (n : Int) 20 = (i : Int) := by omega
      rcases hx with hx | ⟨hx, hx2⟩
      · have hx1 : ¬ (i : Int) < (n : Int) := by omega
        obtain rfl : n = i := by omega
        have HFl0 : Hid (Calls Tryz.prog 16 #[.pointer (some ⟨l, 0, none⟩), .int .i64 0] wr fun e w' => e = .returned (.int .i64 0) ∧ ∃ s : Dk.Dsk, Hid (QDisk s tB kB (updF wkF0 (logB 0 0).data.toList (wkF0 (logB 0 0).data.toList ++ W0)) [] ∧ s.fs.length ≤ 1 ∧ Dk.keysL s.fs = if W0 = [] then [] else Dk.insN (logB 0 0).data.toList []) ∧ Hid (Stand (LD tB kB l d s ⟨[([], l0), (W1, l1)], 0, 0⟩) w w' [])) := by
          obtain ⟨F, hF, kF⟩ := HS.out.any
          obtain ⟨_, _, p2, _, _⟩ := HP.out
          refine (cFlush hF (qdisk_blank tB kB) 0 (W0, l0) rfl (by decide) (show 0 < 100 by decide) (by decide) (by decide) (show 0 + W0.length ≤ 1000 by omega) (by decide)).mono ?_
          rintro e w' ⟨e1, s2, q1, q2, q3, hg⟩
          exact ⟨e1, s2, ⟨q1, q2, q3⟩, kF _ _ hg⟩
        go_wp2_with fail
        refine HFl0.out.mono ?_
        rintro e w4 ⟨rfl, s4, Q4, S4⟩
        clear HFl0 HS
        have HFl1 : Hid (Calls Tryz.prog 16 #[.pointer (some ⟨l, 0, none⟩), .int .i64 1] w4 fun e w' => e = .returned (.int .i64 0) ∧ ∃ s : Dk.Dsk, Hid (QDisk s tB kB (agF W0 W1) [] ∧ s.fs.length ≤ 2 ∧ Dk.keysL s.fs = if W1 = [] then (if W0 = [] then [] else Dk.insN (logB 0 0).data.toList []) else Dk.insN (logB 1 0).data.toList (if W0 = [] then [] else Dk.insN (logB 0 0).data.toList [])) ∧ Hid (Stand (LD tB kB l d s ⟨[([], l0), ([], l1)], 0, 0⟩) w w' [])) := by
          obtain ⟨F, hF, kF⟩ := S4.out.any
          obtain ⟨q1, q2, q3⟩ := Q4.out
          obtain ⟨_, _, p2, _, _⟩ := HP.out
          have e10 : updF wkF0 (logB 0 0).data.toList (wkF0 (logB 0 0).data.toList ++ W0) (logB 1 0).data.toList = [] := by
            unfold updF
            rw [if_neg log_ne]
          refine (cFlush hF q1 1 (W1, l1) rfl (by decide) (show 0 < 100 by decide) (by decide) (by decide) (by show (updF wkF0 (logB 0 0).data.toList (wkF0 (logB 0 0).data.toList ++ W0) (logB 1 0).data.toList).length + W1.length ≤ 1000; rw [e10]; show 0 + _ ≤ _; omega) (by omega)).mono ?_
          rintro e w' ⟨e1, s2, p1, p2, p3, hg⟩
          exact ⟨e1, s2, ⟨p1, by omega, by rw [p3, q3]⟩, kF _ _ hg⟩
        go_wp2_with fail
        refine HFl1.out.mono ?_
        rintro e w5 ⟨rfl, s5, Q5, S5⟩
        clear HFl1 S4 Q4
        have HM : Hid (Calls Tryz.prog 17 #[.pointer (some ⟨l, 0, none⟩), .int .i64 (ep : Int)] w5 fun e w' => e = .returned (.int .i64 0) ∧ ∃ s : Dk.Dsk, Hid (QDisk s tB kB (agF W0 W1) [ep] ∧ Dk.keysL s.fs = agK (decide (W0 = [])) (decide (W1 = []))) ∧ Hid (Stand (LD tB kB l d s ⟨[([], l0), ([], l1)], ep, 0⟩) w w' [])) := by
          obtain ⟨F, hF, kF⟩ := S5.out.any
          obtain ⟨q1, q2, q3⟩ := Q5.out
          refine (cMark hF q1 ep (show 0 < ep by omega) (by omega) (fun wk hwk => ?_) (by decide) (by omega)).mono ?_
          · simp at hwk
            rcases hwk with rfl | rfl <;> rfl
          · rintro e w' ⟨e1, s2, p1, p2, p3, hg⟩
            exact ⟨e1, s2, ⟨p1, by rw [p3, q3, agK_of]⟩, kF _ _ hg⟩
        go_wp2_with fail
        refine HM.out.mono ?_
        rintro e w6 ⟨rfl, s6, Q6, S6⟩
        clear HM S5 Q5
        have HLd : Hid (Calls Tryz.prog 19 #[.pointer (some ⟨d, 0, none⟩)] w6 fun e w' => ∃ A c, e = .returned (.tuple #[.slice A n c, .int .i64 (ep : Int), .int .i64 0]) ∧ ∃ R, Hid (R.map Er.tn = W0 ++ W1) ∧ Hid (Stand (Sep (DiskI d s6) (EI w6.heap.size tB kB (.slice A n c) (sortE R))) w w' [])) := by
          obtain ⟨q1, q2⟩ := Q6.out
          obtain ⟨p0, p1, p2, _, _⟩ := HP.out
          obtain ⟨F, ⟨A, B, hD, _, hAB, hAF, _, _⟩, hF2, _, _, hbw⟩ := S6.out
          have hall := agK_all W0 W1 ep n p0 p1
          refine (cLoad hD q1 (agF_fine p0 p1 p2 (by omega) he1 (by omega)) (by decide) (by decide) (by rw [q2, show lastE [ep] = ep from rfl, hall, List.length_append]; omega)).mono ?_
          rintro e w' ⟨v, e1, R, hE, hR, hB⟩
          rw [q2, show lastE [ep] = ep from rfl, hall] at hR
          obtain ⟨A0, c0, rfl⟩ := row_shapeJ hE.out.row
          have hlen : (sortE R).length = n := by
            rw [(sortE_facts R).1, ← List.length_map (f := Er.tn), hR.out, List.length_append]
            exact p2
          rw [hlen] at e1 hE
          have hEI : EI w6.heap.size tB kB (.slice A0 n c0) (sortE R) w' _ := ⟨hE.out, fun _ => Iff.rfl⟩
          refine ⟨A0, c0, e1, R, hR, ?_⟩
          refine Stand.start (Sep.mk (hD.below hB.out) hEI fun j hj hk => ?_) (fun j hj => ?_) (hbw.trans (hB.out.mono hbw.size))
          · have h1 := (DiskI.res d s6).lt hD j hj
            have h2 := hEI.low j hk
            omega
          · rcases hj with hj | hj
            · exact hF2 j (hAF j hj)
            · have h2 := hEI.low j hj
              have := hbw.size
              omega
        go_wp2_with fail
        refine HLd.out.mono ?_
        rintro e w7 ⟨A, c1, rfl, R, HR, S7⟩
        obtain ⟨base, hbase⟩ : ∃ b, w6.heap.size = b := ⟨_, rfl⟩
        rw [hbase] at S7
        clear HLd S6 hbase
        go_wp2_with fail
        have HE1 : Hid (∀ u, Calls Tryz.prog 14 #[.int .i64 (ep : Int), .int .i64 99, .int .i64 1] u fun e w' => ∃ g x, e = .returned (.agg #[.int .u64 (tidN ep 99 : Int), .slice (some ⟨g, 0, none⟩) 1 1]) ∧ Hid (w'.heap[g]? = some (boxJ tB kB x) ∧ OneAt w' x 2 ((1 : Nat) : Int) ByteArray.empty ∧ u.heap.size ≤ g ∧ u.heap.size ≤ x) ∧ Below u.heap.size u w') := fun u => centry ep 99 1 u (by omega) (by decide)
        have HE2 : Hid (∀ u, Calls Tryz.prog 14 #[.int .i64 ((ep : Int) + 1), .int .i64 0, .int .i64 1] u fun e w' => ∃ g x, e = .returned (.agg #[.int .u64 (tidN (ep + 1) 0 : Int), .slice (some ⟨g, 0, none⟩) 1 1]) ∧ Hid (w'.heap[g]? = some (boxJ tB kB x) ∧ OneAt w' x 2 ((1 : Nat) : Int) ByteArray.empty ∧ u.heap.size ≤ g ∧ u.heap.size ≤ x) ∧ Below u.heap.size u w') := fun u => centry (ep + 1) 0 1 u (by omega) (by decide)
        have k1 := tid_ok (ep := ep) (sq := 99) (by omega) (by decide)
        have k2 := tid_ok (ep := ep + 1) (sq := 0) (by omega) (by decide)
        have k3 : 0 < tidN ep 99 := Nat.lt_of_lt_of_le (by decide) (Nat.le_add_left (99 * 8) (ep * 8388608))
        have k4 : 0 < tidN (ep + 1) 0 := Nat.lt_of_lt_of_le (show 0 < (ep + 1) * 8388608 from Nat.mul_pos (Nat.succ_pos _) (by decide)) (Nat.le_add_right _ _)
        obtain ⟨Ta, hTa⟩ : ∃ T, tidN ep 99 = T := ⟨_, rfl⟩
        obtain ⟨Tb, hTb⟩ : ∃ T, tidN (ep + 1) 0 = T := ⟨_, rfl⟩
        rw [hTa] at HE1 k1 k3
        rw [hTb] at HE2 k2 k4
        have HK : Hid ((TidOk Ta ∧ Ta / 8388608 = ep) ∧ (TidOk Tb ∧ Tb / 8388608 = ep + 1) ∧ 0 < Ta ∧ 0 < Tb) := ⟨k1, k2, k3, k4⟩
        clear k1 k2 k3 k4 hTa hTb
        go_loopw [100] (fun vj wr => ∃ (j : Nat) (s : Dk.Dsk), j ≤ 3 ∧ vj = .int .i64 j ∧ Hid (QDisk s tB kB (agF W0 W1) [ep] ∧ Dk.keysL s.fs = agK (decide (W0 = [])) (decide (W1 = []))) ∧ Hid (Stand (Sep (DiskI d s) (EI base tB kB (.slice A n c1) (sortE R))) w wr [])) (fun vj _ => 3 - (intOf vj).toNat)
        case atStart => exact ⟨0, s6, by omega, rfl, Q6, S7⟩
        case round =>
          obtain ⟨j, s, hj, rfl, QS, SS⟩ := hrel
          by_cases hj3 : j < 3
          · have hjI : (j : Int) < 3 := by omega
            have HO2 : Hid (Calls Tryz.prog 9 #[.pointer (some ⟨d, 0, none⟩), .int .i64 1] wr fun e w' => ∃ l2, ∃ s2 : Dk.Dsk, ∃ G : Nat, e = .returned (.tuple #[.pointer (some ⟨l2, 0, none⟩), .int .i64 0]) ∧ Hid (QDisk s2 tB kB (agF W0 W1) [ep] ∧ Dk.keysL s2.fs = agK (decide (W0 = [])) (decide (W1 = []))) ∧ Hid (Stand (Sep (LD tB kB l2 d s2 ⟨[([], 0)], ep, G⟩) (EI base tB kB (.slice A n c1) (sortE R))) w w' [])) := by
              obtain ⟨F, ⟨A1, B1, hD, hE, hAB, hAF, hBF, _⟩, kF⟩ := SS.out.any
              obtain ⟨q1, q2⟩ := QS.out
              obtain ⟨p0, p1, p2, _, _⟩ := HP.out
              have hall := agK_all W0 W1 ep n p0 p1
              have h64 : s.fs.length < 64 := by
                have h1 : s.fs.length = (Dk.keysL s.fs).length := by simp [Dk.keysL]
                have h2 := agK_len (decide (W0 = [])) (decide (W1 = []))
                rw [← q2] at h2
                omega
              obtain ⟨_, _, _, _, _, r6, _, _, r9⟩ := q1.renew ep h64
              refine (cOpenM hD q1 (agF_fine p0 p1 p2 (by omega) he1 (by omega)) (show 0 < ep by omega) (by decide) (by decide) (by rw [q2, show lastE [ep] = ep from rfl, hall, List.length_append]; omega) 1 (Or.inl rfl) h64).mono ?_
              rintro e w' ⟨l2, e1, hg⟩
              exact ⟨l2, _, _, e1, ⟨r6, by rw [r9, q2]; exact (agK_is _ _).2⟩, kF _ _ (Sep.goL (EI.res _ _ _ _ _) hE hAB hAF hBF hg)⟩
            go_wp2_with fail
            refine HO2.out.mono ?_
            rintro e w8 ⟨l2, s2, G, rfl, Q8, S8⟩
            clear HO2 SS QS
            have HL2 : Hid (Calls Tryz.prog 19 #[.pointer (some ⟨d, 0, none⟩)] w8 fun e w' => ∃ A2 c2, e = .returned (.tuple #[.slice A2 n c2, .int .i64 (ep : Int), .int .i64 0]) ∧ Hid (Stand (Sep (LD tB kB l2 d s2 ⟨[([], 0)], ep, G⟩) (EI base tB kB (.slice A n c1) (sortE R))) w w' []) ∧ Hid (Calls Tryz.prog 21 #[.slice A n c1, .slice A2 n c2] w' fun e u => e = .returned (.bool true) ∧ Below w'.heap.size w' u)) := by
              obtain ⟨F, ⟨A1, B1, hLD, hE, _, _, _, _⟩, _⟩ := S8.out.any
              obtain ⟨A2, _, hD, _, _, _, _, _⟩ := id hLD
              obtain ⟨q1, q2⟩ := Q8.out
              obtain ⟨p0, p1, p2, _, _⟩ := HP.out
              have hall := agK_all W0 W1 ep n p0 p1
              refine (cLoad hD q1 (agF_fine p0 p1 p2 (by omega) he1 (by omega)) (by decide) (by decide) (by rw [q2, show lastE [ep] = ep from rfl, hall, List.length_append]; omega)).mono ?_
              rintro e w' ⟨v2, e1, R2, hE2, hR2, hB⟩
              rw [q2, show lastE [ep] = ep from rfl, hall] at hR2
              obtain ⟨A0, c0, rfl⟩ := row_shapeJ hE2.out.row
              have hlen : (sortE R2).length = n := by
                rw [(sortE_facts R2).1, ← List.length_map (f := Er.tn), hR2.out, List.length_append]
                exact p2
              have hlen1 : (sortE R).length ≤ 1000 := by
                rw [(sortE_facts R).1, ← List.length_map (f := Er.tn), HR.out, List.length_append]
                omega
              rw [hlen] at e1 hE2
              refine ⟨A0, c0, e1, S8.out.below (Sep.res (LD.res _ _ _ _ _ _) (EI.res _ _ _ _ _)) hB.out, ?_⟩
              exact sameEntries_any tB kB _ _ (sortE R) (sortE R2) base w8.heap.size w' (hE.1.below hB.out) hE2.out (sortE_same (HR.out.trans hR2.out.symm) (by rw [HR.out]; exact (p0.both p1).inj)) hlen1
            go_wp2_with fail
            refine HL2.out.mono ?_
            rintro e w9 ⟨A2, c2, rfl, S9, HSE⟩
            clear HL2 S8
            go_wp2_with fail
            refine HSE.out.mono ?_
            rintro e w10 ⟨rfl, hb10⟩
            have S10 : Hid (Stand (Sep (LD tB kB l2 d s2 ⟨[([], 0)], ep, G⟩) (EI base tB kB (.slice A n c1) (sortE R))) w w10 []) := S9.out.below (Sep.res (LD.res _ _ _ _ _ _) (EI.res _ _ _ _ _)) hb10
            clear HSE S9 hb10
            go_wp2_with fail
            refine (HE1.out _).mono ?_
            rintro e w11 ⟨g1, y1, rfl, E1, hb11⟩
            have S11 : Hid (Stand (Sep (LD tB kB l2 d s2 ⟨[([], 0)], ep, G⟩) (EI base tB kB (.slice A n c1) (sortE R))) w w11 []) := S10.out.below (Sep.res (LD.res _ _ _ _ _ _) (EI.res _ _ _ _ _)) hb11
            clear S10 hb11
            have HA1 : Hid (Calls Tryz.prog 15 #[.pointer (some ⟨l2, 0, none⟩), .int .i64 0, .agg #[.int .u64 (Ta : Int), .slice (some ⟨g1, 0, none⟩) 1 1]] w11 fun e w' => e = .returned (.int .i64 111) ∧ Hid (Stand (Sep (LD tB kB l2 d s2 ⟨[([], 0)], ep, G⟩) (EI base tB kB (.slice A n c1) (sortE R))) w w' [])) := by
              obtain ⟨F, ⟨A1, B1, hLD, hE, hAB, hAF, hBF, _⟩, kF⟩ := S11.out.any
              have ht := HK.out
              exact (cAdd_old hLD 0 Ta 1 g1 y1 ([], 0) rfl ht.1.1 E1.out.1 E1.out.2.1 (by decide) (by decide) (by decide) ht.2.2.1 (Nat.le_of_eq ht.1.2)).mono fun e w' ⟨e1, hg⟩ => ⟨e1, kF _ _ (Sep.goL (EI.res _ _ _ _ _) hE hAB hAF hBF hg)⟩
            go_wp2_with fail
            refine HA1.out.mono ?_
            rintro e w12 ⟨rfl, S12⟩
            clear HA1 S11 E1
            go_wp2_with fail
            refine (HE2.out _).mono ?_
            rintro e w13 ⟨g2, y2, rfl, E2, hb13⟩
            have S13 : Hid (Stand (Sep (LD tB kB l2 d s2 ⟨[([], 0)], ep, G⟩) (EI base tB kB (.slice A n c1) (sortE R))) w w13 []) := S12.out.below (Sep.res (LD.res _ _ _ _ _ _) (EI.res _ _ _ _ _)) hb13
            clear S12 hb13
            have HA2 : Hid (Calls Tryz.prog 15 #[.pointer (some ⟨l2, 0, none⟩), .int .i64 0, .agg #[.int .u64 (Tb : Int), .slice (some ⟨g2, 0, none⟩) 1 1]] w13 fun e w' => e = .returned (.int .i64 0) ∧ Hid (Stand (Sep (LD tB kB l2 d s2 ⟨[([(Tb, 1)], Tb)], ep, G⟩) (EI base tB kB (.slice A n c1) (sortE R))) w w' [])) := by
              obtain ⟨F, ⟨A1, B1, hLD, hE, hAB, hAF, hBF, _⟩, kF⟩ := S13.out.any
              have ht := HK.out
              exact (cAdd_ok hLD 0 Tb 1 g2 y2 ([], 0) rfl (by decide) ht.2.1.1 E2.out.1 E2.out.2.1 (by decide) (by decide) (by decide) ht.2.2.2 (show ep < Tb / 8388608 by rw [ht.2.1.2]; exact Nat.lt_succ_self _)).mono fun e w' ⟨e1, hg⟩ => ⟨e1, kF _ _ (Sep.goL (EI.res _ _ _ _ _) hE hAB hAF hBF hg)⟩
            go_wp2_with fail
            refine HA2.out.mono ?_
            rintro e w14 ⟨rfl, S14⟩
            clear HA2 S13 E2
            have HWt : Hid (Calls Tryz.prog 26 #[.pointer (some ⟨l2, 0, none⟩), .int .i64 0] w14 fun e w' => e = .returned (.tuple #[.int .i64 1, .int .i64 0]) ∧ Hid (Stand (Sep (LD tB kB l2 d s2 ⟨[([(Tb, 1)], Tb)], ep, G⟩) (EI base tB kB (.slice A n c1) (sortE R))) w w' [])) := by
              obtain ⟨F, ⟨A1, B1, hLD, hE, hAB, hAF, hBF, _⟩, kF⟩ := S14.out.any
              exact (cWaiting hLD 0 ([(Tb, 1)], Tb) rfl).mono fun e w' ⟨e1, hg⟩ => ⟨e1, kF _ _ (Sep.goL (EI.res _ _ _ _ _) hE hAB hAF hBF hg)⟩
            go_wp2_with fail
            refine HWt.out.mono ?_
            rintro e w15 ⟨rfl, S15⟩
            have S16 : Hid (Stand (Sep (DiskI d s2) (EI base tB kB (.slice A n c1) (sortE R))) w w15 []) := S15.out.forget
            clear HWt S14 S15
            go_wp2_with fail
            exact ⟨⟨j + 1, s2, by omega, by go_num, Q8, S16⟩, by simp [intOf]; omega⟩
          · obtain rfl : j = 3 := by omega
            go_wp2_with fail
            go_ret
            exact ⟨rfl, SS.out.base⟩
      · subst hx2
        have hx3 : ((20 : Nat) : Int) < (n : Int) := hx
        have HFl0 : Hid (Calls Tryz.prog 16 #[.pointer (some ⟨l, 0, none⟩), .int .i64 0] wr fun e w' => e = .returned (.int .i64 0) ∧ ∃ s : Dk.Dsk, Hid (QDisk s tB kB (updF wkF0 (logB 0 0).data.toList (wkF0 (logB 0 0).data.toList ++ W0)) [] ∧ s.fs.length ≤ 1 ∧ Dk.keysL s.fs = if W0 = [] then [] else Dk.insN (logB 0 0).data.toList []) ∧ Hid (Stand (LD tB kB l d s ⟨[([], l0), (W1, l1)], 0, 0⟩) w w' [])) := by
          obtain ⟨F, hF, kF⟩ := HS.out.any
          obtain ⟨_, _, p2, _, _⟩ := HP.out
          refine (cFlush hF (qdisk_blank tB kB) 0 (W0, l0) rfl (by decide) (show 0 < 100 by decide) (by decide) (by decide) (show 0 + W0.length ≤ 1000 by omega) (by decide)).mono ?_
          rintro e w' ⟨e1, s2, q1, q2, q3, hg⟩
          exact ⟨e1, s2, ⟨q1, q2, q3⟩, kF _ _ hg⟩
        go_wp2_with fail
        refine HFl0.out.mono ?_
        rintro e w4 ⟨rfl, s4, Q4, S4⟩
        clear HFl0 HS
        have HFl1 : Hid (Calls Tryz.prog 16 #[.pointer (some ⟨l, 0, none⟩), .int .i64 1] w4 fun e w' => e = .returned (.int .i64 0) ∧ ∃ s : Dk.Dsk, Hid (QDisk s tB kB (agF W0 W1) [] ∧ s.fs.length ≤ 2 ∧ Dk.keysL s.fs = if W1 = [] then (if W0 = [] then [] else Dk.insN (logB 0 0).data.toList []) else Dk.insN (logB 1 0).data.toList (if W0 = [] then [] else Dk.insN (logB 0 0).data.toList [])) ∧ Hid (Stand (LD tB kB l d s ⟨[([], l0), ([], l1)], 0, 0⟩) w w' [])) := by
          obtain ⟨F, hF, kF⟩ := S4.out.any
          obtain ⟨q1, q2, q3⟩ := Q4.out
          obtain ⟨_, _, p2, _, _⟩ := HP.out
          have e10 : updF wkF0 (logB 0 0).data.toList (wkF0 (logB 0 0).data.toList ++ W0) (logB 1 0).data.toList = [] := by
            unfold updF
            rw [if_neg log_ne]
          refine (cFlush hF q1 1 (W1, l1) rfl (by decide) (show 0 < 100 by decide) (by decide) (by decide) (by show (updF wkF0 (logB 0 0).data.toList (wkF0 (logB 0 0).data.toList ++ W0) (logB 1 0).data.toList).length + W1.length ≤ 1000; rw [e10]; show 0 + _ ≤ _; omega) (by omega)).mono ?_
          rintro e w' ⟨e1, s2, p1, p2, p3, hg⟩
          exact ⟨e1, s2, ⟨p1, by omega, by rw [p3, q3]⟩, kF _ _ hg⟩
        go_wp2_with fail
        refine HFl1.out.mono ?_
        rintro e w5 ⟨rfl, s5, Q5, S5⟩
        clear HFl1 S4 Q4
        have HM : Hid (Calls Tryz.prog 17 #[.pointer (some ⟨l, 0, none⟩), .int .i64 (ep : Int)] w5 fun e w' => e = .returned (.int .i64 0) ∧ ∃ s : Dk.Dsk, Hid (QDisk s tB kB (agF W0 W1) [ep] ∧ Dk.keysL s.fs = agK (decide (W0 = [])) (decide (W1 = []))) ∧ Hid (Stand (LD tB kB l d s ⟨[([], l0), ([], l1)], ep, 0⟩) w w' [])) := by
          obtain ⟨F, hF, kF⟩ := S5.out.any
          obtain ⟨q1, q2, q3⟩ := Q5.out
          refine (cMark hF q1 ep (show 0 < ep by omega) (by omega) (fun wk hwk => ?_) (by decide) (by omega)).mono ?_
          · simp at hwk
            rcases hwk with rfl | rfl <;> rfl
          · rintro e w' ⟨e1, s2, p1, p2, p3, hg⟩
            exact ⟨e1, s2, ⟨p1, by rw [p3, q3, agK_of]⟩, kF _ _ hg⟩
        go_wp2_with fail
        refine HM.out.mono ?_
        rintro e w6 ⟨rfl, s6, Q6, S6⟩
        clear HM S5 Q5
        have HLd : Hid (Calls Tryz.prog 19 #[.pointer (some ⟨d, 0, none⟩)] w6 fun e w' => ∃ A c, e = .returned (.tuple #[.slice A 20 c, .int .i64 (ep : Int), .int .i64 0]) ∧ ∃ R, Hid (R.map Er.tn = W0 ++ W1) ∧ Hid (Stand (Sep (DiskI d s6) (EI w6.heap.size tB kB (.slice A 20 c) (sortE R))) w w' [])) := by
          obtain ⟨q1, q2⟩ := Q6.out
          obtain ⟨p0, p1, p2, _, _⟩ := HP.out
          obtain ⟨F, ⟨A, B, hD, _, hAB, hAF, _, _⟩, hF2, _, _, hbw⟩ := S6.out
          have hall := agK_all W0 W1 ep 20 p0 p1
          refine (cLoad hD q1 (agF_fine p0 p1 p2 (by omega) he1 (by omega)) (by decide) (by decide) (by rw [q2, show lastE [ep] = ep from rfl, hall, List.length_append]; omega)).mono ?_
          rintro e w' ⟨v, e1, R, hE, hR, hB⟩
          rw [q2, show lastE [ep] = ep from rfl, hall] at hR
          obtain ⟨A0, c0, rfl⟩ := row_shapeJ hE.out.row
          have hlen : (sortE R).length = 20 := by
            rw [(sortE_facts R).1, ← List.length_map (f := Er.tn), hR.out, List.length_append]
            exact p2
          rw [hlen] at e1 hE
          have hEI : EI w6.heap.size tB kB (.slice A0 20 c0) (sortE R) w' _ := ⟨hE.out, fun _ => Iff.rfl⟩
          refine ⟨A0, c0, e1, R, hR, ?_⟩
          refine Stand.start (Sep.mk (hD.below hB.out) hEI fun j hj hk => ?_) (fun j hj => ?_) (hbw.trans (hB.out.mono hbw.size))
          · have h1 := (DiskI.res d s6).lt hD j hj
            have h2 := hEI.low j hk
            omega
          · rcases hj with hj | hj
            · exact hF2 j (hAF j hj)
            · have h2 := hEI.low j hj
              have := hbw.size
              omega
        go_wp2_with fail
        refine HLd.out.mono ?_
        rintro e w7 ⟨A, c1, rfl, R, HR, S7⟩
        obtain ⟨base, hbase⟩ : ∃ b, w6.heap.size = b := ⟨_, rfl⟩
        rw [hbase] at S7
        clear HLd S6 hbase
        go_wp2_with fail
        have HE1 : Hid (∀ u, Calls Tryz.prog 14 #[.int .i64 (ep : Int), .int .i64 99, .int .i64 1] u fun e w' => ∃ g x, e = .returned (.agg #[.int .u64 (tidN ep 99 : Int), .slice (some ⟨g, 0, none⟩) 1 1]) ∧ Hid (w'.heap[g]? = some (boxJ tB kB x) ∧ OneAt w' x 2 ((1 : Nat) : Int) ByteArray.empty ∧ u.heap.size ≤ g ∧ u.heap.size ≤ x) ∧ Below u.heap.size u w') := fun u => centry ep 99 1 u (by omega) (by decide)
        have HE2 : Hid (∀ u, Calls Tryz.prog 14 #[.int .i64 ((ep : Int) + 1), .int .i64 0, .int .i64 1] u fun e w' => ∃ g x, e = .returned (.agg #[.int .u64 (tidN (ep + 1) 0 : Int), .slice (some ⟨g, 0, none⟩) 1 1]) ∧ Hid (w'.heap[g]? = some (boxJ tB kB x) ∧ OneAt w' x 2 ((1 : Nat) : Int) ByteArray.empty ∧ u.heap.size ≤ g ∧ u.heap.size ≤ x) ∧ Below u.heap.size u w') := fun u => centry (ep + 1) 0 1 u (by omega) (by decide)
        have k1 := tid_ok (ep := ep) (sq := 99) (by omega) (by decide)
        have k2 := tid_ok (ep := ep + 1) (sq := 0) (by omega) (by decide)
        have k3 : 0 < tidN ep 99 := Nat.lt_of_lt_of_le (by decide) (Nat.le_add_left (99 * 8) (ep * 8388608))
        have k4 : 0 < tidN (ep + 1) 0 := Nat.lt_of_lt_of_le (show 0 < (ep + 1) * 8388608 from Nat.mul_pos (Nat.succ_pos _) (by decide)) (Nat.le_add_right _ _)
        obtain ⟨Ta, hTa⟩ : ∃ T, tidN ep 99 = T := ⟨_, rfl⟩
        obtain ⟨Tb, hTb⟩ : ∃ T, tidN (ep + 1) 0 = T := ⟨_, rfl⟩
        rw [hTa] at HE1 k1 k3
        rw [hTb] at HE2 k2 k4
        have HK : Hid ((TidOk Ta ∧ Ta / 8388608 = ep) ∧ (TidOk Tb ∧ Tb / 8388608 = ep + 1) ∧ 0 < Ta ∧ 0 < Tb) := ⟨k1, k2, k3, k4⟩
        clear k1 k2 k3 k4 hTa hTb
        go_loopw [100] (fun vj wr => ∃ (j : Nat) (s : Dk.Dsk), j ≤ 3 ∧ vj = .int .i64 j ∧ Hid (QDisk s tB kB (agF W0 W1) [ep] ∧ Dk.keysL s.fs = agK (decide (W0 = [])) (decide (W1 = []))) ∧ Hid (Stand (Sep (DiskI d s) (EI base tB kB (.slice A 20 c1) (sortE R))) w wr [])) (fun vj _ => 3 - (intOf vj).toNat)
        case atStart => exact ⟨0, s6, by omega, rfl, Q6, S7⟩
        case round =>
          obtain ⟨j, s, hj, rfl, QS, SS⟩ := hrel
          by_cases hj3 : j < 3
          · have hjI : (j : Int) < 3 := by omega
            have HO2 : Hid (Calls Tryz.prog 9 #[.pointer (some ⟨d, 0, none⟩), .int .i64 1] wr fun e w' => ∃ l2, ∃ s2 : Dk.Dsk, ∃ G : Nat, e = .returned (.tuple #[.pointer (some ⟨l2, 0, none⟩), .int .i64 0]) ∧ Hid (QDisk s2 tB kB (agF W0 W1) [ep] ∧ Dk.keysL s2.fs = agK (decide (W0 = [])) (decide (W1 = []))) ∧ Hid (Stand (Sep (LD tB kB l2 d s2 ⟨[([], 0)], ep, G⟩) (EI base tB kB (.slice A 20 c1) (sortE R))) w w' [])) := by
              obtain ⟨F, ⟨A1, B1, hD, hE, hAB, hAF, hBF, _⟩, kF⟩ := SS.out.any
              obtain ⟨q1, q2⟩ := QS.out
              obtain ⟨p0, p1, p2, _, _⟩ := HP.out
              have hall := agK_all W0 W1 ep 20 p0 p1
              have h64 : s.fs.length < 64 := by
                have h1 : s.fs.length = (Dk.keysL s.fs).length := by simp [Dk.keysL]
                have h2 := agK_len (decide (W0 = [])) (decide (W1 = []))
                rw [← q2] at h2
                omega
              obtain ⟨_, _, _, _, _, r6, _, _, r9⟩ := q1.renew ep h64
              refine (cOpenM hD q1 (agF_fine p0 p1 p2 (by omega) he1 (by omega)) (show 0 < ep by omega) (by decide) (by decide) (by rw [q2, show lastE [ep] = ep from rfl, hall, List.length_append]; omega) 1 (Or.inl rfl) h64).mono ?_
              rintro e w' ⟨l2, e1, hg⟩
              exact ⟨l2, _, _, e1, ⟨r6, by rw [r9, q2]; exact (agK_is _ _).2⟩, kF _ _ (Sep.goL (EI.res _ _ _ _ _) hE hAB hAF hBF hg)⟩
            go_wp2_with fail
            refine HO2.out.mono ?_
            rintro e w8 ⟨l2, s2, G, rfl, Q8, S8⟩
            clear HO2 SS QS
            have HL2 : Hid (Calls Tryz.prog 19 #[.pointer (some ⟨d, 0, none⟩)] w8 fun e w' => ∃ A2 c2, e = .returned (.tuple #[.slice A2 20 c2, .int .i64 (ep : Int), .int .i64 0]) ∧ Hid (Stand (Sep (LD tB kB l2 d s2 ⟨[([], 0)], ep, G⟩) (EI base tB kB (.slice A 20 c1) (sortE R))) w w' []) ∧ Hid (Calls Tryz.prog 21 #[.slice A 20 c1, .slice A2 20 c2] w' fun e u => e = .returned (.bool true) ∧ Below w'.heap.size w' u)) := by
              obtain ⟨F, ⟨A1, B1, hLD, hE, _, _, _, _⟩, _⟩ := S8.out.any
              obtain ⟨A2, _, hD, _, _, _, _, _⟩ := id hLD
              obtain ⟨q1, q2⟩ := Q8.out
              obtain ⟨p0, p1, p2, _, _⟩ := HP.out
              have hall := agK_all W0 W1 ep 20 p0 p1
              refine (cLoad hD q1 (agF_fine p0 p1 p2 (by omega) he1 (by omega)) (by decide) (by decide) (by rw [q2, show lastE [ep] = ep from rfl, hall, List.length_append]; omega)).mono ?_
              rintro e w' ⟨v2, e1, R2, hE2, hR2, hB⟩
              rw [q2, show lastE [ep] = ep from rfl, hall] at hR2
              obtain ⟨A0, c0, rfl⟩ := row_shapeJ hE2.out.row
              have hlen : (sortE R2).length = 20 := by
                rw [(sortE_facts R2).1, ← List.length_map (f := Er.tn), hR2.out, List.length_append]
                exact p2
              have hlen1 : (sortE R).length ≤ 1000 := by
                rw [(sortE_facts R).1, ← List.length_map (f := Er.tn), HR.out, List.length_append]
                omega
              rw [hlen] at e1 hE2
              refine ⟨A0, c0, e1, S8.out.below (Sep.res (LD.res _ _ _ _ _ _) (EI.res _ _ _ _ _)) hB.out, ?_⟩
              exact sameEntries_any tB kB _ _ (sortE R) (sortE R2) base w8.heap.size w' (hE.1.below hB.out) hE2.out (sortE_same (HR.out.trans hR2.out.symm) (by rw [HR.out]; exact (p0.both p1).inj)) hlen1
            go_wp2_with fail
            refine HL2.out.mono ?_
            rintro e w9 ⟨A2, c2, rfl, S9, HSE⟩
            clear HL2 S8
            go_wp2_with fail
            refine HSE.out.mono ?_
            rintro e w10 ⟨rfl, hb10⟩
            have S10 : Hid (Stand (Sep (LD tB kB l2 d s2 ⟨[([], 0)], ep, G⟩) (EI base tB kB (.slice A 20 c1) (sortE R))) w w10 []) := S9.out.below (Sep.res (LD.res _ _ _ _ _ _) (EI.res _ _ _ _ _)) hb10
            clear HSE S9 hb10
            go_wp2_with fail
            refine (HE1.out _).mono ?_
            rintro e w11 ⟨g1, y1, rfl, E1, hb11⟩
            have S11 : Hid (Stand (Sep (LD tB kB l2 d s2 ⟨[([], 0)], ep, G⟩) (EI base tB kB (.slice A 20 c1) (sortE R))) w w11 []) := S10.out.below (Sep.res (LD.res _ _ _ _ _ _) (EI.res _ _ _ _ _)) hb11
            clear S10 hb11
            have HA1 : Hid (Calls Tryz.prog 15 #[.pointer (some ⟨l2, 0, none⟩), .int .i64 0, .agg #[.int .u64 (Ta : Int), .slice (some ⟨g1, 0, none⟩) 1 1]] w11 fun e w' => e = .returned (.int .i64 111) ∧ Hid (Stand (Sep (LD tB kB l2 d s2 ⟨[([], 0)], ep, G⟩) (EI base tB kB (.slice A 20 c1) (sortE R))) w w' [])) := by
              obtain ⟨F, ⟨A1, B1, hLD, hE, hAB, hAF, hBF, _⟩, kF⟩ := S11.out.any
              have ht := HK.out
              exact (cAdd_old hLD 0 Ta 1 g1 y1 ([], 0) rfl ht.1.1 E1.out.1 E1.out.2.1 (by decide) (by decide) (by decide) ht.2.2.1 (Nat.le_of_eq ht.1.2)).mono fun e w' ⟨e1, hg⟩ => ⟨e1, kF _ _ (Sep.goL (EI.res _ _ _ _ _) hE hAB hAF hBF hg)⟩
            go_wp2_with fail
            refine HA1.out.mono ?_
            rintro e w12 ⟨rfl, S12⟩
            clear HA1 S11 E1
            go_wp2_with fail
            refine (HE2.out _).mono ?_
            rintro e w13 ⟨g2, y2, rfl, E2, hb13⟩
            have S13 : Hid (Stand (Sep (LD tB kB l2 d s2 ⟨[([], 0)], ep, G⟩) (EI base tB kB (.slice A 20 c1) (sortE R))) w w13 []) := S12.out.below (Sep.res (LD.res _ _ _ _ _ _) (EI.res _ _ _ _ _)) hb13
            clear S12 hb13
            have HA2 : Hid (Calls Tryz.prog 15 #[.pointer (some ⟨l2, 0, none⟩), .int .i64 0, .agg #[.int .u64 (Tb : Int), .slice (some ⟨g2, 0, none⟩) 1 1]] w13 fun e w' => e = .returned (.int .i64 0) ∧ Hid (Stand (Sep (LD tB kB l2 d s2 ⟨[([(Tb, 1)], Tb)], ep, G⟩) (EI base tB kB (.slice A 20 c1) (sortE R))) w w' [])) := by
              obtain ⟨F, ⟨A1, B1, hLD, hE, hAB, hAF, hBF, _⟩, kF⟩ := S13.out.any
              have ht := HK.out
              exact (cAdd_ok hLD 0 Tb 1 g2 y2 ([], 0) rfl (by decide) ht.2.1.1 E2.out.1 E2.out.2.1 (by decide) (by decide) (by decide) ht.2.2.2 (show ep < Tb / 8388608 by rw [ht.2.1.2]; exact Nat.lt_succ_self _)).mono fun e w' ⟨e1, hg⟩ => ⟨e1, kF _ _ (Sep.goL (EI.res _ _ _ _ _) hE hAB hAF hBF hg)⟩
            go_wp2_with fail
            refine HA2.out.mono ?_
            rintro e w14 ⟨rfl, S14⟩
            clear HA2 S13 E2
            have HWt : Hid (Calls Tryz.prog 26 #[.pointer (some ⟨l2, 0, none⟩), .int .i64 0] w14 fun e w' => e = .returned (.tuple #[.int .i64 1, .int .i64 0]) ∧ Hid (Stand (Sep (LD tB kB l2 d s2 ⟨[([(Tb, 1)], Tb)], ep, G⟩) (EI base tB kB (.slice A 20 c1) (sortE R))) w w' [])) := by
              obtain ⟨F, ⟨A1, B1, hLD, hE, hAB, hAF, hBF, _⟩, kF⟩ := S14.out.any
              exact (cWaiting hLD 0 ([(Tb, 1)], Tb) rfl).mono fun e w' ⟨e1, hg⟩ => ⟨e1, kF _ _ (Sep.goL (EI.res _ _ _ _ _) hE hAB hAF hBF hg)⟩
            go_wp2_with fail
            refine HWt.out.mono ?_
            rintro e w15 ⟨rfl, S15⟩
            have S16 : Hid (Stand (Sep (DiskI d s2) (EI base tB kB (.slice A 20 c1) (sortE R))) w w15 []) := S15.out.forget
            clear HWt S14 S15
            go_wp2_with fail
            exact ⟨⟨j + 1, s2, by omega, by go_num, Q8, S16⟩, by simp [intOf]; omega⟩
          · obtain rfl : j = 3 := by omega
            go_wp2_with fail
            go_ret
            exact ⟨rfl, SS.out.base⟩
end Go.Proofs.YtglebmamlmiceaaGreatDoor
