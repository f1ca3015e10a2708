import Derived.Test.YtnboanlhdllhnaaGreatZCopyT
import Derived.Test.YtnboanlhdllhnaaGreatZUsP
import Derived.Deep.CutBlock
import Derived.Deep.DeepCutAuto
import Derived.Deep.LoopGhost
/- A region that draws its order and whose last operation writes a cell that another one of it reads: what is read is taken first, since the last one waits for it. -/
namespace Go.Proofs.YtnboanlhdllhnaaGreat
open Go.RowKit

section
variable {P : Program} {ops : Array Oper} {Q : Exit → Act → World → Prop} {md : Region.Mode} {S : World → Prop} {last : Nat}

/-- whatever order is picked from here on, and S holds behind every operation but the last -/
def wpAnyL (P : Program) (md : Region.Mode) (ops : Array Oper) (Q : Exit → Act → World → Prop) (S : World → Prop) (last : Nat) : Nat → Array Bool → Act → World → Prop
  | 0, listed, a, w => Region.ready md ops listed = [] ∧ Q .normal a w
  | fuel + 1, listed, a, w =>
    (Region.ready md ops listed = [] → Q .normal a w) ∧
    ∀ i ∈ Region.ready md ops listed, wpOp P ops Q i (fun a' w' => (i ≠ last → S w') ∧ wpAnyL P md ops Q S last fuel (listed.setIfInBounds i true) a' w') a w

theorem wpAny_of_last : ∀ (fuel : Nat) (listed : Array Bool) (a : Act) (w : World), wpAnyL P md ops Q S last fuel listed a w → wpAny P md ops Q fuel listed a w
  | 0, _, _, _, h => h
  | fuel + 1, _, _, _, h => ⟨h.1, fun i hi => wpOp_mono (fun a' w' h' => wpAny_of_last fuel _ a' w' h'.2) (h.2 i hi)⟩

/-- each of Z has not come up, and waits for number i or for one of Z -/
def waits (md : Region.Mode) (ops : Array Oper) (listed : Array Bool) (i : Nat) (Z : List Nat) : Bool :=
  Z.all fun z => !listed.getD z true && match ops[z]? with
    | some o => o.after.any fun e => Region.binds md e && (e.on == i || Z.contains e.on)
    | none => false
theorem getD_two {listed : Array Bool} {i : Nat} (h : listed.getD i true = false) : ¬ listed.getD i false = true := fun h1 => by
  rcases Nat.lt_or_ge i listed.size with h' | h'
  · simp [h'] at h h1; rw [h] at h1; cases h1
  · simp [Array.getElem?_eq_none h'] at h1
theorem waits_not {listed : Array Bool} {i : Nat} {Z : List Nat} (h : waits md ops listed i Z = true) (hi : listed.getD i true = false) : ∀ z ∈ Z, ¬ z ∈ Region.ready md ops listed := fun z hz hr => by
  obtain ⟨_, o, ho, hall⟩ := mem_ready.1 hr
  have hz1 := List.all_eq_true.1 h z hz
  simp only [ho, Bool.and_eq_true] at hz1
  obtain ⟨e, he, hb⟩ := Array.any_eq_true'.1 hz1.2
  simp only [Bool.and_eq_true, Bool.or_eq_true, beq_iff_eq, List.contains_iff_mem] at hb
  have hl := hall e he hb.1
  rcases hb.2 with h1 | h1
  · rw [h1] at hl; exact getD_two hi hl
  · have hz2 := List.all_eq_true.1 h e.on h1
    simp only [Bool.and_eq_true, Bool.not_eq_true'] at hz2
    exact getD_two hz2.1 hl
theorem waits_set {listed : Array Bool} {i j : Nat} {Z : List Nat} (h : waits md ops listed i Z = true) (hj : ¬ j ∈ Z) : waits md ops (listed.setIfInBounds j true) i Z = true := by
  refine List.all_eq_true.2 fun z hz => ?_
  have hz1 := List.all_eq_true.1 h z hz
  simp only [Bool.and_eq_true] at hz1 ⊢
  have hne : j ≠ z := fun e => hj (by rw [e]; exact hz)
  exact ⟨by rw [getD_set_ne true hne]; exact hz1.1, hz1.2⟩

theorem wpAnyL_first {i : Nat} {oi : Oper} {v : Value} {Z : List Nat} (hi : ops[i]? = some oi) (hsel : ∀ (j : Nat) (o : Oper) cs b, ops[j]? = some o → o.op ≠ .select cs b)
    (hQ : ∀ c a w, Q (.panic c) (a.put oi.dst v) w → Q (.panic c) a w) (hZ : last ∈ Z) :
    ∀ (fuel : Nat) (listed : Array Bool) (a : Act) (w : World),
      (∀ j oj, ops[j]? = some oj → j ≠ i → listed.getD j true = false → (∀ e ∈ oj.after, Region.binds md e = true → e.on ≠ i) → oi.apart ops oj = true) →
      i ∈ Region.ready md ops listed → waits md ops listed i Z = true → YieldsIf P ops S oi v a → S w →
      wpAnyL P md ops Q S last fuel (listed.setIfInBounds i true) (a.put oi.dst v) w → wpAnyL P md ops Q S last (fuel + 1) listed a w := by
  intro fuel
  induction fuel with
  | zero =>
    intro listed a w _ hr hw hy hS H
    refine ⟨fun h => (by rw [h] at hr; cases hr), fun j hj => ?_⟩
    by_cases hji : j = i
    · subst hji; exact hy.wpOp hi hS ⟨fun _ => hS, H⟩
    · have := ready_mono hj hji
      rw [H.1] at this
      cases this
  | succ fuel ih =>
    intro listed a w hfree hr hw hy hS H
    refine ⟨fun h => (by rw [h] at hr; cases hr), fun j hj => ?_⟩
    by_cases hji : j = i
    · subst hji; exact hy.wpOp hi hS ⟨fun _ => hS, H⟩
    · have h1 := H.2 j (ready_mono hj hji)
      obtain ⟨hjun, oj, hoj, hall⟩ := mem_ready.1 hj
      have h0 := (mem_ready.1 hr).1
      have hjZ : ¬ j ∈ Z := fun hz => waits_not hw h0 j hz hj
      have hjl : j ≠ last := fun e => hjZ (e ▸ hZ)
      have hnot : ∀ e ∈ oj.after, Region.binds md e = true → e.on ≠ i := fun e he hb heq => by
        have h1 := hall e he hb
        rw [heq] at h1
        exact getD_two h0 h1
      have h2 := wpOp_putIf hoj (hfree j oj hoj hji hjun hnot) (fun cs b => hsel i oi cs b hi) (fun cs b => hsel j oj cs b hoj) hQ hy h1
      have hfree' : ∀ k ok, ops[k]? = some ok → k ≠ i → (listed.setIfInBounds j true).getD k true = false →
          (∀ e ∈ ok.after, Region.binds md e = true → e.on ≠ i) → oi.apart ops ok = true := fun k ok hk hki hun hno => by
        refine hfree k ok hk hki ?_ hno
        by_cases hjk : j = k
        · subst hjk; exact hjun
        · rw [getD_set_ne true hjk] at hun; exact hun
      refine wpOp_mono (fun a' w' h3 => ⟨fun _ => h3.2.1 hjl, ih (listed.setIfInBounds j true) a' w' hfree' (ready_mono hr (Ne.symm hji)) (waits_set hw hjZ) h3.1 (h3.2.1 hjl) ?_⟩) h2
      rw [Array.setIfInBounds_comm _ _ hji]
      exact h3.2.2

/-- those that wait for number i, straight or by others -/
def behind (md : Region.Mode) (ops : Array Oper) (listed : Array Bool) (i : Nat) : List Nat :=
  (List.range ops.size).foldl (fun Z z => if !listed.getD z true && (match ops[z]? with
    | some o => o.after.any fun e => Region.binds md e && (e.on == i || Z.contains e.on)
    | none => false) then z :: Z else Z) []

/-- number i, which is read in every world that meets S, is taken first -/
theorem last_take {i dst : Nat} {oi : Oper} {v : Value} {fuel : Nat} {listed : Array Bool} {a : Act} {w : World} (hi : ops[i]? = some oi) (hd : oi.dst = some dst)
    (hs : Region.noSelect ops = true) (hf : Region.free md ops listed i = true) (hr : (Region.ready md ops listed).contains i = true) (hw : (waits md ops listed i (behind md ops listed i) && (behind md ops listed i).contains last) = true)
    (hQ : ∀ c (a : Act) w, Q (.panic c) { tmps := a.tmps.setIfInBounds dst v, defers := a.defers } w → Q (.panic c) a w) (hy : YieldsIf P ops S oi v a) (hS : S w)
    (h : wpAnyL P md ops Q S last fuel (listed.setIfInBounds i true) { tmps := a.tmps.setIfInBounds dst v, defers := a.defers } w) : wpAnyL P md ops Q S last (fuel + 1) listed a w := by
  simp only [Bool.and_eq_true, List.contains_iff_mem] at hw
  exact wpAnyL_first hi (Region.noSelect_spec hs) (fun c a w => by rw [hd]; exact hQ c a w) hw.2 fuel listed a w (Region.free_spec hi hf) (by simpa using hr) hw.1 hy hS (by rw [hd]; exact h)

def AllReadyL (P : Program) (md : Region.Mode) (ops : Array Oper) (Q : Exit → Act → World → Prop) (S : World → Prop) (last : Nat) (fuel : Nat) (listed : Array Bool) (a : Act) (w : World) (rs : List Nat) : Prop :=
  ∀ i ∈ rs, wpOp P ops Q i (fun a' w' => (i ≠ last → S w') ∧ wpAnyL P md ops Q S last fuel (listed.setIfInBounds i true) a' w') a w
theorem AllReadyL.nil {fuel : Nat} {listed : Array Bool} {a : Act} {w : World} : AllReadyL P md ops Q S last fuel listed a w [] := fun _ h => by cases h
theorem AllReadyL.cons {fuel : Nat} {listed : Array Bool} {a : Act} {w : World} {i : Nat} {o : Oper} {rs : List Nat} (ho : ops[i]? = some o)
    (h : ∀ K' : Act → World → Prop, Shut (∀ a w, S w → (S w → wpAnyL P md ops Q S last fuel (listed.setIfInBounds i true) a w) → K' a w) → if Region.wanted o (yielded ops a.tmps) = true then Oper.wp P o a w K' Q else K' (a.put o.dst undef) w)
    (hs : AllReadyL P md ops Q S last fuel listed a w rs) : AllReadyL P md ops Q S last fuel listed a w (i :: rs) := fun j hj => by
  rcases List.mem_cons.1 hj with rfl | hj
  · exact wpOp_step ho (fun K' hK => h K' (fun a w hS hW => hK a w ⟨fun _ => hS, hW hS⟩))
  · exact hs j hj
theorem last_ready {rs : List Nat} {fuel : Nat} {listed : Array Bool} {a : Act} {w : World} (hr : Region.ready md ops listed = rs) (hne : rs ≠ [])
    (h : AllReadyL P md ops Q S last fuel listed a w rs) : wpAnyL P md ops Q S last (fuel + 1) listed a w := ⟨fun h0 => absurd (hr ▸ h0) hne, hr ▸ h⟩
/-- the last one: S is not asked behind it -/
theorem last_last {o : Oper} {fuel : Nat} {listed : Array Bool} {a : Act} {w : World} (hr : Region.ready md ops listed = [last]) (ho : ops[last]? = some o) (hn : Region.ready md ops (listed.setIfInBounds last true) = [])
    (h : ∀ K' : Act → World → Prop, Shut (∀ a w, Q .normal a w → K' a w) → if Region.wanted o (yielded ops a.tmps) = true then Oper.wp P o a w K' Q else K' (a.put o.dst undef) w) : wpAnyL P md ops Q S last (fuel + 1) listed a w := by
  refine ⟨fun h0 => (by rw [hr] at h0; cases h0), fun i hi => ?_⟩
  rw [hr] at hi
  obtain rfl := List.mem_singleton.1 hi
  refine wpOp_step ho (fun K' hK => h K' (fun a w hQ => hK a w ⟨fun e => absurd rfl e, ?_⟩))
  cases fuel with
  | zero => exact ⟨hn, hQ⟩
  | succ n => exact ⟨fun _ => hQ, by rw [hn]; simp⟩
theorem wp_region_last {id : Nat} {a : Act} {w : World} (last : Nat) (hm : P.follows .mixedOrders = true) (hS : S w.drew)
    (h : S w.drew → wpAnyL P .any ops Q S last ops.size (Array.replicate ops.size false) a w.drew) : (Code.region id ops true).wp P Q a w :=
  wp_region_any hm (wpAny_of_last _ _ _ _ (h hS))
end

end Go.Proofs.YtnboanlhdllhnaaGreat

/- The document's reader of schemas. -/
namespace Go.Proofs.YtnboanlhdllhnaaGreat
open Go.RowKit

theorem col_at (w : World) (x : ByteArray) (k : Int) : ∀ j u, (enC (x, k))[j]? = some u → (w.alloc (.cells #[.string x, .int .i64 k] 70 (0, 0))).cell? ⟨w.heap.size, j, none⟩ = some u := fun j u hu => by
  rw [cell_of (heap_new w _)]
  simpa [enC] using hu

theorem num_at (w : World) (k : Int) : ∀ j u, (enI k)[j]? = some u → (w.alloc (.cells #[.int .i64 k] 3 (0, 0))).cell? ⟨w.heap.size, j, none⟩ = some u := fun j u hu => by
  rw [cell_of (heap_new w _)]
  simpa [enI] using hu

section
variable {b : Nat} {B : List UInt8} {s : Us} {w : World}
set_option linter.unusedSimpArgs false in
set_option maxRecDepth 100000 in
set_option maxHeartbeats 4000000 in
theorem uschema_any (h : UrI b B s w) (hB : B.length ≤ 1000000) (hs : s.1 ≤ B.length) :
    Calls Tryz.prog 39 #[.pointer (some ⟨b, 0, none⟩)] w (UTabR b B w (uTb B s)) := by
  have hbl := lt_of h
  have h0 : UrI b B s (w.alloc tabZ) := (Below.heap_alloc w _ b hbl).trans h
  have H1 : Hid (Calls Tryz.prog 58 #[.pointer (some ⟨b, 0, none⟩)] (w.alloc tabZ) fun e w' => e = .returned (.string (uT B s).1) ∧ Hid (UrI b B (uT B s).2 w' ∧ At1 b (w.alloc tabZ) w')) := utext_any h0 hB hs
  obtain ⟨nm, hnm⟩ : ∃ nm, (uT B s).1 = nm := ⟨_, rfl⟩
  obtain ⟨s1, hs1⟩ : ∃ s1, (uT B s).2 = s1 := ⟨_, rfl⟩
  have hst1 : s1.1 ≤ B.length := by rw [← hs1]; exact stays_text B s hs
  rw [hnm, hs1] at H1
  have HM : Hid (∀ u, UrI b B s1 u → Calls Tryz.prog 59 #[.pointer (some ⟨b, 0, none⟩)] u fun e w' => e = .returned (.int .i64 ((uM B s1).1 : Int)) ∧ Hid (UrI b B (uM B s1).2 w' ∧ At1 b u w')) := fun u hu => umany_any hu hB hst1
  have HNm : Hid ((uT B s).1 = nm) := hnm
  have HS1 : Hid ((uT B s).2 = s1) := hs1
  clear h h0 hnm hs1
  go_enter Tryz.func39, Tryz.ntmps39
  go_upto_block 0 with (first
    | (go_at_call 58; go_must (refine H1.out.mono ?_; rintro e w1 ⟨rfl, K1⟩; have HM1 : Hid (∀ o : Obj, Calls Tryz.prog 59 #[.pointer (some ⟨b, 0, none⟩)] (w1.alloc o) fun e w' => e = .returned (.int .i64 ((uM B s1).1 : Int)) ∧ Hid (UrI b B (uM B s1).2 w' ∧ At1 b (w1.alloc o) w')) := fun o => HM.out _ ((Below.heap_alloc w1 o b (lt_of K1.out.1)).trans K1.out.1)))
    | (go_at_call 59; go_must (refine (HM1.out _).mono ?_; rintro e w2 ⟨rfl, K2⟩)))
  obtain ⟨tb, htb⟩ : ∃ tb, w1.heap.size = tb := ⟨_, rfl⟩
  obtain ⟨m, hm⟩ : ∃ m, (uM B s1).1 = m := ⟨_, rfl⟩
  obtain ⟨s2, hs2⟩ : ∃ s2, (uM B s1).2 = s2 := ⟨_, rfl⟩
  have hst2 : s2.1 ≤ B.length := by rw [← hs2]; exact stays_many B s1 hst1
  have hm4 : m ≤ 4096 := by
    rw [← hm]
    unfold uM
    split
    · exact Nat.zero_le _
    · show ((uN B s1).1).toNat ≤ 4096
      omega
  have HU0 : Hid (UT w w2 b tb B s2 nm Sl.nil [] 0 Sl.nil []) := by
    have ha : At1 b (w1.alloc (.cells #[.string nm, .slice none 0 0, .int .i64 0, .slice none 0 0] 32)) w2 := K2.out.2
    have hz : (w.alloc tabZ).heap.size = w.heap.size + 1 := by simp
    have hz1 := K1.out.2.size
    have e1 : w1.heap[w.heap.size]? = some tabZ := (K1.out.2.block _ (by omega) (by omega)).trans (heap_new w _)
    have hl1 := lt_of e1
    refine ⟨by rw [← hs2]; exact K2.out.1, ((Turn.alloc w _).trans K1.out.2).trans ((Turn.alloc w1 _).trans ha), ?_, ?_, hbl, by omega, World.ownsRow_nil _ _ _ _, rfl, World.ownsRow_nil _ _ _ _, rfl, (fun _ h => by cases h)⟩
    · rw [← htb]; exact (ha.block _ (by simp) (by omega)).trans (heap_new w1 _)
    · exact (ha.block _ (by simp; omega) (by omega)).trans ((Below.heap_alloc w1 _ _ hl1).trans e1)
  have HM1' : Hid ((uM B s1).1 = m) := hm
  have HS2 : Hid ((uM B s1).2 = s2) := hs2
  rw [htb, hm]
  clear H1 HM HM1 K1 K2 htb hm hs2 hst1
  go_cut [5] (fun v wc => Hid (∃ P, UT w wc b tb B (uRep (uC B) m s2).2 nm P (uRep (uC B) m s2).1 0 Sl.nil []))
  case first =>
    go_wp2_with fail
    go_loopg [5] m (fun gk v wr => ∃ (i : Nat) (P : Sl), i ≤ m ∧ gk = m - i ∧ v = .int .i64 i ∧ Hid (UT w wr b tb B (uRep (uC B) i s2).2 nm P (uRep (uC B) i s2).1 0 Sl.nil []))
    case atStart => exact ⟨0, Sl.nil, Nat.zero_le _, rfl, rfl, HU0⟩
    case round =>
      clear HU0
      obtain ⟨i, ⟨A, n, c⟩, hi, rfl, rfl, HU⟩ := hrel
      have hsi : (uRep (uC B) i s2).2.1 ≤ B.length := stays_rep B (stays_col B) i s2 hst2
      have HNx := uRep_next (uC B) i s2
      have HEn := uRep_end (uC B) i m s2 hi
      have hn4 : n ≤ 4096 := by
        have h1 : (uRep (uC B) i s2).1.length = n := HU.out.col
        have h2 := uRep_len (uC B) i s2
        omega
      have HMe : Hid (i = m → uRep (uC B) m s2 = uRep (uC B) i s2) := fun e => by rw [e]
      obtain ⟨si, hsi'⟩ : ∃ si, uRep (uC B) i s2 = si := ⟨_, rfl⟩
      obtain ⟨Ci, pi, z⟩ := si
      rw [hsi'] at HU hsi HNx HEn HMe
      dsimp only at HU hsi HNx HEn
      obtain ⟨c0, c1, c2, f1, f2⟩ := HU.out.rd.cells
      dsimp only at c1 c2
      by_cases hlt : i < m
      · have hlI : (i : Int) < (m : Int) := by omega
        cases z with
        | true =>
          have HEq : Hid (uRep (uC B) m s2 = (Ci, pi, true)) := HEn rfl
          clear HNx HEn HMe
          go_wp2_with fail
          go_meet
          case rel => exact ⟨_, by rw [HEq.out]; exact HU.out⟩
        | false =>
          have HNx' : Hid (uRep (uC B) (i + 1) s2 = (Ci ++ [(uC B (pi, false)).1], (uC B (pi, false)).2)) := HNx rfl
          clear HNx HEn HMe
          have HT : Hid (Calls Tryz.prog 58 #[.pointer (some ⟨b, 0, none⟩)] wr fun e w' => e = .returned (.string (uT B (pi, false)).1) ∧ Hid (UrI b B (uT B (pi, false)).2 w' ∧ At1 b wr w')) := utext_any HU.out.rd hB hsi
          obtain ⟨xn, hxn⟩ : ∃ xn, (uT B (pi, false)).1 = xn := ⟨_, rfl⟩
          rw [hxn] at HT
          have HNu : Hid (∀ u, UrI b B (uT B (pi, false)).2 u ∧ At1 b wr u → Calls Tryz.prog 60 #[.pointer (some ⟨b, 0, none⟩)] u.drew fun e w' => e = .returned (.int .i64 (uN B (uT B (pi, false)).2).1) ∧ Hid (UT w w' b tb B (uC B (pi, false)).2 nm ⟨A, n, c⟩ Ci 0 Sl.nil [])) := fun u hu =>
            (unumber_any (w := u.drew) hu.1 hB (stays_text B _ hsi)).mono fun e w' ⟨e1, e2, e3⟩ => ⟨e1, HU.out.on e2 (hu.2.drew.trans e3)⟩
          obtain ⟨kd, hkd⟩ : ∃ kd, (uN B (uT B (pi, false)).2).1 = kd := ⟨_, rfl⟩
          rw [hkd] at HNu
          have HEl : Hid ((uC B (pi, false)).1 = (xn, kd)) := by show ((uT B (pi, false)).1, (uN B (uT B (pi, false)).2).1) = _; rw [hxn, hkd]
          have HTb : Hid (∀ u s', UrI b B s' u ∧ At1 b wr u → u.cell? ⟨tb, 1, none⟩ = some (.slice A n c)) := fun u s' hu => (HU.out.on hu.1 hu.2).cells.2.1
          have HAl : Hid (∀ u s' o, UT w u b tb B s' nm ⟨A, n, c⟩ Ci 0 Sl.nil [] → UT w (u.alloc o) b tb B s' nm ⟨A, n, c⟩ Ci 0 Sl.nil []) := fun u s' o hu => hu.fresh ((Below.refl _ u).alloc (Nat.le_refl _) o)
          have HSt : Hid (∀ u v s', UT w u b tb B s' nm ⟨A, n, c⟩ Ci 0 Sl.nil [] → Turn (fun i => (Value.slice A n c).ownBlock = some i) u v → v.cell? ⟨tb, 1, none⟩ = some (.slice A n c) ∧ v.frozen? ⟨tb, 1, none⟩ = false) := fun u v s' hu hv => by
            have k2 := (hv.block tb (lt_of hu.t) hu.rows_tb.1).trans hu.t
            exact ⟨by rw [cell_of k2]; rfl, frozen_of k2 1⟩
          clear hxn hkd
          go_upto_region 7 with (go_at_call 58; go_must (refine HT.out.mono ?_; rintro e w3 ⟨rfl, K3⟩))
          refine wp_region_last (S := fun u => u.cell? ⟨tb, 1, none⟩ = some (.slice A n c)) 9 (by kernel_rfl) (cell_drew (HTb.out _ _ K3.out)) (fun hHeld => ?_)
          refine last_take (i := 0) (dst := 30) (v := ?v30) rfl rfl (by kernel_rfl) (by kernel_rfl) (by kernel_rfl) (by kernel_rfl) (fun _ _ _ h => h) (Or.inl ⟨by rfl, ?hy30⟩) (by assumption) ?rest30
          case hy30 => intro w hSw; (try dsimp only at hSw); go_simp; try with_reducible rfl
          try simp only [List.setIfInBounds_toArray, List.set_cons_zero, List.set_cons_succ]
          refine last_take (i := 1) (dst := 31) (v := ?v31) rfl rfl (by kernel_rfl) (by kernel_rfl) (by kernel_rfl) (by kernel_rfl) (fun _ _ _ h => h) (Or.inl ⟨by rfl, ?hy31⟩) (by assumption) ?rest31
          case hy31 => intro w hSw; (try dsimp only at hSw); go_simp; try with_reducible rfl
          try simp only [List.setIfInBounds_toArray, List.set_cons_zero, List.set_cons_succ]
          refine last_take (i := 2) (dst := 32) (v := ?v32) rfl rfl (by kernel_rfl) (by kernel_rfl) (by kernel_rfl) (by kernel_rfl) (fun _ _ _ h => h) (Or.inl ⟨by rfl, ?hy32⟩) (by assumption) ?rest32
          case hy32 => intro w hSw; (try dsimp only at hSw); go_simp; try with_reducible rfl
          try simp only [List.setIfInBounds_toArray, List.set_cons_zero, List.set_cons_succ]
          refine last_take (i := 3) (dst := 33) (v := ?v33) rfl rfl (by kernel_rfl) (by kernel_rfl) (by kernel_rfl) (by kernel_rfl) (fun _ _ _ h => h) (Or.inl ⟨by rfl, ?hy33⟩) (by assumption) ?rest33
          case hy33 => intro w hSw; (try dsimp only at hSw); go_simp; try with_reducible rfl
          try simp only [List.setIfInBounds_toArray, List.set_cons_zero, List.set_cons_succ]
          refine last_ready (rs := [4]) (by kernel_rfl) (by simp) ?_
          refine AllReadyL.cons rfl (fun K hK => ?_) AllReadyL.nil
          rw [if_pos (by rfl)]
          go_simp
          refine (HNu.out _ K3.out).mono ?_
          rintro e w4 ⟨rfl, K4⟩
          dsimp only
          refine hK.out _ _ K4.out.cells.2.1 (fun hS4 => ?_)
          clear hK
          try simp only [List.setIfInBounds_toArray, List.set_cons_zero, List.set_cons_succ]
          refine last_take (i := 5) (dst := 35) (v := ?v35) rfl rfl (by kernel_rfl) (by kernel_rfl) (by kernel_rfl) (by kernel_rfl) (fun _ _ _ h => h) (Or.inl ⟨by rfl, ?hy35⟩) (by assumption) ?rest35
          case hy35 => intro w hSw; (try dsimp only at hSw); go_simp; try with_reducible rfl
          try simp only [List.setIfInBounds_toArray, List.set_cons_zero, List.set_cons_succ]
          refine last_ready (rs := [6]) (by kernel_rfl) (by simp) ?_
          refine AllReadyL.cons rfl (fun K hK => ?_) AllReadyL.nil
          rw [if_pos (by rfl)]
          go_simp
          have K4a : Hid (UT w (w4.alloc (.cells #[.string xn, .int .i64 kd] 70)) b tb B (uC B (pi, false)).2 nm ⟨A, n, c⟩ Ci 0 Sl.nil []) := HAl.out _ _ _ K4.out
          refine hK.out _ _ K4a.out.cells.2.1 (fun hS5 => ?_)
          clear hK
          try simp only [List.setIfInBounds_toArray, List.set_cons_zero, List.set_cons_succ]
          refine last_ready (rs := [7]) (by kernel_rfl) (by simp) ?_
          refine AllReadyL.cons rfl (fun K hK => ?_) AllReadyL.nil
          refine step_append_one (by rfl) _ _ 29 (by rfl) 70 (.agg #[.string ⟨#[]⟩, .int .i64 0]) 2 24 Tryz.underlying29 infoCol rfl (by decide) (by decide) enC (fun _ => rfl) oneC Ci (xn, kd) A n c (by rfl) (ownsRow_low K4a.out.co (Nat.zero_le _)) (by omega) w4.heap.size (by rfl) (col_at w4 xn kd) ?_
          intro A' m' w5 k1 k2 k3
          obtain ⟨x1, x2⟩ := HSt.out _ w5 _ K4a.out k2
          have HF : Hid (UT w (w5.setCell ⟨tb, 1, none⟩ (.slice A' (n + 1) m')) b tb B (uC B (pi, false)).2 nm ⟨A', n + 1, m'⟩ (Ci ++ [(xn, kd)]) 0 Sl.nil []) := K4a.out.col1 k2 k1 k3
          clear k1 k2 k3
          refine hK.out _ _ x1 (fun hS6 => ?_)
          clear hK
          try simp only [Act.put, List.setIfInBounds_toArray, List.set_cons_zero, List.set_cons_succ]
          refine last_take (i := 8) (dst := 38) (v := ?v38) rfl rfl (by kernel_rfl) (by kernel_rfl) (by kernel_rfl) (by kernel_rfl) (fun _ _ _ h => h) (Or.inl ⟨by rfl, ?hy38⟩) (by assumption) ?rest38
          case hy38 => intro w hSw; (try dsimp only at hSw); go_simp; try with_reducible rfl
          try simp only [List.setIfInBounds_toArray, List.set_cons_zero, List.set_cons_succ]
          refine last_last (by kernel_rfl) rfl (by kernel_rfl) (fun K hK => ?_)
          rw [if_pos (by rfl)]
          go_simp
          refine hK.out _ _ ?_
          clear hK
          go_wp2_with fail
          go_roundg (m - (i + 1))
          case measure => omega
          case rel => exact ⟨i + 1, _, by omega, rfl, by go_num, by rw [HNx'.out, HEl.out]; exact HF.out⟩
      · have hlI : ¬ (i : Int) < (m : Int) := by omega
        have HEq : Hid (uRep (uC B) m s2 = (Ci, pi, z)) := HMe.out (by omega)
        clear HNx HEn HMe
        go_wp2_with fail
        go_meet
        case rel => exact ⟨_, by rw [HEq.out]; exact HU.out⟩
  case rest =>
    obtain ⟨⟨A, n, c⟩, hU⟩ := hcut.out
    have hst3 : (uRep (uC B) m s2).2.1 ≤ B.length := stays_rep B (stays_col B) m s2 hst2
    obtain ⟨C, hC⟩ : ∃ C, (uRep (uC B) m s2).1 = C := ⟨_, rfl⟩
    obtain ⟨s3, hs3⟩ : ∃ s3, (uRep (uC B) m s2).2 = s3 := ⟨_, rfl⟩
    have HT0 : Hid (uTb B s = (⟨nm, C, (uN B s3).1, (uL B (uX B) (uN B s3).2).1⟩, (uL B (uX B) (uN B s3).2).2)) := by
      show _ = _
      have e1 : uL B (uC B) (uT B s).2 = (C, s3) := by rw [HS1.out]; unfold uL; rw [HM1'.out, HS2.out]; exact Prod.ext hC hs3
      unfold uTb
      rw [e1, HNm.out]
    rw [hs3] at hst3
    rw [hC, hs3] at hU
    have HU : Hid (UT w wc b tb B s3 nm ⟨A, n, c⟩ C 0 Sl.nil []) := hU
    have HN : Hid (Calls Tryz.prog 60 #[.pointer (some ⟨b, 0, none⟩)] wc fun e w' => e = .returned (.int .i64 (uN B s3).1) ∧ Hid (UT w w' b tb B (uN B s3).2 nm ⟨A, n, c⟩ C 0 Sl.nil [])) := (unumber_any hU.rd hB hst3).mono fun e w' ⟨e1, e2, e3⟩ => ⟨e1, HU.out.on e2 e3⟩
    obtain ⟨key, hkey⟩ : ∃ key, (uN B s3).1 = key := ⟨_, rfl⟩
    obtain ⟨s4, hs4⟩ : ∃ s4, (uN B s3).2 = s4 := ⟨_, rfl⟩
    have hst4 : s4.1 ≤ B.length := by rw [← hs4]; exact stays_num B s3 hst3
    rw [hkey, hs4] at HN
    have HT1 : Hid (uTb B s = (⟨nm, C, key, (uRep (uX B) (uM B s4).1 (uM B s4).2).1⟩, (uRep (uX B) (uM B s4).1 (uM B s4).2).2)) := by
      show _ = _
      rw [HT0.out, hkey, hs4]
      rfl
    have HK : Hid (∀ u, UT w u b tb B s4 nm ⟨A, n, c⟩ C 0 Sl.nil [] → Calls Tryz.prog 59 #[.pointer (some ⟨b, 0, none⟩)] (u.setCell ⟨tb, 2, none⟩ (.int .i64 key)) fun e w' => e = .returned (.int .i64 ((uM B s4).1 : Int)) ∧ Hid (UT w w' b tb B (uM B s4).2 nm ⟨A, n, c⟩ C key Sl.nil [])) := fun u hu =>
      (umany_any (hu.setKey key).rd hB hst4).mono fun e w' ⟨e1, e2, e3⟩ => ⟨e1, (hu.setKey key).on e2 e3⟩
    obtain ⟨k2, hk2⟩ : ∃ k, (uM B s4).1 = k := ⟨_, rfl⟩
    obtain ⟨s5, hs5⟩ : ∃ s5, (uM B s4).2 = s5 := ⟨_, rfl⟩
    have hst5 : s5.1 ≤ B.length := by rw [← hs5]; exact stays_many B s4 hst4
    have hk24 : k2 ≤ 4096 := by
      rw [← hk2]
      unfold uM
      split
      · exact Nat.zero_le _
      · show ((uN B s4).1).toNat ≤ 4096
        omega
    rw [hk2, hs5] at HK HT1
    clear hC hs3 hkey hs4 hk2 hs5 hU HT0 hcut hst2 hst3 hst4 HU HS1 HM1' HS2 HNm
    go_upto_block 2 with (first
      | (go_at_call 60; go_must (refine HN.out.mono ?_; rintro e w6 ⟨rfl, K6⟩; obtain ⟨_, _, y2, _⟩ := K6.out.cells; have y3 := K6.out.frozen 2))
      | (go_at_call 59; go_must (refine (HK.out _ K6.out).mono ?_; rintro e w7 ⟨rfl, K7⟩)))
    clear HN HK K6 y2 y3
    go_cut [7] (fun v wc => Hid (∃ R X, UT w wc b tb B (uRep (uX B) k2 s5).2 nm ⟨A, n, c⟩ C key R X ∧ X.map Iv.ix = (uRep (uX B) k2 s5).1))
    case first =>
      go_wp2_with fail
      go_loopg [7] k2 (fun gk v wr => ∃ (i : Nat) (R : Sl) (X : List Iv), i ≤ k2 ∧ gk = k2 - i ∧ v = .int .i64 i ∧ Hid (UT w wr b tb B (uRep (uX B) i s5).2 nm ⟨A, n, c⟩ C key R X ∧ X.map Iv.ix = (uRep (uX B) i s5).1))
      case atStart => exact ⟨0, Sl.nil, [], Nat.zero_le _, rfl, rfl, K7.out, rfl⟩
      case round =>
        clear K7
        obtain ⟨i, ⟨A2, n2, c2⟩, X, hi, rfl, rfl, HU⟩ := hrel
        have hsi : (uRep (uX B) i s5).2.1 ≤ B.length := stays_rep B (stays_ix B) i s5 hst5
        have HNx := uRep_next (uX B) i s5
        have HEn := uRep_end (uX B) i k2 s5 hi
        have hn4 : n2 ≤ 4096 := by
          have h1 : X.length = n2 := HU.out.1.ixl
          have h2 := uRep_len (uX B) i s5
          have h3 := congrArg List.length HU.out.2
          rw [List.length_map] at h3
          omega
        have HMe : Hid (i = k2 → uRep (uX B) k2 s5 = uRep (uX B) i s5) := fun e => by rw [e]
        obtain ⟨si, hsi'⟩ : ∃ si, uRep (uX B) i s5 = si := ⟨_, rfl⟩
        obtain ⟨Xi, pi, z⟩ := si
        rw [hsi'] at HU hsi HNx HEn HMe
        dsimp only at HU hsi HNx HEn
        obtain ⟨c0, c1, c2', f1, f2⟩ := HU.out.1.rd.cells
        dsimp only at c1 c2'
        by_cases hlt : i < k2
        · have hlI : (i : Int) < (k2 : Int) := by omega
          cases z with
          | true =>
            have HEq : Hid (uRep (uX B) k2 s5 = (Xi, pi, true)) := HEn rfl
            clear HNx HEn HMe
            go_wp2_with fail
            go_meet
            case rel => exact ⟨_, _, by rw [HEq.out]; exact HU.out⟩
          | false =>
            have HNx' : Hid (uRep (uX B) (i + 1) s5 = (Xi ++ [(uX B (pi, false)).1], (uX B (pi, false)).2)) := HNx rfl
            clear HNx HEn HMe
            have HT : Hid (Calls Tryz.prog 58 #[.pointer (some ⟨b, 0, none⟩)] wr fun e w' => e = .returned (.string (uT B (pi, false)).1) ∧ Hid (UT w w' b tb B (uT B (pi, false)).2 nm ⟨A, n, c⟩ C key ⟨A2, n2, c2⟩ X)) := (utext_any HU.out.1.rd hB hsi).mono fun e w' ⟨e1, e2, e3⟩ => ⟨e1, HU.out.1.on e2 e3⟩
            have hst1 : (uT B (pi, false)).2.1 ≤ B.length := stays_text B _ hsi
            have HX2 : Hid (X.map Iv.ix = Xi) := HU.out.2
            have HEl0 : Hid (uX B (pi, false) = (⟨(uT B (pi, false)).1, (uL B (uN B) (uT B (pi, false)).2).1, (uF B (uL B (uN B) (uT B (pi, false)).2).2).1⟩, (uF B (uL B (uN B) (uT B (pi, false)).2).2).2)) := (rfl : _ = _)
            obtain ⟨xn, hxn⟩ : ∃ xn, (uT B (pi, false)).1 = xn := ⟨_, rfl⟩
            obtain ⟨t1, ht1⟩ : ∃ t1, (uT B (pi, false)).2 = t1 := ⟨_, rfl⟩
            rw [hxn, ht1] at HT HEl0
            rw [ht1] at hst1
            have HEl1 : Hid (uX B (pi, false) = (⟨xn, (uRep (uN B) (uM B t1).1 (uM B t1).2).1, (uF B (uRep (uN B) (uM B t1).1 (uM B t1).2).2).1⟩, (uF B (uRep (uN B) (uM B t1).1 (uM B t1).2).2).2)) := HEl0
            have HK : Hid (∀ u, UT w u b tb B t1 nm ⟨A, n, c⟩ C key ⟨A2, n2, c2⟩ X → Calls Tryz.prog 59 #[.pointer (some ⟨b, 0, none⟩)] (u.alloc (.cells #[.string xn, .slice none 0 0, .bool false] 64)) fun e w' => e = .returned (.int .i64 ((uM B t1).1 : Int)) ∧ Hid (UX u w' b u.heap.size B (uM B t1).2 xn Sl.nil [])) := fun u hu => by
              have h1 : UX u (u.alloc (.cells #[.string xn, .slice none 0 0, .bool false] 64)) b u.heap.size B t1 xn Sl.nil [] := ⟨(Below.heap_alloc u _ b (lt_of hu.rd)).trans hu.rd, Turn.alloc u _, heap_new u _, lt_of hu.rd, Nat.le_refl _, World.ownsRow_nil _ _ _ _, rfl⟩
              exact (umany_any h1.rd hB hst1).mono fun e w' ⟨e1, e2, e3⟩ => ⟨e1, h1.on e2 e3⟩
            obtain ⟨k3, hk3⟩ : ∃ k, (uM B t1).1 = k := ⟨_, rfl⟩
            obtain ⟨t2, ht2⟩ : ∃ t2, (uM B t1).2 = t2 := ⟨_, rfl⟩
            have hst2 : t2.1 ≤ B.length := by rw [← ht2]; exact stays_many B t1 hst1
            have hk34 : k3 ≤ 4096 := by
              rw [← hk3]
              unfold uM
              split
              · exact Nat.zero_le _
              · show ((uN B t1).1).toNat ≤ 4096
                omega
            rw [hk3, ht2] at HK HEl1
            clear hxn ht1 HEl0 hk3 ht2 HU hst1 hsi'
            go_upto_block 4 with (first
              | (go_at_call 58; go_must (refine HT.out.mono ?_; rintro e wx ⟨rfl, Kx⟩))
              | (go_at_call 59; go_must (refine (HK.out _ Kx.out).mono ?_; rintro e w8 ⟨rfl, K8⟩)))
            obtain ⟨xb, hxb⟩ : ∃ xb, wx.heap.size = xb := ⟨_, rfl⟩
            have Hxb : Hid (wx.heap.size = xb) := hxb
            rw [hxb] at K8 ⊢
            clear HT HK hxb c0 c1 c2' f1 f2
            go_cut [10] (fun v wc => Hid (∃ P, UX wx wc b xb B (uRep (uN B) k3 t2).2 xn P (uRep (uN B) k3 t2).1))
            case first =>
              go_wp2_with fail
              go_loopg [10] k3 (fun gk v wr => ∃ (j : Nat) (P : Sl), j ≤ k3 ∧ gk = k3 - j ∧ v = .int .i64 j ∧ Hid (UX wx wr b xb B (uRep (uN B) j t2).2 xn P (uRep (uN B) j t2).1))
              case atStart => exact ⟨0, Sl.nil, Nat.zero_le _, rfl, rfl, K8⟩
              case round =>
                clear K8
                obtain ⟨j, ⟨A3, n3, c3⟩, hj, rfl, rfl, HX⟩ := hrel
                have hsj : (uRep (uN B) j t2).2.1 ≤ B.length := stays_rep B (stays_num B) j t2 hst2
                have HNx := uRep_next (uN B) j t2
                have HEn := uRep_end (uN B) j k3 t2 hj
                have hn34 : n3 ≤ 4096 := by
                  have h1 : (uRep (uN B) j t2).1.length = n3 := HX.out.len
                  have h2 := uRep_len (uN B) j t2
                  omega
                have HMe : Hid (j = k3 → uRep (uN B) k3 t2 = uRep (uN B) j t2) := fun e => by rw [e]
                obtain ⟨sj, hsj'⟩ : ∃ sj, uRep (uN B) j t2 = sj := ⟨_, rfl⟩
                obtain ⟨Dj, pj, y⟩ := sj
                rw [hsj'] at HX hsj HNx HEn HMe
                dsimp only at HX hsj HNx HEn
                obtain ⟨c0, c1, c2', f1, f2⟩ := HX.out.rd.cells
                dsimp only at c1 c2'
                by_cases hjl : j < k3
                · have hjI : (j : Int) < (k3 : Int) := by omega
                  cases y with
                  | true =>
                    have HEq : Hid (uRep (uN B) k3 t2 = (Dj, pj, true)) := HEn rfl
                    clear HNx HEn HMe
                    go_wp2_with fail
                    go_meet
                    case rel => exact ⟨_, by rw [HEq.out]; exact HX.out⟩
                  | false =>
                    have HNx' : Hid (uRep (uN B) (j + 1) t2 = (Dj ++ [(uN B (pj, false)).1], (uN B (pj, false)).2)) := HNx rfl
                    clear HNx HEn HMe
                    have HNu : Hid (Calls Tryz.prog 60 #[.pointer (some ⟨b, 0, none⟩)] wr.drew fun e w' => e = .returned (.int .i64 (uN B (pj, false)).1) ∧ Hid (UX wx w' b xb B (uN B (pj, false)).2 xn ⟨A3, n3, c3⟩ Dj)) :=
                      (unumber_any (w := wr.drew) HX.out.rd hB hsj).mono fun e w' ⟨e1, e2, e3⟩ => ⟨e1, HX.out.on e2 ((Turn.refl _ wr).drew.trans e3)⟩
                    obtain ⟨kd, hkd⟩ : ∃ kd, (uN B (pj, false)).1 = kd := ⟨_, rfl⟩
                    rw [hkd] at HNu HNx'
                    have HAl : Hid (∀ u s' o, UX wx u b xb B s' xn ⟨A3, n3, c3⟩ Dj → UX wx (u.alloc o) b xb B s' xn ⟨A3, n3, c3⟩ Dj) := fun u s' o hu => hu.fresh ((Below.refl _ u).alloc (Nat.le_refl _) o)
                    have HSt : Hid (∀ u v s', UX wx u b xb B s' xn ⟨A3, n3, c3⟩ Dj → Turn (fun i => (Value.slice A3 n3 c3).ownBlock = some i) u v → v.cell? ⟨xb, 1, none⟩ = some (.slice A3 n3 c3) ∧ v.frozen? ⟨xb, 1, none⟩ = false) := fun u v s' hu hv => by
                      have k2 := (hv.block xb (lt_of hu.x) (row_not hu.row hu.x (by decide))).trans hu.x
                      exact ⟨by rw [cell_of k2]; rfl, frozen_of k2 1⟩
                    clear hkd
                    go_upto_region 18 with fail
                    refine wp_region_last (S := fun u => u.cell? ⟨xb, 1, none⟩ = some (.slice A3 n3 c3)) 7 (by kernel_rfl) (cell_drew HX.out.cells.2.1) (fun hHeld => ?_)
                    refine last_take (i := 0) (dst := 73) (v := ?v73) rfl rfl (by kernel_rfl) (by kernel_rfl) (by kernel_rfl) (by kernel_rfl) (fun _ _ _ h => h) (Or.inl ⟨by rfl, ?hy73⟩) (by assumption) ?rest73
                    case hy73 => intro w hSw; (try dsimp only at hSw); go_simp; try with_reducible rfl
                    try simp only [List.setIfInBounds_toArray, List.set_cons_zero, List.set_cons_succ]
                    refine last_take (i := 1) (dst := 74) (v := ?v74) rfl rfl (by kernel_rfl) (by kernel_rfl) (by kernel_rfl) (by kernel_rfl) (fun _ _ _ h => h) (Or.inl ⟨by rfl, ?hy74⟩) (by assumption) ?rest74
                    case hy74 => intro w hSw; (try dsimp only at hSw); go_simp; try with_reducible rfl
                    try simp only [List.setIfInBounds_toArray, List.set_cons_zero, List.set_cons_succ]
                    refine last_take (i := 2) (dst := 75) (v := ?v75) rfl rfl (by kernel_rfl) (by kernel_rfl) (by kernel_rfl) (by kernel_rfl) (fun _ _ _ h => h) (Or.inl ⟨by rfl, ?hy75⟩) (by assumption) ?rest75
                    case hy75 => intro w hSw; (try dsimp only at hSw); go_simp; try with_reducible rfl
                    try simp only [List.setIfInBounds_toArray, List.set_cons_zero, List.set_cons_succ]
                    refine last_ready (rs := [3]) (by kernel_rfl) (by simp) ?_
                    refine AllReadyL.cons rfl (fun K hK => ?_) AllReadyL.nil
                    rw [if_pos (by rfl)]
                    go_simp
                    refine HNu.out.mono ?_
                    rintro e w4 ⟨rfl, K4⟩
                    dsimp only
                    refine hK.out _ _ K4.out.cells.2.1 (fun hS4 => ?_)
                    clear hK
                    try simp only [List.setIfInBounds_toArray, List.set_cons_zero, List.set_cons_succ]
                    refine last_ready (rs := [4]) (by kernel_rfl) (by simp) ?_
                    refine AllReadyL.cons rfl (fun K hK => ?_) AllReadyL.nil
                    rw [if_pos (by rfl)]
                    go_simp
                    have K4a : Hid (UX wx (w4.alloc (.cells #[.int .i64 kd] 3)) b xb B (uN B (pj, false)).2 xn ⟨A3, n3, c3⟩ Dj) := HAl.out _ _ _ K4.out
                    refine hK.out _ _ K4a.out.cells.2.1 (fun hS5 => ?_)
                    clear hK
                    try simp only [List.setIfInBounds_toArray, List.set_cons_zero, List.set_cons_succ]
                    refine last_ready (rs := [5]) (by kernel_rfl) (by simp) ?_
                    refine AllReadyL.cons rfl (fun K hK => ?_) AllReadyL.nil
                    refine step_append_one (by rfl) _ _ 62 (by rfl) 3 (.int .i64 0) 1 8 Tryz.underlying62 infoI rfl (by decide) (by decide) enI (fun _ => rfl) oneI Dj kd A3 n3 c3 (by rfl) (ownsRow_low K4a.out.row (Nat.zero_le _)) (by omega) w4.heap.size (by rfl) (num_at w4 kd) ?_
                    intro A' m' w5 k1 k2 k3
                    obtain ⟨x1, x2⟩ := HSt.out _ w5 _ K4a.out k2
                    have HF : Hid (UX wx (w5.setCell ⟨xb, 1, none⟩ (.slice A' (n3 + 1) m')) b xb B (uN B (pj, false)).2 xn ⟨A', n3 + 1, m'⟩ (Dj ++ [kd])) := K4a.out.num1 k2 k1 k3
                    clear k1 k2 k3
                    refine hK.out _ _ x1 (fun hS6 => ?_)
                    clear hK
                    try simp only [Act.put, List.setIfInBounds_toArray, List.set_cons_zero, List.set_cons_succ]
                    refine last_take (i := 6) (dst := 79) (v := ?v79) rfl rfl (by kernel_rfl) (by kernel_rfl) (by kernel_rfl) (by kernel_rfl) (fun _ _ _ h => h) (Or.inl ⟨by rfl, ?hy79⟩) (by assumption) ?rest79
                    case hy79 => intro w hSw; (try dsimp only at hSw); go_simp; try with_reducible rfl
                    try simp only [List.setIfInBounds_toArray, List.set_cons_zero, List.set_cons_succ]
                    refine last_last (by kernel_rfl) rfl (by kernel_rfl) (fun K hK => ?_)
                    rw [if_pos (by rfl)]
                    go_simp
                    refine hK.out _ _ ?_
                    clear hK
                    go_wp2_with fail
                    go_roundg (k3 - (j + 1))
                    case measure => omega
                    case rel => exact ⟨j + 1, _, by omega, rfl, by go_num, by rw [HNx'.out]; exact HF.out⟩
                · have hjI : ¬ (j : Int) < (k3 : Int) := by omega
                  have HEq : Hid (uRep (uN B) k3 t2 = (Dj, pj, y)) := HMe.out (by omega)
                  clear HNx HEn HMe
                  go_wp2_with fail
                  go_meet
                  case rel => exact ⟨_, by rw [HEq.out]; exact HX.out⟩
            case rest =>
              obtain ⟨⟨A3, n3, c3⟩, hX⟩ := hcut.out
              have hst3 : (uRep (uN B) k3 t2).2.1 ≤ B.length := stays_rep B (stays_num B) k3 t2 hst2
              obtain ⟨D, hD⟩ : ∃ D, (uRep (uN B) k3 t2).1 = D := ⟨_, rfl⟩
              obtain ⟨t3, ht3⟩ : ∃ t3, (uRep (uN B) k3 t2).2 = t3 := ⟨_, rfl⟩
              rw [ht3] at hst3
              rw [hD, ht3] at hX HEl1
              have HX : Hid (UX wx wc b xb B t3 xn ⟨A3, n3, c3⟩ D) := hX
              have HFl : Hid (Calls Tryz.prog 61 #[.pointer (some ⟨b, 0, none⟩)] wc fun e w' => e = .returned (.bool (uF B t3).1) ∧ Hid (UX wx w' b xb B (uF B t3).2 xn ⟨A3, n3, c3⟩ D)) := (uflag_any hX.rd hB hst3).mono fun e w' ⟨e1, e2, e3⟩ => ⟨e1, HX.out.on e2 e3⟩
              obtain ⟨un, hun⟩ : ∃ un, (uF B t3).1 = un := ⟨_, rfl⟩
              obtain ⟨t4, ht4⟩ : ∃ t4, (uF B t3).2 = t4 := ⟨_, rfl⟩
              rw [hun, ht4] at HFl HEl1
              have hn34 : n3 ≤ 1000000 := by
                have h1 : D.length = n3 := hX.len
                have h2 := uRep_len (uN B) k3 t2
                rw [hD] at h2
                omega
              clear hD ht3 hun ht4 hX hcut hst3 hst2
              go_upto_region 20 with (go_at_call 61; go_must (refine HFl.out.mono ?_; rintro e w9 ⟨rfl, K9⟩; obtain ⟨_, _, y2⟩ := K9.out.cells; have y3 := K9.out.frozen 2))
              obtain ⟨wA, hwA⟩ : ∃ u, w9.setCell ⟨xb, 2, none⟩ (.bool un) = u := ⟨_, rfl⟩
              have HA : Hid (UT w wA b tb B t4 nm ⟨A, n, c⟩ C key ⟨A2, n2, c2⟩ X ∧ wA.heap[xb]? = some (.cells #[.string xn, .slice A3 n3 c3, .bool un] 64 (0, 0)) ∧ NumsO wA (w.heap.size + 1) ⟨⟨xn, D, un⟩, .slice A3 n3 c3⟩) := by
                obtain ⟨g1, g2, g3, g4⟩ := K9.out.flag un
                rw [hwA] at g1 g2 g3 g4
                refine ⟨Kx.out.on g1 g2, g3, ?_⟩
                have hl : D.length = n3 := K9.out.len
                show World.ownsRow _ _ _ _ _ D.length _
                rw [hl]
                have hs1 := Kx.out.at1.size
                have hs2 := lt_of Kx.out.z
                exact ownsRow_low g4 (by omega)
              rw [hwA]
              clear hwA K9 y2 y3 HFl HX
              obtain ⟨_, _, _, a3⟩ := HA.out.1.cells
              have b0 : wA.cell? ⟨xb, 0, none⟩ = some (.string xn) := by rw [cell_of HA.out.2.1]; rfl
              have b1 : wA.cell? ⟨xb, 1, none⟩ = some (.slice A3 n3 c3) := by rw [cell_of HA.out.2.1]; rfl
              have b2 : wA.cell? ⟨xb, 2, none⟩ = some (.bool un) := by rw [cell_of HA.out.2.1]; rfl
              have HA2 : Hid (UT w (wA.alloc (.cells #[.string xn, .slice A3 n3 c3, .bool un] 64)) b tb B t4 nm ⟨A, n, c⟩ C key ⟨A2, n2, c2⟩ X ∧ NumsO (wA.alloc (.cells #[.string xn, .slice A3 n3 c3, .bool un] 64)) (w.heap.size + 1) ⟨⟨xn, D, un⟩, .slice A3 n3 c3⟩) := by
                have hb : Below wA.heap.size wA (wA.alloc (.cells #[.string xn, .slice A3 n3 c3, .bool un] 64)) := (Below.refl _ wA).alloc (Nat.le_refl _) _
                exact ⟨HA.out.1.fresh hb, ownsRow_block HA.out.2.2 fun g hg => hb.block g (World.ownsRow.lt HA.out.2.2 g hg).2⟩
              have HSt : Hid (∀ v, Turn (fun i => (Value.slice A2 n2 c2).ownBlock = some i) (wA.alloc (.cells #[.string xn, .slice A3 n3 c3, .bool un] 64)) v → v.cell? ⟨tb, 3, none⟩ = some (.slice A2 n2 c2) ∧ v.frozen? ⟨tb, 3, none⟩ = false) := fun v hv => by
                have k2 := (hv.block tb (lt_of HA2.out.1.t) HA2.out.1.rows_tb.2.1).trans HA2.out.1.t
                exact ⟨by rw [cell_of k2]; rfl, frozen_of k2 3⟩
              have hn4' : n2 ≤ 1000000 := by omega
              go_wp2_with (at_builtin; go_must (refine wpList_append_one rfl _ _ 30 rfl 64 (.agg #[.string ⟨#[]⟩, .slice none 0 0, .bool false]) 3 48 Tryz.underlying30 infoIdx rfl (by decide) (by decide) enX (fun _ => rfl) X ⟨⟨xn, D, un⟩, .slice A3 n3 c3⟩ (one_iv _ _ _ _ _ _) A2 n2 c2 rfl (ownsRow_low HA2.out.1.ix (Nat.zero_le _)) hn4' wA.heap.size rfl (iv_at wA _ _ _ _ _ _) ?_; intro A' m' w5 r1 r2 r3; obtain ⟨x1, x2⟩ := HSt.out w5 r2.out))
              have HF : Hid (UT w (w5.setCell ⟨tb, 3, none⟩ (.slice A' (n2 + 1) m')) b tb B t4 nm ⟨A, n, c⟩ C key ⟨A', n2 + 1, m'⟩ (X ++ [⟨⟨xn, D, un⟩, .slice A3 n3 c3⟩])) := HA2.out.1.ix1 r2.out r1.out r3.out HA2.out.2
              go_roundg (k2 - (i + 1))
              case measure => omega
              case rel => exact ⟨i + 1, _, _, by omega, rfl, by go_num, by rw [HNx'.out, HEl1.out]; exact ⟨HF.out, by rw [List.map_append, HX2.out]; rfl⟩⟩
        · have hlI : ¬ (i : Int) < (k2 : Int) := by omega
          have HEq : Hid (uRep (uX B) k2 s5 = (Xi, pi, z)) := HMe.out (by omega)
          clear HNx HEn HMe
          go_wp2_with fail
          go_meet
          case rel => exact ⟨_, _, by rw [HEq.out]; exact HU.out⟩
    case rest =>
      obtain ⟨⟨A2, n2, c2⟩, X, hU, hX⟩ := hcut.out
      obtain ⟨I, hI⟩ : ∃ I, (uRep (uX B) k2 s5).1 = I := ⟨_, rfl⟩
      obtain ⟨s6, hs6⟩ : ∃ s6, (uRep (uX B) k2 s5).2 = s6 := ⟨_, rfl⟩
      rw [hI, hs6] at HT1
      rw [hs6] at hU
      rw [hI] at hX
      have HU : Hid (UT w wc b tb B s6 nm ⟨A, n, c⟩ C key ⟨A2, n2, c2⟩ X) := hU
      have HX : Hid (X.map Iv.ix = I) := hX
      obtain ⟨a0, a1, a2, a3⟩ := hU.cells
      have hz := hU.z
      have z0 : wc.cell? ⟨w.heap.size, 0, none⟩ = some (.string ⟨#[]⟩) := by rw [cell_of hz]; rfl
      have z1 : wc.cell? ⟨w.heap.size, 1, none⟩ = some (.slice none 0 0) := by rw [cell_of hz]; rfl
      have z2 : wc.cell? ⟨w.heap.size, 2, none⟩ = some (.int .i64 0) := by rw [cell_of hz]; rfl
      have z3 : wc.cell? ⟨w.heap.size, 3, none⟩ = some (.slice none 0 0) := by rw [cell_of hz]; rfl
      have y0 := frozen_of hz 0
      have y1 := frozen_of hz 1
      have y2 := frozen_of hz 2
      have y3 := frozen_of hz 3
      have HZ : Hid (wc.heap[w.heap.size]? = some tabZ) := hz
      dsimp only [Sl.v] at a1 a3
      clear hI hs6 hU hX hcut hz
      go_wp2_with fail
      have hk := HZ.out
      have i0 : (wc.setCell ⟨w.heap.size, 0, none⟩ (.string nm)).cell? ⟨w.heap.size, 0, none⟩ = some (.string nm) := by rw [cell_of (heap_setCell_same hk 0 _)]; rfl
      have i1 : ∀ x, ((wc.setCell ⟨w.heap.size, 0, none⟩ x).setCell ⟨w.heap.size, 1, none⟩ (.slice A n c)).cell? ⟨w.heap.size, 1, none⟩ = some (.slice A n c) := fun x => by rw [cell_of (heap_setCell_same (heap_setCell_same hk 0 _) 1 _)]; rfl
      have i2 : ∀ x y, (((wc.setCell ⟨w.heap.size, 0, none⟩ x).setCell ⟨w.heap.size, 1, none⟩ y).setCell ⟨w.heap.size, 2, none⟩ (.int .i64 key)).cell? ⟨w.heap.size, 2, none⟩ = some (.int .i64 key) := fun x y => by rw [cell_of (heap_setCell_same (heap_setCell_same (heap_setCell_same hk 0 _) 1 _) 2 _)]; rfl
      have i3 : ∀ x y z, ((((wc.setCell ⟨w.heap.size, 0, none⟩ x).setCell ⟨w.heap.size, 1, none⟩ y).setCell ⟨w.heap.size, 2, none⟩ z).setCell ⟨w.heap.size, 3, none⟩ (.slice A2 n2 c2)).cell? ⟨w.heap.size, 3, none⟩ = some (.slice A2 n2 c2) := fun x y z => by rw [cell_of (heap_setCell_same (heap_setCell_same (heap_setCell_same (heap_setCell_same hk 0 _) 1 _) 2 _) 3 _)]; rfl
      refine bodyPost_ret (by simp [results, Tryz.results39, go_sem, i0, i1, i2, i3]; rfl) rfl ?_
      show UTabR _ _ _ _ _ _
      rw [HT1.out]
      exact ⟨_, _, _, _, _, _, X, rfl, HU.out.fin HX.out⟩
end

end Go.Proofs.YtnboanlhdllhnaaGreat
