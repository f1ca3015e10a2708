/- A disk and the reference beside it; names, same. -/
import Derived.Test.YtbiombolpfhdlaaRefK
import Derived.Test.YtbiombolpfhdlaaLend
namespace Go.Proofs.Ytbiombolpfhdlaa
open Go.RowKit Go.Maps

/-- both hold s; their blocks lie in F -/
def BothG (w : World) (d r : Nat) (s : Dk.Dsk) (F : Nat → Prop) : Prop :=
  ∃ m G v, DiskG Try.prog w d m G s ∧ RefG w r v s ∧ (∀ i, foot d m G i → F i ∧ ¬ rfoot r v i) ∧ (∀ i, rfoot r v i → F i) ∧ ∀ i, F i → i < w.heap.size
def BothGoes (w w' : World) (d r : Nat) (F : Nat → Prop) (s' : Dk.Dsk) : Prop := ∃ F', BothG w' d r s' F' ∧ Turn F w w' ∧ ∀ i, F' i → F i ∨ w.heap.size ≤ i
/-- the disk has gone, the reference has not yet -/
def Half (w w1 : World) (d r : Nat) (v : Value) (F : Nat → Prop) (s s' : Dk.Dsk) : Prop :=
  ∃ m G', DiskG Try.prog w1 d m G' s' ∧ RefG w1 r v s ∧ Turn F w w1 ∧ (∀ i, foot d m G' i → (F i ∨ w.heap.size ≤ i) ∧ ¬ rfoot r v i) ∧ (∀ i, rfoot r v i → F i) ∧ ∀ i, F i → i < w.heap.size

section
variable {w w1 w2 : World} {d r m : Nat} {v : Value} {F : Nat → Prop} {s s' : Dk.Dsk} {G : List (List UInt8 × Gc)}

theorem half_of (hd : DiskG Try.prog w d m G s) (hr : RefG w r v s) (h1 : ∀ i, foot d m G i → F i ∧ ¬ rfoot r v i) (h2 : ∀ i, rfoot r v i → F i) (h3 : ∀ i, F i → i < w.heap.size) {n : Nat} (hg : Goes (w.drewN n) w1 d m G s') : Half w w1 d r v F s s' := by
  obtain ⟨G', a, b, c⟩ := hg
  have _ := hd
  refine ⟨m, G', a, (hr.below (below_drewN w n)).kept b (fun i hi hf => (h1 i hf).2 hi), (Turn.ofBelow _ (below_drewN w n)).trans (b.mono (fun i hi => (h1 i hi).1)), fun i hi => ?_, h2, h3⟩
  rcases c i hi with h | h
  · exact ⟨Or.inl (h1 i h).1, (h1 i h).2⟩
  · have h : w.heap.size ≤ i := h
    exact ⟨Or.inr h, fun hr' => by have := h3 i (h2 i hr'); omega⟩

theorem both_of (h : Half w w1 d r v F s s') (hg : RGoes w1 w2 r v s') : BothGoes w w2 d r F s' := by
  obtain ⟨m, G', hD, hR, ht, hf, hrf, hlt⟩ := h
  obtain ⟨v', hR', ht', hv'⟩ := hg
  have hD' : DiskG Try.prog w2 d m G' s' := hD.kept ht' (fun i hi hr' => (hf i hi).2 hr')
  refine ⟨fun i => (F i ∨ w.heap.size ≤ i) ∧ i < w2.heap.size, ⟨m, G', v', hD', hR', fun i hi => ⟨⟨(hf i hi).1, hD'.lt hi⟩, fun hr' => ?_⟩, fun i hi => ⟨?_, hR'.lt hi⟩, fun i hi => hi.2⟩, ht.trans (ht'.mono hrf), fun i hi => hi.1⟩
  · rcases hv' i hr' with h | h
    · exact (hf i hi).2 h
    · have := hD.lt hi; omega
  · rcases hv' i hi with h | h
    · exact Or.inl (hrf i h)
    · exact Or.inr (Nat.le_trans ht.size h)

theorem BothG.inv (h : BothG w d r s F) : Inv s := by
  obtain ⟨m, G, v, hD, _⟩ := h
  exact hD.inv

theorem BothG.kept {S : Nat → Prop} (h : BothG w d r s F) (ht : Turn S w w1) (hS : ∀ i, F i → ¬ S i) : BothG w1 d r s F := by
  obtain ⟨m, G, v, hD, hR, h1, h2, h3⟩ := h
  exact ⟨m, G, v, hD.kept ht (fun i hi => hS i (h1 i hi).1), hR.kept ht (fun i hi => hS i (h2 i hi)), h1, h2, fun i hi => Nat.lt_of_lt_of_le (h3 i hi) ht.size⟩

theorem BothG.below (h : BothG w d r s F) (hb : Below w.heap.size w w1) : BothG w1 d r s F := h.kept (S := fun _ => False) (Turn.ofBelow _ hb) (fun _ _ h => h)
end

theorem names_true (w : World) : Calls Try.prog 11 #[] w fun e w' => e = .returned (.bool true) ∧ w = w' := by
  go_enter Try.func11, Try.ntmps11
  go_wp2
  go_ret
  exact ⟨rfl, rfl⟩

set_option maxRecDepth 100000 in
set_option maxHeartbeats 1000000 in
theorem same_true {d r : Nat} {F : Nat → Prop} {s : Dk.Dsk} (w : World) (h : BothG w d r s F) :
    Calls Try.prog 13 #[.pointer (some ⟨d, 0, none⟩), .pointer (some ⟨r, 0, none⟩)] w fun e w' => e = .returned (.bool true) ∧ Below w.heap.size w w' := by
  obtain ⟨m, G, v, hD, hR, -, -, -⟩ := h
  have HI : Hid (Inv s) := hD.inv
  have hfew : s.fs.length ≤ 64 := hD.inv.few
  have HD : Hid (DiskG Try.prog w d m G s) := hD
  have HR : Hid (RefG w r v s) := hR
  obtain ⟨va, vc, hv, hnc, hcm, hpos⟩ := row3 hR.row
  have HV : Hid (v = .slice va s.fs.length vc) := hv
  have HPos : Hid (0 < s.fs.length → ∃ g, va = some ⟨g, 0, none⟩) := hpos
  unfold maxLen at hcm
  clear hD hR hv hpos
  go_enter Try.func13, Try.ntmps13
  go_wp2_with fail
  refine (names_strs w HD.out).mono ?_
  rintro e w1 ⟨a, c, rfl, hc1, hc2, hst, hD1, hb1⟩
  have HSt : Hid (StrsAt w1 (.slice a s.fs.length c) (Dk.keysL s.fs)) := hst
  have HD1 : Hid (DiskG Try.prog w1 d m G s) := hD1
  have HR1 : Hid (RefG w1 r v s) := HR.out.below hb1
  have HB1 : Hid (Below w.heap.size w w1) := hb1
  unfold maxLen at hc2
  clear hst hD1 hb1
  go_wp2_with fail
  refine (rnames_any w1 HR1.out hfew).mono ?_
  rintro e w2 ⟨u, rfl, hst2, hb2⟩
  have HSame : Hid (Calls Try.prog 22 #[.slice a s.fs.length c, u] w2 fun e w' => e = .returned (.bool true) ∧ ∃ n, w' = w2.drewN n) := sameTexts_true _ _ _ _ (HSt.out.below hb2) hst2
  have HSt2 : Hid (StrsAt w2 (.slice a s.fs.length c) (Dk.keysL s.fs)) := HSt.out.below hb2
  have HD2 : Hid (DiskG Try.prog w2 d m G s) := HD1.out.kept (S := fun _ => False) (Turn.ofBelow _ hb2) (fun _ _ h => h)
  have HR2 : Hid (RefG w2 r v s) := HR1.out.below hb2
  have HB2 : Hid (Below w.heap.size w w2) := HB1.out.trans (hb2.mono HB1.out.size)
  obtain ⟨ua, uc, hu, -⟩ := hst2
  clear hb2 HSt
  subst hu
  go_wp2_with fail
  refine HSame.out.mono ?_
  rintro e w3 ⟨rfl, nd, hw3⟩
  have HSt3 : Hid (StrsAt w3 (.slice a s.fs.length c) (Dk.keysL s.fs)) := hw3 ▸ HSt2.out.below (below_drewN w2 nd)
  have HD3 : Hid (DiskG Try.prog w3 d m G s) := hw3 ▸ HD2.out.drewN nd
  have HR3 : Hid (RefG w3 r v s) := hw3 ▸ HR2.out.below (below_drewN w2 nd)
  have HB3 : Hid (Below w.heap.size w w3) := hw3 ▸ HB2.out.trans ((below_drewN w2 nd).mono HB2.out.size)
  clear hw3 HSame
  go_wp2_with fail
  go_loopw [6] (fun i wr => ∃ j : Nat, j ≤ s.fs.length ∧ i = .int .i64 j ∧ wr = w3) (fun i _ => s.fs.length - (intOf i).toNat)
  case atStart => exact ⟨0, Nat.zero_le _, rfl, rfl⟩
  case round =>
    obtain ⟨j, hj, rfl, rfl⟩ := hrel
    by_cases hlt : j < s.fs.length
    · obtain ⟨a2, c2', e1, _, _, hx⟩ := HSt3.out
      have hkl : (Dk.keysL s.fs).length = s.fs.length := by unfold Dk.keysL; simp
      obtain ⟨b, off, ha, _, hcell⟩ := hx (by intro e; rw [e] at hkl; simp at hkl; omega)
      have hq := hcell j (by rw [hkl]; exact hlt)
      obtain ⟨e2, -⟩ : a2 = a ∧ c = c2' := by
        rw [hkl] at e1
        cases e1
        exact ⟨rfl, rfl⟩
      rw [ha] at e2
      have hnm : (Dk.keysL s.fs)[j]'(by rw [hkl]; exact hlt) = (s.fs[j]).1 := by simp [Dk.keysL]
      rw [hnm] at hq
      obtain ⟨k, hkd, hke⟩ : ∃ k : ByteArray, k.data.toList = (s.fs[j]).1 ∧ Go.Proofs.encStr (s.fs[j]).1 = .string k := ⟨⟨(s.fs[j]).1.toArray⟩, by simp, rfl⟩
      rw [hke] at hq
      have hks : k.size ≤ maxLen := by
        have e1 := HD3.out.name_ok hlt
        unfold Dk.okName at e1
        simp only [Bool.and_eq_true, decide_eq_true_eq] at e1
        have e2 : k.size = (s.fs[j]).1.length := by rw [← hkd]; rfl
        unfold maxLen
        omega
      have HRd : Hid (Calls Try.prog 23 #[.pointer (some ⟨d, 0, none⟩), .string k] wr fun e w' => e = .returned (.tuple #[.string (bs (s.fs[j]).2.data), .int .i64 0]) ∧ w' = wr) := by
        have := read_any k wr HD3.out hks
        rw [hkd, (HD3.out.read_at hlt).1, (HD3.out.read_at hlt).2] at this
        exact this
      have c0 : wr.cell? ⟨r, 0, none⟩ = some (.slice va s.fs.length vc) := HR3.out.cells.1.trans (congrArg some HV.out)
      have hrw := HR3.out.row
      rw [HV.out] at hrw
      obtain ⟨g, rfl⟩ := HPos.out (by omega)
      obtain ⟨-, q1, -⟩ := row_file hrw hlt
      obtain ⟨k2, hk2⟩ : ∃ k2 : ByteArray, bs (s.fs[j]).2.data = k2 := ⟨_, rfl⟩
      rw [hk2] at HRd q1
      have hlI : (j : Int) < (s.fs.length : Int) := by omega
      clear hkd hke hks hk2 hcell hnm hx e1 ha hrw hkl
      subst e2
      go_wp2_with fail
      refine HRd.out.mono ?_
      rintro e w4 ⟨rfl, hw4⟩
      subst w4
      go_wp2_with fail
      go_roundw
      case rel => exact ⟨j + 1, by omega, by go_num, trivial⟩
      case measure => simp [intOf]; omega
    · go_wp2
      go_ret
      exact ⟨rfl, HB3.out⟩

end Go.Proofs.Ytbiombolpfhdlaa
