import Derived.Test.YtigegdelhpdlhaaGreatDoorPureJ
import Derived.Test.YtigegdelhpdlhaaGreatDoorAppendJ
/- What a crash makes of files, name by name. Nothing here speaks of Go. -/
namespace Go.Proofs.YtigegdelhpdlhaaGreatDoor
namespace Dk

/-- The draws that are left. -/
def restD : List (List UInt8 × Fil) → List Int → List Int
  | [], ds => ds
  | p :: r, ds => if p.2.data.length = p.2.safe then restD r ds else restD r ds.tail

theorem crashL_append (l r : List (List UInt8 × Fil)) (ds : List Int) : crashL (l ++ r) ds = crashL l ds ++ crashL r (restD l ds) := by
  induction l generalizing ds with
  | nil => rfl
  | cons p q ih =>
    simp only [List.cons_append, crashL, restD]
    split <;> simp [ih]

theorem restD_append (l r : List (List UInt8 × Fil)) (ds : List Int) : restD (l ++ r) ds = restD r (restD l ds) := by
  induction l generalizing ds with
  | nil => rfl
  | cons p q ih =>
    simp only [List.cons_append, restD]
    split <;> simp [ih]

theorem keysL_crashL (l : List (List UInt8 × Fil)) (ds : List Int) : keysL (crashL l ds) = keysL l := by
  induction l generalizing ds with
  | nil => rfl
  | cons p q ih =>
    unfold keysL at *
    simp only [crashL]
    split <;> simp [ih]

theorem length_crashL (l : List (List UInt8 × Fil)) (ds : List Int) : (crashL l ds).length = l.length := by
  have := congrArg List.length (keysL_crashL l ds)
  unfold keysL at this
  simpa using this

/-- after j names -/
def midL (l : List (List UInt8 × Fil)) (ds : List Int) (j : Nat) : List (List UInt8 × Fil) := crashL (l.take j) ds ++ l.drop j

theorem midL_zero (l : List (List UInt8 × Fil)) (ds : List Int) : midL l ds 0 = l := rfl
theorem midL_all (l : List (List UInt8 × Fil)) (ds : List Int) (j : Nat) (h : l.length ≤ j) : midL l ds j = crashL l ds := by
  unfold midL
  rw [List.take_of_length_le h, List.drop_of_length_le h, List.append_nil]

theorem midL_split (l : List (List UInt8 × Fil)) (ds : List Int) (j : Nat) (h : j < l.length) : midL l ds j = crashL (l.take j) ds ++ l[j] :: l.drop (j + 1) := by
  unfold midL
  rw [List.drop_eq_getElem_cons h]

theorem midL_next (l : List (List UInt8 × Fil)) (ds : List Int) (j : Nat) (h : j < l.length) : midL l ds (j + 1) = crashL (l.take j) ds ++ crashL [l[j]] (restD (l.take j) ds) ++ l.drop (j + 1) := by
  unfold midL
  rw [List.take_succ_eq_append_getElem h, crashL_append]

theorem restD_next (l : List (List UInt8 × Fil)) (ds : List Int) (j : Nat) (h : j < l.length) : restD (l.take (j + 1)) ds = restD [l[j]] (restD (l.take j) ds) := by
  rw [List.take_succ_eq_append_getElem h, restD_append]

section
variable {α : Type}
theorem getL_mid {k : List UInt8} {f : α} : ∀ {A B : List (List UInt8 × α)}, (∀ p ∈ A, p.1 ≠ k) → getL k (A ++ (k, f) :: B) = some f
  | [], B, _ => by simp [getL]
  | y :: r, B, h => by
    have hy : (y.1 == k) = false := by simpa using h y (by simp)
    simp only [List.cons_append, getL, hy, Bool.false_eq_true, if_false]
    exact getL_mid (fun p hp => h p (by simp [hp]))

theorem setL_mid {k : List UInt8} {f a : α} {A B : List (List UInt8 × α)} (hA : ∀ p ∈ A, p.1 ≠ k) (hB : ∀ p ∈ B, p.1 ≠ k) : setL k a (A ++ (k, f) :: B) = A ++ (k, a) :: B := by
  have h1 := setL_other a hA
  have h2 := setL_other a hB
  unfold setL at *
  rw [List.map_append, List.map_cons, h1, h2]
  simp

theorem rise_mid {k : List UInt8} {f : α} {A B : List (List UInt8 × α)} (h : Rise (A ++ (k, f) :: B)) : (∀ p ∈ A, p.1 ≠ k) ∧ ∀ p ∈ B, p.1 ≠ k := by
  have h' := rise_ne h
  obtain ⟨_, h2, h3⟩ := List.pairwise_append.1 h'
  exact ⟨fun p hp => h3 p hp (k, f) (by simp), fun p hp e => (List.pairwise_cons.1 h2).1 p hp e.symm⟩
end

/-- The file at the next name, as it still is; and behind its turn. -/
theorem mid_get {l : List (List UInt8 × Fil)} {ds : List Int} {j : Nat} (h : j < l.length) (hr : Rise (midL l ds j)) : getL (l[j]).1 (midL l ds j) = some (l[j]).2 := by
  rw [midL_split l ds j h] at hr ⊢
  exact getL_mid (rise_mid (f := (l[j]).2) hr).1

theorem mid_stay {l : List (List UInt8 × Fil)} {ds : List Int} {j : Nat} (h : j < l.length) (he : (l[j]).2.data.length = (l[j]).2.safe) : midL l ds (j + 1) = midL l ds j ∧ restD (l.take (j + 1)) ds = restD (l.take j) ds := by
  rw [midL_next l ds j h, midL_split l ds j h, restD_next l ds j h]
  simp [crashL, restD, he]

theorem mid_tear {l : List (List UInt8 × Fil)} {ds : List Int} {j : Nat} (h : j < l.length) (hr : Rise (midL l ds j)) (he : (l[j]).2.data.length ≠ (l[j]).2.safe) :
    midL l ds (j + 1) = putL (l[j]).1 (tearF (l[j]).2 ((restD (l.take j) ds).headD 0)) (midL l ds j) ∧ restD (l.take (j + 1)) ds = (restD (l.take j) ds).tail := by
  refine ⟨?_, ?_⟩
  · rw [putL_set _ hr (mid_get h hr)]
    have hs := midL_split l ds j h
    rw [hs] at hr ⊢
    obtain ⟨hA, hB⟩ := rise_mid (f := (l[j]).2) hr
    refine Eq.trans ?_ (setL_mid (k := (l[j]).1) (f := (l[j]).2) hA hB).symm
    rw [midL_next l ds j h]
    simp [crashL, he]
  · rw [restD_next l ds j h]
    simp [restD, he]

theorem keysL_midL (l : List (List UInt8 × Fil)) (ds : List Int) (j : Nat) : keysL (midL l ds j) = keysL l := by
  unfold midL
  have := keysL_crashL (l.take j) ds
  unfold keysL at *
  rw [List.map_append, this, ← List.map_append, List.take_append_drop]

theorem restD_sub (l : List (List UInt8 × Fil)) : ∀ (ds : List Int), ∃ n, restD l ds = ds.drop n := by
  induction l with
  | nil => exact fun ds => ⟨0, rfl⟩
  | cons p q ih =>
    intro ds
    simp only [restD]
    split
    · exact ih ds
    · obtain ⟨n, hn⟩ := ih ds.tail
      exact ⟨n + 1, by rw [hn]; cases ds <;> simp⟩

theorem crashL_id : ∀ (l : List (List UInt8 × Fil)) (ds : List Int), (∀ p ∈ l, p.2.data.length = p.2.safe) → crashL l ds = l
  | [], _, _ => rfl
  | p :: r, ds, h => by
    unfold crashL
    rw [if_pos (h p (by simp)), crashL_id r ds (fun q hq => h q (by simp [hq]))]

theorem crashL_safe : ∀ (l : List (List UInt8 × Fil)) (ds : List Int), (∀ p ∈ l, p.2.safe ≤ p.2.data.length) → ∀ p ∈ crashL l ds, p.2.data.length = p.2.safe
  | [], _, _, p, hp => by cases hp
  | q :: r, ds, h, p, hp => by
    unfold crashL at hp
    split at hp
    · rename_i e
      rcases List.mem_cons.1 hp with rfl | hp
      · exact e
      · exact crashL_safe r ds (fun q hq => h q (by simp [hq])) p hp
    · rcases List.mem_cons.1 hp with rfl | hp
      · exact tearF_len _ _ (h q (by simp))
      · exact crashL_safe r ds.tail (fun q hq => h q (by simp [hq])) p hp

/-- another crash behind one changes nothing -/
theorem crashS_twice (s : Dsk) (ds ds' : List Int) (h : ∀ p ∈ s.fs, p.2.safe ≤ p.2.data.length) (h1 : ¬ 4096 < ds.length) (h2 : ¬ 4096 < ds'.length) : (crashS (crashS s ds) ds').fs = (crashS s ds).fs := by
  have e1 : (crashS s ds).fs = crashL s.fs ds := by unfold crashS; rw [if_neg h1]
  unfold crashS at e1 ⊢
  rw [if_neg h2, if_neg h1]
  exact crashL_id _ _ (crashL_safe _ _ h)

end Dk
end Go.Proofs.YtigegdelhpdlhaaGreatDoor

/- Crash. -/
namespace Go.Proofs.YtigegdelhpdlhaaGreatDoor
open Go.RowKit Go.Maps

/-- A slice of draws, in blocks that are none of S. -/
def DrawsAt (w : World) (S : Nat → Prop) (v : Value) (r : List Int) : Prop :=
  ∃ a c, v = .slice a r.length c ∧ r.length ≤ c ∧ c ≤ maxLen ∧ (r ≠ [] → ∃ b off, a = some ⟨b, off, none⟩ ∧ b < w.heap.size ∧ ¬ S b ∧ ∀ i, i < r.length → w.cell? ⟨b, off + i, none⟩ = some (.int .i64 (r.getD i 0))) ∧ ∀ x ∈ r, x ≤ 9223372036854775807

theorem DrawsAt.kept {w w' : World} {S : Nat → Prop} {v : Value} {r : List Int} (h : DrawsAt w S v r) (ht : TurnD S w w') : DrawsAt w' S v r := by
  obtain ⟨a, c, h1, h2, h3, h4, h5⟩ := h
  refine ⟨a, c, h1, h2, h3, fun hr => ?_, h5⟩
  obtain ⟨b, off, e, hb, hS, hc⟩ := h4 hr
  exact ⟨b, off, e, Nat.lt_of_lt_of_le hb ht.size, hS, fun i hi => (World.cell?_of_block (w := w) (a := ⟨b, off + i, none⟩) (ht.block b hb hS)).trans (hc i hi)⟩

section
variable {d m : Nat} {G : List (List UInt8 × Gc)} {s : Dk.Dsk}

set_option maxHeartbeats 400000 in
theorem crash_long (v : Value) (ds : List Int) (w : World) (h : DiskG Tryz.prog w d m G s) (hd : DrawsAt w (foot d m G) v ds) (hl : 4096 < ds.length) :
    Calls Tryz.prog 18 #[.pointer (some ⟨d, 0, none⟩), v] w fun e w' => e = .returned (.int .i64 (Dk.crashE ds)) ∧ GoesD w w' d m G (Dk.crashS s ds) := by
  have H : Hid (DiskG Tryz.prog w d m G s) := h
  obtain ⟨a, c, rfl, -, hc, -⟩ := hd
  rw [show Dk.crashE ds = 2 from by unfold Dk.crashE; rw [if_pos hl], show Dk.crashS s ds = s from by unfold Dk.crashS; rw [if_pos hl]]
  unfold maxLen at hc
  have hl' : (4096 : Int) < (ds.length : Int) := by omega
  clear h hl
  go_enter Tryz.func18, Tryz.ntmps18
  go_wp2
  go_ret
  exact ⟨rfl, GoesD.stay H.out⟩

/-- up again, without a fuse -/
def wUp (w : World) (d : Nat) : World := ((w.setCell ⟨d, 1, none⟩ (.bool false)).setCell ⟨d, 2, none⟩ (.bool false)).setCell ⟨d, 3, none⟩ (.int .i64 0)
def sUp (s : Dk.Dsk) : Dk.Dsk := ⟨s.fs, false, false, 0⟩

theorem up_turn (w : World) (d : Nat) : TurnD (fun i => i = d) w (wUp w d) :=
  ((TurnD.setCell (S := fun i => i = d) w ⟨d, 1, none⟩ _ rfl).trans (TurnD.setCell _ ⟨d, 2, none⟩ _ rfl)).trans (TurnD.setCell _ ⟨d, 3, none⟩ _ rfl)
theorem up_disk {w : World} (h : DiskG Tryz.prog w d m G s) : DiskG Tryz.prog (wUp w d) d m G (sUp s) := by
  refine h.topped (up_turn w d) ?_ rfl (by simp [sUp])
  unfold wUp
  rw [heap_setCell_sameD (heap_setCell_sameD (heap_setCell_sameD h.top 1 _) 2 _) 3]
  simp [sUp]

/-- the names of what is there, as a slice of the call's own -/
theorem names_up {w : World} (h : DiskG Tryz.prog w d m G s) (hp : 0 < G.length) :
    Calls Tryz.prog 42 #[.pointer (some ⟨d, 0, none⟩)] (wUp w d) fun e w1 => ∃ gb cap, e = .returned (.slice (some ⟨gb, 0, none⟩) G.length cap) ∧ G.length ≤ cap ∧ cap ≤ maxLen ∧ (∀ j, (hj : j < G.length) → w1.cell? ⟨gb, j, none⟩ = some (Go.Proofs.encStr (G[j]).1)) ∧
      w.heap.size ≤ gb ∧ gb < w1.heap.size ∧ DiskG Tryz.prog w1 d m G (sUp s) ∧ TurnD (fun i => i = d) w w1 := by
  have h1 := up_disk h
  refine (names_any _ h1).mono ?_
  rintro e w1 ⟨v, rfl, hrow, hb⟩
  have hsz : (wUp w d).heap.size = w.heap.size := by simp [wUp]
  have ht : TurnD (fun i => i = d) w w1 := (up_turn w d).trans (TurnD.ofBelow _ hb)
  have hD : DiskG Tryz.prog w1 d m G (sUp s) := h1.kept (S := fun _ => False) (TurnD.ofBelow _ hb) (fun _ _ h => h)
  rcases hrow.2 with ⟨rfl, hn⟩ | ⟨gb, cap, cur, rfl, hbase, hg, hnc, hcm, hcs, htake⟩
  · omega
  · refine ⟨gb, cap, rfl, hnc, hcm, fun j hj => ?_, by omega, lt_ofD hg, hD, ht⟩
    have := hrow.cells (g := gb) rfl j (Go.Proofs.encStr (G[j]).1) (by simp [Dk.keysL, hj])
    rw [Addr.add_lit] at this
    simpa using this

theorem names_up_none {w : World} (h : DiskG Tryz.prog w d m [] s) :
    Calls Tryz.prog 42 #[.pointer (some ⟨d, 0, none⟩)] (wUp w d) fun e w1 => ∃ a c, e = .returned (.slice a 0 c) ∧ DiskG Tryz.prog w1 d m [] (sUp s) ∧ TurnD (fun i => i = d) w w1 := by
  have h1 := up_disk h
  refine (names_any _ h1).mono ?_
  rintro e w1 ⟨v, rfl, hrow, hb⟩
  have ht : TurnD (fun i => i = d) w w1 := (up_turn w d).trans (TurnD.ofBelow _ hb)
  have hD : DiskG Tryz.prog w1 d m [] (sUp s) := h1.kept (S := fun _ => False) (TurnD.ofBelow _ hb) (fun _ _ h => h)
  obtain ⟨a, c, rfl⟩ := row_shape hrow
  exact ⟨a, c, rfl, hD, ht⟩

theorem DiskG.drewN {w : World} (h : DiskG Tryz.prog w d m G s) (n : Nat) : DiskG Tryz.prog (w.drewN n) d m G s :=
  h.kept (S := fun _ => False) (TurnD.ofBelow _ (below_drewND w n)) (fun _ _ h => h)

def sMid (s : Dk.Dsk) (ds : List Int) (j : Nat) : Dk.Dsk := ⟨Dk.midL s.fs ds j, false, false, 0⟩

theorem round_stay {w1 wr : World} {ds : List Int} {j : Nat} (hj : j < s.fs.length) (he : (s.fs[j]).2.data.length = (s.fs[j]).2.safe) (h : GoesD w1 wr d m G (sMid s ds j)) (n : Nat) : GoesD w1 (wr.drewN n) d m G (sMid s ds (j + 1)) := by
  obtain ⟨G', h1, h2, h3⟩ := h
  have e : sMid s ds (j + 1) = sMid s ds j := by unfold sMid; rw [(Dk.mid_stay hj he).1]
  rw [e]
  exact ⟨G', h1.drewN n, h2.drewN n, h3⟩

theorem round_tear {w1 wr w2 : World} {ds : List Int} {j n : Nat} {G' : List (List UInt8 × Gc)} {g : Gc} {u : Value} {draw : Int} (hj : j < s.fs.length) (he : (s.fs[j]).2.data.length ≠ (s.fs[j]).2.safe)
    (h1 : DiskG Tryz.prog wr d m G' (sMid s ds j)) (h2 : TurnD (foot d m G) w1 wr) (h3 : ∀ i, foot d m G' i → foot d m G i ∨ w1.heap.size ≤ i) (hg : Dk.getL (s.fs[j]).1 G' = some g) (hgf : g.fil = (s.fs[j]).2)
    (hdr : (Dk.restD (s.fs.take j) ds).headD 0 = draw)
    (hf : FileAt w2 ⟨g.blk, u, Dk.tearF g.fil draw⟩) (ht : TurnD (fun i => i = g.blk) (wr.drewN n) w2) (hu : ∀ b, u.ownBlock = some b → (wr.drewN n).heap.size ≤ b) : GoesD w1 w2 d m G (sMid s ds (j + 1)) := by
  have hR := h1.riseF
  have ht' : TurnD (fileS g) wr w2 := (TurnD.ofBelow _ (below_drewND wr n)).trans (ht.mono (fun i hi => Or.inl hi))
  obtain ⟨hD, hfoot⟩ := h1.setFile hg ht' hf rfl (fun i hi => Or.inr (hu i hi))
  have e : sMid s ds (j + 1) = { sMid s ds j with fs := Dk.putL (s.fs[j]).1 (Dk.tearF g.fil draw) (sMid s ds j).fs } := by
    unfold sMid at hR ⊢
    rw [(Dk.mid_tear hj hR he).1, hgf, hdr]
  rw [e]
  refine ⟨_, hD, h2.transNew ht' (fun i hi => h3 i (DiskG.footFile hg i hi)), fun i hi => ?_⟩
  rcases hfoot i hi with h4 | h4
  · exact h3 i h4
  · exact Or.inr (Nat.le_trans h2.size h4)

end
end Go.Proofs.YtigegdelhpdlhaaGreatDoor
