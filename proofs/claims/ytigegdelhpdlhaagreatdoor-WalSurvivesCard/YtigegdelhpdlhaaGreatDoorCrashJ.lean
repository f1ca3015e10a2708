import Derived.Test.YtigegdelhpdlhaaGreatDoorAppendJ
/- Crash. -/
namespace Go.Proofs.YtigegdelhpdlhaaGreatDoor
open Go.RowKit Go.Maps

/-- A slice of draws, in blocks that are none of S. -/
def DrawsAt (w : World) (S : Nat → Prop) (v : Value) (r : List Int) : Prop :=
  ∃ a c, v = .slice a r.length c ∧ r.length ≤ c ∧ c ≤ maxLen ∧ (r ≠ [] → ∃ b off, a = some ⟨b, off, none⟩ ∧ b < w.heap.size ∧ ¬ S b ∧ ∀ i, i < r.length → w.cell? ⟨b, off + i, none⟩ = some (.int .i64 (r.getD i 0))) ∧ ∀ x ∈ r, x ≤ 9223372036854775807

theorem DrawsAt.kept {w w' : World} {S : Nat → Prop} {v : Value} {r : List Int} (h : DrawsAt w S v r) (ht : TurnD S w w') : DrawsAt w' S v r := by
  obtain ⟨a, c, h1, h2, h3, h4, h5⟩ := h
  refine ⟨a, c, h1, h2, h3, fun hr => ?_, h5⟩
  obtain ⟨b, off, e, hb, hS, hc⟩ := h4 hr
  exact ⟨b, off, e, Nat.lt_of_lt_of_le hb ht.size, hS, fun i hi => (World.cell?_of_block (w := w) (a := ⟨b, off + i, none⟩) (ht.block b hb hS)).trans (hc i hi)⟩

section
variable {d m : Nat} {G : List (List UInt8 × Gc)} {s : Dk.Dsk}

set_option maxHeartbeats 400000 in
theorem crash_long (v : Value) (ds : List Int) (w : World) (h : DiskG Tryz.prog w d m G s) (hd : DrawsAt w (foot d m G) v ds) (hl : 4096 < ds.length) :
    Calls Tryz.prog 18 #[.pointer (some ⟨d, 0, none⟩), v] w fun e w' => e = .returned (.int .i64 (Dk.crashE ds)) ∧ GoesD w w' d m G (Dk.crashS s ds) := by
  have H : Hid (DiskG Tryz.prog w d m G s) := h
  obtain ⟨a, c, rfl, -, hc, -⟩ := hd
  rw [show Dk.crashE ds = 2 from by unfold Dk.crashE; rw [if_pos hl], show Dk.crashS s ds = s from by unfold Dk.crashS; rw [if_pos hl]]
  unfold maxLen at hc
  have hl' : (4096 : Int) < (ds.length : Int) := by omega
  clear h hl
  go_enter Tryz.func18, Tryz.ntmps18
  go_wp2
  go_ret
  exact ⟨rfl, GoesD.stay H.out⟩

/-- up again, without a fuse -/
def wUp (w : World) (d : Nat) : World := ((w.setCell ⟨d, 1, none⟩ (.bool false)).setCell ⟨d, 2, none⟩ (.bool false)).setCell ⟨d, 3, none⟩ (.int .i64 0)
def sUp (s : Dk.Dsk) : Dk.Dsk := ⟨s.fs, false, false, 0⟩

theorem up_turn (w : World) (d : Nat) : TurnD (fun i => i = d) w (wUp w d) :=
  ((TurnD.setCell (S := fun i => i = d) w ⟨d, 1, none⟩ _ rfl).trans (TurnD.setCell _ ⟨d, 2, none⟩ _ rfl)).trans (TurnD.setCell _ ⟨d, 3, none⟩ _ rfl)
theorem up_disk {w : World} (h : DiskG Tryz.prog w d m G s) : DiskG Tryz.prog (wUp w d) d m G (sUp s) := by
  refine h.topped (up_turn w d) ?_ rfl (by simp [sUp])
  unfold wUp
  rw [heap_setCell_sameD (heap_setCell_sameD (heap_setCell_sameD h.top 1 _) 2 _) 3]
  simp [sUp]

/-- the names of what is there, as a slice of the call's own -/
theorem names_up {w : World} (h : DiskG Tryz.prog w d m G s) (hp : 0 < G.length) :
    Calls Tryz.prog 42 #[.pointer (some ⟨d, 0, none⟩)] (wUp w d) fun e w1 => ∃ gb cap, e = .returned (.slice (some ⟨gb, 0, none⟩) G.length cap) ∧ G.length ≤ cap ∧ cap ≤ maxLen ∧ (∀ j, (hj : j < G.length) → w1.cell? ⟨gb, j, none⟩ = some (Go.Proofs.encStr (G[j]).1)) ∧
      w.heap.size ≤ gb ∧ gb < w1.heap.size ∧ DiskG Tryz.prog w1 d m G (sUp s) ∧ TurnD (fun i => i = d) w w1 := by
  have h1 := up_disk h
  refine (names_any _ h1).mono ?_
  rintro e w1 ⟨v, rfl, hrow, hb⟩
  have hsz : (wUp w d).heap.size = w.heap.size := by simp [wUp]
  have ht : TurnD (fun i => i = d) w w1 := (up_turn w d).trans (TurnD.ofBelow _ hb)
  have hD : DiskG Tryz.prog w1 d m G (sUp s) := h1.kept (S := fun _ => False) (TurnD.ofBelow _ hb) (fun _ _ h => h)
  rcases hrow.2 with ⟨rfl, hn⟩ | ⟨gb, cap, cur, rfl, hbase, hg, hnc, hcm, hcs, htake⟩
  · omega
  · refine ⟨gb, cap, rfl, hnc, hcm, fun j hj => ?_, by omega, lt_ofD hg, hD, ht⟩
    have := hrow.cells (g := gb) rfl j (Go.Proofs.encStr (G[j]).1) (by simp [Dk.keysL, hj])
    rw [Addr.add_lit] at this
    simpa using this

theorem names_up_none {w : World} (h : DiskG Tryz.prog w d m [] s) :
    Calls Tryz.prog 42 #[.pointer (some ⟨d, 0, none⟩)] (wUp w d) fun e w1 => ∃ a c, e = .returned (.slice a 0 c) ∧ DiskG Tryz.prog w1 d m [] (sUp s) ∧ TurnD (fun i => i = d) w w1 := by
  have h1 := up_disk h
  refine (names_any _ h1).mono ?_
  rintro e w1 ⟨v, rfl, hrow, hb⟩
  have ht : TurnD (fun i => i = d) w w1 := (up_turn w d).trans (TurnD.ofBelow _ hb)
  have hD : DiskG Tryz.prog w1 d m [] (sUp s) := h1.kept (S := fun _ => False) (TurnD.ofBelow _ hb) (fun _ _ h => h)
  obtain ⟨a, c, rfl⟩ := row_shape hrow
  exact ⟨a, c, rfl, hD, ht⟩

theorem DiskG.drewN {w : World} (h : DiskG Tryz.prog w d m G s) (n : Nat) : DiskG Tryz.prog (w.drewN n) d m G s :=
  h.kept (S := fun _ => False) (TurnD.ofBelow _ (below_drewND w n)) (fun _ _ h => h)

def sMid (s : Dk.Dsk) (ds : List Int) (j : Nat) : Dk.Dsk := ⟨Dk.midL s.fs ds j, false, false, 0⟩

theorem round_stay {w1 wr : World} {ds : List Int} {j : Nat} (hj : j < s.fs.length) (he : (s.fs[j]).2.data.length = (s.fs[j]).2.safe) (h : GoesD w1 wr d m G (sMid s ds j)) (n : Nat) : GoesD w1 (wr.drewN n) d m G (sMid s ds (j + 1)) := by
  obtain ⟨G', h1, h2, h3⟩ := h
  have e : sMid s ds (j + 1) = sMid s ds j := by unfold sMid; rw [(Dk.mid_stay hj he).1]
  rw [e]
  exact ⟨G', h1.drewN n, h2.drewN n, h3⟩

theorem round_tear {w1 wr w2 : World} {ds : List Int} {j n : Nat} {G' : List (List UInt8 × Gc)} {g : Gc} {u : Value} {draw : Int} (hj : j < s.fs.length) (he : (s.fs[j]).2.data.length ≠ (s.fs[j]).2.safe)
    (h1 : DiskG Tryz.prog wr d m G' (sMid s ds j)) (h2 : TurnD (foot d m G) w1 wr) (h3 : ∀ i, foot d m G' i → foot d m G i ∨ w1.heap.size ≤ i) (hg : Dk.getL (s.fs[j]).1 G' = some g) (hgf : g.fil = (s.fs[j]).2)
    (hdr : (Dk.restD (s.fs.take j) ds).headD 0 = draw)
    (hf : FileAt w2 ⟨g.blk, u, Dk.tearF g.fil draw⟩) (ht : TurnD (fun i => i = g.blk) (wr.drewN n) w2) (hu : ∀ b, u.ownBlock = some b → (wr.drewN n).heap.size ≤ b) : GoesD w1 w2 d m G (sMid s ds (j + 1)) := by
  have hR := h1.riseF
  have ht' : TurnD (fileS g) wr w2 := (TurnD.ofBelow _ (below_drewND wr n)).trans (ht.mono (fun i hi => Or.inl hi))
  obtain ⟨hD, hfoot⟩ := h1.setFile hg ht' hf rfl (fun i hi => Or.inr (hu i hi))
  have e : sMid s ds (j + 1) = { sMid s ds j with fs := Dk.putL (s.fs[j]).1 (Dk.tearF g.fil draw) (sMid s ds j).fs } := by
    unfold sMid at hR ⊢
    rw [(Dk.mid_tear hj hR he).1, hgf, hdr]
  rw [e]
  refine ⟨_, hD, h2.transNew ht' (fun i hi => h3 i (DiskG.footFile hg i hi)), fun i hi => ?_⟩
  rcases hfoot i hi with h4 | h4
  · exact h3 i h4
  · exact Or.inr (Nat.le_trans h2.size h4)

end
end Go.Proofs.YtigegdelhpdlhaaGreatDoor

/- Crash: the walk. -/
namespace Go.Proofs.YtigegdelhpdlhaaGreatDoor
open Go.RowKit Go.Maps

section
variable {d m : Nat} {G : List (List UInt8 × Gc)} {s : Dk.Dsk}

/-- the next draw, and the others -/
theorem DrawsAt.next {w : World} {S : Nat → Prop} {v : Value} {x : Int} {r : List Int} (h : DrawsAt w S v (x :: r)) :
    ∃ b off c, v = .slice (some ⟨b, off, none⟩) (r.length + 1) (c + 1) ∧ r.length ≤ c ∧ c + 1 ≤ maxLen ∧ b < w.heap.size ∧ ¬ S b ∧ w.cell? ⟨b, off, none⟩ = some (.int .i64 x) ∧
      DrawsAt w S (.slice (if c = 0 then some ⟨b, off, none⟩ else some ⟨b, off + 1, none⟩) r.length c) r ∧ x ≤ 9223372036854775807 := by
  obtain ⟨a, c, h1, h2, h3, h4, h5⟩ := h
  obtain ⟨b, off, rfl, hb, hS, hc⟩ := h4 (by simp)
  simp only [List.length_cons] at h1 h2 hc
  obtain ⟨c', rfl⟩ : ∃ c', c = c' + 1 := ⟨c - 1, by omega⟩
  have h0 := hc 0 (by omega)
  rw [Nat.add_zero] at h0
  refine ⟨b, off, c', h1, by omega, h3, hb, hS, h0, ⟨_, c', rfl, by omega, by omega, fun hr => ?_, fun y hy => h5 y (by simp [hy])⟩, h5 x (by simp)⟩
  have hlen : 0 < r.length := List.length_pos_iff.2 hr
  refine ⟨b, off + 1, by rw [if_neg (by omega)], hb, hS, fun i hi => ?_⟩
  have := hc (i + 1) (by omega)
  rw [show off + 1 + i = off + (i + 1) from by omega, this]
  simp

set_option maxHeartbeats 1000000 in
theorem crash_none (v : Value) (ds : List Int) (w : World) (h : DiskG Tryz.prog w d m [] s) (hd : DrawsAt w (foot d m []) v ds) (hl : ds.length ≤ 4096) :
    Calls Tryz.prog 18 #[.pointer (some ⟨d, 0, none⟩), v] w fun e w' => e = .returned (.int .i64 (Dk.crashE ds)) ∧ GoesD w w' d m [] (Dk.crashS s ds) := by
  have H : Hid (DiskG Tryz.prog w d m [] s) := h
  obtain ⟨a, c, rfl, -, hc, -⟩ := hd
  have HS : Hid (sUp s = Dk.crashS s ds) := by
    show _ = _
    unfold Dk.crashS sUp
    rw [if_neg (by omega), show s.fs = [] from h.fs]
    rfl
  rw [show Dk.crashE ds = 0 from by unfold Dk.crashE; rw [if_neg (by omega)]]
  unfold maxLen at hc
  have hl' : ¬ (4096 : Int) < (ds.length : Int) := by omega
  obtain ⟨c0, c1, c2, c3⟩ := h.cells
  simp only [Nat.zero_add] at c1 c2 c3
  have f1 := frozen_ofD h.top 1
  have f2 := frozen_ofD h.top 2
  have f3 := frozen_ofD h.top 3
  have HN := names_up_none h
  unfold wUp at HN
  have HN' : Hid (Calls Tryz.prog 42 #[.pointer (some ⟨d, 0, none⟩)] (((w.setCell ⟨d, 1, none⟩ (.bool false)).setCell ⟨d, 2, none⟩ (.bool false)).setCell ⟨d, 3, none⟩ (.int .i64 0)) fun e w1 => ∃ a c, e = .returned (.slice a 0 c) ∧ DiskG Tryz.prog w1 d m [] (sUp s) ∧ TurnD (fun i => i = d) w w1) := HN
  clear h hl HN
  go_enter Tryz.func18, Tryz.ntmps18
  go_wp2_with (go_at_call 42; refine HN'.out.mono ?_; rintro e w1 ⟨a2, c2, rfl, hD, ht⟩)
  go_loopw [24] (fun i wr => i = .int .i64 0 ∧ wr = w1) (fun _ _ => 0)
  case atStart => exact ⟨rfl, rfl⟩
  case round =>
    obtain ⟨rfl, rfl⟩ := hrel
    go_wp2
    go_ret
    exact ⟨rfl, HS.out ▸ GoesD.top hD ht⟩

theorem rest_run (b off n c : Nat) (_h : n ≤ c) (W : World) :
    (Instr.slice 26 (.slice (some ⟨b, off, none⟩) (n + 1) (c + 1)) (some (.int .i64 1)) none none).run Tryz.prog W = .ok (.slice (if c = 0 then some ⟨b, off, none⟩ else some ⟨b, off + 1, none⟩) n c) W := by
  have hz : ∀ W, (sizeOf 3).run Tryz.prog W = .ok 1 W := fun W => by kernel_rfl
  have h1 : (1 : Int) ≤ ((n : Int) + 1) := by omega
  simp [Instr.slice, run_underlying Tryz.underlying26, Instr.sliceBounds, run_sliceBound, h1, hz, Result.andThen, Addr.add_lit]

theorem wUp_def (w : World) (d : Nat) : wUp w d = ((w.setCell ⟨d, 1, none⟩ (.bool false)).setCell ⟨d, 2, none⟩ (.bool false)).setCell ⟨d, 3, none⟩ (.int .i64 0) := rfl

set_option maxRecDepth 100000 in
set_option maxHeartbeats 2000000 in
theorem crash_some (v : Value) (ds : List Int) (w : World) (h : DiskG Tryz.prog w d m G s) (hd : DrawsAt w (foot d m G) v ds) (hl : ds.length ≤ 4096) (hp : 0 < G.length) :
    Calls Tryz.prog 18 #[.pointer (some ⟨d, 0, none⟩), v] w fun e w' => e = .returned (.int .i64 (Dk.crashE ds)) ∧ GoesD w w' d m G (Dk.crashS s ds) := by
  have H : Hid (DiskG Tryz.prog w d m G s) := h
  have HD : Hid (DrawsAt w (foot d m G) v ds) := hd
  have HLen : Hid (s.fs.length = G.length) := h.len_fs
  have HNm : Hid (∀ j, (hj : j < G.length) → (hj' : j < s.fs.length) → (G[j]).1 = (s.fs[j]).1) := by
    intro j hj hj'
    have := congrArg (fun l : List (List UInt8 × Dk.Fil) => l[j]?) h.fs
    simp only [List.getElem?_eq_getElem hj', Dk.mapL, List.getElem?_map, List.getElem?_eq_getElem hj, Option.map_some, Option.some.injEq] at this
    rw [this]
  obtain ⟨a, c, hv, -, hc, -, -⟩ := hd
  have hn64 := h.few
  have HE : Hid (Dk.crashE ds = 0) := by show _ = _; unfold Dk.crashE; rw [if_neg (by omega)]
  have HS : Hid (sMid s ds G.length = Dk.crashS s ds) := by
    show _ = _
    unfold Dk.crashS sMid
    rw [if_neg (by omega), Dk.midL_all _ _ _ (by rw [HLen.out]; exact Nat.le_refl _)]
  rw [HE.out]
  unfold maxLen at hc
  have hl' : ¬ (4096 : Int) < (ds.length : Int) := by omega
  obtain ⟨c0, c1, c2, c3⟩ := h.cells
  simp only [Nat.zero_add] at c1 c2 c3
  have f1 := frozen_ofD h.top 1
  have f2 := frozen_ofD h.top 2
  have f3 := frozen_ofD h.top 3
  have HN := names_up h hp
  have HN' : Hid (Calls Tryz.prog 42 #[.pointer (some ⟨d, 0, none⟩)] (((w.setCell ⟨d, 1, none⟩ (.bool false)).setCell ⟨d, 2, none⟩ (.bool false)).setCell ⟨d, 3, none⟩ (.int .i64 0)) fun e w1 => ∃ gb cap, e = .returned (.slice (some ⟨gb, 0, none⟩) G.length cap) ∧ G.length ≤ cap ∧ cap ≤ maxLen ∧ (∀ j, (hj : j < G.length) → w1.cell? ⟨gb, j, none⟩ = some (Go.Proofs.encStr (G[j]).1)) ∧
      w.heap.size ≤ gb ∧ gb < w1.heap.size ∧ DiskG Tryz.prog w1 d m G (sUp s) ∧ TurnD (fun i => i = d) w w1) := HN
  clear h hl HN
  subst hv
  go_enter Tryz.func18, Tryz.ntmps18
  go_wp2_with (go_at_call 42; refine HN'.out.mono ?_; rintro e w1 ⟨gb, cap, rfl, hcap, hcapm, hnames, hgb, hgb1, hD, ht⟩; have HNa : Hid (∀ j, (hj : j < G.length) → w1.cell? ⟨gb, j, none⟩ = some (Go.Proofs.encStr (G[j]).1)) := hnames; clear hnames)
  have HD1 : Hid (DrawsAt w1 (foot d m G) (.slice a ds.length c) ds) := HD.out.kept (ht.mono (fun _ hi => Or.inl hi))
  have HG1 : Hid (GoesD w1 w1 d m G (sMid s ds 0)) := GoesD.stay hD
  have hngb : ¬ foot d m G gb := fun hf => by have := H.out.lt hf; omega
  unfold maxLen at hcapm
  clear c0 c1 c2 c3 f1 f2 f3
  go_loopw [1, 24] (fun v i wr => ∃ j : Nat, j ≤ G.length ∧ i = .int .i64 j ∧ DrawsAt w1 (foot d m G) v (Dk.restD (s.fs.take j) ds) ∧ GoesD w1 wr d m G (sMid s ds j)) (fun _ i _ => G.length - (intOf i).toNat)
  case atStart => exact ⟨0, Nat.zero_le _, rfl, HD1.out, HG1.out⟩
  case round =>
    obtain ⟨j, hj, rfl, hdr, hgo⟩ := hrel
    have HDr : Hid (DrawsAt w1 (foot d m G) u1 (Dk.restD (s.fs.take j) ds)) := hdr
    have HGo : Hid (GoesD w1 wr d m G (sMid s ds j)) := hgo
    clear hdr hgo
    by_cases hlt : j < G.length
    · obtain ⟨G', h1, h2, h3⟩ := HGo.out
      have hj' : j < s.fs.length := by rw [HLen.out]; exact hlt
      have hget := Dk.mid_get hj' (show Dk.Rise (Dk.midL s.fs ds j) from h1.riseF)
      have hget' : (Dk.getL (s.fs[j]).1 G').map Gc.fil = some (s.fs[j]).2 := (h1.getL_fs _).symm.trans hget
      obtain ⟨g, hg, hgf⟩ := Option.map_eq_some_iff.1 hget'
      have hf := h1.files _ (Dk.getL_mem hg)
      have c0 := h1.cells.1
      obtain ⟨k, hkd, hke⟩ : ∃ k : ByteArray, k.data.toList = (s.fs[j]).1 ∧ Go.Proofs.encStr (s.fs[j]).1 = .string k := ⟨⟨(s.fs[j]).1.toArray⟩, by simp, rfl⟩
      have hnm : wr.cell? ⟨gb, j, none⟩ = some (.string k) := by
        have e1 := HNa.out j hlt
        rw [HNm.out j hlt hj', hke] at e1
        exact (World.cell?_of_block (w := w1) (a := ⟨gb, j, none⟩) (h2.block gb hgb1 hngb)).trans e1
      have hks : k.size ≤ maxLen := by
        have e1 := h1.names _ (Dk.getL_mem hg)
        unfold Dk.okName at e1
        simp only [Bool.and_eq_true, decide_eq_true_eq] at e1
        have e2 : k.size = (s.fs[j]).1.length := by rw [← hkd]; rfl
        unfold maxLen
        omega
      have hr := h1.look hks (hkd.symm ▸ hg)
      have HF : Hid (FileAt wr g) := hf
      have HFn : Hid (∀ n, FileAt (wr.drewN n) g) := fun n => hf.kept rfl (fun _ _ => rfl)
      have HGf : Hid (g.fil = (s.fs[j]).2) := hgf
      have HG' : Hid (Dk.getL (s.fs[j]).1 G' = some g) := hg
      have Hh1 : Hid (DiskG Tryz.prog wr d m G' (sMid s ds j)) := h1
      have Hh2 : Hid (TurnD (foot d m G) w1 wr) := h2
      have Hh3 : Hid (∀ i, foot d m G' i → foot d m G i ∨ w1.heap.size ≤ i) := h3
      clear hget hget' hg hgf hf hkd hke h1 h2 h3 hks
      by_cases he : (s.fs[j]).2.data.length = (s.fs[j]).2.safe
      · -- nothing behind what is safe
        have HT : Hid (Calls Tryz.prog 43 #[.pointer (some ⟨g.blk, 0, none⟩)] wr fun e w' => e = .returned (.int .i64 0) ∧ ∃ n, w' = wr.drewN n) := by
          have := tail_any g wr HF.out
          rw [HGf.out, he, Nat.sub_self] at this
          exact this
        have HE2 : Hid ((s.fs[j]).2.data.length = (s.fs[j]).2.safe) := he
        clear he
        go_wp2_with (go_at_call 43; refine HT.out.mono ?_; rintro e w' ⟨rfl, nd, rfl⟩)
        go_roundw
        case rel => exact ⟨j + 1, by omega, by go_num, (Dk.mid_stay hj' HE2.out).2 ▸ HDr.out, round_stay hj' HE2.out HGo.out nd⟩
        case measure => simp [intOf]; omega
      · have HE2 : Hid ((s.fs[j]).2.data.length ≠ (s.fs[j]).2.safe) := he
        obtain ⟨tl, htl, HT⟩ : ∃ tl : Int, (tl == 0) = false ∧ Hid (Calls Tryz.prog 43 #[.pointer (some ⟨g.blk, 0, none⟩)] wr fun e w' => e = .returned (.int .i64 tl) ∧ ∃ n, w' = wr.drewN n) := by
          have hsf := HF.out.safe
          rw [HGf.out] at hsf
          refine ⟨_, ?_, tail_any g wr HF.out⟩
          rw [HGf.out]
          rw [beq_eq_false_iff_ne]
          omega
        clear he
        have hdrew := (Dk.mid_tear (ds := ds) hj' (show Dk.Rise (Dk.midL s.fs ds j) from Hh1.out.riseF) HE2.out).2
        have HRe : Hid (Dk.restD (s.fs.take (j + 1)) ds = (Dk.restD (s.fs.take j) ds).tail) := hdrew
        clear hdrew
        obtain ⟨r0, hr0⟩ : ∃ r0, Dk.restD (s.fs.take j) ds = r0 := ⟨_, rfl⟩
        have HR0 : Hid (Dk.restD (s.fs.take j) ds = r0) := hr0
        have hdr := HDr.out
        rw [hr0] at hdr
        clear hr0
        cases r0 with
        | nil =>
          have HDr0 : Hid (DrawsAt w1 (foot d m G) u1 []) := hdr
          obtain ⟨a', c', hv', -, -, -, -⟩ := hdr
          rw [hv'] at HDr0
          subst hv'
          have HTe : Hid (∀ n, Calls Tryz.prog 44 #[.pointer (some ⟨g.blk, 0, none⟩), .int .i64 0] (wr.drewN n) fun e w' => e = .returned (.tuple #[]) ∧ ∃ u, FileAt w' ⟨g.blk, u, Dk.tearF g.fil 0⟩ ∧ TurnD (fun i => i = g.blk) (wr.drewN n) w' ∧ ∀ b, u.ownBlock = some b → (wr.drewN n).heap.size ≤ b) := fun n => tear_any g 0 (wr.drewN n) (HFn.out n) (by omega)
          go_wp2_with (first
            | (go_at_call 43; refine HT.out.mono ?_; rintro e w' ⟨rfl, nd, rfl⟩)
            | (go_at_call 44; refine (HTe.out _).mono ?_; rintro e w2 ⟨rfl, u, hfu, htu, hu⟩))
          go_roundw
          case rel => exact ⟨j + 1, by omega, by go_num, (by rw [HRe.out, HR0.out]; exact HDr0.out), round_tear (draw := 0) hj' HE2.out Hh1.out Hh2.out Hh3.out HG'.out HGf.out (by rw [HR0.out]; rfl) hfu htu hu⟩
          case measure => simp [intOf]; omega
        | cons x r =>
          obtain ⟨b, off, c', hv', hrc, hcm, hb, hSb, hcx, hdr', hx⟩ := hdr.next
          have hcw : wr.cell? ⟨b, off, none⟩ = some (.int .i64 x) := (World.cell?_of_block (w := w1) (a := ⟨b, off, none⟩) (Hh2.out.block b hb hSb)).trans hcx
          obtain ⟨a2, ha2⟩ : ∃ a2, (if c' = 0 then some (⟨b, off, none⟩ : Addr) else some ⟨b, off + 1, none⟩) = a2 := ⟨_, rfl⟩
          have hsl : ∀ W, (Instr.slice 26 (.slice (some ⟨b, off, none⟩) (r.length + 1) (c' + 1)) (some (.int .i64 1)) none none).run Tryz.prog W = .ok (.slice a2 r.length c') W := fun W => ha2 ▸ rest_run b off r.length c' hrc W
          rw [ha2] at hdr'
          have HDr1 : Hid (DrawsAt w1 (foot d m G) (.slice a2 r.length c') r) := hdr'
          have hrl : (0 : Int) < (r.length : Int) + 1 := by omega
          unfold maxLen at hcm
          subst hv'
          have HTe : Hid (∀ n, Calls Tryz.prog 44 #[.pointer (some ⟨g.blk, 0, none⟩), .int .i64 x] (wr.drewN n) fun e w' => e = .returned (.tuple #[]) ∧ ∃ u, FileAt w' ⟨g.blk, u, Dk.tearF g.fil x⟩ ∧ TurnD (fun i => i = g.blk) (wr.drewN n) w' ∧ ∀ b, u.ownBlock = some b → (wr.drewN n).heap.size ≤ b) := fun n => tear_any g x (wr.drewN n) (HFn.out n) hx
          clear hdr hdr' ha2 hcx hb hSb HDr
          go_wp2_with (go_at_call 43; refine HT.out.mono ?_; rintro e w' ⟨rfl, nd, rfl⟩)
          go_quiet (fail)
          go_wp2_with (go_at_call 44; refine (HTe.out _).mono ?_; rintro e w2 ⟨rfl, u, hfu, htu, hu⟩)
          go_roundw
          case rel => exact ⟨j + 1, by omega, by go_num, (by rw [HRe.out, HR0.out]; exact HDr1.out), round_tear (draw := x) hj' HE2.out Hh1.out Hh2.out Hh3.out HG'.out HGf.out (by rw [HR0.out]; rfl) hfu htu hu⟩
          case measure => simp [intOf]; omega
    · have ej : j = G.length := by omega
      subst ej
      have HGoes : Hid (GoesD w wr d m G (Dk.crashS s ds)) := by
        have hgo := HGo.out
        rw [HS.out] at hgo
        obtain ⟨G', h1, h2, h3⟩ := hgo
        exact GoesD.of ht h2 h1 h3
      go_wp2
      go_ret
      exact ⟨rfl, HGoes.out⟩

theorem crash_any (v : Value) (ds : List Int) (w : World) (h : DiskG Tryz.prog w d m G s) (hd : DrawsAt w (foot d m G) v ds) :
    Calls Tryz.prog 18 #[.pointer (some ⟨d, 0, none⟩), v] w fun e w' => e = .returned (.int .i64 (Dk.crashE ds)) ∧ GoesD w w' d m G (Dk.crashS s ds) := by
  by_cases hl : 4096 < ds.length
  · exact crash_long v ds w h hd hl
  · cases G with
    | nil => exact crash_none v ds w h hd (by omega)
    | cons p r => exact crash_some v ds w h hd (by omega) (by simp)

end
end Go.Proofs.YtigegdelhpdlhaaGreatDoor

/- Rename, Remove. -/
namespace Go.Proofs.YtigegdelhpdlhaaGreatDoor
open Go.RowKit Go.Maps

section
variable {d m : Nat} {G : List (List UInt8 × Gc)} {s : Dk.Dsk}

theorem delL_lt {k : List UInt8} {g : Gc} (hg : Dk.getL k G = some g) : (Dk.delL k G).length + 1 ≤ G.length := by
  unfold Dk.delL
  exact List.length_filter_lt_length_iff_exists.2 ⟨_, Dk.getL_mem hg, by simp⟩

theorem turn_cell {w w' : World} {S : Nat → Prop} (h : TurnD S w w') {b i : Nat} {v : Value} (hc : w.cell? ⟨b, i, none⟩ = some v) (hb : b < w.heap.size) (hS : ¬ S b) : w'.cell? ⟨b, i, none⟩ = some v :=
  (World.cell?_of_block (w := w) (a := ⟨b, i, none⟩) (h.block b hb hS)).trans hc

theorem remove_end {w w1 w2 : World} {k : ByteArray} (h1 : DiskG Tryz.prog w1 d m G (Dk.changeS s)) (ht : TurnD (fun i => i = d) w w1) (hb : Dk.burnt s = false) (hE : Dk.findE s k.data.toList = 0)
    {n : Nat} (hm : w2.ownsMap Tryz.prog 9 ptrR m n ((Dk.toD tok G).del (.string k.data.toList))) (htm : w1.mapTurned w2 m) : GoesD w w2 d m G (Dk.removeS s k.data.toList) := by
  rw [Dk.toD_del] at hm
  have hD := h1.delFile (turn_of_map htm) hm
  have e : Dk.removeS s k.data.toList = { Dk.changeS s with fs := Dk.delL k.data.toList (Dk.changeS s).fs } := by
    unfold Dk.removeS
    rw [if_pos hE, hb, changeS_fs]
    rfl
  rw [e]
  refine GoesD.of ht ((turn_of_map htm).mono (fun i hi => Or.inr (Or.inl hi))) hD (fun i hi => Or.inl ?_)
  rcases hi with rfl | rfl | ⟨p, hp, hi⟩
  · exact Or.inl rfl
  · exact Or.inr (Or.inl rfl)
  · exact Or.inr (Or.inr ⟨p, (Dk.mem_delL.1 hp).1, hi⟩)

theorem rename_end {w w1 w2 w3 : World} {k k' : ByteArray} {g : Gc} (h : DiskG Tryz.prog w d m G s) (h1 : DiskG Tryz.prog w1 d m G (Dk.changeS s)) (ht : TurnD (fun i => i = d) w w1) (hg : Dk.getL k.data.toList G = some g) (hb : Dk.burnt s = false) (hE : Dk.findE s k.data.toList = 0)
    (ho : Dk.okS k = true) (ho' : Dk.okS k' = true)
    {n : Nat} (hm : w2.ownsMap Tryz.prog 9 ptrR m n ((Dk.toD tok G).del (.string k.data.toList))) (htm : w1.mapTurned w2 m)
    {n' : Nat} (hm' : w3.ownsMap Tryz.prog 9 ptrR m n' (((Dk.toD tok G).del (.string k.data.toList)).put (.string k'.data.toList) (tok g))) (htm' : w2.mapTurned w3 m) : GoesD w w3 d m G (Dk.renameS s k.data.toList k'.data.toList) := by
  rw [Dk.toD_del] at hm hm'
  rw [Dk.toD_put] at hm'
  have hD := h1.delFile (turn_of_map htm) hm
  have hmem := Dk.getL_mem hg
  have hf1 := h1.files _ hmem
  have t13 : TurnD (fun i => i = m) w1 w3 := (turn_of_map htm).trans (turn_of_map htm')
  have hf3 : FileAt w3 g := by
    refine hf1.kept (t13.block _ (lt_ofD hf1.cell) (h1.m_file hf1).symm) (fun i hi => ?_)
    obtain ⟨cur, hc, _⟩ := ownsRow_ownD hf1.row hi
    exact t13.block i (lt_ofD hc) (h1.m_row hf1 hi).symm
  have hlen := delL_lt hg
  have hfew := h1.few
  have hD3 := hD.putFile (turn_of_map htm') hm' hf3 ho' (fun p hp _ => h1.apart_of hmem (Dk.mem_delL.1 hp).1 (Dk.mem_delL.1 hp).2.symm) (by
    unfold Dk.putL
    rw [Dk.length_insL]
    have := List.length_filter_le (fun p : List UInt8 × Gc => !(p.1 == k'.data.toList)) (Dk.delL k.data.toList G)
    unfold Dk.delL at *
    omega)
  have e : Dk.renameS s k.data.toList k'.data.toList = { Dk.changeS s with fs := Dk.putL k'.data.toList g.fil (Dk.delL k.data.toList (Dk.changeS s).fs) } := by
    unfold Dk.renameS
    rw [← okS_def, ← okS_def, ho, ho', if_pos hE, hb, changeS_fs, fileOr_some h hg]
    rfl
  rw [e]
  refine GoesD.of ht (t13.mono (fun i hi => Or.inr (Or.inl hi))) hD3 (fun i hi => Or.inl ?_)
  rcases hi with rfl | rfl | ⟨p, hp, hi⟩
  · exact Or.inl rfl
  · exact Or.inr (Or.inl rfl)
  · unfold Dk.putL at hp
    rcases Dk.mem_insL.1 hp with rfl | hp
    · exact Or.inr (Or.inr ⟨_, hmem, hi⟩)
    · exact Or.inr (Or.inr ⟨p, (Dk.mem_delL.1 (Dk.mem_delL.1 hp).1).1, hi⟩)

set_option maxRecDepth 100000 in
set_option maxHeartbeats 1000000 in
theorem remove_any (k : ByteArray) (w : World) (h : DiskG Tryz.prog w d m G s) (hk : k.size ≤ maxLen) :
    Calls Tryz.prog 23 #[.pointer (some ⟨d, 0, none⟩), .string k] w fun e w' => e = .returned (.int .i64 (Dk.removeE s k.data.toList)) ∧ GoesD w w' d m G (Dk.removeS s k.data.toList) := by
  have H : Hid (DiskG Tryz.prog w d m G s) := h
  cases ho : Dk.okS k with
  | false =>
    have HF : Hid (Dk.findE s k.data.toList = 10) := findE_bad ho
    go_enter Tryz.func23, Tryz.ntmps23
    go_wp2_with (go_at_call 49; refine (find_bad _ _ hk ho).mono ?_; rintro e w' ⟨rfl, rfl⟩)
    go_ret
    refine ⟨ret_intD (by unfold Dk.removeE; rw [HF.out]; rfl), ?_⟩
    rw [show Dk.removeS s k.data.toList = s from by unfold Dk.removeS; rw [HF.out]; rfl]
    exact GoesD.stay H.out
  | true =>
    cases hg : Dk.getL k.data.toList G with
    | none =>
      have HF : Hid (Dk.findE s k.data.toList = 5) := findE_none h ho hg
      have HG : Hid (Dk.getL k.data.toList G = none) := hg
      clear hg
      go_enter Tryz.func23, Tryz.ntmps23
      go_wp2_with (go_at_call 49; refine (find_none _ _ H.out hk ho HG.out).mono ?_; rintro e w' ⟨rfl, rfl⟩)
      go_ret
      refine ⟨ret_intD (by unfold Dk.removeE; rw [HF.out]; rfl), ?_⟩
      rw [show Dk.removeS s k.data.toList = s from by unfold Dk.removeS; rw [HF.out]; rfl]
      exact GoesD.stay H.out
    | some g =>
      have HF : Hid (Dk.findE s k.data.toList = 0) := findE_some h ho hg
      have HG : Hid (Dk.getL k.data.toList G = some g) := hg
      clear hg
      cases hb : Dk.burnt s with
      | true =>
        have hE := changeE_burnt hb
        go_enter Tryz.func23, Tryz.ntmps23
        go_wp2_with (first
          | (go_at_call 49; refine (find_some _ _ H.out hk ho HG.out).mono ?_; rintro e w' ⟨rfl, rfl⟩)
          | (go_at_call 50; refine (change_any _ H.out).mono ?_; rintro e w1 ⟨rfl, h1, ht⟩))
        go_ret
        refine ⟨ret_intD (by unfold Dk.removeE; rw [if_pos HF.out, hE]), ?_⟩
        rw [show Dk.removeS s k.data.toList = Dk.changeS s from by unfold Dk.removeS; rw [if_pos HF.out, hb]; rfl]
        exact GoesD.top h1 ht
      | false =>
        have hE := changeE_not hb
        go_enter Tryz.func23, Tryz.ntmps23
        go_wp2_with (first
          | (go_at_call 49; refine (find_some _ _ H.out hk ho HG.out).mono ?_; rintro e w' ⟨rfl, rfl⟩)
          | (go_at_call 50; refine (change_any _ H.out).mono ?_; rintro e w1 ⟨rfl, h1, ht⟩; have c0 := h1.cells.1; have M1 := h1.map)
          | (at_delete; go_must (refine wpList_delete_own _ rfl _ _ 65 9 rfl 81 keyed Tryz.underlying65 ptrR m G.length (Dk.toD tok G) rfl M1 _ _ rfl (WideMaps.keyOf_string_mk Tryz.underlying9 hk) ?_; intro w2 hown2 hturn2)))
        go_ret
        refine ⟨ret_intD (by unfold Dk.removeE; rw [if_pos HF.out, hE]), ?_⟩
        exact remove_end h1 ht hb HF.out hown2 hturn2

set_option maxRecDepth 100000 in
set_option maxHeartbeats 1000000 in
theorem rename_any (k k' : ByteArray) (w : World) (h : DiskG Tryz.prog w d m G s) (hk : k.size ≤ maxLen) (hk' : k'.size ≤ maxLen) :
    Calls Tryz.prog 82 #[.pointer (some ⟨d, 0, none⟩), .string k, .string k'] w fun e w' => e = .returned (.int .i64 (Dk.renameE s k.data.toList k'.data.toList)) ∧ GoesD w w' d m G (Dk.renameS s k.data.toList k'.data.toList) := by
  have H : Hid (DiskG Tryz.prog w d m G s) := h
  cases ho : Dk.okS k with
  | false =>
    have e1 : Dk.renameE s k.data.toList k'.data.toList = 10 := by unfold Dk.renameE; rw [← okS_def, ho]; rfl
    have e2 : Dk.renameS s k.data.toList k'.data.toList = s := by unfold Dk.renameS; rw [← okS_def, ho]; rfl
    rw [e1, e2]
    clear e1 e2
    go_enter Tryz.func82, Tryz.ntmps82
    go_wp2_with (go_at_call 51; refine (nameMayBe_any _ _ hk).mono ?_; rintro e w' ⟨rfl, rfl⟩)
    go_ret
    exact ⟨rfl, GoesD.stay H.out⟩
  | true =>
    cases ho' : Dk.okS k' with
    | false =>
      have e1 : Dk.renameE s k.data.toList k'.data.toList = 10 := by unfold Dk.renameE; rw [← okS_def, ← okS_def, ho, ho']; rfl
      have e2 : Dk.renameS s k.data.toList k'.data.toList = s := by unfold Dk.renameS; rw [← okS_def, ← okS_def, ho, ho']; rfl
      rw [e1, e2]
      clear e1 e2
      go_enter Tryz.func82, Tryz.ntmps82
      go_wp2_with fail
      refine (nameMayBe_any _ _ hk).mono ?_
      rintro e w' ⟨rfl, rfl⟩
      go_wp2_with fail
      refine (nameMayBe_any _ _ hk').mono ?_
      rintro e w' ⟨rfl, rfl⟩
      go_wp2_with fail
      go_ret
      exact ⟨rfl, GoesD.stay H.out⟩
    | true =>
      have hRE : Dk.renameE s k.data.toList k'.data.toList = if Dk.findE s k.data.toList = 0 then Dk.changeE s else Dk.findE s k.data.toList := by unfold Dk.renameE; rw [← okS_def, ← okS_def, ho, ho']; rfl
      have HRE : Hid (Dk.renameE s k.data.toList k'.data.toList = if Dk.findE s k.data.toList = 0 then Dk.changeE s else Dk.findE s k.data.toList) := hRE
      have HRS : Hid (Dk.renameS s k.data.toList k'.data.toList = if Dk.findE s k.data.toList = 0 then (if Dk.burnt s then Dk.changeS s else { Dk.changeS s with fs := Dk.putL k'.data.toList (Dk.fileOr (Dk.getL k.data.toList s.fs)) (Dk.delL k.data.toList s.fs) }) else s) := by
        show _ = _
        unfold Dk.renameS; rw [← okS_def, ← okS_def, ho, ho']; rfl
      clear hRE
      cases hg : Dk.getL k.data.toList G with
      | none =>
        have HF : Hid (Dk.findE s k.data.toList = 5) := findE_none h ho hg
        have HG : Hid (Dk.getL k.data.toList G = none) := hg
        have HE5 : Hid (Dk.renameE s k.data.toList k'.data.toList = 5) := by show _ = _; rw [HRE.out, HF.out]; rfl
        have HS5 : Hid (Dk.renameS s k.data.toList k'.data.toList = s) := by show _ = _; rw [HRS.out, HF.out]; rfl
        clear hg
        go_enter Tryz.func82, Tryz.ntmps82
        go_wp2_with fail
        refine (nameMayBe_any _ _ hk).mono ?_
        rintro e w' ⟨rfl, rfl⟩
        go_wp2_with fail
        refine (nameMayBe_any _ _ hk').mono ?_
        rintro e w' ⟨rfl, rfl⟩
        go_wp2_with fail
        refine (find_none _ _ H.out hk ho HG.out).mono ?_
        rintro e w' ⟨rfl, rfl⟩
        go_wp2_with fail
        go_ret
        rw [HE5.out, HS5.out]
        exact ⟨rfl, GoesD.stay H.out⟩
      | some g =>
        have HF : Hid (Dk.findE s k.data.toList = 0) := findE_some h ho hg
        have HG : Hid (Dk.getL k.data.toList G = some g) := hg
        clear hg
        cases hb : Dk.burnt s with
        | true =>
          have hE := changeE_burnt hb
          have HE5 : Hid (Dk.renameE s k.data.toList k'.data.toList = 11) := by show _ = _; rw [HRE.out, if_pos HF.out, hE]
          have HS5 : Hid (Dk.renameS s k.data.toList k'.data.toList = Dk.changeS s) := by show _ = _; rw [HRS.out, if_pos HF.out, hb]; rfl
          go_enter Tryz.func82, Tryz.ntmps82
          go_wp2_with fail
          refine (nameMayBe_any _ _ hk).mono ?_
          rintro e w' ⟨rfl, rfl⟩
          go_wp2_with fail
          refine (nameMayBe_any _ _ hk').mono ?_
          rintro e w' ⟨rfl, rfl⟩
          go_wp2_with fail
          refine (find_some _ _ H.out hk ho HG.out).mono ?_
          rintro e w' ⟨rfl, rfl⟩
          go_wp2_with fail
          refine (change_any _ H.out).mono ?_
          rintro e w1 ⟨rfl, h1, ht⟩
          go_wp2_with fail
          go_ret
          rw [HE5.out, HS5.out]
          exact ⟨rfl, GoesD.top h1 ht⟩
        | false =>
          have hE := changeE_not hb
          have HE5 : Hid (Dk.renameE s k.data.toList k'.data.toList = 0) := by show _ = _; rw [HRE.out, if_pos HF.out, hE]
          have HB : Hid (Dk.burnt s = false) := hb
          have hn64 := h.few
          clear hb
          go_enter Tryz.func82, Tryz.ntmps82
          go_wp2_with fail
          refine (nameMayBe_any _ _ hk).mono ?_
          rintro e w' ⟨rfl, rfl⟩
          go_wp2_with fail
          refine (nameMayBe_any _ _ hk').mono ?_
          rintro e w' ⟨rfl, rfl⟩
          go_wp2_with fail
          refine (find_some _ _ H.out hk ho HG.out).mono ?_
          rintro e w' ⟨rfl, rfl⟩
          go_wp2_with fail
          refine (change_any _ H.out).mono ?_
          rintro e w1 ⟨rfl, h1, ht⟩
          have c0 := h1.cells.1
          have M1 := h1.map
          have hd1 : d < w1.heap.size := lt_ofD h1.top
          have hmd := h1.m_d
          go_wp2_with (at_delete; go_must (refine wpList_delete_own _ rfl _ _ 65 9 rfl 81 keyed Tryz.underlying65 ptrR m G.length (Dk.toD tok G) rfl M1 _ _ rfl (WideMaps.keyOf_string_mk Tryz.underlying9 hk) ?_))
          intro w2 hown2 hturn2
          have c1 : w2.cell? ⟨d, 0, none⟩ = some (.map (some m)) := turn_cell (turn_of_map hturn2) c0 hd1 (fun e => hmd e.symm)
          go_wp2_with (at_mapUpdate; go_must (refine wpList_mapUpdate_in _ rfl _ _ _ 65 rfl 9 81 keyed Tryz.underlying65 ptrR m G.length _ rfl hown2 ?q3 _ _ _ rfl rfl (WideMaps.keyOf_string_mk Tryz.underlying9 hk') (tok g) [] rfl ?_))
          case q3 => unfold maxLen; omega
          intro w3 hown3 hturn3
          go_wp2
          go_ret
          rw [HE5.out]
          exact ⟨rfl, rename_end H.out h1 ht HG.out HB.out HF.out ho ho' hown2 hturn2 hown3 hturn3⟩

end
end Go.Proofs.YtigegdelhpdlhaaGreatDoor
