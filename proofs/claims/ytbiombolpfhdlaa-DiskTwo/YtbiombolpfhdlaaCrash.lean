/- Crash. -/
import Derived.Test.YtbiombolpfhdlaaAppendNew
import Derived.Test.YtbiombolpfhdlaaCrashP
namespace Go.Proofs.Ytbiombolpfhdlaa
open Go.RowKit Go.Maps

/-- A slice of draws, in blocks that are none of S. -/
def DrawsAt (w : World) (S : Nat → Prop) (v : Value) (r : List Int) : Prop :=
  ∃ a c, v = .slice a r.length c ∧ r.length ≤ c ∧ c ≤ maxLen ∧ (r ≠ [] → ∃ b off, a = some ⟨b, off, none⟩ ∧ b < w.heap.size ∧ ¬ S b ∧ ∀ i, i < r.length → w.cell? ⟨b, off + i, none⟩ = some (.int .i64 (r.getD i 0))) ∧ ∀ x ∈ r, x ≤ 9223372036854775807

theorem DrawsAt.kept {w w' : World} {S : Nat → Prop} {v : Value} {r : List Int} (h : DrawsAt w S v r) (ht : Turn S w w') : DrawsAt w' S v r := by
  obtain ⟨a, c, h1, h2, h3, h4, h5⟩ := h
  refine ⟨a, c, h1, h2, h3, fun hr => ?_, h5⟩
  obtain ⟨b, off, e, hb, hS, hc⟩ := h4 hr
  exact ⟨b, off, e, Nat.lt_of_lt_of_le hb ht.size, hS, fun i hi => (World.cell?_of_block (w := w) (a := ⟨b, off + i, none⟩) (ht.block b hb hS)).trans (hc i hi)⟩

section
variable {d m : Nat} {G : List (List UInt8 × Gc)} {s : Dk.Dsk}

set_option maxHeartbeats 400000 in
theorem crash_long (v : Value) (ds : List Int) (w : World) (h : DiskG Try.prog w d m G s) (hd : DrawsAt w (foot d m G) v ds) (hl : 4096 < ds.length) :
    Calls Try.prog 20 #[.pointer (some ⟨d, 0, none⟩), v] w fun e w' => e = .returned (.int .i64 (Dk.crashE ds)) ∧ Goes w w' d m G (Dk.crashS s ds) := by
  have H : Hid (DiskG Try.prog w d m G s) := h
  obtain ⟨a, c, rfl, -, hc, -⟩ := hd
  rw [show Dk.crashE ds = 2 from by unfold Dk.crashE; rw [if_pos hl], show Dk.crashS s ds = s from by unfold Dk.crashS; rw [if_pos hl]]
  unfold maxLen at hc
  have hl' : (4096 : Int) < (ds.length : Int) := by omega
  clear h hl
  go_enter Try.func20, Try.ntmps20
  go_wp2
  go_ret
  exact ⟨rfl, Goes.stay H.out⟩

/-- up again, without a fuse -/
def wUp (w : World) (d : Nat) : World := ((w.setCell ⟨d, 1, none⟩ (.bool false)).setCell ⟨d, 2, none⟩ (.bool false)).setCell ⟨d, 3, none⟩ (.int .i64 0)
def sUp (s : Dk.Dsk) : Dk.Dsk := ⟨s.fs, false, false, 0⟩

theorem up_turn (w : World) (d : Nat) : Turn (fun i => i = d) w (wUp w d) :=
  ((Turn.setCell (S := fun i => i = d) w ⟨d, 1, none⟩ _ rfl).trans (Turn.setCell _ ⟨d, 2, none⟩ _ rfl)).trans (Turn.setCell _ ⟨d, 3, none⟩ _ rfl)
theorem up_disk {w : World} (h : DiskG Try.prog w d m G s) : DiskG Try.prog (wUp w d) d m G (sUp s) := by
  refine h.topped (up_turn w d) ?_ rfl (by simp [sUp])
  unfold wUp
  rw [heap_setCell_same (heap_setCell_same (heap_setCell_same h.top 1 _) 2 _) 3]
  simp [sUp]

/-- the names of what is there, as a slice of the call's own -/
theorem names_up {w : World} (h : DiskG Try.prog w d m G s) (hp : 0 < G.length) :
    Calls Try.prog 34 #[.pointer (some ⟨d, 0, none⟩)] (wUp w d) fun e w1 => ∃ gb cap, e = .returned (.slice (some ⟨gb, 0, none⟩) G.length cap) ∧ G.length ≤ cap ∧ cap ≤ maxLen ∧ (∀ j, (hj : j < G.length) → w1.cell? ⟨gb, j, none⟩ = some (Go.Proofs.encStr (G[j]).1)) ∧
      w.heap.size ≤ gb ∧ gb < w1.heap.size ∧ DiskG Try.prog w1 d m G (sUp s) ∧ Turn (fun i => i = d) w w1 := by
  have h1 := up_disk h
  refine (names_any _ h1).mono ?_
  rintro e w1 ⟨v, rfl, hrow, hb⟩
  have hsz : (wUp w d).heap.size = w.heap.size := by simp [wUp]
  have ht : Turn (fun i => i = d) w w1 := (up_turn w d).trans (Turn.ofBelow _ hb)
  have hD : DiskG Try.prog w1 d m G (sUp s) := h1.kept (S := fun _ => False) (Turn.ofBelow _ hb) (fun _ _ h => h)
  rcases hrow.2 with ⟨rfl, hn⟩ | ⟨gb, cap, cur, rfl, hbase, hg, hnc, hcm, hcs, htake⟩
  · omega
  · refine ⟨gb, cap, rfl, hnc, hcm, fun j hj => ?_, by omega, lt_of hg, hD, ht⟩
    have := hrow.cells (g := gb) rfl j (Go.Proofs.encStr (G[j]).1) (by simp [Dk.keysL, hj])
    rw [Addr.add_lit] at this
    simpa using this

theorem names_up_none {w : World} (h : DiskG Try.prog w d m [] s) :
    Calls Try.prog 34 #[.pointer (some ⟨d, 0, none⟩)] (wUp w d) fun e w1 => ∃ a c, e = .returned (.slice a 0 c) ∧ DiskG Try.prog w1 d m [] (sUp s) ∧ Turn (fun i => i = d) w w1 := by
  have h1 := up_disk h
  refine (names_any _ h1).mono ?_
  rintro e w1 ⟨v, rfl, hrow, hb⟩
  have ht : Turn (fun i => i = d) w w1 := (up_turn w d).trans (Turn.ofBelow _ hb)
  have hD : DiskG Try.prog w1 d m [] (sUp s) := h1.kept (S := fun _ => False) (Turn.ofBelow _ hb) (fun _ _ h => h)
  obtain ⟨a, c, rfl⟩ := row_shape hrow
  exact ⟨a, c, rfl, hD, ht⟩

theorem DiskG.drewN {w : World} (h : DiskG Try.prog w d m G s) (n : Nat) : DiskG Try.prog (w.drewN n) d m G s :=
  h.kept (S := fun _ => False) (Turn.ofBelow _ (below_drewN w n)) (fun _ _ h => h)

def sMid (s : Dk.Dsk) (ds : List Int) (j : Nat) : Dk.Dsk := ⟨Dk.midL s.fs ds j, false, false, 0⟩

theorem round_stay {w1 wr : World} {ds : List Int} {j : Nat} (hj : j < s.fs.length) (he : (s.fs[j]).2.data.length = (s.fs[j]).2.safe) (h : Goes w1 wr d m G (sMid s ds j)) (n : Nat) : Goes w1 (wr.drewN n) d m G (sMid s ds (j + 1)) := by
  obtain ⟨G', h1, h2, h3⟩ := h
  have e : sMid s ds (j + 1) = sMid s ds j := by unfold sMid; rw [(Dk.mid_stay hj he).1]
  rw [e]
  exact ⟨G', h1.drewN n, h2.drewN n, h3⟩

theorem round_tear {w1 wr w2 : World} {ds : List Int} {j n : Nat} {G' : List (List UInt8 × Gc)} {g : Gc} {u : Value} {draw : Int} (hj : j < s.fs.length) (he : (s.fs[j]).2.data.length ≠ (s.fs[j]).2.safe)
    (h1 : DiskG Try.prog wr d m G' (sMid s ds j)) (h2 : Turn (foot d m G) w1 wr) (h3 : ∀ i, foot d m G' i → foot d m G i ∨ w1.heap.size ≤ i) (hg : Dk.getL (s.fs[j]).1 G' = some g) (hgf : g.fil = (s.fs[j]).2)
    (hdr : (Dk.restD (s.fs.take j) ds).headD 0 = draw)
    (hf : FileAt w2 ⟨g.blk, u, Dk.tearF g.fil draw⟩) (ht : Turn (fun i => i = g.blk) (wr.drewN n) w2) (hu : ∀ b, u.ownBlock = some b → (wr.drewN n).heap.size ≤ b) : Goes w1 w2 d m G (sMid s ds (j + 1)) := by
  have hR := h1.riseF
  have ht' : Turn (fileS g) wr w2 := (Turn.ofBelow _ (below_drewN wr n)).trans (ht.mono (fun i hi => Or.inl hi))
  obtain ⟨hD, hfoot⟩ := h1.setFile hg ht' hf rfl (fun i hi => Or.inr (hu i hi))
  have e : sMid s ds (j + 1) = { sMid s ds j with fs := Dk.putL (s.fs[j]).1 (Dk.tearF g.fil draw) (sMid s ds j).fs } := by
    unfold sMid at hR ⊢
    rw [(Dk.mid_tear hj hR he).1, hgf, hdr]
  rw [e]
  refine ⟨_, hD, h2.transNew ht' (fun i hi => h3 i (DiskG.footFile hg i hi)), fun i hi => ?_⟩
  rcases hfoot i hi with h4 | h4
  · exact h3 i h4
  · exact Or.inr (Nat.le_trans h2.size h4)

end
end Go.Proofs.Ytbiombolpfhdlaa
