import Derived.Test.YtigegdelhpdlhaaGreatDoorFileJ
/- A disk one of whose files is turned: what becomes of the whole. -/
namespace Go.Proofs.YtigegdelhpdlhaaGreatDoor
open Go.RowKit Go.Maps

section
variable {w w' : World} {d m : Nat} {G : List (List UInt8 × Gc)} {s : Dk.Dsk}

theorem DiskG.rise (h : DiskG Tryz.prog w d m G s) : Dk.Rise G := Dk.rise_of_canon tok (h.map.canon keyed)

theorem DiskG.riseF (h : DiskG Tryz.prog w d m G s) : Dk.Rise s.fs := by
  have := h.rise
  rw [h.fs]
  unfold Dk.Rise Dk.mapL at *
  exact List.pairwise_map.2 this

theorem DiskG.d_file (h : DiskG Tryz.prog w d m G s) {g : Gc} (hf : FileAt w g) : d ≠ g.blk := by
  intro e
  have := hf.cell
  rw [← e, h.top] at this
  simp at this
theorem DiskG.d_row (h : DiskG Tryz.prog w d m G s) {g : Gc} (hf : FileAt w g) {i : Nat} (hi : g.val.ownBlock = some i) : d ≠ i := by
  intro e
  obtain ⟨cur, hc, _⟩ := ownsRow_ownD hf.row hi
  rw [← e, h.top] at hc
  simp at hc
theorem DiskG.m_file (h : DiskG Tryz.prog w d m G s) {g : Gc} (hf : FileAt w g) : m ≠ g.blk := by
  intro e
  obtain ⟨es, clock, hb, _⟩ := h.map
  have := hf.cell
  rw [← e, hb] at this
  simp at this
theorem DiskG.m_row (h : DiskG Tryz.prog w d m G s) {g : Gc} (hf : FileAt w g) {i : Nat} (hi : g.val.ownBlock = some i) : m ≠ i := by
  intro e
  obtain ⟨cur, hc, _⟩ := ownsRow_ownD hf.row hi
  obtain ⟨es, clock, hb, _⟩ := h.map
  rw [← e, hb] at hc
  simp at hc
theorem DiskG.m_d (h : DiskG Tryz.prog w d m G s) : m ≠ d := by
  intro e
  obtain ⟨es, clock, hb, _⟩ := h.map
  rw [e, h.top] at hb
  simp at hb
theorem file_row {g g' : Gc} (hf : FileAt w g) (hf' : FileAt w g') {i : Nat} (hi : g'.val.ownBlock = some i) : g.blk ≠ i := by
  intro e
  obtain ⟨cur, hc, _⟩ := ownsRow_ownD hf'.row hi
  have := hf.cell
  rw [e, hc] at this
  simp at this

def fileS (g : Gc) (i : Nat) : Prop := i = g.blk ∨ g.val.ownBlock = some i

theorem DiskG.apart_of (h : DiskG Tryz.prog w d m G s) {p q : List UInt8 × Gc} (hp : p ∈ G) (hq : q ∈ G) (hne : p.1 ≠ q.1) : Apart p.2 q.2 := by
  have hs : ∀ {a b : Gc}, Apart a b → Apart b a := fun h => ⟨fun e => h.1 e.symm, fun i h1 h2 => h.2 i h2 h1⟩
  have H : ∀ (l : List (List UInt8 × Gc)), l.Pairwise (fun a b => Apart a.2 b.2) → ∀ p ∈ l, ∀ q ∈ l, p.1 ≠ q.1 → Apart p.2 q.2 := by
    intro l
    induction l with
    | nil => intro _ p hp; cases hp
    | cons y r ih =>
      intro hl p hp q hq hne
      obtain ⟨h1, h2⟩ := List.pairwise_cons.1 hl
      rcases List.mem_cons.1 hp with rfl | hp'
      · rcases List.mem_cons.1 hq with rfl | hq'
        · exact absurd rfl hne
        · exact h1 q hq'
      · rcases List.mem_cons.1 hq with rfl | hq'
        · exact hs (h1 p hp')
        · exact ih h2 p hp' q hq' hne
  exact H G h.apart p hp q hq hne

/-- Another file's blocks are none of this one's. -/
theorem DiskG.others (h : DiskG Tryz.prog w d m G s) {k : List UInt8} {g : Gc} (hg : Dk.getL k G = some g) {p : List UInt8 × Gc} (hp : p ∈ G) (hne : p.1 ≠ k) :
    ¬ fileS g p.2.blk ∧ ∀ i, p.2.val.ownBlock = some i → ¬ fileS g i := by
  have hm := Dk.getL_mem hg
  have ha := h.apart_of hp hm hne
  have hf := h.files p hp
  have hf' := h.files _ hm
  refine ⟨fun e => ?_, fun i hi e => ?_⟩
  · rcases e with e | e
    · exact ha.1 e
    · exact file_row hf hf' e rfl
  · rcases e with e | e
    · exact file_row hf' hf hi e.symm
    · exact ha.2 i hi e

/-- One file is turned, in its place. -/
theorem DiskG.setFile (h : DiskG Tryz.prog w d m G s) {k : List UInt8} {g g' : Gc} (hg : Dk.getL k G = some g) (ht : TurnD (fileS g) w w') (hf : FileAt w' g') (hb : g'.blk = g.blk)
    (hnew : ∀ i, g'.val.ownBlock = some i → g.val.ownBlock = some i ∨ w.heap.size ≤ i) :
    DiskG Tryz.prog w' d m (Dk.putL k g' G) { s with fs := Dk.putL k g'.fil s.fs } ∧ ∀ i, foot d m (Dk.putL k g' G) i → foot d m G i ∨ w.heap.size ≤ i := by
  have hm := Dk.getL_mem hg
  have hfg := h.files _ hm
  have hR := h.rise
  have hset := Dk.putL_set g' hR hg
  have hlt : ∀ p ∈ G, p.2.blk < w.heap.size ∧ ∀ i, p.2.val.ownBlock = some i → i < w.heap.size := fun p hp =>
    ⟨lt_ofD (h.files p hp).cell, fun i hi => by obtain ⟨cur, hc, _⟩ := ownsRow_ownD (h.files p hp).row hi; exact lt_ofD hc⟩
  have hmem : ∀ p, p ∈ Dk.putL k g' G → p = (k, g') ∨ (p ∈ G ∧ p.1 ≠ k) := by
    intro p hp
    unfold Dk.putL at hp
    rcases Dk.mem_insL.1 hp with e | e
    · exact Or.inl e
    · exact Or.inr (Dk.mem_delL.1 e)
  refine ⟨⟨?_, ?_, ?_, ?_, ?_, ?_, h.left, ?_⟩, ?_⟩
  · have := ht.block d (lt_ofD h.top) (fun e => by rcases e with e | e; exact h.d_file hfg e; exact h.d_row hfg e rfl)
    exact this.trans h.top
  · have e1 : Dk.toD tok (Dk.putL k g' G) = Dk.toD tok G := by
      rw [hset]; exact Dk.toD_setL tok hR hg (by unfold tok; rw [hb])
    have e2 : (Dk.putL k g' G).length = G.length := by rw [hset]; unfold Dk.setL; simp
    rw [e1, e2]
    exact ownsMap_block h.map (ht.block m h.map.lt (fun e => by rcases e with e | e; exact h.m_file hfg e; exact h.m_row hfg e rfl))
  · intro p hp
    rcases hmem p hp with rfl | ⟨hp', hne⟩
    · exact hf
    · obtain ⟨o1, o2⟩ := h.others hg hp' hne
      exact (h.files p hp').kept (ht.block _ (hlt p hp').1 o1) (fun i hi => ht.block i ((hlt p hp').2 i hi) (o2 i hi))
  · rw [hset]
    unfold Dk.setL
    refine List.pairwise_map.2 ?_
    refine (List.Pairwise.and h.apart (Dk.rise_ne hR)).imp_of_mem ?_
    rintro p q hp hq ⟨ha, hne⟩
    by_cases e1 : p.1 = k
    · have e2 : q.1 ≠ k := fun e => hne (e1.trans e.symm)
      have hq2 : p.2 = g := Dk.getL_unique hR hg (by rw [← e1]; exact hp)
      simp only [e1, beq_self_eq_true, if_true, beq_eq_false_iff_ne.2 e2, Bool.false_eq_true, if_false]
      rw [hq2] at ha
      refine ⟨by show g'.blk ≠ q.2.blk; rw [hb]; exact ha.1, fun i hi hi' => ?_⟩
      rcases hnew i hi with h1 | h1
      · exact ha.2 i h1 hi'
      · have := (hlt q hq).2 i hi'; omega
    · simp only [beq_eq_false_iff_ne.2 e1, Bool.false_eq_true, if_false]
      by_cases e2 : q.1 = k
      · have hq2 : q.2 = g := Dk.getL_unique hR hg (by rw [← e2]; exact hq)
        simp only [e2, beq_self_eq_true, if_true]
        rw [hq2] at ha
        refine ⟨by show p.2.blk ≠ g'.blk; rw [hb]; exact ha.1, fun i hi hi' => ?_⟩
        rcases hnew i hi' with h1 | h1
        · exact ha.2 i hi h1
        · have := (hlt p hp).2 i hi; omega
      · simp only [beq_eq_false_iff_ne.2 e2, Bool.false_eq_true, if_false]
        exact ha
  · show Dk.putL k g'.fil s.fs = _
    rw [Dk.mapL_putL, h.fs]
  · intro p hp
    rcases hmem p hp with rfl | ⟨hp', _⟩
    · exact h.names (k, g) hm
    · exact h.names p hp'
  · rw [hset]; unfold Dk.setL; simpa using h.few
  · rintro i (rfl | rfl | ⟨p, hp, hi⟩)
    · exact Or.inl (Or.inl rfl)
    · exact Or.inl (Or.inr (Or.inl rfl))
    · rcases hmem p hp with rfl | ⟨hp', _⟩
      · rcases hi with hi | hi
        · exact Or.inl (Or.inr (Or.inr ⟨_, hm, Or.inl (hi.trans hb)⟩))
        · rcases hnew i hi with h1 | h1
          · exact Or.inl (Or.inr (Or.inr ⟨_, hm, Or.inr h1⟩))
          · exact Or.inr h1
      · exact Or.inl (Or.inr (Or.inr ⟨p, hp', hi⟩))

theorem DiskG.footFile {k : List UInt8} {g : Gc} (hg : Dk.getL k G = some g) : ∀ i, fileS g i → foot d m G i := by
  intro i hi
  exact Or.inr (Or.inr ⟨_, Dk.getL_mem hg, hi⟩)

end
end Go.Proofs.YtigegdelhpdlhaaGreatDoor

/- Sync, Read. -/
namespace Go.Proofs.YtigegdelhpdlhaaGreatDoor
open Go.RowKit Go.Maps

def GoesD (w w' : World) (d m : Nat) (G : List (List UInt8 × Gc)) (s' : Dk.Dsk) : Prop :=
  ∃ G', DiskG Tryz.prog w' d m G' s' ∧ TurnD (foot d m G) w w' ∧ ∀ i, foot d m G' i → foot d m G i ∨ w.heap.size ≤ i

theorem GoesD.stay {w : World} {d m : Nat} {G : List (List UInt8 × Gc)} {s : Dk.Dsk} (h : DiskG Tryz.prog w d m G s) : GoesD w w d m G s :=
  ⟨G, h, TurnD.refl _ _, fun _ hi => Or.inl hi⟩
theorem GoesD.top {w w' : World} {d m : Nat} {G : List (List UInt8 × Gc)} {s : Dk.Dsk} (h : DiskG Tryz.prog w' d m G s) (ht : TurnD (fun i => i = d) w w') : GoesD w w' d m G s :=
  ⟨G, h, ht.mono (fun _ hi => Or.inl hi), fun _ hi => Or.inl hi⟩

theorem GoesD.of {w w1 w2 : World} {d m : Nat} {G G' : List (List UInt8 × Gc)} {s' : Dk.Dsk} (ht : TurnD (fun i => i = d) w w1) (hts : TurnD (foot d m G) w1 w2) (hD : DiskG Tryz.prog w2 d m G' s')
    (hfoot : ∀ i, foot d m G' i → foot d m G i ∨ w1.heap.size ≤ i) : GoesD w w2 d m G s' :=
  ⟨G', hD, (ht.mono (fun _ hi => Or.inl hi)).trans hts, fun i hi => (hfoot i hi).imp id (fun h2 => Nat.le_trans ht.size h2)⟩

theorem okS_def (k : ByteArray) : Dk.okS k = Dk.okName k.data.toList := rfl

section
variable {d m : Nat} {G : List (List UInt8 × Gc)} {s : Dk.Dsk}

theorem findE_bad {k : ByteArray} (ho : Dk.okS k = false) : Dk.findE s k.data.toList = 10 := by unfold Dk.findE; rw [← okS_def, ho]; rfl
theorem findE_none {w : World} {k : ByteArray} (h : DiskG Tryz.prog w d m G s) (ho : Dk.okS k = true) (hg : Dk.getL k.data.toList G = none) : Dk.findE s k.data.toList = 5 := by
  unfold Dk.findE; rw [← okS_def, ho, h.getL_fs, hg]; rfl
theorem findE_some {w : World} {k : ByteArray} (h : DiskG Tryz.prog w d m G s) (ho : Dk.okS k = true) {g : Gc} (hg : Dk.getL k.data.toList G = some g) : Dk.findE s k.data.toList = 0 := by
  unfold Dk.findE; rw [← okS_def, ho, h.getL_fs, hg]; rfl
theorem fileOr_some {w : World} {k : ByteArray} (h : DiskG Tryz.prog w d m G s) {g : Gc} (hg : Dk.getL k.data.toList G = some g) : Dk.fileOr (Dk.getL k.data.toList s.fs) = g.fil := by
  rw [h.getL_fs, hg]; rfl

theorem changeE_burnt (hb : Dk.burnt s = true) : Dk.changeE s = 11 := by unfold Dk.changeE; rw [hb]; rfl
theorem changeE_not (hb : Dk.burnt s = false) : Dk.changeE s = 0 := by unfold Dk.changeE; rw [hb]; rfl
theorem changeS_fs : (Dk.changeS s).fs = s.fs := by unfold Dk.changeS; split <;> (try split) <;> rfl

/-- behind Sync's store -/
theorem sync_end {w w1 : World} {k : ByteArray} {g : Gc} (h : DiskG Tryz.prog w d m G s) (h1 : DiskG Tryz.prog w1 d m G (Dk.changeS s)) (ht : TurnD (fun i => i = d) w w1) (hg : Dk.getL k.data.toList G = some g) (hb : Dk.burnt s = false) (hE : Dk.findE s k.data.toList = 0) :
    GoesD w (w1.setCell ⟨g.blk, 1, none⟩ (.int .i64 (g.fil.data.length : Int))) d m G (Dk.syncS s k.data.toList) := by
  have hf := h1.files _ (Dk.getL_mem hg)
  have hf' : FileAt (w1.setCell ⟨g.blk, 1, none⟩ (.int .i64 (g.fil.data.length : Int))) ⟨g.blk, g.val, ⟨g.fil.data, g.fil.data.length⟩⟩ := by
    refine ⟨?_, ?_, Nat.le_refl _, hf.len⟩
    · show (World.heap _)[g.blk]? = _
      rw [heap_setCell_sameD hf.cell]
      simp
    · refine ownsRow_blockD hf.row (fun i hi => Below.heap_setCell _ _ _ _ ?_)
      exact fun e => file_row hf hf hi e.symm
  have hts : TurnD (fileS g) w1 (w1.setCell ⟨g.blk, 1, none⟩ (.int .i64 (g.fil.data.length : Int))) := TurnD.setCell w1 ⟨g.blk, 1, none⟩ _ (Or.inl rfl)
  obtain ⟨hD, hfoot⟩ := h1.setFile hg hts hf' rfl (fun i hi => Or.inl hi)
  have e : Dk.syncS s k.data.toList = { Dk.changeS s with fs := Dk.putL k.data.toList ⟨g.fil.data, g.fil.data.length⟩ (Dk.changeS s).fs } := by
    unfold Dk.syncS
    rw [if_pos hE, hb, changeS_fs, fileOr_some h hg]
    rfl
  rw [e]
  exact GoesD.of ht (hts.mono (fun i hi => DiskG.footFile hg i hi)) hD hfoot

set_option maxHeartbeats 400000 in
theorem sync_any (k : ByteArray) (w : World) (h : DiskG Tryz.prog w d m G s) (hk : k.size ≤ maxLen) :
    Calls Tryz.prog 25 #[.pointer (some ⟨d, 0, none⟩), .string k] w fun e w' => e = .returned (.int .i64 (Dk.syncE s k.data.toList)) ∧ GoesD w w' d m G (Dk.syncS s k.data.toList) := by
  have H : Hid (DiskG Tryz.prog w d m G s) := h
  cases ho : Dk.okS k with
  | false =>
    have HF : Hid (Dk.findE s k.data.toList = 10) := findE_bad ho
    go_enter Tryz.func25, Tryz.ntmps25
    go_wp2_with (go_at_call 49; refine (find_bad _ _ hk ho).mono ?_; rintro e w' ⟨rfl, rfl⟩)
    go_ret
    refine ⟨ret_intD (by unfold Dk.syncE; rw [HF.out]; rfl), ?_⟩
    rw [show Dk.syncS s k.data.toList = s from by unfold Dk.syncS; rw [HF.out]; rfl]
    exact GoesD.stay H.out
  | true =>
    cases hg : Dk.getL k.data.toList G with
    | none =>
      have HF : Hid (Dk.findE s k.data.toList = 5) := findE_none h ho hg
      have HG : Hid (Dk.getL k.data.toList G = none) := hg
      clear hg
      go_enter Tryz.func25, Tryz.ntmps25
      go_wp2_with (go_at_call 49; refine (find_none _ _ H.out hk ho HG.out).mono ?_; rintro e w' ⟨rfl, rfl⟩)
      go_ret
      refine ⟨ret_intD (by unfold Dk.syncE; rw [HF.out]; rfl), ?_⟩
      rw [show Dk.syncS s k.data.toList = s from by unfold Dk.syncS; rw [HF.out]; rfl]
      exact GoesD.stay H.out
    | some g =>
      have HF : Hid (Dk.findE s k.data.toList = 0) := findE_some h ho hg
      have HG : Hid (Dk.getL k.data.toList G = some g) := hg
      clear hg
      cases hb : Dk.burnt s with
      | true =>
        have hE := changeE_burnt hb
        go_enter Tryz.func25, Tryz.ntmps25
        go_wp2_with (first
          | (go_at_call 49; refine (find_some _ _ H.out hk ho HG.out).mono ?_; rintro e w' ⟨rfl, rfl⟩)
          | (go_at_call 50; refine (change_any _ H.out).mono ?_; rintro e w1 ⟨rfl, h1, ht⟩))
        go_ret
        refine ⟨ret_intD (by unfold Dk.syncE; rw [if_pos HF.out, hE]), ?_⟩
        rw [show Dk.syncS s k.data.toList = Dk.changeS s from by unfold Dk.syncS; rw [if_pos HF.out, hb]; rfl]
        exact GoesD.top h1 ht
      | false =>
        have hE := changeE_not hb
        go_enter Tryz.func25, Tryz.ntmps25
        go_wp2_with (first
          | (go_at_call 49; refine (find_some _ _ H.out hk ho HG.out).mono ?_; rintro e w' ⟨rfl, rfl⟩)
          | (go_at_call 50; refine (change_any _ H.out).mono ?_; rintro e w1 ⟨rfl, h1, ht⟩; have hf := h1.files _ (Dk.getL_mem HG.out); obtain ⟨c0, c1⟩ := hf.cells; have f1 := frozen_ofD hf.cell 1; obtain ⟨a, c, hv, -, -, -⟩ := hf.shape; have c0' : w1.cell? ⟨g.blk, 0, none⟩ = some (.slice a g.fil.data.length c) := c0.trans (congrArg some hv); have hv' : Hid (g.val = .slice a g.fil.data.length c) := hv; clear hv c0))
        go_ret
        refine ⟨ret_intD (by unfold Dk.syncE; rw [if_pos HF.out, hE]), ?_⟩
        exact sync_end H.out h1 ht HG.out hb HF.out

theorem readV_bad {k : ByteArray} (ho : Dk.okS k = false) : Dk.readV s k.data.toList = [] := by unfold Dk.readV; rw [findE_bad ho]; rfl
theorem readV_none {w : World} {k : ByteArray} (h : DiskG Tryz.prog w d m G s) (ho : Dk.okS k = true) (hg : Dk.getL k.data.toList G = none) : Dk.readV s k.data.toList = [] := by unfold Dk.readV; rw [findE_none h ho hg]; rfl
theorem readV_some {w : World} {k : ByteArray} (h : DiskG Tryz.prog w d m G s) (ho : Dk.okS k = true) {g : Gc} (hg : Dk.getL k.data.toList G = some g) : Dk.readV s k.data.toList = g.fil.data := by
  unfold Dk.readV; rw [if_pos (findE_some h ho hg), fileOr_some h hg]

/-- a file's bytes as a string -/
theorem FileAt.text {w : World} {g : Gc} (h : FileAt w g) {a : Option Addr} {c : Nat} (hv : g.val = .slice a g.fil.data.length c) :
    (convert 54 9 (.slice a g.fil.data.length c)).run Tryz.prog w = .ok (.string ⟨g.fil.data.toArray⟩) w := by
  have hr := h.row
  rw [hv] at hr
  rcases hr.2 with ⟨e, hn⟩ | ⟨b, cap, cur, e, _⟩
  · obtain ⟨rfl, _, rfl⟩ : a = none ∧ g.fil.data.length = 0 ∧ c = 0 := by simpa using e
    rw [run_convert_bytes_nil w 54 5 Tryz.underlying54 Tryz.underlying5 _ _ 9 Tryz.underlying9]
    rw [List.eq_nil_of_length_eq_zero hn]
    rfl
  · cases e
    rw [run_convert_bytes_arg w 54 5 Tryz.underlying54 Tryz.underlying5 b 0 g.fil.data.length c (g.fil.data.map fun x => (x.toNat : Int)) (by simp) ?_ 9 Tryz.underlying9]
    · refine congrArg (fun x => Result.ok (Value.string x) w) ?_
      unfold strOfNums
      simp [List.map_map, Function.comp_def]
    · intro i hi
      have := hr.cells (g := b) rfl i (.int .u8 (g.fil.data[i].toNat : Int)) (by simp [bcellsD, hi])
      rw [Addr.add_lit] at this
      rw [this]
      simp [List.getD, hi]

set_option maxHeartbeats 400000 in
theorem read_any (k : ByteArray) (w : World) (h : DiskG Tryz.prog w d m G s) (hk : k.size ≤ maxLen) :
    Calls Tryz.prog 22 #[.pointer (some ⟨d, 0, none⟩), .string k] w fun e w' => e = .returned (.tuple #[.string ⟨(Dk.readV s k.data.toList).toArray⟩, .int .i64 (Dk.findE s k.data.toList)]) ∧ w' = w := by
  have H : Hid (DiskG Tryz.prog w d m G s) := h
  cases ho : Dk.okS k with
  | false =>
    rw [findE_bad ho, readV_bad ho]
    go_enter Tryz.func22, Tryz.ntmps22
    go_wp2_with (go_at_call 49; refine (find_bad _ _ hk ho).mono ?_; rintro e w' ⟨rfl, rfl⟩)
    go_ret2
    exact ⟨rfl, rfl⟩
  | true =>
    cases hg : Dk.getL k.data.toList G with
    | none =>
      rw [findE_none h ho hg, readV_none h ho hg]
      have HG : Hid (Dk.getL k.data.toList G = none) := hg
      clear hg
      go_enter Tryz.func22, Tryz.ntmps22
      go_wp2_with (go_at_call 49; refine (find_none _ _ H.out hk ho HG.out).mono ?_; rintro e w' ⟨rfl, rfl⟩)
      go_ret2
      exact ⟨rfl, rfl⟩
    | some g =>
      rw [findE_some h ho hg, readV_some h ho hg]
      have HG : Hid (Dk.getL k.data.toList G = some g) := hg
      have hf := h.files _ (Dk.getL_mem hg)
      obtain ⟨c0, c1⟩ := hf.cells
      obtain ⟨a, c, hv, -, -, -⟩ := hf.shape
      have hx := hf.text hv
      have c0' : w.cell? ⟨g.blk, 0, none⟩ = some (.slice a g.fil.data.length c) := c0.trans (congrArg some hv)
      clear hg hv c0
      go_enter Tryz.func22, Tryz.ntmps22
      go_wp2_with (go_at_call 49; refine (find_some _ _ H.out hk ho HG.out).mono ?_; rintro e w' ⟨rfl, rfl⟩)
      go_ret2
      exact ⟨rfl, rfl⟩

end
end Go.Proofs.YtigegdelhpdlhaaGreatDoor
