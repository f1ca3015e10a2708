import Derived.Test.YtfddmibaojfalaaGreatXApp
import Derived.Deep.Cut
/- The program's Apply: what each operation comes to is told by the caller. -/
namespace Go.Proofs.YtfddmibaojfalaaGreat
open Go.RowKit

/-- an operation as it lies -/
structure OpR where
  kind : Int
  tbl : ByteArray
  key : Option Addr × Nat × Nat
  to : Option Addr × Nat × Nat
  row : Option Addr × Nat × Nat
  ix : ByteArray
  at0 : Int
  n : Int
  lim : Int
abbrev slV (x : Option Addr × Nat × Nat) : Value := .slice x.1 x.2.1 x.2.2
abbrev OpR.val (o : OpR) : Value := opA o.kind o.tbl (slV o.key) (slV o.to) (slV o.row) o.ix o.at0 o.n o.lim
def enO (o : OpR) : List Value := [.int .i64 o.kind, .string o.tbl, slV o.key, slV o.to, slV o.row, .string o.ix, .int .i64 o.at0, .int .i64 o.n, .int .i64 o.lim]

/-- what the caller says of an operation -/
def StepOk (w : World) (d m tb : Nat) (S0 : TS) (P : Nat → TS → List Ch → List (List V) → Prop) (Fin : TS → Prop) (j : Nat) (o : OpR) : Prop :=
  ∀ (u : World) (S : TS) (CL : List Ch) (L : List (List V)), Turn (fun i => W tb S0 i) w u → DG u d m tb S → P j S CL L →
    ∃ f code was nowC toldF, deedK o.kind = some f ∧ o.tbl = S.T.nm ∧
      (∀ u', Below u.heap.size u u' → Calls Tryz.prog f #[.pointer (some ⟨tb, 0, none⟩), o.val] u' (EffR u.heap.size code was nowC toldF u')) ∧
      (∀ (now : Option Rw) u', Below u.heap.size u u' → now.map Rw.vs = nowC → (∀ r, now = some r → RowG u' r) → (∀ r ∈ toldF now, RowN u' r) ∧ (toldF now).length ≤ 5000 ∧ (code = 0 → (∀ r, was = some r → RowG u' r) ∧ SwP S was now ∧ ∀ S', SwS S S' was now → P (j + 1) S' (CL ++ [(was, now)]) (cont (toldF now)))) ∧
      (code ≠ 0 → UnR Fin CL.reverse S)
/-- the rows that the last result tells -/
def LastV (A : World) (v : Value) (L : List (List V)) : Prop := ∃ gb Q, v = .slice (some ⟨gb, 0, none⟩) L.length L.length ∧ cont Q = L ∧ A.heap[gb]? = some (.cells (pcells Q).toArray 37 (0, 0)) ∧ ∀ q ∈ Q, RowG A q
/-- results: how many, and the last one -/
structure ResG (w A : World) (rv : Value) (n : Nat) (L : List (List V)) (R : List Rs) : Prop where
  row : A.ownsRow 0 52 2 rv n (flat enRs R)
  len : R.length = n
  last : ∀ x, R.getLast? = some x → LastV A x.2 L
  new : ∀ i, rv.ownBlock = some i → w.heap.size ≤ i
/-- behind j operations -/
structure ApG (w : World) (d m tb : Nat) (S0 : TS) (P : Nat → TS → List Ch → List (List V) → Prop) (j : Nat) (rv cv : Value) (A : World) (S : TS) (CL : List Ch) (L : List (List V)) (R : List Rs) : Prop where
  gone : Gone w tb S0 A S
  dat : DG A d m tb S
  p : P j S CL L
  ch : ∀ c ∈ CL, ChG A c
  res : ResG w A rv j L R
  crow : A.ownsRow 0 71 3 cv j (flat (enCh tb) CL)
  clen : CL.length = j
  cnew : ∀ i, cv.ownBlock = some i → w.heap.size ≤ i
/-- what Apply answers -/
def ApR (w : World) (d m tb : Nat) (S0 : TS) (P : Nat → TS → List Ch → List (List V) → Prop) (Fin : TS → Prop) (n : Nat) (e : Ending) (A : World) : Prop :=
  ∃ ra rn rc done, e = .returned (.tuple #[.slice ra rn rc, .bool done, .int .i64 0]) ∧
    ((done = true ∧ ∃ S CL L R, Gone w tb S0 A S ∧ DG A d m tb S ∧ P n S CL L ∧ ResG w A (.slice ra rn rc) n L R) ∨
     (done = false ∧ ∃ S, Gone w tb S0 A S ∧ DG A d m tb S ∧ Fin S))

section
variable {w A B : World} {d m tb j : Nat} {S0 S : TS} {P : Nat → TS → List Ch → List (List V) → Prop} {rv cv : Value} {CL : List Ch} {L : List (List V)} {R : List Rs}
theorem LastV.keep {v : Value} (h : LastV A v L) (k : ∀ (i : Nat) (c : Array Value) (t : TypeId) (z : Nat × Nat), A.heap[i]? = some (.cells c t z) → v.ownBlock = some i ∨ t = 36 → B.heap[i]? = A.heap[i]?) : LastV B v L := by
  obtain ⟨gb, Q, rfl, h2, h3, h4⟩ := h
  refine ⟨gb, Q, rfl, h2, (k _ _ _ _ h3 (Or.inl rfl)).trans h3, fun q hq => ?_⟩
  obtain ⟨C, hC⟩ := (h4 q hq).type
  exact (h4 q hq).heap (k _ _ _ _ hC (Or.inr rfl))
theorem Gone.below {S : TS} (h : Gone w tb S0 A S) (hb : Below A.heap.size A B) : Gone w tb S0 B S :=
  ⟨h.tab.below hb, h.T, h.turn.trans (Turn.ofBelow _ hb), h.new⟩
theorem Gone.keptR {S : TS} (h : Gone w tb S0 A S) {Q : Nat → Prop} (t : Turn Q A B) (hN : Alien A Q) (hw : ∀ i, Q i → w.heap.size ≤ i) : Gone w tb S0 B S :=
  ⟨h.tab.keptR t hN, h.T, h.turn.transNew t (fun i hi => Or.inr (hw i hi)), h.new⟩
theorem ResG.below {n : Nat} (h : ResG w A rv n L R) (hb : Below A.heap.size A B) : ResG w B rv n L R :=
  ⟨ownsRow_block h.row fun g hg => by obtain ⟨cur, hc, _⟩ := ownsRow_own h.row hg; exact hb.block g (lt_of hc), h.len, fun x hx => (h.last x hx).keep fun i c t z e _ => hb.block i (lt_of e), h.new⟩
theorem ApG.below (h : ApG w d m tb S0 P j rv cv A S CL L R) (hb : Below A.heap.size A B) : ApG w d m tb S0 P j rv cv B S CL L R :=
  ⟨h.gone.below hb, h.dat.below hb, h.p, fun c hc => (h.ch c hc).below hb, h.res.below hb, ownsRow_block h.crow fun g hg => by obtain ⟨cur, hc, _⟩ := ownsRow_own h.crow hg; exact hb.block g (lt_of hc), h.clen, h.cnew⟩
end

end Go.Proofs.YtfddmibaojfalaaGreat

/- Apply, a round: the result is added, the row is swapped, the change is added. -/
namespace Go.Proofs.YtfddmibaojfalaaGreat
open Go.RowKit

/-- the result has been told -/
structure MidG (w : World) (d m tb : Nat) (S0 : TS) (j : Nat) (rv cv : Value) (A : World) (S : TS) (CL : List Ch) (L : List (List V)) (R : List Rs) : Prop where
  gone : Gone w tb S0 A S
  dat : DG A d m tb S
  ch : ∀ c ∈ CL, ChG A c
  res : ResG w A rv (j + 1) L R
  crow : A.ownsRow 0 71 3 cv j (flat (enCh tb) CL)
  clen : CL.length = j
  cnew : ∀ i, cv.ownBlock = some i → w.heap.size ≤ i
  apart : ∀ x, R.getLast? = some x → ∀ i, x.2.ownBlock = some i → ¬ W tb S i

section
variable {w A B C D : World} {d m tb j : Nat} {S0 S S' : TS} {P : Nat → TS → List Ch → List (List V) → Prop} {rv rv' cv cv' : Value} {CL : List Ch} {L : List (List V)} {R : List Rs}
theorem own_alien {e : TypeId} {size n : Nat} {v : Value} {xs : List Value} (h : C.ownsRow 0 e size v n xs) (k : ¬ Known e) : Alien C (fun i => v.ownBlock = some i) := fun i hi => by
  obtain ⟨cur, hc, _⟩ := ownsRow_own h hi
  exact ⟨_, _, _, hc, k⟩
theorem row_other {e e' : TypeId} {size n size' n' : Nat} {v v' : Value} {xs xs' : List Value} (h : C.ownsRow 0 e size v n xs) (h' : C.ownsRow 0 e' size' v' n' xs') (hne : e ≠ e') (t : Turn (fun i => v'.ownBlock = some i) C D) : D.ownsRow 0 e size v n xs := ownsRow_block h fun g hg => by
  obtain ⟨cur, hc, _⟩ := ownsRow_own h hg
  refine t.block g (lt_of hc) (fun q => ?_)
  obtain ⟨cur', hc', _⟩ := ownsRow_own h' q
  exact type_ne hc hc' hne rfl
theorem block_other {e : TypeId} {size n : Nat} {v : Value} {xs : List Value} {p : Nat} {c : Array Value} {t : TypeId} {z : Nat × Nat} (h : C.ownsRow 0 e size v n xs) (hp : C.heap[p]? = some (.cells c t z)) (hne : t ≠ e) (tt : Turn (fun i => v.ownBlock = some i) C D) : D.heap[p]? = some (.cells c t z) := by
  refine (tt.block p (lt_of hp) (fun q => ?_)).trans hp
  obtain ⟨cur', hc', _⟩ := ownsRow_own h q
  exact type_ne hp hc' hne rfl

theorem ApG.tell (h : ApG w d m tb S0 P j rv cv A S CL L R) (hB : Below A.heap.size A B) (code : Int) {gb : Nat} {Q Lr : List Rw} (q1 : cont Q = cont Lr) (q2 : B.heap[gb]? = some (.cells (pcells Q).toArray 37 (0, 0))) (q3 : A.heap.size ≤ gb) (q4 : ∀ q ∈ Q, RowG B q) (o : Obj)
    (k1 : D.ownsRow 0 52 2 rv' (j + 1) (flat enRs (R ++ [(code, .slice (some ⟨gb, 0, none⟩) Lr.length Lr.length)]))) (k2 : Turn (fun i => rv.ownBlock = some i) (B.alloc o) D) (k3 : ∀ i, rv'.ownBlock = some i → rv.ownBlock = some i ∨ (B.alloc o).heap.size ≤ i) :
    MidG w d m tb S0 j rv' cv D S CL (cont Lr) (R ++ [(code, .slice (some ⟨gb, 0, none⟩) Lr.length Lr.length)]) := by
  have hBo : Below B.heap.size B (B.alloc o) := (Below.refl _ B).alloc (Nat.le_refl _) o
  have hAC : Below A.heap.size A (B.alloc o) := hB.trans (hBo.mono hB.size)
  have hC := h.below hAC
  have al := own_alien hC.res.row (by decide)
  have gbC := (hBo.block gb (lt_of q2)).trans q2
  refine ⟨hC.gone.keptR k2 al h.res.new, hC.dat.keptR k2 al, fun c hc => (hC.ch c hc).keptR k2 al, ⟨k1, by simp [h.res.len], fun x hx => ?_, fun i hi => ?_⟩, row_other hC.crow hC.res.row (by decide) k2, h.clen, h.cnew, fun x hx i hi q => ?_⟩
  · rw [List.getLast?_append] at hx
    simp at hx
    subst hx
    refine ⟨gb, Q, by simp [cont_length], q1, block_other hC.res.row gbC (by decide) k2, fun q hq => ?_⟩
    obtain ⟨c, hc⟩ := (q4 q hq).type
    have e1 := (hBo.block q.g (lt_of hc)).trans hc
    exact (q4 q hq).heap ((block_other hC.res.row e1 (by decide) k2).trans hc.symm)
  · rcases k3 i hi with e | e
    · exact h.res.new i e
    · have := h.gone.turn.size
      have := hAC.size
      omega
  · rw [List.getLast?_append] at hx
    simp at hx
    subst hx
    have hi' : gb = i := by simpa [Value.ownBlock] using hi
    have := h.gone.tab.wlt q
    omega

theorem MidG.next (h : MidG w d m tb S0 j rv cv A S CL L R) {was now : Option Rw} (hw : ChG A (was, now)) (s1 : TG B tb S') (s2 : SwS S S' was now) (s3 : Turn (fun i => W tb S i) A B) (s4 : ∀ i, W tb S' i → W tb S i ∨ A.heap.size ≤ i) (hP : P (j + 1) S' (CL ++ [(was, now)]) L) (o : Obj)
    (k1 : D.ownsRow 0 71 3 cv' (j + 1) (flat (enCh tb) (CL ++ [(was, now)]))) (k2 : Turn (fun i => cv.ownBlock = some i) (B.alloc o) D) (k3 : ∀ i, cv'.ownBlock = some i → cv.ownBlock = some i ∨ (B.alloc o).heap.size ≤ i) :
    ApG w d m tb S0 P (j + 1) rv cv' D S' (CL ++ [(was, now)]) L R := by
  have hBo : Below B.heap.size B (B.alloc o) := (Below.refl _ B).alloc (Nat.le_refl _) o
  have gB : Gone w tb S0 B S' := h.gone.swap s1 s2 s3 s4
  have dB : DG B d m tb S' := h.dat.swap s1 s2 s3
  have rowB : ∀ {e : TypeId} {size n : Nat} {v : Value} {xs : List Value}, A.ownsRow 0 e size v n xs → e ≠ 78 → e ≠ 37 → e ≠ 75 → (B.alloc o).ownsRow 0 e size v n xs := fun hr e1 e2 e3 => ownsRow_block hr fun g hg => by
    obtain ⟨cur, hc, _⟩ := ownsRow_own hr hg
    have e := s3.block g (lt_of hc) (fun q => Ty.not hc e1 e2 e3 (h.gone.tab.wty q))
    rw [hBo.block g (by have := s3.size; have := lt_of hc; omega), e]
  have crB := rowB h.crow (by decide) (by decide) (by decide)
  have rrB := rowB h.res.row (by decide) (by decide) (by decide)
  have al := own_alien crB (by decide)
  refine ⟨(gB.below hBo).keptR k2 al h.cnew, (dB.below hBo).keptR k2 al, hP, fun c hc => ?_, ⟨row_other rrB crB (by decide) k2, h.res.len, fun x hx => ?_, h.res.new⟩, k1, by simp [h.clen], fun i hi => ?_⟩
  · have hcA : ChG A c := by
      rcases List.mem_append.1 hc with hc | hc
      · exact h.ch c hc
      · rw [List.mem_singleton.1 hc]; exact hw
    exact ((hcA.kept h.gone.tab s3).below hBo).keptR k2 al
  · refine (h.res.last x hx).keep fun i c t z e hq => ?_
    have e1 : B.heap[i]? = A.heap[i]? := s3.block i (lt_of e) (fun q => by
      rcases hq with hq | hq
      · exact h.apart x hx i hq q
      · exact Ty.not e (by rw [hq]; decide) (by rw [hq]; decide) (by rw [hq]; decide) (h.gone.tab.wty q))
    have e2 : (B.alloc o).heap[i]? = some (.cells c t z) := by
      rw [hBo.block i (by have := s3.size; have := lt_of e; omega), e1]
      exact e
    have ht : t = 37 ∨ t = 36 := by
      rcases hq with hq | hq
      · obtain ⟨gb, Q, r1, _, r3, _⟩ := h.res.last x hx
        rw [r1] at hq
        have hi' : gb = i := by simpa [Value.ownBlock] using hq
        rw [hi', e] at r3
        cases r3
        exact Or.inl rfl
      · exact Or.inr hq
    rw [block_other crB e2 (by rcases ht with rfl | rfl <;> decide) k2]
    exact e.symm
  · rcases k3 i hi with e | e
    · exact h.cnew i e
    · have := h.gone.turn.size
      have := s3.size
      have := hBo.size
      omega
/-- a block of another kind stays -/
theorem MidG.eff (h : MidG w d m tb S0 j rv cv A S CL L R) (s3 : Turn (fun i => W tb S i) A B) {p : Nat} {c : Array Value} {t : TypeId} {z : Nat × Nat} (hp : A.heap[p]? = some (.cells c t z)) (e1 : t ≠ 78) (e2 : t ≠ 37) (e3 : t ≠ 75) : B.heap[p]? = some (.cells c t z) :=
  (s3.block p (lt_of hp) (fun q => Ty.not hp e1 e2 e3 (h.gone.tab.wty q))).trans hp
theorem MidG.crow7 (h : MidG w d m tb S0 j rv cv A S CL L R) (s3 : Turn (fun i => W tb S i) A B) (o : Obj) : (B.alloc o).ownsRow 0 71 3 cv j (flat (enCh tb) CL) := ownsRow_block h.crow fun g hg => by
  obtain ⟨cur, hc, _⟩ := ownsRow_own h.crow hg
  have e := h.eff s3 hc (by decide) (by decide) (by decide)
  rw [Below.heap_alloc B o g (lt_of e), e, hc]
end

end Go.Proofs.YtfddmibaojfalaaGreat

/- The program's Apply. -/
namespace Go.Proofs.YtfddmibaojfalaaGreat
open Go.RowKit

section
variable {w : World} {d m tb : Nat} {S0 : TS} {P : Nat → TS → List Ch → List (List V) → Prop} {Fin : TS → Prop}
theorem op_cells {vops : Value} {ops : List OpR} (ho : SliceAt w vops 9 enO ops) (hoW : ∀ b, vops.ownBlock = some b → ¬ W tb S0 b) : ∃ a c, vops = .slice a ops.length c ∧ ops.length ≤ c ∧ c ≤ maxLen ∧ ∀ u, Turn (fun i => W tb S0 i) w u → ∀ i o, ops[i]? = some o → ∃ b off, a = some ⟨b, off, none⟩ ∧ b < u.heap.size ∧ ∀ j v, (enO o)[j]? = some v → u.cell? ⟨b, off + i * 9 + j, none⟩ = some v := by
  obtain ⟨a, c, rfl, h1, h2, h3⟩ := ho
  refine ⟨a, c, rfl, h1, h2, fun u hu i o hi => ?_⟩
  obtain ⟨hl, rfl⟩ := List.getElem?_eq_some_iff.1 hi
  obtain ⟨b, off, rfl, hb, hc⟩ := h3 (by intro e; rw [e] at hl; simp at hl)
  refine ⟨b, off, rfl, Nat.lt_of_lt_of_le hb hu.size, fun j v hv => ?_⟩
  have e := hu.block b hb (hoW b rfl)
  have := hc i hl j v hv
  simp only [World.cell?] at this ⊢
  rw [e]
  exact this

theorem Gone.trans {A B : World} {S S2 : TS} (h : Gone w tb S0 A S) (g : Gone A tb S B S2) : Gone w tb S0 B S2 := by
  refine ⟨g.tab, g.T.trans h.T, h.turn.transNew g.turn h.new, fun i hi => ?_⟩
  rcases g.new i hi with q | q
  · exact h.new i q
  · exact Or.inr (Nat.le_trans h.turn.size q)

set_option linter.unusedSimpArgs false in
set_option maxRecDepth 100000 in
set_option maxHeartbeats 4000000 in
theorem apply_any (h : DG w d m tb S0) (vops : Value) (ops : List OpR) (ho : SliceAt w vops 9 enO ops) (hoW : ∀ b, vops.ownBlock = some b → ¬ W tb S0 b) (few : ops.length ≤ 4096) (h0 : P 0 S0 [] []) (hstep : ∀ j o, ops[j]? = some o → StepOk w d m tb S0 P Fin j o) :
    Calls Tryz.prog 7 #[.pointer (some ⟨d, 0, none⟩), vops] w (ApR w d m tb S0 P Fin ops.length) := by
  obtain ⟨a, c, rfl, hc1, hc2, hops⟩ := op_cells ho hoW
  have HX : Hid (∀ u, Turn (fun i => W tb S0 i) w u → ∀ i o, ops[i]? = some o → ∃ b off, a = some ⟨b, off, none⟩ ∧ b < u.heap.size ∧ ∀ j v, (enO o)[j]? = some v → u.cell? ⟨b, off + i * 9 + j, none⟩ = some v) := hops
  have HS : Hid (∀ j o, ops[j]? = some o → StepOk w d m tb S0 P Fin j o) := hstep
  have H0 : Hid (ApG w d m tb S0 P 0 (.slice none 0 0) (.slice none 0 0) w S0 [] [] []) := ⟨⟨h.tab, rfl, Turn.refl _ _, fun _ q => Or.inl q⟩, h, h0, (fun c hc => by cases hc), ⟨⟨rfl, Or.inl ⟨rfl, rfl⟩⟩, rfl, (fun x hx => by cases hx), (fun i hi => by cases hi)⟩, ⟨rfl, Or.inl ⟨rfl, rfl⟩⟩, rfl, (fun i hi => by cases hi)⟩
  obtain ⟨N, hN⟩ : ∃ N, ops.length = N := ⟨_, rfl⟩
  have HN : Hid (ops.length = N) := hN
  rw [hN] at few hc1 ⊢
  unfold maxLen at hc2
  have few' : ¬ (4096 : Int) < (N : Int) := by omega
  clear hops hstep ho hoW h h0 hN
  go_enter Tryz.func7, Tryz.ntmps7
  go_wp2_with fail
  go_loopw [17, 4, 7] (fun v r cc wr => ∃ (i : Nat) (ra : Option Addr) (rc : Nat) (ca : Option Addr) (cc' : Nat), i ≤ N ∧ v = .int .i64 i ∧ r = .slice ra i rc ∧ cc = .slice ca i cc' ∧ Hid (∃ S CL L R, ApG w d m tb S0 P i (.slice ra i rc) (.slice ca i cc') wr S CL L R)) (fun v _ _ _ => N - (intOf v).toNat)
  case atStart => exact ⟨0, none, 0, none, 0, Nat.zero_le _, rfl, rfl, rfl, S0, [], [], [], H0.out⟩
  case round =>
    obtain ⟨i, ra, rc, ca, cc, hi, rfl, rfl, rfl, HI⟩ := hrel
    by_cases hlt : i < N
    · obtain ⟨o, hoi⟩ : ∃ o, ops[i]? = some o := ⟨_, List.getElem?_eq_getElem (by rw [HN.out]; exact hlt)⟩
      obtain ⟨S, CL, L, R, hG⟩ := HI.out
      obtain ⟨b, off, rfl, hbl, hcell⟩ := HX.out wr hG.gone.turn i o hoi
      obtain ⟨f, code, was, nowC, toldF, hk, htb, hdo, htold, hbad⟩ := HS.out i o hoi wr S CL L hG.gone.turn hG.dat hG.p
      obtain ⟨kind, tbl, ⟨k1, k2, k3⟩, ⟨t1, t2, t3⟩, ⟨r1, r2, r3⟩, ix, at0, n, lim⟩ := o
      dsimp only at hk htb
      subst htb
      have HL : Hid (∀ u, Below wr.heap.size wr u → Calls Tryz.prog 16 #[.pointer (some ⟨d, 0, none⟩), opA kind S.T.nm (.slice k1 k2 k3) (.slice t1 t2 t3) (.slice r1 r2 r3) ix at0 n lim] u (LookR wr.heap.size tb code was nowC toldF u)) := fun u hu =>
        look_any hG.dat hu kind f hk (.slice k1 k2 k3) (.slice t1 t2 t3) (.slice r1 r2 r3) ix at0 n lim ⟨_, _, _, rfl⟩ ⟨_, _, _, rfl⟩ ⟨_, _, _, rfl⟩ hu.size (fun u' hu' => hdo u' (hu.trans (hu'.mono hu.size)))
      have HG : Hid (ApG w d m tb S0 P i (.slice ra i rc) (.slice ca i cc) wr S CL L R) := hG
      have HT : Hid (∀ (now : Option Rw) u', Below wr.heap.size wr u' → now.map Rw.vs = nowC → (∀ r, now = some r → RowG u' r) → (∀ r ∈ toldF now, RowN u' r) ∧ (toldF now).length ≤ 5000 ∧ (code = 0 → (∀ r, was = some r → RowG u' r) ∧ SwP S was now ∧ ∀ S', SwS S S' was now → P (i + 1) S' (CL ++ [(was, now)]) (cont (toldF now)))) := htold
      have HBad : Hid (code ≠ 0 → UnR Fin CL.reverse S) := hbad
      have o0 := hcell 0 _ rfl
      have o1 := hcell 1 _ rfl
      have o2 := hcell 2 _ rfl
      have o3 := hcell 3 _ rfl
      have o4 := hcell 4 _ rfl
      have o5 := hcell 5 _ rfl
      have o6 := hcell 6 _ rfl
      have o7 := hcell 7 _ rfl
      have o8 := hcell 8 _ rfl
      simp only [slV, Nat.add_zero] at o0 o1 o2 o3 o4 o5 o6 o7 o8
      obtain ⟨tnm, htnm⟩ : ∃ x, S.T.nm = x := ⟨_, rfl⟩
      rw [htnm] at o1 HL
      unfold LookR at HL
      have hlI : (i : Int) < (N : Int) := by omega
      have hiN : i < N := hlt
      have HBa : Hid (∀ (u : World) (o : Obj), Below u.heap.size u (u.alloc o)) := fun u o => (Below.refl _ u).alloc (Nat.le_refl _) o
      clear hcell hk hdo htold hbad hG HI hoi htnm
      go_upto_region 8 with (go_at_call 16; go_must (refine (HL.out _ (HBa.out _ _)).mono ?_; rintro e w2 ⟨ta, tn, tc, now, rfl, hnow, hrow, hsl, hbl2, hw2⟩; obtain ⟨oa, on, oc, hwas, -⟩ := opt_shape was; obtain ⟨na, nn, nc, hnw, -⟩ := opt_shape now; rw [hwas, hnw]))
      have hw1 : Below wr.heap.size wr w2 := (HBa.out wr _).trans (hw2.mono (HBa.out wr _).size)
      have HB2 : Hid (Below wr.heap.size wr w2) := hw1
      have hrow' : ∀ r, now = some r → RowG w2 r := fun r hr => (hrow r hr).1
      obtain ⟨tr, tl, tcode⟩ := HT.out now w2 hw1 hnow hrow'
      have HTc : Hid (code = 0 → (∀ r, was = some r → RowG w2 r) ∧ SwP S was now ∧ ∀ S', SwS S S' was now → P (i + 1) S' (CL ++ [(was, now)]) (cont (toldF now))) := tcode
      have HRn : Hid (∀ r, now = some r → RowG w2 r) := hrow'
      obtain ⟨LT, hLT⟩ : ∃ x, toldF now = x := ⟨_, rfl⟩
      rw [hLT] at tr tl hsl HTc
      obtain ⟨TL, hTL⟩ : ∃ x, LT.length = x := ⟨_, rfl⟩
      have HTL : Hid (LT.length = TL) := hTL
      have HCp : Hid (∀ u, Below w2.heap.size w2 u → Calls Tryz.prog 17 #[.slice ta tn tc] u (CopyRsR LT u)) := fun u hu => copyRows_any _ LT u w2 hu hsl tr tl
      unfold CopyRsR at HCp
      rw [hTL] at HCp
      have HO : Hid (optV was = .slice oa on oc ∧ optV now = .slice na nn nc) := ⟨hwas, hnw⟩
      clear hw1 hrow' tr tl tcode hLT hTL hsl hbl2 hrow hnow hw2 hwas hnw o0 o1 o2 o3 o4 o5 o6 o7 o8
      obtain ⟨pe, hpe⟩ : ∃ x, w2.heap.size = x := ⟨_, rfl⟩
      obtain ⟨w3, hw3⟩ : ∃ x, w2.alloc (.cells #[.int .i64 code, .slice ta tn tc, .slice oa on oc, .slice na nn nc] 64) = x := ⟨_, rfl⟩
      have HB3 : Hid (Below w2.heap.size w2 w3) := by show Below _ _ _; rw [← hw3]; exact HBa.out _ _
      have he3 : w3.heap[pe]? = some (.cells #[.int .i64 code, .slice ta tn tc, .slice oa on oc, .slice na nn nc] 64) := by rw [← hw3, ← hpe]; exact heap_new w2 _
      have HE3 : Hid (w3.heap[pe]? = some (.cells #[.int .i64 code, .slice ta tn tc, .slice oa on oc, .slice na nn nc] 64)) := he3
      rw [hw3, hpe]
      have HE : Hid (∀ u : World, u.heap[pe]? = some (.cells #[.int .i64 code, .slice ta tn tc, .slice oa on oc, .slice na nn nc] 64) → u.cell? ⟨pe, 0, none⟩ = some (.int .i64 code) ∧ u.cell? ⟨pe, 1, none⟩ = some (.slice ta tn tc) ∧ u.cell? ⟨pe, 2, none⟩ = some (.slice oa on oc) ∧ u.cell? ⟨pe, 3, none⟩ = some (.slice na nn nc) ∧ pe < u.heap.size) := fun u hu =>
        ⟨by rw [cell_of hu]; rfl, by rw [cell_of hu]; rfl, by rw [cell_of hu]; rfl, by rw [cell_of hu]; rfl, lt_of hu⟩
      clear hpe hw3 he3
      refine wp_region_held_drew (S := fun u => u.cell? ⟨pe, 0, none⟩ = some (.int .i64 code) ∧ u.cell? ⟨pe, 1, none⟩ = some (.slice ta tn tc)) (by kernel_rfl) (by obtain ⟨x0, x1, -⟩ := HE.out w3.drew HE3.out; exact ⟨x0, x1⟩) (fun hHeld => ?_)
      refine take_dst (i := 0) (dst := 27) (v := ?v27) rfl rfl (by kernel_rfl) (by kernel_rfl) (by kernel_rfl) (fun _ _ _ h => h) (Or.inl ⟨by rfl, ?hy27⟩) (by assumption) ?rest27
      case hy27 => intro w hSw; (try dsimp only at hSw); go_simp; try with_reducible rfl
      try simp only [List.setIfInBounds_toArray, List.set_cons_zero, List.set_cons_succ]
      refine take_dst (i := 1) (dst := 28) (v := ?v28) rfl rfl (by kernel_rfl) (by kernel_rfl) (by kernel_rfl) (fun _ _ _ h => h) (Or.inl ⟨by rfl, ?hy28⟩) (by assumption) ?rest28
      case hy28 => intro w hSw; (try dsimp only at hSw); go_simp; try with_reducible rfl
      try simp only [List.setIfInBounds_toArray, List.set_cons_zero, List.set_cons_succ]
      refine take_dst (i := 2) (dst := 29) (v := ?v29) rfl rfl (by kernel_rfl) (by kernel_rfl) (by kernel_rfl) (fun _ _ _ h => h) (Or.inl ⟨by rfl, ?hy29⟩) (by assumption) ?rest29
      case hy29 => intro w hSw; (try dsimp only at hSw); go_simp; try with_reducible rfl
      try simp only [List.setIfInBounds_toArray, List.set_cons_zero, List.set_cons_succ]
      refine take_dst (i := 3) (dst := 30) (v := ?v30) rfl rfl (by kernel_rfl) (by kernel_rfl) (by kernel_rfl) (fun _ _ _ h => h) (Or.inl ⟨by rfl, ?hy30⟩) (by assumption) ?rest30
      case hy30 => intro w hSw; (try dsimp only at hSw); go_simp; try with_reducible rfl
      try simp only [List.setIfInBounds_toArray, List.set_cons_zero, List.set_cons_succ]
      refine take_dst (i := 4) (dst := 31) (v := ?v31) rfl rfl (by kernel_rfl) (by kernel_rfl) (by kernel_rfl) (fun _ _ _ h => h) (Or.inl ⟨by rfl, ?hy31⟩) (by assumption) ?rest31
      case hy31 => intro w hSw; (try dsimp only at hSw); go_simp; try with_reducible rfl
      try simp only [List.setIfInBounds_toArray, List.set_cons_zero, List.set_cons_succ]
      refine wpAnyH_ready (rs := [5]) (by kernel_rfl) (by simp) ?_
      refine AllReadyH.cons rfl (fun K hK => ?_) AllReadyH.nil
      rw [if_pos (by rfl)]
      go_simp
      refine (HCp.out w3.drew (bl_drew HB3.out)).mono ?_
      rintro e w4 ⟨gb, Q, rfl, q1, q2, q3, q4, q5⟩
      have HB4 : Hid (Below w3.heap.size w3 w4) := (bl_drew (Below.refl _ w3)).trans q5
      have HE4 : Hid (w4.heap[pe]? = some (.cells #[.int .i64 code, .slice ta tn tc, .slice oa on oc, .slice na nn nc] 64)) := (HB4.out.block pe (lt_of HE3.out)).trans HE3.out
      have HQ : Hid (cont Q = cont LT ∧ w4.heap[gb]? = some (.cells (pcells Q).toArray 37 (0, 0)) ∧ w3.heap.size ≤ gb ∧ ∀ q ∈ Q, RowG w4 q) := ⟨q1, q2, q3, fun q hq => (q4 q hq).1⟩
      have HW4 : Hid (Below wr.heap.size wr w4) := (HB2.out.trans (HB3.out.mono HB2.out.size)).trans (HB4.out.mono (HB2.out.trans (HB3.out.mono HB2.out.size)).size)
      clear q1 q2 q3 q4 q5
      dsimp only
      refine hK.out _ _ (by obtain ⟨x0, x1, -⟩ := HE.out w4 HE4.out; exact ⟨x0, x1⟩) (fun hS4 => ?_)
      clear hK
      try simp only [List.setIfInBounds_toArray, List.set_cons_zero, List.set_cons_succ]
      refine take_dst (i := 6) (dst := 33) (v := ?v33) rfl rfl (by kernel_rfl) (by kernel_rfl) (by kernel_rfl) (fun _ _ _ h => h) (Or.inl ⟨by rfl, ?hy33⟩) (by assumption) ?rest33
      case hy33 => intro w hSw; (try dsimp only at hSw); go_simp; try with_reducible rfl
      try simp only [List.setIfInBounds_toArray, List.set_cons_zero, List.set_cons_succ]
      refine wpAnyH_ready (rs := [7]) (by kernel_rfl) (by simp) ?_
      refine AllReadyH.cons rfl (fun K hK => ?_) AllReadyH.nil
      rw [if_pos (by rfl)]
      go_simp
      have HE5 : Hid (∀ o, (w4.alloc o).heap[pe]? = some (.cells #[.int .i64 code, .slice ta tn tc, .slice oa on oc, .slice na nn nc] 64)) := fun o => ((HBa.out w4 o).block pe (lt_of HE4.out)).trans HE4.out
      refine hK.out _ _ (by obtain ⟨x0, x1, -⟩ := HE.out _ (HE5.out _); exact ⟨x0, x1⟩) (fun hS5 => ?_)
      clear hK
      try simp only [List.setIfInBounds_toArray, List.set_cons_zero, List.set_cons_succ]
      refine wpAnyH_ready (rs := [8]) (by kernel_rfl) (by simp) ?_
      refine AllReadyH.cons rfl (fun K hK => ?_) AllReadyH.nil
      have HG5 : Hid (∀ o, ApG w d m tb S0 P i (.slice ra i rc) (.slice ca i cc) (w4.alloc o) S CL L R) := fun o => HG.out.below (HW4.out.trans ((HBa.out w4 o).mono HW4.out.size))
      refine step_append_one1 (by rfl) _ _ 41 (by rfl) 52 (.agg #[.int .i64 0, .slice none 0 0]) 2 32 Tryz.underlying41 infoResult rfl (by decide) (by decide) enRs (fun _ => rfl) R (code, .slice (some ⟨gb, 0, none⟩) TL TL) (oneRs _ _ _ _) ra i rc (by rfl) (HG5.out _).res.row (by omega) w4.heap.size (by rfl) (rs_at w4 _ _ _) ?_
      intro A' m' w6 k1 k2 k3
      have HE6 : Hid (w6.heap[pe]? = some (.cells #[.int .i64 code, .slice ta tn tc, .slice oa on oc, .slice na nn nc] 64)) := block_other (HG5.out _).res.row (HE5.out _) (by decide) k2
      have HM : Hid (MidG w d m tb S0 i (.slice A' (i + 1) m') (.slice ca i cc) w6 S CL (cont LT) (R ++ [(code, .slice (some ⟨gb, 0, none⟩) TL TL)])) := by
        obtain ⟨q1, q2, q3, q4⟩ := HQ.out
        have z1 := HB3.out.size
        have z2 := HB2.out.size
        have := HG.out.tell (rv' := .slice A' (i + 1) m') (Lr := LT) HW4.out code q1 q2 (by omega) q4 _ (by rw [HTL.out]; exact k1) k2 k3
        rw [HTL.out] at this
        exact this
      have HCh : Hid (ChG w2 (was, now) → ChG w6 (was, now)) := fun hc =>
        ((hc.below ((HB3.out.trans (HB4.out.mono HB3.out.size)).trans ((HBa.out w4 _).mono (HB3.out.trans (HB4.out.mono HB3.out.size)).size))).keptR k2 (own_alien (HG5.out _).res.row (by decide)))
      clear k1 k2 k3 HG5 HE5 HQ HCp HL
      refine hK.out _ _ (by obtain ⟨x0, x1, -⟩ := HE.out w6 HE6.out; exact ⟨x0, x1⟩) (fun hS6 => ?_)
      clear hK
      try simp only [Act.put, List.setIfInBounds_toArray, List.set_cons_zero, List.set_cons_succ]
      refine take_dst (i := 9) (dst := 4) (v := ?v4) rfl rfl (by kernel_rfl) (by kernel_rfl) (by kernel_rfl) (fun _ _ _ h => h) (Or.inl ⟨by rfl, ?hy4⟩) (by assumption) ?rest4
      case hy4 => intro w hSw; (try dsimp only at hSw); go_simp; try with_reducible rfl
      try simp only [List.setIfInBounds_toArray, List.set_cons_zero, List.set_cons_succ]
      refine wpAnyH_done (by kernel_rfl) ?_ _
      obtain ⟨x0, x1, x2, x3, x4⟩ := HE.out w6 HE6.out
      clear hS4 hS5 hS6 hHeld
      by_cases hcode : code = 0
      · subst hcode
        obtain ⟨y1, y2, y3⟩ := HTc.out rfl
        have HCw : Hid (ChG w6 (was, now)) := HCh.out ⟨y1, HRn.out⟩
        have HSw : Hid (Calls Tryz.prog 19 #[.pointer (some ⟨tb, 0, none⟩), .slice oa on oc, .slice na nn nc] w6 (TsR tb S was now w6)) := by
          have := tswap_any HM.out.gone.tab (y2 w6 HCw.out.1 HCw.out.2)
          rw [HO.out.1, HO.out.2] at this
          exact this
        have HPn : Hid (∀ S', SwS S S' was now → P (i + 1) S' (CL ++ [(was, now)]) (cont LT)) := y3
        clear y1 y2 y3 HTc HBad HT
        unfold TsR at HSw
        go_wp2_with (first
          | (go_at_call 19; go_must (refine HSw.out.mono ?_; rintro e w7 ⟨rfl, S', s1, s2, s3, s4⟩; have HSd : Hid (TG w7 tb S' ∧ SwS S S' was now ∧ Turn (fun i => W tb S i) w6 w7 ∧ ∀ i, W tb S' i → W tb S i ∨ w6.heap.size ≤ i) := ⟨s1, s2, s3, s4⟩; obtain ⟨z0, z1, z2, z3, z4⟩ := HE.out w7 (HM.out.eff s3 HE6.out (by decide) (by decide) (by decide)); have HCr : Hid (∀ o, (w7.alloc o).ownsRow 0 71 3 (.slice ca i cc) i (flat (enCh tb) CL)) := (fun o => HM.out.crow7 s3 o); have HCa : Hid (∀ j u, (enCh tb (was, now))[j]? = some u → (w7.alloc (.cells #[.pointer (some ⟨tb, 0, none⟩), .slice oa on oc, .slice na nn nc] 71)).cell? ⟨w7.heap.size, j, none⟩ = some u) := (by have := ch_at w7 tb (was, now) 71; dsimp only at this; rw [HO.out.1, HO.out.2] at this; exact this); clear s1 s2 s3 s4))
          | (at_builtin; go_must (refine wpList_append_one rfl _ _ 62 rfl 71 (.agg #[.pointer none, .slice none 0 0, .slice none 0 0]) 3 56 Tryz.underlying62 infoChange rfl (by decide) (by decide) (enCh tb) (enCh_len tb) CL (was, now) (oneCh tb _) ca i cc rfl (HCr.out _) (by omega) w7.heap.size rfl HCa.out ?_; intro A2 m2 w9 K1 K2 K3)))
        go_roundw
        case rel => exact ⟨i + 1, A', m', A2, m2, by omega, by go_num, rfl, rfl, S', _, _, _, HM.out.next HCw.out HSd.out.1 HSd.out.2.1 HSd.out.2.2.1 HSd.out.2.2.2 (HPn.out _ HSd.out.2.1) _ K1.out K2.out K3.out⟩
        case measure => simp [intOf]; omega
      · have HUn : Hid (Calls Tryz.prog 18 #[.slice ca i cc] w6 (UndoR Fin w6 tb S)) := undo_any CL.reverse Fin HM.out.gone.tab (HBad.out hcode) (fun c hc => HM.out.ch c (List.mem_reverse.1 hc)) (by rw [List.length_reverse, List.reverse_reverse, HM.out.clen]; exact HM.out.crow) (by rw [List.length_reverse, HM.out.clen]; omega)
        unfold UndoR at HUn
        clear HTc HBad HT
        go_wp2_with (go_at_call 18; go_must (refine HUn.out.mono ?_; rintro e w7 ⟨rfl, S', s1, s2⟩; have HSd : Hid (Gone w6 tb S w7 S' ∧ Fin S') := ⟨s1, s2⟩; clear s1 s2))
        refine bodyPost_ret (by first | rfl | (simp [results, Tryz.results7, go_sem]; done) | (simp [results, Tryz.results7, go_sem]; rfl)) rfl ?_
        exact ⟨A', i + 1, m', false, rfl, Or.inr ⟨rfl, S', HM.out.gone.trans HSd.out.1, HM.out.dat.gone HSd.out.1, HSd.out.2⟩⟩
    · obtain rfl : i = N := by omega
      have hlI : ¬ (i : Int) < (i : Int) := by omega
      go_wp2_with fail
      refine bodyPost_ret (by first | rfl | (simp [results, Tryz.results7, go_sem]; done) | (simp [results, Tryz.results7, go_sem]; rfl)) rfl ?_
      obtain ⟨S, CL, L, R, hG⟩ := HI.out
      exact ⟨ra, i, rc, true, rfl, Or.inl ⟨rfl, S, CL, L, R, hG.gone, hG.dat, hG.p, hG.res⟩⟩

end
end Go.Proofs.YtfddmibaojfalaaGreat
