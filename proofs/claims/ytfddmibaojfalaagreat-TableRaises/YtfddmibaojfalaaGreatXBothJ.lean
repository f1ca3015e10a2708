import Derived.Test.YtfddmibaojfalaaGreatXTwo
import Derived.Test.YtfddmibaojfalaaGreatXOneJ
import Derived.Laws.AppendOwnNone
/- Two data of one table each, side by side. -/
namespace Go.Proofs.YtfddmibaojfalaaGreat
open Go.RowKit Go.Maps

structure Both (w : World) (da ma ta db mb tb : Nat) (Sa Sb : TS) : Prop where
  a : DG w da ma ta Sa
  b : DG w db mb tb Sb
  apart : ∀ i, W ta Sa i → ¬ W tb Sb i
section
variable {w u A : World} {da ma ta db mb tb : Nat} {Sa Sb S' : TS}
theorem DG.lts {d m t : Nat} {S : TS} (h : DG w d m t S) : d < w.heap.size ∧ m < w.heap.size := by
  obtain ⟨c, hc⟩ := h.top
  obtain ⟨es, clock, hb, _⟩ := h.map
  exact ⟨lt_of hc, lt_of hb⟩
theorem Both.swapS (h : Both w da ma ta db mb tb Sa Sb) : Both w db mb tb da ma ta Sb Sa := ⟨h.b, h.a, fun i h1 h2 => h.apart i h2 h1⟩
theorem Both.left (h : Both w da ma ta db mb tb Sa Sb) (g : Gone w ta Sa A S') (hD : DG A da ma ta S') : Both A da ma ta db mb tb S' Sb := by
  refine ⟨hD, h.b.kept g.turn (fun i _ q => h.a.tab.wty q) (fun i hb ha => h.apart i ha hb), fun i hi hb => ?_⟩
  rcases g.new i hi with q | q
  · exact h.apart i q hb
  · have := h.b.tab.wlt hb
    omega
theorem Both.right (h : Both w da ma ta db mb tb Sa Sb) (g : Gone w tb Sb A S') (hD : DG A db mb tb S') : Both A da ma ta db mb tb Sa S' := (h.swapS.left g hD).swapS
theorem Both.below (h : Both w da ma ta db mb tb Sa Sb) (hu : Below w.heap.size w u) : Both u da ma ta db mb tb Sa Sb := ⟨h.a.below hu, h.b.below hu, h.apart⟩
/-- blocks of operations are turned -/
theorem Both.op (h : Both w da ma ta db mb tb Sa Sb) {Q : Nat → Prop} (t : Turn Q w u) (hQ : ∀ i, Q i → ∃ c z, w.heap[i]? = some (.cells c 39 z)) : Both u da ma ta db mb tb Sa Sb := by
  have hN : OnlyB (fun t => t = 39) w Q := fun i q c t z e => by
    obtain ⟨c', z', e'⟩ := hQ i q
    rw [e] at e'
    cases e'
    rfl
  have nd : ∀ {d m t : Nat} {S : TS}, DG w d m t S → ¬ Q d ∧ ¬ Q m := fun hD => by
    obtain ⟨c, hc⟩ := hD.top
    obtain ⟨es, clock, hb, _⟩ := hD.map
    refine ⟨hN.not hc (by decide), fun q => ?_⟩
    obtain ⟨c', z', e'⟩ := hQ _ q
    rw [hb] at e'
    cases e'
  exact ⟨h.a.keptB free_op t hN (nd h.a).1 (nd h.a).2, h.b.keptB free_op t hN (nd h.b).1 (nd h.b).2, h.apart⟩
end

/-! ### the law's operations -/
abbrev opAdd (kv : Option Addr × Nat × Nat) (b : Int) : OpR := ⟨7, ⟨#[116]⟩, kv, (none, 0, 0), (none, 0, 0), ⟨#[]⟩, 1, b, 0⟩
theorem sum_rev (l : List Int) : l.reverse.sum = l.sum := by
  induction l with
  | nil => rfl
  | cons a l ih => rw [List.reverse_cons, List.sum_append, ih]; simp; omega
theorem sumTo_all (n : Int) (bs : List Int) : sumTo n bs bs.length = n + bs.sum := by unfold sumTo; rw [List.take_length]
theorem sumTo_rev (n : Int) (bs : List Int) : sumTo n bs.reverse bs.length = sumTo n bs bs.length := by
  rw [sumTo_all, ← List.length_reverse, sumTo_all, sum_rev]
/-- raised by all of them, and then less again from the last one on -/
theorem sumTo_back (n : Int) (bs : List Int) (j : Nat) (hj : j ≤ bs.length) : sumTo (sumTo n bs bs.length) (bs.reverse.map (fun b => -b)) j = sumTo n bs (bs.length - j) := by
  induction j with
  | zero => unfold sumTo; simp
  | succ j ih =>
    have ih := ih (by omega)
    have hlt : bs.length - (j + 1) < bs.length := by omega
    have e : (bs.reverse.map (fun b => -b))[j]? = some (-(bs[bs.length - (j + 1)])) := by
      rw [List.getElem?_map, List.getElem?_reverse (by omega)]
      rw [show bs.length - 1 - j = bs.length - (j + 1) by omega, List.getElem?_eq_getElem hlt]
      rfl
    rw [sumTo_succ _ e, ih]
    have e2 : bs[bs.length - (j + 1)]? = some bs[bs.length - (j + 1)] := List.getElem?_eq_getElem hlt
    have := sumTo_succ n e2
    rw [show bs.length - (j + 1) + 1 = bs.length - j by omega] at this
    omega

end Go.Proofs.YtfddmibaojfalaaGreat

/- The law's batches: the first row; sums. -/
namespace Go.Proofs.YtfddmibaojfalaaGreat
open Go.RowKit Go.Maps

abbrev rowO2 (n : Int) : Obj := .cells #[.int .i64 2, .int .i64 7, .complex .f64 0 0, .string ⟨#[]⟩, .int .i64 2, .int .i64 n, .complex .f64 0 0, .string ⟨#[]⟩] 36
abbrev putO2 (pr : Nat) : Obj := .cells #[.int .i64 2, .string ⟨#[116]⟩, .slice none 0 0, .slice none 0 0, .slice (some ⟨pr, 0, none⟩) 2 2, .string ⟨#[]⟩, .int .i64 0, .int .i64 0, .int .i64 0] 39
abbrev opPut2 (pr : Nat) : OpR := ⟨2, ⟨#[116]⟩, (none, 0, 0), (none, 0, 0), (some ⟨pr, 0, none⟩, 2, 2), ⟨#[]⟩, 0, 0, 0⟩
section
variable {u : World} {d m t : Nat} {S : TS}
theorem put_call (h : DG u d m t S) (hN : Nul S) (n : Int) {po pr : Nat} (hpo : u.heap[po]? = some (putO2 pr)) (hpr : u.heap[pr]? = some (rowO2 n)) :
    Calls Tryz.prog 7 #[.pointer (some ⟨d, 0, none⟩), .slice (some ⟨po, 0, none⟩) 1 1] u fun e A => ∃ ra rn rc, e = .returned (.tuple #[.slice ra rn rc, .bool true, .int .i64 0]) ∧ Hid (∃ S', Gone u t S A S' ∧ DG A d m t S' ∧ ∃ r, One S' r n) := by
  have ho : SliceAt u (.slice (some ⟨po, 0, none⟩) 1 1) 9 enO [opPut2 pr] := sliceAt_flat (en := enO) (n := 9) (L := [opPut2 pr]) (cap := 1) (fun _ => rfl) hpo rfl (by simp) (by decide)
  have hrow : SliceAt u (slV (opPut2 pr).row) 4 enV (row2 n) := sliceAt_flat (en := enV) (n := 4) (L := row2 n) (cap := 2) (fun _ => rfl) hpr rfl (by simp [row2]) (by decide)
  refine (apply_any (P := PutP n) (Fin := fun _ => False) h _ [opPut2 pr] ho (fun b hb q => ?_) (by simp) hN (fun j o hj => ?_)).mono ?_
  · have hb' : po = b := by simpa [Value.ownBlock] using hb
    rw [← hb'] at q
    exact Ty.not hpo (by decide) (by decide) (by decide) (h.tab.wty q)
  · obtain ⟨hj', e⟩ := List.getElem?_eq_some_iff.1 hj
    have hj0 : j = 0 := by simp at hj'; omega
    subst hj0
    have e' : opPut2 pr = o := by simpa using e
    subst e'
    refine put_step n _ rfl rfl hrow (fun b hb q => ?_)
    have hb' : pr = b := by simpa [Value.ownBlock] using hb
    rw [← hb'] at q
    exact Ty.not hpr (by decide) (by decide) (by decide) (h.tab.wty q)
  · rintro e A ⟨ra, rn, rc, done, rfl, ⟨rfl, S', CL, L, R, g1, g2, g3, _⟩ | ⟨_, S', _, _, g3⟩⟩
    · exact ⟨ra, rn, rc, rfl, S', g1, g2, g3⟩
    · exact g3.elim
/-- a batch of sums -/
theorem add_call (h : DG u d m t S) {r : Rw} {x : Int} (h1 : One S r x) (hx : In64 x) (bs : List Int) (hb64 : ∀ b ∈ bs, In64 b) (few : bs.length ≤ 4096) (kv : Option Addr × Nat × Nat) (vops : Value) (ho : SliceAt u vops 9 enO (bs.map (opAdd kv))) (hoW : ∀ i, vops.ownBlock = some i → ∃ c z, u.heap[i]? = some (.cells c 39 z))
    (hkey : SliceAt u (slV kv) 4 enV key7) (hkW : ∀ i, (slV kv).ownBlock = some i → ∃ c z, u.heap[i]? = some (.cells c 36 z)) (Fin : TS → Prop) (hF : (∀ S, Fin S) ∨ ∀ j, j ≤ bs.length → In64 (sumTo x bs j)) :
    Calls Tryz.prog 7 #[.pointer (some ⟨d, 0, none⟩), vops] u fun e A => ∃ ra rn rc done, e = .returned (.tuple #[.slice ra rn rc, .bool done, .int .i64 0]) ∧ Hid ((done = true ∧ ∃ S', Gone u t S A S' ∧ DG A d m t S' ∧ (∃ r', One S' r' (sumTo x bs bs.length)) ∧ ∀ i, i ≤ bs.length → In64 (sumTo x bs i)) ∨ (done = false ∧ ∃ S', Gone u t S A S' ∧ DG A d m t S' ∧ Fin S')) := by
  have hl : (bs.map (opAdd kv)).length = bs.length := List.length_map ..
  refine (apply_any (P := AddP x bs) (Fin := Fin) h vops (bs.map (opAdd kv)) ho (fun b hb q => ?_) (by rw [hl]; exact few) ⟨r, ?_, fun i hi => ?_, trivial⟩ (fun j o hj => ?_)).mono ?_
  · obtain ⟨c, z, e⟩ := hoW b hb
    exact Ty.not e (by decide) (by decide) (by decide) (h.tab.wty q)
  · unfold sumTo; simpa using h1
  · have : i = 0 := by omega
    subst this
    unfold sumTo; simpa using hx
  · rw [List.getElem?_map] at hj
    obtain ⟨b, hb, rfl⟩ := Option.map_eq_some_iff.1 hj
    have hjl := (List.getElem?_eq_some_iff.1 hb).1
    refine add_step x bs j b hb (hF.imp id fun q => q (j + 1) hjl) (hb64 b (List.mem_of_getElem? hb)) _ rfl rfl rfl rfl hkey (fun i hi q => ?_)
    obtain ⟨c, z, e⟩ := hkW i hi
    exact Ty.not e (by decide) (by decide) (by decide) (h.tab.wty q)
  · rintro e A ⟨ra, rn, rc, done, rfl, ⟨rfl, S', CL, L, R, g1, g2, ⟨r', q1, q2, _⟩, _⟩ | ⟨rfl, S', g1, g2, g3⟩⟩
    · rw [hl] at q1 q2
      exact ⟨ra, rn, rc, true, rfl, Or.inl ⟨rfl, S', g1, g2, ⟨r', q1⟩, q2⟩⟩
    · exact ⟨ra, rn, rc, false, rfl, Or.inr ⟨rfl, S', g1, g2, g3⟩⟩
end

end Go.Proofs.YtfddmibaojfalaaGreat

/- What the law of sums has at hand: both data, its key, its rows of operations. -/
namespace Go.Proofs.YtfddmibaojfalaaGreat
open Go.RowKit Go.Maps

structure LS (w : World) (pk da ma ta db mb tb : Nat) (A : World) (Sa Sb : TS) : Prop where
  both : Both A da ma ta db mb tb Sa Sb
  below : Below w.heap.size w A
  wa : ∀ i, W ta Sa i → w.heap.size ≤ i
  wb : ∀ i, W tb Sb i → w.heap.size ≤ i
  key : A.heap[pk]? = some (vobj 2 7 ⟨#[]⟩)
/-- a row of sums of the law's own -/
structure OpsR (w A : World) (pk : Nat) (v : Value) (bs : List Int) : Prop where
  row : A.ownsRow 0 39 9 v bs.length (flat enO (bs.map (opAdd (some ⟨pk, 0, none⟩, 1, 1))))
  new : ∀ i, v.ownBlock = some i → w.heap.size ≤ i
section
variable {w A B : World} {pk da ma ta db mb tb : Nat} {Sa Sb S' : TS} {v : Value} {bs : List Int}
theorem LS.swapS (h : LS w pk da ma ta db mb tb A Sa Sb) : LS w pk db mb tb da ma ta A Sb Sa := ⟨h.both.swapS, h.below, h.wb, h.wa, h.key⟩
theorem LS.left (h : LS w pk da ma ta db mb tb A Sa Sb) (g : Gone A ta Sa B S') (hD : DG B da ma ta S') : LS w pk da ma ta db mb tb B S' Sb := by
  refine ⟨h.both.left g hD, ((Turn.ofBelow (fun i => w.heap.size ≤ i) h.below).trans (g.turn.mono fun i hi => h.wa i hi)).toBelow (Nat.le_refl _), fun i hi => ?_, h.wb, (g.turn.block pk (lt_of h.key) (fun q => Ty.not h.key (by decide) (by decide) (by decide) (h.both.a.tab.wty q))).trans h.key⟩
  rcases g.new i hi with q | q
  · exact h.wa i q
  · exact Nat.le_trans h.below.size q
theorem LS.right (h : LS w pk da ma ta db mb tb A Sa Sb) (g : Gone A tb Sb B S') (hD : DG B db mb tb S') : LS w pk da ma ta db mb tb B Sa S' := (h.swapS.left g hD).swapS
theorem LS.up (h : LS w pk da ma ta db mb tb A Sa Sb) (hu : Below A.heap.size A B) : LS w pk da ma ta db mb tb B Sa Sb := ⟨h.both.below hu, h.below.trans (hu.mono h.below.size), h.wa, h.wb, (hu.block pk (lt_of h.key)).trans h.key⟩
theorem LS.op (h : LS w pk da ma ta db mb tb A Sa Sb) {Q : Nat → Prop} (t : Turn Q A B) (hQ : ∀ i, Q i → ∃ c z, A.heap[i]? = some (.cells c 39 z)) (hw : ∀ i, Q i → w.heap.size ≤ i) : LS w pk da ma ta db mb tb B Sa Sb := by
  refine ⟨h.both.op t hQ, ((Turn.ofBelow (fun i => w.heap.size ≤ i) h.below).trans (t.mono hw)).toBelow (Nat.le_refl _), h.wa, h.wb, (t.block pk (lt_of h.key) (fun q => ?_)).trans h.key⟩
  obtain ⟨c, z, e⟩ := hQ pk q
  exact type_ne h.key e (by decide) rfl
theorem LS.keyAt (h : LS w pk da ma ta db mb tb A Sa Sb) : SliceAt A (slV (some ⟨pk, 0, none⟩, 1, 1)) 4 enV key7 := sliceAt_flat (en := enV) (n := 4) (L := key7) (cap := 1) (fun _ => rfl) h.key rfl (by decide) (by decide)
theorem LS.keyTy (h : LS w pk da ma ta db mb tb A Sa Sb) : ∀ i, (slV (some ⟨pk, 0, none⟩, 1, 1)).ownBlock = some i → ∃ c z, A.heap[i]? = some (.cells c 36 z) := fun i hi => by
  have hi' : pk = i := by simpa [Value.ownBlock] using hi
  rw [← hi']
  exact ⟨_, _, h.key⟩
theorem OpsR.slice (h : OpsR w A pk v bs) : SliceAt A v 9 enO (bs.map (opAdd (some ⟨pk, 0, none⟩, 1, 1))) := own_slice (en := enO) (fun _ => rfl) (by rw [List.length_map]; exact h.row)
theorem OpsR.ty (h : OpsR w A pk v bs) : ∀ i, v.ownBlock = some i → ∃ c z, A.heap[i]? = some (.cells c 39 z) := fun i hi => by
  obtain ⟨cur, hc, _⟩ := ownsRow_own h.row hi
  exact ⟨_, _, hc⟩
theorem OpsR.keep (h : OpsR w A pk v bs) (k : ∀ i, v.ownBlock = some i → B.heap[i]? = A.heap[i]?) : OpsR w B pk v bs := ⟨ownsRow_block h.row k, h.new⟩
theorem OpsR.up (h : OpsR w A pk v bs) (hu : Below A.heap.size A B) : OpsR w B pk v bs := h.keep fun i hi => by
  obtain ⟨c, z, e⟩ := h.ty i hi
  exact hu.block i (lt_of e)
theorem OpsR.gone {t : Nat} {S S2 : TS} (h : OpsR w A pk v bs) (g : Gone A t S B S2) (hT : TG A t S) : OpsR w B pk v bs := h.keep fun i hi => by
  obtain ⟨c, z, e⟩ := h.ty i hi
  exact g.turn.block i (lt_of e) (fun q => Ty.not e (by decide) (by decide) (by decide) (hT.wty q))
theorem OpsR.nil (w A : World) (pk : Nat) : OpsR w A pk (.slice none 0 0) [] := ⟨⟨rfl, Or.inl ⟨rfl, rfl⟩⟩, fun i hi => by cases hi⟩
/-- both batches of sums -/
theorem LS.addA (h : LS w pk da ma ta db mb tb A Sa Sb) {r : Rw} {x : Int} (h1 : One Sa r x) (hx : In64 x) (hb64 : ∀ b ∈ bs, In64 b) (few : bs.length ≤ 4096) (ho : OpsR w A pk v bs) (Fin : TS → Prop) (hF : (∀ S, Fin S) ∨ ∀ j, j ≤ bs.length → In64 (sumTo x bs j)) :
    Calls Tryz.prog 7 #[.pointer (some ⟨da, 0, none⟩), v] A fun e B => ∃ ra rn rc done, e = .returned (.tuple #[.slice ra rn rc, .bool done, .int .i64 0]) ∧ Hid (∃ S', Gone A ta Sa B S' ∧ LS w pk da ma ta db mb tb B S' Sb ∧ ((done = true ∧ (∃ r', One S' r' (sumTo x bs bs.length)) ∧ ∀ i, i ≤ bs.length → In64 (sumTo x bs i)) ∨ (done = false ∧ Fin S'))) := by
  refine (add_call h.both.a h1 hx bs hb64 few (some ⟨pk, 0, none⟩, 1, 1) v ho.slice ho.ty h.keyAt h.keyTy Fin hF).mono ?_
  rintro e B ⟨ra, rn, rc, done, rfl, H⟩
  refine ⟨ra, rn, rc, done, rfl, ?_⟩
  rcases H.out with ⟨q1, S', g1, g2, g3, g4⟩ | ⟨q1, S', g1, g2, g3⟩
  · exact ⟨S', g1, h.left g1 g2, Or.inl ⟨q1, g3, g4⟩⟩
  · exact ⟨S', g1, h.left g1 g2, Or.inr ⟨q1, g3⟩⟩
end

end Go.Proofs.YtfddmibaojfalaaGreat

/- Rows of operations: append of a row of one's own to another one. -/
namespace Go.Proofs.YtfddmibaojfalaaGreat
open Go.RowKit Go.Maps

theorem append_list {w : World} {ops : Array Oper} {rest : List Oper} {o : Oper} {a : Act} {Q : Exit → Act → World → Prop} (hgd : o.guard = none) (s x : Operand) (t : TypeId)
    (ho : o.op = .call { callee := .builtin .append, args := #[s, x], argTypes := #[t, t] })
    (e : TypeId) (z : Value) (size bytes : Nat) (ht : Tryz.prog.underlying t = some (.slice e)) (hinfo : (Tryz.prog.info? e).map (fun i => (i.zero, i.size, i.bytes)) = some (some z, size, bytes)) (hzs : z.cells.size = size) (hsz : 0 < size) (hby : bytes ≤ 1024)
    {α : Type} (en : α → List Value) (hm : ∀ y, (en y).length = size) (L0 L : List α) (hone : ∀ y ∈ L, ∀ u ∈ en y, u.oneCell' = true)
    (v0 vx : Value) (hs : a.eval s = v0) (hown : w.ownsRow 0 e size v0 L0.length (flat en L0)) (hx : a.eval x = vx) (hown2 : w.ownsRow 0 e size vx L.length (flat en L)) (few : L0.length + L.length ≤ 5000)
    (h : ∀ A' m' w', Hid (w'.ownsRow 0 e size (.slice A' (L0.length + L.length) m') (L0.length + L.length) (flat en (L0 ++ L))) → Hid (Turn (fun i => v0.ownBlock = some i) w w') → Hid (∀ i, (Value.slice A' (L0.length + L.length) m').ownBlock = some i → v0.ownBlock = some i ∨ w.heap.size ≤ i) → wpList Tryz.prog ops Q rest (a.put o.dst (.slice A' (L0.length + L.length) m')) w') :
    wpList Tryz.prog ops Q (o :: rest) a w := by
  obtain ⟨i, hi, hz, h1, h2⟩ := info_parts hinfo
  obtain ⟨hl, ⟨rfl, q2⟩ | ⟨g, cap, cur, rfl, _, e3, e4, e5, e6, e7⟩⟩ := hown2
  · have hL : L = [] := List.length_eq_zero_iff.1 q2
    subst hL
    obtain ⟨A', m', rfl⟩ := own_shape hown
    refine wpList_append_own_none hgd s x t ho 0 e i size ht hi _ L0.length (flat en L0) hs hown hx ?_
    exact h A' m' w (by show World.ownsRow _ _ _ _ _ _ _; rw [List.append_nil]; exact hown) (Turn.refl _ _) (fun i hi => Or.inl hi)
  · have hb : (L0.length + L.length) * bytes ≤ 5000 * 1024 := Nat.mul_le_mul few hby
    refine wpList_append_own_at w hgd s x t ho 0 e i z size bytes ht hi hz h1 h2 hzs hsz v0 L0.length (flat en L0) hs hown ⟨g, 0, none⟩ L.length cap (flat en L) hx (by rw [flat_length hm, Nat.mul_comm]) (fun j u hu => ?_) (fun u hu => ?_) (by unfold maxLen; omega) (by omega) (Nat.zero_le _) (fun v' w' k1 k2 _ k4 => ?_)
    · rw [Addr.add_lit, Nat.zero_add, cell_of e3, ← Array.getElem?_toList]
      rw [← e7, List.getElem?_take] at hu
      split at hu
      · exact hu
      · cases hu
    · obtain ⟨y, hy1, hy⟩ := List.mem_flatMap.1 hu
      exact hone y hy1 u hy
    · obtain ⟨A', m', rfl⟩ := own_shape k1
      refine h A' m' w' (by show World.ownsRow _ _ _ _ _ _ _; rw [flat_append]; exact k1) (Turn.ofGrown k2 (fun k hk => hk)) (fun i hi => ?_)
      rcases k4 with k | k
      · exact Or.inl (k ▸ hi)
      · rw [k] at hi
        right
        injection hi with hi
        omega
theorem infoOp : (Tryz.prog.info? 39).map (fun i => (i.zero, i.size, i.bytes)) = some (some (.agg #[.int .i64 0, .string ⟨#[]⟩, .slice none 0 0, .slice none 0 0, .slice none 0 0, .string ⟨#[]⟩, .int .i64 0, .int .i64 0, .int .i64 0]), 9, 136) := by kernel_rfl
theorem oneO (o : OpR) : ∀ u ∈ enO o, u.oneCell' = true := fun u hu => by
  simp only [enO, List.mem_cons, List.not_mem_nil, or_false] at hu
  rcases hu with rfl | rfl | rfl | rfl | rfl | rfl | rfl | rfl | rfl <;> rfl

end Go.Proofs.YtfddmibaojfalaaGreat
