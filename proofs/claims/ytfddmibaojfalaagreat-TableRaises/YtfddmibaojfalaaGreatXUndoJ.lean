import Derived.Test.YtfddmibaojfalaaGreatXRange
import Derived.RangeFuncBox
import Derived.OwnWalkIn
import Derived.TacticsInMore
import Derived.LoopNIn
import Derived.LoopIn
/- The program's undo: a range over slices.Backward. -/
namespace Go.Proofs.YtfddmibaojfalaaGreat
open Go.RowKit Go.Shelf

attribute [local go_sem] Oper.semAt_some

/-- a change: the row that went, the row that came -/
abbrev Ch := Option Rw × Option Rw
def enCh (tb : Nat) (c : Ch) : List Value := [.pointer (some ⟨tb, 0, none⟩), optV c.1, optV c.2]
theorem enCh_len (tb : Nat) (c : Ch) : (enCh tb c).length = 3 := rfl
abbrev chV (tb : Nat) (c : Ch) : Value := .agg #[.pointer (some ⟨tb, 0, none⟩), optV c.1, optV c.2]
abbrev encC (tb : Nat) (x : Nat × Ch) : Array Value := #[.int .i64 (x.1 : Int), chV tb x.2]
/-- what comes next: s, the changes that are still to be undone, in that order -/
def NextC (s : List Ch) (x : Nat × Ch) (s' : List Ch) : Prop := s = x.2 :: s' ∧ x.1 = s'.length
/-- what the iterator reads stays -/
def KpC (A B : World) : Prop := ∀ (i : Nat) (c : Array Value) (t : TypeId) (z : Nat × Nat), A.heap[i]? = some (.cells c t z) → (t = 71 ∨ t = 62) → B.heap[i]? = some (.cells c t z)
theorem KpC.refl (A : World) : KpC A A := fun _ _ _ _ h _ => h
theorem KpC.trans {A B C : World} (h : KpC A B) (k : KpC B C) : KpC A C := fun i c t z e q => k i c t z (h i c t z e q) q
theorem KpC.put (A : World) (l : Nat) (o : Obj) (h : NoCells A l) : KpC A (A.putObj l o) := fun i c t z e _ => (World.putObj_heap_other (fun q => h c t z (by rw [← q]; exact e))).trans e
theorem KpC.ofBelow {A B : World} (h : Below A.heap.size A B) : KpC A B := fun i _ _ _ e _ => (h.block i (lt_of e)).trans e

section
variable {w u : World} {tb : Nat} {S : TS} {Q : Nat → Prop}
theorem row_keptN {e : TypeId} {size n : Nat} {v : Value} {xs : List Value} (hr : w.ownsRow 0 e size v n xs) (t : Turn Q w u) (hN : ∀ i, Q i → NoCells w i) : u.ownsRow 0 e size v n xs := ownsRow_block hr fun g hg => by
  obtain ⟨cur, hc, _⟩ := ownsRow_own hr hg
  exact t.block g (lt_of hc) (fun q => hN g q _ _ _ hc)
theorem RowG.keptN {r : Rw} (h : RowG w r) (t : Turn Q w u) (hN : ∀ i, Q i → NoCells w i) : RowG u r := by
  obtain ⟨C, hC⟩ := h.type
  exact h.heap (t.block r.g (lt_of hC) (fun q => hN _ q _ _ _ hC))
theorem LO.keptN {lb lo : Nat} {Tl : TypeId} {cur : Array Value} {cv rv : Value} {cols : List Nat} {R : List Rw} (h : LO w lb lo Tl cur cv rv cols R) (t : Turn Q w u) (hN : ∀ i, Q i → NoCells w i) : LO u lb lo Tl cur cv rv cols R :=
  h.kept t (fun q => hN _ q _ _ _ h.st) (fun b hb q => by obtain ⟨C, hC⟩ := h.rs.type hb; exact hN _ q _ _ _ hC) (fun b hb q => by obtain ⟨C, z, hC⟩ := h.cs.2 b hb; exact hN _ q _ _ _ hC) (fun r hr q => by obtain ⟨C, hC⟩ := (h.ro r hr).1.type; exact hN _ q _ _ _ hC)
/-- what turns no cells leaves a table as it is -/
theorem TG.keptN (h : TG w tb S) (t : Turn Q w u) (hN : ∀ i, Q i → NoCells w i) : TG u tb S := by
  obtain ⟨X, hX⟩ := h.tab
  refine ⟨⟨X, row_keptN hX.co t hN, row_keptN hX.ix t hN, hX.eq, fun x hx => row_keptN (hX.nums x hx) t hN⟩, h.main.keptN t hN, h.none_, fun x hx => ?_⟩
  have g := h.some_ x hx
  obtain ⟨cur, hl⟩ := g.list
  have hl' := hl.keptN t hN
  obtain ⟨c, z, hc⟩ := g.ib
  have hcu := (t.block _ (lt_of hc) (fun q => hN _ q _ _ _ hc)).trans hc
  have k : ∀ {o : Nat} {v : Value}, w.cell? ⟨x.ib, o, none⟩ = some v → u.cell? ⟨x.ib, o, none⟩ = some v := fun hh => by
    rw [cell_of hc] at hh
    rw [cell_of hcu]
    exact hh
  have ic : ColsO u x.icv x.ics := g.icv.heap t.size fun b hb => by
    obtain ⟨C, z', hC⟩ := g.icv.2 b hb
    exact t.block b (lt_of hC) (fun q => hN _ q _ _ _ hC)
  exact ⟨⟨g.at_.iv, g.at_.ic, k g.at_.i0, k g.at_.i1, k g.at_.i2, ic.1, g.at_.xv, g.at_.xc, hl'.at⟩, ⟨cur, hl'⟩, ⟨c, z, hcu⟩, ic, g.apart, g.one⟩
end

/-- the slice of changes, and the box that holds it -/
structure BkG (A : World) (pb : Nat) (sv : Value) (tb : Nat) (CL : List Ch) : Prop where
  box : A.heap[pb]? = some (.cells #[sv] 62 (0, 0))
  row : A.ownsRow 0 71 3 sv CL.length (flat (enCh tb) CL)
theorem BkG.kept {A B : World} {pb tb : Nat} {sv : Value} {CL : List Ch} (h : BkG A pb sv tb CL) (k : KpC A B) : BkG B pb sv tb CL :=
  ⟨k _ _ _ _ h.box (Or.inr rfl), ownsRow_block h.row fun g hg => by
    obtain ⟨cur, hc, _⟩ := ownsRow_own h.row hg
    rw [hc]
    exact k _ _ _ _ hc (Or.inl rfl)⟩
theorem BkG.at {A : World} {pb tb : Nat} {sv : Value} {CL : List Ch} (h : BkG A pb sv tb CL) {k : Nat} {c : Ch} (hk : CL[k]? = some c) : ∃ b cap, sv = .slice (some ⟨b, 0, none⟩) CL.length cap ∧ b < A.heap.size ∧ A.cell? ⟨b, k * 3, none⟩ = some (.pointer (some ⟨tb, 0, none⟩)) ∧ A.cell? ⟨b, k * 3 + 1, none⟩ = some (optV c.1) ∧ A.cell? ⟨b, k * 3 + 2, none⟩ = some (optV c.2) := by
  obtain ⟨hk', hc⟩ := List.getElem?_eq_some_iff.1 hk
  obtain ⟨hl, q | ⟨g, cap, cur, e1, _, e3, e4, e5, e6, e7⟩⟩ := h.row
  · have := q.2
    omega
  · subst e1
    have key : ∀ f, f < 3 → cur[k * 3 + f]? = (enCh tb c)[f]? := fun f hf => by
      have q := flat_get (en := enCh tb) (m := 3) (enCh_len tb) CL k hk' f hf
      rw [← e7, hc] at q
      rw [Nat.mul_comm k 3]
      rw [List.getElem?_take] at q
      split at q
      · rw [Array.getElem?_toList] at q; exact q
      · rename_i hq
        exfalso
        apply hq
        have hll := flat_length (en := enCh tb) (m := 3) (enCh_len tb) CL
        omega
    refine ⟨g, cap, rfl, lt_of e3, ?_, ?_, ?_⟩
    · rw [cell_of e3]; exact key 0 (by omega)
    · rw [cell_of e3]; exact key 1 (by omega)
    · rw [cell_of e3]; exact key 2 (by omega)

set_option maxRecDepth 100000 in
set_option maxHeartbeats 2000000 in
/-- slices.Backward's closure: all changes, the last one first -/
theorem back1_any (n l pb tb : Nat) (sv : Value) (s0 : List Ch) (few : s0.length ≤ 5000) (J : List Ch → World → Prop)
    (hY : ∀ s x s' A, J s A → NextC s x s' → YieldAt Fence.wide (n - 1) Tryz.prog l (encC tb x) A (fun e B => e = .returned (.bool true) ∧ J s' B ∧ KpC A B))
    (A : World) (hG : BkG A pb sv tb s0.reverse) (h0 : J s0 A) :
    CallsIn Fence.wide n Tryz.prog 44 #[.func (.yield l) #[] #[], .pointer (some ⟨pb, 0, none⟩)] A (fun e B => (∃ v, e = .returned v) ∧ ∃ s, s = [] ∧ J s B) := by
  have hsv : ∃ a c, sv = .slice a s0.length c ∧ s0.length ≤ c := by
    obtain ⟨hl, ⟨q1, q2⟩ | ⟨g, cap, cur, e1, _, e3, e4, _⟩⟩ := hG.row
    · rw [List.length_reverse] at q2
      exact ⟨none, 0, by rw [q2]; exact q1, by omega⟩
    · rw [List.length_reverse] at e1 e4
      exact ⟨_, cap, e1, e4⟩
  obtain ⟨a, c, rfl, hc⟩ := hsv
  have HG : Hid (∀ B, KpC A B → B.cell? ⟨pb, 0, none⟩ = some (.slice a s0.length c) ∧ pb < B.heap.size) := fun B k => by
    have := (hG.kept k).box
    exact ⟨by rw [cell_of this]; rfl, lt_of this⟩
  have HA : Hid (∀ B, KpC A B → ∀ (k : Nat) (ch : Ch), s0.reverse[k]? = some ch → ∃ b, a = some ⟨b, 0, none⟩ ∧ b < B.heap.size ∧ B.cell? ⟨b, k * 3, none⟩ = some (.pointer (some ⟨tb, 0, none⟩)) ∧ B.cell? ⟨b, k * 3 + 1, none⟩ = some (optV ch.1) ∧ B.cell? ⟨b, k * 3 + 2, none⟩ = some (optV ch.2)) := fun B k i ch hi => by
    obtain ⟨b, cap, e1, e2, e3⟩ := (hG.kept k).at hi
    rw [List.length_reverse] at e1
    cases e1
    exact ⟨b, rfl, e2, e3⟩
  obtain ⟨N, hN⟩ : ∃ N, s0.length = N := ⟨_, rfl⟩
  have HN : Hid (s0.length = N) := hN
  have HY : Hid (∀ s x s' A, J s A → NextC s x s' → YieldAt Fence.wide (n - 1) Tryz.prog l (encC tb x) A (fun e B => e = .returned (.bool true) ∧ J s' B ∧ KpC A B)) := hY
  rw [hN] at HG few hc
  obtain ⟨p0, p1⟩ := HG.out A (KpC.refl A)
  clear hG hY hN
  refine callsIn_of_wp Tryz.func44 rfl trivial ?_ rfl
  simp only [Tryz.ntmps44, List.size_toArray, List.length_cons, List.length_nil, Nat.reduceAdd, Nat.reduceSub, Array.replicate_succ, Array.replicate_zero, List.push_toArray, List.append_toArray, List.nil_append, List.cons_append]
  gi_wp2
  gi_loopw [3] (fun v wr => ∃ k : Nat, k ≤ N ∧ v = .int .i64 ((k : Int) - 1) ∧ Hid (J (s0.drop (N - k)) wr) ∧ Hid (KpC A wr)) (fun v _ => (intOf v + 1).toNat)
  case atStart => exact ⟨N, Nat.le_refl _, by go_num, (show J _ _ by rw [Nat.sub_self]; exact h0), KpC.refl A⟩
  case round =>
    obtain ⟨k, hk, rfl, HJ, HK⟩ := hrel
    obtain ⟨r0, r1⟩ := HG.out wr HK.out
    cases k with
    | zero =>
      have h1 : ¬ (0 : Int) ≤ ((0 : Nat) : Int) - 1 := by omega
      gi_wp2
      go_end0
      have := HJ.out
      rw [Nat.sub_zero, ← HN.out, List.drop_length] at this
      exact ⟨⟨_, rfl⟩, this⟩
    | succ j =>
      have h1 : (0 : Int) ≤ ((j + 1 : Nat) : Int) - 1 := by omega
      have e1 : ((j + 1 : Nat) : Int) - 1 = (j : Int) := by omega
      rw [e1] at h1 ⊢
      obtain ⟨ch, hch⟩ : ∃ ch, s0[N - (j + 1)]? = some ch := ⟨_, List.getElem?_eq_getElem (by rw [HN.out]; omega)⟩
      have hrv : s0.reverse[j]? = some ch := by
        rw [List.getElem?_reverse (by rw [HN.out]; omega), HN.out, ← hch]
        congr 1
        omega
      have HX : Hid (NextC (s0.drop (N - (j + 1))) (j, ch) (s0.drop (N - j))) := by
        obtain ⟨q1, q2⟩ := List.getElem?_eq_some_iff.1 hch
        refine ⟨?_, ?_⟩
        · rw [List.drop_eq_getElem_cons q1, q2, show N - (j + 1) + 1 = N - j by omega]
        · show j = _
          rw [List.length_drop, HN.out]
          omega
      obtain ⟨b, rfl, rb, t0, t1, t2⟩ := HA.out wr HK.out j ch hrv
      obtain ⟨fn, tmps, assign, body, hy, hR⟩ := HY.out _ _ _ wr HJ.out HX.out
      dsimp only [encC] at hy
      have HR : Hid (RoundIn Fence.wide (n - 1) Tryz.prog l fn tmps assign body wr (fun e B => e = .returned (.bool true) ∧ J (s0.drop (N - j)) B ∧ KpC wr B)) := hR
      clear hR hch hrv
      gi_wp2
      refine ⟨(fun h => by cases h), HR.out.mono ?_⟩
      rintro e B ⟨rfl, j3, k3⟩
      gi_wp2
      go_roundw
      case rel => exact ⟨j, by omega, by go_num, j3, HK.out.trans k3⟩
      case measure => simp [intOf]

end Go.Proofs.YtfddmibaojfalaaGreat

/- The program's undo: the last change first, each one turned back. -/
namespace Go.Proofs.YtfddmibaojfalaaGreat
open Go.RowKit Go.Shelf

attribute [local go_sem] Oper.semAt_some

/-- a swap may be made whatever the world, if its rows lie there -/
def SwP (S : TS) (was now : Option Rw) : Prop := ∀ w, (∀ r, was = some r → RowG w r) → (∀ r, now = some r → RowG w r) → SwV w S was now
/-- changes that may be undone, in that order, and what that comes to -/
def UnR (Fin : TS → Prop) : List Ch → TS → Prop
  | [], S => Fin S
  | c :: l, S => SwP S c.2 c.1 ∧ ∀ S', SwS S S' c.2 c.1 → UnR Fin l S'
def ChG (A : World) (c : Ch) : Prop := (∀ r, c.1 = some r → RowG A r) ∧ (∀ r, c.2 = some r → RowG A r)
/-- a table behind some calls -/
structure Gone (w : World) (tb : Nat) (S : TS) (A : World) (S' : TS) : Prop where
  tab : TG A tb S'
  T : S'.T = S.T
  turn : Turn (fun i => W tb S i) w A
  new : ∀ i, W tb S' i → W tb S i ∨ w.heap.size ≤ i
def UndoI (Fin : TS → Prop) (w : World) (tb : Nat) (S : TS) (s : List Ch) (A : World) : Prop := ∃ S', Gone w tb S A S' ∧ UnR Fin s S' ∧ ∀ c ∈ s, ChG A c
def UndoR (Fin : TS → Prop) (w : World) (tb : Nat) (S : TS) (e : Ending) (A : World) : Prop := e = .returned (.tuple #[]) ∧ ∃ S', Gone w tb S A S' ∧ Fin S'
section
variable {w A B : World} {tb : Nat} {S S' : TS} {Fin : TS → Prop}
theorem Gone.keptN (h : Gone w tb S A S') {R : Nat → Prop} (t : Turn R A B) (hN : ∀ i, R i → w.heap.size ≤ i ∧ NoCells A i) : Gone w tb S B S' :=
  ⟨h.tab.keptN t (fun i hi => (hN i hi).2), h.T, h.turn.transNew t (fun i hi => Or.inr (hN i hi).1), h.new⟩
theorem ChG.keptN {c : Ch} (h : ChG A c) {R : Nat → Prop} (t : Turn R A B) (hN : ∀ i, R i → NoCells A i) : ChG B c := ⟨fun r hr => (h.1 r hr).keptN t hN, fun r hr => (h.2 r hr).keptN t hN⟩
theorem UndoI.keptN {s : List Ch} (h : UndoI Fin w tb S s A) {R : Nat → Prop} (t : Turn R A B) (hN : ∀ i, R i → w.heap.size ≤ i ∧ NoCells A i) : UndoI Fin w tb S s B := by
  obtain ⟨S', h1, h2, h3⟩ := h
  exact ⟨S', h1.keptN t hN, h2, fun c hc => (h3 c hc).keptN t (fun i hi => (hN i hi).2)⟩
/-- a swap more -/
theorem Gone.swap (h : Gone w tb S A S') {was now : Option Rw} {S2 : TS} (h1 : TG B tb S2) (h2 : SwS S' S2 was now) (h3 : Turn (fun i => W tb S' i) A B) (h4 : ∀ i, W tb S2 i → W tb S' i ∨ A.heap.size ≤ i) : Gone w tb S B S2 := by
  refine ⟨h1, h2.T.trans h.T, h.turn.transNew h3 h.new, fun i hi => ?_⟩
  rcases h4 i hi with q | q
  · exact h.new i q
  · exact Or.inr (Nat.le_trans h.turn.size q)
theorem ChG.kept {c : Ch} (h : ChG A c) (ht : TG A tb S') (t : Turn (fun i => W tb S' i) A B) : ChG B c :=
  ⟨fun r hr => (h.1 r hr).kept t (fun _ _ q => ht.wty q), fun r hr => (h.2 r hr).kept t (fun _ _ q => ht.wty q)⟩
end

set_option maxHeartbeats 400000 in
theorem back_any (a : Option Addr) (n c : Nat) (w : World) : Calls Tryz.prog 27 #[.slice a n c] w fun e w' => e = .returned (.func (.func 44) #[] #[.pointer (some ⟨w.heap.size, 0, none⟩)]) ∧ w' = w.alloc (.cells #[.slice a n c] 62) := by
  go_enter Tryz.func27, Tryz.ntmps27
  go_wp2
  go_ret
  exact ⟨rfl, rfl⟩

def AxC (sv : Value) (pb tb : Nat) (x : Nat × Ch) (a' : Act) (A : World) : Prop := ∃ q, a' = { tmps := #[sv, undef, undef, .pointer (some ⟨q, 0, none⟩), sv, .func (.func 44) #[] #[.pointer (some ⟨pb, 0, none⟩)], .int .i64 (x.1 : Int), chV tb x.2, undef, undef, undef, undef, undef, undef, undef], defers := [] } ∧ A.heap[q]? = some (.cells #[.pointer (some ⟨tb, 0, none⟩), optV x.2.1, optV x.2.2] 71 (0, 0))

set_option maxRecDepth 100000 in
set_option maxHeartbeats 2000000 in
theorem undo_any {w : World} {tb : Nat} {S : TS} {sv : Value} (s0 : List Ch) (Fin : TS → Prop) (h : TG w tb S) (hu : UnR Fin s0 S) (hr : ∀ c ∈ s0, ChG w c) (hrow : w.ownsRow 0 71 3 sv s0.length (flat (enCh tb) s0.reverse)) (few : s0.length ≤ 5000) :
    Calls Tryz.prog 18 #[sv] w (UndoR Fin w tb S) := by
  obtain ⟨a, n, c, rfl⟩ : ∃ a n c, sv = .slice a n c := by
    obtain ⟨_, q | ⟨g, cap, cur, e1, _⟩⟩ := hrow
    · exact ⟨none, 0, 0, q.1⟩
    · exact ⟨_, _, _, e1⟩
  have HBk : Hid (∀ w, Calls Tryz.prog 27 #[.slice a n c] w fun e w' => e = .returned (.func (.func 44) #[] #[.pointer (some ⟨w.heap.size, 0, none⟩)]) ∧ w' = w.alloc (.cells #[.slice a n c] 62)) := fun w => back_any a n c w
  refine (callsIn_wide (n := 3)).1 ?_
  refine callsIn_of_wp_marks Tryz.func18 rfl trivial ?_ rfl
  simp only [Tryz.ntmps18, List.size_toArray, List.length_cons, List.length_nil, Nat.reduceAdd, Nat.reduceSub, Array.replicate_succ, Array.replicate_zero, List.push_toArray, List.append_toArray, List.nil_append, List.cons_append]
  rw [wpIn_wide]
  go_wp2_with (go_at_call 27; go_must (refine (HBk.out _).mono ?_; rintro e w2 ⟨rfl, rfl⟩))
  rw [← wpIn_wide (n := 3)]
  have hb0 : Below w.heap.size w (w.alloc (.cells #[.slice a n c] 62)) := (Below.refl _ w).alloc (Nat.le_refl _) _
  have hnew : (w.alloc (.cells #[.slice a n c] 62)).heap[w.heap.size]? = some (.cells #[.slice a n c] 62 (0, 0)) := heap_new w _
  obtain ⟨pb, hpb⟩ : ∃ pb, w.heap.size = pb := ⟨_, rfl⟩
  obtain ⟨w1, hw1⟩ : ∃ w1, w.alloc (.cells #[.slice a n c] 62) = w1 := ⟨_, rfl⟩
  rw [hw1] at hb0 hnew ⊢
  rw [hpb] at hnew ⊢
  have hs1 : w.heap.size ≤ w1.heap.size := hb0.size
  have hI0 : UndoI Fin w tb S s0 w1 := ⟨S, ⟨h.below hb0, rfl, Turn.ofBelow _ hb0, fun _ q => Or.inl q⟩, hu, fun c hc => ⟨fun r hr' => ((hr c hc).1 r hr').kept (Turn.ofBelow (fun _ => False) hb0) (fun _ _ q => q.elim), fun r hr' => ((hr c hc).2 r hr').kept (Turn.ofBelow (fun _ => False) hb0) (fun _ _ q => q.elim)⟩⟩
  have hBk : BkG w1 pb (.slice a n c) tb s0.reverse := ⟨hnew, by
    rw [List.length_reverse]
    exact ownsRow_block hrow fun g hg => by
      obtain ⟨cur, hc, _⟩ := ownsRow_own hrow hg
      exact hb0.block g (lt_of hc)⟩
  refine range_all (σ := List Ch) (α := Nat × Ch) (gf := 44) (lb := #[.pointer (some ⟨pb, 0, none⟩)]) rfl (enters_of Tryz.func44 (by kernel_rfl) rfl) (encC tb) (fun _ => rfl)
    (UndoI Fin w tb S) NextC (fun s => s = []) KpC (AxC (.slice a n c) pb tb)
    (fun s A B R hA t hR => hA.keptN t (fun i hi => ⟨by have := (hR i hi).1; omega, (hR i hi).2⟩)) KpC.trans KpC.put ?ax ?assign ?body s0 hI0 ?iter ?done
  case ax =>
    rintro x a' A l o ⟨q, e1, e2⟩ hn
    exact ⟨q, e1, (World.putObj_heap_other (fun e => hn _ _ _ (by rw [← e]; exact e2))).trans e2⟩
  case iter =>
    intro l J A hA hY hJ
    refine (back1_any _ l pb tb _ s0 few J hY A (hBk.kept (KpC.ofBelow hA)) hJ).mono ?_
    rintro e B ⟨e1, s, rfl, e2⟩
    exact ⟨e1, [], rfl, e2⟩
  case assign =>
    rintro l s ⟨k, was, now⟩ s' A K hI hN hK
    obtain ⟨oa, on, oc, ho, -⟩ := opt_shape was
    obtain ⟨na, nn, nc, hn, -⟩ := opt_shape now
    dsimp only [encC, chV]
    rw [ho, hn]
    gi_wp2
    have hb : ∀ o, Below A.heap.size A (A.alloc o) := fun o => (Below.refl _ A).alloc (Nat.le_refl _) o
    refine hK _ _ (hb _) (KpC.ofBelow (hb _)) (hI.keptN (Turn.ofBelow (fun _ => False) (hb _)) (fun _ q => q.elim)) ⟨A.heap.size, ?_, ?_⟩
    · simp only [chV, ho, hn]
    · simp only [ho, hn]
      exact heap_new A _
  case body =>
    rintro l s ⟨k, was, now⟩ s' a' A hI ⟨rfl, -⟩ ⟨q, rfl, hq⟩
    obtain ⟨S', g, ⟨u1, u2⟩, r⟩ := hI
    obtain ⟨r1, r2⟩ := r (was, now) (List.mem_cons_self ..)
    have HC : Hid (Calls Tryz.prog 19 #[.pointer (some ⟨tb, 0, none⟩), optV now, optV was] A (TsR tb S' now was A)) := tswap_any g.tab (u1 A r2 r1)
    have HE : Hid (∀ B, (∃ S2, TG B tb S2 ∧ SwS S' S2 now was ∧ Turn (fun i => W tb S' i) A B ∧ ∀ i, W tb S2 i → W tb S' i ∨ A.heap.size ≤ i) → StayN A B ∧ KpC A B ∧ UndoI Fin w tb S s' B) := fun B ⟨S2, b1, b2, b3, b4⟩ => by
      refine ⟨⟨b3.size, fun i o ho hc => (b3.block i (lt_of ho) (fun q => ?_)).trans ho⟩, fun i c t z e qt => (b3.block i (lt_of e) (fun q => ?_)).trans e, S2, g.swap b1 b2 b3 b4, u2 S2 b2, fun c hc => (r c (List.mem_cons_of_mem _ hc)).kept g.tab b3⟩
      · obtain ⟨c, t, z, e, _⟩ := g.tab.wty q
        rw [ho] at e
        cases e
        cases hc
      · rcases qt with rfl | rfl
        · exact Ty.not e (by decide) (by decide) (by decide) (g.tab.wty q)
        · exact Ty.not e (by decide) (by decide) (by decide) (g.tab.wty q)
    obtain ⟨oa, on, oc, ho, -⟩ := opt_shape was
    obtain ⟨na, nn, nc, hn, -⟩ := opt_shape now
    dsimp only [chV] at hq ⊢
    rw [ho, hn] at HC hq ⊢
    have c0 : A.cell? ⟨q, 0, none⟩ = some (.pointer (some ⟨tb, 0, none⟩)) := by rw [cell_of hq]; rfl
    have c1 : A.cell? ⟨q, 1, none⟩ = some (.slice oa on oc) := by rw [cell_of hq]; rfl
    have c2 : A.cell? ⟨q, 2, none⟩ = some (.slice na nn nc) := by rw [cell_of hq]; rfl
    have cl : q < A.heap.size := lt_of hq
    clear r r1 r2 u1 u2 g hu hr hrow hI0 hBk hq ho hn
    gi_wp2_with (refine ⟨trivial, ?_⟩; gi_at_call 19; refine (callsIn_wide.2 HC.out).mono ?_; rintro e B ⟨rfl, hB⟩)
    exact HE.out B hB
  case done =>
    rintro D s A hD rfl ⟨S', h1, h2, -⟩ hK
    have hno : NoCells A D := fun c t z e => by rw [hK] at e; cases e
    gi_wp2
    refine ⟨by simp, .inl ⟨_, _, rfl, run_takeDeferred hK, ?_⟩⟩
    refine ⟨_, results_none rfl _ _ _, rfl, S', h1.keptN (putObj_turn A D _) (fun i hi => by rw [hi]; exact ⟨by omega, hno⟩), h2⟩

end Go.Proofs.YtfddmibaojfalaaGreat
