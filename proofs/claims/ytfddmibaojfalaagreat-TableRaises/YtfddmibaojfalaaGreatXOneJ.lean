import Derived.Test.YtfddmibaojfalaaGreatXSameJ
/- A table of two numbers with one row: what sums make of it, step by step; undoing. -/
namespace Go.Proofs.YtfddmibaojfalaaGreat
open Go.RowKit

/-- the law's schema, its key, its rows -/
def T2 : Tab := ⟨⟨#[116]⟩, [(⟨#[97]⟩, 2), (⟨#[98]⟩, 2)], 1, []⟩
abbrev key7 : List V := [⟨2, 7, ⟨#[]⟩⟩]
def row2 (x : Int) : List V := [⟨2, 7, ⟨#[]⟩⟩, ⟨2, x, ⟨#[]⟩⟩]
theorem row2_ok (x : Int) : ∀ y ∈ row2 x, OkV y := fun y hy => by
  simp only [row2, List.mem_cons, List.not_mem_nil, or_false] at hy
  rcases hy with rfl | rfl <;> exact Or.inr (Or.inl ⟨rfl, rfl⟩)
theorem T2_may : T2.may = true := by decide
structure One (S : TS) (r : Rw) (x : Int) : Prop where
  T : S.T = T2
  kc : S.kcols = [0]
  ix : S.ix = none
  R : S.R = [r]
  vs : r.vs = row2 x
theorem pick2 (x : Int) : pickV (row2 x) [0] = key7 := rfl
theorem plc2 (x : Int) : plc [0] [row2 x] key7 = 0 := rfl
theorem plc0 (v : List V) : plc [0] [] v = 0 := rfl

section
variable {S S' : TS} {r r' : Rw} {x y : Int}
theorem One.rowOf (h : One S r x) : rowOf S.kcols S.R key7 = some r := by
  obtain ⟨g, c, vs⟩ := r
  have := h.vs
  dsimp only at this
  subst this
  rw [h.kc, h.R]
  rfl
theorem One.swP (h : One S r x) (h' : r'.vs = row2 y) : SwP S (some r) (some r') := fun w h1 h2 => by
  have c1 : ∀ c ∈ S.kcols, c < r.vs.length := by rw [h.kc, h.vs]; simp [row2]
  have c2 : ∀ c ∈ S.kcols, c < r'.vs.length := by rw [h.kc, h']; simp [row2]
  refine ⟨⟨h1 r rfl, c1⟩, ⟨h2 r' rfl, c2⟩, ⟨?_, ?_⟩, ?_, by rw [h.R, h.kc]; simp, fun z hz => by rw [h.ix] at hz; cases hz⟩
  · show plc S.kcols (cont S.R) (pickV r.vs S.kcols) < S.R.length
    rw [h.R, h.kc]
    simp only [cont, List.map_cons, List.map_nil, h.vs, pick2, plc2]
    simp
  · exact mono_one _ _ _ (by rw [cont_length, h.R]; simp)
  · refine mono_one _ _ _ ?_
    rw [cont_length]
    show (S.R.eraseIdx _).length ≤ 1
    have := List.length_eraseIdx_le S.R (delP S.kcols S.R r)
    rw [h.R] at this ⊢
    simpa using this
theorem One.swap (h : One S r x) (h' : r'.vs = row2 y) (hs : SwS S S' (some r) (some r')) : One S' r' y := by
  refine ⟨hs.T.trans h.T, hs.kcols.trans h.kc, hs.none_ h.ix, ?_, h'⟩
  rw [hs.R]
  have e : delR S.kcols S.R (some r) = [] := by
    show S.R.eraseIdx (plc S.kcols (cont S.R) (pickV r.vs S.kcols)) = []
    rw [h.R, h.kc]
    simp only [cont, List.map_cons, List.map_nil, h.vs, pick2, plc2]
    rfl
  rw [e, h.kc]
  rfl
end
/-- changes of that row, the last one first -/
def Cn : List Ch → Rw → Prop
  | [], _ => True
  | c :: l, r => ∃ a x, c = (some a, some r) ∧ a.vs = row2 x ∧ Cn l a
theorem Cn.un {Fin : TS → Prop} (hF : ∀ S, Fin S) : ∀ (l : List Ch) (r : Rw) (S : TS) (x : Int), Cn l r → One S r x → UnR Fin l S
  | [], _, S, _, _, _ => hF S
  | _ :: l, _, _, _, ⟨a, y, rfl, ha, hl⟩, h => ⟨h.swP ha, fun S' hs => Cn.un hF l a S' y hl (h.swap ha hs)⟩

/-- the number behind j sums -/
def sumTo (n : Int) (bs : List Int) (j : Nat) : Int := n + (bs.take j).sum
def AddP (n : Int) (bs : List Int) (j : Nat) (S : TS) (CL : List Ch) (_L : List (List V)) : Prop := ∃ r, One S r (sumTo n bs j) ∧ (∀ i, i ≤ j → In64 (sumTo n bs i)) ∧ Cn CL.reverse r
theorem sumTo_succ (n : Int) {bs : List Int} {j : Nat} {b : Int} (h : bs[j]? = some b) : sumTo n bs (j + 1) = sumTo n bs j + b := by
  unfold sumTo
  rw [List.take_add_one, h, List.sum_append]
  simp
  omega

theorem T2_cols : OfCols T2 [0] key7 := fun i y hy => by
  obtain ⟨hi, e⟩ := List.getElem?_eq_some_iff.1 hy
  have : i = 0 := by simp at hi; omega
  subst this
  subst e
  exact ⟨(by decide : (2 : Int) ≠ 0), Or.inr (Or.inl ⟨rfl, rfl⟩), 0, ⟨#[97]⟩, rfl, rfl⟩

theorem add_step {w : World} {d m tb : Nat} {S0 : TS} {Fin : TS → Prop} (n : Int) (bs : List Int) (j : Nat) (b : Int) (hb : bs[j]? = some b) (hF : (∀ S, Fin S) ∨ In64 (sumTo n bs (j + 1))) (hb64 : In64 b) (o : OpR) (hk : o.kind = 7) (htb : o.tbl = ⟨#[116]⟩) (hat : o.at0 = 1) (hn : o.n = b)
    (hkey : SliceAt w (slV o.key) 4 enV key7) (hkW : ∀ i, (slV o.key).ownBlock = some i → ¬ W tb S0 i) : StepOk w d m tb S0 (AddP n bs) Fin j o := by
  intro u S CL L ht hD hP
  obtain ⟨r, h1, h2, h3⟩ := hP
  obtain ⟨kind, tbl, key, to, row, ix, at0, on, lim⟩ := o
  dsimp only at hk htb hat hn hkey hkW
  subst hk htb hat hn
  have hkey' := sliceAt_turn hkey ht hkW
  have hvw := hD.tab.view
  have hat := hD.tab.main.at
  have hrow : RowOk u r := (hD.tab.main.ro r (by rw [h1.R]; exact List.mem_singleton.2 rfl)).1.ok
  have hrG : RowG u r := (hD.tab.main.ro r (by rw [h1.R]; exact List.mem_singleton.2 rfl)).1
  have hx64 : In64 (sumTo n bs j) := h2 j (Nat.le_refl _)
  have hmono : ∀ v, Mono S.kcols (cont S.R) v := fun v => mono_one _ _ _ (by rw [cont_length, h1.R]; simp)
  have hof : OfCols S.T S.kcols key7 := by rw [h1.T, h1.kc]; exact T2_cols
  have hkT : ((key7.length : Nat) : Int) = S.T.key := by rw [h1.T]; rfl
  have hlc : key7.length ≤ S.kcols.length := by rw [h1.kc]; exact Nat.le_refl _
  have hco : S.T.co[1]? = some (⟨#[98]⟩, 2) := by rw [h1.T]; rfl
  have hx1 : r.vs[1]? = some ⟨2, sumTo n bs j, ⟨#[]⟩⟩ := by rw [h1.vs]; rfl
  have hk1 : S.T.key ≤ ((1 : Nat) : Int) := by rw [h1.T]; decide
  have h32 : r.vs.length ≤ 32 := by rw [h1.vs]; simp [row2]
  by_cases hS : In64 (sumTo n bs j + on)
  · refine ⟨42, 0, some r, some (row2 (sumTo n bs j + on)), fun o => o.toList, rfl, by rw [h1.T]; rfl, fun u' hu' => ?_, fun now u' hu' hnow hrows => ?_, fun q => absurd rfl q⟩
    · have hset : r.vs.set 1 ⟨2, sumTo n bs j + on, ⟨#[]⟩⟩ = row2 (sumTo n bs j + on) := by rw [h1.vs]; rfl
      have := add_ok hvw hat hkey' (by decide) hkT hlc hof (hmono _) u' hu' h1.rowOf hrow 1 (sumTo n bs j) on hx1 ⟨#[98]⟩ hk1 hco hx64 hb64 (sumTo n bs j + on) rfl hS h32 1 (by rw [h1.T]; rfl) (by rw [h1.vs]; simp [row2]) (by rw [h1.kc]; exact Nat.le_refl _) (hmono _) (by rw [h1.R]; simp) (fun u2 ra RN rc hu2 => ?_) 7 ⟨#[116]⟩ (slV to) (slV row) ix lim ⟨_, _, _, rfl⟩ ⟨_, _, _, rfl⟩
      · rw [hset] at this
        refine this.mono fun e w' hw' => ?_
        have := eff_add (base := u.heap.size) hw' (row2_ok _)
        have hro : rowOf S.kcols S.R ((row2 (sumTo n bs j + on)).take 1) = some r := h1.rowOf
        rw [hro] at this
        exact this
      · refine (clashes_none hvw (by rw [h1.T]; rfl) ra RN rc u2 (hu'.trans (hu2.mono hu'.size))).mono fun e w' hw' => ⟨hw'.1, ?_⟩
        rw [hw'.2]
        exact Below.refl _ _
    · obtain ⟨r', rfl, hr'⟩ : ∃ r', now = some r' ∧ r'.vs = row2 (sumTo n bs j + on) := by
        cases now with
        | none => simp at hnow
        | some r' => exact ⟨r', rfl, by simpa using hnow⟩
      refine ⟨fun q hq => ?_, by simp, fun _ => ⟨fun q hq => ?_, h1.swP hr', fun S' hs => ⟨r', ?_, fun i hi => ?_, ?_⟩⟩⟩
      · have : q = r' := by simpa using hq
        subst this
        exact ⟨hrows q rfl, by rw [hr']; simp [row2], by rw [hr']; simp [row2]⟩
      · cases hq
        exact hrG.kept (Turn.ofBelow (fun _ => False) hu') (fun _ _ q => q.elim)
      · rw [sumTo_succ n hb]
        exact h1.swap hr' hs
      · rcases Nat.lt_or_ge i (j + 1) with q | q
        · exact h2 i (by omega)
        · have : i = j + 1 := by omega
          rw [this, sumTo_succ n hb]
          exact hS
      · rw [List.reverse_append]
        exact ⟨r, _, rfl, h1.vs, h3⟩
  · refine ⟨42, 1, none, none, fun _ => [], rfl, by rw [h1.T]; rfl, fun u' hu' => ?_, fun now u' hu' hnow hrows => ⟨(fun q hq => by cases hq), by simp, (fun q => by cases q)⟩, fun _ => by
      rcases hF with hF | hF
      · exact Cn.un hF _ r S _ h3 h1
      · rw [sumTo_succ n hb] at hF
        exact absurd hF hS⟩
    have := add_range hvw hat hkey' (by decide) hkT hlc hof (hmono _) u' hu' h1.rowOf hrow 1 (sumTo n bs j) on hx1 ⟨#[98]⟩ hk1 hco hx64 hb64 hS h32 7 ⟨#[116]⟩ (slV to) (slV row) ix lim ⟨_, _, _, rfl⟩ ⟨_, _, _, rfl⟩
    exact this.mono fun e w' hw' => eff_refused hw'

end Go.Proofs.YtfddmibaojfalaaGreat

/- A table of two numbers without rows: the first row. -/
namespace Go.Proofs.YtfddmibaojfalaaGreat
open Go.RowKit

structure Nul (S : TS) : Prop where
  T : S.T = T2
  kc : S.kcols = [0]
  ix : S.ix = none
  R : S.R = []
def PutP (n : Int) : Nat → TS → List Ch → List (List V) → Prop
  | 0, S, _, _ => Nul S
  | _, S, _, _ => ∃ r, One S r n
theorem T2_rg : Rg T2 := by
  refine ⟨by decide, fun c hc => ?_, by decide, fun x hx => by cases hx⟩
  have : c = (⟨#[97]⟩, 2) ∨ c = (⟨#[98]⟩, 2) := by
    have hc' : c ∈ [((⟨#[97]⟩ : ByteArray), (2 : Int)), (⟨#[98]⟩, 2)] := hc
    simpa using hc'
  rcases this with rfl | rfl <;> decide
theorem fits2 (n : Int) : FitsT T2 (row2 n) := by
  refine ⟨T2_may, T2_rg, rfl, by simp [row2], row2_ok n, fun i y hy => ?_⟩
  obtain ⟨hi, e⟩ := List.getElem?_eq_some_iff.1 hy
  have : i = 0 ∨ i = 1 := by simp [row2] at hi; omega
  rcases this with rfl | rfl
  · subst e
    exact ⟨(by decide : (2 : Int) ≠ 0), ⟨#[97]⟩, rfl⟩
  · subst e
    exact ⟨(by decide : (2 : Int) ≠ 0), ⟨#[98]⟩, rfl⟩
theorem put_step {w : World} {d m tb : Nat} {S0 : TS} {Fin : TS → Prop} (n : Int) (o : OpR) (hk : o.kind = 2) (htb : o.tbl = ⟨#[116]⟩)
    (hrow : SliceAt w (slV o.row) 4 enV (row2 n)) (hrW : ∀ i, (slV o.row).ownBlock = some i → ¬ W tb S0 i) : StepOk w d m tb S0 (PutP n) Fin 0 o := by
  intro u S CL L ht hD hP
  have h1 : Nul S := hP
  obtain ⟨kind, tbl, key, to, row, ix, at0, on, lim⟩ := o
  dsimp only at hk htb hrow hrW
  subst hk htb
  have hrow' := sliceAt_turn hrow ht hrW
  have hvw := hD.tab.view
  have hat := hD.tab.main.at
  have hmono : ∀ v, Mono S.kcols (cont S.R) v := fun v => mono_one _ _ _ (by rw [cont_length, h1.R]; simp)
  refine ⟨37, 0, none, some (row2 n), fun _ => [], rfl, by rw [h1.T]; rfl, fun u' hu' => ?_, fun now u' hu' hnow hrows => ?_, fun q => absurd rfl q⟩
  · have := put_ok hvw hat hrow' (by rw [h1.T]; exact fits2 n) (by simp [row2]) 1 (by rw [h1.T]; rfl) (by simp [row2]) (by rw [h1.kc]; exact Nat.le_refl _) (hmono _) (by rw [h1.R]; simp) u' hu' (fun u2 hu2 => ?_) 2 ⟨#[116]⟩ (slV key) (slV to) ix at0 on lim ⟨_, _, _, rfl⟩ ⟨_, _, _, rfl⟩
    · refine this.mono fun e w' hw' => ?_
      have := eff_wr (base := u.heap.size) hw' (row2_ok _)
      have hro : rowOf S.kcols S.R ((row2 n).take 1) = none := by rw [h1.kc, h1.R]; rfl
      rw [hro] at this
      exact this
    · refine (clashes_none hvw (by rw [h1.T]; rfl) _ _ _ u2 (hu'.trans (hu2.mono hu'.size))).mono fun e w' hw' => ⟨hw'.1, ?_⟩
      rw [hw'.2]
      exact Below.refl _ _
  · obtain ⟨r', rfl, hr'⟩ : ∃ r', now = some r' ∧ r'.vs = row2 n := by
      cases now with
      | none => simp at hnow
      | some r' => exact ⟨r', rfl, by simpa using hnow⟩
    refine ⟨(fun q hq => by cases hq), by simp, fun _ => ⟨(fun q hq => by cases hq), fun w1 _ k2 => ⟨trivial, ⟨k2 r' rfl, ?_⟩, trivial, mono_one _ _ _ ?_, by rw [h1.R, h1.kc]; simp, fun z hz => by rw [h1.ix] at hz; cases hz⟩, fun S' hs => ?_⟩⟩
    · rw [h1.kc, hr']; simp [row2]
    · rw [cont_length]
      show S.R.length ≤ 1
      rw [h1.R]; simp
    · refine ⟨r', hs.T.trans h1.T, hs.kcols.trans h1.kc, hs.none_ h1.ix, ?_, hr'⟩
      rw [hs.R, h1.R, h1.kc]
      rfl

end Go.Proofs.YtfddmibaojfalaaGreat
