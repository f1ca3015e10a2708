import Derived.Test.YtfddmibaojfalaaGreatXSmall
import Derived.Deep.RegionHeld3
/- The chapter's example of layer 15, in plain words: a table with a unique index, what its rows are behind each operation. -/
namespace Go.Proofs.YtfddmibaojfalaaGreat
open Go.RowKit Go.Maps

/-! ### lists by what they hold -/
theorem cont_erase (R : List Rw) (i : Nat) : cont (R.eraseIdx i) = (cont R).eraseIdx i := by
  unfold cont
  rw [List.eraseIdx_eq_take_drop_succ, List.eraseIdx_eq_take_drop_succ, List.map_append, List.map_take, List.map_drop]
theorem cont_insert (R : List Rw) (i : Nat) (r : Rw) : cont (R.insertIdx i r) = (cont R).insertIdx i r.vs := by
  unfold cont
  induction R generalizing i with
  | nil => cases i <;> simp
  | cons a R ih => cases i <;> simp [ih]
def delC (cols : List Nat) (C : List (List V)) : Option (List V) → List (List V)
  | none => C
  | some v => C.eraseIdx (plc cols C (pickV v cols))
def insC (cols : List Nat) (C : List (List V)) : Option (List V) → List (List V)
  | none => C
  | some v => C.insertIdx (plc cols C (pickV v cols)) v
theorem cont_del (cols : List Nat) (R : List Rw) (o : Option Rw) : cont (delR cols R o) = delC cols (cont R) (o.map Rw.vs) := by
  cases o with
  | none => rfl
  | some r => exact cont_erase _ _
theorem cont_ins (cols : List Nat) (R : List Rw) (o : Option Rw) : cont (insR cols R o) = insC cols (cont R) (o.map Rw.vs) := by
  cases o with
  | none => rfl
  | some r => exact cont_insert _ _ _
/-- is it so that all behind the place of values are not ahead of them? -/
def monoB (cols : List Nat) (C : List (List V)) (vals : List V) : Bool := (C.drop (plc cols C vals)).all fun r => decide (0 ≤ agn cols r vals)
theorem mono_of {cols : List Nat} {C : List (List V)} {vals : List V} (h : monoB cols C vals = true) : Mono cols C vals := fun j r hj hp => by
  unfold monoB at h
  rw [List.all_eq_true] at h
  have : r ∈ C.drop (plc cols C vals) := List.mem_of_getElem? (i := j - plc cols C vals) (by rw [List.getElem?_drop]; rw [show plc cols C vals + (j - plc cols C vals) = j by omega]; exact hj)
  exact of_decide_eq_true (h r this)
/-- may values be taken out, may some be put in -/
def delB (cols : List Nat) (C : List (List V)) : Option (List V) → Bool
  | none => true
  | some v => decide (plc cols C (pickV v cols) < C.length) && monoB cols C (pickV v cols)
def insB (cols : List Nat) (C : List (List V)) : Option (List V) → Bool
  | none => true
  | some v => monoB cols C (pickV v cols)
theorem del_okB {cols : List Nat} {R : List Rw} {o : Option Rw} (h : delB cols (cont R) (o.map Rw.vs) = true) : DelOk cols R o := by
  cases o with
  | none => trivial
  | some r =>
    have h' : (decide (plc cols (cont R) (pickV r.vs cols) < (cont R).length) && monoB cols (cont R) (pickV r.vs cols)) = true := h
    rw [Bool.and_eq_true] at h'
    refine ⟨?_, mono_of h'.2⟩
    have := of_decide_eq_true h'.1
    rw [cont_length] at this
    exact this
theorem ins_okB {cols : List Nat} {R : List Rw} {o : Option Rw} (h : insB cols (cont R) (o.map Rw.vs) = true) : InsOk cols R o := by
  cases o with
  | none => trivial
  | some r => exact mono_of h

/-! ### the chapter's rows -/
abbrev tx : ByteArray := ⟨#[120]⟩
abbrev ty : ByteArray := ⟨#[121]⟩
def row1 (n : Int) (s : ByteArray) : List V := [⟨2, n, ⟨#[]⟩⟩, ⟨5, 0, s⟩]
theorem row1_ok (n : Int) (s : ByteArray) (hs : s.size ≤ 4096) : ∀ y ∈ row1 n s, OkV y := fun y hy => by
  simp only [row1, List.mem_cons, List.not_mem_nil, or_false] at hy
  rcases hy with rfl | rfl
  · exact Or.inr (Or.inl ⟨rfl, rfl⟩)
  · exact Or.inr (Or.inr ⟨rfl, rfl, hs⟩)
theorem T1_rg : Rg T1 := by
  refine ⟨by decide, fun c hc => ?_, by decide, fun x hx => ?_⟩
  · have : c = (⟨#[97]⟩, 2) ∨ c = (⟨#[98]⟩, 5) := by
      have hc' : c ∈ [((⟨#[97]⟩ : ByteArray), (2 : Int)), (⟨#[98]⟩, 5)] := hc
      simpa using hc'
    rcases this with rfl | rfl <;> decide
  · have hx' : x ∈ [(⟨⟨#[105]⟩, [1], true⟩ : Ix)] := hx
    have : x = ⟨⟨#[105]⟩, [1], true⟩ := by simpa using hx'
    subst this
    exact ⟨by decide, fun n hn => by
      have : n = 1 := by simpa using hn
      subst this
      decide⟩
theorem fits1 (n : Int) (s : ByteArray) (hs : s.size ≤ 4096) : FitsT T1 (row1 n s) := by
  refine ⟨T1_may, T1_rg, rfl, by simp [row1], row1_ok n s hs, fun i y hy => ?_⟩
  obtain ⟨hi, e⟩ := List.getElem?_eq_some_iff.1 hy
  have : i = 0 ∨ i = 1 := by simp [row1] at hi; omega
  rcases this with rfl | rfl
  · subst e
    exact ⟨(by decide : (2 : Int) ≠ 0), ⟨#[97]⟩, rfl⟩
  · subst e
    exact ⟨(by decide : (5 : Int) ≠ 0), ⟨#[98]⟩, rfl⟩

/-- the table with these rows, and its index with the same -/
structure Wk (c : List (List V)) (S : TS) : Prop where
  T : S.T = T1
  kc : S.kcols = [0]
  R : cont S.R = c
  ix : ∃ x, S.ix = some x ∧ x.xcols = [1, 0] ∧ x.ics = [1] ∧ x.nm = ⟨#[105]⟩ ∧ x.un = true ∧ cont x.XR = c
section
variable {c c' : List (List V)} {S S' : TS} {was now : Option Rw}
theorem Wk.swap (h : Wk c S) (hs : SwS S S' was now) (h1 : insC [0] (delC [0] c (was.map Rw.vs)) (now.map Rw.vs) = c') (h2 : insC [1, 0] (delC [1, 0] c (was.map Rw.vs)) (now.map Rw.vs) = c') : Wk c' S' := by
  obtain ⟨x, x1, x2, x3, x4, x5, x6⟩ := h.ix
  obtain ⟨x', y1, y2, y3, y4, y5, y6⟩ := hs.some_ x x1
  refine ⟨hs.T.trans h.T, hs.kcols.trans h.kc, ?_, x', y1, y2.trans x2, y3.trans x3, y4.trans x4, y5.trans x5, ?_⟩
  · rw [hs.R, cont_ins, cont_del, h.kc, h.R, h1]
  · rw [y6, cont_ins, cont_del, x2, x6, h2]
theorem Wk.swP (h : Wk c S) (l1 : ∀ r, was = some r → r.vs.length = 2) (l2 : ∀ r, now = some r → r.vs.length = 2) (few : c.length < 4200)
    (d1 : delB [0] c (was.map Rw.vs) = true) (i1 : insB [0] (delC [0] c (was.map Rw.vs)) (now.map Rw.vs) = true) (d2 : delB [1, 0] c (was.map Rw.vs) = true) (i2 : insB [1, 0] (delC [1, 0] c (was.map Rw.vs)) (now.map Rw.vs) = true) : SwP S was now := fun w h1 h2 => by
  obtain ⟨x, x1, x2, x3, x4, x5, x6⟩ := h.ix
  have rc : ∀ (cols : List Nat) (o : Option Rw), (∀ k ∈ cols, k < 2) → (∀ r, o = some r → r.vs.length = 2) → (∀ r, o = some r → RowG w r) → RowC w cols o := fun cols o hk hl hr => by
    cases o with
    | none => trivial
    | some r => exact ⟨hr r rfl, fun k q => by rw [hl r rfl]; exact hk k q⟩
  have k0 : ∀ k ∈ [0], k < 2 := by decide
  have k1 : ∀ k ∈ [1, 0], k < 2 := by decide
  have fl : S.R.length < 4200 := by rw [← cont_length, h.R]; exact few
  refine ⟨by rw [h.kc]; exact rc _ _ k0 l1 h1, by rw [h.kc]; exact rc _ _ k0 l2 h2, del_okB (by rw [h.kc, h.R]; exact d1), ins_okB (by rw [cont_del, h.kc, h.R]; exact i1), ⟨fl, by rw [h.kc]; simp⟩, fun z hz => ?_⟩
  rw [x1] at hz
  cases hz
  exact ⟨by rw [x2]; exact rc _ _ k1 l1 h1, by rw [x2]; exact rc _ _ k1 l2 h2, del_okB (by rw [x2, x6]; exact d2), ins_okB (by rw [cont_del, x2, x6]; exact i2), by rw [x2]; simp, by rw [← cont_length, x6]; exact few⟩
end

end Go.Proofs.YtfddmibaojfalaaGreat

/- The chapter's example of layer 15: what each of its operations comes to. -/
namespace Go.Proofs.YtfddmibaojfalaaGreat
open Go.RowKit Go.Maps

def clC (kcols ics xcols : List Nat) (C : List (List V)) (row : List V) (K : Nat) : Bool :=
  if begN xcols C (pickV row ics) 1 = 0 then false else match C[plc xcols C (pickV row ics)]? with
    | some v => agn kcols v (row.take K) != 0
    | none => false
theorem clB_eq (kcols ics xcols : List Nat) (XR : List Rw) (row : List V) (K : Nat) : clB kcols ics xcols XR row K = clC kcols ics xcols (cont XR) row K := by
  unfold clB clC
  split
  · rfl
  · have e : (cont XR)[plc xcols (cont XR) (pickV row ics)]? = (XR[plc xcols (cont XR) (pickV row ics)]?).map Rw.vs := by unfold cont; rw [List.getElem?_map]
    rw [e]
    cases XR[plc xcols (cont XR) (pickV row ics)]? <;> rfl
section
variable {w u : World} {d m tb : Nat} {S0 S : TS} {c c' : List (List V)} {n : Int} {s : ByteArray} {rowv : Value}
theorem Wk.len (h : Wk c S) (hc : ∀ v ∈ c, v.length = 2) : (∀ r ∈ S.R, r.vs.length = 2) ∧ ∀ x, S.ix = some x → ∀ r ∈ x.XR, r.vs.length = 2 := by
  have k : ∀ R : List Rw, cont R = c → ∀ r ∈ R, r.vs.length = 2 := fun R hR r hr => hc _ (by rw [← hR]; exact List.mem_map.2 ⟨r, hr, rfl⟩)
  refine ⟨k _ h.R, fun x hx => ?_⟩
  obtain ⟨y, y1, _, _, _, _, y6⟩ := h.ix
  rw [y1] at hx
  cases hx
  exact k _ y6
/-- does a row of the chapter's clash? -/
theorem Wk.clash (hD : DG u d m tb S) (h : Wk c S) (hc : ∀ v ∈ c, v.length = 2) (hr : SliceAt u rowv 4 enV (row1 n s)) (hs : s.size ≤ 4096) (mx : monoB [1, 0] c [⟨5, 0, s⟩] = true) (u' : World) (hu' : Below u.heap.size u u') :
    Calls Tryz.prog 73 #[.pointer (some ⟨tb, 0, none⟩), rowv] u' fun e w' => e = .returned (.bool (clC [0] [1] [1, 0] c (row1 n s) 1)) ∧ Below u'.heap.size u' w' := by
  obtain ⟨x, x1, x2, x3, x4, x5, x6⟩ := h.ix
  have g := hD.tab.some_ x x1
  have hx := g.at_
  rw [x3, x2, x5] at hx
  obtain ⟨ra, rc, hv⟩ := hr.keyN
  have hp : pickV (row1 n s) [1] = [⟨5, 0, s⟩] := rfl
  have ok5 : OkV ⟨5, 0, s⟩ := Or.inr (Or.inr ⟨rfl, rfl, hs⟩)
  subst hv
  refine clashes_one hD.tab.view hx ra _ rc _ u' hu' fun u2 hu2 => ?_
  have hM := hD.tab.main.at
  have := clashesBy_any hD.tab.view hM hx hr (row1_ok n s hs) (by simp [row1]) (by simp) (by rw [hp]; intro y hy; have := List.mem_singleton.1 hy; subst this; show (5 : Int) ≠ 0; decide) (by rw [hp]; intro y hy; have := List.mem_singleton.1 hy; subst this; exact ok5) (by simp) (by rw [hp, x6]; exact mono_of mx) 1 (by rw [h.T]; rfl) (by simp [row1]) (by rw [h.kc]; simp) (fun r hr k hk => by rw [h.kc] at hk; have := List.mem_singleton.1 hk; subst this; rw [(h.len hc).2 x x1 r hr]; decide) u2 (hu'.trans (hu2.mono hu'.size))
  rw [clB_eq, h.kc, x6] at this
  exact this

/-- a row that is put in -/
theorem st_put {P : Nat → TS → List Ch → List (List V) → Prop} {Fin : TS → Prop} {j : Nat} (o : OpR) (hk : o.kind = 2) (htb : o.tbl = ⟨#[116]⟩) (hrow : SliceAt w (slV o.row) 4 enV (row1 n s)) (hrW : ∀ i, (slV o.row).ownBlock = some i → ¬ W tb S0 i) (hs : s.size ≤ 4096)
    (hP : ∀ S CL L, P j S CL L → Wk c S) (hP' : ∀ S' CL L, Wk c' S' → P (j + 1) S' CL L) (hc : ∀ v ∈ c, v.length = 2) (few : c.length < 4096)
    (m0 : monoB [0] c [⟨2, n, ⟨#[]⟩⟩] = true) (nk : begN [0] c [⟨2, n, ⟨#[]⟩⟩] 1 = 0) (mx : monoB [1, 0] c [⟨5, 0, s⟩] = true) (hcl : clC [0] [1] [1, 0] c (row1 n s) 1 = false)
    (i1 : insB [0] c (some (row1 n s)) = true) (i2 : insB [1, 0] c (some (row1 n s)) = true) (e1 : insC [0] c (some (row1 n s)) = c') (e2 : insC [1, 0] c (some (row1 n s)) = c') : StepOk w d m tb S0 P Fin j o := by
  intro u S CL L ht hD hPj
  have h := hP S CL L hPj
  obtain ⟨kind, tbl, key, to, row, ix, at0, on, lim⟩ := o
  dsimp only at hk htb hrow hrW
  subst hk htb
  have hrow' := sliceAt_turn hrow ht hrW
  have hvw := hD.tab.view
  have hat := hD.tab.main.at
  have hl : S.R.length < 4096 := by rw [← cont_length, h.R]; exact few
  refine ⟨37, 0, none, some (row1 n s), fun _ => [], rfl, by rw [h.T]; rfl, fun u' hu' => ?_, fun now u' hu' hnow hrows => ?_, fun q => absurd rfl q⟩
  · have := put_ok hvw hat hrow' (by rw [h.T]; exact fits1 n s hs) (by simp [row1]) 1 (by rw [h.T]; rfl) (by simp [row1]) (by rw [h.kc]; exact Nat.le_refl _) (by rw [h.kc, h.R]; exact mono_of m0) hl u' hu' (fun u2 hu2 => ?_) 2 ⟨#[116]⟩ (slV key) (slV to) ix at0 on lim ⟨_, _, _, rfl⟩ ⟨_, _, _, rfl⟩
    · refine this.mono fun e w' hw' => ?_
      have := eff_wr (base := u.heap.size) hw' (row1_ok n s hs)
      have hro : rowOf S.kcols S.R ((row1 n s).take 1) = none := by
        unfold rowOf
        rw [h.kc, h.R, if_pos (show begN [0] c ((row1 n s).take 1) 1 = 0 from nk)]
      rw [hro] at this
      exact this
    · have := h.clash hD hc hrow' hs mx u2 (hu'.trans (hu2.mono hu'.size))
      rw [hcl] at this
      exact this
  · obtain ⟨r', rfl, hr'⟩ : ∃ r', now = some r' ∧ r'.vs = row1 n s := by
      cases now with
      | none => simp at hnow
      | some r' => exact ⟨r', rfl, by simpa using hnow⟩
    have em : (some r').map Rw.vs = some (row1 n s) := by rw [Option.map_some, hr']
    refine ⟨(fun q hq => by cases hq), by simp, fun _ => ⟨(fun q hq => by cases hq), h.swP (fun q hq => by cases hq) (fun q hq => by cases hq; rw [hr']; rfl) (by omega) rfl (by rw [em]; exact i1) rfl (by rw [em]; exact i2), fun S' hs' => hP' S' _ _ (h.swap hs' (by rw [em]; exact e1) (by rw [em]; exact e2))⟩⟩
/-- a row that clashes -/
theorem st_clash {P : Nat → TS → List Ch → List (List V) → Prop} {Fin : TS → Prop} {j : Nat} (o : OpR) (hk : o.kind = 2) (htb : o.tbl = ⟨#[116]⟩) (hrow : SliceAt w (slV o.row) 4 enV (row1 n s)) (hrW : ∀ i, (slV o.row).ownBlock = some i → ¬ W tb S0 i) (hs : s.size ≤ 4096)
    (hP : ∀ S CL L, P j S CL L → Wk c S ∧ UnR Fin CL.reverse S) (hc : ∀ v ∈ c, v.length = 2)
    (mx : monoB [1, 0] c [⟨5, 0, s⟩] = true) (hcl : clC [0] [1] [1, 0] c (row1 n s) 1 = true) : StepOk w d m tb S0 P Fin j o := by
  intro u S CL L ht hD hPj
  obtain ⟨h, hun⟩ := hP S CL L hPj
  obtain ⟨kind, tbl, key, to, row, ix, at0, on, lim⟩ := o
  dsimp only at hk htb hrow hrW
  subst hk htb
  have hrow' := sliceAt_turn hrow ht hrW
  have hvw := hD.tab.view
  refine ⟨37, 151, none, none, fun _ => [], rfl, by rw [h.T]; rfl, fun u' hu' => ?_, fun now u' hu' hnow hrows => ⟨(fun q hq => by cases hq), by simp, (fun q => by cases q)⟩, fun _ => hun⟩
  have := put_clash hvw hrow' (by rw [h.T]; exact fits1 n s hs) u' hu' (fun u2 hu2 => by
    have := h.clash hD hc hrow' hs mx u2 (hu'.trans (hu2.mono hu'.size))
    rw [hcl] at this
    exact this) 2 ⟨#[116]⟩ (slV key) (slV to) ix at0 on lim ⟨_, _, _, rfl⟩ ⟨_, _, _, rfl⟩
  exact this.mono fun e w' hw' => eff_refused hw'
end

end Go.Proofs.YtfddmibaojfalaaGreat

/- The chapter's example of layer 15: its search, its row that is taken away; both of its batches. -/
namespace Go.Proofs.YtfddmibaojfalaaGreat
open Go.RowKit Go.Maps

abbrev rX : List V := row1 1 tx
abbrev rY : List V := row1 2 ty
theorem cont_take (R : List Rw) (n : Nat) : cont (R.take n) = (cont R).take n := by unfold cont; exact List.map_take ..
theorem cont_drop (R : List Rw) (n : Nat) : cont (R.drop n) = (cont R).drop n := by unfold cont; exact List.map_drop ..
def begC (cols : List Nat) (C : List (List V)) (vals : List V) (most : Nat) : List (List V) := (C.drop (plc cols C vals)).take (begN cols C vals most)
theorem cont_beg (cols : List Nat) (R : List Rw) (vals : List V) (most : Nat) : cont (begL cols R vals most) = begC cols (cont R) vals most := by
  unfold begL begC
  rw [cont_take, cont_drop]
theorem cont_two {R : List Rw} {a b : List V} (h : cont R = [a, b]) : ∃ x y, R = [x, y] ∧ x.vs = a ∧ y.vs = b := by
  cases R with
  | nil => cases h
  | cons x R =>
    cases R with
    | nil => simp [cont] at h
    | cons y R =>
      cases R with
      | cons z R => simp [cont] at h
      | nil =>
        have : x.vs = a ∧ y.vs = b := by simpa [cont] using h
        exact ⟨x, y, rfl, this.1, this.2⟩
theorem of_one (y : V) (co : Nat) (nm : ByteArray) (h0 : y.k ≠ 0) (h1 : OkV y) (h2 : T1.co[co]? = some (nm, y.k)) : OfCols T1 [co] [y] := fun i z hz => by
  obtain ⟨hi, e⟩ := List.getElem?_eq_some_iff.1 hz
  have : i = 0 := by simp at hi; omega
  subst this
  subst e
  exact ⟨h0, h1, co, nm, rfl, h2⟩
section
variable {w u : World} {d m tb : Nat} {S0 S : TS}
/-- behind each operation of the first batch -/
def WkP : Nat → TS → List Ch → List (List V) → Prop
  | 0, S, _, _ => Wk [] S
  | 1, S, _, _ => Wk [rX] S
  | 2, S, _, _ => Wk [rX, rY] S
  | _, S, _, L => Wk [rX, rY] S ∧ L = [rY]
theorem st_find (o : OpR) (hk : o.kind = 6) (htb : o.tbl = ⟨#[116]⟩) (hix : o.ix = ⟨#[105]⟩) (hli : o.lim = 9) (hkey : SliceAt w (slV o.key) 4 enV [⟨5, 0, ty⟩]) (hkW : ∀ i, (slV o.key).ownBlock = some i → ¬ W tb S0 i) {Fin : TS → Prop} : StepOk w d m tb S0 WkP Fin 2 o := by
  intro u S CL L ht hD hPj
  have h : Wk [rX, rY] S := hPj
  obtain ⟨kind, tbl, key, to, row, ix, at0, on, lim⟩ := o
  dsimp only at hk htb hix hli hkey hkW
  subst hk htb hix hli
  have hkey' := sliceAt_turn hkey ht hkW
  have hvw := hD.tab.view
  obtain ⟨x, x1, x2, x3, x4, x5, x6⟩ := h.ix
  have g := hD.tab.some_ x x1
  have hx := g.at_
  rw [x4] at hx
  have hlen := (h.len (c := [rX, rY]) (by intro v hv; rcases List.mem_cons.1 hv with rfl | hv; rfl; rw [List.mem_singleton.1 hv]; rfl)).2 x x1
  have hxl : ∀ b, x.xrv.ownBlock = some b → b < u.heap.size := fun b hb => hD.tab.wlt (Or.inr (Or.inr ⟨x, x1, Or.inr hb⟩))
  have ok5 : OkV ⟨5, 0, ty⟩ := Or.inr (Or.inr ⟨rfl, rfl, by decide⟩)
  refine ⟨41, 0, none, none, fun _ => begL x.xcols x.XR [⟨5, 0, ty⟩] 9, rfl, by rw [h.T]; rfl, fun u' hu' => ?_, fun now u' hu' hnow hrows => ?_, fun q => absurd rfl q⟩
  · have := find_ok hvw hx hkey' (by simp) (by rw [x3]; rfl) (by rw [x2]; simp) (by rw [h.T, x3]; exact of_one ⟨5, 0, ty⟩ 1 ⟨#[98]⟩ (by decide) ok5 rfl) (by rw [x2, x6]; exact mono_of (by kernel_rfl)) hxl 9 (by decide) (by decide) u' hu' 6 ⟨#[116]⟩ (slV to) (slV row) at0 on ⟨_, _, _, rfl⟩ ⟨_, _, _, rfl⟩
    exact this.mono fun e w' hw' => eff_find hw' hxl
  · have hn : now = none := by
      cases now with
      | none => rfl
      | some r => simp at hnow
    subst hn
    have hcb : cont (begL x.xcols x.XR [⟨5, 0, ty⟩] 9) = [rY] := by rw [cont_beg, x2, x6]; kernel_rfl
    refine ⟨fun r hr => ?_, ?_, fun _ => ⟨(fun r hr => by cases hr), h.swP (fun r hr => by cases hr) (fun r hr => by cases hr) (by decide) rfl rfl rfl rfl, fun S' hs => ⟨h.swap hs rfl rfl, hcb⟩⟩⟩
    · have hr' : r ∈ x.XR := List.mem_of_mem_drop (List.mem_of_mem_take hr)
      obtain ⟨cur, hlo⟩ := g.list
      refine ⟨((hlo.ro r hr').1).kept (Turn.ofBelow (fun _ => False) hu') (fun _ _ q => q.elim), fun q => ?_, by rw [hlen r hr']; decide⟩
      have := hlen r hr'
      rw [q] at this
      cases this
    · rw [← cont_length, hcb]; decide

/-- of the second one -/
def WkQ : Nat → TS → List Ch → List (List V) → Prop
  | 0, S, CL, _ => Wk [rX, rY] S ∧ CL = []
  | 1, S, CL, _ => Wk [rY] S ∧ ∃ r, CL = [(some r, none)] ∧ r.vs = rX
  | _, _, _, _ => False
theorem st_del (o : OpR) (hk : o.kind = 4) (htb : o.tbl = ⟨#[116]⟩) (hkey : SliceAt w (slV o.key) 4 enV [⟨2, 1, ⟨#[]⟩⟩]) (hkW : ∀ i, (slV o.key).ownBlock = some i → ¬ W tb S0 i) {Fin : TS → Prop} : StepOk w d m tb S0 WkQ Fin 0 o := by
  intro u S CL L ht hD hPj
  obtain ⟨h, rfl⟩ : Wk [rX, rY] S ∧ CL = [] := hPj
  obtain ⟨kind, tbl, key, to, row, ix, at0, on, lim⟩ := o
  dsimp only at hk htb hkey hkW
  subst hk htb
  have hkey' := sliceAt_turn hkey ht hkW
  have hvw := hD.tab.view
  have hat := hD.tab.main.at
  obtain ⟨a, b, hR, ha, hb⟩ := cont_two h.R
  have hrl : ∀ b, S.rv.ownBlock = some b → b < u.heap.size := fun b hb => hD.tab.wlt (Or.inr (Or.inl hb))
  have ok2 : OkV ⟨2, 1, ⟨#[]⟩⟩ := Or.inr (Or.inl ⟨rfl, rfl⟩)
  have hro : rowOf S.kcols S.R [⟨2, 1, ⟨#[]⟩⟩] = some a := by
    unfold rowOf
    rw [h.kc, h.R, hR]
    have e1 : begN [0] [rX, rY] [⟨2, 1, ⟨#[]⟩⟩] 1 = 1 := by kernel_rfl
    have e2 : plc [0] [rX, rY] [⟨2, 1, ⟨#[]⟩⟩] = 0 := by kernel_rfl
    rw [e1, e2]
    rfl
  have hrG : RowG u a := (hD.tab.main.ro a (by rw [hR]; exact List.mem_cons_self ..)).1
  have em : (some a).map Rw.vs = some rX := by rw [Option.map_some, ha]
  refine ⟨39, 0, some a, none, fun _ => [a], rfl, by rw [h.T]; rfl, fun u' hu' => ?_, fun now u' hu' hnow hrows => ?_, fun q => absurd rfl q⟩
  · have := remove_ok hvw hat hkey' (by simp) (by rw [h.T]; rfl) (by rw [h.kc]; simp) (by rw [h.T, h.kc]; exact of_one ⟨2, 1, ⟨#[]⟩⟩ 0 ⟨#[97]⟩ (by decide) ok2 rfl) (by rw [h.kc, h.R]; exact mono_of (by kernel_rfl)) hrl u' hu' hro 4 ⟨#[116]⟩ (slV to) (slV row) ix at0 on lim ⟨_, _, _, rfl⟩ ⟨_, _, _, rfl⟩
    exact this.mono fun e w' hw' => eff_rem hw' hrl
  · have hn : now = none := by
      cases now with
      | none => rfl
      | some r => simp at hnow
    subst hn
    have hrG' : RowG u' a := hrG.kept (Turn.ofBelow (fun _ => False) hu') (fun _ _ q => q.elim)
    refine ⟨fun r hr => ?_, by simp, fun _ => ⟨fun r hr => by cases hr; exact hrG', h.swP (fun r hr => by cases hr; rw [ha]; rfl) (fun r hr => by cases hr) (by decide) (by rw [em]; kernel_rfl) rfl (by rw [em]; kernel_rfl) rfl, fun S' hs => ⟨h.swap hs (by rw [em]; kernel_rfl) (by rw [em]; kernel_rfl), a, rfl, ha⟩⟩⟩
    have : r = a := by simpa using hr
    subst this
    exact ⟨hrG', by rw [ha]; simp [row1], by rw [ha]; simp [row1]⟩

abbrev opFind1 (pk : Nat) : OpR := ⟨6, ⟨#[116]⟩, (some ⟨pk, 0, none⟩, 1, 1), (none, 0, 0), (none, 0, 0), ⟨#[105]⟩, 0, 0, 9⟩
abbrev opDel1 (pk : Nat) : OpR := ⟨4, ⟨#[116]⟩, (some ⟨pk, 0, none⟩, 1, 2), (none, 0, 0), (none, 0, 0), ⟨#[]⟩, 0, 0, 0⟩
theorem row1_at {pr : Nat} {n : Int} {s : ByteArray} (h : u.heap[pr]? = some (rowO1 n s)) : SliceAt u (.slice (some ⟨pr, 0, none⟩) 2 2) 4 enV (row1 n s) :=
  sliceAt_flat (en := enV) (n := 4) (L := row1 n s) (cap := 2) (fun _ => rfl) h rfl (by simp [row1]) (by decide)
theorem val_not (h : DG u d m tb S) {p : Nat} {c : Array Value} {z : Nat × Nat} (hp : u.heap[p]? = some (.cells c 36 z)) : ¬ W tb S p := fun q => Ty.not hp (by decide) (by decide) (by decide) (h.tab.wty q)
theorem op_not (h : DG u d m tb S) {p : Nat} {c : Array Value} {z : Nat × Nat} (hp : u.heap[p]? = some (.cells c 39 z)) : ¬ W tb S p := fun q => Ty.not hp (by decide) (by decide) (by decide) (h.tab.wty q)
theorem own_is {p n c : Nat} {b : Nat} (h : (Value.slice (some ⟨p, 0, none⟩) n c).ownBlock = some b) : p = b := by simpa [Value.ownBlock] using h

/-- what the first batch tells, where it lies -/
structure Told1 (u A : World) (d m tb : Nat) (S : TS) (S' : TS) (rb gb : Nat) (q : Rw) (rc : Nat) : Prop where
  gone : Gone u tb S A S'
  dat : DG A d m tb S'
  wk : Wk [rX, rY] S'
  c5 : A.cell? ⟨rb, 5, none⟩ = some (.slice (some ⟨gb, 0, none⟩) 1 1)
  c0 : A.cell? ⟨gb, 0, none⟩ = some (.slice (some ⟨q.g, 0, none⟩) 2 q.c)
  c1 : A.cell? ⟨q.g, 1, none⟩ = some (.int .i64 2)
  l1 : rb < A.heap.size ∧ gb < A.heap.size ∧ q.g < A.heap.size
  room : 3 ≤ rc ∧ 2 ≤ q.c
theorem batch1 (h : DG u d m tb S) (hN : Wk [] S) {po p1 p2 pk : Nat} (h1 : u.heap[p1]? = some (rowO1 1 tx)) (h2 : u.heap[p2]? = some (rowO1 2 ty)) (h3 : u.heap[pk]? = some (.cells #[.int .i64 5, .int .i64 0, .complex .f64 0 0, .string ty] 36 (0, 0)))
    (h4 : u.heap[po]? = some (.cells (flat enO [opPut2 p1, opPut2 p2, opFind1 pk]).toArray 39 (0, 0))) :
    Calls Tryz.prog 7 #[.pointer (some ⟨d, 0, none⟩), .slice (some ⟨po, 0, none⟩) 3 3] u fun e A => ∃ rb rc gb q, e = .returned (.tuple #[.slice (some ⟨rb, 0, none⟩) 3 rc, .bool true, .int .i64 0]) ∧ Hid (∃ S', Told1 u A d m tb S S' rb gb q rc) := by
  have ho : SliceAt u (.slice (some ⟨po, 0, none⟩) 3 3) 9 enO [opPut2 p1, opPut2 p2, opFind1 pk] := sliceAt_flat (en := enO) (n := 9) (L := [opPut2 p1, opPut2 p2, opFind1 pk]) (cap := 3) (fun _ => rfl) h4 rfl (by simp) (by decide)
  have hkey : SliceAt u (.slice (some ⟨pk, 0, none⟩) 1 1) 4 enV [⟨5, 0, ty⟩] := sliceAt_flat (en := enV) (n := 4) (L := [⟨5, 0, ty⟩]) (cap := 1) (fun _ => rfl) h3 rfl (by simp) (by decide)
  refine (apply_any (P := WkP) (Fin := fun _ => False) h _ _ ho (fun b hb q => op_not h h4 (own_is hb ▸ q)) (by simp) hN (fun j o hj => ?_)).mono ?_
  · obtain ⟨hj', e⟩ := List.getElem?_eq_some_iff.1 hj
    have hj3 : j = 0 ∨ j = 1 ∨ j = 2 := by simp at hj'; omega
    rcases hj3 with rfl | rfl | rfl
    · have e' : opPut2 p1 = o := by simpa using e
      subst e'
      exact st_put (c := []) (c' := [rX]) _ rfl rfl (row1_at h1) (fun b hb q => val_not h h1 (own_is hb ▸ q)) (by decide) (fun S _ _ k => k) (fun S _ _ k => k) (fun v hv => by cases hv) (by decide) (by kernel_rfl) (by kernel_rfl) (by kernel_rfl) (by kernel_rfl) (by kernel_rfl) (by kernel_rfl) (by kernel_rfl) (by kernel_rfl)
    · have e' : opPut2 p2 = o := by simpa using e
      subst e'
      exact st_put (c := [rX]) (c' := [rX, rY]) _ rfl rfl (row1_at h2) (fun b hb q => val_not h h2 (own_is hb ▸ q)) (by decide) (fun S _ _ k => k) (fun S _ _ k => k) (fun v hv => by rw [List.mem_singleton.1 hv]; rfl) (by decide) (by kernel_rfl) (by kernel_rfl) (by kernel_rfl) (by kernel_rfl) (by kernel_rfl) (by kernel_rfl) (by kernel_rfl) (by kernel_rfl)
    · have e' : opFind1 pk = o := by simpa using e
      subst e'
      exact st_find (opFind1 pk) rfl rfl rfl rfl hkey (fun b hb q => val_not h h3 (own_is hb ▸ q))
  · rintro e A ⟨ra, rn, rc, done, rfl, ⟨rfl, S', CL, L, R, g1, g2, ⟨g3, rfl⟩, g4⟩ | ⟨_, S', _, _, g3⟩⟩
    · obtain ⟨e1, ⟨_, e2⟩ | ⟨rb, cap, cur, e3, _, e4, e5, e6, e7, e8⟩⟩ := g4.row
      · cases e2
      · cases e3
        have hR := g4.len
        obtain ⟨x0, x1, x2, rfl⟩ : ∃ x0 x1 x2, R = [x0, x1, x2] := by
          match R, hR with
          | [x0, x1, x2], _ => exact ⟨x0, x1, x2, rfl⟩
        obtain ⟨gb, Q, k1, k2, k3, k4⟩ := g4.last x2 rfl
        have hQ : ∃ q, Q = [q] ∧ q.vs = rY := by
          cases Q with
          | nil => cases k2
          | cons q Q =>
            cases Q with
            | cons q' Q => simp [cont] at k2
            | nil => exact ⟨q, rfl, by simpa [cont] using k2⟩
        obtain ⟨q, rfl, hq⟩ := hQ
        have hl : q.vs.length = 2 := by rw [hq]; rfl
        have hr := (k4 q (List.mem_singleton_self _)).1
        rw [hl] at hr
        have hc5 : cur[5]? = some x2.2 := by
          have : (cur.toList.take (3 * 2))[5]? = some x2.2 := by rw [show cur.toList.take (3 * 2) = flat enRs [x0, x1, x2] from e8]; rfl
          rw [List.getElem?_take_of_lt (by decide), Array.getElem?_toList] at this
          exact this
        refine ⟨rb, rc, gb, q, rfl, S', g1, g2, g3, ?_, ?_, (hr.cells (i := 0) (y := ⟨2, 2, ⟨#[]⟩⟩) (by rw [hq]; rfl)).2.1, ⟨lt_of e4, lt_of k3, hr.lt.2⟩, e5, ?_⟩
        · rw [cell_of e4, hc5, k1]; rfl
        · rw [cell_of k3]
          show some q.val = _
          unfold Rw.val
          rw [hl]
        · obtain ⟨_, _, _, h4, _⟩ := hr
          exact h4
    · exact g3.elim
theorem batch2 (h : DG u d m tb S) (hN : Wk [rX, rY] S) {po pk pr : Nat} (h1 : u.heap[pk]? = some (rowO1 1 ⟨#[]⟩)) (h2 : u.heap[pr]? = some (rowO1 3 ty))
    (h4 : u.heap[po]? = some (.cells (flat enO [opDel1 pk, opPut2 pr]).toArray 39 (0, 0))) :
    Calls Tryz.prog 7 #[.pointer (some ⟨d, 0, none⟩), .slice (some ⟨po, 0, none⟩) 2 2] u fun e A => ∃ ra rn rc, e = .returned (.tuple #[.slice ra rn rc, .bool false, .int .i64 0]) ∧ Hid (∃ S', Gone u tb S A S' ∧ DG A d m tb S' ∧ Wk [rX, rY] S') := by
  have ho : SliceAt u (.slice (some ⟨po, 0, none⟩) 2 2) 9 enO [opDel1 pk, opPut2 pr] := sliceAt_flat (en := enO) (n := 9) (L := [opDel1 pk, opPut2 pr]) (cap := 2) (fun _ => rfl) h4 rfl (by simp) (by decide)
  have hkey : SliceAt u (.slice (some ⟨pk, 0, none⟩) 1 2) 4 enV [⟨2, 1, ⟨#[]⟩⟩] := sliceAt_flat (en := enV) (n := 4) (L := [⟨2, 1, ⟨#[]⟩⟩]) (cap := 2) (fun _ => rfl) h1 rfl (by simp) (by decide)
  refine (apply_any (P := WkQ) (Fin := fun S => Wk [rX, rY] S) h _ _ ho (fun b hb q => op_not h h4 (own_is hb ▸ q)) (by simp) ⟨hN, rfl⟩ (fun j o hj => ?_)).mono ?_
  · obtain ⟨hj', e⟩ := List.getElem?_eq_some_iff.1 hj
    have hj3 : j = 0 ∨ j = 1 := by simp at hj'; omega
    rcases hj3 with rfl | rfl
    · have e' : opDel1 pk = o := by simpa using e
      subst e'
      exact st_del (opDel1 pk) rfl rfl hkey (fun b hb q => val_not h h1 (own_is hb ▸ q))
    · have e' : opPut2 pr = o := by simpa using e
      subst e'
      refine st_clash (c := [rY]) _ rfl rfl (row1_at h2) (fun b hb q => val_not h h2 (own_is hb ▸ q)) (by decide) (fun S CL L k => ?_) (fun v hv => by rw [List.mem_singleton.1 hv]; rfl) (by kernel_rfl) (by kernel_rfl)
      obtain ⟨k1, r, rfl, hr⟩ : Wk [rY] S ∧ ∃ r, CL = [(some r, none)] ∧ r.vs = rX := k
      have em : (some r).map Rw.vs = some rX := by rw [Option.map_some, hr]
      exact ⟨k1, k1.swP (fun q hq => by cases hq) (fun q hq => by cases hq; rw [hr]; rfl) (by decide) rfl (by rw [em]; kernel_rfl) rfl (by rw [em]; kernel_rfl), fun S' hs => k1.swap hs (by rw [em]; kernel_rfl) (by rw [em]; kernel_rfl)⟩
  · rintro e A ⟨ra, rn, rc, done, rfl, ⟨rfl, S', CL, L, R, g1, g2, g3, g4⟩ | ⟨rfl, S', g1, g2, g3⟩⟩
    · exact False.elim g3
    · exact ⟨ra, rn, rc, rfl, S', g1, g2, g3⟩
theorem rows1 (h : DG u d m tb S) (hW : Wk [rX, rY] S) : Calls Tryz.prog 8 #[.pointer (some ⟨d, 0, none⟩), .string ⟨#[116]⟩] u fun e w' => ∃ gb, e = .returned (.tuple #[.slice (some ⟨gb, 0, none⟩) 2 2, .int .i64 0]) ∧ Below u.heap.size u w' := by
  have hT : S.T.nm = ⟨#[116]⟩ := by rw [hW.T]; rfl
  have hl := (hW.len (c := [rX, rY]) (by intro v hv; rcases List.mem_cons.1 hv with rfl | hv; rfl; rw [List.mem_singleton.1 hv]; rfl)).1
  have hc := rows_any h (fun r hr => ⟨(h.tab.main.ro r hr).1, (fun q => by have := hl r hr; rw [q] at this; cases this), by rw [hl r hr]; decide⟩)
  rw [hT] at hc
  have hR : S.R.length = 2 := by rw [← cont_length, hW.R]; rfl
  refine hc.mono ?_
  rintro e w' ⟨gb, Q, rfl, q1, q2, q3, q4, q5⟩
  rw [hR]
  exact ⟨gb, rfl, q5⟩
end

end Go.Proofs.YtfddmibaojfalaaGreat

/- The chapter's example of layer 15. -/
namespace Go.Proofs.YtfddmibaojfalaaGreat
open Go.RowKit Go.Maps

abbrev keyO1 : Obj := .cells #[.int .i64 5, .int .i64 0, .complex .f64 0 0, .string ⟨#[121]⟩] 36
abbrev opsO1 (p1 p2 pk : Nat) : Obj := .cells #[.int .i64 2, .string ⟨#[116]⟩, .slice none 0 0, .slice none 0 0, .slice (some ⟨p1, 0, none⟩) 2 2, .string ⟨#[]⟩, .int .i64 0, .int .i64 0, .int .i64 0, .int .i64 2, .string ⟨#[116]⟩, .slice none 0 0, .slice none 0 0, .slice (some ⟨p2, 0, none⟩) 2 2, .string ⟨#[]⟩, .int .i64 0, .int .i64 0, .int .i64 0, .int .i64 6, .string ⟨#[116]⟩, .slice (some ⟨pk, 0, none⟩) 1 1, .slice none 0 0, .slice none 0 0, .string ⟨#[105]⟩, .int .i64 0, .int .i64 0, .int .i64 9] 39
abbrev opsO2 (pk pr : Nat) : Obj := .cells #[.int .i64 4, .string ⟨#[116]⟩, .slice (some ⟨pk, 0, none⟩) 1 2, .slice none 0 0, .slice none 0 0, .string ⟨#[]⟩, .int .i64 0, .int .i64 0, .int .i64 0, .int .i64 2, .string ⟨#[116]⟩, .slice none 0 0, .slice none 0 0, .slice (some ⟨pr, 0, none⟩) 2 2, .string ⟨#[]⟩, .int .i64 0, .int .i64 0, .int .i64 0] 39

theorem three_new (w : World) (a b c : Obj) : Below w.heap.size w (((w.alloc a).alloc b).alloc c).drew ∧ (((w.alloc a).alloc b).alloc c).drew.heap[w.heap.size]? = some a ∧ (((w.alloc a).alloc b).alloc c).drew.heap[w.heap.size + 1]? = some b ∧ (((w.alloc a).alloc b).alloc c).drew.heap[w.heap.size + 1 + 1]? = some c := by
  have z1 : (w.alloc a).heap.size = w.heap.size + 1 := by simp
  have z2 : ((w.alloc a).alloc b).heap.size = w.heap.size + 1 + 1 := by simp
  refine ⟨bl_drew (bl_alloc (bl_alloc (bl_alloc (Below.refl _ _) _) _) _), ?_, ?_, ?_⟩
  · show (((w.alloc a).alloc b).alloc c).heap[w.heap.size]? = some a
    rw [Below.heap_alloc _ _ _ (by omega), Below.heap_alloc _ _ _ (by omega)]
    exact heap_new w a
  · show (((w.alloc a).alloc b).alloc c).heap[w.heap.size + 1]? = some b
    rw [Below.heap_alloc _ _ _ (by omega), ← z1]
    exact heap_new _ b
  · show (((w.alloc a).alloc b).alloc c).heap[w.heap.size + 1 + 1]? = some c
    rw [← z2]
    exact heap_new _ c

set_option linter.unusedSimpArgs false in
set_option maxRecDepth 100000 in
set_option maxHeartbeats 4000000 in
theorem works15_any (w : World) : Calls Tryz.prog 4 #[] w fun e w' => e = .returned (.bool true) ∧ Below w.heap.size w w' := by
  have HNw : Hid (∀ u : World, Calls Tryz.prog 5 #[] u fun e w' => ∃ d c m, e = .returned (.pointer (some ⟨d, 0, none⟩)) ∧ Hid (D0 w' u.heap.size w'.heap.size d c m) ∧ Hid (Below u.heap.size u w')) := new15_any
  have HSm : Hid (∀ u : World, Calls Tryz.prog 10 #[.bool true] u fun e w' => ∃ pc pi, e = .returned (.agg #[.string ⟨#[116]⟩, .slice (some ⟨pc, 0, none⟩) 2 2, .int .i64 1, .slice (some ⟨pi, 0, none⟩) 1 1]) ∧ Hid (TabV w' (.slice (some ⟨pc, 0, none⟩) 2 2) (.slice (some ⟨pi, 0, none⟩) 1 1) T1 ∧ Below u.heap.size u w')) := small_any
  have HRw : Hid (∀ (n : Int) (s : ByteArray) (u : World), Calls Tryz.prog 11 #[.int .i64 n, .string s] u fun e w' => e = .returned (.slice (some ⟨u.heap.size, 0, none⟩) 2 2) ∧ w' = u.alloc (rowO1 n s)) := row15_any
  go_enter Tryz.func4, Tryz.ntmps4
  go_wp2_with fail
  refine (HNw.out _).mono ?_
  rintro e w1 ⟨d, c, m, rfl, HD, HB1⟩
  go_wp2_with fail
  refine (HSm.out _).mono ?_
  rintro e w2 ⟨pc, pi, rfl, HT⟩
  have HD2 : Hid (D0 w2 w.heap.size w1.heap.size d c m) := HD.out.kept (Turn.ofBelow (fun _ => False) HT.out.2) (fun _ _ _ q => q)
  have HC : Hid (Calls Tryz.prog 6 #[.pointer (some ⟨d, 0, none⟩), .agg #[.string ⟨#[116]⟩, .slice (some ⟨pc, 0, none⟩) 2 2, .int .i64 1, .slice (some ⟨pi, 0, none⟩) 1 1]] w2 (CrR w.heap.size w1.heap.size d m T1 (NewIx ⟨#[105]⟩ true) w2)) := create15 HD2.out (Below.refl _ _) _ _ T1 HT.out.1 T1_rg (by decide) T1_may (NewIx ⟨#[105]⟩ true) (fun u cv iv X ht => newTable_one ht rfl ⟨#[105]⟩ true rfl)
  unfold CrR at HC
  go_wp2_with fail
  refine HC.out.mono ?_
  rintro e w3 ⟨rfl, tb, S, a1, a2, a3, a4, a5, a6, a7⟩
  have HW0 : Hid (Wk [] S) := ⟨a2, a3, by rw [a4]; rfl, by obtain ⟨x, x1, x2, x3, x4, x5, x6⟩ := a5; exact ⟨x, x1, x2, x3, x4, x5, by rw [x6]; rfl⟩⟩
  have HD3 : Hid (DG w3 d m tb S) := a1
  have HB2 : Hid (Below w.heap.size w w2) := HB1.out.trans (HT.out.2.mono HB1.out.size)
  have HB3 : Hid (Below w.heap.size w w3) := ((Turn.ofBelow (fun i => w.heap.size ≤ i) HB2.out).trans (a7.mono fun i q => q.1)).toBelow (Nat.le_refl _)
  have HWs : Hid (∀ i, W tb S i → w.heap.size ≤ i) := fun i hi => Nat.le_trans HB2.out.size (a6 i hi)
  clear a1 a2 a3 a4 a5 a6 a7 HC HT HD HD2 HB1 HB2 HNw HSm
  go_wp2_with fail
  refine (HRw.out _ _ _).mono ?_
  obtain ⟨p1, hp1⟩ : ∃ x, w3.heap.size = x := ⟨_, rfl⟩
  obtain ⟨w4, hw4⟩ : ∃ u, w3.alloc (rowO1 1 ⟨#[120]⟩) = u := ⟨_, rfl⟩
  rw [hp1, hw4]
  rintro e w4' ⟨rfl, hw4'⟩
  obtain rfl := hw4'.symm
  go_wp2_with fail
  refine (HRw.out _ _ _).mono ?_
  have z4 : w4.heap.size = p1 + 1 := by rw [← hw4, ← hp1]; simp
  obtain ⟨w5, hw5⟩ : ∃ u, w4.alloc (rowO1 2 ⟨#[121]⟩) = u := ⟨_, rfl⟩
  rw [z4, hw5]
  rintro e w5' ⟨rfl, hw5'⟩
  obtain rfl := hw5'.symm
  go_wp2_with fail
  have z5 : w5.heap.size = p1 + 1 + 1 := by rw [← hw5]; simp; omega
  rw [z5]
  obtain ⟨w6, hw6⟩ : ∃ u, w5.alloc keyO1 = u := ⟨_, rfl⟩
  obtain ⟨w7, hw7⟩ : ∃ u, w6.alloc (opsO1 p1 (p1 + 1) (p1 + 1 + 1)) = u := ⟨_, rfl⟩
  have z6 : w6.heap.size = p1 + 1 + 1 + 1 := by rw [← hw6]; simp; omega
  have b3 : Below w3.heap.size w3 w7 := by rw [← hw7, ← hw6, ← hw5, ← hw4]; exact bl_alloc (bl_alloc (bl_alloc (bl_alloc (Below.refl _ _) _) _) _) _
  have n4 : w4.heap[p1]? = some (rowO1 1 ⟨#[120]⟩) := by rw [← hw4, ← hp1]; exact heap_new w3 _
  have n5 : w5.heap[p1 + 1]? = some (rowO1 2 ⟨#[121]⟩) := by rw [← hw5, ← z4]; exact heap_new w4 _
  have n6 : w6.heap[p1 + 1 + 1]? = some keyO1 := by rw [← hw6, ← z5]; exact heap_new w5 _
  have n7 : w7.heap[p1 + 1 + 1 + 1]? = some (opsO1 p1 (p1 + 1) (p1 + 1 + 1)) := by rw [← hw7, ← z6]; exact heap_new w6 _
  have k5 : ∀ i, i < w4.heap.size → w5.heap[i]? = w4.heap[i]? := fun i hi => by rw [← hw5]; exact Below.heap_alloc _ _ _ hi
  have k6 : ∀ i, i < w5.heap.size → w6.heap[i]? = w5.heap[i]? := fun i hi => by rw [← hw6]; exact Below.heap_alloc _ _ _ hi
  have k7 : ∀ i, i < w6.heap.size → w7.heap[i]? = w6.heap[i]? := fun i hi => by rw [← hw7]; exact Below.heap_alloc _ _ _ hi
  have m1 : w7.heap[p1]? = some (rowO1 1 ⟨#[120]⟩) := by rw [k7 _ (by omega), k6 _ (by omega), k5 _ (by omega)]; exact n4
  have m2 : w7.heap[p1 + 1]? = some (rowO1 2 ⟨#[121]⟩) := by rw [k7 _ (by omega), k6 _ (by omega)]; exact n5
  have m3 : w7.heap[p1 + 1 + 1]? = some keyO1 := by rw [k7 _ (by omega)]; exact n6
  have HD7 : Hid (DG w7 d m tb S) := HD3.out.below b3
  have HB7 : Hid (Below w.heap.size w w7) := HB3.out.trans (b3.mono HB3.out.size)
  have HA : Hid (Calls Tryz.prog 7 #[.pointer (some ⟨d, 0, none⟩), .slice (some ⟨p1 + 1 + 1 + 1, 0, none⟩) 3 3] w7 fun e A => ∃ rb rc gb q, e = .returned (.tuple #[.slice (some ⟨rb, 0, none⟩) 3 rc, .bool true, .int .i64 0]) ∧ Hid (∃ S', Told1 w7 A d m tb S S' rb gb q rc)) := batch1 HD7.out HW0.out m1 m2 m3 n7
  rw [hw6, hw7]
  clear hp1 hw4 hw5 hw6 hw7 z4 z5 z6 b3 n4 n5 n6 n7 k5 k6 k7 m1 m2 m3 HD3 HB3
  refine HA.out.mono ?_
  rintro e w8 ⟨rb, rc, gb, ⟨qg, qc, qvs⟩, rfl, HP⟩
  obtain ⟨S', hT⟩ := HP.out
  have c5 := hT.c5
  have c0 := hT.c0
  have c1 := hT.c1
  obtain ⟨l1, l2, l3⟩ := hT.l1
  obtain ⟨r1, r2⟩ := hT.room
  dsimp only at c5 c0 c1 l1 l2 l3 r1 r2
  have HD8 : Hid (DG w8 d m tb S') := hT.dat
  have HW8 : Hid (Wk [rX, rY] S') := hT.wk
  have HB8 : Hid (Below w.heap.size w w8) := ((Turn.ofBelow (fun i => w.heap.size ≤ i) HB7.out).trans (hT.gone.turn.mono fun i hi => HWs.out i hi)).toBelow (Nat.le_refl _)
  have HWt : Hid (∀ i, W tb S' i → w.heap.size ≤ i) := fun i hi => by
    rcases hT.gone.new i hi with q | q
    · exact HWs.out i q
    · exact Nat.le_trans HB7.out.size q
  clear hT HP HA HD7 HW0 HB7 HWs
  go_wp2_with fail
  have HAp : Hid (∀ (u : World) (po pk pr : Nat), Below w8.heap.size w8 u → u.heap[pk]? = some (rowO1 1 ⟨#[]⟩) → u.heap[pr]? = some (rowO1 3 ⟨#[121]⟩) → u.heap[po]? = some (opsO2 pk pr) → Calls Tryz.prog 7 #[.pointer (some ⟨d, 0, none⟩), .slice (some ⟨po, 0, none⟩) 2 2] u fun e A => ∃ ra rn rc, e = .returned (.tuple #[.slice ra rn rc, .bool false, .int .i64 0]) ∧ Hid (∃ S2, DG A d m tb S2 ∧ Wk [rX, rY] S2 ∧ Below w.heap.size w A)) := fun u po pk pr hu h1 h2 h3 => by
    refine (batch2 (HD8.out.below hu) HW8.out h1 h2 h3).mono ?_
    rintro e A ⟨ra, rn, rc, rfl, H⟩
    obtain ⟨S2, k1, k2, k3⟩ := H.out
    exact ⟨ra, rn, rc, rfl, S2, k2, k3, ((Turn.ofBelow (fun i => w.heap.size ≤ i) (HB8.out.trans (hu.mono HB8.out.size))).trans (k1.turn.mono fun i hi => HWt.out i hi)).toBelow (Nat.le_refl _)⟩
  have HA1 : Hid (Calls Tryz.prog 7 #[.pointer (some ⟨d, 0, none⟩), .slice (some ⟨w8.heap.size + 1 + 1, 0, none⟩) 2 2] (((w8.alloc (rowO1 1 ⟨#[]⟩)).alloc (rowO1 3 ⟨#[121]⟩)).alloc (opsO2 w8.heap.size (w8.heap.size + 1))).drew fun e A => ∃ ra rn rc, e = .returned (.tuple #[.slice ra rn rc, .bool false, .int .i64 0]) ∧ Hid (∃ S2, DG A d m tb S2 ∧ Wk [rX, rY] S2 ∧ Below w.heap.size w A)) := by
    obtain ⟨q0, q1, q2, q3⟩ := three_new w8 (rowO1 1 ⟨#[]⟩) (rowO1 3 ⟨#[121]⟩) (opsO2 w8.heap.size (w8.heap.size + 1))
    exact HAp.out _ _ _ _ q0 q1 q2 q3
  have HA2 : Hid (Calls Tryz.prog 7 #[.pointer (some ⟨d, 0, none⟩), .slice (some ⟨w8.heap.size + 1 + 1, 0, none⟩) 2 2] (((w8.alloc (rowO1 3 ⟨#[121]⟩)).alloc (rowO1 1 ⟨#[]⟩)).alloc (opsO2 (w8.heap.size + 1) w8.heap.size)).drew fun e A => ∃ ra rn rc, e = .returned (.tuple #[.slice ra rn rc, .bool false, .int .i64 0]) ∧ Hid (∃ S2, DG A d m tb S2 ∧ Wk [rX, rY] S2 ∧ Below w.heap.size w A)) := by
    obtain ⟨q0, q1, q2, q3⟩ := three_new w8 (rowO1 3 ⟨#[121]⟩) (rowO1 1 ⟨#[]⟩) (opsO2 (w8.heap.size + 1) w8.heap.size)
    exact HAp.out _ _ _ _ q0 q2 q1 q3
  clear c5 c0 c1 l1 l2 l3 r1 r2 HAp
  go_region_with (first | (go_at_call 11; refine (HRw.out _ _ _).mono ?_; rintro e wz ⟨rfl, rfl⟩) | (go_at_call 7; refine HA1.out.mono ?_; rintro e w9 ⟨ra2, rn2, rc2, rfl, HZ⟩) | (go_at_call 7; refine HA2.out.mono ?_; rintro e w9 ⟨ra2, rn2, rc2, rfl, HZ⟩))
  all_goals
    obtain ⟨S2, k1, k2, k3⟩ := HZ.out
    have HR : Hid (Calls Tryz.prog 8 #[.pointer (some ⟨d, 0, none⟩), .string ⟨#[116]⟩] w9 fun e w' => ∃ gb, e = .returned (.tuple #[.slice (some ⟨gb, 0, none⟩) 2 2, .int .i64 0]) ∧ Below w9.heap.size w9 w') := rows1 k1 k2
    have HB9 : Hid (Below w.heap.size w w9) := k3
    clear k1 k2 k3 HZ HA1 HA2
    go_wp2_with fail
    refine HR.out.mono ?_
    rintro e w10 ⟨gz, rfl, b10⟩
    have HB10 : Hid (Below w.heap.size w w10) := HB9.out.trans (b10.mono HB9.out.size)
    clear b10 HR HB9
    go_wp2_with fail
    go_ret
    exact ⟨rfl, HB10.out⟩

end Go.Proofs.YtfddmibaojfalaaGreat
