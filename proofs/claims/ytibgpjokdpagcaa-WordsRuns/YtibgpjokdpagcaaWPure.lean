/- Tasks, cells and steps in plain words. Nothing here speaks of memory. -/
import Derived.Test.YtibgpjokdpagcaaBase
namespace Go.Proofs.Ytibgpjokdpagcaa
open Go.RowKit

structure InsV where
  kind : Int
  a : Int
  b : Int
  n : Int

def InsV.en (x : InsV) : List Value := [.int .i64 x.kind, .int .i64 x.a, .int .i64 x.b, .int .i64 x.n]

/-- its registers are -/
def InsV.regs (x : InsV) : Prop := 0 ≤ x.a ∧ x.a < 8 ∧ 0 ≤ x.b ∧ x.b < 8
/-- its number may be -/
def InsV.num (x : InsV) (many cells : Int) : Prop :=
  if x.kind = 1 ∨ x.kind = 2 ∨ x.kind = 3 ∨ x.kind = 8 then True
  else if x.kind = 4 ∨ x.kind = 5 ∨ x.kind = 6 then 0 ≤ x.n ∧ x.n < cells
  else if x.kind = 7 then 0 ≤ x.n ∧ x.n ≤ many else False
def InsV.may (x : InsV) (many cells : Int) : Prop := x.regs ∧ x.num many cells

def InsV.mayDec (x : InsV) (m c : Int) : Decidable (x.may m c) := by unfold InsV.may InsV.regs InsV.num; exact inferInstance
def InsV.mayB (x : InsV) (m c : Int) : Bool := @decide (x.may m c) (x.mayDec m c)
theorem mayB_true {x : InsV} {m c : Int} : x.mayB m c = true ↔ x.may m c := @decide_eq_true_iff _ (x.mayDec m c)

/-- the place of the first instruction that may not be -/
def badAt (many cells : Int) : List InsV → Nat → Option Nat
  | [], _ => none
  | x :: r, i => if x.mayB many cells then badAt many cells r (i + 1) else some i

def taskE (L : List InsV) (cells : Int) : Int × Int :=
  if 4096 < L.length then (0, 2) else match badAt L.length cells L 0 with
    | none => (0, 0)
    | some i => ((i : Int), 30)

def tasksE (cells : Int) : List (List InsV) → Nat → Int × Int × Int
  | [], _ => (0, 0, 0)
  | L :: r, t => if (taskE L cells).2 = 0 then tasksE cells r (t + 1) else ((t : Int), taskE L cells)

def checkE (T : List (List InsV)) (cells : Int) : Int × Int × Int :=
  if 4096 < T.length ∨ cells < 0 ∨ 4096 < cells then (0, 0, 2) else tasksE cells T 0

theorem badAt_drop {many cells : Int} {L : List InsV} {j : Nat} (h : j < L.length) : badAt many cells (L.drop j) j = if (L[j]).mayB many cells then badAt many cells (L.drop (j + 1)) (j + 1) else some j := by
  rw [List.drop_eq_getElem_cons h, badAt]
theorem tasksE_drop {cells : Int} {T : List (List InsV)} {j : Nat} (h : j < T.length) : tasksE cells (T.drop j) j = if (taskE T[j] cells).2 = 0 then tasksE cells (T.drop (j + 1)) (j + 1) else ((j : Int), taskE T[j] cells) := by
  rw [List.drop_eq_getElem_cons h, tasksE]

theorem badAt_none {many cells : Int} : ∀ {L : List InsV} {i : Nat}, badAt many cells L i = none → ∀ x ∈ L, x.may many cells
  | y :: r, i, h, x, hx => by
    rw [badAt] at h
    split at h
    · rename_i hy
      rcases List.mem_cons.1 hx with rfl | hx
      · exact mayB_true.1 hy
      · exact badAt_none h x hx
    · cases h
theorem badAt_all {many cells : Int} : ∀ {L : List InsV} {i : Nat}, (∀ x ∈ L, x.may many cells) → badAt many cells L i = none
  | [], _, _ => rfl
  | y :: r, i, h => by
    rw [badAt, if_pos (mayB_true.2 (h y (by simp)))]
    exact badAt_all (fun x hx => h x (by simp [hx]))

/-- a task that may be -/
structure TaskOk (L : List InsV) (cells : Int) : Prop where
  len : L.length ≤ 4096
  all : ∀ x ∈ L, x.may L.length cells

theorem taskE_ok {L : List InsV} {cells : Int} : (taskE L cells).2 = 0 ↔ TaskOk L cells := by
  unfold taskE
  constructor
  · intro h
    split at h
    · simp at h
    · rename_i hl
      split at h
      · rename_i hb
        exact ⟨by omega, badAt_none hb⟩
      · simp at h
  · intro h
    rw [if_neg (by have := h.len; omega), badAt_all h.all]

theorem tasksE_ok {cells : Int} : ∀ {T : List (List InsV)} {t : Nat}, (tasksE cells T t).2.2 = 0 ↔ ∀ L ∈ T, TaskOk L cells
  | [], _ => by simp [tasksE]
  | L :: r, t => by
    rw [tasksE]
    by_cases h : (taskE L cells).2 = 0
    · rw [if_pos h, tasksE_ok]
      have h2 := taskE_ok.1 h
      constructor
      · intro h3 y hy
        rcases List.mem_cons.1 hy with rfl | hy
        · exact h2
        · exact h3 y hy
      · intro h3 y hy
        exact h3 y (by simp [hy])
    · rw [if_neg h]
      constructor
      · intro h3; exact absurd h3 h
      · intro h3; exact absurd (taskE_ok.2 (h3 L (by simp))) h

/-- tasks that may be -/
structure TasksOk (T : List (List InsV)) (cells : Nat) : Prop where
  len : T.length ≤ 4096
  few : cells ≤ 4096
  all : ∀ L ∈ T, TaskOk L cells

theorem checkE_ok {T : List (List InsV)} {cells : Nat} : (checkE T cells).2.2 = 0 ↔ TasksOk T cells := by
  unfold checkE
  by_cases h : 4096 < T.length ∨ (cells : Int) < 0 ∨ 4096 < (cells : Int)
  · rw [if_pos h]
    constructor
    · intro h2; simp at h2
    · intro h2
      have h3 := h2.len
      have h4 := h2.few
      omega
  · rw [if_neg h, tasksE_ok]
    constructor
    · intro h2; exact ⟨by omega, by omega, h2⟩
    · intro h2; exact h2.all

theorem tasksE_zero {cells : Int} : ∀ {T : List (List InsV)} {t : Nat}, (tasksE cells T t).2.2 = 0 → tasksE cells T t = (0, 0, 0)
  | [], _, _ => rfl
  | L :: r, t, h => by
    rw [tasksE] at h ⊢
    by_cases h2 : (taskE L cells).2 = 0
    · rw [if_pos h2] at h ⊢; exact tasksE_zero h
    · rw [if_neg h2] at h; exact absurd h h2
theorem checkE_zero {T : List (List InsV)} {cells : Int} (h : (checkE T cells).2.2 = 0) : checkE T cells = (0, 0, 0) := by
  unfold checkE at h ⊢
  split at h
  · simp at h
  · rename_i h2
    rw [if_neg h2]
    exact tasksE_zero h

/-! ### steps -/
/-- a task's registers and place, and the cells -/
structure St where
  r : List Int
  p : Nat
  c : List Int

abbrev two64 : Int := 18446744073709551616

/-- an instruction is done: what comes of it, and whether the step is at its end -/
def St.one (len : Nat) (s : St) (x : InsV) : St × Bool :=
  if x.kind = 1 then (⟨s.r.set x.a.toNat (x.n % two64), s.p + 1, s.c⟩, false)
  else if x.kind = 2 then (⟨s.r.set x.a.toNat (s.r.getD x.b.toNat 0), s.p + 1, s.c⟩, false)
  else if x.kind = 3 then (⟨s.r.set x.a.toNat ((s.r.getD x.b.toNat 0 + x.n) % two64), s.p + 1, s.c⟩, false)
  else if x.kind = 7 then (⟨s.r, if s.r.getD x.a.toNat 0 = 0 then x.n.toNat else s.p + 1, s.c⟩, false)
  else if x.kind = 4 then (⟨s.r.set x.a.toNat (s.c.getD x.n.toNat 0), s.p + 1, s.c⟩, true)
  else if x.kind = 5 then (⟨s.r, s.p + 1, s.c.set x.n.toNat (s.r.getD x.a.toNat 0)⟩, true)
  else if x.kind = 6 then
    (if s.c.getD x.n.toNat 0 = s.r.getD x.a.toNat 0 then (⟨s.r.set x.a.toNat 1, s.p + 1, s.c.set x.n.toNat (s.r.getD x.b.toNat 0)⟩, true)
     else (⟨s.r.set x.a.toNat 0, s.p + 1, s.c⟩, true))
  else (⟨s.r, len, s.c⟩, true)

/-- instructions are done, so many at most -/
def St.go (L : List InsV) : Nat → St → St
  | 0, s => s
  | k + 1, s => match L[s.p]? with
    | none => s
    | some x => if (s.one L.length x).2 then (s.one L.length x).1 else St.go L k (s.one L.length x).1

structure Words (l : List Int) : Prop where
  all : ∀ x ∈ l, 0 ≤ x ∧ x < two64
theorem Words.set {l : List Int} (h : Words l) {v : Int} (hv : 0 ≤ v ∧ v < two64) (i : Nat) : Words (l.set i v) := by
  refine ⟨fun x hx => ?_⟩
  rcases List.mem_or_eq_of_mem_set hx with h1 | h1
  · exact h.all x h1
  · rw [h1]; exact hv
theorem Words.get {l : List Int} (h : Words l) (i : Nat) : 0 ≤ l.getD i 0 ∧ l.getD i 0 < two64 := by
  rw [List.getD_eq_getElem?_getD]
  cases e : l[i]? with
  | none => exact ⟨Int.le_refl _, by decide⟩
  | some x =>
    have := List.mem_of_getElem? e
    exact h.all x this
theorem mod64 (x : Int) : 0 ≤ x % two64 ∧ x % two64 < two64 := ⟨Int.emod_nonneg _ (by decide), Int.emod_lt_of_pos _ (by decide)⟩

/-- what holds of a task on its way -/
structure St.Ok (L : List InsV) (n : Nat) (s : St) : Prop where
  r8 : s.r.length = 8
  rw : Words s.r
  p : s.p ≤ L.length
  cn : s.c.length = n
  cw : Words s.c

theorem St.Ok.one {L : List InsV} {n : Nat} {s : St} (h : s.Ok L n) {x : InsV} (hp : s.p < L.length) (hx : x.may L.length n) : (s.one L.length x).1.Ok L n := by
  unfold St.one
  have hn := hx.2
  unfold InsV.num at hn
  split
  · exact ⟨by simpa using h.r8, h.rw.set (mod64 _) _, hp, h.cn, h.cw⟩
  split
  · exact ⟨by simpa using h.r8, h.rw.set (h.rw.get _) _, hp, h.cn, h.cw⟩
  split
  · exact ⟨by simpa using h.r8, h.rw.set (mod64 _) _, hp, h.cn, h.cw⟩
  split
  · rename_i k1 k2 k3 k7
    rw [if_neg (by omega), if_neg (by omega), if_pos k7] at hn
    refine ⟨h.r8, h.rw, ?_, h.cn, h.cw⟩
    show (if _ then _ else _) ≤ _
    split
    · have h1 := hn.1
      have h2 := hn.2
      show x.n.toNat ≤ L.length
      omega
    · exact hp
  split
  · exact ⟨by simpa using h.r8, h.rw.set (h.cw.get _) _, hp, h.cn, h.cw⟩
  split
  · exact ⟨h.r8, h.rw, hp, by simpa using h.cn, h.cw.set (h.rw.get _) _⟩
  split
  · split
    · exact ⟨by simpa using h.r8, h.rw.set (by decide) _, hp, by simpa using h.cn, h.cw.set (h.rw.get _) _⟩
    · exact ⟨by simpa using h.r8, h.rw.set (by decide) _, hp, h.cn, h.cw⟩
  · exact ⟨h.r8, h.rw, Nat.le_refl _, h.cn, h.cw⟩

theorem St.Ok.go {L : List InsV} {n : Nat} (hL : ∀ x ∈ L, x.may L.length n) : ∀ {k : Nat} {s : St}, s.Ok L n → (St.go L k s).Ok L n
  | 0, s, h => h
  | k + 1, s, h => by
    rw [St.go]
    split
    · exact h
    · rename_i x hx
      have hm := List.mem_of_getElem? hx
      have hp := (List.getElem?_eq_some_iff.1 hx).1
      have h1 := h.one hp (hL x hm)
      split
      · exact h1
      · exact St.Ok.go hL h1

/-! ### all of it -/
structure Mc where
  r : List Int
  p : Nat

structure Sys where
  ms : List Mc
  c : List Int
  steps : Nat

def zero8 : List Int := [0, 0, 0, 0, 0, 0, 0, 0]
def Mc.new : Mc := ⟨zero8, 0⟩
def Sys.start (T : List (List InsV)) (c : List Int) : Sys := ⟨T.map fun _ => Mc.new, c, 0⟩
def Sys.pick (T : List (List InsV)) (S : Sys) (t : Nat) : Sys :=
  if (T.getD t []).length ≤ (S.ms.getD t Mc.new).p then S
  else
    ⟨S.ms.set t ⟨(St.go (T.getD t []) 64 ⟨(S.ms.getD t Mc.new).r, (S.ms.getD t Mc.new).p, S.c⟩).r, (St.go (T.getD t []) 64 ⟨(S.ms.getD t Mc.new).r, (S.ms.getD t Mc.new).p, S.c⟩).p⟩,
      (St.go (T.getD t []) 64 ⟨(S.ms.getD t Mc.new).r, (S.ms.getD t Mc.new).p, S.c⟩).c, S.steps + 1⟩
def Sys.run (T : List (List InsV)) (S : Sys) (ps : List Int) : Sys := ps.foldl (fun S t => S.pick T t.toNat) S
def doneOf (L : List InsV) (m : Mc) : Bool := decide (L.length ≤ m.p)

def pickE (n : Nat) (ps : List Int) : Int := if 1048576 < ps.length then 2 else if ∀ p ∈ ps, 0 ≤ p ∧ p < n then 0 else 1

/-- the errors of a run -/
def runE (T : List (List InsV)) (cells : Nat) (ps : List Int) : Int := if (checkE T cells).2.2 = 0 then pickE T.length ps else (checkE T cells).2.2

structure Sys.Ok (T : List (List InsV)) (n : Nat) (S : Sys) : Prop where
  len : S.ms.length = T.length
  cn : S.c.length = n
  cw : Words S.c
  each : ∀ t, (h : t < S.ms.length) → (St.mk S.ms[t].r S.ms[t].p S.c).Ok (T.getD t []) n

theorem words_zero8 : Words zero8 := ⟨by intro x hx; simp [zero8] at hx; subst hx; decide⟩
theorem Sys.Ok.start {T : List (List InsV)} {c : List Int} (h : Words c) : (Sys.start T c).Ok T c.length := by
  refine ⟨by simp [Sys.start], rfl, h, fun t ht => ?_⟩
  have e : (Sys.start T c).ms[t] = Mc.new := by simp [Sys.start]
  rw [e]
  exact ⟨rfl, words_zero8, Nat.zero_le _, rfl, h⟩

theorem getD_get {α : Type} {l : List α} {i : Nat} (h : i < l.length) (d : α) : l.getD i d = l[i] := by
  rw [List.getD_eq_getElem?_getD, List.getElem?_eq_getElem h]; rfl

theorem Sys.Ok.pick {T : List (List InsV)} {n : Nat} {S : Sys} (hT : ∀ L ∈ T, TaskOk L n) (h : S.Ok T n) {t : Nat} (ht : t < T.length) : (S.pick T t).Ok T n := by
  unfold Sys.pick
  split
  · exact h
  · have hL := hT _ (List.getElem_mem ht)
    have hm : t < S.ms.length := by rw [h.len]; exact ht
    have h0 := h.each t hm
    rw [getD_get ht] at h0 ⊢
    rw [getD_get hm]
    have hg := St.Ok.go hL.all (k := 64) h0
    refine ⟨by simpa using h.len, hg.cn, hg.cw, fun u hu => ?_⟩
    by_cases e : u = t
    · subst e
      simp only [List.getElem_set_self]
      rw [getD_get ht]
      exact hg
    · simp only [List.getElem_set_ne (Ne.symm e)]
      have h1 := h.each u (by simpa using hu)
      exact ⟨h1.r8, h1.rw, h1.p, hg.cn, hg.cw⟩

theorem Sys.Ok.run {T : List (List InsV)} {n : Nat} (hT : ∀ L ∈ T, TaskOk L n) : ∀ {ps : List Int} {S : Sys}, S.Ok T n → (∀ p ∈ ps, 0 ≤ p ∧ p < T.length) → (S.run T ps).Ok T n
  | [], S, h, _ => h
  | p :: r, S, h, hp => by
    have h1 := hp p (by simp)
    exact Sys.Ok.run hT (S := S.pick T p.toNat) (h.pick hT (by omega)) (fun q hq => hp q (by simp [hq]))

theorem Sys.pick_steps (T : List (List InsV)) (S : Sys) (t : Nat) : S.steps ≤ (S.pick T t).steps ∧ (S.pick T t).steps ≤ S.steps + 1 := by
  unfold Sys.pick
  split
  · exact ⟨Nat.le_refl _, by omega⟩
  · exact ⟨by show S.steps ≤ S.steps + 1; omega, Nat.le_refl _⟩
theorem Sys.run_steps (T : List (List InsV)) : ∀ (ps : List Int) (S : Sys), (S.run T ps).steps ≤ S.steps + ps.length
  | [], S => by simp [Sys.run]
  | p :: r, S => by
    have h1 := Sys.run_steps T r (S.pick T p.toNat)
    have h2 := (Sys.pick_steps T S p.toNat).2
    show ((S.pick T p.toNat).run T r).steps ≤ _
    rw [List.length_cons]
    omega
theorem Sys.run_take (T : List (List InsV)) (S : Sys) (ps : List Int) {j : Nat} (h : j < ps.length) : S.run T (ps.take (j + 1)) = (S.run T (ps.take j)).pick T (ps[j]).toNat := by
  unfold Sys.run
  rw [List.take_succ_eq_append_getElem h, List.foldl_append]
  rfl
theorem Sys.run_append (T : List (List InsV)) (S : Sys) (a b : List Int) : S.run T (a ++ b) = (S.run T a).run T b := by simp [Sys.run]

end Go.Proofs.Ytibgpjokdpagcaa
