import Derived.Maps.Ext
import Derived.Sort.KeysCollected
import Derived.Test.YtigegdelhpdlhaaGreatDoorProg
import Derived.WalkKit
import Derived.WalkSpells
import Derived.WalkLawsBesides
import Derived.Maps.OwnSet
import Derived.Lib.AppendStr
import Derived.Deep.QuietTactic
/- The plain model of a disk: sorted lists of names and files, and what each call of chapter 1 makes of them. Nothing here speaks of Go. -/
namespace Go.Proofs.YtigegdelhpdlhaaGreatDoor
namespace Dk
open Go.Maps

/-! ### lists by names -/
section
variable {α β : Type}

def insL (x : List UInt8 × α) : List (List UInt8 × α) → List (List UInt8 × α)
  | [] => [x]
  | y :: r => if bytesBefore x.1 y.1 then x :: y :: r else y :: insL x r
def delL (k : List UInt8) (l : List (List UInt8 × α)) : List (List UInt8 × α) := l.filter (fun p => !(p.1 == k))
def putL (k : List UInt8) (a : α) (l : List (List UInt8 × α)) : List (List UInt8 × α) := insL (k, a) (delL k l)
def getL (k : List UInt8) : List (List UInt8 × α) → Option α
  | [] => none
  | y :: r => if y.1 == k then some y.2 else getL k r
def mapL (f : α → β) (l : List (List UInt8 × α)) : List (List UInt8 × β) := l.map (fun p => (p.1, f p.2))
def keysL (l : List (List UInt8 × α)) : List (List UInt8) := l.map (fun p => p.1)
def Rise (l : List (List UInt8 × α)) : Prop := l.Pairwise (fun p q => bytesBefore p.1 q.1 = true)

theorem mapL_insL (f : α → β) (x : List UInt8 × α) : ∀ l, mapL f (insL x l) = insL (x.1, f x.2) (mapL f l)
  | [] => rfl
  | y :: r => by
    have ih := mapL_insL f x r
    unfold mapL at ih ⊢
    simp only [insL, List.map_cons]
    split
    · rfl
    · rw [List.map_cons, ih]

theorem mapL_delL (f : α → β) (k : List UInt8) (l : List (List UInt8 × α)) : mapL f (delL k l) = delL k (mapL f l) := by
  unfold mapL delL
  rw [List.filter_map]
  rfl

theorem mapL_putL (f : α → β) (k : List UInt8) (a : α) (l : List (List UInt8 × α)) : mapL f (putL k a l) = putL k (f a) (mapL f l) := by
  unfold putL; rw [mapL_insL, mapL_delL]

theorem getL_mapL (f : α → β) (k : List UInt8) : ∀ l : List (List UInt8 × α), getL k (mapL f l) = (getL k l).map f
  | [] => rfl
  | y :: r => by
    have ih := getL_mapL f k r
    unfold mapL at ih ⊢
    simp only [getL, List.map_cons]
    split
    · rfl
    · exact ih

theorem keysL_mapL (f : α → β) (l : List (List UInt8 × α)) : keysL (mapL f l) = keysL l := by
  unfold keysL mapL; rw [List.map_map]; rfl

theorem length_mapL (f : α → β) (l : List (List UInt8 × α)) : (mapL f l).length = l.length := by unfold mapL; simp

theorem getL_mem {k : List UInt8} {a : α} : ∀ {l : List (List UInt8 × α)}, getL k l = some a → (k, a) ∈ l
  | [], h => by cases h
  | y :: r, h => by
    unfold getL at h
    split at h
    · rename_i hy
      have := eq_of_beq hy
      cases h
      subst this
      simp
    · exact List.mem_cons_of_mem _ (getL_mem h)

theorem getL_none {k : List UInt8} : ∀ {l : List (List UInt8 × α)}, getL k l = none → ∀ p ∈ l, p.1 ≠ k
  | [], _, p, hp => by cases hp
  | y :: r, h, p, hp => by
    unfold getL at h
    split at h
    · cases h
    · rename_i hy
      rcases List.mem_cons.1 hp with rfl | hp
      · intro e; exact hy (by simp [e])
      · exact getL_none h p hp

theorem mem_insL {x y : List UInt8 × α} : ∀ {l : List (List UInt8 × α)}, y ∈ insL x l ↔ y = x ∨ y ∈ l
  | [] => by simp [insL]
  | z :: r => by
    unfold insL
    split
    · simp
    · simp only [List.mem_cons, mem_insL]
      constructor
      · rintro (h | h | h) <;> simp [h]
      · rintro (h | h | h) <;> simp [h]

theorem mem_delL {k : List UInt8} {y : List UInt8 × α} {l : List (List UInt8 × α)} : y ∈ delL k l ↔ y ∈ l ∧ y.1 ≠ k := by
  unfold delL; simp [List.mem_filter]

theorem length_insL (x : List UInt8 × α) : ∀ l : List (List UInt8 × α), (insL x l).length = l.length + 1
  | [] => rfl
  | z :: r => by
    unfold insL
    split
    · rfl
    · simp [length_insL x r]

theorem insL_perm (x : List UInt8 × α) : ∀ l : List (List UInt8 × α), (insL x l).Perm (x :: l)
  | [] => List.Perm.refl _
  | z :: r => by
    unfold insL
    split
    · exact List.Perm.refl _
    · exact ((insL_perm x r).cons z).trans (List.Perm.swap x z r)

/-- As the reader's datum. -/
def toD (t : α → DataW Unit) (l : List (List UInt8 × α)) : DataW Unit := .map (l.map (fun p => (Lit.string p.1, t p.2)))

variable (t : α → DataW Unit)

theorem toD_ins (x : List UInt8 × α) : ∀ l : List (List UInt8 × α), DataW.insert (Lit.string x.1, t x.2) (l.map (fun p => (Lit.string p.1, t p.2))) = (insL x l).map (fun p => (Lit.string p.1, t p.2))
  | [] => rfl
  | y :: r => by
    have ih := toD_ins x r
    simp only [List.map_cons, DataW.insert, insL, Lit.before]
    by_cases h : bytesBefore x.1 y.1 = true
    · simp only [h, if_true, List.map_cons]
    · simp only [h, Bool.false_eq_true, if_false, List.map_cons, ih]

theorem toD_del (k : List UInt8) (l : List (List UInt8 × α)) : (toD t l).del (.string k) = toD t (delL k l) := by
  unfold toD delL
  simp only [DataW.del, List.filter_map]
  rfl

theorem toD_put (k : List UInt8) (a : α) (l : List (List UInt8 × α)) : (toD t l).put (.string k) (t a) = toD t (putL k a l) := by
  have h := toD_del t k l
  unfold toD at h ⊢
  simp only [DataW.put]
  simp only [DataW.del, DataW.map.injEq] at h
  rw [h]
  exact congrArg DataW.map (toD_ins t (k, a) (delL k l))

theorem toD_at (k : List UInt8) (z : DataW Unit) (l : List (List UInt8 × α)) : (toD t l).atKey (.string k) z = match getL k l with | some a => t a | none => z := by
  unfold toD
  induction l with
  | nil => rfl
  | cons y r ih =>
    simp only [DataW.atKey, List.map_cons, List.find?_cons, Lit.sameKey, getL] at ih ⊢
    cases h : (y.1 == k)
    · simpa [h] using ih
    · simp

theorem toD_has (k : List UInt8) (l : List (List UInt8 × α)) : Maps.has (toD t l) (.string k) = (getL k l).isSome := by
  unfold toD
  induction l with
  | nil => rfl
  | cons y r ih =>
    simp only [Maps.has, List.map_cons, List.any_cons, Lit.sameKey, getL] at ih ⊢
    cases h : (y.1 == k)
    · simpa [h] using ih
    · simp

theorem toD_size (l : List (List UInt8 × α)) : Maps.size (toD t l) = l.length := by unfold toD; simp [Maps.size]
theorem toD_keys (l : List (List UInt8 × α)) : strKeys (toD t l) = keysL l := by
  show List.map _ (List.map _ l) = _
  rw [List.map_map]
  rfl

theorem bytesBefore_lt : ∀ {a b : List UInt8}, bytesBefore a b = true → a < b
  | [], [], h => by simp [bytesBefore] at h
  | [], _ :: _, _ => List.nil_lt_cons _ _
  | _ :: _, [], h => by simp [bytesBefore] at h
  | x :: r, y :: s, h => by
    simp only [bytesBefore] at h
    by_cases e : x = y
    · subst e
      simp at h
      exact List.cons_lt_cons_self.2 (bytesBefore_lt h)
    · refine List.Lex.rel ?_
      simp [e] at h
      simpa using h

theorem rise_keys {l : List (List UInt8 × α)} (h : Rise l) : (keysL l).mergeSort leB = keysL l := by
  refine List.mergeSort_of_pairwise ?_
  unfold keysL
  refine List.pairwise_map.2 (h.imp ?_)
  intro a b hab
  simp only [leB, decide_eq_true_eq]
  exact List.le_of_lt (bytesBefore_lt hab)

theorem rise_of_canon {l : List (List UInt8 × α)} (h : Maps.Canon (toD t l)) : Rise l := by
  obtain ⟨es, he, hp, _⟩ := h
  unfold toD at he
  simp only [DataW.map.injEq] at he
  subst he
  exact (List.pairwise_map.1 hp)

/-- In its place. -/
def setL (k : List UInt8) (a : α) (l : List (List UInt8 × α)) : List (List UInt8 × α) := l.map (fun p => if p.1 == k then (k, a) else p)

theorem rise_ne {l : List (List UInt8 × α)} (h : Rise l) : l.Pairwise (fun p q => p.1 ≠ q.1) :=
  h.imp (fun {a b} hab e => by rw [e] at hab; exact absurd hab (by rw [WideAt.bytes_irrefl]; simp))

theorem setL_other {k : List UInt8} (a : α) : ∀ {l : List (List UInt8 × α)}, (∀ p ∈ l, p.1 ≠ k) → setL k a l = l
  | [], _ => rfl
  | y :: r, h => by
    have hy : (y.1 == k) = false := by simpa using h y (by simp)
    have ih := setL_other (l := r) a (fun p hp => h p (by simp [hp]))
    unfold setL at ih ⊢
    rw [List.map_cons, ih, hy]
    rfl

theorem delL_other {k : List UInt8} {l : List (List UInt8 × α)} (h : ∀ p ∈ l, p.1 ≠ k) : delL k l = l := by
  unfold delL
  exact List.filter_eq_self.2 (fun p hp => by simpa using h p hp)

theorem putL_set {k : List UInt8} {a0 : α} (a : α) : ∀ {l : List (List UInt8 × α)}, Rise l → getL k l = some a0 → putL k a l = setL k a l
  | [], _, h => by cases h
  | y :: r, hr, h => by
    obtain ⟨h1, h2⟩ := List.pairwise_cons.1 hr
    by_cases hy : y.1 = k
    · subst hy
      have ho : ∀ p ∈ r, p.1 ≠ y.1 := fun p hp e => by
        have := h1 p hp
        rw [e, WideAt.bytes_irrefl] at this
        cases this
      have e1 : delL y.1 (y :: r) = r := by
        have := delL_other ho
        unfold delL at this ⊢
        rw [List.filter_cons]
        simp only [beq_self_eq_true, Bool.not_true, Bool.false_eq_true, if_false]
        exact this
      have e2 : setL y.1 a (y :: r) = (y.1, a) :: r := by
        have := setL_other a ho
        unfold setL at this ⊢
        rw [List.map_cons, this]
        simp
      rw [e2]
      unfold putL
      rw [e1]
      cases r with
      | nil => rfl
      | cons z q =>
        have := h1 z (by simp)
        unfold insL
        rw [if_pos this]
    · have hy' : (y.1 == k) = false := by simpa using hy
      have hg : getL k r = some a0 := by simpa [getL, hy'] using h
      have ih := putL_set a h2 hg
      have hb : bytesBefore k y.1 = false := by
        have h3 := h1 _ (getL_mem hg)
        cases hc : bytesBefore k y.1
        · rfl
        · have := WideShapes.bytes_trans _ _ _ h3 hc
          rw [WideAt.bytes_irrefl] at this
          cases this
      have e1 : putL k a (y :: r) = y :: putL k a r := by
        unfold putL delL
        rw [List.filter_cons]
        simp only [hy', Bool.not_false, if_true]
        rw [insL]
        simp only [hb, Bool.false_eq_true, if_false]
      have e2 : setL k a (y :: r) = y :: setL k a r := by
        unfold setL
        rw [List.map_cons, hy']
        rfl
      rw [e1, e2, ih]

theorem getL_unique {k : List UInt8} {a b : α} {l : List (List UInt8 × α)} (h : Rise l) (hg : getL k l = some a) (hm : (k, b) ∈ l) : b = a := by
  induction l with
  | nil => cases hg
  | cons y r ih =>
    obtain ⟨h1, h2⟩ := List.pairwise_cons.1 h
    unfold getL at hg
    split at hg
    · rename_i hy
      have hy := eq_of_beq hy
      rcases List.mem_cons.1 hm with e | hm
      · cases hg; rw [← e]
      · have := h1 _ hm
        rw [hy, WideAt.bytes_irrefl] at this
        cases this
    · rename_i hy
      rcases List.mem_cons.1 hm with e | hm
      · rw [← e] at hy; simp at hy
      · exact ih h2 hg hm

theorem toD_setL {k : List UInt8} {a b : α} {l : List (List UInt8 × α)} (h : Rise l) (hg : getL k l = some a) (ht : t b = t a) : toD t (setL k b l) = toD t l := by
  unfold toD setL
  rw [List.map_map]
  refine congrArg DataW.map (List.map_congr_left fun p hp => ?_)
  show (Lit.string (if (p.1 == k) = true then (k, b) else p).1, t (if (p.1 == k) = true then (k, b) else p).2) = _
  split
  · rename_i e
    have e := eq_of_beq e
    have : p.2 = a := getL_unique h hg (by rw [← e]; exact hp)
    rw [e, this, ht]
  · rfl

end

/-! ### the disk -/
structure Fil where
  data : List UInt8
  safe : Nat

structure Dsk where
  fs : List (List UInt8 × Fil)
  down : Bool
  fused : Bool
  left : Nat

def okByte (c : UInt8) : Bool := (decide (97 ≤ c.toNat) && decide (c.toNat ≤ 122)) || (decide (48 ≤ c.toNat) && decide (c.toNat ≤ 57)) || (c.toNat == 46)
def okName (k : List UInt8) : Bool := decide (1 ≤ k.length) && decide (k.length ≤ 32) && k.all okByte

def blank : Dsk := ⟨[], false, false, 0⟩

def burnt (s : Dsk) : Bool := s.down || (s.fused && s.left == 0)
def changeE (s : Dsk) : Int := if burnt s then 11 else 0
def changeS (s : Dsk) : Dsk := if burnt s then { s with down := true } else if s.fused then { s with left := s.left - 1 } else s

def fileOr (o : Option Fil) : Fil := o.getD ⟨[], 0⟩
def tooLong (s : Dsk) (k d : List UInt8) : Bool := decide (262144 < (fileOr (getL k s.fs)).data.length + d.length) || ((getL k s.fs).isNone && decide (64 ≤ s.fs.length))
def appendE (s : Dsk) (k d : List UInt8) : Int := if okName k then (if tooLong s k d then 2 else changeE s) else 10
def appendS (s : Dsk) (k d : List UInt8) : Dsk :=
  if okName k then (if tooLong s k d then s else if burnt s then changeS s else { changeS s with fs := putL k ⟨(fileOr (getL k s.fs)).data ++ d, (fileOr (getL k s.fs)).safe⟩ s.fs }) else s

def findE (s : Dsk) (k : List UInt8) : Int := if okName k then (if (getL k s.fs).isSome then 0 else 5) else 10

def syncE (s : Dsk) (k : List UInt8) : Int := if findE s k = 0 then changeE s else findE s k
def syncS (s : Dsk) (k : List UInt8) : Dsk :=
  if findE s k = 0 then (if burnt s then changeS s else { changeS s with fs := putL k ⟨(fileOr (getL k s.fs)).data, (fileOr (getL k s.fs)).data.length⟩ s.fs }) else s

def renameE (s : Dsk) (k k' : List UInt8) : Int := if okName k && okName k' then (if findE s k = 0 then changeE s else findE s k) else 10
def renameS (s : Dsk) (k k' : List UInt8) : Dsk :=
  if okName k && okName k' then (if findE s k = 0 then (if burnt s then changeS s else { changeS s with fs := putL k' (fileOr (getL k s.fs)) (delL k s.fs) }) else s) else s

def removeE (s : Dsk) (k : List UInt8) : Int := if findE s k = 0 then changeE s else findE s k
def removeS (s : Dsk) (k : List UInt8) : Dsk :=
  if findE s k = 0 then (if burnt s then changeS s else { changeS s with fs := delL k s.fs }) else s

def readV (s : Dsk) (k : List UInt8) : List UInt8 := if findE s k = 0 then (fileOr (getL k s.fs)).data else []

def fuseE (n : Int) : Int := if n < 0 then 1 else 0
def fuseS (s : Dsk) (n : Int) : Dsk := if n < 0 then s else { s with fused := true, left := n.toNat }

def keep (f : Fil) (draw : Int) : Nat := if 0 < draw then (draw % ((f.data.length - f.safe : Nat) + 1 : Int)).toNat else 0
def tearF (f : Fil) (draw : Int) : Fil := ⟨f.data.take (f.safe + keep f draw), f.safe + keep f draw⟩
def crashL : List (List UInt8 × Fil) → List Int → List (List UInt8 × Fil)
  | [], _ => []
  | p :: r, ds => if p.2.data.length = p.2.safe then p :: crashL r ds else (p.1, tearF p.2 (ds.headD 0)) :: crashL r ds.tail
def crashE (ds : List Int) : Int := if 4096 < ds.length then 2 else 0
def crashS (s : Dsk) (ds : List Int) : Dsk := if 4096 < ds.length then s else ⟨crashL s.fs ds, false, false, 0⟩

theorem keep_le (f : Fil) (draw : Int) (h : f.safe ≤ f.data.length) : f.safe + keep f draw ≤ f.data.length := by
  unfold keep
  split
  · have h1 := Int.emod_lt_of_pos draw (show (0 : Int) < ((f.data.length - f.safe : Nat) + 1 : Int) by omega)
    have h2 := Int.emod_nonneg draw (show ((f.data.length - f.safe : Nat) + 1 : Int) ≠ 0 by omega)
    omega
  · omega

theorem tearF_len (f : Fil) (draw : Int) (h : f.safe ≤ f.data.length) : (tearF f draw).data.length = (tearF f draw).safe := by
  have := keep_le f draw h
  unfold tearF
  simp
  omega

end Dk
end Go.Proofs.YtigegdelhpdlhaaGreatDoor

/- A name may be: what the code's two tests answer is what the plain model answers. -/
namespace Go.Proofs.YtigegdelhpdlhaaGreatDoor
open Go.RowKit

def Dk.okB (c : Int) : Bool := (decide (97 ≤ c) && decide (c ≤ 122)) || (decide (48 ≤ c) && decide (c ≤ 57)) || (c == 46)

theorem Dk.okB_eq (c : UInt8) : Dk.okB (c.toNat : Int) = Dk.okByte c := by
  unfold Dk.okB Dk.okByte
  rw [Bool.eq_iff_iff]
  simp
  omega

theorem ret_boolD {a b : Bool} (h : a = b) : Ending.returned (.bool a) = .returned (.bool b) := by rw [h]

set_option maxHeartbeats 400000 in
theorem nameByte_any (c : Int) (w : World) :
    Calls Tryz.prog 80 #[.int .u8 c] w fun e w' => e = .returned (.bool (Dk.okB c)) ∧ w' = w := by
  go_enter Tryz.func80, Tryz.ntmps80
  go_wp2
  all_goals (go_ret; refine ⟨ret_boolD ?_, rfl⟩; rw [Bool.eq_iff_iff]; simp [Dk.okB]; omega)

def Dk.okS (k : ByteArray) : Bool := Dk.okName k.data.toList

theorem Dk.okS_take (k : ByteArray) (j : Nat) (hj : j < k.size) (h : (k.data.toList.take j).all Dk.okByte = true) :
    (k.data.toList.take (j + 1)).all Dk.okByte = Dk.okB (k[j].toNat : Int) := by
  rw [List.take_succ_eq_append_getElem (by simpa using hj), List.all_append, h, Dk.okB_eq]
  simp
  rfl

theorem Dk.okS_no (k : ByteArray) (n : Nat) (h : (k.data.toList.take n).all Dk.okByte = false) : Dk.okS k = false := by
  unfold Dk.okS Dk.okName
  have e : k.data.toList.all Dk.okByte = false := by
    rw [← List.take_append_drop n k.data.toList, List.all_append, h]; rfl
  rw [e, Bool.and_false]

theorem Dk.okS_yes (k : ByteArray) (j : Nat) (hj : ¬ j < k.size) (h1 : ¬ (k.size : Int) < 1) (h2 : ¬ (32 : Int) < k.size) (h : (k.data.toList.take j).all Dk.okByte = true) : Dk.okS k = true := by
  have e0 : k.data.toList.length = k.size := rfl
  rw [List.take_of_length_le (by rw [e0]; omega)] at h
  unfold Dk.okS Dk.okName
  rw [h, e0, decide_eq_true (by omega), decide_eq_true (by omega)]
  rfl

set_option maxHeartbeats 400000 in
theorem nameMayBe_any (k : ByteArray) (w : World) (hk : k.size ≤ maxLen) :
    Calls Tryz.prog 51 #[.string k] w fun e w' => e = .returned (.bool (Dk.okS k)) ∧ w' = w := by
  unfold maxLen at hk
  by_cases h1 : k.size < 1 ∨ 32 < k.size
  · have hf : Dk.okS k = false := by
      unfold Dk.okS Dk.okName
      have e : k.data.toList.length = k.size := rfl
      rw [e]
      rcases h1 with h | h
      · have : decide (1 ≤ k.size) = false := decide_eq_false (by omega)
        rw [this]; rfl
      · have : decide (k.size ≤ 32) = false := decide_eq_false (by omega)
        rw [this]; simp
    rw [hf]
    by_cases h2 : k.size < 1
    · have h2' : (k.size : Int) < 1 := by omega
      go_enter Tryz.func51, Tryz.ntmps51
      go_wp2
      go_ret
      exact ⟨rfl, rfl⟩
    · have h3 : (32 : Int) < k.size := by omega
      have h2' : ¬ (k.size : Int) < 1 := by omega
      go_enter Tryz.func51, Tryz.ntmps51
      go_wp2
      go_ret
      exact ⟨rfl, rfl⟩
  · have h2 : ¬ (k.size : Int) < 1 := by omega
    have h3 : ¬ (32 : Int) < k.size := by omega
    go_enter Tryz.func51, Tryz.ntmps51
    go_wp2
    go_loop [3, 14] (fun _ i => ∃ j : Nat, j ≤ k.size ∧ i = .int .i64 j ∧ (k.data.toList.take j).all Dk.okByte = true) (fun _ i => k.size - (intOf i).toNat)
    case atStart => exact ⟨0, Nat.zero_le _, rfl, rfl⟩
    case round =>
      obtain ⟨j, hj, rfl, hall⟩ := hrel
      by_cases hlt : j < k.size
      · have hst := Dk.okS_take k j hlt hall
        have HS : Hid ((k.data.toList.take (j + 1)).all Dk.okByte = Dk.okB (k[j].toNat : Int)) := hst
        have HA : Hid ((k.data.toList.take j).all Dk.okByte = true) := hall
        clear hst hall
        go_wp2_with (go_at_call 80; refine (nameByte_any _ _).mono ?_; rintro e w' ⟨rfl, rfl⟩)
        · have hb : Dk.okB (k[j].toNat : Int) = false := by simpa using ‹(!Dk.okB (k[j].toNat : Int)) = true›
          go_ret
          exact ⟨ret_boolD (Dk.okS_no k (j + 1) (HS.out.trans hb)).symm, rfl⟩
        · have hb : Dk.okB (k[j].toNat : Int) = true := by simpa using ‹(!Dk.okB (k[j].toNat : Int)) = false›
          go_round
          case rel => exact ⟨j + 1, by omega, by go_num, HS.out.trans hb⟩
          case measure => simp [intOf]; omega
      · have HA : Hid ((k.data.toList.take j).all Dk.okByte = true) := hall
        clear hall
        go_wp2
        go_ret
        exact ⟨ret_boolD (Dk.okS_yes k j hlt (by omega) (by omega) HA.out).symm, rfl⟩

end Go.Proofs.YtigegdelhpdlhaaGreatDoor

/- Where a disk lies in memory: its struct, its map, its files and their bytes; what a call may turn. -/
namespace Go.Proofs.YtigegdelhpdlhaaGreatDoor
open Go.RowKit Go.Maps

/-- w' is w but for the blocks of S, and for new ones. -/
structure TurnD (S : Nat → Prop) (w w' : World) : Prop where
  os : w'.os = w.os
  tape : w'.tape = w.tape
  output : w'.output = w.output
  size : w.heap.size ≤ w'.heap.size
  block : ∀ i, i < w.heap.size → ¬ S i → w'.heap[i]? = w.heap[i]?

theorem TurnD.refl (S : Nat → Prop) (w : World) : TurnD S w w := ⟨rfl, rfl, rfl, Nat.le_refl _, fun _ _ _ => rfl⟩
theorem TurnD.trans {S : Nat → Prop} {a b c : World} (h : TurnD S a b) (k : TurnD S b c) : TurnD S a c :=
  ⟨k.os.trans h.os, k.tape.trans h.tape, k.output.trans h.output, Nat.le_trans h.size k.size, fun i hi hn => (k.block i (Nat.lt_of_lt_of_le hi h.size) hn).trans (h.block i hi hn)⟩
theorem TurnD.transNew {S S' : Nat → Prop} {a b c : World} (h : TurnD S a b) (k : TurnD S' b c) (hS : ∀ i, S' i → S i ∨ a.heap.size ≤ i) : TurnD S a c :=
  ⟨k.os.trans h.os, k.tape.trans h.tape, k.output.trans h.output, Nat.le_trans h.size k.size, fun i hi hn => (k.block i (Nat.lt_of_lt_of_le hi h.size) (fun h' => by
    rcases hS i h' with h1 | h1
    · exact hn h1
    · omega)).trans (h.block i hi hn)⟩
theorem TurnD.mono {S S' : Nat → Prop} {w w' : World} (h : TurnD S w w') (hS : ∀ i, S i → S' i) : TurnD S' w w' := ⟨h.os, h.tape, h.output, h.size, fun i hi hn => h.block i hi (fun h' => hn (hS i h'))⟩
theorem TurnD.drew {S : Nat → Prop} {a w : World} (h : TurnD S a w) : TurnD S a w.drew := ⟨h.os, h.tape, h.output, h.size, h.block⟩
theorem TurnD.drewN {S : Nat → Prop} {a w : World} (h : TurnD S a w) (n : Nat) : TurnD S a (w.drewN n) := ⟨h.os, h.tape, h.output, h.size, h.block⟩
theorem TurnD.ofGrown {S : Nat → Prop} {w w' : World} {row : Option Nat} (h : w.grownBy w' row) (hr : ∀ k, row = some k → S k) : TurnD S w w' :=
  ⟨h.os, h.tape, h.output, h.size, fun i hi hn => h.block i hi (fun e => hn (hr i e.symm))⟩
theorem TurnD.ofBelow {w w' : World} (S : Nat → Prop) (h : Below w.heap.size w w') : TurnD S w w' := ⟨h.os, h.tape, h.output, h.size, fun i hi _ => h.block i hi⟩
theorem TurnD.toBelow {B : Nat} {w w' : World} (h : TurnD (fun i => B ≤ i) w w') (hB : B ≤ w.heap.size) : Below B w w' :=
  ⟨h.os, h.tape, h.output, h.size, fun i hi => h.block i (by omega) (by omega)⟩
theorem TurnD.alloc {S : Nat → Prop} (w : World) (o : Obj) : TurnD S w (w.alloc o) := ⟨rfl, rfl, rfl, by simp, fun i hi _ => Below.heap_alloc w o i hi⟩
theorem TurnD.setCell {S : Nat → Prop} (w : World) (a : Addr) (v : Value) (h : S a.block) : TurnD S w (w.setCell a v) :=
  ⟨rfl, rfl, rfl, by simp, fun i _ hn => Below.heap_setCell w a v i (fun e => hn (by rw [e]; exact h))⟩

/-! ### blocks -/
theorem heap_setCell_sameD {w : World} {b : Nat} {c : Array Value} {t : TypeId} {fz : Nat × Nat} (h : w.heap[b]? = some (.cells c t fz)) (i : Nat) (v : Value) :
    (w.setCell ⟨b, i, none⟩ v).heap[b]? = some (.cells (c.setIfInBounds i v) t fz) := by
  simp [World.setCell, Array.getElem?_modify, h]
theorem cell_ofD {w : World} {b : Nat} {c : Array Value} {t : TypeId} {fz : Nat × Nat} (h : w.heap[b]? = some (.cells c t fz)) (i : Nat) : w.cell? ⟨b, i, none⟩ = c[i]? := by
  simp [World.cell?, h]
theorem frozen_ofD {w : World} {b : Nat} {c : Array Value} {t : TypeId} (h : w.heap[b]? = some (.cells c t (0, 0))) (i : Nat) : w.frozen? ⟨b, i, none⟩ = false := by
  simp [World.frozen?, h]
theorem lt_ofD {w : World} {b : Nat} {o : Obj} (h : w.heap[b]? = some o) : b < w.heap.size := (Array.getElem?_eq_some_iff.1 h).1

theorem ownsMap_exact {H : Type} {P : Program} {k : TypeId} {R : Value → Option (DataW H × List MemPlace)} {w : World} {b n : Nat} {D : DataW H} (h : w.ownsMap P k R b n D) : w.ownsMap P k R b (Maps.size D) D := by
  obtain ⟨es, clock, hb, F, _, rfl⟩ := h
  exact ⟨es, clock, hb, F, by simp [Maps.size, length_sorted], rfl⟩

theorem ownsMap_block {H : Type} {P : Program} {k : TypeId} {R : Value → Option (DataW H × List MemPlace)} {w w' : World} {b n : Nat} {D : DataW H} (h : w.ownsMap P k R b n D) (e : w'.heap[b]? = w.heap[b]?) : w'.ownsMap P k R b n D := by
  obtain ⟨es, clock, hb, r⟩ := h
  exact ⟨es, clock, e.trans hb, r⟩

theorem ownsRow_blockD {w w' : World} {base : Nat} {e : TypeId} {size : Nat} {v : Value} {n : Nat} {xs : List Value} (h : w.ownsRow base e size v n xs) (hb : ∀ g, v.ownBlock = some g → w'.heap[g]? = w.heap[g]?) : w'.ownsRow base e size v n xs := by
  obtain ⟨h1, h2⟩ := h
  refine ⟨h1, ?_⟩
  rcases h2 with h2 | ⟨g, cap, cur, rfl, hg, hh, r⟩
  · exact Or.inl h2
  · exact Or.inr ⟨g, cap, cur, rfl, hg, (hb g rfl).trans hh, r⟩

theorem ownsRow_zeroD {w : World} {base : Nat} {e : TypeId} {size : Nat} {v : Value} {n : Nat} {xs : List Value} (h : w.ownsRow base e size v n xs) : w.ownsRow 0 e size v n xs := by
  obtain ⟨h1, h2⟩ := h
  refine ⟨h1, ?_⟩
  rcases h2 with h2 | ⟨g, cap, cur, rfl, hg, r⟩
  · exact Or.inl h2
  · exact Or.inr ⟨g, cap, cur, rfl, Nat.zero_le _, r⟩

theorem ownsRow_ownD {w : World} {base : Nat} {e : TypeId} {v : Value} {n : Nat} {xs : List Value} (h : w.ownsRow base e 1 v n xs) {g : Nat} (hv : v.ownBlock = some g) : ∃ cur, w.heap[g]? = some (.cells cur e (0, 0)) ∧ base ≤ g := by
  rcases h.2 with ⟨rfl, _⟩ | ⟨g', cap, cur, rfl, hb, hg, _⟩
  · cases hv
  · cases hv; exact ⟨cur, hg, hb⟩

/-! ### the disk in memory -/
/-- How a pointer to a file reads: its block's number. -/
def ptrR : Value → Option (DataW Unit × List MemPlace)
  | .pointer none => some (.nil, [])
  | .pointer (some ⟨b, 0, none⟩) => some (.lit (.int .i64 (b : Int)), [])
  | _ => none
theorem ptrR_inv {v : Value} {b : Nat} {ps : List MemPlace} (h : ptrR v = some (.lit (.int .i64 (b : Int)), ps)) : v = .pointer (some ⟨b, 0, none⟩) := by
  unfold ptrR at h
  split at h
  · simp at h
  · simp at h
    have e := Int.ofNat.inj h.1
    rw [e]
  · cases h
theorem ptrR_nil {v : Value} {ps : List MemPlace} (h : ptrR v = some (.nil, ps)) : v = .pointer none := by
  unfold ptrR at h
  split at h
  · rfl
  · simp at h
  · cases h

/-- A file's places: the block of its struct, the slice of its bytes. -/
structure Gc where
  blk : Nat
  val : Value
  fil : Dk.Fil

def tok (g : Gc) : DataW Unit := .lit (.int .i64 (g.blk : Int))
def bcellsD (l : List UInt8) : List Value := l.map fun b => Value.int .u8 b.toNat

structure FileAt (w : World) (g : Gc) : Prop where
  cell : w.heap[g.blk]? = some (.cells #[g.val, .int .i64 (g.fil.safe : Int)] 89 (0, 0))
  row : w.ownsRow 0 5 1 g.val g.fil.data.length (bcellsD g.fil.data)
  safe : g.fil.safe ≤ g.fil.data.length
  len : g.fil.data.length ≤ 262144

def Apart (a b : Gc) : Prop := a.blk ≠ b.blk ∧ ∀ i, a.val.ownBlock = some i → b.val.ownBlock ≠ some i

structure DiskG (P : Program) (w : World) (d m : Nat) (G : List (List UInt8 × Gc)) (s : Dk.Dsk) : Prop where
  top : w.heap[d]? = some (.cells #[.map (some m), .bool s.down, .bool s.fused, .int .i64 (s.left : Int)] 67 (0, 0))
  map : w.ownsMap P 9 ptrR m G.length (Dk.toD tok G)
  files : ∀ p ∈ G, FileAt w p.2
  apart : G.Pairwise (fun a b => Apart a.2 b.2)
  fs : s.fs = Dk.mapL Gc.fil G
  names : ∀ p ∈ G, Dk.okName p.1 = true
  left : s.left ≤ 9223372036854775807
  few : G.length ≤ 64

def foot (d m : Nat) (G : List (List UInt8 × Gc)) (i : Nat) : Prop := i = d ∨ i = m ∨ ∃ p ∈ G, i = p.2.blk ∨ p.2.val.ownBlock = some i

theorem DiskG.lt {P : Program} {w : World} {d m : Nat} {G : List (List UInt8 × Gc)} {s : Dk.Dsk} (h : DiskG P w d m G s) {i : Nat} (hi : foot d m G i) : i < w.heap.size := by
  rcases hi with rfl | rfl | ⟨p, hp, rfl | hv⟩
  · exact lt_ofD h.top
  · exact h.map.lt
  · exact lt_ofD (h.files p hp).cell
  · obtain ⟨cur, hc, _⟩ := ownsRow_ownD (h.files p hp).row hv
    exact lt_ofD hc

theorem FileAt.kept {w w' : World} {g : Gc} (h : FileAt w g) (e1 : w'.heap[g.blk]? = w.heap[g.blk]?) (e2 : ∀ i, g.val.ownBlock = some i → w'.heap[i]? = w.heap[i]?) : FileAt w' g :=
  ⟨e1.trans h.cell, ownsRow_blockD h.row e2, h.safe, h.len⟩

/-- A disk stays what it is while nothing of its own is turned. -/
theorem DiskG.kept {P : Program} {w w' : World} {d m : Nat} {G : List (List UInt8 × Gc)} {s : Dk.Dsk} (h : DiskG P w d m G s) {S : Nat → Prop} (ht : TurnD S w w') (hS : ∀ i, foot d m G i → ¬ S i) : DiskG P w' d m G s := by
  have e : ∀ i, foot d m G i → w'.heap[i]? = w.heap[i]? := fun i hi => ht.block i (h.lt hi) (hS i hi)
  refine ⟨(e d (Or.inl rfl)).trans h.top, ownsMap_block h.map (e m (Or.inr (Or.inl rfl))), fun p hp => ?_, h.apart, h.fs, h.names, h.left, h.few⟩
  exact (h.files p hp).kept (e _ (Or.inr (Or.inr ⟨p, hp, Or.inl rfl⟩))) (fun i hi => e i (Or.inr (Or.inr ⟨p, hp, Or.inr hi⟩)))

/-- The disk's struct alone is turned. -/
theorem DiskG.topped {P : Program} {w w' : World} {d m : Nat} {G : List (List UInt8 × Gc)} {s s' : Dk.Dsk} (h : DiskG P w d m G s) (ht : TurnD (fun i => i = d) w w')
    (htop : w'.heap[d]? = some (.cells #[.map (some m), .bool s'.down, .bool s'.fused, .int .i64 (s'.left : Int)] 67 (0, 0))) (hfs : s'.fs = s.fs) (hl : s'.left ≤ 9223372036854775807) : DiskG P w' d m G s' := by
  have hm : m ≠ d := by
    intro e
    obtain ⟨es, clock, hb, _⟩ := h.map
    rw [e, h.top] at hb
    simp at hb
  refine ⟨htop, ownsMap_block h.map (ht.block m h.map.lt hm), fun p hp => ?_, h.apart, hfs.trans h.fs, h.names, hl, h.few⟩
  have hf := h.files p hp
  refine hf.kept (ht.block _ (lt_ofD hf.cell) (fun e => ?_)) (fun i hi => ?_)
  · have := hf.cell
    rw [e, h.top] at this
    simp at this
  · obtain ⟨cur, hc, _⟩ := ownsRow_ownD hf.row hi
    refine ht.block i (lt_ofD hc) (fun e => ?_)
    rw [e, h.top] at hc
    simp at hc

end Go.Proofs.YtigegdelhpdlhaaGreatDoor
