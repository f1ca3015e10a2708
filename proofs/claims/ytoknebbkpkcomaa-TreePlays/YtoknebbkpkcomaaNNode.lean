/- A node, plainly: its slots in order, its keys with their values, rising, and its counts. Nothing here speaks of a program. -/
import Derived.Test.YtoknebbkpkcomaaNPure
import Derived.Laws.Cover1
namespace Go.Proofs.Ytoknebbkpkcomaa

/-! ### texts by bytes -/
theorem bl_irrefl : ∀ a : List UInt8, Op.bytesLess a a = false
  | [] => rfl
  | x :: a => by simp [Op.bytesLess, bl_irrefl a]
theorem bl_trans : ∀ a b c : List UInt8, Op.bytesLess a b = true → Op.bytesLess b c = true → Op.bytesLess a c = true
  | a, [], c => fun h _ => by cases a <;> simp [Op.bytesLess] at h
  | a, y :: b, [] => fun _ h => by simp [Op.bytesLess] at h
  | [], y :: b, z :: c => fun _ _ => by simp [Op.bytesLess]
  | x :: a, y :: b, z :: c => fun h k => by
    have ih := bl_trans a b c
    simp only [Op.bytesLess, Bool.or_eq_true, decide_eq_true_eq, Bool.and_eq_true, beq_iff_eq] at h k ⊢
    simp only [UInt8.lt_iff_toNat_lt] at h k ⊢
    rcases h with h | ⟨rfl, h⟩
    · rcases k with k | ⟨rfl, k⟩
      · left; omega
      · left; exact h
    · rcases k with k | ⟨rfl, k⟩
      · left; exact k
      · right; exact ⟨rfl, ih h k⟩
theorem bl_total : ∀ a b : List UInt8, Op.bytesLess a b = true ∨ a = b ∨ Op.bytesLess b a = true
  | [], [] => Or.inr (Or.inl rfl)
  | [], y :: b => by simp [Op.bytesLess]
  | x :: a, [] => by simp [Op.bytesLess]
  | x :: a, y :: b => by
    have ih := bl_total a b
    simp only [Op.bytesLess, Bool.or_eq_true, decide_eq_true_eq, Bool.and_eq_true, beq_iff_eq, List.cons.injEq]
    by_cases e : x = y
    · subst e
      rcases ih with h | h | h
      · exact Or.inl (Or.inr ⟨rfl, h⟩)
      · exact Or.inr (Or.inl ⟨rfl, h⟩)
      · exact Or.inr (Or.inr (Or.inr ⟨rfl, h⟩))
    · have : x.toNat ≠ y.toNat := fun q => e (UInt8.toNat_inj.1 q)
      simp only [UInt8.lt_iff_toNat_lt]
      omega
def bl (a b : ByteArray) : Bool := Op.bytesLess a.toList b.toList
theorem toList_inj {a b : ByteArray} (h : a.toList = b.toList) : a = b := by
  rw [Go.ByteArray.toList_eq, Go.ByteArray.toList_eq] at h
  cases a; cases b
  simpa using h
theorem bl_self (a : ByteArray) : bl a a = false := bl_irrefl _
theorem bl_tr {a b c : ByteArray} (h : bl a b = true) (k : bl b c = true) : bl a c = true := bl_trans _ _ _ h k
theorem bl_tot (a b : ByteArray) : bl a b = true ∨ a = b ∨ bl b a = true := by
  rcases bl_total a.toList b.toList with h | h | h
  · exact Or.inl h
  · exact Or.inr (Or.inl (toList_inj h))
  · exact Or.inr (Or.inr h)
theorem bl_asym {a b : ByteArray} (h : bl a b = true) : bl b a = false := by
  cases k : bl b a with
  | false => rfl
  | true => rw [← bl_self a, bl_tr h k]
theorem bl_ne {a b : ByteArray} (h : bl a b = true) : a ≠ b := fun e => by rw [e, bl_self] at h; cases h

/-! ### a node -/
abbrev Kv := ByteArray × Int
structure Nd where
  l : List Nat
  ks : List Kv
  ins : Int
  spl : Int

structure Nd.Ok (n : Nd) : Prop where
  len : n.l.length = 15
  may : May n.l
  few : n.ks.length ≤ 15
  rise : n.ks.Pairwise (fun p q => bl p.1 q.1 = true)
  short : ∀ p ∈ n.ks, p.1.size ≤ 4096
  nums : ∀ p ∈ n.ks, -9223372036854775808 ≤ p.2 ∧ p.2 ≤ 9223372036854775807

def Nd.new : Nd := ⟨List.range 15, [], 0, 0⟩
def Nd.set (n : Nd) (i : Nat) (k : ByteArray) (v : Int) : Nd := { n with ks := n.ks.set i (k, v) }
def Nd.add (n : Nd) (i : Nat) (k : ByteArray) (v : Int) : Nd := { n with l := insW n.l n.ks.length i, ks := n.ks.insertIdx i (k, v), ins := n.ins + 1 }
def Nd.del (n : Nd) (i : Nat) : Nd := { n with l := remW n.l n.ks.length i, ks := n.ks.eraseIdx i, ins := n.ins + 1 }
def Nd.stay (n : Nd) : Nat := n.ks.length - n.ks.length / 2
def Nd.left (n : Nd) : Nd := { n with ks := n.ks.take n.stay, ins := n.ins + (n.ks.length / 2 : Nat), spl := n.spl + 1 }
def Nd.right (n : Nd) : Nd := ⟨List.range 15, n.ks.drop n.stay, (n.ks.length / 2 : Nat), 0⟩
def Nd.keys (n : Nd) : List ByteArray := n.ks.map (·.1)
def Nd.word (n : Nd) : Int := ((val (n.ks.length :: n.l) : Nat) : Int)

theorem Nd.Ok.wd {n : Nd} (h : n.Ok) : Wd n.word n.ks.length n.l := ⟨rfl, by have := h.few; omega, h.len, fun x hx => by have := h.may.2 x hx; omega⟩

/-- the place of a key: all ahead of it are less, the one there is not -/
structure At (k : ByteArray) (ks : List Kv) (i : Nat) : Prop where
  le : i ≤ ks.length
  ahead : ∀ j p, j < i → ks[j]? = some p → bl p.1 k = true
  here : ∀ p, ks[i]? = some p → bl p.1 k = false

theorem at_ex (k : ByteArray) : ∀ ks : List Kv, ∃ i, At k ks i
  | [] => ⟨0, Nat.le_refl _, fun _ _ h => (by omega), fun _ h => by cases h⟩
  | q :: ks => by
    cases hq : bl q.1 k with
    | false => exact ⟨0, Nat.zero_le _, fun _ _ h => (by omega), fun p hp => by
        simp at hp
        subst hp
        exact hq⟩
    | true =>
      obtain ⟨i, h1, h2, h3⟩ := at_ex k ks
      refine ⟨i + 1, by simp; omega, fun j p hj hp => ?_, fun p hp => h3 p (by simpa using hp)⟩
      cases j with
      | zero => simp at hp; subst hp; exact hq
      | succ j => exact h2 j p (by omega) (by simpa using hp)

theorem At.unique {k : ByteArray} {ks : List Kv} {i j : Nat} (h : At k ks i) (h' : At k ks j) : i = j := by
  rcases Nat.lt_trichotomy i j with hlt | rfl | hlt
  · have hi : i < ks.length := Nat.lt_of_lt_of_le hlt h'.le
    have h1 := h.here _ (List.getElem?_eq_getElem hi)
    rw [h'.ahead i _ hlt (List.getElem?_eq_getElem hi)] at h1
    cases h1
  · rfl
  · have hi : j < ks.length := Nat.lt_of_lt_of_le hlt h.le
    have h1 := h'.here _ (List.getElem?_eq_getElem hi)
    rw [h.ahead j _ hlt (List.getElem?_eq_getElem hi)] at h1
    cases h1

section
variable {n : Nd} {k : ByteArray} {i : Nat}

theorem Nd.Ok.lt (h : n.Ok) {a b : Nat} {p q : Kv} (hab : a < b) (hp : n.ks[a]? = some p) (hq : n.ks[b]? = some q) : bl p.1 q.1 = true := by
  obtain ⟨ha, rfl⟩ := List.getElem?_eq_some_iff.1 hp
  obtain ⟨hb, rfl⟩ := List.getElem?_eq_some_iff.1 hq
  exact List.pairwise_iff_getElem.1 h.rise a b ha hb hab

/-- a key that is there is at its place -/
theorem Nd.Ok.at (h : n.Ok) {v : Int} (hi : n.ks[i]? = some (k, v)) : At k n.ks i :=
  ⟨Nat.le_of_lt (List.getElem?_eq_some_iff.1 hi).1, fun j p hj hp => h.lt hj hp hi, fun p hp => by
    rw [hi] at hp
    cases hp
    exact bl_self _⟩

/-- behind a key's place all are greater, where it is not there -/
theorem At.above (h : n.Ok) (ha : At k n.ks i) (hno : ∀ v, n.ks[i]? ≠ some (k, v)) {j : Nat} {p : Kv} (hj : i ≤ j) (hp : n.ks[j]? = some p) : bl k p.1 = true := by
  have hjl := (List.getElem?_eq_some_iff.1 hp).1
  have hi : n.ks[i]? = some n.ks[i] := List.getElem?_eq_getElem (by omega)
  have h1 : bl k n.ks[i].1 = true := by
    rcases bl_tot k n.ks[i].1 with h1 | h1 | h1
    · exact h1
    · exact absurd hi (by rw [show n.ks[i] = (k, n.ks[i].2) by rw [h1]] at hi ⊢; exact hno _)
    · rw [ha.here _ hi] at h1; cases h1
  rcases Nat.lt_or_eq_of_le hj with hlt | rfl
  · exact bl_tr h1 (h.lt hlt hi hp)
  · rw [hi] at hp; cases hp; exact h1
theorem At.absent (h : n.Ok) (ha : At k n.ks i) (hno : ∀ v, n.ks[i]? ≠ some (k, v)) : k ∉ n.keys := by
  intro hm
  obtain ⟨p, hp, rfl⟩ := List.mem_map.1 hm
  obtain ⟨j, hj⟩ := List.getElem?_of_mem hp
  by_cases hlt : j < i
  · have := ha.ahead j p hlt hj
    rw [bl_self] at this; cases this
  · have := At.above h ha hno (by omega) hj
    rw [bl_self] at this; cases this

theorem ins_get {α : Type} {l : List α} {i j : Nat} {x p : α} (h : (l.insertIdx i x)[j]? = some p) (hi : i ≤ l.length) : (j < i ∧ l[j]? = some p) ∨ (j = i ∧ p = x) ∨ (i < j ∧ l[j - 1]? = some p) := by
  rw [List.getElem?_insertIdx] at h
  split at h
  · exact Or.inl ⟨by assumption, h⟩
  · split at h
    · rename_i h1 h2
      subst h2
      rw [if_pos hi] at h
      exact Or.inr (Or.inl ⟨rfl, by simpa using h.symm⟩)
    · exact Or.inr (Or.inr ⟨by omega, h⟩)
theorem del_get {α : Type} {l : List α} {i j : Nat} {p : α} (h : (l.eraseIdx i)[j]? = some p) : (j < i ∧ l[j]? = some p) ∨ (i ≤ j ∧ l[j + 1]? = some p) := by
  rw [List.getElem?_eraseIdx] at h
  split at h
  · exact Or.inl ⟨by assumption, h⟩
  · exact Or.inr ⟨by omega, h⟩

theorem Nd.new_ok : Nd.new.Ok := ⟨by decide, by unfold May; decide, by decide, List.Pairwise.nil, fun p hp => (by cases hp), fun p hp => (by cases hp)⟩

theorem Nd.Ok.set (h : n.Ok) {v v' : Int} (hi : n.ks[i]? = some (k, v)) (hv : -9223372036854775808 ≤ v' ∧ v' ≤ 9223372036854775807) : (n.set i k v').Ok := by
  have hil := (List.getElem?_eq_some_iff.1 hi).1
  have hget : ∀ (j : Nat) (p : Kv), (n.ks.set i (k, v'))[j]? = some p → ∃ q : Kv, n.ks[j]? = some q ∧ q.1 = p.1 ∧ (p.2 = v' ∨ p = q) := fun j p hp => by
    by_cases e : i = j
    · subst e
      rw [List.getElem?_set_self hil] at hp
      cases hp
      exact ⟨_, hi, rfl, Or.inl rfl⟩
    · rw [List.getElem?_set_ne e] at hp
      exact ⟨p, hp, rfl, Or.inr rfl⟩
  refine ⟨h.len, h.may, by simpa [Nd.set] using h.few, ?_, fun p hp => ?_, fun p hp => ?_⟩
  · refine List.pairwise_iff_getElem.2 fun a b ha hb hab => ?_
    obtain ⟨q, hq, e1, -⟩ := hget a _ (List.getElem?_eq_getElem ha)
    obtain ⟨r, hr, e2, -⟩ := hget b _ (List.getElem?_eq_getElem hb)
    have := h.lt hab hq hr
    rw [e1, e2] at this
    exact this
  · obtain ⟨j, hj⟩ := List.getElem?_of_mem hp
    obtain ⟨q, hq, e1, -⟩ := hget j _ hj
    rw [← e1]
    exact h.short q (List.mem_of_getElem? hq)
  · obtain ⟨j, hj⟩ := List.getElem?_of_mem hp
    obtain ⟨q, hq, -, e2 | e2⟩ := hget j _ hj
    · rw [e2]; exact hv
    · rw [e2]; exact h.nums q (List.mem_of_getElem? hq)

theorem Nd.Ok.add (h : n.Ok) (ha : At k n.ks i) (hno : ∀ v, n.ks[i]? ≠ some (k, v)) (hf : n.ks.length < 15) (hk : k.size ≤ 4096) {v : Int} (hv : -9223372036854775808 ≤ v ∧ v ≤ 9223372036854775807) : (n.add i k v).Ok := by
  have hlen : (n.ks.insertIdx i (k, v)).length = n.ks.length + 1 := List.length_insertIdx_of_le_length ha.le _
  refine ⟨ins_length h.len hf (by have := ha.le; omega), h.may.ins (by rw [h.len]; exact hf) i (by have := ha.le; have := h.len; omega), by show (n.ks.insertIdx i (k, v)).length ≤ 15; omega, ?_, fun p hp => ?_, fun p hp => ?_⟩
  · show (n.ks.insertIdx i (k, v)).Pairwise _
    refine List.pairwise_iff_getElem.2 fun a b hla hlb hab => ?_
    have pa := ins_get (List.getElem?_eq_getElem hla) ha.le
    have pb := ins_get (List.getElem?_eq_getElem hlb) ha.le
    rcases pa with ⟨a1, a2⟩ | ⟨a1, a2⟩ | ⟨a1, a2⟩ <;> rcases pb with ⟨b1, b2⟩ | ⟨b1, b2⟩ | ⟨b1, b2⟩
    · exact h.lt hab a2 b2
    · rw [b2]; exact ha.ahead a _ a1 a2
    · exact h.lt (by omega) a2 b2
    · omega
    · omega
    · rw [a2]; exact At.above h ha hno (by omega) b2
    · omega
    · omega
    · exact h.lt (by omega) a2 b2
  · obtain ⟨j, hj⟩ := List.getElem?_of_mem hp
    rcases ins_get hj ha.le with ⟨-, h1⟩ | ⟨-, rfl⟩ | ⟨-, h1⟩
    · exact h.short p (List.mem_of_getElem? h1)
    · exact hk
    · exact h.short p (List.mem_of_getElem? h1)
  · obtain ⟨j, hj⟩ := List.getElem?_of_mem hp
    rcases ins_get hj ha.le with ⟨-, h1⟩ | ⟨-, rfl⟩ | ⟨-, h1⟩
    · exact h.nums p (List.mem_of_getElem? h1)
    · exact hv
    · exact h.nums p (List.mem_of_getElem? h1)

theorem Nd.Ok.del (h : n.Ok) (hi : i < n.ks.length) : (n.del i).Ok := by
  have hf := h.few
  refine ⟨ins_length h.len (by omega) (by omega), h.may.ins (by rw [h.len]; omega) (n.ks.length - 1) (by have := h.len; omega), ?_, h.rise.sublist (List.eraseIdx_sublist _ _), fun p hp => h.short p (List.mem_of_mem_eraseIdx hp), fun p hp => h.nums p (List.mem_of_mem_eraseIdx hp)⟩
  show (n.ks.eraseIdx i).length ≤ 15
  rw [List.length_eraseIdx_of_lt hi]
  omega

/-- taking the last one leaves the slots as they are -/
theorem remW_last {l : List Nat} {u : Nat} (hl : l.length = 15) (hu : u < 15) : remW l (u + 1) u = l := by
  unfold remW
  rw [Nat.add_sub_cancel, getD_of (by omega), erase_ins l u (by omega)]
/-- putting one behind all leaves the slots as they are -/
theorem insW_last {l : List Nat} {u : Nat} (hl : l.length = 15) (hu : u < 15) : insW l u u = l := by
  unfold insW
  rw [getD_of (by omega), erase_ins l u (by omega)]
end

end Go.Proofs.Ytoknebbkpkcomaa
