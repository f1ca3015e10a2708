import Derived.Test.YtoknebbkpkcomaaTPure
/- A tree, plainly: leaves side by side, each a node of the texts from its least one on; which leaf a text belongs to, and what calls make of them. Nothing here speaks of a program. -/
namespace Go.Proofs.Ytoknebbkpkcomaa

structure Lf where
  q : Nat
  g : Nat
  n : Nd
  num : Int
  least : ByteArray

def allK (ls : List Lf) : List Kv := ls.flatMap (fun l => l.n.ks)
def lst (ls : List Lf) : List ByteArray := ls.map (·.least)
/-- a text is one of those from a on, up to the next of M -/
def InR (M : List ByteArray) (k a : ByteArray) : Prop := bl k a = false ∧ ∀ y ∈ M, bl a y = true → bl k y = true

structure Lok (ls : List Lf) (made : Int) : Prop where
  head : ∃ l r, ls = l :: r ∧ l.least = ⟨#[]⟩
  rise : ls.Pairwise (fun a b => bl a.least b.least = true)
  inn : ∀ l ∈ ls, ∀ p ∈ l.n.ks, InR (lst ls) p.1 l.least
  nums : ls.Pairwise (fun a b => a.num ≠ b.num)
  made : ∀ l ∈ ls, 1 ≤ l.num ∧ l.num ≤ made
  okn : ∀ l ∈ ls, l.n.Ok
  full : ls.length = 1 ∨ ∀ l ∈ ls, l.n.ks ≠ []

theorem mem_allK {p : Kv} {ls : List Lf} : p ∈ allK ls ↔ ∃ l ∈ ls, p ∈ l.n.ks := List.mem_flatMap
theorem mem_lst {y : ByteArray} {ls : List Lf} : y ∈ lst ls ↔ ∃ l ∈ ls, l.least = y := List.mem_map
theorem lst_of {l : Lf} {ls : List Lf} (h : l ∈ ls) : l.least ∈ lst ls := mem_lst.2 ⟨l, h, rfl⟩
theorem allK_append (A B : List Lf) : allK (A ++ B) = allK A ++ allK B := by simp [allK]
theorem allK_cons (l : Lf) (B : List Lf) : allK (l :: B) = l.n.ks ++ allK B := by simp [allK]
theorem bl_lt_le {a b c : ByteArray} (h : bl a b = true) (k : bl c b = false) : bl a c = true := by
  rcases bl_tot b c with e | e | e
  · exact bl_tr h e
  · rw [← e]; exact h
  · rw [e] at k; cases k
theorem bl_le_lt {a b c : ByteArray} (h : bl b a = false) (k : bl b c = true) : bl a c = true := by
  rcases bl_tot a b with e | e | e
  · exact bl_tr e k
  · rw [e]; exact k
  · rw [e] at h; cases h
theorem bl_le_tr {a b c : ByteArray} (h : bl b a = false) (k : bl c b = false) : bl c a = false := by
  cases e : bl c a with
  | false => rfl
  | true => rw [bl_lt_le e h] at k; cases k

theorem pw_tri {α : Type} {R : α → α → Prop} : ∀ {l : List α}, l.Pairwise R → ∀ {a b : α}, a ∈ l → b ∈ l → a = b ∨ R a b ∨ R b a
  | [], _, _, _, h, _ => by cases h
  | x :: l, h, a, b, ha, hb => by
    obtain ⟨h1, h2⟩ := List.pairwise_cons.1 h
    rcases List.mem_cons.1 ha with ea | ea <;> rcases List.mem_cons.1 hb with eb | eb
    · exact Or.inl (ea.trans eb.symm)
    · rw [ea]; exact Or.inr (Or.inl (h1 _ eb))
    · rw [eb]; exact Or.inr (Or.inr (h1 _ ea))
    · exact pw_tri h2 ea eb

section
variable {ls ls' : List Lf} {made made' : Int} {k : ByteArray}

theorem inR_uniq (h : Lok ls made) {a b : Lf} (ha : a ∈ ls) (hb : b ∈ ls) (h1 : InR (lst ls) k a.least) (h2 : InR (lst ls) k b.least) : a = b := by
  rcases pw_tri h.rise ha hb with e | e | e
  · exact e
  · have := h1.2 _ (lst_of hb) e
    rw [h2.1] at this; cases this
  · have := h2.2 _ (lst_of ha) e
    rw [h1.1] at this; cases this
theorem num_uniq (h : Lok ls made) {a b : Lf} (ha : a ∈ ls) (hb : b ∈ ls) (he : a.num = b.num) : a = b := by
  rcases pw_tri h.nums ha hb with e | e | e
  · exact e
  · exact absurd he e
  · exact absurd he.symm e

theorem allK_rise (h : Lok ls made) : Rise (allK ls) := by
  unfold Rise allK
  rw [List.pairwise_flatMap]
  refine ⟨fun l hl => (h.okn l hl).rise, ?_⟩
  have hin := h.inn
  have := h.rise
  refine List.Pairwise.imp_of_mem ?_ this
  intro a b ha hb hab x hx y hy
  exact bl_lt_le ((hin a ha x hx).2 _ (lst_of hb) hab) (hin b hb y hy).1

theorem own_mem (h : Lok ls made) {l : Lf} (hl : l ∈ ls) {p : Kv} (ho : InR (lst ls) p.1 l.least) : p ∈ allK ls ↔ p ∈ l.n.ks := by
  constructor
  · intro hp
    obtain ⟨l', hl', hp'⟩ := mem_allK.1 hp
    rw [inR_uniq h hl hl' ho (h.inn l' hl' p hp')]
    exact hp'
  · exact fun hp => mem_allK.2 ⟨l, hl, hp⟩

/-- the leaf of a text, and those ahead of it and behind it -/
structure Cut (ls : List Lf) (k : ByteArray) (A : List Lf) (l : Lf) (B : List Lf) : Prop where
  eq : ls = A ++ l :: B
  ahead : ∀ x ∈ A, bl k x.least = false
  here : bl k l.least = false
  behind : ∀ x ∈ B, bl k x.least = true

theorem cut_split (k : ByteArray) : ∀ {ls : List Lf}, ls.Pairwise (fun a b => bl a.least b.least = true) → ∃ A B, ls = A ++ B ∧ (∀ x ∈ A, bl k x.least = false) ∧ ∀ x ∈ B, bl k x.least = true
  | [], _ => ⟨[], [], rfl, (fun _ h => by cases h), fun _ h => by cases h⟩
  | l :: r, h => by
    obtain ⟨h1, h2⟩ := List.pairwise_cons.1 h
    cases e : bl k l.least with
    | true =>
      refine ⟨[], l :: r, rfl, (fun _ h => by cases h), fun x hx => ?_⟩
      rcases List.mem_cons.1 hx with rfl | hx
      · exact e
      · exact bl_tr e (h1 x hx)
    | false =>
      obtain ⟨A, B, rfl, h3, h4⟩ := cut_split k h2
      refine ⟨l :: A, B, rfl, fun x hx => ?_, h4⟩
      rcases List.mem_cons.1 hx with rfl | hx
      · exact e
      · exact h3 x hx
theorem cut_ex (h : Lok ls made) (k : ByteArray) : ∃ A l B, Cut ls k A l B := by
  obtain ⟨A, B, e, h1, h2⟩ := cut_split k h.rise
  obtain ⟨l0, r0, e0, h0⟩ := h.head
  rcases List.eq_nil_or_concat A with rfl | ⟨A', l, rfl⟩
  · rw [List.nil_append] at e
    rw [e0] at e
    have := h2 l0 (by rw [← e]; exact List.mem_cons_self ..)
    rw [h0, bl_empty] at this
    cases this
  · rw [List.concat_eq_append] at h1 e
    refine ⟨A', l, B, by rw [e]; simp, fun x hx => h1 x (by simp [hx]), h1 l (by simp), h2⟩
theorem Cut.mem {A B : List Lf} {l : Lf} (c : Cut ls k A l B) : l ∈ ls := by rw [c.eq]; simp
theorem Cut.inR {A B : List Lf} {l : Lf} (h : Lok ls made) (c : Cut ls k A l B) : InR (lst ls) k l.least := by
  refine ⟨c.here, fun y hy hl => ?_⟩
  obtain ⟨x, hx, rfl⟩ := mem_lst.1 hy
  rw [c.eq] at hx
  have hr := h.rise
  rw [c.eq] at hr
  rcases List.mem_append.1 hx with hx | hx
  · have := (List.pairwise_append.1 hr).2.2 x hx l (List.mem_cons_self ..)
    rw [bl_asym this] at hl; cases hl
  · rcases List.mem_cons.1 hx with rfl | hx
    · rw [bl_self] at hl; cases hl
    · exact c.behind x hx
theorem Cut.get {A B : List Lf} {l : Lf} (c : Cut ls k A l B) : ls[A.length]? = some l := by rw [c.eq]; simp
theorem Cut.lt {A B : List Lf} {l : Lf} (c : Cut ls k A l B) : A.length < ls.length := by rw [c.eq]; simp
theorem Cut.at {A B : List Lf} {l : Lf} (c : Cut ls k A l B) {j : Nat} {x : Lf} (hj : ls[j]? = some x) : bl k x.least = decide (A.length < j) := by
  rw [c.eq] at hj
  by_cases h : j < A.length
  · rw [List.getElem?_append_left h] at hj
    rw [c.ahead x (List.mem_of_getElem? hj), decide_eq_false (by omega)]
  · rw [List.getElem?_append_right (by omega)] at hj
    by_cases e : j = A.length
    · subst e
      rw [Nat.sub_self] at hj
      cases hj
      rw [c.here, decide_eq_false (by omega)]
    · rw [show j - A.length = (j - A.length - 1) + 1 by omega, List.getElem?_cons_succ] at hj
      rw [c.behind x (List.mem_of_getElem? hj), decide_eq_true (by omega)]
end

/-! ### what is told of all keys -/
theorem mem_insK' {k : ByteArray} {v : Int} {ks : List Kv} (h : Rise ks) {p : Kv} : p ∈ insK k v ks ↔ p = (k, v) ∨ (p ∈ ks ∧ p.1 ≠ k) := by
  obtain ⟨a, b⟩ := p
  rw [← getK_some (Rise.ins h), getK_ins h]
  by_cases e : a = k
  · subst e
    rw [if_pos rfl]
    constructor
    · intro h; cases h; exact Or.inl rfl
    · rintro (h | ⟨_, h⟩)
      · cases h; rfl
      · exact absurd rfl h
  · rw [if_neg e, getK_some h]
    constructor
    · exact fun hm => Or.inr ⟨hm, e⟩
    · rintro (h | ⟨h, _⟩)
      · cases h; exact absurd rfl e
      · exact h
theorem mem_delK' {k : ByteArray} {ks : List Kv} {p : Kv} : p ∈ delK k ks ↔ p ∈ ks ∧ p.1 ≠ k := by
  unfold delK
  rw [List.mem_filter, decide_eq_true_eq]
theorem rise_mem {A B : List Kv} (ha : Rise A) (hb : Rise B) (h : ∀ p, p ∈ A ↔ p ∈ B) : A = B := by
  refine rise_ext ha hb fun k => ?_
  cases ea : getK k A with
  | some v => rw [(getK_some hb).2 ((h _).1 ((getK_some ha).1 ea))]
  | none =>
    cases eb : getK k B with
    | none => rfl
    | some v =>
      rw [(getK_some ha).2 ((h _).2 ((getK_some hb).1 eb))] at ea
      cases ea

/-! ### a leaf's node becomes another one -/
section
variable {A B : List Lf} {l : Lf} {made : Int} {k : ByteArray} {n' : Nd}

def Lf.with (l : Lf) (n' : Nd) : Lf := { l with n := n' }
theorem lst_with (A B : List Lf) (l : Lf) (n' : Nd) : lst (A ++ l.with n' :: B) = lst (A ++ l :: B) := by simp [lst, Lf.with]

theorem mem_with {x : Lf} (h : x ∈ A ++ l.with n' :: B) : x = l.with n' ∨ (x ∈ A ++ l :: B ∧ (x ∈ A ∨ x ∈ B)) := by
  rcases List.mem_append.1 h with h | h
  · exact Or.inr ⟨by simp [h], Or.inl h⟩
  · rcases List.mem_cons.1 h with h | h
    · exact Or.inl h
    · exact Or.inr ⟨by simp [h], Or.inr h⟩

theorem Lok.with (h : Lok (A ++ l :: B) made) (ho : n'.Ok) (hi : ∀ p ∈ n'.ks, InR (lst (A ++ l :: B)) p.1 l.least) (hf : (A = [] ∧ B = []) ∨ n'.ks ≠ []) : Lok (A ++ l.with n' :: B) made := by
  refine ⟨?_, ?_, fun x hx p hp => ?_, ?_, fun x hx => ?_, fun x hx => ?_, ?_⟩
  · obtain ⟨l0, r0, e, e0⟩ := h.head
    cases A with
    | nil => simp at e; exact ⟨l.with n', B, rfl, by rw [← e.1] at e0; exact e0⟩
    | cons a A => simp at e; exact ⟨a, A ++ l.with n' :: B, rfl, by rw [e.1]; exact e0⟩
  · have := h.rise
    rw [List.pairwise_append, List.pairwise_cons] at this ⊢
    refine ⟨this.1, this.2.1, fun a ha b hb => ?_⟩
    rcases List.mem_cons.1 hb with rfl | hb
    · exact this.2.2 a ha l (List.mem_cons_self ..)
    · exact this.2.2 a ha b (List.mem_cons_of_mem _ hb)
  · rw [lst_with]
    rcases mem_with hx with rfl | ⟨hx, _⟩
    · exact hi p hp
    · exact h.inn x hx p hp
  · have := h.nums
    rw [List.pairwise_append, List.pairwise_cons] at this ⊢
    refine ⟨this.1, this.2.1, fun a ha b hb => ?_⟩
    rcases List.mem_cons.1 hb with rfl | hb
    · exact this.2.2 a ha l (List.mem_cons_self ..)
    · exact this.2.2 a ha b (List.mem_cons_of_mem _ hb)
  · rcases mem_with hx with rfl | ⟨hx, _⟩
    · exact h.made l (by simp)
    · exact h.made x hx
  · rcases mem_with hx with rfl | ⟨hx, _⟩
    · exact ho
    · exact h.okn x hx
  · rcases hf with ⟨rfl, rfl⟩ | hf
    · exact Or.inl rfl
    · rcases h.full with e | e
      · exact Or.inl (by simpa using e)
      · refine Or.inr fun x hx => ?_
        rcases mem_with hx with rfl | ⟨hx, _⟩
        · exact hf
        · exact e x hx

theorem mem_allK_with {p : Kv} (h : Lok (A ++ l :: B) made) : p ∈ allK (A ++ l.with n' :: B) ↔ p ∈ n'.ks ∨ (p ∈ allK (A ++ l :: B) ∧ p ∉ l.n.ks) := by
  have hd : ∀ x, x ∈ A ∨ x ∈ B → p ∈ x.n.ks → p ∉ l.n.ks := fun x hx h1 h2 => by
    have hx' : x ∈ A ++ l :: B := by rcases hx with hx | hx <;> simp [hx]
    have e := inR_uniq h hx' (by simp : l ∈ A ++ l :: B) (h.inn x hx' p h1) (h.inn l (by simp) p h2)
    subst e
    have := h.rise
    rw [List.pairwise_append, List.pairwise_cons] at this
    rcases hx with hx | hx
    · have := this.2.2 x hx x (List.mem_cons_self ..)
      rw [bl_self] at this; cases this
    · have := this.2.1.1 x hx
      rw [bl_self] at this; cases this
  constructor
  · intro hp
    obtain ⟨x, hx, hp⟩ := mem_allK.1 hp
    rcases mem_with hx with rfl | ⟨hx, hy⟩
    · exact Or.inl hp
    · exact Or.inr ⟨mem_allK.2 ⟨x, hx, hp⟩, hd x hy hp⟩
  · rintro (hp | ⟨hp, hn⟩)
    · exact mem_allK.2 ⟨l.with n', by simp, hp⟩
    · obtain ⟨x, hx, hpx⟩ := mem_allK.1 hp
      rcases List.mem_append.1 hx with hx | hx
      · exact mem_allK.2 ⟨x, by simp [hx], hpx⟩
      · rcases List.mem_cons.1 hx with rfl | hx
        · exact absurd hpx hn
        · exact mem_allK.2 ⟨x, by simp [hx], hpx⟩

/-- a key put in, or its value -/
theorem allK_ins {v : Int} (h : Lok (A ++ l :: B) made) (h' : Lok (A ++ l.with n' :: B) made) (hk : InR (lst (A ++ l :: B)) k l.least) (he : n'.ks = insK k v l.n.ks) : allK (A ++ l.with n' :: B) = insK k v (allK (A ++ l :: B)) := by
  have hr := allK_rise h
  refine rise_mem (allK_rise h') (Rise.ins hr) fun p => ?_
  have hl : l ∈ A ++ l :: B := by simp
  rw [mem_allK_with h, he, mem_insK' (h.okn l hl).rise, mem_insK' hr]
  constructor
  · rintro ((e | ⟨e, e2⟩) | ⟨e, e2⟩)
    · exact Or.inl e
    · exact Or.inr ⟨mem_allK.2 ⟨l, hl, e⟩, e2⟩
    · exact Or.inr ⟨e, fun q => e2 ((own_mem h hl (by rw [q]; exact hk)).1 e)⟩
  · rintro (e | ⟨e, e2⟩)
    · exact Or.inl (Or.inl e)
    · by_cases hp : p ∈ l.n.ks
      · exact Or.inl (Or.inr ⟨hp, e2⟩)
      · exact Or.inr ⟨e, hp⟩
/-- a key taken out -/
theorem allK_del (h : Lok (A ++ l :: B) made) (h' : Rise (allK (A ++ l.with n' :: B))) (hk : InR (lst (A ++ l :: B)) k l.least) (he : n'.ks = delK k l.n.ks) : allK (A ++ l.with n' :: B) = delK k (allK (A ++ l :: B)) := by
  refine rise_mem h' (Rise.del (allK_rise h)) fun p => ?_
  have hl : l ∈ A ++ l :: B := by simp
  rw [mem_allK_with h, he, mem_delK', mem_delK']
  constructor
  · rintro (⟨e, e2⟩ | ⟨e, e2⟩)
    · exact ⟨mem_allK.2 ⟨l, hl, e⟩, e2⟩
    · exact ⟨e, fun q => e2 ((own_mem h hl (by rw [q]; exact hk)).1 e)⟩
  · rintro ⟨e, e2⟩
    by_cases hp : p ∈ l.n.ks
    · exact Or.inl ⟨hp, e2⟩
    · exact Or.inr ⟨e, hp⟩
end

end Go.Proofs.Ytoknebbkpkcomaa

/- A tree, plainly: a leaf that is split, one that is dropped; what stays of a leaf while its counts do; what a scan saw. Nothing here speaks of a program. -/
namespace Go.Proofs.Ytoknebbkpkcomaa

/-- what stays: a leaf that is there with its inserts as they were has its keys, and all texts that were its own -/
def Grew (ls : List Lf) (made : Int) (ls' : List Lf) (made' : Int) : Prop :=
  made ≤ made' ∧ ∀ l' ∈ ls', l'.num ≤ made → ∃ l ∈ ls, l.num = l'.num ∧ l.n.ins ≤ l'.n.ins ∧ (l.n.ins = l'.n.ins → l.n.keys = l'.n.keys ∧ ∀ k, InR (lst ls) k l.least → InR (lst ls') k l'.least)
theorem Grew.refl (ls : List Lf) (made : Int) : Grew ls made ls made := ⟨Int.le_refl _, fun l hl _ => ⟨l, hl, rfl, Int.le_refl _, fun _ => ⟨rfl, fun _ h => h⟩⟩⟩
theorem Grew.trans {a b c : List Lf} {x y z : Int} (h : Grew a x b y) (k : Grew b y c z) : Grew a x c z := by
  refine ⟨Int.le_trans h.1 k.1, fun l hl hn => ?_⟩
  obtain ⟨l1, h1, e1, i1, g1⟩ := k.2 l hl (Int.le_trans hn h.1)
  obtain ⟨l2, h2, e2, i2, g2⟩ := h.2 l1 h1 (by rw [e1]; exact hn)
  refine ⟨l2, h2, e2.trans e1, Int.le_trans i2 i1, fun e => ?_⟩
  obtain ⟨p1, p2⟩ := g1 (by omega)
  obtain ⟨q1, q2⟩ := g2 (by omega)
  exact ⟨q1.trans p1, fun k hk => p2 k (q2 k hk)⟩

section
variable {A B : List Lf} {l : Lf} {made : Int} {k : ByteArray} {n' : Nd}

theorem Grew.with (hi : l.n.ins ≤ n'.ins) (hs : l.n.ins = n'.ins → l.n.keys = n'.keys) : Grew (A ++ l :: B) made (A ++ l.with n' :: B) made := by
  refine ⟨Int.le_refl _, fun x hx _ => ?_⟩
  rcases mem_with hx with rfl | ⟨hx, _⟩
  · exact ⟨l, by simp, rfl, hi, fun e => ⟨hs e, fun k hk => by rw [lst_with]; exact hk⟩⟩
  · exact ⟨x, hx, rfl, Int.le_refl _, fun _ => ⟨rfl, fun k hk => by rw [lst_with]; exact hk⟩⟩

/-! ### a leaf is split -/
def Lf.spl (l : Lf) (q g : Nat) (num : Int) (least : ByteArray) : Lf := ⟨q, g, l.n.right, num, least⟩
theorem allK_split (q g : Nat) (num : Int) (least : ByteArray) : allK (A ++ l.with l.n.left :: l.spl q g num least :: B) = allK (A ++ l :: B) := by
  simp [allK, Lf.with, Lf.spl, Nd.left, Nd.right]
  rw [← List.append_assoc, List.take_append_drop]

structure Half (l : Lf) (p : Kv) : Prop where
  at_ : l.n.ks[l.n.stay]? = some p
  two : 2 ≤ l.n.ks.length

theorem Half.mem {p : Kv} (h : Half l p) : p ∈ l.n.ks := List.mem_of_getElem? h.at_
theorem Half.pos {p : Kv} (h : Half l p) : 0 < l.n.stay ∧ l.n.stay < l.n.ks.length := by
  have := h.two
  have := (List.getElem?_eq_some_iff.1 h.at_).1
  unfold Nd.stay at *
  omega
theorem Half.low {p : Kv} (h : Half l p) (ho : l.n.Ok) {x : Kv} (hx : x ∈ l.n.left.ks) : bl x.1 p.1 = true := by
  obtain ⟨i, hi⟩ := List.getElem?_of_mem hx
  have hl : i < l.n.stay := by
    have := (List.getElem?_eq_some_iff.1 hi).1
    simp [Nd.left] at this
    omega
  have hi' : l.n.ks[i]? = some x := by
    have : (l.n.ks.take l.n.stay)[i]? = some x := hi
    rwa [List.getElem?_take_of_lt hl] at this
  exact ho.lt hl hi' h.at_
theorem Half.up {p : Kv} (h : Half l p) (ho : l.n.Ok) {x : Kv} (hx : x ∈ l.n.right.ks) : bl x.1 p.1 = false := by
  obtain ⟨i, hi⟩ := List.getElem?_of_mem hx
  have hi' : l.n.ks[l.n.stay + i]? = some x := by
    have : (l.n.ks.drop l.n.stay)[i]? = some x := hi
    rwa [List.getElem?_drop] at this
  rcases Nat.eq_zero_or_pos i with rfl | hp
  · rw [Nat.add_zero, h.at_] at hi'
    cases hi'
    exact bl_self _
  · exact bl_asym (ho.lt (by omega) h.at_ hi')
theorem left_mem {n : Nd} {x : Kv} (h : x ∈ n.left.ks) : x ∈ n.ks := List.mem_of_mem_take h
theorem right_mem {n : Nd} {x : Kv} (h : x ∈ n.right.ks) : x ∈ n.ks := List.mem_of_mem_drop h

theorem Half.least {p : Kv} (h : Half l p) (hl : Lok (A ++ l :: B) made) : bl l.least p.1 = true := by
  have hp := h.pos
  obtain ⟨x, hx⟩ : ∃ x, l.n.ks[0]? = some x := ⟨_, List.getElem?_eq_getElem (by omega)⟩
  exact bl_le_lt (hl.inn l (by simp) x (List.mem_of_getElem? hx)).1 ((hl.okn l (by simp)).lt hp.1 hx h.at_)

variable {q g : Nat} {p : Kv}
theorem mem_split {x : Lf} {l2 : Lf} (h : x ∈ A ++ l.with n' :: l2 :: B) : x = l.with n' ∨ x = l2 ∨ (x ∈ A ++ l :: B ∧ (x ∈ A ∨ x ∈ B)) := by
  rcases List.mem_append.1 h with h | h
  · exact Or.inr (Or.inr ⟨by simp [h], Or.inl h⟩)
  · rcases List.mem_cons.1 h with h | h
    · exact Or.inl h
    · rcases List.mem_cons.1 h with h | h
      · exact Or.inr (Or.inl h)
      · exact Or.inr (Or.inr ⟨by simp [h], Or.inr h⟩)
theorem lst_split {y : ByteArray} {l2 : Lf} (h : y ∈ lst (A ++ l.with n' :: l2 :: B)) : y ∈ lst (A ++ l :: B) ∨ y = l2.least := by
  obtain ⟨x, hx, rfl⟩ := mem_lst.1 h
  rcases mem_split hx with rfl | rfl | ⟨hx, _⟩
  · exact Or.inl (mem_lst.2 ⟨l, by simp, rfl⟩)
  · exact Or.inr rfl
  · exact Or.inl (lst_of hx)

/-- what was its own stays so, of each other leaf -/
theorem split_inR (hl : Lok (A ++ l :: B) made) (h : Half l p) {x : Lf} (hx : x ∈ A ∨ x ∈ B) {l2 : Lf} (h2 : l2.least = p.1) (hk : InR (lst (A ++ l :: B)) k x.least) : InR (lst (A ++ l.with n' :: l2 :: B)) k x.least := by
  refine ⟨hk.1, fun y hy hb => ?_⟩
  rcases lst_split hy with hy | rfl
  · exact hk.2 y hy hb
  · rw [h2] at hb ⊢
    have hr := hl.rise
    rw [List.pairwise_append, List.pairwise_cons] at hr
    rcases hx with hx | hx
    · exact bl_tr (hk.2 _ (lst_of (by simp : l ∈ A ++ l :: B)) (hr.2.2 x hx l (List.mem_cons_self ..))) (h.least hl)
    · have := (hl.inn l (by simp) p h.mem).2 _ (lst_of (by simp [hx] : x ∈ A ++ l :: B)) (hr.2.1.1 x hx)
      rw [bl_asym this] at hb; cases hb

theorem Lok.split (hl : Lok (A ++ l :: B) made) (h : Half l p) (ho : l.n.left.Ok) (ho2 : l.n.right.Ok) : Lok (A ++ l.with l.n.left :: l.spl q g (made + 1) p.1 :: B) (made + 1) := by
  have hr := hl.rise
  have hn := hl.nums
  have hle := h.least hl
  rw [List.pairwise_append, List.pairwise_cons] at hr hn
  have hpos := h.pos
  refine ⟨?_, ?_, fun x hx r hr' => ?_, ?_, fun x hx => ?_, fun x hx => ?_, ?_⟩
  · obtain ⟨l0, r0, e, e0⟩ := hl.head
    cases A with
    | nil => simp at e; exact ⟨l.with l.n.left, _, rfl, by rw [← e.1] at e0; exact e0⟩
    | cons a A => simp at e; exact ⟨a, _, rfl, by rw [e.1]; exact e0⟩
  · rw [List.pairwise_append, List.pairwise_cons, List.pairwise_cons]
    refine ⟨hr.1, ⟨fun b hb => ?_, fun b hb => ?_, hr.2.1.2⟩, fun a ha b hb => ?_⟩
    · rcases List.mem_cons.1 hb with rfl | hb
      · exact hle
      · exact hr.2.1.1 b hb
    · exact (hl.inn l (by simp) p h.mem).2 _ (lst_of (by simp [hb] : b ∈ A ++ l :: B)) (hr.2.1.1 b hb)
    · rcases List.mem_cons.1 hb with rfl | hb
      · exact hr.2.2 a ha l (List.mem_cons_self ..)
      · rcases List.mem_cons.1 hb with rfl | hb
        · exact bl_tr (hr.2.2 a ha l (List.mem_cons_self ..)) hle
        · exact hr.2.2 a ha b (List.mem_cons_of_mem _ hb)
  · rcases mem_split hx with rfl | rfl | ⟨hx, hx'⟩
    · have h1 := hl.inn l (by simp) r (left_mem hr')
      refine ⟨h1.1, fun y hy hb => ?_⟩
      rcases lst_split hy with hy | rfl
      · exact h1.2 y hy hb
      · exact h.low (hl.okn l (by simp)) hr'
    · have h1 := hl.inn l (by simp) r (right_mem hr')
      refine ⟨h.up (hl.okn l (by simp)) hr', fun y hy hb => ?_⟩
      rcases lst_split hy with hy | rfl
      · exact h1.2 y hy (bl_tr hle hb)
      · rw [bl_self] at hb; cases hb
    · exact split_inR hl h hx' rfl (hl.inn x hx r hr')
  · rw [List.pairwise_append, List.pairwise_cons, List.pairwise_cons]
    have hm : ∀ x ∈ A ++ l :: B, x.num ≠ made + 1 := fun x hx => by have := hl.made x hx; omega
    refine ⟨hn.1, ⟨fun b hb => ?_, fun b hb => ?_, hn.2.1.2⟩, fun a ha b hb => ?_⟩
    · rcases List.mem_cons.1 hb with rfl | hb
      · exact hm l (by simp)
      · exact hn.2.1.1 b hb
    · exact (hm b (by simp [hb])).symm
    · rcases List.mem_cons.1 hb with rfl | hb
      · exact hn.2.2 a ha l (List.mem_cons_self ..)
      · rcases List.mem_cons.1 hb with rfl | hb
        · exact hm a (by simp [ha])
        · exact hn.2.2 a ha b (List.mem_cons_of_mem _ hb)
  · have h0 := hl.made l (by simp)
    rcases mem_split hx with rfl | rfl | ⟨hx, _⟩
    · exact ⟨h0.1, by show l.num ≤ _; omega⟩
    · exact ⟨by show 1 ≤ made + 1; omega, Int.le_refl _⟩
    · have := hl.made x hx
      exact ⟨this.1, by omega⟩
  · rcases mem_split hx with rfl | rfl | ⟨hx, _⟩
    · exact ho
    · exact ho2
    · exact hl.okn x hx
  · refine Or.inr fun x hx => ?_
    rcases mem_split hx with rfl | rfl | ⟨hx, hx'⟩
    · intro e
      have : (l.n.ks.take l.n.stay).length = 0 := by rw [show l.n.ks.take l.n.stay = [] from e]; rfl
      rw [List.length_take] at this
      omega
    · intro e
      have : (l.n.ks.drop l.n.stay).length = 0 := by rw [show l.n.ks.drop l.n.stay = [] from e]; rfl
      rw [List.length_drop] at this
      omega
    · rcases hl.full with e | e
      · rw [List.length_append, List.length_cons] at e
        have e1 : A = [] := List.length_eq_zero_iff.1 (by omega)
        have e2 : B = [] := List.length_eq_zero_iff.1 (by omega)
        subst e1 e2
        rcases hx' with h | h <;> cases h
      · exact e x hx
theorem Grew.split (hl : Lok (A ++ l :: B) made) (h : Half l p) : Grew (A ++ l :: B) made (A ++ l.with l.n.left :: l.spl q g (made + 1) p.1 :: B) (made + 1) := by
  have hp := h.pos
  have ht := h.two
  refine ⟨by omega, fun x hx hn => ?_⟩
  rcases mem_split hx with rfl | rfl | ⟨hx, hx'⟩
  · have : l.n.ins < l.n.left.ins := by show l.n.ins < l.n.ins + ((l.n.ks.length / 2 : Nat) : Int); omega
    refine ⟨l, by simp, rfl, ?_, fun e => ?_⟩
    · show l.n.ins ≤ l.n.left.ins; omega
    · have e' : l.n.ins = l.n.left.ins := e
      omega
  · have : made + 1 ≤ made := hn
    omega
  · exact ⟨x, hx, rfl, Int.le_refl _, fun _ => ⟨rfl, fun k hk => split_inR hl h hx' rfl hk⟩⟩

/-! ### a leaf is dropped -/
def fixh : List Lf → List Lf
  | [] => []
  | l :: r => { l with least := ⟨#[]⟩ } :: r
theorem allK_fixh (ls : List Lf) : allK (fixh ls) = allK ls := by cases ls <;> simp [fixh, allK]
theorem allK_drop (h : l.n.ks = []) : allK (fixh (A ++ B)) = allK (A ++ l :: B) := by rw [allK_fixh, allK_append, allK_append, allK_cons, h, List.nil_append]
theorem mem_fixh {x : Lf} : ∀ {ls : List Lf}, x ∈ fixh ls → x ∈ ls ∨ ∃ l r, ls = l :: r ∧ x = { l with least := ⟨#[]⟩ }
  | [], h => by cases h
  | l :: r, h => by
    rcases List.mem_cons.1 h with rfl | h
    · exact Or.inr ⟨l, r, rfl, rfl⟩
    · exact Or.inl (List.mem_cons_of_mem _ h)
theorem lst_fixh {y : ByteArray} {ls : List Lf} (h : y ∈ lst (fixh ls)) : y = ⟨#[]⟩ ∨ ∃ l r, ls = l :: r ∧ y ∈ lst r := by
  cases ls with
  | nil => cases h
  | cons l r =>
    rcases List.mem_cons.1 h with rfl | h
    · exact Or.inl rfl
    · exact Or.inr ⟨l, r, rfl, h⟩
theorem fix_inR (hr : (A ++ B).Pairwise (fun a b => bl a.least b.least = true)) {x : Lf} (hx : x ∈ A ++ B) (hk : InR (lst (A ++ l :: B)) k x.least) {x' : Lf} (hx' : x' = x ∨ (∃ r, A ++ B = x :: r) ∧ x' = { x with least := ⟨#[]⟩ }) : InR (lst (fixh (A ++ B))) k x'.least := by
  have hsub : ∀ y, y ∈ lst (A ++ B) → y ∈ lst (A ++ l :: B) := fun y hy => by
    obtain ⟨z, hz, rfl⟩ := mem_lst.1 hy
    refine lst_of ?_
    rcases List.mem_append.1 hz with hz | hz <;> simp [hz]
  rcases hx' with rfl | ⟨⟨r, e⟩, rfl⟩
  · refine ⟨hk.1, fun y hy hb => ?_⟩
    rcases lst_fixh hy with rfl | ⟨l0, r0, e, hy⟩
    · rw [bl_empty] at hb; cases hb
    · exact hk.2 y (hsub y (by rw [e]; exact List.mem_cons_of_mem _ hy)) hb
  · refine ⟨bl_empty _, fun y hy hb => ?_⟩
    rcases lst_fixh hy with rfl | ⟨l0, r0, e', hy⟩
    · rw [bl_self] at hb; cases hb
    · have e2 := e
      rw [e'] at e2
      cases e2
      obtain ⟨z, hz, rfl⟩ := mem_lst.1 hy
      rw [e] at hr
      exact hk.2 _ (hsub _ (by rw [e]; exact List.mem_cons_of_mem _ (lst_of hz))) ((List.pairwise_cons.1 hr).1 z hz)

theorem Lok.drop (hl : Lok (A ++ l :: B) made) (hne : A ++ B ≠ []) : Lok (fixh (A ++ B)) made := by
  have hsub : ∀ x, x ∈ A ++ B → x ∈ A ++ l :: B := fun x hx => by rcases List.mem_append.1 hx with hx | hx <;> simp [hx]
  have hsl : (A ++ B).Sublist (A ++ l :: B) := List.Sublist.append (List.Sublist.refl _) (List.sublist_cons_self _ _)
  have hr := hl.rise.sublist hsl
  have hn := hl.nums.sublist hsl
  have hfull : ∀ x ∈ A ++ B, x.n.ks ≠ [] := fun x hx => by
    rcases hl.full with e | e
    · exfalso
      apply hne
      rw [List.length_append, List.length_cons] at e
      rw [List.append_eq_nil_iff]
      exact ⟨List.length_eq_zero_iff.1 (by omega), List.length_eq_zero_iff.1 (by omega)⟩
    · exact e x (hsub x hx)
  have hcase : ∀ x', x' ∈ fixh (A ++ B) → ∃ x ∈ A ++ B, (x' = x ∨ (∃ r, A ++ B = x :: r) ∧ x' = { x with least := ⟨#[]⟩ }) := fun x' hx' => by
    rcases mem_fixh hx' with hx' | ⟨l0, r0, e, rfl⟩
    · exact ⟨x', hx', Or.inl rfl⟩
    · exact ⟨l0, by rw [e]; exact List.mem_cons_self .., Or.inr ⟨⟨r0, e⟩, rfl⟩⟩
  have hcase' : ∀ x', x' ∈ fixh (A ++ B) → ∃ x ∈ A ++ B, x'.n = x.n ∧ x'.num = x.num ∧ (x' = x ∨ (∃ r, A ++ B = x :: r) ∧ x' = { x with least := ⟨#[]⟩ }) := fun x' hx' => by
    obtain ⟨x, h1, h2⟩ := hcase x' hx'
    refine ⟨x, h1, ?_, ?_, h2⟩ <;> rcases h2 with rfl | ⟨_, rfl⟩ <;> rfl
  refine ⟨?_, ?_, fun x hx p hp => ?_, ?_, fun x hx => ?_, fun x hx => ?_, ?_⟩
  · cases e : A ++ B with
    | nil => exact absurd e hne
    | cons a r => exact ⟨_, _, rfl, rfl⟩
  · cases e : A ++ B with
    | nil => exact absurd e hne
    | cons a r =>
      rw [e] at hr
      obtain ⟨h1, h2⟩ := List.pairwise_cons.1 hr
      refine List.pairwise_cons.2 ⟨fun b hb => ?_, h2⟩
      exact bl_le_lt (bl_empty _) (h1 b hb)
  · obtain ⟨x0, h0, e1, e2, h2⟩ := hcase' x hx
    rw [e1] at hp
    exact fix_inR hr h0 (hl.inn x0 (hsub x0 h0) p hp) h2
  · cases e : A ++ B with
    | nil => exact absurd e hne
    | cons a r =>
      rw [e] at hn
      obtain ⟨h1, h2⟩ := List.pairwise_cons.1 hn
      exact List.pairwise_cons.2 ⟨fun b hb => h1 b hb, h2⟩
  · obtain ⟨x0, h0, e1, e2, h2⟩ := hcase' x hx
    rw [e2]
    exact hl.made x0 (hsub x0 h0)
  · obtain ⟨x0, h0, e1, e2, h2⟩ := hcase' x hx
    rw [e1]
    exact hl.okn x0 (hsub x0 h0)
  · refine Or.inr fun x hx => ?_
    obtain ⟨x0, h0, e1, e2, h2⟩ := hcase' x hx
    rw [e1]
    exact hfull x0 h0
theorem Grew.drop (hl : Lok (A ++ l :: B) made) : Grew (A ++ l :: B) made (fixh (A ++ B)) made := by
  have hsub : ∀ x, x ∈ A ++ B → x ∈ A ++ l :: B := fun x hx => by rcases List.mem_append.1 hx with hx | hx <;> simp [hx]
  have hr := hl.rise.sublist (List.Sublist.append (List.Sublist.refl A) (List.sublist_cons_self l B))
  refine ⟨Int.le_refl _, fun x hx _ => ?_⟩
  rcases mem_fixh hx with hx | ⟨l0, r0, e, rfl⟩
  · exact ⟨x, hsub x hx, rfl, Int.le_refl _, fun _ => ⟨rfl, fun k hk => fix_inR hr hx hk (Or.inl rfl)⟩⟩
  · have h0 : l0 ∈ A ++ B := by rw [e]; exact List.mem_cons_self ..
    exact ⟨l0, hsub l0 h0, rfl, Int.le_refl _, fun _ => ⟨rfl, fun k hk => fix_inR hr h0 hk (Or.inr ⟨⟨r0, e⟩, rfl⟩)⟩⟩
end

end Go.Proofs.Ytoknebbkpkcomaa

/- What a search saw of a tree, plainly, and what follows while that is valid. Nothing here speaks of a program. -/
namespace Go.Proofs.Ytoknebbkpkcomaa

/-- a place seen: a leaf's number and its counts -/
abbrev Sn := Int × Int × Int
def sn (l : Lf) : Sn := (l.num, l.n.ins, l.n.spl)
def validB (ls : List Lf) (seen : List Sn) : Bool := seen.all fun s => ls.any fun l => decide (sn l = s)
theorem validB_iff {ls : List Lf} {seen : List Sn} : validB ls seen = true ↔ ∀ s ∈ seen, ∃ l ∈ ls, sn l = s := by
  simp [validB]

def inB (from_ to k : ByteArray) : Bool := !bl k from_ && (decide (to = ⟨#[]⟩) || bl k to)
theorem inK_inB (from_ to : ByteArray) (p : Kv) : inK from_ to p = inB from_ to p.1 := rfl

/-- told and seen are what a scan tells of these leaves -/
structure Scanned (ls : List Lf) (from_ to : ByteArray) (most : Nat) (told : List Kv) (seen : List Sn) : Prop where
  eq : told = (scanK from_ to (allK ls)).take most
  real : ∀ s ∈ seen, ∃ l ∈ ls, sn l = s
  few : seen.length ≤ ls.length
  covers : ∀ k l, l ∈ ls → InR (lst ls) k l.least → inB from_ to k = true → (told.length < most ∨ ∃ z ∈ told, bl z.1 k = false) → sn l ∈ seen

def keysOf (ks : List Kv) : List ByteArray := ks.map (·.1)
def zed (ks : List Kv) : List Kv := ks.map fun p => (p.1, 0)
theorem zed_rise {ks : List Kv} (h : Rise ks) : Rise (zed ks) := by
  unfold Rise zed
  rw [List.pairwise_map]
  exact h
theorem mem_zed {ks : List Kv} {p : Kv} : p ∈ zed ks ↔ p.2 = 0 ∧ ∃ v, (p.1, v) ∈ ks := by
  unfold zed
  rw [List.mem_map]
  constructor
  · rintro ⟨q, hq, rfl⟩
    exact ⟨rfl, q.2, hq⟩
  · rintro ⟨h1, v, hv⟩
    exact ⟨_, hv, by rw [← h1]⟩
theorem keys_zed {A B : List Kv} (h : zed A = zed B) : keysOf A = keysOf B := by
  have : ∀ L : List Kv, keysOf (zed L) = keysOf L := fun L => by unfold keysOf zed; rw [List.map_map]; rfl
  rw [← this A, ← this B, h]
theorem zed_take (A : List Kv) (m : Nat) : zed (A.take m) = (zed A).take m := by unfold zed; rw [List.map_take]
theorem zed_length (A : List Kv) : (zed A).length = A.length := by unfold zed; rw [List.length_map]

theorem rise_filter {ks : List Kv} (h : Rise ks) (f : Kv → Bool) : Rise (ks.filter f) := List.Pairwise.filter _ h
theorem rise_append {A B : List Kv} : Rise (A ++ B) ↔ Rise A ∧ Rise B ∧ ∀ a ∈ A, ∀ b ∈ B, bl a.1 b.1 = true := List.pairwise_append

/-- two that are the same up to the last of the first m -/
theorem take_same {X Y : List Kv} (hx : Rise X) (hy : Rise Y) {m : Nat} (hm : 1 ≤ m) (h : ∀ p : Kv, ((X.take m).length < m ∨ ∃ z ∈ X.take m, bl z.1 p.1 = false) → (p ∈ X ↔ p ∈ Y)) : X.take m = Y.take m := by
  by_cases hl : (X.take m).length < m
  · rw [rise_mem hx hy (fun p => h p (Or.inl hl))]
  · have hlen : (X.take m).length = m := by have := List.length_take_le m X; omega
    obtain ⟨z, hz⟩ : ∃ z, (X.take m)[m - 1]? = some z := ⟨_, List.getElem?_eq_getElem (by omega)⟩
    have hzm : z ∈ X.take m := List.mem_of_getElem? hz
    have hsplit : X = X.take m ++ X.drop m := (List.take_append_drop m X).symm
    have hx2 := hx
    rw [hsplit, rise_append] at hx2
    have hlast : ∀ p ∈ X.take m, bl z.1 p.1 = false := fun p hp => by
      obtain ⟨i, hi⟩ := List.getElem?_of_mem hp
      have hil := (List.getElem?_eq_some_iff.1 hi).1
      by_cases e : i = m - 1
      · subst e; rw [hz] at hi; cases hi; exact bl_self _
      · obtain ⟨hi1, e1⟩ := List.getElem?_eq_some_iff.1 hi
        obtain ⟨hi2, e2⟩ := List.getElem?_eq_some_iff.1 hz
        have := List.pairwise_iff_getElem.1 hx2.1 i (m - 1) hi1 hi2 (by omega)
        rw [e1, e2] at this
        exact bl_asym this
    have e1 : Y.filter (fun p => !bl z.1 p.1) = X.take m := by
      refine rise_mem (rise_filter hy _) hx2.1 fun p => ?_
      rw [List.mem_filter]
      constructor
      · rintro ⟨h1, h2⟩
        have h2' : bl z.1 p.1 = false := by simpa using h2
        have hpX := (h p (Or.inr ⟨z, hzm, h2'⟩)).2 h1
        rw [hsplit] at hpX
        rcases List.mem_append.1 hpX with hp | hp
        · exact hp
        · rw [hx2.2.2 z hzm p hp] at h2'; cases h2'
      · intro hp
        have h2 := hlast p hp
        exact ⟨(h p (Or.inr ⟨z, hzm, h2⟩)).1 (List.mem_of_mem_take hp), by simp [h2]⟩
    have e2 : Y.filter (fun p => !bl z.1 p.1) ++ Y.filter (fun p => bl z.1 p.1) = Y := by
      have := filter_cut (P := fun p => !bl z.1 p.1) (Q := fun p => bl z.1 p.1) (R := fun _ => true) (c := fun p => !bl z.1 p.1) (ks := Y) (List.Pairwise.imp (fun {a b} hab hc => by
        have hc' : bl z.1 b.1 = false := by simpa using hc
        have : bl z.1 a.1 = false := by
          cases e : bl z.1 a.1 with
          | false => rfl
          | true => rw [bl_tr e hab] at hc'; cases hc'
        simp [this]) hy) (fun p _ => by by_cases e : bl z.1 p.1 = true <;> simp [e]) (fun p _ hc => hc) (fun p _ hc => by simpa using hc)
      rw [this]
      exact List.filter_eq_self.2 (fun _ _ => rfl)
    rw [e1] at e2
    have e3 : Y.take m = X.take m := by
      rw [← e2, List.take_append_of_le_length (Nat.le_of_eq hlen.symm), List.take_of_length_le (Nat.le_of_eq hlen)]
    exact e3.symm

section
variable {ls ls' : List Lf} {made made' : Int}

/-- a leaf whose place seen is valid has what it had -/
theorem seen_same (h : Lok ls made) (h' : Lok ls' made') (hg : Grew ls made ls' made') {l : Lf} (hl : l ∈ ls) {seen : List Sn} (hs : sn l ∈ seen) (hv : validB ls' seen = true) {k : ByteArray} (hk : InR (lst ls) k l.least) :
    (∃ v, (k, v) ∈ allK ls) ↔ ∃ v, (k, v) ∈ allK ls' := by
  obtain ⟨l', hl', e⟩ := validB_iff.1 hv _ hs
  have e1 : l'.num = l.num := by have := congrArg (·.1) e; exact this
  have e2 : l'.n.ins = l.n.ins := by have := congrArg (·.2.1) e; exact this
  obtain ⟨l0, h0, n0, i0, g0⟩ := hg.2 l' hl' (by rw [e1]; exact (h.made l hl).2)
  obtain rfl := num_uniq h h0 hl (n0.trans e1)
  obtain ⟨k1, k2⟩ := g0 e2.symm
  have hk' := k2 k hk
  have e3 : ∀ v, (k, v) ∈ allK ls ↔ (k, v) ∈ l0.n.ks := fun v => own_mem h hl hk
  have e4 : ∀ v, (k, v) ∈ allK ls' ↔ (k, v) ∈ l'.n.ks := fun v => own_mem h' hl' hk'
  have e5 : ∀ n : Nd, (∃ v, (k, v) ∈ n.ks) ↔ k ∈ n.keys := fun n => by
    unfold Nd.keys
    rw [List.mem_map]
    constructor
    · rintro ⟨v, hv⟩; exact ⟨_, hv, rfl⟩
    · rintro ⟨⟨a, v⟩, hv, rfl⟩; exact ⟨v, hv⟩
  simp only [e3, e4, e5, k1]

/-- a scan that is valid tells the same -/
theorem unseen (h : Lok ls made) (h' : Lok ls' made') (hg : Grew ls made ls' made') {from_ to : ByteArray} {most : Nat} (hm : 1 ≤ most) {told : List Kv} {seen : List Sn} (hs : Scanned ls from_ to most told seen) (hv : validB ls' seen = true) :
    keysOf ((scanK from_ to (allK ls')).take most) = keysOf told := by
  rw [hs.eq]
  refine keys_zed ?_
  have hX : Rise (scanK from_ to (allK ls)) := rise_filter (allK_rise h) _
  have hY : Rise (scanK from_ to (allK ls')) := rise_filter (allK_rise h') _
  rw [zed_take, zed_take]
  refine (take_same (zed_rise hX) (zed_rise hY) hm fun p hp => ?_).symm
  rw [← zed_take, zed_length, ← hs.eq] at hp
  have hp' : told.length < most ∨ ∃ z ∈ told, bl z.1 p.1 = false := by
    rcases hp with hp | ⟨z, hz, hb⟩
    · exact Or.inl hp
    · obtain ⟨_, v, hv⟩ := mem_zed.1 hz
      exact Or.inr ⟨_, hv, hb⟩
  rw [mem_zed, mem_zed]
  refine and_congr_right fun _ => ?_
  have e : ∀ L : List Kv, (∃ v, (p.1, v) ∈ scanK from_ to L) ↔ inB from_ to p.1 = true ∧ ∃ v, (p.1, v) ∈ L := fun L => by
    unfold scanK
    simp only [List.mem_filter, inK_inB]
    constructor
    · rintro ⟨v, h1, h2⟩; exact ⟨h2, v, h1⟩
    · rintro ⟨h2, v, h1⟩; exact ⟨v, h1, h2⟩
  rw [e, e]
  refine and_congr_right fun hin => ?_
  obtain ⟨A, l, B, c⟩ := cut_ex h p.1
  exact seen_same h h' hg c.mem (hs.covers p.1 l c.mem (c.inR h) hin hp') hv (c.inR h)

/-- at once it is valid -/
theorem valid_now {seen : List Sn} (h : ∀ s ∈ seen, ∃ l ∈ ls, sn l = s) : validB ls seen = true := validB_iff.2 h
/-- no key put in or taken out: valid still -/
theorem valid_still {seen : List Sn} {A B : List Lf} {l : Lf} {n' : Nd} (hi : n'.ins = l.n.ins) (hs : n'.spl = l.n.spl) (hv : validB (A ++ l :: B) seen = true) : validB (A ++ l.with n' :: B) seen = true := by
  rw [validB_iff] at hv ⊢
  intro s hss
  obtain ⟨x, hx, e⟩ := hv s hss
  rcases List.mem_append.1 hx with hx | hx
  · exact ⟨x, by simp [hx], e⟩
  · rcases List.mem_cons.1 hx with rfl | hx
    · exact ⟨x.with n', by simp, by rw [← e]; simp [sn, Lf.with, hi, hs]⟩
    · exact ⟨x, by simp [hx], e⟩

/-! ### what a scan comes to, leaf by leaf -/
variable {A B : List Lf} {l : Lf} {from_ to : ByteArray}
theorem scan_ahead (h : Lok ls made) (c : Cut ls from_ A l B) : scanK from_ to (allK ls) = scanK from_ to (allK (l :: B)) := by
  have e : scanK from_ to (allK A) = [] := by
    unfold scanK
    rw [List.filter_eq_nil_iff]
    intro p hp
    obtain ⟨x, hx, hpx⟩ := mem_allK.1 hp
    have hx' : x ∈ ls := by rw [c.eq]; simp [hx]
    have hr := h.rise
    rw [c.eq] at hr
    have := (h.inn x hx' p hpx).2 _ (lst_of c.mem) ((List.pairwise_append.1 hr).2.2 x hx l (List.mem_cons_self ..))
    have hb : bl p.1 from_ = true := bl_lt_le this c.here
    simp [inK, hb]
  rw [c.eq, allK_append]
  unfold scanK at e ⊢
  rw [List.filter_append, e, List.nil_append]
theorem inB_ge {k : ByteArray} (h : inB from_ to k = true) : bl k from_ = false := by
  unfold inB at h
  cases e : bl k from_ with
  | false => rfl
  | true => rw [e] at h; simp at h
theorem inB_lt {k : ByteArray} (h : inB from_ to k = true) (ht : to ≠ ⟨#[]⟩) : bl k to = true := by
  unfold inB at h
  rw [decide_eq_false ht] at h
  cases e : bl k to with
  | true => rfl
  | false => rw [e] at h; simp at h
/-- a text of the range is of the leaf of its beginning, or of one behind -/
theorem own_behind (h : Lok ls made) (c : Cut ls from_ A l B) {k : ByteArray} (hk : bl k from_ = false) {x : Lf} (hx : x ∈ ls) (ho : InR (lst ls) k x.least) : x ∈ l :: B := by
  rw [c.eq] at hx
  rcases List.mem_append.1 hx with hx | hx
  · have hr := h.rise
    rw [c.eq] at hr
    have := ho.2 _ (lst_of c.mem) ((List.pairwise_append.1 hr).2.2 x hx l (List.mem_cons_self ..))
    have := bl_lt_le this c.here
    rw [this] at hk; cases hk
  · exact hx

/-- all leaves were looked at -/
theorem scanned_all (h : Lok ls made) (c : Cut ls from_ A l B) {most : Nat} (hf : (scanK from_ to (allK (l :: B))).length < most) : Scanned ls from_ to most (scanK from_ to (allK (l :: B))) ((l :: B).map sn) := by
  refine ⟨?_, fun s hs => ?_, by rw [c.eq]; simp, fun k x hx ho hin _ => List.mem_map.2 ⟨x, own_behind h c (inB_ge hin) hx ho, rfl⟩⟩
  · rw [scan_ahead h c, List.take_of_length_le (Nat.le_of_lt hf)]
  · obtain ⟨x, hx, rfl⟩ := List.mem_map.1 hs
    exact ⟨x, by rw [c.eq]; exact List.mem_append_right _ hx, rfl⟩
/-- the next leaf is of texts behind the end -/
theorem scanned_end (h : Lok ls made) (c : Cut ls from_ A l B) {most : Nat} {C D : List Lf} {x : Lf} (he : l :: B = C ++ x :: D) (hx : bl x.least to = false) (ht : to ≠ ⟨#[]⟩) (hf : (scanK from_ to (allK C)).length < most) : Scanned ls from_ to most (scanK from_ to (allK C)) (C.map sn) := by
  have hls : ls = (A ++ C) ++ x :: D := by rw [c.eq, he]; simp
  have hr := h.rise
  rw [hls, List.pairwise_append, List.pairwise_cons] at hr
  have hfar : ∀ y ∈ x :: D, bl y.least to = false := fun y hy => by
    rcases List.mem_cons.1 hy with rfl | hy
    · exact hx
    · cases e : bl y.least to with
      | false => rfl
      | true => rw [bl_tr (hr.2.1.1 y hy) e] at hx; cases hx
  have e : scanK from_ to (allK (x :: D)) = [] := by
    unfold scanK
    rw [List.filter_eq_nil_iff]
    intro p hp
    obtain ⟨y, hy, hpy⟩ := mem_allK.1 hp
    have hy' : y ∈ ls := by rw [hls]; exact List.mem_append_right _ hy
    have h1 := (h.inn y hy' p hpy).1
    have h2 : bl p.1 to = false := bl_le_tr (hfar y hy) h1
    simp [inK, h2, ht]
  refine ⟨?_, fun s hs => ?_, by rw [hls]; simp; omega, fun k y hy ho hin _ => ?_⟩
  · rw [scan_ahead h c, he, allK_append]
    unfold scanK at e hf ⊢
    rw [List.filter_append, e, List.append_nil, List.take_of_length_le (Nat.le_of_lt hf)]
  · obtain ⟨y, hy, rfl⟩ := List.mem_map.1 hs
    exact ⟨y, by rw [hls]; simp [hy], rfl⟩
  · have := own_behind h c (inB_ge hin) hy ho
    rw [he] at this
    rcases List.mem_append.1 this with hc | hc
    · exact List.mem_map.2 ⟨y, hc, rfl⟩
    · have h1 := hfar y hc
      have h2 := bl_le_tr h1 ho.1
      rw [inB_lt hin ht] at h2; cases h2
/-- as many as were asked for were told -/
theorem scanned_most (h : Lok ls made) (c : Cut ls from_ A l B) {most : Nat} {C D : List Lf} {x : Lf} (he : l :: B = C ++ x :: D) {K K' : List Kv} (hK : x.n.ks = K ++ K') (hf : (scanK from_ to (allK C ++ K)).length = most) : Scanned ls from_ to most (scanK from_ to (allK C ++ K)) ((C ++ [x]).map sn) := by
  have hls : ls = (A ++ C) ++ x :: D := by rw [c.eq, he]; simp
  have hr := h.rise
  rw [hls, List.pairwise_append, List.pairwise_cons] at hr
  have hall : allK (l :: B) = (allK C ++ K) ++ (K' ++ allK D) := by rw [he, allK_append, allK_cons, hK]; simp
  have hxm : x ∈ ls := by rw [hls]; simp
  refine ⟨?_, fun s hs => ?_, by rw [hls]; simp; omega, fun k y hy ho hin hz => ?_⟩
  · rw [scan_ahead h c, hall]
    have e : scanK from_ to (allK C ++ K ++ (K' ++ allK D)) = scanK from_ to (allK C ++ K) ++ scanK from_ to (K' ++ allK D) := by
      unfold scanK
      exact List.filter_append _ _
    rw [e, List.take_append_of_le_length (Nat.le_of_eq hf.symm), List.take_of_length_le (Nat.le_of_eq hf)]
  · obtain ⟨y, hy, rfl⟩ := List.mem_map.1 hs
    exact ⟨y, by rw [hls]; rcases List.mem_append.1 hy with hy | hy <;> simp_all, rfl⟩
  · have := own_behind h c (inB_ge hin) hy ho
    rw [he] at this
    rcases List.mem_append.1 this with hc | hc
    · exact List.mem_map.2 ⟨y, by simp [hc], rfl⟩
    · rcases List.mem_cons.1 hc with rfl | hc
      · exact List.mem_map.2 ⟨y, by simp, rfl⟩
      · exfalso
        rcases hz with hz | ⟨z, hz, hb⟩
        · omega
        · have hzl : bl z.1 y.least = true := by
            unfold scanK at hz
            have hz1 := (List.mem_filter.1 hz).1
            rcases List.mem_append.1 hz1 with hz1 | hz1
            · obtain ⟨u, hu, hzu⟩ := mem_allK.1 hz1
              exact (h.inn u (by rw [hls]; simp [hu]) z hzu).2 _ (lst_of hy) (hr.2.2 u (by simp [hu]) y (by simp [hc]))
            · exact (h.inn x hxm z (by rw [hK]; simp [hz1])).2 _ (lst_of hy) (hr.2.1.1 y hc)
          have := bl_lt_le hzl ho.1
          rw [hb] at this; cases this
end

end Go.Proofs.Ytoknebbkpkcomaa
