/- What calls make of a tree, plainly: its keys, its leaves, what was seen of it. -/
import Derived.Test.YtoknebbkpkcomaaTHeap
namespace Go.Proofs.Ytoknebbkpkcomaa

structure Moves (T T' : Tr) : Prop where
  grew : Grew T.ls T.made T'.ls T'.made
  still : T'.ks.length = T.ks.length → ∀ seen, validB T.ls seen = true → validB T'.ls seen = true
theorem Moves.refl (T : Tr) : Moves T T := ⟨Grew.refl _ _, fun _ _ h => h⟩

def PutK (K : List Kv) (k : ByteArray) (v : Int) (K' : List Kv) (was : Int) (there : Bool) (e : Int) : Prop :=
  (4096 < k.size ∧ K' = K ∧ was = 0 ∧ there = false ∧ e = 2) ∨
  (k.size ≤ 4096 ∧ getK k K = some was ∧ K' = insK k v K ∧ there = true ∧ e = 0) ∨
  (k.size ≤ 4096 ∧ getK k K = none ∧ K.length = 4096 ∧ K' = K ∧ was = 0 ∧ there = false ∧ e = 2) ∨
  (k.size ≤ 4096 ∧ getK k K = none ∧ K.length < 4096 ∧ K' = insK k v K ∧ was = 0 ∧ there = false ∧ e = 0)
def TakeK (K : List Kv) (k : ByteArray) (K' : List Kv) (was e : Int) : Prop :=
  (getK k K = none ∧ K' = K ∧ was = 0 ∧ e = 5) ∨ (getK k K = some was ∧ K' = delK k K ∧ e = 0)
def GetK (K : List Kv) (k : ByteArray) (v : Int) (b : Bool) : Prop := (getK k K = none ∧ v = 0 ∧ b = false) ∨ (getK k K = some v ∧ b = true)
theorem putK_ex {K : List Kv} (h : K.length ≤ 4096) (k : ByteArray) (v : Int) : ∃ K' was there e, PutK K k v K' was there e := by
  by_cases hk : 4096 < k.size
  · exact ⟨_, _, _, _, Or.inl ⟨hk, rfl, rfl, rfl, rfl⟩⟩
  · cases hg : getK k K with
    | some v0 => exact ⟨_, v0, _, _, Or.inr (Or.inl ⟨by omega, hg, rfl, rfl, rfl⟩)⟩
    | none =>
      by_cases hf : K.length = 4096
      · exact ⟨_, _, _, _, Or.inr (Or.inr (Or.inl ⟨by omega, hg, hf, rfl, rfl, rfl, rfl⟩))⟩
      · exact ⟨_, _, _, _, Or.inr (Or.inr (Or.inr ⟨by omega, hg, by omega, rfl, rfl, rfl, rfl⟩))⟩
theorem takeK_ex (K : List Kv) (k : ByteArray) : ∃ K' was e, TakeK K k K' was e := by
  cases hg : getK k K with
  | some v0 => exact ⟨_, v0, _, Or.inr ⟨hg, rfl, rfl⟩⟩
  | none => exact ⟨_, _, _, Or.inl ⟨hg, rfl, rfl, rfl⟩⟩
theorem getK_ex (K : List Kv) (k : ByteArray) : ∃ v b, GetK K k v b := by
  cases hg : getK k K with
  | some v0 => exact ⟨v0, _, Or.inr ⟨hg, rfl⟩⟩
  | none => exact ⟨_, _, Or.inl ⟨hg, rfl, rfl⟩⟩

theorem length_ins_new {k : ByteArray} {v : Int} : ∀ {K : List Kv}, Rise K → getK k K = none → (insK k v K).length = K.length + 1
  | [], _, _ => rfl
  | p :: r, h, hg => by
    unfold insK
    have hp : p.1 ≠ k := getK_none.1 hg p (List.mem_cons_self ..)
    by_cases hb : bl p.1 k = true
    · rw [if_pos hb, List.length_cons, length_ins_new (List.pairwise_cons.1 h).2 (getK_none.2 fun q hq => getK_none.1 hg q (List.mem_cons_of_mem _ hq)), List.length_cons]
    · rw [if_neg hb, if_neg hp, List.length_cons]
theorem length_ins_old {k : ByteArray} {v v0 : Int} {K : List Kv} (h : Rise K) (hg : getK k K = some v0) : (insK k v K).length = K.length := by
  obtain ⟨i, hi⟩ := List.getElem?_of_mem ((getK_some h).1 hg)
  rw [insK_there h hi, List.length_set]
theorem length_del {k : ByteArray} {v0 : Int} {K : List Kv} (h : Rise K) (hg : getK k K = some v0) : (delK k K).length + 1 = K.length := by
  obtain ⟨i, hi⟩ := List.getElem?_of_mem ((getK_some h).1 hg)
  have hl := (List.getElem?_eq_some_iff.1 hi).1
  rw [delK_at h hi, List.length_eraseIdx_of_lt hl]
  omega

section
variable {T : Tr} {a : Nat} {k : ByteArray} {A B : List Lf} {l : Lf} {i : Nat} {v v0 : Int}

theorem allK_few {ls : List Lf} {made : Int} (h : Lok ls made) (hf : (allK ls).length ≤ 4096) : ls.length ≤ 4097 := by
  rcases h.full with e | e
  · omega
  · have : ∀ ls : List Lf, (∀ l ∈ ls, l.n.ks ≠ []) → ls.length ≤ (allK ls).length := by
      intro ls
      induction ls with
      | nil => intro _; exact Nat.zero_le _
      | cons x r ih =>
        intro hx
        have h1 := ih (fun l hl => hx l (List.mem_cons_of_mem _ hl))
        have h2 : 0 < x.n.ks.length := List.length_pos_iff.2 (hx x (List.mem_cons_self ..))
        rw [allK_cons, List.length_append, List.length_cons]
        omega
    have := this ls e
    omega

theorem getK_own (h : Lok T.ls T.made) (c : Cut T.ls k A l B) : getK k T.ks = getK k l.n.ks := by
  have hr := allK_rise h
  have hl := (h.okn l c.mem).rise
  cases e : getK k l.n.ks with
  | some v => exact (getK_some hr).2 ((own_mem h c.mem (c.inR h)).2 ((getK_some hl).1 e))
  | none =>
    cases e2 : getK k T.ks with
    | none => rfl
    | some v =>
      rw [(getK_some hl).2 ((own_mem h c.mem (p := (k, v)) (c.inR h)).1 ((getK_some hr).1 e2))] at e
      cases e
theorem getK_idx (h : Lok T.ls T.made) (c : Cut T.ls k A l B) (hg : getK k T.ks = some v0) : ∃ i : Nat, l.n.ks[i]? = some (k, v0) := by
  rw [getK_own h c] at hg
  exact List.getElem?_of_mem ((getK_some (h.okn l c.mem).rise).1 hg)
theorem getK_not (h : Lok T.ls T.made) (c : Cut T.ls k A l B) (hg : getK k T.ks = none) : k ∉ l.n.keys := by
  rw [getK_own h c] at hg
  intro hm
  obtain ⟨p, hp, e⟩ := List.mem_map.1 hm
  exact getK_none.1 hg p hp e

theorem young_with (h : Young T a) (c : Cut T.ls k A l B) {n' : Nd} {a' : Nat} (ha : a ≤ a') (hi : 0 ≤ n'.ins ∧ n'.ins ≤ 16 * a') (hs : 0 ≤ n'.spl ∧ n'.spl ≤ a') : Young ⟨A ++ l.with n' :: B, T.made⟩ a' := by
  have hm := h.made
  refine ⟨⟨hm.1, by show T.made ≤ _; omega⟩, fun x hx => ?_, fun x hx => ?_⟩
  · rcases mem_with hx with rfl | ⟨hx, _⟩
    · exact hi
    · have := h.ins x (by rw [c.eq]; exact hx); omega
  · rcases mem_with hx with rfl | ⟨hx, _⟩
    · exact hs
    · have := h.spl x (by rw [c.eq]; exact hx); omega

/-- another value -/
theorem put_set (h : T.Ok a) (c : Cut T.ls k A l B) (hi : l.n.ks[i]? = some (k, v0)) (hv : Num v) :
    (Tr.mk (A ++ l.with (l.n.set i k v) :: B) T.made).Ok (a + 2) ∧ allK (A ++ l.with (l.n.set i k v) :: B) = insK k v T.ks ∧ Moves T ⟨A ++ l.with (l.n.set i k v) :: B, T.made⟩ := by
  obtain ⟨hk, hf, hy⟩ := h
  have hl := c.mem
  have hln := hk.okn l hl
  have e0 : (l.n.set i k v).ks = insK k v l.n.ks := (insK_there hln.rise hi).symm
  have hk1 := hk
  rw [c.eq] at hk1
  have hin := c.inR hk
  rw [c.eq] at hin
  have hk2 : Lok (A ++ l.with (l.n.set i k v) :: B) T.made := hk1.with (hln.set hi hv) (fun p hp => by
    rw [e0] at hp
    rcases mem_insK hp with rfl | hp
    · exact hin
    · exact hk1.inn l (by simp) p hp) (Or.inr (by
    intro e
    have := congrArg List.length e
    rw [show (l.n.set i k v).ks = l.n.ks.set i (k, v) from rfl, List.length_set] at this
    have := (List.getElem?_eq_some_iff.1 hi).1
    simp_all))
  have e1 : allK (A ++ l.with (l.n.set i k v) :: B) = insK k v T.ks := by
    have := allK_ins (k := k) (v := v) hk1 hk2 hin e0
    rw [← c.eq] at this
    exact this
  have hg : getK k T.ks = some v0 := by rw [getK_own hk c]; exact (getK_some hln.rise).2 (List.mem_of_getElem? hi)
  have e2 := length_ins_old (v := v) (allK_rise hk) hg
  refine ⟨⟨hk2, by show (allK _).length ≤ 4096; rw [e1, e2]; exact hf, young_with hy c (by omega) ?_ ?_⟩, e1, ?_, fun _ seen hv => ?_⟩
  · have := hy.ins l hl
    show 0 ≤ l.n.ins ∧ l.n.ins ≤ _
    omega
  · have := hy.spl l hl
    show 0 ≤ l.n.spl ∧ l.n.spl ≤ _
    omega
  · show Grew T.ls _ _ _
    rw [c.eq]
    refine Grew.with (Int.le_refl _) (fun _ => ?_)
    show l.n.ks.map (·.1) = (l.n.ks.set i (k, v)).map (·.1)
    rw [List.map_set]
    apply List.ext_getElem?
    intro j
    by_cases ej : i = j
    · subst ej
      rw [List.getElem?_set_self (by rw [List.length_map]; exact (List.getElem?_eq_some_iff.1 hi).1), List.getElem?_map, hi]
      rfl
    · rw [List.getElem?_set_ne ej]
  · rw [c.eq] at hv
    exact valid_still rfl rfl hv

/-- a key more -/
theorem put_add (h : T.Ok a) (c : Cut T.ls k A l B) (ha : At k l.n.ks i) (hno : ∀ v, l.n.ks[i]? ≠ some (k, v)) (hn : getK k T.ks = none) (hf15 : l.n.ks.length < 15) (hks : k.size ≤ 4096) (hv : Num v) (hfew : T.ks.length < 4096) :
    (Tr.mk (A ++ l.with (l.n.add i k v) :: B) T.made).Ok (a + 1) ∧ allK (A ++ l.with (l.n.add i k v) :: B) = insK k v T.ks ∧ Moves T ⟨A ++ l.with (l.n.add i k v) :: B, T.made⟩ := by
  obtain ⟨hk, hf, hy⟩ := h
  have hl := c.mem
  have hln := hk.okn l hl
  have e0 : (l.n.add i k v).ks = insK k v l.n.ks := (insK_new hln.rise ha hno).symm
  have hk1 := hk
  rw [c.eq] at hk1
  have hin := c.inR hk
  rw [c.eq] at hin
  have hk2 : Lok (A ++ l.with (l.n.add i k v) :: B) T.made := hk1.with (hln.add ha hno hf15 hks hv) (fun p hp => by
    rw [e0] at hp
    rcases mem_insK hp with rfl | hp
    · exact hin
    · exact hk1.inn l (by simp) p hp) (Or.inr (by
    intro e
    have := congrArg List.length e
    rw [show (l.n.add i k v).ks = l.n.ks.insertIdx i (k, v) from rfl, List.length_insertIdx_of_le_length ha.le] at this
    cases this))
  have e1 : allK (A ++ l.with (l.n.add i k v) :: B) = insK k v T.ks := by
    have := allK_ins (k := k) (v := v) hk1 hk2 hin e0
    rw [← c.eq] at this
    exact this
  have e2 : (insK k v T.ks).length = T.ks.length + 1 := length_ins_new (v := v) (allK_rise hk) hn
  refine ⟨⟨hk2, by show (allK _).length ≤ 4096; rw [e1, e2]; omega, young_with hy c (by omega) ?_ ?_⟩, e1, ?_, fun he => ?_⟩
  · have := hy.ins l hl
    show 0 ≤ l.n.ins + 1 ∧ l.n.ins + 1 ≤ _
    omega
  · have := hy.spl l hl
    show 0 ≤ l.n.spl ∧ l.n.spl ≤ _
    omega
  · show Grew T.ls _ _ _
    rw [c.eq]
    refine Grew.with (by show l.n.ins ≤ l.n.ins + 1; omega) (fun e => ?_)
    have : l.n.ins = l.n.ins + 1 := e
    omega
  · exfalso
    have he' : (allK (A ++ l.with (l.n.add i k v) :: B)).length = T.ks.length := he
    rw [e1, e2] at he'
    omega

/-- a leaf is split -/
theorem put_split (h : T.Ok a) (c : Cut T.ls k A l B) {p : Kv} (hh : Half l p) (ho : l.n.left.Ok) (ho2 : l.n.right.Ok) (q g : Nat) :
    (Tr.mk (A ++ l.with l.n.left :: l.spl q g (T.made + 1) p.1 :: B) (T.made + 1)).Ok (a + 1) ∧ allK (A ++ l.with l.n.left :: l.spl q g (T.made + 1) p.1 :: B) = T.ks ∧ Grew T.ls T.made (A ++ l.with l.n.left :: l.spl q g (T.made + 1) p.1 :: B) (T.made + 1) := by
  obtain ⟨hk, hf, hy⟩ := h
  have hl := c.mem
  have hfew := (hk.okn l hl).few
  have hk1 := hk
  rw [c.eq] at hk1
  have e1 : allK (A ++ l.with l.n.left :: l.spl q g (T.made + 1) p.1 :: B) = T.ks := by rw [allK_split, ← c.eq]
  refine ⟨⟨hk1.split hh ho ho2, by show (allK _).length ≤ 4096; rw [e1]; exact hf, ⟨?_, fun x hx => ?_, fun x hx => ?_⟩⟩, e1, ?_⟩
  · have := hy.made
    show 1 ≤ T.made + 1 ∧ T.made + 1 ≤ _
    omega
  · rcases mem_split hx with rfl | rfl | ⟨hx, _⟩
    · have := hy.ins l hl
      show 0 ≤ l.n.ins + ((l.n.ks.length / 2 : Nat) : Int) ∧ l.n.ins + ((l.n.ks.length / 2 : Nat) : Int) ≤ _
      omega
    · show 0 ≤ ((l.n.ks.length / 2 : Nat) : Int) ∧ ((l.n.ks.length / 2 : Nat) : Int) ≤ _
      omega
    · have := hy.ins x (by rw [c.eq]; exact hx); omega
  · rcases mem_split hx with rfl | rfl | ⟨hx, _⟩
    · have := hy.spl l hl
      show 0 ≤ l.n.spl + 1 ∧ l.n.spl + 1 ≤ _
      omega
    · show (0 : Int) ≤ 0 ∧ (0 : Int) ≤ _
      omega
    · have := hy.spl x (by rw [c.eq]; exact hx); omega
  · have := Grew.split (q := q) (g := g) hk1 hh
    rw [← c.eq] at this
    exact this

theorem take_common (h : T.Ok a) (c : Cut T.ls k A l B) (hi : l.n.ks[i]? = some (k, v0)) : (l.n.del i).Ok ∧ (l.n.del i).ks = delK k l.n.ks ∧ (∀ p ∈ (l.n.del i).ks, InR (lst (A ++ l :: B)) p.1 l.least) ∧ getK k T.ks = some v0 := by
  obtain ⟨hk, hf, hy⟩ := h
  have hl := c.mem
  have hln := hk.okn l hl
  have hk1 := hk
  rw [c.eq] at hk1
  exact ⟨hln.del (List.getElem?_eq_some_iff.1 hi).1, (delK_at hln.rise hi).symm, fun p hp => hk1.inn l (by simp) p (List.mem_of_mem_eraseIdx hp), by rw [getK_own hk c]; exact (getK_some hln.rise).2 (List.mem_of_getElem? hi)⟩

/-- a key less, and its leaf stays -/
theorem take_del (h : T.Ok a) (c : Cut T.ls k A l B) (hi : l.n.ks[i]? = some (k, v0)) (hf : (A = [] ∧ B = []) ∨ (l.n.del i).ks ≠ []) :
    (Tr.mk (A ++ l.with (l.n.del i) :: B) T.made).Ok (a + 2) ∧ allK (A ++ l.with (l.n.del i) :: B) = delK k T.ks ∧ Moves T ⟨A ++ l.with (l.n.del i) :: B, T.made⟩ := by
  obtain ⟨k1, k2, k3, k4⟩ := take_common h c hi
  obtain ⟨hk, hf4, hy⟩ := h
  have hl := c.mem
  have hk1 := hk
  rw [c.eq] at hk1
  have hin := c.inR hk
  rw [c.eq] at hin
  have hk2 : Lok (A ++ l.with (l.n.del i) :: B) T.made := hk1.with k1 k3 hf
  have e1 : allK (A ++ l.with (l.n.del i) :: B) = delK k T.ks := by
    have := allK_del (k := k) hk1 (allK_rise hk2) hin k2
    rw [← c.eq] at this
    exact this
  have e2 : (delK k T.ks).length + 1 = T.ks.length := length_del (allK_rise hk) k4
  refine ⟨⟨hk2, by show (allK _).length ≤ 4096; rw [e1]; have : T.ks.length ≤ 4096 := hf4; omega, young_with hy c (by omega) ?_ ?_⟩, e1, ?_, fun he => ?_⟩
  · have := hy.ins l hl
    show 0 ≤ l.n.ins + 1 ∧ l.n.ins + 1 ≤ _
    omega
  · have := hy.spl l hl
    show 0 ≤ l.n.spl ∧ l.n.spl ≤ _
    omega
  · show Grew T.ls _ _ _
    rw [c.eq]
    refine Grew.with (by show l.n.ins ≤ l.n.ins + 1; omega) (fun e => ?_)
    have : l.n.ins = l.n.ins + 1 := e
    omega
  · exfalso
    have he' : (allK (A ++ l.with (l.n.del i) :: B)).length = T.ks.length := he
    rw [e1] at he'
    omega

/-- a key less, and its leaf, that was the last of it -/
theorem take_drop (h : T.Ok a) (c : Cut T.ls k A l B) (hi : l.n.ks[i]? = some (k, v0)) (hf : (l.n.del i).ks = []) (hne : A ++ B ≠ []) :
    (Tr.mk (fixh (A ++ B)) T.made).Ok (a + 2) ∧ allK (fixh (A ++ B)) = delK k T.ks ∧ Moves T ⟨fixh (A ++ B), T.made⟩ := by
  obtain ⟨k1, k2, k3, k4⟩ := take_common h c hi
  obtain ⟨hk, hf4, hy⟩ := h
  have hk1 := hk
  rw [c.eq] at hk1
  have hin := c.inR hk
  rw [c.eq] at hin
  have hk3 := hk1.drop hne
  have e0 : allK (A ++ l.with (l.n.del i) :: B) = allK (fixh (A ++ B)) := by
    rw [allK_fixh, allK_append, allK_append, allK_cons]
    show allK A ++ ((l.n.del i).ks ++ allK B) = _
    rw [hf, List.nil_append]
  have e1 : allK (fixh (A ++ B)) = delK k T.ks := by
    have := allK_del (k := k) (n' := l.n.del i) hk1 (by rw [e0]; exact allK_rise hk3) hin k2
    rw [← c.eq, e0] at this
    exact this
  have e2 : (delK k T.ks).length + 1 = T.ks.length := length_del (allK_rise hk) k4
  have hsub : ∀ x, x ∈ fixh (A ++ B) → ∃ y ∈ T.ls, x.n = y.n := fun x hx => by
    rcases mem_fixh hx with hx | ⟨l0, r0, e, rfl⟩
    · exact ⟨x, by rw [c.eq]; rcases List.mem_append.1 hx with hx | hx <;> simp [hx], rfl⟩
    · have h0 : l0 ∈ A ++ B := by rw [e]; exact List.mem_cons_self ..
      exact ⟨l0, by rw [c.eq]; rcases List.mem_append.1 h0 with hx | hx <;> simp [hx], rfl⟩
  refine ⟨⟨hk3, by show (allK _).length ≤ 4096; rw [e1]; have : T.ks.length ≤ 4096 := hf4; omega, ⟨by have := hy.made; show 1 ≤ T.made ∧ T.made ≤ _; omega, fun x hx => ?_, fun x hx => ?_⟩⟩, e1, ?_, fun he => ?_⟩
  · obtain ⟨y, hy', e⟩ := hsub x hx
    rw [e]
    have := hy.ins y hy'
    omega
  · obtain ⟨y, hy', e⟩ := hsub x hx
    rw [e]
    have := hy.spl y hy'
    omega
  · show Grew T.ls _ _ _
    rw [c.eq]
    exact Grew.drop hk1
  · exfalso
    have he' : (allK (fixh (A ++ B))).length = T.ks.length := he
    rw [e1] at he'
    omega
end

end Go.Proofs.Ytoknebbkpkcomaa
