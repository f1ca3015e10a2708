import Derived.Test.YtigegdelhpdlhaaGreatDoorJDownJ
import Derived.Test.YtigegdelhpdlhaaGreatDoorJSame2J
import Derived.Test.YtigegdelhpdlhaaGreatDoorJSurPJ
/- Layer 18: WalTids's state, in plain words: what was added lies in files or waits. -/
namespace Go.Proofs.YtigegdelhpdlhaaGreatDoor
open Go.RowKit QP

abbrev epT (i : Nat) : Nat := 1 + i / 7
/-- the i-th entry: its word, its number -/
abbrev entT (i : Nat) : Nat × Nat := (tidN (epT i) i, i)
abbrev waitT (wks : List Wk) : List (Nat × Nat) := wks.flatMap (·.1)
theorem tidT_up {i j : Nat} (h : i < j) : tidN (epT i) i < tidN (epT j) j := by
  unfold tidN epT
  have : i / 7 ≤ j / 7 := Nat.div_le_div_right (by omega)
  have : (1 + i / 7) * 8388608 ≤ (1 + j / 7) * 8388608 := Nat.mul_le_mul_right _ (by omega)
  omega
theorem tidT_ok {i : Nat} (h : i < 100) : TidOk (tidN (epT i) i) ∧ tidN (epT i) i / 8388608 = epT i := tid_ok (by unfold epT; omega) (by omega)

structure TidS (c i : Nat) (wks : List Wk) (LF : List UInt8 → List (Nat × Nat)) (s : Dk.Dsk) (G : Nat) : Prop where
  q : QDisk s tB kB LF []
  few : s.fs.length ≤ c
  logs : ∀ f ∈ Dk.keysL s.fs, isLogK f = true
  out : ∀ f, f ∉ Dk.keysL s.fs → LF f = []
  all : (allF LF (Dk.keysL s.fs) ++ waitT wks).Perm ((List.range i).map entT)
  last : ∀ wk ∈ wks, wk.2 < tidN (epT i) i
  four : wks.length = 4
  gen : G ≤ i

theorem eraseIdx_perm {α : Type} : ∀ {l : List α} {x : Nat} (h : x < l.length), (l[x] :: l.eraseIdx x).Perm l
  | a :: l, 0, _ => List.Perm.refl _
  | a :: l, x + 1, h => by
    have ih := eraseIdx_perm (l := l) (x := x) (by simpa using h)
    rw [List.getElem_cons_succ, List.eraseIdx_cons_succ]
    exact (List.Perm.swap _ _ _).trans (ih.cons a)
theorem waitT_set {wks : List Wk} {x : Nat} {wk : Wk} (h : wks[x]? = some wk) (v : Wk) : ∃ r, (waitT wks).Perm (wk.1 ++ r) ∧ (waitT (wks.set x v)).Perm (v.1 ++ r) := by
  obtain ⟨hx, hv⟩ := List.getElem?_eq_some_iff.1 h
  have p1 := eraseIdx_perm hx
  have hx2 : x < (wks.set x v).length := by rw [List.length_set]; exact hx
  have p2 := eraseIdx_perm hx2
  rw [List.getElem_set_self, List.eraseIdx_set_eq] at p2
  rw [hv] at p1
  have key : ∀ {l1 l2 : List Wk}, l1.Perm l2 → (waitT l1).Perm (waitT l2) := fun {l1 l2} h => by
    induction h with
    | nil => exact List.Perm.refl _
    | cons x _ ih => unfold waitT; rw [List.flatMap_cons, List.flatMap_cons]; exact ih.append_left _
    | swap x y l =>
      unfold waitT
      rw [List.flatMap_cons, List.flatMap_cons, List.flatMap_cons, List.flatMap_cons, ← List.append_assoc, ← List.append_assoc]
      exact List.perm_append_comm.append_right _
    | trans _ _ h1 h2 => exact h1.trans h2
  refine ⟨waitT (wks.eraseIdx x), ?_, ?_⟩
  · have := key p1.symm
    unfold waitT at this ⊢
    rw [List.flatMap_cons] at this
    exact this
  · have := key p2.symm
    unfold waitT at this ⊢
    rw [List.flatMap_cons] at this
    exact this

section
variable {c i x G : Nat} {wks : List Wk} {LF : List UInt8 → List (Nat × Nat)} {s : Dk.Dsk} {wk : Wk}
theorem TidS.mem (h : TidS c i wks LF s G) : ∀ p ∈ allF LF (Dk.keysL s.fs) ++ waitT wks, ∃ j, j < i ∧ p = entT j := fun p hp => by
  have := h.all.mem_iff.1 hp
  obtain ⟨j, hj, rfl⟩ := List.mem_map.1 this
  exact ⟨j, List.mem_range.1 hj, rfl⟩
theorem TidS.len (h : TidS c i wks LF s G) : (allF LF (Dk.keysL s.fs)).length + (waitT wks).length = i := by
  have := h.all.length_eq
  rw [List.length_append, List.length_map, List.length_range] at this
  exact this
theorem TidS.wait (h : TidS c i wks LF s G) (hwk : wks[x]? = some wk) : wk.1.length ≤ i := by
  obtain ⟨r, p1, _⟩ := waitT_set hwk wk
  have h1 := p1.length_eq
  rw [List.length_append] at h1
  have := h.len
  omega
theorem allF_le {ks : List (List UInt8)} {f : List UInt8} (hf : f ∈ ks) : (LF f).length ≤ (allF LF ks).length := by
  obtain ⟨a, b, rfl⟩ := List.append_of_mem hf
  unfold allF
  rw [List.flatMap_append, List.flatMap_cons, List.length_append, List.length_append]
  omega
theorem TidS.file (h : TidS c i wks LF s G) (f : List UInt8) : (LF f).length ≤ i ∧ ∀ p ∈ LF f, ∃ j, j < i ∧ p = entT j := by
  by_cases hf : f ∈ Dk.keysL s.fs
  · refine ⟨by have := allF_le (LF := LF) hf; have := h.len; omega, fun p hp => h.mem p (List.mem_append_left _ (List.mem_flatMap.2 ⟨f, hf, hp⟩))⟩
  · rw [h.out f hf]
    exact ⟨Nat.zero_le _, fun _ hp => by cases hp⟩
/-- one entry more -/
theorem TidS.add (h : TidS c i wks LF s G) (hwk : wks[x]? = some wk) : TidS c (i + 1) (wks.set x (wk.1 ++ [entT i], tidN (epT i) i)) LF s G := by
  obtain ⟨r, p1, p2⟩ := waitT_set hwk (wk.1 ++ [entT i], tidN (epT i) i)
  refine ⟨h.q, h.few, h.logs, h.out, ?_, fun v hv => ?_, by rw [List.length_set]; exact h.four, Nat.le_succ_of_le h.gen⟩
  · have e1 : (waitT (wks.set x (wk.1 ++ [entT i], tidN (epT i) i))).Perm (waitT wks ++ [entT i]) := by
      refine p2.trans ?_
      have h2 : ((wk.1 ++ [entT i]) ++ r).Perm ((wk.1 ++ r) ++ [entT i]) := by
        rw [List.append_assoc, List.append_assoc]
        exact List.perm_append_comm.append_left _
      exact h2.trans (p1.symm.append_right _)
    rw [List.range_succ, List.map_append]
    refine (e1.append_left _).trans ?_
    rw [← List.append_assoc]
    exact h.all.append_right _
  · rcases List.mem_or_eq_of_mem_set hv with hv | rfl
    · exact Nat.lt_trans (h.last v hv) (tidT_up (Nat.lt_succ_self i))
    · exact tidT_up (Nat.lt_succ_self i)
/-- what waits is written -/
theorem TidS.flush (h : TidS c i wks LF s G) (hwk : wks[x]? = some wk) (f : List UInt8) (hf : isLogK f = true) {s2 : Dk.Dsk} (q2 : QDisk s2 tB kB (updF LF f (LF f ++ wk.1)) []) (hl : s2.fs.length ≤ s.fs.length + 1) (hk : Dk.keysL s2.fs = if wk.1 = [] then Dk.keysL s.fs else Dk.insN f (Dk.keysL s.fs)) :
    TidS (c + 1) i (wks.set x ([], wk.2)) (updF LF f (LF f ++ wk.1)) s2 G := by
  obtain ⟨r, p1, p2⟩ := waitT_set hwk ([], wk.2)
  have hlast : ∀ v ∈ wks.set x ([], wk.2), v.2 < tidN (epT i) i := fun v hv => by
    rcases List.mem_or_eq_of_mem_set hv with hv | rfl
    · exact h.last v hv
    · exact h.last wk (List.mem_of_getElem? hwk)
  have hfour : (wks.set x ([], wk.2)).length = 4 := by rw [List.length_set]; exact h.four
  have hfew : s2.fs.length ≤ c + 1 := by have := h.few; omega
  by_cases h0 : wk.1 = []
  · have e1 : updF LF f (LF f ++ wk.1) = LF := by
      funext q
      unfold updF
      split
      · next e => rw [h0, List.append_nil, e]
      · rfl
    rw [e1] at q2 ⊢
    rw [if_pos h0] at hk
    refine ⟨q2, hfew, by rw [hk]; exact h.logs, by rw [hk]; exact h.out, ?_, hlast, hfour, h.gen⟩
    rw [hk]
    have e2 : (waitT (wks.set x ([], wk.2))).Perm (waitT wks) := by
      rw [h0] at p1
      exact p2.trans p1.symm
    exact (e2.append_left _).trans h.all
  · rw [if_neg h0] at hk
    have hn := nodup_keys h.q.rise
    refine ⟨q2, hfew, by
      rw [hk]
      intro g hg
      rcases List.mem_cons.1 ((perm_insN f _).mem_iff.1 hg) with rfl | hg
      · exact hf
      · exact h.logs g (List.mem_filter.1 hg).1, by rw [hk]; exact updF_out h.out f _, ?_, hlast, hfour, h.gen⟩
    rw [hk]
    refine ((allF_put hn h.out f wk.1).append_right _).trans ?_
    refine List.Perm.trans ?_ h.all
    rw [List.append_assoc]
    exact (List.Perm.append_left _ (p2.append_left wk.1 |>.trans (List.Perm.of_eq (by simp)) |>.trans p1.symm))
theorem TidS.rotate (h : TidS c i wks LF s G) (hG : G < i) : TidS c i wks LF s (G + 1) := ⟨h.q, h.few, h.logs, h.out, h.all, h.last, h.four, hG⟩
theorem TidS.more (h : TidS c i wks LF s G) {c' : Nat} (hc : c ≤ c') : TidS c' i wks LF s G := ⟨h.q, by have := h.few; omega, h.logs, h.out, h.all, h.last, h.four, h.gen⟩
end
theorem tidS_start : TidS 0 0 (wsN 4) (fun _ => []) Dk.blank 0 :=
  ⟨qdisk_blank tB kB, Nat.le_refl _, (fun _ h => by cases h), (fun _ _ => rfl), List.Perm.refl _, (fun wk h => by rw [(List.mem_replicate.1 h).2]; decide), rfl, Nat.le_refl _⟩
theorem rangeT_sorted (n : Nat) : ((List.range n).map entT).Pairwise (fun a b => a.1 ≤ b.1) := by
  rw [List.pairwise_map]
  exact List.Pairwise.imp (fun {a b} h => Nat.le_of_lt (tidT_up h)) List.pairwise_lt_range
theorem rangeT_inj (n : Nat) : ∀ a ∈ (List.range n).map entT, ∀ b ∈ (List.range n).map entT, a.1 = b.1 → a = b := fun a ha b hb e => by
  obtain ⟨i, _, rfl⟩ := List.mem_map.1 ha
  obtain ⟨j, _, rfl⟩ := List.mem_map.1 hb
  have e' : tidN (epT i) i = tidN (epT j) j := e
  rcases Nat.lt_trichotomy i j with h | h | h
  · have := tidT_up h; omega
  · rw [h]
  · have := tidT_up h; omega
theorem rangeT_nodup (n : Nat) : (((List.range n).map entT).map (·.1)).Nodup := by
  unfold List.Nodup
  rw [List.map_map, List.pairwise_map]
  exact List.Pairwise.imp (fun {a b} h e => by have := tidT_up h; exact absurd e (Nat.ne_of_lt this)) List.pairwise_lt_range
end Go.Proofs.YtigegdelhpdlhaaGreatDoor

/- Layer 18: WalSurvives's states, in plain words. -/
namespace Go.Proofs.YtigegdelhpdlhaaGreatDoor
open Go.RowKit QP

theorem readV_okS {s : Dk.Dsk} {k : List UInt8} (h : Dk.okName k = true) : Dk.readV s k = (Dk.fileOr (Dk.getL k s.fs)).data := by
  unfold Dk.readV Dk.findE
  rw [if_pos h]
  cases hg : Dk.getL k s.fs with
  | none => rfl
  | some x => rfl
theorem riseE_snoc {Es : List Nat} {e : Nat} (h : RiseE Es) (hl : lastE Es < e) : RiseE (Es ++ [e]) := fun j hj => by
  rw [List.length_append, List.length_singleton] at hj
  by_cases hj2 : j < Es.length
  · rw [List.take_append_of_le_length (by omega), List.getElem_append_left hj2]
    exact h j hj2
  · obtain rfl : j = Es.length := by omega
    rw [List.take_left, List.getElem_append_right (Nat.le_refl _)]
    simp only [Nat.sub_self, List.getElem_cons_zero]
    exact hl
theorem upTo_perm {D : Nat} {a b : List (Nat × Nat)} (h : a.Perm b) : (upTo D a).Perm (upTo D b) := h.filter _
theorem lastE_snoc (Es : List Nat) (e : Nat) : lastE (Es ++ [e]) = e := by
  unfold lastE
  rw [List.getLast?_append]
  rfl

/-- a disk behind a crash, as it is loaded and opened -/
structure Crashed (c : Dk.Dsk) (LF : List UInt8 → List (Nat × Nat)) (Es : List Nat) (G : Nat) : Prop where
  up : c.down = false ∧ c.fused = false
  wal : WalD c tB kB LF Es
  nonew : Dk.getL epochNB.data.toList c.fs = none
  few : c.fs.length ≤ 4
  gens : ∀ p ∈ c.fs, isLogK p.1 = true → genK p.1 ≤ G
theorem walD_of {c : Dk.Dsk} {LF : List UInt8 → List (Nat × Nat)} {Es : List Nat} (hr : Dk.Rise c.fs) (hn : ∀ f ∈ Dk.keysL c.fs, NameOkW f)
    (hl : ∀ f x, isLogK f = true → Dk.getL f c.fs = some x → ∃ T, TornF T ∧ x.data = flatF ((LF f).map (bodyN tB kB)) ++ T ∧ x.data.length ≤ 300000) (hLF : ∀ f, (LF f).length ≤ 1000 ∧ ∀ q ∈ LF f, TidOk q.1 ∧ q.2 < 9223372036854775808)
    (hm : ∃ T, TornF T ∧ (Dk.fileOr (Dk.getL epochB.data.toList c.fs)).data = flatF (Es.map markN) ++ T ∧ (flatF (Es.map markN) ++ T).length ≤ 1000000) (hE : RiseE Es) (hE2 : ∀ e ∈ Es, e ≤ 2147483648) : WalD c tB kB LF Es := by
  refine ⟨hr, fun p hp => hn p.1 (List.mem_map.2 ⟨p, hp, rfl⟩), fun p hp hlog => ?_, ?_⟩
  · obtain ⟨T, t1, t2, t3⟩ := hl p.1 p.2 hlog (getL_of_mem hr hp)
    exact ⟨T, t1, t2, t3, (hLF p.1).1, (hLF p.1).2⟩
  · obtain ⟨T, t1, t2, t3⟩ := hm
    exact ⟨T, t1, by rw [readV_okS logK_epoch.2.2.1]; exact t2, t3, hE, hE2⟩

/-- what may lie on the disk when a crash comes -/
def EndS (A : List (Nat × Nat)) (mk nx G : Nat) (s : Dk.Dsk) : Prop :=
  ∀ ds : List Int, ∃ LF Es, Crashed ⟨Dk.crashL s.fs ds, false, false, 0⟩ LF Es G ∧ (lastE Es = mk ∨ lastE Es = nx) ∧ (allE (lastE Es) LF (Dk.keysL (Dk.crashL s.fs ds))).Perm (upTo (lastE Es) A)

structure SurvS (A : List (Nat × Nat)) (ep mk G : Nat) (wks : List Wk) (LF : List UInt8 → List (Nat × Nat)) (Es : List Nat) (s : Dk.Dsk) : Prop where
  down : s.down = false
  q : QDisk (unf s) tB kB LF Es
  nms : ∀ f ∈ Dk.keysL s.fs, f = epochB.data.toList ∨ ∃ v, v < 3 ∧ f = (logB v G).data.toList
  out : ∀ f, f ∉ Dk.keysL s.fs → LF f = []
  noe : LF epochB.data.toList = []
  all : (allF LF (Dk.keysL s.fs) ++ waitT wks).Perm A
  inc : A.Pairwise (fun a b => a.1 < b.1)
  okA : ∀ p ∈ A, TidOk p.1 ∧ p.2 < 9223372036854775808 ∧ p.1 / 8388608 ≤ ep ∧ p.1 < tidN ep A.length
  wlast : ∀ wk ∈ wks, wk.2 < tidN ep A.length
  above : ∀ p ∈ waitT wks, mk < p.1 / 8388608
  mkE : lastE Es = mk
  rise : RiseE Es
  low : (∀ e ∈ Es, e ≤ mk) ∧ Es.length ≤ 1 + A.length
  lt : mk < ep
  three : wks.length = 3
  few : A.length ≤ 30
  gen : G < 100
  small : ep ≤ 1000000

section
variable {A : List (Nat × Nat)} {ep mk nx G : Nat} {wks : List Wk} {LF : List UInt8 → List (Nat × Nat)} {Es : List Nat} {s s' : Dk.Dsk}
theorem keys4 {ks : List (List UInt8)} (hn : ks.Nodup) (hk : ∀ f ∈ ks, f = epochB.data.toList ∨ ∃ v, v < 3 ∧ f = (logB v G).data.toList) : ks.length ≤ 4 := by
  refine nodup_le (m := [epochB.data.toList, (logB 0 G).data.toList, (logB 1 G).data.toList, (logB 2 G).data.toList]) hn fun f hf => ?_
  rcases hk f hf with rfl | ⟨v, hv, rfl⟩
  · simp
  · match v, hv with
    | 0, _ => simp
    | 1, _ => simp
    | 2, _ => simp
theorem SurvS.len (h : SurvS A ep mk G wks LF Es s) : s.fs.length ≤ 4 := by
  have h1 : s.fs.length = (Dk.keysL s.fs).length := by simp [Dk.keysL]
  rw [h1]
  exact keys4 (G := G) (nodup_keys h.q.rise) h.nms
theorem nmsOk {ks : List (List UInt8)} (hG : G < 100) (hk : ∀ f ∈ ks, f = epochB.data.toList ∨ ∃ v, v < 3 ∧ f = (logB v G).data.toList) : (∀ f ∈ ks, NameOkW f) ∧ (∀ f ∈ ks, isLogK f = true → genK f ≤ G) ∧ epochNB.data.toList ∉ ks := by
  refine ⟨fun f hf => ?_, fun f hf hl => ?_, fun hf => ?_⟩
  · rcases hk f hf with rfl | ⟨v, hv, rfl⟩
    · exact Or.inl rfl
    · exact Or.inr (Or.inr ⟨v, G, by omega, hG, rfl⟩)
  · rcases hk f hf with rfl | ⟨v, hv, rfl⟩
    · rw [logK_epoch.1] at hl; cases hl
    · rw [(logK_at (show v < 10 by omega) hG).2.1]
      exact Nat.le_refl _
  · rcases hk _ hf with e | ⟨v, hv, e⟩
    · exact epochs_ne e.symm
    · have h1 := (logK_at (show v < 10 by omega) hG).1
      rw [← e, logK_epoch.2.1] at h1
      cases h1
theorem SurvS.mem (h : SurvS A ep mk G wks LF Es s) (f : List UInt8) : ∀ p ∈ LF f, p ∈ A := fun p hp => by
  by_cases hf : f ∈ Dk.keysL s.fs
  · exact h.all.mem_iff.1 (List.mem_append_left _ (List.mem_flatMap.2 ⟨f, hf, hp⟩))
  · rw [h.out f hf] at hp; cases hp
theorem SurvS.file (h : SurvS A ep mk G wks LF Es s) (f : List UInt8) : (LF f).length ≤ 30 := by
  by_cases hf : f ∈ Dk.keysL s.fs
  · have h1 := allF_le (LF := LF) hf
    have h2 := h.all.length_eq
    rw [List.length_append] at h2
    have := h.few
    omega
  · rw [h.out f hf]; exact Nat.zero_le _
theorem SurvS.wait (h : SurvS A ep mk G wks LF Es s) {x : Nat} {wk : Wk} (hwk : wks[x]? = some wk) : wk.1.length ≤ 30 ∧ ∀ p ∈ wk.1, p ∈ A ∧ mk < p.1 / 8388608 := by
  obtain ⟨r, p1, _⟩ := waitT_set hwk wk
  have h1 := p1.length_eq
  rw [List.length_append] at h1
  have h2 := h.all.length_eq
  rw [List.length_append] at h2
  have := h.few
  refine ⟨by omega, fun p hp => ?_⟩
  have hm : p ∈ waitT wks := p1.mem_iff.2 (List.mem_append_left _ hp)
  exact ⟨h.all.mem_iff.1 (List.mem_append_right _ hm), h.above p hm⟩
theorem SurvS.good (h : SurvS A ep mk G wks LF Es s) (f : List UInt8) : ∀ q ∈ LF f, TidOk q.1 ∧ q.2 < 9223372036854775808 := fun q hq => ⟨(h.okA q (h.mem f q hq)).1, (h.okA q (h.mem f q hq)).2.1⟩
theorem SurvS.upTo (h : SurvS A ep mk G wks LF Es s) : (upTo mk (allF LF (Dk.keysL s.fs))).Perm (upTo mk A) := by
  have h1 := h.all.filter (fun p => decide (p.1 / 8388608 ≤ mk))
  have h2 : Go.Proofs.YtigegdelhpdlhaaGreatDoor.upTo mk (allF LF (Dk.keysL s.fs) ++ waitT wks) = Go.Proofs.YtigegdelhpdlhaaGreatDoor.upTo mk (allF LF (Dk.keysL s.fs)) := by
    rw [upTo_append, upTo_none h.above, List.append_nil]
  rw [← h2]
  exact h1
theorem SurvS.non (h : SurvS A ep mk G wks LF Es s) : ∀ k, isLogK k = false → LF k = [] := fun k hk => by
  by_cases hf : k ∈ Dk.keysL s.fs
  · rcases h.nms k hf with rfl | ⟨v, hv, rfl⟩
    · exact h.noe
    · rw [(logK_at (show v < 10 by omega) h.gen).1] at hk
      cases hk
  · exact h.out k hf
theorem epochs_len (h : SurvS A ep mk G wks LF Es s) : (flatF (Es.map markN)).length ≤ 1000 := by
  rw [markF_len]
  have := h.low.2
  have := h.few
  omega
/-- nothing torn -/
theorem SurvS.end0 (h : SurvS A ep mk G wks LF Es s) (hs : s'.fs = s.fs) : EndS A mk nx G s' := fun ds => by
  have hid : Dk.crashL s'.fs ds = s.fs := by
    rw [hs]
    exact Dk.crashL_id s.fs ds h.q.whole
  rw [hid]
  obtain ⟨n1, n2, n3⟩ := nmsOk h.gen h.nms
  refine ⟨LF, Es, ⟨⟨rfl, rfl⟩, walD_of h.q.rise n1 (fun f x hl hx => ⟨[], torn_nil, ?_, ?_⟩) (fun f => ⟨by have := h.file f; omega, h.good f⟩) ⟨[], torn_nil, ?_, ?_⟩ h.rise (fun e he => ?_), h.q.nonew, h.len, fun p hp hl => n2 p.1 (List.mem_map.2 ⟨p, hp, rfl⟩) hl⟩, Or.inl h.mkE, ?_⟩
  · have := h.q.logs f hl
    rw [show Dk.getL f (unf s).fs = some x from hx] at this
    rw [List.append_nil]
    exact this
  · have := h.q.logs f hl
    rw [show Dk.getL f (unf s).fs = some x from hx] at this
    show (Dk.fileOr (some x)).data.length ≤ _
    rw [this, lineF_len]
    have := h.file f
    have : (LF f).length * (tB.size + kB.size + 59) ≤ 30 * 61 := Nat.mul_le_mul this (Nat.le_refl _)
    omega
  · rw [List.append_nil]
    exact h.q.marks
  · rw [List.append_nil]
    have := epochs_len h
    omega
  · have := h.low.1 e he
    have := h.lt
    have := h.small
    omega
  · rw [h.mkE, allE_upTo fun k _ hk => h.non k hk]
    exact h.upTo
/-- a log's file torn -/
theorem SurvS.endLog (h : SurvS A ep mk G wks LF Es s) {v : Nat} (hv : v < 3) {wk : Wk} (hwk : wks[v]? = some wk) (hs : s'.fs = Dk.putL (logB v G).data.toList ⟨(Dk.fileOr (Dk.getL (logB v G).data.toList s.fs)).data ++ flatF (wk.1.map (bodyN tB kB)), (Dk.fileOr (Dk.getL (logB v G).data.toList s.fs)).safe⟩ s.fs) : EndS A mk nx G s' := fun ds => by
  obtain ⟨f, hf⟩ : ∃ f, (logB v G).data.toList = f := ⟨_, rfl⟩
  have hlog : isLogK f = true := by rw [← hf]; exact (logK_at (show v < 10 by omega) h.gen).1
  have hfe : f ≠ epochB.data.toList := by rw [← hf]; exact logB_ne (by omega) h.gen
  rw [hf] at hs
  obtain ⟨c, c1, c2, c3, c4, n, c5⟩ := crash_one h.q.rise h.q.whole hs ds
  have hsz : ∀ b ∈ wk.1.map (bodyN tB kB), b.size ≤ 65536 := fun b hb => by
    obtain ⟨p, _, rfl⟩ := List.mem_map.1 hb
    rw [bodyN_size]
    decide
  obtain ⟨j, T, j1, j2, j3, _⟩ := flatF_take (wk.1.map (bodyN tB kB)) c hsz
  rw [← List.map_take] at j3
  obtain ⟨w1, w2⟩ := h.wait hwk
  have hkn : ∀ g ∈ Dk.keysL (Dk.crashL s'.fs ds), g = epochB.data.toList ∨ ∃ v, v < 3 ∧ g = (logB v G).data.toList := fun g hg => by
    rw [c2] at hg
    rcases List.mem_cons.1 ((perm_insN f _).mem_iff.1 hg) with rfl | hg
    · exact Or.inr ⟨v, hv, hf.symm⟩
    · exact h.nms g (List.mem_filter.1 hg).1
  obtain ⟨n1, n2, n3⟩ := nmsOk h.gen hkn
  have hold : (Dk.fileOr (Dk.getL f s.fs)).data = flatF ((LF f).map (bodyN tB kB)) := h.q.logs f hlog
  refine ⟨updF LF f (LF f ++ wk.1.take j), Es, ⟨⟨rfl, rfl⟩, walD_of c3 n1 (fun g x hl hx => ?_) (fun g => ?_) ⟨[], torn_nil, ?_, ?_⟩ h.rise (fun e he => ?_), ?_, ?_, fun p hp hl => n2 p.1 (List.mem_map.2 ⟨p, hp, rfl⟩) hl⟩, Or.inl h.mkE, ?_⟩
  · by_cases hg : g = f
    · subst hg
      have hx2 : some x = some (⟨(Dk.fileOr (Dk.getL g s.fs)).data ++ (flatF (wk.1.map (bodyN tB kB))).take c, n⟩ : Dk.Fil) := hx.symm.trans c5
      cases hx2
      refine ⟨T, j2, ?_, ?_⟩
      · show (Dk.fileOr (Dk.getL g s.fs)).data ++ _ = _
        rw [hold, j3]
        unfold updF
        rw [if_pos rfl, List.map_append, flatF_append, List.append_assoc]
      · show ((Dk.fileOr (Dk.getL g s.fs)).data ++ _).length ≤ _
        rw [hold, List.length_append, lineF_len, List.length_take, lineF_len]
        have a1 := h.file g
        have a2 : (LF g).length * (tB.size + kB.size + 59) ≤ 30 * 61 := Nat.mul_le_mul a1 (Nat.le_refl _)
        have a3 : wk.1.length * (tB.size + kB.size + 59) ≤ 30 * 61 := Nat.mul_le_mul w1 (Nat.le_refl _)
        omega
    · have hx2 : Dk.getL g s.fs = some x := (c4 g hg).symm.trans hx
      have := h.q.logs g hl
      rw [show Dk.getL g (unf s).fs = some x from hx2] at this
      refine ⟨[], torn_nil, ?_, ?_⟩
      · unfold updF
        rw [if_neg hg, List.append_nil]
        exact this
      · show (Dk.fileOr (some x)).data.length ≤ _
        rw [this, lineF_len]
        have a1 := h.file g
        have : (LF g).length * (tB.size + kB.size + 59) ≤ 30 * 61 := Nat.mul_le_mul a1 (Nat.le_refl _)
        omega
  · unfold updF
    split
    · refine ⟨?_, fun q hq => ?_⟩
      · rw [List.length_append, List.length_take]
        have := h.file f
        omega
      · rcases List.mem_append.1 hq with hq | hq
        · exact h.good f q hq
        · have := h.okA q (w2 q (List.mem_of_mem_take hq)).1
          exact ⟨this.1, this.2.1⟩
    · exact ⟨by have := h.file g; omega, h.good g⟩
  · show (Dk.fileOr (Dk.getL _ (Dk.crashL s'.fs ds))).data = _
    rw [c4 _ hfe.symm, List.append_nil]
    exact h.q.marks
  · rw [List.append_nil]
    have := epochs_len h
    omega
  · have := h.low.1 e he
    have := h.lt
    have := h.small
    omega
  · show Dk.getL _ (Dk.crashL s'.fs ds) = none
    cases hg : Dk.getL epochNB.data.toList (Dk.crashL s'.fs ds) with
    | none => rfl
    | some x => exact absurd (List.mem_map.2 ⟨_, Dk.getL_mem hg, rfl⟩) n3
  · show (Dk.crashL s'.fs ds).length ≤ 4
    have h1 : (Dk.crashL s'.fs ds).length = (Dk.keysL (Dk.crashL s'.fs ds)).length := by simp [Dk.keysL]
    rw [h1]
    exact keys4 (G := G) (nodup_keys c3) hkn
  · rw [h.mkE, allE_upTo fun k _ hk => ?_]
    · rw [c2]
      have p1 := (allF_put (nodup_keys h.q.rise) h.out f (wk.1.take j)).filter (fun p => decide (p.1 / 8388608 ≤ mk))
      refine List.Perm.trans p1 ?_
      have p2 : List.filter (fun p : Nat × Nat => decide (p.1 / 8388608 ≤ mk)) (allF LF (Dk.keysL s.fs) ++ wk.1.take j) = Go.Proofs.YtigegdelhpdlhaaGreatDoor.upTo mk (allF LF (Dk.keysL s.fs)) := by
        show Go.Proofs.YtigegdelhpdlhaaGreatDoor.upTo mk _ = _
        rw [upTo_append, upTo_none (fun p hp => (w2 p (List.mem_of_mem_take hp)).2), List.append_nil]
      show (List.filter (fun p : Nat × Nat => decide (p.1 / 8388608 ≤ mk)) (allF LF (Dk.keysL s.fs) ++ wk.1.take j)).Perm _
      rw [p2]
      exact h.upTo
    · unfold updF
      rw [if_neg (fun e => by rw [e, hlog] at hk; cases hk)]
      exact h.non k hk
/-- the marks torn -/
theorem SurvS.endMark (h : SurvS A ep mk G wks LF Es s) (hw : waitT wks = []) (hs : s'.fs = Dk.putL epochB.data.toList ⟨(Dk.fileOr (Dk.getL epochB.data.toList s.fs)).data ++ (frameB (markN ep)).data.toList, (Dk.fileOr (Dk.getL epochB.data.toList s.fs)).safe⟩ s.fs) : EndS A mk ep G s' := fun ds => by
  obtain ⟨c, c1, c2, c3, c4, n, c5⟩ := crash_one h.q.rise h.q.whole hs ds
  have hkn : ∀ g ∈ Dk.keysL (Dk.crashL s'.fs ds), g = epochB.data.toList ∨ ∃ v, v < 3 ∧ g = (logB v G).data.toList := fun g hg => by
    rw [c2] at hg
    rcases List.mem_cons.1 ((perm_insN _ _).mem_iff.1 hg) with rfl | hg
    · exact Or.inl rfl
    · exact h.nms g (List.mem_filter.1 hg).1
  obtain ⟨n1, n2, n3⟩ := nmsOk h.gen hkn
  have hold : (Dk.fileOr (Dk.getL epochB.data.toList s.fs)).data = flatF (Es.map markN) := h.q.marks
  have hall : (allF LF (Dk.keysL s.fs)).Perm A := by
    have := h.all
    rw [hw, List.append_nil] at this
    exact this
  have hkeys : (allF LF (Dk.keysL (Dk.crashL s'.fs ds))).Perm (allF LF (Dk.keysL s.fs)) := by
    rw [c2]
    have h1 := allF_put (nodup_keys h.q.rise) h.out epochB.data.toList []
    have e1 : updF LF epochB.data.toList (LF epochB.data.toList ++ []) = LF := by
      funext q
      unfold updF
      split
      · next e => rw [List.append_nil, e]
      · rfl
    rw [e1, List.append_nil] at h1
    exact h1
  have hlogs : ∀ g x, isLogK g = true → Dk.getL g (Dk.crashL s'.fs ds) = some x → ∃ T, TornF T ∧ x.data = flatF ((LF g).map (bodyN tB kB)) ++ T ∧ x.data.length ≤ 300000 := fun g x hl hx => by
    have hg : g ≠ epochB.data.toList := fun e => by rw [e, logK_epoch.1] at hl; cases hl
    have hx2 : Dk.getL g s.fs = some x := (c4 g hg).symm.trans hx
    have := h.q.logs g hl
    rw [show Dk.getL g (unf s).fs = some x from hx2] at this
    refine ⟨[], torn_nil, by rw [List.append_nil]; exact this, ?_⟩
    show (Dk.fileOr (some x)).data.length ≤ _
    rw [this, lineF_len]
    have a1 := h.file g
    have : (LF g).length * (tB.size + kB.size + 59) ≤ 30 * 61 := Nat.mul_le_mul a1 (Nat.le_refl _)
    omega
  have hgood : ∀ g, (LF g).length ≤ 1000 ∧ ∀ q ∈ LF g, TidOk q.1 ∧ q.2 < 9223372036854775808 := fun g => ⟨by have := h.file g; omega, h.good g⟩
  have hnon : Dk.getL epochNB.data.toList (Dk.crashL s'.fs ds) = none := by
    cases hg : Dk.getL epochNB.data.toList (Dk.crashL s'.fs ds) with
    | none => rfl
    | some x => exact absurd (List.mem_map.2 ⟨_, Dk.getL_mem hg, rfl⟩) n3
  have h4 : (Dk.crashL s'.fs ds).length ≤ 4 := by
    have h1 : (Dk.crashL s'.fs ds).length = (Dk.keysL (Dk.crashL s'.fs ds)).length := by simp [Dk.keysL]
    rw [h1]
    exact keys4 (G := G) (nodup_keys c3) hkn
  have hfr : (frameB (markN ep)).data.toList.length = 16 := by rw [frameB_len, markN_size]
  rw [hfr] at c1
  have hel := epochs_len h
  have hsm := h.small
  have hlt := h.lt
  by_cases hc : c < 16
  · refine ⟨LF, Es, ⟨⟨rfl, rfl⟩, walD_of c3 n1 hlogs hgood ⟨(frameB (markN ep)).data.toList.take c, ⟨markN ep, c, by rw [markN_size]; decide, by rw [markN_size]; exact hc, rfl⟩, ?_, ?_⟩ h.rise (fun e he => ?_), hnon, h4, fun p hp hl => n2 p.1 (List.mem_map.2 ⟨p, hp, rfl⟩) hl⟩, Or.inl h.mkE, ?_⟩
    · show (Dk.fileOr (Dk.getL _ (Dk.crashL s'.fs ds))).data = _
      rw [c5]
      show (Dk.fileOr (Dk.getL epochB.data.toList s.fs)).data ++ _ = _
      rw [hold]
    · rw [List.length_append, List.length_take]
      omega
    · have := h.low.1 e he
      omega
    · rw [h.mkE, allE_upTo fun k _ hk => h.non k hk]
      exact (upTo_perm hkeys).trans h.upTo
  · refine ⟨LF, Es ++ [ep], ⟨⟨rfl, rfl⟩, walD_of c3 n1 hlogs hgood ⟨[], torn_nil, ?_, ?_⟩ (riseE_snoc h.rise (by rw [h.mkE]; exact hlt)) (fun e he => ?_), hnon, h4, fun p hp hl => n2 p.1 (List.mem_map.2 ⟨p, hp, rfl⟩) hl⟩, Or.inr (lastE_snoc Es ep), ?_⟩
    · show (Dk.fileOr (Dk.getL _ (Dk.crashL s'.fs ds))).data = _
      rw [c5]
      show (Dk.fileOr (Dk.getL epochB.data.toList s.fs)).data ++ _ = _
      rw [hold, List.take_of_length_le (by omega), List.append_nil, List.map_append, flatF_append]
      simp [flatF]
    · rw [List.append_nil, List.map_append, flatF_append, List.length_append]
      have : (flatF ([ep].map markN)).length = 16 := by rw [markF_len]; rfl
      omega
    · rcases List.mem_append.1 he with he | he
      · have := h.low.1 e he
        omega
      · simp at he
        omega
    · rw [lastE_snoc, allE_upTo fun k _ hk => h.non k hk]
      exact upTo_perm (hkeys.trans hall)

/-- one entry more -/
theorem SurvS.add (h : SurvS A ep mk G wks LF Es s) {x : Nat} {wk : Wk} (hwk : wks[x]? = some wk) (hA : A.length < 30) :
    SurvS (A ++ [(tidN ep A.length, A.length)]) ep mk G (wks.set x (wk.1 ++ [(tidN ep A.length, A.length)], tidN ep A.length)) LF Es s := by
  obtain ⟨r, p1, p2⟩ := waitT_set hwk (wk.1 ++ [(tidN ep A.length, A.length)], tidN ep A.length)
  obtain ⟨t1, t2⟩ := tid_ok (ep := ep) (sq := A.length) (by have := h.small; omega) (by omega)
  have hnx : tidN ep A.length < tidN ep (A.length + 1) := by unfold tidN; omega
  have e1 : (waitT (wks.set x (wk.1 ++ [(tidN ep A.length, A.length)], tidN ep A.length))).Perm (waitT wks ++ [(tidN ep A.length, A.length)]) := by
    refine p2.trans ?_
    have h2 : ((wk.1 ++ [(tidN ep A.length, A.length)]) ++ r).Perm ((wk.1 ++ r) ++ [(tidN ep A.length, A.length)]) := by
      rw [List.append_assoc, List.append_assoc]
      exact List.perm_append_comm.append_left _
    exact h2.trans (p1.symm.append_right _)
  have hl : (A ++ [(tidN ep A.length, A.length)]).length = A.length + 1 := by simp
  refine ⟨h.down, h.q, h.nms, h.out, h.noe, ?_, ?_, fun p hp => ?_, fun v hv => ?_, fun p hp => ?_, h.mkE, h.rise, ⟨h.low.1, by rw [hl]; have := h.low.2; omega⟩, h.lt, by rw [List.length_set]; exact h.three, by rw [hl]; omega, h.gen, h.small⟩
  · refine (e1.append_left _).trans ?_
    rw [← List.append_assoc]
    exact h.all.append_right _
  · refine List.pairwise_append.2 ⟨h.inc, List.pairwise_singleton _ _, fun a ha b hb => ?_⟩
    rw [List.mem_singleton.1 hb]
    exact (h.okA a ha).2.2.2
  · rw [hl]
    rcases List.mem_append.1 hp with hp | hp
    · obtain ⟨a1, a2, a3, a4⟩ := h.okA p hp
      exact ⟨a1, a2, a3, by omega⟩
    · rw [List.mem_singleton.1 hp]
      exact ⟨t1, by show A.length < _; omega, by show tidN ep A.length / 8388608 ≤ ep; omega, hnx⟩
  · rw [hl]
    rcases List.mem_or_eq_of_mem_set hv with hv | rfl
    · have := h.wlast v hv; omega
    · exact hnx
  · rcases List.mem_append.1 (e1.mem_iff.1 hp) with hp | hp
    · exact h.above p hp
    · rw [List.mem_singleton.1 hp]
      show mk < tidN ep A.length / 8388608
      have := h.lt
      omega
/-- the epoch rises -/
theorem SurvS.up (h : SurvS A ep mk G wks LF Es s) {ep' : Nat} (he : ep ≤ ep') (he2 : ep' ≤ 1000000) : SurvS A ep' mk G wks LF Es s := by
  have ht : tidN ep A.length ≤ tidN ep' A.length := Nat.add_le_add_right (Nat.mul_le_mul_right _ he) _
  exact ⟨h.down, h.q, h.nms, h.out, h.noe, h.all, h.inc, fun p hp => by
    obtain ⟨a1, a2, a3, a4⟩ := h.okA p hp
    exact ⟨a1, a2, by omega, by omega⟩, fun wk hwk => by have := h.wlast wk hwk; omega, h.above, h.mkE, h.rise, h.low, by have := h.lt; omega, h.three, h.few, h.gen, he2⟩
/-- what waits is written -/
theorem SurvS.flush (h : SurvS A ep mk G wks LF Es s) {v : Nat} (hv : v < 3) {wk : Wk} (hwk : wks[v]? = some wk) {s2 : Dk.Dsk} (hd : s2.down = false) (q2 : QDisk (unf s2) tB kB (updF LF (logB v G).data.toList (LF (logB v G).data.toList ++ wk.1)) Es) (hk : Dk.keysL s2.fs = if wk.1 = [] then Dk.keysL s.fs else Dk.insN (logB v G).data.toList (Dk.keysL s.fs)) :
    SurvS A ep mk G (wks.set v ([], wk.2)) (updF LF (logB v G).data.toList (LF (logB v G).data.toList ++ wk.1)) Es s2 := by
  obtain ⟨r, p1, p2⟩ := waitT_set hwk ([], wk.2)
  have hlast : ∀ u ∈ wks.set v ([], wk.2), u.2 < tidN ep A.length := fun u hu => by
    rcases List.mem_or_eq_of_mem_set hu with hu | rfl
    · exact h.wlast u hu
    · exact h.wlast wk (List.mem_of_getElem? hwk)
  have hthree : (wks.set v ([], wk.2)).length = 3 := by rw [List.length_set]; exact h.three
  have habove : ∀ p ∈ waitT (wks.set v ([], wk.2)), mk < p.1 / 8388608 := fun p hp => h.above p (p1.mem_iff.2 (List.mem_append_right _ (by
    have := p2.mem_iff.1 hp
    rcases List.mem_append.1 this with h | h
    · cases h
    · exact h)))
  have hfe : (logB v G).data.toList ≠ epochB.data.toList := logB_ne (by omega) h.gen
  have hnoe : updF LF (logB v G).data.toList (LF (logB v G).data.toList ++ wk.1) epochB.data.toList = [] := by
    unfold updF
    rw [if_neg hfe.symm]
    exact h.noe
  by_cases h0 : wk.1 = []
  · have e1 : updF LF (logB v G).data.toList (LF (logB v G).data.toList ++ wk.1) = LF := by
      funext q
      unfold updF
      split
      · next e => rw [h0, List.append_nil, e]
      · rfl
    rw [e1] at q2 hnoe ⊢
    rw [if_pos h0] at hk
    refine ⟨hd, q2, by rw [hk]; exact h.nms, by rw [hk]; exact h.out, hnoe, ?_, h.inc, h.okA, hlast, habove, h.mkE, h.rise, h.low, h.lt, hthree, h.few, h.gen, h.small⟩
    rw [hk]
    have e2 : (waitT (wks.set v ([], wk.2))).Perm (waitT wks) := by
      rw [h0] at p1
      exact p2.trans p1.symm
    exact (e2.append_left _).trans h.all
  · rw [if_neg h0] at hk
    refine ⟨hd, q2, ?_, by rw [hk]; exact updF_out h.out _ _, hnoe, ?_, h.inc, h.okA, hlast, habove, h.mkE, h.rise, h.low, h.lt, hthree, h.few, h.gen, h.small⟩
    · rw [hk]
      intro g hg
      rcases List.mem_cons.1 ((perm_insN _ _).mem_iff.1 hg) with rfl | hg
      · exact Or.inr ⟨v, hv, rfl⟩
      · exact h.nms g (List.mem_filter.1 hg).1
    · rw [hk]
      refine ((allF_put (nodup_keys h.q.rise) h.out _ wk.1).append_right _).trans ?_
      refine List.Perm.trans ?_ h.all
      rw [List.append_assoc]
      exact List.Perm.append_left _ (p2.append_left wk.1 |>.trans (List.Perm.of_eq (by simp)) |>.trans p1.symm)
/-- all is written and marked -/
theorem SurvS.mark (h : SurvS A ep mk G wks LF Es s) (hw : waitT wks = []) {s2 : Dk.Dsk} (hd : s2.down = false) (q2 : QDisk (unf s2) tB kB LF (Es ++ [ep])) (hk : Dk.keysL s2.fs = Dk.insN epochB.data.toList (Dk.keysL s.fs)) (hE : Es.length < A.length + 1) (he : ep < 1000000) :
    SurvS A (ep + 1) ep G wks LF (Es ++ [ep]) s2 := by
  have hu := h.up (Nat.le_succ ep) he
  refine ⟨hd, q2, ?_, ?_, h.noe, ?_, h.inc, hu.okA, hu.wlast, (fun p hp => by rw [hw] at hp; cases hp), lastE_snoc Es ep, riseE_snoc h.rise (by rw [h.mkE]; exact h.lt), ⟨fun e he => ?_, ?_⟩, Nat.lt_succ_self ep, h.three, h.few, h.gen, he⟩
  · rw [hk]
    intro g hg
    rcases List.mem_cons.1 ((perm_insN _ _).mem_iff.1 hg) with rfl | hg
    · exact Or.inl rfl
    · exact h.nms g (List.mem_filter.1 hg).1
  · rw [hk]
    intro g hg
    by_cases he : g = epochB.data.toList
    · rw [he]; exact h.noe
    · exact h.out g fun hin => hg ((perm_insN _ _).mem_iff.2 (List.mem_cons_of_mem _ (List.mem_filter.2 ⟨hin, by simpa using he⟩)))
  · rw [hk, hw, List.append_nil]
    have h1 := allF_put (nodup_keys h.q.rise) h.out epochB.data.toList []
    have e1 : updF LF epochB.data.toList (LF epochB.data.toList ++ []) = LF := by
      funext q
      unfold updF
      split
      · next e => rw [List.append_nil, e]
      · rfl
    rw [e1, List.append_nil] at h1
    have h2 := h.all
    rw [hw, List.append_nil] at h2
    exact h1.trans h2
  · rcases List.mem_append.1 he with he | he
    · have := h.low.1 e he
      have := h.lt
      omega
    · simp at he
      omega
  · rw [List.length_append, List.length_singleton]
    omega
end
end Go.Proofs.YtigegdelhpdlhaaGreatDoor

/- Layer 18: Flush and Mark under a fuse: either all goes well, or the disk is down, and what a crash leaves then is known. -/
namespace Go.Proofs.YtigegdelhpdlhaaGreatDoor
open Go.RowKit QP

section
variable {A : List (Nat × Nat)} {ep mk G : Nat} {wks : List Wk} {LF : List UInt8 → List (Nat × Nat)} {Es : List Nat} {s : Dk.Dsk} {l d : Nat} {w : World} {F : Nat → Prop}
theorem sFlush (q : SurvS A ep mk G wks LF Es s) {v : Nat} (hv : v < 3) {wk : Wk} (hwk : wks[v]? = some wk) :
    (∃ s2 LF2, SurvS A ep mk G (wks.set v ([], wk.2)) LF2 Es s2 ∧ ∀ w F, LD tB kB l d s ⟨wks, mk, G⟩ w F → Calls Tryz.prog 16 #[.pointer (some ⟨l, 0, none⟩), .int .i64 (v : Int)] w fun e w' => e = .returned (.int .i64 0) ∧ Goes (LD tB kB l d s2 ⟨wks.set v ([], wk.2), mk, G⟩) w w' F) ∨
    (∃ s2, (∀ nx, EndS A mk nx G s2) ∧ ∀ w F, LD tB kB l d s ⟨wks, mk, G⟩ w F → Calls Tryz.prog 16 #[.pointer (some ⟨l, 0, none⟩), .int .i64 (v : Int)] w fun e w' => e = .returned (.int .i64 11) ∧ Goes (LD tB kB l d s2 ⟨wks, mk, G⟩) w w' F) := by
  by_cases h0 : wk.1 = []
  · left
    have e2 : wks.set v ([], wk.2) = wks := by
      obtain ⟨hi, hvv⟩ := List.getElem?_eq_some_iff.1 hwk
      rw [show (([], wk.2) : Wk) = wks[v] by rw [hvv, ← h0]]
      exact List.set_getElem_self _
    rw [e2]
    refine ⟨s, LF, q, fun w F h => ?_⟩
    refine jFlush_ok (LD.res tB kB l d s _) l v w h.low fun u hu => ?_
    have hwk' : (⟨wks, mk, G⟩ : Lg).ws[v]? = some ([], wk.2) := by
      show wks[v]? = _
      rw [hwk, ← h0]
    exact (jflush_none tB kB l d v s ⟨wks, mk, G⟩ wk.2 u F (h.below hu) hwk').mono fun e w' ⟨h1, h2⟩ => ⟨h1, by rw [← h2]; exact Goes.stay (h.below hu)⟩
  · have hv10 : v < 10 := by omega
    have hlen := q.len
    have hfl := q.file (logB v G).data.toList
    obtain ⟨w1, _⟩ := q.wait hwk
    obtain ⟨a1, a2, a3, a4, a5⟩ := q.q.log hv10 q.gen wk.1 (by omega) (by decide) (by decide) (by show s.fs.length < 64; omega)
    have hd2 : ∀ Dat : ByteArray, Dat.data.toList = flatF (wk.1.map (bodyN tB kB)) → flatF (wk.1.map (bodyN tB kB)) = Dat.data.toList := fun _ h => h.symm
    rcases write3 (s := s) q.q.rise q.down a1 with ⟨b1, b2⟩ | ⟨b1, b2, b3⟩ | ⟨b1, b2, b3, b4⟩
    · right
      refine ⟨Dk.appendS s (logB v G).data.toList (flatF (wk.1.map (bodyN tB kB))), fun nx => q.end0 b2, fun w F h => ?_⟩
      refine jFlush_err 11 (LD.res tB kB l d _ _) l v w h.low fun u hu => ?_
      refine jflush_down tB kB l d v s ⟨wks, mk, G⟩ wk u F (h.below hu) hwk h0 hv10 q.gen (by decide) (by decide) _ 11 fun u' F' Dat hDl hDs hns hD => ?_
      have := jwriteD_down1 (F := F') 11 (by decide) (logB v G) Dat hD hns hDs (by rw [hDl]; exact b1)
      rw [hDl] at this
      exact this
    · right
      refine ⟨Dk.syncS (Dk.appendS s (logB v G).data.toList (flatF (wk.1.map (bodyN tB kB)))) (logB v G).data.toList, fun nx => q.endLog hv hwk b3, fun w F h => ?_⟩
      refine jFlush_err 11 (LD.res tB kB l d _ _) l v w h.low fun u hu => ?_
      refine jflush_down tB kB l d v s ⟨wks, mk, G⟩ wk u F (h.below hu) hwk h0 hv10 q.gen (by decide) (by decide) _ 11 fun u' F' Dat hDl hDs hns hD => ?_
      have := jwriteD_down2 (F := F') 11 (by decide) (logB v G) Dat hD hns hDs (by rw [hDl]; exact b1) (by rw [hDl]; exact b2)
      rw [hDl] at this
      exact this
    · left
      refine ⟨wrS s (logB v G) (flatF (wk.1.map (bodyN tB kB))), _, q.flush hv hwk b3 (by rw [show unf (wrS s (logB v G) (flatF (wk.1.map (bodyN tB kB)))) = wrS (unf s) (logB v G) (flatF (wk.1.map (bodyN tB kB))) from b4]; exact a3) ?_, fun w F h => ?_⟩
      · rw [if_neg h0]
        have e1 := congrArg (fun x : Dk.Dsk => Dk.keysL x.fs) b4
        exact e1.trans a5
      · exact jFlush_ok (LD.res tB kB l d _ _) l v w h.low fun u hu => jflush_some tB kB l d v s ⟨wks, mk, G⟩ wk u F (h.below hu) hwk h0 hv10 q.gen (by decide) (by decide) b1 b2

theorem epochB_small : epochB.size ≤ maxLen := by decide
set_option maxHeartbeats 2000000 in
theorem sMark (q : SurvS A ep mk G wks LF Es s) (hw : ∀ wk ∈ wks, wk.1 = []) (hE : Es.length < A.length + 1) (he : ep < 1000000) :
    (∃ s2, SurvS A (ep + 1) ep G wks LF (Es ++ [ep]) s2 ∧ ∀ w F, LD tB kB l d s ⟨wks, mk, G⟩ w F → Calls Tryz.prog 17 #[.pointer (some ⟨l, 0, none⟩), .int .i64 (ep : Int)] w fun e w' => e = .returned (.int .i64 0) ∧ Goes (LD tB kB l d s2 ⟨wks, ep, G⟩) w w' F) ∨
    (∃ s2, EndS A mk ep G s2 ∧ ∀ w F, LD tB kB l d s ⟨wks, mk, G⟩ w F → Calls Tryz.prog 17 #[.pointer (some ⟨l, 0, none⟩), .int .i64 (ep : Int)] w fun e w' => e = .returned (.int .i64 11) ∧ Goes (LD tB kB l d s2 ⟨wks, mk, G⟩) w w' F) := by
  have hwt : waitT wks = [] := by
    unfold waitT
    rw [List.flatMap_eq_nil_iff]
    exact hw
  have hlen := q.len
  have hA := q.few
  have hep : ep ≤ 2147483648 := by omega
  obtain ⟨a1, a2, a3, a4, a5⟩ := q.q.mark ep (by omega) (by show s.fs.length < 64; omega)
  have hlt := q.lt
  rcases write3 (s := s) q.q.rise q.down a1 with ⟨b1, b2⟩ | ⟨b1, b2, b3⟩ | ⟨b1, b2, b3, b4⟩
  · right
    refine ⟨Dk.appendS s epochB.data.toList (frameB (markN ep)).data.toList, q.end0 b2, fun w F h => ?_⟩
    refine jMark_err 11 (LD.res tB kB l d _ _) l ep w h.low fun u hu => ?_
    refine jmark_down tB kB l d ep s ⟨wks, mk, G⟩ u F (h.below hu) hlt hep hw _ 11 fun u' F' hns hD => ?_
    have h5 := jwriteD_down1 (F := F') 11 (by decide) epochB (frameB (markN ep)) hD epochB_small hns b1
    exact h5
  · right
    refine ⟨Dk.syncS (Dk.appendS s epochB.data.toList (frameB (markN ep)).data.toList) epochB.data.toList, q.endMark hwt b3, fun w F h => ?_⟩
    refine jMark_err 11 (LD.res tB kB l d _ _) l ep w h.low fun u hu => ?_
    refine jmark_down tB kB l d ep s ⟨wks, mk, G⟩ u F (h.below hu) hlt hep hw _ 11 fun u' F' hns hD => ?_
    have h5 := jwriteD_down2 (F := F') 11 (by decide) epochB (frameB (markN ep)) hD epochB_small hns b1 b2
    exact h5
  · left
    refine ⟨wrS s epochB (frameB (markN ep)).data.toList, q.mark hwt b3 (by rw [show unf (wrS s epochB (frameB (markN ep)).data.toList) = wrS (unf s) epochB (frameB (markN ep)).data.toList from b4]; exact a3) ?_ hE he, fun w F h => ?_⟩
    · have e1 := congrArg (fun x : Dk.Dsk => Dk.keysL x.fs) b4
      exact e1.trans a5
    · exact jMark_ok (LD.res tB kB l d _ _) l ep w h.low fun u hu => jmark_any tB kB l d ep s ⟨wks, mk, G⟩ u F (h.below hu) hlt hep hw b1 b2
end
end Go.Proofs.YtigegdelhpdlhaaGreatDoor
