import Derived.Test.YtigegdelhpdlhaaGreatDoorJTidPJ
import Derived.Test.YtigegdelhpdlhaaGreatDoorJSame2J
import Derived.Test.YtigegdelhpdlhaaGreatDoorJStepJ
import Derived.Test.YtigegdelhpdlhaaGreatDoorJSortJ
/- Layer 18: WalTids's state, in plain words: what was added lies in files or waits. -/
namespace Go.Proofs.YtigegdelhpdlhaaGreatDoor
open Go.RowKit QP

abbrev epT (i : Nat) : Nat := 1 + i / 7
/-- the i-th entry: its word, its number -/
abbrev entT (i : Nat) : Nat × Nat := (tidN (epT i) i, i)
abbrev waitT (wks : List Wk) : List (Nat × Nat) := wks.flatMap (·.1)
theorem tidT_up {i j : Nat} (h : i < j) : tidN (epT i) i < tidN (epT j) j := by
  unfold tidN epT
  have : i / 7 ≤ j / 7 := Nat.div_le_div_right (by omega)
  have : (1 + i / 7) * 8388608 ≤ (1 + j / 7) * 8388608 := Nat.mul_le_mul_right _ (by omega)
  omega
theorem tidT_ok {i : Nat} (h : i < 100) : TidOk (tidN (epT i) i) ∧ tidN (epT i) i / 8388608 = epT i := tid_ok (by unfold epT; omega) (by omega)

structure TidS (c i : Nat) (wks : List Wk) (LF : List UInt8 → List (Nat × Nat)) (s : Dk.Dsk) (G : Nat) : Prop where
  q : QDisk s tB kB LF []
  few : s.fs.length ≤ c
  logs : ∀ f ∈ Dk.keysL s.fs, isLogK f = true
  out : ∀ f, f ∉ Dk.keysL s.fs → LF f = []
  all : (allF LF (Dk.keysL s.fs) ++ waitT wks).Perm ((List.range i).map entT)
  last : ∀ wk ∈ wks, wk.2 < tidN (epT i) i
  four : wks.length = 4
  gen : G ≤ i

theorem eraseIdx_perm {α : Type} : ∀ {l : List α} {x : Nat} (h : x < l.length), (l[x] :: l.eraseIdx x).Perm l
  | a :: l, 0, _ => List.Perm.refl _
  | a :: l, x + 1, h => by
    have ih := eraseIdx_perm (l := l) (x := x) (by simpa using h)
    rw [List.getElem_cons_succ, List.eraseIdx_cons_succ]
    exact (List.Perm.swap _ _ _).trans (ih.cons a)
theorem waitT_set {wks : List Wk} {x : Nat} {wk : Wk} (h : wks[x]? = some wk) (v : Wk) : ∃ r, (waitT wks).Perm (wk.1 ++ r) ∧ (waitT (wks.set x v)).Perm (v.1 ++ r) := by
  obtain ⟨hx, hv⟩ := List.getElem?_eq_some_iff.1 h
  have p1 := eraseIdx_perm hx
  have hx2 : x < (wks.set x v).length := by rw [List.length_set]; exact hx
  have p2 := eraseIdx_perm hx2
  rw [List.getElem_set_self, List.eraseIdx_set_eq] at p2
  rw [hv] at p1
  have key : ∀ {l1 l2 : List Wk}, l1.Perm l2 → (waitT l1).Perm (waitT l2) := fun {l1 l2} h => by
    induction h with
    | nil => exact List.Perm.refl _
    | cons x _ ih => unfold waitT; rw [List.flatMap_cons, List.flatMap_cons]; exact ih.append_left _
    | swap x y l =>
      unfold waitT
      rw [List.flatMap_cons, List.flatMap_cons, List.flatMap_cons, List.flatMap_cons, ← List.append_assoc, ← List.append_assoc]
      exact List.perm_append_comm.append_right _
    | trans _ _ h1 h2 => exact h1.trans h2
  refine ⟨waitT (wks.eraseIdx x), ?_, ?_⟩
  · have := key p1.symm
    unfold waitT at this ⊢
    rw [List.flatMap_cons] at this
    exact this
  · have := key p2.symm
    unfold waitT at this ⊢
    rw [List.flatMap_cons] at this
    exact this

section
variable {c i x G : Nat} {wks : List Wk} {LF : List UInt8 → List (Nat × Nat)} {s : Dk.Dsk} {wk : Wk}
theorem TidS.mem (h : TidS c i wks LF s G) : ∀ p ∈ allF LF (Dk.keysL s.fs) ++ waitT wks, ∃ j, j < i ∧ p = entT j := fun p hp => by
  have := h.all.mem_iff.1 hp
  obtain ⟨j, hj, rfl⟩ := List.mem_map.1 this
  exact ⟨j, List.mem_range.1 hj, rfl⟩
theorem TidS.len (h : TidS c i wks LF s G) : (allF LF (Dk.keysL s.fs)).length + (waitT wks).length = i := by
  have := h.all.length_eq
  rw [List.length_append, List.length_map, List.length_range] at this
  exact this
theorem TidS.wait (h : TidS c i wks LF s G) (hwk : wks[x]? = some wk) : wk.1.length ≤ i := by
  obtain ⟨r, p1, _⟩ := waitT_set hwk wk
  have h1 := p1.length_eq
  rw [List.length_append] at h1
  have := h.len
  omega
theorem allF_le {ks : List (List UInt8)} {f : List UInt8} (hf : f ∈ ks) : (LF f).length ≤ (allF LF ks).length := by
  obtain ⟨a, b, rfl⟩ := List.append_of_mem hf
  unfold allF
  rw [List.flatMap_append, List.flatMap_cons, List.length_append, List.length_append]
  omega
theorem TidS.file (h : TidS c i wks LF s G) (f : List UInt8) : (LF f).length ≤ i ∧ ∀ p ∈ LF f, ∃ j, j < i ∧ p = entT j := by
  by_cases hf : f ∈ Dk.keysL s.fs
  · refine ⟨by have := allF_le (LF := LF) hf; have := h.len; omega, fun p hp => h.mem p (List.mem_append_left _ (List.mem_flatMap.2 ⟨f, hf, hp⟩))⟩
  · rw [h.out f hf]
    exact ⟨Nat.zero_le _, fun _ hp => by cases hp⟩
/-- one entry more -/
theorem TidS.add (h : TidS c i wks LF s G) (hwk : wks[x]? = some wk) : TidS c (i + 1) (wks.set x (wk.1 ++ [entT i], tidN (epT i) i)) LF s G := by
  obtain ⟨r, p1, p2⟩ := waitT_set hwk (wk.1 ++ [entT i], tidN (epT i) i)
  refine ⟨h.q, h.few, h.logs, h.out, ?_, fun v hv => ?_, by rw [List.length_set]; exact h.four, Nat.le_succ_of_le h.gen⟩
  · have e1 : (waitT (wks.set x (wk.1 ++ [entT i], tidN (epT i) i))).Perm (waitT wks ++ [entT i]) := by
      refine p2.trans ?_
      have h2 : ((wk.1 ++ [entT i]) ++ r).Perm ((wk.1 ++ r) ++ [entT i]) := by
        rw [List.append_assoc, List.append_assoc]
        exact List.perm_append_comm.append_left _
      exact h2.trans (p1.symm.append_right _)
    rw [List.range_succ, List.map_append]
    refine (e1.append_left _).trans ?_
    rw [← List.append_assoc]
    exact h.all.append_right _
  · rcases List.mem_or_eq_of_mem_set hv with hv | rfl
    · exact Nat.lt_trans (h.last v hv) (tidT_up (Nat.lt_succ_self i))
    · exact tidT_up (Nat.lt_succ_self i)
/-- what waits is written -/
theorem TidS.flush (h : TidS c i wks LF s G) (hwk : wks[x]? = some wk) (f : List UInt8) (hf : isLogK f = true) {s2 : Dk.Dsk} (q2 : QDisk s2 tB kB (updF LF f (LF f ++ wk.1)) []) (hl : s2.fs.length ≤ s.fs.length + 1) (hk : Dk.keysL s2.fs = if wk.1 = [] then Dk.keysL s.fs else Dk.insN f (Dk.keysL s.fs)) :
    TidS (c + 1) i (wks.set x ([], wk.2)) (updF LF f (LF f ++ wk.1)) s2 G := by
  obtain ⟨r, p1, p2⟩ := waitT_set hwk ([], wk.2)
  have hlast : ∀ v ∈ wks.set x ([], wk.2), v.2 < tidN (epT i) i := fun v hv => by
    rcases List.mem_or_eq_of_mem_set hv with hv | rfl
    · exact h.last v hv
    · exact h.last wk (List.mem_of_getElem? hwk)
  have hfour : (wks.set x ([], wk.2)).length = 4 := by rw [List.length_set]; exact h.four
  have hfew : s2.fs.length ≤ c + 1 := by have := h.few; omega
  by_cases h0 : wk.1 = []
  · have e1 : updF LF f (LF f ++ wk.1) = LF := by
      funext q
      unfold updF
      split
      · next e => rw [h0, List.append_nil, e]
      · rfl
    rw [e1] at q2 ⊢
    rw [if_pos h0] at hk
    refine ⟨q2, hfew, by rw [hk]; exact h.logs, by rw [hk]; exact h.out, ?_, hlast, hfour, h.gen⟩
    rw [hk]
    have e2 : (waitT (wks.set x ([], wk.2))).Perm (waitT wks) := by
      rw [h0] at p1
      exact p2.trans p1.symm
    exact (e2.append_left _).trans h.all
  · rw [if_neg h0] at hk
    have hn := nodup_keys h.q.rise
    refine ⟨q2, hfew, by
      rw [hk]
      intro g hg
      rcases List.mem_cons.1 ((perm_insN f _).mem_iff.1 hg) with rfl | hg
      · exact hf
      · exact h.logs g (List.mem_filter.1 hg).1, by rw [hk]; exact updF_out h.out f _, ?_, hlast, hfour, h.gen⟩
    rw [hk]
    refine ((allF_put hn h.out f wk.1).append_right _).trans ?_
    refine List.Perm.trans ?_ h.all
    rw [List.append_assoc]
    exact (List.Perm.append_left _ (p2.append_left wk.1 |>.trans (List.Perm.of_eq (by simp)) |>.trans p1.symm))
theorem TidS.rotate (h : TidS c i wks LF s G) (hG : G < i) : TidS c i wks LF s (G + 1) := ⟨h.q, h.few, h.logs, h.out, h.all, h.last, h.four, hG⟩
theorem TidS.more (h : TidS c i wks LF s G) {c' : Nat} (hc : c ≤ c') : TidS c' i wks LF s G := ⟨h.q, by have := h.few; omega, h.logs, h.out, h.all, h.last, h.four, h.gen⟩
end
theorem tidS_start : TidS 0 0 (wsN 4) (fun _ => []) Dk.blank 0 :=
  ⟨qdisk_blank tB kB, Nat.le_refl _, (fun _ h => by cases h), (fun _ _ => rfl), List.Perm.refl _, (fun wk h => by rw [(List.mem_replicate.1 h).2]; decide), rfl, Nat.le_refl _⟩
theorem rangeT_sorted (n : Nat) : ((List.range n).map entT).Pairwise (fun a b => a.1 ≤ b.1) := by
  rw [List.pairwise_map]
  exact List.Pairwise.imp (fun {a b} h => Nat.le_of_lt (tidT_up h)) List.pairwise_lt_range
theorem rangeT_inj (n : Nat) : ∀ a ∈ (List.range n).map entT, ∀ b ∈ (List.range n).map entT, a.1 = b.1 → a = b := fun a ha b hb e => by
  obtain ⟨i, _, rfl⟩ := List.mem_map.1 ha
  obtain ⟨j, _, rfl⟩ := List.mem_map.1 hb
  have e' : tidN (epT i) i = tidN (epT j) j := e
  rcases Nat.lt_trichotomy i j with h | h | h
  · have := tidT_up h; omega
  · rw [h]
  · have := tidT_up h; omega
theorem rangeT_nodup (n : Nat) : (((List.range n).map entT).map (·.1)).Nodup := by
  unfold List.Nodup
  rw [List.map_map, List.pairwise_map]
  exact List.Pairwise.imp (fun {a b} h e => by have := tidT_up h; exact absurd e (Nat.ne_of_lt this)) List.pairwise_lt_range
end Go.Proofs.YtigegdelhpdlhaaGreatDoor

/- Layer 18: Rotate. -/
namespace Go.Proofs.YtigegdelhpdlhaaGreatDoor
open Go.RowKit QP

theorem LogG.setGen {w : World} {t k : ByteArray} {l d b : Nat} {vs : List Value} {L : Lg} (h : LogG w t k l d b vs L) (e : Nat) {F : Nat → Prop} (hF : ∀ j, F j ↔ footL l b vs j) :
    Goes (LogI t k l d { L with gen := e }) w (w.setCell ⟨l, 3, none⟩ (.int .i64 (e : Int))) F := by
  obtain ⟨cur, hcur, hce⟩ := h.row
  have hlb : b ≠ l := fun e => by
    have h1 := h.top
    rw [← e, hcur] at h1
    simp only [Option.some.injEq, Obj.cells.injEq] at h1
    exact absurd h1.2.1 (by decide)
  have hT : Turn (fun j => j = l) w (w.setCell ⟨l, 3, none⟩ (.int .i64 (e : Int))) := Turn.setCell (S := fun j => j = l) w ⟨l, 3, none⟩ _ rfl
  refine ⟨footL l b vs, ⟨b, vs, ⟨?_, ⟨cur, (hT.block b (lt_of hcur) hlb).trans hcur, hce⟩, h.len, fun i v wk hv hw => ?_, h.apart, h.few⟩, fun _ => Iff.rfl⟩, hT.mono fun j hj => (hF j).2 (Or.inl hj), fun j hj => Or.inl ((hF j).2 hj)⟩
  · exact heap_setCell_same h.top 3 _
  · refine ownsRow_block (h.own i v wk hv hw) fun g hg => hT.block g (World.ownsRow.lt (h.own i v wk hv hw) g hg).2 fun e => ?_
    obtain ⟨cur2, hc2, _⟩ := ownsRow_own (h.own i v wk hv hw) hg
    rw [e, h.top] at hc2
    simp only [Option.some.injEq, Obj.cells.injEq] at hc2
    exact absurd hc2.2.1 (by decide)

set_option maxRecDepth 100000 in
set_option maxHeartbeats 2000000 in
theorem jrotate_i (t k : ByteArray) (l d : Nat) (L : Lg) (w : World) (F : Nat → Prop) (h : LogI t k l d L w F) (hg : L.gen < 1000000) :
    Calls Tryz.prog 31 #[.pointer (some ⟨l, 0, none⟩)] w fun e w' => e = .returned (.int .i64 (L.gen : Int)) ∧ Goes (LogI t k l d { L with gen := L.gen + 1 }) w w' F := by
  obtain ⟨b, vs, hG, hB⟩ := h
  have HSt : Hid (Goes (LogI t k l d { L with gen := L.gen + 1 }) w (w.setCell ⟨l, 3, none⟩ (.int .i64 ((L.gen + 1 : Nat) : Int))) F) := hG.setGen (L.gen + 1) hB
  have q0 : w.cell? ⟨l, 3, none⟩ = some (.int .i64 (L.gen : Int)) := by rw [cell_of hG.top]; rfl
  have q1 := frozen_of hG.top 3
  have HRf : Hid (∀ z u, Calls Tryz.prog 55 #[.bool false, .int .i64 z] u fun r w' => r = .returned (.tuple #[]) ∧ u = w') := fun z u => (refuse_no z u).mono fun _ _ h => ⟨h.1, h.2.symm⟩
  obtain ⟨G, hGg⟩ : ∃ G, L.gen = G := ⟨_, rfl⟩
  obtain ⟨L2, hL2⟩ : ∃ X, ({ L with gen := L.gen + 1 } : Lg) = X := ⟨_, rfl⟩
  rw [hL2] at HSt ⊢
  rw [hGg] at HSt q0 hg ⊢
  obtain ⟨G1, hG1⟩ : ∃ g, G + 1 = g := ⟨_, rfl⟩
  rw [hG1] at HSt
  have c0 : IntKind.i64.wrap ((G : Int) + 1) = (G1 : Int) := by rw [wrap_small _ (by omega) (by omega)]; omega
  have c1 : decide ((2147483648 : Int) ≤ (G : Int)) = false := decide_eq_false (by omega)
  have c2 : decide (2147483648 ≤ G) = false := decide_eq_false (by omega)
  have c3 : ¬ (2147483648 : Int) ≤ (G : Int) := by omega
  clear hG hB hL2 hGg
  go_enter Tryz.func31, Tryz.ntmps31
  go_wp2_with (go_at_call 55; (with_reducible refine (HRf.out _ _).mono ?_); rintro e w4 ⟨rfl, rfl⟩)
  go_ret
  exact ⟨rfl, HSt.out⟩

set_option maxRecDepth 100000 in
set_option maxHeartbeats 2000000 in
theorem jRotate_ok {I' : World → (Nat → Prop) → Prop} {F : Nat → Prop} (R : Res I') (l : Nat) (z : Int) (w : World) (hF : ∀ i, F i → i < w.heap.size) (h : ∀ u, Below w.heap.size w u → Calls Tryz.prog 31 #[.pointer (some ⟨l, 0, none⟩)] u fun r w' => r = .returned (.int .i64 z) ∧ Goes I' u w' F) :
    Calls Tryz.prog 10 #[.pointer (some ⟨l, 0, none⟩)] w fun r w' => r = .returned (.tuple #[.int .i64 z, .int .i64 0]) ∧ Goes I' w w' F := by
  have hmf : ∀ (fn : Fn) (first cap : Array Value) (w : World), (Instr.makeFunc fn first cap).run Tryz.prog w = .ok (.func fn first cap) w := fun _ _ _ _ => rfl
  have HD : Hid (Calls Tryz.prog 30 #[.func (.func 31) #[.pointer (some ⟨l, 0, none⟩)] #[]] w fun r w' => r = .returned (.tuple #[.int .i64 z, .int .i64 0]) ∧ Goes I' w w' F) :=
    toldIB_ok R 31 (.pointer (some ⟨l, 0, none⟩)) z w hF (enters_of Tryz.func31 (by kernel_rfl) rfl _) h
  clear h
  go_enter Tryz.func10, Tryz.ntmps10
  go_wp2_with fail
  refine HD.out.mono ?_
  rintro r w2 ⟨rfl, hg⟩
  go_wp2_with fail
  go_ret2
  exact ⟨rfl, hg⟩
/-- Rotate, of a log and its disk -/
theorem cRotate {t k : ByteArray} {l d : Nat} {s : Dk.Dsk} {L : Lg} {w : World} {F : Nat → Prop} (h : LD t k l d s L w F) (hg : L.gen < 1000000) :
    Calls Tryz.prog 10 #[.pointer (some ⟨l, 0, none⟩)] w fun e w' => e = .returned (.tuple #[.int .i64 (L.gen : Int), .int .i64 0]) ∧ Goes (LD t k l d s { L with gen := L.gen + 1 }) w w' F :=
  jRotate_ok (LD.res t k l d s _) l (L.gen : Int) w h.low fun u hu => (h.below hu).onLog fun B hL => jrotate_i t k l d L u B hL hg
end Go.Proofs.YtigegdelhpdlhaaGreatDoor

/- Layer 18: two sorted stretches of a list of entries become one, in plain words (what the library's merge of a stable sort does, step by step). -/
namespace Go.Proofs.YtigegdelhpdlhaaGreatDoor
open Go.RowKit QP

abbrev gE (L : List Er) (i : Nat) : Er := L.getD i (0, 0, 0, 0)
theorem gE_eq {L : List Er} {i : Nat} (h : i < L.length) : gE L i = L[i] := by
  unfold gE
  rw [List.getD, List.getElem?_eq_getElem h]
  rfl
/-- sorted from a on, ahead of b -/
def SortR (L : List Er) (a b : Nat) : Prop := ∀ i j, a ≤ i → i ≤ j → j < b → (gE L i).T ≤ (gE L j).T
/-- what lies from a on, ahead of b, has changed places -/
structure Mv (a b : Nat) (L L' : List Er) : Prop where
  len : L'.length = L.length
  perm : L'.Perm L
  out : ∀ i, (i < a ∨ b ≤ i) → gE L' i = gE L i
  inn : ∀ i, a ≤ i → i < b → ∃ j, a ≤ j ∧ j < b ∧ gE L' i = gE L j
theorem Mv.refl (a b : Nat) (L : List Er) : Mv a b L L := ⟨rfl, List.Perm.refl _, fun _ _ => rfl, fun i h1 h2 => ⟨i, h1, h2, rfl⟩⟩
theorem Mv.trans {a b : Nat} {L L1 L2 : List Er} (h : Mv a b L L1) (h' : Mv a b L1 L2) : Mv a b L L2 :=
  ⟨h'.len.trans h.len, h'.perm.trans h.perm, fun i hi => (h'.out i hi).trans (h.out i hi), fun i h1 h2 => by
    obtain ⟨j, j1, j2, e⟩ := h'.inn i h1 h2
    obtain ⟨k, k1, k2, e2⟩ := h.inn j j1 j2
    exact ⟨k, k1, k2, e.trans e2⟩⟩
theorem Mv.mono {a b a' b' : Nat} {L L1 : List Er} (h : Mv a b L L1) (ha : a' ≤ a) (hb : b ≤ b') : Mv a' b' L L1 :=
  ⟨h.len, h.perm, fun i hi => h.out i (by omega), fun i h1 h2 => by
    by_cases hin : a ≤ i ∧ i < b
    · obtain ⟨j, j1, j2, e⟩ := h.inn i hin.1 hin.2
      exact ⟨j, by omega, by omega, e⟩
    · exact ⟨i, h1, h2, h.out i (by omega)⟩⟩

/-- two change places -/
def swE (L : List Er) (i j : Nat) : List Er := (L.set i (gE L j)).set j (gE L i)
theorem swE_len (L : List Er) (i j : Nat) : (swE L i j).length = L.length := by simp [swE]
theorem gE_swE {L : List Er} {i j : Nat} (hi : i < L.length) (hj : j < L.length) (x : Nat) : gE (swE L i j) x = if x = j then gE L i else if x = i then gE L j else gE L x := by
  show ((L.set i (gE L j)).set j (gE L i)).getD x _ = _
  rw [List.getD, List.getElem?_set]
  by_cases h1 : j = x
  · subst h1
    rw [if_pos rfl, if_pos (by rw [List.length_set]; exact hj), if_pos rfl]
    rfl
  · rw [if_neg h1, if_neg (fun e => h1 e.symm), List.getElem?_set]
    by_cases h2 : i = x
    · subst h2
      rw [if_pos rfl, if_pos hi, if_pos rfl]
      rfl
    · rw [if_neg h2, if_neg (fun e => h2 e.symm)]
      rfl
theorem swE_perm {L : List Er} {i j : Nat} (hi : i < L.length) (hj : j < L.length) : (swE L i j).Perm L := by
  have h := Array.swap_perm (xs := L.toArray) (i := i) (j := j) (by simpa using hi) (by simpa using hj)
  have e : (L.toArray.swap i j (by simpa using hi) (by simpa using hj)).toList = swE L i j := by
    unfold swE
    rw [gE_eq hi, gE_eq hj]
    simp
  have h2 := h.toList
  rw [e] at h2
  exact h2
theorem swE_mv {L : List Er} {i j a b : Nat} (hi : a ≤ i ∧ i < b) (hj : a ≤ j ∧ j < b) (hb : b ≤ L.length) : Mv a b L (swE L i j) := by
  refine ⟨swE_len L i j, swE_perm (by omega) (by omega), fun x hx => ?_, fun x h1 h2 => ?_⟩
  · rw [gE_swE (by omega) (by omega), if_neg (by omega), if_neg (by omega)]
  · rw [gE_swE (by omega) (by omega)]
    split
    · exact ⟨i, hi.1, hi.2, rfl⟩
    · split
      · exact ⟨j, hj.1, hj.2, rfl⟩
      · exact ⟨x, h1, h2, rfl⟩

/-- two stretches of one length change places -/
def swN (L : List Er) (a b : Nat) : Nat → List Er
  | 0 => L
  | n + 1 => swE (swN L a b n) (a + n) (b + n)
theorem swN_len (L : List Er) (a b : Nat) : ∀ n, (swN L a b n).length = L.length
  | 0 => rfl
  | n + 1 => (swE_len _ _ _).trans (swN_len L a b n)
theorem swN_mv (L : List Er) (a b lo hi : Nat) (h1 : lo ≤ a) (h2 : lo ≤ b) (hl : hi ≤ L.length) : ∀ n, a + n ≤ hi → b + n ≤ hi → Mv lo hi L (swN L a b n)
  | 0, _, _ => Mv.refl _ _ _
  | n + 1, ha, hb => (swN_mv L a b lo hi h1 h2 hl n (by omega) (by omega)).trans (swE_mv ⟨by omega, by omega⟩ ⟨by omega, by omega⟩ (by rw [swN_len]; exact hl))
theorem gE_swN (L : List Er) (a b : Nat) : ∀ n, a + n ≤ b → b + n ≤ L.length → ∀ x, gE (swN L a b n) x = if a ≤ x ∧ x < a + n then gE L (b + (x - a)) else if b ≤ x ∧ x < b + n then gE L (a + (x - b)) else gE L x
  | 0, _, _, x => by
    rw [if_neg (by omega), if_neg (by omega)]
    rfl
  | n + 1, ha, hb, x => by
    have ih := gE_swN L a b n (by omega) (by omega)
    show gE (swE (swN L a b n) (a + n) (b + n)) x = _
    rw [gE_swE (by rw [swN_len]; omega) (by rw [swN_len]; omega), ih, ih, ih]
    by_cases h1 : x = b + n
    · subst h1
      rw [if_pos rfl, if_neg (by omega), if_neg (by omega), if_neg (by omega), if_pos (by omega)]
      congr 1
      omega
    · rw [if_neg h1]
      by_cases h2 : x = a + n
      · subst h2
        rw [if_pos rfl, if_neg (by omega), if_neg (by omega), if_pos (by omega)]
        congr 1
        omega
      · rw [if_neg h2]
        by_cases h3 : a ≤ x ∧ x < a + n
        · rw [if_pos h3, if_pos (by omega)]
        · rw [if_neg h3, if_neg (show ¬ (a ≤ x ∧ x < a + (n + 1)) by omega)]
          by_cases h4 : b ≤ x ∧ x < b + n
          · rw [if_pos h4, if_pos (by omega)]
          · rw [if_neg h4, if_neg (by omega)]

/-- turned round at m -/
def rotF (L : List Er) (a m b x : Nat) : Er := if a ≤ x ∧ x < b then (if x < a + (b - m) then gE L (m + (x - a)) else gE L (x - (b - m))) else gE L x
theorem rotF_left {L : List Er} {m x : Nat} {i j : Nat} (hij : j < i) (hj : 0 < j) (hi : i ≤ m) (hl : m + j ≤ L.length) : rotF (swN L (m - i) m j) (m - (i - j)) m (m + j) x = rotF L (m - i) m (m + j) x := by
  have h := gE_swN L (m - i) m j (by omega) hl
  unfold rotF
  by_cases h1 : m - i ≤ x ∧ x < m + j
  · rw [if_pos h1]
    by_cases h2 : x < m - i + j
    · rw [if_neg (by omega), if_pos (by omega), h, if_pos (by omega)]
    · rw [if_pos (show m - (i - j) ≤ x ∧ x < m + j by omega), if_neg (show ¬ x < m - i + (m + j - m) by omega)]
      by_cases h3 : x < m - (i - j) + (m + j - m)
      · rw [if_pos h3, h, if_neg (by omega), if_pos (by omega)]
        congr 1
        omega
      · rw [if_neg h3, h, if_neg (by omega), if_neg (by omega)]
  · rw [if_neg h1, if_neg (by omega), h, if_neg (by omega), if_neg (by omega)]
theorem rotF_right {L : List Er} {m x : Nat} {i j : Nat} (hij : i < j) (hi0 : 0 < i) (hi : i ≤ m) (hl : m + j ≤ L.length) : rotF (swN L (m - i) (m + j - i) i) (m - i) m (m + (j - i)) x = rotF L (m - i) m (m + j) x := by
  have h := gE_swN L (m - i) (m + j - i) i (by omega) (by omega)
  unfold rotF
  by_cases h1 : m - i ≤ x ∧ x < m + j
  · rw [if_pos h1]
    by_cases h2 : x < m + (j - i)
    · rw [if_pos (by omega)]
      by_cases h3 : x < m - i + (m + (j - i) - m)
      · rw [if_pos h3, if_pos (by omega), h, if_neg (by omega), if_neg (by omega)]
      · rw [if_neg h3, h, if_pos (by omega), if_pos (show x < m - i + (m + j - m) by omega)]
        congr 1
        omega
    · rw [if_neg (by omega), if_neg (by omega), h, if_neg (by omega), if_pos (by omega)]
      congr 1
      omega
  · rw [if_neg h1, if_neg (by omega), h, if_neg (by omega), if_neg (by omega)]
theorem rotF_same {L : List Er} {m x : Nat} {i : Nat} (hi : i ≤ m) (hl : m + i ≤ L.length) : gE (swN L (m - i) m i) x = rotF L (m - i) m (m + i) x := by
  rw [gE_swN L (m - i) m i (by omega) hl]
  unfold rotF
  by_cases h1 : m - i ≤ x ∧ x < m + i
  · rw [if_pos h1]
    by_cases h2 : x < m
    · rw [if_pos (by omega), if_pos (by omega)]
    · rw [if_neg (by omega), if_pos (by omega), if_neg (by omega)]
      congr 1
      omega
  · rw [if_neg h1, if_neg (by omega), if_neg (by omega)]
theorem rotF_none1 {L : List Er} {m b x : Nat} : rotF L m m b x = gE L x := by
  unfold rotF
  split
  · rw [if_pos (by omega)]
    congr 1
    omega
  · rfl
theorem rotF_none2 {L : List Er} {a m x : Nat} : rotF L a m m x = gE L x := by
  unfold rotF
  split
  · rw [if_neg (by omega)]
    congr 1
    omega
  · rfl

section
variable {L L1 L2 L3 : List Er} {a m b s : Nat}
/-- where the stretches are cut so that both halves may be merged by themselves -/
structure Cut (L : List Er) (a m b s : Nat) : Prop where
  lo : a ≤ s ∧ (a + b) / 2 + m - b ≤ s
  hi : s ≤ m ∧ s ≤ (a + b) / 2
  left : s = a ∨ s = (a + b) / 2 + m - b ∨ (gE L (s - 1)).T ≤ (gE L ((a + b) / 2 + m - s)).T
  right : s = m ∨ s = (a + b) / 2 ∨ (gE L ((a + b) / 2 + m - 1 - s)).T < (gE L s).T
theorem mg_split (hab : a < m ∧ m < b) (h1 : SortR L a m) (h2 : SortR L m b) (hc : Cut L a m b s) (hL1 : ∀ x, gE L1 x = rotF L s m ((a + b) / 2 + m - s) x) :
    SortR L1 a s ∧ SortR L1 s ((a + b) / 2) ∧ SortR L1 ((a + b) / 2) ((a + b) / 2 + m - s) ∧ SortR L1 ((a + b) / 2 + m - s) b ∧ ∀ i j, a ≤ i → i < (a + b) / 2 → (a + b) / 2 ≤ j → j < b → (gE L1 i).T ≤ (gE L1 j).T := by
  obtain ⟨md, hmd⟩ : ∃ md, (a + b) / 2 = md := ⟨_, rfl⟩
  have hm1 : a ≤ md ∧ md < b ∧ 2 * md ≤ a + b ∧ a + b ≤ 2 * md + 1 := by omega
  obtain ⟨c1, c2, c3, c4⟩ := hc
  rw [hmd] at c1 c2 c3 c4 hL1 ⊢
  obtain ⟨en, hen⟩ : ∃ en, md + m - s = en := ⟨_, rfl⟩
  rw [hen] at c3 hL1 ⊢
  have he1 : m ≤ en ∧ en ≤ b ∧ md ≤ en ∧ en + s = md + m := by omega
  have e4 : md + m - 1 - s = en - 1 := by omega
  rw [e4] at c4
  -- where each lies
  have p1 : ∀ x, a ≤ x → x < s → gE L1 x = gE L x := fun x hx hx2 => by
    rw [hL1]; unfold rotF; rw [if_neg (by omega)]
  have p2 : ∀ x, s ≤ x → x < md → gE L1 x = gE L (m + (x - s)) := fun x hx hx2 => by
    rw [hL1]; unfold rotF; rw [if_pos (by omega), if_pos (by omega)]
  have p3 : ∀ x, md ≤ x → x < en → gE L1 x = gE L (x - (en - m)) := fun x hx hx2 => by
    rw [hL1]; unfold rotF; rw [if_pos (by omega), if_neg (by omega)]
  have p4 : ∀ x, en ≤ x → x < b → gE L1 x = gE L x := fun x hx hx2 => by
    rw [hL1]; unfold rotF; rw [if_neg (by omega)]
  -- those of the first half are not above those of the second
  have k1 : ∀ i j, a ≤ i → i < s → s ≤ j → j < m → (gE L i).T ≤ (gE L j).T := fun i j q1 q2 q3 q4 => h1 i j q1 (by omega) q4
  have k2 : ∀ i j, a ≤ i → i < s → en ≤ j → j < b → (gE L i).T ≤ (gE L j).T := fun i j q1 q2 q3 q4 => by
    have hs1 : s ≠ a := by omega
    have hs2 : s ≠ md + m - b := by omega
    have h3 : (gE L (s - 1)).T ≤ (gE L en).T := by
      rcases c3 with h | h | h
      · exact absurd h hs1
      · exact absurd h hs2
      · exact h
    have h4 := h1 i (s - 1) q1 (by omega) (by omega)
    have h5 := h2 en j (by omega) q3 q4
    omega
  have k3 : ∀ i j, m ≤ i → i < en → s ≤ j → j < m → (gE L i).T ≤ (gE L j).T := fun i j q1 q2 q3 q4 => by
    have hs1 : s ≠ m := by omega
    have hs2 : s ≠ md := by omega
    have h3 : (gE L (en - 1)).T < (gE L s).T := by
      rcases c4 with h | h | h
      · exact absurd h hs1
      · exact absurd h hs2
      · exact h
    have h4 := h2 i (en - 1) q1 (by omega) (by omega)
    have h5 := h1 s j (by omega) q3 q4
    omega
  have k4 : ∀ i j, m ≤ i → i < en → en ≤ j → j < b → (gE L i).T ≤ (gE L j).T := fun i j q1 q2 q3 q4 => h2 i j q1 (by omega) q4
  refine ⟨fun i j q1 q2 q3 => ?_, fun i j q1 q2 q3 => ?_, fun i j q1 q2 q3 => ?_, fun i j q1 q2 q3 => ?_, fun i j q1 q2 q3 q4 => ?_⟩
  · rw [p1 i q1 (by omega), p1 j (by omega) q3]
    exact h1 i j q1 q2 (by omega)
  · rw [p2 i q1 (by omega), p2 j (by omega) q3]
    exact h2 _ _ (by omega) (by omega) (by omega)
  · rw [p3 i q1 (by omega), p3 j (by omega) q3]
    exact h1 _ _ (by omega) (by omega) (by omega)
  · rw [p4 i q1 (by omega), p4 j (by omega) q3]
    exact h2 i j (by omega) q2 q3
  · by_cases hi : i < s
    · rw [p1 i q1 hi]
      by_cases hj : j < en
      · rw [p3 j q3 hj]
        exact k1 _ _ q1 hi (by omega) (by omega)
      · rw [p4 j (by omega) q4]
        exact k2 _ _ q1 hi (by omega) q4
    · rw [p2 i (by omega) q2]
      by_cases hj : j < en
      · rw [p3 j q3 hj]
        exact k3 _ _ (by omega) (by omega) (by omega) (by omega)
      · rw [p4 j (by omega) q4]
        exact k4 _ _ (by omega) (by omega) (by omega) q4
/-- both halves merged -/
theorem mg_join {md : Nat} (hc : ∀ i j, a ≤ i → i < md → md ≤ j → j < b → (gE L1 i).T ≤ (gE L1 j).T) (m2 : Mv a md L1 L2) (s2 : SortR L2 a md) (m3 : Mv md b L2 L3) (s3 : SortR L3 md b) : SortR L3 a b := fun i j q1 q2 q3 => by
  by_cases hj : j < md
  · rw [m3.out i (Or.inl (by omega)), m3.out j (Or.inl hj)]
    exact s2 i j q1 q2 hj
  · by_cases hi : i < md
    · obtain ⟨i2, i3, i4, e1⟩ := m2.inn i q1 hi
      obtain ⟨j2, j3, j4, e2⟩ := m3.inn j (by omega) q3
      rw [m3.out i (Or.inl hi), e1, e2, m2.out j2 (Or.inr j3)]
      exact hc i2 j2 i3 i4 j3 j4
    · exact s3 i j (by omega) q2 q3
theorem sort_empty (h : b ≤ a + 1) : SortR L a b := fun i j q1 q2 q3 => by
  obtain rfl : i = j := by omega
  exact Nat.le_refl _
/-- halves of which one part is empty -/
theorem sort_whole (h1 : SortR L a s) (h2 : SortR L s b) (h : s = a ∨ b ≤ s) (hb : a ≤ s) : SortR L a b := by
  rcases h with rfl | h
  · exact h2
  · exact fun i j q1 q2 q3 => h1 i j q1 q2 (by omega)

/-- the first is put among the others: i of them are less -/
theorem ins_front {i : Nat} (hab : a + 1 ≤ i ∧ i ≤ b) (h2 : SortR L (a + 1) b) (hlo : ∀ x, a + 1 ≤ x → x < i → (gE L x).T < (gE L a).T) (hhi : ∀ x, i ≤ x → x < b → (gE L a).T ≤ (gE L x).T)
    (hL1 : ∀ x, gE L1 x = if a ≤ x ∧ x < i - 1 then gE L (x + 1) else if x = i - 1 then gE L a else gE L x) : SortR L1 a b := fun x y q1 q2 q3 => by
  have k := hL1
  rw [k x, k y]
  by_cases hx : a ≤ x ∧ x < i - 1
  · rw [if_pos hx]
    by_cases hy : a ≤ y ∧ y < i - 1
    · rw [if_pos hy]
      exact h2 _ _ (by omega) (by omega) (by omega)
    · rw [if_neg hy]
      by_cases hy2 : y = i - 1
      · rw [if_pos hy2]
        exact Nat.le_of_lt (hlo _ (by omega) (by omega))
      · rw [if_neg hy2]
        exact h2 _ _ (by omega) (by omega) (by omega)
  · rw [if_neg hx, if_neg (show ¬ (a ≤ y ∧ y < i - 1) by omega)]
    by_cases hx2 : x = i - 1
    · rw [if_pos hx2]
      by_cases hy2 : y = i - 1
      · rw [if_pos hy2]; exact Nat.le_refl _
      · rw [if_neg hy2]
        exact hhi _ (by omega) q3
    · rw [if_neg hx2, if_neg (by omega)]
      exact h2 _ _ (by omega) (by omega) q3
/-- the last is put among the others -/
theorem ins_back {i : Nat} (hab : a ≤ i ∧ i ≤ m) (h1 : SortR L a m) (hlo : ∀ x, a ≤ x → x < i → (gE L x).T ≤ (gE L m).T) (hhi : ∀ x, i ≤ x → x < m → (gE L m).T < (gE L x).T)
    (hL1 : ∀ x, gE L1 x = if i < x ∧ x ≤ m then gE L (x - 1) else if x = i then gE L m else gE L x) : SortR L1 a (m + 1) := fun x y q1 q2 q3 => by
  rw [hL1 x, hL1 y]
  by_cases hx : i < x ∧ x ≤ m
  · rw [if_pos hx, if_pos (show i < y ∧ y ≤ m by omega)]
    exact h1 _ _ (by omega) (by omega) (by omega)
  · rw [if_neg hx]
    by_cases hx2 : x = i
    · rw [if_pos hx2]
      by_cases hy : i < y ∧ y ≤ m
      · rw [if_pos hy]
        exact Nat.le_of_lt (hhi _ (by omega) (by omega))
      · rw [if_neg hy, if_pos (by omega)]
        exact Nat.le_refl _
    · rw [if_neg hx2]
      by_cases hy : i < y ∧ y ≤ m
      · rw [if_pos hy]
        exact h1 _ _ q1 (by omega) (by omega)
      · rw [if_neg hy]
        by_cases hy2 : y = i
        · rw [if_pos hy2]
          exact hlo _ q1 (by omega)
        · rw [if_neg hy2]
          exact h1 _ _ q1 q2 (by omega)
/-- one step to the right, one step to the left -/
theorem step_right {L L1 : List Er} {a k : Nat} (ha : a ≤ k) (hk : k + 1 < L.length) (hl : L1.length = L.length) (h : ∀ x, gE L1 x = if a ≤ x ∧ x < k then gE L (x + 1) else if x = k then gE L a else gE L x) : ∀ x, gE (swE L1 k (k + 1)) x = if a ≤ x ∧ x < k + 1 then gE L (x + 1) else if x = k + 1 then gE L a else gE L x := fun x => by
  rw [gE_swE (by omega) (by omega), h, h, h]
  by_cases h1 : x = k + 1
  · subst h1
    rw [if_pos rfl, if_neg (by omega), if_pos rfl, if_neg (by omega), if_pos rfl]
  · rw [if_neg h1]
    by_cases h2 : x = k
    · subst h2
      rw [if_pos rfl, if_neg (by omega), if_neg (by omega), if_pos (by omega)]
    · rw [if_neg h2]
      by_cases h3 : a ≤ x ∧ x < k
      · rw [if_pos h3, if_pos (by omega)]
      · rw [if_neg h3, if_neg h2, if_neg (by omega), if_neg h1]
theorem step_left {L L1 : List Er} {m k : Nat} (hk0 : 0 < k) (hk : k ≤ m) (hm : m < L.length) (hl : L1.length = L.length) (h : ∀ x, gE L1 x = if k < x ∧ x ≤ m then gE L (x - 1) else if x = k then gE L m else gE L x) : ∀ x, gE (swE L1 k (k - 1)) x = if k - 1 < x ∧ x ≤ m then gE L (x - 1) else if x = k - 1 then gE L m else gE L x := fun x => by
  rw [gE_swE (by omega) (by omega), h, h, h]
  by_cases h1 : x = k - 1
  · subst h1
    rw [if_pos rfl, if_neg (by omega), if_pos rfl, if_neg (by omega), if_pos rfl]
  · rw [if_neg h1]
    by_cases h2 : x = k
    · subst h2
      rw [if_pos rfl, if_neg (by omega), if_neg (by omega), if_pos (by omega)]
    · rw [if_neg h2]
      by_cases h3 : k < x ∧ x ≤ m
      · rw [if_pos h3, if_pos (by omega)]
      · rw [if_neg h3, if_neg h2, if_neg (by omega), if_neg h1]
end
end Go.Proofs.YtigegdelhpdlhaaGreatDoor
