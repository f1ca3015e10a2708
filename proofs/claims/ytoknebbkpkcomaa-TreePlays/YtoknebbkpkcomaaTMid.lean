/- The program's tree and the document's side by side, within a call whose objects are older. -/
import Derived.Test.YtoknebbkpkcomaaTRefJ
import Derived.Test.YtoknebbkpkcomaaTScanB
import Derived.Test.YtoknebbkpkcomaaTBook
namespace Go.Proofs.Ytoknebbkpkcomaa
open Go.RowKit

/-- within a call: from w to wr the objects of F became I, and the blocks L are the call's own -/
def MidS (I : World → (Nat → Prop) → Prop) (w wr : World) (F : Nat → Prop) (L : List (Nat × Obj)) : Prop :=
  ∃ F', I wr F' ∧ Turn F w wr ∧ (∀ i, F' i → F i ∨ w.heap.size ≤ i) ∧ ∀ p ∈ L, ¬ F' p.1 ∧ wr.heap[p.1]? = some p.2 ∧ w.heap.size ≤ p.1
section
variable {I J : World → (Nat → Prop) → Prop} {w wr w' : World} {F : Nat → Prop} {L : List (Nat × Obj)}
theorem MidS.start (h : I w F) : MidS I w w F [] := ⟨F, h, Turn.refl _ _, fun _ hi => Or.inl hi, fun _ h => by cases h⟩
theorem MidS.goes (h : MidS I w wr F L) : Goes I w wr F := by
  obtain ⟨F', h1, h2, h3, _⟩ := h
  exact ⟨F', h1, h2, h3⟩
theorem MidS.at (h : MidS I w wr F L) {b : Nat} {o : Obj} (hb : (b, o) ∈ L) : wr.heap[b]? = some o := by
  obtain ⟨_, _, _, _, h⟩ := h
  exact (h _ hb).2.1
theorem MidS.heaps (h : MidS I w wr F L) : ∀ p ∈ L, wr.heap[p.1]? = some p.2 := fun _ hp => h.at hp
theorem MidS.drop (h : MidS I w wr F L) {L' : List (Nat × Obj)} (hL : ∀ p ∈ L', p ∈ L) : MidS I w wr F L' := by
  obtain ⟨F', h1, h2, h3, h4⟩ := h
  exact ⟨F', h1, h2, h3, fun p hp => h4 p (hL p hp)⟩
theorem MidS.call (h : MidS I w wr F L) : ∃ A, I wr A ∧ ∀ w' I', Goes I' wr w' A → MidS I' w w' F L := by
  obtain ⟨F', h1, h2, h3, h4⟩ := h
  refine ⟨F', h1, fun w' I' hg => ?_⟩
  obtain ⟨F'', k1, k2, k3⟩ := hg
  refine ⟨F'', k1, h2.transNew k2 h3, fun i hi => ?_, fun p hp => ?_⟩
  · rcases k3 i hi with h | h
    · exact h3 i h
    · exact Or.inr (Nat.le_trans h2.size h)
  · obtain ⟨x1, x2, x3⟩ := h4 p hp
    refine ⟨fun hF => ?_, (k2.block p.1 (lt_of x2) x1).trans x2, x3⟩
    rcases k3 _ hF with h | h
    · exact x1 h
    · have := lt_of x2; omega
theorem MidS.stay (R : Res I) (h : MidS I w wr F L) (hb : Below wr.heap.size wr w') : MidS I w w' F L := by
  obtain ⟨A, h1, h2⟩ := h.call
  exact h2 w' I (Goes.thenStay R (Goes.stay h1) hb)
/-- and new blocks -/
theorem MidS.more (R : Res I) (h : MidS I w wr F L) (hb : Below wr.heap.size wr w') {L' : List (Nat × Obj)} (hL : ∀ p ∈ L', w'.heap[p.1]? = some p.2 ∧ wr.heap.size ≤ p.1) : MidS I w w' F (L' ++ L) := by
  obtain ⟨F', h1, h2, h3, h4⟩ := h
  refine ⟨F', R.kept (S := fun _ => False) h1 (Turn.ofBelow _ hb) (fun _ _ h => h), h2.trans (Turn.ofBelow _ hb), h3, fun p hp => ?_⟩
  rcases List.mem_append.1 hp with hp | hp
  · refine ⟨fun hF => ?_, (hL p hp).1, Nat.le_trans h2.size (hL p hp).2⟩
    have := R.lt h1 _ hF
    have := (hL p hp).2
    omega
  · obtain ⟨x1, x2, x3⟩ := h4 p hp
    exact ⟨x1, (hb.block p.1 (lt_of x2)).trans x2, x3⟩
theorem MidS.alloc (R : Res I) (h : MidS I w wr F L) (o : Obj) : MidS I w (wr.alloc o) F ((wr.heap.size, o) :: L) :=
  h.more R ((Below.refl _ _).alloc (Nat.le_refl _) _) (L' := [(wr.heap.size, o)]) (fun p hp => by rw [List.mem_singleton.1 hp]; exact ⟨heap_new wr o, Nat.le_refl _⟩)
/-- a block of the call's own is written -/
theorem MidS.write (R : Res I) (h : MidS I w wr F L) {b : Nat} {o o' : Obj} (hb : (b, o) ∈ L) (ht : Turn (fun i => i = b) wr w') (L' : List (Nat × Obj)) (hL : ∀ p ∈ L', (p ∈ L ∧ p.1 ≠ b) ∨ (p = (b, o') ∧ w'.heap[b]? = some o')) : MidS I w w' F L' := by
  obtain ⟨F', h1, h2, h3, h4⟩ := h
  obtain ⟨b1, b2, b3⟩ := h4 _ hb
  refine ⟨F', R.kept h1 ht (fun j hj e => b1 (by rw [e] at hj; exact hj)), h2.transNew ht (fun i hi => Or.inr (by rw [hi]; exact b3)), h3, fun p hp => ?_⟩
  rcases hL p hp with ⟨hp, hn⟩ | ⟨rfl, ho⟩
  · obtain ⟨x1, x2, x3⟩ := h4 p hp
    exact ⟨x1, (ht.block p.1 (lt_of x2) hn).trans x2, x3⟩
  · exact ⟨b1, ho, b3⟩
theorem MidS.left (hJ : Res J) (h : MidS (Sep I J) w wr F L) : ∃ A, I wr A ∧ ∀ w' I', Goes I' wr w' A → MidS (Sep I' J) w w' F L := by
  obtain ⟨B, h1, h2⟩ := h.call
  obtain ⟨A, B', k1, k2, k3, k4, k5, k6⟩ := id h1
  refine ⟨A, k1, fun w' I' hg => h2 w' _ ?_⟩
  obtain ⟨A', g1, g2, g3⟩ := hg
  refine ⟨fun i => A' i ∨ B' i, ⟨A', B', g1, hJ.kept k2 g2 (fun i hi hA => k3 i hA hi), fun i hi hB => ?_, fun _ hi => Or.inl hi, fun _ hi => Or.inr hi, fun _ hi => hi⟩, g2.mono k4, fun i hi => ?_⟩
  · rcases g3 i hi with h | h
    · exact k3 i h hB
    · have := hJ.lt k2 i hB; omega
  · rcases hi with hi | hi
    · rcases g3 i hi with h | h
      · exact Or.inl (k4 i h)
      · exact Or.inr h
    · exact Or.inl (k5 i hi)
theorem MidS.swap (h : MidS (Sep I J) w wr F L) : MidS (Sep J I) w wr F L := by
  obtain ⟨F', h1, h2⟩ := h
  exact ⟨F', h1.swap, h2⟩
theorem MidS.right (hI : Res I) (h : MidS (Sep I J) w wr F L) : ∃ A, J wr A ∧ ∀ w' J', Goes J' wr w' A → MidS (Sep I J') w w' F L := by
  obtain ⟨A, h1, h2⟩ := MidS.left hI h.swap
  exact ⟨A, h1, fun w' J' hg => (h2 w' J' hg).swap⟩
end

abbrev MidU (t : Nat) (T : Tr) (a r : Nat) (K : List Kv) (w wr : World) (F : Nat → Prop) (L : List (Nat × Obj)) : Prop := MidS (Sep (TreeI t T a) (UI r K)) w wr F L
theorem midU_res (t : Nat) (T : Tr) (a r : Nat) (K : List Kv) : Res (Sep (TreeI t T a) (UI r K)) := Sep.res (treeI_res t T a) (ui_res r K)

/-- a row that was told, and its block -/
def RowB (L : List (Nat × Obj)) (v : Value) (n : Nat) (e : TypeId) : Prop := (v = .slice none 0 0 ∧ n = 0) ∨ ∃ b cap cur, v = .slice (some ⟨b, 0, none⟩) n cap ∧ (b, Obj.cells cur e (0, 0)) ∈ L ∧ cur.size = cap ∧ n ≤ cap ∧ cap ≤ maxLen
theorem ownsRow_rowB {u : World} {base n : Nat} {e : TypeId} {v : Value} {xs : List Value} (h : u.ownsRow base e 1 v n xs) : ∃ L', (∀ p ∈ L', u.heap[p.1]? = some p.2 ∧ base ≤ p.1) ∧ RowB L' v n e ∧ ∀ z : World, (∀ p ∈ L', z.heap[p.1]? = some p.2) → z.ownsRow 0 e 1 v n xs := by
  rcases h.2 with k | ⟨g, cap, cur, h1, h2, h3, h4, h5, h6, h7⟩
  · exact ⟨[], (fun _ h => by cases h), Or.inl k, fun z _ => ⟨h.1, Or.inl k⟩⟩
  · refine ⟨[(g, .cells cur e (0, 0))], fun p hp => by rw [List.mem_singleton.1 hp]; exact ⟨h3, h2⟩, Or.inr ⟨g, cap, cur, h1, List.mem_singleton.2 rfl, by omega, h4, h5⟩, fun z hz => ⟨h.1, Or.inr ⟨g, cap, cur, h1, Nat.zero_le _, hz _ (List.mem_singleton.2 rfl), h4, h5, h6, h7⟩⟩⟩

section
variable {t a r : Nat} {T : Tr} {K K' : List Kv} {w wr : World} {F : Nat → Prop} {L : List (Nat × Obj)} {k : ByteArray}
theorem MidU.okT (h : MidU t T a r K w wr F L) : T.Ok a := by obtain ⟨A, h1, _⟩ := MidS.left (ui_res _ _) h; exact h1.ok
theorem MidU.mono (h : MidU t T a r K w wr F L) : MidU t T (a + 2) r K w wr F L := by
  obtain ⟨F', ⟨A, B, h1, h2, h3⟩, h4⟩ := h
  refine ⟨F', ⟨A, B, ?_, h2, h3⟩, h4⟩
  obtain ⟨b, m, c, g1, g2, g3⟩ := h1
  exact ⟨b, m, c, g1, g2.mono (by omega), g3⟩

theorem MidU.putT {v was e : Int} {there : Bool} (h : MidU t T a r K w wr F L) (hp : PutK T.ks k v K' was there e) (hv : Num v) (ha : a ≤ 50000) :
    Calls Try.prog 17 #[.pointer (some ⟨t, 0, none⟩), .string k, .int .i64 v] wr fun x w' => x = .returned (.tuple #[.int .i64 was, .bool there, .int .i64 e]) ∧ ∃ T', Hid (T'.ks = K' ∧ MidU t T' (a + 2) r K w w' F L) := by
  obtain ⟨A, h1, h2⟩ := MidS.left (ui_res _ _) h
  exact (tput_to hp h1 hv ha).mono fun x w' ⟨e1, T', e2, _, e4⟩ => ⟨e1, T', e2, h2 w' _ e4⟩
theorem MidU.putU {v was e : Int} {there : Bool} (h : MidU t T a r K w wr F L) (hp : PutK K k v K' was there e) :
    Calls Try.prog 25 #[.pointer (some ⟨r, 0, none⟩), .string k, .int .i64 v] wr fun x w' => x = .returned (.tuple #[.int .i64 was, .bool there, .int .i64 e]) ∧ Hid (MidU t T a r K' w w' F L) := by
  obtain ⟨A, h1, h2⟩ := MidS.right (treeI_res _ _ _) h
  exact (uput_to hp h1).mono fun x w' ⟨e1, e4⟩ => ⟨e1, h2 w' _ e4⟩
theorem MidU.takeT {was e : Int} (h : MidU t T a r K w wr F L) (hp : TakeK T.ks k K' was e) (ha : a ≤ 50000) :
    Calls Try.prog 19 #[.pointer (some ⟨t, 0, none⟩), .string k] wr fun x w' => x = .returned (.tuple #[.int .i64 was, .int .i64 e]) ∧ ∃ T', Hid (T'.ks = K' ∧ MidU t T' (a + 2) r K w w' F L) := by
  obtain ⟨A, h1, h2⟩ := MidS.left (ui_res _ _) h
  exact (ttake_to hp h1 ha).mono fun x w' ⟨e1, T', e2, _, e4⟩ => ⟨e1, T', e2, h2 w' _ e4⟩
theorem MidU.takeU {was e : Int} (h : MidU t T a r K w wr F L) (hp : TakeK K k K' was e) :
    Calls Try.prog 27 #[.pointer (some ⟨r, 0, none⟩), .string k] wr fun x w' => x = .returned (.tuple #[.int .i64 was, .int .i64 e]) ∧ Hid (MidU t T a r K' w w' F L) := by
  obtain ⟨A, h1, h2⟩ := MidS.right (treeI_res _ _ _) h
  exact (utake_to hp h1).mono fun x w' ⟨e1, e4⟩ => ⟨e1, h2 w' _ e4⟩
theorem MidU.getT {v : Int} {b : Bool} (h : MidU t T a r K w wr F L) (hp : GetK T.ks k v b) :
    Calls Try.prog 22 #[.pointer (some ⟨t, 0, none⟩), .string k] wr fun x w' => ∃ sb l, x = .returned (.tuple #[.int .i64 v, .bool b, .slice (some ⟨sb, 0, none⟩) 1 1]) ∧ Hid (l ∈ T.ls) ∧ Hid (MidU t T a r K w w' F ((sb, snO (sn l)) :: L)) := by
  obtain ⟨A, h1, _⟩ := MidS.left (ui_res _ _) h
  exact (tget_to hp h1).mono fun x w' ⟨sb, l, e1, e2, e3, e4, e5, _⟩ => ⟨sb, l, e1, e5, MidS.more (midU_res _ _ _ _ _) h e4 (L' := [(sb, snO (sn l))]) (fun p hp => by rw [List.mem_singleton.1 hp]; exact ⟨e2, e3⟩)⟩
theorem MidU.getU {v : Int} {b : Bool} (h : MidU t T a r K w wr F L) (hp : GetK K k v b) :
    Calls Try.prog 26 #[.pointer (some ⟨r, 0, none⟩), .string k] wr fun x w' => x = .returned (.tuple #[.int .i64 v, .bool b]) ∧ Hid (MidU t T a r K w w' F L) := by
  obtain ⟨A, h1, _⟩ := MidS.right (treeI_res _ _ _) h
  exact (uget_to hp h1).mono fun x w' ⟨e1, e2⟩ => ⟨e1, MidS.stay (midU_res _ _ _ _ _) h e2⟩
theorem MidU.valid (h : MidU t T a r K w wr F L) {v : Value} {seen : List Sn} (hv : SliceAt wr v 3 enSn seen) (hs : ∀ s ∈ seen, ∃ l ∈ T.ls, sn l = s) (hn : seen.length ≤ 10000) (ha : a ≤ 50000) :
    Calls Try.prog 21 #[.pointer (some ⟨t, 0, none⟩), v] wr fun e w' => e = .returned (.bool true) ∧ Hid (MidU t T a r K w w' F L) := by
  obtain ⟨A, h1, _⟩ := MidS.left (ui_res _ _) h
  have := tvalid_any h1 hv (fun s hs' => by obtain ⟨l, hl, rfl⟩ := hs s hs'; exact sn_small h1.ok ha hl) hn
  rw [valid_now hs] at this
  exact this.mono fun e w' ⟨e1, e2⟩ => ⟨e1, MidS.stay (midU_res _ _ _ _ _) h e2⟩
theorem slice_seen {u : World} {sb : Nat} {s : Sn} (h : u.heap[sb]? = some (snO s)) : SliceAt u (.slice (some ⟨sb, 0, none⟩) 1 1) 3 enSn [s] := by
  refine ⟨_, 1, rfl, Nat.le_refl _, by unfold maxLen; omega, fun _ => ⟨sb, 0, rfl, lt_of h, fun i hi j x hx => ?_⟩⟩
  obtain rfl : i = 0 := by simp at hi; exact hi
  have hj : j < 3 := (List.getElem?_eq_some_iff.1 hx).1
  rw [cell_of h]
  rcases (by omega : j = 0 ∨ j = 1 ∨ j = 2) with rfl | rfl | rfl <;> exact hx

/-- what a scan told, in blocks of its own: keys, values, what was seen -/
structure ToldT (L : List (Nat × Obj)) (vk vv vs : Value) (told : List Kv) (seen : List Sn) : Prop where
  bk : RowB L vk told.length 9
  bv : RowB L vv told.length 3
  ne : ∀ g, vk.ownBlock = some g → vv.ownBlock ≠ some g
  rows : ∀ u : World, (∀ p ∈ L, u.heap[p.1]? = some p.2) → SliceAt u vk 1 enS (keysOf told) ∧ SliceAt u vv 1 enI (valsOf told) ∧ SliceAt u vs 3 enSn seen
theorem RowB.mono {L L' : List (Nat × Obj)} {v : Value} {n : Nat} {e : TypeId} (h : RowB L v n e) (hL : ∀ p ∈ L, p ∈ L') : RowB L' v n e := by
  rcases h with h | ⟨b, cap, cur, h1, h2, h3⟩
  · exact Or.inl h
  · exact Or.inr ⟨b, cap, cur, h1, hL _ h2, h3⟩

theorem MidU.scanT {f to : ByteArray} {most : Nat} {mm : Int} (hm : mm = (most : Int)) (h : MidU t T a r K w wr F L) (h1 : 1 ≤ most) (h2 : most ≤ 4096) :
    Calls Try.prog 12 #[.pointer (some ⟨t, 0, none⟩), .string f, .string to, .int .i64 mm] wr fun x w' => ∃ vk vv vs told seen L', x = .returned (.tuple #[vk, vv, vs, .int .i64 0]) ∧ Hid (Scanned T.ls f to most told seen) ∧ Hid (ToldT L' vk vv vs told seen) ∧ Hid (MidU t T a r K w w' F (L' ++ L)) := by
  subst hm
  obtain ⟨A, g1, _⟩ := MidS.left (ui_res _ _) h
  refine (tscan_any g1 h1 h2).mono fun x w' ⟨told, seen, vk, vv, vs, e1, e2, r1, r2, r3, d1, _, e5⟩ => ?_
  obtain ⟨L1, p1, b1, q1⟩ := ownsRow_rowB r1
  obtain ⟨L2, p2, b2, q2⟩ := ownsRow_rowB r2
  obtain ⟨L3, p3, q3⟩ := ownsRow_rows r3
  refine ⟨vk, vv, vs, told, seen, L1 ++ (L2 ++ L3), e1, e2, ⟨b1.mono (fun p hp => by simp [hp]), b2.mono (fun p hp => by simp [hp]), fun g hg => (d1 g hg).1, fun u hu => ⟨?_, ?_, ?_⟩⟩, MidS.more (midU_res _ _ _ _ _) h e5 fun p hp => ?_⟩
  · exact row_strs (keysOf_length told).symm (q1 u (fun p hp => hu p (by simp [hp])))
  · exact row_ints (valsOf_length told).symm (q2 u (fun p hp => hu p (by simp [hp])))
  · exact sliceAt_row (en := enSn) (m := 3) (fun _ => rfl) (q3 u (fun p hp => hu p (by simp [hp])))
  · rcases List.mem_append.1 hp with hp | hp
    · exact p1 p hp
    · rcases List.mem_append.1 hp with hp | hp
      · exact p2 p hp
      · exact ⟨(p3 p hp).1, (p3 p hp).2.1⟩
theorem MidU.scanU {f to : ByteArray} {most : Nat} {mm : Int} (hm : mm = (most : Int)) (h : MidU t T a r K w wr F L) (h1 : 1 ≤ most) (h2 : most ≤ 4096) :
    Calls Try.prog 28 #[.pointer (some ⟨r, 0, none⟩), .string f, .string to, .int .i64 mm] wr fun x w' => ∃ vk vv L', x = .returned (.tuple #[vk, vv, .int .i64 0]) ∧ Hid (∀ u : World, (∀ p ∈ L', u.heap[p.1]? = some p.2) → SliceAt u vk 1 enS (keysOf ((scanK f to K).take most)) ∧ SliceAt u vv 1 enI (valsOf ((scanK f to K).take most))) ∧ Hid (MidU t T a r K w w' F (L' ++ L)) := by
  subst hm
  obtain ⟨A, g1, _⟩ := MidS.right (treeI_res _ _ _) h
  refine (uscan_any g1 h1 h2).mono fun x w' ⟨vk, vv, e1, e2⟩ => ?_
  obtain ⟨L1, p1, _, q1⟩ := ownsRow_rowB e2.rk
  obtain ⟨L2, p2, _, q2⟩ := ownsRow_rowB e2.rv
  refine ⟨vk, vv, L1 ++ L2, e1, fun u hu => ⟨?_, ?_⟩, MidS.more (midU_res _ _ _ _ _) h e2.bel fun p hp => ?_⟩
  · exact row_strs (by rw [scells_length]) (q1 u (fun p hp => hu p (by simp [hp])))
  · exact row_ints (by rw [icells_length]) (q2 u (fun p hp => hu p (by simp [hp])))
  · rcases List.mem_append.1 hp with hp | hp
    · exact p1 p hp
    · exact p2 p hp
end

end Go.Proofs.Ytoknebbkpkcomaa
