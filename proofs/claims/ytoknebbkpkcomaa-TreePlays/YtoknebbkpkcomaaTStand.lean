/- A tree beside blocks of the law's own. -/
import Derived.Test.YtoknebbkpkcomaaTScan
import Derived.Test.YtoknebbkpkcomaaTTake
import Derived.Test.YtoknebbkpkcomaaTValid
import Derived.Test.YtoknebbkpkcomaaTNew
import Derived.Test.YtoknebbkpkcomaaNTexts
import Derived.Test.YtoknebbkpkcomaaNStand
namespace Go.Proofs.Ytoknebbkpkcomaa
open Go.RowKit

theorem sliceAt_row {α : Type} {w : World} {base m : Nat} {e : TypeId} {v : Value} {en : α → List Value} (hm : ∀ g, (en g).length = m) {L : List α} (h : w.ownsRow base e m v L.length (flat en L)) : SliceAt w v m en L := by
  rcases h.2 with ⟨h1, h2⟩ | ⟨g, cap, cur, h1, _, h3, h4, h5, h6, h7⟩
  · exact ⟨none, 0, by rw [h1, h2], by omega, by unfold maxLen; omega, fun hne => absurd (List.length_eq_zero_iff.1 h2) hne⟩
  · refine ⟨_, cap, h1, h4, h5, fun _ => ⟨g, 0, rfl, lt_of h3, fun i hi j u hu => ?_⟩⟩
    have hj : j < m := by rw [← hm L[i]]; exact (List.getElem?_eq_some_iff.1 hu).1
    have hf := flat_get hm L i hi j hj
    have hlt : m * i + j < L.length * m := by
      have : m * (i + 1) ≤ m * L.length := Nat.mul_le_mul_left m hi
      rw [Nat.mul_add, Nat.mul_one] at this
      rw [Nat.mul_comm L.length m]
      omega
    rw [cell_of h3, ← Array.getElem?_toList, show 0 + i * m + j = m * i + j by rw [Nat.mul_comm]; omega, ← hu, ← hf, ← h7, List.getElem?_take, if_pos hlt]
def enI (x : Int) : List Value := [.int .i64 x]
theorem scells_flat (K : List ByteArray) : flat enS K = scells K := by
  induction K with
  | nil => rfl
  | cons k K ih => rw [flat_cons, ih]; rfl
theorem icells_flat (K : List Int) : flat enI K = icells K := by
  induction K with
  | nil => rfl
  | cons k K ih => rw [flat_cons, ih]; rfl

/-- rows of one's own, by the blocks that they lie in -/
theorem ownsRow_rows {w : World} {base size n : Nat} {e : TypeId} {v : Value} {xs : List Value} (h : w.ownsRow base e size v n xs) :
    ∃ L' : List (Nat × Obj), (∀ p ∈ L', w.heap[p.1]? = some p.2 ∧ base ≤ p.1 ∧ v.ownBlock = some p.1) ∧ ∀ u : World, (∀ p ∈ L', u.heap[p.1]? = some p.2) → u.ownsRow 0 e size v n xs := by
  rcases h.2 with k | ⟨g, cap, cur, h1, h2, h3, h4⟩
  · exact ⟨[], (fun _ h => by cases h), fun u _ => ⟨h.1, Or.inl k⟩⟩
  · exact ⟨[(g, .cells cur e (0, 0))], fun p hp => by rw [List.mem_singleton.1 hp]; exact ⟨h3, h2, by rw [h1]; rfl⟩, fun u hu => ⟨h.1, Or.inr ⟨g, cap, cur, h1, Nat.zero_le _, hu _ (List.mem_singleton.2 rfl), h4⟩⟩⟩

def Rows (L : List (Nat × Obj)) (vk vv vs : Value) (told : List Kv) (seen : List Sn) : Prop :=
  ∀ u : World, (∀ p ∈ L, u.heap[p.1]? = some p.2) → SliceAt u vk 1 enS (keysOf told) ∧ SliceAt u vv 1 enI (valsOf told) ∧ SliceAt u vs 3 enSn seen

abbrev HasT (t : Nat) (T : Tr) (a : Nat) (w wr : World) (L : List (Nat × Obj)) : Prop := Stand (TreeI t T a) w wr L

section
variable {t a : Nat} {T : Tr} {w wr w' : World} {L : List (Nat × Obj)} {k : ByteArray}

theorem Stand.more {I : World → (Nat → Prop) → Prop} (R : Res I) (h : Stand I w wr L) (hb : Below wr.heap.size wr w') {L' : List (Nat × Obj)} (hL : ∀ p ∈ L', w'.heap[p.1]? = some p.2 ∧ wr.heap.size ≤ p.1) : Stand I w w' (L' ++ L) := by
  obtain ⟨F, h1, h2, h3, h4, h5⟩ := h
  refine ⟨F, R.kept (S := fun _ => False) h1 (Turn.ofBelow _ hb) (fun _ _ h => h), h2, fun p hp hF => ?_, fun p hp => ?_, h5.trans (hb.mono h5.size)⟩
  · rcases List.mem_append.1 hp with hp | hp
    · have := R.lt h1 _ hF
      have := (hL p hp).2
      omega
    · exact h3 p hp hF
  · rcases List.mem_append.1 hp with hp | hp
    · exact ⟨(hL p hp).1, Nat.le_trans h5.size (hL p hp).2⟩
    · exact ⟨(hb.block p.1 (lt_of (h4 p hp).1)).trans (h4 p hp).1, (h4 p hp).2⟩
theorem Stand.heaps {I : World → (Nat → Prop) → Prop} (h : Stand I w wr L) : ∀ p ∈ L, wr.heap[p.1]? = some p.2 := fun _ hp => h.at hp

theorem Stand.callA {I : World → (Nat → Prop) → Prop} (h : Stand I w wr L) : ∃ F, I wr F ∧ ∀ I' w', Goes I' wr w' F → Stand I' w w' L := by
  obtain ⟨F, h1, h2, h3, h4, h5⟩ := h
  refine ⟨F, h1, fun I' w' hg => ?_⟩
  obtain ⟨F', g1, g2, g3⟩ := hg
  refine ⟨F', g1, fun i hi => ?_, fun p hp hF => ?_, fun p hp => ⟨(g2.block p.1 (lt_of (h4 p hp).1) (h3 p hp)).trans (h4 p hp).1, (h4 p hp).2⟩, h5.trans ((g2.mono h2).toBelow h5.size)⟩
  · rcases g3 i hi with h | h
    · exact h2 i h
    · exact Nat.le_trans h5.size h
  · rcases g3 _ hF with h | h
    · exact h3 p hp h
    · have := lt_of (h4 p hp).1; omega

theorem HasT.ok (h : HasT t T a w wr L) : T.Ok a := by obtain ⟨F, h1, _⟩ := h; exact h1.ok
theorem HasT.tree (h : HasT t T a w wr L) : ∃ F, TreeI t T a wr F := by obtain ⟨F, h1, _⟩ := h; exact ⟨F, h1⟩

theorem hast_new {w w1 : World} (hb : Below w.heap.size w w1) : Calls Try.prog 9 #[] w1 fun e w' => ∃ t T, e = .returned (.pointer (some ⟨t, 0, none⟩)) ∧ Hid (T.ks = [] ∧ HasT t T 0 w w' []) :=
  (tnew_any w1).mono fun _ _ ⟨t, q, g, _, h1, h2⟩ => ⟨t, Tr.new q g, h1, rfl, Stand.start h2.out.1 (fun i hi => Nat.le_trans hb.size (h2.out.2.1 i hi)) (hb.trans (h2.out.2.2.mono hb.size))⟩

theorem HasT.put {v was e : Int} {there : Bool} {K' : List Kv} (h : HasT t T a w wr L) (hp : PutK T.ks k v K' was there e) (hv : Num v) (ha : a ≤ 50000) :
    Calls Try.prog 17 #[.pointer (some ⟨t, 0, none⟩), .string k, .int .i64 v] wr fun x w' => x = .returned (.tuple #[.int .i64 was, .bool there, .int .i64 e]) ∧ ∃ T', Hid (T'.ks = K' ∧ Moves T T' ∧ HasT t T' (a + 2) w w' L) := by
  obtain ⟨F, h1, h2⟩ := Stand.callA h
  exact (tput_to hp h1 hv ha).mono fun x w' ⟨e1, T', e2, e3, e4⟩ => ⟨e1, T', e2, e3, h2 _ w' e4⟩
theorem HasT.take {was e : Int} {K' : List Kv} (h : HasT t T a w wr L) (hp : TakeK T.ks k K' was e) (ha : a ≤ 50000) :
    Calls Try.prog 19 #[.pointer (some ⟨t, 0, none⟩), .string k] wr fun x w' => x = .returned (.tuple #[.int .i64 was, .int .i64 e]) ∧ ∃ T', Hid (T'.ks = K' ∧ Moves T T' ∧ HasT t T' (a + 2) w w' L) := by
  obtain ⟨F, h1, h2⟩ := Stand.callA h
  exact (ttake_to hp h1 ha).mono fun x w' ⟨e1, T', e2, e3, e4⟩ => ⟨e1, T', e2, e3, h2 _ w' e4⟩
theorem HasT.len (h : HasT t T a w wr L) : Calls Try.prog 11 #[.pointer (some ⟨t, 0, none⟩)] wr fun x w' => x = .returned (.int .i64 (T.ks.length : Int)) ∧ w' = wr := by
  obtain ⟨F, b, m, c, h1, _⟩ := h.tree
  exact len_any h1
theorem HasT.valid (h : HasT t T a w wr L) {v : Value} {seen : List Sn} (hv : SliceAt wr v 3 enSn seen) (hs : ∀ s ∈ seen, 0 ≤ s.1 ∧ s.1 < 1000000) (hn : seen.length ≤ 10000) :
    Calls Try.prog 21 #[.pointer (some ⟨t, 0, none⟩), v] wr fun e w' => e = .returned (.bool (validB T.ls seen)) ∧ Hid (HasT t T a w w' L) := by
  obtain ⟨F, h1⟩ := h.tree
  exact (tvalid_any h1 hv hs hn).mono fun e w' ⟨e1, e2⟩ => ⟨e1, h.below (treeI_res _ _ _) e2⟩
theorem HasT.get {v : Int} {b : Bool} (h : HasT t T a w wr L) (hp : GetK T.ks k v b) :
    Calls Try.prog 22 #[.pointer (some ⟨t, 0, none⟩), .string k] wr fun x w' => ∃ sb l, x = .returned (.tuple #[.int .i64 v, .bool b, .slice (some ⟨sb, 0, none⟩) 1 1]) ∧ Hid (l ∈ T.ls ∧ InR (lst T.ls) k l.least) ∧ Hid (HasT t T a w w' ((sb, snO (sn l)) :: L)) := by
  obtain ⟨F, h1⟩ := h.tree
  exact (tget_to hp h1).mono fun x w' ⟨sb, l, e1, e2, e3, e4, e5, e6⟩ => ⟨sb, l, e1, ⟨e5, e6⟩, h.more (treeI_res _ _ _) e4 (L' := [(sb, snO (sn l))]) (fun p hp => by rw [List.mem_singleton.1 hp]; exact ⟨e2, e3⟩)⟩
theorem HasT.scan {f to : ByteArray} {most : Nat} (h : HasT t T a w wr L) (h1 : 1 ≤ most) (h2 : most ≤ 4096) :
    Calls Try.prog 12 #[.pointer (some ⟨t, 0, none⟩), .string f, .string to, .int .i64 (most : Int)] wr fun x w' => ∃ vk vv vs told seen L', x = .returned (.tuple #[vk, vv, vs, .int .i64 0]) ∧ Hid (Scanned T.ls f to most told seen) ∧ Hid (Rows L' vk vv vs told seen) ∧ Hid (HasT t T a w w' (L' ++ L)) := by
  obtain ⟨F, g1⟩ := h.tree
  refine (tscan_any g1 h1 h2).mono fun x w' ⟨told, seen, vk, vv, vs, e1, e2, r1, r2, r3, _, _, e5⟩ => ?_
  obtain ⟨L1, p1, q1⟩ := ownsRow_rows r1
  obtain ⟨L2, p2, q2⟩ := ownsRow_rows r2
  obtain ⟨L3, p3, q3⟩ := ownsRow_rows r3
  refine ⟨vk, vv, vs, told, seen, L1 ++ (L2 ++ L3), e1, e2, fun u hu => ⟨?_, ?_, ?_⟩, h.more (treeI_res _ _ _) e5 (fun p hp => ?_)⟩
  · have := q1 u (fun p hp => hu p (by simp [hp]))
    rw [← keysOf_length, ← scells_flat] at this
    exact sliceAt_row (en := enS) (m := 1) (fun _ => rfl) this
  · have := q2 u (fun p hp => hu p (by simp [hp]))
    rw [← valsOf_length, ← icells_flat] at this
    exact sliceAt_row (en := enI) (m := 1) (fun _ => rfl) this
  · exact sliceAt_row (en := enSn) (m := 3) (fun _ => rfl) (q3 u (fun p hp => hu p (by simp [hp])))
  · rcases List.mem_append.1 hp with hp | hp
    · exact ⟨(p1 p hp).1, (p1 p hp).2.1⟩
    · rcases List.mem_append.1 hp with hp | hp
      · exact ⟨(p2 p hp).1, (p2 p hp).2.1⟩
      · exact ⟨(p3 p hp).1, (p3 p hp).2.1⟩

theorem HasT.scanI {f to : ByteArray} {most : Nat} {mm : Int} (hm : mm = (most : Int)) (h : HasT t T a w wr L) (h1 : 1 ≤ most) (h2 : most ≤ 4096) :
    Calls Try.prog 12 #[.pointer (some ⟨t, 0, none⟩), .string f, .string to, .int .i64 mm] wr fun x w' => ∃ vk vv vs told seen L', x = .returned (.tuple #[vk, vv, vs, .int .i64 0]) ∧ Hid (Scanned T.ls f to most told seen) ∧ Hid (Rows L' vk vv vs told seen) ∧ Hid (HasT t T a w w' (L' ++ L)) := by
  rw [hm]; exact h.scan h1 h2

/-- what a scan saw can be asked about -/
theorem sn_small (h : T.Ok a) (ha : a ≤ 50000) {l : Lf} (hl : l ∈ T.ls) : 0 ≤ (sn l).1 ∧ (sn l).1 < 1000000 := by
  have h1 := h.ok.made l hl
  have h2 := h.young.made
  constructor
  · show 0 ≤ l.num; omega
  · show l.num < 1000000; omega
theorem scanned_small {f to : ByteArray} {most : Nat} {told : List Kv} {seen : List Sn} (h : T.Ok a) (ha : a ≤ 50000) (hs : Scanned T.ls f to most told seen) : (∀ s ∈ seen, 0 ≤ s.1 ∧ s.1 < 1000000) ∧ seen.length ≤ 10000 := by
  refine ⟨fun s hs' => ?_, ?_⟩
  · obtain ⟨l, hl, rfl⟩ := hs.real s hs'
    exact sn_small h ha hl
  · have := hs.few
    have := allK_few h.ok h.few
    omega
end

end Go.Proofs.Ytoknebbkpkcomaa
