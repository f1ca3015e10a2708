/- Two objects of a law's own side by side; a scan's rows beside any objects; two trees. -/
import Derived.Test.YtoknebbkpkcomaaTStandO
namespace Go.Proofs.Ytoknebbkpkcomaa
open Go.RowKit

section
variable {I J : World → (Nat → Prop) → Prop} {w wr w' : World} {L : List (Nat × Obj)}

theorem Stand.callL (hJ : Res J) (h : Stand (Sep I J) w wr L) : ∃ A, I wr A ∧ ∀ w' I', Goes I' wr w' A → Stand (Sep I' J) w w' L := by
  obtain ⟨F, ⟨A, B, k1, k2, k3, k4, k5, k6⟩, h2, h3, h4, h5⟩ := h
  refine ⟨A, k1, fun w' I' hg => ?_⟩
  obtain ⟨A2, g1, g2, g3⟩ := hg
  refine ⟨fun i => A2 i ∨ B i, ⟨A2, B, g1, hJ.kept k2 g2 (fun i hi hA => k3 i hA hi), fun i hi hB => ?_, fun _ hi => Or.inl hi, fun _ hi => Or.inr hi, fun _ hi => hi⟩, fun i hi => ?_, fun p hp hF => ?_, fun p hp => ⟨(g2.block p.1 (lt_of (h4 p hp).1) (fun hA => h3 p hp (k4 _ hA))).trans (h4 p hp).1, (h4 p hp).2⟩, h5.trans ((g2.mono (fun i hi => h2 i (k4 i hi))).toBelow h5.size)⟩
  · rcases g3 i hi with h | h
    · exact k3 i h hB
    · have := hJ.lt k2 i hB; omega
  · rcases hi with hi | hi
    · rcases g3 i hi with h | h
      · exact h2 i (k4 i h)
      · exact Nat.le_trans h5.size h
    · exact h2 i (k5 i hi)
  · rcases hF with hF | hF
    · rcases g3 _ hF with h | h
      · exact h3 p hp (k4 _ h)
      · have := lt_of (h4 p hp).1; omega
    · exact h3 p hp (k5 _ hF)
theorem Stand.swap (h : Stand (Sep I J) w wr L) : Stand (Sep J I) w wr L := by
  obtain ⟨F, h1, h2⟩ := h
  exact ⟨F, h1.swap, h2⟩
theorem Stand.callR (hI : Res I) (h : Stand (Sep I J) w wr L) : ∃ A, J wr A ∧ ∀ w' J', Goes J' wr w' A → Stand (Sep I J') w w' L := by
  obtain ⟨A, h1, h2⟩ := Stand.callL hI h.swap
  exact ⟨A, h1, fun w' J' hg => (h2 w' J' hg).swap⟩
/-- a second object, made now -/
theorem Stand.also (R : Res I) (h : Stand I w wr L) {A : Nat → Prop} (h2 : J w' A) (h3 : ∀ i, A i → wr.heap.size ≤ i) (h4 : Below wr.heap.size wr w') : Stand (Sep I J) w w' L := by
  obtain ⟨F, x1, x2, x3, x4, x5⟩ := h
  refine ⟨fun i => F i ∨ A i, Sep.mk (R.kept (S := fun _ => False) x1 (Turn.ofBelow _ h4) (fun _ _ h => h)) h2 (fun i hi hA => ?_), fun i hi => ?_, fun p hp hF => ?_, fun p hp => ⟨(h4.block p.1 (lt_of (x4 p hp).1)).trans (x4 p hp).1, (x4 p hp).2⟩, x5.trans (h4.mono x5.size)⟩
  · have := R.lt x1 i hi
    have := h3 i hA
    omega
  · rcases hi with h | h
    · exact x2 i h
    · exact Nat.le_trans x5.size (h3 i h)
  · rcases hF with h | h
    · exact x3 p hp h
    · have := h3 _ h
      have := lt_of (x4 p hp).1
      omega
end

section
variable {t a s b : Nat} {T S : Tr} {w wr w' : World} {L : List (Nat × Obj)} {k : ByteArray} {F : Nat → Prop}

/-- a scan, and its rows -/
theorem scan_rows {f to : ByteArray} {most : Nat} {mm : Int} (hm : mm = (most : Int)) (g1 : TreeI t T a wr F) (h1 : 1 ≤ most) (h2 : most ≤ 4096) :
    Calls Try.prog 12 #[.pointer (some ⟨t, 0, none⟩), .string f, .string to, .int .i64 mm] wr fun x w' => ∃ vk vv vs told seen L', x = .returned (.tuple #[vk, vv, vs, .int .i64 0]) ∧ Hid (Scanned T.ls f to most told seen) ∧ Hid (Rows L' vk vv vs told seen) ∧ Hid (Below wr.heap.size wr w' ∧ ∀ p ∈ L', w'.heap[p.1]? = some p.2 ∧ wr.heap.size ≤ p.1) := by
  subst hm
  refine (tscan_any g1 h1 h2).mono fun x w' ⟨told, seen, vk, vv, vs, e1, e2, r1, r2, r3, _, _, e5⟩ => ?_
  obtain ⟨L1, p1, q1⟩ := ownsRow_rows r1
  obtain ⟨L2, p2, q2⟩ := ownsRow_rows r2
  obtain ⟨L3, p3, q3⟩ := ownsRow_rows r3
  refine ⟨vk, vv, vs, told, seen, L1 ++ (L2 ++ L3), e1, e2, fun u hu => ⟨?_, ?_, ?_⟩, e5, fun p hp => ?_⟩
  · exact row_strs (keysOf_length told).symm (q1 u (fun p hp => hu p (by simp [hp])))
  · exact row_ints (valsOf_length told).symm (q2 u (fun p hp => hu p (by simp [hp])))
  · exact sliceAt_row (en := enSn) (m := 3) (fun _ => rfl) (q3 u (fun p hp => hu p (by simp [hp])))
  · rcases List.mem_append.1 hp with hp | hp
    · exact ⟨(p1 p hp).1, (p1 p hp).2.1⟩
    · rcases List.mem_append.1 hp with hp | hp
      · exact ⟨(p2 p hp).1, (p2 p hp).2.1⟩
      · exact ⟨(p3 p hp).1, (p3 p hp).2.1⟩

abbrev TwoT (t : Nat) (T : Tr) (a : Nat) (s : Nat) (S : Tr) (b : Nat) (w wr : World) (L : List (Nat × Obj)) : Prop := Stand (Sep (TreeI t T a) (TreeI s S b)) w wr L
theorem twoT_res (t : Nat) (T : Tr) (a : Nat) (s : Nat) (S : Tr) (b : Nat) : Res (Sep (TreeI t T a) (TreeI s S b)) := Sep.res (treeI_res t T a) (treeI_res s S b)

theorem twoT_new (h : HasT t T a w wr L) : Calls Try.prog 9 #[] wr fun e w' => ∃ s S, e = .returned (.pointer (some ⟨s, 0, none⟩)) ∧ Hid (S.ks = [] ∧ TwoT t T a s S 0 w w' L) :=
  (tnew_any wr).mono fun _ _ ⟨s, q, g, _, h1, h2⟩ => ⟨s, Tr.new q g, h1, rfl, Stand.also (treeI_res _ _ _) h h2.out.1 h2.out.2.1 h2.out.2.2⟩
theorem TwoT.okL (h : TwoT t T a s S b w wr L) : T.Ok a := by obtain ⟨A, h1, _⟩ := Stand.callL (treeI_res _ _ _) h; exact h1.ok
theorem TwoT.okR (h : TwoT t T a s S b w wr L) : S.Ok b := by obtain ⟨A, h1, _⟩ := Stand.callR (treeI_res _ _ _) h; exact h1.ok
theorem TwoT.putL {v was e : Int} {there : Bool} {K' : List Kv} (h : TwoT t T a s S b w wr L) (hp : PutK T.ks k v K' was there e) (hv : Num v) (ha : a ≤ 50000) :
    Calls Try.prog 17 #[.pointer (some ⟨t, 0, none⟩), .string k, .int .i64 v] wr fun x w' => x = .returned (.tuple #[.int .i64 was, .bool there, .int .i64 e]) ∧ ∃ T', Hid (T'.ks = K' ∧ TwoT t T' (a + 2) s S b w w' L) := by
  obtain ⟨A, h1, h2⟩ := Stand.callL (treeI_res _ _ _) h
  exact (tput_to hp h1 hv ha).mono fun x w' ⟨e1, T', e2, _, e4⟩ => ⟨e1, T', e2, h2 w' _ e4⟩
theorem TwoT.putR {v was e : Int} {there : Bool} {K' : List Kv} (h : TwoT t T a s S b w wr L) (hp : PutK S.ks k v K' was there e) (hv : Num v) (ha : b ≤ 50000) :
    Calls Try.prog 17 #[.pointer (some ⟨s, 0, none⟩), .string k, .int .i64 v] wr fun x w' => x = .returned (.tuple #[.int .i64 was, .bool there, .int .i64 e]) ∧ ∃ S', Hid (S'.ks = K' ∧ TwoT t T a s S' (b + 2) w w' L) := by
  obtain ⟨A, h1, h2⟩ := Stand.callR (treeI_res _ _ _) h
  exact (tput_to hp h1 hv ha).mono fun x w' ⟨e1, T', e2, _, e4⟩ => ⟨e1, T', e2, h2 w' _ e4⟩
theorem TwoT.takeR {was e : Int} {K' : List Kv} (h : TwoT t T a s S b w wr L) (hp : TakeK S.ks k K' was e) (ha : b ≤ 50000) :
    Calls Try.prog 19 #[.pointer (some ⟨s, 0, none⟩), .string k] wr fun x w' => x = .returned (.tuple #[.int .i64 was, .int .i64 e]) ∧ ∃ S', Hid (S'.ks = K' ∧ TwoT t T a s S' (b + 2) w w' L) := by
  obtain ⟨A, h1, h2⟩ := Stand.callR (treeI_res _ _ _) h
  exact (ttake_to hp h1 ha).mono fun x w' ⟨e1, T', e2, _, e4⟩ => ⟨e1, T', e2, h2 w' _ e4⟩
theorem TwoT.lenL (h : TwoT t T a s S b w wr L) : Calls Try.prog 11 #[.pointer (some ⟨t, 0, none⟩)] wr fun x w' => x = .returned (.int .i64 (T.ks.length : Int)) ∧ w' = wr := by
  obtain ⟨A, ⟨b, m, c, h1, _⟩, _⟩ := Stand.callL (treeI_res _ _ _) h
  exact len_any h1
theorem TwoT.lenR (h : TwoT t T a s S b w wr L) : Calls Try.prog 11 #[.pointer (some ⟨s, 0, none⟩)] wr fun x w' => x = .returned (.int .i64 (S.ks.length : Int)) ∧ w' = wr := by
  obtain ⟨A, ⟨b, m, c, h1, _⟩, _⟩ := Stand.callR (treeI_res _ _ _) h
  exact len_any h1
theorem TwoT.scanL {f to : ByteArray} {most : Nat} {mm : Int} (hm : mm = (most : Int)) (h : TwoT t T a s S b w wr L) (h1 : 1 ≤ most) (h2 : most ≤ 4096) :
    Calls Try.prog 12 #[.pointer (some ⟨t, 0, none⟩), .string f, .string to, .int .i64 mm] wr fun x w' => ∃ vk vv vs told seen L', x = .returned (.tuple #[vk, vv, vs, .int .i64 0]) ∧ Hid (Scanned T.ls f to most told seen) ∧ Hid (Rows L' vk vv vs told seen) ∧ Hid (TwoT t T a s S b w w' (L' ++ L)) := by
  obtain ⟨A, g1, _⟩ := Stand.callL (treeI_res _ _ _) h
  exact (scan_rows hm g1 h1 h2).mono fun x w' ⟨vk, vv, vs, told, seen, L', e1, e2, e3, e4⟩ => ⟨vk, vv, vs, told, seen, L', e1, e2, e3, Stand.more (twoT_res _ _ _ _ _ _) h e4.out.1 e4.out.2⟩
theorem TwoT.scanR {f to : ByteArray} {most : Nat} {mm : Int} (hm : mm = (most : Int)) (h : TwoT t T a s S b w wr L) (h1 : 1 ≤ most) (h2 : most ≤ 4096) :
    Calls Try.prog 12 #[.pointer (some ⟨s, 0, none⟩), .string f, .string to, .int .i64 mm] wr fun x w' => ∃ vk vv vs told seen L', x = .returned (.tuple #[vk, vv, vs, .int .i64 0]) ∧ Hid (Scanned S.ls f to most told seen) ∧ Hid (Rows L' vk vv vs told seen) ∧ Hid (TwoT t T a s S b w w' (L' ++ L)) := by
  obtain ⟨A, g1, _⟩ := Stand.callR (treeI_res _ _ _) h
  exact (scan_rows hm g1 h1 h2).mono fun x w' ⟨vk, vv, vs, told, seen, L', e1, e2, e3, e4⟩ => ⟨vk, vv, vs, told, seen, L', e1, e2, e3, Stand.more (twoT_res _ _ _ _ _ _) h e4.out.1 e4.out.2⟩
end

end Go.Proofs.Ytoknebbkpkcomaa
